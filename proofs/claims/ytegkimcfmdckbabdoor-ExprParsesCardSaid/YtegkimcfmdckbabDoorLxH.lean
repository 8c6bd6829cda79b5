/- Walks of the lexer: what catches its giving up; the whole. -/
import Derived.Test.YtegkimcfmdckbabDoorLxG
import Derived.Tactics
import Derived.Tactics2
import Derived.Defers
import Derived.Recover
import Derived.RegionTactic
import Derived.BigRegion
import Derived.Outline
namespace Go.Proofs.YtegkimcfmdckbabDoor.Lx
open Go.RowKit Mem
set_option linter.unusedVariables false

theorem assert_fault (a c : Int) (w : World) : (Instr.typeAssert (.iface 77 (.agg #[.int .i64 a, .int .i64 c])) 20 77 true).run Tryd.prog w = .ok (.tuple #[.agg #[.int .i64 a, .int .i64 c], .bool true]) w := by kernel_rfl
theorem assert_none (w : World) : (Instr.typeAssert .nilIface 20 77 true).run Tryd.prog w = .ok (.tuple #[.agg #[.int .i64 0, .int .i64 0], .bool false]) w := by kernel_rfl

theorem boxed_other {W : World} {B B' : Nat} {t : TypeId} {v : Value} (h : Boxed W B t v) (hne : ¬ B = B') (u : Value) : Boxed (W.setCell ⟨B', 0, none⟩ u) B t v :=
  h.kept (grownBy_setCell' W B' u) (by simpa using hne)
theorem below_drew1 {B : Nat} {a w : World} (h : Below B a w) : Below B a w.drew := ⟨h.os, h.tape, h.output, h.size, h.block⟩
set_option maxRecDepth 100000 in
set_option maxHeartbeats 1000000 in
theorem catch_idle (l a e : Nat) (w : World) :
    CallsD Tryd.prog 37 #[.pointer (some ⟨l, 0, none⟩), .pointer (some ⟨a, 0, none⟩), .pointer (some ⟨e, 0, none⟩)] .returning w fun en u' w' => en = .returned (.tuple #[]) ∧ u' = .returning ∧ ∃ o, w' = w.alloc o := by
  refine callsD_of_wpS Tryd.func37 rfl fun c₀ cs hu => ?_
  simp only [Tryd.ntmps37, List.size_toArray, List.length_cons, List.length_nil, Nat.reduceAdd, Nat.reduceSub, Array.replicate_succ, Array.replicate_zero, List.push_toArray, List.append_toArray, List.nil_append, List.cons_append]
  apply wpS_seq
  apply wpS_region
  simp [wpOpsS, go_sem, recoverD, hu, Exit.thenS, assert_none]
  apply wpS_seq
  apply wpS_region
  simp [wpOpsS, go_sem, Exit.thenS]
  refine wpS_cond (t := false) (by simp [Act.eval]) ?_
  simp only [Bool.false_eq_true, if_false]
  refine wpS_of_wp (wp_skip ?_)
  refine ⟨rfl, .returning, ?_, .tuple #[], ?_, rfl, rfl, _, rfl⟩
  · cases c₀; simp_all
  · simp [results, Tryd.results37]
set_option maxRecDepth 100000 in
set_option maxHeartbeats 1000000 in
theorem catch_fault {v1 v2 v3 : Value} (l a e : Nat) (p c : Int) (older : List PanicEntry) (w : World) (hl : Boxed w l 47 v1) (ha : Boxed w a 3 v2) (he : Boxed w e 25 v3) (hd : l ≠ a ∧ l ≠ e ∧ a ≠ e) :
    CallsD Tryd.prog 37 #[.pointer (some ⟨l, 0, none⟩), .pointer (some ⟨a, 0, none⟩), .pointer (some ⟨e, 0, none⟩)] (.panicking ({ v := .iface 77 (.agg #[.int .i64 p, .int .i64 c]), recovered := false } :: older)) w fun en u' w' =>
      en = .returned (.tuple #[]) ∧ u' = .panicking ({ v := .iface 77 (.agg #[.int .i64 p, .int .i64 c]), recovered := true } :: older) ∧ Boxed w' l 47 (.slice none 0 0) ∧ Boxed w' a 3 (.int .i64 p) ∧ Boxed w' e 25 (.int .i64 c) ∧ ∀ B, B ≤ l → B ≤ a → B ≤ e → Below B w w' := by
  refine callsD_of_wpS Tryd.func37 rfl fun c₀ cs hu => ?_
  simp only [Tryd.ntmps37, List.size_toArray, List.length_cons, List.length_nil, Nat.reduceAdd, Nat.reduceSub, Array.replicate_succ, Array.replicate_zero, List.push_toArray, List.append_toArray, List.nil_append, List.cons_append]
  apply wpS_seq
  apply wpS_region
  simp [wpOpsS, go_sem, recoverD, hu, Exit.thenS, assert_fault]
  apply wpS_seq
  apply wpS_region
  simp [wpOpsS, go_sem, Exit.thenS]
  refine wpS_cond (t := true) (by simp [Act.eval]) ?_
  simp only [if_true]
  refine wpS_of_wp ?_
  obtain ⟨f, hf⟩ : ∃ f, f = w.heap.size := ⟨_, rfl⟩
  obtain ⟨W1, hW⟩ : ∃ W1, W1 = w.alloc (.cells #[.int .i64 p, .int .i64 c] 77) := ⟨_, rfl⟩
  have hfb : W1.heap[f]? = some (.cells #[.int .i64 p, .int .i64 c] 77 (0, 0)) := by rw [hW, hf]; exact World.alloc_heap_new w _
  have hl1 : Boxed W1 l 47 v1 := by rw [hW]; exact hl.alloc _
  have ha1 : Boxed W1 a 3 v2 := by rw [hW]; exact ha.alloc _
  have he1 : Boxed W1 e 25 v3 := by rw [hW]; exact he.alloc _
  have hb1 : ∀ B, B ≤ l → Below B w W1 := fun B hB => by rw [hW]; exact (Below.refl _ _).alloc (by have := hl.lt; omega) _
  rw [← hf, ← hW]
  have n1 : ¬ l = f := by have := hl.lt; omega
  have n2 : ¬ a = f := by have := ha.lt; omega
  have n3 : ¬ e = f := by have := he.lt; omega
  have n1' : ¬ f = l := fun h => n1 h.symm
  have n2' : ¬ f = a := fun h => n2 h.symm
  have n3' : ¬ f = e := fun h => n3 h.symm
  obtain ⟨d1, d2, d3⟩ := hd
  have d1' : ¬ a = l := fun h => d1 h.symm
  have d2' : ¬ e = l := fun h => d2 h.symm
  have d3' : ¬ e = a := fun h => d3 h.symm
  have k0 : W1.cell? ⟨f, 0, none⟩ = some (.int .i64 p) := by simp [World.cell?, hfb]
  have k1 : W1.cell? ⟨f, 1, none⟩ = some (.int .i64 c) := by simp [World.cell?, hfb]
  have cl := hl1.cell
  have ca := ha1.cell
  have ce := he1.cell
  have fl := hl1.frozen
  have fa := ha1.frozen
  have fe := he1.frozen
  have HL := Lib.hid hl1
  have HA := Lib.hid ha1
  have HE := Lib.hid he1
  have HB := hide hb1
  have HU := Lib.hid hu
  clear hu hl1 ha1 he1 hb1 hfb hW hf hl ha he
  go_region
  have HL2 := boxed_other (boxed_other (Boxed.set (.slice none 0 0) HL.out) d1 (.int .i64 p)) d2 (.int .i64 c)
  have HA2 := boxed_other (Boxed.set (.int .i64 p) (boxed_other HA.out d1' (.slice none 0 0))) d3 (.int .i64 c)
  have HE2 := Boxed.set (.int .i64 c) (boxed_other (boxed_other HE.out d2' (.slice none 0 0)) d3' (.int .i64 p))
  refine ⟨rfl, .panicking ({ v := .iface 77 (.agg #[.int .i64 p, .int .i64 c]), recovered := true } :: older), rfl, .tuple #[], by simp [results, Tryd.results37], rfl, rfl, HL2, HA2, HE2, fun B b1 b2 b3 => ?_⟩
  exact below_drew1 ((((HB.out B b1).setCell b1 _).setCell b2 _).setCell b3 _)
end Go.Proofs.YtegkimcfmdckbabDoor.Lx
