/- Walks of queue: Push of the line. -/
import Derived.Test.YtlnljgfppipceabQuC
import Derived.Deep.AppendLies
import Derived.Deep.RegionLaw
namespace Go.Proofs.Ytlnljgfppipceab.Qu
open Go.RowKit Mem
set_option linter.unusedVariables false

theorem info_item : (Try.prog.info? 53).map (fun i => (i.zero, i.size, i.bytes)) = some (some (.agg #[.int .i64 0, .int .i64 0, .int .i64 0]), 3, 24) := by kernel_rfl

/-- what the queue's calls leave alone: all that lay below base, and all blocks but its own one and rows of items -/
structure QFrame (base qb : Nat) (W W' : World) : Prop where
  os : W'.os = W.os
  tape : W'.tape = W.tape
  output : W'.output = W.output
  size : W.heap.size ≤ W'.heap.size
  low : ∀ k, k < base → k < W.heap.size → W'.heap[k]? = W.heap[k]?
  other : ∀ (k : Nat) (o : Obj), W.heap[k]? = some o → k ≠ qb → (∀ cs fr, o ≠ .cells cs 53 fr) → W'.heap[k]? = some o
section
variable {base qb : Nat} {W W' W'' : World} {v : Value} {h : List It}
theorem lt_of_some {o : Obj} {k : Nat} (h : W.heap[k]? = some o) : k < W.heap.size := (Array.getElem?_eq_some_iff.1 h).1
theorem QFrame.refl : QFrame base qb W W := ⟨rfl, rfl, rfl, Nat.le_refl _, fun _ _ _ => rfl, fun _ _ h _ _ => h⟩
theorem QFrame.trans (a : QFrame base qb W W') (b : QFrame base qb W' W'') : QFrame base qb W W'' :=
  ⟨b.os.trans a.os, b.tape.trans a.tape, b.output.trans a.output, Nat.le_trans a.size b.size, fun k hk hs => (b.low k hk (Nat.lt_of_lt_of_le hs a.size)).trans (a.low k hk hs), fun k o h1 h2 h3 => b.other k o (a.other k o h1 h2 h3) h2 h3⟩
theorem QFrame.drew (a : QFrame base qb W W') : QFrame base qb W W'.drew := ⟨a.os, a.tape, a.output, a.size, a.low, a.other⟩
theorem QFrame.drewN (a : QFrame base qb W W') (m : Nat) : QFrame base qb W (W'.drewN m) := ⟨a.os, a.tape, a.output, a.size, a.low, a.other⟩
theorem QFrame.of_below (b : Below W.heap.size W W') : QFrame base qb W W' := ⟨b.os, b.tape, b.output, b.size, fun k _ hs => b.block k hs, fun k o h1 _ _ => (b.block k (lt_of_some h1)).trans h1⟩
theorem QFrame.alloc (o : Obj) : QFrame base qb W (W.alloc o) := QFrame.of_below ((Below.refl _ W).alloc (Nat.le_refl _) o)
theorem QFrame.of_grown (l : Line base W v h) (g : W.grownBy W' v.ownBlock) : QFrame base qb W W' := by
  refine ⟨g.os, g.tape, g.output, g.size, fun k hk hs => g.block k hs fun e => ?_, fun k o h1 _ h3 => (g.block k (lt_of_some h1) fun e => ?_).trans h1⟩
  · have := (World.ownsRow.lt l k e.symm).1; omega
  · rcases l.2 with ⟨hv, _⟩ | ⟨g', cap, cur, hv, _, hg, _⟩
    · subst hv; cases e
    · subst hv
      simp only [Value.ownBlock, Option.some.injEq] at e
      subst e
      rw [hg] at h1
      exact h3 _ _ (Option.some.inj h1).symm
theorem QFrame.setOwn (hb : base ≤ qb) (j : Nat) (u : Value) : QFrame base qb W (W.setCell ⟨qb, j, none⟩ u) :=
  ⟨rfl, rfl, rfl, by simp, fun k hk _ => Below.heap_setCell W ⟨qb, j, none⟩ u k (by simp; omega), fun k o h1 h2 _ => (Below.heap_setCell W ⟨qb, j, none⟩ u k h2).trans h1⟩
theorem QFrame.below (a : QFrame base qb W W') {B : Nat} (hB : B ≤ base) (hs : base ≤ W.heap.size) : Below B W W' := ⟨a.os, a.tape, a.output, a.size, fun k hk => a.low k (by omega) (by omega)⟩
theorem QBox.set0 {p : Int} (q : QBox W qb v p) (u : Value) : QBox (W.setCell ⟨qb, 0, none⟩ u) qb u p := by
  unfold QBox at q ⊢
  simp [World.setCell, Array.getElem?_modify, q]
theorem QBox.set1 {p : Int} (q : QBox W qb v p) (p' : Int) : QBox (W.setCell ⟨qb, 1, none⟩ (.int .i64 p')) qb v p' := by
  unfold QBox at q ⊢
  simp [World.setCell, Array.getElem?_modify, q]
theorem QBox.alloc {p : Int} (q : QBox W qb v p) (o : Obj) : QBox (W.alloc o) qb v p := (Below.heap_alloc W o qb q.lt).trans q
end

theorem assert_item (a b c : Int) (w : World) : (Instr.typeAssert (.iface 53 (.agg #[.int .i64 a, .int .i64 b, .int .i64 c])) 20 53 true).run Try.prog w = .ok (.tuple #[.agg #[.int .i64 a, .int .i64 b, .int .i64 c], .bool true]) w := by kernel_rfl

set_option maxRecDepth 100000 in
set_option maxHeartbeats 2000000 in
theorem push_any {base : Nat} (qb : Nat) (v : Value) (puts : Int) (h : List It) (a : It) (w : World) (hq : QBox w qb v puts) (hl : Line base w v h) (hb : base ≤ qb) (hne : some qb ≠ v.ownBlock) (hn : h.length ≤ 1000) :
    Calls Try.prog 43 #[.pointer (some ⟨qb, 0, none⟩), .iface 53 (.agg #[.int .i64 a.key, .int .i64 a.turn, .int .i64 a.thing])] w fun e w' => (∃ u, e = .returned u) ∧
      ∃ v', QBox w' qb v' puts ∧ Line base w' v' (h ++ [a]) ∧ some qb ≠ v'.ownBlock ∧ QFrame base qb w w' := by
  obtain ⟨i0, hi, hz, hs1, hs2⟩ := info_parts info_item
  have hc := hq.c0
  have hf := hq.free 0
  have hqs := hq.lt
  have HQ := Lib.hid hq
  have HL := Lib.hid hl
  have HNE := Lib.hid hne
  have hbase : base ≤ w.heap.size := by omega
  have ho := ((hl.alloc (.cells #[.int .i64 a.key, .int .i64 a.turn, .int .i64 a.thing] 53)).drew.alloc (.cells #[.int .i64 a.key, .int .i64 a.turn, .int .i64 a.thing] 53))
  have HO := Lib.hid ho
  have hnews := World.news_of_block (heap_alloc_new ((w.alloc (.cells #[.int .i64 a.key, .int .i64 a.turn, .int .i64 a.thing] 53)).drew) (.cells #[.int .i64 a.key, .int .i64 a.turn, .int .i64 a.thing] 53))
  have HN := Lib.hid hnews
  clear hq hl hne ho hnews
  go_enter Try.func43, Try.ntmps43
  have ha := assert_item a.key a.turn a.thing
  go_wp2
  go_region_law (refine step_append_lies _ (by rfl) (.tmp 15) (.tmp 17) 30 (by rfl) base 53 i0 (.agg #[.int .i64 0, .int .i64 0, .int .i64 0]) 3 24 Try.underlying30 hi hz hs1 hs2 rfl (by omega) v h.length (cells3 h) (by simp [Act.eval]) HO.out _ 1 1 (cells1 a) (by simp [Act.eval]) rfl HN.out (by simp [cells1, Value.oneCell']) (by omega) (by unfold maxLen; omega) (by omega) (by simp; omega) _ rfl ?_; intro gg cap w1 hown1 hgrow hat hlt; have hq1 := Lib.hid (((HQ.out.alloc (.cells #[.int .i64 a.key, .int .i64 a.turn, .int .i64 a.thing] 53)).drew.alloc (.cells #[.int .i64 a.key, .int .i64 a.turn, .int .i64 a.thing] 53)).kept hgrow HNE.out); have hc1 := hq1.out.c0; have hf1 := hq1.out.free 0)
  all_goals
    have hgq : qb ≠ gg := by
      rcases hat with e | e
      · intro e2; exact HNE.out (by rw [e, e2])
      · have : (((w.alloc (.cells #[.int .i64 a.key, .int .i64 a.turn, .int .i64 a.thing] 53)).drew.alloc (.cells #[.int .i64 a.key, .int .i64 a.turn, .int .i64 a.thing] 53)).drew).heap.size = w.heap.size + 1 + 1 := by simp
        simp at e; omega
    have hl1 : Line base w1 (.slice (some ⟨gg, 0, none⟩) (h.length + 1) cap) (h ++ [a]) := by
      unfold Line
      rw [cells3_append, List.length_append]
      exact hown1
    have hF : QFrame base qb w w1 := ((QFrame.alloc _).drew.trans (QFrame.alloc _)).trans (QFrame.of_grown (h := h) HO.out hgrow)
    have HQ1 := Lib.hid (hq1.out.set0 (.slice (some ⟨gg, 0, none⟩) (h.length + 1) cap))
    have HL1 := Lib.hid (hl1.other (b := qb) (by simp [Value.ownBlock]; omega) 0 (.slice (some ⟨gg, 0, none⟩) (h.length + 1) cap))
    have HF1 := Lib.hid (hF.trans (QFrame.setOwn hb 0 (.slice (some ⟨gg, 0, none⟩) (h.length + 1) cap)))
    clear hl1 hF hown1 hgrow hc1 hf1
    go_wp2
    go_end0
    exact ⟨⟨_, rfl⟩, _, HQ1.out, HL1.out, by simp [Value.ownBlock]; omega, HF1.out⟩
end Go.Proofs.Ytlnljgfppipceab.Qu
