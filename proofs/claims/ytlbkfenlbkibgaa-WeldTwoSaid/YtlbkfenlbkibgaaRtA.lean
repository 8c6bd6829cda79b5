/- Walk: find. -/
import Derived.Test.YtlbkfenlbkibgaaRound
import Derived.RangeFuncFrom
set_option linter.unusedVariables false
namespace Go.Proofs.Ytlbkfenlbkibgaa.Sm
open Go.RowKit Go.Shelf Mem
attribute [local go_sem] Oper.semAt_some
structure FS (w : World) (pos side : Int) (p : Pl) (v : Int) (W : World) : Prop where
 below : Below w.heap.size w W
 h0 : W.heap[w.heap.size]? = some (.cells #[.int .i64 pos] 3 (0, 0))
 h1 : W.heap[w.heap.size + 1]? = some (.cells #[.int .i64 side] 3 (0, 0))
 h2 : W.heap[w.heap.size + 1 + 1]? = some (.cells #[.int .i64 p.pos, .bool p.gone, .bool p.inside, .int .i64 p.rng, .int .i64 p.off] 90 (0, 0))
 h3 : W.heap[w.heap.size + 1 + 1 + 1]? = some (.cells #[.int .i64 v] 3 (0, 0))
section
variable {w W W' : World} {pos side v : Int} {p : Pl}
theorem FS.size (h : FS w pos side p v W) : w.heap.size + 1 + 1 + 1 + 1 ≤ W.heap.size := by have := lt_some h.h3; omega
theorem FS.grown (h : FS w pos side p v W) {row : Option Nat} (hg : W.grownBy W' row) (hr : ∀ r, row = some r → w.heap.size + 1 + 1 + 1 + 1 ≤ r) : FS w pos side p v W' := by
 have hne : ∀ k, k < w.heap.size + 1 + 1 + 1 + 1 → some k ≠ row := fun k hk e => by have := hr k e.symm; omega
 have hs := h.size
 refine ⟨h.below.grown hg h.below.size (fun k e => by have := hr k e; omega), ?_, ?_, ?_, ?_⟩
 ·rw [hg.block _ (by omega) (hne _ (by omega))]; exact h.h0
 ·rw [hg.block _ (by omega) (hne _ (by omega))]; exact h.h1
 ·rw [hg.block _ (by omega) (hne _ (by omega))]; exact h.h2
 ·rw [hg.block _ (by omega) (hne _ (by omega))]; exact h.h3
theorem FS.step (h : FS w pos side p v W) (hb : Below W.heap.size W W') : FS w pos side p v W' := h.grown (grown_none hb) (fun r e => by cases e)
theorem FS.cells (h : FS w pos side p v W) : W.cell? ⟨w.heap.size, 0, none⟩ = some (.int .i64 pos) ∧ W.cell? ⟨w.heap.size + 1, 0, none⟩ = some (.int .i64 side) ∧ W.cell? ⟨w.heap.size + 1 + 1 + 1, 0, none⟩ = some (.int .i64 v) ∧ W.frozen? ⟨w.heap.size + 1 + 1 + 1, 0, none⟩ = false := by
 refine ⟨?_, ?_, ?_, ?_⟩
 ·simp [World.cell?, h.h0]
 ·simp [World.cell?, h.h1]
 ·simp [World.cell?, h.h3]
 ·simp [World.frozen?, h.h3]
theorem FS.put (h : FS w pos side p v W) (q : Pl) : FS w pos side q v (put5 W (w.heap.size + 1 + 1) (.int .i64 q.pos) (.bool q.gone) (.bool q.inside) (.int .i64 q.rng) (.int .i64 q.off)) := by
 refine ⟨put5_below h.below (by omega) _ _ _ _ _, ?_, ?_, ?_, ?_⟩
 ·rw [put5_other _ _ _ _ _ _ _ _ (by omega)]; exact h.h0
 ·rw [put5_other _ _ _ _ _ _ _ _ (by omega)]; exact h.h1
 ·exact put5_same h.h2 _ _ _ _ _
 ·rw [put5_other _ _ _ _ _ _ _ _ (by omega)]; exact h.h3
theorem FS.made (w : World) (pos side : Int) (v : Value) : FS w pos side ⟨0, false, false, 0, 0⟩ 0 (((((w.alloc (.cells #[.int .i64 pos] 3)).alloc (.cells #[.int .i64 side] 3)).alloc (.cells #[.int .i64 0, .bool false, .bool false, .int .i64 0, .int .i64 0] 90)).alloc (.cells #[.int .i64 0] 3)).alloc (.cells #[v] 39)) ∧
  Boxed (((((w.alloc (.cells #[.int .i64 pos] 3)).alloc (.cells #[.int .i64 side] 3)).alloc (.cells #[.int .i64 0, .bool false, .bool false, .int .i64 0, .int .i64 0] 90)).alloc (.cells #[.int .i64 0] 3)).alloc (.cells #[v] 39)) (w.heap.size + 1 + 1 + 1 + 1) 39 v := by
 obtain ⟨o0, e0⟩ : ∃ o, o = Obj.cells #[.int .i64 pos] 3 := ⟨_, rfl⟩
 obtain ⟨o1, e1⟩ : ∃ o, o = Obj.cells #[.int .i64 side] 3 := ⟨_, rfl⟩
 obtain ⟨o2, e2⟩ : ∃ o, o = Obj.cells #[.int .i64 0, .bool false, .bool false, .int .i64 0, .int .i64 0] 90 := ⟨_, rfl⟩
 obtain ⟨o3, e3⟩ : ∃ o, o = Obj.cells #[.int .i64 0] 3 := ⟨_, rfl⟩
 obtain ⟨o4, e4⟩ : ∃ o, o = Obj.cells #[v] 39 := ⟨_, rfl⟩
 rw [← e0, ← e1, ← e2, ← e3, ← e4]
 have n1 := heap_alloc_new (w.alloc o0) o1
 have n2 := heap_alloc_new ((w.alloc o0).alloc o1) o2
 have n3 := heap_alloc_new (((w.alloc o0).alloc o1).alloc o2) o3
 have n4 := heap_alloc_new ((((w.alloc o0).alloc o1).alloc o2).alloc o3) o4
 simp only [World.size_alloc] at n1 n2 n3 n4
 refine ⟨⟨(((((Below.refl _ _).alloc (Nat.le_refl _) _).alloc (by simp only [World.size_alloc]; omega) _).alloc (by simp only [World.size_alloc]; omega) _).alloc (by simp only [World.size_alloc]; omega) _).alloc (by simp only [World.size_alloc]; omega) _, ?_, ?_, ?_, ?_⟩, ?_⟩
 ·rw [Below.heap_alloc _ _ _ (by simp only [World.size_alloc]; omega), Below.heap_alloc _ _ _ (by simp only [World.size_alloc]; omega), Below.heap_alloc _ _ _ (by simp only [World.size_alloc]; omega), Below.heap_alloc _ _ _ (by simp only [World.size_alloc]; omega), heap_alloc_new, e0]
 ·rw [Below.heap_alloc _ _ _ (by simp only [World.size_alloc]; omega), Below.heap_alloc _ _ _ (by simp only [World.size_alloc]; omega), Below.heap_alloc _ _ _ (by simp only [World.size_alloc]; omega), n1, e1]
 ·rw [Below.heap_alloc _ _ _ (by simp only [World.size_alloc]; omega), Below.heap_alloc _ _ _ (by simp only [World.size_alloc]; omega), n2, e2]
 ·rw [Below.heap_alloc _ _ _ (by simp only [World.size_alloc]; omega), n3, e3]
 ·unfold Boxed; rw [n4, e4]
end
theorem ten2 {h : Nat} {W : World} {x0 x1 x2 x3 x4 : Value} {t : TypeId} (e : W.heap[h]? = some (.cells #[x0, x1, x2, x3, x4] t (0, 0))) : W.cell? ⟨h, 0, none⟩ = some x0 ∧ W.cell? ⟨h, 1, none⟩ = some x1 ∧ W.cell? ⟨h, 2, none⟩ = some x2 ∧ W.cell? ⟨h, 3, none⟩ = some x3 ∧ W.cell? ⟨h, 4, none⟩ = some x4 ∧
  W.frozen? ⟨h, 0, none⟩ = false ∧ W.frozen? ⟨h, 1, none⟩ = false ∧ W.frozen? ⟨h, 2, none⟩ = false ∧ W.frozen? ⟨h, 3, none⟩ = false ∧ W.frozen? ⟨h, 4, none⟩ = false := by
 refine ⟨?_, ?_, ?_, ?_, ?_, ?_, ?_, ?_, ?_, ?_⟩
 all_goals first | (simp [World.cell?, e]; done) | (simp [World.frozen?, e]; done) | (simp [World.frozen?, e]; omega)
def Lead {m : Nat} (pre : List (Ix m)) : Prop := pre.map (·.1) = List.range pre.length
theorem Lead.of {m : Nat} {pre : List (Ix m)} {k : Nat} (h : pre.map (·.1) = List.range k) : Lead pre ∧ pre.length = k := by
 have hl : pre.length = k := by have := congrArg List.length h; simpa using this
 exact ⟨by unfold Lead; rw [hl]; exact h, hl⟩
end Go.Proofs.Ytlbkfenlbkibgaa.Sm
namespace Go.Proofs.Ytlbkfenlbkibgaa.Sm
open Go.RowKit Mem
theorem RLow.lift {n₀ k : Nat} {W : World} {A : Option Addr} {m : Nat} {l : List Rg} (h : RLow n₀ W A m l) (hk : n₀ ≤ k) : RLow k W A m l :=
 ⟨h.1, fun hn => by
  obtain ⟨b, off, e, hl, hc⟩ := h.2 hn
  exact ⟨b, off, e, by omega, hc⟩⟩
def mayB (pos : Int) : Bool := decide (0 ≤ pos) && decide (pos ≤ 1099511627776)
theorem mayB_iff (pos : Int) : mayB pos = true ↔ 0 ≤ pos ∧ pos ≤ 1099511627776 := by unfold mayB; simp
noncomputable def tellE (l : List Rg) (pos : Int) : Int := if rightB l = true then (if mayB pos = true then 0 else 3) else 1
noncomputable def tellW (l : List Rg) (pos side : Int) : Pl := if rightB l = true ∧ mayB pos = true then tell l pos side else ⟨0, false, false, 0, 0⟩
end Go.Proofs.Ytlbkfenlbkibgaa.Sm
namespace Go.Proofs.Ytlbkfenlbkibgaa.Sm
open Go.RowKit Go.Shelf Mem
attribute [local go_sem] Oper.semAt_some
structure VS (w : World) (at_ off n : Int) (ok : Bool) (W : World) : Prop where
 below : Below w.heap.size w W
 h0 : W.heap[w.heap.size]? = some (.cells #[.int .i64 at_] 3 (0, 0))
 h1 : W.heap[w.heap.size + 1]? = some (.cells #[.int .i64 off] 3 (0, 0))
 h2 : W.heap[w.heap.size + 1 + 1]? = some (.cells #[.int .i64 n] 3 (0, 0))
 h3 : W.heap[w.heap.size + 1 + 1 + 1]? = some (.cells #[.bool ok] 4 (0, 0))
section
variable {w W W' : World} {at_ off n : Int} {ok : Bool}
theorem VS.size (h : VS w at_ off n ok W) : w.heap.size + 1 + 1 + 1 + 1 ≤ W.heap.size := by have := lt_some h.h3; omega
theorem VS.grown (h : VS w at_ off n ok W) {row : Option Nat} (hg : W.grownBy W' row) (hr : ∀ r, row = some r → w.heap.size + 1 + 1 + 1 + 1 ≤ r) : VS w at_ off n ok W' := by
 have hne : ∀ k, k < w.heap.size + 1 + 1 + 1 + 1 → some k ≠ row := fun k hk e => by have := hr k e.symm; omega
 have hs := h.size
 refine ⟨h.below.grown hg h.below.size (fun k e => by have := hr k e; omega), ?_, ?_, ?_, ?_⟩
 ·rw [hg.block _ (by omega) (hne _ (by omega))]; exact h.h0
 ·rw [hg.block _ (by omega) (hne _ (by omega))]; exact h.h1
 ·rw [hg.block _ (by omega) (hne _ (by omega))]; exact h.h2
 ·rw [hg.block _ (by omega) (hne _ (by omega))]; exact h.h3
theorem VS.step (h : VS w at_ off n ok W) (hb : Below W.heap.size W W') : VS w at_ off n ok W' := h.grown (grown_none hb) (fun r e => by cases e)
theorem VS.cells (h : VS w at_ off n ok W) : W.cell? ⟨w.heap.size, 0, none⟩ = some (.int .i64 at_) ∧ W.cell? ⟨w.heap.size + 1, 0, none⟩ = some (.int .i64 off) ∧ W.cell? ⟨w.heap.size + 1 + 1, 0, none⟩ = some (.int .i64 n) ∧ W.cell? ⟨w.heap.size + 1 + 1 + 1, 0, none⟩ = some (.bool ok) ∧ W.frozen? ⟨w.heap.size + 1 + 1, 0, none⟩ = false ∧ W.frozen? ⟨w.heap.size + 1 + 1 + 1, 0, none⟩ = false := by
 refine ⟨?_, ?_, ?_, ?_, ?_, ?_⟩
 ·simp [World.cell?, h.h0]
 ·simp [World.cell?, h.h1]
 ·simp [World.cell?, h.h2]
 ·simp [World.cell?, h.h3]
 ·simp [World.frozen?, h.h2]
 ·simp [World.frozen?, h.h3]
theorem VS.new (w : World) (at_ off : Int) : VS w at_ off 0 false ((((w.alloc (.cells #[.int .i64 at_] 3)).alloc (.cells #[.int .i64 off] 3)).alloc (.cells #[.int .i64 0] 3)).alloc (.cells #[.bool false] 4)) := by
 obtain ⟨o0, e0⟩ : ∃ o, o = Obj.cells #[.int .i64 at_] 3 := ⟨_, rfl⟩
 obtain ⟨o1, e1⟩ : ∃ o, o = Obj.cells #[.int .i64 off] 3 := ⟨_, rfl⟩
 obtain ⟨o2, e2⟩ : ∃ o, o = Obj.cells #[.int .i64 0] 3 := ⟨_, rfl⟩
 obtain ⟨o3, e3⟩ : ∃ o, o = Obj.cells #[.bool false] 4 := ⟨_, rfl⟩
 rw [← e0, ← e1, ← e2, ← e3]
 have n1 := heap_alloc_new (w.alloc o0) o1
 have n2 := heap_alloc_new ((w.alloc o0).alloc o1) o2
 have n3 := heap_alloc_new (((w.alloc o0).alloc o1).alloc o2) o3
 simp only [World.size_alloc] at n1 n2 n3
 refine ⟨((((Below.refl _ _).alloc (Nat.le_refl _) _).alloc (by simp only [World.size_alloc]; omega) _).alloc (by simp only [World.size_alloc]; omega) _).alloc (by simp only [World.size_alloc]; omega) _, ?_, ?_, ?_, ?_⟩
 ·rw [Below.heap_alloc _ _ _ (by simp only [World.size_alloc]; omega), Below.heap_alloc _ _ _ (by simp only [World.size_alloc]; omega), Below.heap_alloc _ _ _ (by simp only [World.size_alloc]; omega), heap_alloc_new, e0]
 ·rw [Below.heap_alloc _ _ _ (by simp only [World.size_alloc]; omega), Below.heap_alloc _ _ _ (by simp only [World.size_alloc]; omega), n1, e1]
 ·rw [Below.heap_alloc _ _ _ (by simp only [World.size_alloc]; omega), n2, e2]
 ·rw [n3, e3]
end
def recOk (l : List Rg) (at_ off : Int) : Prop := rightB l = true ∧ ∃ k : Nat, k < l.length ∧ (k : Int) = at_ ∧ 0 ≤ off ∧ off ≤ (rg l k).new
noncomputable def recB (l : List Rg) (at_ off : Int) : Bool := @decide (recOk l at_ off) (Classical.propDecidable _)
noncomputable def recN (l : List Rg) (at_ off : Int) : Int := if recB l at_ off = true then (rg l at_.toNat).at_ + sh l at_.toNat + off else 0
theorem recB_yes {l : List Rg} {at_ off : Int} (h : recOk l at_ off) : recB l at_ off = true := @decide_eq_true _ (Classical.propDecidable _) h
theorem recB_no {l : List Rg} {at_ off : Int} (h : ¬ recOk l at_ off) : recB l at_ off = false := @decide_eq_false _ (Classical.propDecidable _) h
theorem recN_yes {l : List Rg} {off : Int} {k : Nat} (h : recOk l k off) : recN l k off = (rg l k).at_ + sh l k + off := by unfold recN; rw [recB_yes h]; simp
end Go.Proofs.Ytlbkfenlbkibgaa.Sm
namespace Go.Proofs.Ytlbkfenlbkibgaa.Sm
open Go.RowKit Go.Shelf Mem
end Go.Proofs.Ytlbkfenlbkibgaa.Sm
namespace Go.Proofs.Ytlbkfenlbkibgaa.Rt
open Go.RowKit Mem Sm
theorem in_slice (d : Nat) (t e : TypeId) (h : Try.prog.underlying t = some (.slice e)) (A : Option Addr) (n c : Nat) (W : World) : (Op.equalIn (d + 1) t (.slice A n c) (.slice none 0 0)).run Try.prog W = .ok A.isNone W := by
 cases A <;> simp [Op.equalIn, run_underlying h]
theorem eql_slice (t e : TypeId) (h : Try.prog.underlying t = some (.slice e)) (A : Option Addr) (n c : Nat) (W : World) : (binOp .eql t (.slice A n c) (.slice none 0 0)).run Try.prog W = .ok (.bool A.isNone) W := by
 simp only [binOp]
 simp [Op.equal, Op.maxDepth, in_slice 9999 t e h]
end Go.Proofs.Ytlbkfenlbkibgaa.Rt
