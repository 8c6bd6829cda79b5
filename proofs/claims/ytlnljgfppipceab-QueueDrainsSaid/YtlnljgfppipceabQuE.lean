/- Walks of queue: Pop of the line. -/
import Derived.Test.YtlnljgfppipceabQuD
namespace Go.Proofs.Ytlnljgfppipceab.Qu
open Go.RowKit Mem
set_option linter.unusedVariables false

theorem zero_item (w : World) : (zeroValue 53).run Try.prog w = .ok (.agg #[.int .i64 0, .int .i64 0, .int .i64 0]) w := by kernel_rfl
theorem clear_one (g o c : Nat) (w : World) (x y z : Value) (h0 : w.cell? ⟨g, o, none⟩ = some x) (h1 : w.cell? ⟨g, o + 1, none⟩ = some y) (h2 : w.cell? ⟨g, o + 2, none⟩ = some z)
    (f0 : w.frozen? ⟨g, o, none⟩ = false) (f1 : w.frozen? ⟨g, o + 1, none⟩ = false) (f2 : w.frozen? ⟨g, o + 2, none⟩ = false) :
    (Builtin.clear_ #[30] 0 #[.slice (some ⟨g, o, none⟩) 1 c]).run Try.prog w = .ok (.tuple #[]) (((w.setCell ⟨g, o, none⟩ (.int .i64 0)).setCell ⟨g, o + 1, none⟩ (.int .i64 0)).setCell ⟨g, o + 2, none⟩ (.int .i64 0)) := by
  unfold Builtin.clear_
  have hz : (Builtin.zeroCells #[Value.int .i64 0, .int .i64 0, .int .i64 0] 1).toList = [Value.int .i64 0, .int .i64 0, .int .i64 0] := by kernel_rfl
  simp [run_underlying Try.underlying30, hz, storeCells, go_sem, h0, h1, h2, f0, f1, f2]

set_option maxRecDepth 100000 in
set_option maxHeartbeats 2000000 in
theorem pop_at (g cap n qb : Nat) (puts : Int) (a : It) (w : World) (hn : n ≤ 1000) (hnc : n + 1 ≤ cap) (hcm : cap ≤ maxLen) (hq : QBox w qb (.slice (some ⟨g, 0, none⟩) (n + 1) cap) puts) (hgq : ¬ qb = g) (hg : g < w.heap.size)
    (hf : ∀ j, w.frozen? ⟨g, j, none⟩ = false) (a0 : w.cell? ⟨g, n * 3, none⟩ = some (.int .i64 a.key)) (a1 : w.cell? ⟨g, n * 3 + 1, none⟩ = some (.int .i64 a.turn)) (a2 : w.cell? ⟨g, n * 3 + 2, none⟩ = some (.int .i64 a.thing)) :
    Calls Try.prog 42 #[.pointer (some ⟨qb, 0, none⟩)] w fun e w' => e = .returned (.iface 53 (.agg #[.int .i64 a.key, .int .i64 a.turn, .int .i64 a.thing])) ∧
      w' = ((((w.setCell ⟨g, n * 3, none⟩ (.int .i64 0)).setCell ⟨g, n * 3 + 1, none⟩ (.int .i64 0)).setCell ⟨g, n * 3 + 2, none⟩ (.int .i64 0)).setCell ⟨qb, 0, none⟩ (.slice (some ⟨g, 0, none⟩) n cap)).alloc (.cells #[.int .i64 a.key, .int .i64 a.turn, .int .i64 a.thing] 53) := by
  unfold maxLen at hcm
  have hc := hq.c0
  have hf0 := hq.free 0
  have f0 := hf (n * 3); have f1 := hf (n * 3 + 1); have f2 := hf (n * 3 + 2)
  have hqs := hq.lt
  have i1 : (0 : Int) ≤ (n : Int) := by omega
  have i2 : (n : Int) < (n : Int) + 1 := by omega
  have hclr := clear_one g (n * 3) (cap - n) (w.alloc (.cells #[.int .i64 a.key, .int .i64 a.turn, .int .i64 a.thing] 53)) _ _ _ ((World.cell?_alloc_lt w _ ⟨g, n * 3, none⟩ hg).trans a0) ((World.cell?_alloc_lt w _ ⟨g, n * 3 + 1, none⟩ hg).trans a1) ((World.cell?_alloc_lt w _ ⟨g, n * 3 + 2, none⟩ hg).trans a2)
    ((((Below.refl w.heap.size w).alloc (Nat.le_refl _) _).frozen (p := ⟨g, n * 3, none⟩) hg).trans f0) ((((Below.refl w.heap.size w).alloc (Nat.le_refl _) _).frozen (p := ⟨g, n * 3 + 1, none⟩) hg).trans f1) ((((Below.refl w.heap.size w).alloc (Nat.le_refl _) _).frozen (p := ⟨g, n * 3 + 2, none⟩) hg).trans f2)
  clear hq hf
  go_enter Try.func42, Try.ntmps42
  go_wp2
  go_ret
  exact ⟨rfl, rfl⟩
/-- what Pop hands back, and leaves -/
theorem pop_any {base : Nat} (qb : Nat) (v : Value) (puts : Int) (h : List It) (n : Nat) (w : World) (hq : QBox w qb v puts) (hl : Line base w v h) (hb : base ≤ qb) (hne : some qb ≠ v.ownBlock) (hh : h.length = n + 1) (hn : n ≤ 1000) :
    Calls Try.prog 42 #[.pointer (some ⟨qb, 0, none⟩)] w fun e w' => e = .returned (.iface 53 (.agg #[.int .i64 (at_ h n).key, .int .i64 (at_ h n).turn, .int .i64 (at_ h n).thing])) ∧
      ∃ v', QBox w' qb v' puts ∧ Line base w' v' (h.take n) ∧ some qb ≠ v'.ownBlock ∧ QFrame base qb w w' := by
  obtain ⟨g, cap, rfl, hbg, hg, hnc, hcm, hf, hc⟩ := hl.opn (by omega)
  rw [hh] at hq hl hnc
  have hgq : ¬ qb = g := fun e => hne (by simp [Value.ownBlock, e])
  obtain ⟨a0, a1, a2⟩ := hc n (by omega)
  refine (pop_at g cap n qb puts (at_ h n) w hn hnc hcm hq hgq hg hf a0 a1 a2).mono fun e w' ⟨he, hw⟩ => ⟨he, .slice (some ⟨g, 0, none⟩) n cap, ?_, ?_, ?_, ?_⟩
  · rw [hw]
    refine QBox.alloc (QBox.set0 (v := .slice (some ⟨g, 0, none⟩) (n + 1) cap) ?_ _) _
    unfold QBox
    rw [Below.heap_setCell _ _ _ _ hgq, Below.heap_setCell _ _ _ _ hgq, Below.heap_setCell _ _ _ _ hgq]
    exact hq
  · rw [hw]
    have l1 := Line.store hh.symm hl n ⟨0, 0, 0⟩
    have l2 := Line.shrink (by simp [hh]) l1 n (by omega)
    have e : (h.set n ⟨0, 0, 0⟩).take n = h.take n := by rw [List.take_set]; exact List.set_eq_of_length_le (by simp; omega)
    rw [e] at l2
    exact World.ownsRow.alloc (l2.other (by simp [Value.ownBlock]; omega) 0 _) _
  · simp [Value.ownBlock]; omega
  · rw [hw]
    have g1 := only_set (only_set (only_set (World.grownBy.refl w (some g)) (n * 3) (.int .i64 0)) (n * 3 + 1) (.int .i64 0)) (n * 3 + 2) (.int .i64 0)
    exact ((QFrame.of_grown hl g1).trans (QFrame.setOwn hb 0 _)).trans (QFrame.alloc _)
end Go.Proofs.Ytlnljgfppipceab.Qu
