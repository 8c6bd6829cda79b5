/- Walks of queue: Len, Less, Swap of the line. -/
import Derived.Test.YtlnljgfppipceabQuMem
import Derived.RegionTactic
import Derived.BigRegion
import Derived.BigQuiet
import Derived.Deep.QuietTactic
import Derived.Outline
import Derived.Lib.Hide
namespace Go.Proofs.Ytlnljgfppipceab.Qu
open Go.RowKit Mem
set_option linter.unusedVariables false

theorem ret_bool {a b : Bool} (h : a = b) : Ending.returned (.bool a) = .returned (.bool b) := by rw [h]
theorem ret_int {k : IntKind} {a b : Int} (h : a = b) : Ending.returned (.int k a) = .returned (.int k b) := by rw [h]

set_option maxRecDepth 100000 in
theorem less_at (g n c i j : Nat) (a b : It) (w : World) (hi : i < n) (hj : j < n) (hn : n ≤ 1000)
    (a0 : w.cell? ⟨g, i * 3, none⟩ = some (.int .i64 a.key)) (a1 : w.cell? ⟨g, i * 3 + 1, none⟩ = some (.int .i64 a.turn))
    (b0 : w.cell? ⟨g, j * 3, none⟩ = some (.int .i64 b.key)) (b1 : w.cell? ⟨g, j * 3 + 1, none⟩ = some (.int .i64 b.turn)) :
    Calls Try.prog 40 #[.slice (some ⟨g, 0, none⟩) n c, .int .i64 i, .int .i64 j] w fun e w' => e = .returned (.bool (ltB a b)) ∧ ∃ m, w' = w.drewN m := by
  have i1 : (0 : Int) ≤ (i : Int) := by omega
  have i2 : (i : Int) < (n : Int) := by omega
  have j1 : (0 : Int) ≤ (j : Int) := by omega
  have j2 : (j : Int) < (n : Int) := by omega
  by_cases hk : a.key = b.key
  · have d : (a.key != b.key) = false := by simpa using hk
    have HK := Lib.hid hk
    clear hk
    go_enter Try.func40, Try.ntmps40
    go_wp2
    go_quiet (fail)
    go_wp2
    go_quiet (fail)
    go_wp2
    go_ret
    exact ⟨ret_bool (by unfold ltB; rw [if_pos HK.out]), _, World.drewN_drewN _ _ _⟩
  · have d : (a.key != b.key) = true := by simpa using hk
    have HK := Lib.hid hk
    clear hk
    go_enter Try.func40, Try.ntmps40
    go_wp2
    go_quiet (fail)
    go_wp2
    go_quiet (fail)
    go_wp2
    go_ret
    exact ⟨ret_bool (by unfold ltB; rw [if_neg HK.out]), _, World.drewN_drewN _ _ _⟩
theorem less_any {base : Nat} {v : Value} {h : List It} (i j : Nat) (w : World) (hl : Line base w v h) (hi : i < h.length) (hj : j < h.length) (hn : h.length ≤ 1000) :
    Calls Try.prog 40 #[v, .int .i64 i, .int .i64 j] w fun e w' => e = .returned (.bool (ltB (at_ h i) (at_ h j))) ∧ ∃ m, w' = w.drewN m := by
  obtain ⟨g, cap, rfl, _, _, _, _, _, hc⟩ := hl.opn (by omega)
  exact less_at g _ cap i j _ _ w hi hj hn (hc i hi).1 (hc i hi).2.1 (hc j hj).1 (hc j hj).2.1

theorem len_any {base : Nat} {v : Value} {h : List It} (w : World) (hl : Line base w v h) :
    Calls Try.prog 39 #[v] w fun e w' => e = .returned (.int .i64 h.length) ∧ w = w' := by
  rcases Nat.eq_zero_or_pos h.length with h0 | hp
  · rcases hl.2 with ⟨hv, _⟩ | ⟨g, cap, cur, hv, _⟩
    · subst hv
      rw [h0]
      go_enter Try.func39, Try.ntmps39
      go_wp2
      go_ret
      exact ⟨rfl, rfl⟩
    · subst hv
      obtain ⟨n, hn⟩ : ∃ n, n = h.length := ⟨_, rfl⟩
      rw [← hn]
      clear hl h0 hn
      go_enter Try.func39, Try.ntmps39
      go_wp2
      go_ret
      exact ⟨rfl, rfl⟩
  · obtain ⟨g, cap, rfl, _⟩ := hl.opn hp
    obtain ⟨n, hn⟩ : ∃ n, n = h.length := ⟨_, rfl⟩
    rw [← hn]
    clear hl hp hn
    go_enter Try.func39, Try.ntmps39
    go_wp2
    go_ret
    exact ⟨rfl, rfl⟩

set_option maxRecDepth 100000 in
set_option maxHeartbeats 1000000 in
theorem swap_ne (g n c i j : Nat) (a b : It) (w : World) (hi : i < n) (hj : j < n) (hne : i ≠ j) (hn : n ≤ 1000) (hf : ∀ k, w.frozen? ⟨g, k, none⟩ = false)
    (a0 : w.cell? ⟨g, i * 3, none⟩ = some (.int .i64 a.key)) (a1 : w.cell? ⟨g, i * 3 + 1, none⟩ = some (.int .i64 a.turn)) (a2 : w.cell? ⟨g, i * 3 + 2, none⟩ = some (.int .i64 a.thing))
    (b0 : w.cell? ⟨g, j * 3, none⟩ = some (.int .i64 b.key)) (b1 : w.cell? ⟨g, j * 3 + 1, none⟩ = some (.int .i64 b.turn)) (b2 : w.cell? ⟨g, j * 3 + 2, none⟩ = some (.int .i64 b.thing)) :
    Calls Try.prog 41 #[.slice (some ⟨g, 0, none⟩) n c, .int .i64 i, .int .i64 j] w fun e w' => (∃ u, e = .returned u) ∧
      w' = ((((((w.setCell ⟨g, i * 3, none⟩ (.int .i64 b.key)).setCell ⟨g, i * 3 + 1, none⟩ (.int .i64 b.turn)).setCell ⟨g, i * 3 + 2, none⟩ (.int .i64 b.thing)).setCell ⟨g, j * 3, none⟩ (.int .i64 a.key)).setCell ⟨g, j * 3 + 1, none⟩ (.int .i64 a.turn)).setCell ⟨g, j * 3 + 2, none⟩ (.int .i64 a.thing)).drew := by
  have i1 : (0 : Int) ≤ (i : Int) := by omega
  have i2 : (i : Int) < (n : Int) := by omega
  have j1 : (0 : Int) ≤ (j : Int) := by omega
  have j2 : (j : Int) < (n : Int) := by omega
  have f0 := hf (i * 3); have f1 := hf (i * 3 + 1); have f2 := hf (i * 3 + 2)
  have g0 := hf (j * 3); have g1 := hf (j * 3 + 1); have g2 := hf (j * 3 + 2)
  have n1 : ¬ j = i := by omega
  have n2 : ¬ j * 3 = i * 3 + 1 := by omega
  have n3 : ¬ j * 3 = i * 3 + 2 := by omega
  have n4 : ¬ j * 3 + 1 = i * 3 := by omega
  have n5 : ¬ j * 3 + 1 = i * 3 + 2 := by omega
  have n6 : ¬ j * 3 + 2 = i * 3 := by omega
  have n7 : ¬ j * 3 + 2 = i * 3 + 1 := by omega
  clear hf hne
  go_enter Try.func41, Try.ntmps41
  go_wp2
  go_region
  all_goals
    go_wp2
    go_end0
    exact ⟨⟨_, rfl⟩, rfl⟩
set_option maxRecDepth 100000 in
set_option maxHeartbeats 1000000 in
theorem swap_eq (g n c i : Nat) (a : It) (w : World) (hi : i < n) (hn : n ≤ 1000) (hf : ∀ k, w.frozen? ⟨g, k, none⟩ = false)
    (a0 : w.cell? ⟨g, i * 3, none⟩ = some (.int .i64 a.key)) (a1 : w.cell? ⟨g, i * 3 + 1, none⟩ = some (.int .i64 a.turn)) (a2 : w.cell? ⟨g, i * 3 + 2, none⟩ = some (.int .i64 a.thing)) :
    Calls Try.prog 41 #[.slice (some ⟨g, 0, none⟩) n c, .int .i64 i, .int .i64 i] w fun e w' => (∃ u, e = .returned u) ∧
      w' = ((((((w.setCell ⟨g, i * 3, none⟩ (.int .i64 a.key)).setCell ⟨g, i * 3 + 1, none⟩ (.int .i64 a.turn)).setCell ⟨g, i * 3 + 2, none⟩ (.int .i64 a.thing)).setCell ⟨g, i * 3, none⟩ (.int .i64 a.key)).setCell ⟨g, i * 3 + 1, none⟩ (.int .i64 a.turn)).setCell ⟨g, i * 3 + 2, none⟩ (.int .i64 a.thing)).drew := by
  have i1 : (0 : Int) ≤ (i : Int) := by omega
  have i2 : (i : Int) < (n : Int) := by omega
  have f0 := hf (i * 3); have f1 := hf (i * 3 + 1); have f2 := hf (i * 3 + 2)
  clear hf
  go_enter Try.func41, Try.ntmps41
  go_wp2
  go_region
  all_goals
    go_wp2
    go_end0
    exact ⟨⟨_, rfl⟩, rfl⟩
theorem only_set {a w : World} {g : Nat} (h : a.grownBy w (some g)) (k : Nat) (u : Value) : a.grownBy (w.setCell ⟨g, k, none⟩ u) (some g) :=
  ⟨h.os, h.tape, h.output, Nat.le_trans h.size (by simp), fun i hi hne => (Below.heap_setCell w ⟨g, k, none⟩ u i (fun e => hne (by simp [e]))).trans (h.block i hi hne)⟩
/-- what a swap leaves -/
theorem swap_any {base : Nat} {v : Value} {h : List It} (i j : Nat) (w : World) (hl : Line base w v h) (hi : i < h.length) (hj : j < h.length) (hn : h.length ≤ 1000) :
    Calls Try.prog 41 #[v, .int .i64 i, .int .i64 j] w fun e w' => (∃ u, e = .returned u) ∧ Line base w' v (swap h i j) ∧ w.grownBy w' v.ownBlock := by
  obtain ⟨g, cap, rfl, _, _, _, _, hf, hc⟩ := hl.opn (by omega)
  have grow : ∀ (u0 u1 u2 u3 u4 u5 : Value), w.grownBy ((((((w.setCell ⟨g, i * 3, none⟩ u0).setCell ⟨g, i * 3 + 1, none⟩ u1).setCell ⟨g, i * 3 + 2, none⟩ u2).setCell ⟨g, j * 3, none⟩ u3).setCell ⟨g, j * 3 + 1, none⟩ u4).setCell ⟨g, j * 3 + 2, none⟩ u5) (some g) := by
    intro u0 u1 u2 u3 u4 u5
    exact only_set (only_set (only_set (only_set (only_set (only_set (World.grownBy.refl w _) _ _) _ _) _ _) _ _) _ _) _ _
  have l1 := Line.store rfl hl i (at_ h j)
  have l2 := Line.store (by simp) l1 j (at_ h i)
  by_cases e : i = j
  · subst e
    refine (swap_eq g _ cap i (at_ h i) w hi hn hf (hc i hi).1 (hc i hi).2.1 (hc i hi).2.2).mono fun e w' ⟨he, hw⟩ => ⟨he, ?_, ?_⟩
    · rw [hw]; exact l2.drew
    · rw [hw]; exact only_drew (grow _ _ _ _ _ _)
  · refine (swap_ne g _ cap i j (at_ h i) (at_ h j) w hi hj e hn hf (hc i hi).1 (hc i hi).2.1 (hc i hi).2.2 (hc j hj).1 (hc j hj).2.1 (hc j hj).2.2).mono fun e w' ⟨he, hw⟩ => ⟨he, ?_, ?_⟩
    · rw [hw]; exact l2.drew
    · rw [hw]; exact only_drew (grow _ _ _ _ _ _)
end Go.Proofs.Ytlnljgfppipceab.Qu
