/- Walks of route: the maps and the mirrors that RouteBack lays; plain. -/
import Derived.Test.YtnffgomgfabapaaRtI
namespace Go.Proofs.Ytnffgomgfabapaa.Rt
open Go.RowKit Mem Sm
set_option linter.unusedVariables false

/-- the mirrors of the last j maps of n -/
def mirN (n : Nat) : Nat → List (Int × Int)
  | 0 => []
  | j + 1 => mirN n j ++ [(((n - 1 - j : Nat) : Int), ((n + j : Nat) : Int))] ++ [(((n + j : Nat) : Int), ((n - 1 - j : Nat) : Int))]
theorem lk_append (l m : List (Int × Int)) (a : Int) : lk (l ++ m) a = (lk l a).or (lk m a) := by
  induction l with
  | nil => simp [lk]
  | cons q r ih =>
    simp only [List.cons_append, lk, ih]
    split <;> simp
theorem lk_mirN (n : Nat) : ∀ (j i : Nat), j ≤ n → lk (mirN n j) i = if n - j ≤ i ∧ i < n + j then some ((2 * n - 1 - i : Nat) : Int) else none
  | 0, i, _ => by
    simp only [mirN, lk]
    rw [if_neg (by omega)]
  | j + 1, i, h => by
    simp only [mirN, lk_append, lk_mirN n j i (by omega), lk]
    by_cases h1 : n - j ≤ i ∧ i < n + j
    · have hG : n - (j + 1) ≤ i ∧ i < n + (j + 1) := by omega
      rw [if_pos h1, if_pos hG]; rfl
    · rw [if_neg h1]
      by_cases h2 : i = n - 1 - j
      · have hG : n - (j + 1) ≤ i ∧ i < n + (j + 1) := by omega
        rw [if_pos hG, if_pos (by rw [h2] : ((n - 1 - j : Nat) : Int) = (i : Nat))]
        simp only [Option.none_or, Option.some_or]
        congr 2
        omega
      · have e2 : ¬ ((n - 1 - j : Nat) : Int) = (i : Nat) := by omega
        rw [if_neg e2]
        by_cases h3 : i = n + j
        · have hG : n - (j + 1) ≤ i ∧ i < n + (j + 1) := by omega
          rw [if_pos hG, if_pos (by rw [h3] : ((n + j : Nat) : Int) = (i : Nat))]
          simp only [Option.none_or]
          congr 2
          omega
        · have hG : ¬ (n - (j + 1) ≤ i ∧ i < n + (j + 1)) := by omega
          have e3 : ¬ ((n + j : Nat) : Int) = (i : Nat) := by omega
          rw [if_neg hG, if_neg e3]; rfl
theorem mirN_bound (n : Nat) : ∀ j, j ≤ n → ∀ q ∈ mirN n j, 0 ≤ q.1 ∧ q.1 < n + j ∧ 0 ≤ q.2 ∧ q.2 < n + j
  | 0, _, q, h => by simp [mirN] at h
  | j + 1, hj, q, h => by
    simp only [mirN, List.mem_append, List.mem_singleton] at h
    rcases h with (h | rfl) | rfl
    · have := mirN_bound n j (by omega) q h
      omega
    · simp only; omega
    · simp only; omega
/-- the maps, and the inverses of the last j -/
def mapN (K : List (List Rg)) (j : Nat) : List (List Rg) := K ++ (K.reverse.take j).map inv
theorem mapN_length (K : List (List Rg)) {j : Nat} (h : j ≤ K.length) : (mapN K j).length = K.length + j := by
  simp [mapN, Nat.min_eq_left h]
theorem mapN_step (K : List (List Rg)) {j : Nat} (h : j < K.length) : mapN K (j + 1) = mapN K j ++ [inv (K.getD (K.length - 1 - j) [])] := by
  have hr : K.reverse[j]? = some (K.getD (K.length - 1 - j) []) := by
    rw [List.getElem?_reverse h]
    simp [List.getD, show K.length - 1 - j < K.length by omega]
  simp only [mapN, List.take_add_one, hr, List.map_append, List.append_assoc]
  simp
theorem bk_of (K : List (List Rg)) : Bk K.length (mapN K K.length) (mirN K.length K.length) := by
  refine ⟨by rw [mapN_length K (Nat.le_refl _)]; omega, fun k hk => ?_, fun i hi => ?_⟩
  · have h1 : (mapN K K.length).getD k [] = K.getD k [] := by
      simp [mapN, List.getD, List.getElem?_append_left hk]
    rw [h1]
    have h2 : (mapN K K.length)[2 * K.length - 1 - k]? = some (inv (K.getD k [])) := by
      rw [mapN, List.getElem?_append_right (by omega), List.getElem?_map, List.getElem?_take_of_lt (by omega), List.getElem?_reverse (by omega)]
      rw [show K.length - 1 - (2 * K.length - 1 - k - K.length) = k by omega]
      simp [List.getD, hk]
    rw [List.getD, h2]
    rfl
  · rw [lk_mirN _ _ _ (Nat.le_refl _), if_pos (by omega)]
end Go.Proofs.Ytnffgomgfabapaa.Rt
