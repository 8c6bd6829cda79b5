/- Diffs, plain: how many can be kept of two rows (by a table), and how far one comes with so many that differ; nothing of the program. -/
import Derived.Test.YtgodphfkhmahnaaOwn
namespace Go.Proofs.Ytgodphfkhmahnaa.Df
set_option linter.unusedVariables false

/-- how many can be kept of the first i of one row and the first k of another one, of which E tells what is the same -/
def lc (E : Nat → Nat → Bool) : Nat → Nat → Nat
  | 0, _ => 0
  | _ + 1, 0 => 0
  | i + 1, k + 1 => max (max (lc E i (k + 1)) (lc E (i + 1) k)) (if E i k = true then lc E i k + 1 else 0)
termination_by i k => i + k
section
variable {E : Nat → Nat → Bool}
theorem lc_zero (k : Nat) : lc E 0 k = 0 := by rw [lc]
theorem lc_nil (i : Nat) : lc E i 0 = 0 := by cases i <;> rw [lc]
theorem lc_step (i k : Nat) : lc E (i + 1) (k + 1) = max (max (lc E i (k + 1)) (lc E (i + 1) k)) (if E i k = true then lc E i k + 1 else 0) := by rw [lc]
theorem lc_up (i k : Nat) : lc E i k ≤ lc E (i + 1) k := by
  cases k with
  | zero => rw [lc_nil, lc_nil]; exact Nat.le_refl _
  | succ k => rw [lc_step]; omega
theorem lc_on (i k : Nat) : lc E i k ≤ lc E i (k + 1) := by
  cases i with
  | zero => rw [lc_zero, lc_zero]; exact Nat.le_refl _
  | succ i => rw [lc_step]; omega
theorem lc_up1 (i : Nat) : ∀ k, lc E (i + 1) k ≤ lc E i k + 1
  | 0 => by rw [lc_nil]; omega
  | k + 1 => by
    have h1 := lc_up1 i k
    have h2 := lc_on (E := E) i k
    rw [lc_step]
    split <;> omega
theorem lc_on1 : ∀ i k, lc E i (k + 1) ≤ lc E i k + 1
  | 0, k => by rw [lc_zero]; omega
  | i + 1, k => by
    have h1 := lc_on1 i k
    have h2 := lc_up (E := E) i k
    rw [lc_step]
    split <;> omega
theorem lc_both (i k : Nat) : lc E (i + 1) (k + 1) ≤ lc E i k + 1 := by
  have h1 := lc_on1 (E := E) i k
  have h2 := lc_up1 (E := E) i k
  rw [lc_step]
  split <;> omega
theorem lc_same {i k : Nat} (h : E i k = true) : lc E (i + 1) (k + 1) = lc E i k + 1 := by
  have h1 := lc_both (E := E) i k
  rw [lc_step, if_pos h] at h1 ⊢
  omega
theorem lc_le : ∀ i k, lc E i k ≤ i ∧ lc E i k ≤ k
  | 0, k => by rw [lc_zero]; omega
  | i + 1, 0 => by rw [lc_nil]; omega
  | i + 1, k + 1 => by
    have h := lc_le i k
    have h1 := lc_both (E := E) i k
    omega
/-- one comes there with at most d that differ -/
def R (E : Nat → Nat → Bool) (d x y : Nat) : Prop := x + y ≤ d + 2 * lc E x y
theorem R.back {d x y : Nat} (h : R E d (x + 1) (y + 1)) : R E d x y := by
  have := lc_both (E := E) x y
  unfold R at *; omega
theorem R.backs {d x y : Nat} : ∀ j, R E d (x + j) (y + j) → R E d x y
  | 0, h => h
  | j + 1, h => R.backs j (R.back h)
theorem R.slide {d x y : Nat} (h : R E d x y) (he : E x y = true) : R E d (x + 1) (y + 1) := by
  have := lc_same he
  unfold R at *; omega
theorem R.a {d x y : Nat} (h : R E d x y) : R E (d + 1) (x + 1) y := by
  have := lc_up (E := E) x y
  unfold R at *; omega
theorem R.b {d x y : Nat} (h : R E d x y) : R E (d + 1) x (y + 1) := by
  have := lc_on (E := E) x y
  unfold R at *; omega
theorem R.near {d x y : Nat} (h : R E d x y) : x ≤ y + d ∧ y ≤ x + d := by
  have := lc_le (E := E) x y
  unfold R at *; omega
theorem R.stop {d x y : Nat} (h : R E d (x + 1) (y + 1)) (he : E x y = false) : 1 ≤ d ∧ (R E (d - 1) x (y + 1) ∨ R E (d - 1) (x + 1) y) := by
  have h1 := lc_step (E := E) x y
  rw [if_neg (by rw [he]; decide)] at h1
  have h2 := lc_le (E := E) x (y + 1)
  have h3 := lc_le (E := E) (x + 1) y
  unfold R at *
  omega
/-- the farthest point with d that differ, at of them the first row's -/
structure Top (E : Nat → Nat → Bool) (d at_ x y : Nat) : Prop where
  diag : x + d = y + 2 * at_
  comes : R E d x y
  stops : E x y = false
  most : ∀ x' y', x' + d = y' + 2 * at_ → R E d x' y' → x' ≤ x
/-- it is the farthest, if the farther ones ahead of it aren't farther -/
theorem Top.of {d at_ x y : Nat} (hd : x + d = y + 2 * at_) (hc : R E d x y) (hs : E x y = false)
    (hb : 1 ≤ d → 1 ≤ at_ → ∀ x' y', x' + (d - 1) = y' + 2 * (at_ - 1) → R E (d - 1) x' y' → x' + 1 ≤ x)
    (ha : 1 ≤ d → at_ ≤ d - 1 → ∀ x' y', x' + (d - 1) = y' + 2 * at_ → R E (d - 1) x' y' → x' ≤ x) : Top E d at_ x y := by
  refine ⟨hd, hc, hs, fun x' y' h1 h2 => ?_⟩
  rcases Nat.lt_or_ge x x' with hlt | hge
  · exfalso
    obtain ⟨j, hj⟩ : ∃ j, x' = (x + 1) + j := ⟨x' - (x + 1), by omega⟩
    have hy : y' = (y + 1) + j := by omega
    subst hj; subst hy
    obtain ⟨h3, h4⟩ := (R.backs j h2).stop hs
    rcases h4 with h4 | h4
    · have hn := h4.near
      have := hb h3 (by omega) x (y + 1) (by omega) h4
      omega
    · have hn := h4.near
      have := ha h3 (by omega) (x + 1) y (by omega) h4
      omega
  · exact hge
theorem Top.zero {x : Nat} (hc : R E 0 x x) (hs : E x x = false) : Top E 0 0 x x :=
  Top.of (by omega) hc hs (fun h => absurd h (by omega)) (fun h => absurd h (by omega))
theorem Top.next {d at_ x y : Nat} (hd : x + (d + 1) = y + 2 * at_) (hc : R E (d + 1) x y) (hs : E x y = false)
    (hb : ∀ x1 y1, 1 ≤ at_ → Top E d (at_ - 1) x1 y1 → x1 + 1 ≤ x) (ha : ∀ x2 y2, at_ ≤ d → Top E d at_ x2 y2 → x2 ≤ x)
    (eb : 1 ≤ at_ → ∃ x1 y1, Top E d (at_ - 1) x1 y1) (ea : at_ ≤ d → ∃ x2 y2, Top E d at_ x2 y2) : Top E (d + 1) at_ x y := by
  refine Top.of hd hc hs (fun _ h1 x' y' h2 h3 => ?_) (fun _ h1 x' y' h2 h3 => ?_)
  · obtain ⟨x1, y1, ht⟩ := eb h1
    have := ht.most x' y' (by simpa using h2) (by simpa using h3)
    have := hb x1 y1 h1 ht
    omega
  · obtain ⟨x2, y2, ht⟩ := ea (by omega)
    have := ht.most x' y' (by simpa using h2) (by simpa using h3)
    have := ha x2 y2 (by omega) ht
    omega
/-- as far as tokens are the same -/
def sl (E : Nat → Nat → Bool) : Nat → Nat → Nat → Nat
  | 0, _, _ => 0
  | f + 1, x, y => if E x y = true then sl E f (x + 1) (y + 1) + 1 else 0
theorem sl_comes : ∀ (f x y d : Nat), R E d x y → R E d (x + sl E f x y) (y + sl E f x y)
  | 0, x, y, d, h => h
  | f + 1, x, y, d, h => by
    simp only [sl]
    split
    · rename_i he
      have := sl_comes f (x + 1) (y + 1) d (h.slide he)
      rw [show x + (sl E f (x + 1) (y + 1) + 1) = x + 1 + sl E f (x + 1) (y + 1) by omega, show y + (sl E f (x + 1) (y + 1) + 1) = y + 1 + sl E f (x + 1) (y + 1) by omega]
      exact this
    · exact h
theorem sl_stops {n : Nat} (hn : ∀ x y, E x y = true → x < n) : ∀ (f x y : Nat), n ≤ x + f → E (x + sl E f x y) (y + sl E f x y) = false
  | 0, x, y, h => by
    simp only [sl, Nat.add_zero]
    cases he : E x y with
    | false => rfl
    | true => have := hn x y he; omega
  | f + 1, x, y, h => by
    simp only [sl]
    split
    · rename_i he
      have := sl_stops hn f (x + 1) (y + 1) (by omega)
      rw [show x + (sl E f (x + 1) (y + 1) + 1) = x + 1 + sl E f (x + 1) (y + 1) by omega, show y + (sl E f (x + 1) (y + 1) + 1) = y + 1 + sl E f (x + 1) (y + 1) by omega]
      exact this
    · rename_i he
      simpa using he
theorem sl_same : ∀ (f x y j : Nat), j < sl E f x y → E (x + j) (y + j) = true
  | 0, x, y, j, h => by simp [sl] at h
  | f + 1, x, y, j, h => by
    simp only [sl] at h
    split at h
    · rename_i he
      cases j with
      | zero => exact he
      | succ j =>
        have := sl_same f (x + 1) (y + 1) j (by omega)
        rw [show x + (j + 1) = x + 1 + j by omega, show y + (j + 1) = y + 1 + j by omega]
        exact this
    · omega
/-- beyond both ends nothing is kept -/
theorem lc_far {n m : Nat} (hE : ∀ x y, E x y = true → x < n ∧ y < m) : ∀ x y, lc E x y = lc E (min x n) (min y m)
  | 0, y => by rw [lc_zero, Nat.zero_min, lc_zero]
  | x + 1, 0 => by rw [lc_nil, Nat.zero_min, lc_nil]
  | x + 1, y + 1 => by
    by_cases h : x < n ∧ y < m
    · rw [Nat.min_eq_left (by omega), Nat.min_eq_left (by omega)]
    · have he : E x y = false := by
        cases e : E x y with
        | false => rfl
        | true => exact absurd (hE x y e) h
      rw [lc_step, if_neg (by rw [he]; decide), lc_far hE x (y + 1), lc_far hE (x + 1) y]
      by_cases h1 : x < n
      · have h2 : m ≤ y := by omega
        rw [Nat.min_eq_left (show x ≤ n by omega), Nat.min_eq_right (show m ≤ y + 1 by omega), Nat.min_eq_left (show x + 1 ≤ n by omega), Nat.min_eq_right h2]
        have := lc_up (E := E) x m
        omega
      · rw [Nat.min_eq_right (show n ≤ x by omega), Nat.min_eq_right (show n ≤ x + 1 by omega)]
        have : lc E n (min y m) ≤ lc E n (min (y + 1) m) := by
          rcases Nat.lt_or_ge y m with g | g
          · rw [Nat.min_eq_left (by omega), Nat.min_eq_left (by omega)]; exact lc_on _ _
          · rw [Nat.min_eq_right (by omega), Nat.min_eq_right (by omega)]; exact Nat.le_refl _
        omega
theorem lc_grow (n m : Nat) : ∀ i j, lc E n m ≤ lc E (n + i) (m + j) ∧ lc E (n + i) (m + j) ≤ lc E n m + i + j
  | 0, 0 => by simp
  | i + 1, 0 => by
    have h := lc_grow n m i 0
    have h1 := lc_up (E := E) (n + i) (m + 0)
    have h2 := lc_up1 (E := E) (n + i) (m + 0)
    rw [show n + (i + 1) = n + i + 1 by omega]
    omega
  | i, j + 1 => by
    have h := lc_grow n m i j
    have h1 := lc_on (E := E) (n + i) (m + j)
    have h2 := lc_on1 (E := E) (n + i) (m + j)
    rw [show m + (j + 1) = m + j + 1 by omega]
    omega
/-- as far as both ends one comes with no fewer that differ than to both ends -/
theorem R.ends {n m d x y : Nat} (hE : ∀ x y, E x y = true → x < n ∧ y < m) (h : R E d x y) (hs : n + m ≤ x + y) : R E d n m := by
  have h1 := lc_far hE x y
  obtain ⟨i, hi⟩ : ∃ i, n = min x n + i := ⟨n - min x n, by omega⟩
  obtain ⟨j, hj⟩ : ∃ j, m = min y m + j := ⟨m - min y m, by omega⟩
  have h2 := lc_grow (E := E) (min x n) (min y m) i j
  rw [← hi, ← hj] at h2
  unfold R at *
  omega
theorem R.over {n m d x y : Nat} (hE : ∀ x y, E x y = true → x < n ∧ y < m) (h : R E d x y) (hs : n + m < x + y) : 1 ≤ d ∧ R E (d - 1) n m := by
  have h1 := lc_far hE x y
  obtain ⟨i, hi⟩ : ∃ i, n = min x n + i := ⟨n - min x n, by omega⟩
  obtain ⟨j, hj⟩ : ∃ j, m = min y m + j := ⟨m - min y m, by omega⟩
  have h2 := lc_grow (E := E) (min x n) (min y m) i j
  have h3 := lc_le (E := E) (min x n) (min y m)
  rw [← hi, ← hj] at h2
  unfold R at *
  omega
end
/-- what is the same at both begins is kept -/
theorem lc_shift {E E' : Nat → Nat → Bool} (h0 : E 0 0 = true) (hs : ∀ i k, E (i + 1) (k + 1) = E' i k) : ∀ i k, lc E (i + 1) (k + 1) = lc E' i k + 1
  | 0, k => by
    have h1 := lc_up1 (E := E) 0 (k + 1)
    have h2 := (lc_grow (E := E) 1 1 0 k).1
    have h3 := lc_same (E := E) h0
    rw [lc_zero] at h1 h3 ⊢
    rw [show 1 + k = k + 1 by omega] at h2
    simp only [Nat.add_zero, Nat.zero_add] at h1 h2 h3 ⊢
    omega
  | i + 1, 0 => by
    have h1 := lc_on1 (E := E) (i + 1 + 1) 0
    have h2 := (lc_grow (E := E) 1 1 (i + 1) 0).1
    have h3 := lc_same (E := E) h0
    rw [lc_nil] at h1 ⊢
    rw [lc_zero] at h3
    rw [show 1 + (i + 1) = i + 1 + 1 by omega] at h2
    simp only [Nat.add_zero, Nat.zero_add] at h1 h2 h3 ⊢
    omega
  | i + 1, k + 1 => by
    have a := lc_shift h0 hs i (k + 1)
    have b := lc_shift h0 hs (i + 1) k
    have c := lc_shift h0 hs i k
    rw [lc_step, a, b, c, hs, lc_step]
    split <;> omega
theorem lc_ahead : ∀ (f : Nat) (E E' : Nat → Nat → Bool), (∀ j, j < f → E j j = true) → (∀ i k, E (i + f) (k + f) = E' i k) → ∀ i k, lc E (i + f) (k + f) = lc E' i k + f
  | 0, E, E', _, hs, i, k => by
    have : E = E' := by funext a b; exact hs a b
    subst this; rfl
  | f + 1, E, E', h0, hs, i, k => by
    have h1 := lc_shift (E := E) (E' := fun a b => E (a + 1) (b + 1)) (h0 0 (by omega)) (fun _ _ => rfl) (i + f) (k + f)
    have h2 := lc_ahead f (fun a b => E (a + 1) (b + 1)) E' (fun j hj => h0 (j + 1) (by omega)) (fun a b => by rw [← hs a b]; rfl) i k
    rw [show i + (f + 1) = i + f + 1 by omega, show k + (f + 1) = k + f + 1 by omega, h1, h2]
    omega
theorem lc_behind {E : Nat → Nat → Bool} : ∀ (f n m : Nat), (∀ j, j < f → E (n + j) (m + j) = true) → lc E (n + f) (m + f) = lc E n m + f
  | 0, n, m, _ => rfl
  | f + 1, n, m, h => by
    have h1 := lc_behind f n m (fun j hj => h j (by omega))
    have h2 := lc_same (h f (by omega))
    rw [show n + (f + 1) = n + f + 1 by omega, show m + (f + 1) = m + f + 1 by omega, h2, h1]
    omega
end Go.Proofs.Ytgodphfkhmahnaa.Df
