/- Position maps as plain lists: which are right, shifts, places; nothing of the program. -/
namespace Go.Proofs.Ytgodphfkhmahnaa.Sm
set_option linter.unusedVariables false

structure Rg where
  at_ : Int
  old : Int
  new : Int
  deriving DecidableEq
def zeroRg : Rg := ⟨0, 0, 0⟩
def rg (l : List Rg) (i : Nat) : Rg := l.getD i zeroRg
theorem rg_at (l : List Rg) (i : Nat) (h : i < l.length) : rg l i = l[i] := by simp [rg, List.getD, List.getElem?_eq_getElem h]
def Rg.fits (r : Rg) : Prop := (0 ≤ r.at_ ∧ r.at_ ≤ 1073741824) ∧ (0 ≤ r.old ∧ r.old ≤ 1073741824) ∧ (0 ≤ r.new ∧ r.new ≤ 1073741824)
def okAt (l : List Rg) (i : Nat) : Prop := (rg l i).fits ∧ (0 < i → (rg l (i - 1)).at_ + (rg l (i - 1)).old < (rg l i).at_)
def okTo (l : List Rg) (n : Nat) : Prop := ∀ i, i < n → okAt l i
theorem okTo_zero (l : List Rg) : okTo l 0 := fun i h => absurd h (by omega)
theorem okTo_succ {l : List Rg} {n : Nat} (h : okTo l n) (h' : okAt l n) : okTo l (n + 1) := by
  intro i hi
  rcases Nat.lt_succ_iff_lt_or_eq.1 hi with h1 | rfl
  · exact h i h1
  · exact h'
theorem okTo.mono {l : List Rg} {n m : Nat} (h : okTo l n) (hm : m ≤ n) : okTo l m := fun i hi => h i (by omega)
/-- is it right? -/
noncomputable def rightB (l : List Rg) : Bool := @decide (okTo l l.length) (Classical.propDecidable _)
theorem rightB_true {l : List Rg} (h : okTo l l.length) : rightB l = true := @decide_eq_true _ (Classical.propDecidable _) h
theorem rightB_false {l : List Rg} {i : Nat} (hi : i < l.length) (h : ¬ okAt l i) : rightB l = false := @decide_eq_false _ (Classical.propDecidable _) (fun g => h (g i hi))
theorem right_of {l : List Rg} (h : rightB l = true) : okTo l l.length := @of_decide_eq_true _ (Classical.propDecidable _) h
theorem rightB_iff {l : List Rg} : rightB l = true ↔ okTo l l.length := ⟨right_of, rightB_true⟩

def sh (l : List Rg) : Nat → Int
  | 0 => 0
  | n + 1 => sh l n + (rg l n).new - (rg l n).old
theorem sh_succ (l : List Rg) (n : Nat) : sh l (n + 1) = sh l n + (rg l n).new - (rg l n).old := rfl
theorem sh_bound {l : List Rg} : ∀ n : Nat, okTo l n → -(1073741824 * (n : Int)) ≤ sh l n ∧ sh l n ≤ 1073741824 * (n : Int)
  | 0, _ => by simp [sh]
  | n + 1, h => by
    have ih := sh_bound n (h.mono (by omega))
    have f := (h n (by omega)).1
    unfold Rg.fits at f
    rw [sh_succ]
    omega
/-- no range begins below the shift -/
theorem sh_low {l : List Rg} : ∀ n : Nat, okTo l (n + 1) → 0 ≤ (rg l n).at_ + sh l n
  | 0, h => by have f := (h 0 (by omega)).1; unfold Rg.fits at f; simp [sh]; omega
  | n + 1, h => by
    have ih := sh_low n (h.mono (by omega))
    have f := (h n (by omega)).1
    have g := (h (n + 1) (by omega))
    have g2 := g.2 (by omega)
    have g1 := g.1
    unfold Rg.fits at f g1
    simp only [Nat.add_sub_cancel] at g2
    rw [sh_succ]
    omega
/-- ends rise -/
theorem ends_lt {l : List Rg} {n : Nat} (h : okTo l n) : ∀ j i : Nat, i < j → j < n → (rg l i).at_ + (rg l i).old < (rg l j).at_
  | 0, i, hi, _ => absurd hi (by omega)
  | j + 1, i, hi, hj => by
    have g := (h (j + 1) hj).2 (by omega)
    simp only [Nat.add_sub_cancel] at g
    rcases Nat.lt_succ_iff_lt_or_eq.1 hi with h1 | rfl
    · have ih := ends_lt h j i h1 (by omega)
      have f := (h j (by omega)).1
      unfold Rg.fits at f
      omega
    · exact g

/-- the first range whose end isn't below a position -/
def fi (l : List Rg) (pos : Int) : Nat := l.findIdx fun r => decide (pos ≤ r.at_ + r.old)
theorem fi_le (l : List Rg) (pos : Int) : fi l pos ≤ l.length := List.findIdx_le_length
theorem fi_below (l : List Rg) (pos : Int) (j : Nat) (h : j < fi l pos) : (rg l j).at_ + (rg l j).old < pos := by
  have hl : j < l.length := Nat.lt_of_lt_of_le h (fi_le l pos)
  have := List.not_of_lt_findIdx h
  rw [rg_at l j hl]
  simp at this
  omega
theorem fi_at (l : List Rg) (pos : Int) (h : fi l pos < l.length) : pos ≤ (rg l (fi l pos)).at_ + (rg l (fi l pos)).old := by
  have := List.findIdx_getElem (w := h)
  rw [rg_at _ _ h]
  exact of_decide_eq_true this
theorem fi_eq {l : List Rg} {pos : Int} {i : Nat} (hi : i ≤ l.length) (h1 : ∀ j, j < i → (rg l j).at_ + (rg l j).old < pos) (h2 : i < l.length → pos ≤ (rg l i).at_ + (rg l i).old) : fi l pos = i := by
  rcases Nat.lt_trichotomy (fi l pos) i with h | h | h
  · have := fi_at l pos (by omega)
    have := h1 _ h
    omega
  · exact h
  · have := fi_below l pos i h
    have := h2 (by have := fi_le l pos; omega)
    omega

structure Pl where
  pos : Int
  gone : Bool
  inside : Bool
  rng : Int
  off : Int
  deriving DecidableEq
def toEnd (r : Rg) (pos side : Int) : Bool := ((pos == r.at_ + r.old) && decide (0 < r.old)) || (((pos != r.at_) && decide (0 ≤ side)) || ((r.old == 0) && decide (0 ≤ side)))
def toI (r : Rg) (s pos side : Int) : Int := if toEnd r pos side = true then r.at_ + s + r.new else r.at_ + s
def goneB (r : Rg) (pos side : Int) : Bool := if side < 0 then decide (r.at_ < pos) && decide (pos ≤ r.at_ + r.old) else decide (r.at_ ≤ pos) && decide (pos < r.at_ + r.old)
def insideB (r : Rg) (pos : Int) : Bool := decide (r.at_ < pos) && decide (pos < r.at_ + r.old)
def tellR (r : Rg) (s : Int) (i : Nat) (pos side : Int) : Pl := if goneB r pos side = true then ⟨toI r s pos side, true, insideB r pos, i, pos - r.at_⟩ else ⟨toI r s pos side, false, insideB r pos, 0, 0⟩
def tellAt (l : List Rg) (i : Nat) (pos side : Int) : Pl := if i = l.length ∨ pos < (rg l i).at_ then ⟨pos + sh l i, false, false, 0, 0⟩ else tellR (rg l i) (sh l i) i pos side
def tell (l : List Rg) (pos side : Int) : Pl := tellAt l (fi l pos) pos side
theorem tell_eq {l : List Rg} {pos side : Int} {i : Nat} (hi : i ≤ l.length) (h1 : ∀ j, j < i → (rg l j).at_ + (rg l j).old < pos) (h2 : i < l.length → pos ≤ (rg l i).at_ + (rg l i).old) : tell l pos side = tellAt l i pos side := by
  unfold tell; rw [fi_eq hi h1 h2]

/-- the map the other way, as far as n -/
def invTo (l : List Rg) : Nat → List Rg
  | 0 => []
  | n + 1 => invTo l n ++ [⟨(rg l n).at_ + sh l n, (rg l n).new, (rg l n).old⟩]
def inv (l : List Rg) : List Rg := invTo l l.length
theorem invTo_length (l : List Rg) : ∀ n, (invTo l n).length = n
  | 0 => rfl
  | n + 1 => by simp [invTo, invTo_length l n]
theorem inv_length (l : List Rg) : (inv l).length = l.length := invTo_length l _
theorem invTo_rg (l : List Rg) : ∀ n i, i < n → rg (invTo l n) i = ⟨(rg l i).at_ + sh l i, (rg l i).new, (rg l i).old⟩
  | 0, i, h => absurd h (by omega)
  | n + 1, i, h => by
    have hl := invTo_length l n
    rcases Nat.lt_succ_iff_lt_or_eq.1 h with h1 | rfl
    · have ih := invTo_rg l n i h1
      rw [← ih]
      simp only [rg, invTo, List.getD]
      rw [List.getElem?_append_left (by omega)]
    · simp only [rg, invTo, List.getD]
      rw [List.getElem?_append_right (by omega), hl]
      simp
theorem inv_rg (l : List Rg) (i : Nat) (h : i < l.length) : rg (inv l) i = ⟨(rg l i).at_ + sh l i, (rg l i).new, (rg l i).old⟩ := invTo_rg l _ i h
theorem inv_sh (l : List Rg) : ∀ n, n ≤ l.length → sh (inv l) n = - sh l n
  | 0, _ => by simp [sh]
  | n + 1, h => by rw [sh_succ, sh_succ, inv_sh l n (by omega), inv_rg l n (by omega)]; simp only; omega
theorem ext_rg {l m : List Rg} (h : l.length = m.length) (hr : ∀ i, i < l.length → rg l i = rg m i) : l = m := by
  apply List.ext_getElem h
  intro i h1 h2
  have := hr i h1
  rwa [rg_at l i h1, rg_at m i h2] at this
theorem inv_inv (l : List Rg) : inv (inv l) = l := by
  apply ext_rg (by rw [inv_length, inv_length])
  intro i hi
  rw [inv_length, inv_length] at hi
  rw [inv_rg _ i (by rw [inv_length]; exact hi), inv_rg l i hi, inv_sh l i (by omega)]
  cases rg l i with | mk a b c => congr 1; simp only; omega
/-- of a right map the other way's ranges are in order, and within bounds but for their begins' upper one -/
theorem inv_at {l : List Rg} (h : okTo l l.length) (i : Nat) (hi : i < l.length) (hlow : (rg (inv l) i).at_ ≤ 1073741824) : okAt (inv l) i := by
  have f := (h i hi).1
  have hl := sh_low i (h.mono (by omega))
  rw [okAt, inv_rg l i hi] at *
  refine ⟨?_, fun h0 => ?_⟩
  · unfold Rg.fits at f ⊢
    simp only at hlow ⊢
    omega
  · obtain ⟨k, rfl⟩ : ∃ k, i = k + 1 := ⟨i - 1, by omega⟩
    have g := (h (k + 1) hi).2 (by omega)
    simp only [Nat.add_sub_cancel] at g ⊢
    rw [inv_rg l k (by omega)]
    simp only
    rw [sh_succ]
    omega
theorem inv_right {l : List Rg} (h : okTo l l.length) (hlow : ∀ i, i < l.length → (rg (inv l) i).at_ ≤ 1073741824) : okTo (inv l) (inv l).length := by
  intro i hi
  rw [inv_length] at hi
  exact inv_at h i hi (hlow i hi)
end Go.Proofs.Ytgodphfkhmahnaa.Sm
