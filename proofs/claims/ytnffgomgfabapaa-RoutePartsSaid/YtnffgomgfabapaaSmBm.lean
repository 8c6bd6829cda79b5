/- Position maps: positions don't fall; there and back. -/
import Derived.Test.YtnffgomgfabapaaSmMath
namespace Go.Proofs.Ytnffgomgfabapaa.Sm
set_option linter.unusedVariables false

theorem tell_form {l : List Rg} (x side : Int) : ((fi l x = l.length ∨ x < (rg l (fi l x)).at_) ∧ tell l x side = ⟨x + sh l (fi l x), false, false, 0, 0⟩) ∨
    (fi l x < l.length ∧ (rg l (fi l x)).at_ ≤ x ∧ x ≤ (rg l (fi l x)).at_ + (rg l (fi l x)).old ∧ tell l x side = tellR (rg l (fi l x)) (sh l (fi l x)) (fi l x) x side) := by
  unfold tell tellAt
  by_cases h : fi l x = l.length ∨ x < (rg l (fi l x)).at_
  · exact .inl ⟨h, by rw [if_pos h]⟩
  · have hlt : fi l x < l.length := by have := fi_le l x; omega
    exact .inr ⟨hlt, by omega, fi_at l x hlt, by rw [if_neg h]⟩
theorem tellR_pos (r : Rg) (s : Int) (i : Nat) (x side : Int) : (tellR r s i x side).pos = toI r s x side := by
  unfold tellR; split <;> rfl
theorem toI_cases (r : Rg) (s x side : Int) : (toEnd r x side = true ∧ toI r s x side = r.at_ + s + r.new) ∨ (toEnd r x side = false ∧ toI r s x side = r.at_ + s) := by
  unfold toI
  cases h : toEnd r x side
  · exact .inr ⟨rfl, by simp⟩
  · exact .inl ⟨rfl, by simp⟩
theorem toEnd_iff (r : Rg) (x side : Int) : toEnd r x side = true ↔ (x = r.at_ + r.old ∧ 0 < r.old) ∨ (x ≠ r.at_ ∧ 0 ≤ side) ∨ (r.old = 0 ∧ 0 ≤ side) := by
  unfold toEnd; simp
/-- the ends, the other way, rise -/
theorem F_mono {l : List Rg} {n : Nat} (h : okTo l n) (i : Nat) : ∀ j, i ≤ j → j < n → (rg l i).at_ + (rg l i).old + sh l (i + 1) ≤ (rg l j).at_ + (rg l j).old + sh l (j + 1)
  | 0, hij, _ => by obtain rfl : i = 0 := by omega
                    exact Int.le_refl _
  | j + 1, hij, hj => by
    rcases Nat.lt_or_ge i (j + 1) with h1 | h1
    · have ih := F_mono h i j (by omega) (by omega)
      have f := (h (j + 1) hj).1
      have g := (h (j + 1) hj).2 (by omega)
      unfold Rg.fits at f
      simp only [Nat.add_sub_cancel] at g
      have e := sh_succ l (j + 1)
      omega
    · obtain rfl : i = j + 1 := by omega
      exact Int.le_refl _
/-- at most what the range's end comes to -/
theorem tell_le {l : List Rg} (h : okTo l l.length) (x side : Int) (hlt : fi l x < l.length) : (tell l x side).pos ≤ (rg l (fi l x)).at_ + (rg l (fi l x)).old + sh l (fi l x + 1) := by
  have f := (h _ hlt).1
  unfold Rg.fits at f
  have e := sh_succ l (fi l x)
  rcases tell_form (l := l) x side with ⟨h1, h2⟩ | ⟨_, h1, h2, h3⟩
  · rw [h2]; simp only; omega
  · rw [h3, tellR_pos]
    rcases toI_cases (rg l (fi l x)) (sh l (fi l x)) x side with ⟨_, e1⟩ | ⟨_, e1⟩ <;> rw [e1] <;> omega
/-- above what the range ahead ends at -/
theorem tell_gt {l : List Rg} (h : okTo l l.length) (x side : Int) (k : Nat) (hk : k < fi l x) : (rg l k).at_ + (rg l k).old + sh l (k + 1) < (tell l x side).pos := by
  have hle := fi_le l x
  have hF := F_mono h k (fi l x - 1) (by omega) (by omega)
  have hb := fi_below l x (fi l x - 1) (by omega)
  rw [show fi l x - 1 + 1 = fi l x by omega] at hF
  rcases tell_form (l := l) x side with ⟨h1, h2⟩ | ⟨hlt, h1, h2, h3⟩
  · rw [h2]; simp only; omega
  · have g := (h _ hlt).2 (by omega)
    have f := (h _ hlt).1
    unfold Rg.fits at f
    rw [h3, tellR_pos]
    rcases toI_cases (rg l (fi l x)) (sh l (fi l x)) x side with ⟨_, e1⟩ | ⟨_, e1⟩ <;> rw [e1] <;> omega
theorem fi_mono {l : List Rg} {x y : Int} (h : x ≤ y) : fi l x ≤ fi l y := by
  rcases Nat.lt_or_ge (fi l y) (fi l x) with h1 | h1
  · have := fi_below l x _ h1
    have := fi_at l y (by have := fi_le l x; omega)
    omega
  · exact h1
/-- **Positions don't fall.** -/
theorem tell_mono {l : List Rg} (h : okTo l l.length) {x y : Int} (hxy : x ≤ y) (side : Int) : (tell l x side).pos ≤ (tell l y side).pos := by
  have hf := fi_mono (l := l) hxy
  rcases Nat.lt_or_ge (fi l x) (fi l y) with h1 | h1
  · have a := tell_le h x side (by have := fi_le l y; omega)
    have b := tell_gt h y side _ h1
    omega
  · have he : fi l x = fi l y := by omega
    rcases tell_form (l := l) x side with ⟨a1, a2⟩ | ⟨alt, a1, a2, a3⟩
    · rcases tell_form (l := l) y side with ⟨b1, b2⟩ | ⟨blt, b1, b2, b3⟩
      · rw [a2, b2, he]; simp only; omega
      · have f := (h _ blt).1
        unfold Rg.fits at f
        rw [he] at a1 a2
        rw [a2, b3, tellR_pos]
        rcases toI_cases (rg l (fi l y)) (sh l (fi l y)) y side with ⟨_, e1⟩ | ⟨_, e1⟩ <;> rw [e1] <;> simp only <;> omega
    · rcases tell_form (l := l) y side with ⟨b1, b2⟩ | ⟨blt, b1, b2, b3⟩
      · rw [he] at alt a1 a2; omega
      · have f := (h _ blt).1
        unfold Rg.fits at f
        rw [he] at a1 a2 a3
        rw [a3, b3, tellR_pos, tellR_pos]
        rcases toI_cases (rg l (fi l y)) (sh l (fi l y)) x side with ⟨t1, e1⟩ | ⟨_, e1⟩
        · have t2 : toEnd (rg l (fi l y)) y side = true := by
            rw [toEnd_iff] at t1 ⊢
            omega
          rcases toI_cases (rg l (fi l y)) (sh l (fi l y)) y side with ⟨_, e2⟩ | ⟨t3, _⟩
          · rw [e1, e2]; exact Int.le_refl _
          · rw [t2] at t3; cases t3
        · rcases toI_cases (rg l (fi l y)) (sh l (fi l y)) y side with ⟨_, e2⟩ | ⟨_, e2⟩ <;> rw [e1, e2] <;> omega
/-- the left side's place is not behind the right one's -/
theorem tell_sides {l : List Rg} (h : okTo l l.length) (x : Int) : (tell l x (-1)).pos ≤ (tell l x 1).pos := by
  rcases tell_form (l := l) x (-1) with ⟨a1, a2⟩ | ⟨alt, a1, a2, a3⟩
  · rcases tell_form (l := l) x 1 with ⟨b1, b2⟩ | ⟨blt, b1, b2, b3⟩
    · rw [a2, b2]; exact Int.le_refl _
    · omega
  · rcases tell_form (l := l) x 1 with ⟨b1, b2⟩ | ⟨blt, b1, b2, b3⟩
    · omega
    · have f := (h _ blt).1
      unfold Rg.fits at f
      rw [a3, b3, tellR_pos, tellR_pos]
      rcases toI_cases (rg l (fi l x)) (sh l (fi l x)) x (-1) with ⟨t1, e1⟩ | ⟨_, e1⟩
      · have t2 : toEnd (rg l (fi l x)) x 1 = true := by
          rw [toEnd_iff] at t1 ⊢
          omega
        rcases toI_cases (rg l (fi l x)) (sh l (fi l x)) x 1 with ⟨_, e2⟩ | ⟨t3, _⟩
        · rw [e1, e2]; exact Int.le_refl _
        · rw [t2] at t3; cases t3
      · rcases toI_cases (rg l (fi l x)) (sh l (fi l x)) x 1 with ⟨_, e2⟩ | ⟨_, e2⟩ <;> rw [e1, e2] <;> omega
/-- **A token that is gone is recovered.** -/
theorem tell_gone {l : List Rg} (h : okTo l l.length) (x side : Int) (hg : (tell l x side).gone = true) :
    ∃ k : Nat, k < l.length ∧ (tell l x side).rng = k ∧ 0 ≤ (tell l x side).off ∧ (tell l x side).off ≤ (rg (inv l) k).new ∧ (rg (inv l) k).at_ + sh (inv l) k + (tell l x side).off = x := by
  rcases tell_form (l := l) x side with ⟨a1, a2⟩ | ⟨alt, a1, a2, a3⟩
  · rw [a2] at hg; cases hg
  · rw [a3] at hg ⊢
    unfold tellR at hg ⊢
    split at hg
    · rename_i hgb
      rw [if_pos hgb]
      refine ⟨fi l x, alt, rfl, ?_, ?_, ?_⟩
      · simp only; omega
      · rw [inv_rg l _ alt]; simp only; omega
      · rw [inv_rg l _ alt, inv_sh l _ (by omega)]; simp only; omega
    · cases hg
/-- **There and back** -/
theorem tell_back {l : List Rg} (h : okTo l l.length) (x side : Int) (hg : (tell l x side).gone = false) : (tell (inv l) (tell l x side).pos side).pos = x := by
  have hle := fi_le l x
  have hend : ∀ k, k < l.length → (rg (inv l) k).at_ + (rg (inv l) k).old = (rg l k).at_ + (rg l k).old + sh l (k + 1) := fun k hk => by
    rw [inv_rg l k hk, sh_succ]; simp only; omega
  have hbel : ∀ k, k < fi l x → (rg (inv l) k).at_ + (rg (inv l) k).old < (tell l x side).pos := fun k hk => by
    rw [hend k (by omega)]; exact tell_gt h x side k hk
  rcases tell_form (l := l) x side with ⟨a1, a2⟩ | ⟨alt, a1, a2, a3⟩
  · have hfi : tell (inv l) (tell l x side).pos side = tellAt (inv l) (fi l x) (tell l x side).pos side :=
      tell_eq (by rw [inv_length]; exact hle) hbel (fun hk => by
        rw [inv_length] at hk
        rw [hend _ hk, a2, sh_succ]
        have f := (h _ hk).1
        unfold Rg.fits at f
        simp only; omega)
    rw [hfi, tellAt]
    rw [if_pos (by
      rcases a1 with e | e
      · exact .inl (by rw [inv_length]; exact e)
      · rcases Nat.lt_or_ge (fi l x) l.length with hk | hk
        · refine .inr ?_
          rw [inv_rg l _ hk, a2]; simp only; omega
        · exact .inl (by rw [inv_length]; omega))]
    simp only
    rw [inv_sh l _ hle, a2]; simp only; omega
  · have f := (h _ alt).1
    unfold Rg.fits at f
    have hp : (tell l x side).pos = toI (rg l (fi l x)) (sh l (fi l x)) x side := by rw [a3, tellR_pos]
    have hgb : ¬ goneB (rg l (fi l x)) x side = true := by
      intro hb
      rw [a3, tellR, if_pos hb] at hg
      cases hg
    have hcase : (side < 0 ∧ x = (rg l (fi l x)).at_ ∧ (tell l x side).pos = (rg l (fi l x)).at_ + sh l (fi l x)) ∨ (0 ≤ side ∧ x = (rg l (fi l x)).at_ + (rg l (fi l x)).old ∧ (tell l x side).pos = (rg l (fi l x)).at_ + sh l (fi l x) + (rg l (fi l x)).new) := by
      rw [hp]
      unfold goneB at hgb
      by_cases hs : side < 0
      · rw [if_pos hs] at hgb
        simp only [Bool.and_eq_true, decide_eq_true_eq] at hgb
        have hx : x = (rg l (fi l x)).at_ := by omega
        refine .inl ⟨hs, hx, ?_⟩
        rcases toI_cases (rg l (fi l x)) (sh l (fi l x)) x side with ⟨t1, e1⟩ | ⟨_, e1⟩
        · rw [toEnd_iff] at t1; omega
        · exact e1
      · rw [if_neg hs] at hgb
        simp only [Bool.and_eq_true, decide_eq_true_eq] at hgb
        have hx : x = (rg l (fi l x)).at_ + (rg l (fi l x)).old := by omega
        refine .inr ⟨by omega, hx, ?_⟩
        rcases toI_cases (rg l (fi l x)) (sh l (fi l x)) x side with ⟨_, e1⟩ | ⟨t1, e1⟩
        · exact e1
        · have : toEnd (rg l (fi l x)) x side = true := by rw [toEnd_iff]; omega
          rw [this] at t1; cases t1
    have hin : (rg (inv l) (fi l x)) = ⟨(rg l (fi l x)).at_ + sh l (fi l x), (rg l (fi l x)).new, (rg l (fi l x)).old⟩ := inv_rg l _ alt
    have hfi : tell (inv l) (tell l x side).pos side = tellAt (inv l) (fi l x) (tell l x side).pos side :=
      tell_eq (by rw [inv_length]; exact hle) hbel (fun _ => by
        rw [hin]; simp only
        rcases hcase with ⟨_, _, e⟩ | ⟨_, _, e⟩ <;> rw [e] <;> omega)
    rw [hfi, tellAt, if_neg (by
      rw [inv_length, hin]; simp only
      rcases hcase with ⟨_, _, e⟩ | ⟨_, _, e⟩ <;> rw [e] <;> omega), tellR_pos, hin, inv_sh l _ hle]
    rcases hcase with ⟨hs, hx, e⟩ | ⟨hs, hx, e⟩
    · rcases toI_cases ⟨(rg l (fi l x)).at_ + sh l (fi l x), (rg l (fi l x)).new, (rg l (fi l x)).old⟩ (- sh l (fi l x)) (tell l x side).pos side with ⟨t1, e1⟩ | ⟨_, e1⟩
      · rw [toEnd_iff, e] at t1; simp only at t1; omega
      · rw [e1]; simp only; omega
    · rcases toI_cases ⟨(rg l (fi l x)).at_ + sh l (fi l x), (rg l (fi l x)).new, (rg l (fi l x)).old⟩ (- sh l (fi l x)) (tell l x side).pos side with ⟨_, e1⟩ | ⟨t1, e1⟩
      · rw [e1]; simp only; omega
      · have : toEnd ⟨(rg l (fi l x)).at_ + sh l (fi l x), (rg l (fi l x)).new, (rg l (fi l x)).old⟩ (tell l x side).pos side = true := by
          rw [toEnd_iff, e]; simp only; omega
        rw [this] at t1; cases t1
end Go.Proofs.Ytnffgomgfabapaa.Sm
