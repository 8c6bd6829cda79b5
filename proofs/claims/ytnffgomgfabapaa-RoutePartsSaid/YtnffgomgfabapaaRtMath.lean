/- Routes of position maps: through maps and their mirrored inverses each position comes to itself; nothing of the program. -/
import Derived.Test.YtnffgomgfabapaaSmBm
namespace Go.Proofs.Ytnffgomgfabapaa.Sm
set_option linter.unusedVariables false

/-- what isn't gone isn't gone the other way -/
theorem tell_back_stays {l : List Rg} (h : okTo l l.length) (x side : Int) (hg : (tell l x side).gone = false) : (tell (inv l) (tell l x side).pos side).gone = false := by
  have hle := fi_le l x
  have hend : ∀ k, k < l.length → (rg (inv l) k).at_ + (rg (inv l) k).old = (rg l k).at_ + (rg l k).old + sh l (k + 1) := fun k hk => by
    rw [inv_rg l k hk, sh_succ]; simp only; omega
  have hbel : ∀ k, k < fi l x → (rg (inv l) k).at_ + (rg (inv l) k).old < (tell l x side).pos := fun k hk => by
    rw [hend k (by omega)]; exact tell_gt h x side k hk
  rcases tell_form (l := l) x side with ⟨a1, a2⟩ | ⟨alt, a1, a2, a3⟩
  · have hfi : tell (inv l) (tell l x side).pos side = tellAt (inv l) (fi l x) (tell l x side).pos side :=
      tell_eq (by rw [inv_length]; exact hle) hbel (fun hk => by
        rw [inv_length] at hk
        rw [hend _ hk, a2, sh_succ]
        have f := (h _ hk).1
        unfold Rg.fits at f
        simp only; omega)
    rw [hfi, tellAt]
    rw [if_pos (by
      rcases a1 with e | e
      · exact .inl (by rw [inv_length]; exact e)
      · rcases Nat.lt_or_ge (fi l x) l.length with hk | hk
        · refine .inr ?_
          rw [inv_rg l _ hk, a2]; simp only; omega
        · exact .inl (by rw [inv_length]; omega))]
  · have f := (h _ alt).1
    unfold Rg.fits at f
    have hp : (tell l x side).pos = toI (rg l (fi l x)) (sh l (fi l x)) x side := by rw [a3, tellR_pos]
    have hgb : ¬ goneB (rg l (fi l x)) x side = true := by
      intro hb
      rw [a3, tellR, if_pos hb] at hg
      cases hg
    have hcase : (side < 0 ∧ x = (rg l (fi l x)).at_ ∧ (tell l x side).pos = (rg l (fi l x)).at_ + sh l (fi l x)) ∨ (0 ≤ side ∧ x = (rg l (fi l x)).at_ + (rg l (fi l x)).old ∧ (tell l x side).pos = (rg l (fi l x)).at_ + sh l (fi l x) + (rg l (fi l x)).new) := by
      rw [hp]
      unfold goneB at hgb
      by_cases hs : side < 0
      · rw [if_pos hs] at hgb
        simp only [Bool.and_eq_true, decide_eq_true_eq] at hgb
        have hx : x = (rg l (fi l x)).at_ := by omega
        refine .inl ⟨hs, hx, ?_⟩
        rcases toI_cases (rg l (fi l x)) (sh l (fi l x)) x side with ⟨t1, e1⟩ | ⟨_, e1⟩
        · rw [toEnd_iff] at t1; omega
        · exact e1
      · rw [if_neg hs] at hgb
        simp only [Bool.and_eq_true, decide_eq_true_eq] at hgb
        have hx : x = (rg l (fi l x)).at_ + (rg l (fi l x)).old := by omega
        refine .inr ⟨by omega, hx, ?_⟩
        rcases toI_cases (rg l (fi l x)) (sh l (fi l x)) x side with ⟨_, e1⟩ | ⟨t1, e1⟩
        · exact e1
        · have : toEnd (rg l (fi l x)) x side = true := by rw [toEnd_iff]; omega
          rw [this] at t1; cases t1
    have hin : (rg (inv l) (fi l x)) = ⟨(rg l (fi l x)).at_ + sh l (fi l x), (rg l (fi l x)).new, (rg l (fi l x)).old⟩ := inv_rg l _ alt
    have hfi : tell (inv l) (tell l x side).pos side = tellAt (inv l) (fi l x) (tell l x side).pos side :=
      tell_eq (by rw [inv_length]; exact hle) hbel (fun _ => by
        rw [hin]; simp only
        rcases hcase with ⟨_, _, e⟩ | ⟨_, _, e⟩ <;> rw [e] <;> omega)
    rw [hfi, tellAt, if_neg (by
      rw [inv_length, hin]; simp only
      rcases hcase with ⟨_, _, e⟩ | ⟨_, _, e⟩ <;> rw [e] <;> omega), hin]
    have hng : ¬ goneB ⟨(rg l (fi l x)).at_ + sh l (fi l x), (rg l (fi l x)).new, (rg l (fi l x)).old⟩ (tell l x side).pos side = true := by
      unfold goneB
      rcases hcase with ⟨hs, hx, e⟩ | ⟨hs, hx, e⟩
      · rw [if_pos hs, e]; simp
      · rw [if_neg (by omega), e]; simp
    unfold tellR
    rw [if_neg hng]
theorem inside_gone {l : List Rg} (x side : Int) (h : (tell l x side).gone = false) : (tell l x side).inside = false := by
  rcases tell_form (l := l) x side with ⟨_, a2⟩ | ⟨_, a1, a2, a3⟩
  · rw [a2]
  · rw [a3] at h ⊢
    unfold tellR at h ⊢
    split at h
    · cases h
    · rename_i hg
      rw [if_neg hg]
      unfold goneB at hg
      unfold insideB
      simp only
      by_cases hs : side < 0
      · rw [if_pos hs] at hg
        simp only [Bool.and_eq_true, decide_eq_true_eq] at hg
        simp; omega
      · rw [if_neg hs] at hg
        simp only [Bool.and_eq_true, decide_eq_true_eq] at hg
        simp; omega
/-- a position on its way through the first k maps, gone in none -/
def Way (M : List (List Rg)) (x side : Int) (P : Nat → Int) (k : Nat) : Prop :=
  P 0 = x ∧ ∀ j, j < k → (tell (M.getD j []) (P j) side).gone = false ∧ P (j + 1) = (tell (M.getD j []) (P j) side).pos
theorem Way.zero (M : List (List Rg)) (x side : Int) : Way M x side (fun _ => x) 0 := ⟨rfl, fun j h => absurd h (by omega)⟩
theorem Way.step {M : List (List Rg)} {x side : Int} {P : Nat → Int} {k : Nat} (h : Way M x side P k) (hg : (tell (M.getD k []) (P k) side).gone = false) :
    ∃ Q, Way M x side Q (k + 1) ∧ Q (k + 1) = (tell (M.getD k []) (P k) side).pos := by
  refine ⟨fun j => if j ≤ k then P j else (tell (M.getD k []) (P k) side).pos, ⟨?_, fun j hj => ?_⟩, ?_⟩
  · simp only [Nat.zero_le, if_true]; exact h.1
  · rcases Nat.lt_succ_iff_lt_or_eq.1 hj with h1 | rfl
    · have := h.2 j h1
      simp only [show j ≤ k by omega, show j + 1 ≤ k by omega, if_true]
      exact this
    · simp only [Nat.le_refl, if_true, show ¬ (j + 1 ≤ j) by omega, if_false]
      exact ⟨hg, trivial⟩
  · simp only [show ¬ (k + 1 ≤ k) by omega, if_false]
end Go.Proofs.Ytnffgomgfabapaa.Sm
