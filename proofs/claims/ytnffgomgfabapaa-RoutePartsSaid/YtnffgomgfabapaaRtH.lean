/- Walks of route: Tell, plain. -/
import Derived.Test.YtnffgomgfabapaaRtG
import Derived.Test.YtnffgomgfabapaaSmI
import Derived.Test.YtnffgomgfabapaaRtMath
namespace Go.Proofs.Ytnffgomgfabapaa.Rt
open Go.RowKit Mem Sm
set_option linter.unusedVariables false

/-- where a position is among the maps: at map i, with what it met; or what is wrong -/
structure St where
  pos : Int
  gone : Bool
  inside : Bool
noncomputable def goM (M : List (List Rg)) (mir : List (Int × Int)) (side : Int) : Nat → Nat → St → Option St
  | 0, _, s => some s
  | f + 1, i, s =>
    if i < M.length then
      if tellE (M.getD i []) s.pos = 0 then
        if (recR M mir i (tellW (M.getD i []) s.pos side)).2.2 = true then
          goM M mir side f ((recR M mir i (tellW (M.getD i []) s.pos side)).2.1.toNat + 1) { s with pos := (recR M mir i (tellW (M.getD i []) s.pos side)).1 }
        else goM M mir side f (i + 1) ⟨(tellW (M.getD i []) s.pos side).pos, s.gone || (tellW (M.getD i []) s.pos side).gone, s.inside || (tellW (M.getD i []) s.pos side).inside⟩
      else none
    else some s
/-- behind which mirror it goes on: never one that stood ahead -/
theorem recR_ge {M : List (List Rg)} {mir : List (Int × Int)} {i : Int} {q : Pl} (h : (recR M mir i q).2.2 = true) : i ≤ (recR M mir i q).2.1 ∧ ∃ x ∈ mir, x.2 = (recR M mir i q).2.1 := by
  unfold recR at h ⊢
  cases hl : lk mir i with
  | none => rw [hl] at h; simp at h
  | some j =>
    rw [hl] at h
    simp only at h ⊢
    split at h
    · rename_i g
      rw [if_pos g]
      exact ⟨g.2, _, lk_some hl, rfl⟩
    · simp at h
theorem goM_no {M : List (List Rg)} {mir : List (Int × Int)} {side : Int} {i : Nat} (hi : ¬ i < M.length) (s : St) : ∀ f, goM M mir side f i s = some s
  | 0 => rfl
  | f + 1 => by rw [goM, if_neg hi]
theorem goM_yes {M : List (List Rg)} {mir : List (Int × Int)} {side : Int} {i : Nat} (hi : i < M.length) (s : St) (f : Nat) : goM M mir side (f + 1) i s =
    if tellE (M.getD i []) s.pos = 0 then
      if (recR M mir i (tellW (M.getD i []) s.pos side)).2.2 = true then
        goM M mir side f ((recR M mir i (tellW (M.getD i []) s.pos side)).2.1.toNat + 1) { s with pos := (recR M mir i (tellW (M.getD i []) s.pos side)).1 }
      else goM M mir side f (i + 1) ⟨(tellW (M.getD i []) s.pos side).pos, s.gone || (tellW (M.getD i []) s.pos side).gone, s.inside || (tellW (M.getD i []) s.pos side).inside⟩
    else none := by rw [goM, if_pos hi]
/-- enough fuel is enough -/
theorem goM_fuel (M : List (List Rg)) (mir : List (Int × Int)) (side : Int) : ∀ (f i : Nat) (s : St), M.length - i ≤ f → goM M mir side (f + 1) i s = goM M mir side f i s
  | 0, i, s, h => by
    have : ¬ i < M.length := by omega
    simp [goM, this]
  | f + 1, i, s, h => by
    by_cases hi : i < M.length
    · rw [goM_yes hi s (f + 1), goM_yes hi s f]
      split
      · split
        · rename_i g
          have := (recR_ge g).1
          exact goM_fuel M mir side f _ _ (by omega)
        · exact goM_fuel M mir side f _ _ (by omega)
      · rfl
    · rw [goM_no hi, goM_no hi]
end Go.Proofs.Ytnffgomgfabapaa.Rt
