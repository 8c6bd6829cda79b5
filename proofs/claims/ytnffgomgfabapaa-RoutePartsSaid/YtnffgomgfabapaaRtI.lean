/- Walks of route: through maps and their mirrored inverses a position comes to itself; plain. -/
import Derived.Test.YtnffgomgfabapaaRtH
namespace Go.Proofs.Ytnffgomgfabapaa.Rt
open Go.RowKit Mem Sm
set_option linter.unusedVariables false

theorem tellE_zero {l : List Rg} {pos : Int} (h : tellE l pos = 0) : rightB l = true ∧ mayB pos = true := by
  unfold tellE at h
  by_cases h1 : rightB l = true <;> by_cases h2 : mayB pos = true <;> simp_all
theorem recR_no {M : List (List Rg)} {mir : List (Int × Int)} {i j : Int} {q : Pl} (hl : lk mir i = some j) (h : ¬ (q.gone = true ∧ i ≤ j)) : recR M mir i q = (0, 0, false) := by
  unfold recR; rw [hl]; simp only; rw [if_neg h]
theorem recR_yes {M : List (List Rg)} {mir : List (Int × Int)} {i j : Int} {q : Pl} (hl : lk mir i = some j) (h : q.gone = true ∧ i ≤ j) : recR M mir i q = (recN (M.getD j.toNat []) q.rng q.off, j, recB (M.getD j.toNat []) q.rng q.off) := by
  unfold recR; rw [hl]; simp only; rw [if_pos h]
/-- the maps, then their inverses, the last one's first, each of which mirrors its own -/
structure Bk (n : Nat) (L : List (List Rg)) (mir : List (Int × Int)) : Prop where
  len : L.length = 2 * n
  back : ∀ k, k < n → L.getD (2 * n - 1 - k) [] = inv (L.getD k [])
  mir : ∀ i, i < 2 * n → lk mir (i : Nat) = some ((2 * n - 1 - i : Nat) : Int)
theorem back_goes {n : Nat} {L : List (List Rg)} {mir : List (Int × Int)} (B : Bk n L mir) (hR0 : ∀ k, k < n → rightB (L.getD k []) = true) (hR : ∀ k, k < n → rightB (inv (L.getD k [])) = true) (x side : Int) : ∀ (f i : Nat) (s : St), 2 * n - i ≤ f → s.gone = false → s.inside = false → (∃ (k : Nat) (P : Nat → Int), Sm.Way L x side P k ∧ k ≤ n ∧ (i = k ∨ i = 2 * n - k) ∧ s.pos = P k) →
    goM L mir side f i s = none ∨ goM L mir side f i s = some ⟨x, false, false⟩
  | f, i, s, hf, hg, hi, ⟨k, P, hW, hk, hik, hp⟩ => by
    obtain ⟨sp, sg, si⟩ := s
    simp only at hg hi hp
    subst hg; subst hi
    by_cases hlt : i < 2 * n
    · obtain ⟨f, rfl⟩ : ∃ g, f = g + 1 := ⟨f - 1, by omega⟩
      rw [goM_yes (by rw [B.len]; exact hlt)]
      simp only
      by_cases he : tellE (L.getD i []) sp = 0
      · rw [if_pos he]
        obtain ⟨hr, hm⟩ := tellE_zero he
        have ht : tellW (L.getD i []) sp side = tell (L.getD i []) sp side := by unfold tellW; rw [if_pos ⟨hr, hm⟩]
        rw [ht]
        have hok := rightB_iff.1 hr
        by_cases hin : i < n
        · obtain rfl : i = k := by omega
          subst hp
          cases hgo : (tell (L.getD i []) (P i) side).gone with
          | true =>
            obtain ⟨j, hj, h1, h2, h3, h4⟩ := tell_gone hok (P i) side hgo
            have hb : L.getD ((2 * n - 1 - i : Nat) : Int).toNat [] = inv (L.getD i []) := by rw [Int.toNat_natCast]; exact B.back i hin
            have hrec : recOk (inv (L.getD i [])) ((tell (L.getD i []) (P i) side).rng) ((tell (L.getD i []) (P i) side).off) :=
              ⟨hR i hin, j, by rw [inv_length]; exact hj, h1.symm, h2, h3⟩
            rw [recR_yes (B.mir i hlt) ⟨hgo, by omega⟩, hb, recB_yes hrec, h1, recN_yes (h1 ▸ hrec), h4]
            simp only [if_true, Int.toNat_natCast]
            exact back_goes B hR0 hR x side f (2 * n - 1 - i + 1) _ (by omega) rfl rfl ⟨i, P, hW, hk, .inr (by omega), rfl⟩
          | false =>
            rw [recR_no (B.mir i hlt) (by rw [hgo]; simp), inside_gone _ _ hgo]
            simp only [Bool.false_eq_true, if_false, Bool.or_false]
            obtain ⟨Q, hQ, hq⟩ := hW.step hgo
            exact back_goes B hR0 hR x side f (i + 1) _ (by omega) rfl rfl ⟨i + 1, Q, hQ, by omega, .inl rfl, hq.symm⟩
        · obtain ⟨k', rfl⟩ : ∃ k', k = k' + 1 := ⟨k - 1, by omega⟩
          have hi2 : i = 2 * n - 1 - k' := by omega
          have hw := hW.2 k' (by omega)
          have hL : L.getD i [] = inv (L.getD k' []) := by rw [hi2]; exact B.back k' (by omega)
          have hokk : okTo (L.getD k' []) (L.getD k' []).length := rightB_iff.1 (hR0 k' (by omega))
          have hs1 := tell_back_stays hokk (P k') side hw.1
          have hs2 := tell_back hokk (P k') side hw.1
          rw [← hw.2, ← hp, ← hL] at hs1 hs2
          rw [recR_no (B.mir i hlt) (by rw [hs1]; simp), inside_gone _ _ hs1, hs1, hs2]
          simp only [Bool.false_eq_true, if_false, Bool.or_false]
          exact back_goes B hR0 hR x side f (i + 1) _ (by omega) rfl rfl ⟨k', P, ⟨hW.1, fun j hj => hW.2 j (by omega)⟩, by omega, .inr (by omega), rfl⟩
      · rw [if_neg he]; exact .inl rfl
    · rw [goM_no (by rw [B.len]; exact hlt)]
      have : k = 0 := by omega
      subst this
      rw [hp, hW.1]
      exact .inr rfl
termination_by f => f
end Go.Proofs.Ytnffgomgfabapaa.Rt
