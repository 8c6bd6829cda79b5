/- Walks of the reference of routes: Free. -/
import Derived.Test.YtnffgomgfabapaaRtP
namespace Go.Proofs.Ytnffgomgfabapaa.Rt
open Go.RowKit Mem Sm
set_option linter.unusedVariables false

def freeB (M : List (List Rg)) (O : List Int) (of : Int) : Bool := decide (0 ≤ of ∧ of < M.length ∧ O.getD of.toNat 0 < 0)
theorem own_at {w : World} {base n : Nat} {e : TypeId} {v : Value} {us : List Value} (h : w.ownsRow base e 1 v n us) {j : Nat} {u : Value} (hu : us[j]? = some u) : ∃ g c, v = .slice (some ⟨g, 0, none⟩) n c ∧ g < w.heap.size ∧ base ≤ g ∧ w.cell? ⟨g, j, none⟩ = some u := by
  obtain ⟨A, c, rfl, hc, hv, hs⟩ := own_form h
  have hj : j < n := by rw [← hv.1]; exact (List.getElem?_eq_some_iff.1 hu).1
  obtain ⟨b, off, e, hb, hcc⟩ := hv.2 (by omega)
  subst e
  obtain ⟨_, h0⟩ := hs _ rfl
  simp only at h0
  subst h0
  exact ⟨b, c, rfl, hb, (own_young h b rfl).2, by have := hcc j u hu; rwa [Nat.zero_add] at this⟩
theorem ints_at {O : List Int} {k : Nat} (h : k < O.length) : (ints O)[k]? = some (.int .i64 (O.getD k 0)) := by
  simp [ints, h, List.getD]
set_option maxRecDepth 100000 in
theorem free_any (n₀ base : Nat) (mv ov : Value) (vs : List Value) (M : List (List Rg)) (O : List Int) (of : Int) (w : World) (hM : M.length ≤ 1000) (hO : O.length = M.length) (h : XAt n₀ base w mv ov vs M O) :
    Calls Try.prog 32 #[.agg #[mv, ov], .int .i64 of] w fun e w' => e = .returned (.bool (freeB M O of)) ∧ Below w.heap.size w w' := by
  have HO := Lib.hid h.orow
  obtain ⟨A0, c0, hmv, _⟩ := own_form h.mrow
  obtain ⟨A1, c1, hov, _⟩ := own_form h.orow
  subst hmv; subst hov
  have HB := Lib.hid ((Below.refl _ w).alloc (Nat.le_refl _) (.cells #[.slice A0 M.length c0, .slice A1 O.length c1] 44))
  have HOL := Lib.hid hO
  obtain ⟨F, hF⟩ : ∃ b, b = freeB M O of := ⟨_, rfl⟩
  rw [← hF]
  have HF := Lib.hid hF
  clear hF h hO
  by_cases h0 : 0 ≤ of
  · by_cases h1 : of < M.length
    · obtain ⟨k, rfl⟩ : ∃ k : Nat, of = k := ⟨of.toNat, by omega⟩
      have hk : k < O.length := by rw [HOL.out]; omega
      obtain ⟨g, c8, e8, hgl, _, hgc⟩ := own_at (own_keep HO.out (grown_below ((Below.refl _ w).alloc (Nat.le_refl _) (.cells #[.slice A0 M.length c0, .slice A1 O.length c1] 44))) (fun g e => by cases e)) (ints_at hk)
      injection e8 with e8 _ e9
      subst e8; subst e9
      have hkl : (k : Int) < (O.length : Int) := by omega
      obtain ⟨z, hz⟩ : ∃ z, z = O.getD k 0 := ⟨_, rfl⟩
      rw [← hz] at hgc
      have N : F = decide (z < 0) := by
        rw [HF.out, hz]; unfold freeB
        simp [h1]
      have HN := Lib.hid N
      clear hz N
      by_cases hneg : z < 0
      · go_enter Try.func32, Try.ntmps32
        go_wp2
        go_ret
        exact ⟨ret_bool (by rw [HN.out]; simp [hneg]), HB.out⟩
      · go_enter Try.func32, Try.ntmps32
        go_wp2
        go_ret
        exact ⟨ret_bool (by rw [HN.out]; simp; omega), HB.out⟩
    · have N : F = false := by rw [HF.out]; unfold freeB; simp [h1]
      subst N
      go_enter Try.func32, Try.ntmps32
      go_wp2
      go_ret
      exact ⟨ret_bool (by simp), HB.out⟩
  · have N : F = false := by rw [HF.out]; unfold freeB; simp [h0]
    subst N
    go_enter Try.func32, Try.ntmps32
    go_wp2
    go_ret
    exact ⟨ret_bool (by simp), HB.out⟩
end Go.Proofs.Ytnffgomgfabapaa.Rt
