/- Walks of route: Of, At. -/
import Derived.Test.YtnffgomgfabapaaRtLw
import Derived.Test.YtnffgomgfabapaaSmF
namespace Go.Proofs.Ytnffgomgfabapaa.Rt
open Go.RowKit Mem Sm
set_option linter.unusedVariables false

theorem of_any (base p : Nat) (v mp : Value) (vs : List Value) (M : List (List Rg)) (mir : List (Int × Int)) (i : Int) (w : World) (h : RtAt base w p v mp vs M mir) :
    Calls Try.prog 6 #[.pointer (some ⟨p, 0, none⟩), .int .i64 i] w fun e w' => e = .returned (.tuple #[.int .i64 ((lk mir i).getD 0), .bool (lk mir i).isSome]) ∧ w' = w := by
  have hLk := look_mp (P := Try.prog) (e := 3) Try.underlying58 Try.underlying3 (by go_simp; try rfl) h.mps i
  have hc1 := h.cells.2.1
  generalize (lk mir i).getD 0 = k at hLk ⊢
  generalize (lk mir i).isSome = b at hLk ⊢
  clear h
  go_enter Try.func6, Try.ntmps6
  go_wp2
  go_ret2
  exact ⟨rfl, rfl⟩
def atL (M : List (List Rg)) (i : Int) : List Rg := if 0 ≤ i ∧ i < M.length then M.getD i.toNat [] else []
theorem at_any (base p : Nat) (v mp : Value) (vs : List Value) (M : List (List Rg)) (mir : List (Int × Int)) (i : Int) (w : World) (hM : M.length ≤ 1000) (hm : ∀ m ∈ M, m.length ≤ 100) (h : RtAt base w p v mp vs M mir) :
    Calls Try.prog 11 #[.pointer (some ⟨p, 0, none⟩), .int .i64 i] w (RgsIs w (atL M i)) := by
  have CL := len_any base p v mp vs M mir w h
  have HT := Lib.hid h
  obtain ⟨L, hL⟩ : ∃ L, L = atL M i := ⟨_, rfl⟩
  rw [← hL]
  have HL := Lib.hid hL
  clear h hL
  by_cases h0 : i < 0
  · have e : L = [] := by rw [HL.out]; unfold atL; rw [if_neg (by omega)]
    subst e
    go_enter Try.func11, Try.ntmps11
    go_wp2
    go_ret
    exact ⟨_, rfl, Rgs.nil, Below.refl _ _⟩
  · by_cases h1 : (M.length : Int) ≤ i
    · have e : L = [] := by rw [HL.out]; unfold atL; rw [if_neg (by omega)]
      subst e
      go_enter Try.func11, Try.ntmps11
      go_wp2_with fail
      refine CL.mono ?_
      rintro e w1 ⟨rfl, hb⟩
      have HB := Lib.hid hb
      clear hb CL
      go_wp2
      go_ret
      exact ⟨_, rfl, Rgs.nil, HB.out⟩
    · obtain ⟨k, rfl⟩ : ∃ k : Nat, i = k := ⟨i.toNat, by omega⟩
      have hk : k < M.length := by omega
      have e : L = M[k] := by rw [HL.out]; unfold atL; rw [if_pos (by omega)]; simp [List.getD, hk]
      have hkm := hm _ (List.getElem_mem hk)
      have HE := Lib.hid e
      rw [← e] at hkm
      clear e
      go_enter Try.func11, Try.ntmps11
      go_wp2_with fail
      refine CL.mono ?_
      rintro e w1 ⟨rfl, hb⟩
      have HB := Lib.hid hb
      have HT1 := HT.out.step hb
      obtain ⟨hc0, _, _, _⟩ := HT1.cells
      obtain ⟨g, cap, A, c, hv, _, hcell, hrow⟩ := HT1.nth hk
      subst hv
      rw [← HE.out] at hcell hrow
      have i1 : (0 : Int) ≤ (k : Int) := by omega
      have i2 : (k : Int) < (M.length : Int) := by omega
      have CC := clone_any L A _ c w1 hkm hrow
      clear hb CL HT1 hrow
      go_wp2_with fail
      refine CC.mono ?_
      rintro e w2 ⟨u, rfl, ho, hb2⟩
      have HO := Lib.hid ho
      have HB2 := Lib.hid (HB.out.trans (hb2.mono HB.out.size))
      obtain ⟨A2, c2, hu, _⟩ := ho.row
      subst hu
      clear hb2 ho CC
      go_wp2
      go_ret
      exact ⟨_, rfl, ⟨HO.out.lower HB.out.size, HB2.out⟩⟩
end Go.Proofs.Ytnffgomgfabapaa.Rt
