/- Walks of route: check, Add. -/
import Derived.Test.YtnffgomgfabapaaRtB
import Derived.Test.YtnffgomgfabapaaSmI
namespace Go.Proofs.Ytnffgomgfabapaa.Rt
open Go.RowKit Mem Sm
set_option linter.unusedVariables false

noncomputable def chkE (l : List Rg) : Int := if rightB l = true then 0 else 1
set_option maxRecDepth 100000 in
set_option maxHeartbeats 1000000 in
theorem check_any (base p : Nat) (v mp : Value) (vs : List Value) (M : List (List Rg)) (mir : List (Int × Int)) (l : List Rg) (A : Option Addr) (n c : Nat) (W : World) (hM : M.length ≤ 1000) (hn : n ≤ 100)
    (h : RtAt base W p v mp vs M mir) (hr : RRow W A n l) :
    Calls Try.prog 26 #[.pointer (some ⟨p, 0, none⟩), .slice A n c] W fun e W' => e = .returned (.int .i64 (chkE l)) ∧ Below W.heap.size W W' := by
  obtain ⟨A1, c1, hv⟩ := h.form
  subst hv
  have CR := pright_any l A n c W hn (RLow.of hr)
  have HT := Lib.hid h
  obtain ⟨E, hE⟩ : ∃ x, x = chkE l := ⟨_, rfl⟩
  rw [← hE]
  have HE := Lib.hid hE
  obtain ⟨NL, hNL⟩ : ∃ x, x = M.length := ⟨_, rfl⟩
  have HNL := Lib.hid hNL
  have hM' : ¬ (5000 ≤ NL) := by omega
  clear h hr hE hNL hM
  go_enter Try.func26, Try.ntmps26
  go_wp2_with fail
  refine CR.mono ?_
  rintro e W1 ⟨rfl, hb⟩
  have HT1 := Lib.hid (HT.out.step hb)
  have HB1 := Lib.hid hb
  have hc := HT1.out.cells.1
  rw [← HNL.out] at hc
  clear hb CR HT
  cases hrb : rightB l with
  | false =>
    have e : E = 1 := by rw [HE.out, chkE, hrb]; simp
    subst e
    go_wp2
    go_ret
    exact ⟨rfl, HB1.out⟩
  | true =>
    have e : E = 0 := by rw [HE.out, chkE, hrb]; simp
    subst e
    go_wp2
    go_ret
    exact ⟨rfl, HB1.out⟩
def AddIs (base p : Nat) (v mp : Value) (vs : List Value) (M : List (List Rg)) (mir : List (Int × Int)) (l : List Rg) (W : World) (e : Ending) (W' : World) : Prop :=
  ((rightB l = true ∧ e = .returned (.int .i64 0) ∧ ∃ v' vs', RtAt base W' p v' mp vs' (M ++ [l]) mir) ∨ (rightB l = false ∧ e = .returned (.int .i64 1) ∧ RtAt base W' p v mp vs M mir)) ∧ RtF base p W W'
set_option maxRecDepth 100000 in
set_option maxHeartbeats 1000000 in
theorem add_any (base p : Nat) (v mp : Value) (vs : List Value) (M : List (List Rg)) (mir : List (Int × Int)) (l : List Rg) (A : Option Addr) (n c : Nat) (W : World) (hM : M.length ≤ 1000) (hn : n ≤ 100)
    (h : RtAt base W p v mp vs M mir) (hr : RRow W A n l) :
    Calls Try.prog 8 #[.pointer (some ⟨p, 0, none⟩), .slice A n c] W (AddIs base p v mp vs M mir l W) := by
  have CC := check_any base p v mp vs M mir l A n c W hM hn h hr
  have HT := Lib.hid h
  have HR := Lib.hid hr
  have hbs := h.base_le
  clear h hr
  cases hrb : rightB l with
  | false =>
    rw [show chkE l = 1 by rw [chkE, hrb]; simp] at CC
    go_enter Try.func8, Try.ntmps8
    go_wp2_with fail
    refine CC.mono ?_
    rintro e W1 ⟨rfl, hb⟩
    have HT1 := Lib.hid (HT.out.step hb)
    have HF := Lib.hid (RtF.of_below (p := p) hb hbs)
    clear hb CC HT HR
    go_wp2
    go_ret
    exact ⟨.inr ⟨hrb, rfl, HT1.out⟩, HF.out⟩
  | true =>
    rw [show chkE l = 0 by rw [chkE, hrb]; simp] at CC
    go_enter Try.func8, Try.ntmps8
    go_wp2_with fail
    refine CC.mono ?_
    rintro e W1 ⟨rfl, hb⟩
    have HT1 := Lib.hid (HT.out.step hb)
    have HF := Lib.hid (RtF.of_below (p := p) hb hbs)
    have CP := put_any base p v mp vs M mir l A n c W1 hM hn HT1.out (HR.out.below hb)
    clear hb CC HT HR
    go_wp2_with fail
    refine CP.mono ?_
    rintro e W2 ⟨⟨x, rfl⟩, h2, hf2⟩
    have H2 := Lib.hid h2
    have HF2 := Lib.hid (HF.out.trans hf2)
    clear h2 hf2 CP HT1 HF
    go_wp2
    go_ret
    exact ⟨.inl ⟨hrb, rfl, H2.out⟩, HF2.out⟩
end Go.Proofs.Ytnffgomgfabapaa.Rt
