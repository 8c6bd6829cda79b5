/- Route parts: the law. -/
import Derived.Test.YtnffgomgfabapaaRpA
import Derived.Test.YtnffgomgfabapaaRpN
import Derived.Test.YtnffgomgfabapaaRpV
import Derived.Test.YtnffgomgfabapaaRtM
import Derived.Test.YtnffgomgfabapaaRtL
namespace Go.Proofs.Ytnffgomgfabapaa.Rt
open Go.RowKit Mem Sm
set_option linter.unusedVariables false
set_option linter.unusedSimpArgs false
theorem MLow.lift {n₀ k n : Nat} {W : World} {A : Option Addr} {l : List Mi} (h : MLow n₀ W A n l) (hk : n₀ ≤ k) : MLow k W A n l :=
  ⟨h.1, fun hn => by
    obtain ⟨b, off, e, hl, hc⟩ := h.2 hn
    exact ⟨b, off, e, by omega, fun i hi => by
      obtain ⟨A, c, h0, h1, h2⟩ := hc i hi
      exact ⟨A, c, h0, h1, h2.lift hk⟩⟩⟩
theorem below_grow {k q : Nat} {w W W' : World} (hb : Below k w W) (hk : k ≤ W.heap.size) (hg : W.grownBy W' (some q)) (hq : k ≤ q) : Below k w W' := by
  refine hb.trans ⟨hg.os, hg.tape, hg.output, hg.size, fun j hj => ?_⟩
  refine hg.block j (by omega) (fun e => ?_)
  have := Option.some.inj e
  omega
theorem Rel.nums {M : List (List Rg)} {O : List Int} {mir : List (Int × Int)} (h : Rel M O mir) (hM : M.length ≤ 1000) : ∀ k, k < O.length → -1 ≤ O.getD k 0 ∧ O.getD k 0 ≤ 1000 := fun k hk => by
  rw [h.at_ k (by rw [← h.len]; exact hk)]
  cases hl : lk mir (k : Int) with
  | none => simp
  | some j => have := (h.bound _ (lk_some hl)).2; simp only [Option.getD_some] at this ⊢; omega
theorem ivL_small {M : List (List Rg)} (h : ∀ m ∈ M, m.length ≤ 20 ∧ rightB m = true) : ∀ m ∈ ivL M, m.length ≤ 100 := fun m hm => by
  unfold ivL at hm
  obtain ⟨x, hx, rfl⟩ := List.mem_map.1 hm
  rw [inv_length]
  have := (h x (by simpa using hx)).1
  omega
set_option maxRecDepth 100000 in
set_option maxHeartbeats 16000000 in
theorem parts_walk (A : Option Addr) (n c : Nat) (l : List Mi) (at_ : Int) (w : World) (hr : MLow w.heap.size w A n l) (hn : n ≤ maxLen) :
    Calls Try.prog 4 #[.slice A n c, .int .i64 at_] w fun e w' => e = .returned (.bool true) ∧ Below w.heap.size w w' := by
  have HR := Lib.hid hr
  have LV := fun W => live_any W
  have CF := few_any l A n c w hr
  clear hr
  go_enter Try.func4, Try.ntmps4
  go_wp2_with fail
  refine CF.mono ?_
  rintro e w8 ⟨rfl, hb8⟩
  have HB8 := Lib.hid hb8
  clear hb8 CF
  cases hfb : fewB l with
  | false =>
    go_wp2_with (go_at_call 16; refine (LV _).mono ?_; rintro e w2 ⟨rfl, hb⟩)
    go_ret
    exact ⟨rfl, HB8.out.trans (hb.mono HB8.out.size)⟩
  | true =>
    have CL := fill_any A n c l w8 ((HR.out.below HB8.out (Nat.le_refl _)).lift HB8.out.size) (few_of hfb)
    clear hfb HR
    go_wp2_with fail
    refine CL.mono ?_
    rintro e w9 ⟨p, v, mp, mv, ov, vs, vs2, M, O, mir, rfl, h9⟩
    obtain ⟨A8, c8, hm8, _⟩ := own_form h9.xt.mrow
    obtain ⟨A9, c9, hm9, _⟩ := own_form h9.xt.orow
    subst hm8; subst hm9
    have hba : Below w9.heap.size w9 (w9.alloc (.cells #[.slice A8 M.length c8, .slice A9 O.length c9] 44)) := (Below.refl _ _).alloc (Nat.le_refl _) _
    have HFE := Lib.hid (h9.step hba)
    have HX := Lib.hid (heap_alloc_new w9 (.cells #[.slice A8 M.length c8, .slice A9 O.length c9] 44))
    have HB10 := Lib.hid (HB8.out.trans ((h9.step hba).below.mono HB8.out.size))
    have hM30 := h9.len
    have HREL := Lib.hid h9.rel
    have HRGT := Lib.hid h9.right
    have HNUM := Lib.hid (h9.rel.nums (by omega))
    have HLEN := Lib.hid h9.rel.len
    have HMIR : Hid (∀ i j : Int, lk mir i = some j → 0 ≤ j ∧ j < M.length) := Lib.hid (fun i j e => (h9.rel.bound _ (lk_some e)).2)
    clear hba CL h9
    go_wp2_with fail
    have hsX : w9.heap.size < (w9.alloc (.cells #[.slice A8 M.length c8, .slice A9 O.length c9] 44)).heap.size := by simp
    generalize w9.alloc (.cells #[.slice A8 M.length c8, .slice A9 O.length c9] 44) = w10 at HFE HX HB10 hsX ⊢
    generalize w9.heap.size = X at HX hsX ⊢
    refine (from_any p p v mp vs M mir at_ w10 (by omega) HMIR.out HFE.out.rt).mono ?_
    rintro e w11 ⟨Af, mpf, rfl, hrd, hb11⟩
    have hcl := clip_le at_ M.length
    obtain ⟨I, hI⟩ : ∃ I, clip at_ M.length = I := ⟨_, rfl⟩
    rw [hI] at hrd hcl
    have HI := Lib.hid hI
    have HRD := Lib.hid hrd
    clear hI
    have HBX := Lib.hid hb11
    clear hrd hb11
    go_wp2_with fail
    refine (pinv_any p p v mp vs M mir w11 (by omega) HRGT.out HMIR.out (HFE.out.step HBX.out).rt).mono ?_
    rintro e w12 ⟨hinv, hb12⟩
    have HRD2 := Lib.hid (HRD.out.step hb12)
    have HBX2 := Lib.hid (HBX.out.trans (hb12.mono HBX.out.size))
    clear hb12 HRD HBX
    have HX2 := Lib.hid (hkeep HBX2.out HX.out)
    by_cases hgood : ∀ x ∈ ivL M, rightB x = true
    · rcases hinv with ⟨_, P, v3, mp3, vs3, rfl, hrt3⟩ | ⟨hno, _⟩
      · have HRT3 := Lib.hid hrt3
        clear hrt3
        obtain ⟨q0, q1, _, _⟩ := two HX2.out
        go_wp2_with fail
        refine (rinv_any w8.heap.size w8.heap.size (.slice A8 M.length c8) (.slice A9 O.length c9) vs2 M O w12 (by omega) HRGT.out HLEN.out HNUM.out (HFE.out.step HBX2.out).xt (HFE.out.step HBX2.out).below.size).mono ?_
        rintro e w13 (⟨_, mv2, ov2, vs5, rfl, hx5, hb13⟩ | ⟨hno, _⟩)
        · obtain ⟨A5, c5, hm5, _⟩ := own_form hx5.mrow
          obtain ⟨A6, c6, hm6, _⟩ := own_form hx5.orow
          subst hm5; subst hm6
          have hba : Below w13.heap.size w13 (w13.alloc (.cells #[.slice A5 (ivL M).length c5, .slice A6 (ivO O).length c6] 44)) := (Below.refl _ _).alloc (Nat.le_refl _) _
          have HY := Lib.hid (heap_alloc_new w13 (.cells #[.slice A5 (ivL M).length c5, .slice A6 (ivO O).length c6] 44))
          have HX5 := Lib.hid (hx5.step hba (Nat.le_refl _))
          have HRD3 := Lib.hid ((HRD2.out.step hb13).step hba)
          have HRT4 := Lib.hid ((HRT3.out.step hb13).step hba)
          have HBX3 := Lib.hid ((HBX2.out.trans (hb13.mono HBX2.out.size)).trans (hba.mono (Nat.le_trans HBX2.out.size hb13.size)))
          have hsY : w13.heap.size < (w13.alloc (.cells #[.slice A5 (ivL M).length c5, .slice A6 (ivO O).length c6] 44)).heap.size := by simp
          clear hx5 hb13 hba HRD2 HRT3 HBX2 q0 q1 HX2
          have HX3 := Lib.hid (hkeep HBX3.out HX.out)
          obtain ⟨q0, q1, _, _⟩ := two HX3.out
          go_wp2_with fail
          generalize w13.alloc (.cells #[.slice A5 (ivL M).length c5, .slice A6 (ivO O).length c6] 44) = w14 at HY HX5 HRD3 HRT4 HBX3 hsY HX3 q0 q1 ⊢
          generalize w13.heap.size = Y at HY HX5 hsY ⊢
          refine (rfrom_any w8.heap.size w8.heap.size (.slice A8 M.length c8) (.slice A9 O.length c9) vs2 M O at_ w14 (by omega) HLEN.out HNUM.out (HFE.out.step HBX3.out).xt (HFE.out.step HBX3.out).below.size).mono ?_
          rintro e w15 ⟨Ar, cr, ovr, rfl, hxr, hb15⟩
          rw [HI.out] at hxr
          rw [HI.out]
          have HXR := Lib.hid hxr
          obtain ⟨A7, c7, hm7, _⟩ := own_form hxr.orow
          subst hm7
          have HRD4 := Lib.hid (HRD3.out.step hb15)
          have HRT5 := Lib.hid (HRT4.out.step hb15)
          have HX6 := Lib.hid (HX5.out.step hb15 (by omega))
          have HBX4 := Lib.hid (HBX3.out.trans (hb15.mono HBX3.out.size))
          have HY2 := Lib.hid (hkeep hb15 HY.out)
          have hsY2 := Nat.lt_of_lt_of_le hsY hb15.size
          clear hxr hb15 HRD3 HRT4 HX5 HBX3 HX3 q0 q1 HY hsY
          go_wp2_with fail
          have CA1 := alike2_any w8.heap.size w14.heap.size w10.heap.size w10.heap.size Af (M.length - I) mpf Ar cr (.slice A7 (frO O I).length c7) (vs.drop I) (vs2.drop I) (M.drop I) (frO O I) (frM mir I (M.length - I)) w15 (by rw [List.length_drop]; omega) (fun m hm => by have := (HRGT.out m (List.mem_of_mem_drop hm)).1; omega) (rel_from HREL.out hcl) HRD4.out HXR.out (HFE.out.step HBX4.out).below.size
          simp only [List.length_drop] at CA1
          refine CA1.mono ?_
          rintro e w16 ⟨rfl, hb16⟩
          have HRD5 := Lib.hid (HRD4.out.step hb16)
          have HRT6 := Lib.hid (HRT5.out.step hb16)
          have HX7 := Lib.hid (HX6.out.step hb16 (by omega))
          have HBX5 := Lib.hid (HBX4.out.trans (hb16.mono HBX4.out.size))
          have HY3 := Lib.hid (hkeep hb16 HY2.out)
          have hsY3 := Nat.lt_of_lt_of_le hsY2 hb16.size
          clear hb16 HRD4 HRT5 HX6 HBX4 HXR HY2 hsY2
          obtain ⟨q0, q1, _, _⟩ := two HY3.out
          go_wp2_with fail
          obtain ⟨Ai, ci, _, hrdi⟩ := HRT6.out.read
          obtain ⟨Ax, cx, hax, hxrd⟩ := HX7.out.read
          simp only [Value.slice.injEq] at hax
          obtain ⟨hax1, _, hax2⟩ := hax
          subst hax1; subst hax2
          refine (alike2_any Y w12.heap.size P P Ai ci mp3 A5 c5 (.slice A6 (ivO O).length c6) vs3 vs5 (ivL M) (ivO O) (ivM mir M.length M.length) w16 (by rw [ivL_len]; omega) (ivL_small HRGT.out) (rel_invert HREL.out (ivL_len M)) hrdi hxrd (by omega)).mono ?_
          rintro e w17 ⟨rfl, hb17⟩
          have HRD6 := Lib.hid (HRD5.out.step hb17)
          have HBX6 := Lib.hid (HBX5.out.trans (hb17.mono HBX5.out.size))
          clear hb17 HRD5 HRT6 HX7 HBX5 HY3 hsY3 hrdi hxrd q0 q1
          go_wp2_with fail
          have hba := (Below.refl w17.heap.size w17).alloc (Nat.le_refl _) (.cells #[.int .i64 1, .int .i64 1, .int .i64 0] 56)
          have hrr := rrow_one w17 ⟨1, 1, 0⟩
          have HRDa := Lib.hid (HRD6.out.step hba)
          have HBXa := Lib.hid (HBX6.out.trans (hba.mono HBX6.out.size))
          have CP := padd2_any w10.heap.size w10.heap.size Af mpf (vs.drop I) (M.drop I) (frM mir I (M.length - I)) [⟨1, 1, 0⟩] (some ⟨w17.heap.size, 0, none⟩) 1 1 (w17.alloc (.cells #[.int .i64 1, .int .i64 1, .int .i64 0] 56)) (by rw [List.length_drop]; omega) (by omega) (by rw [List.length_drop]; exact HRDa.out) hrr
          refine CP.mono ?_
          rintro e w18 ⟨⟨x, rfl⟩, hg⟩
          have HBX8 := Lib.hid (below_grow HBXa.out HBXa.out.size hg (Nat.le_refl _))
          clear hba hrr HRDa HBXa CP hg HRD6 HBX6
          have HX8 := Lib.hid (hkeep HBX8.out HX.out)
          obtain ⟨q0, q1, _, _⟩ := two HX8.out
          go_wp2_with fail
          obtain ⟨Ap, cp, _, hrd9⟩ := (HFE.out.step HBX8.out).rt.read
          obtain ⟨Ax9, cx9, hax9, hxr9⟩ := (HFE.out.step HBX8.out).xt.read
          simp only [Value.slice.injEq] at hax9
          obtain ⟨hax1, _, hax2⟩ := hax9
          subst hax1; subst hax2
          refine (alike2_any w8.heap.size w8.heap.size p p Ap cp mp A8 c8 (.slice A9 O.length c9) vs vs2 M O mir w18 (by omega) (fun m hm => by have := (HRGT.out m hm).1; omega) HREL.out.toA hrd9 hxr9 (HFE.out.step HBX8.out).below.size).mono ?_
          rintro e w19 ⟨rfl, hb19⟩
          have HBX9 := Lib.hid (HBX8.out.trans (hb19.mono HBX8.out.size))
          clear hb19 hrd9 hxr9 q0 q1 HX8 HBX8
          go_wp2_with fail
          refine (LV _).mono ?_
          rintro e w20 ⟨rfl, hb20⟩
          have HB20 := Lib.hid (HB10.out.trans ((HBX9.out.trans (hb20.mono HBX9.out.size)).mono HB10.out.size))
          clear hb20 HBX9
          go_wp2
          go_ret
          exact ⟨rfl, HB20.out⟩
        · exact absurd hgood hno
      · exact absurd hgood hno
    · rcases hinv with ⟨hyes, _⟩ | ⟨_, rfl⟩
      · exact absurd hyes hgood
      · obtain ⟨q0, q1, _, _⟩ := two HX2.out
        go_wp2_with fail
        refine (rinv_any w8.heap.size w8.heap.size (.slice A8 M.length c8) (.slice A9 O.length c9) vs2 M O w12 (by omega) HRGT.out HLEN.out HNUM.out (HFE.out.step HBX2.out).xt (HFE.out.step HBX2.out).below.size).mono ?_
        rintro e w13 (⟨hyes, _⟩ | ⟨_, rfl, hb13⟩)
        · exact absurd hyes hgood
        · have hba : Below w13.heap.size w13 (w13.alloc (.cells #[.slice none 0 0, .slice none 0 0] 44)) := (Below.refl _ _).alloc (Nat.le_refl _) _
          have HRD3 := Lib.hid ((HRD2.out.step hb13).step hba)
          have HBX3 := Lib.hid ((HBX2.out.trans (hb13.mono HBX2.out.size)).trans (hba.mono (Nat.le_trans HBX2.out.size hb13.size)))
          clear hb13 hba HRD2 HBX2 q0 q1 HX2
          have HX3 := Lib.hid (hkeep HBX3.out HX.out)
          obtain ⟨q0, q1, _, _⟩ := two HX3.out
          go_wp2_with fail
          generalize w13.alloc (.cells #[.slice none 0 0, .slice none 0 0] 44) = w14 at HRD3 HBX3 HX3 q0 q1 ⊢
          refine (rfrom_any w8.heap.size w8.heap.size (.slice A8 M.length c8) (.slice A9 O.length c9) vs2 M O at_ w14 (by omega) HLEN.out HNUM.out (HFE.out.step HBX3.out).xt (HFE.out.step HBX3.out).below.size).mono ?_
          rintro e w15 ⟨Ar, cr, ovr, rfl, hxr, hb15⟩
          rw [HI.out] at hxr
          rw [HI.out]
          have HXR := Lib.hid hxr
          obtain ⟨A7, c7, hm7, _⟩ := own_form hxr.orow
          subst hm7
          have HRD4 := Lib.hid (HRD3.out.step hb15)
          have HBX4 := Lib.hid (HBX3.out.trans (hb15.mono HBX3.out.size))
          clear hxr hb15 HRD3 HBX3 HX3 q0 q1
          go_wp2_with fail
          have CA1 := alike2_any w8.heap.size w14.heap.size w10.heap.size w10.heap.size Af (M.length - I) mpf Ar cr (.slice A7 (frO O I).length c7) (vs.drop I) (vs2.drop I) (M.drop I) (frO O I) (frM mir I (M.length - I)) w15 (by rw [List.length_drop]; omega) (fun m hm => by have := (HRGT.out m (List.mem_of_mem_drop hm)).1; omega) (rel_from HREL.out hcl) HRD4.out HXR.out (HFE.out.step HBX4.out).below.size
          simp only [List.length_drop] at CA1
          refine CA1.mono ?_
          rintro e w16 ⟨rfl, hb16⟩
          have HRD6 := Lib.hid (HRD4.out.step hb16)
          have HBX6 := Lib.hid (HBX4.out.trans (hb16.mono HBX4.out.size))
          clear hb16 HRD4 HBX4 HXR CA1
          go_wp2_with fail
          have hba := (Below.refl w16.heap.size w16).alloc (Nat.le_refl _) (.cells #[.int .i64 1, .int .i64 1, .int .i64 0] 56)
          have hrr := rrow_one w16 ⟨1, 1, 0⟩
          have HRDa := Lib.hid (HRD6.out.step hba)
          have HBXa := Lib.hid (HBX6.out.trans (hba.mono HBX6.out.size))
          have CP := padd2_any w10.heap.size w10.heap.size Af mpf (vs.drop I) (M.drop I) (frM mir I (M.length - I)) [⟨1, 1, 0⟩] (some ⟨w16.heap.size, 0, none⟩) 1 1 (w16.alloc (.cells #[.int .i64 1, .int .i64 1, .int .i64 0] 56)) (by rw [List.length_drop]; omega) (by omega) (by rw [List.length_drop]; exact HRDa.out) hrr
          refine CP.mono ?_
          rintro e w18 ⟨⟨x, rfl⟩, hg⟩
          have HBX8 := Lib.hid (below_grow HBXa.out HBXa.out.size hg (Nat.le_refl _))
          clear hba hrr HRDa HBXa CP hg HRD6 HBX6
          have HX8 := Lib.hid (hkeep HBX8.out HX.out)
          obtain ⟨q0, q1, _, _⟩ := two HX8.out
          go_wp2_with fail
          obtain ⟨Ap, cp, _, hrd9⟩ := (HFE.out.step HBX8.out).rt.read
          obtain ⟨Ax9, cx9, hax9, hxr9⟩ := (HFE.out.step HBX8.out).xt.read
          simp only [Value.slice.injEq] at hax9
          obtain ⟨hax1, _, hax2⟩ := hax9
          subst hax1; subst hax2
          refine (alike2_any w8.heap.size w8.heap.size p p Ap cp mp A8 c8 (.slice A9 O.length c9) vs vs2 M O mir w18 (by omega) (fun m hm => by have := (HRGT.out m hm).1; omega) HREL.out.toA hrd9 hxr9 (HFE.out.step HBX8.out).below.size).mono ?_
          rintro e w19 ⟨rfl, hb19⟩
          have HBX9 := Lib.hid (HBX8.out.trans (hb19.mono HBX8.out.size))
          clear hb19 hrd9 hxr9 q0 q1 HX8 HBX8
          go_wp2_with fail
          refine (LV _).mono ?_
          rintro e w20 ⟨rfl, hb20⟩
          have HB20 := Lib.hid (HB10.out.trans ((HBX9.out.trans (hb20.mono HBX9.out.size)).mono HB10.out.size))
          clear hb20 HBX9
          go_wp2
          go_ret
          exact ⟨rfl, HB20.out⟩
/-- the door: as the row hands the arguments over -/
theorem parts_door (A : Option Addr) (n c : Nat) (l : List Mi) (at_ : Int) (w : World) (hr : MLow w.heap.size w A n l) (hn : n ≤ maxLen) (_ : (Lit.int .i64 at_).wf = true) :
    Calls Try.prog 4 #[.slice A n c, .int .i64 at_] w fun e w' => e = .returned (.bool true) ∧ Below w.heap.size w w' :=
  parts_walk A n c l at_ w hr hn
end Go.Proofs.Ytnffgomgfabapaa.Rt
