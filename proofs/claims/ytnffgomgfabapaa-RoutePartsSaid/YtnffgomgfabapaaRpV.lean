/- Route parts: the reference's From. Route parts: alike, of routes whose rows are read (not the call's own). -/
import Derived.Test.YtnffgomgfabapaaRpL
namespace Go.Proofs.Ytnffgomgfabapaa.Rt
open Go.RowKit Mem Sm
set_option linter.unusedVariables false
set_option linter.unusedSimpArgs false
set_option maxRecDepth 100000 in
set_option maxHeartbeats 4000000 in
theorem rfrom_any (n₀ base : Nat) (mv ov : Value) (vs : List Value) (M : List (List Rg)) (O : List Int) (at_ : Int) (w : World) (hM : M.length ≤ 1000) (hlen : O.length = M.length) (hO : ∀ k, k < O.length → -1 ≤ O.getD k 0 ∧ O.getD k 0 ≤ 1000) (hX : XAt n₀ base w mv ov vs M O) (hn₀ : n₀ ≤ w.heap.size) :
    Calls Try.prog 21 #[.agg #[mv, ov], .int .i64 at_] w fun e w' => ∃ A c ov', e = .returned (.agg #[.slice A (M.drop (clip at_ M.length)).length c, ov']) ∧ XRd n₀ w.heap.size w' A c ov' (vs.drop (clip at_ M.length)) (M.drop (clip at_ M.length)) (frO O (clip at_ M.length)) ∧ Below w.heap.size w w' := by
  obtain ⟨A0, c0, hmv, hc0, hr0, ha0⟩ := own_form hX.mrow
  obtain ⟨A1, c1, hov, _⟩ := own_form hX.orow
  subst hmv; subst hov
  have HX := Lib.hid hX
  have HO := Lib.hid hO
  have HL := Lib.hid hlen
  have hcl := clip_is at_ M.length
  have hle := clip_le at_ M.length
  generalize clip at_ M.length = I at hcl hle ⊢
  obtain ⟨m, hm⟩ : ∃ m, M.length = m := ⟨_, rfl⟩
  have HMM := Lib.hid hm
  have hol : O.length = m := by omega
  rw [hol]
  rw [hm] at hM hc0 hr0 hcl hle ⊢
  have HOL := Lib.hid hol
  have HFM := Lib.hid (show (M.drop I).length = m - I by rw [List.length_drop, hm])
  rw [HFM.out]
  have hI0 : (0 : Int) ≤ (I : Int) := by omega
  have hI1 : (I : Int) ≤ (m : Int) := by omega
  have hc1 : (m : Int) ≤ (c0 : Int) := by omega
  have HR0 := Lib.hid hr0
  have HA0 := Lib.hid ha0
  have HCL := Lib.hid hcl
  clear hX hO hlen hr0 ha0 hm hol
  go_enter Try.func21, Try.ntmps21
  go_upto_region 1 with fail
  go_cut [1] from 8 to 13 (fun v wx => v = .int .i64 (I : Int) ∧ wx = (w.alloc (.cells #[.slice A0 m c0, .slice A1 m c1] 44)).alloc (.cells #[.slice none 0 0, .slice none 0 0] 44))
  case first =>
    go_wp2_with fail
    all_goals (go_meet; exact ⟨by congr 1; omega, rfl⟩)
  case rest =>
  obtain ⟨rfl, rfl⟩ := hcut
  clear hcl
  go_upto_region 2 with fail
  go_cut [5] from 14 to 18 (fun v wx => ∃ (A : Option Addr) (c : Nat), v = .pointer (some ⟨w.heap.size + 2, 0, none⟩) ∧ Hid (LG w wx (.slice A0 m c0) (.slice A1 m c1) (.slice A (m - I) c) (.slice none 0 0)) ∧ Hid (VRow w A (m - I) (vs.drop I)))
  case first =>
    have hLG := fun m' => LG.made w (.slice A0 m c0) (.slice A1 m c1) m'
    rcases A0 with _ | ⟨g, og, sp⟩
    · obtain ⟨hm0, hvs⟩ := vrow_none (i := I) HR0.out
      subst hm0
      obtain rfl : I = 0 := by omega
      have HLG := Lib.hid hLG
      clear hLG
      go_wp2_with fail
      go_meet
      exact ⟨none, _, rfl, Lib.hid (HLG.out _), Lib.hid (by rw [hvs]; exact VRow.nil)⟩
    · obtain ⟨hsp, hog⟩ := HA0.out _ rfl
      simp only at hsp hog
      subst hsp; subst hog
      have HLG := Lib.hid hLG
      clear hLG
      have HVD := Lib.hid (vrow_drop HR0.out hle)
      rw [Nat.zero_add] at HVD
      have HVE := Lib.hid (fun A' (h : m ≤ I) => vrow_end (A' := A') (i := I) HR0.out h)
      have HC0 := Lib.hid hc0
      by_cases hcI : c0 = I
      · subst hcI
        go_wp2_with fail
        go_meet
        refine ⟨some ⟨g, 0, none⟩, 0, rfl, Lib.hid ?_, Lib.hid (HVE.out _ HC0.out)⟩
        rw [Nat.sub_eq_zero_of_le HC0.out]
        exact HLG.out _
      · go_wp2_with fail
        go_meet
        exact ⟨some ⟨g, I, none⟩, c0 - I, rfl, Lib.hid (HLG.out _), HVD⟩
  case rest =>
  obtain ⟨A, c, rfl, HG0, HV⟩ := hcut
  clear hc1 hc0
  go_wp2_with fail
  go_loopw [6] (fun kv wr => ∃ (k : Nat) (ov' : Value), kv = .int .i64 ((I + k : Nat) : Int) ∧ I + k ≤ m ∧ Hid (LG w wr (.slice A0 m c0) (.slice A1 m c1) (.slice A (m - I) c) ov') ∧ Hid (wr.ownsRow w.heap.size 3 1 ov' k (ints ((frO O I).take k)))) (fun kv _ => m - (intOf kv).toNat)
  case atStart => exact ⟨0, .slice none 0 0, by simp, by omega, HG0, Lib.hid (World.ownsRow_nil _ _ _ _)⟩
  case round =>
    clear HG0
    obtain ⟨k, ov', rfl, hk, HG, HW⟩ := hrel
    obtain ⟨q0, q1, _, _⟩ := two HG.out.x2
    by_cases hlt : I + k < m
    · obtain ⟨go, co, hov, hgol, _, hoc⟩ := own_at HX.out.orow (ints_at (k := I + k) (by rw [HOL.out]; exact hlt))
      simp only [Value.slice.injEq] at hov
      obtain ⟨hA1, _, hco⟩ := hov
      subst hA1; subst hco
      have ho := HO.out (I + k) (by rw [HOL.out]; exact hlt)
      have hoc1 := below_cell (HG.out.hb.mono (Nat.le_refl _)) hoc
      have HTK := Lib.hid (take_drop_snoc O I k (by rw [HOL.out]; exact hlt))
      clear hoc
      generalize O.getD (I + k) 0 = o at ho hoc1 HTK
      obtain ⟨Ao, cko, hov', _⟩ := own_form HW.out
      subst hov'
      obtain ⟨E, hE⟩ : ∃ E : Int, (if (I : Int) ≤ o then o - I else -1) = E := ⟨_, rfl⟩
      rw [hE] at HTK
      obtain ⟨K, hK⟩ : ∃ K : Nat, K = I + k := ⟨_, rfl⟩
      rw [← hK] at hoc1 hlt hk ⊢
      have HK := Lib.hid hK
      have HE := Lib.hid hE
      have i1 : (0 : Int) ≤ (K : Int) := by omega
      have i2 : (K : Int) < (m : Int) := by omega
      have hk1 : k < 1000 := by omega
      clear hK hE
      go_upto_if 33 with fail
      go_cut [7] from 33 to 40 (fun v wx => v = .int .i64 E ∧ wx = wr)
      case first =>
        by_cases hge : (I : Int) ≤ o
        · have hw : wrap64 (o - I) = o - I := by unfold wrap64; omega
          have hEE : E = o - I := by rw [← HE.out, if_pos hge]
          clear ho
          go_wp2_with fail
          go_meet
          exact ⟨by first | rfl | exact rfl | (rw [hw, hEE]) | (rw [hEE]), rfl⟩
        · have hEE : E = -1 := by rw [← HE.out, if_neg hge]
          have hge' : o < (I : Int) := by omega
          have hw := hEE
          clear ho
          go_wp2_with fail
          go_meet
          exact ⟨by first | rfl | exact rfl | (rw [hw, hEE]) | (rw [hEE]), rfl⟩
      case rest =>
      obtain ⟨rfl, hwx⟩ := hcut
      have hwx := hwx.symm
      subst hwx
      have hba := (Below.refl wr.heap.size wr).alloc (Nat.le_refl _) (.cells #[.int .i64 E] 3)
      have HV1 := Lib.hid (vrow_lit wr (.int .i64 E) 3)
      have HG1 := Lib.hid (HG.out.step hba)
      have HW1 := Lib.hid (own_keep HW.out (grown_below hba) (fun g e => by cases e))
      have hsz : w.heap.size ≤ (wr.alloc (.cells #[.int .i64 E] 3)).heap.size := HG1.out.hb.size
      obtain ⟨p0, p1, pf0, pf1⟩ := two HG.out.x5
      clear hba q0 q1 hoc1 ho hgol HG HW
      go_wp2_with (at_builtin; (refine wpList_app_v rfl (.tmp 42) (.tmp 44) 42 rfl w.heap.size 3 (.int .i64 0) 8 Try.underlying42 iinfo (by omega) rfl _ k (ints ((frO O I).take k)) rfl HW1.out (some ⟨wr.heap.size, 0, none⟩) 1 1 [.int .i64 E] rfl HV1.out (fun u hu => by simp at hu; subst hu; rfl) (by omega) hsz ?_); intro v' w9 hown hg hat; obtain ⟨A9, c9, rfl, _⟩ := own_form hown; have HG9 := Lib.hid (HG1.out.grown HW1.out (Nat.le_refl _) (by decide) hg); have HW9 := Lib.hid hown; clear hown hg hat p0 p1 pf0 pf1; obtain ⟨p0, p1, pf0, pf1⟩ := two HG9.out.x5)
      refine ⟨⟨k + 1, _, ?_, ?_, Lib.hid (HG9.out.set1 _), Lib.hid ?_⟩, by simp only [intOf]; omega⟩
      · have := HK.out; push_cast; congr 1; omega
      · have := HK.out; omega
      · rw [HTK.out]
        unfold ints
        rw [List.map_append]
        exact own_else HW9.out HG9.out.x5 (by decide)
    · have hkm : I + k = m := by omega
      obtain ⟨Ao, cko, hov', _⟩ := own_form HW.out
      subst hov'
      obtain ⟨p0, p1, _, _⟩ := two HG.out.x5
      obtain ⟨r0, r1, rf0, rf1⟩ := two HG.out.x4
      have HKM := Lib.hid hkm
      have hd : decide (((I + k : Nat) : Int) < (m : Int)) = false := decide_eq_false (by omega)
      clear hkm
      go_wp2
      obtain ⟨s0, s1, _, _⟩ := two (put2_at HG.out.x4 (.slice A (m - I) c) (.slice Ao k cko))
      refine bodyPost_ret (v := .agg #[.slice A (m - I) c, .slice Ao k cko]) ?_ rfl ⟨A, c, _, rfl, ?_, put2_below HG.out.hb (by omega) _ _⟩
      · simp [results, Try.results21, go_sem, s0, s1]
      · have hb2 := put2_below HG.out.hb (B := w.heap.size + 1) (by omega) (.slice A (m - I) c) (.slice Ao k cko)
        refine ⟨?_, fun i u l h1 h2 => ?_, ?_⟩
        · rw [HFM.out]; exact HV.out.below hb2
        · rw [List.getElem?_drop] at h1 h2
          exact (HX.out.each (I + i) u l h1 h2).keep hb2 hn₀
        · have hfl : (frO O I).length = k := by simp [frO]; have := HKM.out; have := HOL.out; omega
          have h9 := own_put2 HW.out HG.out.x4 (by decide) (.slice A (m - I) c) (.slice Ao k cko)
          rw [List.take_of_length_le (by omega)] at h9
          rw [hfl]
          exact h9
end Go.Proofs.Ytnffgomgfabapaa.Rt
namespace Go.Proofs.Ytnffgomgfabapaa.Rt
open Go.RowKit Mem Sm
set_option linter.unusedVariables false

set_option maxRecDepth 100000 in
set_option maxHeartbeats 8000000 in
theorem alike2_any (n₀ base b0 p : Nat) (Ap : Option Addr) (cp : Nat) (mp : Value) (A0 : Option Addr) (c0 : Nat) (ov : Value) (vs vs2 : List Value) (M : List (List Rg)) (O : List Int) (mir : List (Int × Int)) (w : World) (hM : M.length ≤ 1000) (hm : ∀ m ∈ M, m.length ≤ 100) (hrel : RelA M O mir)
    (hR : RdAt b0 w p Ap cp mp vs M mir) (hX : XRd n₀ base w A0 c0 ov vs2 M O) (hn₀ : n₀ ≤ w.heap.size) :
    Calls Try.prog 18 #[.pointer (some ⟨p, 0, none⟩), .agg #[.slice A0 M.length c0, ov]] w fun e w' => e = .returned (.bool true) ∧ Below w.heap.size w w' := by
  have HR := Lib.hid hR
  have HX := Lib.hid hX
  have HM := Lib.hid hm
  have HREL := Lib.hid hrel
  obtain ⟨A1, c1, hov, _⟩ := own_form hX.orow
  subst hov
  have CLEN := fun W (hb : Below w.heap.size w W) => len2_any b0 p Ap cp mp vs M mir W (HR.out.step hb)
  have COF := fun i W (hb : Below w.heap.size w W) => of2_any b0 p Ap cp mp vs M mir i W (HR.out.step hb)
  have CAT := fun i W (hb : Below w.heap.size w W) => at2_any b0 p Ap cp mp vs M mir i W hM hm (HR.out.step hb)
  have HB0 := Lib.hid (LB.made w (.slice A0 M.length c0) (.slice A1 O.length c1))
  clear hR hX hrel hm
  go_enter Try.func18, Try.ntmps18
  go_upto_region 1 with fail
  have HB1 : Hid (LB w (.slice A0 M.length c0) (.slice A1 O.length c1) (w.alloc (.cells #[.slice A0 M.length c0, .slice A1 O.length c1] 44)).drew) := Lib.hid (HB0.out.step (below_drewN (Below.refl _ _) 1))
  generalize w.alloc (.cells #[.slice A0 M.length c0, .slice A1 O.length c1] 44) = W0 at HB1 ⊢
  clear HB0
  refine wp_region_held_drew (S := fun W => W.cell? ⟨w.heap.size, 0, none⟩ = some (.slice A0 M.length c0)) (by kernel_rfl) (two HB1.out.2).1 (fun hHeld => ?_)
  generalize W0.drew = W1 at HB1 hHeld ⊢
  refine tk 0 (v := ?_) rfl (by kernel_rfl) (fun _ _ _ h => h) ?_ hHeld ?_
  rotate_left
  · (intro W hSw; (try dsimp only at hSw); go_simp; try with_reducible rfl)
  refine tk 2 (v := ?_) rfl (by kernel_rfl) (fun _ _ _ h => h) ?_ hHeld ?_
  rotate_left
  · (intro W hSw; (try dsimp only at hSw); go_simp; try with_reducible rfl)
  refine tk 3 (v := ?_) rfl (by kernel_rfl) (fun _ _ _ h => h) ?_ hHeld ?_
  rotate_left
  · (intro W hSw; (try dsimp only at hSw); go_simp; try with_reducible rfl)
  refine tk 4 (v := ?_) rfl (by kernel_rfl) (fun _ _ _ h => h) ?_ hHeld ?_
  rotate_left
  · (intro W hSw; (try dsimp only at hSw); go_simp; try with_reducible rfl)
  refine wpAnyH_ready (rs := [1]) (by kernel_rfl) (by simp) ?_
  refine AllReadyH.cons rfl (fun K hK => ?_) AllReadyH.nil
  go_simp
  refine (CLEN _ HB1.out.1).mono ?_
  rintro e W2 ⟨rfl, hb2⟩
  have HB2 := Lib.hid (HB1.out.step hb2)
  clear hHeld hb2 HB1
  go_wp2_with fail
  refine hK.out _ _ (two HB2.out.2).1 (fun hHeld => ?_)
  clear hK K
  refine tk 5 (v := ?_) rfl (by kernel_rfl) (fun _ _ _ h => h) ?_ hHeld ?_
  rotate_left
  · (intro W hSw; (try dsimp only at hSw); go_simp; try with_reducible rfl)
  clear hHeld
  refine wpAnyH_done (by kernel_rfl) ?_ _
  go_wp2_with fail
  go_loopw [5] (fun iv wr => ∃ (i : Nat), iv = .int .i64 i ∧ i ≤ M.length ∧ Hid (LB w (.slice A0 M.length c0) (.slice A1 O.length c1) wr)) (fun iv _ => M.length - (intOf iv).toNat)
  case atStart => exact ⟨0, rfl, by omega, HB2⟩
  case round =>
    obtain ⟨i, rfl, hi, HB⟩ := hrel
    obtain ⟨b0', b1, _, _⟩ := two HB.out.2
    by_cases hlt : i < M.length
    · obtain ⟨g, og, A, c, hv, hgl, hcell0, hrow0⟩ := HX.out.nth hlt
      subst hv
      have hOl : i < O.length := by rw [HREL.out.len]; exact hlt
      obtain ⟨go, co, hov, hgol, _, hoc0⟩ := own_at HX.out.orow (ints_at hOl)
      simp only [Value.slice.injEq] at hov
      obtain ⟨rfl, _, rfl⟩ := hov
      have HC0 := Lib.hid hcell0
      have HRW0 := Lib.hid hrow0
      have HOC0 := Lib.hid hoc0
      have hlm := HM.out _ (List.getElem_mem hlt)
      have hat : atL M i = M[i] := by unfold atL; rw [if_pos (by omega)]; simp [List.getD, hlt]
      have hz := HREL.out.at_ i hlt
      obtain ⟨z, hzz⟩ : ∃ z, z = O.getD i 0 := ⟨_, rfl⟩
      rw [← hzz] at hz HOC0
      have hd : decide ((i : Int) < (M.length : Int)) = true := decide_eq_true (by omega)
      have i1 : (0 : Int) ≤ (i : Int) := by omega
      have i2 : (i : Int) < (M.length : Int) := by omega
      have hoi : (i : Int) < (O.length : Int) := by omega
      have CO := COF i
      have CA := CAT i
      rw [hat] at CA
      clear hcell0 hrow0 hoc0 hat hzz
      generalize M[i] = m at CA HC0 HRW0 hlm
      cases hl : lk mir (i : Int) with
      | none =>
        rw [hl] at CO hz
        simp only [Option.getD_none, Option.isSome_none] at CO hz
        subst hz
        go_wp2_with fail
        refine (CO _ HB.out.1).mono ?_
        rintro e W2 ⟨rfl, rfl⟩
        have HB5 : Hid (LB w (.slice (some ⟨g, og, none⟩) M.length c0) (.slice (some ⟨go, 0, none⟩) O.length c1) W2.drew) := Lib.hid (HB.out.step (below_drewN (Below.refl _ _) 1))
        go_upto_region 7 with fail
        refine wp_region_held_drew (S := fun W => W.cell? ⟨w.heap.size, 0, none⟩ = some (.slice (some ⟨g, og, none⟩) M.length c0) ∧ W.cell? ⟨w.heap.size, 1, none⟩ = some (.slice (some ⟨go, 0, none⟩) O.length c1) ∧ W.cell? ⟨g, og + i, none⟩ = some (.slice A m.length c) ∧ W.cell? ⟨go, i, none⟩ = some (.int .i64 (-1))) (by kernel_rfl) ⟨b0', b1, below_cell HB5.out.1 HC0.out, below_cell HB5.out.1 HOC0.out⟩ (fun hHeld => ?_)
        clear HB b0' b1 CO
        generalize W2.drew = W5 at HB5 hHeld ⊢
        refine tk 0 (v := ?_) rfl (by kernel_rfl) (fun _ _ _ h => h) ?_ hHeld ?_
        rotate_left
        · (intro W hSw; (try dsimp only at hSw); go_simp; try with_reducible rfl)
        refine tk 1 (v := ?_) rfl (by kernel_rfl) (fun _ _ _ h => h) ?_ hHeld ?_
        rotate_left
        · (intro W hSw; (try dsimp only at hSw); go_simp; try with_reducible rfl)
        refine tk 3 (v := ?_) rfl (by kernel_rfl) (fun _ _ _ h => h) ?_ hHeld ?_
        rotate_left
        · (intro W hSw; (try dsimp only at hSw); go_simp; try with_reducible rfl)
        refine tk 4 (v := ?_) rfl (by kernel_rfl) (fun _ _ _ h => h) ?_ hHeld ?_
        rotate_left
        · (intro W hSw; (try dsimp only at hSw); go_simp; try with_reducible rfl)
        refine tk 5 (v := ?_) rfl (by kernel_rfl) (fun _ _ _ h => h) ?_ hHeld ?_
        rotate_left
        · (intro W hSw; (try dsimp only at hSw); go_simp; try with_reducible rfl)
        refine tk 6 (v := ?_) rfl (by kernel_rfl) (fun _ _ _ h => h) ?_ hHeld ?_
        rotate_left
        · (intro W hSw; (try dsimp only at hSw); go_simp; try with_reducible rfl)
        refine tk 7 (v := ?_) rfl (by kernel_rfl) (fun _ _ _ h => h) ?_ hHeld ?_
        rotate_left
        · (intro W hSw; (try dsimp only at hSw); go_simp; try with_reducible rfl)
        refine wpAnyH_ready (rs := [2]) (by kernel_rfl) (by simp) ?_
        refine AllReadyH.cons rfl (fun K hK => ?_) AllReadyH.nil
        go_simp
        refine (CA _ HB5.out.1).mono ?_
        rintro e W6 ⟨u, rfl, ho, hb6⟩
        obtain ⟨A6, c6, hu, _, hrow6⟩ := ho.row
        subst hu
        have hS6 := And.intro (below_cell hb6 hHeld.1) (And.intro (below_cell hb6 hHeld.2.1) (And.intro (below_cell hb6 hHeld.2.2.1) (below_cell hb6 hHeld.2.2.2)))
        have HB6 := Lib.hid (HB5.out.step hb6)
        have CS := rsame_any m m A6 A m.length m.length c6 c W6.heap.size n₀ W6 (RLow.of hrow6) (HRW0.out.below HB6.out.1 hn₀) (by omega)
        rw [show decide (m = m) = true by simp] at CS
        clear hb6 HB5 hHeld ho hrow6
        go_wp2_with fail
        refine hK.out _ _ hS6 (fun hHeld => ?_)
        clear hK K
        refine wpAnyH_ready (rs := [8]) (by kernel_rfl) (by simp) ?_
        refine AllReadyH.cons rfl (fun K hK => ?_) AllReadyH.nil
        go_simp
        refine CS.mono ?_
        rintro e W7 ⟨rfl, q, rfl⟩
        have HB7 := Lib.hid (HB6.out.step (below_drewN (Below.refl _ _) q))
        clear CS HB6 hHeld
        go_wp2_with fail
        refine hK.out _ _ hS6 (fun hHeld => ?_)
        clear hK K
        refine tk 9 (v := ?_) rfl (by kernel_rfl) (fun _ _ _ h => h) ?_ hHeld ?_
        rotate_left
        · (intro W hSw; (try dsimp only at hSw); go_simp; try with_reducible rfl)
        refine tk 10 (v := ?_) rfl (by kernel_rfl) (fun _ _ _ h => h) ?_ hHeld ?_
        rotate_left
        · (intro W hSw; (try dsimp only at hSw); go_simp; try with_reducible rfl)
        refine tk 11 (v := ?_) rfl (by kernel_rfl) (fun _ _ _ h => h) ?_ hHeld ?_
        rotate_left
        · (intro W hSw; (try dsimp only at hSw); go_simp; try with_reducible rfl)
        refine tk 12 (v := ?_) rfl (by kernel_rfl) (fun _ _ _ h => h) ?_ hHeld ?_
        rotate_left
        · (intro W hSw; (try dsimp only at hSw); go_simp; try with_reducible rfl)
        refine tk 13 (v := ?_) rfl (by kernel_rfl) (fun _ _ _ h => h) ?_ hHeld ?_
        rotate_left
        · (intro W hSw; (try dsimp only at hSw); go_simp; try with_reducible rfl)
        refine tk 14 (v := ?_) rfl (by kernel_rfl) (fun _ _ _ h => h) ?_ hHeld ?_
        rotate_left
        · (intro W hSw; (try dsimp only at hSw); go_simp; try with_reducible rfl)
        refine tk 15 (v := ?_) rfl (by kernel_rfl) (fun _ _ _ h => h) ?_ hHeld ?_
        rotate_left
        · (intro W hSw; (try dsimp only at hSw); go_simp; try with_reducible rfl)
        refine tk 16 (v := ?_) rfl (by kernel_rfl) (fun _ _ _ h => h) ?_ hHeld ?_
        rotate_left
        · (intro W hSw; (try dsimp only at hSw); go_simp; try with_reducible rfl)
        refine tk 17 (v := ?_) rfl (by kernel_rfl) (fun _ _ _ h => h) ?_ hHeld ?_
        rotate_left
        · (intro W hSw; (try dsimp only at hSw); go_simp; try with_reducible rfl)
        refine tk 18 (v := ?_) rfl (by kernel_rfl) (fun _ _ _ h => h) ?_ hHeld ?_
        rotate_left
        · (intro W hSw; (try dsimp only at hSw); go_simp; try with_reducible rfl)
        refine wpAnyH_ready (rs := [19]) (by kernel_rfl) (by simp) ?_
        refine AllReadyH.cons rfl (fun K hK => ?_) AllReadyH.nil
        go_simp
        refine hK.out _ _ hS6 (fun hHeld => ?_)
        clear hK K
        refine tk 20 (v := ?_) rfl (by kernel_rfl) (fun _ _ _ h => h) ?_ hHeld ?_
        rotate_left
        · (intro W hSw; (try dsimp only at hSw); go_simp; try with_reducible rfl)
        refine tk 21 (v := ?_) rfl (by kernel_rfl) (fun _ _ _ h => h) ?_ hHeld ?_
        rotate_left
        · (intro W hSw; (try dsimp only at hSw); go_simp; try with_reducible rfl)
        refine tk 22 (v := ?_) rfl (by kernel_rfl) (fun _ _ _ h => h) ?_ hHeld ?_
        rotate_left
        · (intro W hSw; (try dsimp only at hSw); go_simp; try with_reducible rfl)
        refine tk 23 (v := ?_) rfl (by kernel_rfl) (fun _ _ _ h => h) ?_ hHeld ?_
        rotate_left
        · (intro W hSw; (try dsimp only at hSw); go_simp; try with_reducible rfl)
        refine tk 24 (v := ?_) rfl (by kernel_rfl) (fun _ _ _ h => h) ?_ hHeld ?_
        rotate_left
        · (intro W hSw; (try dsimp only at hSw); go_simp; try with_reducible rfl)
        refine tk 25 (v := ?_) rfl (by kernel_rfl) (fun _ _ _ h => h) ?_ hHeld ?_
        rotate_left
        · (intro W hSw; (try dsimp only at hSw); go_simp; try with_reducible rfl)
        refine tk 26 (v := ?_) rfl (by kernel_rfl) (fun _ _ _ h => h) ?_ hHeld ?_
        rotate_left
        · (intro W hSw; (try dsimp only at hSw); go_simp; try with_reducible rfl)
        refine tk 27 (v := ?_) rfl (by kernel_rfl) (fun _ _ _ h => h) ?_ hHeld ?_
        rotate_left
        · (intro W hSw; (try dsimp only at hSw); go_simp; try with_reducible rfl)
        refine tk 28 (v := ?_) rfl (by kernel_rfl) (fun _ _ _ h => h) ?_ hHeld ?_
        rotate_left
        · (intro W hSw; (try dsimp only at hSw); go_simp; try with_reducible rfl)
        refine wpAnyH_ready (rs := [29]) (by kernel_rfl) (by simp) ?_
        refine AllReadyH.cons rfl (fun K hK => ?_) AllReadyH.nil
        go_simp
        refine hK.out _ _ hS6 (fun hHeld => ?_)
        clear hK K hS6
        clear hHeld
        refine wpAnyH_done (by kernel_rfl) ?_ _
        go_wp2_with fail
        go_roundw
        case measure => simp only [intOf]; omega
        case rel => exact ⟨i + 1, by push_cast; rfl, by omega, HB7⟩
      | some j =>
        have hjb := HREL.out.pos _ _ hl
        rw [hl] at CO hz
        simp only [Option.getD_some, Option.isSome_some] at CO hz
        subst hz
        have hz0 : decide (z ≥ 0) = true := decide_eq_true (by omega)
        have hz1 : decide (0 ≤ z) = true := decide_eq_true (by omega)
        have hmax : max z 0 = z := by omega
        have hmax2 : ¬ z < 0 := by omega
        go_wp2_with fail
        refine (CO _ HB.out.1).mono ?_
        rintro e W2 ⟨rfl, rfl⟩
        have HB5 : Hid (LB w (.slice (some ⟨g, og, none⟩) M.length c0) (.slice (some ⟨go, 0, none⟩) O.length c1) W2.drew) := Lib.hid (HB.out.step (below_drewN (Below.refl _ _) 1))
        go_upto_region 7 with fail
        refine wp_region_held_drew (S := fun W => W.cell? ⟨w.heap.size, 0, none⟩ = some (.slice (some ⟨g, og, none⟩) M.length c0) ∧ W.cell? ⟨w.heap.size, 1, none⟩ = some (.slice (some ⟨go, 0, none⟩) O.length c1) ∧ W.cell? ⟨g, og + i, none⟩ = some (.slice A m.length c) ∧ W.cell? ⟨go, i, none⟩ = some (.int .i64 z)) (by kernel_rfl) ⟨b0', b1, below_cell HB5.out.1 HC0.out, below_cell HB5.out.1 HOC0.out⟩ (fun hHeld => ?_)
        clear HB b0' b1 CO
        generalize W2.drew = W5 at HB5 hHeld ⊢
        refine tk 0 (v := ?_) rfl (by kernel_rfl) (fun _ _ _ h => h) ?_ hHeld ?_
        rotate_left
        · (intro W hSw; (try dsimp only at hSw); go_simp; try with_reducible rfl)
        refine tk 1 (v := ?_) rfl (by kernel_rfl) (fun _ _ _ h => h) ?_ hHeld ?_
        rotate_left
        · (intro W hSw; (try dsimp only at hSw); go_simp; try with_reducible rfl)
        refine tk 3 (v := ?_) rfl (by kernel_rfl) (fun _ _ _ h => h) ?_ hHeld ?_
        rotate_left
        · (intro W hSw; (try dsimp only at hSw); go_simp; try with_reducible rfl)
        refine tk 4 (v := ?_) rfl (by kernel_rfl) (fun _ _ _ h => h) ?_ hHeld ?_
        rotate_left
        · (intro W hSw; (try dsimp only at hSw); go_simp; try with_reducible rfl)
        refine tk 5 (v := ?_) rfl (by kernel_rfl) (fun _ _ _ h => h) ?_ hHeld ?_
        rotate_left
        · (intro W hSw; (try dsimp only at hSw); go_simp; try with_reducible rfl)
        refine tk 6 (v := ?_) rfl (by kernel_rfl) (fun _ _ _ h => h) ?_ hHeld ?_
        rotate_left
        · (intro W hSw; (try dsimp only at hSw); go_simp; try with_reducible rfl)
        refine tk 7 (v := ?_) rfl (by kernel_rfl) (fun _ _ _ h => h) ?_ hHeld ?_
        rotate_left
        · (intro W hSw; (try dsimp only at hSw); go_simp; try with_reducible rfl)
        refine wpAnyH_ready (rs := [2]) (by kernel_rfl) (by simp) ?_
        refine AllReadyH.cons rfl (fun K hK => ?_) AllReadyH.nil
        go_simp
        refine (CA _ HB5.out.1).mono ?_
        rintro e W6 ⟨u, rfl, ho, hb6⟩
        obtain ⟨A6, c6, hu, _, hrow6⟩ := ho.row
        subst hu
        have hS6 := And.intro (below_cell hb6 hHeld.1) (And.intro (below_cell hb6 hHeld.2.1) (And.intro (below_cell hb6 hHeld.2.2.1) (below_cell hb6 hHeld.2.2.2)))
        have HB6 := Lib.hid (HB5.out.step hb6)
        have CS := rsame_any m m A6 A m.length m.length c6 c W6.heap.size n₀ W6 (RLow.of hrow6) (HRW0.out.below HB6.out.1 hn₀) (by omega)
        rw [show decide (m = m) = true by simp] at CS
        clear hb6 HB5 hHeld ho hrow6
        go_wp2_with fail
        refine hK.out _ _ hS6 (fun hHeld => ?_)
        clear hK K
        refine wpAnyH_ready (rs := [8]) (by kernel_rfl) (by simp) ?_
        refine AllReadyH.cons rfl (fun K hK => ?_) AllReadyH.nil
        go_simp
        refine CS.mono ?_
        rintro e W7 ⟨rfl, q, rfl⟩
        have HB7 := Lib.hid (HB6.out.step (below_drewN (Below.refl _ _) q))
        clear CS HB6 hHeld
        go_wp2_with fail
        refine hK.out _ _ hS6 (fun hHeld => ?_)
        clear hK K
        refine tk 9 (v := ?_) rfl (by kernel_rfl) (fun _ _ _ h => h) ?_ hHeld ?_
        rotate_left
        · (intro W hSw; (try dsimp only at hSw); go_simp; try with_reducible rfl)
        refine tk 10 (v := ?_) rfl (by kernel_rfl) (fun _ _ _ h => h) ?_ hHeld ?_
        rotate_left
        · (intro W hSw; (try dsimp only at hSw); go_simp; try with_reducible rfl)
        refine tk 11 (v := ?_) rfl (by kernel_rfl) (fun _ _ _ h => h) ?_ hHeld ?_
        rotate_left
        · (intro W hSw; (try dsimp only at hSw); go_simp; try with_reducible rfl)
        refine tk 12 (v := ?_) rfl (by kernel_rfl) (fun _ _ _ h => h) ?_ hHeld ?_
        rotate_left
        · (intro W hSw; (try dsimp only at hSw); go_simp; try with_reducible rfl)
        refine tk 13 (v := ?_) rfl (by kernel_rfl) (fun _ _ _ h => h) ?_ hHeld ?_
        rotate_left
        · (intro W hSw; (try dsimp only at hSw); go_simp; try with_reducible rfl)
        refine tk 14 (v := ?_) rfl (by kernel_rfl) (fun _ _ _ h => h) ?_ hHeld ?_
        rotate_left
        · (intro W hSw; (try dsimp only at hSw); go_simp; try with_reducible rfl)
        refine tk 15 (v := ?_) rfl (by kernel_rfl) (fun _ _ _ h => h) ?_ hHeld ?_
        rotate_left
        · (intro W hSw; (try dsimp only at hSw); go_simp; try with_reducible rfl)
        refine tk 16 (v := ?_) rfl (by kernel_rfl) (fun _ _ _ h => h) ?_ hHeld ?_
        rotate_left
        · (intro W hSw; (try dsimp only at hSw); go_simp; try with_reducible rfl)
        refine tk 17 (v := ?_) rfl (by kernel_rfl) (fun _ _ _ h => h) ?_ hHeld ?_
        rotate_left
        · (intro W hSw; (try dsimp only at hSw); go_simp; try with_reducible rfl)
        refine tk 18 (v := ?_) rfl (by kernel_rfl) (fun _ _ _ h => h) ?_ hHeld ?_
        rotate_left
        · (intro W hSw; (try dsimp only at hSw); go_simp; try with_reducible rfl)
        refine wpAnyH_ready (rs := [19]) (by kernel_rfl) (by simp) ?_
        refine AllReadyH.cons rfl (fun K hK => ?_) AllReadyH.nil
        go_simp
        refine hK.out _ _ hS6 (fun hHeld => ?_)
        clear hK K
        refine tk 20 (v := ?_) rfl (by kernel_rfl) (fun _ _ _ h => h) ?_ hHeld ?_
        rotate_left
        · (intro W hSw; (try dsimp only at hSw); go_simp; try with_reducible rfl)
        refine tk 21 (v := ?_) rfl (by kernel_rfl) (fun _ _ _ h => h) ?_ hHeld ?_
        rotate_left
        · (intro W hSw; (try dsimp only at hSw); go_simp; try with_reducible rfl)
        refine tk 22 (v := ?_) rfl (by kernel_rfl) (fun _ _ _ h => h) ?_ hHeld ?_
        rotate_left
        · (intro W hSw; (try dsimp only at hSw); go_simp; try with_reducible rfl)
        refine tk 23 (v := ?_) rfl (by kernel_rfl) (fun _ _ _ h => h) ?_ hHeld ?_
        rotate_left
        · (intro W hSw; (try dsimp only at hSw); go_simp; try with_reducible rfl)
        refine tk 24 (v := ?_) rfl (by kernel_rfl) (fun _ _ _ h => h) ?_ hHeld ?_
        rotate_left
        · (intro W hSw; (try dsimp only at hSw); go_simp; try with_reducible rfl)
        refine tk 25 (v := ?_) rfl (by kernel_rfl) (fun _ _ _ h => h) ?_ hHeld ?_
        rotate_left
        · (intro W hSw; (try dsimp only at hSw); go_simp; try with_reducible rfl)
        refine tk 26 (v := ?_) rfl (by kernel_rfl) (fun _ _ _ h => h) ?_ hHeld ?_
        rotate_left
        · (intro W hSw; (try dsimp only at hSw); go_simp; try with_reducible rfl)
        refine tk 27 (v := ?_) rfl (by kernel_rfl) (fun _ _ _ h => h) ?_ hHeld ?_
        rotate_left
        · (intro W hSw; (try dsimp only at hSw); go_simp; try with_reducible rfl)
        refine tk 28 (v := ?_) rfl (by kernel_rfl) (fun _ _ _ h => h) ?_ hHeld ?_
        rotate_left
        · (intro W hSw; (try dsimp only at hSw); go_simp; try with_reducible rfl)
        refine wpAnyH_ready (rs := [29]) (by kernel_rfl) (by simp) ?_
        refine AllReadyH.cons rfl (fun K hK => ?_) AllReadyH.nil
        go_simp
        refine hK.out _ _ hS6 (fun hHeld => ?_)
        clear hK K hS6
        clear hHeld
        refine wpAnyH_done (by kernel_rfl) ?_ _
        go_wp2_with fail
        go_roundw
        case measure => simp only [intOf]; omega
        case rel => exact ⟨i + 1, by push_cast; rfl, by omega, HB7⟩
    · have d1 : decide ((i : Int) < (M.length : Int)) = false := decide_eq_false (by omega)
      have CO := COF (M.length : Int)
      rw [HREL.out.far] at CO
      simp only [Option.getD_none, Option.isSome_none] at CO
      have CA1 := CAT (-1)
      rw [show atL M (-1) = [] by unfold atL; rw [if_neg (by omega)]] at CA1
      have CA2 := CAT (M.length : Int)
      rw [show atL M (M.length : Int) = [] by unfold atL; rw [if_neg (by omega)]] at CA2
      go_wp2_with fail
      refine (CO _ HB.out.1).mono ?_
      rintro e W2 ⟨rfl, rfl⟩
      clear CO
      go_wp2_with fail
      refine (CA1 _ HB.out.1).mono ?_
      rintro e W3 ⟨u, rfl, ho, hb3⟩
      obtain ⟨A3, c3, hu, _⟩ := ho.row
      subst hu
      have HB3 := Lib.hid (HB.out.step hb3)
      obtain ⟨q0, q1, _, _⟩ := two HB3.out.2
      clear hb3 ho CA1 HB b0' b1
      go_wp2_with fail
      refine (CA2 _ HB3.out.1).mono ?_
      rintro e W4 ⟨u, rfl, ho, hb4⟩
      obtain ⟨A4, c4, hu, _⟩ := ho.row
      subst hu
      have HB4 := Lib.hid (HB3.out.step hb4)
      clear hb4 ho CA2 HB3 q0 q1
      go_wp2
      go_ret
      exact ⟨rfl, HB4.out.1⟩
end Go.Proofs.Ytnffgomgfabapaa.Rt
