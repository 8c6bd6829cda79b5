/- Diffs: the law of the rows. -/
import Derived.Test.YtgodphfkhmahnaaDfPc
import Derived.Test.YtgodphfkhmahnaaDfQa
import Derived.Test.YtgodphfkhmahnaaDfOn
import Derived.Test.YtgodphfkhmahnaaDfK
import Derived.Test.YtgodphfkhmahnaaDfV
import Derived.Test.YtgodphfkhmahnaaStR
namespace Go.Proofs.Ytgodphfkhmahnaa.Df
open Go.RowKit Mem Sm Rt Tk St
set_option linter.unusedVariables false
set_option linter.unusedSimpArgs false
theorem keptN_of {base : Nat} {W : World} {v : Value} {l : List Tk.Tk} {xs : List PX} {ps : List Pp.Pt} (hr : Rep base W v xs ps) (hg : Good l xs) (hl : l.length ≤ 150) : keptN ps = keptX xs ∧ ∀ x ∈ ps, ptOk x := by
  have hfit : ∀ i (h : i < xs.length), (xs[i].o = false ∧ xs[i].f = 0 ∧ xs[i].t = 0) ∨ (xs[i].o = true ∧ xs[i].f < xs[i].t ∧ xs[i].t ≤ 150) := fun i h => by
    rcases hg i h with ⟨a, _, _, b, c⟩ | ⟨a, _, b, c, _⟩
    · exact .inl ⟨a, b, c⟩
    · exact .inr ⟨a, b, by omega⟩
  have heach : ∀ i (h : i < ps.length) (h' : i < xs.length), ps[i].o = xs[i].o ∧ ps[i].f = xs[i].f ∧ ps[i].t = xs[i].t := fun i h h' => by
    obtain ⟨a, b, c, _⟩ := hr.each i ps[i] xs[i] (List.getElem?_eq_getElem h) (List.getElem?_eq_getElem h')
    exact ⟨a, b, c⟩
  have hlen := hr.len
  clear hr hg
  refine ⟨?_, fun p hp => ?_⟩
  · induction ps generalizing xs with
    | nil =>
      have : xs = [] := List.eq_nil_of_length_eq_zero (by simpa using hlen.symm)
      subst this; rfl
    | cons p ps ih =>
      cases xs with
      | nil => simp at hlen
      | cons x xs =>
        have h0 := heach 0 (by simp) (by simp)
        have f0 := hfit 0 (by simp)
        simp only [List.getElem_cons_zero] at h0 f0
        have := ih (xs := xs) (fun i h => by have := hfit (i + 1) (by simpa using h); simpa using this) (fun i h h' => by have := heach (i + 1) (by simpa using h) (by simpa using h'); simpa using this) (by simpa using hlen)
        simp only [keptN, keptX, this]
        unfold ptN
        rw [h0.1, h0.2.1, h0.2.2]
        rcases f0 with ⟨a, b, c⟩ | ⟨a, b, c⟩
        · simp [a]
        · rw [if_pos ⟨a, by omega⟩, if_pos a]
  · obtain ⟨i, hi, rfl⟩ := List.mem_iff_getElem.1 hp
    obtain ⟨a, b, c⟩ := heach i hi (by omega)
    unfold ptOk
    rw [b, c]
    rcases hfit i (by omega) with ⟨_, d, e⟩ | ⟨_, d, e⟩ <;> omega
theorem same_self (x : Sp) (L : List Tk.Tk) : sameS x x L L [] [] = true := by simp [sameS]
set_option maxRecDepth 100000 in
set_option maxHeartbeats 8000000 in
theorem rows_walk (a0 : Option Addr) (len0 cap0 : Nat) (l : List Tk.Tk) (a1 : Option Addr) (len1 cap1 : Nat) (m : List Tk.Tk) (w : World) (h0 : TRow w a0 len0 l) (hn0 : len0 ≤ maxLen) (hc0 : len0 ≤ cap0) (h1 : TRow w a1 len1 m) (hn1 : len1 ≤ maxLen) (hc1 : len1 ≤ cap1) :
    Calls Try.prog 6 #[.slice a0 len0 cap0, .slice a1 len1 cap1] w fun e w' => e = .returned (.bool true) ∧ Below w.heap.size w w' := by
  have HL := Lib.hid h0
  have HM := Lib.hid h1
  have HLN := Lib.hid h0.1
  have HMN := Lib.hid h1.1
  have hm0 : len0 ≤ 9223372036854775807 := by unfold maxLen at hn0; omega
  have hm1 : len1 ≤ 9223372036854775807 := by unfold maxLen at hn1; omega
  clear h0 h1 hn0 hn1
  generalize len0 = n at *
  generalize len1 = n' at *
  by_cases hb : n ≤ 150 ∧ n' ≤ 150
  · obtain ⟨hb0, hb1⟩ := hb
    have j0 : ¬ ((n : Int) > 150) := by omega
    have j1 : ¬ ((n' : Int) > 150) := by omega
    have CO := fun W a b => one_any l m a0 a1 n n' cap0 cap1 W (by omega) (by omega) hc1 a b
    have CS := fun W a b => rsame_any l m a0 a1 n n' cap0 cap1 W a b (by omega) (by omega)
    by_cases hlm : l = m
    · have hd : decide (l = m) = true := by simpa using hlm
      simp only [hd] at CS
      have HCS := Lib.hid CS
      have HCO : Hid (∀ W, TRow W a0 n l → TRow W a1 n' m → Calls Try.prog 33 #[.slice a0 n cap0, .slice a1 n' cap1] W fun e W' => e = .returned (.tuple #[.agg #[.int .i64 0, .int .i64 0, .int .i64 0, .int .i64 0, .int .i64 0, .int .i64 0, .int .i64 0, .int .i64 0, .slice none 0 0, .slice none 0 0], .bool false]) ∧ Below W.heap.size W W') := Lib.hid (fun W a b => (CO W a b).mono (fun e W' h => by
        rcases h.1 with ⟨_, g⟩ | ⟨g, _⟩
        · exact ⟨g, h.2⟩
        · exact absurd hlm g))
      clear CO CS hlm hd
      go_enter Try.func6, Try.ntmps6
      go_wp2_with fail
      refine (HCO.out _ HL.out HM.out).mono ?_
      rintro e w1 ⟨rfl, hb1'⟩
      have hb2 := (Below.refl w1.heap.size w1).alloc (Nat.le_refl _) (.cells #[.int .i64 0, .int .i64 0, .int .i64 0, .int .i64 0, .int .i64 0, .int .i64 0, .int .i64 0, .int .i64 0, .slice none 0 0, .slice none 0 0] 25)
      have HZ5 := Lib.hid (heap_alloc_new w1 (.cells #[.int .i64 0, .int .i64 0, .int .i64 0, .int .i64 0, .int .i64 0, .int .i64 0, .int .i64 0, .int .i64 0, .slice none 0 0, .slice none 0 0] 25))
      have HB2 := Lib.hid (hb1'.trans (hb2.mono hb1'.size))
      clear hb1' hb2 HCO
      go_wp2_with fail
      refine (HCS.out _ (HL.out.below HB2.out) (HM.out.below HB2.out)).mono ?_
      rintro e w3 ⟨rfl, q, rfl⟩
      have hb3 := below_drewN (Below.refl (w1.alloc (.cells #[.int .i64 0, .int .i64 0, .int .i64 0, .int .i64 0, .int .i64 0, .int .i64 0, .int .i64 0, .int .i64 0, .slice none 0 0, .slice none 0 0] 25)).heap.size (w1.alloc (.cells #[.int .i64 0, .int .i64 0, .int .i64 0, .int .i64 0, .int .i64 0, .int .i64 0, .int .i64 0, .int .i64 0, .slice none 0 0, .slice none 0 0] 25))) q
      have HB3 := Lib.hid (HB2.out.trans (hb3.mono HB2.out.size))
      have HZ3 := Lib.hid (hkeep hb3 HZ5.out)
      clear hb3 HB2 HZ5 HCS
      generalize hx5 : w1.heap.size = x5 at *
      generalize (w1.alloc (.cells #[.int .i64 0, .int .i64 0, .int .i64 0, .int .i64 0, .int .i64 0, .int .i64 0, .int .i64 0, .int .i64 0, .slice none 0 0, .slice none 0 0] 25)).drewN q = W3 at *
      have hb4 := (Below.refl W3.heap.size W3).alloc (Nat.le_refl _) (.cells #[.int .i64 0, .int .i64 0, .int .i64 0, .int .i64 0, .int .i64 0, .int .i64 0, .int .i64 0, .int .i64 0, .slice none 0 0, .slice none 0 0] 25)
      have HB4 := Lib.hid (HB3.out.trans (hb4.mono HB3.out.size))
      have HZ4 := Lib.hid (hkeep hb4 HZ3.out)
      have HY4 := Lib.hid (heap_alloc_new W3 (.cells #[.int .i64 0, .int .i64 0, .int .i64 0, .int .i64 0, .int .i64 0, .int .i64 0, .int .i64 0, .int .i64 0, .slice none 0 0, .slice none 0 0] 25))
      clear hb4 HB3 HZ3 hx5
      have hz := tenc HZ4.out
      have z0 := hz.1.1
      have z1 := hz.1.2.1
      have z2 := hz.1.2.2.1
      have z3 := hz.1.2.2.2.1
      have z4 := hz.1.2.2.2.2
      have z5 := hz.2.1
      have z6 := hz.2.2.1
      have z7 := hz.2.2.2.1
      have z8 := hz.2.2.2.2.1
      have z9 := hz.2.2.2.2.2
      clear hz
      have hz := tenc HY4.out
      have y0 := hz.1.1
      have y1 := hz.1.2.1
      have y2 := hz.1.2.2.1
      have y3 := hz.1.2.2.2.1
      have y4 := hz.1.2.2.2.2
      have y5 := hz.2.1
      have y6 := hz.2.2.1
      have y7 := hz.2.2.2.1
      have y8 := hz.2.2.2.2.1
      have y9 := hz.2.2.2.2.2
      clear hz
      have CSS := fun W => rssame_any ⟨0, 0, 0, 0, 0, 0, 0, 0⟩ ⟨0, 0, 0, 0, 0, 0, 0, 0⟩ [] [] [] [] none none none none 0 0 0 0 0 0 0 0 W (by omega) (by omega) (by omega) (by omega) TRow.nil TRow.nil ⟨rfl, fun h => absurd h (by omega)⟩ ⟨rfl, fun h => absurd h (by omega)⟩
      unfold stV stC at CSS
      simp only [same_self] at CSS
      go_wp2_with fail
      refine (CSS _).mono ?_
      rintro e wX ⟨rfl, hbX⟩
      have HBX := Lib.hid (HB4.out.trans (hbX.mono HB4.out.size))
      clear CSS hbX HB4 HZ4 HY4 z0 z1 z2 z3 z4 z5 z6 z7 z8 z9 y0 y1 y2 y3 y4 y5 y6 y7 y8 y9
      go_wp2_with fail
      refine (parts_any l m a0 a1 n n' cap0 cap1 _ (by omega) (by omega) hc0 hc1 (HL.out.below HBX.out) (HM.out.below HBX.out)).mono ?_
      rintro e wp ⟨v, xs, ps, rfl, hrep, hmk, hbp⟩
      have HBP := Lib.hid (HBX.out.trans (hbp.mono HBX.out.size))
      obtain ⟨Ap, cp, hvp⟩ := hrep.r.form
      have hplen := hrep.len
      have hxl := hmk.len
      obtain ⟨K, hKK⟩ : ∃ K, K = ps.length := ⟨_, rfl⟩
      rw [← hKK] at hvp hplen
      subst hvp
      have HREP := Lib.hid hrep
      have HMK := Lib.hid hmk
      have hK1 : xs.length = K := hplen.symm
      have CM := made_any l m a0 a1 n n' cap0 cap1 _ K Ap cp xs ps wp (by omega) (by omega) hc0 (HL.out.below HBP.out) (HM.out.below HBP.out) hK1 (by omega) hrep hmk.good hmk.out
      have HKN := Lib.hid (keptN_of hrep hmk.good (show l.length ≤ 150 by rw [HLN.out]; omega))
      have HKP : Hid (Pp.PRow wp Ap K ps) := Lib.hid (by
        obtain ⟨A', c1, e, _, hrr⟩ := hrep.r.row
        rw [← hKK] at e hrr
        cases e
        exact hrr)
      have hK2 : K ≤ 1000 := by omega
      clear hrep hmk hbp hKK hplen hxl hK1 HBX
      go_wp2_with fail
      refine CM.mono ?_
      rintro e wq ⟨rfl, hbq⟩
      have HBQ := Lib.hid (HBP.out.trans (hbq.mono HBP.out.size))
      have CK := kept_any ps Ap K cp wq hK2 (HKP.out.below hbq) HKN.out.2
      rw [HKN.out.1, HMK.out.sum, HLN.out, HMN.out] at CK
      obtain ⟨T, hT⟩ : ∃ T, T = lc (EE l m) n n' := ⟨_, rfl⟩
      have CMo := fun W a b => most_any a0 a1 n n' cap0 cap1 l m W (by omega) (by omega) a b
      rw [← hT] at CK
      simp only [← hT] at CMo
      have HCMo := Lib.hid CMo
      clear CM hbq HREP HMK HKN HKP HBP hT CMo
      go_wp2_with fail
      refine CK.mono ?_
      rintro e wr ⟨rfl, hbr⟩
      have HBR := Lib.hid (HBQ.out.trans (hbr.mono HBQ.out.size))
      clear CK hbr HBQ
      go_wp2_with fail
      refine (HCMo.out _ (HL.out.below HBR.out) (HM.out.below HBR.out)).mono ?_
      rintro e ws ⟨rfl, hbs⟩
      have HBS := Lib.hid (HBR.out.trans (hbs.mono HBR.out.size))
      clear hbs HBR HCMo
      go_wp2_with fail
      refine (live_any _).mono ?_
      rintro e wt ⟨rfl, hbt⟩
      have HBT := Lib.hid (HBS.out.trans (hbt.mono HBS.out.size))
      clear hbt HBS
      go_wp2
      go_ret
      exact ⟨rfl, HBT.out⟩
    · have hd : decide (l = m) = false := by simpa using hlm
      simp only [hd] at CS
      have HCS := Lib.hid CS
      obtain ⟨⟨k1, k2, k3, k4, k5, k6, k7, k8⟩, hS⟩ : ∃ S, S = oneS l m := ⟨_, rfl⟩
      obtain ⟨OL, hOL⟩ : ∃ S, S = oneL l m := ⟨_, rfl⟩
      have HCO : Hid (∀ W, TRow W a0 n l → TRow W a1 n' m → Calls Try.prog 33 #[.slice a0 n cap0, .slice a1 n' cap1] W fun e W' => ∃ A c, e = .returned (.tuple #[.agg #[.int .i64 k1, .int .i64 k2, .int .i64 k3, .int .i64 k4, .int .i64 k5, .int .i64 k6, .int .i64 k7, .int .i64 k8, .slice A OL.length c, .slice none 0 0], .bool true]) ∧ Tks W.heap.size W' (.slice A OL.length c) OL ∧ Below W.heap.size W W') := Lib.hid (fun W a b => (CO W a b).mono (fun e W' h => by
        rcases h.1 with ⟨g, _⟩ | ⟨_, v, g, h3⟩
        · exact absurd g hlm
        · obtain ⟨A, c, hv⟩ := h3.form
          refine ⟨A, c, ?_, by rw [hOL, ← hv]; exact h3, h.2⟩
          rw [g, ← hS, hv, hOL]
          rfl))
      have HCR : Hid (∀ W, TRow W a0 n l → TRow W a1 n' m → Calls Try.prog 35 #[.slice a0 n cap0, .slice a1 n' cap1] W fun e W' => ∃ A c, e = .returned (.agg #[.int .i64 k1, .int .i64 k2, .int .i64 k3, .int .i64 k4, .int .i64 k5, .int .i64 k6, .int .i64 k7, .int .i64 k8, .slice A OL.length c, .slice none 0 0]) ∧ Tks W.heap.size W' (.slice A OL.length c) OL ∧ Below W.heap.size W W') := Lib.hid (fun W a b => (rone_any l m a0 a1 n n' cap0 cap1 W (by omega) (by omega) hc0 hc1 a b).mono (fun e W' h => by
        obtain ⟨v, g, h3, h4⟩ := h
        obtain ⟨A, c, hv⟩ := h3.form
        refine ⟨A, c, ?_, by rw [hOL, ← hv]; exact h3, h4⟩
        rw [g, ← hS, hv, hOL]
        rfl))
      have hol : OL.length ≤ 1000000 := by
        rw [hOL]
        have := HMN.out
        unfold oneL
        rw [List.length_take, List.length_drop]
        omega
      clear CO CS hlm hd hS hOL
      generalize hN : OL.length = N at *
      have HN := Lib.hid hN
      clear hN
      go_enter Try.func6, Try.ntmps6
      go_wp2_with fail
      refine (HCO.out _ HL.out HM.out).mono ?_
      rintro e w1 ⟨A, c, rfl, hv1, hb1'⟩
      have hb2 := (Below.refl w1.heap.size w1).alloc (Nat.le_refl _) (.cells #[.int .i64 k1, .int .i64 k2, .int .i64 k3, .int .i64 k4, .int .i64 k5, .int .i64 k6, .int .i64 k7, .int .i64 k8, .slice A N c, .slice none 0 0] 25)
      have HZ5 := Lib.hid (heap_alloc_new w1 (.cells #[.int .i64 k1, .int .i64 k2, .int .i64 k3, .int .i64 k4, .int .i64 k5, .int .i64 k6, .int .i64 k7, .int .i64 k8, .slice A N c, .slice none 0 0] 25))
      have HB2 := Lib.hid (hb1'.trans (hb2.mono hb1'.size))
      have HV2 := Lib.hid (hv1.belowAll hb2)
      clear hb1' hb2 HCO hv1
      go_wp2_with fail
      refine (HCS.out _ (HL.out.below HB2.out) (HM.out.below HB2.out)).mono ?_
      rintro e w3 ⟨rfl, q, rfl⟩
      have hb3 := below_drewN (Below.refl (w1.alloc (.cells #[.int .i64 k1, .int .i64 k2, .int .i64 k3, .int .i64 k4, .int .i64 k5, .int .i64 k6, .int .i64 k7, .int .i64 k8, .slice A N c, .slice none 0 0] 25)).heap.size (w1.alloc (.cells #[.int .i64 k1, .int .i64 k2, .int .i64 k3, .int .i64 k4, .int .i64 k5, .int .i64 k6, .int .i64 k7, .int .i64 k8, .slice A N c, .slice none 0 0] 25))) q
      have HB3 := Lib.hid (HB2.out.trans (hb3.mono HB2.out.size))
      have HZ3 := Lib.hid (hkeep hb3 HZ5.out)
      have HV3 := Lib.hid (HV2.out.belowAll hb3)
      clear hb3 HB2 HZ5 HCS HV2
      generalize hx5 : w1.heap.size = x5 at *
      generalize (w1.alloc (.cells #[.int .i64 k1, .int .i64 k2, .int .i64 k3, .int .i64 k4, .int .i64 k5, .int .i64 k6, .int .i64 k7, .int .i64 k8, .slice A N c, .slice none 0 0] 25)).drewN q = W3 at *
      have hb4 := (Below.refl W3.heap.size W3).alloc (Nat.le_refl _) (.cells #[.int .i64 0, .int .i64 0, .int .i64 0, .int .i64 0, .int .i64 0, .int .i64 0, .int .i64 0, .int .i64 0, .slice none 0 0, .slice none 0 0] 25)
      have HB4 := Lib.hid (HB3.out.trans (hb4.mono HB3.out.size))
      have HZ4 := Lib.hid (hkeep hb4 HZ3.out)
      have HY4 := Lib.hid (heap_alloc_new W3 (.cells #[.int .i64 0, .int .i64 0, .int .i64 0, .int .i64 0, .int .i64 0, .int .i64 0, .int .i64 0, .int .i64 0, .slice none 0 0, .slice none 0 0] 25))
      have HV4 := Lib.hid (HV3.out.belowAll hb4)
      have hx9 : x5 < W3.heap.size := lt_some HZ3.out
      have hw9 : w.heap.size ≤ W3.heap.size := HB3.out.size
      clear hb4 HB3 HZ3 hx5 HV3
      go_wp2_with fail
      refine (HCR.out _ (HL.out.below HB4.out) (HM.out.below HB4.out)).mono ?_
      rintro e w6 ⟨A', c', rfl, hv6, hb6⟩
      have HB6 := Lib.hid (HB4.out.trans (hb6.mono HB4.out.size))
      have HZ6 := Lib.hid (hkeep hb6 HZ4.out)
      have HY6 := Lib.hid (hkeep hb6 HY4.out)
      have HV6 := Lib.hid (HV4.out.belowAll hb6)
      have HW6 := Lib.hid (hv6.lower (show W3.heap.size + 1 ≤ (W3.alloc (.cells #[.int .i64 0, .int .i64 0, .int .i64 0, .int .i64 0, .int .i64 0, .int .i64 0, .int .i64 0, .int .i64 0, .slice none 0 0, .slice none 0 0] 25)).heap.size by simp))
      clear hb6 HB4 HZ4 HY4 HV4 hv6 HCR
      generalize W3.heap.size = x8 at *
      have hz := tenc HY6.out
      have z0 := hz.1.1
      have z1 := hz.1.2.1
      have z2 := hz.1.2.2.1
      have z3 := hz.1.2.2.2.1
      have z4 := hz.1.2.2.2.2
      have z5 := hz.2.1
      have z6 := hz.2.2.1
      have z7 := hz.2.2.2.1
      have z8 := hz.2.2.2.2.1
      have z9 := hz.2.2.2.2.2
      have hf := froz HY6.out
      have f0 := hf.1
      have f1 := hf.2.1
      have f2 := hf.2.2.1
      have f3 := hf.2.2.2.1
      have f4 := hf.2.2.2.2.1
      have f5 := hf.2.2.2.2.2.1
      have f6 := hf.2.2.2.2.2.2.1
      have f7 := hf.2.2.2.2.2.2.2.1
      have f8 := hf.2.2.2.2.2.2.2.2.1
      have f9 := hf.2.2.2.2.2.2.2.2.2
      clear hz hf
      go_upto_region 8 with fail
      have hF8 := put10_at HY6.out (.int .i64 k1) (.int .i64 k2) (.int .i64 k3) (.int .i64 k4) (.int .i64 k5) (.int .i64 k6) (.int .i64 k7) (.int .i64 k8) (.slice A' N c') (.slice none 0 0)
      have hF5 : (put10 w6 x8 (.int .i64 k1) (.int .i64 k2) (.int .i64 k3) (.int .i64 k4) (.int .i64 k5) (.int .i64 k6) (.int .i64 k7) (.int .i64 k8) (.slice A' N c') (.slice none 0 0)).heap[x5]? = _ := (put10_else (.int .i64 k1) (.int .i64 k2) (.int .i64 k3) (.int .i64 k4) (.int .i64 k5) (.int .i64 k6) (.int .i64 k7) (.int .i64 k8) (.slice A' N c') (.slice none 0 0) (by omega)).trans HZ6.out
      have hB9 := put10_below HB6.out (B := x8) hw9 (.int .i64 k1) (.int .i64 k2) (.int .i64 k3) (.int .i64 k4) (.int .i64 k5) (.int .i64 k6) (.int .i64 k7) (.int .i64 k8) (.slice A' N c') (.slice none 0 0)
      have hG9 := grown_put10 (W := w6) (B := x8) (.int .i64 k1) (.int .i64 k2) (.int .i64 k3) (.int .i64 k4) (.int .i64 k5) (.int .i64 k6) (.int .i64 k7) (.int .i64 k8) (.slice A' N c') (.slice none 0 0)
      have hne9 : ∀ (base : Nat) (v : Value), Tks base w6 v OL → Tks base (put10 w6 x8 (.int .i64 k1) (.int .i64 k2) (.int .i64 k3) (.int .i64 k4) (.int .i64 k5) (.int .i64 k6) (.int .i64 k7) (.int .i64 k8) (.slice A' N c') (.slice none 0 0)) v OL := fun base v hv => hv.grown hG9 (fun g e e2 => by
        cases e2
        obtain ⟨_, _, cs, fr, hh⟩ := hv.block _ e
        have h2 := HY6.out
        rw [hh] at h2
        injection h2 with h2
        injection h2 with _ h6 _
        revert h6; decide)
      have hv9 := hne9 _ _ HV6.out
      have hw9' := hne9 _ _ HW6.out
      unfold put10 at hF8 hF5 hB9 hv9 hw9'
      clear hne9 hG9 HV6 HW6 HB6 HZ6 HY6 z0 z1 z2 z3 z4 z5 z6 z7 z8 z9 f0 f1 f2 f3 f4 f5 f6 f7 f8 f9
      generalize hWP : ((((((((((w6).setCell ⟨x8, 0, none⟩ (.int .i64 k1)).setCell ⟨x8, 1, none⟩ (.int .i64 k2)).setCell ⟨x8, 2, none⟩ (.int .i64 k3)).setCell ⟨x8, 3, none⟩ (.int .i64 k4)).setCell ⟨x8, 4, none⟩ (.int .i64 k5)).setCell ⟨x8, 5, none⟩ (.int .i64 k6)).setCell ⟨x8, 6, none⟩ (.int .i64 k7)).setCell ⟨x8, 7, none⟩ (.int .i64 k8)).setCell ⟨x8, 8, none⟩ (.slice A' N c')).setCell ⟨x8, 9, none⟩ (.slice none 0 0) = WP at *
      have HF8 := Lib.hid hF8
      have HF5 := Lib.hid hF5
      have HB9 := Lib.hid hB9
      have hr9 : TRow WP A N OL := by
        obtain ⟨A1, c1, e, _, hrr⟩ := hv9.row
        rw [HN.out] at e hrr
        cases e
        exact hrr
      have hr9' : TRow WP A' N OL := by
        obtain ⟨A1, c1, e, _, hrr⟩ := hw9'.row
        rw [HN.out] at e hrr
        cases e
        exact hrr
      have CSS := rssame_any ⟨k1, k2, k3, k4, k5, k6, k7, k8⟩ ⟨k1, k2, k3, k4, k5, k6, k7, k8⟩ OL OL [] [] A A' none none N N 0 0 c c' 0 0 WP (by omega) (by omega) (by omega) (by omega) hr9 hr9' ⟨rfl, fun h => absurd h (by omega)⟩ ⟨rfl, fun h => absurd h (by omega)⟩
      unfold stV stC at CSS
      simp only [same_self] at CSS
      clear hF8 hF5 hB9 hv9 hw9' hr9 hr9' hWP
      have hz := tenc HF5.out
      have z0 := hz.1.1
      have z1 := hz.1.2.1
      have z2 := hz.1.2.2.1
      have z3 := hz.1.2.2.2.1
      have z4 := hz.1.2.2.2.2
      have z5 := hz.2.1
      have z6 := hz.2.2.1
      have z7 := hz.2.2.2.1
      have z8 := hz.2.2.2.2.1
      have z9 := hz.2.2.2.2.2
      clear hz
      have hz := tenc HF8.out
      have y0 := hz.1.1
      have y1 := hz.1.2.1
      have y2 := hz.1.2.2.1
      have y3 := hz.1.2.2.2.1
      have y4 := hz.1.2.2.2.2
      have y5 := hz.2.1
      have y6 := hz.2.2.1
      have y7 := hz.2.2.2.1
      have y8 := hz.2.2.2.2.1
      have y9 := hz.2.2.2.2.2
      clear hz
      go_wp2_with fail
      refine CSS.mono ?_
      rintro e wX ⟨rfl, hbX⟩
      have HBX := Lib.hid (HB9.out.trans (hbX.mono HB9.out.size))
      clear CSS hbX HB9 HF8 HF5 HN z0 z1 z2 z3 z4 z5 z6 z7 z8 z9 y0 y1 y2 y3 y4 y5 y6 y7 y8 y9
      go_wp2_with fail
      refine (parts_any l m a0 a1 n n' cap0 cap1 _ (by omega) (by omega) hc0 hc1 (HL.out.below HBX.out) (HM.out.below HBX.out)).mono ?_
      rintro e wp ⟨v, xs, ps, rfl, hrep, hmk, hbp⟩
      have HBP := Lib.hid (HBX.out.trans (hbp.mono HBX.out.size))
      obtain ⟨Ap, cp, hvp⟩ := hrep.r.form
      have hplen := hrep.len
      have hxl := hmk.len
      obtain ⟨K, hKK⟩ : ∃ K, K = ps.length := ⟨_, rfl⟩
      rw [← hKK] at hvp hplen
      subst hvp
      have HREP := Lib.hid hrep
      have HMK := Lib.hid hmk
      have hK1 : xs.length = K := hplen.symm
      have CM := made_any l m a0 a1 n n' cap0 cap1 _ K Ap cp xs ps wp (by omega) (by omega) hc0 (HL.out.below HBP.out) (HM.out.below HBP.out) hK1 (by omega) hrep hmk.good hmk.out
      have HKN := Lib.hid (keptN_of hrep hmk.good (show l.length ≤ 150 by rw [HLN.out]; omega))
      have HKP : Hid (Pp.PRow wp Ap K ps) := Lib.hid (by
        obtain ⟨A', c1, e, _, hrr⟩ := hrep.r.row
        rw [← hKK] at e hrr
        cases e
        exact hrr)
      have hK2 : K ≤ 1000 := by omega
      clear hrep hmk hbp hKK hplen hxl hK1 HBX
      go_wp2_with fail
      refine CM.mono ?_
      rintro e wq ⟨rfl, hbq⟩
      have HBQ := Lib.hid (HBP.out.trans (hbq.mono HBP.out.size))
      have CK := kept_any ps Ap K cp wq hK2 (HKP.out.below hbq) HKN.out.2
      rw [HKN.out.1, HMK.out.sum, HLN.out, HMN.out] at CK
      obtain ⟨T, hT⟩ : ∃ T, T = lc (EE l m) n n' := ⟨_, rfl⟩
      have CMo := fun W a b => most_any a0 a1 n n' cap0 cap1 l m W (by omega) (by omega) a b
      rw [← hT] at CK
      simp only [← hT] at CMo
      have HCMo := Lib.hid CMo
      clear CM hbq HREP HMK HKN HKP HBP hT CMo
      go_wp2_with fail
      refine CK.mono ?_
      rintro e wr ⟨rfl, hbr⟩
      have HBR := Lib.hid (HBQ.out.trans (hbr.mono HBQ.out.size))
      clear CK hbr HBQ
      go_wp2_with fail
      refine (HCMo.out _ (HL.out.below HBR.out) (HM.out.below HBR.out)).mono ?_
      rintro e ws ⟨rfl, hbs⟩
      have HBS := Lib.hid (HBR.out.trans (hbs.mono HBR.out.size))
      clear hbs HBR HCMo
      go_wp2_with fail
      refine (live_any _).mono ?_
      rintro e wt ⟨rfl, hbt⟩
      have HBT := Lib.hid (HBS.out.trans (hbt.mono HBS.out.size))
      clear hbt HBS
      go_wp2
      go_ret
      exact ⟨rfl, HBT.out⟩
  · by_cases hb0 : n ≤ 150
    · have j0 : ¬ ((n : Int) > 150) := by omega
      have j1 : (n' : Int) > 150 := by omega
      go_enter Try.func6, Try.ntmps6
      go_wp2_with fail
      refine (live_any _).mono ?_
      rintro e wt ⟨rfl, hbt⟩
      go_wp2
      go_ret
      exact ⟨rfl, hbt⟩
    · have j0 : (n : Int) > 150 := by omega
      go_enter Try.func6, Try.ntmps6
      go_wp2_with fail
      refine (live_any _).mono ?_
      rintro e wt ⟨rfl, hbt⟩
      go_wp2
      go_ret
      exact ⟨rfl, hbt⟩
end Go.Proofs.Ytgodphfkhmahnaa.Df
