/- The walks of the laws UtfDecodes, UtfBack. -/
import Derived.Test.YtdicjplekbjdpaaUtfJ
namespace Go.Proofs.Ytdicjplekbjdpaa.Utf
open Go.RowKit Mem
set_option linter.unusedVariables false

theorem dec_same {zs rs rs' : List Int} (h : Dec zs rs zs.length) (h' : Dec zs rs' zs.length) : rs = rs' := (one_way rs rs' zs _ _ h h' (ends_len zs) (ends_len zs)).1
theorem dec_not {zs rs rs' : List Int} {p : Nat} (h : Dec zs rs zs.length) (h' : Dec zs rs' p) (he : Ends zs p) (hp : p < zs.length) : False := by
  have := (one_way rs rs' zs _ _ h h' (ends_len zs) he).2
  omega
theorem str_beq_self (S : ByteArray) : (S.toList == S.toList) = true := by simp

set_option maxHeartbeats 4000000 in
theorem decodes_law (A1 A2 : Option Addr) (n c m d : Nat) (zs ls : List Int) (w : World) (H1 : Row .u8 w A1 n zs ∧ n ≤ c ∧ c ≤ maxLen) (H2 : Row .i32 w A2 m ls ∧ m ≤ d ∧ d ≤ maxLen) :
    Calls Try.prog 5 #[.slice A1 n c, .slice A2 m d] w fun e w' => e = .returned (.bool true) ∧ Below w.heap.size w w' := by
  obtain ⟨hr1, hnc, hcm⟩ := H1
  obtain ⟨hr2, hmd, hdm⟩ := H2
  have hdm2 := hdm
  have hcm2 := hcm
  unfold maxLen at hdm2 hcm2
  by_cases hn : 2000 < n
  · clear hr1 hr2 hcm hdm
    go_enter Try.func5, Try.ntmps5
    go_wp2_with (go_at_call 7; refine (live_any _).mono ?_; rintro e w1 ⟨rfl, hb1⟩)
    go_ret
    exact ⟨rfl, hb1⟩
  by_cases hm : 500 < m
  · clear hr1 hr2 hcm hdm
    go_enter Try.func5, Try.ntmps5
    go_wp2_with (go_at_call 7; refine (live_any _).mono ?_; rintro e w1 ⟨rfl, hb1⟩)
    go_ret
    exact ⟨rfl, hb1⟩
  have hn2 : n ≤ 2000 := by omega
  have hm2 : m ≤ 500 := by omega
  have HR1 := Lib.hid hr1
  have HR2 := Lib.hid hr2
  have HCM := Lib.hid hcm
  clear hr1 hr2 hcm hdm hn hm
  go_enter Try.func5, Try.ntmps5
  go_wp2_with fail
  refine (decode_any zs A1 n c w HR1.out (by omega)).mono ?_
  rintro e w1 ⟨hb1, h1⟩
  have HB1 := Lib.hid hb1
  clear hb1
  have key : ∀ (W : World), Below w.heap.size w W → Row .u8 W A1 n zs ∧ Row .i32 W A2 m ls := fun W h => ⟨HR1.out.below h, HR2.out.below h⟩
  have KEY := Lib.hid key
  clear key
  rcases h1 with ⟨rs, X1, e1, hd, rfl, hx1, he1⟩ | ⟨rs, p, hd, hends, hp, rfl⟩
  · have HD := Lib.hid hd
    have HX1 := Lib.hid hx1
    have hrl : rs.length ≤ n := by have := hd.len; rw [HR1.out.1] at this; exact this
    clear hd hx1
    go_wp2_with fail
    refine (rdecode_any zs A1 n c w1 (KEY.out w1 HB1.out).1 hnc HCM.out (by omega)).mono ?_
    rintro e w2 ⟨hb2, h2⟩
    have hbb2 := HB1.out.trans (hb2.mono HB1.out.size)
    have HB2 := Lib.hid hbb2
    have hx2 := HX1.out.below hb2
    have HX2 := Lib.hid hx2
    clear hb2 hbb2 hx2
    rcases h2 with ⟨rs2, X2, e2, hd2, rfl, hx2, he2⟩ | ⟨rs2, p, hd2, hends, hp, rfl⟩
    · obtain rfl := dec_same HD.out hd2
      have HY2 := Lib.hid hx2
      clear hx2 hd2
      go_wp2_with fail
      refine (count_any zs A1 n c w2 (KEY.out w2 HB2.out).1 (by omega)).mono ?_
      rintro e w3 ⟨hb3, h3⟩
      have hbb3 := HB2.out.trans (hb3.mono HB2.out.size)
      have HB3 := Lib.hid hbb3
      have hx3 := HX2.out.below hb3
      have HX3 := Lib.hid hx3
      have hy3 := HY2.out.below hb3
      have HY3 := Lib.hid hy3
      clear hb3 hbb3 hx3 hy3
      rcases h3 with ⟨rs3, hd3, rfl⟩ | ⟨rs3, p, hd3, hends, hp, rfl⟩
      · obtain rfl := dec_same HD.out hd3
        clear hd3
        generalize hL : rs.length = L at *
        have HL := Lib.hid hL
        clear hL
        have d0 : ((L : Int) != (L : Int)) = false := by simp
        go_wp2_with (first
          | (go_at_call 18; refine (same_yes X1 X2 L e1 e2 rs _ HX3.out HY3.out (by omega)).mono ?_; rintro e w4 ⟨rfl, hb4⟩)
          | fail)
        have hbb4 := HB3.out.trans (hb4.mono HB3.out.size)
        have HB4 := Lib.hid hbb4
        clear hb4 hbb4
        refine (encode_any ls A2 m d w4 (KEY.out w4 HB4.out).2 (by omega)).mono ?_
        rintro e w5 ⟨hb5, h5⟩
        have hbb5 := HB4.out.trans (hb5.mono HB4.out.size)
        have HB5 := Lib.hid hbb5
        clear hb5 hbb5
        rcases h5 with ⟨hall, U1, u1, rfl, hu1, hru⟩ | ⟨i, hil, hj, hbad, rfl⟩
        · have HALL := Lib.hid hall
          obtain ⟨F, hF⟩ : ∃ F, F = ls.flatMap bytes := ⟨_, rfl⟩
          rw [← hF] at hru ⊢
          have HF := Lib.hid hF
          generalize hL2 : F.length = L2 at hru ⊢
          have HL2 := Lib.hid hL2
          have HRU := Lib.hid hru
          clear hall hru hu1 hF hL2
          go_wp2_with fail
          refine (rencode_any ls A2 m d w5 (KEY.out w5 HB5.out).2 (by omega)).mono ?_
          rintro e w6 ⟨hb6, h6⟩
          have hru6 := HRU.out.below hb6
          have hbb6 := HB5.out.trans (hb6.mono HB5.out.size)
          have HB6 := Lib.hid hbb6
          clear hb6 hbb6
          rcases h6 with ⟨_, V1, v1, rfl, hv1, hrv⟩ | ⟨i, hil, hj, hbad, rfl⟩
          · rw [← HF.out] at hrv ⊢
            rw [HL2.out] at hrv ⊢
            have q1 := hru6.str u1 (P := Try.prog) Try.underlying22 Try.underlying5 Try.underlying9
            have q2 := hrv.str v1 (P := Try.prog) Try.underlying22 Try.underlying5 Try.underlying9
            generalize strOfNums F = S at *
            clear hru6 hrv hv1
            go_wp2_with (go_at_call 7; refine (live_any _).mono ?_; rintro e w7 ⟨rfl, hb7⟩)
            go_ret
            exact ⟨rfl, HB6.out.trans (hb7.mono HB6.out.size)⟩
          · have := HALL.out (ls.getD i 0) (by simp [List.getD, List.getElem?_eq_getElem hil])
            rw [this] at hbad; exact Bool.noConfusion hbad
        · have HJ := Lib.hid hj
          have HBAD := Lib.hid hbad
          have HIL := Lib.hid hil
          clear hj hbad hil
          go_wp2_with fail
          refine (rencode_any ls A2 m d w5 (KEY.out w5 HB5.out).2 (by omega)).mono ?_
          rintro e w6 ⟨hb6, h6⟩
          have hbb6 := HB5.out.trans (hb6.mono HB5.out.size)
          have HB6 := Lib.hid hbb6
          clear hb6 hbb6
          rcases h6 with ⟨hall, V1, v1, rfl, hv1, hrv⟩ | ⟨k, hil, hj, hbad, rfl⟩
          · have h1 := hall (ls.getD i 0) (by simp [List.getD, List.getElem?_eq_getElem HIL.out])
            rw [HBAD.out] at h1; exact Bool.noConfusion h1
          · have hik : i = k := by
              rcases Nat.lt_trichotomy i k with h | h | h
              · have := hj i h; rw [HBAD.out] at this; exact Bool.noConfusion this
              · exact h
              · have := HJ.out k h; rw [hbad] at this; exact Bool.noConfusion this
            subst hik
            have q1 := (Row.nil (k := .u8) (w := w6) (A := none)).str 0 (P := Try.prog) Try.underlying22 Try.underlying5 Try.underlying9
            have d2 : ((i : Int) == (i : Int)) = true := by simp
            generalize strOfNums [] = S at *
            clear hj hbad hil
            go_wp2_with (go_at_call 7; refine (live_any _).mono ?_; rintro e w7 ⟨rfl, hb7⟩)
            go_ret
            exact ⟨rfl, HB6.out.trans (hb7.mono HB6.out.size)⟩
      · exact (dec_not HD.out hd3 hends hp).elim
    · exact (dec_not HD.out hd2 hends hp).elim
  · have HD := Lib.hid hd
    have HE := Lib.hid hends
    have HP := Lib.hid hp
    clear hd hends hp
    go_wp2_with fail
    refine (rdecode_any zs A1 n c w1 (KEY.out w1 HB1.out).1 hnc HCM.out (by omega)).mono ?_
    rintro e w2 ⟨hb2, h2⟩
    have hbb2 := HB1.out.trans (hb2.mono HB1.out.size)
    have HB2 := Lib.hid hbb2
    clear hb2 hbb2
    rcases h2 with ⟨rs2, X2, e2, hd2, rfl, hx2, he2⟩ | ⟨rs2, p2, hd2, hends, hp, rfl⟩
    · exact (dec_not hd2 HD.out HE.out HP.out).elim
    · obtain rfl := (one_way rs rs2 zs p p2 HD.out hd2 HE.out hends).2
      clear hd2 hends hp
      go_wp2_with fail
      refine (count_any zs A1 n c w2 (KEY.out w2 HB2.out).1 (by omega)).mono ?_
      rintro e w3 ⟨hb3, h3⟩
      have hbb3 := HB2.out.trans (hb3.mono HB2.out.size)
      have HB3 := Lib.hid hbb3
      clear hb3 hbb3
      rcases h3 with ⟨rs3, hd3, rfl⟩ | ⟨rs3, p3, hd3, hends, hp, rfl⟩
      · exact (dec_not hd3 HD.out HE.out HP.out).elim
      · clear hd3 hends hp
        have d0 : ((p : Int) != (p : Int)) = false := by simp
        go_wp2_with (first
          | (go_at_call 18; refine (same_yes none none 0 0 0 [] _ Row.nil Row.nil (by omega)).mono ?_; rintro e w4 ⟨rfl, hb4⟩)
          | fail)
        have hbb4 := HB3.out.trans (hb4.mono HB3.out.size)
        have HB4 := Lib.hid hbb4
        clear hb4 hbb4
        refine (encode_any ls A2 m d w4 (KEY.out w4 HB4.out).2 (by omega)).mono ?_
        rintro e w5 ⟨hb5, h5⟩
        have hbb5 := HB4.out.trans (hb5.mono HB4.out.size)
        have HB5 := Lib.hid hbb5
        clear hb5 hbb5
        rcases h5 with ⟨hall, U1, u1, rfl, hu1, hru⟩ | ⟨i, hil, hj, hbad, rfl⟩
        · have HALL := Lib.hid hall
          obtain ⟨F, hF⟩ : ∃ F, F = ls.flatMap bytes := ⟨_, rfl⟩
          rw [← hF] at hru ⊢
          have HF := Lib.hid hF
          generalize hL2 : F.length = L2 at hru ⊢
          have HL2 := Lib.hid hL2
          have HRU := Lib.hid hru
          clear hall hru hu1 hF hL2
          go_wp2_with fail
          refine (rencode_any ls A2 m d w5 (KEY.out w5 HB5.out).2 (by omega)).mono ?_
          rintro e w6 ⟨hb6, h6⟩
          have hru6 := HRU.out.below hb6
          have hbb6 := HB5.out.trans (hb6.mono HB5.out.size)
          have HB6 := Lib.hid hbb6
          clear hb6 hbb6
          rcases h6 with ⟨_, V1, v1, rfl, hv1, hrv⟩ | ⟨i, hil, hj, hbad, rfl⟩
          · rw [← HF.out] at hrv ⊢
            rw [HL2.out] at hrv ⊢
            have q1 := hru6.str u1 (P := Try.prog) Try.underlying22 Try.underlying5 Try.underlying9
            have q2 := hrv.str v1 (P := Try.prog) Try.underlying22 Try.underlying5 Try.underlying9
            generalize strOfNums F = S at *
            clear hru6 hrv hv1
            go_wp2_with (go_at_call 7; refine (live_any _).mono ?_; rintro e w7 ⟨rfl, hb7⟩)
            go_ret
            exact ⟨rfl, HB6.out.trans (hb7.mono HB6.out.size)⟩
          · have := HALL.out (ls.getD i 0) (by simp [List.getD, List.getElem?_eq_getElem hil])
            rw [this] at hbad; exact Bool.noConfusion hbad
        · have HJ := Lib.hid hj
          have HBAD := Lib.hid hbad
          have HIL := Lib.hid hil
          clear hj hbad hil
          go_wp2_with fail
          refine (rencode_any ls A2 m d w5 (KEY.out w5 HB5.out).2 (by omega)).mono ?_
          rintro e w6 ⟨hb6, h6⟩
          have hbb6 := HB5.out.trans (hb6.mono HB5.out.size)
          have HB6 := Lib.hid hbb6
          clear hb6 hbb6
          rcases h6 with ⟨hall, V1, v1, rfl, hv1, hrv⟩ | ⟨k, hil, hj, hbad, rfl⟩
          · have h1 := hall (ls.getD i 0) (by simp [List.getD, List.getElem?_eq_getElem HIL.out])
            rw [HBAD.out] at h1; exact Bool.noConfusion h1
          · have hik : i = k := by
              rcases Nat.lt_trichotomy i k with h | h | h
              · have := hj i h; rw [HBAD.out] at this; exact Bool.noConfusion this
              · exact h
              · have := HJ.out k h; rw [hbad] at this; exact Bool.noConfusion this
            subst hik
            have q1 := (Row.nil (k := .u8) (w := w6) (A := none)).str 0 (P := Try.prog) Try.underlying22 Try.underlying5 Try.underlying9
            have d2 : ((i : Int) == (i : Int)) = true := by simp
            generalize strOfNums [] = S at *
            clear hj hbad hil
            go_wp2_with (go_at_call 7; refine (live_any _).mono ?_; rintro e w7 ⟨rfl, hb7⟩)
            go_ret
            exact ⟨rfl, HB6.out.trans (hb7.mono HB6.out.size)⟩

set_option maxHeartbeats 4000000 in
theorem back_law (A1 A2 : Option Addr) (n c m d : Nat) (zs ls : List Int) (w : World) (H1 : Row .u8 w A1 n zs ∧ n ≤ c ∧ c ≤ maxLen) (H2 : Row .i32 w A2 m ls ∧ m ≤ d ∧ d ≤ maxLen) :
    Calls Try.prog 6 #[.slice A1 n c, .slice A2 m d] w fun e w' => e = .returned (.bool true) ∧ Below w.heap.size w w' := by
  obtain ⟨hr1, hnc, hcm⟩ := H1
  obtain ⟨hr2, hmd, hdm⟩ := H2
  have hdm2 := hdm
  have hcm2 := hcm
  unfold maxLen at hdm2 hcm2
  by_cases hn : 2000 < n
  · clear hr1 hr2 hcm hdm
    go_enter Try.func6, Try.ntmps6
    go_wp2_with (go_at_call 7; refine (live_any _).mono ?_; rintro e w1 ⟨rfl, hb1⟩)
    go_ret
    exact ⟨rfl, hb1⟩
  by_cases hm : 500 < m
  · clear hr1 hr2 hcm hdm
    go_enter Try.func6, Try.ntmps6
    go_wp2_with (go_at_call 7; refine (live_any _).mono ?_; rintro e w1 ⟨rfl, hb1⟩)
    go_ret
    exact ⟨rfl, hb1⟩
  have hn2 : n ≤ 2000 := by omega
  have hm2 : m ≤ 500 := by omega
  have HR1 := Lib.hid hr1
  have HR2 := Lib.hid hr2
  clear hr1 hr2 hcm hdm hn hm
  have key : ∀ (W : World), Below w.heap.size w W → Row .u8 W A1 n zs ∧ Row .i32 W A2 m ls := fun W h => ⟨HR1.out.below h, HR2.out.below h⟩
  have KEY := Lib.hid key
  clear key
  go_enter Try.func6, Try.ntmps6
  go_wp2_with fail
  refine (encode_any ls A2 m d w HR2.out (by omega)).mono ?_
  rintro e w1 ⟨hb1, h1⟩
  have HB1 := Lib.hid hb1
  clear hb1
  rcases h1 with ⟨hall, U1, u1, rfl, hu1, hru⟩ | ⟨i, hil, hj, hbad, rfl⟩
  · have HALL := Lib.hid hall
    have HRU := Lib.hid hru
    have hfl := flat_len ls
    rw [HR2.out.1] at hfl
    obtain ⟨F, hF⟩ : ∃ F, F = ls.flatMap bytes := ⟨_, rfl⟩
    rw [← hF] at hfl HRU ⊢
    have hdf : Dec F ls F.length := ⟨HALL.out, by rw [List.take_of_length_le (Nat.le_refl _), hF], Nat.le_refl _⟩
    have HDF := Lib.hid hdf
    clear hall hru hF hdf hu1
    go_wp2_with fail
    refine (decode_any F U1 F.length u1 w1 HRU.out (by omega)).mono ?_
    rintro e w2 ⟨hb2, h2⟩
    have hbb2 := HB1.out.trans (hb2.mono HB1.out.size)
    have HB2 := Lib.hid hbb2
    clear hb2 hbb2
    rcases h2 with ⟨rs2, X2, e2, hd2, rfl, hx2, he2⟩ | ⟨rs2, p2, hd2, hends, hp, rfl⟩
    · obtain rfl := dec_same HDF.out hd2
      have hlen := HR2.out.1
      rw [hlen] at hx2 ⊢
      have HX2 := Lib.hid hx2
      clear hd2 hx2 hlen
      go_wp2_with (first
        | (go_at_call 18; refine (same_yes X2 A2 m e2 d ls _ HX2.out (KEY.out w2 HB2.out).2 (by omega)).mono ?_; rintro e w3 ⟨rfl, hb3⟩)
        | fail)
      have hbb3 := HB2.out.trans (hb3.mono HB2.out.size)
      have HB3 := Lib.hid hbb3
      clear hb3 hbb3
      refine (decode_any zs A1 n c w3 (KEY.out w3 HB3.out).1 (by omega)).mono ?_
      rintro e w4 ⟨hb4, h4⟩
      have hbb4 := HB3.out.trans (hb4.mono HB3.out.size)
      have HB4 := Lib.hid hbb4
      clear hb4 hbb4
      rcases h4 with ⟨rs, Y, y, hd, rfl, hx, he⟩ | ⟨rs, p, hd, hends, hp, rfl⟩
      · have HD := Lib.hid hd
        have HX := Lib.hid hx
        have hrl := hd.len
        rw [HR1.out.1] at hrl
        generalize hL : rs.length = L at *
        have HL := Lib.hid hL
        clear hd hx hL
        go_wp2_with fail
        refine (encode_any rs Y L y w4 HX.out (by omega)).mono ?_
        rintro e w5 ⟨hb5, h5⟩
        have hbb5 := HB4.out.trans (hb5.mono HB4.out.size)
        have HB5 := Lib.hid hbb5
        clear hb5 hbb5
        rcases h5 with ⟨_, V, v, rfl, hv, hrv⟩ | ⟨i, hil, hj, hbad, rfl⟩
        · have hz : rs.flatMap bytes = zs := by rw [HD.out.2.1, List.take_of_length_le (Nat.le_refl _)]
          rw [hz] at hrv ⊢
          have q1 := hrv.str v (P := Try.prog) Try.underlying22 Try.underlying5 Try.underlying9
          have q2 := ((KEY.out w5 HB5.out).1).str c (P := Try.prog) Try.underlying22 Try.underlying5 Try.underlying9
          generalize strOfNums zs = S at *
          generalize hL2 : zs.length = L2 at *
          clear hrv hL2 hz hv
          go_wp2_with (go_at_call 7; refine (live_any _).mono ?_; rintro e w7 ⟨rfl, hb7⟩)
          go_ret
          exact ⟨rfl, HB5.out.trans (hb7.mono HB5.out.size)⟩
        · have h1 := HD.out.1 (rs.getD i 0) (by simp [List.getD, List.getElem?_eq_getElem hil])
          rw [hbad] at h1; exact Bool.noConfusion h1
      · clear hd hends hp
        go_wp2_with (go_at_call 7; refine (live_any _).mono ?_; rintro e w7 ⟨rfl, hb7⟩)
        go_ret
        exact ⟨rfl, HB4.out.trans (hb7.mono HB4.out.size)⟩
    · exact (dec_not HDF.out hd2 hends hp).elim
  · clear hil hj hbad
    obtain ⟨w3, hw3⟩ : ∃ w3, w3 = w1 := ⟨_, rfl⟩
    subst hw3
    have HB3 := HB1
    go_wp2_with fail
    refine (decode_any zs A1 n c w3 (KEY.out w3 HB3.out).1 (by omega)).mono ?_
    rintro e w4 ⟨hb4, h4⟩
    have hbb4 := HB3.out.trans (hb4.mono HB3.out.size)
    have HB4 := Lib.hid hbb4
    clear hb4 hbb4
    rcases h4 with ⟨rs, Y, y, hd, rfl, hx, he⟩ | ⟨rs, p, hd, hends, hp, rfl⟩
    · have HD := Lib.hid hd
      have HX := Lib.hid hx
      have hrl := hd.len
      rw [HR1.out.1] at hrl
      generalize hL : rs.length = L at *
      have HL := Lib.hid hL
      clear hd hx hL
      go_wp2_with fail
      refine (encode_any rs Y L y w4 HX.out (by omega)).mono ?_
      rintro e w5 ⟨hb5, h5⟩
      have hbb5 := HB4.out.trans (hb5.mono HB4.out.size)
      have HB5 := Lib.hid hbb5
      clear hb5 hbb5
      rcases h5 with ⟨_, V, v, rfl, hv, hrv⟩ | ⟨i, hil, hj, hbad, rfl⟩
      · have hz : rs.flatMap bytes = zs := by rw [HD.out.2.1, List.take_of_length_le (Nat.le_refl _)]
        rw [hz] at hrv ⊢
        have q1 := hrv.str v (P := Try.prog) Try.underlying22 Try.underlying5 Try.underlying9
        have q2 := ((KEY.out w5 HB5.out).1).str c (P := Try.prog) Try.underlying22 Try.underlying5 Try.underlying9
        generalize strOfNums zs = S at *
        generalize hL2 : zs.length = L2 at *
        clear hrv hL2 hz hv
        go_wp2_with (go_at_call 7; refine (live_any _).mono ?_; rintro e w7 ⟨rfl, hb7⟩)
        go_ret
        exact ⟨rfl, HB5.out.trans (hb7.mono HB5.out.size)⟩
      · have h1 := HD.out.1 (rs.getD i 0) (by simp [List.getD, List.getElem?_eq_getElem hil])
        rw [hbad] at h1; exact Bool.noConfusion h1
    · clear hd hends hp
      go_wp2_with (go_at_call 7; refine (live_any _).mono ?_; rintro e w7 ⟨rfl, hb7⟩)
      go_ret
      exact ⟨rfl, HB4.out.trans (hb7.mono HB4.out.size)⟩
end Go.Proofs.Ytdicjplekbjdpaa.Utf
