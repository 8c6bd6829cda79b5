/- Walk of the law RouteBack. -/
import Derived.Test.YtmpcnnpekbbchaaRtN
namespace Go.Proofs.Ytmpcnnpekbbchaa.Rt
open Go.RowKit Mem Sm
set_option linter.unusedVariables false

set_option maxHeartbeats 8000000 in
theorem back_walk (A : Option Addr) (n c : Nat) (l : List Mi) (pos side : Int) (w : World) (hr : MLow w.heap.size w A n l) (hn : n ≤ maxLen) :
    Calls Try.prog 5 #[.slice A n c, .int .i64 pos, .int .i64 side] w fun e w' => e = .returned (.bool true) ∧ Below w.heap.size w w' := by
  have HR := Lib.hid hr
  have HL := Lib.hid hr.1
  have LV := fun W => live_any W
  have CF := few_any l A n c w hr
  clear hr
  go_enter Try.func5, Try.ntmps5
  go_wp2_with fail
  refine CF.mono ?_
  rintro e w1 ⟨rfl, hb1⟩
  have HB1 := Lib.hid hb1
  clear hb1 CF
  cases hfb : fewB l with
  | false =>
    go_wp2_with (go_at_call 16; refine (LV _).mono ?_; rintro e w2 ⟨rfl, hb⟩)
    go_ret
    exact ⟨rfl, HB1.out.trans (hb.mono HB1.out.size)⟩
  | true =>
    have HF := Lib.hid (few_of hfb)
    clear hfb
    by_cases hp0 : pos < 0
    · go_wp2_with (go_at_call 16; refine (LV _).mono ?_; rintro e w2 ⟨rfl, hb⟩)
      go_ret
      exact ⟨rfl, HB1.out.trans (hb.mono HB1.out.size)⟩
    · by_cases hp1 : pos > 1073741824
      · go_wp2_with (go_at_call 16; refine (LV _).mono ?_; rintro e w2 ⟨rfl, hb⟩)
        go_ret
        exact ⟨rfl, HB1.out.trans (hb.mono HB1.out.size)⟩
      · have HT0 := Lib.hid (RtAt.new w1)
        have HB2 := Lib.hid (HB1.out.alloc HB1.out.size (.cells #[.slice none 0 0, .map none] 60))
        have hbw := HB1.out.size
        go_wp2_with fail
        obtain ⟨b0, hb0⟩ : ∃ b, b = w1.heap.size := ⟨_, rfl⟩
        rw [← hb0] at HT0 hbw ⊢
        clear hb0
        go_loopw [8, 9] (fun nv iv wr => ∃ (i : Nat) (v : Value) (vs : List Value), nv = .int .i64 ((kept l i).length : Nat) ∧ iv = .int .i64 i ∧ i ≤ n ∧ Hid (RtAt b0 wr b0 v (.map none) vs (kept l i) []) ∧ Hid (Below w.heap.size w wr)) (fun _ iv _ => n - (intOf iv).toNat)
        case atStart => exact ⟨0, _, _, rfl, rfl, by omega, HT0, HB2⟩
        case round =>
          obtain ⟨i, v, vs, rfl, rfl, hi, HT, HB⟩ := hrel
          obtain ⟨K, hK⟩ : ∃ K, K = kept l i := ⟨_, rfl⟩
          have hn30 : n ≤ 30 := by have := HF.out.1; have := HL.out; omega
          have hKl : K.length ≤ 30 := by have := kept_length l i; rw [hK]; omega
          rw [← hK] at HT ⊢
          have HK := Lib.hid hK
          clear hK
          by_cases hlt : i < n
          · have hil : i < l.length := by rw [← HL.out]; exact hlt
            have hlm := HF.out.2 i hil
            obtain ⟨b, off, rfl, hb, hc⟩ := HR.out.2 (by omega)
            have hci := (hc i hlt).below HB.out (Nat.le_refl _) hb
            have HKY := Lib.hid (fun h => kept_yes hil h)
            have HKN := Lib.hid (fun h => kept_no hil h)
            rw [← HK.out] at HKY HKN
            generalize mi l i = x at hlm hci HKY HKN
            obtain ⟨m, of⟩ := x
            obtain ⟨Ai, ci, c0, _, hrow⟩ := hci
            simp only at hlm c0 hrow HKY HKN
            have HRI := Lib.hid hrow
            clear hc hrow
            have d1 : decide ((i : Int) < (n : Int)) = true := decide_eq_true (by omega)
            have i1 : (0 : Int) ≤ (i : Int) := by omega
            have i2 : (i : Int) < (n : Int) := by omega
            have CR := rright_any m Ai m.length ci wr (by omega) (HRI.out.lift HB.out.size)
            go_wp2_with fail
            refine CR.mono ?_
            rintro e w2 ⟨rfl, hb2⟩
            have HT2 := Lib.hid (HT.out.step hb2)
            have HB3 := Lib.hid (HB.out.trans (hb2.mono HB.out.size))
            have c02 := below_cell hb2 c0
            have HRI2 := Lib.hid (HRI.out.below hb2 HB.out.size)
            clear CR HT HB hb2 c0 HRI
            cases hrb : rightB m with
            | false =>
              have hkn := HKN.out (by unfold goodB; rw [hrb]; rfl)
              have HKK := Lib.hid hkn
              clear hkn HKY HKN
              go_wp2
              go_roundw
              case measure => simp only [intOf]; omega
              case rel => exact ⟨i + 1, v, vs, by rw [HKK.out], by push_cast; rfl, by omega, by rw [HKK.out]; exact HT2, HB3⟩
            | true =>
              have CI := rinvert_any m Ai m.length ci w2 (by omega) (right_of hrb) (HRI2.out.lift HB3.out.size)
              have HRB := Lib.hid hrb
              clear hrb
              go_wp2_with fail
              refine CI.mono ?_
              rintro e w3 ⟨vi, rfl, ho, hb3⟩
              obtain ⟨A1, c1, hv, hc1, hrow1⟩ := ho.row
              have hvl : (inv m).length = m.length := inv_length m
              rw [hvl] at hv hrow1
              subst hv
              have CR3 := rright_any (inv m) A1 m.length c1 w3 (by omega) (RLow.of hrow1)
              have HT3 := Lib.hid (HT2.out.step hb3)
              have HB4 := Lib.hid (HB3.out.trans (hb3.mono HB3.out.size))
              have c03 := below_cell hb3 c02
              have HRI3 := Lib.hid (HRI2.out.below hb3 HB3.out.size)
              clear CI ho hb3 hc1 hrow1 hvl HT2 HB3 c02 HRI2
              go_wp2_with fail
              refine CR3.mono ?_
              rintro e w4 ⟨rfl, hb4⟩
              have HT4 := Lib.hid (HT3.out.step hb4)
              have HB5 := Lib.hid (HB4.out.trans (hb4.mono HB4.out.size))
              have c04 := below_cell hb4 c03
              have HRI4 := Lib.hid (HRI3.out.below hb4 HB4.out.size)
              clear CR3 hb4 HT3 HB4 c03 HRI3
              cases hri : rightB (inv m) with
              | false =>
                have hkn := HKN.out (by unfold goodB; rw [hri]; simp)
                have HKK := Lib.hid hkn
                clear hkn HKY HKN
                go_wp2
                go_roundw
                case measure => simp only [intOf]; omega
                case rel => exact ⟨i + 1, v, vs, by rw [HKK.out], by push_cast; rfl, by omega, by rw [HKK.out]; exact HT4, HB5⟩
              | true =>
                have hky := HKY.out (by unfold goodB; rw [HRB.out, hri]; rfl)
                have HKK := Lib.hid hky
                have CA := add_any b0 b0 v _ vs K [] m Ai m.length ci w4 (by omega) (by omega) HT4.out (row_low HRI4.out HB5.out.size)
                clear hky HKY HKN hri
                go_wp2_with fail
                refine CA.mono ?_
                rintro e w5 ⟨⟨hr, rfl, v5, vs5, h5⟩ | ⟨hr, _⟩, hf5⟩
                case inr => rw [HRB.out] at hr; cases hr
                have HT5 := Lib.hid h5
                have HB6 := Lib.hid (HB5.out.trans (hf5.below.mono hbw))
                clear CA hr h5 hf5 HT4 HB5
                go_wp2
                go_roundw
                case measure => simp only [intOf]; omega
                case rel => exact ⟨i + 1, v5, vs5, by rw [HKK.out]; simp, by push_cast; rfl, by omega, by rw [HKK.out]; exact HT5, HB6⟩
          · have d1 : decide ((i : Int) < (n : Int)) = false := decide_eq_false (by omega)
            obtain rfl : i = n := by omega
            rw [show kept l i = kept l l.length by rw [HL.out]] at HK
            have HT0 := Lib.hid (show RtAt b0 wr b0 v (.map none) vs (mapN K 0) (mirN K.length 0) by simpa [mapN, mirN] using HT.out)
            clear HT hlt hi
            go_wp2_with fail
            go_loopw [10, 11] (fun kv iv wy => ∃ (i j : Nat) (kz z : Int) (v mp : Value) (vs : List Value), kv = .int .i64 kz ∧ iv = .int .i64 z ∧ kz = (kept l i).length ∧ z = (i : Int) - 1 ∧ i ≤ l.length ∧ j + (kept l i).length = K.length ∧ Hid (RtAt b0 wy b0 v mp vs (mapN K j) (mirN K.length j)) ∧ Hid (Below w.heap.size w wy)) (fun _ iv _ => (intOf iv + 1).toNat)
            case atStart => exact ⟨l.length, 0, _, _, _, _, _, rfl, rfl, by rw [HK.out], by rw [HL.out], by omega, by rw [HK.out]; omega, HT0, HB⟩
            case round =>
              obtain ⟨i', j, kz, z, v, mp, vs, rfl, rfl, hkz, hz, hi', hj, HT, HB⟩ := hrel
              by_cases h0 : i' = 0
              · subst h0
                obtain rfl : z = -1 := by omega
                have hjK : j = K.length := by rw [kept_zero] at hj; simpa using hj
                subst hjK
                have hML := mapN_length K (Nat.le_refl K.length)
                have CT := rttell_any b0 b0 v mp vs (mapN K K.length) (mirN K.length K.length) pos side wr (by omega) (fun m hm => by
                  rcases mapN_mem hm with h | ⟨k, hk, rfl⟩
                  · have := kept_mem HF.out (HK.out ▸ h); exact ⟨by omega, this.2.1⟩
                  · have := kept_mem HF.out (HK.out ▸ hk); exact ⟨by rw [inv_length]; omega, this.2.2⟩) (fun x hx => by
                  have := mirN_bound K.length K.length (Nat.le_refl _) x hx
                  rw [hML]; omega) HT.out
                clear hML hj hkz hz hi'
                rcases back_ends (K := K) (fun m hm => (kept_mem HF.out (HK.out ▸ hm)).2) pos side with hR | hR
                · rw [hR] at CT
                  clear hR
                  unfold plV endP endE at CT
                  simp only at CT
                  go_wp2_with fail
                  refine CT.mono ?_
                  rintro e w7 ⟨rfl, hb7⟩
                  have HB7 := Lib.hid (HB.out.trans (hb7.mono HB.out.size))
                  have HB8 := Lib.hid (HB7.out.alloc HB7.out.size (.cells #[.int .i64 0, .bool false, .bool false, .int .i64 0, .int .i64 0] 27))
                  clear CT hb7 HT HB
                  go_wp2_with (go_at_call 16; refine (LV _).mono ?_; rintro e w9 ⟨rfl, hb⟩)
                  go_ret
                  exact ⟨rfl, HB8.out.trans (hb.mono HB8.out.size)⟩
                · rw [hR] at CT
                  clear hR
                  unfold plV endP endE at CT
                  simp only at CT
                  go_wp2_with fail
                  refine CT.mono ?_
                  rintro e w7 ⟨rfl, hb7⟩
                  have HB7 := Lib.hid (HB.out.trans (hb7.mono HB.out.size))
                  have HB8 := Lib.hid (HB7.out.alloc HB7.out.size (.cells #[.int .i64 pos, .bool false, .bool false, .int .i64 0, .int .i64 0] 27))
                  clear CT hb7 HT HB
                  go_wp2_with (go_at_call 16; refine (LV _).mono ?_; rintro e w9 ⟨rfl, hb⟩)
                  go_ret
                  exact ⟨rfl, HB8.out.trans (hb.mono HB8.out.size)⟩
              · obtain ⟨q, rfl⟩ : ∃ q, i' = q + 1 := ⟨i' - 1, by omega⟩
                obtain rfl : z = (q : Int) := by omega
                have hql : q < l.length := by omega
                have hq30 : q < i := by rw [HL.out]; exact hql
                have hlm := HF.out.2 q hql
                obtain ⟨b, off, rfl, hb, hc⟩ := HR.out.2 (by omega)
                have hci := (hc q hq30).below HB.out (Nat.le_refl _) hb
                have HKY := Lib.hid (fun h => And.intro (kept_yes hql h) (kept_at hql h))
                have HKN := Lib.hid (fun h => kept_no hql h)
                rw [← HK.out] at HKY
                generalize mi l q = x at hlm hci HKY HKN
                obtain ⟨m, of⟩ := x
                obtain ⟨Ai, ci, c0, _, hrow⟩ := hci
                simp only at hlm c0 hrow HKY HKN
                have HRI := Lib.hid hrow
                clear hc hrow h0 hz hi'
                have i1 : (0 : Int) ≤ (q : Int) := by omega
                have i2 : (q : Int) < (i : Int) := by omega
                have hm1 : decide ((q : Int) ≥ 0) = true := decide_eq_true i1
                have CR := rright_any m Ai m.length ci wr (by omega) (HRI.out.lift HB.out.size)
                have HJ := Lib.hid hj
                have HKZ := Lib.hid hkz
                clear hj hkz
                go_wp2_with fail
                refine CR.mono ?_
                rintro e w2 ⟨rfl, hb2⟩
                have HT2 := Lib.hid (HT.out.step hb2)
                have HB3 := Lib.hid (HB.out.trans (hb2.mono HB.out.size))
                have c02 := below_cell hb2 c0
                have HRI2 := Lib.hid (HRI.out.below hb2 HB.out.size)
                clear CR HT HB hb2 c0 HRI
                cases hrb : rightB m with
                | false =>
                  have hkn := HKN.out (by unfold goodB; rw [hrb]; rfl)
                  have HKK := Lib.hid hkn
                  clear hkn HKY HKN
                  go_wp2
                  go_roundw
                  case measure => simp only [intOf]; omega
                  case rel => exact ⟨q, j, kz, (q : Int) - 1, v, mp, vs, rfl, rfl, by rw [HKZ.out, HKK.out], rfl, by omega, by rw [← HJ.out, HKK.out], HT2, HB3⟩
                | true =>
                  have CI := rinvert_any m Ai m.length ci w2 (by omega) (right_of hrb) (HRI2.out.lift HB3.out.size)
                  have HRB := Lib.hid hrb
                  clear hrb
                  go_wp2_with fail
                  refine CI.mono ?_
                  rintro e w3 ⟨vi, rfl, ho, hb3⟩
                  obtain ⟨A1, c1, hv, hc1, hrow1⟩ := ho.row
                  have hvl : (inv m).length = m.length := inv_length m
                  rw [hvl] at hv hrow1
                  subst hv
                  have CR3 := rright_any (inv m) A1 m.length c1 w3 (by omega) (RLow.of hrow1)
                  have HT3 := Lib.hid (HT2.out.step hb3)
                  have HB4 := Lib.hid (HB3.out.trans (hb3.mono HB3.out.size))
                  have c03 := below_cell hb3 c02
                  have HRI3 := Lib.hid (HRI2.out.below hb3 HB3.out.size)
                  clear CI ho hb3 hc1 hrow1 hvl HT2 HB3 c02 HRI2
                  go_wp2_with fail
                  refine CR3.mono ?_
                  rintro e w4 ⟨rfl, hb4⟩
                  have HT4 := Lib.hid (HT3.out.step hb4)
                  have HB5 := Lib.hid (HB4.out.trans (hb4.mono HB4.out.size))
                  have c04 := below_cell hb4 c03
                  have HRI4 := Lib.hid (HRI3.out.below hb4 HB4.out.size)
                  clear CR3 hb4 HT3 HB4 c03 HRI3
                  cases hri : rightB (inv m) with
                  | false =>
                    have hkn := HKN.out (by unfold goodB; rw [hri]; simp)
                    have HKK := Lib.hid hkn
                    clear hkn HKY HKN
                    go_wp2
                    go_roundw
                    case measure => simp only [intOf]; omega
                    case rel => exact ⟨q, j, kz, (q : Int) - 1, v, mp, vs, rfl, rfl, by rw [HKZ.out, HKK.out], rfl, by omega, by rw [← HJ.out, HKK.out], HT4, HB5⟩
                  | true =>
                    obtain ⟨hky, hka, hkl⟩ := HKY.out (by unfold goodB; rw [HRB.out, hri]; rfl)
                    have hkz := HKZ.out
                    have hj := HJ.out
                    rw [hky] at hkz hj
                    rw [List.length_append] at hkz hj
                    simp only [List.length_cons, List.length_nil, Nat.zero_add] at hkz hj
                    have HRI5 := Lib.hid hri
                    obtain ⟨r, hr⟩ : ∃ r, r = (kept l q).length := ⟨_, rfl⟩
                    rw [← hr] at hkz hj hka hkl
                    have HRR := Lib.hid hr
                    have HKA := Lib.hid hka
                    have hk2 : kz = (r : Int) + 1 := by omega
                    subst hk2
                    clear hr hky hka HKY HKN hri hkz HKZ HJ
                    have CI := rinvert_any m Ai m.length ci w4 (by omega) (right_of HRB.out) (HRI4.out.lift HB5.out.size)
                    go_wp2_with fail
                    refine CI.mono ?_
                    rintro e w5 ⟨v5, rfl, ho, hb5⟩
                    obtain ⟨A2, c2, hv, _, _⟩ := ho.row
                    have hvl : (inv m).length = m.length := inv_length m
                    rw [hvl] at hv
                    subst hv
                    have HT5 := Lib.hid (HT4.out.step hb5)
                    have HB6 := Lib.hid (HB5.out.trans (hb5.mono HB5.out.size))
                    have HS := Lib.hid (SlAt.of_own ho)
                    clear CI ho hb5 hvl HT4 HB5 c04 HRI4
                    have hML := mapN_length K (show j ≤ K.length by omega)
                    have CM := mirror_any b0 b0 v mp vs (mapN K j) (mirN K.length j) (inv m) r A2 m.length c2 w5 (by omega) (by omega) (fun x hx => by
                      have := mirN_bound K.length j (by omega) x hx
                      rw [hML]; omega) HT5.out (fun W' hf => row_of (HS.out.after HT5.out hf))
                    have hlk : lk (mirN K.length j) ((r : Nat) : Int) = none ∧ 0 ≤ ((r : Nat) : Int) ∧ ((r : Nat) : Int) < (mapN K j).length := by
                      refine ⟨?_, by omega, by omega⟩
                      rw [lk_mirN K.length j r (by omega), if_neg (by omega)]
                    have HLK := Lib.hid hlk
                    clear hlk
                    go_wp2_with fail
                    refine CM.mono ?_
                    rintro e w6 ⟨⟨hr, _, rfl, v6, mp6, vs6, h6⟩ | ⟨hr, hno, _⟩ | ⟨hr, _⟩, hf6⟩
                    case inr.inl => exact absurd HLK.out hno
                    case inr.inr => rw [HRI5.out] at hr; cases hr
                    have h7 : RtAt b0 w6 b0 v6 mp6 vs6 (mapN K (j + 1)) (mirN K.length (j + 1)) := by
                      rw [mapN_step K (show j < K.length by omega), show K.length - 1 - j = r by omega, HKA.out]
                      rw [hML] at h6
                      simp only [mirN]
                      rw [show K.length - 1 - j = r by omega]
                      exact h6
                    have HT6 := Lib.hid h7
                    have HB7 := Lib.hid (HB6.out.trans (hf6.below.mono hbw))
                    clear CM hr h6 h7 hf6 HT5 HB6 HLK HS hML
                    have HJ := Lib.hid hj
                    clear hj hkl
                    go_wp2
                    go_roundw
                    case measure => simp only [intOf]; omega
                    case rel => exact ⟨q, j + 1, (r : Int), (q : Int) - 1, v6, mp6, vs6, rfl, rfl, by rw [HRR.out], rfl, by omega, by rw [← HRR.out, ← HJ.out]; omega, HT6, HB7⟩
end Go.Proofs.Ytmpcnnpekbbchaa.Rt
