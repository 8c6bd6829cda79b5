/- The law LexSigns. -/
import Derived.Test.YtegkimcfmdckbaaDoorLxW
namespace Go.Proofs.YtegkimcfmdckbaaDoor.Lx
open Go.RowKit Mem
set_option linter.unusedVariables false

set_option maxRecDepth 100000 in
set_option maxHeartbeats 4000000 in
theorem signs_walk (s : ByteArray) (w : World) (hs : s.size ≤ maxLen) (H : Held w) : Calls Tryd.prog 3 #[.string s] w fun e w' => e = .returned (.bool true) ∧ Below w.heap.size w w' := by
  unfold maxLen at hs
  have HH := hide H
  clear H
  by_cases hbig : 3000 < s.size
  · have HL := hide (live_any w HH.out)
    go_enter Tryd.func3, Tryd.ntmps3
    go_wp2_with (go_at_call 6; (with_reducible refine HL.out.mono ?_); rintro e w1 ⟨rfl, hb1⟩)
    go_ret
    exact ⟨rfl, hb1⟩
  · have hsz : s.size ≤ 3000 := by omega
    have HX := hide (lex_any s w (by omega) HH.out)
    have HY := hide (fun W => rlex_any s W (by omega))
    rcases lex_ends s.data.toList with ⟨l, hl, hf, hlen⟩ | ⟨p, c, hl, hc⟩
    · have HE := Lib.hid hl
      obtain ⟨n, hn⟩ : ∃ n, n = l.length := ⟨_, rfl⟩
      have HL1 := Lib.hid hn.symm
      have hn200 : n ≤ 200 := by omega
      clear hl hf hlen hn hbig
      go_enter Tryd.func3, Tryd.ntmps3
      go_wp2_with fail
      refine HX.out.mono ?_
      rintro e w1 ⟨hb, h⟩
      rw [HE.out] at h
      simp only at h
      rw [HL1.out] at h
      obtain ⟨A, c, rfl, hc, hr⟩ := h
      have HB1 := Lib.hid hb
      have HR1 := Lib.hid hr
      clear hb hr
      go_wp2_with fail
      refine (HY.out _).mono ?_
      rintro e w2 ⟨hb2, h⟩
      rw [HE.out] at h
      simp only at h
      rw [HL1.out] at h
      obtain ⟨A', c', rfl, hc', hr'⟩ := h
      have HB2 := Lib.hid (HB1.out.trans (hb2.mono HB1.out.size))
      have HR2 := Lib.hid (HR1.out.below hb2)
      have HR3 := Lib.hid hr'
      clear hb2 hr' HX HY
      go_wp2_with fail
      go_loopw [9] (fun i wr => ∃ k : Nat, k ≤ n ∧ i = .int .i64 k ∧ Hid (Below w2.heap.size w2 wr)) (fun i _ => n - (intOf i).toNat)
      case atStart => exact ⟨0, by omega, rfl, Lib.hid (Below.refl _ _)⟩
      case round =>
        obtain ⟨k, hk, rfl, hbw⟩ := hrel
        by_cases hlt : k < n
        · have k1 : k < l.length := by rw [HL1.out]; exact hlt
          obtain ⟨b, off, hA, hb, hcell⟩ := (HR2.out.below hbw.out).2 (by omega)
          obtain ⟨b', off', hA', hb', hcell'⟩ := (HR3.out.below hbw.out).2 (by omega)
          obtain ⟨a0, a1, a2, a3, a4⟩ := hcell k k1
          obtain ⟨d0, d1, d2, d3, d4⟩ := hcell' k k1
          obtain ⟨x, hx⟩ : ∃ x, x = l[k] := ⟨_, rfl⟩
          rw [← hx] at a0 a1 a2 a3 a4 d0 d1 d2 d3 d4
          obtain ⟨kd, at_, lo, hi, nm⟩ := x
          dsimp only at a0 a1 a2 a3 a4 d0 d1 d2 d3 d4
          subst hA
          subst hA'
          clear hx hcell hcell'
          go_wp2_with fail
          go_quiet (fail)
          go_wp2_with fail
          go_roundw
          case rel => exact ⟨k + 1, by omega, by go_num, below_drewN hbw.out nq⟩
          case measure => simp [intOf]; omega
        · obtain rfl : k = n := by omega
          have HW := Lib.hid (HB2.out.trans (hbw.out.mono HB2.out.size))
          have HLV := hide (live_any wr (HH.out.below HW.out))
          go_wp2_with (go_at_call 6; (with_reducible refine HLV.out.mono ?_); rintro e w9 ⟨rfl, hb9⟩)
          go_ret
          exact ⟨rfl, HW.out.trans (hb9.mono HW.out.size)⟩
    · have HE := Lib.hid hl
      clear hl hc hbig
      go_enter Tryd.func3, Tryd.ntmps3
      go_wp2_with fail
      refine HX.out.mono ?_
      rintro e w1 ⟨hb, h⟩
      rw [HE.out] at h
      obtain rfl : e = .returned (.tuple #[.slice none 0 0, .int .i64 p, .int .i64 c]) := h
      have HB1 := Lib.hid hb
      clear hb
      go_wp2_with fail
      refine (HY.out _).mono ?_
      rintro e w2 ⟨hb2, h⟩
      rw [HE.out] at h
      obtain rfl : e = .returned (.tuple #[.slice none 0 0, .int .i64 p, .int .i64 c]) := h
      have HB2 := Lib.hid (HB1.out.trans (hb2.mono HB1.out.size))
      clear hb2 HX HY
      go_wp2_with fail
      go_loopw [9] (fun i wr => i = .int .i64 0 ∧ Hid (Below w2.heap.size w2 wr)) (fun _ _ => 0)
      case atStart => exact ⟨rfl, Lib.hid (Below.refl _ _)⟩
      case round =>
        obtain ⟨rfl, hbw⟩ := hrel
        have HW := Lib.hid (HB2.out.trans (hbw.out.mono HB2.out.size))
        have HLV := hide (live_any wr (HH.out.below HW.out))
        go_wp2_with (go_at_call 6; (with_reducible refine HLV.out.mono ?_); rintro e w9 ⟨rfl, hb9⟩)
        go_ret
        exact ⟨rfl, HW.out.trans (hb9.mono HW.out.size)⟩
end Go.Proofs.YtegkimcfmdckbaaDoor.Lx
