/- Walks of the law LexBack. -/
import Derived.Test.YtegkimcfmdckbaaDoorLxL
namespace Go.Proofs.YtegkimcfmdckbaaDoor.Lx
open Go.RowKit Mem
set_option linter.unusedVariables false

theorem num_bad {t : List UInt8} {k p : Nat} {c : Int} (h : num t k = .bad p c) : c = 2 ∨ c = 5 := by
  unfold num at h
  repeat' split at h
  all_goals first
    | (simp only [Res.bad.injEq] at h; omega)
    | simp at h
theorem numP_bad {t : List UInt8} {k l p : Nat} {c : Int} (h : numP t k l = .bad p c) : c = 2 ∨ c = 3 ∨ c = 5 := by
  unfold numP at h
  cases hn : num t k with
  | ok n to => rw [hn] at h; simp only at h; split at h <;> simp at h; omega
  | bad q d => rw [hn] at h; simp only [Res.bad.injEq] at h; have := num_bad hn; omega
theorem cnt_bad {t : List UInt8} {k p : Nat} {c : Int} (h : cnt t k = .bad p c) : c = 2 ∨ c = 3 ∨ c = 5 := by
  unfold cnt at h
  cases hn : numP t k 0 with
  | bad q d => rw [hn] at h; simp only [Res.bad.injEq] at h; have := numP_bad hn; omega
  | ok low to =>
    rw [hn] at h
    simp only at h
    split at h
    · simp at h; omega
    · split at h
      · unfold highP at h
        split at h
        · simp at h; omega
        · split at h
          · simp at h
          · split at h
            · rename_i hn2
              simp only [Res.bad.injEq] at h
              have := numP_bad hn2; omega
            · unfold shutP at h
              split at h
              · simp at h; omega
              · split at h
                · simp at h
                · simp at h; omega
      · split at h
        · split at h
          · simp at h; omega
          · simp at h
        · simp at h; omega
theorem one_bad {c : UInt8} {t : List UInt8} {k p : Nat} {e : Int} (h : one c t k = .bad p e) : e = 2 ∨ e = 3 ∨ e = 5 := by
  unfold one at h
  split at h
  · simp only at h
    split at h
    · simp at h
    · simp at h; omega
  · split at h
    · split at h
      · rename_i hc
        simp only [Res.bad.injEq] at h
        have := cnt_bad hc; omega
      · simp at h
    · split at h
      · simp at h
      · simp at h; omega
theorem lex_bad : ∀ (f : Nat) (t : List UInt8) (k : Nat) (acc : List Sg) (p : Nat) (e : Int), lex f t k acc = .bad p e → e = 2 ∨ e = 3 ∨ e = 4 ∨ e = 5
  | 0, _, _, _, _, _, h => by simp [lex] at h
  | f + 1, [], _, _, _, _, h => by simp [lex] at h
  | f + 1, c :: u, k, acc, p, e, h => by
    unfold lex at h
    simp only at h
    split at h
    · exact lex_bad f _ _ _ _ _ h
    · split at h
      · simp at h; omega
      · split at h
        · rename_i ho
          simp only [Res.bad.injEq] at h
          have := one_bad ho; omega
        · exact lex_bad f _ _ _ _ _ h
theorem lex_ends (s : List UInt8) : (∃ l, Lex s = .ok l 0 ∧ (∀ x ∈ l, Fine x) ∧ l.length ≤ 200) ∨ ∃ p e, Lex s = .bad p e ∧ e ≠ 0 := by
  cases h : Lex s with
  | ok l n =>
    obtain ⟨h1, h2, rfl⟩ := lex_fine _ s 0 [] l n (by simp) (by simp) h
    exact .inl ⟨l, rfl, h1, h2⟩
  | bad p e => exact .inr ⟨p, e, rfl, by have := lex_bad _ _ _ _ _ _ h; omega⟩
theorem fine_64 {x : Sg} (h : Fine x) : (I64 x.low ∧ I64 x.high) ∧ x.name.length ≤ 100 := by
  unfold I64
  rcases h with ⟨_, h2, h3, _, _, h5⟩ | ⟨_, h2, h3, h4⟩ | ⟨_, h2, h3, h4, h5⟩
  · exact ⟨by omega, by omega⟩
  · exact ⟨by omega, by rw [h4]; simp⟩
  · exact ⟨by omega, by rw [h2]; simp⟩

set_option maxRecDepth 100000 in
set_option maxHeartbeats 4000000 in
theorem back_walk (s : ByteArray) (w : World) (hs : s.size ≤ maxLen) (H : Held w) : Calls Tryd.prog 5 #[.string s] w fun e w' => e = .returned (.bool true) ∧ Below w.heap.size w w' := by
  unfold maxLen at hs
  have HH := hide H
  clear H
  by_cases hbig : 3000 < s.size
  · have HL := hide (live_any w HH.out)
    go_enter Tryd.func5, Tryd.ntmps5
    go_wp2_with (go_at_call 6; (with_reducible refine HL.out.mono ?_); rintro e w1 ⟨rfl, hb1⟩)
    go_ret
    exact ⟨rfl, hb1⟩
  · have hsz : s.size ≤ 3000 := by omega
    have HX := hide (lex_any s w (by omega) HH.out)
    rcases lex_ends s.data.toList with ⟨l, hl, hf, hlen⟩ | ⟨p, c, hl, hc⟩
    · obtain ⟨l', hl', hlen', hal⟩ := lex_shown l 0 0 [] hf (by simpa using hlen)
      have hL2 : Lex (showN 0 l) = .ok l' 0 := hl'
      have hTl := showN_len l 0 (fun x hx => fine_64 (hf x hx))
      obtain ⟨T, hT⟩ : ∃ T : ByteArray, T = ⟨(showN 0 l).toArray⟩ := ⟨_, rfl⟩
      have hTs : T.size ≤ 100000 := by rw [hT]; simp only [ByteArray.size, List.size_toArray]; omega
      have hTd : T.data.toList = showN 0 l := by rw [hT]
      rw [← hTd] at hL2
      have HE := Lib.hid hl
      have HE2 := Lib.hid hL2
      have HF := hide (fun x hx => fine_64 (hf x hx))
      have HA := hide hal
      obtain ⟨n, hn⟩ : ∃ n, n = l.length := ⟨_, rfl⟩
      have HL1 := Lib.hid hn.symm
      have HL2 : Hid (l'.length = n) := by show _ = _; rw [hn]; exact hlen'
      have hn200 : n ≤ 200 := by omega
      have HT := Lib.hid hT
      clear hl hl' hL2 hTl hT hTd hf hal hlen' hbig hn hlen
      go_enter Tryd.func5, Tryd.ntmps5
      go_wp2_with fail
      refine HX.out.mono ?_
      rintro e w1 ⟨hb, h⟩
      rw [HE.out] at h
      simp only at h
      rw [HL1.out] at h
      obtain ⟨A, c, rfl, hc, hr⟩ := h
      have HB1 := Lib.hid hb
      have HR1 := Lib.hid hr
      have HS := hide (Show_any A n c l w1 hr (by omega) HF.out (HH.out.below hb))
      rw [← HT.out] at HS
      clear hb hr
      go_wp2_with fail
      refine HS.out.mono ?_
      rintro e w2 ⟨rfl, hb2⟩
      have HB2 := Lib.hid (HB1.out.trans (hb2.mono HB1.out.size))
      have HR2 := Lib.hid (HR1.out.below hb2)
      have HX2 := hide (lex_any T w2 hTs (HH.out.below HB2.out))
      clear hb2
      go_wp2_with fail
      refine HX2.out.mono ?_
      rintro e w3 ⟨hb3, h⟩
      rw [HE2.out] at h
      simp only at h
      rw [HL2.out] at h
      obtain ⟨A', c', rfl, hc', hr'⟩ := h
      have HB3 := Lib.hid (HB2.out.trans (hb3.mono HB2.out.size))
      have HR3 := Lib.hid (HR2.out.below hb3)
      have HR4 := Lib.hid hr'
      clear hb3 hr' HX HS HX2
      go_wp2_with fail
      go_loopw [9] (fun i wr => ∃ k : Nat, k ≤ n ∧ i = .int .i64 k ∧ Hid (Below w3.heap.size w3 wr)) (fun i _ => n - (intOf i).toNat)
      case atStart => exact ⟨0, by omega, rfl, Lib.hid (Below.refl _ _)⟩
      case round =>
        obtain ⟨k, hk, rfl, hbw⟩ := hrel
        by_cases hlt : k < n
        · have k1 : k < l.length := by rw [HL1.out]; exact hlt
          have k2 : k < l'.length := by rw [HL2.out]; exact hlt
          obtain ⟨b, off, hA, hb, hcell⟩ := (HR3.out.below hbw.out).2 (by omega)
          obtain ⟨b', off', hA', hb', hcell'⟩ := (HR4.out.below hbw.out).2 (by omega)
          obtain ⟨a0, a1, a2, a3, a4⟩ := hcell k k1
          obtain ⟨d0, d1, d2, d3, d4⟩ := hcell' k k2
          obtain ⟨q1, q2, q3, q4⟩ := HA.out k k2 k1
          rw [q1] at d0
          rw [q2] at d2
          rw [q3] at d3
          rw [q4] at d4
          obtain ⟨x, hx⟩ : ∃ x, x = l[k] := ⟨_, rfl⟩
          rw [← hx] at a0 a1 a2 a3 a4 d0 d2 d3 d4
          obtain ⟨y, hy⟩ : ∃ y, y = l'[k].at_ := ⟨_, rfl⟩
          rw [← hy] at d1
          obtain ⟨kd, at_, lo, hi, nm⟩ := x
          dsimp only at a0 a1 a2 a3 a4 d0 d2 d3 d4
          subst hA
          subst hA'
          have hz := hbw.out.size
          have l1 := fun (o : Obj) (j : Nat) => World.cell?_alloc_lt wr o ⟨b', j, none⟩ hb'
          clear hx hy hcell hcell' q1 q2 q3 q4
          go_wp2_with fail
          have HW := Lib.hid (hbw.out.alloc hz (.cells #[.int .i64 kd, .int .i64 y, .int .i64 lo, .int .i64 hi, .string ⟨nm.toArray⟩] 32))
          go_quiet (fail)
          go_wp2_with fail
          go_roundw
          case rel => exact ⟨k + 1, by omega, by go_num, below_drewN HW.out nq⟩
          case measure => simp [intOf]; omega
        · obtain rfl : k = n := by omega
          have HW := Lib.hid (HB3.out.trans (hbw.out.mono HB3.out.size))
          have HLV := hide (live_any wr (HH.out.below HW.out))
          go_wp2_with (go_at_call 6; (with_reducible refine HLV.out.mono ?_); rintro e w9 ⟨rfl, hb9⟩)
          go_ret
          exact ⟨rfl, HW.out.trans (hb9.mono HW.out.size)⟩
    · have HE := Lib.hid hl
      have t1 : (c != 0) = true := by simpa using hc
      clear hl hc hbig
      go_enter Tryd.func5, Tryd.ntmps5
      go_wp2_with fail
      refine HX.out.mono ?_
      rintro e w1 ⟨hb, h⟩
      rw [HE.out] at h
      obtain rfl : e = .returned (.tuple #[.slice none 0 0, .int .i64 p, .int .i64 c]) := h
      have HB := Lib.hid hb
      have HL := hide (live_any w1 (HH.out.below hb))
      clear hb
      go_wp2_with (go_at_call 6; (with_reducible refine HL.out.mono ?_); rintro e w2 ⟨rfl, hb2⟩)
      go_ret
      exact ⟨rfl, HB.out.trans (hb2.mono HB.out.size)⟩
end Go.Proofs.YtegkimcfmdckbaaDoor.Lx
