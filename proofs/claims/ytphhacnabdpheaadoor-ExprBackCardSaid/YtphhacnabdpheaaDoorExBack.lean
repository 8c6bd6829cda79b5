/- Walks: the law ExprBack. -/
import Derived.Test.YtphhacnabdpheaaDoorExRR
namespace Go.Proofs.YtphhacnabdpheaaDoor.Ex
open Go.RowKit Mem Lx
set_option linter.unusedVariables false

theorem parse_sn (L : List Sg) (k : Nat) (e : List Pt) (hs : Sn (.choice []) L [] k e) (hf : ∀ x ∈ L, Fine x) (hl : L.length ≤ 200) (he : e.length ≤ 1000) (w : World) (H : Held w) :
    Calls Tryd.prog 8 #[.string ⟨(showN 0 L).toArray⟩] w fun en w' => Below w.heap.size w w' ∧ ∃ A c, en = .returned (.tuple #[.slice A e.length c, .int .i64 0, .int .i64 0]) ∧ PR w' A e.length (e.map Pt.toI) := by
  have hlen := showN_len L 0 (fun x hx => fine_64 (hf x hx))
  refine (parse_any ⟨(showN 0 L).toArray⟩ w (by simp [ByteArray.size]; omega) H).mono fun en w' ⟨hb, h⟩ => ⟨hb, ?_⟩
  obtain ⟨l', hl', hll, hal⟩ := lex_shown L 0 0 [] hf (by simpa using hl)
  have e1 : Lex (⟨(showN 0 L).toArray⟩ : ByteArray).data.toList = .ok l' 0 := by
    show From (showN 0 L) 0 [] = _
    rw [hl']; rfl
  have hs' := hs.alike l' (Al.of hll hal)
  rw [e1] at h
  have hne := hs'.ne
  cases l' with
  | nil => simp at hne
  | cons x l' =>
    obtain ⟨ok, k2, l2, e2, hr, ho⟩ := h
    have hr0 := hs'.rd [] ⟨by simp [hd], by simp [hd], by simp [hd], by simp [hd]⟩
    rw [List.append_nil] at hr0
    obtain ⟨rfl, rfl, rfl, rfl⟩ := hr0.det hr
    obtain ⟨v, vs, rfl, hrow, hpv⟩ := ho
    have hgood := hs.good' hf
    have hpw := hpv.pw (hgood.kids (by omega))
    have hle : (e2.map Pt.toI).length = e2.length := by simp
    rw [← hle] at hrow
    obtain ⟨A, c, rfl, _, hpr⟩ := PR.of_own hrow hpw
    rw [hle] at hpr
    exact ⟨A, c, by rw [hle], hpr⟩
/-- right parts are shown, and parsed as they were -/
theorem shown_parsed (E : List PI) (h : rightI E = true) (h60 : E.length ≤ 60) : ∃ T : List UInt8,
    (∀ A c W, PR W A E.length E → Held W → Calls Tryd.prog 17 #[.slice A E.length c] W fun en w' => en = .returned (.string ⟨T.toArray⟩) ∧ Below W.heap.size W w') ∧
    (∀ W, Held W → Calls Tryd.prog 8 #[.string ⟨T.toArray⟩] W fun en w' => Below W.heap.size W w' ∧ ∃ A c, en = .returned (.tuple #[.slice A E.length c, .int .i64 0, .int .i64 0]) ∧ PR w' A E.length E) := by
  by_cases h0 : E.length = 0
  · have hE : E = [] := List.length_eq_zero_iff.1 h0
    subst hE
    refine ⟨[], fun A c W hp HW => eshow_no A 0 c [] W hp HW (by omega) (by simp) (.inl rfl), fun W HW => ?_⟩
    refine (parse_any ⟨([] : List UInt8).toArray⟩ W (by simp [ByteArray.size]) HW).mono fun en w' ⟨hb, g⟩ => ⟨hb, ?_⟩
    rw [show Lex (⟨([] : List UInt8).toArray⟩ : ByteArray).data.toList = .ok [] 0 from rfl] at g
    exact ⟨none, 0, g, pr_none _⟩
  · obtain ⟨e, he, hsn, hf, hl⟩ := right_sn h (by omega)
    have hgood := hsn.good' hf
    have hel : e.length = E.length := by rw [he]; simp
    refine ⟨showN 0 (tellI E E.length (E.length - 1)), fun A c W hp HW => ?_, fun W HW => ?_⟩
    · have hdeep := hgood.deep E.length (E.length - 1) (by omega) (by omega)
      rw [← he] at hdeep
      have hsm := hgood.small
      rw [← he] at hsm
      exact eshow_yes A E.length c E W hp HW (by omega) (fun p hp => ⟨(hsm p hp).1, by have := (hsm p hp).2; omega⟩) (by omega) h E.length hdeep (by omega) (fun x hx => fine_64 (hf x hx))
    · have := parse_sn _ _ e hsn hf (by omega) (by omega) W HW
      rw [← he, hel] at this
      exact this
set_option maxRecDepth 100000 in
set_option maxHeartbeats 8000000 in
theorem back_any (A : Option Addr) (n c : Nat) (e : List PI) (w : World) (h : PR w A n e) (hn : n ≤ maxLen) (hs : ∀ p ∈ e, (I64 p.low ∧ I64 p.high) ∧ p.name.length ≤ maxLen ∧ p.kids.length ≤ maxLen) (H : Held w) :
    Calls Tryd.prog 5 #[.slice A n c] w fun en w' => en = .returned (.bool true) ∧ Below w.heap.size w w' := by
  have HLV := hide (fun W (HW : Held W) => live_any W HW)
  have HH := hide H
  have HP := hide h
  have HFW := hide (few_any A n c e w h hn (fun p hp => (hs p hp).2))
  have hln := h.1
  cases hfew : fewI e with
  | false =>
    rw [hfew] at HFW
    clear H h hs hn hln hfew
    go_enter Tryd.func5, Tryd.ntmps5
    go_wp2_with (first
      | (go_at_call 13; (with_reducible refine (HFW.out).mono ?_); rintro en w1 ⟨rfl, rfl⟩)
      | (go_at_call 7; (with_reducible refine (HLV.out _ HH.out).mono ?_); rintro en w5 ⟨rfl, hb5⟩; have HB5 := Lib.hid hb5; clear hb5))
    go_ret
    exact ⟨rfl, HB5.out⟩
  | true =>
    obtain ⟨h60, hks⟩ := fewI_yes hfew
    rw [hfew] at HFW
    have HRR0 := rright_any A n c e w h (by omega) (fun p hp => by have := hks p hp; omega)
    cases hri : rightI e with
    | false =>
      rw [hri] at HRR0
      have HRR := hide HRR0
      clear H h hs hn hln hfew HRR0 hri h60 hks
      go_enter Tryd.func5, Tryd.ntmps5
      go_wp2_with (first
        | (go_at_call 13; (with_reducible refine (HFW.out).mono ?_); rintro en w1 ⟨rfl, rfl⟩)
        | (go_at_call 14; (with_reducible refine (HRR.out).mono ?_); rintro en w2 ⟨rfl, hb2⟩; have HB2 := Lib.hid hb2; clear hb2)
        | (go_at_call 7; (with_reducible refine (HLV.out _ (HH.out.below HB2.out)).mono ?_); rintro en w5 ⟨rfl, hb5⟩; have HB5 : Hid (Below w.heap.size w w5) := HB2.out.trans (hb5.mono HB2.out.size); clear hb5))
      go_ret
      exact ⟨rfl, HB5.out⟩
    | true =>
      rw [hri] at HRR0
      have HRR := hide HRR0
      obtain ⟨T, hT1, hT2⟩ := shown_parsed e hri h60
      rw [hln] at hT1 hT2
      have HSH := hide hT1
      have HPA := hide hT2
      have HO := hide (fun A c W (g : PR W A n e) => ours_any A n c e W g (by omega))
      have HT := hide (fun A c W (g : PR W A n e) => theirs_any A n c e W g (by omega))
      have HSM := hide (fun A1 A2 c1 c2 W (g1 : PR W A1 n e) (g2 : PR W A2 n e) => rsame_any A1 A2 n n c1 c2 e e W g1 g2 (by omega) (fun p hp => by have := (hks p hp).1; omega))
      simp only [decide_true] at HSM
      generalize (⟨T.toArray⟩ : ByteArray) = TB at HSH HPA
      clear H h hs hn hln hfew HRR0 hri h60 hks hT1 hT2
      go_enter Tryd.func5, Tryd.ntmps5
      go_wp2_with (first
        | (go_at_call 13; (with_reducible refine (HFW.out).mono ?_); rintro en w1 ⟨rfl, rfl⟩)
        | (go_at_call 14; (with_reducible refine (HRR.out).mono ?_); rintro en w2 ⟨rfl, hb2⟩; have HB2 := Lib.hid hb2; have HP2 := Lib.hid (HP.out.below hb2); clear hb2)
        | (go_at_call 16; (with_reducible refine (HT.out A c w2 HP2.out).mono ?_); rintro en w3 ⟨A3, c3, rfl, _, hp3, hb3⟩; have HP3 := Lib.hid hp3; have HB3 : Hid (Below w.heap.size w w3) := HB2.out.trans (hb3.mono HB2.out.size); clear hb3 hp3)
        | (go_at_call 17; (with_reducible refine (HSH.out A3 c3 w3 HP3.out (HH.out.below HB3.out)).mono ?_); rintro en w4 ⟨rfl, hb4⟩; have HB4 : Hid (Below w.heap.size w w4) := HB3.out.trans (hb4.mono HB3.out.size); clear hb4)
        | (go_at_call 8; (with_reducible refine (HPA.out w4 (HH.out.below HB4.out)).mono ?_); rintro en w5 ⟨hb5, A5, c5, rfl, hp5⟩; have HP5 := Lib.hid hp5; have HB5 : Hid (Below w.heap.size w w5) := HB4.out.trans (hb5.mono HB4.out.size); clear hb5 hp5)
        | (go_at_call 11; (with_reducible refine (HO.out A5 c5 w5 HP5.out).mono ?_); rintro en w6 ⟨A6, c6, rfl, _, hp6, hb6⟩; have HP6 := Lib.hid hp6; have HB6 : Hid (Below w.heap.size w w6) := HB5.out.trans (hb6.mono HB5.out.size); have HP7 := Lib.hid (HP.out.below HB6.out); clear hb6 hp6)
        | (go_at_call 10; (with_reducible refine (HSM.out A6 A c6 c w6 HP6.out HP7.out).mono ?_); rintro en w7 ⟨rfl, hd7⟩; have HB7 : Hid (Below w.heap.size w w7) := HB6.out.trans ((drawn_below hd7).mono HB6.out.size); clear hd7)
        | (go_at_call 7; (with_reducible refine (HLV.out _ (HH.out.below HB7.out)).mono ?_); rintro en w8 ⟨rfl, hb8⟩; have HB8 : Hid (Below w.heap.size w w8) := HB7.out.trans (hb8.mono HB7.out.size); clear hb8))
      go_ret
      exact ⟨rfl, HB8.out⟩
theorem back_walk (A : Option Addr) (n c : Nat) (e : List PI) (w : World) (h : PR w A n e) (hn : n ≤ maxLen) (hs : ∀ p ∈ e, (I64 p.low ∧ I64 p.high) ∧ p.name.length ≤ maxLen ∧ p.kids.length ≤ maxLen) (H : Held w) :
    Calls Tryd.prog 5 #[.slice A n c] w fun e w' => e = .returned (.bool true) ∧ Below w.heap.size w w' := back_any A n c e w h hn hs H
end Go.Proofs.YtphhacnabdpheaaDoor.Ex
