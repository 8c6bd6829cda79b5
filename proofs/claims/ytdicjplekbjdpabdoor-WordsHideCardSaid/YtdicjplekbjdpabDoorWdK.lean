/- Walks of words: the reference's Bare. -/
import Derived.Test.YtdicjplekbjdpabDoorWdJ
namespace Go.Proofs.YtdicjplekbjdpabDoor.Wd
open Go.RowKit Go.Sort Mem
set_option linter.unusedVariables false

/-- of the bytes below C none has a piece that stands at p; or one had, and is appended -/
def Fnd (B : Nat) (l : List UInt8) (p : Nat) (cs : List Int) (C : Nat) (out n : Value) (w : World) : Prop :=
  (n = .int .i64 0 ∧ (∀ c : Int, okc c → c < C → ¬ hide1 c <+: l.drop p) ∧ w.ownsRow B 5 1 out cs.length (cs.map (Value.int .u8))) ∨
    (∃ c0, okc c0 ∧ hide1 c0 <+: l.drop p ∧ n = .int .i64 (hide1 c0).length ∧ w.ownsRow B 5 1 out (cs.length + 1) ((cs ++ [c0]).map (Value.int .u8)))

theorem rhide_one (c : Int) (hc : okc c) (T : ByteArray) (hT : T = ⟨(hide1 c).toArray⟩) (A : Option Addr) (k : Nat) (w : World) (hr : Row .u8 w A 1 [c]) :
    Calls Tryd.prog 21 #[.slice A 1 k] w fun e w' => e = .returned (.string T) ∧ Below w.heap.size w w' :=
  (rhide_any [c] A 1 k w hr (by omega)).mono fun e w' ⟨he, hb⟩ => ⟨by rw [he, hT]; simp [hideL], hb⟩

theorem piece_cut {s : ByteArray} {l : List UInt8} (hl : l = s.data.toList) {p : Nat} {c : Int} {T : ByteArray} (hT : T = ⟨(hide1 c).toArray⟩) (hp : p + T.size ≤ s.size) :
    ((s.extract p (p + T.size)).toList == T.toList) = decide (hide1 c <+: l.drop p) := by
  have hTl : T.toList = hide1 c := by rw [ByteArray.toList_eq, hT]
  have hTs : T.size = (hide1 c).length := by rw [hT]; simp [ByteArray.size]
  rw [hTl, Lib.extract_toList, ← hl, Nat.add_sub_cancel_left, hTs]
  by_cases h : hide1 c <+: l.drop p
  · rw [decide_eq_true h, ← List.prefix_iff_eq_take.1 h]; simp
  · rw [decide_eq_false h]
    have : ¬ (l.drop p).take (hide1 c).length = hide1 c := fun e => h (by rw [← e]; exact List.take_prefix _ _)
    simpa using this

set_option maxHeartbeats 2000000 in
set_option maxRecDepth 100000 in
theorem rbare_any (s : ByteArray) (w : World) (hs : s.size ≤ 50000) : Calls Tryd.prog 20 #[.string s] w (Bared w s.data.toList) := by
  obtain ⟨i0, hi, hz, hs1, hs2⟩ := info_parts info_u8
  obtain ⟨l, hl⟩ : ∃ l, l = s.data.toList := ⟨_, rfl⟩
  have hlen : l.length = s.size := by rw [hl]; exact slen s
  rw [← hl]
  have HLS := Lib.hid hl
  have HZ := Lib.hid hlen
  clear hl hlen
  go_enter Tryd.func20, Tryd.ntmps20
  go_wp2
  go_loopw [4, 5] (fun v i wr => ∃ (cs : List Int) (p : Nat), i = .int .i64 p ∧ Code.Dec okc hide1 l cs p ∧ wr.ownsRow w.heap.size 5 1 v cs.length (cs.map (Value.int .u8)) ∧ Below w.heap.size w wr) (fun _ i _ => s.size - (intOf i).toNat)
  case atStart => exact ⟨[], 0, rfl, Code.Dec.nil l, World.ownsRow_nil _ _ _ _, Below.refl _ _⟩
  case round =>
    obtain ⟨cs, p, rfl, hd, ho, hbw⟩ := hrel
    have hpn := hd.2.2
    have hrl := hd.len good
    rw [HZ.out] at hpn
    have HD := Lib.hid hd
    have HO := Lib.hid ho
    have HB := Lib.hid hbw
    have hbs := hbw.size
    clear hd ho hbw
    by_cases hlt : p < s.size
    · go_wp2
      go_loopw [4, 6, 7] (fun v n i wr => ∃ C : Nat, C ≤ 256 ∧ i = .int .i64 C ∧ Fnd w.heap.size l p cs C v n wr ∧ Below w.heap.size w wr) (fun _ _ i _ => 256 - (intOf i).toNat)
      case atStart => exact ⟨0, by omega, rfl, .inl ⟨rfl, fun c hc h => absurd hc.1 (by omega), HO.out⟩, HB.out⟩
      case round =>
        obtain ⟨C, hC, rfl, hf, hbw2⟩ := hrel
        have HB2 := Lib.hid hbw2
        have hbs2 := hbw2.size
        clear hbw2
        rcases hf with ⟨rfl, hno, ho2⟩ | ⟨c0, hc0, hpre, rfl, ho2⟩
        · have HNO := hide hno
          have HO2 := Lib.hid ho2
          clear hno ho2
          by_cases hC2 : C < 256
          · have hcok : okc (C : Int) := ⟨by omega, by omega⟩
            have hw8 : IntKind.u8.wrap (C : Int) = C := by rw [IntKind.wrap_u8']; omega
            obtain ⟨T, hT⟩ : ∃ T : ByteArray, T = ⟨(hide1 (C : Int)).toArray⟩ := ⟨_, rfl⟩
            have hTs : T.size = (hide1 (C : Int)).length := by rw [hT]; simp [ByteArray.size]
            have hTl := hide1_len (C : Int)
            rw [← hTs] at hTl
            have hrow : Row .u8 (wr.alloc (.cells #[.int .u8 C] 5 (0, 0))) (some ⟨wr.heap.size, 0, none⟩) 1 [(C : Int)] :=
              row_block (heap_alloc_new wr _) [(C : Int)] rfl 1 rfl (fun z hz => by simp at hz; subst hz; exact WalkArith.wf_u8 (by omega))
            have HT := Lib.hid hT
            have HTS := Lib.hid hTs
            have HROW := Lib.hid hrow
            have hcut := fun h => piece_cut HLS.out (p := p) hT h
            have hshort : ¬ p + T.size ≤ s.size → ¬ hide1 (C : Int) <+: l.drop p := fun h1 h2 => by
              have := h2.length_le
              rw [List.length_drop, HZ.out, ← HTS.out] at this; omega
            have HCUT := hide hcut
            have HSH := hide hshort
            clear hT hTs hrow hcut hshort
            go_wp2_with fail
            refine (rhide_one C hcok T HT.out _ _ _ HROW.out).mono ?_
            rintro e w1 ⟨rfl, hb1⟩
            have hbb := (HB2.out.alloc hbs2 (.cells #[.int .u8 C] 5 (0, 0))).trans (hb1.mono (by simp; omega))
            have ho3 := own_below (HO2.out.alloc (.cells #[.int .u8 C] 5 (0, 0))) hb1
            have HB3 := Lib.hid hbb
            have hbs3 := hbb.size
            have HO3 := Lib.hid ho3
            clear hb1 hbb ho3
            by_cases hfit : p + T.size ≤ s.size
            · have d0 : decide ((T.size : Int) ≤ (s.size : Int) - (p : Int)) = true := decide_eq_true (by omega)
              have hle : (T.size : Int) ≤ (s.size : Int) - (p : Int) := by omega
              have hq := (unhide HCUT) hfit
              by_cases hpre : hide1 (C : Int) <+: l.drop p
              · rw [decide_eq_true hpre] at hq
                have HP := Lib.hid hpre
                clear hpre
                have hrow2 : Row .u8 (w1.alloc (.cells #[.int .u8 C] 5 (0, 0))) (some ⟨w1.heap.size, 0, none⟩) 1 [(C : Int)] :=
                  row_block (heap_alloc_new w1 _) [(C : Int)] rfl 1 rfl (fun z hz => by simp at hz; subst hz; exact WalkArith.wf_u8 (by omega))
                have HROW2 := Lib.hid hrow2
                have HO4 := Lib.hid (HO3.out.alloc (.cells #[.int .u8 C] 5 (0, 0)))
                clear hrow2
                go_wp2_with (at_builtin; refine wpList_app rfl (.tmp 43) (.tmp 46) _ rfl .u8 w.heap.size 5 i0 1 Tryd.underlying33 hi hz hs1 hs2 (by omega) _ cs.length cs rfl HO4.out _ 1 1 [(C : Int)] rfl HROW2.out (by omega) (by simp; omega) ?_; intro v' w2 hown' hg hat)
                have HW2 : Hid (Below w.heap.size w w2) := (HB3.out.alloc hbs3 _).grown hg (by simp; omega) (fun k hk => (HO3.out.lt k hk).1)
                go_wp2
                go_roundw
                case rel => exact ⟨C + 1, by omega, by go_num, .inr ⟨C, hcok, HP.out, by rw [← HTS.out], by simpa using hown'⟩, HW2.out⟩
                case measure => simp [intOf]; omega
              · rw [decide_eq_false hpre] at hq
                have HP := Lib.hid hpre
                clear hpre
                go_wp2
                go_roundw
                case rel => exact ⟨C + 1, by omega, by go_num, .inl ⟨rfl, fun c hc h => by
                  by_cases hcc : c = C
                  · rw [hcc]; exact HP.out
                  · exact (unhide HNO) c hc (by omega), HO3.out⟩, HB3.out⟩
                case measure => simp [intOf]; omega
            · have d0 : decide ((T.size : Int) ≤ (s.size : Int) - (p : Int)) = false := decide_eq_false (by omega)
              have hle : ¬ (T.size : Int) ≤ (s.size : Int) - (p : Int) := by omega
              have HP := Lib.hid ((unhide HSH) hfit)
              go_wp2
              go_roundw
              case rel => exact ⟨C + 1, by omega, by go_num, .inl ⟨rfl, fun c hc h => by
                by_cases hcc : c = C
                · rw [hcc]; exact HP.out
                · exact (unhide HNO) c hc (by omega), HO3.out⟩, HB3.out⟩
              case measure => simp [intOf]; omega
          · obtain rfl : C = 256 := by omega
            have HE : Hid (Code.Ends okc hide1 l p) := fun c h => (unhide HNO) c h.1 (by have := h.1.2; omega) h.2
            go_wp2
            go_ret2
            exact ⟨HB2.out, .inr ⟨cs, p, HD.out, HE.out, by rw [HZ.out]; exact hlt, rfl⟩⟩
        · have hst := HD.out.step (r := c0) ⟨hc0, hpre⟩
          have hl := hide1_len c0
          have hst2 := hst.2
          rw [HZ.out] at hst2
          have HST := Lib.hid hst.1
          obtain ⟨m, hm⟩ : ∃ m, m = (hide1 c0).length := ⟨_, rfl⟩
          rw [← hm] at hl hst2 ⊢
          have HM := Lib.hid hm
          have HO2 := Lib.hid ho2
          have t0 : ((m : Int) == 0) = false := by simp; omega
          clear hst hm ho2 hpre
          by_cases hC2 : C < 256
          · go_wp2
            go_roundw
            case rel => exact ⟨cs ++ [c0], p + m, by go_num, by rw [HM.out]; exact HST.out, by simpa using HO2.out, HB2.out⟩
            case measure => simp [intOf]; omega
          · go_wp2
            go_roundw
            case rel => exact ⟨cs ++ [c0], p + m, by go_num, by rw [HM.out]; exact HST.out, by simpa using HO2.out, HB2.out⟩
            case measure => simp [intOf]; omega
    · obtain rfl : p = s.size := by omega
      go_wp2
      go_ret2
      obtain ⟨A1, c1, rfl, hc1, hr1⟩ := Row.of_own HO.out (dec_wf HD.out.1)
      exact ⟨HB.out, .inl ⟨cs, A1, c1, by rw [HZ.out]; exact HD.out, rfl, hr1, hc1⟩⟩
end Go.Proofs.YtdicjplekbjdpabDoor.Wd
