/- Walks of words: Bare; its reference. -/
import Derived.Test.YtdicjplekbjdpabDoorWdI
import Derived.Lib.IndexBytes
import Derived.Test.YtdicjplekbjdpabDoorOwn
namespace Go.Proofs.YtdicjplekbjdpabDoor.Wd
open Go.RowKit Go.Sort Mem
set_option linter.unusedVariables false

theorem dec_wf {cs : List Int} (h : ∀ c ∈ cs, okc c) : ∀ c ∈ cs, (Lit.int .u8 c).wf = true := fun c hc => WalkArith.wf_u8 (by have := h c hc; unfold okc at this; omega)

/-- all bytes of a piece; or there is a place at which none stands -/
def Bared (W : World) (l : List UInt8) (e : Ending) (w' : World) : Prop :=
  Below W.heap.size W w' ∧ ((∃ cs A c, Code.Dec okc hide1 l cs l.length ∧ e = .returned (.tuple #[.slice A cs.length c, .int .i64 0]) ∧ Row .u8 w' A cs.length cs ∧ cs.length ≤ c) ∨
    (∃ cs p, Code.Dec okc hide1 l cs p ∧ Code.Ends okc hide1 l p ∧ p < l.length ∧ e = .returned (.tuple #[.slice none 0 0, .int .i64 2])))

theorem first_at {l : List UInt8} (s : ByteArray) (hl : s.data.toList = l) (w : World) (hs : 0 < s.size) (H : Held w) : Calls Tryd.prog 32 #[.string s] w (FstIs l w) := hl ▸ first_any s w hs H

set_option maxHeartbeats 1000000 in
theorem bare_any (s : ByteArray) (w : World) (hs : s.size ≤ 50000) (H : Held w) : Calls Tryd.prog 19 #[.string s] w (Bared w s.data.toList) := by
  obtain ⟨i0, hi, hz, hs1, hs2⟩ := info_parts info_u8
  obtain ⟨l, hl⟩ : ∃ l, l = s.data.toList := ⟨_, rfl⟩
  have hlen : l.length = s.size := by rw [hl]; exact slen s
  have hcut : ∀ p, (s.extract p s.size).data.toList = l.drop p := fun p => by rw [hl]; exact Lib.extract_to_end s p
  rw [← hl]
  have HH := hide H
  have HZ := Lib.hid hlen
  have HCUT := hide hcut
  clear H hl hlen hcut
  go_enter Tryd.func19, Tryd.ntmps19
  go_wp2
  go_loopw [4, 5] (fun v i wr => ∃ (cs : List Int) (p : Nat), i = .int .i64 p ∧ Code.Dec okc hide1 l cs p ∧ wr.ownsRow w.heap.size 5 1 v cs.length (cs.map (Value.int .u8)) ∧ Below w.heap.size w wr) (fun _ i _ => s.size - (intOf i).toNat)
  case atStart => exact ⟨[], 0, rfl, Code.Dec.nil l, World.ownsRow_nil _ _ _ _, Below.refl _ _⟩
  case round =>
    obtain ⟨cs, p, rfl, hd, ho, hbw⟩ := hrel
    have hpn := hd.2.2
    have hrl := hd.len good
    rw [HZ.out] at hpn
    have hheld := (unhide HH).below hbw
    have HD := Lib.hid hd
    have HO := Lib.hid ho
    have HB := Lib.hid hbw
    have HHD := hide hheld
    have hbs := hbw.size
    clear hd ho hbw hheld
    by_cases hlt : p < s.size
    · have hq : (s.extract p s.size).size = s.size - p := by rw [ByteArray.size_extract, Nat.min_self]
      have hq2 : 0 < (s.extract p s.size).size := by omega
      have HQ2 := Lib.hid hq2
      clear hq hq2
      go_wp2_with fail
      refine (first_at _ ((unhide HCUT) p) _ HQ2.out (unhide HHD)).mono ?_
      rintro e w1 ⟨⟨m1, rfl⟩, h1⟩
      rcases h1 with ⟨c, hc, hpre, rfl⟩ | ⟨hno, rfl⟩
      · have hst := HD.out.step (r := c) ⟨hc, hpre⟩
        have hl := hide1_len c
        have hst2 := hst.2
        rw [HZ.out] at hst2
        have HST := Lib.hid hst.1
        obtain ⟨m, hm⟩ : ∃ m, m = (hide1 c).length := ⟨_, rfl⟩
        rw [← hm] at hl hst2 ⊢
        have HM := Lib.hid hm
        have t0 : ((m : Int) == 0) = false := by simp; omega
        have hrow : Row .u8 ((wr.drewN m1).alloc (.cells #[.int .u8 c] 5 (0, 0))) (some ⟨(wr.drewN m1).heap.size, 0, none⟩) 1 [c] :=
          row_block (heap_alloc_new (wr.drewN m1) _) [c] rfl 1 rfl (fun z hz => by simp at hz; subst hz; exact WalkArith.wf_u8 (by unfold okc at hc; omega))
        have HROW := Lib.hid hrow
        have ho2 : ((wr.drewN m1).alloc (.cells #[.int .u8 c] 5 (0, 0))).ownsRow w.heap.size 5 1 u4 cs.length (cs.map (Value.int .u8)) := (own_below HO.out (Mem.below_drewN (Below.refl _ _) m1)).alloc _
        have HO2 := Lib.hid ho2
        clear hst hm hrow ho2 hpre
        go_wp2_with (at_builtin; refine wpList_app rfl (.tmp 21) (.tmp 23) _ rfl .u8 w.heap.size 5 i0 1 Tryd.underlying33 hi hz hs1 hs2 (by omega) _ cs.length cs rfl HO2.out _ 1 1 [c] rfl HROW.out (by omega) (by simp; omega) ?_; intro v' w2 hown' hg hat)
        have HW2 : Hid (Below w.heap.size w w2) := ((Mem.below_drewN HB.out m1).alloc hbs _).grown hg (by simp; omega) (fun k hk => (HO.out.lt k hk).1)
        go_wp2
        go_roundw
        case rel => exact ⟨cs ++ [c], p + m, by go_num, by rw [HM.out]; exact HST.out, by simpa using hown', HW2.out⟩
        case measure => simp [intOf]; omega
      · have HNO := Lib.hid hno
        clear hno
        go_wp2
        go_ret2
        exact ⟨Mem.below_drewN HB.out m1, .inr ⟨cs, p, HD.out, fun c hc => HNO.out c hc.1 hc.2, by rw [HZ.out]; exact hlt, rfl⟩⟩
    · obtain rfl : p = s.size := by omega
      go_wp2
      go_ret2
      obtain ⟨A1, c1, rfl, hc1, hr1⟩ := Row.of_own HO.out (dec_wf HD.out.1)
      exact ⟨HB.out, .inl ⟨cs, A1, c1, by rw [HZ.out]; exact HD.out, rfl, hr1, hc1⟩⟩
end Go.Proofs.YtdicjplekbjdpabDoor.Wd
