/- The law WordsHide. -/
import Derived.Test.YtdicjplekbjdpabDoorWdK
import Derived.Test.YtdicjplekbjdpabDoorWdD
namespace Go.Proofs.YtdicjplekbjdpabDoor.Wd
open Go.RowKit Go.Sort Mem
set_option linter.unusedVariables false

theorem hide_is (zs : List Int) (A : Option Addr) (n c : Nat) (T : ByteArray) (hT : T = ⟨(hideL zs).toArray⟩) (w : World) (hr : Row .u8 w A n zs) (hn : n ≤ 20000) (H : Held w) :
    Calls Tryd.prog 18 #[.slice A n c] w fun e w' => e = .returned (.string T) ∧ Below w.heap.size w w' := hT ▸ hide_any zs A n c w hr hn H
theorem rhide_is (zs : List Int) (A : Option Addr) (n c : Nat) (T : ByteArray) (hT : T = ⟨(hideL zs).toArray⟩) (w : World) (hr : Row .u8 w A n zs) (hn : n ≤ 20000) :
    Calls Tryd.prog 21 #[.slice A n c] w fun e w' => e = .returned (.string T) ∧ Below w.heap.size w w' := hT ▸ rhide_any zs A n c w hr hn
/-- what was hidden, bared -/
def Back (zs : List Int) (w : World) (e : Ending) (w' : World) : Prop :=
  Below w.heap.size w w' ∧ ∃ A c, e = .returned (.tuple #[.slice A zs.length c, .int .i64 0]) ∧ Row .u8 w' A zs.length zs
theorem bare_hidden (zs : List Int) (hz : ∀ z ∈ zs, okc z) (hn : zs.length ≤ 10000) (T : ByteArray) (hT : T = ⟨(hideL zs).toArray⟩) (w : World) (H : Held w) :
    Calls Tryd.prog 19 #[.string T] w (Back zs w) := by
  have hl : T.data.toList = zs.flatMap hide1 := by rw [hT]; rfl
  have hsz : T.size ≤ 50000 := by
    have := hideL_len zs
    have h2 : T.size = (hideL zs).length := by rw [hT]; simp [ByteArray.size]
    omega
  refine (bare_any T w hsz H).mono fun e w' ⟨hb, h⟩ => ⟨hb, ?_⟩
  have ha := Code.Dec.all (pc := hide1) hz hl.symm
  rcases h with ⟨cs, A, c, hd, rfl, hr, _⟩ | ⟨cs, p, hd, he, hp, _⟩
  · obtain rfl := Code.same good hd ha
    exact ⟨A, c, rfl, hr⟩
  · exact (Code.dec_not good ha hd he hp).elim

theorem whole {s : ByteArray} {cs : List Int} (h : Code.Dec okc hide1 s.data.toList cs s.data.toList.length) : s = ⟨(hideL cs).toArray⟩ := by
  have := h.2.1
  rw [List.take_of_length_le (Nat.le_refl _)] at this
  show s = ⟨(cs.flatMap hide1).toArray⟩
  rw [this]

set_option maxHeartbeats 2000000 in
set_option maxRecDepth 100000 in
theorem hide_law (A : Option Addr) (n c : Nat) (zs : List Int) (s : ByteArray) (w : World) (hr : Row .u8 w A n zs) (hs : s.size ≤ maxLen) (H : Held w) :
    Calls Tryd.prog 6 #[.slice A n c, .string s] w fun e w' => e = .returned (.bool true) ∧ Below w.heap.size w w' := by
  have HH := hide H
  unfold maxLen at hs
  have HR := Lib.hid hr
  clear H hr
  by_cases hn : 500 < n
  · go_enter Tryd.func6, Tryd.ntmps6
    go_wp2_with (go_at_call 7; refine (live_any _ (unhide HH)).mono ?_; rintro e w3 ⟨rfl, hb3⟩)
    go_ret
    exact ⟨rfl, hb3⟩
  by_cases hl : 500 < s.size
  · go_enter Tryd.func6, Tryd.ntmps6
    go_wp2_with (go_at_call 7; refine (live_any _ (unhide HH)).mono ?_; rintro e w3 ⟨rfl, hb3⟩)
    go_ret
    exact ⟨rfl, hb3⟩
  have hzl : zs.length = n := HR.out.1
  have hz : ∀ z ∈ zs, okc z := fun z h => wf_u8 (HR.out.2.1 z h)
  have HOK := hide hz
  obtain ⟨T, hT⟩ : ∃ T : ByteArray, T = ⟨(hideL zs).toArray⟩ := ⟨_, rfl⟩
  have HT := Lib.hid hT
  have HZL := Lib.hid hzl
  have tT : (T.toList == T.toList) = true := by simp
  have tT' : (T.toList != T.toList) = false := by simp
  clear hzl hz hT
  go_enter Tryd.func6, Tryd.ntmps6
  go_wp2_with fail
  refine (hide_is zs A n c T HT.out w HR.out (by omega) (unhide HH)).mono ?_
  rintro e w1 ⟨rfl, hb1⟩
  have HB1 := Lib.hid hb1
  clear hb1
  go_wp2_with fail
  refine (bare_hidden zs (unhide HOK) (by rw [HZL.out]; omega) T HT.out w1 ((unhide HH).below HB1.out)).mono ?_
  rintro e w2 ⟨hb2, A2, c2, rfl, hr2⟩
  have hb2' := HB1.out.trans (hb2.mono HB1.out.size)
  have HB2 := Lib.hid hb2'
  rw [HZL.out] at hr2 ⊢
  have HR2 := Lib.hid hr2
  clear hb2 hb2' hr2
  go_wp2_with fail
  refine (bare_any s w2 (by omega) ((unhide HH).below HB2.out)).mono ?_
  rintro e w3 ⟨hb3, h3⟩
  have hb3' := HB2.out.trans (hb3.mono HB2.out.size)
  have HB3 := Lib.hid hb3'
  have HR3 := Lib.hid (HR2.out.below hb3)
  clear hb3 hb3'
  rcases h3 with ⟨cs, A3, c3, hd3, rfl, hr3, _⟩ | ⟨cs, p, hd3, he3, hp3, rfl⟩
  · have HD3 := Lib.hid hd3
    have HR4 := Lib.hid hr3
    have hcs : cs.length ≤ 500 := by
      have := hd3.len good
      rw [slen] at this; omega
    clear hd3 hr3
    go_wp2_with fail
    refine (rbare_any s w3 (by omega)).mono ?_
    rintro e w4 ⟨hb4, h4⟩
    have hb4' := HB3.out.trans (hb4.mono HB3.out.size)
    have HB4 := Lib.hid hb4'
    have HR5 := Lib.hid (HR3.out.below hb4)
    have HR6 := Lib.hid (HR4.out.below hb4)
    clear hb4 hb4'
    rcases h4 with ⟨cs4, A4, c4, hd4, rfl, hr4, _⟩ | ⟨cs4, p4, hd4, he4, hp4, _⟩
    · obtain rfl := Code.same good HD3.out hd4
      have HR7 := Lib.hid hr4
      clear hd4 hr4
      go_wp2_with fail
      refine (rhide_is zs A n c T HT.out w4 (HR.out.below HB4.out) (by omega)).mono ?_
      rintro e w5 ⟨rfl, hb5⟩
      have hb5' := HB4.out.trans (hb5.mono HB4.out.size)
      have HB5 := Lib.hid hb5'
      have e1 := (HR5.out.below hb5).str c2 (P := Tryd.prog) Tryd.underlying33 Tryd.underlying5 Tryd.underlying9
      have e2 := (HR.out.below hb5').str c (P := Tryd.prog) Tryd.underlying33 Tryd.underlying5 Tryd.underlying9
      have e3 := (HR6.out.below hb5).str c3 (P := Tryd.prog) Tryd.underlying33 Tryd.underlying5 Tryd.underlying9
      have e4 := (HR7.out.below hb5).str c4 (P := Tryd.prog) Tryd.underlying33 Tryd.underlying5 Tryd.underlying9
      have HR8 := Lib.hid (HR6.out.below hb5)
      obtain ⟨S0, hS0⟩ : ∃ S, S = strOfNums zs := ⟨_, rfl⟩
      obtain ⟨S1, hS1⟩ : ∃ S, S = strOfNums cs := ⟨_, rfl⟩
      rw [← hS0] at e1 e2
      rw [← hS1] at e3 e4
      have tS0 : (S0.toList == S0.toList) = true := by simp
      have tS1 : (S1.toList == S1.toList) = true := by simp
      have ts : (s.toList == s.toList) = true := by simp
      have tS0' : (S0.toList != S0.toList) = false := by simp
      have tS1' : (S1.toList != S1.toList) = false := by simp
      clear hb5 hb5' hS0 hS1
      go_wp2_with (first
        | (go_at_call 18; refine (hide_is cs A3 cs.length c3 s (whole HD3.out) w5 HR8.out (by omega) ((unhide HH).below HB5.out)).mono ?_; rintro e w6 ⟨rfl, hb6⟩; have hb6' := HB5.out.trans (hb6.mono HB5.out.size); have HB6 := Lib.hid hb6'; clear hb6 hb6')
        | (go_at_call 7; refine (live_any _ ((unhide HH).below HB6.out)).mono ?_; rintro e w7 ⟨rfl, hb7⟩))
      go_ret
      exact ⟨rfl, HB6.out.trans (hb7.mono HB6.out.size)⟩
    · exact (Code.dec_not good HD3.out hd4 he4 hp4).elim
  · have HD3 := Lib.hid hd3
    have HE3 := Lib.hid he3
    have HP3 := Lib.hid hp3
    clear hd3 he3 hp3
    go_wp2_with fail
    refine (rbare_any s w3 (by omega)).mono ?_
    rintro e w4 ⟨hb4, h4⟩
    have hb4' := HB3.out.trans (hb4.mono HB3.out.size)
    have HB4 := Lib.hid hb4'
    have HR5 := Lib.hid (HR3.out.below hb4)
    clear hb4 hb4'
    rcases h4 with ⟨cs4, A4, c4, hd4, rfl, hr4, _⟩ | ⟨cs4, p4, hd4, he4, hp4, rfl⟩
    · exact (Code.dec_not good hd4 HD3.out HE3.out HP3.out).elim
    · clear hd4 he4 hp4
      go_wp2_with fail
      refine (rhide_is zs A n c T HT.out w4 (HR.out.below HB4.out) (by omega)).mono ?_
      rintro e w5 ⟨rfl, hb5⟩
      have hb5' := HB4.out.trans (hb5.mono HB4.out.size)
      have HB5 := Lib.hid hb5'
      have e1 := (HR5.out.below hb5).str c2 (P := Tryd.prog) Tryd.underlying33 Tryd.underlying5 Tryd.underlying9
      have e2 := (HR.out.below hb5').str c (P := Tryd.prog) Tryd.underlying33 Tryd.underlying5 Tryd.underlying9
      have e3 := (Row.nil : Row .u8 w5 none 0 []).str 0 (P := Tryd.prog) Tryd.underlying33 Tryd.underlying5 Tryd.underlying9
      obtain ⟨S0, hS0⟩ : ∃ S, S = strOfNums zs := ⟨_, rfl⟩
      obtain ⟨S1, hS1⟩ : ∃ S, S = strOfNums [] := ⟨_, rfl⟩
      rw [← hS0] at e1 e2
      rw [← hS1] at e3
      have tS0 : (S0.toList == S0.toList) = true := by simp
      have tS1 : (S1.toList == S1.toList) = true := by simp
      have tS0' : (S0.toList != S0.toList) = false := by simp
      have tS1' : (S1.toList != S1.toList) = false := by simp
      clear hb5 hb5' hS0 hS1
      go_wp2_with (first
        | (go_at_call 7; refine (live_any _ ((unhide HH).below HB5.out)).mono ?_; rintro e w7 ⟨rfl, hb7⟩))
      go_ret
      exact ⟨rfl, HB5.out.trans (hb7.mono HB5.out.size)⟩
end Go.Proofs.YtdicjplekbjdpabDoor.Wd
