/- The law WordsSplit. -/
import Derived.Test.YtdicjplekbjdpabDoorWdQ
import Derived.Test.YtdicjplekbjdpabDoorWdN
import Derived.Test.YtdicjplekbjdpabDoorWdD
import Derived.Test.YtdicjplekbjdpabDoorShelfJ
namespace Go.Proofs.YtdicjplekbjdpabDoor.Wd
open Go.RowKit Go.Sort Mem
set_option linter.unusedVariables false

/-- the words of a line, joined -/
theorem join_any (s : ByteArray) (ws : List ByteArray) (A : Option Addr) (n c : Nat) (w : World) (hn : n = ws.length) (hr : SRow w A n ws) (hc : n ≤ c) (hf : fin s = some ws) (hl : ws.length ≤ s.size) (hs : s.size ≤ 2000) :
    Calls Tryd.prog 24 #[.slice A n c, .string ⟨#[32]⟩] w fun e w' => e = .returned (.string s) ∧ Below w.heap.size w w' := by
  subst hn
  have hj := fin_join hf
  cases ws with
  | nil =>
    refine (Tryd.strings_Join_none A c ⟨#[32]⟩ w).mono fun e w' ⟨he, hw⟩ => ?_
    subst hw
    have : s = ⟨#[]⟩ := is_empty (by have := slen s; rw [← hj] at this; simpa [Lib.join_nil] using this.symm)
    exact ⟨by rw [he, this], Below.refl _ _⟩
  | cons x r =>
    obtain ⟨b, off, rfl, hb, hx⟩ := hr.2 (by simp)
    refine (Tryd.strings_Join b off c (x :: r) ⟨#[32]⟩ w (fun j y hy => ?_) hb (by omega) hc ?_).mono fun e w' ⟨he, hbw⟩ => ?_
    · have hj : j < (x :: r).length := by
        rcases Nat.lt_or_ge j (x :: r).length with h | h
        · exact h
        · rw [List.getElem?_eq_none h] at hy; cases hy
      rw [hx j hj]
      simp only [List.getD, hy, Option.getD_some]
    · rw [show (⟨#[32]⟩ : ByteArray).data.toList = [32] from rfl, hj, slen]; omega
    · rw [show (⟨#[32]⟩ : ByteArray).data.toList = [32] from rfl, hj] at he
      exact ⟨he, hbw⟩

theorem wjoin_any (s : ByteArray) (ws : List ByteArray) (A : Option Addr) (n c : Nat) (w : World) (hn : n = ws.length) (hr : SRow w A n ws) (hc : n ≤ c) (hf : fin s = some ws) (hl : ws.length ≤ s.size) (hs : s.size ≤ 2000) :
    Calls Tryd.prog 13 #[.slice A n c] w fun e w' => e = .returned (.string s) ∧ Below w.heap.size w w' := by
  have HF := hide hf
  have HR := Lib.hid hr
  have HN := Lib.hid hn
  have HL := Lib.hid hl
  clear hf hr hn hl
  go_enter Tryd.func13, Tryd.ntmps13
  go_wp2_with (go_at_call 24; refine (join_any s ws A n c w HN.out HR.out hc (unhide HF) HL.out hs).mono ?_; rintro e w1 ⟨rfl, hb1⟩)
  go_ret
  exact ⟨rfl, hb1⟩

/-- what a row of words is, and what is answered with it -/
def Ans (o : Option (List ByteArray)) (w : World) (A : Option Addr) (n c : Nat) (e : Int) : Prop :=
  (o = none ∧ A = none ∧ n = 0 ∧ c = 0 ∧ e = 2) ∨ (∃ ws, o = some ws ∧ n = ws.length ∧ SRow w A n ws ∧ n ≤ c ∧ e = 0)
theorem SplitIs.ans {s : ByteArray} {w w' : World} {e : Ending} (h : SplitIs s w e w') : Below w.heap.size w w' ∧ ∃ A n c v, e = .returned (.tuple #[.slice A n c, .int .i64 v]) ∧ n ≤ s.size ∧ Ans (fin s) w' A n c v := by
  obtain ⟨hb, h⟩ := h
  refine ⟨hb, ?_⟩
  rcases h with ⟨h1, rfl⟩ | ⟨ws, A, c, h1, rfl, hr, hc, hl⟩
  · exact ⟨none, 0, 0, 2, rfl, Nat.zero_le _, .inl ⟨h1, rfl, rfl, rfl, rfl⟩⟩
  · exact ⟨A, ws.length, c, 0, rfl, hl, .inr ⟨ws, h1, rfl, hr, hc, rfl⟩⟩
/-- two that answer for the same: the same words, the same error -/
theorem Ans.two {o : Option (List ByteArray)} {w w' : World} {A A' : Option Addr} {n n' c c' : Nat} {v v' : Int} (h : Ans o w A n c v) (h' : Ans o w' A' n' c' v') :
    n = n' ∧ v = v' ∧ ∃ ss, SRow w A n ss ∧ SRow w' A' n ss := by
  rcases h with ⟨h1, rfl, rfl, rfl, rfl⟩ | ⟨ws, h1, rfl, hr, hc, rfl⟩
  · rcases h' with ⟨_, rfl, rfl, rfl, rfl⟩ | ⟨ws, h2, _⟩
    · exact ⟨rfl, rfl, [], SRow.nil, SRow.nil⟩
    · rw [h1] at h2; cases h2
  · rcases h' with ⟨h2, _⟩ | ⟨ws', h2, rfl, hr', hc', rfl⟩
    · rw [h1] at h2; cases h2
    · rw [h1] at h2
      injection h2 with h2
      subst h2
      exact ⟨rfl, rfl, ws, hr, hr'⟩
/-- the same of lines -/
theorem lines_two {s : ByteArray} {w w' W W' : World} {e e' : Ending} (h : LinesIs s W e w) (h' : LinesIs s W' e' w') :
    ∃ A A' n c c' i v ss, e = .returned (.tuple #[.slice A n c, .int .i64 i, .int .i64 v]) ∧ e' = .returned (.tuple #[.slice A' n c', .int .i64 i, .int .i64 v]) ∧ n ≤ s.size ∧ SRow w A n ss ∧ SRow w' A' n ss := by
  have hle := (stL_le s s.size).2
  obtain ⟨_, h⟩ := h
  obtain ⟨_, h'⟩ := h'
  rcases h with ⟨h1, A, c, rfl, hr⟩ | ⟨h1, rfl⟩
  · rcases h' with ⟨_, A', c', rfl, hr'⟩ | ⟨h2, _⟩
    · exact ⟨A, A', _, c, c', 0, 0, _, rfl, rfl, hle, hr, hr'⟩
    · exact absurd h1 h2
  · rcases h' with ⟨h2, _⟩ | ⟨_, rfl⟩
    · exact absurd h2 h1
    · exact ⟨none, none, 0, 0, 0, _, 2, [], rfl, rfl, Nat.zero_le _, SRow.nil, SRow.nil⟩

set_option maxHeartbeats 2000000 in
set_option maxRecDepth 100000 in
theorem split_law (s : ByteArray) (hs : s.size ≤ maxLen) (w : World) (H : Held w) :
    Calls Tryd.prog 3 #[.string s] w fun e w' => e = .returned (.bool true) ∧ Below w.heap.size w w' := by
  have HH := hide H
  unfold maxLen at hs
  clear H
  by_cases hl : 2000 < s.size
  · go_enter Tryd.func3, Tryd.ntmps3
    go_wp2_with (go_at_call 7; refine (live_any _ (unhide HH)).mono ?_; rintro e w3 ⟨rfl, hb3⟩)
    go_ret
    exact ⟨rfl, hb3⟩
  have hsz : s.size ≤ 2000 := by omega
  go_enter Tryd.func3, Tryd.ntmps3
  go_wp2_with fail
  refine (split_any s w hsz).mono ?_
  intro e w1 h1
  obtain ⟨hb1, A1, n1, c1, v1, rfl, hn1, ha1⟩ := h1.ans
  have HB1 := Lib.hid hb1
  have HA1 := Lib.hid ha1
  clear h1 hb1 ha1
  go_wp2_with fail
  refine (rsplit_any s w1 hsz).mono ?_
  intro e w2 h2
  obtain ⟨hb2, A2, n2, c2, v2, rfl, hn2, ha2⟩ := h2.ans
  obtain ⟨rfl, rfl, ss, hr1, hr2⟩ := HA1.out.two ha2
  have hbb2 := HB1.out.trans (hb2.mono HB1.out.size)
  have HB2 := Lib.hid hbb2
  have HR1 := Lib.hid (hr1.below hb2)
  have HR2 := Lib.hid hr2
  have HAR : Hid (∀ ws, fin s = some ws → v1 = 0 → SRow w2 A1 n1 ws ∧ n1 = ws.length ∧ n1 ≤ c1) := by
    intro ws hf _
    rcases HA1.out with ⟨h, _⟩ | ⟨ws', h, h3, h4, h5, _⟩
    · rw [h] at hf; cases hf
    · rw [h] at hf; injection hf with hf; subst hf; exact ⟨h4.below hb2, h3, h5⟩
  have HV : Hid ((v1 = 2) ∨ (v1 = 0 ∧ ∃ ws, fin s = some ws)) := by
    rcases HA1.out with ⟨h, _, _, _, h5⟩ | ⟨ws', h, _, _, _, h5⟩
    · exact .inl h5
    · exact .inr ⟨h5, ws', h⟩
  clear h2 hb2 ha2 hr1 hr2 hbb2 HA1
  go_wp2_with fail
  refine (lines_any s w2 hsz).mono ?_
  intro e w3 h3
  have HB3 := Lib.hid h3.1
  have HB3' := Lib.hid (HB2.out.trans (h3.1.mono HB2.out.size))
  obtain ⟨e3, he3⟩ : ∃ e', e' = e := ⟨e, rfl⟩
  have key : ∃ A3 n3 c3 i3 v3, e = .returned (.tuple #[.slice A3 n3 c3, .int .i64 i3, .int .i64 v3]) ∧ n3 ≤ s.size ∧ ∀ (W : World) (e4 : Ending) (w4 : World), LinesIs s W e4 w4 → ∃ A4 c4 ss, e4 = .returned (.tuple #[.slice A4 n3 c4, .int .i64 i3, .int .i64 v3]) ∧ SRow w3 A3 n3 ss ∧ SRow w4 A4 n3 ss := by
    obtain ⟨A3, _, n3, c3, _, i3, v3, _, he, _, hn, _, _⟩ := lines_two h3 h3
    refine ⟨A3, n3, c3, i3, v3, he, hn, fun W e4 w4 h4 => ?_⟩
    obtain ⟨A5, A4, n5, c5, c4, i5, v5, ss, he5, he4, _, hr5, hr4⟩ := lines_two h3 h4
    rw [he] at he5
    injection he5 with he5
    injection he5 with he5
    simp only [Array.mk.injEq, List.cons.injEq, Value.slice.injEq, Value.int.injEq, true_and, and_true] at he5
    obtain ⟨⟨rfl, rfl, rfl⟩, rfl, rfl⟩ := he5
    exact ⟨A4, c4, ss, he4, hr5, hr4⟩
  obtain ⟨A3, n3, c3, i3, v3, rfl, hn3, hkey⟩ := key
  have HK := hide hkey
  clear hkey h3 he3
  go_wp2_with fail
  refine (rlines_any s w3 hsz).mono ?_
  intro e w4 h4
  obtain ⟨A4, c4, ls, rfl, hr3, hr4⟩ := (unhide HK) w3 e w4 h4
  have hb4 := HB3'.out.trans (h4.1.mono HB3'.out.size)
  have HB4 := Lib.hid hb4
  have HR3 := Lib.hid (hr3.below h4.1)
  have HR4 := Lib.hid hr4
  have HQ1 := Lib.hid ((HR1.out.below HB3.out).below h4.1)
  have HQ2 := Lib.hid ((HR2.out.below HB3.out).below h4.1)
  have HBB := Lib.hid (HB3.out.trans (h4.1.mono HB3.out.size))
  have tv : (v1 != v1) = false := by simp
  have ti : (i3 != i3) = false := by simp
  have tw : (v3 != v3) = false := by simp
  have ts : (s.toList == s.toList) = true := by simp
  clear h4 hr3 hr4 hb4
  rcases HV.out with hv | ⟨hv, ws, hf⟩
  · subst hv
    go_wp2_with fail
    refine (same_yes A1 A2 n1 c1 c2 ss w4 HQ1.out HQ2.out (by omega)).mono ?_
    rintro e w5 ⟨rfl, hb5⟩
    have HB5 := Lib.hid (HB4.out.trans (hb5.mono HB4.out.size))
    have HR5 := Lib.hid (HR3.out.below hb5)
    have HR6 := Lib.hid (HR4.out.below hb5)
    clear hb5
    go_wp2_with fail
    refine (same_yes A3 A4 n3 c3 c4 ls w5 HR5.out HR6.out (by omega)).mono ?_
    rintro e w6 ⟨rfl, hb6⟩
    have HB6 := Lib.hid (HB5.out.trans (hb6.mono HB5.out.size))
    clear hb6
    go_wp2_with (first
      | (go_at_call 7; refine (live_any _ ((unhide HH).below HB6.out)).mono ?_; rintro e w7 ⟨rfl, hb7⟩))
    go_ret
    exact ⟨rfl, HB6.out.trans (hb7.mono HB6.out.size)⟩
  · subst hv
    have hq := HAR.out ws hf rfl
    have HF := Lib.hid hf
    have HN := Lib.hid hq.2.1
    have HC := Lib.hid hq.2.2
    have HR7 := Lib.hid (hq.1.below HBB.out)
    clear hq hf
    go_wp2_with fail
    refine (same_yes A1 A2 n1 c1 c2 ss w4 HQ1.out HQ2.out (by omega)).mono ?_
    rintro e w5 ⟨rfl, hb5⟩
    have HB5 := Lib.hid (HB4.out.trans (hb5.mono HB4.out.size))
    have HR5 := Lib.hid (HR3.out.below hb5)
    have HR6 := Lib.hid (HR4.out.below hb5)
    have HR8 := Lib.hid (HR7.out.below hb5)
    clear hb5
    go_wp2_with fail
    refine (same_yes A3 A4 n3 c3 c4 ls w5 HR5.out HR6.out (by omega)).mono ?_
    rintro e w6 ⟨rfl, hb6⟩
    have HB6 := Lib.hid (HB5.out.trans (hb6.mono HB5.out.size))
    have HR9 := Lib.hid (HR8.out.below hb6)
    clear hb6
    go_wp2_with (first
      | (go_at_call 13; refine (wjoin_any s ws A1 n1 c1 w6 HN.out HR9.out HC.out HF.out (by have := HN.out; omega) hsz).mono ?_; rintro e w7 ⟨rfl, hb7⟩; have HB7 := Lib.hid (HB6.out.trans (hb7.mono HB6.out.size)); clear hb7)
      | (go_at_call 7; refine (live_any _ ((unhide HH).below HB7.out)).mono ?_; rintro e w8 ⟨rfl, hb8⟩))
    go_ret
    exact ⟨rfl, HB7.out.trans (hb8.mono HB7.out.size)⟩
end Go.Proofs.YtdicjplekbjdpabDoor.Wd
