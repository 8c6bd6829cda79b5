/- The walk of the law UtfLetters. -/
import Derived.Test.YtdicjplekbjdpaaUtfG
namespace Go.Proofs.Ytdicjplekbjdpaa.Utf
open Go.RowKit Mem
set_option linter.unusedVariables false

theorem strs_append (xs ys : List Int) : strOfNums (xs ++ ys) = strOfNums xs ++ strOfNums ys := by
  apply ByteArray.ext
  rw [ByteArray.data_append]
  simp [strOfNums]

set_option maxHeartbeats 1000000 in
theorem letters_law (r : Int) (A : Option Addr) (n c : Nat) (zs : List Int) (w : World) (H : Row .u8 w A n zs ∧ n ≤ c ∧ c ≤ maxLen) :
    Calls Try.prog 3 #[.int .i32 r, .slice A n c] w fun e w' => e = .returned (.bool true) ∧ Below w.heap.size w w' := by
  obtain ⟨hr, hnc, hcm⟩ := H
  by_cases hn : 200 < n
  · have hc2 := hcm
    unfold maxLen at hc2
    clear hr hcm
    go_enter Try.func3, Try.ntmps3
    go_wp2_with (go_at_call 7; refine (live_any _).mono ?_; rintro e w1 ⟨rfl, hb1⟩)
    go_ret
    exact ⟨rfl, hb1⟩
  · cases hrt : rtB r
    · have HT := Lib.hid hrt
      have e0 := lenI_zero hrt
      have E0 := Lib.hid e0
      clear hrt hr hcm e0
      go_enter Try.func3, Try.ntmps3
      go_wp2_with (first
        | (go_at_call 8; refine (put_no A n c r _ HT.out).mono ?_; rintro e w1 ⟨rfl, rfl⟩)
        | (go_at_call 9; refine (rright_no r HT.out _).mono ?_; rintro e w1 ⟨rfl, rfl⟩)
        | (go_at_call 10; refine (right_no r HT.out _).mono ?_; rintro e w1 ⟨rfl, rfl⟩)
        | (go_at_call 11; refine (len_any r _).mono ?_; rw [E0.out]; rintro e w1 ⟨rfl, rfl⟩)
        | (go_at_call 7; refine (live_any _).mono ?_; rintro e w2 ⟨rfl, hb2⟩))
      go_ret
      exact ⟨rfl, hb2⟩
    · have HT := Lib.hid hrt
      have HR := Lib.hid hr
      have e0 := lenI_bytes hrt
      clear hrt hr hcm
      go_enter Try.func3, Try.ntmps3
      go_wp2_with fail
      refine (put_yes A n c zs r w HT.out HR.out (by omega)).mono ?_
      rintro e w1 ⟨A1, c1, rfl, hc1, hr1, hb1⟩
      have HB1 := Lib.hid hb1
      have HR1 := Lib.hid hr1
      have hr2 := HR.out.below hb1
      have HR2 := Lib.hid hr2
      have hlz := HR.out.1
      have hbl := bytes_length r
      generalize hL1 : (zs ++ bytes r).length = L1 at *
      have HL1 := Lib.hid hL1
      clear hb1 hr1 hr2 hL1
      go_wp2_with (first
        | (go_at_call 9; refine (rright_yes r HT.out _).mono ?_; rintro e w1 ⟨rfl, rfl⟩)
        | fail)
      refine (bytes_any r _ HT.out).mono ?_
      rintro e w3 ⟨A3, c3, rfl, hc3, hr3, hb3⟩
      have hq1 := (HR1.out.below hb3).str c1 (P := Try.prog) Try.underlying22 Try.underlying5 Try.underlying9
      have hq2 := (HR2.out.below hb3).str c (P := Try.prog) Try.underlying22 Try.underlying5 Try.underlying9
      have hq3 := hr3.str c3 (P := Try.prog) Try.underlying22 Try.underlying5 Try.underlying9
      have hs1 := strOfNums_size zs
      have hs2 := strOfNums_size (bytes r)
      have hsa := strs_append zs (bytes r)
      generalize strOfNums zs = S1 at *
      generalize strOfNums (bytes r) = S2 at *
      generalize strOfNums (zs ++ bytes r) = S0 at *
      subst hsa
      have hsum : S1.size + S2.size ≤ 9223372036854775807 := by omega
      have hadd := fun (w : World) => run_string_add_sum (P := Try.prog) (w := w) S1 S2 hsum
      generalize hS : S1 ++ S2 = S at *
      have hbb := HB1.out.trans (hb3.mono HB1.out.size)
      have HB := Lib.hid hbb
      generalize hL3 : (bytes r).length = L3 at *
      have E0 := Lib.hid e0
      clear hs1 hs2 hlz hbl hsum hb3 hr3 hbb hL3 e0 hS
      go_wp2_with (first
        | (go_at_call 10; refine (right_yes r HT.out _).mono ?_; rintro e w1 ⟨rfl, rfl⟩)
        | (go_at_call 11; refine (len_any r _).mono ?_; rw [E0.out]; rintro e w1 ⟨rfl, rfl⟩)
        | (go_at_call 7; refine (live_any _).mono ?_; rintro e w4 ⟨rfl, hb4⟩))
      go_ret
      exact ⟨rfl, HB.out.trans (hb4.mono HB.out.size)⟩
end Go.Proofs.Ytdicjplekbjdpaa.Utf
