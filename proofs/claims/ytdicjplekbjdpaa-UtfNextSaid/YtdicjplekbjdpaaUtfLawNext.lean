/- The walk of the law UtfNext. -/
import Derived.Test.YtdicjplekbjdpaaUtfG
namespace Go.Proofs.Ytdicjplekbjdpaa.Utf
open Go.RowKit Mem
set_option linter.unusedVariables false

set_option maxHeartbeats 1000000 in
theorem next_law (A : Option Addr) (n c : Nat) (zs : List Int) (p : Int) (w : World) (H : Row .u8 w A n zs ∧ n ≤ c ∧ c ≤ maxLen) :
    Calls Try.prog 4 #[.slice A n c, .int .i64 p] w fun e w' => e = .returned (.bool true) ∧ Below w.heap.size w w' := by
  obtain ⟨hr, hnc, hcm⟩ := H
  by_cases hn : 2000 < n
  · have hc2 := hcm
    unfold maxLen at hc2
    clear hr hcm
    go_enter Try.func4, Try.ntmps4
    go_wp2_with (go_at_call 7; refine (live_any _).mono ?_; rintro e w1 ⟨rfl, hb1⟩)
    go_ret
    exact ⟨rfl, hb1⟩
  · by_cases hp : p < 0 ∨ (n : Int) ≤ p
    · have hx := unext_out A n c p w (by unfold maxLen; omega) hp
      have HX := hide hx
      clear hx hr hcm
      rcases hp with hp | hp
      all_goals
        go_enter Try.func4, Try.ntmps4
        go_wp2_with (first
          | (go_at_call 13; refine (unhide HX).mono ?_; rintro e w1 ⟨rfl, hb1⟩)
          | (go_at_call 7; refine (live_any _).mono ?_; rintro e w2 ⟨rfl, hb2⟩))
        go_ret
        exact ⟨rfl, hb1.trans (hb2.mono hb1.size)⟩
    · obtain ⟨P, rfl⟩ := Int.eq_ofNat_of_zero_le (show 0 ≤ p by omega)
      have hPn : P < n := by omega
      clear hp
      have HR := Lib.hid hr
      clear hr
      go_enter Try.func4, Try.ntmps4
      go_wp2_with fail
      refine (unext_any zs A n c P w HR.out (by omega) hPn).mono ?_
      rintro e w1 ⟨hb1, h1⟩
      have HB1 := Lib.hid hb1
      have hr1 := HR.out.below hb1
      have HR1 := Lib.hid hr1
      clear hb1 hr1
      rcases h1 with ⟨r, hat, rfl⟩ | ⟨hno, rfl⟩
      · have hl := bytes_length r
        obtain ⟨m, hm⟩ : ∃ m, m = (bytes r).length := ⟨_, rfl⟩
        rw [← hm] at hl ⊢
        have HM := Lib.hid hm
        have HA := Lib.hid hat
        clear hm hat
        go_wp2_with fail
        refine (rnext_any zs A n c P w1 HR1.out hnc hcm hPn).mono ?_
        rintro e w2 ⟨hb2, h2⟩
        have hbb := HB1.out.trans (hb2.mono HB1.out.size)
        have HB := Lib.hid hbb
        clear hbb hb2
        rcases h2 with ⟨r2, hat2, rfl⟩ | ⟨hno, rfl⟩
        · obtain rfl := HA.out.one hat2
          rw [← HM.out]
          clear hat2
          go_wp2_with (go_at_call 7; refine (live_any _).mono ?_; rintro e w3 ⟨rfl, hb3⟩)
          go_ret
          exact ⟨rfl, HB.out.trans (hb3.mono HB.out.size)⟩
        · exact absurd HA.out (hno r)
      · have HN := Lib.hid hno
        clear hno
        go_wp2_with fail
        refine (rnext_any zs A n c P w1 HR1.out hnc hcm hPn).mono ?_
        rintro e w2 ⟨hb2, h2⟩
        have hbb := HB1.out.trans (hb2.mono HB1.out.size)
        have HB := Lib.hid hbb
        clear hbb hb2
        rcases h2 with ⟨r2, hat2, rfl⟩ | ⟨hno, rfl⟩
        · exact absurd hat2 (HN.out r2)
        · clear hno
          go_wp2_with (go_at_call 7; refine (live_any _).mono ?_; rintro e w3 ⟨rfl, hb3⟩)
          go_ret
          exact ⟨rfl, HB.out.trans (hb3.mono HB.out.size)⟩
end Go.Proofs.Ytdicjplekbjdpaa.Utf
