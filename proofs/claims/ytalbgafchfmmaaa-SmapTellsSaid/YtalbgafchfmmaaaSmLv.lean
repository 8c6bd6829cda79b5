/- Walks: May, live. -/
import Derived.Test.YtalbgafchfmmaaaSmL
namespace Go.Proofs.Ytalbgafchfmmaaa.Sm
open Go.RowKit Mem
set_option linter.unusedVariables false

theorem may_any (x : Int) (w : World) : Calls Try.prog 9 #[.int .i64 x] w fun e w' => e = .returned (.bool (mayB x)) ∧ w = w' := by
  by_cases h : 0 ≤ x
  · go_enter Try.func9, Try.ntmps9
    go_wp2
    go_ret
    exact ⟨ret_bool (by simp [mayB, h]), rfl⟩
  · go_enter Try.func9, Try.ntmps9
    go_wp2
    go_ret
    exact ⟨ret_bool (by simp [mayB]; omega), rfl⟩
def exR : List Rg := [⟨5, 2, 3⟩]
theorem ex_right : rightB exR = true := rightB_true (by
  intro i hi
  obtain rfl : i = 0 := by simpa [exR] using hi
  refine ⟨?_, fun h => absurd h (by omega)⟩
  show Rg.fits ⟨5, 2, 3⟩
  unfold Rg.fits
  simp)
theorem ex_pos (x side : Int) (h : mayB x = true) : tellW exR x side = tell exR x side := by unfold tellW; rw [if_pos ⟨ex_right, h⟩]
theorem ex_row (w : World) : RRow (w.alloc (.cells #[.int .i64 5, .int .i64 2, .int .i64 3] 42)) (some ⟨w.heap.size, 0, none⟩) 1 exR := rrow_one w ⟨5, 2, 3⟩
set_option maxHeartbeats 1000000 in
theorem live_any (w : World) : Calls Try.prog 6 #[] w fun e w' => e = .returned (.bool true) ∧ Below w.heap.size w w' := by
  have HR0 := Lib.hid (RLow.of (ex_row w))
  have HB0 := Lib.hid ((Below.refl _ w).alloc (Nat.le_refl _) (.cells #[.int .i64 5, .int .i64 2, .int .i64 3] 42))
  have C1 := fun c W (h : RLow W.heap.size W (some ⟨w.heap.size, 0, none⟩) 1 exR) => ppos_any exR (some ⟨w.heap.size, 0, none⟩) 1 c 6 (-1) W (by omega) h
  have C2 := fun c W (h : RLow W.heap.size W (some ⟨w.heap.size, 0, none⟩) 1 exR) => ppos_any exR (some ⟨w.heap.size, 0, none⟩) 1 c 6 1 W (by omega) h
  have C3 := fun c W (h : RLow W.heap.size W (some ⟨w.heap.size, 0, none⟩) 1 exR) => ppos_any exR (some ⟨w.heap.size, 0, none⟩) 1 c 7 (-1) W (by omega) h
  have C4 := fun c W (h : RLow W.heap.size W (some ⟨w.heap.size, 0, none⟩) 1 exR) => pshift_any exR (some ⟨w.heap.size, 0, none⟩) 1 c W (by omega) h
  rw [ex_pos 6 (-1) (by decide), show (tell exR 6 (-1)).pos = 5 by decide] at C1
  rw [ex_pos 6 1 (by decide), show (tell exR 6 1).pos = 8 by decide] at C2
  rw [ex_pos 7 (-1) (by decide), show (tell exR 7 (-1)).pos = 8 by decide] at C3
  rw [show shiftW exR = 1 by unfold shiftW; rw [ex_right]; decide] at C4
  go_enter Try.func6, Try.ntmps6
  go_wp2_with fail
  refine (C1 _ _ HR0.out).mono ?_
  rintro e w1 ⟨rfl, hb1⟩
  have HR1 := Lib.hid ((HR0.out.below hb1 (Nat.le_refl _)).lift hb1.size)
  have HB1 := Lib.hid (HB0.out.trans (hb1.mono HB0.out.size))
  clear hb1 HR0 HB0 C1
  go_wp2_with fail
  refine (C2 _ _ HR1.out).mono ?_
  rintro e w2 ⟨rfl, hb2⟩
  have HR2 := Lib.hid ((HR1.out.below hb2 (Nat.le_refl _)).lift hb2.size)
  have HB2 := Lib.hid (HB1.out.trans (hb2.mono HB1.out.size))
  clear hb2 HR1 HB1 C2
  go_wp2_with fail
  refine (C3 _ _ HR2.out).mono ?_
  rintro e w3 ⟨rfl, hb3⟩
  have HR3 := Lib.hid ((HR2.out.below hb3 (Nat.le_refl _)).lift hb3.size)
  have HB3 := Lib.hid (HB2.out.trans (hb3.mono HB2.out.size))
  clear hb3 HR2 HB2 C3
  go_wp2_with fail
  refine (C4 _ _ HR3.out).mono ?_
  rintro e w4 ⟨rfl, hb4⟩
  have HB4 := Lib.hid (HB3.out.trans (hb4.mono HB3.out.size))
  clear hb4 HR3 HB3 C4
  go_wp2
  go_ret
  exact ⟨rfl, HB4.out⟩
end Go.Proofs.Ytalbgafchfmmaaa.Sm
