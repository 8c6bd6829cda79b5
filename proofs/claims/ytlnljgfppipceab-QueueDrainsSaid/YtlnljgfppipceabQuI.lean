/- Walk of live (queue). -/
import Derived.Test.YtlnljgfppipceabQuH
namespace Go.Proofs.Ytlnljgfppipceab.Qu
open Go.RowKit Mem
set_option linter.unusedVariables false

def three : List It := [⟨2, 0, 10⟩, ⟨1, 1, 11⟩, ⟨2, 2, 12⟩]
def two : List It := [⟨2, 0, 10⟩, ⟨2, 2, 12⟩]
theorem first3 : IsFirst three 1 := by
  refine ⟨by decide, fun c hc => ?_, fun c hc => ?_⟩
  · have : c = 0 ∨ c = 1 ∨ c = 2 := by simp [three] at hc; omega
    rcases this with rfl | rfl | rfl <;> decide
  · obtain rfl : c = 0 := by omega
    decide
theorem first2 : IsFirst two 0 := by
  refine ⟨by decide, fun c hc => ?_, fun c hc => by omega⟩
  have : c = 0 ∨ c = 1 := by simp [two] at hc; omega
  rcases this with rfl | rfl <;> decide

set_option maxRecDepth 100000 in
set_option maxHeartbeats 2000000 in
theorem live_any (w : World) : Calls Try.prog 9 #[] w fun e w' => e = .returned (.bool true) ∧ Below w.heap.size w w' := by
  have hg0 : G w.heap.size (w.alloc (.cells #[.slice none 0 0, .int .i64 0] 32)) w.heap.size [] 0 := G.new w (Nat.le_refl _)
  have HG0 := Lib.hid hg0
  have hF0 : QFrame w.heap.size w.heap.size w (w.alloc (.cells #[.slice none 0 0, .int .i64 0] 32)) := QFrame.alloc _
  have HF0 := Lib.hid hF0
  clear hg0 hF0
  go_enter Try.func9, Try.ntmps9
  go_wp2_with fail
  refine (gput _ [] 0 2 10 _ HG0.out (by decide) (by decide)).mono ?_
  rintro e w1 ⟨⟨u, rfl⟩, hg1, hf1⟩
  have HG1 := Lib.hid hg1
  have HF1 := Lib.hid (HF0.out.trans hf1)
  clear hg1 hf1
  go_wp2_with fail
  refine (gput _ _ _ 1 11 _ HG1.out (by decide) (by decide)).mono ?_
  rintro e w2 ⟨⟨u2, rfl⟩, hg1, hf1⟩
  have HG2 := Lib.hid hg1
  have HF2 := Lib.hid (HF1.out.trans hf1)
  clear hg1 hf1
  go_wp2_with fail
  refine (gput _ _ _ 2 12 _ HG2.out (by decide) (by decide)).mono ?_
  rintro e w3 ⟨⟨u3, rfl⟩, hg1, hf1⟩
  have HG3 : Hid (G w.heap.size w3 w.heap.size three 3) := hg1
  have HF3 := Lib.hid (HF2.out.trans hf1)
  clear hg1 hf1
  go_wp2_with fail
  refine (gtake _ three 3 1 _ HG3.out (by decide) first3).mono ?_
  rintro e w4 ⟨rfl, hg1, hf1⟩
  have HG4 : Hid (G w.heap.size w4 w.heap.size two 3) := hg1
  have HF4 := Lib.hid (HF3.out.trans hf1)
  rw [show (at_ three 1).thing = 11 from rfl, show (at_ three 1).key = 1 from rfl]
  clear hg1 hf1
  go_wp2_with fail
  refine (gtake _ two 3 0 _ HG4.out (by decide) first2).mono ?_
  rintro e w5 ⟨rfl, hg1, hf1⟩
  have HG5 : Hid (G w.heap.size w5 w.heap.size [⟨2, 2, 12⟩] 3) := hg1
  have HF5 := Lib.hid (HF4.out.trans hf1)
  rw [show (at_ two 0).thing = 10 from rfl, show (at_ two 0).key = 2 from rfl]
  clear hg1 hf1
  go_wp2_with fail
  refine (glen _ _ _ _ HG5.out).mono ?_
  rintro e w' ⟨rfl, rfl⟩
  rw [show ((([⟨2, 2, 12⟩] : List It).length : Nat) : Int) = 1 from rfl]
  go_wp2
  go_ret
  exact ⟨rfl, HF5.out.below (Nat.le_refl _) (Nat.le_refl _)⟩
end Go.Proofs.Ytlnljgfppipceab.Qu
