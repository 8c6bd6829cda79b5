/- Walk of live (utf). -/
import Derived.Test.YtdicjplekbjdpaaUtfF
namespace Go.Proofs.Ytdicjplekbjdpaa.Utf
open Go.RowKit Mem
set_option linter.unusedVariables false

theorem bytes_8364 : bytes 8364 = [226, 130, 172] := by decide

theorem no_192 : ∀ r, ¬ At [192, 128] 0 r := fun r h => by
  have h1 := h.says
  simp only [List.getD_cons_zero] at h1
  have h2 : headN 192 = 2 := by decide
  have h3 : acc [192, 128] 0 (headR 192) (headN 192 - 1) = 0 := by decide
  rw [h2] at h1
  rw [show (2 : Nat) - 1 = headN 192 - 1 from by decide, h3] at h1
  have h4 : lenI 0 = 1 := by decide
  rw [← h1.2.2.2.1, h4] at h1
  exact absurd h1.2.2.2.2 (by decide)

theorem len_8364 (w : World) : Calls Try.prog 11 #[.int .i32 8364] w fun e w' => e = .returned (.int .i64 3) ∧ w = w' := by
  have := len_any 8364 w
  rw [show lenI 8364 = 3 from by decide] at this
  exact this

theorem next_192 (g c : Nat) (w : World) (hr : Row .u8 w (some ⟨g, 0, none⟩) 2 [192, 128]) :
    Calls Try.prog 13 #[.slice (some ⟨g, 0, none⟩) 2 c, .int .i64 0] w fun e w' => e = .returned (.tuple #[.int .i32 0, .int .i64 0, .int .i64 11]) ∧ Below w.heap.size w w' := by
  refine (unext_any [192, 128] _ 2 c 0 w hr (by omega) (by omega)).mono fun e w' ⟨hb, h⟩ => ?_
  rcases h with ⟨r, h, _⟩ | ⟨_, h⟩
  · exact absurd h (no_192 r)
  · exact ⟨h, hb⟩

set_option maxHeartbeats 400000 in
theorem live_any (w : World) : Calls Try.prog 7 #[] w fun e w' => e = .returned (.bool true) ∧ Below w.heap.size w w' := by
  have hb0 : rtB 8364 = true := by decide
  go_enter Try.func7, Try.ntmps7
  go_wp2_with fail
  refine (put_yes none 0 0 [] 8364 w hb0 Row.nil (by omega)).mono ?_
  rintro e w1 ⟨A, c, rfl, hc, hr1, hb1⟩
  rw [List.nil_append, bytes_8364] at *
  simp only [List.length_cons, List.length_nil, Nat.zero_add, Nat.reduceAdd] at *
  have HR1 := Lib.hid hr1
  have HB1 := Lib.hid hb1
  clear hr1 hb1 hb0
  have hrow : Row .u8 (w1.alloc (.cells #[.int .u8 192, .int .u8 128] 5 (0, 0))) (some ⟨w1.heap.size, 0, none⟩) 2 [192, 128] := row_block (heap_alloc_new w1 _) [192, 128] rfl 2 rfl (wf_bytes (by simp))
  have HW := Lib.hid hrow
  clear hrow
  go_wp2_with fail
  refine (next_192 _ 2 _ HW.out).mono ?_
  rintro e w2 ⟨rfl, hb2⟩
  have hb2' : Below w1.heap.size w1 w2 := ((Below.refl w1.heap.size w1).alloc (Nat.le_refl _) _).trans (hb2.mono (by simp))
  have hr2 : Row .u8 w2 A 3 [226, 130, 172] := HR1.out.below hb2'
  have q1 := hr2.str c (P := Try.prog) Try.underlying22 Try.underlying5 Try.underlying9
  have hrow : Row .u8 (w2.alloc (.cells #[.int .u8 226, .int .u8 130, .int .u8 172] 5 (0, 0))) (some ⟨w2.heap.size, 0, none⟩) 3 [226, 130, 172] := row_block (heap_alloc_new w2 _) [226, 130, 172] rfl 3 rfl (wf_bytes (by simp))
  have q2 := hrow.str 3 (P := Try.prog) Try.underlying22 Try.underlying5 Try.underlying9
  generalize strOfNums [226, 130, 172] = S at *
  have hbb := (HB1.out.trans (hb2'.mono HB1.out.size))
  have HB := Lib.hid hbb
  clear hr2 hrow hb2 hb2' hbb
  go_wp2_with (go_at_call 11; refine (len_8364 _).mono ?_; rintro e w' ⟨rfl, rfl⟩)
  go_ret
  exact ⟨rfl, HB.out.alloc HB.out.size _⟩
end Go.Proofs.Ytdicjplekbjdpaa.Utf
