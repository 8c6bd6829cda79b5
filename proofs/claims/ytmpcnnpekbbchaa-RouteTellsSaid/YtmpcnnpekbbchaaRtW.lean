/- Walks of route: of nil. -/
import Derived.Test.YtmpcnnpekbbchaaRtN
namespace Go.Proofs.Ytmpcnnpekbbchaa.Rt
open Go.RowKit Mem Sm
set_option linter.unusedVariables false

theorem nil_of (i : Int) (w : World) : Calls Try.prog 6 #[.pointer none, .int .i64 i] w fun e w' => e = .returned (.tuple #[.int .i64 0, .bool false]) ∧ Below w.heap.size w w' := by
  go_enter Try.func6, Try.ntmps6
  go_wp2
  go_ret2
  exact ⟨rfl, Below.refl _ _⟩
theorem nil_len (w : World) : Calls Try.prog 10 #[.pointer none] w fun e w' => e = .returned (.int .i64 0) ∧ Below w.heap.size w w' := by
  go_enter Try.func10, Try.ntmps10
  go_wp2
  go_ret
  exact ⟨rfl, Below.refl _ _⟩
theorem nil_at (i : Int) (w : World) (hi : 0 ≤ i) : Calls Try.prog 11 #[.pointer none, .int .i64 i] w fun e w' => e = .returned (.slice none 0 0) ∧ Below w.heap.size w w' := by
  have CL := nil_len w
  have hi' : ¬ i < 0 := by omega
  go_enter Try.func11, Try.ntmps11
  go_wp2_with fail
  refine CL.mono ?_
  rintro e w1 ⟨rfl, hb⟩
  have HB := Lib.hid hb
  clear hb CL
  go_wp2
  go_ret
  exact ⟨rfl, HB.out⟩
theorem nil_check (A : Option Addr) (n c : Nat) (w : World) : Calls Try.prog 26 #[.pointer none, .slice A n c] w fun e w' => e = .returned (.int .i64 10) ∧ Below w.heap.size w w' := by
  go_enter Try.func26, Try.ntmps26
  go_wp2
  go_ret
  exact ⟨rfl, Below.refl _ _⟩
theorem nil_add (A : Option Addr) (n c : Nat) (w : World) : Calls Try.prog 8 #[.pointer none, .slice A n c] w fun e w' => e = .returned (.int .i64 10) ∧ Below w.heap.size w w' := by
  have CL := nil_check A n c w
  go_enter Try.func8, Try.ntmps8
  go_wp2_with fail
  refine CL.mono ?_
  rintro e w1 ⟨rfl, hb⟩
  have HB := Lib.hid hb
  clear hb CL
  go_wp2
  go_ret
  exact ⟨rfl, HB.out⟩
theorem nil_mirror (A : Option Addr) (n c : Nat) (of : Int) (w : World) : Calls Try.prog 9 #[.pointer none, .slice A n c, .int .i64 of] w fun e w' => e = .returned (.int .i64 10) ∧ Below w.heap.size w w' := by
  have CL := nil_check A n c w
  go_enter Try.func9, Try.ntmps9
  go_wp2_with fail
  refine CL.mono ?_
  rintro e w1 ⟨rfl, hb⟩
  have HB := Lib.hid hb
  clear hb CL
  go_wp2
  go_ret
  exact ⟨rfl, HB.out⟩
theorem nil_tell (pos side : Int) (w : World) : Calls Try.prog 7 #[.pointer none, .int .i64 pos, .int .i64 side] w fun e w' => e = .returned (.tuple #[plV ⟨0, false, false, 0, 0⟩, .int .i64 10]) ∧ Below w.heap.size w w' := by
  have HN := Lib.hid (heap_alloc_new w (.cells #[.int .i64 0, .bool false, .bool false, .int .i64 0, .int .i64 0] 27))
  have HB := Lib.hid ((Below.refl _ w).alloc (Nat.le_refl _) (.cells #[.int .i64 0, .bool false, .bool false, .int .i64 0, .int .i64 0] 27))
  go_enter Try.func7, Try.ntmps7
  go_wp2
  have hF := five HN.out
  refine bodyPost_ret (v := .tuple #[plV ⟨0, false, false, 0, 0⟩, .int .i64 10]) ?_ rfl ⟨rfl, HB.out⟩
  simp [results, Try.results7, go_sem, hF.1, hF.2.1, hF.2.2.1, hF.2.2.2.1, hF.2.2.2.2, plV]
theorem nil_pos (pos side : Int) (w : World) : Calls Try.prog 12 #[.pointer none, .int .i64 pos, .int .i64 side] w fun e w' => e = .returned (.int .i64 0) ∧ Below w.heap.size w w' := by
  have CT := nil_tell pos side w
  unfold plV at CT
  go_enter Try.func12, Try.ntmps12
  go_wp2_with fail
  refine CT.mono ?_
  rintro e W1 ⟨rfl, hb⟩
  have HB := Lib.hid (hb.alloc hb.size (.cells #[.int .i64 0, .bool false, .bool false, .int .i64 0, .int .i64 0] 27))
  clear hb CT
  go_wp2
  go_ret
  exact ⟨rfl, HB.out⟩
theorem nil_from (i : Int) (w : World) : Calls Try.prog 13 #[.pointer none, .int .i64 i] w fun e w' => e = .returned (.pointer none) ∧ Below w.heap.size w w' := by
  go_enter Try.func13, Try.ntmps13
  go_wp2
  go_ret
  exact ⟨rfl, Below.refl _ _⟩
theorem nil_invert (w : World) : Calls Try.prog 14 #[.pointer none] w fun e w' => e = .returned (.pointer none) ∧ Below w.heap.size w w' := by
  go_enter Try.func14, Try.ntmps14
  go_wp2
  have HB := ((Below.refl w.heap.size w).alloc (Nat.le_refl _) (.cells #[.pointer none] 23)).alloc (by simp) (.cells #[.pointer none] 23)
  have hc : ((w.alloc (.cells #[.pointer none] 23)).alloc (.cells #[.pointer none] 23)).cell? ⟨(w.alloc (.cells #[.pointer none] 23)).heap.size, 0, none⟩ = some (.pointer none) := by rw [World.cell?_alloc_mark]; rfl
  rw [show (w.alloc (.cells #[.pointer none] 23)).heap.size = w.heap.size + 1 by simp] at hc
  refine bodyPost_ret (v := .pointer none) ?_ rfl ⟨rfl, HB⟩
  simp [results, Try.results14, go_sem, hc]
end Go.Proofs.Ytmpcnnpekbbchaa.Rt
