/- (a part of RtW, for steps) Walks of route: of nil. -/
import Derived.Test.YtmhngehpddfccaaRtK
namespace Go.Proofs.Ytmhngehpddfccaa.Rt
open Go.RowKit Mem Sm
set_option linter.unusedVariables false
theorem nil_tell (pos side : Int) (w : World) : Calls Try.prog 16 #[.pointer none, .int .i64 pos, .int .i64 side] w fun e w' => e = .returned (.tuple #[plV ⟨0, false, false, 0, 0⟩, .int .i64 10]) ∧ Below w.heap.size w w' := by
  have HN := Lib.hid (heap_alloc_new w (.cells #[.int .i64 0, .bool false, .bool false, .int .i64 0, .int .i64 0] 76))
  have HB := Lib.hid ((Below.refl _ w).alloc (Nat.le_refl _) (.cells #[.int .i64 0, .bool false, .bool false, .int .i64 0, .int .i64 0] 76))
  go_enter Try.func16, Try.ntmps16
  go_wp2
  have hF := five HN.out
  refine bodyPost_ret (v := .tuple #[plV ⟨0, false, false, 0, 0⟩, .int .i64 10]) ?_ rfl ⟨rfl, HB.out⟩
  simp [results, Try.results16, go_sem, hF.1, hF.2.1, hF.2.2.1, hF.2.2.2.1, hF.2.2.2.2, plV]
end Go.Proofs.Ytmhngehpddfccaa.Rt
