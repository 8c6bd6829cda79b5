/- The law QueueDrains, walked: the whole. -/
import Derived.Test.YtlnljgfppipceabQuS
import Derived.Test.YtlnljgfppipceabQuT
import Derived.Test.YtlnljgfppipceabQuU
namespace Go.Proofs.Ytlnljgfppipceab.Qu
open Go.RowKit Go.Shelf Mem
set_option linter.unusedVariables false

theorem drains_walk (A : Option Addr) (n c : Nat) (zs : List Int) (mo : Int) (w : World) (hr : Row .i64 w A n zs) (hmo0 : 0 ≤ mo) (hmo1 : mo ≤ 255) :
    Calls Try.prog 4 #[.slice A n c, .int .u8 mo] w fun e w' => e = .returned (.bool true) ∧ Below w.heap.size w w' := by
  by_cases hbig : 200 < n
  · exact drains_big A n c zs mo w hr hmo0 hmo1 hbig
  · by_cases hz : mo = 0
    · exact drains_none A n c zs mo w hr hmo0 hmo1 hbig (Lib.hid hz)
    · by_cases hlm : mo < (n : Int)
      · exact drains_some A n c zs mo w hr hmo0 hmo1 hbig (Lib.hid (by omega)) (Lib.hid hlm)
      · exact drains_all A n c zs mo w hr hmo0 hmo1 hbig (Lib.hid (by omega)) (Lib.hid hlm)
end Go.Proofs.Ytlnljgfppipceab.Qu
