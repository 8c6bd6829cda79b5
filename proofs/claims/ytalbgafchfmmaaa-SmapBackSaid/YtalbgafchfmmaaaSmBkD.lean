/- SmapBack's walk, in the order of the law's frame. -/
import Derived.Test.YtalbgafchfmmaaaSmBk
import Derived.Test.YtalbgafchfmmaaaRgOpn
namespace Go.Proofs.Ytalbgafchfmmaaa.Sm
open Go.RowKit Mem
theorem back_law (A : Option Addr) (m c : Nat) (l : List Rg) (x y side : Int) (w : World) (h : RRow w A m l) (_ : m ≤ maxLen) (_ : (Lit.int .i64 x).wf = true) (_ : (Lit.int .i64 y).wf = true) (_ : (Lit.int .i64 side).wf = true) :
    Calls Try.prog 5 #[.slice A m c, .agg #[.int .i64 x, .int .i64 y], .int .i64 side] w fun e w' => e = .returned (.bool true) ∧ Below w.heap.size w w' :=
  back_walk l A m c x y side w (RLow.of h)
end Go.Proofs.Ytalbgafchfmmaaa.Sm
