/- The law RouteTells's walk with the facts of its frame. -/
import Derived.Test.YtmpcnnpekbbchaaRtX
namespace Go.Proofs.Ytmpcnnpekbbchaa.Rt
open Go.RowKit Mem Sm
theorem tells_door (A : Option Addr) (n c : Nat) (l : List Mi) (pos side : Int) (w : World) (hr : MLow w.heap.size w A n l) (hn : n ≤ maxLen) (_ : (Lit.int .i64 pos).wf = true) (_ : (Lit.int .i64 side).wf = true) :
    Calls Try.prog 3 #[.slice A n c, .int .i64 pos, .int .i64 side] w fun e w' => e = .returned (.bool true) ∧ Below w.heap.size w w' :=
  tells_walk A n c l pos side w hr hn
end Go.Proofs.Ytmpcnnpekbbchaa.Rt
