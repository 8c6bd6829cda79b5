/- SliceJoins' walk, in the order of the law's frame. -/
import Derived.Test.YtnmphoemiohgjaaSlH
import Derived.Test.YtnmphoemiohgjaaTkOpn
namespace Go.Proofs.Ytnmphoemiohgjaa.Sl
open Go.RowKit Mem Tk
theorem joins_law (A : Option Addr) (n c : Nat) (l : List Tk) (B : Option Addr) (m c' : Nat) (k : List Tk) (D : Option Addr) (p c'' : Nat) (lead : List Tk) (w : World)
    (h1 : TRow w A n l) (_ : n ≤ maxLen) (h2 : TRow w B m k) (_ : m ≤ maxLen) (h3 : TRow w D p lead) (_ : p ≤ maxLen) :
    Calls Try.prog 3 #[.slice A n c, .slice B m c', .slice D p c''] w fun e w' => e = .returned (.bool true) ∧ Below w.heap.size w w' :=
  joins_walk l k lead A B D n c m c' p c'' w h1 h2 h3
end Go.Proofs.Ytnmphoemiohgjaa.Sl
