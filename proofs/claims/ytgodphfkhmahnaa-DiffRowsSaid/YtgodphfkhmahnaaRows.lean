/-
  No cell of these rows narrows 'for every input' (looked for: loops, veiled, ifaces, maps, wideKeys, modest, calm, conditions, laid).
  DERIVED. THE GIVEN ROWS OF THIS SEAT. 5 by the template 'for every input the law returns true; each argument reads behind the call as it read before'; 0 by the template 'total and deterministic' (their statements: YtgodphfkhmahnaaTotals.lean).
  GIVEN WITH THE SEED: the statements are not yours to turn. If you find one false, say at which input.
  Laid BY PROGRAM, IN A SANDBOX (cutbox-rows.mjs): the forced cells as the released guide's own fill.sh prints them over the translation 9e0daa04cfc074b3… (all of the seat's roots in one cut). By AI agents, Wed Nov 11 2026. No macro, syntax, notation, axiom, sorry.
-/
import Derived.Test.YtgodphfkhmahnaaChecked
import GoSem.Claim
import GoSem.ClaimJoined
import GoSem.ClaimMapViews
import Derived.JoinedTies
import Derived.KernelRfl
namespace Go.Proofs.Ytgodphfkhmahnaa
/- THE CELL 'sum', in the pinned program and in every row, IS THE sha256 OF THE DUMP (.gsa) THAT YtgodphfkhmahnaaProg.lean LOADS. Nothing in Lean hashes anything: it is a label: what it is worth is what the hold of that sum in a sandbox is worth. -/
noncomputable def Try.pinned : Pinned := { name := "ytgodphfkhmahnaa", sum := "9e0daa04cfc074b3986130ad0fcddae7c5f47ccc6bf1345540c83223492ecdf8", checked := Try.checked }
namespace Rows
def none {H : Type} : Left H := { results := [], args := [] }

/-- 'stetlaw26.ShiftThrough': WHATEVER THE INPUT: true; the input reads as it did. -/
def shiftThroughSpec : ChangeSpec := { name := "shiftThrough", fn := fun _ => fun
  | [d1, d2] => { results := [.lit (.bool true)], args := [d1, d2] }
  | _ => none }
def shiftThroughRow : OpenClaim := { program := "ytgodphfkhmahnaa", sum := "9e0daa04cfc074b3986130ad0fcddae7c5f47ccc6bf1345540c83223492ecdf8", func := "stet/stetlaw26.ShiftThrough", spec := "shiftThrough", unfollowed := true, recurses := true, apart := false }
def ShiftThroughSaid : Prop := shiftThroughRow.holds Try.pinned (OpenSpec.ofChange shiftThroughSpec)

/-- ITS FALSE NEIGHBOUR: 'it returns false'. Refute it at one input. -/
def shiftThroughWrong : ChangeSpec := { name := "shiftThrough", fn := fun _ => fun
  | [d1, d2] => { results := [.lit (.bool false)], args := [d1, d2] }
  | _ => none }
def ShiftThroughWrongFalsely : Prop := shiftThroughRow.holds Try.pinned (OpenSpec.ofChange shiftThroughWrong)

/-- 'stetlaw26.ShiftOver': WHATEVER THE INPUT: true; the input reads as it did. -/
def shiftOverSpec : ChangeSpec := { name := "shiftOver", fn := fun _ => fun
  | [d1, d2, d3] => { results := [.lit (.bool true)], args := [d1, d2, d3] }
  | _ => none }
def shiftOverRow : OpenClaim := { program := "ytgodphfkhmahnaa", sum := "9e0daa04cfc074b3986130ad0fcddae7c5f47ccc6bf1345540c83223492ecdf8", func := "stet/stetlaw26.ShiftOver", spec := "shiftOver", unfollowed := true, recurses := true, apart := false }
def ShiftOverSaid : Prop := shiftOverRow.holds Try.pinned (OpenSpec.ofChange shiftOverSpec)

/-- ITS FALSE NEIGHBOUR: 'it returns false'. Refute it at one input. -/
def shiftOverWrong : ChangeSpec := { name := "shiftOver", fn := fun _ => fun
  | [d1, d2, d3] => { results := [.lit (.bool false)], args := [d1, d2, d3] }
  | _ => none }
def ShiftOverWrongFalsely : Prop := shiftOverRow.holds Try.pinned (OpenSpec.ofChange shiftOverWrong)

/-- 'stetlaw27.WeldTwo': WHATEVER THE INPUT: true; the input reads as it did. -/
def weldTwoSpec : ChangeSpec := { name := "weldTwo", fn := fun _ => fun
  | [d] => { results := [.lit (.bool true)], args := [d] }
  | _ => none }
def weldTwoRow : OpenClaim := { program := "ytgodphfkhmahnaa", sum := "9e0daa04cfc074b3986130ad0fcddae7c5f47ccc6bf1345540c83223492ecdf8", func := "stet/stetlaw27.WeldTwo", spec := "weldTwo", inPlace := ["slices.overlaps[stet/api.Token]"], unfollowed := true, recurses := true, apart := false }
def WeldTwoSaid : Prop := weldTwoRow.holds Try.pinned (OpenSpec.ofChange weldTwoSpec)

/-- ITS FALSE NEIGHBOUR: 'it returns false'. Refute it at one input. -/
def weldTwoWrong : ChangeSpec := { name := "weldTwo", fn := fun _ => fun
  | [d] => { results := [.lit (.bool false)], args := [d] }
  | _ => none }
def WeldTwoWrongFalsely : Prop := weldTwoRow.holds Try.pinned (OpenSpec.ofChange weldTwoWrong)

/-- 'stetlaw30.DiffRows': WHATEVER THE INPUT: true; the input reads as it did. -/
def diffRowsSpec : ChangeSpec := { name := "diffRows", fn := fun _ => fun
  | [d1, d2] => { results := [.lit (.bool true)], args := [d1, d2] }
  | _ => none }
def diffRowsRow : OpenClaim := { program := "ytgodphfkhmahnaa", sum := "9e0daa04cfc074b3986130ad0fcddae7c5f47ccc6bf1345540c83223492ecdf8", func := "stet/stetlaw30.DiffRows", spec := "diffRows", unfollowed := true, recurses := true, apart := false }
def DiffRowsSaid : Prop := diffRowsRow.holds Try.pinned (OpenSpec.ofChange diffRowsSpec)

/-- ITS FALSE NEIGHBOUR: 'it returns false'. Refute it at one input. -/
def diffRowsWrong : ChangeSpec := { name := "diffRows", fn := fun _ => fun
  | [d1, d2] => { results := [.lit (.bool false)], args := [d1, d2] }
  | _ => none }
def DiffRowsWrongFalsely : Prop := diffRowsRow.holds Try.pinned (OpenSpec.ofChange diffRowsWrong)

/-- 'stetlaw30.DiffKept': WHATEVER THE INPUT: true; the input reads as it did. -/
def diffKeptSpec : ChangeSpec := { name := "diffKept", fn := fun _ => fun
  | [d1, d2] => { results := [.lit (.bool true)], args := [d1, d2] }
  | _ => none }
def diffKeptRow : OpenClaim := { program := "ytgodphfkhmahnaa", sum := "9e0daa04cfc074b3986130ad0fcddae7c5f47ccc6bf1345540c83223492ecdf8", func := "stet/stetlaw30.DiffKept", spec := "diffKept", apart := false }
def DiffKeptSaid : Prop := diffKeptRow.holds Try.pinned (OpenSpec.ofChange diffKeptSpec)

/-- ITS FALSE NEIGHBOUR: 'it returns false'. Refute it at one input. -/
def diffKeptWrong : ChangeSpec := { name := "diffKept", fn := fun _ => fun
  | [d1, d2] => { results := [.lit (.bool false)], args := [d1, d2] }
  | _ => none }
def DiffKeptWrongFalsely : Prop := diffKeptRow.holds Try.pinned (OpenSpec.ofChange diffKeptWrong)

/- THE SECOND FORM. 'bulk': how many values and letters a reading holds, each counted each time it is reached (what is shared counts as often as it is met; a slice's spare places count too). A statement '..UptoSaid' is the law's where the arguments, and the package variables that the reading takes, are together of bulk at most 1048576: NARROWER than '..Said'. Prove '..Said' where nothing that the law and all that it calls make is longer than what came in: it says more and counts as full. Else prove '..UptoSaid'. A law counts once. -/
mutual
def uptoBulk {H : Type} : DataW H → Nat
  | .lit (.string bytes) => bytes.length + 1
  | .lit _ => 1
  | .nil => 1
  | .ptr d => uptoBulk d + 1
  | .slice elems spare => uptoBulkAll elems + uptoBulkAll spare + 1
  | .agg parts => uptoBulkAll parts + 1
  | .iface _ d => uptoBulk d + 1
  | .map entries => uptoBulkEntries entries + 1
  | .held _ => 1
def uptoBulkAll {H : Type} : List (DataW H) → Nat
  | [] => 0
  | d :: r => uptoBulk d + uptoBulkAll r
def uptoBulkEntries {H : Type} : List (Lit × DataW H) → Nat
  | [] => 0
  | x :: r => uptoBulkEntry x + uptoBulkEntries r
def uptoBulkEntry {H : Type} : Lit × DataW H → Nat
  | (.string bytes, d) => bytes.length + uptoBulk d + 1
  | (_, d) => uptoBulk d + 1
 end
def uptoSmall : (H : Type) → List (DataW H) → Bool := fun _ ds => decide (uptoBulkAll ds ≤ 1048576)
def OpenSpec.upto (s : _root_.Go.ChangeSpec) : _root_.Go.OpenSpec := { _root_.Go.OpenSpec.ofChange s with cond := some uptoSmall }

/-- 'stetlaw26.ShiftThrough', WHERE WHAT IT READS IS OF BULK AT MOST 1048576: true; the input reads as it did. -/
def shiftThroughUptoRow : OpenClaim := { program := "ytgodphfkhmahnaa", sum := "9e0daa04cfc074b3986130ad0fcddae7c5f47ccc6bf1345540c83223492ecdf8", func := "stet/stetlaw26.ShiftThrough", spec := "shiftThrough", unfollowed := true, recurses := true, apart := false, narrowed := true }
def ShiftThroughUptoSaid : Prop := shiftThroughUptoRow.holds Try.pinned (OpenSpec.upto shiftThroughSpec)

/-- 'stetlaw26.ShiftOver', WHERE WHAT IT READS IS OF BULK AT MOST 1048576: true; the input reads as it did. -/
def shiftOverUptoRow : OpenClaim := { program := "ytgodphfkhmahnaa", sum := "9e0daa04cfc074b3986130ad0fcddae7c5f47ccc6bf1345540c83223492ecdf8", func := "stet/stetlaw26.ShiftOver", spec := "shiftOver", unfollowed := true, recurses := true, apart := false, narrowed := true }
def ShiftOverUptoSaid : Prop := shiftOverUptoRow.holds Try.pinned (OpenSpec.upto shiftOverSpec)

/-- 'stetlaw27.WeldTwo', WHERE WHAT IT READS IS OF BULK AT MOST 1048576: true; the input reads as it did. -/
def weldTwoUptoRow : OpenClaim := { program := "ytgodphfkhmahnaa", sum := "9e0daa04cfc074b3986130ad0fcddae7c5f47ccc6bf1345540c83223492ecdf8", func := "stet/stetlaw27.WeldTwo", spec := "weldTwo", inPlace := ["slices.overlaps[stet/api.Token]"], unfollowed := true, recurses := true, apart := false, narrowed := true }
def WeldTwoUptoSaid : Prop := weldTwoUptoRow.holds Try.pinned (OpenSpec.upto weldTwoSpec)

/-- 'stetlaw30.DiffRows', WHERE WHAT IT READS IS OF BULK AT MOST 1048576: true; the input reads as it did. -/
def diffRowsUptoRow : OpenClaim := { program := "ytgodphfkhmahnaa", sum := "9e0daa04cfc074b3986130ad0fcddae7c5f47ccc6bf1345540c83223492ecdf8", func := "stet/stetlaw30.DiffRows", spec := "diffRows", unfollowed := true, recurses := true, apart := false, narrowed := true }
def DiffRowsUptoSaid : Prop := diffRowsUptoRow.holds Try.pinned (OpenSpec.upto diffRowsSpec)

/-- 'stetlaw30.DiffKept', WHERE WHAT IT READS IS OF BULK AT MOST 1048576: true; the input reads as it did. -/
def diffKeptUptoRow : OpenClaim := { program := "ytgodphfkhmahnaa", sum := "9e0daa04cfc074b3986130ad0fcddae7c5f47ccc6bf1345540c83223492ecdf8", func := "stet/stetlaw30.DiffKept", spec := "diffKept", apart := false, narrowed := true }
def DiffKeptUptoSaid : Prop := diffKeptUptoRow.holds Try.pinned (OpenSpec.upto diffKeptSpec)

end Rows
end Go.Proofs.Ytgodphfkhmahnaa
