/-
  DERIVED. GIVEN WITH THE SEED: THE CARDS: each row of YtlnljgfppipceaaDoorRows.lean that lists a variable, with what it lists TIED to the program's text (the seventh form; the later family's looks); each row that meets fmt, with fmt's text TOLD by the authors' own Lean function (tested against real Go, not proved from fmt's source: count such statements apart). THE CARD IS WHAT COUNTS. Prove the row's statement (the work); the ties are given (YtlnljgfppipceaaDoorTie.lean); close each card by the builder's one call (the guide's Derived/Test/ToyasCard.lean, 'card_holds'). Laid BY PROGRAM, IN A SANDBOX (cutbox-door.mjs). By AI agents, Wed Nov 11 2026. No macro, syntax, notation, axiom, sorry.
-/
import Derived.Test.YtlnljgfppipceaaDoorRows
import GoSem.ClaimSeven
namespace Go.Proofs.YtlnljgfppipceaaDoor
namespace Rows

/-- THE TIED CARD OF 'stetlaw03.BagHas'. -/
def bagHasCard : Claim7 := { stood := { row := bagHasRow, standIns := [], harness := (true, "8151d99ec6c9b4fb1fe8f36f7d9b77cd01b7377b0b99410fa18bafb2582ad7fe"), looks := false }, kinds := [], alts := [], laidByText := true, laidKinds := [.data], laidTests := true, laidLooks := .later }
def BagHasCardSaid : Prop := Claim7.holds Tryd.pinned (.plain (OpenSpec.ofChange bagHasSpec)) bagHasCard

/-- THE TIED CARD OF 'stetlaw03.BagTwo'. -/
def bagTwoCard : Claim7 := { stood := { row := bagTwoRow, standIns := [], harness := (true, "8151d99ec6c9b4fb1fe8f36f7d9b77cd01b7377b0b99410fa18bafb2582ad7fe"), looks := false }, kinds := [], alts := [], laidByText := true, laidKinds := [.data], laidTests := true, laidLooks := .later }
def BagTwoCardSaid : Prop := Claim7.holds Tryd.pinned (.plain (OpenSpec.ofChange bagTwoSpec)) bagTwoCard

/-- THE TIED CARD OF 'stetlaw03.BagAll'. -/
def bagAllCard : Claim7 := { stood := { row := bagAllRow, standIns := [], harness := (true, "8151d99ec6c9b4fb1fe8f36f7d9b77cd01b7377b0b99410fa18bafb2582ad7fe"), looks := false }, kinds := [], alts := [], laidByText := true, laidKinds := [.data], laidTests := true, laidLooks := .later }
def BagAllCardSaid : Prop := Claim7.holds Tryd.pinned (.plain (OpenSpec.ofChange bagAllSpec)) bagAllCard

/-- THE SECOND FORM's CARD OF 'stetlaw03.BagHas'. -/
def bagHasUptoCard : Claim7 := { stood := { row := bagHasUptoRow, standIns := [], harness := (true, "8151d99ec6c9b4fb1fe8f36f7d9b77cd01b7377b0b99410fa18bafb2582ad7fe"), looks := false }, kinds := [], alts := [], laidByText := true, laidKinds := [.data], laidTests := true, laidLooks := .later }
def BagHasUptoCardSaid : Prop := Claim7.holds Tryd.pinned (.plain (OpenSpec.upto bagHasSpec)) bagHasUptoCard

/-- THE SECOND FORM's CARD OF 'stetlaw03.BagTwo'. -/
def bagTwoUptoCard : Claim7 := { stood := { row := bagTwoUptoRow, standIns := [], harness := (true, "8151d99ec6c9b4fb1fe8f36f7d9b77cd01b7377b0b99410fa18bafb2582ad7fe"), looks := false }, kinds := [], alts := [], laidByText := true, laidKinds := [.data], laidTests := true, laidLooks := .later }
def BagTwoUptoCardSaid : Prop := Claim7.holds Tryd.pinned (.plain (OpenSpec.upto bagTwoSpec)) bagTwoUptoCard

/-- THE SECOND FORM's CARD OF 'stetlaw03.BagAll'. -/
def bagAllUptoCard : Claim7 := { stood := { row := bagAllUptoRow, standIns := [], harness := (true, "8151d99ec6c9b4fb1fe8f36f7d9b77cd01b7377b0b99410fa18bafb2582ad7fe"), looks := false }, kinds := [], alts := [], laidByText := true, laidKinds := [.data], laidTests := true, laidLooks := .later }
def BagAllUptoCardSaid : Prop := Claim7.holds Tryd.pinned (.plain (OpenSpec.upto bagAllSpec)) bagAllUptoCard
end Rows
end Go.Proofs.YtlnljgfppipceaaDoor
