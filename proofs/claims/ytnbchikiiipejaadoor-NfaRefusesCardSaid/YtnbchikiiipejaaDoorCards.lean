/-
  DERIVED. GIVEN WITH THE SEED: THE CARDS: each row of YtnbchikiiipejaaDoorRows.lean that lists a variable, with what it lists TIED to the program's text (the seventh form; the later family's looks); each row that meets fmt, with fmt's text TOLD by the authors' own Lean function (tested against real Go, not proved from fmt's source: count such statements apart). THE CARD IS WHAT COUNTS. Prove the row's statement (the work); the ties are given (YtnbchikiiipejaaDoorTie.lean); close each card by the builder's one call (the guide's Derived/Test/ToyasCard.lean, 'card_holds'). Laid BY PROGRAM, IN A SANDBOX (cutbox-door.mjs). By AI agents, Wed Nov 11 2026. No macro, syntax, notation, axiom, sorry.
-/
import Derived.Test.YtnbchikiiipejaaDoorRows
import GoSem.ClaimSeven
namespace Go.Proofs.YtnbchikiiipejaaDoor
namespace Rows

/-- THE TIED CARD OF 'stetlaw07.NfaRefuses'. -/
def nfaRefusesCard : Claim7 := { stood := { row := nfaRefusesRow, standIns := [], harness := (true, "fa8f8ba53e5abf993490bcf550354d26ec3cf42520d9fe62e5cd3279bc458ce8"), looks := true }, kinds := [], alts := [], laidByText := true, laidKinds := [.data, .data, .data, .data], laidTests := true, laidLooks := .later }
def NfaRefusesCardSaid : Prop := Claim7.holds Tryd.pinned (.plain (OpenSpec.ofChange nfaRefusesSpec)) nfaRefusesCard

/-- THE SECOND FORM's CARD OF 'stetlaw07.NfaRefuses'. -/
def nfaRefusesUptoCard : Claim7 := { stood := { row := nfaRefusesUptoRow, standIns := [], harness := (true, "fa8f8ba53e5abf993490bcf550354d26ec3cf42520d9fe62e5cd3279bc458ce8"), looks := true }, kinds := [], alts := [], laidByText := true, laidKinds := [.data, .data, .data, .data], laidTests := true, laidLooks := .later }
def NfaRefusesUptoCardSaid : Prop := Claim7.holds Tryd.pinned (.plain (OpenSpec.upto nfaRefusesSpec)) nfaRefusesUptoCard
end Rows
end Go.Proofs.YtnbchikiiipejaaDoor
