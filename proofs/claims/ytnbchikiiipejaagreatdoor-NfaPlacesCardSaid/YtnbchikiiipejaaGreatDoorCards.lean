/-
  DERIVED. GIVEN WITH THE SEED: THE CARDS: each row of YtnbchikiiipejaaGreatDoorRows.lean that lists a variable, with what it lists TIED to the program's text (the seventh form; the later family's looks); each row that meets fmt, with fmt's text TOLD by the authors' own Lean function (tested against real Go, not proved from fmt's source: count such statements apart). THE CARD IS WHAT COUNTS. Prove the row's statement (the work); the ties are given (YtnbchikiiipejaaGreatDoorTie.lean); close each card by the builder's one call (the guide's Derived/Test/ToyasCard.lean, 'card_holds'). Laid BY PROGRAM, IN A SANDBOX (cutbox-door.mjs). By AI agents, Wed Nov 11 2026. No macro, syntax, notation, axiom, sorry.
-/
import Derived.Test.YtnbchikiiipejaaGreatDoorRows
import GoSem.ClaimSeven
namespace Go.Proofs.YtnbchikiiipejaaGreatDoor
namespace Rows

/-- THE TIED CARD OF 'stetlaw07.NfaPlaces'. -/
def nfaPlacesCard : Claim7 := { stood := { row := nfaPlacesRow, standIns := [], harness := (true, "1aa5351a78f9b0231488608ac4ca7cc9244e0e07f4bb9692506fe6b6ec678a74"), looks := true }, kinds := [], alts := [], laidByText := true, laidKinds := [.data, .data, .data, .data], laidTests := true, laidLooks := .later }
def NfaPlacesCardSaid : Prop := Claim7.holds Tryz.pinned (.plain (OpenSpec.ofChange nfaPlacesSpec)) nfaPlacesCard

/-- THE TIED CARD OF 'stetlaw07.NfaFits'. -/
def nfaFitsCard : Claim7 := { stood := { row := nfaFitsRow, standIns := [], harness := (true, "1aa5351a78f9b0231488608ac4ca7cc9244e0e07f4bb9692506fe6b6ec678a74"), looks := true }, kinds := [], alts := [], laidByText := true, laidKinds := [.data, .data, .data, .data], laidTests := true, laidLooks := .later }
def NfaFitsCardSaid : Prop := Claim7.holds Tryz.pinned (.plain (OpenSpec.ofChange nfaFitsSpec)) nfaFitsCard

/-- THE TIED CARD OF 'stetlaw08.DfaStates'. -/
def dfaStatesCard : Claim7 := { stood := { row := dfaStatesRow, standIns := [], harness := (true, "1aa5351a78f9b0231488608ac4ca7cc9244e0e07f4bb9692506fe6b6ec678a74"), looks := true }, kinds := [], alts := [], laidByText := true, laidKinds := [.data, .data, .data, .data], laidTests := true, laidLooks := .later }
def DfaStatesCardSaid : Prop := Claim7.holds Tryz.pinned (.plain (OpenSpec.ofChange dfaStatesSpec)) dfaStatesCard

/-- THE TIED CARD OF 'stetlaw08.DfaRuns'. -/
def dfaRunsCard : Claim7 := { stood := { row := dfaRunsRow, standIns := [], harness := (true, "1aa5351a78f9b0231488608ac4ca7cc9244e0e07f4bb9692506fe6b6ec678a74"), looks := true }, kinds := [], alts := [], laidByText := true, laidKinds := [.data, .data, .data, .data], laidTests := true, laidLooks := .later }
def DfaRunsCardSaid : Prop := Claim7.holds Tryz.pinned (.plain (OpenSpec.ofChange dfaRunsSpec)) dfaRunsCard

/-- THE TIED CARD OF 'stetlaw08.DfaEqual'. -/
def dfaEqualCard : Claim7 := { stood := { row := dfaEqualRow, standIns := [], harness := (true, "1aa5351a78f9b0231488608ac4ca7cc9244e0e07f4bb9692506fe6b6ec678a74"), looks := true }, kinds := [], alts := [], laidByText := true, laidKinds := [.data, .data, .data, .data], laidTests := true, laidLooks := .later }
def DfaEqualCardSaid : Prop := Claim7.holds Tryz.pinned (.plain (OpenSpec.ofChange dfaEqualSpec)) dfaEqualCard

/-- THE TIED CARD OF 'stetlaw09.LeastWords'. -/
def leastWordsCard : Claim7 := { stood := { row := leastWordsRow, standIns := [], harness := (true, "1aa5351a78f9b0231488608ac4ca7cc9244e0e07f4bb9692506fe6b6ec678a74"), looks := true }, kinds := [], alts := [], laidByText := true, laidKinds := [.data, .data, .data, .data], laidTests := true, laidLooks := .later }
def LeastWordsCardSaid : Prop := Claim7.holds Tryz.pinned (.plain (OpenSpec.ofChange leastWordsSpec)) leastWordsCard

/-- THE TIED CARD OF 'stetlaw09.LeastBest'. -/
def leastBestCard : Claim7 := { stood := { row := leastBestRow, standIns := [], harness := (true, "1aa5351a78f9b0231488608ac4ca7cc9244e0e07f4bb9692506fe6b6ec678a74"), looks := true }, kinds := [], alts := [], laidByText := true, laidKinds := [.data, .data, .data, .data], laidTests := true, laidLooks := .later }
def LeastBestCardSaid : Prop := Claim7.holds Tryz.pinned (.plain (OpenSpec.ofChange leastBestSpec)) leastBestCard

/-- THE TIED CARD OF 'stetlaw10.DeclParses'. -/
def declParsesCard : Claim7 := { stood := { row := declParsesRow, standIns := [], harness := (true, "1aa5351a78f9b0231488608ac4ca7cc9244e0e07f4bb9692506fe6b6ec678a74"), looks := true }, kinds := [], alts := [], laidByText := true, laidKinds := [.data, .data, .data, .data, .sentinel, .sentinel, .data, .pinned], laidTests := true, laidLooks := .later }
def DeclParsesCardSaid : Prop := Claim7.holds Tryz.pinned (.plain (OpenSpec.ofChange declParsesSpec)) declParsesCard

/-- THE TIED CARD OF 'stetlaw10.DeclShows'. -/
def declShowsCard : Claim7 := { stood := { row := declShowsRow, standIns := [], harness := (true, "1aa5351a78f9b0231488608ac4ca7cc9244e0e07f4bb9692506fe6b6ec678a74"), looks := true }, kinds := [], alts := [], laidByText := true, laidKinds := [.data, .data, .data, .data, .sentinel, .sentinel, .data, .pinned], laidTests := true, laidLooks := .later }
def DeclShowsCardSaid : Prop := Claim7.holds Tryz.pinned (.plain (OpenSpec.ofChange declShowsSpec)) declShowsCard

/-- THE TIED CARD OF 'stetlaw10.DeclBack'. -/
def declBackCard : Claim7 := { stood := { row := declBackRow, standIns := [], harness := (true, "1aa5351a78f9b0231488608ac4ca7cc9244e0e07f4bb9692506fe6b6ec678a74"), looks := true }, kinds := [], alts := [], laidByText := true, laidKinds := [.data, .data, .data, .data, .sentinel, .sentinel, .data, .pinned], laidTests := true, laidLooks := .later }
def DeclBackCardSaid : Prop := Claim7.holds Tryz.pinned (.plain (OpenSpec.ofChange declBackSpec)) declBackCard

/-- THE SECOND FORM's CARD OF 'stetlaw07.NfaPlaces'. -/
def nfaPlacesUptoCard : Claim7 := { stood := { row := nfaPlacesUptoRow, standIns := [], harness := (true, "1aa5351a78f9b0231488608ac4ca7cc9244e0e07f4bb9692506fe6b6ec678a74"), looks := true }, kinds := [], alts := [], laidByText := true, laidKinds := [.data, .data, .data, .data], laidTests := true, laidLooks := .later }
def NfaPlacesUptoCardSaid : Prop := Claim7.holds Tryz.pinned (.plain (OpenSpec.upto nfaPlacesSpec)) nfaPlacesUptoCard

/-- THE SECOND FORM's CARD OF 'stetlaw07.NfaFits'. -/
def nfaFitsUptoCard : Claim7 := { stood := { row := nfaFitsUptoRow, standIns := [], harness := (true, "1aa5351a78f9b0231488608ac4ca7cc9244e0e07f4bb9692506fe6b6ec678a74"), looks := true }, kinds := [], alts := [], laidByText := true, laidKinds := [.data, .data, .data, .data], laidTests := true, laidLooks := .later }
def NfaFitsUptoCardSaid : Prop := Claim7.holds Tryz.pinned (.plain (OpenSpec.upto nfaFitsSpec)) nfaFitsUptoCard

/-- THE SECOND FORM's CARD OF 'stetlaw08.DfaStates'. -/
def dfaStatesUptoCard : Claim7 := { stood := { row := dfaStatesUptoRow, standIns := [], harness := (true, "1aa5351a78f9b0231488608ac4ca7cc9244e0e07f4bb9692506fe6b6ec678a74"), looks := true }, kinds := [], alts := [], laidByText := true, laidKinds := [.data, .data, .data, .data], laidTests := true, laidLooks := .later }
def DfaStatesUptoCardSaid : Prop := Claim7.holds Tryz.pinned (.plain (OpenSpec.upto dfaStatesSpec)) dfaStatesUptoCard

/-- THE SECOND FORM's CARD OF 'stetlaw08.DfaRuns'. -/
def dfaRunsUptoCard : Claim7 := { stood := { row := dfaRunsUptoRow, standIns := [], harness := (true, "1aa5351a78f9b0231488608ac4ca7cc9244e0e07f4bb9692506fe6b6ec678a74"), looks := true }, kinds := [], alts := [], laidByText := true, laidKinds := [.data, .data, .data, .data], laidTests := true, laidLooks := .later }
def DfaRunsUptoCardSaid : Prop := Claim7.holds Tryz.pinned (.plain (OpenSpec.upto dfaRunsSpec)) dfaRunsUptoCard

/-- THE SECOND FORM's CARD OF 'stetlaw08.DfaEqual'. -/
def dfaEqualUptoCard : Claim7 := { stood := { row := dfaEqualUptoRow, standIns := [], harness := (true, "1aa5351a78f9b0231488608ac4ca7cc9244e0e07f4bb9692506fe6b6ec678a74"), looks := true }, kinds := [], alts := [], laidByText := true, laidKinds := [.data, .data, .data, .data], laidTests := true, laidLooks := .later }
def DfaEqualUptoCardSaid : Prop := Claim7.holds Tryz.pinned (.plain (OpenSpec.upto dfaEqualSpec)) dfaEqualUptoCard

/-- THE SECOND FORM's CARD OF 'stetlaw09.LeastWords'. -/
def leastWordsUptoCard : Claim7 := { stood := { row := leastWordsUptoRow, standIns := [], harness := (true, "1aa5351a78f9b0231488608ac4ca7cc9244e0e07f4bb9692506fe6b6ec678a74"), looks := true }, kinds := [], alts := [], laidByText := true, laidKinds := [.data, .data, .data, .data], laidTests := true, laidLooks := .later }
def LeastWordsUptoCardSaid : Prop := Claim7.holds Tryz.pinned (.plain (OpenSpec.upto leastWordsSpec)) leastWordsUptoCard

/-- THE SECOND FORM's CARD OF 'stetlaw09.LeastBest'. -/
def leastBestUptoCard : Claim7 := { stood := { row := leastBestUptoRow, standIns := [], harness := (true, "1aa5351a78f9b0231488608ac4ca7cc9244e0e07f4bb9692506fe6b6ec678a74"), looks := true }, kinds := [], alts := [], laidByText := true, laidKinds := [.data, .data, .data, .data], laidTests := true, laidLooks := .later }
def LeastBestUptoCardSaid : Prop := Claim7.holds Tryz.pinned (.plain (OpenSpec.upto leastBestSpec)) leastBestUptoCard

/-- THE SECOND FORM's CARD OF 'stetlaw10.DeclParses'. -/
def declParsesUptoCard : Claim7 := { stood := { row := declParsesUptoRow, standIns := [], harness := (true, "1aa5351a78f9b0231488608ac4ca7cc9244e0e07f4bb9692506fe6b6ec678a74"), looks := true }, kinds := [], alts := [], laidByText := true, laidKinds := [.data, .data, .data, .data, .sentinel, .sentinel, .data, .pinned], laidTests := true, laidLooks := .later }
def DeclParsesUptoCardSaid : Prop := Claim7.holds Tryz.pinned (.plain (OpenSpec.upto declParsesSpec)) declParsesUptoCard

/-- THE SECOND FORM's CARD OF 'stetlaw10.DeclShows'. -/
def declShowsUptoCard : Claim7 := { stood := { row := declShowsUptoRow, standIns := [], harness := (true, "1aa5351a78f9b0231488608ac4ca7cc9244e0e07f4bb9692506fe6b6ec678a74"), looks := true }, kinds := [], alts := [], laidByText := true, laidKinds := [.data, .data, .data, .data, .sentinel, .sentinel, .data, .pinned], laidTests := true, laidLooks := .later }
def DeclShowsUptoCardSaid : Prop := Claim7.holds Tryz.pinned (.plain (OpenSpec.upto declShowsSpec)) declShowsUptoCard

/-- THE SECOND FORM's CARD OF 'stetlaw10.DeclBack'. -/
def declBackUptoCard : Claim7 := { stood := { row := declBackUptoRow, standIns := [], harness := (true, "1aa5351a78f9b0231488608ac4ca7cc9244e0e07f4bb9692506fe6b6ec678a74"), looks := true }, kinds := [], alts := [], laidByText := true, laidKinds := [.data, .data, .data, .data, .sentinel, .sentinel, .data, .pinned], laidTests := true, laidLooks := .later }
def DeclBackUptoCardSaid : Prop := Claim7.holds Tryz.pinned (.plain (OpenSpec.upto declBackSpec)) declBackUptoCard
end Rows
end Go.Proofs.YtnbchikiiipejaaGreatDoor
