/- Closed facts of the row of nfaPlaces: its function's name, what the program's text says of it. -/
import Derived.Test.YtnbchikiiipejaaGreatDoorRows
import Derived.WalkKit
import Derived.ProofKit
import Derived.OpenShut
import Derived.ShutString
import Derived.Test.YtnbchikiiipejaaGreatDoorCards
import Derived.Test.YtnbchikiiipejaaGreatDoorTie
import Derived.ChangeOld
import Derived.Below
import Derived.LaidMore
import Derived.Stop.Joined
import Derived.SevenTiedAt
namespace Go.Proofs.YtnbchikiiipejaaGreatDoor.nfaPlaces
theorem named_is : Tryz.pinned.checked.prog.funcNamed Rows.nfaPlacesRow.func = some 3 := by kernel_rfl
theorem inst_is : Tryz.f3.isInstance Tryz.pinned.checked.prog Rows.nfaPlacesRow.origin Rows.nfaPlacesRow.targs := of_decide_eq_true (by kernel_rfl)
theorem closed_is : joinedFacts Tryz.pinned.checked.prog 3 Tryz.f3 Rows.nfaPlacesSpec Rows.nfaPlacesRow = true := by kernel_rfl
end Go.Proofs.YtnbchikiiipejaaGreatDoor.nfaPlaces
