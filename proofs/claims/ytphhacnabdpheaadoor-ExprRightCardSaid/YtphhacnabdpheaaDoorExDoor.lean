/- What is laid when a call begins is what the lexer's walks ask; the program's own start lays just that. -/
import Derived.Test.YtphhacnabdpheaaDoorLxLaid
import Derived.Test.YtphhacnabdpheaaDoorTie
import Derived.Stop.LaidErr
namespace Go.Proofs.YtphhacnabdpheaaDoor.Lx
open Go.RowKit
set_option maxRecDepth 100000

abbrev laidL : List (String × DataW Unit) := Rows.exprParsesRow.laid
theorem of_laid {W : World} (h : laidMetH Tryd.prog laidL W) : Held W := by
  rw [MakeChecks.laidMetH_plain _ _ _ (by kernel_rfl)] at h
  have h3 := h.tail.tail
  rw [show (Rows.laid_internal_strconv_uint64pow10 : DataW Unit) = Lib.tabData .u64 Lib.pow10Tab from pow10_is] at h3
  have h4 := h3.tail
  rw [single_is] at h4
  refine ⟨fun i l hl => ?_, Lib.tabIs_of_head (g := 3) (t := 165) (e := 47) (n := 20) (by kernel_rfl) (by kernel_rfl) (by kernel_rfl) (by kernel_rfl) (by kernel_rfl) (by kernel_rfl) h3⟩
  have hf := Tryd.underlying68
  have main := signs_of_head (g := 0) (t := 141) (e := 68) (ti := 3) (ts := 9) (n := 6) (by kernel_rfl) (by kernel_rfl) (by kernel_rfl) hf (by kernel_rfl) (by kernel_rfl) (by kernel_rfl) (by kernel_rfl) ⟨rfl, rfl⟩ ⟨rfl, rfl⟩ ⟨rfl, rfl⟩ ⟨rfl, rfl⟩ ⟨rfl, rfl⟩ (by kernel_rfl) (by kernel_rfl) h4 i (l.1, 0, l.2.1, l.2.2) (by rw [List.getElem?_map, hl]; rfl)
  exact main

/-- The door's own heap meets the condition: three closed facts. -/
theorem door_met (os : Os) (args : Array Value) : laidMetH Tryd.prog laidL ((World.doorLaid Tryd.prog 400 os).forCall (fun _ _ => 0) ⟨#[], args, []⟩).memory :=
  laidMetH_of_parts3 (fuel := 8) (laidMet_of_run' 8 (by kernel_rfl) (by kernel_rfl)) (by kernel_rfl) (by kernel_rfl)
end Go.Proofs.YtphhacnabdpheaaDoor.Lx
