/- What is laid when a call begins is what the walks of nets ask; the program's own start lays just that. -/
import Derived.Test.YtnbchikiiipejaaDoorLxLaid
import Derived.Test.YtnbchikiiipejaaDoorTie
import Derived.Stop.LaidErr
import Derived.Test.YtnbchikiiipejaaDoorNbF
import Derived.LaidMore
import Derived.Lib.LaidTab
import Derived.Test.YtnbchikiiipejaaDoorNfRfs
namespace Go.Proofs.YtnbchikiiipejaaDoor.Lx
open Go.RowKit
set_option maxRecDepth 100000

abbrev laidL : List (String × DataW Unit) := Rows.nfaRefusesRow.laid
theorem of_laid1 {W : World} (h : laidMetH Tryd.prog laidL W) : Held W := by
  rw [MakeChecks.laidMetH_plain _ _ _ (by kernel_rfl)] at h
  have h3 := h.tail.tail
  rw [show (Rows.laid_internal_strconv_uint64pow10 : DataW Unit) = Lib.tabData .u64 Lib.pow10Tab from pow10_is] at h3
  have h4 := h3.tail
  rw [single_is] at h4
  refine ⟨fun i l hl => ?_, Lib.tabIs_of_head (g := 3) (t := 142) (e := 30) (n := 20) (by kernel_rfl) (by kernel_rfl) (by kernel_rfl) (by kernel_rfl) (by kernel_rfl) (by kernel_rfl) h3⟩
  have hf := Tryd.underlying71
  have main := signs_of_head (g := 0) (t := 119) (e := 71) (ti := 3) (ts := 9) (n := 6) (by kernel_rfl) (by kernel_rfl) (by kernel_rfl) hf (by kernel_rfl) (by kernel_rfl) (by kernel_rfl) (by kernel_rfl) ⟨rfl, rfl⟩ ⟨rfl, rfl⟩ ⟨rfl, rfl⟩ ⟨rfl, rfl⟩ ⟨rfl, rfl⟩ (by kernel_rfl) (by kernel_rfl) h4 i (l.1, 0, l.2.1, l.2.2) (by rw [List.getElem?_map, hl]; rfl)
  exact main

theorem tab_is : (Rows.laid_math_bits_deBruijn64tab : DataW Unit) = Lib.tabData .u8 (Lib.deBruijn64tab.map Int.ofNat) := by kernel_rfl
theorem of_laid2 {W : World} (h : laidMetH Tryd.prog laidL W) : Bg.Tab W := by
  rw [MakeChecks.laidMetH_plain _ _ _ (by kernel_rfl)] at h
  have h1 := h.tail
  rw [tab_is] at h1
  have h2 := Lib.tabIs_of_head (g := 1) (t := 131) (e := 5) (n := 64) (by kernel_rfl) (by kernel_rfl) (by kernel_rfl) (by kernel_rfl) (by kernel_rfl) (by kernel_rfl) h1
  have hg : Tryd.prog.globalNamed "math/bits.deBruijn64tab" = some 1 := by kernel_rfl
  have hc : ∀ j, j < Lib.deBruijn64tab.length → W.cell? ⟨1, j, none⟩ = some (.int .u8 (Lib.deBruijn64tab.getD j 0)) := by
    intro j hj
    have h3 := World.var?_cell hg h2 j
    rw [h3]
    simp only [List.getElem?_toArray, List.getElem?_map, List.getElem?_eq_getElem hj, Option.map_some, List.getD, Option.getD_some]
    rfl
  exact ⟨hc, World.block_lt_of_cell? W _ (hc 0 (by decide))⟩
theorem of_laid {W : World} (h : laidMetH Tryd.prog laidL W) : Held W ∧ Bg.Tab W := ⟨of_laid1 h, of_laid2 h⟩

/-- The door's own heap meets the condition: three closed facts. -/
theorem door_met (os : Os) (args : Array Value) : laidMetH Tryd.prog laidL ((World.doorLaid Tryd.prog 400 os).forCall (fun _ _ => 0) ⟨#[], args, []⟩).memory :=
  laidMetH_of_parts3 (fuel := 8) (laidMet_of_run' 8 (by kernel_rfl) (by kernel_rfl)) (by kernel_rfl) (by kernel_rfl)
end Go.Proofs.YtnbchikiiipejaaDoor.Lx
namespace Go.Proofs.YtnbchikiiipejaaDoor.Nf
open Go.RowKit Mem
theorem refuses_walk (A : Option Addr) (n c : Nat) (e : List Ex.PI) (w : World) (h : Ex.PR w A n e) (hn : n ≤ maxLen)
    (hs : ∀ p ∈ e, (Lx.I64 p.low ∧ Lx.I64 p.high) ∧ p.name.length ≤ maxLen ∧ p.kids.length ≤ maxLen) (hL : Lx.Held w ∧ Bg.Tab w) :
    Calls Tryd.prog 3 #[.slice A n c] w fun en w' => en = .returned (.bool true) ∧ Below w.heap.size w w' := refuses_any A n c e w h hn hs hL.1 hL.2
end Go.Proofs.YtnbchikiiipejaaDoor.Nf
