/- What the listed variables of the words laws hold when a call begins, and that the program's own start lays just that. -/
import Derived.Test.YtdicjplekbjdpabDoorLaid
import Derived.Test.YtdicjplekbjdpabDoorTie
namespace Go.Proofs.YtdicjplekbjdpabDoor.Wd
open Go.RowKit
set_option maxRecDepth 100000

abbrev laidL : List (String × DataW Unit) := Rows.wordsLongRow.laid
/-- the hidden forms of the bytes up to the blank -/
def hid (i : Nat) : List UInt8 :=
  if i = 10 then [92, 110] else if i = 32 then [92, 115] else [92, 120, if i < 16 then 48 else 49, if i % 16 < 10 then UInt8.ofNat (48 + i % 16) else UInt8.ofNat (87 + i % 16)]
def hids : List (List UInt8) := (List.range 33).map hid

theorem hidden_is : (Rows.laid_stet_words_hidden : DataW Unit) = .agg (hids.map fun l => .lit (.string l)) := by kernel_rfl
theorem pow10_is : (Rows.laid_internal_strconv_uint64pow10 : DataW Unit) = Lib.tabData .u64 Lib.pow10Tab := by kernel_rfl

/-- the forms, the table, the two errors -/
structure Held (W : World) : Prop where
  forms : ∀ i, i < 33 → W.cell? ⟨0, i, none⟩ = some (.string ⟨(hid i).toArray⟩)
  tab : Lib.TabIs Tryd.prog W "internal/strconv.uint64pow10" .u64 Lib.pow10Tab
  range : ∃ t p, W.var? Tryd.prog "strconv.ErrRange" = some #[.iface t p]
  synt : ∃ t p, W.var? Tryd.prog "strconv.ErrSyntax" = some #[.iface t p]

theorem err_row (u : TypeId) (h : Tryd.prog.typeName? 3 u = some "*errors.errorString") : u = 88 :=
  typeName_ptr_named (nm := "errors.errorString") (by kernel_rfl) (by kernel_rfl) (by decide) u h

theorem of_laid {W : World} (h : laidMetH Tryd.prog laidL W) : Held W := by
  rw [MakeChecks.laidMetH_plain _ _ _ (by kernel_rfl)] at h
  have h3 := h.tail.tail
  rw [show (Rows.laid_internal_strconv_uint64pow10 : DataW Unit) = Lib.tabData .u64 Lib.pow10Tab from pow10_is] at h3
  have h4 := h3.tail
  have h5 := h4.tail
  have h6 := h5.tail
  rw [show (Rows.laid_stet_words_hidden : DataW Unit) = .agg (hids.map fun l => .lit (.string l)) from hidden_is] at h6
  refine ⟨fun i hi => ?_, ?_, ?_, ?_⟩
  · refine strs_of_head (g := 0) (t := 61) (e := 9) (n := 33) (by kernel_rfl) (by kernel_rfl) (by kernel_rfl) (by kernel_rfl) (by kernel_rfl) (by kernel_rfl) (by kernel_rfl) h6 i (hid i) ?_
    simp [hids, hi]
  · exact Lib.tabIs_of_head (g := 4) (t := 93) (e := 49) (n := 20) (by kernel_rfl) (by kernel_rfl) (by kernel_rfl) (by kernel_rfl) (by kernel_rfl) (by kernel_rfl) h3
  · obtain ⟨a, s, hv, _⟩ := laid_sentinel (g := 2) (ti := 46) (tp := 88) (te := 90) (ts := 9) h4 (by kernel_rfl) (by kernel_rfl) Tryd.underlying46 err_row Tryd.underlying88 Tryd.underlying90 rfl rfl Tryd.underlying9 (by kernel_rfl) (by kernel_rfl)
    exact ⟨_, _, hv⟩
  · obtain ⟨a, s, hv, _⟩ := laid_sentinel (g := 1) (ti := 46) (tp := 88) (te := 90) (ts := 9) h5 (by kernel_rfl) (by kernel_rfl) Tryd.underlying46 err_row Tryd.underlying88 Tryd.underlying90 rfl rfl Tryd.underlying9 (by kernel_rfl) (by kernel_rfl)
    exact ⟨_, _, hv⟩

/-- The door's own heap meets the condition: three closed facts. -/
theorem door_met (os : Os) (args : Array Value) : laidMetH Tryd.prog laidL ((World.doorLaid Tryd.prog 400 os).forCall (fun _ _ => 0) ⟨#[], args, []⟩).memory :=
  laidMetH_of_parts3 (fuel := 8) (laidMet_of_run' 8 (by kernel_rfl) (by kernel_rfl)) (by kernel_rfl) (by kernel_rfl)
end Go.Proofs.YtdicjplekbjdpabDoor.Wd
