/- Walk of live (bag). -/
import Derived.Test.YtlnljgfppipceaaDoorBgH
import Derived.Deep.RegionHeld3
import Derived.Test.YtlnljgfppipceaaDoorBgEq
namespace Go.Proofs.YtlnljgfppipceaaDoor.Bg
open Go.RowKit Mem
set_option linter.unusedVariables false

theorem wf3 : ∀ z ∈ ([3, 300, -1, 3] : List Int), (Lit.int .i64 z).wf = true := by decide
theorem wf1 : ∀ z ∈ ([3] : List Int), (Lit.int .i64 z).wf = true := by decide
def eight : Bag := ⟨8, 0, 0, 0⟩
theorem of_four : ofL [3, 300, -1, 3] = eight := rfl
theorem of_three : ofL [3] = eight := rfl
theorem eight_ok : eight.ok := by simp [Bag.ok, eight]
theorem eight_list : eight.list = [3] := by decide +kernel

set_option maxRecDepth 100000 in
set_option maxHeartbeats 2000000 in
theorem live_any (w : World) (hT : Tab w) : Calls Tryd.prog 6 #[] w fun e w' => e = .returned (.bool true) ∧ Below w.heap.size w w' := by
  have HT := Lib.hid hT
  have hr0 : Row .i64 (w.alloc (.cells #[.int .i64 3, .int .i64 300, .int .i64 (-1), .int .i64 3] 3)) (some ⟨w.heap.size, 0, none⟩) 4 [3, 300, -1, 3] := row_block (heap_alloc_new w _) [3, 300, -1, 3] rfl 4 rfl wf3
  have HR0 := Lib.hid hr0
  clear hT hr0
  go_enter Tryd.func6, Tryd.ntmps6
  go_wp2_with fail
  refine (of_any _ 4 _ [3, 300, -1, 3] _ HR0.out (by omega)).mono ?_
  rintro e w1 ⟨rfl, hb1⟩
  rw [of_four]
  have hb1' := (((Below.refl _ w).alloc (Nat.le_refl _) (.cells #[.int .i64 3, .int .i64 300, .int .i64 (-1), .int .i64 3] 3)).trans (hb1.mono (by simp)))
  have hsz := hb1'.size
  have HB1 := Lib.hid hb1'
  have ha1 := At.new w1 eight
  have HA1 := Lib.hid ha1
  have ht1 : Tab (w1.alloc (.cells #[.int .u64 (8 : Nat), .int .u64 (0 : Nat), .int .u64 (0 : Nat), .int .u64 (0 : Nat)] 27)) := HT.out.below (HB1.out.alloc hsz _) HT.out.2
  have HT1 := Lib.hid ht1
  clear hb1 hb1' ha1 ht1
  unfold bagV eight
  dsimp only
  go_wp2_with fail
  refine (first_any eight eight_ok _ HT1.out).mono ?_
  rintro e w2 ⟨rfl, hb2⟩
  unfold firstV
  rw [eight_list]
  have ha2 : At w2 w1.heap.size eight := HA1.out.below hb2 HA1.out.lt
  have hz2 := ha2.lt
  have hB2 : Below w.heap.size w w2 := (HB1.out.alloc hsz _).trans (hb2.mono (by simp; omega))
  obtain ⟨c0, c1, c2, c3, _⟩ := ha2.cell
  obtain ⟨g, hg⟩ : ∃ g, g = w1.heap.size := ⟨_, rfl⟩
  rw [← hg] at c0 c1 c2 c3 hz2 ⊢
  have C0 : w2.cell? ⟨g, 0, none⟩ = some (.int .u64 8) := c0
  have C1 : w2.cell? ⟨g, 1, none⟩ = some (.int .u64 0) := c1
  have C2 : w2.cell? ⟨g, 2, none⟩ = some (.int .u64 0) := c2
  have C3 : w2.cell? ⟨g, 3, none⟩ = some (.int .u64 0) := c3
  have hle : w.heap.size ≤ w2.heap.size := hB2.size
  have HB2 := Lib.hid hB2
  clear hb2 ha2 hB2 c0 c1 c2 c3 hg hsz
  have heq : ∀ w : World, (Op.equalIn 9999 25 (.agg #[.int .u64 8, .int .u64 0, .int .u64 0, .int .u64 0]) (.agg #[.int .u64 8, .int .u64 0, .int .u64 0, .int .u64 0])).run Tryd.prog w = .ok true w := fun w => eq_bags eight eight w
  go_wp2
  go_region_held3 (fun w' => w'.cell? ⟨g, 0, none⟩ = some (.int .u64 8) ∧ w'.cell? ⟨g, 1, none⟩ = some (.int .u64 0) ∧ w'.cell? ⟨g, 2, none⟩ = some (.int .u64 0) ∧ w'.cell? ⟨g, 3, none⟩ = some (.int .u64 0) ∧ g < w'.heap.size)
    (first
      | exact ⟨C0, C1, C2, C3, hz2⟩
      | exact ⟨D0, D1, D2, D3, hz3⟩
      | exact ⟨E0, E1, E2, E3, by rw [World.size_alloc]; exact Nat.lt_succ_of_lt hz3⟩
      | exact ⟨(hb4.cell (p := ⟨g, 0, none⟩) (by rw [World.size_alloc]; exact Nat.lt_succ_of_lt hz3)).trans E0, (hb4.cell (p := ⟨g, 1, none⟩) (by rw [World.size_alloc]; exact Nat.lt_succ_of_lt hz3)).trans E1, (hb4.cell (p := ⟨g, 2, none⟩) (by rw [World.size_alloc]; exact Nat.lt_succ_of_lt hz3)).trans E2, (hb4.cell (p := ⟨g, 3, none⟩) (by rw [World.size_alloc]; exact Nat.lt_succ_of_lt hz3)).trans E3, Nat.lt_of_lt_of_le (by rw [World.size_alloc]; exact Nat.lt_succ_of_lt hz3) hb4.size⟩)
    (first
      | (go_at_call 10; refine (len_any eight eight_ok _).mono ?_; rw [eight_list]; rintro e w3 ⟨rfl, hb3⟩; have D0 := (hb3.cell (p := ⟨g, 0, none⟩) hz2).trans C0; have D1 := (hb3.cell (p := ⟨g, 1, none⟩) hz2).trans C1; have D2 := (hb3.cell (p := ⟨g, 2, none⟩) hz2).trans C2; have D3 := (hb3.cell (p := ⟨g, 3, none⟩) hz2).trans C3; have hz3 := Nat.lt_of_lt_of_le hz2 hb3.size; have E0 := (World.cell?_alloc_lt w3 (.cells #[.int .i64 3] 3) ⟨g, 0, none⟩ hz3).trans D0; have E1 := (World.cell?_alloc_lt w3 (.cells #[.int .i64 3] 3) ⟨g, 1, none⟩ hz3).trans D1; have E2 := (World.cell?_alloc_lt w3 (.cells #[.int .i64 3] 3) ⟨g, 2, none⟩ hz3).trans D2; have E3 := (World.cell?_alloc_lt w3 (.cells #[.int .i64 3] 3) ⟨g, 3, none⟩ hz3).trans D3)
      | (go_at_call 7; refine (of_any _ 1 _ [3] _ (row_block (heap_alloc_new _ _) [3] rfl 1 rfl wf1) (by omega)).mono ?_; rw [of_three]; unfold bagV eight; rintro e w4 ⟨rfl, hb4⟩))
  go_wp2
  go_ret
  have hA : Below w.heap.size w w3 := HB2.out.drew.trans (hb3.mono hle)
  have hA2 := (hA.alloc hA.size (.cells #[.int .i64 3] 3))
  exact ⟨rfl, hA2.trans (hb4.mono hA2.size)⟩
end Go.Proofs.YtlnljgfppipceaaDoor.Bg
