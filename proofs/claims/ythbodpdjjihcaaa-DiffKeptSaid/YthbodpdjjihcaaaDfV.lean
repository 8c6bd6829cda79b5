/- Diffs: what must be whatever is asked. -/
import Derived.Test.YthbodpdjjihcaaaDfT
import Derived.Test.YthbodpdjjihcaaaDfC
namespace Go.Proofs.Ythbodpdjjihcaaa.Df
open Go.RowKit Mem Sm Tk Rt St
set_option linter.unusedVariables false
set_option linter.unusedSimpArgs false
theorem runes4 (W : World) (a b c d : Int) (t : TypeId) (h : ∀ z ∈ [a, b, c, d], (Lit.int .i32 z).wf = true) : Row .i32 (W.alloc (.cells #[.int .i32 a, .int .i32 b, .int .i32 c, .int .i32 d] t)) (some ⟨W.heap.size, 0, none⟩) 4 [a, b, c, d] := by
  refine ⟨rfl, h, fun _ => ⟨W.heap.size, 0, rfl, fun j hj => ?_⟩⟩
  have hc := heap_alloc_new W (.cells #[.int .i32 a, .int .i32 b, .int .i32 c, .int .i32 d] t)
  unfold World.cell?
  simp only [hc]
  match j, hj with
  | 0, _ => rfl
  | 1, _ => rfl
  | 2, _ => rfl
  | 3, _ => rfl
def L1 : List Tk.Tk := [97, 98, 99, 100].map chr
def L2 : List Tk.Tk := [97, 98, 120, 100].map chr
theorem one_L : oneS L1 L2 = ⟨1, 2, 3, 0, 0, 0, 0, 0⟩ ∧ oneL L1 L2 = [chr 120] ∧ L1 ≠ L2 := by
  refine ⟨by kernel_rfl, by kernel_rfl, ?_⟩
  unfold L1 L2
  simp [chr]
set_option maxRecDepth 100000 in
set_option maxHeartbeats 4000000 in
theorem live_any (w : World) : Calls Try.prog 32 #[] w fun e w' => e = .returned (.bool true) ∧ Below w.heap.size w w' := by
  go_enter Try.func32, Try.ntmps32
  go_wp2_with fail
  refine (text_any [97, 98, 99, 100] (some ⟨w.heap.size, 0, none⟩) 4 4 _ (by omega) (runes4 w 97 98 99 100 _ (by decide))).mono ?_
  rintro e w1 ⟨v1, rfl, hv1, hb1⟩
  have HB1 := Lib.hid (((Below.refl w.heap.size w).alloc (Nat.le_refl _) _).trans (hb1.mono (by simp)))
  have hv1' : Tks _ w1 v1 L1 := hv1
  obtain ⟨A1, c1, rfl, hc1, hr1⟩ := hv1'.row
  have HR1 : Hid (TRow w1 A1 4 L1) := Lib.hid hr1
  have hc1 : 4 ≤ c1 := hc1
  clear hv1 hv1' hb1 hr1
  have hlen1 : L1.length = 4 := rfl
  rw [hlen1]
  clear hlen1
  go_wp2_with fail
  refine (text_any [97, 98, 120, 100] (some ⟨w1.heap.size, 0, none⟩) 4 4 _ (by omega) (runes4 w1 97 98 120 100 _ (by decide))).mono ?_
  rintro e w2 ⟨v2, rfl, hv2, hb2⟩
  have hb12 := ((Below.refl w1.heap.size w1).alloc (Nat.le_refl _) _).trans (hb2.mono (by simp))
  have HB2 := Lib.hid (HB1.out.trans (hb12.mono HB1.out.size))
  have HR12 : Hid (TRow w2 A1 4 L1) := Lib.hid (HR1.out.below hb12)
  have hv2' : Tks _ w2 v2 L2 := hv2
  obtain ⟨A2, c2, rfl, hc2, hr2⟩ := hv2'.row
  have HR2 : Hid (TRow w2 A2 4 L2) := Lib.hid hr2
  have hc2 : 4 ≤ c2 := hc2
  clear hv2 hv2' hb2 hr2 HR1 HB1 hb12
  have hlen2 : L2.length = 4 := rfl
  rw [hlen2]
  clear hlen2
  go_wp2_with fail
  refine (one_any L1 L2 A1 A2 4 4 c1 c2 w2 (by omega) (by omega) hc2 HR12.out HR2.out).mono ?_
  rintro e w3 ⟨h, hb3⟩
  rcases h with ⟨h, _⟩ | ⟨_, v, rfl, hv⟩
  · exact absurd h one_L.2.2
  rw [one_L.1]
  rw [one_L.2.1] at hv
  have HB3 := Lib.hid (HB2.out.trans (hb3.mono HB2.out.size))
  have hws := HB3.out.size
  obtain ⟨A3, c3, rfl, hc3, hr3⟩ := hv.row
  obtain ⟨b, off, rfl, hbs, hcell⟩ := (hr3.alloc (.cells #[.int .i64 1, .int .i64 2, .int .i64 3, .int .i64 0, .int .i64 0, .int .i64 0, .int .i64 0, .int .i64 0, .slice A3 1 c3, .slice none 0 0] 25)).2 (by simp)
  have hch := (hcell 0 (by simp)) 3 (.int .i32 120) rfl
  simp only [Nat.zero_mul, Nat.add_zero] at hch
  have HB4 := Lib.hid (HB3.out.alloc hws (.cells #[.int .i64 1, .int .i64 2, .int .i64 3, .int .i64 0, .int .i64 0, .int .i64 0, .int .i64 0, .int .i64 0, .slice (some ⟨b, off, none⟩) 1 c3, .slice none 0 0] 25))
  have HZ := Lib.hid (heap_alloc_new w3 (.cells #[.int .i64 1, .int .i64 2, .int .i64 3, .int .i64 0, .int .i64 0, .int .i64 0, .int .i64 0, .int .i64 0, .slice (some ⟨b, off, none⟩) 1 c3, .slice none 0 0] 25))
  clear hv hb3 hr3 hcell HB2 HB3 HR12 HR2 hbs
  unfold stV stC
  have hz := tenc HZ.out
  have z0 := hz.1.1
  have z1 := hz.1.2.1
  have z2 := hz.1.2.2.1
  have z3 := hz.1.2.2.2.1
  have z4 := hz.1.2.2.2.2
  have z5 := hz.2.1
  have z6 := hz.2.2.1
  have z7 := hz.2.2.2.1
  have z8 := hz.2.2.2.2.1
  have z9 := hz.2.2.2.2.2
  have hf := froz HZ.out
  have f0 := hf.1
  have f1 := hf.2.1
  have f2 := hf.2.2.1
  have f3 := hf.2.2.2.1
  have f4 := hf.2.2.2.2.1
  have f5 := hf.2.2.2.2.2.1
  have f6 := hf.2.2.2.2.2.2.1
  have f7 := hf.2.2.2.2.2.2.2.1
  have f8 := hf.2.2.2.2.2.2.2.2.1
  have f9 := hf.2.2.2.2.2.2.2.2.2
  clear hz hf
  go_wp2
  go_ret
  exact ⟨rfl, HB4.out⟩
end Go.Proofs.Ythbodpdjjihcaaa.Df
