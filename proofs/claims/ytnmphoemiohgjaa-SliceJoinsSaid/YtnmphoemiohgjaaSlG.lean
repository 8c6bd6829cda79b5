/- Walks: the law's live; its counting of open tokens. -/
import Derived.Test.YtnmphoemiohgjaaSlF
namespace Go.Proofs.Ytnmphoemiohgjaa.Sl
open Go.RowKit Mem Tk
set_option linter.unusedVariables false

theorem trow_new (w : World) (l : List Tk) (t : TypeId) : TRow (w.alloc (.cells (cells12 l).toArray t)) (some ⟨w.heap.size, 0, none⟩) l.length l := by
  refine ⟨rfl, fun _ => ⟨w.heap.size, 0, rfl, by simp, fun j hj => ?_⟩⟩
  refine at12_of _ _ _ _ _ _ _ (heap_alloc_new w _) (fun i v hv => ?_)
  have hi : i < 12 := by
    have := (List.getElem?_eq_some_iff.1 hv).1
    rwa [tcells_length] at this
  rw [List.getElem?_toArray, Nat.zero_add, cells12_at l j hj i hi]
  exact hv
theorem tks_empty (w : World) (base : Nat) (hb : base ≤ w.heap.size) : Tks base (w.alloc (.cells #[] 35)) (.slice (some ⟨w.heap.size, 0, none⟩) 0 0) [] :=
  ⟨rfl, .inr ⟨w.heap.size, 0, #[], rfl, hb, heap_alloc_new w _, Nat.le_refl _, Nat.zero_le _, rfl, rfl⟩⟩
def exL : List Tk := [closeTk, ⟨1, 2, 0, 0, 0, 0, 0, 0, 0, 0, 0, 0⟩, ⟨4, 0, 0, 97, 0, 0, 0, 0, 0, 0, 0, 0⟩]
def exO : List Tk := [⟨1, 1, 0, 0, 0, 0, 0, 0, 0, 0, 0, 0⟩]
theorem ex_flat : flat (kinds exL) = false := by decide
theorem ex_flat2 : flat (kinds (exO ++ exL ++ List.replicate 1 closeTk)) = true := by decide
theorem ex_whole (W : World) (A B : Option Addr) (h1 : TRow W A 3 exL) (h2 : TRow W B 1 exO) : Calls Try.prog 8 #[.agg #[.slice A 3 3, .int .i64 1, .int .i64 1], .slice B 1 1] W (WhIs W (exO ++ exL ++ List.replicate 1 closeTk)) :=
  whole_yes exL exO A B 3 3 1 1 1 W h1 h2 (by omega) (by omega) (by omega) rfl
def exW : List Tk := exO ++ exL ++ List.replicate 1 closeTk
set_option maxHeartbeats 2000000 in
set_option maxRecDepth 100000 in
theorem live_any (w : World) : Calls Try.prog 4 #[] w fun e w' => e = .returned (.bool true) ∧ Below w.heap.size w w' := by
  have R1 : Hid (TRow (w.alloc (.cells #[.int .i64 2, .int .i64 0, .int .i64 0, .int .i32 0, .int .u16 0, .int .u16 0, .int .u16 0, .int .u16 0, .int .u16 0, .int .u16 0, .int .u16 0, .int .u16 0, .int .i64 1, .int .i64 2, .int .i64 0, .int .i32 0, .int .u16 0, .int .u16 0, .int .u16 0, .int .u16 0, .int .u16 0, .int .u16 0, .int .u16 0, .int .u16 0, .int .i64 4, .int .i64 0, .int .i64 0, .int .i32 97, .int .u16 0, .int .u16 0, .int .u16 0, .int .u16 0, .int .u16 0, .int .u16 0, .int .u16 0, .int .u16 0] 35)) (some ⟨w.heap.size, 0, none⟩) 3 exL) := Lib.hid (trow_new w exL 35)
  have R2 : Hid (TRow ((w.alloc (.cells #[.int .i64 2, .int .i64 0, .int .i64 0, .int .i32 0, .int .u16 0, .int .u16 0, .int .u16 0, .int .u16 0, .int .u16 0, .int .u16 0, .int .u16 0, .int .u16 0, .int .i64 1, .int .i64 2, .int .i64 0, .int .i32 0, .int .u16 0, .int .u16 0, .int .u16 0, .int .u16 0, .int .u16 0, .int .u16 0, .int .u16 0, .int .u16 0, .int .i64 4, .int .i64 0, .int .i64 0, .int .i32 97, .int .u16 0, .int .u16 0, .int .u16 0, .int .u16 0, .int .u16 0, .int .u16 0, .int .u16 0, .int .u16 0] 35)).alloc (.cells #[.int .i64 1, .int .i64 1, .int .i64 0, .int .i32 0, .int .u16 0, .int .u16 0, .int .u16 0, .int .u16 0, .int .u16 0, .int .u16 0, .int .u16 0, .int .u16 0] 35)) (some ⟨w.heap.size + 1, 0, none⟩) 1 exO) := Lib.hid (by
    have h := trow_new (w.alloc (.cells #[.int .i64 2, .int .i64 0, .int .i64 0, .int .i32 0, .int .u16 0, .int .u16 0, .int .u16 0, .int .u16 0, .int .u16 0, .int .u16 0, .int .u16 0, .int .u16 0, .int .i64 1, .int .i64 2, .int .i64 0, .int .i32 0, .int .u16 0, .int .u16 0, .int .u16 0, .int .u16 0, .int .u16 0, .int .u16 0, .int .u16 0, .int .u16 0, .int .i64 4, .int .i64 0, .int .i64 0, .int .i32 97, .int .u16 0, .int .u16 0, .int .u16 0, .int .u16 0, .int .u16 0, .int .u16 0, .int .u16 0, .int .u16 0] 35)) exO 35
    rw [show (w.alloc (.cells #[.int .i64 2, .int .i64 0, .int .i64 0, .int .i32 0, .int .u16 0, .int .u16 0, .int .u16 0, .int .u16 0, .int .u16 0, .int .u16 0, .int .u16 0, .int .u16 0, .int .i64 1, .int .i64 2, .int .i64 0, .int .i32 0, .int .u16 0, .int .u16 0, .int .u16 0, .int .u16 0, .int .u16 0, .int .u16 0, .int .u16 0, .int .u16 0, .int .i64 4, .int .i64 0, .int .i64 0, .int .i32 97, .int .u16 0, .int .u16 0, .int .u16 0, .int .u16 0, .int .u16 0, .int .u16 0, .int .u16 0, .int .u16 0] 35)).heap.size = w.heap.size + 1 by simp] at h
    exact h)
  have R3 := Lib.hid (R1.out.alloc (.cells #[.int .i64 1, .int .i64 1, .int .i64 0, .int .i32 0, .int .u16 0, .int .u16 0, .int .u16 0, .int .u16 0, .int .u16 0, .int .u16 0, .int .u16 0, .int .u16 0] 35))
  have HB0 := Lib.hid (((Below.refl _ w).alloc (Nat.le_refl _) (.cells #[.int .i64 2, .int .i64 0, .int .i64 0, .int .i32 0, .int .u16 0, .int .u16 0, .int .u16 0, .int .u16 0, .int .u16 0, .int .u16 0, .int .u16 0, .int .u16 0, .int .i64 1, .int .i64 2, .int .i64 0, .int .i32 0, .int .u16 0, .int .u16 0, .int .u16 0, .int .u16 0, .int .u16 0, .int .u16 0, .int .u16 0, .int .u16 0, .int .i64 4, .int .i64 0, .int .i64 0, .int .i32 97, .int .u16 0, .int .u16 0, .int .u16 0, .int .u16 0, .int .u16 0, .int .u16 0, .int .u16 0, .int .u16 0] 35)).alloc (by simp) (.cells #[.int .i64 1, .int .i64 1, .int .i64 0, .int .i32 0, .int .u16 0, .int .u16 0, .int .u16 0, .int .u16 0, .int .u16 0, .int .u16 0, .int .u16 0, .int .u16 0] 35))
  go_enter Try.func4, Try.ntmps4
  go_wp2_with fail
  refine (ex_whole _ _ _ R3.out R2.out).mono ?_
  rintro e w1 ⟨v, rfl, ho, hb⟩
  obtain ⟨A1, c1, hv, hc1, hr1⟩ := ho.row
  subst hv
  have HR1 := Lib.hid hr1
  have HB1 := Lib.hid (HB0.out.trans (hb.mono (by simp; omega)))
  have HL := Lib.hid (R3.out.below hb)
  clear ho hb hr1 R1 R2 R3 HB0 hc1
  have F1 := flat_any exL (some ⟨w.heap.size, 0, none⟩) 3 3 w1 HL.out (by omega)
  rw [ex_flat] at F1
  have F2 := fun W (h : TRow W A1 (exO ++ exL ++ List.replicate 1 closeTk).length (exO ++ exL ++ List.replicate 1 closeTk)) => flat_any _ A1 _ c1 W h (by decide)
  rw [ex_flat2] at F2
  rw [show (exO ++ exL ++ List.replicate 1 closeTk).length = 5 from rfl] at F2 HR1 ⊢
  go_wp2_with fail
  refine F1.mono ?_
  rintro e w2 ⟨rfl, hb2⟩
  have HR2 := Lib.hid (HR1.out.below hb2)
  have HB2 := Lib.hid (HB1.out.trans (hb2.mono HB1.out.size))
  clear hb2 F1
  go_wp2_with fail
  refine (F2 _ HR2.out).mono ?_
  rintro e w3 ⟨rfl, hb3⟩
  have HB3 := Lib.hid (HB2.out.trans (hb3.mono HB2.out.size))
  clear hb3 F2
  go_wp2
  go_ret
  exact ⟨rfl, HB3.out⟩
end Go.Proofs.Ytnmphoemiohgjaa.Sl
