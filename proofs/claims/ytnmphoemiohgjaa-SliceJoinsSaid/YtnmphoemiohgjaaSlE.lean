/- Walk: Join of two slices. -/
import Derived.Test.YtnmphoemiohgjaaSlD
import Derived.Test.YtnmphoemiohgjaaReg
import Derived.Deep.RegionHeld3
namespace Go.Proofs.Ytnmphoemiohgjaa.Sl
open Go.RowKit Mem Tk
set_option linter.unusedVariables false

def JoinIs (w : World) (l : List Tk) (L R : Nat) (e : Ending) (w' : World) : Prop := ∃ v, e = .returned (.agg #[v, .int .i64 L, .int .i64 R]) ∧ Tks w.heap.size w' v l ∧ Below w.heap.size w w'
/-- what holds while Join's answer is made -/
structure JS (w : World) (sa sb : Value) (a1 a2 b1 b2 : Int) (W : World) : Prop where
  below : Below w.heap.size w W
  h0 : W.heap[w.heap.size]? = some (.cells #[sa, .int .i64 a1, .int .i64 a2] 26 (0, 0))
  h1 : W.heap[w.heap.size + 1]? = some (.cells #[sb, .int .i64 b1, .int .i64 b2] 26 (0, 0))
  h2 : ∃ u0 u1 u2, W.heap[w.heap.size + 1 + 1]? = some (.cells #[u0, u1, u2] 26 (0, 0))
section
variable {w W W' : World} {sa sb : Value} {a1 a2 b1 b2 : Int}
theorem lt_some {W : World} {o : Obj} {k : Nat} (h : W.heap[k]? = some o) : k < W.heap.size := (Array.getElem?_eq_some_iff.1 h).1
theorem JS.step (h : JS w sa sb a1 a2 b1 b2 W) (hb : Below W.heap.size W W') : JS w sa sb a1 a2 b1 b2 W' :=
  ⟨h.below.trans (hb.mono h.below.size), by rw [hb.block _ (lt_some h.h0)]; exact h.h0, by rw [hb.block _ (lt_some h.h1)]; exact h.h1, by obtain ⟨u0, u1, u2, e⟩ := h.h2; exact ⟨u0, u1, u2, by rw [hb.block _ (lt_some e)]; exact e⟩⟩
theorem JS.res (h : JS w sa sb a1 a2 b1 b2 W) : ∃ u0 u1 u2, W.cell? ⟨w.heap.size + 1 + 1, 0, none⟩ = some u0 ∧ W.cell? ⟨w.heap.size + 1 + 1, 1, none⟩ = some u1 ∧ W.cell? ⟨w.heap.size + 1 + 1, 2, none⟩ = some u2 ∧ W.frozen? ⟨w.heap.size + 1 + 1, 0, none⟩ = false ∧ W.frozen? ⟨w.heap.size + 1 + 1, 1, none⟩ = false ∧ W.frozen? ⟨w.heap.size + 1 + 1, 2, none⟩ = false := by
  obtain ⟨u0, u1, u2, e⟩ := h.h2
  refine ⟨u0, u1, u2, ?_, ?_, ?_, ?_, ?_, ?_⟩
  · simp [World.cell?, e]
  · simp [World.cell?, e]
  · simp [World.cell?, e]
  all_goals first | (simp [World.frozen?, e]; done) | (simp [World.frozen?, e]; omega)
theorem JS.set (h : JS w sa sb a1 a2 b1 b2 W) (v0 v1 v2 : Value) : JS w sa sb a1 a2 b1 b2 (((W.setCell ⟨w.heap.size + 1 + 1, 0, none⟩ v0).setCell ⟨w.heap.size + 1 + 1, 1, none⟩ v1).setCell ⟨w.heap.size + 1 + 1, 2, none⟩ v2) := by
  obtain ⟨u0, u1, u2, e⟩ := h.h2
  refine ⟨((h.below.setCell (by simp; omega) _).setCell (by simp; omega) _).setCell (by simp; omega) _, ?_, ?_, v0, v1, v2, ?_⟩
  · rw [Below.heap_setCell _ _ _ _ (by simp; omega), Below.heap_setCell _ _ _ _ (by simp; omega), Below.heap_setCell _ _ _ _ (by simp; omega)]; exact h.h0
  · rw [Below.heap_setCell _ _ _ _ (by simp), Below.heap_setCell _ _ _ _ (by simp), Below.heap_setCell _ _ _ _ (by simp)]; exact h.h1
  · simp [World.setCell, Array.getElem?_modify, e]
theorem JS.read (h : JS w sa sb a1 a2 b1 b2 W) (v0 v1 v2 : Value) : (((W.setCell ⟨w.heap.size + 1 + 1, 0, none⟩ v0).setCell ⟨w.heap.size + 1 + 1, 1, none⟩ v1).setCell ⟨w.heap.size + 1 + 1, 2, none⟩ v2).cell? ⟨w.heap.size + 1 + 1, 0, none⟩ = some v0 ∧
    (((W.setCell ⟨w.heap.size + 1 + 1, 0, none⟩ v0).setCell ⟨w.heap.size + 1 + 1, 1, none⟩ v1).setCell ⟨w.heap.size + 1 + 1, 2, none⟩ v2).cell? ⟨w.heap.size + 1 + 1, 1, none⟩ = some v1 ∧
    (((W.setCell ⟨w.heap.size + 1 + 1, 0, none⟩ v0).setCell ⟨w.heap.size + 1 + 1, 1, none⟩ v1).setCell ⟨w.heap.size + 1 + 1, 2, none⟩ v2).cell? ⟨w.heap.size + 1 + 1, 2, none⟩ = some v2 := by
  obtain ⟨u0, u1, u2, e⟩ := h.h2
  have e' : (((W.setCell ⟨w.heap.size + 1 + 1, 0, none⟩ v0).setCell ⟨w.heap.size + 1 + 1, 1, none⟩ v1).setCell ⟨w.heap.size + 1 + 1, 2, none⟩ v2).heap[w.heap.size + 1 + 1]? = some (.cells #[v0, v1, v2] 26 (0, 0)) := by simp [World.setCell, Array.getElem?_modify, e]
  exact ⟨by simp [World.cell?, e'], by simp [World.cell?, e'], by simp [World.cell?, e']⟩
theorem JS.hold (h : JS w sa sb a1 a2 b1 b2 W) : W.cell? ⟨w.heap.size, 0, none⟩ = some sa ∧ W.cell? ⟨w.heap.size, 1, none⟩ = some (.int .i64 a1) ∧ W.cell? ⟨w.heap.size, 2, none⟩ = some (.int .i64 a2) ∧
    W.cell? ⟨w.heap.size + 1, 0, none⟩ = some sb ∧ W.cell? ⟨w.heap.size + 1, 1, none⟩ = some (.int .i64 b1) ∧ W.cell? ⟨w.heap.size + 1, 2, none⟩ = some (.int .i64 b2) ∧ JS w sa sb a1 a2 b1 b2 W := by
  refine ⟨?_, ?_, ?_, ?_, ?_, ?_, h⟩
  all_goals first | (simp [World.cell?, h.h0]; done) | (simp [World.cell?, h.h1]; done)
theorem jhold_alloc (h : W.cell? ⟨w.heap.size, 0, none⟩ = some sa ∧ W.cell? ⟨w.heap.size, 1, none⟩ = some (.int .i64 a1) ∧ W.cell? ⟨w.heap.size, 2, none⟩ = some (.int .i64 a2) ∧
    W.cell? ⟨w.heap.size + 1, 0, none⟩ = some sb ∧ W.cell? ⟨w.heap.size + 1, 1, none⟩ = some (.int .i64 b1) ∧ W.cell? ⟨w.heap.size + 1, 2, none⟩ = some (.int .i64 b2) ∧ JS w sa sb a1 a2 b1 b2 W) (o : Obj) :
    (W.alloc o).cell? ⟨w.heap.size, 0, none⟩ = some sa ∧ (W.alloc o).cell? ⟨w.heap.size, 1, none⟩ = some (.int .i64 a1) ∧ (W.alloc o).cell? ⟨w.heap.size, 2, none⟩ = some (.int .i64 a2) ∧
    (W.alloc o).cell? ⟨w.heap.size + 1, 0, none⟩ = some sb ∧ (W.alloc o).cell? ⟨w.heap.size + 1, 1, none⟩ = some (.int .i64 b1) ∧ (W.alloc o).cell? ⟨w.heap.size + 1, 2, none⟩ = some (.int .i64 b2) ∧ JS w sa sb a1 a2 b1 b2 (W.alloc o) :=
  (h.2.2.2.2.2.2.step ((Below.refl _ W).alloc (Nat.le_refl _) o)).hold
theorem jhold_set (h : JS w sa sb a1 a2 b1 b2 W) (v0 v1 v2 : Value) : JS w sa sb a1 a2 b1 b2 (((W.setCell ⟨w.heap.size + 1 + 1, 0, none⟩ v0).setCell ⟨w.heap.size + 1 + 1, 1, none⟩ v1).setCell ⟨w.heap.size + 1 + 1, 2, none⟩ v2) := h.set v0 v1 v2
theorem jhold_step (h : W.cell? ⟨w.heap.size, 0, none⟩ = some sa ∧ W.cell? ⟨w.heap.size, 1, none⟩ = some (.int .i64 a1) ∧ W.cell? ⟨w.heap.size, 2, none⟩ = some (.int .i64 a2) ∧
    W.cell? ⟨w.heap.size + 1, 0, none⟩ = some sb ∧ W.cell? ⟨w.heap.size + 1, 1, none⟩ = some (.int .i64 b1) ∧ W.cell? ⟨w.heap.size + 1, 2, none⟩ = some (.int .i64 b2) ∧ JS w sa sb a1 a2 b1 b2 W) (hb : Below W.heap.size W W') :
    W'.cell? ⟨w.heap.size, 0, none⟩ = some sa ∧ W'.cell? ⟨w.heap.size, 1, none⟩ = some (.int .i64 a1) ∧ W'.cell? ⟨w.heap.size, 2, none⟩ = some (.int .i64 a2) ∧
    W'.cell? ⟨w.heap.size + 1, 0, none⟩ = some sb ∧ W'.cell? ⟨w.heap.size + 1, 1, none⟩ = some (.int .i64 b1) ∧ W'.cell? ⟨w.heap.size + 1, 2, none⟩ = some (.int .i64 b2) ∧ JS w sa sb a1 a2 b1 b2 W' :=
  (h.2.2.2.2.2.2.step hb).hold
end
def C0 (W : World) (g : Nat) (a b : Value) : Prop := W.cell? ⟨g, 0, none⟩ = some a ∧ W.cell? ⟨g, 1, none⟩ = some b ∧ g < W.heap.size
theorem concat_new (x y : List Tk) (A B : Option Addr) (n m c c' : Nat) (w W : World) (hx : TRow w A n x) (hy : TRow w B m y) (hn : n ≤ 100000) (hm : m ≤ 100000) {a1 a2 b1 b2 : Int}
    (hh : W.cell? ⟨w.heap.size, 0, none⟩ = some (.slice A n c) ∧ W.cell? ⟨w.heap.size, 1, none⟩ = some (.int .i64 a1) ∧ W.cell? ⟨w.heap.size, 2, none⟩ = some (.int .i64 a2) ∧
    W.cell? ⟨w.heap.size + 1, 0, none⟩ = some (.slice B m c') ∧ W.cell? ⟨w.heap.size + 1, 1, none⟩ = some (.int .i64 b1) ∧ W.cell? ⟨w.heap.size + 1, 2, none⟩ = some (.int .i64 b2) ∧ JS w (.slice A n c) (.slice B m c') a1 a2 b1 b2 W)
    (g cap : Nat) (hg : C0 W g (.slice A n c) (.slice B m c')) :
    Calls Try.prog 12 #[.slice (some ⟨g, 0, none⟩) 2 cap] W (TksIs W (x ++ y)) := by
  have hb := hh.2.2.2.2.2.2.below
  exact concat_any x y A B n m c c' g cap W hg.1 hg.2.1 hg.2.2 (hx.below hb) (hy.below hb) hn hm
set_option maxHeartbeats 4000000 in
theorem join_any (x y : List Tk) (A B : Option Addr) (n m c c' a1 a2 b1 b2 : Nat) (w : World)
    (hx : TRow w A n x) (hy : TRow w B m y) (hn : n ≤ 100000) (hm : m ≤ 100000) (ha1 : a1 ≤ 1000000) (ha2 : a2 ≤ 1000000) (hb1 : b1 ≤ 1000000) (hb2 : b2 ≤ 1000000) :
    Calls Try.prog 6 #[.agg #[.slice A n c, .int .i64 a1, .int .i64 a2], .agg #[.slice B m c', .int .i64 b1, .int .i64 b2]] w (JoinIs w (x ++ y) (a1 + (b1 - a2)) (b2 + (a2 - b1))) := by
  have HX := Lib.hid hx
  have HY := Lib.hid hy
  clear hx hy
  have p1 : ¬ ((0 : Int) > a1) := by omega
  have p2 : ¬ ((0 : Int) > a2) := by omega
  have p3 : ¬ ((0 : Int) > b1) := by omega
  have p4 : ¬ ((0 : Int) > b2) := by omega
  obtain ⟨sh, hsh, q1, q2⟩ : ∃ sh : Nat, min (a2 : Int) (b1 : Int) = sh ∧ a1 + (b1 - a2) = a1 + b1 - sh ∧ b2 + (a2 - b1) = b2 + a2 - sh := ⟨min a2 b1, by omega, by omega, by omega⟩
  have hle : sh ≤ b1 ∧ sh ≤ a2 := by omega
  obtain ⟨L, hL⟩ : ∃ L, a1 + b1 - sh = L := ⟨_, rfl⟩
  obtain ⟨R, hR⟩ : ∃ R, b2 + a2 - sh = R := ⟨_, rfl⟩
  rw [q1, q2, hL, hR]
  have eL : ((a1 : Int) + b1 - sh) = L := by omega
  have eR : ((b2 : Int) + a2 - sh) = R := by omega
  have w1 : IntKind.i64.wrap ((a1 : Int) + b1) = (a1 : Int) + b1 := IntWalk.i64_in _ (by omega)
  have w2 : IntKind.i64.wrap ((a1 : Int) + b1 - sh) = L := by rw [IntWalk.i64_in _ (by omega), eL]
  have w3 : IntKind.i64.wrap ((b2 : Int) + a2) = (b2 : Int) + a2 := IntWalk.i64_in _ (by omega)
  have w4 : IntKind.i64.wrap ((b2 : Int) + a2 - sh) = R := by rw [IntWalk.i64_in _ (by omega), eR]
  clear q1 q2 hle hL hR eL eR
  have J0 : JS w (.slice A n c) (.slice B m c') a1 a2 b1 b2 (((w.alloc (.cells #[.slice A n c, .int .i64 a1, .int .i64 a2] 26)).alloc (.cells #[.slice B m c', .int .i64 b1, .int .i64 b2] 26)).alloc (.cells #[.slice none 0 0, .int .i64 0, .int .i64 0] 26)) := by
    obtain ⟨o1, ho1⟩ : ∃ o, o = Obj.cells #[.slice A n c, .int .i64 a1, .int .i64 a2] 26 := ⟨_, rfl⟩
    obtain ⟨o2, ho2⟩ : ∃ o, o = Obj.cells #[.slice B m c', .int .i64 b1, .int .i64 b2] 26 := ⟨_, rfl⟩
    obtain ⟨o3, ho3⟩ : ∃ o, o = Obj.cells #[.slice none 0 0, .int .i64 0, .int .i64 0] 26 := ⟨_, rfl⟩
    have n2 := heap_alloc_new (w.alloc o1) o2
    have n3 := heap_alloc_new ((w.alloc o1).alloc o2) o3
    rw [show (w.alloc o1).heap.size = w.heap.size + 1 by simp] at n2
    rw [show ((w.alloc o1).alloc o2).heap.size = w.heap.size + 1 + 1 by simp] at n3
    rw [← ho1, ← ho2, ← ho3]
    refine ⟨(((Below.refl _ _).alloc (Nat.le_refl _) _).alloc (by simp) _).alloc (by simp; omega) _, ?_, ?_, ?_⟩
    · rw [Below.heap_alloc _ _ _ (by simp; omega), Below.heap_alloc _ _ _ (by simp), heap_alloc_new, ho1]
    · rw [Below.heap_alloc _ _ _ (by simp), n2, ho2]
    · exact ⟨_, _, _, by rw [n3, ho3]⟩
  have HJ := Lib.hid J0
  have HJ1 := Lib.hid (HJ.out.step (below_drewN (Below.refl _ _) 1)).hold
  have HJ2 := Lib.hid ((HJ.out.step (below_drewN (Below.refl _ _) 1)).step (below_drewN (Below.refl _ _) 1)).hold
  have HJ3 := Lib.hid (((HJ.out.step (below_drewN (Below.refl _ _) 1)).step (below_drewN (Below.refl _ _) 1)).step ((Below.refl _ _).alloc (Nat.le_refl _) (.cells #[.slice A n c, .slice B m c'] 22))).hold
  have HJ1 := Lib.hid (HJ.out.step (below_drewN (Below.refl _ _) 1)).hold
  have HJ2 := Lib.hid ((HJ.out.step (below_drewN (Below.refl _ _) 1)).step (below_drewN (Below.refl _ _) 1)).hold
  have HJ3 := Lib.hid (((HJ.out.step (below_drewN (Below.refl _ _) 1)).step (below_drewN (Below.refl _ _) 1)).step ((Below.refl _ _).alloc (Nat.le_refl _) (.cells #[.slice A n c, .slice B m c'] 22))).hold
  have HJ1 := Lib.hid (HJ.out.step (below_drewN (Below.refl _ _) 1)).hold
  have HJ2 := Lib.hid ((HJ.out.step (below_drewN (Below.refl _ _) 1)).step (below_drewN (Below.refl _ _) 1)).hold
  have HJ3 := Lib.hid (((HJ.out.step (below_drewN (Below.refl _ _) 1)).step (below_drewN (Below.refl _ _) 1)).step ((Below.refl _ _).alloc (Nat.le_refl _) (.cells #[.slice A n c, .slice B m c'] 22))).hold
  have HJ1 := Lib.hid (HJ.out.step (below_drewN (Below.refl _ _) 1)).hold
  have HJ2 := Lib.hid ((HJ.out.step (below_drewN (Below.refl _ _) 1)).step (below_drewN (Below.refl _ _) 1)).hold
  have HJ3 := Lib.hid (((HJ.out.step (below_drewN (Below.refl _ _) 1)).step (below_drewN (Below.refl _ _) 1)).step ((Below.refl _ _).alloc (Nat.le_refl _) (.cells #[.slice A n c, .slice B m c'] 22))).hold
  have HC : Hid (C0 ((((w.alloc (.cells #[.slice A n c, .int .i64 a1, .int .i64 a2] 26)).alloc (.cells #[.slice B m c', .int .i64 b1, .int .i64 b2] 26)).alloc (.cells #[.slice none 0 0, .int .i64 0, .int .i64 0] 26)).alloc (.cells #[.slice A n c, .slice B m c'] 22)) (w.heap.size + 1 + 1 + 1) (.slice A n c) (.slice B m c')) := by
    generalize hW : ((w.alloc (.cells #[.slice A n c, .int .i64 a1, .int .i64 a2] 26)).alloc (.cells #[.slice B m c', .int .i64 b1, .int .i64 b2] 26)).alloc (.cells #[.slice none 0 0, .int .i64 0, .int .i64 0] 26) = W
    have hs : W.heap.size = w.heap.size + 1 + 1 + 1 := by rw [← hW]; simp
    refine Lib.hid ?_
    rw [← hs]
    exact ⟨by rw [World.cell?_alloc_mark]; rfl, by rw [World.cell?_alloc_mark]; rfl, by simp⟩
  go_enter Try.func6, Try.ntmps6
  go_wp2_with fail
  refine wp_region_held_drew (S := (fun W => W.cell? ⟨w.heap.size, 0, none⟩ = some (.slice A n c) ∧ W.cell? ⟨w.heap.size, 1, none⟩ = some (.int .i64 a1) ∧ W.cell? ⟨w.heap.size, 2, none⟩ = some (.int .i64 a2) ∧ W.cell? ⟨w.heap.size + 1, 0, none⟩ = some (.slice B m c') ∧ W.cell? ⟨w.heap.size + 1, 1, none⟩ = some (.int .i64 b1) ∧ W.cell? ⟨w.heap.size + 1, 2, none⟩ = some (.int .i64 b2) ∧ JS w (.slice A n c) (.slice B m c') a1 a2 b1 b2 W)) (by kernel_rfl) HJ1.out (fun hHeld => ?_)
  refine tk 0 (v := ?_) rfl (by kernel_rfl) (fun _ _ _ h => h) ?_ hHeld ?_
  rotate_left
  · (intro W hSw; (try dsimp only at hSw); go_simp; try with_reducible rfl)
  refine tk 1 (v := ?_) rfl (by kernel_rfl) (fun _ _ _ h => h) ?_ hHeld ?_
  rotate_left
  · (intro W hSw; (try dsimp only at hSw); go_simp; try with_reducible rfl)
  refine tk 2 (v := ?_) rfl (by kernel_rfl) (fun _ _ _ h => h) ?_ hHeld ?_
  rotate_left
  · (intro W hSw; (try dsimp only at hSw); go_simp; try with_reducible rfl)
  refine tk 3 (v := ?_) rfl (by kernel_rfl) (fun _ _ _ h => h) ?_ hHeld ?_
  rotate_left
  · (intro W hSw; (try dsimp only at hSw); go_simp; try with_reducible rfl)
  refine tk 4 (v := ?_) rfl (by kernel_rfl) (fun _ _ _ h => h) ?_ hHeld ?_
  rotate_left
  · (intro W hSw; (try dsimp only at hSw); go_simp; try with_reducible rfl)
  refine tk 5 (v := ?_) rfl (by kernel_rfl) (fun _ _ _ h => h) ?_ hHeld ?_
  rotate_left
  · (intro W hSw; (try dsimp only at hSw); go_simp; try with_reducible rfl)
  refine tk 6 (v := ?_) rfl (by kernel_rfl) (fun _ _ _ h => h) ?_ hHeld ?_
  rotate_left
  · (intro W hSw; (try dsimp only at hSw); go_simp; try with_reducible rfl)
  refine tk 7 (v := ?_) rfl (by kernel_rfl) (fun _ _ _ h => h) ?_ hHeld ?_
  rotate_left
  · (intro W hSw; (try dsimp only at hSw); go_simp; try with_reducible rfl)
  refine wpAnyH_done (by kernel_rfl) ?_ _
  go_simp
  rename_i KK hKK
  refine hKK _ _ ?_
  clear hKK
  clear hHeld
  go_wp2_with fail
  refine wp_region_held_drew (S := (fun W => W.cell? ⟨w.heap.size, 0, none⟩ = some (.slice A n c) ∧ W.cell? ⟨w.heap.size, 1, none⟩ = some (.int .i64 a1) ∧ W.cell? ⟨w.heap.size, 2, none⟩ = some (.int .i64 a2) ∧ W.cell? ⟨w.heap.size + 1, 0, none⟩ = some (.slice B m c') ∧ W.cell? ⟨w.heap.size + 1, 1, none⟩ = some (.int .i64 b1) ∧ W.cell? ⟨w.heap.size + 1, 2, none⟩ = some (.int .i64 b2) ∧ JS w (.slice A n c) (.slice B m c') a1 a2 b1 b2 W)) (by kernel_rfl) HJ2.out (fun hHeld => ?_)
  refine tk 0 (v := ?_) rfl (by kernel_rfl) (fun _ _ _ h => h) ?_ hHeld ?_
  rotate_left
  · (intro W hSw; (try dsimp only at hSw); go_simp; try with_reducible rfl)
  refine tk 1 (v := ?_) rfl (by kernel_rfl) (fun _ _ _ h => h) ?_ hHeld ?_
  rotate_left
  · (intro W hSw; (try dsimp only at hSw); go_simp; try with_reducible rfl)
  refine tk 2 (v := ?_) rfl (by kernel_rfl) (fun _ _ _ h => h) ?_ hHeld ?_
  rotate_left
  · (intro W hSw; (try dsimp only at hSw); go_simp; try with_reducible rfl)
  refine tk 3 (v := ?_) rfl (by kernel_rfl) (fun _ _ _ h => h) ?_ hHeld ?_
  rotate_left
  · (intro W hSw; (try dsimp only at hSw); go_simp; try with_reducible rfl)
  refine tk 6 (v := ?_) rfl (by kernel_rfl) (fun _ _ _ h => h) ?_ hHeld ?_
  rotate_left
  · (intro W hSw; (try dsimp only at hSw); go_simp; try with_reducible rfl)
  refine tk 7 (v := ?_) rfl (by kernel_rfl) (fun _ _ _ h => h) ?_ hHeld ?_
  rotate_left
  · (intro W hSw; (try dsimp only at hSw); go_simp; try with_reducible rfl)
  refine tk 8 (v := ?_) rfl (by kernel_rfl) (fun _ _ _ h => h) ?_ hHeld ?_
  rotate_left
  · (intro W hSw; (try dsimp only at hSw); go_simp; try with_reducible rfl)
  refine tk 9 (v := ?_) rfl (by kernel_rfl) (fun _ _ _ h => h) ?_ hHeld ?_
  rotate_left
  · (intro W hSw; (try dsimp only at hSw); go_simp; try with_reducible rfl)
  refine tk 10 (v := ?_) rfl (by kernel_rfl) (fun _ _ _ h => h) ?_ hHeld ?_
  rotate_left
  · (intro W hSw; (try dsimp only at hSw); go_simp; try with_reducible rfl)
  refine tk 11 (v := ?_) rfl (by kernel_rfl) (fun _ _ _ h => h) ?_ hHeld ?_
  rotate_left
  · (intro W hSw; (try dsimp only at hSw); go_simp; try with_reducible rfl)
  refine tk 12 (v := ?_) rfl (by kernel_rfl) (fun _ _ _ h => h) ?_ hHeld ?_
  rotate_left
  · (intro W hSw; (try dsimp only at hSw); go_simp; try with_reducible rfl)
  refine tk 13 (v := ?_) rfl (by kernel_rfl) (fun _ _ _ h => h) ?_ hHeld ?_
  rotate_left
  · (intro W hSw; (try dsimp only at hSw); go_simp; try with_reducible rfl)
  refine tk 14 (v := ?_) rfl (by kernel_rfl) (fun _ _ _ h => h) ?_ hHeld ?_
  rotate_left
  · (intro W hSw; (try dsimp only at hSw); go_simp; try with_reducible rfl)
  refine tk 15 (v := ?_) rfl (by kernel_rfl) (fun _ _ _ h => h) ?_ hHeld ?_
  rotate_left
  · (intro W hSw; (try dsimp only at hSw); go_simp; try with_reducible rfl)
  refine tk 16 (v := ?_) rfl (by kernel_rfl) (fun _ _ _ h => h) ?_ hHeld ?_
  rotate_left
  · (intro W hSw; (try dsimp only at hSw); go_simp; try with_reducible rfl)
  refine tk 17 (v := ?_) rfl (by kernel_rfl) (fun _ _ _ h => h) ?_ hHeld ?_
  rotate_left
  · (intro W hSw; (try dsimp only at hSw); go_simp; try with_reducible rfl)
  refine tk 18 (v := ?_) rfl (by kernel_rfl) (fun _ _ _ h => h) ?_ hHeld ?_
  rotate_left
  · (intro W hSw; (try dsimp only at hSw); go_simp; try with_reducible rfl)
  refine tk 19 (v := ?_) rfl (by kernel_rfl) (fun _ _ _ h => h) ?_ hHeld ?_
  rotate_left
  · (intro W hSw; (try dsimp only at hSw); go_simp; try with_reducible rfl)
  refine wpAnyH_ready (rs := [4]) (by kernel_rfl) (by simp) ?_
  refine AllReadyH.cons rfl (fun K hK => ?_) AllReadyH.nil
  go_simp
  refine hK.out _ _ HJ3.out (fun hHeld => ?_)
  clear hK K
  refine wpAnyH_ready (rs := [5]) (by kernel_rfl) (by simp) ?_
  refine AllReadyH.cons rfl (fun K hK => ?_) AllReadyH.nil
  go_simp
  go_at_call 12
  refine (concat_new x y A B n m c c' w _ HX.out HY.out hn hm HJ3.out _ _ HC.out).mono ?_
  rintro e w' ⟨v, rfl, ho, hb⟩
  obtain ⟨A3, c3, hv⟩ := ho.form
  subst hv
  have HJ4 := Lib.hid (jhold_step HJ3.out hb)
  have HO := Lib.hid ho
  have HB := Lib.hid hb
  clear ho hb hHeld
  go_wp2_with fail
  refine hK.out _ _ HJ4.out (fun hHeld => ?_)
  clear hK K
  refine tk 20 (v := ?_) rfl (by kernel_rfl) (fun _ _ _ h => h) ?_ hHeld ?_
  rotate_left
  · (intro W hSw; (try dsimp only at hSw); go_simp; try with_reducible rfl)
  obtain ⟨u0, u1, u2, s0, s1, s2, f0, f1, f2⟩ := JS.res HJ4.out.2.2.2.2.2.2
  refine wpAnyH_ready (rs := [21]) (by kernel_rfl) (by simp) ?_
  refine AllReadyH.cons rfl (fun K hK => ?_) AllReadyH.nil
  go_simp
  have HJ5 := Lib.hid (JS.set HJ4.out.2.2.2.2.2.2 (.slice A3 (x ++ y).length c3) (.int .i64 L) (.int .i64 R)).hold
  rw [List.length_append] at HJ5
  refine hK.out _ _ HJ5.out (fun hHeld => ?_)
  clear hK K s0 s1 s2 f0 f1 f2
  refine wpAnyH_done (by kernel_rfl) ?_ _
  go_simp
  rename_i KK hKK hx1 hx2
  clear hx1 hx2
  refine hKK _ _ ?_
  clear hKK
  have HE := Lib.hid HJ5.out.2.2.2.2.2.2.below
  have HT := Lib.hid ((((HO.out.set (b := w.heap.size + 1 + 1) (by simp) 0 (.slice A3 (x ++ y).length c3)).set (b := w.heap.size + 1 + 1) (by simp) 1 (.int .i64 L)).set (b := w.heap.size + 1 + 1) (by simp) 2 (.int .i64 R)).lower (base' := w.heap.size) (by simp; omega))
  rw [List.length_append] at HT
  have HR := Lib.hid (JS.read HJ4.out.2.2.2.2.2.2 (.slice A3 (x ++ y).length c3) (.int .i64 L) (.int .i64 R))
  rw [List.length_append] at HR
  clear HJ HJ1 HJ2 HJ3 HJ4 HJ5 hHeld HO HB HC
  go_wp2_with fail
  obtain ⟨r0, r1, r2⟩ := HR.out
  exact bodyPost_ret (v := .agg #[.slice A3 (x.length + y.length) c3, .int .i64 L, .int .i64 R]) (by simp [results, Try.results6, go_sem, r0, r1, r2]) rfl ⟨_, rfl, HT.out, HE.out⟩
end Go.Proofs.Ytnmphoemiohgjaa.Sl
