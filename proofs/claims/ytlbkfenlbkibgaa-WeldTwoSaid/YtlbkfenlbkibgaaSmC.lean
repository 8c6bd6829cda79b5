/- Walk of smap: a shifted range's tell. -/
import Derived.Test.YtlbkfenlbkibgaaSmA
import Derived.Deep.RegionHeld
import Derived.Deep.RegionHeld3
import Derived.LoopTactic
import Derived.RangeFuncBox
import Derived.RangeFuncNested
import Derived.RangeFuncBound
import Derived.RangeFuncCalls
import Derived.RangeFuncLeaves
import Derived.Shelf.Abstract
import Derived.OwnWalkIn
import Derived.TacticsInMore
import Derived.LoopNIn
import Derived.LoopIn
set_option linter.unusedVariables false
namespace Go.Proofs.Ytlbkfenlbkibgaa.Sm
open Go.RowKit Mem
theorem tkno {P : Program} {ops : Array Oper} {Q : Exit → Act → World → Prop} {md : Region.Mode} {S : World → Prop} (i : Nat) {oi : Oper} {fuel : Nat} {listed : Array Bool} {a : Act} {w : World} (hi : ops[i]? = some oi)
  (hb : (Region.noSelect ops && (Region.free md ops listed i && ((Region.ready md ops listed).contains i && !(Region.wanted oi (yielded ops a.tmps))))) = true)
  (hQ : ∀ c a w, Q (.panic c) (a.put oi.dst undef) w → Q (.panic c) a w) (hS : S w)
  (h : wpAnyH P md ops Q S fuel (listed.setIfInBounds i true) (a.put oi.dst undef) w) : wpAnyH P md ops Q S (fuel + 1) listed a w := by
 simp only [Bool.and_eq_true, Bool.not_eq_true'] at hb
 exact wpAnyH_take hi hb.1 hb.2.1 hb.2.2.1 hQ (Or.inr ⟨hb.2.2.2, rfl⟩) hS h
def plV (p : Pl) : Value := .agg #[.int .i64 p.pos, .bool p.gone, .bool p.inside, .int .i64 p.rng, .int .i64 p.off]
structure TS (w : World) (a o n s : Int) (W : World) : Prop where
 below : Below w.heap.size w W
 h0 : W.heap[w.heap.size]? = some (.cells #[.int .i64 a, .int .i64 o, .int .i64 n, .int .i64 s] 159 (0, 0))
 h1 : W.heap[w.heap.size + 1]? = some (.cells #[.int .i64 0, .bool false, .bool false, .int .i64 0, .int .i64 0] 90 (0, 0))
def PA (w : World) (B : Nat) (x0 x1 x2 x3 x4 : Value) (W : World) : Prop := w.heap.size + 1 + 1 ≤ B ∧ W.heap[B]? = some (.cells #[x0, x1, x2, x3, x4] 90 (0, 0))
section
variable {w W W' : World} {a o n s : Int} {B : Nat} {x0 x1 x2 x3 x4 : Value}
theorem lt_some {W : World} {o : Obj} {k : Nat} (h : W.heap[k]? = some o) : k < W.heap.size := (Array.getElem?_eq_some_iff.1 h).1
theorem TS.size (h : TS w a o n s W) : w.heap.size + 1 + 1 ≤ W.heap.size := by have := lt_some h.h1; omega
theorem TS.stepAt (h : TS w a o n s W) {k : Nat} (hb : Below k W W') (hk : w.heap.size + 1 + 1 ≤ k) : TS w a o n s W' :=
 ⟨h.below.trans (hb.mono (by omega)), by rw [hb.block _ (by omega)]; exact h.h0, by rw [hb.block _ (by omega)]; exact h.h1⟩
theorem TS.step (h : TS w a o n s W) (hb : Below W.heap.size W W') : TS w a o n s W' := h.stepAt hb h.size
theorem TS.cells (h : TS w a o n s W) : W.cell? ⟨w.heap.size, 0, none⟩ = some (.int .i64 a) ∧ W.cell? ⟨w.heap.size, 1, none⟩ = some (.int .i64 o) ∧ W.cell? ⟨w.heap.size, 2, none⟩ = some (.int .i64 n) ∧ W.cell? ⟨w.heap.size, 3, none⟩ = some (.int .i64 s) := by
 refine ⟨?_, ?_, ?_, ?_⟩
 all_goals simp [World.cell?, h.h0]
theorem TS.hold (h : TS w a o n s W) : W.cell? ⟨w.heap.size, 0, none⟩ = some (.int .i64 a) ∧ W.cell? ⟨w.heap.size, 1, none⟩ = some (.int .i64 o) ∧ W.cell? ⟨w.heap.size, 2, none⟩ = some (.int .i64 n) ∧ W.cell? ⟨w.heap.size, 3, none⟩ = some (.int .i64 s) ∧ TS w a o n s W :=
 ⟨h.cells.1, h.cells.2.1, h.cells.2.2.1, h.cells.2.2.2, h⟩
theorem TS.drew (h : TS w a o n s W) : TS w a o n s W.drew := h.step (below_drewN (Below.refl _ _) 1)
theorem TS.made (w : World) (a o n s : Int) : TS w a o n s ((w.alloc (.cells #[.int .i64 a, .int .i64 o, .int .i64 n, .int .i64 s] 159)).alloc (.cells #[.int .i64 0, .bool false, .bool false, .int .i64 0, .int .i64 0] 90)) := by
 have n2 := heap_alloc_new (w.alloc (.cells #[.int .i64 a, .int .i64 o, .int .i64 n, .int .i64 s] 159)) (.cells #[.int .i64 0, .bool false, .bool false, .int .i64 0, .int .i64 0] 90)
 rw [show (w.alloc (.cells #[.int .i64 a, .int .i64 o, .int .i64 n, .int .i64 s] 159)).heap.size = w.heap.size + 1 by simp] at n2
 exact ⟨((Below.refl _ _).alloc (Nat.le_refl _) _).alloc (by simp) _, by rw [Below.heap_alloc _ _ _ (by simp), heap_alloc_new], n2⟩
theorem PA.new (W : World) (h : w.heap.size + 1 + 1 ≤ W.heap.size) : PA w W.heap.size (.int .i64 0) (.bool false) (.bool false) (.int .i64 0) (.int .i64 0) (W.alloc (.cells #[.int .i64 0, .bool false, .bool false, .int .i64 0, .int .i64 0] 90)) := ⟨h, heap_alloc_new W _⟩
theorem PA.step (h : PA w B x0 x1 x2 x3 x4 W) (hb : Below W.heap.size W W') : PA w B x0 x1 x2 x3 x4 W' := ⟨h.1, by rw [hb.block _ (lt_some h.2)]; exact h.2⟩
theorem PA.cells (h : PA w B x0 x1 x2 x3 x4 W) : W.cell? ⟨B, 0, none⟩ = some x0 ∧ W.cell? ⟨B, 1, none⟩ = some x1 ∧ W.cell? ⟨B, 2, none⟩ = some x2 ∧ W.cell? ⟨B, 3, none⟩ = some x3 ∧ W.cell? ⟨B, 4, none⟩ = some x4 ∧
  W.frozen? ⟨B, 0, none⟩ = false ∧ W.frozen? ⟨B, 1, none⟩ = false ∧ W.frozen? ⟨B, 2, none⟩ = false ∧ W.frozen? ⟨B, 3, none⟩ = false ∧ W.frozen? ⟨B, 4, none⟩ = false := by
 refine ⟨?_, ?_, ?_, ?_, ?_, ?_, ?_, ?_, ?_, ?_⟩
 all_goals first | (simp [World.cell?, h.2]; done) | (simp [World.frozen?, h.2]; done) | (simp [World.frozen?, h.2]; omega)
def put5 (W : World) (B : Nat) (y0 y1 y2 y3 y4 : Value) : World := ((((W.setCell ⟨B, 0, none⟩ y0).setCell ⟨B, 1, none⟩ y1).setCell ⟨B, 2, none⟩ y2).setCell ⟨B, 3, none⟩ y3).setCell ⟨B, 4, none⟩ y4
theorem five {h : Nat} {W : World} {x0 x1 x2 x3 x4 : Value} {t : TypeId} (e : W.heap[h]? = some (.cells #[x0, x1, x2, x3, x4] t (0, 0))) : W.cell? ⟨h, 0, none⟩ = some x0 ∧ W.cell? ⟨h, 1, none⟩ = some x1 ∧ W.cell? ⟨h, 2, none⟩ = some x2 ∧ W.cell? ⟨h, 3, none⟩ = some x3 ∧ W.cell? ⟨h, 4, none⟩ = some x4 := by
 refine ⟨?_, ?_, ?_, ?_, ?_⟩
 all_goals simp [World.cell?, e]
theorem put5_other (W : World) (B k : Nat) (y0 y1 y2 y3 y4 : Value) (h : k ≠ B) : (put5 W B y0 y1 y2 y3 y4).heap[k]? = W.heap[k]? := by
 unfold put5
 rw [Below.heap_setCell _ _ _ _ h, Below.heap_setCell _ _ _ _ h, Below.heap_setCell _ _ _ _ h, Below.heap_setCell _ _ _ _ h, Below.heap_setCell _ _ _ _ h]
theorem put5_below {k : Nat} (hb : Below k w W) (hB : k ≤ B) (y0 y1 y2 y3 y4 : Value) : Below k w (put5 W B y0 y1 y2 y3 y4) :=
 ((((hb.setCell (p := ⟨B, 0, none⟩) hB _).setCell (p := ⟨B, 1, none⟩) hB _).setCell (p := ⟨B, 2, none⟩) hB _).setCell (p := ⟨B, 3, none⟩) hB _).setCell (p := ⟨B, 4, none⟩) hB _
theorem put5_same (h : W.heap[B]? = some (.cells #[x0, x1, x2, x3, x4] 90 (0, 0))) (y0 y1 y2 y3 y4 : Value) : (put5 W B y0 y1 y2 y3 y4).heap[B]? = some (.cells #[y0, y1, y2, y3, y4] 90 (0, 0)) := by
 unfold put5
 simp [World.setCell, Array.getElem?_modify, h]
def PT (w : World) (a o n s : Int) (B : Nat) (p : Pl) (W : World) : Prop := TS w a o n s W ∧ PA w B (.int .i64 p.pos) (.bool p.gone) (.bool p.inside) (.int .i64 p.rng) (.int .i64 p.off) W
theorem PT.made (h : TS w a o n s W) (h' : PA w B x0 x1 x2 x3 x4 W) (z : Int) (g i : Bool) (r f : Int) : PT w a o n s B ⟨z, g, i, r, f⟩ (put5 W B (.int .i64 z) (.bool g) (.bool i) (.int .i64 r) (.int .i64 f)) :=
 ⟨⟨put5_below h.below (by have := h'.1; omega) _ _ _ _ _, by rw [put5_other _ _ _ _ _ _ _ _ (by have := h'.1; omega)]; exact h.h0, by rw [put5_other _ _ _ _ _ _ _ _ (by have := h'.1; omega)]; exact h.h1⟩, h'.1, put5_same h'.2 _ _ _ _ _⟩
theorem PT.alloc (h : TS w a o n s W) (z : Int) (g i : Bool) (r f : Int) : PT w a o n s W.heap.size ⟨z, g, i, r, f⟩ (W.alloc (.cells #[.int .i64 z, .bool g, .bool i, .int .i64 r, .int .i64 f] 90)) :=
 ⟨h.step ((Below.refl _ _).alloc (Nat.le_refl _) _), h.size, heap_alloc_new W _⟩
theorem PT.step {p : Pl} (h : PT w a o n s B p W) (hb : Below W.heap.size W W') : PT w a o n s B p W' := ⟨h.1.step hb, h.2.step hb⟩
end
end Go.Proofs.Ytlbkfenlbkibgaa.Sm
namespace Go.Proofs.Ytlbkfenlbkibgaa.Sm
open Go.RowKit Go.Shelf Mem
attribute [local go_sem] Oper.semAt_some
structure KS (n₀ : Nat) (A B : World) : Prop where
 below : Below n₀ A B
 same : ∀ (i : Nat) (cs : Array Value) (fr : Nat × Nat), A.heap[i]? = some (Obj.cells cs 159 fr) → B.heap[i]? = some (Obj.cells cs 159 fr)
theorem KS.refl (n₀ : Nat) (A : World) : KS n₀ A A := ⟨Below.refl _ _, fun _ _ _ h => h⟩
theorem KS.trans {n₀ : Nat} {A B C : World} (h : KS n₀ A B) (k : KS n₀ B C) : KS n₀ A C := ⟨h.below.trans k.below, fun i cs fr e => k.same i cs fr (h.same i cs fr e)⟩
theorem KS.put {n₀ : Nat} {w : World} (hn : n₀ ≤ w.heap.size) (W : World) (l : Nat) (o o' : Obj) (hl : w.heap.size ≤ l) (h : W.heap[l]? = some o) (hc : o.isCells = false) (hw : o.isWalk = false) : KS n₀ W (W.putObj l o') :=
 ⟨belowK_b hn W l o o' hl h hc hw, fun i cs fr e => by
  rw [World.putObj_heap_other]
  ·exact e
  ·rintro rfl; rw [h] at e; cases e; cases hc⟩
theorem KS.set {n₀ : Nat} {W : World} {g : Nat} {cs : Array Value} {t : TypeId} {fr : Nat × Nat} (hg : W.heap[g]? = some (.cells cs t fr)) (ht : t ≠ 159) (hn : n₀ ≤ g) (j : Nat) (v : Value) : KS n₀ W (W.setCell ⟨g, j, none⟩ v) :=
 ⟨(Below.refl _ _).setCell (p := ⟨g, j, none⟩) hn v, fun i cs' fr' e => by
  rw [Below.heap_setCell _ _ _ _ (by rintro rfl; rw [hg] at e; cases e; exact ht rfl)]; exact e⟩
theorem grown_none {A B : World} (h : Below A.heap.size A B) : A.grownBy B none := ⟨h.os, h.tape, h.output, h.size, fun i hi _ => h.block i hi⟩
def RLow (n₀ : Nat) (W : World) (A : Option Addr) (m : Nat) (l : List Rg) : Prop := l.length = m ∧ (0 < m → ∃ b off, A = some ⟨b, off, none⟩ ∧ b < n₀ ∧ ∀ j, j < m → At3 W b (off + j * 3) (rg l j))
theorem RLow.of {W : World} {A : Option Addr} {m : Nat} {l : List Rg} (h : RRow W A m l) : RLow W.heap.size W A m l :=
 ⟨h.1, fun hn => by
  obtain ⟨b, off, e, hl, hc⟩ := h.2 hn
  refine ⟨b, off, e, hl, fun j hj => ?_⟩
  have := hc j (by rw [h.1]; exact hj)
  rwa [rg_at l j (by rw [h.1]; exact hj)]⟩
theorem RLow.below {n₀ k : Nat} {W W' : World} {A : Option Addr} {m : Nat} {l : List Rg} (h : RLow n₀ W A m l) (hb : Below k W W') (hk : n₀ ≤ k) : RLow n₀ W' A m l :=
 ⟨h.1, fun hn => by
  obtain ⟨b, off, e, hl, hc⟩ := h.2 hn
  exact ⟨b, off, e, hl, fun j hj => (hc j hj).keep fun p => hb.cell (p := ⟨b, p, none⟩) (by simp; omega)⟩⟩
theorem far_sh {l : List Rg} {k : Nat} (h : okTo l k) (hk : k ≤ 100) : far (sh l k) := by
 have := sh_bound k h
 unfold far; omega
abbrev Ix (m : Nat) := { k : Nat // k < m }
end Go.Proofs.Ytlbkfenlbkibgaa.Sm
