/- Rows of ranges in memory, three cells each: read, the call's own, appended to; ranges held against each other. -/
import Derived.Test.YtlbkfenlbkibgaaSmMath
import Derived.Test.YtlbkfenlbkibgaaRows
import Derived.WalkKit
import Derived.ProofKit
import Derived.WalkSpells
import Derived.WalkLawsBesides
import Derived.BigQuiet
import Derived.Maps.AppendAt
import Derived.ChangeKeysEq
import Derived.Laws.StructEq
import Derived.Below
import Derived.Lib.Hide
import Derived.OrdersHeld
import Derived.KernelRfl
import Derived.Deep.Cut
import Derived.Deep.CutRange
set_option linter.unusedVariables false
namespace Go.Proofs.Ytlbkfenlbkibgaa.Sm
open Go.RowKit Mem
theorem ret_bool {a b : Bool} (h : a = b) : Ending.returned (.bool a) = .returned (.bool b) := by rw [h]
theorem ret_int {k : IntKind} {a b : Int} (h : a = b) : Ending.returned (.int k a) = .returned (.int k b) := by rw [h]
def rcells (x : Rg) : List Value := [.int .i64 x.at_, .int .i64 x.old, .int .i64 x.new]
def rgV (x : Rg) : Value := .agg #[.int .i64 x.at_, .int .i64 x.old, .int .i64 x.new]
theorem rcells_length (x : Rg) : (rcells x).length = 3 := rfl
def cells3 (l : List Rg) : List Value := l.flatMap rcells
theorem cells3_cons (x : Rg) (l : List Rg) : cells3 (x :: l) = rcells x ++ cells3 l := rfl
theorem cells3_at (l : List Rg) : ∀ i (h : i < l.length) j, j < 3 → (cells3 l)[i * 3 + j]? = (rcells l[i])[j]? := by
 induction l with
 | nil => intro i hi; simp at hi
 | cons a l ih =>
  intro i hi j hj
  rw [cells3_cons]
  cases i with
  | zero => rw [Nat.zero_mul, Nat.zero_add, List.getElem?_append_left (by rw [rcells_length]; exact hj)]; rfl
  | succ i =>
   rw [List.getElem?_append_right (by rw [rcells_length]; omega), rcells_length, show (i + 1) * 3 + j - 3 = i * 3 + j by omega, ih i (by simpa using hi) j hj]
   rfl
def At3 (w : World) (b o : Nat) (x : Rg) : Prop := ∀ j v, (rcells x)[j]? = some v → w.cell? ⟨b, o + j, none⟩ = some v
theorem At3.cells {w : World} {b o : Nat} {x : Rg} (h : At3 w b o x) :
  w.cell? ⟨b, o, none⟩ = some (.int .i64 x.at_) ∧ w.cell? ⟨b, o + 1, none⟩ = some (.int .i64 x.old) ∧ w.cell? ⟨b, o + 2, none⟩ = some (.int .i64 x.new) :=
 ⟨h 0 _ rfl, h 1 _ rfl, h 2 _ rfl⟩
theorem At3.keep {w w' : World} {b o : Nat} {x : Rg} (h : At3 w b o x) (hk : ∀ p, w'.cell? ⟨b, p, none⟩ = w.cell? ⟨b, p, none⟩) : At3 w' b o x := fun j v hv => (hk _).trans (h j v hv)
def RRow (w : World) (A : Option Addr) (n : Nat) (l : List Rg) : Prop :=
 l.length = n ∧ (0 < n → ∃ b off, A = some ⟨b, off, none⟩ ∧ b < w.heap.size ∧ ∀ j (h : j < l.length), At3 w b (off + j * 3) l[j])
section
variable {w w' : World} {A : Option Addr} {n : Nat} {l : List Rg}
theorem RRow.nil : RRow w A 0 [] := ⟨rfl, fun h => absurd h (by omega)⟩
theorem RRow.keep (h : RRow w A n l) (hs : w.heap.size ≤ w'.heap.size) (hk : ∀ p : Addr, p.block < w.heap.size → w'.cell? p = w.cell? p) : RRow w' A n l :=
 ⟨h.1, fun hn => by
  obtain ⟨b, off, e, hl, hc⟩ := h.2 hn
  exact ⟨b, off, e, Nat.lt_of_lt_of_le hl hs, fun j hj => (hc j hj).keep fun p => hk ⟨b, p, none⟩ hl⟩⟩
theorem RRow.below (h : RRow w A n l) (hb : Below w.heap.size w w') : RRow w' A n l := h.keep hb.size fun _ hp => hb.cell hp
theorem RRow.drewN (h : RRow w A n l) (m : Nat) : RRow (w.drewN m) A n l := h
theorem RRow.drew (h : RRow w A n l) : RRow w.drew A n l := h
theorem RRow.alloc (h : RRow w A n l) (o : Obj) : RRow (w.alloc o) A n l := h.below ((Below.refl _ _).alloc (Nat.le_refl _) _)
def Rgs (base : Nat) (W : World) (v : Value) (l : List Rg) : Prop := W.ownsRow base 78 3 v l.length (cells3 l)
variable {base : Nat} {v : Value}
theorem Rgs.nil : Rgs base w (.slice none 0 0) [] := World.ownsRow_nil _ _ _ _
theorem Rgs.drew (h : Rgs base w v l) : Rgs base w.drew v l := h
theorem Rgs.drewN (h : Rgs base w v l) (m : Nat) : Rgs base (w.drewN m) v l := h
theorem Rgs.block (h : Rgs base w v l) : ∀ g, v.ownBlock = some g → base ≤ g ∧ g < w.heap.size ∧ ∃ cs fr, w.heap[g]? = some (.cells cs 78 fr) := by
 intro g hg
 rcases h.2 with ⟨hv, _⟩ | ⟨g', cap, cur, hv, hb, hh, _⟩
 ·subst hv; cases hg
 ·subst hv
  simp only [Value.ownBlock, Option.some.injEq] at hg
  subst hg
  exact ⟨hb, (Array.getElem?_eq_some_iff.1 hh).1, _, _, hh⟩
theorem Rgs.row (h : Rgs base w v l) : ∃ A c, v = .slice A l.length c ∧ l.length ≤ c ∧ RRow w A l.length l := by
 have h' := h
 rcases h.2 with ⟨rfl, h0⟩ | ⟨g, cap, cur, rfl, hb, hg, hnc, hm, hs, ht⟩
 ·obtain rfl : l = [] := List.eq_nil_of_length_eq_zero h0
  exact ⟨none, 0, rfl, Nat.le_refl _, RRow.nil⟩
 ·have hgl : g < w.heap.size := (Array.getElem?_eq_some_iff.1 hg).1
  refine ⟨_, cap, rfl, hnc, rfl, fun hn => ⟨g, 0, rfl, hgl, fun j hj i u hu => ?_⟩⟩
  have hi : i < 3 := by
   have := (List.getElem?_eq_some_iff.1 hu).1
   rwa [rcells_length] at this
  rw [Nat.zero_add, World.ownsRow.cellAt h' _ (by omega), cells3_at l j hj i hi]
  exact hu
theorem Rgs.below (h : Rgs base w v l) {B : Nat} (hb : Below B w w') (hg : ∀ g, v.ownBlock = some g → g < B) : Rgs base w' v l := by
 refine ⟨h.1, ?_⟩
 rcases h.2 with hn | ⟨g, cap, cur, hv, h1, h2, r⟩
 ·exact .inl hn
 ·subst hv
  exact .inr ⟨g, cap, cur, rfl, h1, by rw [hb.block g (hg g rfl)]; exact h2, r⟩
theorem Rgs.belowAll (h : Rgs base w v l) (hb : Below w.heap.size w w') : Rgs base w' v l := h.below hb (fun g hg => (h.block g hg).2.1)
theorem Rgs.alloc (h : Rgs base w v l) (o : Obj) : Rgs base (w.alloc o) v l := h.belowAll ((Below.refl _ w).alloc (Nat.le_refl _) o)
theorem Rgs.set (h : Rgs base w v l) {b : Nat} (hb : b < base) (j : Nat) (u : Value) : Rgs base (w.setCell ⟨b, j, none⟩ u) v l := by
 refine ⟨h.1, ?_⟩
 rcases h.2 with hn | ⟨g, cap, cur, hv, h1, h2, r⟩
 ·exact .inl hn
 ·exact .inr ⟨g, cap, cur, hv, h1, by rw [Below.heap_setCell _ _ _ _ (by simp; omega)]; exact h2, r⟩
theorem Rgs.lower (h : Rgs base w v l) {base' : Nat} (hb : base' ≤ base) : Rgs base' w v l := by
 refine ⟨h.1, ?_⟩
 rcases h.2 with hn | ⟨g, cap, cur, hv, h1, r⟩
 ·exact .inl hn
 ·exact .inr ⟨g, cap, cur, hv, Nat.le_trans hb h1, r⟩
theorem Rgs.grown {row : Option Nat} (h : Rgs base w v l) (hg : w.grownBy w' row) (hne : ∀ g, v.ownBlock = some g → some g ≠ row) : Rgs base w' v l := by
 refine ⟨h.1, ?_⟩
 rcases h.2 with hn | ⟨g, cap, cur, hv, h1, h2, r⟩
 ·exact .inl hn
 ·subst hv
  exact .inr ⟨g, cap, cur, rfl, h1, by rw [hg.block g (Array.getElem?_eq_some_iff.1 h2).1 (hne g rfl)]; exact h2, r⟩
end
section
theorem tzero : (Try.prog.info? 78).map (fun i => (i.zero, i.size, i.bytes)) = some (some (rgV zeroRg), 3, 24) := by kernel_rfl
end
/-! == of ranges -/
end Go.Proofs.Ytlbkfenlbkibgaa.Sm
namespace Go.Proofs.Ytlbkfenlbkibgaa.Mem
open Go.RowKit
theorem tk {P : Program} {ops : Array Oper} {Q : Exit → Act → World → Prop} {md : Region.Mode} {S : World → Prop} (i : Nat) {oi : Oper} {v : Value} {fuel : Nat} {listed : Array Bool} {a : Act} {w : World} (hi : ops[i]? = some oi)
  (hb : (Region.noSelect ops && (Region.free md ops listed i && ((Region.ready md ops listed).contains i && Region.wanted oi (yielded ops a.tmps)))) = true)
  (hQ : ∀ c a w, Q (.panic c) (a.put oi.dst v) w → Q (.panic c) a w) (hy : ∀ w, S w → (execOp a.eval oi).run P w = .ok (.value v) w) (hS : S w)
  (h : wpAnyH P md ops Q S fuel (listed.setIfInBounds i true) (a.put oi.dst v) w) : wpAnyH P md ops Q S (fuel + 1) listed a w := by
 simp only [Bool.and_eq_true] at hb
 exact wpAnyH_take hi hb.1 hb.2.1 hb.2.2.1 hQ (Or.inl ⟨hb.2.2.2, hy⟩) hS h
end Go.Proofs.Ytlbkfenlbkibgaa.Mem
namespace Go.Proofs.Ytlbkfenlbkibgaa.Sm
open Go.RowKit Mem
def shO (r : Rg) (s : Int) : Obj := .cells #[.int .i64 r.at_, .int .i64 r.old, .int .i64 r.new, .int .i64 s] 159
def shV (r : Rg) (s : Int) : Value := .agg #[.int .i64 r.at_, .int .i64 r.old, .int .i64 r.new, .int .i64 s]
def far (s : Int) : Prop := -1099511627776 ≤ s ∧ s ≤ 1099511627776
theorem end_any (r : Rg) (s : Int) (hr : r.fits) (w : World) : Calls Try.prog 91 #[shV r s] w fun e w' => e = .returned (.int .i64 (r.at_ + r.old)) ∧ w' = w.alloc (shO r s) := by
 obtain ⟨a, o, n⟩ := r
 unfold Rg.fits at hr
 unfold shV shO
 simp only at hr ⊢
 go_enter Try.func91, Try.ntmps91
 go_wp2
 go_ret
 exact ⟨rfl, rfl⟩
theorem behind_any (r : Rg) (s : Int) (hr : r.fits) (hs : far s) (w : World) : Calls Try.prog 92 #[shV r s] w fun e w' => e = .returned (.int .i64 (s + r.new - r.old)) ∧ w' = w.alloc (shO r s) := by
 obtain ⟨a, o, n⟩ := r
 unfold Rg.fits at hr
 unfold far at hs
 unfold shV shO
 simp only at hr ⊢
 go_enter Try.func92, Try.ntmps92
 go_wp2
 go_ret
 exact ⟨rfl, rfl⟩
end Go.Proofs.Ytlbkfenlbkibgaa.Sm
