/- A slice of integers that is read, whatever it is: nil, empty, or not; nothing of the program. -/
import Derived.WalkKit
import Derived.ProofKit
import Derived.Laws.BytesArg
import Derived.Laws.OwnMore
import Derived.Laws.DeepBits32
import Derived.Deep.Draws
import Derived.OwnWalk
import Derived.Maps.AppendAt
import Derived.Deep.AppendLies
import Derived.StillTailTactics
import Derived.Deep.RegionHeld3
set_option linter.unusedVariables false
namespace Go.Proofs.Ytlbkfenlbkibgaa.Mem
open Go.RowKit
def Row (k : IntKind) (w : World) (A : Option Addr) (n : Nat) (zs : List Int) : Prop :=
 zs.length = n ∧ (∀ z ∈ zs, (Lit.int k z).wf = true) ∧ (0 < n → ∃ b off, A = some ⟨b, off, none⟩ ∧ ∀ j, j < n → w.cell? ⟨b, off + j, none⟩ = some (.int k (zs.getD j 0)))
section
variable {k : IntKind} {w w' : World} {A : Option Addr} {n : Nat} {zs : List Int}
theorem Row.at_ (h : Row k w A n zs) (hn : 0 < n) : ∃ b off, A = some ⟨b, off, none⟩ ∧ b < w.heap.size ∧ ∀ j, j < n → w.cell? ⟨b, off + j, none⟩ = some (.int k (zs.getD j 0)) := by
 obtain ⟨b, off, e, hc⟩ := h.2.2 hn
 exact ⟨b, off, e, World.block_lt_of_cell? w _ (hc 0 hn), hc⟩
theorem Row.keep (h : Row k w A n zs) (hk : ∀ p : Addr, p.block < w.heap.size → w'.cell? p = w.cell? p) : Row k w' A n zs :=
 ⟨h.1, h.2.1, fun hn => by
  obtain ⟨b, off, e, hb, hc⟩ := h.at_ hn
  exact ⟨b, off, e, fun j hj => (hk ⟨b, off + j, none⟩ hb).trans (hc j hj)⟩⟩
theorem Row.below (h : Row k w A n zs) (hb : Below w.heap.size w w') : Row k w' A n zs := h.keep fun _ hp => hb.cell hp
theorem Row.drew (h : Row k w A n zs) : Row k w.drew A n zs := h
theorem Row.drewN (h : Row k w A n zs) (m : Nat) : Row k (w.drewN m) A n zs := h
theorem Row.alloc (h : Row k w A n zs) (o : Obj) : Row k (w.alloc o) A n zs := h.keep fun p hp => World.cell?_alloc_lt w o p hp
theorem Row.nil : Row k w A 0 [] := ⟨rfl, (fun _ h => by cases h), fun h => absurd h (by omega)⟩
theorem Row.wf_getD (h : Row k w A n zs) (j : Nat) (hj : j < n) : (Lit.int k (zs.getD j 0)).wf = true := by
 have hl : j < zs.length := by rw [h.1]; exact hj
 have : zs.getD j 0 = zs[j] := by simp [List.getD, List.getElem?_eq_getElem hl]
 rw [this]; exact h.2.1 _ (List.getElem_mem hl)
end
theorem below_drewN {B : Nat} {a w : World} (h : Below B a w) (n : Nat) : Below B a (w.drewN n) := ⟨h.os, h.tape, h.output, h.size, h.block⟩
end Go.Proofs.Ytlbkfenlbkibgaa.Mem
namespace Go.Proofs.Ytlbkfenlbkibgaa.Mem
open Go.RowKit
section
variable {P : Program}
theorem run_app_nil {w : World} {base : Nat} (t ty e : TypeId) (i : TypeInfo) (size : Nat) (ht : P.underlying t = some (.slice e)) (hi : P.info? e = some i)
  {v : Value} {n : Nat} {xs : List Value} (hown : w.ownsRow base e size v n xs) (c : Nat) : (Builtin.append_ #[t, t] ty #[v, .slice none 0 c]).run P w = .ok v w := by
 rcases hown.2 with ⟨rfl, rfl⟩ | ⟨g, cap, cur, rfl, _, _, hnc, _⟩
 ·simp [Builtin.append_, run_underlying ht, sizeOf, typeInfo, hi, Builtin.lenOf, Builtin.firstCells]
 ·simp [Builtin.append_, run_underlying ht, sizeOf, typeInfo, hi, Builtin.lenOf, Builtin.firstCells, hnc, storeCells]
end
theorem below_of_grown {a b c : World} {B : Nat} {row : Option Nat} (h : Below B a b) (k : b.grownBy c row) (hB : B ≤ b.heap.size) (hr : ∀ i, row = some i → B ≤ i) : Below B a c := h.grown k hB hr
end Go.Proofs.Ytlbkfenlbkibgaa.Mem
namespace Go.Proofs.Ytlbkfenlbkibgaa.Sm
structure Rg where
 at_ : Int
 old : Int
 new : Int
 deriving DecidableEq
def zeroRg : Rg := ⟨0, 0, 0⟩
def rg (l : List Rg) (i : Nat) : Rg := l.getD i zeroRg
theorem rg_at (l : List Rg) (i : Nat) (h : i < l.length) : rg l i = l[i] := by simp [rg, List.getD, List.getElem?_eq_getElem h]
def Rg.fits (r : Rg) : Prop := (0 ≤ r.at_ ∧ r.at_ ≤ 1073741824) ∧ (0 ≤ r.old ∧ r.old ≤ 1073741824) ∧ (0 ≤ r.new ∧ r.new ≤ 1073741824)
def okAt (l : List Rg) (i : Nat) : Prop := (rg l i).fits ∧ (0 < i → (rg l (i - 1)).at_ + (rg l (i - 1)).old < (rg l i).at_)
def okTo (l : List Rg) (n : Nat) : Prop := ∀ i, i < n → okAt l i
theorem okTo_zero (l : List Rg) : okTo l 0 := fun i h => absurd h (by omega)
theorem okTo_succ {l : List Rg} {n : Nat} (h : okTo l n) (h' : okAt l n) : okTo l (n + 1) := by
 intro i hi
 rcases Nat.lt_succ_iff_lt_or_eq.1 hi with h1 | rfl
 ·exact h i h1
 ·exact h'
theorem okTo.mono {l : List Rg} {n m : Nat} (h : okTo l n) (hm : m ≤ n) : okTo l m := fun i hi => h i (by omega)
noncomputable def rightB (l : List Rg) : Bool := @decide (okTo l l.length) (Classical.propDecidable _)
theorem rightB_true {l : List Rg} (h : okTo l l.length) : rightB l = true := @decide_eq_true _ (Classical.propDecidable _) h
theorem rightB_false {l : List Rg} {i : Nat} (hi : i < l.length) (h : ¬ okAt l i) : rightB l = false := @decide_eq_false _ (Classical.propDecidable _) (fun g => h (g i hi))
theorem right_of {l : List Rg} (h : rightB l = true) : okTo l l.length := @of_decide_eq_true _ (Classical.propDecidable _) h
def sh (l : List Rg) : Nat → Int
 | 0 => 0
 | n + 1 => sh l n + (rg l n).new - (rg l n).old
theorem sh_succ (l : List Rg) (n : Nat) : sh l (n + 1) = sh l n + (rg l n).new - (rg l n).old := rfl
theorem sh_bound {l : List Rg} : ∀ n : Nat, okTo l n → -(1073741824 * (n : Int)) ≤ sh l n ∧ sh l n ≤ 1073741824 * (n : Int)
 | 0, _ => by simp [sh]
 | n + 1, h => by
  have ih := sh_bound n (h.mono (by omega))
  have f := (h n (by omega)).1
  unfold Rg.fits at f
  rw [sh_succ]
  omega
theorem sh_low {l : List Rg} : ∀ n : Nat, okTo l (n + 1) → 0 ≤ (rg l n).at_ + sh l n
 | 0, h => by have f := (h 0 (by omega)).1; unfold Rg.fits at f; simp [sh]; omega
 | n + 1, h => by
  have ih := sh_low n (h.mono (by omega))
  have f := (h n (by omega)).1
  have g := (h (n + 1) (by omega))
  have g2 := g.2 (by omega)
  have g1 := g.1
  unfold Rg.fits at f g1
  simp only [Nat.add_sub_cancel] at g2
  rw [sh_succ]
  omega
def fi (l : List Rg) (pos : Int) : Nat := l.findIdx fun r => decide (pos ≤ r.at_ + r.old)
theorem fi_le (l : List Rg) (pos : Int) : fi l pos ≤ l.length := List.findIdx_le_length
theorem fi_below (l : List Rg) (pos : Int) (j : Nat) (h : j < fi l pos) : (rg l j).at_ + (rg l j).old < pos := by
 have hl : j < l.length := Nat.lt_of_lt_of_le h (fi_le l pos)
 have := List.not_of_lt_findIdx h
 rw [rg_at l j hl]
 simp at this
 omega
theorem fi_at (l : List Rg) (pos : Int) (h : fi l pos < l.length) : pos ≤ (rg l (fi l pos)).at_ + (rg l (fi l pos)).old := by
 have := List.findIdx_getElem (w := h)
 rw [rg_at _ _ h]
 exact of_decide_eq_true this
theorem fi_eq {l : List Rg} {pos : Int} {i : Nat} (hi : i ≤ l.length) (h1 : ∀ j, j < i → (rg l j).at_ + (rg l j).old < pos) (h2 : i < l.length → pos ≤ (rg l i).at_ + (rg l i).old) : fi l pos = i := by
 rcases Nat.lt_trichotomy (fi l pos) i with h | h | h
 ·have := fi_at l pos (by omega)
  have := h1 _ h
  omega
 ·exact h
 ·have := fi_below l pos i h
  have := h2 (by have := fi_le l pos; omega)
  omega
structure Pl where
 pos : Int
 gone : Bool
 inside : Bool
 rng : Int
 off : Int
 deriving DecidableEq
def toEnd (r : Rg) (pos side : Int) : Bool := ((pos == r.at_ + r.old) && decide (0 < r.old)) || (((pos != r.at_) && decide (0 ≤ side)) || ((r.old == 0) && decide (0 ≤ side)))
def toI (r : Rg) (s pos side : Int) : Int := if toEnd r pos side = true then r.at_ + s + r.new else r.at_ + s
def goneB (r : Rg) (pos side : Int) : Bool := if side < 0 then decide (r.at_ < pos) && decide (pos ≤ r.at_ + r.old) else decide (r.at_ ≤ pos) && decide (pos < r.at_ + r.old)
def insideB (r : Rg) (pos : Int) : Bool := decide (r.at_ < pos) && decide (pos < r.at_ + r.old)
def tellR (r : Rg) (s : Int) (i : Nat) (pos side : Int) : Pl := if goneB r pos side = true then ⟨toI r s pos side, true, insideB r pos, i, pos - r.at_⟩ else ⟨toI r s pos side, false, insideB r pos, 0, 0⟩
def tellAt (l : List Rg) (i : Nat) (pos side : Int) : Pl := if i = l.length ∨ pos < (rg l i).at_ then ⟨pos + sh l i, false, false, 0, 0⟩ else tellR (rg l i) (sh l i) i pos side
def tell (l : List Rg) (pos side : Int) : Pl := tellAt l (fi l pos) pos side
theorem tell_eq {l : List Rg} {pos side : Int} {i : Nat} (hi : i ≤ l.length) (h1 : ∀ j, j < i → (rg l j).at_ + (rg l j).old < pos) (h2 : i < l.length → pos ≤ (rg l i).at_ + (rg l i).old) : tell l pos side = tellAt l i pos side := by
 unfold tell; rw [fi_eq hi h1 h2]
end Go.Proofs.Ytlbkfenlbkibgaa.Sm
