/- Position maps as plain lists: which are right, shifts, places; nothing of the program. Rows of ranges in memory, three cells each: read, the call's own, appended to; ranges held against each other. An operation of a region that draws its order is taken first, by hand; nothing of the program. Walks of smap: fits, May, a shifted range's end, at, behind. -/
import Derived.Test.YtmhngehpddfccaaOwn
import Derived.Test.YtmhngehpddfccaaRows
import Derived.WalkKit
import Derived.ProofKit
import Derived.WalkSpells
import Derived.WalkLawsBesides
import Derived.BigQuiet
import Derived.Maps.AppendAt
import Derived.ChangeKeysEq
import Derived.Laws.StructEq
import Derived.Below
import Derived.Lib.Hide
import Derived.OrdersHeld
import Derived.KernelRfl
import Derived.Deep.Cut
import Derived.Deep.CutRange
namespace Go.Proofs.Ytmhngehpddfccaa.Sm
set_option linter.unusedVariables false

structure Rg where
  at_ : Int
  old : Int
  new : Int
  deriving DecidableEq
def zeroRg : Rg := ⟨0, 0, 0⟩
def rg (l : List Rg) (i : Nat) : Rg := l.getD i zeroRg
theorem rg_at (l : List Rg) (i : Nat) (h : i < l.length) : rg l i = l[i] := by simp [rg, List.getD, List.getElem?_eq_getElem h]
def Rg.fits (r : Rg) : Prop := (0 ≤ r.at_ ∧ r.at_ ≤ 1073741824) ∧ (0 ≤ r.old ∧ r.old ≤ 1073741824) ∧ (0 ≤ r.new ∧ r.new ≤ 1073741824)
def okAt (l : List Rg) (i : Nat) : Prop := (rg l i).fits ∧ (0 < i → (rg l (i - 1)).at_ + (rg l (i - 1)).old < (rg l i).at_)
def okTo (l : List Rg) (n : Nat) : Prop := ∀ i, i < n → okAt l i
theorem okTo_zero (l : List Rg) : okTo l 0 := fun i h => absurd h (by omega)
theorem okTo_succ {l : List Rg} {n : Nat} (h : okTo l n) (h' : okAt l n) : okTo l (n + 1) := by
  intro i hi
  rcases Nat.lt_succ_iff_lt_or_eq.1 hi with h1 | rfl
  · exact h i h1
  · exact h'
theorem okTo.mono {l : List Rg} {n m : Nat} (h : okTo l n) (hm : m ≤ n) : okTo l m := fun i hi => h i (by omega)
/-- is it right? -/
noncomputable def rightB (l : List Rg) : Bool := @decide (okTo l l.length) (Classical.propDecidable _)
theorem rightB_true {l : List Rg} (h : okTo l l.length) : rightB l = true := @decide_eq_true _ (Classical.propDecidable _) h
theorem rightB_false {l : List Rg} {i : Nat} (hi : i < l.length) (h : ¬ okAt l i) : rightB l = false := @decide_eq_false _ (Classical.propDecidable _) (fun g => h (g i hi))
theorem right_of {l : List Rg} (h : rightB l = true) : okTo l l.length := @of_decide_eq_true _ (Classical.propDecidable _) h
theorem rightB_iff {l : List Rg} : rightB l = true ↔ okTo l l.length := ⟨right_of, rightB_true⟩

def sh (l : List Rg) : Nat → Int
  | 0 => 0
  | n + 1 => sh l n + (rg l n).new - (rg l n).old
theorem sh_succ (l : List Rg) (n : Nat) : sh l (n + 1) = sh l n + (rg l n).new - (rg l n).old := rfl
theorem sh_bound {l : List Rg} : ∀ n : Nat, okTo l n → -(1073741824 * (n : Int)) ≤ sh l n ∧ sh l n ≤ 1073741824 * (n : Int)
  | 0, _ => by simp [sh]
  | n + 1, h => by
    have ih := sh_bound n (h.mono (by omega))
    have f := (h n (by omega)).1
    unfold Rg.fits at f
    rw [sh_succ]
    omega
/-- no range begins below the shift -/
theorem sh_low {l : List Rg} : ∀ n : Nat, okTo l (n + 1) → 0 ≤ (rg l n).at_ + sh l n
  | 0, h => by have f := (h 0 (by omega)).1; unfold Rg.fits at f; simp [sh]; omega
  | n + 1, h => by
    have ih := sh_low n (h.mono (by omega))
    have f := (h n (by omega)).1
    have g := (h (n + 1) (by omega))
    have g2 := g.2 (by omega)
    have g1 := g.1
    unfold Rg.fits at f g1
    simp only [Nat.add_sub_cancel] at g2
    rw [sh_succ]
    omega
/-- ends rise -/
theorem ends_lt {l : List Rg} {n : Nat} (h : okTo l n) : ∀ j i : Nat, i < j → j < n → (rg l i).at_ + (rg l i).old < (rg l j).at_
  | 0, i, hi, _ => absurd hi (by omega)
  | j + 1, i, hi, hj => by
    have g := (h (j + 1) hj).2 (by omega)
    simp only [Nat.add_sub_cancel] at g
    rcases Nat.lt_succ_iff_lt_or_eq.1 hi with h1 | rfl
    · have ih := ends_lt h j i h1 (by omega)
      have f := (h j (by omega)).1
      unfold Rg.fits at f
      omega
    · exact g

/-- the first range whose end isn't below a position -/
def fi (l : List Rg) (pos : Int) : Nat := l.findIdx fun r => decide (pos ≤ r.at_ + r.old)
theorem fi_le (l : List Rg) (pos : Int) : fi l pos ≤ l.length := List.findIdx_le_length
theorem fi_below (l : List Rg) (pos : Int) (j : Nat) (h : j < fi l pos) : (rg l j).at_ + (rg l j).old < pos := by
  have hl : j < l.length := Nat.lt_of_lt_of_le h (fi_le l pos)
  have := List.not_of_lt_findIdx h
  rw [rg_at l j hl]
  simp at this
  omega
theorem fi_at (l : List Rg) (pos : Int) (h : fi l pos < l.length) : pos ≤ (rg l (fi l pos)).at_ + (rg l (fi l pos)).old := by
  have := List.findIdx_getElem (w := h)
  rw [rg_at _ _ h]
  exact of_decide_eq_true this
theorem fi_eq {l : List Rg} {pos : Int} {i : Nat} (hi : i ≤ l.length) (h1 : ∀ j, j < i → (rg l j).at_ + (rg l j).old < pos) (h2 : i < l.length → pos ≤ (rg l i).at_ + (rg l i).old) : fi l pos = i := by
  rcases Nat.lt_trichotomy (fi l pos) i with h | h | h
  · have := fi_at l pos (by omega)
    have := h1 _ h
    omega
  · exact h
  · have := fi_below l pos i h
    have := h2 (by have := fi_le l pos; omega)
    omega

structure Pl where
  pos : Int
  gone : Bool
  inside : Bool
  rng : Int
  off : Int
  deriving DecidableEq
def toEnd (r : Rg) (pos side : Int) : Bool := ((pos == r.at_ + r.old) && decide (0 < r.old)) || (((pos != r.at_) && decide (0 ≤ side)) || ((r.old == 0) && decide (0 ≤ side)))
def toI (r : Rg) (s pos side : Int) : Int := if toEnd r pos side = true then r.at_ + s + r.new else r.at_ + s
def goneB (r : Rg) (pos side : Int) : Bool := if side < 0 then decide (r.at_ < pos) && decide (pos ≤ r.at_ + r.old) else decide (r.at_ ≤ pos) && decide (pos < r.at_ + r.old)
def insideB (r : Rg) (pos : Int) : Bool := decide (r.at_ < pos) && decide (pos < r.at_ + r.old)
def tellR (r : Rg) (s : Int) (i : Nat) (pos side : Int) : Pl := if goneB r pos side = true then ⟨toI r s pos side, true, insideB r pos, i, pos - r.at_⟩ else ⟨toI r s pos side, false, insideB r pos, 0, 0⟩
def tellAt (l : List Rg) (i : Nat) (pos side : Int) : Pl := if i = l.length ∨ pos < (rg l i).at_ then ⟨pos + sh l i, false, false, 0, 0⟩ else tellR (rg l i) (sh l i) i pos side
def tell (l : List Rg) (pos side : Int) : Pl := tellAt l (fi l pos) pos side
theorem tell_eq {l : List Rg} {pos side : Int} {i : Nat} (hi : i ≤ l.length) (h1 : ∀ j, j < i → (rg l j).at_ + (rg l j).old < pos) (h2 : i < l.length → pos ≤ (rg l i).at_ + (rg l i).old) : tell l pos side = tellAt l i pos side := by
  unfold tell; rw [fi_eq hi h1 h2]

/-- the map the other way, as far as n -/
def invTo (l : List Rg) : Nat → List Rg
  | 0 => []
  | n + 1 => invTo l n ++ [⟨(rg l n).at_ + sh l n, (rg l n).new, (rg l n).old⟩]
def inv (l : List Rg) : List Rg := invTo l l.length
theorem invTo_length (l : List Rg) : ∀ n, (invTo l n).length = n
  | 0 => rfl
  | n + 1 => by simp [invTo, invTo_length l n]
theorem inv_length (l : List Rg) : (inv l).length = l.length := invTo_length l _
theorem invTo_rg (l : List Rg) : ∀ n i, i < n → rg (invTo l n) i = ⟨(rg l i).at_ + sh l i, (rg l i).new, (rg l i).old⟩
  | 0, i, h => absurd h (by omega)
  | n + 1, i, h => by
    have hl := invTo_length l n
    rcases Nat.lt_succ_iff_lt_or_eq.1 h with h1 | rfl
    · have ih := invTo_rg l n i h1
      rw [← ih]
      simp only [rg, invTo, List.getD]
      rw [List.getElem?_append_left (by omega)]
    · simp only [rg, invTo, List.getD]
      rw [List.getElem?_append_right (by omega), hl]
      simp
theorem inv_rg (l : List Rg) (i : Nat) (h : i < l.length) : rg (inv l) i = ⟨(rg l i).at_ + sh l i, (rg l i).new, (rg l i).old⟩ := invTo_rg l _ i h
theorem inv_sh (l : List Rg) : ∀ n, n ≤ l.length → sh (inv l) n = - sh l n
  | 0, _ => by simp [sh]
  | n + 1, h => by rw [sh_succ, sh_succ, inv_sh l n (by omega), inv_rg l n (by omega)]; simp only; omega
theorem ext_rg {l m : List Rg} (h : l.length = m.length) (hr : ∀ i, i < l.length → rg l i = rg m i) : l = m := by
  apply List.ext_getElem h
  intro i h1 h2
  have := hr i h1
  rwa [rg_at l i h1, rg_at m i h2] at this
theorem inv_inv (l : List Rg) : inv (inv l) = l := by
  apply ext_rg (by rw [inv_length, inv_length])
  intro i hi
  rw [inv_length, inv_length] at hi
  rw [inv_rg _ i (by rw [inv_length]; exact hi), inv_rg l i hi, inv_sh l i (by omega)]
  cases rg l i with | mk a b c => congr 1; simp only; omega
/-- of a right map the other way's ranges are in order, and within bounds but for their begins' upper one -/
theorem inv_at {l : List Rg} (h : okTo l l.length) (i : Nat) (hi : i < l.length) (hlow : (rg (inv l) i).at_ ≤ 1073741824) : okAt (inv l) i := by
  have f := (h i hi).1
  have hl := sh_low i (h.mono (by omega))
  rw [okAt, inv_rg l i hi] at *
  refine ⟨?_, fun h0 => ?_⟩
  · unfold Rg.fits at f ⊢
    simp only at hlow ⊢
    omega
  · obtain ⟨k, rfl⟩ : ∃ k, i = k + 1 := ⟨i - 1, by omega⟩
    have g := (h (k + 1) hi).2 (by omega)
    simp only [Nat.add_sub_cancel] at g ⊢
    rw [inv_rg l k (by omega)]
    simp only
    rw [sh_succ]
    omega
theorem inv_right {l : List Rg} (h : okTo l l.length) (hlow : ∀ i, i < l.length → (rg (inv l) i).at_ ≤ 1073741824) : okTo (inv l) (inv l).length := by
  intro i hi
  rw [inv_length] at hi
  exact inv_at h i hi (hlow i hi)
end Go.Proofs.Ytmhngehpddfccaa.Sm
namespace Go.Proofs.Ytmhngehpddfccaa.Sm
open Go.RowKit Mem
set_option linter.unusedVariables false

theorem ret_bool {a b : Bool} (h : a = b) : Ending.returned (.bool a) = .returned (.bool b) := by rw [h]
theorem ret_int {k : IntKind} {a b : Int} (h : a = b) : Ending.returned (.int k a) = .returned (.int k b) := by rw [h]
def rcells (x : Rg) : List Value := [.int .i64 x.at_, .int .i64 x.old, .int .i64 x.new]
def rgV (x : Rg) : Value := .agg #[.int .i64 x.at_, .int .i64 x.old, .int .i64 x.new]
theorem rcells_length (x : Rg) : (rcells x).length = 3 := rfl
def cells3 (l : List Rg) : List Value := l.flatMap rcells
theorem cells3_nil : cells3 [] = [] := rfl
theorem cells3_cons (x : Rg) (l : List Rg) : cells3 (x :: l) = rcells x ++ cells3 l := rfl
theorem cells3_append (h k : List Rg) : cells3 (h ++ k) = cells3 h ++ cells3 k := by simp [cells3]
theorem cells3_length (l : List Rg) : (cells3 l).length = l.length * 3 := by
  induction l with
  | nil => rfl
  | cons a l ih => rw [cells3_cons, List.length_append, ih, rcells_length, List.length_cons]; omega
theorem cells3_at (l : List Rg) : ∀ i (h : i < l.length) j, j < 3 → (cells3 l)[i * 3 + j]? = (rcells l[i])[j]? := by
  induction l with
  | nil => intro i hi; simp at hi
  | cons a l ih =>
    intro i hi j hj
    rw [cells3_cons]
    cases i with
    | zero => rw [Nat.zero_mul, Nat.zero_add, List.getElem?_append_left (by rw [rcells_length]; exact hj)]; rfl
    | succ i =>
      rw [List.getElem?_append_right (by rw [rcells_length]; omega), rcells_length, show (i + 1) * 3 + j - 3 = i * 3 + j by omega, ih i (by simpa using hi) j hj]
      rfl
theorem cells3_one (l : List Rg) : ∀ u ∈ cells3 l, u.oneCell' = true := by
  intro u hu
  obtain ⟨x, _, hx⟩ := List.mem_flatMap.1 hu
  simp only [rcells, List.mem_cons, List.not_mem_nil, or_false] at hx
  rcases hx with rfl | rfl | rfl <;> rfl

/-- the cells of one token -/
def At3 (w : World) (b o : Nat) (x : Rg) : Prop := ∀ j v, (rcells x)[j]? = some v → w.cell? ⟨b, o + j, none⟩ = some v
theorem At3.cells {w : World} {b o : Nat} {x : Rg} (h : At3 w b o x) :
    w.cell? ⟨b, o, none⟩ = some (.int .i64 x.at_) ∧ w.cell? ⟨b, o + 1, none⟩ = some (.int .i64 x.old) ∧ w.cell? ⟨b, o + 2, none⟩ = some (.int .i64 x.new) :=
  ⟨h 0 _ rfl, h 1 _ rfl, h 2 _ rfl⟩
theorem At3.keep {w w' : World} {b o : Nat} {x : Rg} (h : At3 w b o x) (hk : ∀ p, w'.cell? ⟨b, p, none⟩ = w.cell? ⟨b, p, none⟩) : At3 w' b o x := fun j v hv => (hk _).trans (h j v hv)
/-- the slice at A of n tokens -/
def RRow (w : World) (A : Option Addr) (n : Nat) (l : List Rg) : Prop :=
  l.length = n ∧ (0 < n → ∃ b off, A = some ⟨b, off, none⟩ ∧ b < w.heap.size ∧ ∀ j (h : j < l.length), At3 w b (off + j * 3) l[j])
section
variable {w w' : World} {A : Option Addr} {n : Nat} {l : List Rg}
theorem RRow.nil : RRow w A 0 [] := ⟨rfl, fun h => absurd h (by omega)⟩
theorem RRow.keep (h : RRow w A n l) (hs : w.heap.size ≤ w'.heap.size) (hk : ∀ p : Addr, p.block < w.heap.size → w'.cell? p = w.cell? p) : RRow w' A n l :=
  ⟨h.1, fun hn => by
    obtain ⟨b, off, e, hl, hc⟩ := h.2 hn
    exact ⟨b, off, e, Nat.lt_of_lt_of_le hl hs, fun j hj => (hc j hj).keep fun p => hk ⟨b, p, none⟩ hl⟩⟩
theorem RRow.below (h : RRow w A n l) (hb : Below w.heap.size w w') : RRow w' A n l := h.keep hb.size fun _ hp => hb.cell hp
theorem RRow.drewN (h : RRow w A n l) (m : Nat) : RRow (w.drewN m) A n l := h
theorem RRow.drew (h : RRow w A n l) : RRow w.drew A n l := h
theorem RRow.alloc (h : RRow w A n l) (o : Obj) : RRow (w.alloc o) A n l := h.below ((Below.refl _ _).alloc (Nat.le_refl _) _)
theorem RRow.news {b off : Nat} (h : RRow w (some ⟨b, off, none⟩) n l) : ∀ j u, (cells3 l)[j]? = some u → w.cell? ((⟨b, off, none⟩ : Addr).add j) = some u := by
  intro j u hu
  have hj : j < l.length * 3 := by
    rcases Nat.lt_or_ge j (l.length * 3) with h1 | h1
    · exact h1
    · rw [List.getElem?_eq_none (by rw [cells3_length]; exact h1)] at hu; cases hu
  obtain ⟨b', off', e, _, hc⟩ := h.2 (by have := h.1; omega)
  injection e with e
  injection e with e1 e2 e3
  subst e1; subst e2
  have hp : (⟨b, off, none⟩ : Addr).add j = ⟨b, off + j, none⟩ := by unfold Addr.add; split <;> simp_all
  rw [hp]
  have hjd : j = j / 3 * 3 + j % 3 := by omega
  rw [hjd, cells3_at l (j / 3) (by omega) (j % 3) (by omega)] at hu
  have := hc (j / 3) (by omega) (j % 3) u hu
  rw [hjd, ← Nat.add_assoc]; exact this

/-- tokens, a row of the call's own -/
def Rgs (base : Nat) (W : World) (v : Value) (l : List Rg) : Prop := W.ownsRow base 64 3 v l.length (cells3 l)
variable {base : Nat} {v : Value}
theorem Rgs.nil : Rgs base w (.slice none 0 0) [] := World.ownsRow_nil _ _ _ _
theorem Rgs.drew (h : Rgs base w v l) : Rgs base w.drew v l := h
theorem Rgs.drewN (h : Rgs base w v l) (m : Nat) : Rgs base (w.drewN m) v l := h
theorem Rgs.block (h : Rgs base w v l) : ∀ g, v.ownBlock = some g → base ≤ g ∧ g < w.heap.size ∧ ∃ cs fr, w.heap[g]? = some (.cells cs 64 fr) := by
  intro g hg
  rcases h.2 with ⟨hv, _⟩ | ⟨g', cap, cur, hv, hb, hh, _⟩
  · subst hv; cases hg
  · subst hv
    simp only [Value.ownBlock, Option.some.injEq] at hg
    subst hg
    exact ⟨hb, (Array.getElem?_eq_some_iff.1 hh).1, _, _, hh⟩
theorem Rgs.row (h : Rgs base w v l) : ∃ A c, v = .slice A l.length c ∧ l.length ≤ c ∧ RRow w A l.length l := by
  have h' := h
  rcases h.2 with ⟨rfl, h0⟩ | ⟨g, cap, cur, rfl, hb, hg, hnc, hm, hs, ht⟩
  · obtain rfl : l = [] := List.eq_nil_of_length_eq_zero h0
    exact ⟨none, 0, rfl, Nat.le_refl _, RRow.nil⟩
  · have hgl : g < w.heap.size := (Array.getElem?_eq_some_iff.1 hg).1
    refine ⟨_, cap, rfl, hnc, rfl, fun hn => ⟨g, 0, rfl, hgl, fun j hj i u hu => ?_⟩⟩
    have hi : i < 3 := by
      have := (List.getElem?_eq_some_iff.1 hu).1
      rwa [rcells_length] at this
    rw [Nat.zero_add, World.ownsRow.cellAt h' _ (by omega), cells3_at l j hj i hi]
    exact hu
theorem Rgs.form (h : Rgs base w v l) : ∃ A c, v = .slice A l.length c := by
  obtain ⟨A, c, e, _⟩ := h.row; exact ⟨A, c, e⟩
theorem Rgs.below (h : Rgs base w v l) {B : Nat} (hb : Below B w w') (hg : ∀ g, v.ownBlock = some g → g < B) : Rgs base w' v l := by
  refine ⟨h.1, ?_⟩
  rcases h.2 with hn | ⟨g, cap, cur, hv, h1, h2, r⟩
  · exact .inl hn
  · subst hv
    exact .inr ⟨g, cap, cur, rfl, h1, by rw [hb.block g (hg g rfl)]; exact h2, r⟩
theorem Rgs.belowAll (h : Rgs base w v l) (hb : Below w.heap.size w w') : Rgs base w' v l := h.below hb (fun g hg => (h.block g hg).2.1)
theorem Rgs.alloc (h : Rgs base w v l) (o : Obj) : Rgs base (w.alloc o) v l := h.belowAll ((Below.refl _ w).alloc (Nat.le_refl _) o)
theorem Rgs.set (h : Rgs base w v l) {b : Nat} (hb : b < base) (j : Nat) (u : Value) : Rgs base (w.setCell ⟨b, j, none⟩ u) v l := by
  refine ⟨h.1, ?_⟩
  rcases h.2 with hn | ⟨g, cap, cur, hv, h1, h2, r⟩
  · exact .inl hn
  · exact .inr ⟨g, cap, cur, hv, h1, by rw [Below.heap_setCell _ _ _ _ (by simp; omega)]; exact h2, r⟩
theorem Rgs.lower (h : Rgs base w v l) {base' : Nat} (hb : base' ≤ base) : Rgs base' w v l := by
  refine ⟨h.1, ?_⟩
  rcases h.2 with hn | ⟨g, cap, cur, hv, h1, r⟩
  · exact .inl hn
  · exact .inr ⟨g, cap, cur, hv, Nat.le_trans hb h1, r⟩
theorem Rgs.grown {row : Option Nat} (h : Rgs base w v l) (hg : w.grownBy w' row) (hne : ∀ g, v.ownBlock = some g → some g ≠ row) : Rgs base w' v l := by
  refine ⟨h.1, ?_⟩
  rcases h.2 with hn | ⟨g, cap, cur, hv, h1, h2, r⟩
  · exact .inl hn
  · subst hv
    exact .inr ⟨g, cap, cur, rfl, h1, by rw [hg.block g (Array.getElem?_eq_some_iff.1 h2).1 (hne g rfl)]; exact h2, r⟩
end

section
theorem tzero : (Try.prog.info? 64).map (fun i => (i.zero, i.size, i.bytes)) = some (some (rgV zeroRg), 3, 24) := by kernel_rfl
theorem run_app_rg {w : World} {base : Nat} (ty : TypeId) {v : Value} {l : List Rg} (hown : Rgs base w v l) {A : Option Addr} {m : Nat} (c : Nat) {y : List Rg} (hr : RRow w A m y) (hbig : l.length + m ≤ 1000000000) (hbase : base ≤ w.heap.size) :
    ∃ v' w', (Builtin.append_ #[39, 39] ty #[v, .slice A m c]).run Try.prog w = .ok v' w' ∧ Rgs base w' v' (l ++ y) ∧ w.grownBy w' v.ownBlock ∧ (v'.ownBlock = v.ownBlock ∨ v'.ownBlock = some w.heap.size) := by
  obtain ⟨i, hi, hiz, his, hib⟩ := info_parts tzero
  rcases A with _ | ⟨b, off, spot⟩
  · have hm : m = 0 := by
      rcases Nat.eq_zero_or_pos m with h0 | h0
      · exact h0
      · obtain ⟨_, _, h, _⟩ := hr.2 h0
        cases h
    subst hm
    obtain rfl : y = [] := List.eq_nil_of_length_eq_zero hr.1
    exact ⟨v, w, run_app_nil 39 ty 64 i 3 Try.underlying39 hi hown c, by simpa using hown, World.grownBy.refl w _, .inl rfl⟩
  · rcases Nat.eq_zero_or_pos m with h0 | h0
    · subst h0
      obtain rfl : y = [] := List.eq_nil_of_length_eq_zero hr.1
      obtain ⟨v', w', h1, h2, h3, _, h5⟩ := run_append_own_at (P := Try.prog) w base 39 ty 64 i (rgV zeroRg) 3 24 Try.underlying39 hi hiz his hib rfl (by omega) v l.length (cells3 l) hown ⟨b, off, spot⟩ 0 c []
        rfl (fun j u hu => by simp at hu) (fun u hu => by simp at hu) (by simp only [maxLen]; omega) (by omega) hbase
      exact ⟨v', w', h1, by simpa [Rgs] using h2, h3, h5⟩
    · obtain ⟨b', off', e, _, _⟩ := hr.2 h0
      injection e with e
      injection e with e1 e2 e3
      subst e1; subst e2; subst e3
      obtain ⟨v', w', h1, h2, h3, _, h5⟩ := run_append_own_at (P := Try.prog) w base 39 ty 64 i (rgV zeroRg) 3 24 Try.underlying39 hi hiz his hib rfl (by omega) v l.length (cells3 l) hown ⟨b, off, none⟩ m c (cells3 y)
        (by rw [cells3_length, hr.1]) hr.news (cells3_one y) (by simp only [maxLen]; omega) (by omega) hbase
      refine ⟨v', w', h1, ?_, h3, h5⟩
      unfold Rgs
      rw [cells3_append, List.length_append, hr.1]
      exact h2
/-- 'append(v, ys...)' in a walk -/
theorem wpList_app_rg {w : World} {ops : Array Oper} {rest : List Oper} {o : Oper} {a : Act} {Q : Exit → Act → World → Prop} (hgd : o.guard = none) (s x : Operand)
    (ho : o.op = .call { callee := .builtin .append, args := #[s, x], argTypes := #[39, 39] })
    (base : Nat) (v : Value) (l : List Rg) (hs : a.eval s = v) (hown : Rgs base w v l)
    (A : Option Addr) (m c : Nat) (y : List Rg) (hx : a.eval x = .slice A m c) (hr : RRow w A m y) (hbig : l.length + m ≤ 1000000000) (hbase : base ≤ w.heap.size)
    (h : ∀ v' w', Rgs base w' v' (l ++ y) → w.grownBy w' v.ownBlock → (v'.ownBlock = v.ownBlock ∨ v'.ownBlock = some w.heap.size) → wpList Try.prog ops Q rest (a.put o.dst v') w') :
    wpList Try.prog ops Q (o :: rest) a w := by
  refine wpList_plain hgd fun K hK => ?_
  obtain ⟨v', w', hrun, h2, h3, h4⟩ := run_app_rg o.type hown c hr hbig hbase
  unfold Oper.wp
  simp [execOp, ho, resolve, invoke, builtin, hs, hx, hrun, Result.andThen]
  exact hK _ _ (h v' w' h2 h3 h4)
end


/-! == of ranges -/
set_option maxRecDepth 100000 in
/-- as the walk comes upon it -/
theorem eq_rg (d : Nat) (x y : Rg) (w : World) : (Op.equalIn (d + 1 + 1) 64 (rgV x) (rgV y)).run Try.prog w = .ok (decide (x = y)) w := by
  have hst : Try.prog.underlying 64 = some (.struct (Try.prog.fieldsOf 64)) := by kernel_rfl
  have hin : Try.prog.stoodInHeld 64 = false := by kernel_rfl
  have h64 : Try.prog.underlying 3 = some (.int .i64) := by kernel_rfl
  obtain ⟨f0, f1, f2, hl⟩ : ∃ f0 f1 f2, (Try.prog.fieldsOf 64).toList = [f0, f1, f2] := ⟨_, _, _, rfl⟩
  have hh : ((Try.prog.fieldsOf 64).toList.map fun f => (f.name != "_", f.type, f.offset)) = [(true, 3, 0), (true, 3, 1), (true, 3, 2)] := by decide +kernel
  rw [hl] at hh
  simp only [List.map_cons, List.map_nil, List.cons.injEq, Prod.mk.injEq, and_true, bne_iff_ne] at hh
  obtain ⟨⟨a0, b0, c0⟩, ⟨a1, b1, c1⟩, ⟨a2, b2, c2⟩⟩ := hh
  have pi : ∀ (x : Rg) (w : World), (part 3 (rcells x).toArray 0).run Try.prog w = .ok (.int .i64 x.at_) w ∧ (part 3 (rcells x).toArray 1).run Try.prog w = .ok (.int .i64 x.old) w ∧ (part 3 (rcells x).toArray 2).run Try.prog w = .ok (.int .i64 x.new) w :=
    fun x w => ⟨by kernel_rfl, by kernel_rfl, by kernel_rfl⟩
  show (Op.equalIn (d + 1 + 1) 64 (.agg (rcells x).toArray) (.agg (rcells y).toArray)).run Try.prog w = _
  rw [run_equalIn_struct w (d + 1) _ _ _ hst hin, hl]
  have st : ∀ (f : Field) (fs : List Field) (u v : Value) (p R : Bool) (w : World), f.name ≠ "_" → (part f.type (rcells x).toArray f.offset).run Try.prog w = .ok u w → (part f.type (rcells y).toArray f.offset).run Try.prog w = .ok v w → (Op.equalIn (d + 1) f.type u v).run Try.prog w = .ok p w →
      (Op.eqFields (d + 1) (rcells x).toArray (rcells y).toArray fs).run Try.prog w = .ok R w → (Op.eqFields (d + 1) (rcells x).toArray (rcells y).toArray (f :: fs)).run Try.prog w = .ok (p && R) w := by
    intro f fs u v p R w hn h1 h2 h3 h4
    unfold Op.eqFields
    rw [if_pos hn]
    simp only [Sem.run_bind, h1, h2, h3, Result.andThen_ok]
    cases p
    · simp
    · simpa using h4
  obtain ⟨x0, x1, x2⟩ := pi x w
  obtain ⟨y0, y1, y2⟩ := pi y w
  rw [st f0 _ _ _ (x.at_ == y.at_) ((x.old == y.old) && ((x.new == y.new) && true)) w a0 (by rw [b0, c0]; exact x0) (by rw [b0, c0]; exact y0) (by rw [b0]; exact run_equalIn_int w _ _ _ _ _ _ h64)
    (st f1 _ _ _ _ _ w a1 (by rw [b1, c1]; exact x1) (by rw [b1, c1]; exact y1) (by rw [b1]; exact run_equalIn_int w _ _ _ _ _ _ h64)
    (st f2 _ _ _ _ _ w a2 (by rw [b2, c2]; exact x2) (by rw [b2, c2]; exact y2) (by rw [b2]; exact run_equalIn_int w _ _ _ _ _ _ h64)
    (by simp [Op.eqFields])))]
  congr 1
  rw [Bool.eq_iff_iff]
  obtain ⟨a, b, c⟩ := x
  obtain ⟨a', b', c'⟩ := y
  simp
end Go.Proofs.Ytmhngehpddfccaa.Sm
namespace Go.Proofs.Ytmhngehpddfccaa.Mem
open Go.RowKit

theorem tk {P : Program} {ops : Array Oper} {Q : Exit → Act → World → Prop} {md : Region.Mode} {S : World → Prop} (i : Nat) {oi : Oper} {v : Value} {fuel : Nat} {listed : Array Bool} {a : Act} {w : World} (hi : ops[i]? = some oi)
    (hb : (Region.noSelect ops && (Region.free md ops listed i && ((Region.ready md ops listed).contains i && Region.wanted oi (yielded ops a.tmps)))) = true)
    (hQ : ∀ c a w, Q (.panic c) (a.put oi.dst v) w → Q (.panic c) a w) (hy : ∀ w, S w → (execOp a.eval oi).run P w = .ok (.value v) w) (hS : S w)
    (h : wpAnyH P md ops Q S fuel (listed.setIfInBounds i true) (a.put oi.dst v) w) : wpAnyH P md ops Q S (fuel + 1) listed a w := by
  simp only [Bool.and_eq_true] at hb
  exact wpAnyH_take hi hb.1 hb.2.1 hb.2.2.1 hQ (Or.inl ⟨hb.2.2.2, hy⟩) hS h
end Go.Proofs.Ytmhngehpddfccaa.Mem
namespace Go.Proofs.Ytmhngehpddfccaa.Sm
open Go.RowKit Mem
set_option linter.unusedVariables false

theorem fits_any (x : Int) (w : World) : Calls Try.prog 61 #[.int .i64 x] w fun e w' => e = .returned (.bool (decide (0 ≤ x) && decide (x ≤ 1073741824))) ∧ w = w' := by
  by_cases h : 0 ≤ x
  · go_enter Try.func61, Try.ntmps61
    go_wp2
    go_ret
    exact ⟨ret_bool (by simp [h]), rfl⟩
  · go_enter Try.func61, Try.ntmps61
    go_wp2
    go_ret
    exact ⟨ret_bool (by simp; omega), rfl⟩
/-- a shifted range, as it lies in memory -/
def shO (r : Rg) (s : Int) : Obj := .cells #[.int .i64 r.at_, .int .i64 r.old, .int .i64 r.new, .int .i64 s] 125
def shV (r : Rg) (s : Int) : Value := .agg #[.int .i64 r.at_, .int .i64 r.old, .int .i64 r.new, .int .i64 s]
def far (s : Int) : Prop := -1099511627776 ≤ s ∧ s ≤ 1099511627776
theorem end_any (r : Rg) (s : Int) (hr : r.fits) (w : World) : Calls Try.prog 66 #[shV r s] w fun e w' => e = .returned (.int .i64 (r.at_ + r.old)) ∧ w' = w.alloc (shO r s) := by
  obtain ⟨a, o, n⟩ := r
  unfold Rg.fits at hr
  unfold shV shO
  simp only at hr ⊢
  go_enter Try.func66, Try.ntmps66
  go_wp2
  go_ret
  exact ⟨rfl, rfl⟩
theorem at_any (r : Rg) (s : Int) (hr : r.fits) (hs : far s) (w : World) : Calls Try.prog 69 #[shV r s] w fun e w' => e = .returned (.int .i64 (r.at_ + s)) ∧ w' = w.alloc (shO r s) := by
  obtain ⟨a, o, n⟩ := r
  unfold Rg.fits at hr
  unfold far at hs
  unfold shV shO
  simp only at hr ⊢
  go_enter Try.func69, Try.ntmps69
  go_wp2
  go_ret
  exact ⟨rfl, rfl⟩
theorem behind_any (r : Rg) (s : Int) (hr : r.fits) (hs : far s) (w : World) : Calls Try.prog 67 #[shV r s] w fun e w' => e = .returned (.int .i64 (s + r.new - r.old)) ∧ w' = w.alloc (shO r s) := by
  obtain ⟨a, o, n⟩ := r
  unfold Rg.fits at hr
  unfold far at hs
  unfold shV shO
  simp only at hr ⊢
  go_enter Try.func67, Try.ntmps67
  go_wp2
  go_ret
  exact ⟨rfl, rfl⟩

set_option maxHeartbeats 1000000 in
theorem has_any (r : Rg) (s pos side : Int) (hr : r.fits) (w : World) : Calls Try.prog 81 #[shV r s, .int .i64 pos, .int .i64 side] w fun e w' => e = .returned (.bool (goneB r pos side)) ∧ Below w.heap.size w w' := by
  have CE := fun W => end_any r s hr W
  obtain ⟨a, o, n⟩ := r
  unfold goneB
  unfold shV shO at *
  simp only at CE ⊢
  clear hr
  by_cases h : side < 0
  · rw [if_pos h]
    by_cases h2 : a < pos
    · go_enter Try.func81, Try.ntmps81
      go_wp2_with (go_at_call 66; refine (CE _).mono ?_; rintro e w' ⟨rfl, rfl⟩)
      go_ret
      exact ⟨ret_bool (by simp [h2]), ((Below.refl _ _).alloc (Nat.le_refl _) _).alloc (by simp) _⟩
    · go_enter Try.func81, Try.ntmps81
      go_wp2
      go_ret
      exact ⟨ret_bool (by simp; omega), ((Below.refl _ _).alloc (Nat.le_refl _) _)⟩
  · rw [if_neg h]
    by_cases h2 : a ≤ pos
    · go_enter Try.func81, Try.ntmps81
      go_wp2_with (go_at_call 66; refine (CE _).mono ?_; rintro e w' ⟨rfl, rfl⟩)
      go_ret
      exact ⟨ret_bool (by simp [h2]), ((Below.refl _ _).alloc (Nat.le_refl _) _).alloc (by simp) _⟩
    · go_enter Try.func81, Try.ntmps81
      go_wp2
      go_ret
      exact ⟨ret_bool (by simp; omega), ((Below.refl _ _).alloc (Nat.le_refl _) _)⟩

set_option maxHeartbeats 1000000 in
theorem to_any (r : Rg) (s pos side : Int) (hr : r.fits) (hs : far s) (w : World) : Calls Try.prog 80 #[shV r s, .int .i64 pos, .int .i64 side] w fun e w' => e = .returned (.int .i64 (toI r s pos side)) ∧ Below w.heap.size w w' := by
  have CE := fun W => end_any r s hr W
  have CA := fun W => at_any r s hr hs W
  obtain ⟨a, o, n⟩ := r
  obtain ⟨z, hz⟩ : ∃ z, z = toI ⟨a, o, n⟩ s pos side := ⟨_, rfl⟩
  have HZ := Lib.hid hz
  rw [← hz]
  clear hz
  unfold Rg.fits at hr
  unfold far at hs
  unfold shV shO at *
  simp only at CE CA hr ⊢
  go_enter Try.func80, Try.ntmps80
  go_upto_region 1 with fail
  go_cut [7, 8] from 9 to 16 (fun u v wx => u = .bool (decide (side ≥ 0)) ∧ v = .int .i64 (a + s + n) ∧ wx = ((w.alloc (Obj.cells #[Value.int IntKind.i64 a, Value.int IntKind.i64 o, Value.int IntKind.i64 n, Value.int IntKind.i64 s] 125)).alloc (Obj.cells #[Value.int IntKind.i64 a, Value.int IntKind.i64 o, Value.int IntKind.i64 n, Value.int IntKind.i64 s] 125)).drew)
  case first =>
    go_region_with (go_at_call 69; refine (CA _).mono ?_; rintro e w' ⟨rfl, rfl⟩)
    all_goals (go_wp2_with fail; go_meet; exact ⟨rfl, by rw [IntWalk.i64_in _ (by omega)], rfl⟩)
  case rest =>
    obtain ⟨rfl, rfl, rfl⟩ := hcut
    go_wp2_with fail
    refine (CE _).mono ?_
    rintro e w' ⟨rfl, rfl⟩
    have hb : ∀ W : World, Below w.heap.size w W → Below w.heap.size w (W.alloc (Obj.cells #[Value.int IntKind.i64 a, Value.int IntKind.i64 o, Value.int IntKind.i64 n, Value.int IntKind.i64 s] 125)) := fun W h => h.alloc h.size _
    have hB2 := hb _ (below_drewN (hb _ (hb _ (Below.refl _ _))) 1)
    have HB2 := Lib.hid hB2
    have HB3 := Lib.hid (hb _ hB2)
    clear hb hB2
    by_cases h1 : pos = a + o
    · by_cases h2 : 0 < o
      · have e : z = a + s + n := by rw [HZ.out]; simp [toI, toEnd, h1, h2]
        clear HZ
        subst e; subst h1
        go_wp2
        go_ret
        exact ⟨rfl, HB2.out⟩
      · obtain rfl : o = 0 := by omega
        clear h2
        by_cases h4 : 0 ≤ side
        · have h4' : decide (side ≥ 0) = true := decide_eq_true h4
          have e : z = a + s + n := by rw [HZ.out]; simp [toI, toEnd, h1, h4]
          clear HZ
          subst e; subst h1
          rw [h4']
          go_wp2
          go_ret
          exact ⟨rfl, HB2.out⟩
        · have h4' : decide (side ≥ 0) = false := decide_eq_false h4
          have e : z = a + s := by rw [HZ.out]; simp [toI, toEnd, h1, h4]
          clear HZ
          subst e; subst h1
          rw [h4']
          go_wp2_with fail
          refine (CA _).mono ?_
          rintro e w' ⟨rfl, rfl⟩
          go_wp2
          go_ret
          exact ⟨rfl, HB3.out⟩
    · have h1' : (pos == a + o) = false := by simpa using h1
      by_cases h4 : 0 ≤ side
      · have h4' : decide (side ≥ 0) = true := decide_eq_true h4
        rw [h4']
        by_cases h3 : pos = a
        · have h5 : (o == 0) = false := by simp; omega
          have h5' : ¬ o = 0 := by omega
          have e : z = a + s := by rw [HZ.out]; simp [toI, toEnd, h3, h5']; intros; omega
          clear HZ
          subst e; subst h3
          go_wp2_with fail
          refine (CA _).mono ?_
          rintro e w' ⟨rfl, rfl⟩
          go_wp2
          go_ret
          exact ⟨rfl, HB3.out⟩
        · have h3' : (pos != a) = true := by simpa using h3
          have e : z = a + s + n := by rw [HZ.out]; simp [toI, toEnd, h3, h4]
          clear HZ
          subst e
          go_wp2
          go_ret
          exact ⟨rfl, HB2.out⟩
      · have h4' : decide (side ≥ 0) = false := decide_eq_false h4
        have e : z = a + s := by rw [HZ.out]; simp [toI, toEnd, h1, h4]
        clear HZ
        subst e
        rw [h4']
        obtain ⟨q3, hq3⟩ : ∃ q : Bool, (pos != a) = q := ⟨_, rfl⟩
        obtain ⟨q5, hq5⟩ : ∃ q : Bool, (o == 0) = q := ⟨_, rfl⟩
        cases q3 <;> cases q5
        all_goals
          go_wp2_with fail
          refine (CA _).mono ?_
          rintro e w' ⟨rfl, rfl⟩
          go_wp2
          go_ret
          exact ⟨rfl, HB3.out⟩
end Go.Proofs.Ytmhngehpddfccaa.Sm
