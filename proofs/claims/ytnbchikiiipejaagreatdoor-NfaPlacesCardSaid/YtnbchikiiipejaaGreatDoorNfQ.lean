/- A net in memory: its block of ten cells, and its places, a row of eight cells each; what its calls leave alone. -/
import Derived.Test.YtnbchikiiipejaaGreatDoorNfRef
import Derived.Test.YtnbchikiiipejaaGreatDoorNbList
import Derived.Test.YtnbchikiiipejaaGreatDoorStr
import Derived.Below
import Derived.Laws.OwnMore
import Derived.OrdersHeld
import Derived.Deep.AppendLies
import Derived.Deep.RegionLaw
import Derived.LoopTactic
import Derived.Deep.RegionHeld
import Derived.OrdersIn
import Derived.Deep.Cut
set_option linter.unusedVariables false
set_option maxRecDepth 100000
set_option maxHeartbeats 8000000
namespace Go.Proofs.YtnbchikiiipejaaGreatDoor.Nf
open Go.RowKit Mem
open Bg (Bag)
theorem tk {P : Program} {ops : Array Oper} {Q : Exit → Act → World → Prop} {md : Region.Mode} {S : World → Prop} (i : Nat) {oi : Oper} {v : Value} {fuel : Nat} {listed : Array Bool} {a : Act} {w : World} (hi : ops[i]? = some oi)
  (hb : (Region.noSelect ops && (Region.free md ops listed i && ((Region.ready md ops listed).contains i && Region.wanted oi (yielded ops a.tmps)))) = true)
  (hQ : ∀ c a w, Q (.panic c) (a.put oi.dst v) w → Q (.panic c) a w) (hy : ∀ w, S w → (execOp a.eval oi).run P w = .ok (.value v) w) (hS : S w)
  (h : wpAnyH P md ops Q S fuel (listed.setIfInBounds i true) (a.put oi.dst v) w) : wpAnyH P md ops Q S (fuel + 1) listed a w := by
 simp only [Bool.and_eq_true] at hb
 exact wpAnyH_take hi hb.1 hb.2.1 hb.2.2.1 hQ (Or.inl ⟨hb.2.2.2, hy⟩) hS h
def ecells (x : En) : List Value := [.int .u64 x.on.a, .int .u64 x.on.b, .int .u64 x.on.c, .int .u64 x.on.d, .int .u64 x.behind.a, .int .u64 x.behind.b, .int .u64 x.behind.c, .int .u64 x.behind.d]
def cells8 (l : List En) : List Value := l.flatMap ecells
theorem cells8_cons (a : En) (l : List En) : cells8 (a :: l) = .int .u64 a.on.a :: .int .u64 a.on.b :: .int .u64 a.on.c :: .int .u64 a.on.d :: .int .u64 a.behind.a :: .int .u64 a.behind.b :: .int .u64 a.behind.c :: .int .u64 a.behind.d :: cells8 l := rfl
theorem cells8_append (h k : List En) : cells8 (h ++ k) = cells8 h ++ cells8 k := by simp [cells8]
theorem cells8_at (l : List En) : ∀ i (hi : i < l.length),
  ((cells8 l)[i * 8]? = some (.int .u64 l[i].on.a) ∧ (cells8 l)[i * 8 + 1]? = some (.int .u64 l[i].on.b) ∧ (cells8 l)[i * 8 + 2]? = some (.int .u64 l[i].on.c) ∧ (cells8 l)[i * 8 + 3]? = some (.int .u64 l[i].on.d)) ∧
  ((cells8 l)[i * 8 + 4]? = some (.int .u64 l[i].behind.a) ∧ (cells8 l)[i * 8 + 5]? = some (.int .u64 l[i].behind.b) ∧ (cells8 l)[i * 8 + 6]? = some (.int .u64 l[i].behind.c) ∧ (cells8 l)[i * 8 + 7]? = some (.int .u64 l[i].behind.d)) := by
 induction l with
 | nil => intro i hi; simp at hi
 | cons a l ih =>
  intro i hi
  cases i with
  | zero => exact ⟨⟨rfl, rfl, rfl, rfl⟩, rfl, rfl, rfl, rfl⟩
  | succ i =>
   have := ih i (by simpa using hi)
   rw [cells8_cons, show (i + 1) * 8 = i * 8 + 1 + 1 + 1 + 1 + 1 + 1 + 1 + 1 from by omega]
   simpa using this
theorem cells8_set (l : List En) (y : Bag) : ∀ i, (((((cells8 l).set (i * 8 + 4) (.int .u64 y.a)).set (i * 8 + 5) (.int .u64 y.b)).set (i * 8 + 6) (.int .u64 y.c)).set (i * 8 + 7) (.int .u64 y.d)) = cells8 (l.modify i (fun e => { e with behind := y })) := by
 induction l with
 | nil => intro i; simp [cells8]
 | cons a l ih =>
  intro i
  cases i with
  | zero => simp [cells8_cons, List.modify_zero_cons]
  | succ i =>
   rw [cells8_cons, show (i + 1) * 8 = i * 8 + 1 + 1 + 1 + 1 + 1 + 1 + 1 + 1 from by omega]
   simp only [List.set_cons_succ, cells8_cons, List.modify_succ_cons]
   rw [ih i]
def Ent (base : Nat) (W : World) (v : Value) (l : List En) : Prop := W.ownsRow base 107 8 v l.length (cells8 l)
def NBox (W : World) (N : Nat) (v : Value) (p : Pc) : Prop := W.heap[N]? = some (.cells #[v, .bool p.em, .int .u64 p.first.a, .int .u64 p.first.b, .int .u64 p.first.c, .int .u64 p.first.d, .int .u64 p.ends.a, .int .u64 p.ends.b, .int .u64 p.ends.c, .int .u64 p.ends.d] 105 (0, 0))
structure NFrame (base N : Nat) (W W' : World) : Prop where
 os : W'.os = W.os
 tape : W'.tape = W.tape
 output : W'.output = W.output
 size : W.heap.size ≤ W'.heap.size
 low : ∀ k, k < base → k < W.heap.size → W'.heap[k]? = W.heap[k]?
 other : ∀ (k : Nat) (o : Obj), W.heap[k]? = some o → k ≠ N → (∀ cs fr, o ≠ .cells cs 107 fr) → W'.heap[k]? = some o
theorem lt_of_some {W : World} {o : Obj} {k : Nat} (h : W.heap[k]? = some o) : k < W.heap.size := (Array.getElem?_eq_some_iff.1 h).1
section
variable {base : Nat} {W W' W'' : World} {v : Value} {l : List En}
theorem Ent.nil : Ent base W (.slice none 0 0) [] := World.ownsRow_nil _ _ _ _
theorem Ent.drew (h : Ent base W v l) : Ent base W.drew v l := h
theorem Ent.block (h : Ent base W v l) : ∀ g, v.ownBlock = some g → base ≤ g ∧ g < W.heap.size ∧ ∃ cs fr, W.heap[g]? = some (.cells cs 107 fr) := by
 intro g hg
 rcases h.2 with ⟨hv, _⟩ | ⟨g', cap, cur, hv, hb, hh, _⟩
 ·subst hv; cases hg
 ·subst hv
  simp only [Value.ownBlock, Option.some.injEq] at hg
  subst hg
  exact ⟨hb, lt_of_some hh, _, _, hh⟩
theorem Ent.opn (h : Ent base W v l) (hp : 0 < l.length) : ∃ g cap, v = .slice (some ⟨g, 0, none⟩) l.length cap ∧ base ≤ g ∧ g < W.heap.size ∧ l.length ≤ cap ∧ cap ≤ maxLen ∧ (∀ j, W.frozen? ⟨g, j, none⟩ = false) ∧
  (∀ i (hi : i < l.length),
    (W.cell? ⟨g, i * 8, none⟩ = some (.int .u64 l[i].on.a) ∧ W.cell? ⟨g, i * 8 + 1, none⟩ = some (.int .u64 l[i].on.b) ∧ W.cell? ⟨g, i * 8 + 2, none⟩ = some (.int .u64 l[i].on.c) ∧ W.cell? ⟨g, i * 8 + 3, none⟩ = some (.int .u64 l[i].on.d)) ∧
    (W.cell? ⟨g, i * 8 + 4, none⟩ = some (.int .u64 l[i].behind.a) ∧ W.cell? ⟨g, i * 8 + 5, none⟩ = some (.int .u64 l[i].behind.b) ∧ W.cell? ⟨g, i * 8 + 6, none⟩ = some (.int .u64 l[i].behind.c) ∧ W.cell? ⟨g, i * 8 + 7, none⟩ = some (.int .u64 l[i].behind.d))) := by
 have h' := h
 rcases h.2 with ⟨_, h0⟩ | ⟨g, cap, cur, hv, hb, hg, hnc, hcm, hs, ht⟩
 ·omega
 ·subst hv
  refine ⟨g, cap, rfl, hb, (Array.getElem?_eq_some_iff.1 hg).1, hnc, hcm, fun j => World.ownsRow.frozenAt h' j, fun i hi => ?_⟩
  obtain ⟨⟨e0, e1, e2, e3⟩, e4, e5, e6, e7⟩ := cells8_at l i hi
  refine ⟨⟨?_, ?_, ?_, ?_⟩, ?_, ?_, ?_, ?_⟩
  all_goals rw [World.ownsRow.cellAt h' _ (by omega)]; assumption
theorem Ent.below (h : Ent base W v l) {B : Nat} (hb : Below B W W') (hg : ∀ g, v.ownBlock = some g → g < B) : Ent base W' v l := by
 refine ⟨h.1, ?_⟩
 rcases h.2 with hn | ⟨g, cap, cur, hv, h1, h2, r⟩
 ·exact .inl hn
 ·subst hv
  exact .inr ⟨g, cap, cur, rfl, h1, by rw [hb.block g (hg g rfl)]; exact h2, r⟩
theorem Ent.belowAll (h : Ent base W v l) (hb : Below W.heap.size W W') : Ent base W' v l := h.below hb (fun g hg => (h.block g hg).2.1)
theorem Ent.alloc (h : Ent base W v l) (o : Obj) : Ent base (W.alloc o) v l := h.belowAll ((Below.refl _ W).alloc (Nat.le_refl _) o)
theorem Ent.store {g cap n : Nat} (hn : n = l.length) (h : Ent base W (.slice (some ⟨g, 0, none⟩) n cap) l) (i : Nat) (y : Bag) :
  Ent base ((((W.setCell ⟨g, i * 8 + 4, none⟩ (.int .u64 y.a)).setCell ⟨g, i * 8 + 5, none⟩ (.int .u64 y.b)).setCell ⟨g, i * 8 + 6, none⟩ (.int .u64 y.c)).setCell ⟨g, i * 8 + 7, none⟩ (.int .u64 y.d)) (.slice (some ⟨g, 0, none⟩) n cap) (l.modify i (fun e => { e with behind := y })) := by
 subst hn
 have s1 := (World.ownsRow.stored h (i * 8 + 4) (.int .u64 y.a)).1
 have s2 := (World.ownsRow.stored s1 (i * 8 + 5) (.int .u64 y.b)).1
 have s3 := (World.ownsRow.stored s2 (i * 8 + 6) (.int .u64 y.c)).1
 have s4 := (World.ownsRow.stored s3 (i * 8 + 7) (.int .u64 y.d)).1
 rw [cells8_set] at s4
 unfold Ent
 rw [List.length_modify]
 exact s4
theorem Ent.other (h : Ent base W v l) {b : Nat} (hne : v.ownBlock ≠ some b) (j : Nat) (u : Value) : Ent base (W.setCell ⟨b, j, none⟩ u) v l := by
 refine ⟨h.1, ?_⟩
 rcases h.2 with hn | ⟨g, cap, cur, hv, h1, h2, r⟩
 ·exact .inl hn
 ·subst hv
  refine .inr ⟨g, cap, cur, rfl, h1, ?_, r⟩
  rw [Below.heap_setCell _ _ _ _ (fun e => hne (by simp [Value.ownBlock, e]))]
  exact h2
variable {N : Nat} {p : Pc}
theorem NBox.lt (h : NBox W N v p) : N < W.heap.size := lt_of_some h
theorem NBox.free (h : NBox W N v p) (j : Nat) : W.frozen? ⟨N, j, none⟩ = false := by
 unfold NBox at h
 first | (simp [World.frozen?, h]; done) | (simp [World.frozen?, h]; omega)
theorem NBox.cell (h : NBox W N v p) : W.cell? ⟨N, 0, none⟩ = some v ∧ W.cell? ⟨N, 1, none⟩ = some (.bool p.em) ∧
  (W.cell? ⟨N, 2, none⟩ = some (.int .u64 p.first.a) ∧ W.cell? ⟨N, 3, none⟩ = some (.int .u64 p.first.b) ∧ W.cell? ⟨N, 4, none⟩ = some (.int .u64 p.first.c) ∧ W.cell? ⟨N, 5, none⟩ = some (.int .u64 p.first.d)) ∧
  (W.cell? ⟨N, 6, none⟩ = some (.int .u64 p.ends.a) ∧ W.cell? ⟨N, 7, none⟩ = some (.int .u64 p.ends.b) ∧ W.cell? ⟨N, 8, none⟩ = some (.int .u64 p.ends.c) ∧ W.cell? ⟨N, 9, none⟩ = some (.int .u64 p.ends.d)) := by
 unfold NBox at h
 refine ⟨?_, ?_, ⟨?_, ?_, ?_, ?_⟩, ?_, ?_, ?_, ?_⟩
 all_goals simp [World.cell?, h]
theorem NBox.below (h : NBox W N v p) {B : Nat} (hb : Below B W W') (hN : N < B) : NBox W' N v p := by
 unfold NBox; rw [hb.block N hN]; exact h
theorem NBox.alloc (h : NBox W N v p) (o : Obj) : NBox (W.alloc o) N v p := (Below.heap_alloc W o N h.lt).trans h
theorem NBox.set0 (h : NBox W N v p) (u : Value) : NBox (W.setCell ⟨N, 0, none⟩ u) N u p := by
 unfold NBox at h ⊢
 simp [World.setCell, Array.getElem?_modify, h]
theorem NBox.other (h : NBox W N v p) {b : Nat} (hne : N ≠ b) (j : Nat) (u : Value) : NBox (W.setCell ⟨b, j, none⟩ u) N v p := by
 unfold NBox; rw [Below.heap_setCell _ _ _ _ hne]; exact h
theorem NBox.kept {row : Option Nat} (h : NBox W N v p) (hg : W.grownBy W' row) (hne : some N ≠ row) : NBox W' N v p := by
 unfold NBox; rw [hg.block N h.lt (fun e => hne e)]; exact h
theorem NFrame.refl : NFrame base N W W := ⟨rfl, rfl, rfl, Nat.le_refl _, fun _ _ _ => rfl, fun _ _ h _ _ => h⟩
theorem NFrame.trans (a : NFrame base N W W') (b : NFrame base N W' W'') : NFrame base N W W'' :=
 ⟨b.os.trans a.os, b.tape.trans a.tape, b.output.trans a.output, Nat.le_trans a.size b.size, fun k hk hs => (b.low k hk (Nat.lt_of_lt_of_le hs a.size)).trans (a.low k hk hs), fun k o h1 h2 h3 => b.other k o (a.other k o h1 h2 h3) h2 h3⟩
theorem NFrame.drew (a : NFrame base N W W') : NFrame base N W W'.drew := ⟨a.os, a.tape, a.output, a.size, a.low, a.other⟩
theorem NFrame.of_below (b : Below W.heap.size W W') : NFrame base N W W' := ⟨b.os, b.tape, b.output, b.size, fun k _ hs => b.block k hs, fun k o h1 _ _ => (b.block k (lt_of_some h1)).trans h1⟩
theorem NFrame.alloc (o : Obj) : NFrame base N W (W.alloc o) := NFrame.of_below ((Below.refl _ W).alloc (Nat.le_refl _) o)
theorem NFrame.of_grown (h : Ent base W v l) (g : W.grownBy W' v.ownBlock) : NFrame base N W W' := by
 refine ⟨g.os, g.tape, g.output, g.size, fun k hk hs => g.block k hs fun e => ?_, fun k o h1 _ h3 => (g.block k (lt_of_some h1) fun e => ?_).trans h1⟩
 ·have := (h.block k e.symm).1; omega
 ·obtain ⟨_, _, cs, fr, hh⟩ := h.block k e.symm
  rw [hh] at h1
  exact h3 _ _ (Option.some.inj h1).symm
theorem NFrame.setOwn (hb : base ≤ N) (j : Nat) (u : Value) : NFrame base N W (W.setCell ⟨N, j, none⟩ u) :=
 ⟨rfl, rfl, rfl, by simp, fun k hk _ => Below.heap_setCell W ⟨N, j, none⟩ u k (by simp; omega), fun k o h1 h2 _ => (Below.heap_setCell W ⟨N, j, none⟩ u k h2).trans h1⟩
theorem NFrame.setRow {g : Nat} (hb : base ≤ g) (hg : ∃ cs fr, W.heap[g]? = some (.cells cs 107 fr)) (j : Nat) (u : Value) : NFrame base N W (W.setCell ⟨g, j, none⟩ u) :=
 ⟨rfl, rfl, rfl, by simp, fun k hk _ => Below.heap_setCell W ⟨g, j, none⟩ u k (by simp; omega), fun k o h1 _ h3 => (Below.heap_setCell W ⟨g, j, none⟩ u k (fun e => by
  obtain ⟨cs, fr, hh⟩ := hg
  simp only at e
  rw [e, hh] at h1
  exact h3 _ _ (Option.some.inj h1).symm)).trans h1⟩
theorem NFrame.below (a : NFrame base N W W') {B : Nat} (hB : B ≤ base) (hs : base ≤ W.heap.size) : Below B W W' := ⟨a.os, a.tape, a.output, a.size, fun k hk => a.low k (by omega) (by omega)⟩
def NS (base N : Nat) (W : World) (l : List En) (p : Pc) : Prop := ∃ v, NBox W N v p ∧ Ent base W v l ∧ some N ≠ v.ownBlock
theorem NS.belowAll (h : NS base N W l p) (hb : Below W.heap.size W W') : NS base N W' l p := by
 obtain ⟨v, h1, h2, h3⟩ := h
 exact ⟨v, h1.below hb h1.lt, h2.belowAll hb, h3⟩
end
end Go.Proofs.YtnbchikiiipejaaGreatDoor.Nf
namespace Go.Proofs.YtnbchikiiipejaaGreatDoor.Nf
open Go.RowKit Mem
open Bg (Bag bagV)
open Ex (Pt)
def oftenI (k lo hi : Int) : Nat := if k = 4 then (if hi < 0 then max lo.toNat 1 else hi.toNat) else 1
theorem often_ints (k lo hi : Int) (nm : ByteArray) (kv : Value) (w : World) : Calls Tryz.prog 172 #[.agg #[.int .i64 k, .int .i64 lo, .int .i64 hi, .string nm, kv]] w fun e w' => e = .returned (.int .i64 (oftenI k lo hi : Nat)) ∧ Below w.heap.size w w' := by
 have hb : Below w.heap.size w (w.alloc (.cells #[.int .i64 k, .int .i64 lo, .int .i64 hi, .string nm, kv] 217)) := (Below.refl _ w).alloc (Nat.le_refl _) _
 have HB := Lib.hid hb
 clear hb
 by_cases h4 : k = 4
 ·subst h4
  by_cases hh : hi < 0
  ·go_enter Tryz.func172, Tryz.ntmps172
   go_wp2
   all_goals
    go_ret
    refine ⟨?_, HB.out⟩
    simp [oftenI, hh, go_sem]
    omega
  ·go_enter Tryz.func172, Tryz.ntmps172
   go_wp2
   go_ret
   refine ⟨?_, HB.out⟩
   simp [oftenI, go_sem]
   rw [if_neg (by omega)]; omega
 ·have e4 : (k != 4) = true := by simp [h4]
  go_enter Tryz.func172, Tryz.ntmps172
  go_wp2
  go_ret
  refine ⟨?_, HB.out⟩
  simp [oftenI, if_neg h4]
theorem Ent.form {base : Nat} {W : World} {v : Value} {l : List En} (h : Ent base W v l) : ∃ A c, v = .slice A l.length c := by
 rcases h.2 with ⟨hv, h0⟩ | ⟨g, cap, cur, hv, _⟩
 ·exact ⟨none, 0, by rw [hv, h0]⟩
 ·exact ⟨_, _, hv⟩
def pcV (p : Pc) : Value := .agg #[.bool p.em, .int .u64 p.first.a, .int .u64 p.first.b, .int .u64 p.first.c, .int .u64 p.first.d, .int .u64 p.ends.a, .int .u64 p.ends.b, .int .u64 p.ends.c, .int .u64 p.ends.d]
def PAt (W : World) (g : Nat) (p : Pc) : Prop := W.heap[g]? = some (.cells #[.bool p.em, .int .u64 p.first.a, .int .u64 p.first.b, .int .u64 p.first.c, .int .u64 p.first.d, .int .u64 p.ends.a, .int .u64 p.ends.b, .int .u64 p.ends.c, .int .u64 p.ends.d] 103 (0, 0))
section
variable {W W' : World} {g : Nat} {p : Pc}
theorem PAt.lt (h : PAt W g p) : g < W.heap.size := lt_of_some h
theorem PAt.below (h : PAt W g p) {n : Nat} (hb : Below n W W') (hg : g < n) : PAt W' g p := by
 unfold PAt; rw [hb.block g hg]; exact h
theorem PAt.new (W : World) (p : Pc) : PAt (W.alloc (.cells #[.bool p.em, .int .u64 p.first.a, .int .u64 p.first.b, .int .u64 p.first.c, .int .u64 p.first.d, .int .u64 p.ends.a, .int .u64 p.ends.b, .int .u64 p.ends.c, .int .u64 p.ends.d] 103)) W.heap.size p := heap_alloc_new _ _
theorem PAt.alloc (h : PAt W g p) (o : Obj) : PAt (W.alloc o) g p := h.below (n := W.heap.size) ((Below.refl _ W).alloc (Nat.le_refl _) o) h.lt
theorem PAt.free (h : PAt W g p) (j : Nat) : W.frozen? ⟨g, j, none⟩ = false := by
 unfold PAt at h
 first | (simp [World.frozen?, h]; done) | (simp [World.frozen?, h]; omega)
theorem PAt.cell (h : PAt W g p) : W.cell? ⟨g, 0, none⟩ = some (.bool p.em) ∧
  (W.cell? ⟨g, 1, none⟩ = some (.int .u64 p.first.a) ∧ W.cell? ⟨g, 2, none⟩ = some (.int .u64 p.first.b) ∧ W.cell? ⟨g, 3, none⟩ = some (.int .u64 p.first.c) ∧ W.cell? ⟨g, 4, none⟩ = some (.int .u64 p.first.d)) ∧
  (W.cell? ⟨g, 5, none⟩ = some (.int .u64 p.ends.a) ∧ W.cell? ⟨g, 6, none⟩ = some (.int .u64 p.ends.b) ∧ W.cell? ⟨g, 7, none⟩ = some (.int .u64 p.ends.c) ∧ W.cell? ⟨g, 8, none⟩ = some (.int .u64 p.ends.d)) := by
 unfold PAt at h
 refine ⟨?_, ⟨?_, ?_, ?_, ?_⟩, ?_, ?_, ?_, ?_⟩
 all_goals simp [World.cell?, h]
end
theorem NBox.drew {W : World} {N : Nat} {v : Value} {p : Pc} (h : NBox W N v p) : NBox W.drew N v p := h
theorem PAt.drew {W : World} {g : Nat} {p : Pc} (h : PAt W g p) : PAt W.drew g p := h
theorem At_drew {W : World} {g : Nat} {x : Bag} (h : Bg.At W g x) : Bg.At W.drew g x := h
theorem PAt.store {W : World} {g : Nat} {p : Pc} (h : PAt W g p) (q : Pc) : PAt (((((((((W.setCell ⟨g, 0, none⟩ (.bool q.em)).setCell ⟨g, 1, none⟩ (.int .u64 q.first.a)).setCell ⟨g, 2, none⟩ (.int .u64 q.first.b)).setCell ⟨g, 3, none⟩ (.int .u64 q.first.c)).setCell ⟨g, 4, none⟩ (.int .u64 q.first.d)).setCell ⟨g, 5, none⟩ (.int .u64 q.ends.a)).setCell ⟨g, 6, none⟩ (.int .u64 q.ends.b)).setCell ⟨g, 7, none⟩ (.int .u64 q.ends.c)).setCell ⟨g, 8, none⟩ (.int .u64 q.ends.d)) g q := by
 unfold PAt at h ⊢
 simp [World.setCell, Array.getElem?_modify, h]
theorem PAt.other {W : World} {g : Nat} {p : Pc} (h : PAt W g p) {b : Nat} (hne : g ≠ b) (j : Nat) (u : Value) : PAt (W.setCell ⟨b, j, none⟩ u) g p := by
 unfold PAt; rw [Below.heap_setCell _ _ _ _ hne]; exact h
theorem PAt.kept {W W' : World} {g : Nat} {p : Pc} {row : Option Nat} (h : PAt W g p) (hg : W.grownBy W' row) (hne : some g ≠ row) : PAt W' g p := by
 unfold PAt; rw [hg.block g h.lt (fun e => hne e)]; exact h
theorem At_kept {W W' : World} {g : Nat} {x : Bag} {row : Option Nat} (h : Bg.At W g x) (hg : W.grownBy W' row) (hne : some g ≠ row) : Bg.At W' g x := by
 unfold Bg.At; rw [hg.block g h.lt (fun e => hne e)]; exact h
theorem NFrame.setNew {base N : Nat} {W W' : World} (a : NFrame base N W W') {g : Nat} (hg : W.heap.size ≤ g) (j : Nat) (u : Value) : NFrame base N W (W'.setCell ⟨g, j, none⟩ u) :=
 ⟨a.os, a.tape, a.output, by simpa using a.size, fun k hk hs => (Below.heap_setCell W' ⟨g, j, none⟩ u k (by simp only; omega)).trans (a.low k hk hs), fun k o h1 h2 h3 => (Below.heap_setCell W' ⟨g, j, none⟩ u k (by have := lt_of_some h1; simp only; omega)).trans (a.other k o h1 h2 h3)⟩
theorem info_en : (Tryz.prog.info? 107).map (fun i => (i.zero, i.size, i.bytes)) = some (some (.agg #[.int .u64 0, .int .u64 0, .int .u64 0, .int .u64 0, .int .u64 0, .int .u64 0, .int .u64 0, .int .u64 0]), 8, 64) := by kernel_rfl
theorem of_place (n : Nat) (h : n < 256) : Bg.ofL [(n : Int)] = Bg.nil.withN n := by
 have : (n : Int) < 256 := by omega
 simp [Bg.ofL, Bag.withI, Bg.inB, this]
theorem lay_any {base : Nat} (N : Nat) (l : List En) (p0 : Pc) (on : Bag) (w : World) (h : NS base N w l p0) (hb : base ≤ N) (hl : l.length < 256) :
  Calls Tryz.prog 173 #[.pointer (some ⟨N, 0, none⟩), bagV on] w fun e w' => e = .returned (pcV (lay on l).1) ∧ NS base N w' (lay on l).2 p0 ∧ NFrame base N w w' := by
 obtain ⟨v, hbx, hen, hne⟩ := h
 obtain ⟨A, c, rfl⟩ := hen.form
 have hNs := hbx.lt
 have hbase : base ≤ w.heap.size := by omega
 have c0 := hbx.cell.1
 have HX := Lib.hid hbx
 have HE := Lib.hid hen
 have HNE := Lib.hid hne
 have hr0 : Row .i64 (((w.alloc (.cells #[.int .u64 on.a, .int .u64 on.b, .int .u64 on.c, .int .u64 on.d] 29)).alloc (.cells #[.bool false, .int .u64 0, .int .u64 0, .int .u64 0, .int .u64 0, .int .u64 0, .int .u64 0, .int .u64 0, .int .u64 0] 103)).alloc (.cells #[.int .i64 (l.length : Int)] 3)) (some ⟨w.heap.size + 1 + 1, 0, none⟩) 1 [(l.length : Int)] := by
  have hwf : ∀ z ∈ [(l.length : Int)], (Lit.int .i64 z).wf = true := by
   intro z hz
   simp only [List.mem_singleton] at hz
   rw [hz]; exact WalkArith.wf_i64 (by omega)
  have := row_block (heap_alloc_new ((w.alloc (.cells #[.int .u64 on.a, .int .u64 on.b, .int .u64 on.c, .int .u64 on.d] 29)).alloc (.cells #[.bool false, .int .u64 0, .int .u64 0, .int .u64 0, .int .u64 0, .int .u64 0, .int .u64 0, .int .u64 0, .int .u64 0] 103)) (.cells #[.int .i64 (l.length : Int)] 3)) [(l.length : Int)] rfl 1 rfl hwf
  rw [World.size_alloc, World.size_alloc] at this
  exact this
 have HR := Lib.hid hr0
 clear hbx hen hne hr0
 unfold bagV
 go_enter Tryz.func173, Tryz.ntmps173
 go_wp2_with fail
 refine (Bg.of_any _ 1 1 [(l.length : Int)] _ HR.out (by omega)).mono ?_
 rintro e w1 ⟨rfl, hb1⟩
 rw [of_place _ hl]
 have hbw : Below w.heap.size w w1 := ((((Below.refl _ w).alloc (Nat.le_refl _) _).alloc (by simp) _).alloc (by simp; omega) _).trans (hb1.mono (by simp; omega))
 have hs1 : w.heap.size + 1 + 1 + 1 ≤ w1.heap.size := by have := hb1.size; simpa using this
 have hA1 : Bg.At w1 w.heap.size on := (((Bg.At.new w on).alloc _).alloc _).below hb1 (by simp; omega)
 have hP1 : PAt w1 (w.heap.size + 1) ⟨false, Bg.nil, Bg.nil⟩ := by
  have h1 := PAt.new (w.alloc (.cells #[.int .u64 on.a, .int .u64 on.b, .int .u64 on.c, .int .u64 on.d] 29)) ⟨false, Bg.nil, Bg.nil⟩
  rw [World.size_alloc] at h1
  exact (h1.alloc (.cells #[.int .i64 (l.length : Int)] 3)).below hb1 (by simp)
 have hX1 := HX.out.below hbw hNs
 have hE1 := HE.out.belowAll hbw
 have HB1 := Lib.hid hbw
 have HA1 := Lib.hid hA1
 have HP1 := Lib.hid hP1
 have HX1 := Lib.hid hX1
 have HE1 := Lib.hid hE1
 clear hbw hA1 hP1 hX1 hE1 hb1
 obtain ⟨hr, hhr⟩ : ∃ hr, Bg.nil.withN l.length = hr := ⟨_, rfl⟩
 rw [hhr]
 unfold bagV
 obtain ⟨i0, hi, hz, hz1, hz2⟩ := info_parts info_en
 have d0 := HX1.out.cell.1
 have dlt := HX1.out.lt
 have df := HX1.out.free 0
 obtain ⟨a0, a1, a2, a3, _⟩ := HA1.out.cell
 have hlt0 : w.heap.size < w1.heap.size := by omega
 have ho := ((HE1.out.alloc (.cells #[.int .u64 hr.a, .int .u64 hr.b, .int .u64 hr.c, .int .u64 hr.d] 29)).drew.alloc (.cells #[.int .u64 on.a, .int .u64 on.b, .int .u64 on.c, .int .u64 on.d, .int .u64 0, .int .u64 0, .int .u64 0, .int .u64 0] 107))
 have HO := Lib.hid ho
 have hnews : ∀ j u, (ecells ⟨on, Bg.nil⟩)[j]? = some u → (((w1.alloc (.cells #[.int .u64 hr.a, .int .u64 hr.b, .int .u64 hr.c, .int .u64 hr.d] 29)).drew).alloc (.cells #[.int .u64 on.a, .int .u64 on.b, .int .u64 on.c, .int .u64 on.d, .int .u64 0, .int .u64 0, .int .u64 0, .int .u64 0] 107)).cell? ((⟨((w1.alloc (.cells #[.int .u64 hr.a, .int .u64 hr.b, .int .u64 hr.c, .int .u64 hr.d] 29)).drew).heap.size, 0, none⟩ : Addr).add j) = some u := World.news_of_block (heap_alloc_new ((w1.alloc (.cells #[.int .u64 hr.a, .int .u64 hr.b, .int .u64 hr.c, .int .u64 hr.d] 29)).drew) (.cells #[.int .u64 on.a, .int .u64 on.b, .int .u64 on.c, .int .u64 on.d, .int .u64 0, .int .u64 0, .int .u64 0, .int .u64 0] 107))
 have HN := Lib.hid hnews
 clear ho hnews
 go_wp2
 go_region_law (refine step_append_lies _ (by rfl) (.tmp 17) (.tmp 20) 101 (by rfl) base 107 i0 (.agg #[.int .u64 0, .int .u64 0, .int .u64 0, .int .u64 0, .int .u64 0, .int .u64 0, .int .u64 0, .int .u64 0]) 8 64 Tryz.underlying101 hi hz hz1 hz2 rfl (by omega) (.slice A l.length c) l.length (cells8 l) (by simp [Act.eval]) HO.out _ 1 1 (ecells ⟨on, Bg.nil⟩) (by simp [Act.eval]) rfl HN.out (by simp [ecells, Value.oneCell']) (by omega) (by unfold maxLen; omega) (by omega) (by simp; omega) _ rfl ?_; intro gg cap w2 hown1 hgrow hat hlt; have hq1 := Lib.hid (((HX1.out.alloc (.cells #[.int .u64 hr.a, .int .u64 hr.b, .int .u64 hr.c, .int .u64 hr.d] 29)).drew.alloc (.cells #[.int .u64 on.a, .int .u64 on.b, .int .u64 on.c, .int .u64 on.d, .int .u64 0, .int .u64 0, .int .u64 0, .int .u64 0] 107)).kept hgrow HNE.out); have hc1 := hq1.out.cell.1; have hf1 := hq1.out.free 0)
 all_goals
  have hob : ∀ g, (Value.slice A l.length c).ownBlock = some g → g < w.heap.size := fun g hg => (HE.out.block g hg).2.1
  have hsz2 : (((w1.alloc (.cells #[.int .u64 hr.a, .int .u64 hr.b, .int .u64 hr.c, .int .u64 hr.d] 29)).drew.alloc (.cells #[.int .u64 on.a, .int .u64 on.b, .int .u64 on.c, .int .u64 on.d, .int .u64 0, .int .u64 0, .int .u64 0, .int .u64 0] 107))).heap.size = w1.heap.size + 1 + 1 := by simp
  have hgg : gg < w.heap.size ∨ w1.heap.size + 1 + 1 ≤ gg := by
   rcases hat with e | e
   ·exact .inl (hob gg e)
   ·right; simp at e; omega
  have hgN : N ≠ gg := by
   rcases hat with e | e
   ·intro e2; exact HNE.out (by rw [e, e2])
   ·simp at e; omega
  have hE2 : Ent base w2 (.slice (some ⟨gg, 0, none⟩) (l.length + 1) cap) (l ++ [⟨on, Bg.nil⟩]) := by
   unfold Ent
   rw [cells8_append, List.length_append]
   exact hown1
  have hA2 := At_kept (At_drew (Bg.At.new w1 hr) |>.alloc (.cells #[.int .u64 on.a, .int .u64 on.b, .int .u64 on.c, .int .u64 on.d, .int .u64 0, .int .u64 0, .int .u64 0, .int .u64 0] 107)) hgrow (fun e => by have := hob _ e.symm; omega)
  have hP2 := (((HP1.out.alloc (.cells #[.int .u64 hr.a, .int .u64 hr.b, .int .u64 hr.c, .int .u64 hr.d] 29)).drew.alloc (.cells #[.int .u64 on.a, .int .u64 on.b, .int .u64 on.c, .int .u64 on.d, .int .u64 0, .int .u64 0, .int .u64 0, .int .u64 0] 107))).kept hgrow (fun e => by have := hob _ e.symm; omega)
  have hF2 : NFrame base N w w2 := (((NFrame.of_below HB1.out).trans (NFrame.alloc _)).drew.trans (NFrame.alloc _)).trans (NFrame.of_grown HO.out hgrow)
  have hA3 := hA2.other (k := N) (by omega) 0 (.slice (some ⟨gg, 0, none⟩) (l.length + 1) cap)
  have hP3 := hP2.other (b := N) (by omega) 0 (.slice (some ⟨gg, 0, none⟩) (l.length + 1) cap)
  have HX3 := Lib.hid (hq1.out.set0 (.slice (some ⟨gg, 0, none⟩) (l.length + 1) cap))
  have HE3 := Lib.hid (hE2.other (b := N) (by simp [Value.ownBlock]; omega) 0 (.slice (some ⟨gg, 0, none⟩) (l.length + 1) cap))
  have HF3 := Lib.hid (hF2.trans (NFrame.setOwn hb 0 (.slice (some ⟨gg, 0, none⟩) (l.length + 1) cap)))
  obtain ⟨b0, b1, b2, b3, _⟩ := hA3.cell
  obtain ⟨k0, ⟨k1, k2, k3, k4⟩, k5, k6, k7, k8⟩ := hP3.cell
  have f0 := hP3.free 0
  have f1 := hP3.free 1
  have f2 := hP3.free 2
  have f3 := hP3.free 3
  have f4 := hP3.free 4
  have f5 := hP3.free 5
  have f6 := hP3.free 6
  have f7 := hP3.free 7
  have f8 := hP3.free 8
  have HP3 := Lib.hid hP3
  have hsz3 := hP3.lt
  clear hE2 hA2 hP2 hF2 hA3 hP3 hown1 hgrow hc1 hf1 hq1 hat
  generalize w2.setCell ⟨N, 0, none⟩ (.slice (some ⟨gg, 0, none⟩) (l.length + 1) cap) = w3 at b0 b1 b2 b3 k0 k1 k2 k3 k4 k5 k6 k7 k8 f0 f1 f2 f3 f4 f5 f6 f7 f8 HP3 HX3 HE3 HF3 hsz3 ⊢
  go_wp2
  have hs := HP3.out.store ⟨false, hr, hr⟩
  have hle : (lay on l) = (⟨false, hr, hr⟩, l ++ [⟨on, Bg.nil⟩]) := by unfold lay; rw [hhr]
  have hgP : gg ≠ w.heap.size + 1 := by omega
  obtain ⟨m0, ⟨m1, m2, m3, m4⟩, m5, m6, m7, m8⟩ := hs.cell
  refine bodyPost_ret (v := pcV ⟨false, hr, hr⟩) ?_ rfl ⟨by rw [hle], ?_, ?_⟩
  ·simp [pcV, results, Tryz.results173, go_sem, m0, m1, m2, m3, m4, m5, m6, m7, m8]
  ·rw [hle]
   refine ⟨.slice (some ⟨gg, 0, none⟩) (l.length + 1) cap, ?_, ?_, by simp [Value.ownBlock]; omega⟩
   ·exact ((((((((HX3.out.other (by omega) _ _).other (by omega) _ _).other (by omega) _ _).other (by omega) _ _).other (by omega) _ _).other (by omega) _ _).other (by omega) _ _).other (by omega) _ _).other (by omega) _ _
   ·have hn : (Value.slice (some ⟨gg, 0, none⟩) (l.length + 1) cap).ownBlock ≠ some (w.heap.size + 1) := by simp [Value.ownBlock]; omega
    exact ((((((((HE3.out.other hn _ _).other hn _ _).other hn _ _).other hn _ _).other hn _ _).other hn _ _).other hn _ _).other hn _ _).other hn _ _
  ·exact ((((((((HF3.out.setNew (by omega) _ _).setNew (by omega) _ _).setNew (by omega) _ _).setNew (by omega) _ _).setNew (by omega) _ _).setNew (by omega) _ _).setNew (by omega) _ _).setNew (by omega) _ _).setNew (by omega) _ _
end Go.Proofs.YtnbchikiiipejaaGreatDoor.Nf
namespace Go.Proofs.YtnbchikiiipejaaGreatDoor.Nf
open Go.RowKit Mem
open Bg (Bag bagV)
def atE (l : List En) (i : Int) : En := if 0 ≤ i then l.getD i.toNat ⟨Bg.nil, Bg.nil⟩ else ⟨Bg.nil, Bg.nil⟩
variable {base : Nat}
theorem places_any (N : Nat) (l : List En) (p : Pc) (w : World) (h : NS base N w l p) :
  Calls Tryz.prog 13 #[.pointer (some ⟨N, 0, none⟩)] w fun e w' => e = .returned (.int .i64 (l.length : Int)) ∧ w = w' := by
 obtain ⟨v, hbx, hen, hne⟩ := h
 obtain ⟨A, c, rfl⟩ := hen.form
 have c0 := hbx.cell.1
 clear hbx hen hne
 go_enter Tryz.func13, Tryz.ntmps13
 go_wp2
 go_ret
 exact ⟨rfl, rfl⟩
theorem first_any (N : Nat) (l : List En) (p : Pc) (w : World) (h : NS base N w l p) :
  Calls Tryz.prog 15 #[.pointer (some ⟨N, 0, none⟩)] w fun e w' => e = .returned (bagV p.first) ∧ Below w.heap.size w w' := by
 obtain ⟨v, hbx, hen, hne⟩ := h
 obtain ⟨_, _, ⟨c2, c3, c4, c5⟩, _⟩ := hbx.cell
 have hlt := hbx.lt
 have HV := Lib.hid (Bg.At.new w Bg.nil)
 have HB := Lib.hid ((Below.refl _ w).alloc (Nat.le_refl _) (.cells #[.int .u64 0, .int .u64 0, .int .u64 0, .int .u64 0] 29))
 clear hbx hen hne
 go_enter Tryz.func15, Tryz.ntmps15
 go_wp2
 refine bodyPost_ret (v := bagV p.first) ?_ rfl ⟨rfl, ?_⟩
 ·simp [bagV, results, Tryz.results15, go_sem]
 ·exact (Below.refl _ w).alloc (Nat.le_refl _) _
theorem ends_any (N : Nat) (l : List En) (p : Pc) (w : World) (h : NS base N w l p) :
  Calls Tryz.prog 16 #[.pointer (some ⟨N, 0, none⟩)] w fun e w' => e = .returned (bagV p.ends) ∧ Below w.heap.size w w' := by
 obtain ⟨v, hbx, hen, hne⟩ := h
 obtain ⟨_, _, _, c2, c3, c4, c5⟩ := hbx.cell
 have hlt := hbx.lt
 have HV := Lib.hid (Bg.At.new w Bg.nil)
 have HB := Lib.hid ((Below.refl _ w).alloc (Nat.le_refl _) (.cells #[.int .u64 0, .int .u64 0, .int .u64 0, .int .u64 0] 29))
 clear hbx hen hne
 go_enter Tryz.func16, Tryz.ntmps16
 go_wp2
 refine bodyPost_ret (v := bagV p.ends) ?_ rfl ⟨rfl, ?_⟩
 ·simp [bagV, results, Tryz.results16, go_sem]
 ·exact (Below.refl _ w).alloc (Nat.le_refl _) _
def enV (x : En) : Value := .agg #[.int .u64 x.on.a, .int .u64 x.on.b, .int .u64 x.on.c, .int .u64 x.on.d, .int .u64 x.behind.a, .int .u64 x.behind.b, .int .u64 x.behind.c, .int .u64 x.behind.d]
theorem at_any (N : Nat) (l : List En) (p : Pc) (i : Int) (w : World) (h : NS base N w l p) :
  Calls Tryz.prog 60 #[.pointer (some ⟨N, 0, none⟩), .int .i64 i] w fun e w' => e = .returned (enV (atE l i)) ∧ Below w.heap.size w w' := by
 have hb0 := (Below.refl _ w).alloc (Nat.le_refl _) (.cells #[.int .u64 0, .int .u64 0, .int .u64 0, .int .u64 0, .int .u64 0, .int .u64 0, .int .u64 0, .int .u64 0] 107)
 have HB := Lib.hid hb0
 have HS := Lib.hid (h.belowAll hb0)
 obtain ⟨v, hbx, hen, hne⟩ := h
 have c0 := hbx.cell.1
 have hlt := hbx.lt
 have HE := Lib.hid hen
 clear hbx hen hne hb0
 by_cases hi : i < 0
 ·go_enter Tryz.func60, Tryz.ntmps60
  go_wp2
  have e : atE l i = ⟨Bg.nil, Bg.nil⟩ := by unfold atE; rw [if_neg (by omega)]
  refine bodyPost_ret (v := enV ⟨Bg.nil, Bg.nil⟩) ?_ rfl ⟨by rw [e], (Below.refl _ w).alloc (Nat.le_refl _) _⟩
  exact (by simp [enV, results, Tryz.results60, go_sem, Bg.nil])
 ·by_cases hl : i < (l.length : Int)
  ·obtain ⟨k, rfl⟩ : ∃ k : Nat, i = k := ⟨i.toNat, by omega⟩
   have hk : k < l.length := by omega
   obtain ⟨g, cap, rfl, hbg, hg, hcap, hcm, hfr, hcs⟩ := HE.out.opn (by omega)
   obtain ⟨⟨q0, q1, q2, q3⟩, q4, q5, q6, q7⟩ := hcs k hk
   have e : atE l (k : Int) = l[k] := by unfold atE; rw [if_pos (by omega)]; simp [hk]
   generalize l[k] = x at *
   clear hcs
   go_enter Tryz.func60, Tryz.ntmps60
   go_wp2_with (go_at_call 13; refine (places_any N l p _ HS.out).mono ?_; rintro e w' ⟨rfl, rfl⟩)
   refine bodyPost_ret (v := enV x) ?_ rfl ⟨by rw [e], (Below.refl _ w).alloc (Nat.le_refl _) _⟩
   simp [enV, results, Tryz.results60, go_sem]
  ·go_enter Tryz.func60, Tryz.ntmps60
   go_wp2_with (go_at_call 13; refine (places_any N l p _ HS.out).mono ?_; rintro e w' ⟨rfl, rfl⟩)
   have e : atE l i = ⟨Bg.nil, Bg.nil⟩ := by
    unfold atE; rw [if_pos (by omega)]
    have : l.length ≤ i.toNat := by omega
    simp [List.getD, List.getElem?_eq_none this]
   refine bodyPost_ret (v := enV ⟨Bg.nil, Bg.nil⟩) ?_ rfl ⟨by rw [e], (Below.refl _ w).alloc (Nat.le_refl _) _⟩
   exact (by simp [enV, results, Tryz.results60, go_sem, Bg.nil])
theorem fld_behind (a b c d p q r t : Int) (w : World) : (Instr.field 107 (.agg #[.int .u64 a, .int .u64 b, .int .u64 c, .int .u64 d, .int .u64 p, .int .u64 q, .int .u64 r, .int .u64 t]) 1).run Tryz.prog w = .ok (.agg #[.int .u64 p, .int .u64 q, .int .u64 r, .int .u64 t]) w := by kernel_rfl
theorem behind_any (N : Nat) (l : List En) (p : Pc) (i : Int) (w : World) (h : NS base N w l p) :
  Calls Tryz.prog 17 #[.pointer (some ⟨N, 0, none⟩), .int .i64 i] w fun e w' => e = .returned (bagV (atE l i).behind) ∧ Below w.heap.size w w' := by
 have hb0 := (Below.refl _ w).alloc (Nat.le_refl _) (.cells #[.int .u64 0, .int .u64 0, .int .u64 0, .int .u64 0] 29)
 have HV := Lib.hid (Bg.At.new w Bg.nil)
 have HB := Lib.hid hb0
 have HS := Lib.hid (h.belowAll hb0)
 clear h hb0
 go_enter Tryz.func17, Tryz.ntmps17
 obtain ⟨x, hx⟩ : ∃ x, atE l i = x := ⟨_, rfl⟩
 have hfl := fld_behind x.on.a x.on.b x.on.c x.on.d x.behind.a x.behind.b x.behind.c x.behind.d
 go_wp2_with (go_at_call 60; refine (at_any N l p i _ HS.out).mono ?_; rw [hx]; unfold enV; rintro e w1 ⟨rfl, hb1⟩; have HA := Lib.hid (HV.out.below hb1 (by simp)); have HB1 := Lib.hid (HB.out.trans (hb1.mono (by simp))); obtain ⟨d0, d1, d2, d3, hf⟩ := HA.out.cell; have f0 := hf 0; have f1 := hf 1; have f2 := hf 2; have f3 := hf 3; clear hb1 hf)
 have hs := HA.out.store x.behind
 obtain ⟨s0, s1, s2, s3, _⟩ := hs.cell
 refine bodyPost_ret (v := bagV x.behind) ?_ rfl ⟨by rw [hx], ?_⟩
 ·simp [bagV, results, Tryz.results17, go_sem, s0, s1, s2, s3]
 ·exact ((((HB1.out).setCell (Nat.le_refl _) _).setCell (Nat.le_refl _) _).setCell (Nat.le_refl _) _).setCell (Nat.le_refl _) _
end Go.Proofs.YtnbchikiiipejaaGreatDoor.Nf
namespace Go.Proofs.YtnbchikiiipejaaGreatDoor.Nf
open Go.RowKit Mem
open Bg (Bag bagV)
def pccells (x : Pc) : List Value := [.bool x.em, .int .u64 x.first.a, .int .u64 x.first.b, .int .u64 x.first.c, .int .u64 x.first.d, .int .u64 x.ends.a, .int .u64 x.ends.b, .int .u64 x.ends.c, .int .u64 x.ends.d]
def cells9 (l : List Pc) : List Value := l.flatMap pccells
theorem cells9_cons (a : Pc) (l : List Pc) : cells9 (a :: l) = .bool a.em :: .int .u64 a.first.a :: .int .u64 a.first.b :: .int .u64 a.first.c :: .int .u64 a.first.d :: .int .u64 a.ends.a :: .int .u64 a.ends.b :: .int .u64 a.ends.c :: .int .u64 a.ends.d :: cells9 l := rfl
theorem cells9_append (h k : List Pc) : cells9 (h ++ k) = cells9 h ++ cells9 k := by simp [cells9]
theorem cells9_at (l : List Pc) : ∀ i (hi : i < l.length),
  (cells9 l)[i * 9]? = some (.bool l[i].em) ∧
  ((cells9 l)[i * 9 + 1]? = some (.int .u64 l[i].first.a) ∧ (cells9 l)[i * 9 + 2]? = some (.int .u64 l[i].first.b) ∧ (cells9 l)[i * 9 + 3]? = some (.int .u64 l[i].first.c) ∧ (cells9 l)[i * 9 + 4]? = some (.int .u64 l[i].first.d)) ∧
  ((cells9 l)[i * 9 + 5]? = some (.int .u64 l[i].ends.a) ∧ (cells9 l)[i * 9 + 6]? = some (.int .u64 l[i].ends.b) ∧ (cells9 l)[i * 9 + 7]? = some (.int .u64 l[i].ends.c) ∧ (cells9 l)[i * 9 + 8]? = some (.int .u64 l[i].ends.d)) := by
 induction l with
 | nil => intro i hi; simp at hi
 | cons a l ih =>
  intro i hi
  cases i with
  | zero => exact ⟨rfl, ⟨rfl, rfl, rfl, rfl⟩, rfl, rfl, rfl, rfl⟩
  | succ i =>
   have := ih i (by simpa using hi)
   rw [cells9_cons, show (i + 1) * 9 = i * 9 + 1 + 1 + 1 + 1 + 1 + 1 + 1 + 1 + 1 from by omega]
   simpa using this
def Pcs (base : Nat) (W : World) (v : Value) (l : List Pc) : Prop := W.ownsRow base 103 9 v l.length (cells9 l)
section
variable {base : Nat} {W W' : World} {v : Value} {l : List Pc}
theorem Pcs.nil : Pcs base W (.slice none 0 0) [] := World.ownsRow_nil _ _ _ _
theorem Pcs.form (h : Pcs base W v l) : ∃ A c, v = .slice A l.length c := by
 rcases h.2 with ⟨hv, h0⟩ | ⟨g, cap, cur, hv, _⟩
 ·exact ⟨none, 0, by rw [hv, h0]⟩
 ·exact ⟨_, _, hv⟩
theorem Pcs.block (h : Pcs base W v l) : ∀ g, v.ownBlock = some g → base ≤ g ∧ g < W.heap.size ∧ ∃ cs fr, W.heap[g]? = some (.cells cs 103 fr) := by
 intro g hg
 rcases h.2 with ⟨hv, _⟩ | ⟨g', cap, cur, hv, hb, hh, _⟩
 ·subst hv; cases hg
 ·subst hv
  simp only [Value.ownBlock, Option.some.injEq] at hg
  subst hg
  exact ⟨hb, lt_of_some hh, _, _, hh⟩
theorem Pcs.belowAll (h : Pcs base W v l) (hb : Below W.heap.size W W') : Pcs base W' v l := by
 refine ⟨h.1, ?_⟩
 rcases h.2 with hn | ⟨g, cap, cur, hv, h1, h2, r⟩
 ·exact .inl hn
 ·subst hv
  exact .inr ⟨g, cap, cur, rfl, h1, by rw [hb.block g (lt_of_some h2)]; exact h2, r⟩
theorem Pcs.alloc (h : Pcs base W v l) (o : Obj) : Pcs base (W.alloc o) v l := h.belowAll ((Below.refl _ W).alloc (Nat.le_refl _) o)
theorem Pcs.frame {base' N : Nat} (h : Pcs base W v l) (hf : NFrame base' N W W') (hN : ∀ g, v.ownBlock = some g → g ≠ N) : Pcs base W' v l := by
 refine ⟨h.1, ?_⟩
 rcases h.2 with hn | ⟨g, cap, cur, hv, h1, h2, r⟩
 ·exact .inl hn
 ·subst hv
  exact .inr ⟨g, cap, cur, rfl, h1, hf.other g _ h2 (hN g rfl) (fun cs fr e => by injection e with _ e _; exact absurd e (by decide)), r⟩
theorem Pcs.opn (h : Pcs base W v l) (hp : 0 < l.length) : ∃ g cap, v = .slice (some ⟨g, 0, none⟩) l.length cap ∧ base ≤ g ∧ g < W.heap.size ∧ l.length ≤ cap ∧
  (∀ i (hi : i < l.length), W.cell? ⟨g, i * 9, none⟩ = some (.bool l[i].em) ∧
    (W.cell? ⟨g, i * 9 + 1, none⟩ = some (.int .u64 l[i].first.a) ∧ W.cell? ⟨g, i * 9 + 2, none⟩ = some (.int .u64 l[i].first.b) ∧ W.cell? ⟨g, i * 9 + 3, none⟩ = some (.int .u64 l[i].first.c) ∧ W.cell? ⟨g, i * 9 + 4, none⟩ = some (.int .u64 l[i].first.d)) ∧
    (W.cell? ⟨g, i * 9 + 5, none⟩ = some (.int .u64 l[i].ends.a) ∧ W.cell? ⟨g, i * 9 + 6, none⟩ = some (.int .u64 l[i].ends.b) ∧ W.cell? ⟨g, i * 9 + 7, none⟩ = some (.int .u64 l[i].ends.c) ∧ W.cell? ⟨g, i * 9 + 8, none⟩ = some (.int .u64 l[i].ends.d))) := by
 have h' := h
 rcases h.2 with ⟨_, h0⟩ | ⟨g, cap, cur, hv, hb, hg, hnc, hcm, hs, ht⟩
 ·omega
 ·subst hv
  refine ⟨g, cap, rfl, hb, (Array.getElem?_eq_some_iff.1 hg).1, hnc, fun i hi => ?_⟩
  obtain ⟨e0, ⟨e1, e2, e3, e4⟩, e5, e6, e7, e8⟩ := cells9_at l i hi
  refine ⟨?_, ⟨?_, ?_, ?_, ?_⟩, ?_, ?_, ?_, ?_⟩
  all_goals rw [World.ownsRow.cellAt h' _ (by omega)]; assumption
end
theorem either_snoc (l : List Pc) (p : Pc) : either (l ++ [p]) = or1 (either l) p := by simp [either]
end Go.Proofs.YtnbchikiiipejaaGreatDoor.Nf
namespace Go.Proofs.YtnbchikiiipejaaGreatDoor.Nf
open Go.RowKit Mem
open Bg (Bag bagV)
def Pc.ok (p : Pc) : Prop := p.first.ok ∧ p.ends.ok
theorem or1_ok {a b : Pc} (h : a.ok) (g : b.ok) : (or1 a b).ok := ⟨Bg.or_ok h.1 g.1, Bg.or_ok h.2 g.2⟩
theorem either_ok (s : List Pc) (h : ∀ p ∈ s, p.ok) : (either s).ok := by
 unfold either
 generalize hz : (⟨false, Bg.nil, Bg.nil⟩ : Pc) = z
 have h0 : z.ok := by rw [← hz]; exact ⟨Bg.nil_ok, Bg.nil_ok⟩
 clear hz
 induction s generalizing z with
 | nil => exact h0
 | cons p s ih => exact ih (fun q hq => h q (List.mem_cons_of_mem _ hq)) (or1 z p) (or1_ok h0 (h p List.mem_cons_self))
section
variable {W : World} {g : Nat} {p : Pc}
theorem PAt.setEm (h : PAt W g p) (b : Bool) : PAt (W.setCell ⟨g, 0, none⟩ (.bool b)) g { p with em := b } := by
 unfold PAt at h ⊢
 simp [World.setCell, Array.getElem?_modify, h]
theorem PAt.setFirst (h : PAt W g p) (x : Bag) : PAt ((((W.setCell ⟨g, 1, none⟩ (.int .u64 x.a)).setCell ⟨g, 2, none⟩ (.int .u64 x.b)).setCell ⟨g, 3, none⟩ (.int .u64 x.c)).setCell ⟨g, 4, none⟩ (.int .u64 x.d)) g { p with first := x } := by
 unfold PAt at h ⊢
 simp [World.setCell, Array.getElem?_modify, h]
theorem PAt.setEnds (h : PAt W g p) (x : Bag) : PAt ((((W.setCell ⟨g, 5, none⟩ (.int .u64 x.a)).setCell ⟨g, 6, none⟩ (.int .u64 x.b)).setCell ⟨g, 7, none⟩ (.int .u64 x.c)).setCell ⟨g, 8, none⟩ (.int .u64 x.d)) g { p with ends := x } := by
 unfold PAt at h ⊢
 simp [World.setCell, Array.getElem?_modify, h]
end
theorem either_any {base : Nat} (A : Option Addr) (c : Nat) (s : List Pc) (w : World) (h : Pcs base w (.slice A s.length c) s) (hok : ∀ p ∈ s, p.ok) (hn : s.length ≤ 1000000) :
  Calls Tryz.prog 175 #[.slice A s.length c] w fun e w' => e = .returned (pcV (either s)) ∧ Below w.heap.size w w' := by
 have HR := Lib.hid h
 have HOK := Lib.hid hok
 obtain ⟨n, hnn⟩ : ∃ n, n = s.length := ⟨_, rfl⟩
 rw [← hnn] at hn HR
 rw [← hnn]
 have hv0 := PAt.new w ⟨false, Bg.nil, Bg.nil⟩
 have hw0 := PAt.new (w.alloc (.cells #[.bool false, .int .u64 0, .int .u64 0, .int .u64 0, .int .u64 0, .int .u64 0, .int .u64 0, .int .u64 0, .int .u64 0] 103)) ⟨false, Bg.nil, Bg.nil⟩
 rw [World.size_alloc] at hw0
 have hb0 := ((Below.refl _ w).alloc (Nat.le_refl _) (.cells #[.bool false, .int .u64 0, .int .u64 0, .int .u64 0, .int .u64 0, .int .u64 0, .int .u64 0, .int .u64 0, .int .u64 0] 103)).alloc (by simp) (.cells #[.bool false, .int .u64 0, .int .u64 0, .int .u64 0, .int .u64 0, .int .u64 0, .int .u64 0, .int .u64 0, .int .u64 0] 103)
 have H0 := Lib.hid hw0
 have HV := Lib.hid hv0
 have HB := Lib.hid hb0
 clear h hok hw0 hv0 hb0
 go_enter Tryz.func175, Tryz.ntmps175
 go_wp2
 go_loopw [8] (fun i wr => ∃ k : Nat, k ≤ n ∧ i = .int .i64 k ∧ Below w.heap.size w wr ∧ PAt wr (w.heap.size + 1) (either (s.take k)) ∧ ∃ y, PAt wr w.heap.size y) (fun i _ => n - (intOf i).toNat)
 case atStart => exact ⟨0, Nat.zero_le _, rfl, HB.out, H0.out, _, HV.out.alloc _⟩
 case round =>
  obtain ⟨k, hk, rfl, hb, ha, y, hy⟩ := hrel
  have hlt1 := ha.lt
  by_cases hlt : k < n
  ·have hks : k < s.length := by omega
   obtain ⟨g, cap, hA, hbg, hg, hcap, hcs⟩ := (HR.out.belowAll hb).opn (by omega)
   obtain ⟨rfl, _, rfl⟩ : A = some ⟨g, 0, none⟩ ∧ n = s.length ∧ c = cap := by simpa using hA
   obtain ⟨q0, ⟨q1, q2, q3, q4⟩, q5, q6, q7, q8⟩ := hcs k hks
   have hsn : either (s.take (k + 1)) = or1 (either (s.take k)) s[k] := by rw [List.take_succ_eq_append_getElem hks, either_snoc]
   have hzo := either_ok (s.take k) (fun p hp => HOK.out p (List.mem_of_mem_take hp))
   have hxo := HOK.out s[k] (List.getElem_mem hks)
   obtain ⟨x, hx⟩ : ∃ x, s[k] = x := ⟨_, rfl⟩
   obtain ⟨z, hz⟩ : ∃ z, either (s.take k) = z := ⟨_, rfl⟩
   rw [hx] at q0 q1 q2 q3 q4 q5 q6 q7 q8 hsn hxo
   rw [hz] at ha hsn hzo
   obtain ⟨ze, zf, zn⟩ := z
   have HXO := Lib.hid hxo
   have HZO := Lib.hid hzo
   have HSN := Lib.hid hsn
   obtain ⟨m0, ⟨m1, m2, m3, m4⟩, m5, m6, m7, m8⟩ := ha.cell
   have f0 := ha.free 0
   have HA := Lib.hid ha; have HY := Lib.hid hy; have HB := Lib.hid hb
   have hsz : w.heap.size + 1 < wr.heap.size := hlt1
   clear ha hy hb hcs hA hxo hzo hsn hx hz
   cases ze
   all_goals
    go_wp2_with (first
     | (have hg := HA1; clear hg; go_at_call 28; refine (Bg.or_any zn x.ends HZO.out.2 HXO.out.2 _).mono ?_; rintro e w2 ⟨rfl, hb2⟩; unfold bagV; have HA2 := Lib.hid ((HA1.out.setFirst (zf.orB x.first)).below hb2 (by simp; omega)); have HY2 := Lib.hid (((((HY1.out.other (by omega) _ _).other (by omega) _ _).other (by omega) _ _).other (by omega) _ _).below hb2 (by simp; omega)); have HB2 := Lib.hid (((((HB1.out.setCell (by simp) _).setCell (by simp) _).setCell (by simp) _).setCell (by simp) _).trans (hb2.mono (by simp; omega))); obtain ⟨_, ⟨_, _, _, _⟩, u5, u6, u7, u8⟩ := HA2.out.cell; have h5 := HA2.out.free 5; have h6 := HA2.out.free 6; have h7 := HA2.out.free 7; have h8 := HA2.out.free 8; clear hb2)
     | (go_at_call 28; refine (Bg.or_any zf x.first HZO.out.1 HXO.out.1 _).mono ?_; rintro e w1 ⟨rfl, hb1⟩; unfold bagV; have HA1 := Lib.hid (((HA.out.setEm _).alloc _).below hb1 (by simp; omega)); have hn1 := (PAt.new _ x).below hb1 (by simp); rw [World.size_setCell] at hn1; have HN1 := Lib.hid hn1; clear hn1; have HY1 := Lib.hid (((HY.out.other (by omega) _ _).alloc _).below hb1 (by have := HY.out.lt; simp; omega)); have HB1 := Lib.hid (((HB.out.setCell (by simp) _).alloc (by simp; omega) _).trans (hb1.mono (by simp; omega))); obtain ⟨_, ⟨n1, n2, n3, n4⟩, n5, n6, n7, n8⟩ := HN1.out.cell; obtain ⟨_, ⟨o1, o2, o3, o4⟩, o5, o6, o7, o8⟩ := HA1.out.cell; have h1 := HA1.out.free 1; have h2 := HA1.out.free 2; have h3 := HA1.out.free 3; have h4 := HA1.out.free 4; have hs1 := HN1.out.lt; clear hb1))
    go_roundw
    case rel =>
     refine ⟨k + 1, by omega, by go_num, ?_, ?_, y, ?_⟩
     ·exact ((((HB2.out).setCell (by simp) _).setCell (by simp) _).setCell (by simp) _).setCell (by simp) _
     ·rw [HSN.out]; exact HA2.out.setEnds (zn.orB x.ends)
     ·exact (((HY2.out.other (by omega) _ _).other (by omega) _ _).other (by omega) _ _).other (by omega) _ _
    case measure => simp [intOf]; omega
  ·obtain rfl : k = n := by omega
   have e : s.take k = s := List.take_of_length_le (by omega)
   rw [e] at ha
   obtain ⟨m0, ⟨m1, m2, m3, m4⟩, m5, m6, m7, m8⟩ := ha.cell
   obtain ⟨r0, ⟨r1, r2, r3, r4⟩, r5, r6, r7, r8⟩ := hy.cell
   have f0 := hy.free 0; have f1 := hy.free 1; have f2 := hy.free 2; have f3 := hy.free 3; have f4 := hy.free 4; have f5 := hy.free 5; have f6 := hy.free 6; have f7 := hy.free 7; have f8 := hy.free 8
   have HA := Lib.hid ha; have HY := Lib.hid hy; have HB := Lib.hid hb
   clear ha hb hy
   go_wp2
   have hs := HY.out.store (either s)
   obtain ⟨s0, ⟨s1, s2, s3, s4⟩, s5, s6, s7, s8⟩ := hs.cell
   refine bodyPost_ret (v := pcV (either s)) ?_ rfl ⟨rfl, ?_⟩
   ·simp [pcV, results, Tryz.results175, go_sem, s0, s1, s2, s3, s4, s5, s6, s7, s8]
   ·exact (((((((((HB.out).setCell (Nat.le_refl _) _).setCell (Nat.le_refl _) _).setCell (Nat.le_refl _) _).setCell (Nat.le_refl _) _).setCell (Nat.le_refl _) _).setCell (Nat.le_refl _) _).setCell (Nat.le_refl _) _).setCell (Nat.le_refl _) _).setCell (Nat.le_refl _) _
end Go.Proofs.YtnbchikiiipejaaGreatDoor.Nf
namespace Go.Proofs.YtnbchikiiipejaaGreatDoor.Nf
open Go.RowKit Go.Shelf Mem
open Bg (Bag bagV Tab)
attribute [local go_sem] Oper.semAt_some
theorem any_in_round {P : Program} {md : Region.Mode} {ops : Array Oper} {Q : Exit → Act → World → Prop} {n l : Nat} (hd : ∀ (i : Nat) (o : Oper), ops[i]? = some o → ∀ c, o.op ≠ .defer c) (hl : ¬ LetsOut Q) :
  ∀ (fuel : Nat) (listed : Array Bool) (a : Act) (w : World), wpAny P md ops Q fuel listed a w → wpAnyIn (Fence.wide.inRound l) n P md ops Q fuel listed a w
 | 0, _, _, _, h => h
 | fuel + 1, listed, a, w, h => by
  refine ⟨h.1, fun i hi => ?_⟩
  have h2 := h.2 i hi
  unfold wpOp at h2
  unfold wpOpIn
  cases ho : ops[i]? with
  | none => rw [ho] at h2; exact any_in_round hd hl fuel _ a w h2
  | some o =>
   rw [ho] at h2
   dsimp only at h2 ⊢
   split
   ·rename_i hw
    rw [if_pos hw] at h2
    have h3 := h2.resolve_right (fun g => hl g.2)
    refine ⟨fun f _ => trivial, ?_⟩
    rw [Oper.semAt_eq _ _ _ (hd i o ho)]
    unfold Oper.wp at h3
    generalize (execOp a.eval o).run P w = r at *
    cases r with
    | ok x w' =>
     cases x <;> simp only [Oper.upon, Oper.uponIn] at h3 ⊢ <;>
      first
       | exact any_in_round hd hl fuel _ _ _ h3
       | exact ⟨fun hh => by simp [Fence.wide] at hh, CallsIn.inRound l (callsIn_wide.2 (Calls.mono h3 (fun e w'' he => by cases e <;> first | exact any_in_round hd hl fuel _ _ _ he | exact he)))⟩
       | exact ⟨fun hh => by simp [Fence.wide] at hh, fun c cs _ => let ⟨v, w'', r, s⟩ := h3 c cs; ⟨v, w'', any_in_round hd hl fuel _ _ _ r, stepsIn_wide.2 s⟩⟩
    | halt x w' => cases x <;> simp only [Oper.upon, Oper.uponIn] at h3 ⊢ <;> exact h3
   ·rename_i hw
    rw [if_neg hw] at h2
    exact ⟨fun f _ => trivial, any_in_round hd hl fuel _ _ _ h2⟩
section
variable {base N : Nat} {W W' : World} {l : List En} {p : Pc}
theorem NS.kept {row : Option Nat} (h : NS base N W l p) (hg : W.grownBy W' row) (hr : ∀ r, row = some r → ∃ o : Obj, W.heap[r]? = some o ∧ o.isCells = false) : NS base N W' l p := by
 obtain ⟨v, h1, h2, h3⟩ := h
 have hN : some N ≠ row := by
  intro e
  obtain ⟨o, ho, hc⟩ := hr N e.symm
  unfold NBox at h1
  rw [h1] at ho; cases ho; cases hc
 refine ⟨v, h1.kept hg hN, World.ownsRow.kept h2 hg ?_, h3⟩
 rcases h2.2 with ⟨rfl, _⟩ | ⟨g, cap, cur, rfl, _, hgb, _⟩
 ·exact .inl rfl
 ·refine .inr fun e' => ?_
  obtain ⟨o, ho, hc⟩ := hr g (by simpa [Value.ownBlock] using e'.symm)
  rw [hgb] at ho; cases ho; cases hc
theorem NFrame.grown {W0 : World} {row : Option Nat} (h : NFrame base N W0 W) (hg : W.grownBy W' row) (hr : ∀ r, row = some r → W0.heap.size ≤ r ∧ base ≤ r) : NFrame base N W0 W' := by
 refine ⟨hg.os.trans h.os, hg.tape.trans h.tape, hg.output.trans h.output, Nat.le_trans h.size hg.size, fun k hk hs => ?_, fun k o h1 h2 h3 => ?_⟩
 ·exact (hg.block k (Nat.lt_of_lt_of_le hs h.size) (fun e => by have := hr k e.symm; omega)).trans (h.low k hk hs)
 ·have := lt_of_some h1
  exact (hg.block k (Nat.lt_of_lt_of_le this h.size) (fun e => by have := hr k e.symm; omega)).trans (h.other k o h1 h2 h3)
end
theorem cells_set {W : World} {g : Nat} {t : TypeId} (h : ∃ cs fr, W.heap[g]? = some (.cells cs t fr)) (j : Nat) (u : Value) : ∃ cs fr, (W.setCell ⟨g, j, none⟩ u).heap[g]? = some (.cells cs t fr) := by
 obtain ⟨cs, fr, hh⟩ := h
 refine ⟨cs.setIfInBounds j u, fr, ?_⟩
 simp [World.setCell, Array.getElem?_modify, hh]
theorem NFrame.store {base N g : Nat} {W : World} (hb : base ≤ g) (hg : ∃ cs fr, W.heap[g]? = some (.cells cs 107 fr)) (i : Nat) (a b c d : Value) :
  NFrame base N W ((((W.setCell ⟨g, i, none⟩ a).setCell ⟨g, i + 1, none⟩ b).setCell ⟨g, i + 2, none⟩ c).setCell ⟨g, i + 3, none⟩ d) :=
 (((NFrame.setRow hb hg _ _).trans (NFrame.setRow hb (cells_set hg _ _) _ _)).trans (NFrame.setRow hb (cells_set (cells_set hg _ _) _ _) _ _)).trans (NFrame.setRow hb (cells_set (cells_set (cells_set hg _ _) _ _) _ _) _ _)
theorem NFrame.keeps {base N : Nat} {W W' : World} {v : Value} {p : Pc} (h : NFrame base N W W') (hN : NBox W N v p) (B : Nat) : KeepsFrom B W W' :=
 ⟨h.size, fun k o _ hk ho => h.other k o hk (by rintro rfl; unfold NBox at hN; rw [hN] at hk; cases hk; cases ho) (by rintro cs fr rfl; cases ho)⟩
theorem region_round {P : Program} {ops : Array Oper} {Q : Exit → Act → World → Prop} {S : World → Prop} {n l id : Nat} {a : Act} {w : World} (hm : P.follows .mixedOrders = true)
  (hd : (ops.toList.all fun o => match o.op with | .defer _ => false | _ => true) = true) (hl : ¬ LetsOut Q) (hS : S w.drew)
  (h : S w.drew → wpAnyH P .any ops Q S ops.size (Array.replicate ops.size false) a w.drew) : (Code.region id ops true).wpIn (Fence.wide.inRound l) n P Q a w :=
 wpIn_region_any hm (any_in_round (fun i o ho c e => by
  have := List.all_eq_true.1 hd o (Array.mem_toList_iff.2 (Array.mem_of_getElem? ho))
  rw [e] at this; cases this) hl _ _ _ _ (wpAny_of_held _ _ _ _ (h hS)))
theorem lead_any {base : Nat} (N : Nat) (l : List En) (p0 : Pc) (frm to : Bag) (w : World) (h : NS base N w l p0) (hb : base ≤ N) (hT : Tab w) (hTb : 0 < base) (hf : Within l.length frm) (ht : to.ok) (hok : ∀ x ∈ l, x.ok) :
  Calls Tryz.prog 176 #[.pointer (some ⟨N, 0, none⟩), bagV frm, bagV to] w fun e w' => (∃ v, e = .returned v) ∧ NS base N w' (lead frm to l) p0 ∧ NFrame base N w w' := by
 have hNs : N < w.heap.size := by obtain ⟨v, h1, _⟩ := h; exact h1.lt
 refine (callsIn_wide (n := 3)).1 ?_
 unfold bagV
 refine callsIn_of_wp_marks Tryz.func176 rfl trivial ?_ rfl
 simp only [Tryz.ntmps176, List.size_toArray, List.length_cons, List.length_nil, Nat.reduceAdd, Nat.reduceSub, Array.replicate_succ, Array.replicate_zero, List.push_toArray, List.append_toArray, List.nil_append, List.cons_append]
 gi_wp2_with (refine ⟨trivial, ?_⟩; gi_at_call 74; refine (Bg.all_in Fence.wide (3 - 1) trivial rfl frm _).mono ?_; rintro e w' ⟨rfl, rfl⟩)
 have hw0 : base ≤ w.heap.size := by omega
 obtain ⟨W0, hW0⟩ : ∃ W0, W0 = (((w.alloc (.cells #[.pointer (some ⟨N, 0, none⟩)] 23)).alloc (.cells #[.int .u64 frm.a, .int .u64 frm.b, .int .u64 frm.c, .int .u64 frm.d] 29)).alloc (.cells #[.int .u64 to.a, .int .u64 to.b, .int .u64 to.c, .int .u64 to.d] 29)).alloc (.cells #[.int .u64 frm.a, .int .u64 frm.b, .int .u64 frm.c, .int .u64 frm.d] 29) := ⟨_, rfl⟩
 have hsz : W0.heap.size = w.heap.size + 1 + 1 + 1 + 1 := by rw [hW0]; simp
 have hB0 : Below w.heap.size w W0 := by rw [hW0]; exact ((((Below.refl _ w).alloc (Nat.le_refl _) _).alloc (by simp) _).alloc (by simp; omega) _).alloc (by simp; omega) _
 have hbx : Boxed W0 w.heap.size 23 (.pointer (some ⟨N, 0, none⟩)) := by rw [hW0]; exact (((Boxed.new w 23 (.pointer (some ⟨N, 0, none⟩))).alloc _).alloc _).alloc _
 have hto : Bg.At W0 (w.heap.size + 1 + 1) to := by
  rw [hW0]
  have := (Bg.At.new ((w.alloc (.cells #[.pointer (some ⟨N, 0, none⟩)] 23)).alloc (.cells #[.int .u64 frm.a, .int .u64 frm.b, .int .u64 frm.c, .int .u64 frm.d] 29)) to).alloc (.cells #[.int .u64 frm.a, .int .u64 frm.b, .int .u64 frm.c, .int .u64 frm.d] 29)
  simpa only [World.size_alloc] using this
 have hfr : Bg.At W0 (w.heap.size + 1 + 1 + 1) frm := by
  rw [hW0]
  have := Bg.At.new (((w.alloc (.cells #[.pointer (some ⟨N, 0, none⟩)] 23)).alloc (.cells #[.int .u64 frm.a, .int .u64 frm.b, .int .u64 frm.c, .int .u64 frm.d] 29)).alloc (.cells #[.int .u64 to.a, .int .u64 to.b, .int .u64 to.c, .int .u64 to.d] 29)) frm
  simpa only [World.size_alloc] using this
 rw [← hW0]
 have HNS := Lib.hid (h.belowAll hB0)
 have HT := Lib.hid (hT.below hB0 hT.2)
 clear hT h hW0
 have HB := Lib.hid hB0
 have HSZ := Lib.hid hsz
 have HX := Lib.hid hbx
 have HTO := Lib.hid hto
 have HFR := Lib.hid hfr
 have HF := Lib.hid hf
 have HT1 := Lib.hid ht
 have HOK := Lib.hid hok
 clear hB0 hsz hbx hto hfr hf ht hok
 refine wpIn_rangeFunc_ownG rfl (by omega) (gf := 123) (lb := #[.pointer (some ⟨w.heap.size + 1 + 1 + 1, 0, none⟩)]) rfl trivial (enters_of Tryz.func123 (by kernel_rfl) rfl)
  (Bg.all_stops_in (3 - 1) (by omega) (w.heap.size + 1 + 1 + 1) base frm HF.out.1 W0 (by rw [HSZ.out]; omega) (by rw [HSZ.out]; omega) hTb HFR.out HT.out) belowK_t (belowK_b (by rw [HSZ.out]; omega)) (Below.refl _ _) (fun _ => rfl)
  (fun (pre : List { y : Int // y ∈ frm.list }) W => NS base N W (leadL (pre.map (fun y => y.1)) to l) p0 ∧ NFrame base N W0 W)
  (fun _ _ _ => False)
  (by intro pre W W' row hI hg hr; exact ⟨hI.1.kept hg (fun r e => (hr r e).2), hI.2.grown hg (fun r e => by have := (hr r e).1; have := HSZ.out; omega)⟩)
  (fun _ _ _ _ _ hs _ _ => hs)
  ⟨HNS.out, NFrame.refl⟩
  (fun y => { tmps := #[.pointer (some ⟨N, 0, none⟩), .agg #[.int .u64 frm.a, .int .u64 frm.b, .int .u64 frm.c, .int .u64 frm.d], .agg #[.int .u64 to.a, .int .u64 to.b, .int .u64 to.c, .int .u64 to.d], .pointer (some ⟨w.heap.size, 0, none⟩), .pointer (some ⟨w.heap.size + 1, 0, none⟩), .pointer (some ⟨w.heap.size + 1 + 1, 0, none⟩), .int .i64 y.1, .agg #[.int .u64 frm.a, .int .u64 frm.b, .int .u64 frm.c, .int .u64 frm.d], .func (.func 123) #[] #[.pointer (some ⟨w.heap.size + 1 + 1 + 1, 0, none⟩)], .int .i64 y.1, undef, undef, undef, undef, undef, undef, undef, undef, undef, undef, undef, undef, undef, undef, undef, undef, undef], defers := [] }) ?assign ?body ?done ?stop
 case assign =>
  intro l y W K hK
  gi_wp2
  exact hK
 case body =>
  rintro l' pre ⟨y, hy⟩ W ⟨hI, hFr⟩ hlt
  obtain ⟨k, rfl⟩ : ∃ k : Nat, y = k := ⟨y.toNat, by have := list_nonneg frm y hy; omega⟩
  have hk : k < l.length := HF.out.2 k (by rw [Bg.has_hasI]; exact (Bg.mem_list _ _).1 hy)
  obtain ⟨L, hL⟩ : ∃ L, L = leadL (pre.map (fun y => y.1)) to l := ⟨_, rfl⟩
  have hLl : L.length = l.length := by rw [hL, leadL_length]
  have hLo : ∀ x ∈ L, x.ok := by rw [hL]; exact leadL_ok HT1.out _ _ HOK.out
  have hnext : leadL ((pre ++ [(⟨(k : Int), hy⟩ : { y : Int // y ∈ frm.list })]).map (fun y => y.1)) to l = L.modify k (lead1 to) := by
   rw [List.map_append, leadL_append, ← hL]; rfl
  have HNX := Lib.hid hnext
  have HLL := Lib.hid hLl
  rw [← hL] at hI
  have hkL : k < L.length := by omega
  obtain ⟨v, hbx, hen, hne⟩ := hI
  obtain ⟨g, cap, hv, hbg, hg, hcap, hcm, hfr, hcs⟩ := hen.opn (by omega)
  subst hv
  have hcell := hbx.cell.1
  obtain ⟨_, q4, q5, q6, q7⟩ := hcs k hkL
  have hxo := (hLo L[k] (List.getElem_mem hkL)).2
  have hmod : L.modify k (lead1 to) = L.modify k (fun e => { e with behind := L[k].behind.orB to }) := by
   apply List.ext_getElem?
   intro j
   rw [List.getElem?_modify, List.getElem?_modify]
   by_cases hj : k = j
   ·subst hj; simp [List.getElem?_eq_getElem hkL, lead1]
   ·simp [hj]
  have HMD := Lib.hid hmod
  obtain ⟨x, hx⟩ : ∃ x, L[k].behind = x := ⟨_, rfl⟩
  rw [hx] at q4 q5 q6 q7 hxo HMD
  have HXO := Lib.hid hxo
  have hbt := hFr.other (w.heap.size + 1 + 1) _ HTO.out (by omega) (fun cs fr e => by injection e with _ e _; exact absurd e (by decide))
  have hbn := hFr.other w.heap.size _ HX.out (by omega) (fun cs fr e => by injection e with _ e _; exact absurd e (by decide))
  have htc : Bg.At W (w.heap.size + 1 + 1) to := hbt
  have hnc : Boxed W w.heap.size 23 (.pointer (some ⟨N, 0, none⟩)) := hbn
  obtain ⟨t0, t1, t2, t3, _⟩ := htc.cell
  have n0 := hnc.cell
  have HEN := Lib.hid hen
  have HBX := Lib.hid hbx
  have HNE := Lib.hid hne
  have HFRM := Lib.hid hFr
  have HTC := Lib.hid htc
  have HNC := Lib.hid hnc
  have HHY := Lib.hid hy
  have HKL := Lib.hid hk
  have HFZ := Lib.hid hfr
  have hz1 := hnc.lt
  have hgN : N ≠ g := by intro e; exact hne (by rw [e]; rfl)
  have hgw : ∃ cs fr, W.heap[g]? = some (.cells cs 107 fr) := (hen.block g rfl).2.2
  have HGW := Lib.hid hgw
  have hgt : w.heap.size + 1 + 1 ≠ g ∧ w.heap.size ≠ g := by
   obtain ⟨cs, fr, hh⟩ := hgw
   constructor
   ·rintro rfl
    unfold Bg.At at htc
    rw [hh] at htc
    injection htc with htc
    injection htc with _ e _; exact absurd e (by decide)
   ·rintro rfl
    unfold Boxed at hnc
    rw [hh] at hnc
    injection hnc with hnc
    injection hnc with _ e _; exact absurd e (by decide)
  have HGT := Lib.hid hgt
  clear hgt
  clear hL hLl hLo hnext hmod hx hxo hbt hbn htc hnc hen hbx hne hFr hcs hfr hgw hlt
  gi_wp2
  refine region_round (S := fun W' => (W'.cell? ⟨w.heap.size, 0, none⟩ = some (.pointer (some ⟨N, 0, none⟩)) ∧ W'.cell? ⟨N, 0, none⟩ = some (.slice (some ⟨g, 0, none⟩) L.length cap)) ∧ (W'.cell? ⟨w.heap.size + 1 + 1, 0, none⟩ = some (.int .u64 to.a) ∧ W'.cell? ⟨w.heap.size + 1 + 1, 1, none⟩ = some (.int .u64 to.b) ∧ W'.cell? ⟨w.heap.size + 1 + 1, 2, none⟩ = some (.int .u64 to.c) ∧ W'.cell? ⟨w.heap.size + 1 + 1, 3, none⟩ = some (.int .u64 to.d))) (by kernel_rfl) (by rfl) (by rintro ⟨_, _, h⟩; exact h) ⟨⟨n0, hcell⟩, t0, t1, t2, t3⟩ (fun hHeld => ?_)
  clear n0 hcell t0 t1 t2 t3
  refine tk 0 (v := ?_) rfl (by kernel_rfl) (fun _ _ _ h => h) ?_ hHeld ?_
  rotate_left
  ·(intro W hSw; (try dsimp only at hSw); go_simp; try with_reducible rfl)
  refine tk 1 (v := ?_) rfl (by kernel_rfl) (fun _ _ _ h => h) ?_ hHeld ?_
  rotate_left
  ·(intro W hSw; (try dsimp only at hSw); go_simp; try with_reducible rfl)
  refine tk 2 (v := ?_) rfl (by kernel_rfl) (fun _ _ _ h => h) ?_ hHeld ?_
  rotate_left
  ·(intro W hSw; (try dsimp only at hSw); go_simp; try with_reducible rfl)
  refine tk 3 (v := ?_) rfl (by kernel_rfl) (fun _ _ _ h => h) ?_ hHeld ?_
  rotate_left
  ·(intro W hSw; (try dsimp only at hSw); go_simp; try with_reducible rfl)
  refine tk 4 (v := ?_) rfl (by kernel_rfl) (fun _ _ _ h => h) ?_ hHeld ?_
  rotate_left
  ·(intro W hSw; (try dsimp only at hSw); go_simp; try with_reducible rfl)
  refine tk 5 (v := ?_) rfl (by kernel_rfl) (fun _ _ _ h => h) ?_ hHeld ?_
  rotate_left
  ·(intro W hSw; (try dsimp only at hSw); go_simp; try with_reducible rfl)
  refine tk 6 (v := ?_) rfl (by kernel_rfl) (fun _ _ _ h => h) ?_ hHeld ?_
  rotate_left
  ·(intro W hSw; (try dsimp only at hSw); go_simp; try with_reducible rfl)
  refine tk 7 (v := ?_) rfl (by kernel_rfl) (fun _ _ _ h => h) ?_ hHeld ?_
  rotate_left
  ·(intro W hSw; (try dsimp only at hSw); go_simp; try with_reducible rfl)
  refine tk 8 (v := ?_) rfl (by kernel_rfl) (fun _ _ _ h => h) ?_ hHeld ?_
  rotate_left
  ·(intro W hSw; (try dsimp only at hSw); go_simp; try with_reducible rfl)
  refine tk 9 (v := ?_) rfl (by kernel_rfl) (fun _ _ _ h => h) ?_ hHeld ?_
  rotate_left
  ·(intro W hSw; (try dsimp only at hSw); go_simp; try with_reducible rfl)
  refine tk 10 (v := ?_) rfl (by kernel_rfl) (fun _ _ _ h => h) ?_ hHeld ?_
  rotate_left
  ·(intro W hSw; (try dsimp only at hSw); go_simp; try with_reducible rfl)
  refine tk 11 (v := ?_) rfl (by kernel_rfl) (fun _ _ _ h => h) ?_ hHeld ?_
  rotate_left
  ·(intro W hSw; (try dsimp only at hSw); go_simp; try with_reducible rfl)
  refine tk 13 (v := ?_) rfl (by kernel_rfl) (fun _ _ _ h => h) ?_ hHeld ?_
  rotate_left
  ·(intro W hSw; (try dsimp only at hSw); go_simp; try with_reducible rfl)
  refine wpAnyH_ready (rs := [12]) (by kernel_rfl) (by simp) ?_
  refine AllReadyH.cons rfl (fun K hK => ?_) AllReadyH.nil
  go_simp
  refine hK.out _ _ hHeld (fun hHeld => ?_)
  clear hK K
  refine wpAnyH_ready (rs := [14]) (by kernel_rfl) (by simp) ?_
  refine AllReadyH.cons rfl (fun K hK => ?_) AllReadyH.nil
  go_simp
  go_at_call 28
  refine (Bg.or_any x to HXO.out HT1.out _).mono ?_
  rintro en w9 ⟨rfl, hb9⟩
  have hbw : Below W.heap.size W w9 := (below_drewN (Below.refl _ _) 1).trans hb9
  have hbx9 := HBX.out.below hbw HBX.out.lt
  have hen9 := HEN.out.belowAll hbw
  have htc9 := HTC.out.below hbw HTC.out.lt
  have hnc9 : Boxed w9 w.heap.size 23 (.pointer (some ⟨N, 0, none⟩)) := (hbw.block _ hz1).trans HNC.out
  have hF9 := NFrame.of_below (base := base) (N := N) hbw
  have hS9 : (w9.cell? ⟨w.heap.size, 0, none⟩ = some (.pointer (some ⟨N, 0, none⟩)) ∧ w9.cell? ⟨N, 0, none⟩ = some (.slice (some ⟨g, 0, none⟩) L.length cap)) ∧ (w9.cell? ⟨w.heap.size + 1 + 1, 0, none⟩ = some (.int .u64 to.a) ∧ w9.cell? ⟨w.heap.size + 1 + 1, 1, none⟩ = some (.int .u64 to.b) ∧ w9.cell? ⟨w.heap.size + 1 + 1, 2, none⟩ = some (.int .u64 to.c) ∧ w9.cell? ⟨w.heap.size + 1 + 1, 3, none⟩ = some (.int .u64 to.d)) :=
   ⟨⟨hnc9.cell, hbx9.cell.1⟩, htc9.cell.1, htc9.cell.2.1, htc9.cell.2.2.1, htc9.cell.2.2.2.1⟩
  obtain ⟨g', cap', hv', _, hg9, _, _, hfr9, hcs9⟩ := hen9.opn (by have := HLL.out; have := HKL.out; omega)
  simp only [Value.slice.injEq, Option.some.injEq, Addr.mk.injEq, and_true, true_and] at hv'
  obtain ⟨rfl, rfl⟩ := hv'
  have hcs9' := hcs9 k hkL
  generalize L[k] = y9 at hcs9'
  obtain ⟨_, r4, r5, r6, r7⟩ := hcs9'
  have f4 := hfr9 (k * 8 + 4)
  have f5 := hfr9 (k * 8 + 5)
  have f6 := hfr9 (k * 8 + 6)
  have f7 := hfr9 (k * 8 + 7)
  have HE9 := Lib.hid hen9
  have HX9 := Lib.hid hbx9
  have HC9 := Lib.hid htc9
  have HN9 := Lib.hid hnc9
  have HF9 := Lib.hid hF9
  have HG9 := Lib.hid (hen9.block g rfl).2.2
  have HS9 := Lib.hid hS9
  clear hb9 hbw hbx9 hen9 htc9 hnc9 hF9 hfr9 hcs9 hS9 hHeld
  unfold bagV
  obtain ⟨z, hz⟩ : ∃ z, x.orB to = z := ⟨_, rfl⟩
  rw [hz]
  have HZ := Lib.hid hz
  clear hz
  go_wp2_with fail
  refine hK.out _ _ HS9.out (fun hHeld => ?_)
  clear hK K
  refine tk 15 (v := ?_) rfl (by kernel_rfl) (fun _ _ _ h => h) ?_ hHeld ?_
  rotate_left
  ·(intro W hSw; (try dsimp only at hSw); go_simp; try with_reducible rfl)
  refine tk 16 (v := ?_) rfl (by kernel_rfl) (fun _ _ _ h => h) ?_ hHeld ?_
  rotate_left
  ·(intro W hSw; (try dsimp only at hSw); go_simp; try with_reducible rfl)
  refine wpAnyH_ready (rs := [17]) (by kernel_rfl) (by simp) ?_
  refine AllReadyH.cons rfl (fun K hK => ?_) AllReadyH.nil
  go_simp
  have hX10 := (((HX9.out.other (b := g) hgN (k * 8 + 4) (.int .u64 z.a)).other (b := g) hgN (k * 8 + 4 + 1) (.int .u64 z.b)).other (b := g) hgN (k * 8 + 4 + 2) (.int .u64 z.c)).other (b := g) hgN (k * 8 + 4 + 3) (.int .u64 z.d)
  have hg1 : w.heap.size + 1 + 1 ≠ g := HGT.out.1
  have hg2 : w.heap.size ≠ g := HGT.out.2
  have hC10 := (((HC9.out.other (k := g) hg1 (k * 8 + 4) (.int .u64 z.a)).other (k := g) hg1 (k * 8 + 4 + 1) (.int .u64 z.b)).other (k := g) hg1 (k * 8 + 4 + 2) (.int .u64 z.c)).other (k := g) hg1 (k * 8 + 4 + 3) (.int .u64 z.d)
  have hN10 : Boxed ((((w9.setCell ⟨g, k * 8 + 4, none⟩ (.int .u64 z.a)).setCell ⟨g, k * 8 + 4 + 1, none⟩ (.int .u64 z.b)).setCell ⟨g, k * 8 + 4 + 2, none⟩ (.int .u64 z.c)).setCell ⟨g, k * 8 + 4 + 3, none⟩ (.int .u64 z.d)) w.heap.size 23 (.pointer (some ⟨N, 0, none⟩)) := by
   unfold Boxed
   rw [Below.heap_setCell _ _ _ _ hg2, Below.heap_setCell _ _ _ _ hg2, Below.heap_setCell _ _ _ _ hg2, Below.heap_setCell _ _ _ _ hg2]
   exact HN9.out
  have hE10 := HE9.out.store rfl k z
  have hF10 := HF9.out.trans (NFrame.store (N := N) hbg HG9.out (k * 8 + 4) (.int .u64 z.a) (.int .u64 z.b) (.int .u64 z.c) (.int .u64 z.d))
  refine hK.out _ _ ⟨⟨hN10.cell, hX10.cell.1⟩, hC10.cell.1, hC10.cell.2.1, hC10.cell.2.2.1, hC10.cell.2.2.2.1⟩ (fun hHeld => ?_)
  clear hK K hHeld
  refine wpAnyH_done (by kernel_rfl) ?_ _
  refine ⟨hF10.keeps HBX.out _, hF10.below (Nat.le_refl _) (by omega), ⟨?_, HFRM.out.trans hF10⟩⟩
  rw [HNX.out, HMD.out, HZ.out]
  refine ⟨_, hX10, ?_, HNE.out⟩
  have e : (L.modify k (fun e => { e with behind := z })).length = L.length := List.length_modify _ _ _
  exact hE10
 case done =>
  rintro D' ys W hD hys ⟨hI, hFr⟩ hK
  gi_wp2
  refine ⟨by simp, .inl ⟨_, _, rfl, run_takeDeferred hK, ?_⟩⟩
  refine ⟨_, results_none rfl _ _ _, ⟨_, rfl⟩, ?_, ?_⟩
  ·have := NS.kept hI (grownBy_putObj' W D' (.deferred none)) (fun r e => by cases e; exact ⟨_, hK, rfl⟩)
   unfold lead
   rw [← hys]
   exact this
  ·exact (NFrame.of_below HB.out).trans (hFr.grown (grownBy_putObj' W D' (.deferred none)) (fun r e => by cases e; have := HSZ.out; omega))
 case stop =>
  rintro D' c pre W _ _ h _
  exact h.elim
end Go.Proofs.YtnbchikiiipejaaGreatDoor.Nf
namespace Go.Proofs.YtnbchikiiipejaaGreatDoor.Nf
open Go.RowKit Mem
open Bg (Bag bagV Tab)
theorem PAt.frame {base N : Nat} {W W' : World} {g : Nat} {p : Pc} (h : PAt W g p) (hf : NFrame base N W W') (hg : g ≠ N) : PAt W' g p :=
 hf.other g _ h hg (fun cs fr e => by injection e with _ e _; exact absurd e (by decide))
def IsP (W : World) (b : Nat) : Prop := ∃ cs fr, W.heap[b]? = some (.cells cs 103 fr)
theorem PAt.isP {W : World} {b : Nat} {p : Pc} (h : PAt W b p) : IsP W b := ⟨_, _, h⟩
theorem IsP.set {W : World} {b : Nat} (h : IsP W b) (j : Nat) (u : Value) : IsP (W.setCell ⟨b, j, none⟩ u) b := cells_set h j u
theorem NS.setP {base N : Nat} {W : World} {l : List En} {p : Pc} {b : Nat} (h : NS base N W l p) (hb : IsP W b) (j : Nat) (u : Value) : NS base N (W.setCell ⟨b, j, none⟩ u) l p := by
 obtain ⟨v, h1, h2, h3⟩ := h
 obtain ⟨cs, fr, hh⟩ := hb
 refine ⟨v, h1.other ?_ j u, h2.other ?_ j u, h3⟩
 ·rintro rfl
  unfold NBox at h1
  rw [hh] at h1
  injection h1 with h1
  injection h1 with _ e _; exact absurd e (by decide)
 ·intro e
  obtain ⟨_, _, cs', fr', hh'⟩ := h2.block b e
  rw [hh] at hh'
  injection hh' with hh'
  injection hh' with _ e _; exact absurd e (by decide)
def st9 (W : World) (b : Nat) (q : Pc) : World := (((((((((W.setCell ⟨b, 0, none⟩ (.bool q.em)).setCell ⟨b, 1, none⟩ (.int .u64 q.first.a)).setCell ⟨b, 2, none⟩ (.int .u64 q.first.b)).setCell ⟨b, 3, none⟩ (.int .u64 q.first.c)).setCell ⟨b, 4, none⟩ (.int .u64 q.first.d)).setCell ⟨b, 5, none⟩ (.int .u64 q.ends.a)).setCell ⟨b, 6, none⟩ (.int .u64 q.ends.b)).setCell ⟨b, 7, none⟩ (.int .u64 q.ends.c)).setCell ⟨b, 8, none⟩ (.int .u64 q.ends.d))
theorem NS.st9 {base N : Nat} {W : World} {l : List En} {p : Pc} {b : Nat} (h : NS base N W l p) (hb : IsP W b) (q : Pc) : NS base N (Nf.st9 W b q) l p := by
 unfold Nf.st9
 have b1 := hb.set 0 (.bool q.em)
 have h1 := h.setP hb 0 (.bool q.em)
 have b2 := b1.set 1 (.int .u64 q.first.a)
 have h2 := h1.setP b1 1 (.int .u64 q.first.a)
 have b3 := b2.set 2 (.int .u64 q.first.b)
 have h3 := h2.setP b2 2 (.int .u64 q.first.b)
 have b4 := b3.set 3 (.int .u64 q.first.c)
 have h4 := h3.setP b3 3 (.int .u64 q.first.c)
 have b5 := b4.set 4 (.int .u64 q.first.d)
 have h5 := h4.setP b4 4 (.int .u64 q.first.d)
 have b6 := b5.set 5 (.int .u64 q.ends.a)
 have h6 := h5.setP b5 5 (.int .u64 q.ends.a)
 have b7 := b6.set 6 (.int .u64 q.ends.b)
 have h7 := h6.setP b6 6 (.int .u64 q.ends.b)
 have b8 := b7.set 7 (.int .u64 q.ends.c)
 have h8 := h7.setP b7 7 (.int .u64 q.ends.c)
 exact h8.setP b8 8 (.int .u64 q.ends.d)
theorem NFrame.st9 {base N : Nat} {W W' : World} {b : Nat} (h : NFrame base N W W') (hb : W.heap.size ≤ b) (q : Pc) : NFrame base N W (Nf.st9 W' b q) := by
 unfold Nf.st9
 exact ((((((((h.setNew hb _ _).setNew hb _ _).setNew hb _ _).setNew hb _ _).setNew hb _ _).setNew hb _ _).setNew hb _ _).setNew hb _ _).setNew hb _ _
theorem ahead_any {base : Nat} (N : Nat) (l : List En) (p0 one rest : Pc) (w : World) (h : NS base N w l p0) (hb : base ≤ N) (hT : Tab w) (hTb : 0 < base) (h1 : one.within l.length) (h2 : rest.ok) (hok : ∀ x ∈ l, x.ok) :
  Calls Tryz.prog 218 #[.pointer (some ⟨N, 0, none⟩), pcV one, pcV rest] w fun e w' => e = .returned (pcV (ahead one rest l).1) ∧ NS base N w' (ahead one rest l).2 p0 ∧ NFrame base N w w' := by
 have hNs : N < w.heap.size := by obtain ⟨v, hx, _⟩ := h; exact hx.lt
 have ha := ((PAt.new w one).alloc (.cells #[.bool rest.em, .int .u64 rest.first.a, .int .u64 rest.first.b, .int .u64 rest.first.c, .int .u64 rest.first.d, .int .u64 rest.ends.a, .int .u64 rest.ends.b, .int .u64 rest.ends.c, .int .u64 rest.ends.d] 103)).alloc (.cells #[.bool false, .int .u64 0, .int .u64 0, .int .u64 0, .int .u64 0, .int .u64 0, .int .u64 0, .int .u64 0, .int .u64 0] 103)
 have hr := (PAt.new (w.alloc (.cells #[.bool one.em, .int .u64 one.first.a, .int .u64 one.first.b, .int .u64 one.first.c, .int .u64 one.first.d, .int .u64 one.ends.a, .int .u64 one.ends.b, .int .u64 one.ends.c, .int .u64 one.ends.d] 103)) rest).alloc (.cells #[.bool false, .int .u64 0, .int .u64 0, .int .u64 0, .int .u64 0, .int .u64 0, .int .u64 0, .int .u64 0, .int .u64 0] 103)
 have ho := PAt.new ((w.alloc (.cells #[.bool one.em, .int .u64 one.first.a, .int .u64 one.first.b, .int .u64 one.first.c, .int .u64 one.first.d, .int .u64 one.ends.a, .int .u64 one.ends.b, .int .u64 one.ends.c, .int .u64 one.ends.d] 103)).alloc (.cells #[.bool rest.em, .int .u64 rest.first.a, .int .u64 rest.first.b, .int .u64 rest.first.c, .int .u64 rest.first.d, .int .u64 rest.ends.a, .int .u64 rest.ends.b, .int .u64 rest.ends.c, .int .u64 rest.ends.d] 103)) ⟨false, Bg.nil, Bg.nil⟩
 have hb0 := (((Below.refl _ w).alloc (Nat.le_refl _) (.cells #[.bool one.em, .int .u64 one.first.a, .int .u64 one.first.b, .int .u64 one.first.c, .int .u64 one.first.d, .int .u64 one.ends.a, .int .u64 one.ends.b, .int .u64 one.ends.c, .int .u64 one.ends.d] 103)).alloc (by simp) (.cells #[.bool rest.em, .int .u64 rest.first.a, .int .u64 rest.first.b, .int .u64 rest.first.c, .int .u64 rest.first.d, .int .u64 rest.ends.a, .int .u64 rest.ends.b, .int .u64 rest.ends.c, .int .u64 rest.ends.d] 103)).alloc (by simp; omega) (.cells #[.bool false, .int .u64 0, .int .u64 0, .int .u64 0, .int .u64 0, .int .u64 0, .int .u64 0, .int .u64 0, .int .u64 0] 103)
 simp only [World.size_alloc] at hr ho
 have HA := Lib.hid ha
 have HR := Lib.hid hr
 have HO := Lib.hid ho
 have HB := Lib.hid hb0
 have HS := Lib.hid (h.belowAll hb0)
 have HT := Lib.hid (hT.below hb0 hT.2)
 have H1 := Lib.hid h1
 have H2 := Lib.hid h2
 have HOK := Lib.hid hok
 clear ha hr ho hb0 h hT h1 h2 hok
 unfold pcV
 go_enter Tryz.func218, Tryz.ntmps218
 go_upto_region 2 with (go_at_call 176; refine (lead_any N l p0 one.ends rest.first _ HS.out hb HT.out hTb H1.out.2 H2.out.1 HOK.out).mono ?_; rintro e w1 ⟨⟨v, rfl⟩, hs1, hf1⟩; have HA1 := Lib.hid (HA.out.frame hf1 (by omega)); have HR1 := Lib.hid (HR.out.frame hf1 (by omega)); have HO1 := Lib.hid (HO.out.frame hf1 (by omega)); have HF1 := Lib.hid ((NFrame.of_below HB.out).trans hf1); have HS1 := Lib.hid hs1; clear hs1 hf1)
 obtain ⟨e1, f1, n1⟩ := one
 obtain ⟨e2, f2, n2⟩ := rest
 have HF2 := Lib.hid (show f1.ok ∧ f2.ok from ⟨H1.out.1.1, H2.out.1⟩)
 have HN2 := Lib.hid (show n2.ok ∧ n1.ok from ⟨H2.out.2, H1.out.2.1⟩)
 obtain ⟨a0, ⟨a1, a2, a3, a4⟩, a5, a6, a7, a8⟩ := HA1.out.cell
 obtain ⟨r0, ⟨r1, r2, r3, r4⟩, r5, r6, r7, r8⟩ := HR1.out.cell
 have hs1 : w.heap.size + 1 + 1 < w1.heap.size := HO1.out.lt
 have hs2 : w.heap.size + 1 < w1.heap.size := HR1.out.lt
 have hs3 : w.heap.size < w1.heap.size := HA1.out.lt
 cases e1
 ·cases e2
  ·go_upto_region 7 with (fail)
   have hq := PAt.new w1 ⟨false, f1, n2⟩
   have ho := HO1.out.alloc (.cells #[.bool false, .int .u64 f1.a, .int .u64 f1.b, .int .u64 f1.c, .int .u64 f1.d, .int .u64 n2.a, .int .u64 n2.b, .int .u64 n2.c, .int .u64 n2.d] 103)
   have hbb := (Below.refl _ w1).alloc (Nat.le_refl _) (.cells #[.bool false, .int .u64 f1.a, .int .u64 f1.b, .int .u64 f1.c, .int .u64 f1.d, .int .u64 n2.a, .int .u64 n2.b, .int .u64 n2.c, .int .u64 n2.d] 103)
   clear a0 a1 a2 a3 a4 a5 a6 a7 a8 r0 r1 r2 r3 r4 r5 r6 r7 r8
   generalize (w1.alloc (.cells #[.bool false, .int .u64 f1.a, .int .u64 f1.b, .int .u64 f1.c, .int .u64 f1.d, .int .u64 n2.a, .int .u64 n2.b, .int .u64 n2.c, .int .u64 n2.d] 103)) = w4 at hq ho hbb ⊢
   have hq' := hq.cell
   dsimp only at hq'
   obtain ⟨y0, ⟨y1, y2, y3, y4⟩, y5, y6, y7, y8⟩ := hq'
   obtain ⟨z0, ⟨z1, z2, z3, z4⟩, z5, z6, z7, z8⟩ := ho.cell; have g0 := ho.free 0; have g1 := ho.free 1; have g2 := ho.free 2; have g3 := ho.free 3; have g4 := ho.free 4; have g5 := ho.free 5; have g6 := ho.free 6; have g7 := ho.free 7; have g8 := ho.free 8
   have HOZ := Lib.hid ho
   have HBB := Lib.hid hbb
   clear hq ho hbb
   go_wp2
   have hs := HOZ.out.store ⟨false, f1, n2⟩
   obtain ⟨s0, ⟨s1, s2, s3, s4⟩, s5, s6, s7, s8⟩ := hs.cell
   refine bodyPost_ret (v := pcV ⟨false, f1, n2⟩) ?_ rfl ⟨rfl, ?_, ?_⟩
   ·simp [pcV, results, Tryz.results218, go_sem, s0, s1, s2, s3, s4, s5, s6, s7, s8]
   ·exact (HS1.out.belowAll HBB.out).st9 HOZ.out.isP ⟨false, f1, n2⟩
   ·exact ((HF1.out.trans (NFrame.of_below HBB.out)).st9 (by omega) ⟨false, f1, n2⟩)
  ·go_upto_region 7 with ((go_at_call 28; refine (Bg.or_any n2 n1 HN2.out.1 HN2.out.2 _).mono ?_; rintro e w3 ⟨rfl, hb3⟩; unfold bagV; have HQ3 := Lib.hid ((PAt.new w1 ⟨false, f1, n2⟩).below hb3 (by simp)); have HO3 := Lib.hid ((HO1.out.alloc _).below hb3 (by simp; omega)); have HB3 := Lib.hid (((Below.refl _ w1).alloc (Nat.le_refl _) _).trans (hb3.mono (by simp))); have hz3 := HQ3.out.lt; obtain ⟨u0, ⟨u1, u2, u3, u4⟩, u5, u6, u7, u8⟩ := HQ3.out.cell; have h5 := HQ3.out.free 5; have h6 := HQ3.out.free 6; have h7 := HQ3.out.free 7; have h8 := HQ3.out.free 8; clear hb3))
   have hq := HQ3.out.setEnds (n2.orB n1)
   have ho := (((HO3.out.other (b := w1.heap.size) (by omega) 5 (.int .u64 (n2.orB n1).a)).other (b := w1.heap.size) (by omega) 6 (.int .u64 (n2.orB n1).b)).other (b := w1.heap.size) (by omega) 7 (.int .u64 (n2.orB n1).c)).other (b := w1.heap.size) (by omega) 8 (.int .u64 (n2.orB n1).d)
   have hbb := (((HB3.out.setCell (p := ⟨w1.heap.size, 5, none⟩) (Nat.le_refl _) (.int .u64 (n2.orB n1).a)).setCell (p := ⟨w1.heap.size, 6, none⟩) (Nat.le_refl _) (.int .u64 (n2.orB n1).b)).setCell (p := ⟨w1.heap.size, 7, none⟩) (Nat.le_refl _) (.int .u64 (n2.orB n1).c)).setCell (p := ⟨w1.heap.size, 8, none⟩) (Nat.le_refl _) (.int .u64 (n2.orB n1).d)
   clear a0 a1 a2 a3 a4 a5 a6 a7 a8 r0 r1 r2 r3 r4 r5 r6 r7 r8 u0 u1 u2 u3 u4 u5 u6 u7 u8 h5 h6 h7 h8
   generalize ((((w3.setCell ⟨w1.heap.size, 5, none⟩ (.int .u64 (n2.orB n1).a)).setCell ⟨w1.heap.size, 6, none⟩ (.int .u64 (n2.orB n1).b)).setCell ⟨w1.heap.size, 7, none⟩ (.int .u64 (n2.orB n1).c)).setCell ⟨w1.heap.size, 8, none⟩ (.int .u64 (n2.orB n1).d)) = w4 at hq ho hbb ⊢
   have hq' := hq.cell
   dsimp only at hq'
   obtain ⟨y0, ⟨y1, y2, y3, y4⟩, y5, y6, y7, y8⟩ := hq'
   obtain ⟨z0, ⟨z1, z2, z3, z4⟩, z5, z6, z7, z8⟩ := ho.cell; have g0 := ho.free 0; have g1 := ho.free 1; have g2 := ho.free 2; have g3 := ho.free 3; have g4 := ho.free 4; have g5 := ho.free 5; have g6 := ho.free 6; have g7 := ho.free 7; have g8 := ho.free 8
   have HOZ := Lib.hid ho
   have HBB := Lib.hid hbb
   clear hq ho hbb
   go_wp2
   have hs := HOZ.out.store ⟨false, f1, n2.orB n1⟩
   obtain ⟨s0, ⟨s1, s2, s3, s4⟩, s5, s6, s7, s8⟩ := hs.cell
   refine bodyPost_ret (v := pcV ⟨false, f1, n2.orB n1⟩) ?_ rfl ⟨rfl, ?_, ?_⟩
   ·simp [pcV, results, Tryz.results218, go_sem, s0, s1, s2, s3, s4, s5, s6, s7, s8]
   ·exact (HS1.out.belowAll HBB.out).st9 HOZ.out.isP ⟨false, f1, n2.orB n1⟩
   ·exact ((HF1.out.trans (NFrame.of_below HBB.out)).st9 (by omega) ⟨false, f1, n2.orB n1⟩)
 ·cases e2
  ·go_upto_region 7 with ((go_at_call 28; refine (Bg.or_any f1 f2 HF2.out.1 HF2.out.2 _).mono ?_; rintro e w2 ⟨rfl, hb2⟩; unfold bagV; have HQ2 := Lib.hid ((PAt.new w1 ⟨false, f1, n2⟩).below hb2 (by simp)); have HA2 := Lib.hid ((HA1.out.alloc _).below hb2 (by simp; omega)); have HO2 := Lib.hid ((HO1.out.alloc _).below hb2 (by simp; omega)); have HR2 := Lib.hid ((HR1.out.alloc _).below hb2 (by simp; omega)); have HB2 := Lib.hid (((Below.refl _ w1).alloc (Nat.le_refl _) _).trans (hb2.mono (by simp))); have hz2 := HQ2.out.lt; obtain ⟨u0, ⟨u1, u2, u3, u4⟩, u5, u6, u7, u8⟩ := HQ2.out.cell; obtain ⟨_, ⟨_, _, _, _⟩, v5, v6, v7, v8⟩ := HA2.out.cell; obtain ⟨x0, _⟩ := HR2.out.cell; have h1 := HQ2.out.free 1; have h2 := HQ2.out.free 2; have h3 := HQ2.out.free 3; have h4 := HQ2.out.free 4; clear hb2))
   have hq := HQ2.out.setFirst (f1.orB f2)
   have ho := (((HO2.out.other (b := w1.heap.size) (by omega) 1 (.int .u64 (f1.orB f2).a)).other (b := w1.heap.size) (by omega) 2 (.int .u64 (f1.orB f2).b)).other (b := w1.heap.size) (by omega) 3 (.int .u64 (f1.orB f2).c)).other (b := w1.heap.size) (by omega) 4 (.int .u64 (f1.orB f2).d)
   have hbb := (((HB2.out.setCell (p := ⟨w1.heap.size, 1, none⟩) (Nat.le_refl _) (.int .u64 (f1.orB f2).a)).setCell (p := ⟨w1.heap.size, 2, none⟩) (Nat.le_refl _) (.int .u64 (f1.orB f2).b)).setCell (p := ⟨w1.heap.size, 3, none⟩) (Nat.le_refl _) (.int .u64 (f1.orB f2).c)).setCell (p := ⟨w1.heap.size, 4, none⟩) (Nat.le_refl _) (.int .u64 (f1.orB f2).d)
   clear a0 a1 a2 a3 a4 a5 a6 a7 a8 r0 r1 r2 r3 r4 r5 r6 r7 r8 u0 u1 u2 u3 u4 u5 u6 u7 u8 v5 v6 v7 v8 x0 h1 h2 h3 h4
   generalize ((((w2.setCell ⟨w1.heap.size, 1, none⟩ (.int .u64 (f1.orB f2).a)).setCell ⟨w1.heap.size, 2, none⟩ (.int .u64 (f1.orB f2).b)).setCell ⟨w1.heap.size, 3, none⟩ (.int .u64 (f1.orB f2).c)).setCell ⟨w1.heap.size, 4, none⟩ (.int .u64 (f1.orB f2).d)) = w4 at hq ho hbb ⊢
   have hq' := hq.cell
   dsimp only at hq'
   obtain ⟨y0, ⟨y1, y2, y3, y4⟩, y5, y6, y7, y8⟩ := hq'
   obtain ⟨z0, ⟨z1, z2, z3, z4⟩, z5, z6, z7, z8⟩ := ho.cell; have g0 := ho.free 0; have g1 := ho.free 1; have g2 := ho.free 2; have g3 := ho.free 3; have g4 := ho.free 4; have g5 := ho.free 5; have g6 := ho.free 6; have g7 := ho.free 7; have g8 := ho.free 8
   have HOZ := Lib.hid ho
   have HBB := Lib.hid hbb
   clear hq ho hbb
   go_wp2
   have hs := HOZ.out.store ⟨false, f1.orB f2, n2⟩
   obtain ⟨s0, ⟨s1, s2, s3, s4⟩, s5, s6, s7, s8⟩ := hs.cell
   refine bodyPost_ret (v := pcV ⟨false, f1.orB f2, n2⟩) ?_ rfl ⟨rfl, ?_, ?_⟩
   ·simp [pcV, results, Tryz.results218, go_sem, s0, s1, s2, s3, s4, s5, s6, s7, s8]
   ·exact (HS1.out.belowAll HBB.out).st9 HOZ.out.isP ⟨false, f1.orB f2, n2⟩
   ·exact ((HF1.out.trans (NFrame.of_below HBB.out)).st9 (by omega) ⟨false, f1.orB f2, n2⟩)
  ·go_upto_region 7 with (first
    | (have hg := HQ2; clear hg; go_at_call 28; refine (Bg.or_any n2 n1 HN2.out.1 HN2.out.2 _).mono ?_; rintro e w3 ⟨rfl, hb3⟩; unfold bagV; have HQ3 := Lib.hid ((HQ2.out.setFirst (f1.orB f2)).below hb3 (by simp; omega)); have HO3 := Lib.hid (((((HO2.out.other (by omega) _ _).other (by omega) _ _).other (by omega) _ _).other (by omega) _ _).below hb3 (by have := HO2.out.lt; simp; omega)); have HB3 := Lib.hid (((((HB2.out.setCell (Nat.le_refl _) _).setCell (Nat.le_refl _) _).setCell (Nat.le_refl _) _).setCell (Nat.le_refl _) _).trans (hb3.mono (by simp; omega))); have hz3 := HQ3.out.lt; obtain ⟨u0, ⟨u1, u2, u3, u4⟩, u5, u6, u7, u8⟩ := HQ3.out.cell; have h5 := HQ3.out.free 5; have h6 := HQ3.out.free 6; have h7 := HQ3.out.free 7; have h8 := HQ3.out.free 8; clear hb3)
    | (go_at_call 28; refine (Bg.or_any f1 f2 HF2.out.1 HF2.out.2 _).mono ?_; rintro e w2 ⟨rfl, hb2⟩; unfold bagV; have HQ2 := Lib.hid ((PAt.new w1 ⟨true, f1, n2⟩).below hb2 (by simp)); have HA2 := Lib.hid ((HA1.out.alloc _).below hb2 (by simp; omega)); have HO2 := Lib.hid ((HO1.out.alloc _).below hb2 (by simp; omega)); have HR2 := Lib.hid ((HR1.out.alloc _).below hb2 (by simp; omega)); have HB2 := Lib.hid (((Below.refl _ w1).alloc (Nat.le_refl _) _).trans (hb2.mono (by simp))); have hz2 := HQ2.out.lt; obtain ⟨u0, ⟨u1, u2, u3, u4⟩, u5, u6, u7, u8⟩ := HQ2.out.cell; obtain ⟨_, ⟨_, _, _, _⟩, v5, v6, v7, v8⟩ := HA2.out.cell; obtain ⟨x0, _⟩ := HR2.out.cell; have h1 := HQ2.out.free 1; have h2 := HQ2.out.free 2; have h3 := HQ2.out.free 3; have h4 := HQ2.out.free 4; clear hb2))
   have hq := HQ3.out.setEnds (n2.orB n1)
   have ho := (((HO3.out.other (b := w1.heap.size) (by omega) 5 (.int .u64 (n2.orB n1).a)).other (b := w1.heap.size) (by omega) 6 (.int .u64 (n2.orB n1).b)).other (b := w1.heap.size) (by omega) 7 (.int .u64 (n2.orB n1).c)).other (b := w1.heap.size) (by omega) 8 (.int .u64 (n2.orB n1).d)
   have hbb := (((HB3.out.setCell (p := ⟨w1.heap.size, 5, none⟩) (Nat.le_refl _) (.int .u64 (n2.orB n1).a)).setCell (p := ⟨w1.heap.size, 6, none⟩) (Nat.le_refl _) (.int .u64 (n2.orB n1).b)).setCell (p := ⟨w1.heap.size, 7, none⟩) (Nat.le_refl _) (.int .u64 (n2.orB n1).c)).setCell (p := ⟨w1.heap.size, 8, none⟩) (Nat.le_refl _) (.int .u64 (n2.orB n1).d)
   clear a0 a1 a2 a3 a4 a5 a6 a7 a8 r0 r1 r2 r3 r4 r5 r6 r7 r8 u0 u1 u2 u3 u4 u5 u6 u7 u8 v5 v6 v7 v8 x0 h1 h2 h3 h4 h5 h6 h7 h8
   generalize ((((w3.setCell ⟨w1.heap.size, 5, none⟩ (.int .u64 (n2.orB n1).a)).setCell ⟨w1.heap.size, 6, none⟩ (.int .u64 (n2.orB n1).b)).setCell ⟨w1.heap.size, 7, none⟩ (.int .u64 (n2.orB n1).c)).setCell ⟨w1.heap.size, 8, none⟩ (.int .u64 (n2.orB n1).d)) = w4 at hq ho hbb ⊢
   have hq' := hq.cell
   dsimp only at hq'
   obtain ⟨y0, ⟨y1, y2, y3, y4⟩, y5, y6, y7, y8⟩ := hq'
   obtain ⟨z0, ⟨z1, z2, z3, z4⟩, z5, z6, z7, z8⟩ := ho.cell; have g0 := ho.free 0; have g1 := ho.free 1; have g2 := ho.free 2; have g3 := ho.free 3; have g4 := ho.free 4; have g5 := ho.free 5; have g6 := ho.free 6; have g7 := ho.free 7; have g8 := ho.free 8
   have HOZ := Lib.hid ho
   have HBB := Lib.hid hbb
   clear hq ho hbb
   go_wp2
   have hs := HOZ.out.store ⟨true, f1.orB f2, n2.orB n1⟩
   obtain ⟨s0, ⟨s1, s2, s3, s4⟩, s5, s6, s7, s8⟩ := hs.cell
   refine bodyPost_ret (v := pcV ⟨true, f1.orB f2, n2.orB n1⟩) ?_ rfl ⟨rfl, ?_, ?_⟩
   ·simp [pcV, results, Tryz.results218, go_sem, s0, s1, s2, s3, s4, s5, s6, s7, s8]
   ·exact (HS1.out.belowAll HBB.out).st9 HOZ.out.isP ⟨true, f1.orB f2, n2.orB n1⟩
   ·exact ((HF1.out.trans (NFrame.of_below HBB.out)).st9 (by omega) ⟨true, f1.orB f2, n2.orB n1⟩)
end Go.Proofs.YtnbchikiiipejaaGreatDoor.Nf
namespace Go.Proofs.YtnbchikiiipejaaGreatDoor.Nf
open Go.RowKit Mem
open Bg (Bag bagV Tab)
theorem Pcs.notN {base N : Nat} {W : World} {v v' : Value} {s : List Pc} {p : Pc} (h : Pcs base W v s) (hN : NBox W N v' p) : ∀ g, v.ownBlock = some g → g ≠ N := by
 intro g hg e
 obtain ⟨_, _, cs, fr, hh⟩ := h.block g hg
 subst e
 unfold NBox at hN
 rw [hN] at hh
 injection hh with hh
 injection hh with _ e _; exact absurd e (by decide)
theorem NS.notN {base base' N : Nat} {W : World} {v : Value} {s : List Pc} {l : List En} {p : Pc} (h : NS base N W l p) (hp : Pcs base' W v s) : ∀ g, v.ownBlock = some g → g ≠ N := by
 obtain ⟨_, h1, _⟩ := h
 exact hp.notN h1
theorem Pcs.other {base : Nat} {W : World} {v : Value} {s : List Pc} (h : Pcs base W v s) {b : Nat} (hne : v.ownBlock ≠ some b) (j : Nat) (u : Value) : Pcs base (W.setCell ⟨b, j, none⟩ u) v s := by
 refine ⟨h.1, ?_⟩
 rcases h.2 with hn | ⟨g, cap, cur, hv, h1, h2, r⟩
 ·exact .inl hn
 ·subst hv
  refine .inr ⟨g, cap, cur, rfl, h1, ?_, r⟩
  rw [Below.heap_setCell _ _ _ _ (fun e => hne (by simp [Value.ownBlock, e]))]
  exact h2
theorem Pcs.st9 {base : Nat} {W : World} {v : Value} {s : List Pc} (h : Pcs base W v s) {b : Nat} (hne : v.ownBlock ≠ some b) (q : Pc) : Pcs base (Nf.st9 W b q) v s := by
 unfold Nf.st9
 exact ((((((((h.other hne _ _).other hne _ _).other hne _ _).other hne _ _).other hne _ _).other hne _ _).other hne _ _).other hne _ _).other hne _ _
theorem PAt.st9 {W : World} {g : Nat} {p : Pc} (h : PAt W g p) {b : Nat} (hne : g ≠ b) (q : Pc) : PAt (Nf.st9 W b q) g p := by
 unfold Nf.st9
 exact ((((((((h.other hne _ _).other hne _ _).other hne _ _).other hne _ _).other hne _ _).other hne _ _).other hne _ _).other hne _ _).other hne _ _
theorem within_ok {n : Nat} {p : Pc} (h : p.within n) : p.ok := ⟨h.1.1, h.2.1⟩
structure LS (base N bp : Nat) (w : World) (p0 : Pc) (must : Int) (s : List Pc) (l : List En) (v : Value) (j : Nat) (W : World) : Prop where
 net : NS base N W (line must j (s.drop j) l).2 p0
 rest : PAt W (w.heap.size + 1) (line must j (s.drop j) l).1
 out : ∃ q, PAt W w.heap.size q
 row : Pcs bp W v s
 frame : NFrame base N w W
 tab : Tab W
theorem Tab.piece {W : World} {b : Nat} {q : Pc} (h : Tab W) (hb : 0 < b) : Tab (Nf.st9 W b q) := by
 refine h.below (n := b) ?_ hb
 unfold Nf.st9
 have s1 := fun {W1 : World} (h : Below b W W1) (j : Nat) (u : Value) => h.setCell (p := ⟨b, j, none⟩) (Nat.le_refl _) u
 exact s1 (s1 (s1 (s1 (s1 (s1 (s1 (s1 (s1 (Below.refl _ W) _ _) _ _) _ _) _ _) _ _) _ _) _ _) _ _) _ _
theorem line_step (must : Int) (j : Nat) (s : List Pc) (l : List En) (h : j < s.length) : line must j (s.drop j) l =
  (⟨(ahead s[j] (line must (j + 1) (s.drop (j + 1)) l).1 (line must (j + 1) (s.drop (j + 1)) l).2).1.em || decide (must ≤ (j : Int)), (ahead s[j] (line must (j + 1) (s.drop (j + 1)) l).1 (line must (j + 1) (s.drop (j + 1)) l).2).1.first, (ahead s[j] (line must (j + 1) (s.drop (j + 1)) l).1 (line must (j + 1) (s.drop (j + 1)) l).2).1.ends⟩, (ahead s[j] (line must (j + 1) (s.drop (j + 1)) l).1 (line must (j + 1) (s.drop (j + 1)) l).2).2) := by
 rw [List.drop_eq_getElem_cons h]; rfl
theorem Tab.frame {base N : Nat} {W W' : World} (h : Tab W) (hf : NFrame base N W W') (hb : 0 < base) (hs : base ≤ W.heap.size) : Tab W' := h.below (hf.below (Nat.le_refl _) hs) hb
theorem LS.fin {base N bp : Nat} {w : World} {p0 : Pc} {must : Int} {s : List Pc} {l L2 : List En} {A : Option Addr} {n c j : Nat} {W : World} {a q0 : Pc} {X : Bool} (hst : line must j (s.drop j) l = (⟨a.em || decide (must ≤ (j : Int)), a.first, a.ends⟩, L2))
  (hn : NS base N W L2 p0) (hp : PAt W (w.heap.size + 1) a) (ho : PAt W w.heap.size q0) (hr : Pcs bp W (.slice A n c) s) (hf : NFrame base N w W) (ht : Tab W) (hT : 0 < w.heap.size)
  (hb : ∀ g, (Value.slice A n c).ownBlock = some g → g < w.heap.size) (hX : X = (a.em || decide (must ≤ (j : Int)))) : LS base N bp w p0 must s l (.slice A n c) j (W.setCell ⟨w.heap.size + 1, 0, none⟩ (.bool X)) := by
 refine ⟨?_, ?_, ⟨q0, ho.other (by omega) _ _⟩, hr.other (fun e => by have := hb _ e; omega) _ _, hf.setNew (by omega) _ _, ht.below (n := w.heap.size + 1) ((Below.refl _ W).setCell (p := ⟨w.heap.size + 1, 0, none⟩) (Nat.le_refl _) _) (by omega)⟩
 ·rw [hst]; exact hn.setP hp.isP _ _
 ·rw [hst, hX]; exact hp.setEm _
theorem line_any {base bp : Nat} (N : Nat) (l : List En) (p0 : Pc) (A : Option Addr) (c : Nat) (s : List Pc) (must : Int) (w : World) (h : NS base N w l p0) (hb : base ≤ N) (hT : Tab w) (hTb : 0 < base) (hp : Pcs bp w (.slice A s.length c) s) (hs : ∀ p ∈ s, p.within l.length) (hok : ∀ x ∈ l, x.ok) (hn : s.length ≤ 1000000) :
  Calls Tryz.prog 174 #[.pointer (some ⟨N, 0, none⟩), .slice A s.length c, .int .i64 must] w fun e w' => e = .returned (pcV (line must 0 s l).1) ∧ NS base N w' (line must 0 s l).2 p0 ∧ NFrame base N w w' := by
 have hNs : N < w.heap.size := by obtain ⟨v, hx, _⟩ := h; exact hx.lt
 obtain ⟨n, hnn⟩ : ∃ n, n = s.length := ⟨_, rfl⟩
 have hb0 := ((Below.refl _ w).alloc (Nat.le_refl _) (.cells #[.bool false, .int .u64 0, .int .u64 0, .int .u64 0, .int .u64 0, .int .u64 0, .int .u64 0, .int .u64 0, .int .u64 0] 103)).alloc (by simp) (.cells #[.bool true, .int .u64 0, .int .u64 0, .int .u64 0, .int .u64 0, .int .u64 0, .int .u64 0, .int .u64 0, .int .u64 0] 103)
 have hout := (PAt.new w ⟨false, Bg.nil, Bg.nil⟩).alloc (.cells #[.bool true, .int .u64 0, .int .u64 0, .int .u64 0, .int .u64 0, .int .u64 0, .int .u64 0, .int .u64 0, .int .u64 0] 103)
 have hrest := PAt.new (w.alloc (.cells #[.bool false, .int .u64 0, .int .u64 0, .int .u64 0, .int .u64 0, .int .u64 0, .int .u64 0, .int .u64 0, .int .u64 0] 103)) emp
 simp only [World.size_alloc] at hrest
 have H0 : Hid (LS base N bp w p0 must s l (.slice A s.length c) s.length ((w.alloc (.cells #[.bool false, .int .u64 0, .int .u64 0, .int .u64 0, .int .u64 0, .int .u64 0, .int .u64 0, .int .u64 0, .int .u64 0] 103)).alloc (.cells #[.bool true, .int .u64 0, .int .u64 0, .int .u64 0, .int .u64 0, .int .u64 0, .int .u64 0, .int .u64 0, .int .u64 0] 103))) := by
  refine ⟨?_, ?_, ⟨_, hout⟩, hp.belowAll hb0, NFrame.of_below hb0, hT.below hb0 hT.2⟩
  ·rw [List.drop_length]; exact h.belowAll hb0
  ·rw [List.drop_length]; exact hrest
 have HBL := Lib.hid (fun g hg => (hp.block g hg).2.1)
 have HS := Lib.hid hs
 have HOK := Lib.hid hok
 rw [← hnn] at hn H0 HBL ⊢
 have HNN := Lib.hid hnn
 clear hb0 hout hrest h hT hp hs hok hnn
 go_enter Tryz.func174, Tryz.ntmps174
 go_wp2
 go_loopw [8] (fun i wr => ∃ z : Int, -1 ≤ z ∧ z < n ∧ i = .int .i64 z ∧ Hid (LS base N bp w p0 must s l (.slice A n c) (z + 1).toNat wr)) (fun i _ => (intOf i + 1).toNat)
 case atStart => exact ⟨(n : Int) - 1, by omega, by omega, rfl, by rw [show ((n : Int) - 1 + 1).toNat = n by omega]; exact H0⟩
 case round =>
  obtain ⟨z, hz1, hz2, rfl, hL⟩ := hrel
  by_cases hz : 0 ≤ z
  ·obtain ⟨j, rfl⟩ : ∃ j : Nat, z = j := ⟨z.toNat, by omega⟩
   rw [show ((j : Int) + 1).toNat = j + 1 by omega] at hL
   have hj : j < s.length := by have := HNN.out; omega
   have hstep := line_step must j s l hj
   have hRw := line_within (n := l.length) must (j + 1) (s.drop (j + 1)) l (fun p hp => HS.out p (List.mem_of_mem_drop hp))
   have hLk := line_ok must (j + 1) (s.drop (j + 1)) l (fun p hp => HS.out p (List.mem_of_mem_drop hp)) HOK.out
   have hLl := line_length must (j + 1) (s.drop (j + 1)) l
   have hnet := hL.out.net
   have hrest := hL.out.rest
   generalize line must (j + 1) (s.drop (j + 1)) l = RL at hstep hRw hLk hLl hnet hrest
   obtain ⟨R, L⟩ := RL
   have hone := HS.out s[j] (List.getElem_mem hj)
   obtain ⟨g, cap, hA, hbg, hg, hcap, hcs⟩ := hL.out.row.opn (by omega)
   obtain ⟨rfl, rfl⟩ : A = some ⟨g, 0, none⟩ ∧ c = cap := by
    simp only [Value.slice.injEq] at hA
    exact ⟨hA.1, hA.2.2⟩
   have hc0 := hcs j hj
   obtain ⟨one, hsj⟩ : ∃ one, s[j] = one := ⟨_, rfl⟩
   rw [hsj] at hstep hone hc0
   have HST := Lib.hid hstep
   dsimp only at HST hRw hLk hLl hnet hrest
   rw [← hLl] at hone
   have HON := Lib.hid hone
   have HRK := Lib.hid (within_ok hRw)
   have HLK := Lib.hid hLk
   have HNT := Lib.hid hnet
   obtain ⟨q0, hout⟩ := hL.out.out
   have HPA := Lib.hid hrest
   have HOU := Lib.hid hout
   have HRO := Lib.hid hL.out.row
   have HFR := Lib.hid hL.out.frame
   have HTA := Lib.hid hL.out.tab
   obtain ⟨r0, ⟨r1, r2, r3, r4⟩, r5, r6, r7, r8⟩ := hrest.cell
   have hz3 : w.heap.size + 1 < wr.heap.size := hrest.lt
   have hg1 : g < w.heap.size := HBL.out g rfl
   have HCS : Hid (∀ W, Pcs bp W (.slice (some ⟨g, 0, none⟩) n c) s → W.cell? ⟨g, j * 9, none⟩ = some (.bool one.em) ∧ (W.cell? ⟨g, j * 9 + 1, none⟩ = some (.int .u64 one.first.a) ∧ W.cell? ⟨g, j * 9 + 2, none⟩ = some (.int .u64 one.first.b) ∧ W.cell? ⟨g, j * 9 + 3, none⟩ = some (.int .u64 one.first.c) ∧ W.cell? ⟨g, j * 9 + 4, none⟩ = some (.int .u64 one.first.d)) ∧ (W.cell? ⟨g, j * 9 + 5, none⟩ = some (.int .u64 one.ends.a) ∧ W.cell? ⟨g, j * 9 + 6, none⟩ = some (.int .u64 one.ends.b) ∧ W.cell? ⟨g, j * 9 + 7, none⟩ = some (.int .u64 one.ends.c) ∧ W.cell? ⟨g, j * 9 + 8, none⟩ = some (.int .u64 one.ends.d))) := by
    intro W hW
    obtain ⟨g', cap', hA', _, _, _, hcs'⟩ := hW.opn (by omega)
    simp only [Value.slice.injEq, Option.some.injEq, Addr.mk.injEq, and_true] at hA'
    have := hcs' j hj
    rw [hsj] at this
    rw [hA'.1]
    exact this
   have HNN2 := Lib.hid (HNT.out.notN HRO.out)
   clear hcs hc0 hL hstep hRw hLk hnet hrest hout hone hA hsj
   have htest : decide (0 ≤ (j : Int)) = true := by simp
   go_wp2_with fail
   refine wp_region_held_drew (S := fun W => W.cell? ⟨g, j * 9, none⟩ = some (.bool one.em) ∧ (W.cell? ⟨g, j * 9 + 1, none⟩ = some (.int .u64 one.first.a) ∧ W.cell? ⟨g, j * 9 + 2, none⟩ = some (.int .u64 one.first.b) ∧ W.cell? ⟨g, j * 9 + 3, none⟩ = some (.int .u64 one.first.c) ∧ W.cell? ⟨g, j * 9 + 4, none⟩ = some (.int .u64 one.first.d)) ∧ (W.cell? ⟨g, j * 9 + 5, none⟩ = some (.int .u64 one.ends.a) ∧ W.cell? ⟨g, j * 9 + 6, none⟩ = some (.int .u64 one.ends.b) ∧ W.cell? ⟨g, j * 9 + 7, none⟩ = some (.int .u64 one.ends.c) ∧ W.cell? ⟨g, j * 9 + 8, none⟩ = some (.int .u64 one.ends.d))) (by kernel_rfl) (HCS.out _ HRO.out) (fun hHeld => ?_)
   refine tk 0 (v := ?_) rfl (by kernel_rfl) (fun _ _ _ h => h) ?_ hHeld ?_
   rotate_left
   ·(intro W hSw; (try dsimp only at hSw); go_simp; try with_reducible rfl)
   refine tk 1 (v := ?_) rfl (by kernel_rfl) (fun _ _ _ h => h) ?_ hHeld ?_
   rotate_left
   ·(intro W hSw; (try dsimp only at hSw); go_simp; try with_reducible rfl)
   refine tk 2 (v := ?_) rfl (by kernel_rfl) (fun _ _ _ h => h) ?_ hHeld ?_
   rotate_left
   ·(intro W hSw; (try dsimp only at hSw); go_simp; try with_reducible rfl)
   refine tk 3 (v := ?_) rfl (by kernel_rfl) (fun _ _ _ h => h) ?_ hHeld ?_
   rotate_left
   ·(intro W hSw; (try dsimp only at hSw); go_simp; try with_reducible rfl)
   refine tk 4 (v := ?_) rfl (by kernel_rfl) (fun _ _ _ h => h) ?_ hHeld ?_
   rotate_left
   ·(intro W hSw; (try dsimp only at hSw); go_simp; try with_reducible rfl)
   refine wpAnyH_ready (rs := [5]) (by kernel_rfl) (by simp) ?_
   refine AllReadyH.cons rfl (fun K hK => ?_) AllReadyH.nil
   go_simp
   refine hK.out _ _ hHeld (fun hHeld => ?_)
   clear hK K
   refine wpAnyH_ready (rs := [6]) (by kernel_rfl) (by simp) ?_
   refine AllReadyH.cons rfl (fun K hK => ?_) AllReadyH.nil
   go_simp
   go_at_call 218
   refine (ahead_any N L p0 one R wr.drew HNT.out hb HTA.out hTb HON.out HRK.out HLK.out).mono ?_
   rintro en w1 ⟨rfl, hns1, hf1⟩
   obtain ⟨a, ha⟩ : ∃ a, (ahead one R L).1 = a := ⟨_, rfl⟩
   obtain ⟨L2, hL2⟩ : ∃ L2, (ahead one R L).2 = L2 := ⟨_, rfl⟩
   rw [ha]
   rw [hL2] at hns1
   have HAA := Lib.hid ha
   have HL2 := Lib.hid hL2
   have hf2 : NFrame base N wr w1 := (NFrame.refl (W := wr)).drew.trans hf1
   have HNS1 := Lib.hid hns1
   have HF1 := Lib.hid hf2
   have HP1 := Lib.hid (HPA.out.frame hf2 (by omega))
   have HO1 := Lib.hid (HOU.out.frame hf2 (by omega))
   have HR1 := Lib.hid (HRO.out.frame hf2 HNN2.out)
   have HT1 := Lib.hid (Tab.frame HTA.out hf2 hTb (by omega))
   clear ha hL2 hns1 hf1 hf2 hHeld r0 r1 r2 r3 r4 r5 r6 r7 r8
   obtain ⟨r0, ⟨r1, r2, r3, r4⟩, r5, r6, r7, r8⟩ := HP1.out.cell
   have g0 := HP1.out.free 0; have g1 := HP1.out.free 1; have g2 := HP1.out.free 2; have g3 := HP1.out.free 3; have g4 := HP1.out.free 4; have g5 := HP1.out.free 5; have g6 := HP1.out.free 6; have g7 := HP1.out.free 7; have g8 := HP1.out.free 8
   unfold pcV
   go_wp2_with fail
   refine hK.out _ _ (HCS.out _ HR1.out) (fun hHeld => ?_)
   clear hK K
   refine wpAnyH_ready (rs := [7]) (by kernel_rfl) (by simp) ?_
   refine AllReadyH.cons rfl (fun K hK => ?_) AllReadyH.nil
   go_simp
   have hn9 := HNS1.out.st9 HP1.out.isP a
   have hp9 := HP1.out.store a
   have ho9 := HO1.out.st9 (b := w.heap.size + 1) (by omega) a
   have hr9 := HR1.out.st9 (b := w.heap.size + 1) (by simp [Value.ownBlock]; omega) a
   have hf9 := (HFR.out.trans HF1.out).st9 (b := w.heap.size + 1) (by omega) a
   have ht9 : Tab (st9 w1 (w.heap.size + 1) a) := Nf.Tab.piece HT1.out (by omega)
   refine hK.out _ _ (HCS.out _ hr9) (fun hHeld => ?_)
   clear hK K hHeld
   refine wpAnyH_done (by kernel_rfl) ?_ _
   unfold st9 at hn9 ho9 hr9 hf9 ht9
   generalize (((((((((w1.setCell ⟨w.heap.size + 1, 0, none⟩ (.bool a.em)).setCell ⟨w.heap.size + 1, 1, none⟩ (.int .u64 a.first.a)).setCell ⟨w.heap.size + 1, 2, none⟩ (.int .u64 a.first.b)).setCell ⟨w.heap.size + 1, 3, none⟩ (.int .u64 a.first.c)).setCell ⟨w.heap.size + 1, 4, none⟩ (.int .u64 a.first.d)).setCell ⟨w.heap.size + 1, 5, none⟩ (.int .u64 a.ends.a)).setCell ⟨w.heap.size + 1, 6, none⟩ (.int .u64 a.ends.b)).setCell ⟨w.heap.size + 1, 7, none⟩ (.int .u64 a.ends.c)).setCell ⟨w.heap.size + 1, 8, none⟩ (.int .u64 a.ends.d)) = w4 at hn9 hp9 ho9 hr9 hf9 ht9 ⊢
   clear r0 r1 r2 r3 r4 r5 r6 r7 r8 g0 g1 g2 g3 g4 g5 g6 g7 g8
   obtain ⟨y0, _⟩ := hp9.cell
   have f0 := hp9.free 0
   have HN9 := Lib.hid hn9
   have HP9 := Lib.hid hp9
   have HO9 := Lib.hid ho9
   have HR9 := Lib.hid hr9
   have HF9 := Lib.hid hf9
   have HT9 := Lib.hid ht9
   have HST2 : Hid (line must j (s.drop j) l = (⟨a.em || decide (must ≤ (j : Int)), a.first, a.ends⟩, L2)) := by
    show _ = _
    rw [HST.out, HAA.out, HL2.out]
   clear hn9 hp9 ho9 hr9 hf9 ht9
   obtain ⟨ae, af, an⟩ := a
   dsimp only at y0
   by_cases hm : must ≤ (j : Int)
   ·have hX : (ae || decide (must ≤ (j : Int))) = true := by simp [hm]
    have HX := Lib.hid hX
    have hd : decide (must ≤ (j : Int)) = true := by simpa using hm
    clear hX
    cases ae
    all_goals
     go_wp2_with fail
     go_roundw
     case rel => exact ⟨(j : Int) - 1, by omega, by omega, by go_num, by rw [show ((j : Int) - 1 + 1).toNat = j by omega]; exact Lib.hid (LS.fin HST2.out HN9.out HP9.out HO9.out HR9.out HF9.out HT9.out (by omega) HBL.out HX.out.symm)⟩
     case measure => simp [intOf]
   ·have hd : decide (must ≤ (j : Int)) = false := by simpa using hm
    have HX : Hid ((ae || decide (must ≤ (j : Int))) = ae) := by show _ = _; rw [hd]; simp
    cases ae
    all_goals
     go_wp2_with fail
     go_roundw
     case rel => exact ⟨(j : Int) - 1, by omega, by omega, by go_num, by rw [show ((j : Int) - 1 + 1).toNat = j by omega]; exact Lib.hid (LS.fin HST2.out HN9.out HP9.out HO9.out HR9.out HF9.out HT9.out (by omega) HBL.out HX.out.symm)⟩
     case measure => simp [intOf]
  ·obtain rfl : z = -1 := by omega
   rw [show ((-1 : Int) + 1).toNat = 0 by omega] at hL
   have hnet := hL.out.net
   have hrest := hL.out.rest
   have hfr := hL.out.frame
   obtain ⟨q0, hout⟩ := hL.out.out
   rw [List.drop_zero] at hnet hrest
   obtain ⟨q, hq⟩ : ∃ q, (line must 0 s l).1 = q := ⟨_, rfl⟩
   rw [hq] at hrest
   obtain ⟨y0, ⟨y1, y2, y3, y4⟩, y5, y6, y7, y8⟩ := hrest.cell
   obtain ⟨z0, ⟨z1, z2, z3, z4⟩, z5, z6, z7, z8⟩ := hout.cell
   have g0 := hout.free 0; have g1 := hout.free 1; have g2 := hout.free 2; have g3 := hout.free 3; have g4 := hout.free 4; have g5 := hout.free 5; have g6 := hout.free 6; have g7 := hout.free 7; have g8 := hout.free 8
   have HNT := Lib.hid hnet
   have HOU := Lib.hid hout
   have HFR := Lib.hid hfr
   have HQ := Lib.hid hq
   clear hnet hrest hfr hout hL hq
   go_wp2
   have hs := HOU.out.store q
   obtain ⟨s0, ⟨s1, s2, s3, s4⟩, s5, s6, s7, s8⟩ := hs.cell
   refine bodyPost_ret (v := pcV q) ?_ rfl ⟨by rw [HQ.out], ?_, ?_⟩
   ·simp [pcV, results, Tryz.results174, go_sem, s0, s1, s2, s3, s4, s5, s6, s7, s8]
   ·exact HNT.out.st9 HOU.out.isP q
   ·exact HFR.out.st9 (by omega) q
end Go.Proofs.YtnbchikiiipejaaGreatDoor.Nf
namespace Go.Proofs.YtnbchikiiipejaaGreatDoor.Nf
open Go.RowKit Mem
open Bg (Bag bagV)
variable {base : Nat}
theorem empty_any (N : Nat) (l : List En) (p : Pc) (w : World) (h : NS base N w l p) :
  Calls Tryz.prog 14 #[.pointer (some ⟨N, 0, none⟩)] w fun e w' => e = .returned (.bool p.em) ∧ w = w' := by
 obtain ⟨v, hbx, hen, hne⟩ := h
 have c1 := hbx.cell.2.1
 clear hbx hen hne
 go_enter Tryz.func14, Tryz.ntmps14
 go_wp2
 go_ret
 exact ⟨rfl, rfl⟩
theorem fld_on (a b c d p q r t : Int) (w : World) : (Instr.field 107 (.agg #[.int .u64 a, .int .u64 b, .int .u64 c, .int .u64 d, .int .u64 p, .int .u64 q, .int .u64 r, .int .u64 t]) 0).run Tryz.prog w = .ok (.agg #[.int .u64 a, .int .u64 b, .int .u64 c, .int .u64 d]) w := by kernel_rfl
theorem on_any (N : Nat) (l : List En) (p : Pc) (i : Int) (w : World) (h : NS base N w l p) :
  Calls Tryz.prog 18 #[.pointer (some ⟨N, 0, none⟩), .int .i64 i] w fun e w' => e = .returned (bagV (atE l i).on) ∧ Below w.heap.size w w' := by
 have hb0 := (Below.refl _ w).alloc (Nat.le_refl _) (.cells #[.int .u64 0, .int .u64 0, .int .u64 0, .int .u64 0] 29)
 have HV := Lib.hid (Bg.At.new w Bg.nil)
 have HB := Lib.hid hb0
 have HS := Lib.hid (h.belowAll hb0)
 clear h hb0
 go_enter Tryz.func18, Tryz.ntmps18
 obtain ⟨x, hx⟩ : ∃ x, atE l i = x := ⟨_, rfl⟩
 have hfl := fld_on x.on.a x.on.b x.on.c x.on.d x.behind.a x.behind.b x.behind.c x.behind.d
 go_wp2_with (go_at_call 60; refine (at_any N l p i _ HS.out).mono ?_; rw [hx]; unfold enV; rintro e w1 ⟨rfl, hb1⟩; have HA := Lib.hid (HV.out.below hb1 (by simp)); have HB1 := Lib.hid (HB.out.trans (hb1.mono (by simp))); obtain ⟨d0, d1, d2, d3, hf⟩ := HA.out.cell; have f0 := hf 0; have f1 := hf 1; have f2 := hf 2; have f3 := hf 3; clear hb1 hf)
 have hs := HA.out.store x.on
 obtain ⟨s0, s1, s2, s3, _⟩ := hs.cell
 refine bodyPost_ret (v := bagV x.on) ?_ rfl ⟨by rw [hx], ?_⟩
 ·simp [bagV, results, Tryz.results18, go_sem, s0, s1, s2, s3]
 ·exact ((((HB1.out).setCell (Nat.le_refl _) _).setCell (Nat.le_refl _) _).setCell (Nat.le_refl _) _).setCell (Nat.le_refl _) _
theorem places_nil (w : World) : Calls Tryz.prog 13 #[.pointer none] w fun e w' => e = .returned (.int .i64 0) ∧ w = w' := by
 go_enter Tryz.func13, Tryz.ntmps13
 go_wp2
 go_ret
 exact ⟨rfl, rfl⟩
theorem empty_nil (w : World) : Calls Tryz.prog 14 #[.pointer none] w fun e w' => e = .returned (.bool false) ∧ w = w' := by
 go_enter Tryz.func14, Tryz.ntmps14
 go_wp2
 go_ret
 exact ⟨rfl, rfl⟩
theorem first_nil (w : World) : Calls Tryz.prog 15 #[.pointer none] w fun e w' => e = .returned (.agg #[.int .u64 0, .int .u64 0, .int .u64 0, .int .u64 0]) ∧ Below w.heap.size w w' := by
 go_enter Tryz.func15, Tryz.ntmps15
 go_wp2
 refine bodyPost_ret (v := .agg #[.int .u64 0, .int .u64 0, .int .u64 0, .int .u64 0]) ?_ rfl ⟨rfl, (Below.refl _ w).alloc (Nat.le_refl _) _⟩
 simp [results, Tryz.results15, go_sem]
theorem ends_nil (w : World) : Calls Tryz.prog 16 #[.pointer none] w fun e w' => e = .returned (.agg #[.int .u64 0, .int .u64 0, .int .u64 0, .int .u64 0]) ∧ Below w.heap.size w w' := by
 go_enter Tryz.func16, Tryz.ntmps16
 go_wp2
 refine bodyPost_ret (v := .agg #[.int .u64 0, .int .u64 0, .int .u64 0, .int .u64 0]) ?_ rfl ⟨rfl, (Below.refl _ w).alloc (Nat.le_refl _) _⟩
 simp [results, Tryz.results16, go_sem]
theorem at_nil (i : Int) (w : World) : Calls Tryz.prog 60 #[.pointer none, .int .i64 i] w fun e w' => e = .returned (.agg #[.int .u64 0, .int .u64 0, .int .u64 0, .int .u64 0, .int .u64 0, .int .u64 0, .int .u64 0, .int .u64 0]) ∧ Below w.heap.size w w' := by
 by_cases hi : i < 0
 ·go_enter Tryz.func60, Tryz.ntmps60
  go_wp2
  refine bodyPost_ret (v := .agg #[.int .u64 0, .int .u64 0, .int .u64 0, .int .u64 0, .int .u64 0, .int .u64 0, .int .u64 0, .int .u64 0]) ?_ rfl ⟨rfl, (Below.refl _ w).alloc (Nat.le_refl _) _⟩
  simp [results, Tryz.results60, go_sem]
 ·have hg : decide (0 ≤ i) = true := by simp; omega
  go_enter Tryz.func60, Tryz.ntmps60
  go_wp2_with (go_at_call 13; refine (places_nil _).mono ?_; rintro e w' ⟨rfl, rfl⟩)
  refine bodyPost_ret (v := .agg #[.int .u64 0, .int .u64 0, .int .u64 0, .int .u64 0, .int .u64 0, .int .u64 0, .int .u64 0, .int .u64 0]) ?_ rfl ⟨rfl, (Below.refl _ w).alloc (Nat.le_refl _) _⟩
  simp [results, Tryz.results60, go_sem]
theorem on_nil (i : Int) (w : World) : Calls Tryz.prog 18 #[.pointer none, .int .i64 i] w fun e w' => e = .returned (.agg #[.int .u64 0, .int .u64 0, .int .u64 0, .int .u64 0]) ∧ Below w.heap.size w w' := by
 have hb0 := (Below.refl _ w).alloc (Nat.le_refl _) (.cells #[.int .u64 0, .int .u64 0, .int .u64 0, .int .u64 0] 29)
 have HV := Lib.hid (Bg.At.new w Bg.nil)
 have HB := Lib.hid hb0
 clear hb0
 go_enter Tryz.func18, Tryz.ntmps18
 have hfl := fld_on 0 0 0 0 0 0 0 0
 go_wp2_with (go_at_call 60; refine (at_nil i _).mono ?_; rintro e w1 ⟨rfl, hb1⟩; have HA := Lib.hid (HV.out.below hb1 (by simp)); have HB1 := Lib.hid (HB.out.trans (hb1.mono (by simp))); obtain ⟨d0, d1, d2, d3, hf⟩ := HA.out.cell; have f0 := hf 0; have f1 := hf 1; have f2 := hf 2; have f3 := hf 3; clear hb1 hf)
 have hs := HA.out.store Bg.nil
 obtain ⟨s0, s1, s2, s3, _⟩ := hs.cell
 refine bodyPost_ret (v := .agg #[.int .u64 0, .int .u64 0, .int .u64 0, .int .u64 0]) ?_ rfl ⟨rfl, ?_⟩
 ·simp only [Bg.nil, Int.ofNat_zero] at s0 s1 s2 s3
  simp [results, Tryz.results18, go_sem, s0, s1, s2, s3]
 ·exact ((((HB1.out).setCell (Nat.le_refl _) _).setCell (Nat.le_refl _) _).setCell (Nat.le_refl _) _).setCell (Nat.le_refl _) _
theorem behind_nil (i : Int) (w : World) : Calls Tryz.prog 17 #[.pointer none, .int .i64 i] w fun e w' => e = .returned (.agg #[.int .u64 0, .int .u64 0, .int .u64 0, .int .u64 0]) ∧ Below w.heap.size w w' := by
 have hb0 := (Below.refl _ w).alloc (Nat.le_refl _) (.cells #[.int .u64 0, .int .u64 0, .int .u64 0, .int .u64 0] 29)
 have HV := Lib.hid (Bg.At.new w Bg.nil)
 have HB := Lib.hid hb0
 clear hb0
 go_enter Tryz.func17, Tryz.ntmps17
 have hfl := fld_behind 0 0 0 0 0 0 0 0
 go_wp2_with (go_at_call 60; refine (at_nil i _).mono ?_; rintro e w1 ⟨rfl, hb1⟩; have HA := Lib.hid (HV.out.below hb1 (by simp)); have HB1 := Lib.hid (HB.out.trans (hb1.mono (by simp))); obtain ⟨d0, d1, d2, d3, hf⟩ := HA.out.cell; have f0 := hf 0; have f1 := hf 1; have f2 := hf 2; have f3 := hf 3; clear hb1 hf)
 have hs := HA.out.store Bg.nil
 obtain ⟨s0, s1, s2, s3, _⟩ := hs.cell
 refine bodyPost_ret (v := .agg #[.int .u64 0, .int .u64 0, .int .u64 0, .int .u64 0]) ?_ rfl ⟨rfl, ?_⟩
 ·simp only [Bg.nil, Int.ofNat_zero] at s0 s1 s2 s3
  simp [results, Tryz.results17, go_sem, s0, s1, s2, s3]
 ·exact ((((HB1.out).setCell (Nat.le_refl _) _).setCell (Nat.le_refl _) _).setCell (Nat.le_refl _) _).setCell (Nat.le_refl _) _
theorem fits_nil (w : World) : Calls Tryz.prog 19 #[.pointer none, .slice none 0 0] w fun e w' => e = .returned (.bool false) ∧ Below w.heap.size w w' := by
 have hb0 := (Below.refl _ w).alloc (Nat.le_refl _) (.cells #[.pointer none] 23)
 have HB := Lib.hid hb0
 clear hb0
 go_enter Tryz.func19, Tryz.ntmps19
 go_wp2_with (go_at_call 14; refine (empty_nil _).mono ?_; rintro e w' ⟨rfl, rfl⟩)
 go_ret
 exact ⟨rfl, HB.out⟩
end Go.Proofs.YtnbchikiiipejaaGreatDoor.Nf
