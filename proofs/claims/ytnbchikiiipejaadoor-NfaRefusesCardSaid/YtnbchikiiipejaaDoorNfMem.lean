/- A net in memory: its block of ten cells, and its places, a row of eight cells each; what its calls leave alone. -/
import Derived.Test.YtnbchikiiipejaaDoorNfGlu
import Derived.Test.YtnbchikiiipejaaDoorNbF
import Derived.Test.YtnbchikiiipejaaDoorOwn
import Derived.Below
import Derived.Laws.OwnMore
namespace Go.Proofs.YtnbchikiiipejaaDoor.Nf
open Go.RowKit Mem
open Bg (Bag)
set_option linter.unusedVariables false

def ecells (x : En) : List Value := [.int .u64 x.on.a, .int .u64 x.on.b, .int .u64 x.on.c, .int .u64 x.on.d, .int .u64 x.behind.a, .int .u64 x.behind.b, .int .u64 x.behind.c, .int .u64 x.behind.d]
def cells8 (l : List En) : List Value := l.flatMap ecells
theorem cells8_nil : cells8 [] = [] := rfl
theorem cells8_cons (a : En) (l : List En) : cells8 (a :: l) = .int .u64 a.on.a :: .int .u64 a.on.b :: .int .u64 a.on.c :: .int .u64 a.on.d :: .int .u64 a.behind.a :: .int .u64 a.behind.b :: .int .u64 a.behind.c :: .int .u64 a.behind.d :: cells8 l := rfl
theorem cells8_append (h k : List En) : cells8 (h ++ k) = cells8 h ++ cells8 k := by simp [cells8]
theorem cells8_length (l : List En) : (cells8 l).length = l.length * 8 := by
  induction l with
  | nil => rfl
  | cons a l ih => rw [cells8_cons]; simp [ih]; omega
theorem cells8_at (l : List En) : ∀ i (hi : i < l.length),
    ((cells8 l)[i * 8]? = some (.int .u64 l[i].on.a) ∧ (cells8 l)[i * 8 + 1]? = some (.int .u64 l[i].on.b) ∧ (cells8 l)[i * 8 + 2]? = some (.int .u64 l[i].on.c) ∧ (cells8 l)[i * 8 + 3]? = some (.int .u64 l[i].on.d)) ∧
    ((cells8 l)[i * 8 + 4]? = some (.int .u64 l[i].behind.a) ∧ (cells8 l)[i * 8 + 5]? = some (.int .u64 l[i].behind.b) ∧ (cells8 l)[i * 8 + 6]? = some (.int .u64 l[i].behind.c) ∧ (cells8 l)[i * 8 + 7]? = some (.int .u64 l[i].behind.d)) := by
  induction l with
  | nil => intro i hi; simp at hi
  | cons a l ih =>
    intro i hi
    cases i with
    | zero => exact ⟨⟨rfl, rfl, rfl, rfl⟩, rfl, rfl, rfl, rfl⟩
    | succ i =>
      have := ih i (by simpa using hi)
      rw [cells8_cons, show (i + 1) * 8 = i * 8 + 1 + 1 + 1 + 1 + 1 + 1 + 1 + 1 from by omega]
      simpa using this
theorem cells8_set (l : List En) (y : Bag) : ∀ i, (((((cells8 l).set (i * 8 + 4) (.int .u64 y.a)).set (i * 8 + 5) (.int .u64 y.b)).set (i * 8 + 6) (.int .u64 y.c)).set (i * 8 + 7) (.int .u64 y.d)) = cells8 (l.modify i (fun e => { e with behind := y })) := by
  induction l with
  | nil => intro i; simp [cells8]
  | cons a l ih =>
    intro i
    cases i with
    | zero => simp [cells8_cons, List.modify_zero_cons]
    | succ i =>
      rw [cells8_cons, show (i + 1) * 8 = i * 8 + 1 + 1 + 1 + 1 + 1 + 1 + 1 + 1 from by omega]
      simp only [List.set_cons_succ, cells8_cons, List.modify_succ_cons]
      rw [ih i]

/-- places, a row of the call's own -/
def Ent (base : Nat) (W : World) (v : Value) (l : List En) : Prop := W.ownsRow base 73 8 v l.length (cells8 l)
/-- the net's block -/
def NBox (W : World) (N : Nat) (v : Value) (p : Pc) : Prop := W.heap[N]? = some (.cells #[v, .bool p.em, .int .u64 p.first.a, .int .u64 p.first.b, .int .u64 p.first.c, .int .u64 p.first.d, .int .u64 p.ends.a, .int .u64 p.ends.b, .int .u64 p.ends.c, .int .u64 p.ends.d] 54 (0, 0))

/-- what the net's calls leave alone: all that lay below base, and all blocks but its own one and rows of places -/
structure NFrame (base N : Nat) (W W' : World) : Prop where
  os : W'.os = W.os
  tape : W'.tape = W.tape
  output : W'.output = W.output
  size : W.heap.size ≤ W'.heap.size
  low : ∀ k, k < base → k < W.heap.size → W'.heap[k]? = W.heap[k]?
  other : ∀ (k : Nat) (o : Obj), W.heap[k]? = some o → k ≠ N → (∀ cs fr, o ≠ .cells cs 73 fr) → W'.heap[k]? = some o
theorem lt_of_some {W : World} {o : Obj} {k : Nat} (h : W.heap[k]? = some o) : k < W.heap.size := (Array.getElem?_eq_some_iff.1 h).1
section
variable {base : Nat} {W W' W'' : World} {v : Value} {l : List En}
theorem Ent.nil : Ent base W (.slice none 0 0) [] := World.ownsRow_nil _ _ _ _
theorem Ent.drewN (h : Ent base W v l) (m : Nat) : Ent base (W.drewN m) v l := h
theorem Ent.drew (h : Ent base W v l) : Ent base W.drew v l := h
theorem Ent.block (h : Ent base W v l) : ∀ g, v.ownBlock = some g → base ≤ g ∧ g < W.heap.size ∧ ∃ cs fr, W.heap[g]? = some (.cells cs 73 fr) := by
  intro g hg
  rcases h.2 with ⟨hv, _⟩ | ⟨g', cap, cur, hv, hb, hh, _⟩
  · subst hv; cases hg
  · subst hv
    simp only [Value.ownBlock, Option.some.injEq] at hg
    subst hg
    exact ⟨hb, lt_of_some hh, _, _, hh⟩
theorem Ent.opn (h : Ent base W v l) (hp : 0 < l.length) : ∃ g cap, v = .slice (some ⟨g, 0, none⟩) l.length cap ∧ base ≤ g ∧ g < W.heap.size ∧ l.length ≤ cap ∧ cap ≤ maxLen ∧ (∀ j, W.frozen? ⟨g, j, none⟩ = false) ∧
    (∀ i (hi : i < l.length),
      (W.cell? ⟨g, i * 8, none⟩ = some (.int .u64 l[i].on.a) ∧ W.cell? ⟨g, i * 8 + 1, none⟩ = some (.int .u64 l[i].on.b) ∧ W.cell? ⟨g, i * 8 + 2, none⟩ = some (.int .u64 l[i].on.c) ∧ W.cell? ⟨g, i * 8 + 3, none⟩ = some (.int .u64 l[i].on.d)) ∧
      (W.cell? ⟨g, i * 8 + 4, none⟩ = some (.int .u64 l[i].behind.a) ∧ W.cell? ⟨g, i * 8 + 5, none⟩ = some (.int .u64 l[i].behind.b) ∧ W.cell? ⟨g, i * 8 + 6, none⟩ = some (.int .u64 l[i].behind.c) ∧ W.cell? ⟨g, i * 8 + 7, none⟩ = some (.int .u64 l[i].behind.d))) := by
  have h' := h
  rcases h.2 with ⟨_, h0⟩ | ⟨g, cap, cur, hv, hb, hg, hnc, hcm, hs, ht⟩
  · omega
  · subst hv
    refine ⟨g, cap, rfl, hb, (Array.getElem?_eq_some_iff.1 hg).1, hnc, hcm, fun j => World.ownsRow.frozenAt h' j, fun i hi => ?_⟩
    obtain ⟨⟨e0, e1, e2, e3⟩, e4, e5, e6, e7⟩ := cells8_at l i hi
    refine ⟨⟨?_, ?_, ?_, ?_⟩, ?_, ?_, ?_, ?_⟩
    all_goals rw [World.ownsRow.cellAt h' _ (by omega)]; assumption
theorem Ent.below (h : Ent base W v l) {B : Nat} (hb : Below B W W') (hg : ∀ g, v.ownBlock = some g → g < B) : Ent base W' v l := by
  refine ⟨h.1, ?_⟩
  rcases h.2 with hn | ⟨g, cap, cur, hv, h1, h2, r⟩
  · exact .inl hn
  · subst hv
    exact .inr ⟨g, cap, cur, rfl, h1, by rw [hb.block g (hg g rfl)]; exact h2, r⟩
theorem Ent.belowAll (h : Ent base W v l) (hb : Below W.heap.size W W') : Ent base W' v l := h.below hb (fun g hg => (h.block g hg).2.1)
theorem Ent.alloc (h : Ent base W v l) (o : Obj) : Ent base (W.alloc o) v l := h.belowAll ((Below.refl _ W).alloc (Nat.le_refl _) o)
theorem Ent.store {g cap n : Nat} (hn : n = l.length) (h : Ent base W (.slice (some ⟨g, 0, none⟩) n cap) l) (i : Nat) (y : Bag) :
    Ent base ((((W.setCell ⟨g, i * 8 + 4, none⟩ (.int .u64 y.a)).setCell ⟨g, i * 8 + 5, none⟩ (.int .u64 y.b)).setCell ⟨g, i * 8 + 6, none⟩ (.int .u64 y.c)).setCell ⟨g, i * 8 + 7, none⟩ (.int .u64 y.d)) (.slice (some ⟨g, 0, none⟩) n cap) (l.modify i (fun e => { e with behind := y })) := by
  subst hn
  have s1 := (World.ownsRow.stored h (i * 8 + 4) (.int .u64 y.a)).1
  have s2 := (World.ownsRow.stored s1 (i * 8 + 5) (.int .u64 y.b)).1
  have s3 := (World.ownsRow.stored s2 (i * 8 + 6) (.int .u64 y.c)).1
  have s4 := (World.ownsRow.stored s3 (i * 8 + 7) (.int .u64 y.d)).1
  rw [cells8_set] at s4
  unfold Ent
  rw [List.length_modify]
  exact s4
theorem Ent.other (h : Ent base W v l) {b : Nat} (hne : v.ownBlock ≠ some b) (j : Nat) (u : Value) : Ent base (W.setCell ⟨b, j, none⟩ u) v l := by
  refine ⟨h.1, ?_⟩
  rcases h.2 with hn | ⟨g, cap, cur, hv, h1, h2, r⟩
  · exact .inl hn
  · subst hv
    refine .inr ⟨g, cap, cur, rfl, h1, ?_, r⟩
    rw [Below.heap_setCell _ _ _ _ (fun e => hne (by simp [Value.ownBlock, e]))]
    exact h2
variable {N : Nat} {p : Pc}
theorem NBox.lt (h : NBox W N v p) : N < W.heap.size := lt_of_some h
theorem NBox.free (h : NBox W N v p) (j : Nat) : W.frozen? ⟨N, j, none⟩ = false := by
  unfold NBox at h
  first | (simp [World.frozen?, h]; done) | (simp [World.frozen?, h]; omega)
theorem NBox.cell (h : NBox W N v p) : W.cell? ⟨N, 0, none⟩ = some v ∧ W.cell? ⟨N, 1, none⟩ = some (.bool p.em) ∧
    (W.cell? ⟨N, 2, none⟩ = some (.int .u64 p.first.a) ∧ W.cell? ⟨N, 3, none⟩ = some (.int .u64 p.first.b) ∧ W.cell? ⟨N, 4, none⟩ = some (.int .u64 p.first.c) ∧ W.cell? ⟨N, 5, none⟩ = some (.int .u64 p.first.d)) ∧
    (W.cell? ⟨N, 6, none⟩ = some (.int .u64 p.ends.a) ∧ W.cell? ⟨N, 7, none⟩ = some (.int .u64 p.ends.b) ∧ W.cell? ⟨N, 8, none⟩ = some (.int .u64 p.ends.c) ∧ W.cell? ⟨N, 9, none⟩ = some (.int .u64 p.ends.d)) := by
  unfold NBox at h
  refine ⟨?_, ?_, ⟨?_, ?_, ?_, ?_⟩, ?_, ?_, ?_, ?_⟩
  all_goals simp [World.cell?, h]
theorem NBox.below (h : NBox W N v p) {B : Nat} (hb : Below B W W') (hN : N < B) : NBox W' N v p := by
  unfold NBox; rw [hb.block N hN]; exact h
theorem NBox.alloc (h : NBox W N v p) (o : Obj) : NBox (W.alloc o) N v p := (Below.heap_alloc W o N h.lt).trans h
theorem NBox.set0 (h : NBox W N v p) (u : Value) : NBox (W.setCell ⟨N, 0, none⟩ u) N u p := by
  unfold NBox at h ⊢
  simp [World.setCell, Array.getElem?_modify, h]
theorem NBox.other (h : NBox W N v p) {b : Nat} (hne : N ≠ b) (j : Nat) (u : Value) : NBox (W.setCell ⟨b, j, none⟩ u) N v p := by
  unfold NBox; rw [Below.heap_setCell _ _ _ _ hne]; exact h
theorem NBox.kept {row : Option Nat} (h : NBox W N v p) (hg : W.grownBy W' row) (hne : some N ≠ row) : NBox W' N v p := by
  unfold NBox; rw [hg.block N h.lt (fun e => hne e)]; exact h
theorem NFrame.refl : NFrame base N W W := ⟨rfl, rfl, rfl, Nat.le_refl _, fun _ _ _ => rfl, fun _ _ h _ _ => h⟩
theorem NFrame.trans (a : NFrame base N W W') (b : NFrame base N W' W'') : NFrame base N W W'' :=
  ⟨b.os.trans a.os, b.tape.trans a.tape, b.output.trans a.output, Nat.le_trans a.size b.size, fun k hk hs => (b.low k hk (Nat.lt_of_lt_of_le hs a.size)).trans (a.low k hk hs), fun k o h1 h2 h3 => b.other k o (a.other k o h1 h2 h3) h2 h3⟩
theorem NFrame.drew (a : NFrame base N W W') : NFrame base N W W'.drew := ⟨a.os, a.tape, a.output, a.size, a.low, a.other⟩
theorem NFrame.drewN (a : NFrame base N W W') (m : Nat) : NFrame base N W (W'.drewN m) := ⟨a.os, a.tape, a.output, a.size, a.low, a.other⟩
theorem NFrame.of_below (b : Below W.heap.size W W') : NFrame base N W W' := ⟨b.os, b.tape, b.output, b.size, fun k _ hs => b.block k hs, fun k o h1 _ _ => (b.block k (lt_of_some h1)).trans h1⟩
theorem NFrame.alloc (o : Obj) : NFrame base N W (W.alloc o) := NFrame.of_below ((Below.refl _ W).alloc (Nat.le_refl _) o)
theorem NFrame.of_grown (h : Ent base W v l) (g : W.grownBy W' v.ownBlock) : NFrame base N W W' := by
  refine ⟨g.os, g.tape, g.output, g.size, fun k hk hs => g.block k hs fun e => ?_, fun k o h1 _ h3 => (g.block k (lt_of_some h1) fun e => ?_).trans h1⟩
  · have := (h.block k e.symm).1; omega
  · obtain ⟨_, _, cs, fr, hh⟩ := h.block k e.symm
    rw [hh] at h1
    exact h3 _ _ (Option.some.inj h1).symm
theorem NFrame.setOwn (hb : base ≤ N) (j : Nat) (u : Value) : NFrame base N W (W.setCell ⟨N, j, none⟩ u) :=
  ⟨rfl, rfl, rfl, by simp, fun k hk _ => Below.heap_setCell W ⟨N, j, none⟩ u k (by simp; omega), fun k o h1 h2 _ => (Below.heap_setCell W ⟨N, j, none⟩ u k h2).trans h1⟩
theorem NFrame.setRow {g : Nat} (hb : base ≤ g) (hg : ∃ cs fr, W.heap[g]? = some (.cells cs 73 fr)) (j : Nat) (u : Value) : NFrame base N W (W.setCell ⟨g, j, none⟩ u) :=
  ⟨rfl, rfl, rfl, by simp, fun k hk _ => Below.heap_setCell W ⟨g, j, none⟩ u k (by simp; omega), fun k o h1 _ h3 => (Below.heap_setCell W ⟨g, j, none⟩ u k (fun e => by
    obtain ⟨cs, fr, hh⟩ := hg
    simp only at e
    rw [e, hh] at h1
    exact h3 _ _ (Option.some.inj h1).symm)).trans h1⟩
theorem NFrame.below (a : NFrame base N W W') {B : Nat} (hB : B ≤ base) (hs : base ≤ W.heap.size) : Below B W W' := ⟨a.os, a.tape, a.output, a.size, fun k hk => a.low k (by omega) (by omega)⟩
/-- a net whose places are l, and which tells p of the whole -/
def NS (base N : Nat) (W : World) (l : List En) (p : Pc) : Prop := ∃ v, NBox W N v p ∧ Ent base W v l ∧ some N ≠ v.ownBlock
theorem NS.belowAll (h : NS base N W l p) (hb : Below W.heap.size W W') : NS base N W' l p := by
  obtain ⟨v, h1, h2, h3⟩ := h
  exact ⟨v, h1.below hb h1.lt, h2.belowAll hb, h3⟩
end
end Go.Proofs.YtnbchikiiipejaaDoor.Nf
