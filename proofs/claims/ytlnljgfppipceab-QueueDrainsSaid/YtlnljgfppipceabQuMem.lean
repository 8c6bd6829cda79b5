/- A row of items in memory, three cells each. -/
import Derived.Test.YtlnljgfppipceabProg
import Derived.Test.YtlnljgfppipceabQuMath
import Derived.WalkKit
import Derived.ProofKit
import Derived.Below
import Derived.Laws.OwnMore
import Derived.Test.YtlnljgfppipceabOwn
namespace Go.Proofs.Ytlnljgfppipceab.Qu
open Go.RowKit Mem
set_option linter.unusedVariables false

def cells1 (a : It) : List Value := [.int .i64 a.key, .int .i64 a.turn, .int .i64 a.thing]
def cells3 (h : List It) : List Value := h.flatMap cells1
theorem cells3_nil : cells3 [] = [] := rfl
theorem cells3_cons (a : It) (h : List It) : cells3 (a :: h) = .int .i64 a.key :: .int .i64 a.turn :: .int .i64 a.thing :: cells3 h := rfl
theorem cells3_append (h k : List It) : cells3 (h ++ k) = cells3 h ++ cells3 k := by simp [cells3]
theorem cells3_length (h : List It) : (cells3 h).length = h.length * 3 := by
  induction h with
  | nil => rfl
  | cons a h ih => rw [cells3_cons]; simp [ih]; omega
theorem cells3_at (h : List It) : ∀ i, i < h.length → (cells3 h)[i * 3]? = some (.int .i64 (at_ h i).key) ∧ (cells3 h)[i * 3 + 1]? = some (.int .i64 (at_ h i).turn) ∧ (cells3 h)[i * 3 + 2]? = some (.int .i64 (at_ h i).thing) := by
  induction h with
  | nil => intro i hi; simp at hi
  | cons a h ih =>
    intro i hi
    cases i with
    | zero => exact ⟨rfl, rfl, rfl⟩
    | succ i =>
      have := ih i (by simpa using hi)
      rw [cells3_cons, show (i + 1) * 3 = i * 3 + 1 + 1 + 1 from by omega]
      have e : at_ (a :: h) (i + 1) = at_ h i := by simp [at_]
      rw [e]
      simpa using this
theorem cells3_set (h : List It) (x : It) : ∀ i, (((cells3 h).set (i * 3) (.int .i64 x.key)).set (i * 3 + 1) (.int .i64 x.turn)).set (i * 3 + 2) (.int .i64 x.thing) = cells3 (h.set i x) := by
  induction h with
  | nil => intro i; simp [cells3]
  | cons a h ih =>
    intro i
    cases i with
    | zero => simp [cells3_cons]
    | succ i =>
      rw [cells3_cons, show (i + 1) * 3 = i * 3 + 1 + 1 + 1 from by omega]
      simp only [List.set_cons_succ, cells3_cons]
      rw [ih i]
theorem cells3_take (h : List It) (m : Nat) : (cells3 h).take (m * 3) = cells3 (h.take m) := by
  induction h generalizing m with
  | nil => simp [cells3]
  | cons a h ih =>
    cases m with
    | zero => simp [cells3]
    | succ m =>
      rw [cells3_cons, show (m + 1) * 3 = m * 3 + 1 + 1 + 1 from by omega]
      simp only [List.take_succ_cons, cells3_cons, ih]

/-- a line of the call's own -/
def Line (base : Nat) (W : World) (v : Value) (h : List It) : Prop := W.ownsRow base 53 3 v h.length (cells3 h)
section
variable {base : Nat} {W W' : World} {v : Value} {h : List It}
theorem Line.nil : Line base W (.slice none 0 0) [] := World.ownsRow_nil _ _ _ _
theorem Line.drewN (l : Line base W v h) (m : Nat) : Line base (W.drewN m) v h := l
theorem Line.drew (l : Line base W v h) : Line base W.drew v h := l
theorem Line.opn (l : Line base W v h) (hp : 0 < h.length) : ∃ g cap, v = .slice (some ⟨g, 0, none⟩) h.length cap ∧ base ≤ g ∧ g < W.heap.size ∧ h.length ≤ cap ∧ cap ≤ maxLen ∧ (∀ j, W.frozen? ⟨g, j, none⟩ = false) ∧
    (∀ i, i < h.length → W.cell? ⟨g, i * 3, none⟩ = some (.int .i64 (at_ h i).key) ∧ W.cell? ⟨g, i * 3 + 1, none⟩ = some (.int .i64 (at_ h i).turn) ∧ W.cell? ⟨g, i * 3 + 2, none⟩ = some (.int .i64 (at_ h i).thing)) := by
  have l' := l
  rcases l.2 with ⟨_, h0⟩ | ⟨g, cap, cur, hv, hb, hg, hnc, hcm, hs, ht⟩
  · omega
  · subst hv
    refine ⟨g, cap, rfl, hb, (Array.getElem?_eq_some_iff.1 hg).1, hnc, hcm, fun j => World.ownsRow.frozenAt l' j, fun i hi => ?_⟩
    obtain ⟨e0, e1, e2⟩ := cells3_at h i hi
    exact ⟨by rw [World.ownsRow.cellAt l' _ (by omega)]; exact e0, by rw [World.ownsRow.cellAt l' _ (by omega)]; exact e1, by rw [World.ownsRow.cellAt l' _ (by omega)]; exact e2⟩
theorem Line.below (l : Line base W v h) {B : Nat} (hb : Below B W W') (hg : ∀ g, v.ownBlock = some g → g < B) : Line base W' v h := by
  refine ⟨l.1, ?_⟩
  rcases l.2 with hn | ⟨g, cap, cur, hv, h1, h2, r⟩
  · exact .inl hn
  · subst hv
    exact .inr ⟨g, cap, cur, rfl, h1, by rw [hb.block g (hg g rfl)]; exact h2, r⟩
theorem Line.store {g cap n : Nat} (hn : n = h.length) (l : Line base W (.slice (some ⟨g, 0, none⟩) n cap) h) (i : Nat) (x : It) :
    Line base (((W.setCell ⟨g, i * 3, none⟩ (.int .i64 x.key)).setCell ⟨g, i * 3 + 1, none⟩ (.int .i64 x.turn)).setCell ⟨g, i * 3 + 2, none⟩ (.int .i64 x.thing)) (.slice (some ⟨g, 0, none⟩) n cap) (h.set i x) := by
  subst hn
  have s1 := (World.ownsRow.stored l (i * 3) (.int .i64 x.key)).1
  have s2 := (World.ownsRow.stored s1 (i * 3 + 1) (.int .i64 x.turn)).1
  have s3 := (World.ownsRow.stored s2 (i * 3 + 2) (.int .i64 x.thing)).1
  rw [cells3_set] at s3
  unfold Line
  rw [List.length_set]
  exact s3
theorem Line.other (l : Line base W v h) {b : Nat} (hne : v.ownBlock ≠ some b) (j : Nat) (u : Value) : Line base (W.setCell ⟨b, j, none⟩ u) v h := by
  refine ⟨l.1, ?_⟩
  rcases l.2 with hn | ⟨g, cap, cur, hv, h1, h2, r⟩
  · exact .inl hn
  · subst hv
    refine .inr ⟨g, cap, cur, rfl, h1, ?_, r⟩
    rw [Below.heap_setCell _ _ _ _ (fun e => hne (by simp [Value.ownBlock, e]))]
    exact h2
theorem Line.shrink {g cap n : Nat} (hn : n = h.length) (l : Line base W (.slice (some ⟨g, 0, none⟩) n cap) h) (m : Nat) (hm : m ≤ n) : Line base W (.slice (some ⟨g, 0, none⟩) m cap) (h.take m) := by
  subst hn
  rcases l.2 with ⟨e, _⟩ | ⟨g', cap', cur, hv, h1, h2, h3, h4, h5, h6⟩
  · simp at e
  · simp only [Value.slice.injEq, Option.some.injEq, Addr.mk.injEq, and_true, true_and] at hv
    obtain ⟨rfl, rfl⟩ := hv
    have hl : (h.take m).length = m := by rw [List.length_take]; omega
    refine ⟨by rw [cells3_length], .inr ⟨g, cap, cur, by rw [hl], h1, h2, by omega, h4, h5, ?_⟩⟩
    rw [hl, ← cells3_take, ← h6, List.take_take]
    congr 1; omega
end
end Go.Proofs.Ytlnljgfppipceab.Qu
