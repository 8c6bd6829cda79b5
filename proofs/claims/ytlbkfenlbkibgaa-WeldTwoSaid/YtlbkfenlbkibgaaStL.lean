/- Walks of route: Tell, plain. -/
import Derived.Test.YtlbkfenlbkibgaaRtMath
import Derived.Test.YtlbkfenlbkibgaaRtA
import Derived.Test.YtlbkfenlbkibgaaSmC
import Derived.OpenShut
import Derived.ShutString
import Derived.Deep.SlicePairs
import Derived.Test.YtlbkfenlbkibgaaStR
set_option linter.unusedVariables false
namespace Go.Proofs.Ytlbkfenlbkibgaa.Rt
open Go.RowKit Mem Sm
structure St where
 pos : Int
 gone : Bool
 inside : Bool
noncomputable def goM (M : List (List Rg)) (mir : List (Int × Int)) (side : Int) : Nat → Nat → St → Option St
 | 0, _, s => some s
 | f + 1, i, s =>
  if i < M.length then
   if tellE (M.getD i []) s.pos = 0 then
    if (recR M mir i (tellW (M.getD i []) s.pos side)).2.2 = true then
     goM M mir side f ((recR M mir i (tellW (M.getD i []) s.pos side)).2.1.toNat + 1) { s with pos := (recR M mir i (tellW (M.getD i []) s.pos side)).1 }
    else goM M mir side f (i + 1) ⟨(tellW (M.getD i []) s.pos side).pos, s.gone || (tellW (M.getD i []) s.pos side).gone, s.inside || (tellW (M.getD i []) s.pos side).inside⟩
   else none
  else some s
theorem recR_ge {M : List (List Rg)} {mir : List (Int × Int)} {i : Int} {q : Pl} (h : (recR M mir i q).2.2 = true) : i ≤ (recR M mir i q).2.1 ∧ ∃ x ∈ mir, x.2 = (recR M mir i q).2.1 := by
 unfold recR at h ⊢
 cases hl : lk mir i with
 | none => rw [hl] at h; simp at h
 | some j =>
  rw [hl] at h
  simp only at h ⊢
  split at h
  ·rename_i g
   rw [if_pos g]
   exact ⟨g.2, _, lk_some hl, rfl⟩
  ·simp at h
theorem goM_no {M : List (List Rg)} {mir : List (Int × Int)} {side : Int} {i : Nat} (hi : ¬ i < M.length) (s : St) : ∀ f, goM M mir side f i s = some s
 | 0 => rfl
 | f + 1 => by rw [goM, if_neg hi]
theorem goM_yes {M : List (List Rg)} {mir : List (Int × Int)} {side : Int} {i : Nat} (hi : i < M.length) (s : St) (f : Nat) : goM M mir side (f + 1) i s =
  if tellE (M.getD i []) s.pos = 0 then
   if (recR M mir i (tellW (M.getD i []) s.pos side)).2.2 = true then
    goM M mir side f ((recR M mir i (tellW (M.getD i []) s.pos side)).2.1.toNat + 1) { s with pos := (recR M mir i (tellW (M.getD i []) s.pos side)).1 }
   else goM M mir side f (i + 1) ⟨(tellW (M.getD i []) s.pos side).pos, s.gone || (tellW (M.getD i []) s.pos side).gone, s.inside || (tellW (M.getD i []) s.pos side).inside⟩
  else none := by rw [goM, if_pos hi]
theorem goM_fuel (M : List (List Rg)) (mir : List (Int × Int)) (side : Int) : ∀ (f i : Nat) (s : St), M.length - i ≤ f → goM M mir side (f + 1) i s = goM M mir side f i s
 | 0, i, s, h => by
  have : ¬ i < M.length := by omega
  simp [goM, this]
 | f + 1, i, s, h => by
  by_cases hi : i < M.length
  ·rw [goM_yes hi s (f + 1), goM_yes hi s f]
   split
   ·split
    ·rename_i g
     have := (recR_ge g).1
     exact goM_fuel M mir side f _ _ (by omega)
    ·exact goM_fuel M mir side f _ _ (by omega)
   ·rfl
  ·rw [goM_no hi, goM_no hi]
end Go.Proofs.Ytlbkfenlbkibgaa.Rt
namespace Go.Proofs.Ytlbkfenlbkibgaa.Sm
open Go.ChangeShapes Go.WideShapes Go.Deep Go.RowKit Mem
theorem choose_all {α : Type} {n : Nat} {R : Nat → α → Prop} (d : α) (h : ∀ i, i < n → ∃ x, R i x) : ∃ F : Nat → α, ∀ i, i < n → R i (F i) := by
 have h' : ∀ i, ∃ x, i < n → R i x := by
  intro i
  by_cases hi : i < n
  ·obtain ⟨x, hx⟩ := h i hi; exact ⟨x, fun _ => hx⟩
  ·exact ⟨d, fun h => absurd h hi⟩
 exact ⟨fun i => Classical.choose (h' i), fun i => Classical.choose_spec (h' i)⟩
theorem add_at (b o j : Nat) : (⟨b, o, none⟩ : Addr).add j = ⟨b, o + j, none⟩ := by unfold Addr.add; split <;> simp_all
end Go.Proofs.Ytlbkfenlbkibgaa.Sm
namespace Go.Proofs.Ytlbkfenlbkibgaa.Rt
open Go.RowKit Mem Sm
structure TB (w : World) (s : St) (W : World) : Prop where
 below : Below w.heap.size w W
 h0 : W.heap[w.heap.size]? = some (.cells #[.int .i64 0, .bool false, .bool false, .int .i64 0, .int .i64 0] 90 (0, 0))
 h1 : W.heap[w.heap.size + 1]? = some (.cells #[.int .i64 s.pos, .bool s.gone, .bool s.inside, .int .i64 0, .int .i64 0] 90 (0, 0))
def TC (w : World) (s : St) (B : Nat) (q : Pl) (W : World) : Prop := TB w s W ∧ w.heap.size + 1 + 1 ≤ B ∧ W.heap[B]? = some (.cells #[.int .i64 q.pos, .bool q.gone, .bool q.inside, .int .i64 q.rng, .int .i64 q.off] 90 (0, 0))
section
variable {w W W' : World} {s s' : St} {B : Nat} {q : Pl}
theorem TB.size (h : TB w s W) : w.heap.size + 1 + 1 ≤ W.heap.size := by have := lt_some h.h1; omega
theorem TB.step (h : TB w s W) (hb : Below W.heap.size W W') : TB w s W' :=
 ⟨h.below.trans (hb.mono h.below.size), by rw [hb.block _ (lt_some h.h0)]; exact h.h0, by rw [hb.block _ (lt_some h.h1)]; exact h.h1⟩
theorem TC.step (h : TC w s B q W) (hb : Below W.heap.size W W') : TC w s B q W' := ⟨h.1.step hb, h.2.1, by rw [hb.block _ (lt_some h.2.2)]; exact h.2.2⟩
theorem TB.made (w : World) (pos : Int) : TB w ⟨pos, false, false⟩ ((w.alloc (.cells #[.int .i64 0, .bool false, .bool false, .int .i64 0, .int .i64 0] 90)).alloc (.cells #[.int .i64 pos, .bool false, .bool false, .int .i64 0, .int .i64 0] 90)) := by
 have n2 := heap_alloc_new (w.alloc (.cells #[.int .i64 0, .bool false, .bool false, .int .i64 0, .int .i64 0] 90)) (.cells #[.int .i64 pos, .bool false, .bool false, .int .i64 0, .int .i64 0] 90)
 rw [show (w.alloc (.cells #[.int .i64 0, .bool false, .bool false, .int .i64 0, .int .i64 0] 90)).heap.size = w.heap.size + 1 by simp] at n2
 exact ⟨((Below.refl _ _).alloc (Nat.le_refl _) _).alloc (by simp) _, by rw [Below.heap_alloc _ _ _ (by simp), heap_alloc_new], n2⟩
theorem TB.new (h : TB w s W) (q : Pl) : TC w s W.heap.size q (W.alloc (.cells #[.int .i64 q.pos, .bool q.gone, .bool q.inside, .int .i64 q.rng, .int .i64 q.off] 90)) :=
 ⟨h.step ((Below.refl _ _).alloc (Nat.le_refl _) _), h.size, heap_alloc_new W _⟩
theorem TC.put (h : TC w s B q W) (q' : Pl) : TC w s B q' (put5 W B (.int .i64 q'.pos) (.bool q'.gone) (.bool q'.inside) (.int .i64 q'.rng) (.int .i64 q'.off)) := by
 have hB := h.2.1
 exact ⟨⟨put5_below h.1.below (by omega) _ _ _ _ _, by rw [put5_other _ _ _ _ _ _ _ _ (by omega)]; exact h.1.h0, by rw [put5_other _ _ _ _ _ _ _ _ (by omega)]; exact h.1.h1⟩, h.2.1, put5_same h.2.2 _ _ _ _ _⟩
theorem TB.set (h : TB w s W) (j : Nat) (v : Value) (e : (#[Value.int .i64 s.pos, .bool s.gone, .bool s.inside, .int .i64 0, .int .i64 0] : Array Value).setIfInBounds j v = #[.int .i64 s'.pos, .bool s'.gone, .bool s'.inside, .int .i64 0, .int .i64 0]) : TB w s' (W.setCell ⟨w.heap.size + 1, j, none⟩ v) := by
 refine ⟨h.below.setCell (p := ⟨w.heap.size + 1, j, none⟩) (by simp) _, ?_, ?_⟩
 ·rw [Below.heap_setCell _ _ _ _ (by simp)]; exact h.h0
 ·simp [World.setCell, Array.getElem?_modify, h.h1, e]
theorem TB.three (h : TB w s W) (z : Int) (a b : Bool) : TB w ⟨z, a, b⟩ (((W.setCell ⟨w.heap.size + 1, 0, none⟩ (.int .i64 z)).setCell ⟨w.heap.size + 1, 1, none⟩ (.bool a)).setCell ⟨w.heap.size + 1, 2, none⟩ (.bool b)) :=
 ((h.set (s' := ⟨z, s.gone, s.inside⟩) 0 _ rfl).set (s' := ⟨z, a, s.inside⟩) 1 _ rfl).set (s' := ⟨z, a, b⟩) 2 _ rfl
theorem TC.set (h : TC w s B q W) (j : Nat) (v : Value) (e : (#[Value.int .i64 s.pos, .bool s.gone, .bool s.inside, .int .i64 0, .int .i64 0] : Array Value).setIfInBounds j v = #[.int .i64 s'.pos, .bool s'.gone, .bool s'.inside, .int .i64 0, .int .i64 0]) : TC w s' B q (W.setCell ⟨w.heap.size + 1, j, none⟩ v) := by
 have hB := h.2.1
 exact ⟨h.1.set j v e, h.2.1, by rw [Below.heap_setCell _ _ _ _ (by simp; omega)]; exact h.2.2⟩
end
noncomputable def goR (M : List (List Rg)) (mir : List (Int × Int)) (side : Int) (i : Nat) (s : St) : Option St := goM M mir side M.length i s
theorem goR_no {M : List (List Rg)} {mir : List (Int × Int)} {side : Int} {i : Nat} (hi : ¬ i < M.length) (s : St) : goR M mir side i s = some s := goM_no hi s _
theorem goR_yes {M : List (List Rg)} {mir : List (Int × Int)} {side : Int} {i : Nat} (hi : i < M.length) (s : St) : goR M mir side i s =
  if tellE (M.getD i []) s.pos = 0 then
   if (recR M mir i (tellW (M.getD i []) s.pos side)).2.2 = true then
    goR M mir side ((recR M mir i (tellW (M.getD i []) s.pos side)).2.1.toNat + 1) { s with pos := (recR M mir i (tellW (M.getD i []) s.pos side)).1 }
   else goR M mir side (i + 1) ⟨(tellW (M.getD i []) s.pos side).pos, s.gone || (tellW (M.getD i []) s.pos side).gone, s.inside || (tellW (M.getD i []) s.pos side).inside⟩
  else none := by
 unfold goR
 rw [← goM_fuel M mir side M.length i s (by omega), goM_yes hi]
def endP : Option St → Pl
 | some s => ⟨s.pos, s.gone, s.inside, 0, 0⟩
 | none => ⟨0, false, false, 0, 0⟩
theorem TB.hold {w W : World} {s : St} (h : TB w s W) {a1 a2 : Addr} {v1 v2 : Value} (h1 : W.cell? a1 = some v1) (h2 : W.cell? a2 = some v2) :
  W.cell? a1 = some v1 ∧ W.cell? a2 = some v2 ∧ W.cell? ⟨w.heap.size + 1, 0, none⟩ = some (.int .i64 s.pos) ∧ TB w s W := ⟨h1, h2, (five h.h1).1, h⟩
theorem TC.hold {w W : World} {s : St} {B : Nat} {q : Pl} (h : TC w s B q W) {a1 a2 : Addr} {v1 v2 : Value} (h1 : W.cell? a1 = some v1) (h2 : W.cell? a2 = some v2) :
  W.cell? a1 = some v1 ∧ W.cell? a2 = some v2 ∧ W.cell? ⟨w.heap.size + 1, 0, none⟩ = some (.int .i64 s.pos) ∧ TB w s W := h.1.hold h1 h2
theorem put5_cell (W : World) (B : Nat) (y0 y1 y2 y3 y4 : Value) (a : Addr) (h : a.block ≠ B) : (put5 W B y0 y1 y2 y3 y4).cell? a = W.cell? a := by
 simp only [World.cell?, put5_other _ _ _ _ _ _ _ _ h]
end Go.Proofs.Ytlbkfenlbkibgaa.Rt
namespace Go.Proofs.Ytlbkfenlbkibgaa.St
open Go.RowKit Mem Sm Tk Rt
set_option linter.unusedSimpArgs false
abbrev pl5 (x : Pl) : Array Value := #[.int .i64 x.pos, .bool x.gone, .bool x.inside, .int .i64 x.rng, .int .i64 x.off]
end Go.Proofs.Ytlbkfenlbkibgaa.St
