/- Steps: the program's route and the reference's, as the law ShiftThrough lays them. -/
import Derived.Test.YtmhngehpddfccaaRtR
namespace Go.Proofs.Ytmhngehpddfccaa.Rt
open Go.RowKit Mem Sm
set_option linter.unusedVariables false
structure GS (w W : World) (i : Nat) (v mp mv ov : Value) (vs vs2 : List Value) (M : List (List Rg)) (O : List Int) (mir : List (Int × Int)) : Prop where
  rt : RtAt w.heap.size W w.heap.size v mp vs M mir
  xt : XAt w.heap.size w.heap.size W mv ov vs2 M O
  apart : ∀ g, blkOf mv = some g → rowOf W w.heap.size ≠ some g
  rel : Rel M O mir
  right : ∀ m ∈ M, m.length ≤ 20 ∧ rightB m = true
  len : M.length ≤ i
  below : Below w.heap.size w W
  x6 : W.heap[w.heap.size + 1]? = some (.cells #[mv, ov] 38 (0, 0))
section
variable {w W W' : World} {i n1 base p : Nat} {v mp mv ov v' mp' mv' ov' : Value} {vs vs2 vs' vs2' : List Value} {M M' : List (List Rg)} {O O' : List Int} {mir mir' : List (Int × Int)} {m : List Rg}
theorem GS.size (h : GS w W i v mp mv ov vs vs2 M O mir) : w.heap.size + 2 ≤ W.heap.size := by have := lt_some h.x6; omega
theorem GS.step (h : GS w W i v mp mv ov vs vs2 M O mir) (hb : Below W.heap.size W W') : GS w W' i v mp mv ov vs vs2 M O mir := by
  have hs := h.size
  exact ⟨h.rt.step hb, h.xt.step hb (by omega), fun g e => by rw [rowOf_same (hb.block _ (lt_some h.rt.h0))]; exact h.apart g e, h.rel, h.right, h.len, h.below.trans (hb.mono (by omega)), by rw [hb.block _ (lt_some h.x6)]; exact h.x6⟩
theorem GS.more (h : GS w W i v mp mv ov vs vs2 M O mir) : GS w W (i + 1) v mp mv ov vs vs2 M O mir := ⟨h.rt, h.xt, h.apart, h.rel, h.right, by have := h.len; omega, h.below, h.x6⟩
/-- the program's route has changed, the reference's not yet -/
structure GT (w W : World) (i : Nat) (v mp mv ov : Value) (vs vs2 : List Value) (M M' : List (List Rg)) (O : List Int) (mir : List (Int × Int)) : Prop where
  rt : RtAt w.heap.size W w.heap.size v mp vs M' mir
  xt : XAt w.heap.size w.heap.size W mv ov vs2 M O
  apart : ∀ g, blkOf mv = some g → rowOf W w.heap.size ≠ some g
  below : Below w.heap.size w W
  x6 : W.heap[w.heap.size + 1]? = some (.cells #[mv, ov] 38 (0, 0))
theorem GS.turn (h : GS w W i v mp mv ov vs vs2 M O mir) (hf : RtF w.heap.size w.heap.size W W') (hr : RtAt w.heap.size W' w.heap.size v' mp' vs' M' mir') : GT w W' i v' mp' mv ov vs' vs2 M M' O mir' := by
  have hp := lt_some h.rt.h0
  refine ⟨hr, h.xt.rtf h.rt hf h.apart (Nat.le_refl _), fun g e e' => ?_, h.below.trans hf.below, hf.keep _ _ _ _ h.x6 (by decide) (by omega)⟩
  rcases hf.fresh hp g e' with q | q
  · exact h.apart g e q
  · have := (own_young h.xt.mrow g e).1; omega
theorem GT.step (h : GT w W i v mp mv ov vs vs2 M M' O mir) (hb : Below W.heap.size W W') : GT w W' i v mp mv ov vs vs2 M M' O mir := by
  have hs := lt_some h.x6
  exact ⟨h.rt.step hb, h.xt.step hb (by omega), fun g e => by rw [rowOf_same (hb.block _ (lt_some h.rt.h0))]; exact h.apart g e, h.below.trans (hb.mono (by omega)), by rw [hb.block _ (lt_some h.x6)]; exact h.x6⟩
/-- the reference's route is stored -/
theorem GT.store (h : GT w W i v mp mv ov vs vs2 M M' O mir) (h0 : XAt w.heap.size n1 W mv' ov' vs2' M' O') (hn : w.heap.size ≤ n1) (hg : ∀ g, blkOf mv' = some g → rowOf W w.heap.size ≠ some g) (hrel : Rel M' O' mir) (hm : ∀ m ∈ M', m.length ≤ 20 ∧ rightB m = true) (hl : M'.length ≤ i + 1) :
    GS w ((W.setCell ⟨w.heap.size + 1, 0, none⟩ mv').setCell ⟨w.heap.size + 1, 1, none⟩ ov') (i + 1) v mp mv' ov' vs vs2' M' O' mir :=
  ⟨h.rt.put2 h.x6 _ _, ⟨own_lower (h0.put2 h.x6 (by omega) _ _).mrow hn, (h0.put2 h.x6 (by omega) _ _).each, own_lower (h0.put2 h.x6 (by omega) _ _).orow hn⟩, fun g e => by rw [rowOf_put2 h.x6 h.rt]; exact hg g e, hrel, hm, hl, put2_below h.below (by omega) _ _, put2_at h.x6 _ _⟩
theorem row_young' (h : RtAt base W p v mp vs M mir) : ∀ g, rowOf W p = some g → g < W.heap.size := fun g e => by
  rw [rowOf_at h, own_blk h.row] at e; exact (own_young h.row g e).1
theorem row_low' {n₀ n : Nat} {W : World} {A : Option Addr} {l : List Rg} (h : RLow n₀ W A n l) (hs : n₀ ≤ W.heap.size) : RRow W A n l := by
  refine ⟨h.1, fun hn => ?_⟩
  obtain ⟨b, off, e, hl, hc⟩ := h.2 hn
  exact ⟨b, off, e, by omega, fun j hj => by rw [← rg_at l j hj]; exact hc j (by rw [← h.1]; exact hj)⟩
end
end Go.Proofs.Ytmhngehpddfccaa.Rt
