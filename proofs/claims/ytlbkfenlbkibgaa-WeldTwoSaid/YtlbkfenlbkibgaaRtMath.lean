/- Routes in memory: a block of the maps' list and the mirrors' map. -/
import Derived.Test.YtlbkfenlbkibgaaRtA
import Derived.Deep.RegionHeld
import Derived.Deep.RegionHeld3
import Derived.MapKept
import Derived.OwnWalk
import Derived.Test.YtlbkfenlbkibgaaSmMath
set_option linter.unusedVariables false
namespace Go.Proofs.Ytlbkfenlbkibgaa.Rt
open Go.RowKit Mem Sm
def SlAt (W : World) (v : Value) (l : List Rg) : Prop := ∃ A c, v = .slice A l.length c ∧ RRow W A l.length l ∧ (0 < l.length → ∃ b o cs fr, A = some ⟨b, o, none⟩ ∧ W.heap[b]? = some (.cells cs 78 fr))
def Sls (W : World) (vs : List Value) (M : List (List Rg)) : Prop := vs.length = M.length ∧ ∀ (i : Nat) (v : Value) (l : List Rg), vs[i]? = some v → M[i]? = some l → SlAt W v l
def entOf (i : Nat) : List (Int × Int) → List MapEntry
 | [] => []
 | q :: r => { key := .int .i64 q.1, val := .int .i64 q.2, born := i } :: entOf (i + 1) r
def MpAt (base : Nat) (W : World) (mp : Value) (mir : List (Int × Int)) : Prop :=
 (mp = .map none ∧ mir = []) ∨ ∃ B, mp = .map (some B) ∧ base ≤ B ∧ W.heap[B]? = some (.map (entOf 0 mir).toArray mir.length)
structure RtAt (base : Nat) (W : World) (p : Nat) (v mp : Value) (vs : List Value) (M : List (List Rg)) (mir : List (Int × Int)) : Prop where
 hp : base ≤ p
 h0 : W.heap[p]? = some (.cells #[v, mp] 35 (0, 0))
 row : W.ownsRow base 39 1 v M.length vs
 sls : Sls W vs M
 mps : MpAt base W mp mir
def rowOf (W : World) (p : Nat) : Option Nat := (W.cell? ⟨p, 0, none⟩).bind Value.ownBlock
structure RtF (base p : Nat) (W W' : World) : Prop where
 os : W'.os = W.os
 tape : W'.tape = W.tape
 output : W'.output = W.output
 size : W.heap.size ≤ W'.heap.size
 low : ∀ k, k < base → W'.heap[k]? = W.heap[k]?
 keep : ∀ (k : Nat) (cs : Array Value) (t : TypeId) (fr : Nat × Nat), W.heap[k]? = some (.cells cs t fr) → t ≠ 39 → k ≠ p → W'.heap[k]? = some (.cells cs t fr)
 keepS : p < W.heap.size → ∀ (k : Nat) (cs : Array Value) (fr : Nat × Nat), W.heap[k]? = some (.cells cs 39 fr) → k ≠ p → some k ≠ rowOf W p → W'.heap[k]? = some (.cells cs 39 fr)
 fresh : p < W.heap.size → ∀ g, rowOf W' p = some g → rowOf W p = some g ∨ W.heap.size ≤ g
section
variable {base p : Nat} {W W' W'' : World} {v mp u : Value} {vs : List Value} {M : List (List Rg)} {mir : List (Int × Int)} {l : List Rg}
theorem SlAt.keep (h : SlAt W u l) (hs : W.heap.size ≤ W'.heap.size) (hk : ∀ (k : Nat) (cs : Array Value) (fr : Nat × Nat), W.heap[k]? = some (.cells cs 78 fr) → W'.heap[k]? = some (.cells cs 78 fr)) : SlAt W' u l := by
 obtain ⟨A, c, e, hr, hb⟩ := h
 refine ⟨A, c, e, ⟨hr.1, fun hn => ?_⟩, fun hn => ?_⟩
 ·obtain ⟨b, o, cs, fr, e1, hh⟩ := hb hn
  obtain ⟨b', o', e2, hl, hc⟩ := hr.2 hn
  rw [e1] at e2
  injection e2 with e2
  injection e2 with e3 e4
  subst e3; subst e4
  refine ⟨b, o, e1, Nat.lt_of_lt_of_le hl hs, fun j hj => (hc j hj).keep fun q => ?_⟩
  simp only [World.cell?, hh, hk _ _ _ hh]
 ·obtain ⟨b, o, cs, fr, e1, hh⟩ := hb hn
  exact ⟨b, o, cs, fr, e1, hk _ _ _ hh⟩
theorem SlAt.below (h : SlAt W u l) (hb : Below W.heap.size W W') : SlAt W' u l := h.keep hb.size fun k cs fr e => by rw [hb.block _ (lt_some e)]; exact e
theorem Sls.keep (h : Sls W vs M) (hs : W.heap.size ≤ W'.heap.size) (hk : ∀ (k : Nat) (cs : Array Value) (fr : Nat × Nat), W.heap[k]? = some (.cells cs 78 fr) → W'.heap[k]? = some (.cells cs 78 fr)) : Sls W' vs M :=
 ⟨h.1, fun i v l h1 h2 => (h.2 i v l h1 h2).keep hs hk⟩
theorem RtAt.step (h : RtAt base W p v mp vs M mir) (hb : Below W.heap.size W W') : RtAt base W' p v mp vs M mir := by
 refine ⟨h.hp, by rw [hb.block _ (lt_some h.h0)]; exact h.h0, ?_, h.sls.keep hb.size fun k cs fr e => by rw [hb.block _ (lt_some e)]; exact e, ?_⟩
 ·refine ⟨h.row.1, ?_⟩
  rcases h.row.2 with hn | ⟨g, cap, cur, hv, h1, h2, r⟩
  ·exact .inl hn
  ·exact .inr ⟨g, cap, cur, hv, h1, by rw [hb.block _ (lt_some h2)]; exact h2, r⟩
 ·rcases h.mps with hn | ⟨B, e1, e2, e3⟩
  ·exact .inl hn
  ·exact .inr ⟨B, e1, e2, by rw [hb.block _ (lt_some e3)]; exact e3⟩
theorem RtAt.new (w : World) : RtAt w.heap.size (w.alloc (.cells #[.slice none 0 0, .map none] 35)) w.heap.size (.slice none 0 0) (.map none) [] [] [] :=
 ⟨Nat.le_refl _, heap_alloc_new w _, World.ownsRow_nil _ _ _ _, ⟨rfl, fun i v l h => by simp at h⟩, .inl ⟨rfl, rfl⟩⟩
theorem RtF.refl (base p : Nat) (W : World) : RtF base p W W := ⟨rfl, rfl, rfl, Nat.le_refl _, fun _ _ => rfl, fun _ _ _ _ h _ _ => h, fun _ _ _ _ h _ _ => h, fun _ _ h => .inl h⟩
theorem RtF.trans (h : RtF base p W W') (k : RtF base p W' W'') : RtF base p W W'' :=
 ⟨k.os.trans h.os, k.tape.trans h.tape, k.output.trans h.output, Nat.le_trans h.size k.size, fun i hi => (k.low i hi).trans (h.low i hi), fun i cs t fr e ht hp => k.keep i cs t fr (h.keep i cs t fr e ht hp) ht hp,
  fun hl i cs fr e hp hr => k.keepS (Nat.lt_of_lt_of_le hl h.size) i cs fr (h.keepS hl i cs fr e hp hr) hp (fun g => by
   rcases h.fresh hl i g.symm with g | g
   ·exact hr g.symm
   ·have := lt_some e; omega),
  fun hl g e => by
   rcases k.fresh (Nat.lt_of_lt_of_le hl h.size) g e with e | e
   ·exact h.fresh hl g e
   ·exact .inr (Nat.le_trans h.size e)⟩
theorem RtF.below (h : RtF base p W W') : Below base W W' := ⟨h.os, h.tape, h.output, h.size, h.low⟩
theorem RtAt.cells (h : RtAt base W p v mp vs M mir) : W.cell? ⟨p, 0, none⟩ = some v ∧ W.cell? ⟨p, 1, none⟩ = some mp ∧ W.frozen? ⟨p, 0, none⟩ = false ∧ W.frozen? ⟨p, 1, none⟩ = false := by
 refine ⟨?_, ?_, ?_, ?_⟩
 ·simp [World.cell?, h.h0]
 ·simp [World.cell?, h.h0]
 ·simp [World.frozen?, h.h0]
 ·simp [World.frozen?, h.h0]
end
end Go.Proofs.Ytlbkfenlbkibgaa.Rt
namespace Go.Proofs.Ytlbkfenlbkibgaa.Rt
open Go.RowKit Mem Sm
section
variable {base p : Nat} {W W' W'' : World} {v mp u v' : Value} {vs : List Value} {M : List (List Rg)} {mir : List (Int × Int)} {l : List Rg}
structure RtAt2 (base : Nat) (W : World) (p : Nat) (v v' mp : Value) (vs : List Value) (M : List (List Rg)) (mir : List (Int × Int)) : Prop where
 hp : base ≤ p
 h0 : W.heap[p]? = some (.cells #[v, mp] 35 (0, 0))
 row : W.ownsRow base 39 1 v' M.length vs
 sls : Sls W vs M
 mps : MpAt base W mp mir
theorem RtAt2.cells (h : RtAt2 base W p v v' mp vs M mir) : W.cell? ⟨p, 0, none⟩ = some v ∧ W.frozen? ⟨p, 0, none⟩ = false := by
 refine ⟨?_, ?_⟩
 ·simp [World.cell?, h.h0]
 ·simp [World.frozen?, h.h0]
end
end Go.Proofs.Ytlbkfenlbkibgaa.Rt
namespace Go.Proofs.Ytlbkfenlbkibgaa.Rt
open Go.RowKit Mem Sm
end Go.Proofs.Ytlbkfenlbkibgaa.Rt
namespace Go.Proofs.Ytlbkfenlbkibgaa.Rt
open Go.RowKit Mem Sm
def entB (l : List (Int × Int)) : Obj := .map (entOf 0 l).toArray l.length
section
variable {P : Program} {t k e : TypeId} {W : World} {B : Nat}
end
section
variable {base p B : Nat} {W : World} {v mp : Value} {vs : List Value} {M : List (List Rg)} {mir : List (Int × Int)}
theorem RtAt.block (h : RtAt base W p v (.map (some B)) vs M mir) : base ≤ B ∧ W.heap[B]? = some (entB mir) := by
 rcases h.mps with ⟨e, _⟩ | ⟨B', e, h1, h2⟩
 ·cases e
 ·injection e with e; injection e with e; subst e; exact ⟨h1, h2⟩
end
end Go.Proofs.Ytlbkfenlbkibgaa.Rt
namespace Go.Proofs.Ytlbkfenlbkibgaa.Rt
open Go.RowKit Mem Sm
end Go.Proofs.Ytlbkfenlbkibgaa.Rt
namespace Go.Proofs.Ytlbkfenlbkibgaa.Rt
open Go.RowKit Mem Sm
def lk : List (Int × Int) → Int → Option Int
 | [], _ => none
 | q :: r, a => if q.1 = a then some q.2 else lk r a
theorem lk_some {l : List (Int × Int)} {a b : Int} (h : lk l a = some b) : (a, b) ∈ l := by
 induction l with
 | nil => simp [lk] at h
 | cons z r ih =>
  simp only [lk] at h
  split at h
  ·rename_i e
   injection h with h
   obtain ⟨z1, z2⟩ := z
   simp only at e h
   subst e; subst h
   simp
  ·exact List.mem_cons_of_mem _ (ih h)
end Go.Proofs.Ytlbkfenlbkibgaa.Rt
namespace Go.Proofs.Ytlbkfenlbkibgaa.Rt
open Go.RowKit Mem Sm
theorem RtAt.nth {base p : Nat} {W : World} {v mp : Value} {vs : List Value} {M : List (List Rg)} {mir : List (Int × Int)} (h : RtAt base W p v mp vs M mir) {j : Nat} (hj : j < M.length) :
  ∃ g cap A c, v = .slice (some ⟨g, 0, none⟩) M.length cap ∧ M.length ≤ cap ∧ W.cell? ⟨g, j, none⟩ = some (.slice A (M[j]).length c) ∧ RRow W A (M[j]).length M[j] := by
 rcases h.row.2 with ⟨_, h0⟩ | ⟨g, cap, cur, hv, h1, h2, h3, h4, h5, h6⟩
 ·omega
 ·obtain ⟨u, hu⟩ : ∃ u, vs[j]? = some u := ⟨_, List.getElem?_eq_getElem (by rw [h.sls.1]; exact hj)⟩
  obtain ⟨A, c, e, hr, _⟩ := h.sls.2 j u M[j] hu (List.getElem?_eq_getElem hj)
  refine ⟨g, cap, A, c, hv, h3, ?_, hr⟩
  rw [← e]
  have : cur[j]? = some u := by
   rw [← hu, ← h6, List.getElem?_take_of_lt (by omega)]
   simp
  simp [World.cell?, h2, this]
theorem below_cell {W W' : World} (hb : Below W.heap.size W W') {a : Addr} {u : Value} (h : W.cell? a = some u) : W'.cell? a = some u := by
 have hl := World.block_lt_of_cell? W a h
 have hk := hb.block _ hl
 simp only [World.cell?, hk] at h ⊢
 exact h
noncomputable def recR (M : List (List Rg)) (mir : List (Int × Int)) (i : Int) (q : Pl) : Int × Int × Bool :=
 match lk mir i with
 | none => (0, 0, false)
 | some j => if q.gone = true ∧ i ≤ j then (recN (M.getD j.toNat []) q.rng q.off, j, recB (M.getD j.toNat []) q.rng q.off) else (0, 0, false)
end Go.Proofs.Ytlbkfenlbkibgaa.Rt
namespace Go.Proofs.Ytlbkfenlbkibgaa.Sm
end Go.Proofs.Ytlbkfenlbkibgaa.Sm
namespace Go.Proofs.Ytlbkfenlbkibgaa.Sm
def Way (M : List (List Rg)) (x side : Int) (P : Nat → Int) (k : Nat) : Prop :=
 P 0 = x ∧ ∀ j, j < k → (tell (M.getD j []) (P j) side).gone = false ∧ P (j + 1) = (tell (M.getD j []) (P j) side).pos
theorem Way.zero (M : List (List Rg)) (x side : Int) : Way M x side (fun _ => x) 0 := ⟨rfl, fun j h => absurd h (by omega)⟩
theorem Way.step {M : List (List Rg)} {x side : Int} {P : Nat → Int} {k : Nat} (h : Way M x side P k) (hg : (tell (M.getD k []) (P k) side).gone = false) :
  ∃ Q, Way M x side Q (k + 1) ∧ Q (k + 1) = (tell (M.getD k []) (P k) side).pos := by
 refine ⟨fun j => if j ≤ k then P j else (tell (M.getD k []) (P k) side).pos, ⟨?_, fun j hj => ?_⟩, ?_⟩
 ·simp only [Nat.zero_le, if_true]; exact h.1
 ·rcases Nat.lt_succ_iff_lt_or_eq.1 hj with h1 | rfl
  ·have := h.2 j h1
   simp only [show j ≤ k by omega, show j + 1 ≤ k by omega, if_true]
   exact this
  ·simp only [Nat.le_refl, if_true, show ¬ (j + 1 ≤ j) by omega, if_false]
   exact ⟨hg, trivial⟩
 ·simp only [show ¬ (k + 1 ≤ k) by omega, if_false]
end Go.Proofs.Ytlbkfenlbkibgaa.Sm
