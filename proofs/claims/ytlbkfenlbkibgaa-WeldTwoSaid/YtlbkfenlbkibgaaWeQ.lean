/- Welding: pieces with their rows, in memory. -/
import Derived.Test.YtlbkfenlbkibgaaWeM
import Derived.Test.YtlbkfenlbkibgaaWeJ
import Derived.Test.YtlbkfenlbkibgaaWeW
set_option linter.unusedVariables false
namespace Go.Proofs.Ytlbkfenlbkibgaa.St
open Go.RowKit Mem Sm Tk Rt
structure PcOk (n0 : Nat) (W : World) (p : Pi.Pt) (t : Tr) : Prop where
 x : p.x = t.x
 n : p.n = t.L.length
 m : p.m = t.S.length
 l : Tks n0 W (.slice p.A p.n p.c) t.L
 s : Mks n0 W (.slice p.B p.m p.d) t.S
 b : p.b = shapeB t.x t.L.length t.S.length
def ownA (p : Pi.Pt) : Option Nat := (Value.slice p.A p.n p.c).ownBlock
theorem PcOk.below {n0 : Nat} {W W' : World} {p : Pi.Pt} {t : Tr} (h : PcOk n0 W p t) (hb : Below W.heap.size W W') : PcOk n0 W' p t :=
 ⟨h.x, h.n, h.m, h.l.belowAll hb, h.s.belowAll hb, h.b⟩
theorem tk_block {n0 : Nat} {W : World} {v : Value} {L : List Tk.Tk} (h : Tks n0 W v L) {g : Nat} (hg : v.ownBlock = some g) : ∃ cs fr, W.heap[g]? = some (.cells cs 101 fr) := (h.block g hg).2.2
theorem mk_block {n0 : Nat} {W : World} {v : Value} {L : List Mk} (h : Mks n0 W v L) {g : Nat} (hg : v.ownBlock = some g) : ∃ cs fr, W.heap[g]? = some (.cells cs 99 fr) := (h.block g hg).2.2
theorem pi_block {n0 : Nat} {W : World} {v : Value} {L : List Pi.Pt} (h : Pi.Pts n0 W v L) {g : Nat} (hg : v.ownBlock = some g) : ∃ cs fr, W.heap[g]? = some (.cells cs 103 fr) := (h.block g hg).2.2
theorem PcOk.grown {n0 : Nat} {W W' : World} {p : Pi.Pt} {t : Tr} {q : Nat} (h : PcOk n0 W p t) (hg : W.grownBy W' (some q)) (h1 : ownA p ≠ some q) (h2 : ∃ cs ty fr, W.heap[q]? = some (.cells cs ty fr) ∧ ty ≠ 99) : PcOk n0 W' p t := by
 refine ⟨h.x, h.n, h.m, h.l.grown hg (fun g e e2 => h1 (by unfold ownA; rw [e]; exact e2)), h.s.grown hg (fun g e e2 => ?_), h.b⟩
 cases e2
 obtain ⟨cs, fr, e3⟩ := mk_block h.s e
 obtain ⟨cs', ty, fr', e4, e5⟩ := h2
 rw [e3] at e4
 injection e4 with e4
 injection e4 with _ e6 _
 exact e5 e6.symm
structure PInv (n0 : Nat) (W : World) (pv : Value) (ps : List Pi.Pt) (acc : List Tr) : Prop where
 row : Pi.Pts n0 W pv ps
 len : ps.length = acc.length
 ok : ∀ j (h : j < ps.length) (h' : j < acc.length), PcOk n0 W ps[j] acc[j]
 apart : ∀ j j' (h : j < ps.length) (h' : j' < ps.length), j ≠ j' → ∀ g, ownA ps[j] = some g → ownA ps[j'] ≠ some g
theorem PInv.nil {n0 : Nat} {W : World} : PInv n0 W (.slice none 0 0) [] [] := ⟨Pi.Pts.nil, rfl, fun j h => by simp at h, fun j j' h => by simp at h⟩
theorem PInv.below {n0 : Nat} {W W' : World} {pv : Value} {ps : List Pi.Pt} {acc : List Tr} (h : PInv n0 W pv ps acc) (hb : Below W.heap.size W W') : PInv n0 W' pv ps acc :=
 ⟨h.row.belowAll hb, h.len, fun j a b => (h.ok j a b).below hb, h.apart⟩
theorem PInv.other {n0 : Nat} {W W' : World} {pv : Value} {ps : List Pi.Pt} {acc : List Tr} {q : Nat} {cs : Array Value} {fr : Nat × Nat} (h : PInv n0 W pv ps acc) (hg : W.grownBy W' (some q)) (hq : W.heap[q]? = some (.cells cs 103 fr)) (hne : pv.ownBlock ≠ some q) : PInv n0 W' pv ps acc := by
 refine ⟨h.row.grown hg (fun g e e2 => hne (by rw [e]; exact e2)), h.len, fun j a b => (h.ok j a b).grown hg ?_ ⟨_, _, _, hq, by decide⟩, h.apart⟩
 intro e
 obtain ⟨cs', fr', e3⟩ := tk_block (h.ok j a b).l e
 rw [hq] at e3
 injection e3 with e3
 injection e3 with _ e6 _
 exact absurd e6 (by decide)
theorem PInv.more {n0 : Nat} {W W' : World} {pv pv' : Value} {ps : List Pi.Pt} {acc : List Tr} {p : Pi.Pt} {t : Tr} (h : PInv n0 W pv ps acc) (hp : PcOk n0 W p t) (hnew : ∀ g, ownA p = some g → ∀ j (hj : j < ps.length), ownA ps[j] ≠ some g) (hr : Pi.Pts n0 W' pv' (ps ++ [p])) (hg : W.grownBy W' pv.ownBlock) : PInv n0 W' pv' (ps ++ [p]) (acc ++ [t]) := by
 have keep : ∀ p t, PcOk n0 W p t → PcOk n0 W' p t := fun p t hp => by
  cases ho : pv.ownBlock with
  | none => rw [ho] at hg; exact hp.below (below_grown hg)
  | some q =>
   rw [ho] at hg
   obtain ⟨cs, fr, e⟩ := pi_block h.row ho
   refine hp.grown hg (fun e2 => ?_) ⟨_, _, _, e, by decide⟩
   obtain ⟨cs', fr', e3⟩ := tk_block hp.l e2
   rw [e] at e3
   injection e3 with e3
   injection e3 with _ e6 _
   exact absurd e6 (by decide)
 refine ⟨hr, by simp [h.len], fun j a b => ?_, fun j j' a b hjj g e => ?_⟩
 ·by_cases hj : j < ps.length
  ·rw [List.getElem_append_left hj, List.getElem_append_left (by rw [← h.len]; exact hj)]
   exact keep _ _ (h.ok j hj (by rw [← h.len]; exact hj))
  ·have hje : j = ps.length := by simp at a; omega
   subst hje
   have e1 : (ps ++ [p])[ps.length] = p := by simp
   have e2 : (acc ++ [t])[ps.length]'b = t := by simp [h.len]
   rw [e1, e2]
   exact keep _ _ hp
 ·by_cases hj : j < ps.length
  ·rw [List.getElem_append_left hj] at e
   by_cases hj' : j' < ps.length
   ·rw [List.getElem_append_left hj']
    exact h.apart j j' hj hj' hjj g e
   ·have hje : j' = ps.length := by simp at b; omega
    subst hje
    have e1 : (ps ++ [p])[ps.length] = p := by simp
    rw [e1]
    intro e2
    exact hnew g e2 j hj e
  ·have hje : j = ps.length := by simp at a; omega
   subst hje
   have e1 : (ps ++ [p])[ps.length] = p := by simp
   rw [e1] at e
   have hj' : j' < ps.length := by simp at b; omega
   rw [List.getElem_append_left hj']
   exact hnew g e j' hj'
structure PJoin (n0 : Nat) (W : World) (pv : Value) (ps : List Pi.Pt) (p p' : Pi.Pt) (acc : List Tr) (t' : Tr) : Prop where
 row : Pi.Pts n0 W pv (ps ++ [p])
 len : ps.length = acc.length
 ok : ∀ j (h : j < ps.length) (h' : j < acc.length), PcOk n0 W ps[j] acc[j]
 new : PcOk n0 W p' t'
 apart : ∀ j j' (h : j < ps.length) (h' : j' < ps.length), j ≠ j' → ∀ g, ownA ps[j] = some g → ownA ps[j'] ≠ some g
 apart' : ∀ j (h : j < ps.length), ∀ g, ownA ps[j] = some g → ownA p' ≠ some g
theorem PInv.join {n0 : Nat} {W W' : World} {pv : Value} {ps : List Pi.Pt} {acc : List Tr} {p p' : Pi.Pt} {t t' : Tr} (h : PInv n0 W pv (ps ++ [p]) (acc ++ [t])) (hg : W.grownBy W' (ownA p)) (hp : PcOk n0 W' p' t') (ho : ∀ g, ownA p' = some g → ownA p = some g ∨ W.heap.size ≤ g) : PJoin n0 W' pv ps p p' acc t' := by
 have hlen : ps.length = acc.length := by have := h.len; simpa using this
 have hlast : PcOk n0 W p t := by
  have := h.ok ps.length (by simp) (by simp [hlen])
  have e1 : (ps ++ [p])[ps.length]'(by simp) = p := by simp
  have e2 : (acc ++ [t])[ps.length]'(by simp [hlen]) = t := by simp [hlen]
  rwa [e1, e2] at this
 have hap : ∀ j (hj : j < ps.length) g, ownA ps[j] = some g → ownA p ≠ some g := fun j hj g e => by
  have := h.apart j ps.length (by simp; omega) (by simp) (by omega) g (by rw [List.getElem_append_left hj]; exact e)
  have e1 : (ps ++ [p])[ps.length]'(by simp) = p := by simp
  rwa [e1] at this
 have hokj : ∀ j (hj : j < ps.length) (hj' : j < acc.length), PcOk n0 W ps[j] acc[j] := fun j hj hj' => by
  have := h.ok j (by simp; omega) (by simp; omega)
  rwa [List.getElem_append_left hj, List.getElem_append_left hj'] at this
 refine ⟨?_, hlen, fun j a b => ?_, hp, fun j j' a b hjj g e => ?_, fun j a g e e2 => ?_⟩
 ·refine h.row.grown hg (fun g e e2 => ?_)
  obtain ⟨cs, fr, e3⟩ := pi_block h.row e
  obtain ⟨cs', fr', e4⟩ := tk_block hlast.l (show (Value.slice p.A p.n p.c).ownBlock = some g from e2.symm)
  rw [e3] at e4
  injection e4 with e4
  injection e4 with _ e6 _
  exact absurd e6 (by decide)
 ·cases hq : ownA p with
  | none => rw [hq] at hg; exact (hokj j a b).below (below_grown hg)
  | some q =>
   rw [hq] at hg
   obtain ⟨cs', fr', e4⟩ := tk_block hlast.l hq
   exact (hokj j a b).grown hg (fun e => hap j a q e hq) ⟨_, _, _, e4, by decide⟩
 ·have := h.apart j j' (by simp; omega) (by simp; omega) hjj g (by rw [List.getElem_append_left a]; exact e)
  rwa [List.getElem_append_left b] at this
 ·rcases ho g e2 with h1 | h1
  ·exact hap j a g e h1
  ·have := ((hokj j a (by omega)).l.block g e).2.1
   omega
theorem PJoin.below {n0 : Nat} {W W' : World} {pv : Value} {ps : List Pi.Pt} {acc : List Tr} {p p' : Pi.Pt} {t' : Tr} (h : PJoin n0 W pv ps p p' acc t') (hb : Below W.heap.size W W') : PJoin n0 W' pv ps p p' acc t' :=
 ⟨h.row.belowAll hb, h.len, fun j a b => (h.ok j a b).below hb, h.new.below hb, h.apart, h.apart'⟩
theorem PJoin.other {n0 : Nat} {W W' : World} {pv : Value} {ps : List Pi.Pt} {acc : List Tr} {p p' : Pi.Pt} {t' : Tr} {q : Nat} {cs : Array Value} {fr : Nat × Nat} (h : PJoin n0 W pv ps p p' acc t') (hg : W.grownBy W' (some q)) (hq : W.heap[q]? = some (.cells cs 103 fr)) (hne : pv.ownBlock ≠ some q) : PJoin n0 W' pv ps p p' acc t' := by
 have key : ∀ p t, PcOk n0 W p t → PcOk n0 W' p t := fun p t hp => by
  refine hp.grown hg (fun e => ?_) ⟨_, _, _, hq, by decide⟩
  obtain ⟨cs', fr', e3⟩ := tk_block hp.l e
  rw [hq] at e3
  injection e3 with e3
  injection e3 with _ e6 _
  exact absurd e6 (by decide)
 exact ⟨h.row.grown hg (fun g e e2 => hne (by rw [e]; exact e2)), h.len, fun j a b => key _ _ (h.ok j a b), key _ _ h.new, h.apart, h.apart'⟩
end Go.Proofs.Ytlbkfenlbkibgaa.St
