/- Steps: By, Through. -/
import Derived.Test.YtlbkfenlbkibgaaStT
import Derived.Test.YtlbkfenlbkibgaaStL
import Derived.Test.YtlbkfenlbkibgaaRtMath
import Derived.Test.YtlbkfenlbkibgaaWeU
set_option linter.unusedVariables false
namespace Go.Proofs.Ytlbkfenlbkibgaa.St
open Go.RowKit Mem Sm Tk Rt
set_option linter.unusedSimpArgs false
end Go.Proofs.Ytlbkfenlbkibgaa.St
namespace Go.Proofs.Ytlbkfenlbkibgaa.Rt
open Go.RowKit Mem Sm
end Go.Proofs.Ytlbkfenlbkibgaa.Rt
namespace Go.Proofs.Ytlbkfenlbkibgaa.Rt
open Go.RowKit Mem Sm
end Go.Proofs.Ytlbkfenlbkibgaa.Rt
namespace Go.Proofs.Ytlbkfenlbkibgaa.Rt
open Go.RowKit Mem Sm
end Go.Proofs.Ytlbkfenlbkibgaa.Rt
namespace Go.Proofs.Ytlbkfenlbkibgaa.Rt
open Go.ChangeShapes Go.WideShapes Go.Deep Go.RowKit Mem Sm
structure Mi where
 m : List Rg
 of : Int
def mi (l : List Mi) (i : Nat) : Mi := l.getD i ⟨[], 0⟩
def MAt (n₀ : Nat) (W : World) (b off : Nat) (x : Mi) : Prop := ∃ A c, W.cell? ⟨b, off, none⟩ = some (.slice A x.m.length c) ∧ W.cell? ⟨b, off + 1, none⟩ = some (.int .i64 x.of) ∧ RLow n₀ W A x.m.length x.m
def MLow (n₀ : Nat) (W : World) (A : Option Addr) (n : Nat) (l : List Mi) : Prop := n = l.length ∧ (0 < n → ∃ b off, A = some ⟨b, off, none⟩ ∧ b < n₀ ∧ ∀ i, i < n → MAt n₀ W b (off + i * 2) (mi l i))
section
variable {n₀ k n b off : Nat} {W W' : World} {A : Option Addr} {l : List Mi} {x : Mi}
theorem MAt.below (h : MAt n₀ W b off x) (hb : Below k W W') (hk : n₀ ≤ k) (hl : b < k) : MAt n₀ W' b off x := by
 obtain ⟨A, c, h0, h1, h2⟩ := h
 refine ⟨A, c, ?_, ?_, h2.below hb hk⟩
 ·simp only [World.cell?, hb.block b hl] at h0 ⊢; exact h0
 ·simp only [World.cell?, hb.block b hl] at h1 ⊢; exact h1
theorem MLow.below (h : MLow n₀ W A n l) (hb : Below k W W') (hk : n₀ ≤ k) : MLow n₀ W' A n l :=
 ⟨h.1, fun hn => by
  obtain ⟨b, off, e, hl, hc⟩ := h.2 hn
  exact ⟨b, off, e, hl, fun i hi => (hc i hi).below hb hk (by omega)⟩⟩
end
end Go.Proofs.Ytlbkfenlbkibgaa.Rt
namespace Go.Proofs.Ytlbkfenlbkibgaa.Rt
open Go.RowKit Mem Sm
def LowV (n₀ : Nat) (W : World) (u : Value) (m : List Rg) : Prop := ∃ A c, u = .slice A m.length c ∧ RLow n₀ W A m.length m
def ints (O : List Int) : List Value := O.map (Value.int .i64)
structure XAt (n₀ base : Nat) (W : World) (mv ov : Value) (vs : List Value) (M : List (List Rg)) (O : List Int) : Prop where
 mrow : W.ownsRow base 39 1 mv M.length vs
 each : ∀ (i : Nat) (u : Value) (m : List Rg), vs[i]? = some u → M[i]? = some m → LowV n₀ W u m
 orow : W.ownsRow base 3 1 ov O.length (ints O)
section
variable {n₀ base p : Nat} {W W' : World} {mv ov : Value} {vs : List Value} {M : List (List Rg)} {O : List Int}
theorem LowV.keep {u : Value} {m : List Rg} {k : Nat} (h : LowV n₀ W u m) (hb : Below k W W') (hk : n₀ ≤ k) : LowV n₀ W' u m := by
 obtain ⟨A, c, e, hr⟩ := h; exact ⟨A, c, e, hr.below hb hk⟩
theorem XAt.len (h : XAt n₀ base W mv ov vs M O) : vs.length = M.length := by have := h.mrow.1; simpa using this
theorem XAt.step (h : XAt n₀ base W mv ov vs M O) (hb : Below W.heap.size W W') (hn : n₀ ≤ W.heap.size) : XAt n₀ base W' mv ov vs M O :=
 ⟨own_keep h.mrow (grown_below hb) (fun g e => by cases e), fun i u m h1 h2 => (h.each i u m h1 h2).keep hb hn, own_keep h.orow (grown_below hb) (fun g e => by cases e)⟩
theorem XAt.nil (n₀ base : Nat) (W : World) : XAt n₀ base W (.slice none 0 0) (.slice none 0 0) [] [] [] :=
 ⟨World.ownsRow_nil _ _ _ _, fun i u m h => by simp at h, World.ownsRow_nil _ _ _ _⟩
end
def addO (O : List Int) (of : Int) (n : Nat) : List Int := if 0 ≤ of then (O ++ [of]).set of.toNat n else O ++ [of]
def AddR (X n1 : Nat) (mv ov : Value) (vs : List Value) (nM : Nat) (O : List Int) (av : Value) (of : Int) : Nat → (Nat → Value) → World → Prop
 | 0, x, W => W.ownsRow n1 39 1 (x 0) 0 []
 | 1, x, W => x 1 = .pointer (some ⟨X, 0, none⟩)
 | 2, x, W => x 2 = mv
 | 3, x, W => W.ownsRow n1 39 1 (x 3) nM vs
 | 4, x, W => x 4 = av
 | 5, x, W => ∃ g, x 5 = .slice (some ⟨g, 0, none⟩) 1 1 ∧ n1 ≤ g ∧ g < W.heap.size ∧ W.cell? ⟨g, 0, none⟩ = some av
 | 6, x, W => W.ownsRow n1 39 1 (x 6) (nM + 1) (vs ++ [av])
 | 7, x, W => W.ownsRow n1 3 1 (x 7) 0 []
 | 8, x, W => x 8 = .pointer (some ⟨X, 1, none⟩)
 | 9, x, W => x 9 = ov
 | 10, x, W => W.ownsRow n1 3 1 (x 10) O.length (ints O)
 | 11, x, W => x 11 = .int .i64 of
 | 12, x, W => ∃ g, x 12 = .slice (some ⟨g, 0, none⟩) 1 1 ∧ n1 ≤ g ∧ g < W.heap.size ∧ W.cell? ⟨g, 0, none⟩ = some (.int .i64 of)
 | 13, x, W => W.ownsRow n1 3 1 (x 13) (O.length + 1) (ints O ++ [.int .i64 of])
 | 14, x, W => x 14 = .agg #[x 6, x 13]
 | 15, x, W => ∃ B, x 15 = .pointer (some ⟨B, 0, none⟩) ∧ n1 ≤ B ∧ W.heap[B]? = some (.cells #[.slice none 0 0, .slice none 0 0] 38 (0, 0))
 | _, x, W => False
def addBk : Nat → Value → Option Nat
 | 1, _ => none
 | 2, _ => none
 | 4, _ => none
 | 8, _ => none
 | 9, _ => none
 | 11, _ => none
 | 14, _ => none
 | _, v => blkOf v
section
variable {X n1 : Nat} {mv ov : Value} {vs : List Value} {nM : Nat} {O : List Int} {av : Value} {of : Int}
theorem cell_keep {W W' : World} {t : Option Nat} {g o : Nat} {u : Value} (hg : W.grownBy W' t) (hl : g < W.heap.size) (ht : ∀ k, t = some k → some g ≠ some k) (h : W.cell? ⟨g, o, none⟩ = some u) : W'.cell? ⟨g, o, none⟩ = some u := by
 have := hg.block g hl (fun e => ht g e.symm rfl)
 simp only [World.cell?, this] at h ⊢; exact h
theorem AddR.keep {j : Nat} {x : Nat → Value} {W W' : World} {t : Option Nat} (h : AddR X n1 mv ov vs nM O av of j x W) (hg : W.grownBy W' t) (ht : ∀ g, t = some g → n1 ≤ g ∧ addBk j (x j) ≠ some g) (hn : n1 ≤ W.heap.size) : AddR X n1 mv ov vs nM O av of j x W' := by
 have hs := hg.size
 unfold AddR at h ⊢
 split at h
 case h_1 | h_4 | h_7 | h_8 | h_11 | h_14 => exact own_keep h hg (fun g e => (ht g e).2)
 case h_2 | h_3 | h_5 | h_9 | h_10 | h_12 | h_15 | h_17 => exact h
 case h_6 | h_13 =>
  obtain ⟨g, e, h1, h2, h3⟩ := h
  exact ⟨g, e, h1, by omega, cell_keep hg h2 (fun k ek e' => (ht k ek).2 (by rw [e]; exact e')) h3⟩
 case h_16 =>
  obtain ⟨B, e, h1, h2⟩ := h
  exact ⟨B, e, h1, by rw [hg.block B (Array.getElem?_eq_some_iff.1 h2).1 (fun e' => (ht B e'.symm).2 (by rw [e]; rfl))]; exact h2⟩
end
theorem two {B : Nat} {W : World} {x0 x1 : Value} {t : TypeId} (e : W.heap[B]? = some (.cells #[x0, x1] t (0, 0))) : W.cell? ⟨B, 0, none⟩ = some x0 ∧ W.cell? ⟨B, 1, none⟩ = some x1 ∧ W.frozen? ⟨B, 0, none⟩ = false ∧ W.frozen? ⟨B, 1, none⟩ = false := by
 refine ⟨?_, ?_, ?_, ?_⟩
 ·simp [World.cell?, e]
 ·simp [World.cell?, e]
 ·simp [World.frozen?, e]
 ·simp [World.frozen?, e]
end Go.Proofs.Ytlbkfenlbkibgaa.Rt
namespace Go.Proofs.Ytlbkfenlbkibgaa.Rt
open Go.RowKit Mem Sm
theorem own_at {w : World} {base n : Nat} {e : TypeId} {v : Value} {us : List Value} (h : w.ownsRow base e 1 v n us) {j : Nat} {u : Value} (hu : us[j]? = some u) : ∃ g c, v = .slice (some ⟨g, 0, none⟩) n c ∧ g < w.heap.size ∧ base ≤ g ∧ w.cell? ⟨g, j, none⟩ = some u := by
 obtain ⟨A, c, rfl, hc, hv, hs⟩ := own_form h
 have hj : j < n := by rw [← hv.1]; exact (List.getElem?_eq_some_iff.1 hu).1
 obtain ⟨b, off, e, hb, hcc⟩ := hv.2 (by omega)
 subst e
 obtain ⟨_, h0⟩ := hs _ rfl
 simp only at h0
 subst h0
 exact ⟨b, c, rfl, hb, (own_young h b rfl).2, by have := hcc j u hu; rwa [Nat.zero_add] at this⟩
theorem ints_at {O : List Int} {k : Nat} (h : k < O.length) : (ints O)[k]? = some (.int .i64 (O.getD k 0)) := by
 simp [ints, h, List.getD]
end Go.Proofs.Ytlbkfenlbkibgaa.Rt
namespace Go.Proofs.Ytlbkfenlbkibgaa.Rt
open Go.RowKit Mem Sm
structure Rel (M : List (List Rg)) (O : List Int) (mir : List (Int × Int)) : Prop where
 len : O.length = M.length
 at_ : ∀ i : Nat, i < M.length → O.getD i 0 = (lk mir i).getD (-1)
 bound : ∀ q ∈ mir, (0 ≤ q.1 ∧ q.1 < M.length) ∧ 0 ≤ q.2 ∧ q.2 < M.length
 other : ∀ i j : Int, lk mir i = some j → j ≠ i
section
variable {M : List (List Rg)} {O : List Int} {mir : List (Int × Int)} {m : List Rg}
theorem lk_out (h : Rel M O mir) {i : Int} (hi : i < 0 ∨ M.length ≤ i) : lk mir i = none := by
 cases hl : lk mir i with
 | none => rfl
 | some j => have := (h.bound _ (lk_some hl)).1; simp only at this; omega
theorem Rel.nil : Rel [] [] [] := ⟨rfl, fun i h => absurd h (by simp), fun q h => by simp at h, fun i j h => by simp [lk] at h⟩
theorem Rel.add (h : Rel M O mir) : Rel (M ++ [m]) (addO O (-1) M.length) mir := by
 have e : addO O (-1) M.length = O ++ [-1] := by unfold addO; rw [if_neg (by decide)]
 rw [e]
 refine ⟨by simp [h.len], fun i hi => ?_, fun q hq => ?_, h.other⟩
 ·rw [List.length_append] at hi
  simp only [List.length_cons, List.length_nil] at hi
  by_cases g : i < M.length
  ·rw [show (O ++ [(-1 : Int)]).getD i 0 = O.getD i 0 by simp [List.getD, List.getElem?_append_left (show i < O.length by rw [h.len]; exact g)]]
   exact h.at_ i g
  ·obtain rfl : i = M.length := by omega
   rw [lk_out h (.inr (by omega))]
   simp [List.getD, ← h.len]
 ·have := h.bound q hq
  rw [List.length_append]
  simp only [List.length_cons, List.length_nil]
  omega
end
section
variable {n₀ base p B : Nat} {W W' : World} {v mp mv ov : Value} {vs vs' : List Value} {M : List (List Rg)} {O : List Int} {mir : List (Int × Int)} {cs : Array Value} {fr : Nat × Nat}
end
end Go.Proofs.Ytlbkfenlbkibgaa.Rt
