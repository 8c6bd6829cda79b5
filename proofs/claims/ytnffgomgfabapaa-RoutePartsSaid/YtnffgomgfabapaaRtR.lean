/- Walks of the law of routes: fill, what it keeps. -/
import Derived.Test.YtnffgomgfabapaaRtQ
namespace Go.Proofs.Ytnffgomgfabapaa.Rt
open Go.RowKit Mem Sm
set_option linter.unusedVariables false

/-- the program's mirrors, and the reference's numbers -/
structure Rel (M : List (List Rg)) (O : List Int) (mir : List (Int × Int)) : Prop where
  len : O.length = M.length
  at_ : ∀ i : Nat, i < M.length → O.getD i 0 = (lk mir i).getD (-1)
  bound : ∀ q ∈ mir, (0 ≤ q.1 ∧ q.1 < M.length) ∧ 0 ≤ q.2 ∧ q.2 < M.length
  other : ∀ i j : Int, lk mir i = some j → j ≠ i
  sym : ∀ i j : Int, lk mir i = some j → lk mir j = some i
section
variable {M : List (List Rg)} {O : List Int} {mir : List (Int × Int)} {m : List Rg}
theorem lk_out (h : Rel M O mir) {i : Int} (hi : i < 0 ∨ M.length ≤ i) : lk mir i = none := by
  cases hl : lk mir i with
  | none => rfl
  | some j => have := (h.bound _ (lk_some hl)).1; simp only at this; omega
theorem Rel.nil : Rel [] [] [] := ⟨rfl, fun i h => absurd h (by simp), fun q h => by simp at h, fun i j h => by simp [lk] at h, fun i j h => by simp [lk] at h⟩
theorem Rel.free (h : Rel M O mir) (of : Int) : freeB M O of = true ↔ (lk mir of = none ∧ 0 ≤ of ∧ of < M.length) := by
  unfold freeB
  rw [decide_eq_true_iff]
  constructor
  · rintro ⟨h1, h2, h3⟩
    refine ⟨?_, h1, h2⟩
    have := h.at_ of.toNat (by omega)
    rw [show ((of.toNat : Nat) : Int) = of by omega] at this
    rw [this] at h3
    cases hl : lk mir of with
    | none => rfl
    | some j => rw [hl] at h3; have := (h.bound _ (lk_some hl)).2; simp only [Option.getD_some] at h3 this; omega
  · rintro ⟨h1, h2, h3⟩
    refine ⟨h2, h3, ?_⟩
    have := h.at_ of.toNat (by omega)
    rw [show ((of.toNat : Nat) : Int) = of by omega, h1] at this
    rw [this]; decide
theorem Rel.add (h : Rel M O mir) : Rel (M ++ [m]) (addO O (-1) M.length) mir := by
  have e : addO O (-1) M.length = O ++ [-1] := by unfold addO; rw [if_neg (by decide)]
  rw [e]
  refine ⟨by simp [h.len], fun i hi => ?_, fun q hq => ?_, h.other, h.sym⟩
  · rw [List.length_append] at hi
    simp only [List.length_cons, List.length_nil] at hi
    by_cases g : i < M.length
    · rw [show (O ++ [(-1 : Int)]).getD i 0 = O.getD i 0 by simp [List.getD, List.getElem?_append_left (show i < O.length by rw [h.len]; exact g)]]
      exact h.at_ i g
    · obtain rfl : i = M.length := by omega
      rw [lk_out h (.inr (by omega))]
      simp [List.getD, ← h.len]
  · have := h.bound q hq
    rw [List.length_append]
    simp only [List.length_cons, List.length_nil]
    omega
theorem Rel.mirror (h : Rel M O mir) {k : Nat} (hk : k < M.length) (hl : lk mir (k : Int) = none) : Rel (M ++ [m]) (addO O (k : Int) M.length) (mir ++ [((k : Int), (M.length : Int))] ++ [((M.length : Int), (k : Int))]) := by
  have e : addO O (k : Int) M.length = (O ++ [(k : Int)]).set k M.length := by unfold addO; rw [if_pos (by omega), Int.toNat_natCast]
  rw [e]
  have hL : ∀ i : Int, lk (mir ++ [((k : Int), (M.length : Int))] ++ [((M.length : Int), (k : Int))]) i = if i = k then some (M.length : Int) else if i = M.length then some (k : Int) else lk mir i := by
    intro i
    rw [lk_append, lk_append]
    simp only [lk]
    by_cases h1 : i = k
    · subst h1; simp [hl]
    · have h1' : ¬ (k : Int) = i := fun e => h1 e.symm
      by_cases h2 : i = M.length
      · subst h2; simp [h1', lk_out h (.inr (Int.le_refl _)), h1]
      · have h2' : ¬ (M.length : Int) = i := fun e => h2 e.symm
        simp [h1, h2, h1', h2']
  refine ⟨by simp [h.len], fun i hi => ?_, fun q hq => ?_, fun i j hij => ?_, fun i j hij => ?_⟩
  · rw [hL]
    rw [List.length_append] at hi
    simp only [List.length_cons, List.length_nil] at hi
    by_cases h1 : i = k
    · subst h1
      rw [if_pos rfl]
      simp [List.getD, h.len, show i < M.length + 1 by omega]
    · rw [if_neg (by omega)]
      have hne : ((O ++ [(k : Int)]).set k (M.length : Int)).getD i 0 = (O ++ [(k : Int)]).getD i 0 := by
        simp only [List.getD]; rw [List.getElem?_set_ne (Ne.symm h1)]
      rw [hne]
      by_cases h2 : i < M.length
      · rw [if_neg (by omega)]
        rw [show (O ++ [(k : Int)]).getD i 0 = O.getD i 0 by simp [List.getD, List.getElem?_append_left (show i < O.length by rw [h.len]; exact h2)]]
        exact h.at_ i h2
      · obtain rfl : i = M.length := by omega
        rw [if_pos rfl]
        simp [List.getD, ← h.len]
  · rw [List.length_append]
    simp only [List.length_cons, List.length_nil]
    simp only [List.mem_append, List.mem_singleton] at hq
    rcases hq with (hq | rfl) | rfl
    · have := h.bound q hq; omega
    · simp only; omega
    · simp only; omega
  · rw [hL] at hij
    by_cases h1 : i = k
    · rw [if_pos h1] at hij; injection hij with hij; omega
    · rw [if_neg h1] at hij
      by_cases h2 : i = M.length
      · rw [if_pos h2] at hij; injection hij with hij; omega
      · rw [if_neg h2] at hij; exact h.other i j hij
  · rw [hL] at hij ⊢
    by_cases h1 : i = k
    · rw [if_pos h1] at hij; injection hij with hij
      rw [if_neg (by omega), if_pos hij.symm, h1]
    · rw [if_neg h1] at hij
      by_cases h2 : i = M.length
      · rw [if_pos h2] at hij; injection hij with hij
        rw [if_pos hij.symm, h2]
      · rw [if_neg h2] at hij
        have hs := h.sym i j hij
        have hj : j ≠ k := fun e => by rw [e, hl] at hs; cases hs
        have hj2 : j ≠ M.length := fun e => by rw [e, lk_out h (.inr (Int.le_refl _))] at hs; cases hs
        rw [if_neg hj, if_neg hj2]; exact hs
end
section
variable {n₀ base p B : Nat} {W W' : World} {v mp mv ov : Value} {vs vs' : List Value} {M : List (List Rg)} {O : List Int} {mir : List (Int × Int)} {cs : Array Value} {fr : Nat × Nat}
theorem put2_else (W : World) (B k : Nat) (y0 y1 : Value) (h : k ≠ B) : ((W.setCell ⟨B, 0, none⟩ y0).setCell ⟨B, 1, none⟩ y1).heap[k]? = W.heap[k]? := by
  rw [Below.heap_setCell _ _ _ _ h, Below.heap_setCell _ _ _ _ h]
theorem put2_keep (hB : W.heap[B]? = some (.cells cs 44 fr)) (y0 y1 : Value) {k : Nat} {o : Obj} (h : W.heap[k]? = some o) (ht : ∀ cs fr, o ≠ .cells cs 44 fr) : ((W.setCell ⟨B, 0, none⟩ y0).setCell ⟨B, 1, none⟩ y1).heap[k]? = some o := by
  rw [put2_else _ _ _ _ _ (by rintro rfl; rw [h] at hB; injection hB with hB; exact ht _ _ hB)]; exact h
theorem RtAt.put2 (h : RtAt base W p v mp vs M mir) (hB : W.heap[B]? = some (.cells cs 44 fr)) (y0 y1 : Value) : RtAt base ((W.setCell ⟨B, 0, none⟩ y0).setCell ⟨B, 1, none⟩ y1) p v mp vs M mir := by
  refine ⟨h.hp, put2_keep hB y0 y1 h.h0 (fun _ _ => cells_ne (by decide)), own_put2 h.row hB (by decide) _ _, h.sls.keep (by simp [World.setCell]) (fun k cs fr e => put2_keep hB y0 y1 e (fun _ _ => cells_ne (by decide))), ?_⟩
  rcases h.mps with hn | ⟨B', e1, e2, e3⟩
  · exact .inl hn
  · exact .inr ⟨B', e1, e2, put2_keep hB y0 y1 e3 (fun _ _ e => by cases e)⟩
theorem XAt.put2 (h : XAt n₀ base W mv ov vs M O) (hB : W.heap[B]? = some (.cells cs 44 fr)) (hn : n₀ ≤ B) (y0 y1 : Value) : XAt n₀ base ((W.setCell ⟨B, 0, none⟩ y0).setCell ⟨B, 1, none⟩ y1) mv ov vs M O :=
  ⟨own_put2 h.mrow hB (by decide) _ _, fun i u m h1 h2 => (h.each i u m h1 h2).keep (put2_below (Below.refl _ _) hn _ _) (Nat.le_refl _), own_put2 h.orow hB (by decide) _ _⟩
theorem rowOf_put2 (hB : W.heap[B]? = some (.cells cs 44 fr)) (h : RtAt base W p v mp vs M mir) (y0 y1 : Value) : rowOf ((W.setCell ⟨B, 0, none⟩ y0).setCell ⟨B, 1, none⟩ y1) p = rowOf W p :=
  rowOf_same (put2_else _ _ _ _ _ (by rintro rfl; rw [h.h0] at hB; injection hB with hB; injection hB with _ e; exact absurd e (by decide)))
/-- what the program does to its route leaves the reference's as it is -/
theorem XAt.rtf (h : XAt n₀ base W mv ov vs M O) (hr : RtAt p W p v mp vs' M mir) (hf : RtF p p W W') (ha : ∀ g, blkOf mv = some g → rowOf W p ≠ some g) (hn : n₀ ≤ p) : XAt n₀ base W' mv ov vs M O := by
  have hp := lt_some hr.h0
  have hne : ∀ (k : Nat) (cs : Array Value) (t : TypeId) (fr : Nat × Nat), W.heap[k]? = some (.cells cs t fr) → t ≠ 60 → k ≠ p := fun k cs t fr e ht => by
    rintro rfl; rw [hr.h0] at e; injection e with e; injection e with _ e2; exact ht e2.symm
  refine ⟨⟨h.mrow.1, ?_⟩, fun i u m h1 h2 => (h.each i u m h1 h2).keep hf.below hn, ⟨h.orow.1, ?_⟩⟩
  · rcases h.mrow.2 with hn | ⟨g, cap, cur, rfl, hb, hg, r⟩
    · exact .inl hn
    · exact .inr ⟨g, cap, cur, rfl, hb, hf.keepS hp g cur (0, 0) hg (hne g _ _ _ hg (by decide)) (fun e => ha g rfl e.symm), r⟩
  · rcases h.orow.2 with hn | ⟨g, cap, cur, hv, hb, hg, r⟩
    · exact .inl hn
    · exact .inr ⟨g, cap, cur, hv, hb, hf.keep g cur _ (0, 0) hg (by decide) (hne g _ _ _ hg (by decide)), r⟩
end
end Go.Proofs.Ytnffgomgfabapaa.Rt
