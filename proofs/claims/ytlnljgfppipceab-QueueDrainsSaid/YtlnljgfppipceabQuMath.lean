/- Heaps of items as plain mathematics: what stands ahead, lifting and sinking, the least one; nothing of the program. -/
import Derived.WalkKit
namespace Go.Proofs.Ytlnljgfppipceab.Qu

/-- an item: its key, its turn among those of that key, the thing -/
structure It where
  key : Int
  turn : Int
  thing : Int
def it0 : It := ⟨0, 0, 0⟩
def lt (a b : It) : Prop := a.key < b.key ∨ (a.key = b.key ∧ a.turn < b.turn)
def le (a b : It) : Prop := a.key < b.key ∨ (a.key = b.key ∧ a.turn ≤ b.turn)
def ltB (a b : It) : Bool := if a.key = b.key then decide (a.turn < b.turn) else decide (a.key < b.key)
theorem ltB_iff (a b : It) : ltB a b = true ↔ lt a b := by
  unfold ltB lt
  by_cases h : a.key = b.key
  · rw [if_pos h]; simp [h]
  · rw [if_neg h]; simp; omega
theorem le_of_not {a b : It} (h : ¬ lt a b) : le b a := by unfold lt at h; unfold le; omega
theorem le_of_lt {a b : It} (h : lt a b) : le a b := by unfold lt at h; unfold le; omega
theorem le_trans {a b c : It} (h : le a b) (k : le b c) : le a c := by unfold le at *; omega
theorem le_refl (a : It) : le a a := by unfold le; omega
def at_ (l : List It) (i : Nat) : It := l.getD i it0
def swap (l : List It) (i j : Nat) : List It := (l.set i (at_ l j)).set j (at_ l i)
theorem swap_length (l : List It) (i j : Nat) : (swap l i j).length = l.length := by simp [swap]
theorem at_eq {l : List It} {i : Nat} (h : i < l.length) : at_ l i = l[i] := by simp [at_, List.getD, List.getElem?_eq_getElem h]
theorem swap_at (l : List It) (i j c : Nat) (hi : i < l.length) (hj : j < l.length) : at_ (swap l i j) c = if c = j then at_ l i else if c = i then at_ l j else at_ l c := by
  unfold swap
  by_cases h1 : c = j
  · subst h1
    rw [if_pos rfl]
    show ((l.set i (at_ l c)).set c (at_ l i)).getD c it0 = _
    simp [List.getD, hj]
  · rw [if_neg h1]
    show ((l.set i (at_ l j)).set j (at_ l i)).getD c it0 = _
    by_cases h2 : c = i
    · subst h2
      rw [if_pos rfl]
      rw [List.getD, List.getElem?_set_ne (Ne.symm h1), List.getElem?_set_self hi]
      rfl
    · rw [if_neg h2]
      simp [List.getD, List.getElem?_set_ne (Ne.symm h1), List.getElem?_set_ne (Ne.symm h2), at_]
theorem swap_perm (l : List It) (i j : Nat) (hi : i < l.length) (hj : j < l.length) : (swap l i j).Perm l := by
  unfold swap; rw [at_eq hi, at_eq hj]
  exact List.set_set_perm hi hj

/-- each of the first n stands behind its parent -/
def IsHeap (n : Nat) (l : List It) : Prop := ∀ c, 0 < c → c < n → le (at_ l ((c - 1) / 2)) (at_ l c)
def UpInv (l : List It) (j : Nat) : Prop := ∀ c, 0 < c → c < l.length → (c ≠ j → le (at_ l ((c - 1) / 2)) (at_ l c)) ∧ ((c - 1) / 2 = j → 0 < j → le (at_ l ((j - 1) / 2)) (at_ l c))
def DownInv (n : Nat) (l : List It) (i : Nat) : Prop := ∀ c, 0 < c → c < n → ((c - 1) / 2 ≠ i → le (at_ l ((c - 1) / 2)) (at_ l c)) ∧ ((c - 1) / 2 = i → 0 < i → le (at_ l ((i - 1) / 2)) (at_ l c))

theorem up_start {l : List It} (h : IsHeap l.length l) (x : It) : UpInv (l ++ [x]) l.length := by
  have e : ∀ c, c < l.length → at_ (l ++ [x]) c = at_ l c := fun c hc => by simp [at_, List.getD, List.getElem?_append_left hc]
  intro c hc hl
  simp at hl
  refine ⟨fun hne => ?_, fun hq hj => ?_⟩
  · rw [e c (by omega), e _ (by omega)]; exact h c hc (by omega)
  · omega
theorem up_step {l : List It} {j : Nat} (h : UpInv l j) (hj : 0 < j) (hl : j < l.length) (hlt : lt (at_ l j) (at_ l ((j - 1) / 2))) : UpInv (swap l ((j - 1) / 2) j) ((j - 1) / 2) := by
  obtain ⟨p, hp⟩ : ∃ p, p = (j - 1) / 2 := ⟨_, rfl⟩
  rw [← hp] at hlt ⊢
  have hpj : p < j := by omega
  have hpl : p < l.length := by omega
  intro c hc hcl
  rw [swap_length] at hcl
  have S : ∀ k, at_ (swap l p j) k = if k = j then at_ l p else if k = p then at_ l j else at_ l k := fun k => swap_at l p j k hpl hl
  have hle := le_of_lt hlt
  refine ⟨fun hne => ?_, fun hq hp0 => ?_⟩
  · rw [S, S]
    by_cases h1 : c = j
    · subst h1
      rw [if_pos rfl, if_neg (by omega), if_pos (by omega)]
      exact hle
    · rw [if_neg h1, if_neg hne]
      by_cases h2 : (c - 1) / 2 = j
      · rw [if_pos h2]
        have := (h c hc hcl).2 h2 hj
        rw [← hp] at this; exact this
      · rw [if_neg h2]
        by_cases h3 : (c - 1) / 2 = p
        · rw [if_pos h3]
          have := (h c hc hcl).1 h1
          rw [h3] at this
          exact le_trans hle this
        · rw [if_neg h3]
          exact (h c hc hcl).1 h1
  · rw [S, S, if_neg (show ¬ (p - 1) / 2 = j by omega), if_neg (show ¬ (p - 1) / 2 = p by omega)]
    have hpp := (h p hp0 hpl).1 (by omega)
    by_cases h1 : c = j
    · rw [if_pos h1]; exact hpp
    · rw [if_neg h1, if_neg (by omega)]
      have := (h c hc hcl).1 h1
      rw [hq] at this
      exact le_trans hpp this
theorem up_stop {l : List It} {j : Nat} (h : UpInv l j) (hs : j = 0 ∨ ¬ lt (at_ l j) (at_ l ((j - 1) / 2))) : IsHeap l.length l := by
  intro c hc hcl
  by_cases h1 : c = j
  · subst h1
    rcases hs with h0 | hn
    · omega
    · exact le_of_not hn
  · exact (h c hc hcl).1 h1

theorem down_start {l : List It} {n : Nat} (h : IsHeap (n + 1) l) (hl : l.length = n + 1) : DownInv n (swap l 0 n) 0 := by
  intro c hc hcn
  refine ⟨fun hne => ?_, fun _ h0 => by omega⟩
  rw [swap_at l 0 n _ (by omega) (by omega), swap_at l 0 n _ (by omega) (by omega), if_neg (by omega), if_neg (by omega), if_neg (by omega), if_neg (by omega)]
  exact h c hc (by omega)
theorem down_step {l : List It} {n i j : Nat} (h : DownInv n l i) (hn : n ≤ l.length) (hji : (j - 1) / 2 = i) (hj0 : 0 < j) (hjn : j < n)
    (hmin : ∀ c, 0 < c → c < n → (c - 1) / 2 = i → le (at_ l j) (at_ l c)) (hlt : lt (at_ l j) (at_ l i)) : DownInv n (swap l i j) j := by
  have hij : i < j := by omega
  intro c hc hcn
  have S : ∀ k, at_ (swap l i j) k = if k = j then at_ l i else if k = i then at_ l j else at_ l k := fun k => swap_at l i j k (by omega) (by omega)
  refine ⟨fun hne => ?_, fun hq _ => ?_⟩
  · rw [S, S]
    rw [if_neg hne]
    by_cases h1 : (c - 1) / 2 = i
    · rw [if_pos h1]
      by_cases h2 : c = j
      · rw [if_pos h2]; exact le_of_lt hlt
      · rw [if_neg h2, if_neg (by omega)]; exact hmin c hc hcn h1
    · rw [if_neg h1, if_neg (show ¬ c = j by rintro rfl; exact h1 hji)]
      by_cases h2 : c = i
      · rw [if_pos h2, h2]
        exact (h j hj0 hjn).2 hji (by omega)
      · rw [if_neg h2]; exact (h c hc hcn).1 h1
  · rw [S, S, if_neg (show ¬ (j - 1) / 2 = j by omega), if_pos hji, if_neg (show ¬ c = j by omega), if_neg (show ¬ c = i by omega)]
    have := (h c hc hcn).1 (by omega)
    rw [hq] at this; exact this
theorem down_stop {l : List It} {n i : Nat} (h : DownInv n l i) (hs : ∀ c, 0 < c → c < n → (c - 1) / 2 = i → le (at_ l i) (at_ l c)) : IsHeap n l := by
  intro c hc hcn
  by_cases h1 : (c - 1) / 2 = i
  · rw [h1]; exact hs c hc hcn h1
  · exact (h c hc hcn).1 h1
theorem heap_min {l : List It} {n : Nat} (h : IsHeap n l) : ∀ c, c < n → le (at_ l 0) (at_ l c) := by
  intro c
  induction c using Nat.strongRecOn with
  | _ c ih =>
    intro hc
    by_cases h0 : c = 0
    · subst h0; exact le_refl _
    · exact le_trans (ih ((c - 1) / 2) (by omega) (by omega)) (h c (by omega) hc)
theorem heap_take {l : List It} {n : Nat} (h : IsHeap n l) (hn : n ≤ l.length) : IsHeap (l.take n).length (l.take n) := by
  intro c hc hcl
  have hcn : c < n := by rw [List.length_take] at hcl; omega
  have e : ∀ k, k < n → at_ (l.take n) k = at_ l k := fun k hk => by simp [at_, List.getD, hk]
  rw [e c hcn, e _ (by omega)]
  exact h c hc hcn
end Go.Proofs.Ytlnljgfppipceab.Qu
