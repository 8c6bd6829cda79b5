/- Diffs, plain: parts laid run by run. -/
import Derived.Test.YtgodphfkhmahnaaDfPb
namespace Go.Proofs.Ytgodphfkhmahnaa.Df
open Go.RowKit Mem Sm Rt Tk Pp
set_option linter.unusedVariables false
set_option linter.unusedSimpArgs false
theorem cut_take (m : List Tk.Tk) (a b : Nat) (h : a ≤ b) : m.take a ++ cut m a b = m.take b := by
  unfold cut
  obtain ⟨d, rfl⟩ : ∃ d, b = a + d := ⟨b - a, by omega⟩
  rw [Nat.add_sub_cancel_left, List.take_add]
theorem cut_length (m : List Tk.Tk) (a b : Nat) (h : a ≤ b) (hb : b ≤ m.length) : (cut m a b).length = b - a := by
  unfold cut
  rw [List.length_take, List.length_drop]
  omega
theorem cut_same {l m : List Tk.Tk} {x y s : Nat} (h : ∀ j, j < s → EE l m (x + j) (y + j) = true) : cut l x (x + s) = cut m y (y + s) := by
  unfold cut
  rw [Nat.add_sub_cancel_left, Nat.add_sub_cancel_left]
  apply List.ext_getElem?
  intro j
  by_cases hj : j < s
  · rw [List.getElem?_take_of_lt hj, List.getElem?_take_of_lt hj, List.getElem?_drop, List.getElem?_drop]
    exact (EE_true.1 (h j hj)).2.2
  · rw [List.getElem?_take, List.getElem?_take, if_neg hj, if_neg hj]
def keptX : List PX → Int
  | [] => 0
  | x :: xs => (if x.o = true then (x.t : Int) - x.f else 0) + keptX xs
theorem keptX_snoc (xs : List PX) (x : PX) : keptX (xs ++ [x]) = keptX xs + (if x.o = true then (x.t : Int) - x.f else 0) := by
  induction xs with
  | nil => simp [keptX]
  | cons y xs ih => simp only [List.cons_append, keptX, ih]; omega
/-- the first i runs are laid -/
structure PL (l m : List Tk.Tk) (σ : List Rg) (i : Nat) (xs : List PX) (laid : Nat) : Prop where
  good : Good l xs
  lb : (laid : Int) = eb (σ.take i)
  en : (endOf xs : Int) = ea (σ.take i)
  out : outOf l xs = m.take laid
  last : lastO xs ≠ some false
  nil : i = 0 → xs = []
  le : laid ≤ m.length
  sum : keptX xs = sumW (σ.take i)
  cnt : i ≤ laid
  len : xs.length ≤ 2 * i
theorem PL.zero (l m : List Tk.Tk) (σ : List Rg) : PL l m σ 0 [] 0 :=
  ⟨Good.nil, by simp [eb], by simp [ea, endOf], by simp [outOf], by simp [lastO], fun _ => rfl, by omega, by simp [keptX, sumW], by omega, by simp⟩
theorem newX_fit {l m : List Tk.Tk} {xs : List PX} {a b : Nat} (h : a < b) (hb : b ≤ m.length) (hl : lastO xs ≠ some false) : Fit l xs (newX m a b) := by
  refine .inl ⟨rfl, fun e => ?_, hl, rfl, rfl⟩
  have := cut_length m a b (by omega) hb
  have e' : cut m a b = [] := e
  rw [e'] at this
  simp at this
  omega
theorem PL.next {l m : List Tk.Tk} {σ : List Rg} {i laid x y s : Nat} {xs : List PX} (h : PL l m σ i xs laid) (hi : i < σ.length) (he : σ[i] = ⟨x, y, s⟩) (hn : Nxt l m (σ.take i) x y s) :
    laid ≤ y ∧ y + s ≤ m.length ∧ x + s ≤ l.length ∧ (laid = y → PL l m σ (i + 1) (xs ++ [⟨true, x, x + s, []⟩]) (y + s)) ∧ (laid < y → PL l m σ (i + 1) (xs ++ [newX m laid y] ++ [⟨true, x, x + s, []⟩]) (y + s)) := by
  have h1 := hn.b
  have h2 := hn.a
  have h3 := hn.pos
  have h4 := EE_in _ _ (hn.same (s - 1) (by omega))
  rw [← h.lb] at h1
  rw [← h.en] at h2
  have ht : σ.take (i + 1) = σ.take i ++ [⟨x, y, s⟩] := by rw [List.take_add_one, List.getElem?_eq_getElem hi, he]; rfl
  have hc := h.cnt
  refine ⟨by omega, by omega, by omega, fun e => ?_, fun e => ?_⟩
  · subst e
    refine ⟨h.good.snoc (.inr ⟨rfl, by simp only; omega, by simp only; omega, by simp only; omega, ?_, rfl⟩), ?_, ?_, ?_, by rw [lastO_snoc]; simp, fun g => by omega, by omega, ?_, by omega, by have := h.len; simp; omega⟩
    · rintro ⟨g1, g2⟩
      simp only at g2
      rcases hn.off with g | g | g
      · have : i = 0 := by
          have := congrArg List.length g
          rw [List.length_take, List.length_nil] at this
          omega
        rw [h.nil this] at g1
        simp [lastO] at g1
      · exact g (by rw [← h.en, g2])
      · exact g h.lb.symm
    · rw [ht, eb_snoc]; simp
    · rw [ht, ea_snoc, endOf_snoc]; simp
    · rw [outOf_snoc, h.out]
      simp only [if_true]
      rw [cut_same hn.same, cut_take _ _ _ (by omega)]
    · rw [ht, sumW_snoc, keptX_snoc, h.sum]
      simp only [if_true]
      push_cast
      omega
  · have hg := h.good.snoc (newX_fit (l := l) (m := m) e (by omega) h.last)
    refine ⟨hg.snoc (.inr ⟨rfl, ?_, by simp only; omega, by simp only; omega, ?_, rfl⟩), ?_, ?_, ?_, by rw [lastO_snoc]; simp, fun g => by omega, by omega, ?_, by omega, by have := h.len; simp; omega⟩
    · rw [endOf_snoc]
      simp only [newX, Bool.false_eq_true, if_false]
      omega
    · rintro ⟨g1, _⟩
      rw [lastO_snoc] at g1
      simp [newX] at g1
    · rw [ht, eb_snoc]; simp
    · rw [ht, ea_snoc, endOf_snoc]; simp
    · rw [outOf_snoc, outOf_snoc, h.out]
      simp only [if_true, newX, Bool.false_eq_true, if_false]
      rw [cut_take _ _ _ (by omega), cut_same hn.same, cut_take _ _ _ (by omega)]
    · rw [ht, sumW_snoc, keptX_snoc, keptX_snoc, h.sum]
      simp only [if_true, newX, Bool.false_eq_true, if_false]
      push_cast
      omega
/-- what Parts makes -/
structure Makes (l m : List Tk.Tk) (xs : List PX) : Prop where
  good : Good l xs
  out : outOf l xs = m
  sum : keptX xs = (lc (EE l m) l.length m.length : Nat)
  len : xs.length ≤ 1000
theorem PL.done {l m : List Tk.Tk} {σ : List Rg} {laid : Nat} {xs : List PX} (h : PL l m σ σ.length xs laid) (hs : Stay l m σ) (hm : m.length ≤ 150) :
    (laid = m.length → Makes l m xs) ∧ (laid < m.length → Makes l m (xs ++ [newX m laid m.length])) := by
  have h0 := h.sum
  have h1 := h.cnt
  have h2 := h.le
  have h3 := h.len
  rw [List.take_length, hs.sum] at h0
  refine ⟨fun e => ⟨h.good, ?_, h0, by omega⟩, fun e => ⟨h.good.snoc (newX_fit e (Nat.le_refl _) h.last), ?_, ?_, by simp; omega⟩⟩
  · rw [h.out, e, List.take_length]
  · rw [outOf_snoc, h.out]
    simp only [newX, Bool.false_eq_true, if_false]
    rw [cut_take _ _ _ (by omega), List.take_length]
  · rw [keptX_snoc, h0]
    simp [newX]
end Go.Proofs.Ytgodphfkhmahnaa.Df
