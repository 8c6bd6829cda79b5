/- A word's bits one by one, from the least; how many there are; nothing of the program. -/
import Derived.Test.YtlnljgfppipceaaDoorBgMath
namespace Go.Proofs.YtlnljgfppipceaaDoor.Bg

/-- the bits of a word, rising -/
def bitsOf (w : Nat) : List Nat := (List.range 64).filter w.testBit
/-- w less its lowest bit -/
theorem low_clear : ∀ (f w : Nat), 0 < w → w < 2 ^ f → Lib.ctzFrom f w < f ∧ ∀ j, (w &&& (w - 1)).testBit j = (w.testBit j && decide (j ≠ Lib.ctzFrom f w)) ∧ (j < Lib.ctzFrom f w → w.testBit j = false) ∧ w.testBit (Lib.ctzFrom f w) = true
  | 0, w, h0, h => by simp at h; omega
  | f + 1, w, h0, h => by
    unfold Lib.ctzFrom
    by_cases h1 : w % 2 = 1
    · rw [if_pos h1]
      refine ⟨by omega, fun j => ⟨?_, by omega, ?_⟩⟩
      · cases j with
        | zero => simp [Nat.testBit_zero]; omega
        | succ j =>
          rw [Nat.testBit_and, Nat.testBit_succ, Nat.testBit_succ, show (w - 1) / 2 = w / 2 from by omega]
          simp
      · simp [Nat.testBit_zero, h1]
    · rw [if_neg h1]
      have hx : w / 2 < 2 ^ f := by rw [Nat.pow_succ] at h; omega
      obtain ⟨a, b⟩ := low_clear f (w / 2) (by omega) hx
      refine ⟨by omega, fun j => ⟨?_, ?_, ?_⟩⟩
      · cases j with
        | zero =>
          simp [Nat.testBit_zero, h1]
        | succ j =>
          have := (b j).1
          rw [Nat.testBit_and] at this ⊢
          rw [Nat.testBit_succ, Nat.testBit_succ, show (w - 1) / 2 = w / 2 - 1 from by omega, this]
          congr 1
          rw [Bool.eq_iff_iff]; simp; omega
      · intro hj
        cases j with
        | zero => simp [Nat.testBit_zero]; omega
        | succ j => rw [Nat.testBit_succ]; exact (b j).2.1 (by omega)
      · rw [Nat.add_comm, Nat.testBit_succ]; exact (b 0).2.2

theorem filter_range_cons (p q : Nat → Bool) (n k : Nat) (hk : k < n) (hp : p k = true) (hlt : ∀ j, j < k → p j = false) (hq : ∀ j, j < n → q j = (p j && decide (j ≠ k))) :
    (List.range n).filter p = k :: (List.range n).filter q := by
  obtain ⟨m, rfl⟩ : ∃ m, n = k + (m + 1) := ⟨n - k - 1, by omega⟩
  have hqk : ∀ j, j < k → q j = false := fun j hj => by rw [hq j (by omega), hlt j hj]; rfl
  rw [List.range_add, List.filter_append, List.filter_append]
  have e1 : (List.range k).filter p = [] := by rw [List.filter_eq_nil_iff]; intro j hj; rw [hlt j (List.mem_range.1 hj)]; exact Bool.noConfusion
  have e2 : (List.range k).filter q = [] := by rw [List.filter_eq_nil_iff]; intro j hj; rw [hqk j (List.mem_range.1 hj)]; exact Bool.noConfusion
  rw [e1, e2, List.nil_append, List.nil_append, List.range_succ_eq_map, List.map_cons, List.filter_cons, List.filter_cons]
  rw [if_pos (by simpa using hp), if_neg (by rw [hq _ (by omega)]; simp)]
  congr 1
  refine List.filter_congr fun j hj => ?_
  obtain ⟨i, hi, rfl⟩ := List.mem_map.1 hj
  obtain ⟨i, hi', rfl⟩ := List.mem_map.1 hi
  have := List.mem_range.1 hi'
  rw [hq _ (by simp; omega)]
  simp
theorem bits_zero : bitsOf 0 = [] := by unfold bitsOf; rw [List.filter_eq_nil_iff]; intro j _; simp
theorem bits_cons {w : Nat} (h0 : w ≠ 0) (h : w < 18446744073709551616) : bitsOf w = Lib.ctz 64 w :: bitsOf (w &&& (w - 1)) := by
  obtain ⟨a, b⟩ := low_clear 64 w (by omega) h
  have e : Lib.ctz 64 w = Lib.ctzFrom 64 w := by simp [Lib.ctz, h0]
  rw [e]
  exact filter_range_cons _ _ 64 _ a (b 0).2.2 (fun j hj => (b j).2.1 hj) fun j _ => (b j).1
theorem bits_ne {w : Nat} (h0 : w ≠ 0) (h : w < 18446744073709551616) : bitsOf w ≠ [] := by rw [bits_cons h0 h]; exact List.cons_ne_nil _ _
theorem bits_lt {w j : Nat} (h : j ∈ bitsOf w) : j < 64 := List.mem_range.1 (List.mem_filter.1 h).1
theorem clear_lt {w : Nat} (h0 : w ≠ 0) (h : w < 18446744073709551616) : w &&& (w - 1) < w := by
  have h1 : w &&& (w - 1) ≤ w - 1 := Nat.and_le_right
  omega

/-- the list of a bag, word by word -/
def Bag.part (x : Bag) (k : Nat) : List Int := (bitsOf (x.word k)).map fun j => ((64 * k + j : Nat) : Int)
theorem filter_map' {α β : Type} (p : β → Bool) (f : α → β) (l : List α) : (l.map f).filter p = (l.filter fun x => p (f x)).map f := by
  rw [List.filter_map]; rfl
theorem list_parts (x : Bag) : x.list = x.part 0 ++ (x.part 1 ++ (x.part 2 ++ x.part 3)) := by
  have hw : ∀ k, k < 4 → ((List.range 64).map (64 * k + ·)).filter x.has = (bitsOf (x.word k)).map (64 * k + ·) := by
    intro k hk
    rw [filter_map']
    congr 1
    refine List.filter_congr fun j hj => ?_
    rw [word_testBit x k j hk (List.mem_range.1 hj)]
  have hr : List.range 256 = (List.range 64).map (64 * 0 + ·) ++ ((List.range 64).map (64 * 1 + ·) ++ ((List.range 64).map (64 * 2 + ·) ++ (List.range 64).map (64 * 3 + ·))) := by decide +kernel
  unfold Bag.list
  rw [hr, List.filter_append, List.filter_append, List.filter_append, hw 0 (by decide), hw 1 (by decide), hw 2 (by decide), hw 3 (by decide)]
  simp only [List.map_append, List.map_map]
  rfl
end Go.Proofs.YtlnljgfppipceaaDoor.Bg
