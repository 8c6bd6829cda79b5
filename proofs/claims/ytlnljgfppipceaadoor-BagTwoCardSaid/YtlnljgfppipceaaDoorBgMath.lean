/- Bags of four words as plain mathematics: what is in one, its list, the words' bits; nothing of the program. -/
import Derived.Laws.Bits64b
import Derived.Laws.BitsAllLaws
import Derived.Lib.TrailingZeros
namespace Go.Proofs.YtlnljgfppipceaaDoor.Bg

/-- a bag: its four words -/
structure Bag where
  a : Nat
  b : Nat
  c : Nat
  d : Nat
def Bag.ok (x : Bag) : Prop := x.a < 18446744073709551616 ∧ x.b < 18446744073709551616 ∧ x.c < 18446744073709551616 ∧ x.d < 18446744073709551616
def Bag.word (x : Bag) (k : Nat) : Nat := if k = 0 then x.a else if k = 1 then x.b else if k = 2 then x.c else x.d
/-- is a number in it? -/
def Bag.has (x : Bag) (n : Nat) : Bool := decide (n < 256) && (x.word (n / 64)).testBit (n % 64)
def inB (n : Int) : Bool := decide (0 ≤ n) && decide (n < 256)
def Bag.hasI (x : Bag) (n : Int) : Bool := inB n && x.has n.toNat
/-- its numbers, rising -/
def Bag.list (x : Bag) : List Int := ((List.range 256).filter x.has).map Int.ofNat
def nil : Bag := ⟨0, 0, 0, 0⟩
def Bag.map2 (f : Nat → Nat → Nat) (x y : Bag) : Bag := ⟨f x.a y.a, f x.b y.b, f x.c y.c, f x.d y.d⟩
def Bag.orB (x y : Bag) : Bag := x.map2 (· ||| ·) y
def Bag.andB (x y : Bag) : Bag := x.map2 (· &&& ·) y
def Bag.notB (x y : Bag) : Bag := x.map2 (fun p q => p &&& (18446744073709551615 - q)) y
def setW (w r : Nat) : Nat := w ||| 2 ^ r
def Bag.withN (x : Bag) (n : Nat) : Bag :=
  if n / 64 = 0 then { x with a := setW x.a (n % 64) } else if n / 64 = 1 then { x with b := setW x.b (n % 64) } else if n / 64 = 2 then { x with c := setW x.c (n % 64) } else { x with d := setW x.d (n % 64) }
def Bag.withI (x : Bag) (n : Int) : Bag := if inB n then x.withN n.toNat else x

theorem inB_true {n : Int} : inB n = true ↔ 0 ≤ n ∧ n < 256 := by simp [inB]

theorem setW_lt {w r : Nat} (h : w < 18446744073709551616) (hr : r < 64) : setW w r < 18446744073709551616 :=
  Nat.or_lt_two_pow (n := 64) h (Nat.lt_of_lt_of_le (Nat.pow_lt_pow_right (by decide) hr) (by decide))
theorem setW_test (w r j : Nat) : (setW w r).testBit j = (w.testBit j || decide (r = j)) := by
  unfold setW; rw [Nat.testBit_or, Nat.testBit_two_pow]

theorem nil_ok : nil.ok := by simp [Bag.ok, nil]
theorem withN_ok {x : Bag} (h : x.ok) (n : Nat) : (x.withN n).ok := by
  obtain ⟨h1, h2, h3, h4⟩ := h
  have hr : n % 64 < 64 := Nat.mod_lt _ (by decide)
  unfold Bag.withN
  split
  · exact ⟨setW_lt h1 hr, h2, h3, h4⟩
  · split
    · exact ⟨h1, setW_lt h2 hr, h3, h4⟩
    · split
      · exact ⟨h1, h2, setW_lt h3 hr, h4⟩
      · exact ⟨h1, h2, h3, setW_lt h4 hr⟩
theorem withI_ok {x : Bag} (h : x.ok) (n : Int) : (x.withI n).ok := by
  unfold Bag.withI; split
  · exact withN_ok h _
  · exact h
theorem or_lt {p q : Nat} (hp : p < 18446744073709551616) (hq : q < 18446744073709551616) : p ||| q < 18446744073709551616 := Nat.or_lt_two_pow (n := 64) hp hq
theorem and_lt {p : Nat} (q : Nat) (hp : p < 18446744073709551616) : p &&& q < 18446744073709551616 := Nat.lt_of_le_of_lt Nat.and_le_left hp
theorem or_ok {x y : Bag} (h : x.ok) (g : y.ok) : (x.orB y).ok := ⟨or_lt h.1 g.1, or_lt h.2.1 g.2.1, or_lt h.2.2.1 g.2.2.1, or_lt h.2.2.2 g.2.2.2⟩
theorem and_ok {x : Bag} (y : Bag) (h : x.ok) : (x.andB y).ok := ⟨and_lt _ h.1, and_lt _ h.2.1, and_lt _ h.2.2.1, and_lt _ h.2.2.2⟩
theorem not_ok {x : Bag} (y : Bag) (h : x.ok) : (x.notB y).ok := ⟨and_lt _ h.1, and_lt _ h.2.1, and_lt _ h.2.2.1, and_lt _ h.2.2.2⟩

theorem word_withN (x : Bag) (n k : Nat) (hn : n < 256) (hk : k < 4) : (x.withN n).word k = if k = n / 64 then setW (x.word k) (n % 64) else x.word k := by
  rcases (show n / 64 = 0 ∨ n / 64 = 1 ∨ n / 64 = 2 ∨ n / 64 = 3 by omega) with e | e | e | e <;>
    rcases (show k = 0 ∨ k = 1 ∨ k = 2 ∨ k = 3 by omega) with rfl | rfl | rfl | rfl <;> simp [Bag.withN, Bag.word, e]
theorem has_withN (x : Bag) (n m : Nat) (hn : n < 256) : (x.withN n).has m = (x.has m || decide (m = n)) := by
  unfold Bag.has
  by_cases hm : m < 256
  · rw [word_withN x n _ hn (by omega)]
    simp only [hm, decide_true, Bool.true_and]
    by_cases e : m / 64 = n / 64
    · rw [if_pos e, setW_test]
      congr 1
      rw [Bool.eq_iff_iff]; simp; omega
    · rw [if_neg e]
      have : decide (m = n) = false := by simp; omega
      rw [this, Bool.or_false]
  · have : decide (m = n) = false := by simp; omega
    simp [hm, this]
theorem hasI_withI (x : Bag) (n m : Int) : (x.withI n).hasI m = (x.hasI m || (inB m && decide (m = n))) := by
  unfold Bag.withI Bag.hasI
  cases hm : inB m
  · simp
  · obtain ⟨m0, m1⟩ := inB_true.1 hm
    cases hn : inB n
    · have : decide (m = n) = false := by
        simp only [decide_eq_false_iff_not]; rintro rfl; rw [hm] at hn; cases hn
      simp [this]
    · obtain ⟨n0, n1⟩ := inB_true.1 hn
      simp only [if_true, Bool.true_and]
      rw [has_withN _ _ _ (by omega)]
      congr 1
      rw [Bool.eq_iff_iff]; simp; omega
theorem word_nil (k : Nat) : nil.word k = 0 := by unfold Bag.word nil; split <;> (try split) <;> (try split) <;> rfl
theorem has_nil (n : Nat) : nil.has n = false := by unfold Bag.has; rw [word_nil]; simp
theorem has_lt {x : Bag} {n : Nat} (h : x.has n = true) : n < 256 := by unfold Bag.has at h; simp at h; exact h.1

/-- the bag of some numbers -/
def ofL (l : List Int) : Bag := l.foldl Bag.withI nil
theorem ofL_snoc (l : List Int) (n : Int) : ofL (l ++ [n]) = (ofL l).withI n := by simp [ofL]
theorem foldl_ok (l : List Int) : ∀ x : Bag, x.ok → (l.foldl Bag.withI x).ok := by
  induction l with
  | nil => exact fun x h => h
  | cons n l ih => exact fun x h => ih _ (withI_ok h n)
theorem ofL_ok (l : List Int) : (ofL l).ok := foldl_ok l _ nil_ok
theorem foldl_has (l : List Int) (m : Int) : ∀ x : Bag, (l.foldl Bag.withI x).hasI m = (x.hasI m || (inB m && decide (m ∈ l))) := by
  induction l with
  | nil => intro x; simp
  | cons n l ih =>
    intro x
    rw [List.foldl_cons, ih, hasI_withI]
    rw [Bool.or_assoc, ← Bool.and_or_distrib_left]
    congr 2
    rw [Bool.eq_iff_iff]; simp
theorem ofL_has (l : List Int) (m : Int) : (ofL l).hasI m = (inB m && decide (m ∈ l)) := by
  unfold ofL; rw [foldl_has]
  have : nil.hasI m = false := by unfold Bag.hasI; rw [has_nil]; simp
  rw [this, Bool.false_or]
theorem has_hasI (x : Bag) (n : Nat) : x.has n = x.hasI (n : Int) := by
  unfold Bag.hasI
  by_cases h : n < 256
  · have : inB (n : Int) = true := inB_true.2 (by omega)
    simp [this]
  · have : x.has n = false := by cases e : x.has n with | false => rfl | true => exact absurd (has_lt e) h
    simp [this]
theorem ofL_hasN (l : List Int) (n : Nat) : (ofL l).has n = (decide (n < 256) && decide ((n : Int) ∈ l)) := by
  have e : inB (n : Int) = decide (n < 256) := by rw [Bool.eq_iff_iff, inB_true]; simp; omega
  rw [has_hasI, ofL_has, e]

/-- two that have the same are the same -/
theorem word_testBit (x : Bag) (k j : Nat) (hk : k < 4) (hj : j < 64) : (x.word k).testBit j = x.has (64 * k + j) := by
  unfold Bag.has
  rw [show (64 * k + j) / 64 = k from by omega, show (64 * k + j) % 64 = j from by omega]
  have : decide (64 * k + j < 256) = true := by simp; omega
  rw [this, Bool.true_and]
theorem word_lt {x : Bag} (h : x.ok) (k : Nat) : x.word k < 18446744073709551616 := by
  unfold Bag.word; split
  · exact h.1
  · split
    · exact h.2.1
    · split
      · exact h.2.2.1
      · exact h.2.2.2
theorem same_word {p q : Nat} (hp : p < 18446744073709551616) (hq : q < 18446744073709551616) (h : ∀ j, j < 64 → p.testBit j = q.testBit j) : p = q := by
  refine Nat.eq_of_testBit_eq fun j => ?_
  by_cases hj : j < 64
  · exact h j hj
  · have e : (2 : Nat) ^ 64 ≤ 2 ^ j := Nat.pow_le_pow_right (by decide) (by omega)
    rw [Nat.testBit_lt_two_pow (Nat.lt_of_lt_of_le (show p < 2 ^ 64 from hp) e), Nat.testBit_lt_two_pow (Nat.lt_of_lt_of_le (show q < 2 ^ 64 from hq) e)]
theorem ext {x y : Bag} (hx : x.ok) (hy : y.ok) (h : ∀ n, n < 256 → x.has n = y.has n) : x = y := by
  have hw : ∀ k, k < 4 → x.word k = y.word k := fun k hk => same_word (word_lt hx k) (word_lt hy k) fun j hj => by
    rw [word_testBit x k j hk hj, word_testBit y k j hk hj]; exact h _ (by omega)
  cases x; cases y
  have h0 := hw 0 (by decide); have h1 := hw 1 (by decide); have h2 := hw 2 (by decide); have h3 := hw 3 (by decide)
  simp [Bag.word] at h0 h1 h2 h3
  simp [h0, h1, h2, h3]
theorem word_map2 (f : Nat → Nat → Nat) (x y : Bag) (k : Nat) : (x.map2 f y).word k = f (x.word k) (y.word k) := by
  unfold Bag.map2 Bag.word; split
  · rfl
  · split
    · rfl
    · split <;> rfl
theorem or_has (x y : Bag) (n : Nat) : (x.orB y).has n = (x.has n || y.has n) := by
  unfold Bag.has Bag.orB; rw [word_map2, Nat.testBit_or]; cases decide (n < 256) <;> simp
theorem and_has (x y : Bag) (n : Nat) : (x.andB y).has n = (x.has n && y.has n) := by
  unfold Bag.has Bag.andB; rw [word_map2, Nat.testBit_and]; cases decide (n < 256) <;> simp
theorem compl_test {q : Nat} (hq : q < 18446744073709551616) (j : Nat) (hj : j < 64) : (18446744073709551615 - q).testBit j = !q.testBit j := by
  have : 18446744073709551615 - q = 2 ^ 64 - (q + 1) := by omega
  rw [this, Nat.testBit_two_pow_sub_succ hq]
  simp [hj]
theorem not_has (x : Bag) {y : Bag} (hy : y.ok) (n : Nat) : (x.notB y).has n = (x.has n && !y.has n) := by
  unfold Bag.has Bag.notB
  rw [word_map2, Nat.testBit_and, compl_test (word_lt hy _) _ (Nat.mod_lt _ (by decide))]
  cases decide (n < 256) <;> simp

/-- the list, told by what is in it -/
theorem list_of (x : Bag) (p : Nat → Bool) (h : ∀ n, n < 256 → x.has n = p n) : x.list = ((List.range 256).filter p).map Int.ofNat := by
  unfold Bag.list
  congr 1
  exact List.filter_congr fun n hn => h n (List.mem_range.1 hn)
theorem mem_list (x : Bag) (m : Int) : m ∈ x.list ↔ x.hasI m = true := by
  unfold Bag.list
  constructor
  · intro h
    obtain ⟨n, hn, rfl⟩ := List.mem_map.1 h
    have := (List.mem_filter.1 hn).2
    rw [has_hasI] at this; exact this
  · intro h
    have h1 : inB m = true := by unfold Bag.hasI at h; simp at h; exact h.1
    obtain ⟨m0, m1⟩ := inB_true.1 h1
    obtain ⟨k, rfl⟩ := Int.eq_ofNat_of_zero_le m0
    refine List.mem_map.2 ⟨k, List.mem_filter.2 ⟨List.mem_range.2 (by omega), by rw [has_hasI]; exact h⟩, rfl⟩
theorem list_same {x y : Bag} (hx : x.ok) (hy : y.ok) : x.list = y.list ↔ x = y := by
  constructor
  · intro h
    refine ext hx hy fun n _ => ?_
    rw [has_hasI, has_hasI, Bool.eq_iff_iff, ← mem_list, ← mem_list, h]
  · rintro rfl; rfl
theorem list_length_le (x : Bag) : x.list.length ≤ 256 := by
  unfold Bag.list
  rw [List.length_map]
  exact Nat.le_trans (List.length_filter_le _ _) (by simp)
theorem ofL_list {x : Bag} (hx : x.ok) : ofL x.list = x := by
  refine ext (ofL_ok _) hx fun n hn => ?_
  rw [ofL_hasN, has_hasI, Bool.eq_iff_iff]
  simp only [Bool.and_eq_true, decide_eq_true_eq, mem_list]
  exact ⟨fun h => h.2, fun h => ⟨hn, h⟩⟩
end Go.Proofs.YtlnljgfppipceaaDoor.Bg
