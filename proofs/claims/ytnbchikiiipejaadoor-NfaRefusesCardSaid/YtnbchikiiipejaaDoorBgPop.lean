/- Bags of four words as plain mathematics: what is in one, its list, the words' bits; nothing of the program. A word's bits one by one, from the least; how many there are; nothing of the program. How many bits a word has, by the bits' sums in halves; nothing of the program. -/
import Derived.Laws.Bits64b
import Derived.Laws.BitsAllLaws
import Derived.Lib.TrailingZeros
namespace Go.Proofs.YtnbchikiiipejaaDoor.Bg

/-- a bag: its four words -/
structure Bag where
  a : Nat
  b : Nat
  c : Nat
  d : Nat
def Bag.ok (x : Bag) : Prop := x.a < 18446744073709551616 ∧ x.b < 18446744073709551616 ∧ x.c < 18446744073709551616 ∧ x.d < 18446744073709551616
def Bag.word (x : Bag) (k : Nat) : Nat := if k = 0 then x.a else if k = 1 then x.b else if k = 2 then x.c else x.d
/-- is a number in it? -/
def Bag.has (x : Bag) (n : Nat) : Bool := decide (n < 256) && (x.word (n / 64)).testBit (n % 64)
def inB (n : Int) : Bool := decide (0 ≤ n) && decide (n < 256)
def Bag.hasI (x : Bag) (n : Int) : Bool := inB n && x.has n.toNat
/-- its numbers, rising -/
def Bag.list (x : Bag) : List Int := ((List.range 256).filter x.has).map Int.ofNat
def nil : Bag := ⟨0, 0, 0, 0⟩
def Bag.map2 (f : Nat → Nat → Nat) (x y : Bag) : Bag := ⟨f x.a y.a, f x.b y.b, f x.c y.c, f x.d y.d⟩
def Bag.orB (x y : Bag) : Bag := x.map2 (· ||| ·) y
def Bag.andB (x y : Bag) : Bag := x.map2 (· &&& ·) y
def Bag.notB (x y : Bag) : Bag := x.map2 (fun p q => p &&& (18446744073709551615 - q)) y
def setW (w r : Nat) : Nat := w ||| 2 ^ r
def Bag.withN (x : Bag) (n : Nat) : Bag :=
  if n / 64 = 0 then { x with a := setW x.a (n % 64) } else if n / 64 = 1 then { x with b := setW x.b (n % 64) } else if n / 64 = 2 then { x with c := setW x.c (n % 64) } else { x with d := setW x.d (n % 64) }
def Bag.withI (x : Bag) (n : Int) : Bag := if inB n then x.withN n.toNat else x

theorem inB_true {n : Int} : inB n = true ↔ 0 ≤ n ∧ n < 256 := by simp [inB]

theorem setW_lt {w r : Nat} (h : w < 18446744073709551616) (hr : r < 64) : setW w r < 18446744073709551616 :=
  Nat.or_lt_two_pow (n := 64) h (Nat.lt_of_lt_of_le (Nat.pow_lt_pow_right (by decide) hr) (by decide))
theorem setW_test (w r j : Nat) : (setW w r).testBit j = (w.testBit j || decide (r = j)) := by
  unfold setW; rw [Nat.testBit_or, Nat.testBit_two_pow]

theorem nil_ok : nil.ok := by simp [Bag.ok, nil]
theorem withN_ok {x : Bag} (h : x.ok) (n : Nat) : (x.withN n).ok := by
  obtain ⟨h1, h2, h3, h4⟩ := h
  have hr : n % 64 < 64 := Nat.mod_lt _ (by decide)
  unfold Bag.withN
  split
  · exact ⟨setW_lt h1 hr, h2, h3, h4⟩
  · split
    · exact ⟨h1, setW_lt h2 hr, h3, h4⟩
    · split
      · exact ⟨h1, h2, setW_lt h3 hr, h4⟩
      · exact ⟨h1, h2, h3, setW_lt h4 hr⟩
theorem withI_ok {x : Bag} (h : x.ok) (n : Int) : (x.withI n).ok := by
  unfold Bag.withI; split
  · exact withN_ok h _
  · exact h
theorem or_lt {p q : Nat} (hp : p < 18446744073709551616) (hq : q < 18446744073709551616) : p ||| q < 18446744073709551616 := Nat.or_lt_two_pow (n := 64) hp hq
theorem and_lt {p : Nat} (q : Nat) (hp : p < 18446744073709551616) : p &&& q < 18446744073709551616 := Nat.lt_of_le_of_lt Nat.and_le_left hp
theorem or_ok {x y : Bag} (h : x.ok) (g : y.ok) : (x.orB y).ok := ⟨or_lt h.1 g.1, or_lt h.2.1 g.2.1, or_lt h.2.2.1 g.2.2.1, or_lt h.2.2.2 g.2.2.2⟩
theorem and_ok {x : Bag} (y : Bag) (h : x.ok) : (x.andB y).ok := ⟨and_lt _ h.1, and_lt _ h.2.1, and_lt _ h.2.2.1, and_lt _ h.2.2.2⟩
theorem not_ok {x : Bag} (y : Bag) (h : x.ok) : (x.notB y).ok := ⟨and_lt _ h.1, and_lt _ h.2.1, and_lt _ h.2.2.1, and_lt _ h.2.2.2⟩

theorem word_withN (x : Bag) (n k : Nat) (hn : n < 256) (hk : k < 4) : (x.withN n).word k = if k = n / 64 then setW (x.word k) (n % 64) else x.word k := by
  rcases (show n / 64 = 0 ∨ n / 64 = 1 ∨ n / 64 = 2 ∨ n / 64 = 3 by omega) with e | e | e | e <;>
    rcases (show k = 0 ∨ k = 1 ∨ k = 2 ∨ k = 3 by omega) with rfl | rfl | rfl | rfl <;> simp [Bag.withN, Bag.word, e]
theorem has_withN (x : Bag) (n m : Nat) (hn : n < 256) : (x.withN n).has m = (x.has m || decide (m = n)) := by
  unfold Bag.has
  by_cases hm : m < 256
  · rw [word_withN x n _ hn (by omega)]
    simp only [hm, decide_true, Bool.true_and]
    by_cases e : m / 64 = n / 64
    · rw [if_pos e, setW_test]
      congr 1
      rw [Bool.eq_iff_iff]; simp; omega
    · rw [if_neg e]
      have : decide (m = n) = false := by simp; omega
      rw [this, Bool.or_false]
  · have : decide (m = n) = false := by simp; omega
    simp [hm, this]
theorem hasI_withI (x : Bag) (n m : Int) : (x.withI n).hasI m = (x.hasI m || (inB m && decide (m = n))) := by
  unfold Bag.withI Bag.hasI
  cases hm : inB m
  · simp
  · obtain ⟨m0, m1⟩ := inB_true.1 hm
    cases hn : inB n
    · have : decide (m = n) = false := by
        simp only [decide_eq_false_iff_not]; rintro rfl; rw [hm] at hn; cases hn
      simp [this]
    · obtain ⟨n0, n1⟩ := inB_true.1 hn
      simp only [if_true, Bool.true_and]
      rw [has_withN _ _ _ (by omega)]
      congr 1
      rw [Bool.eq_iff_iff]; simp; omega
theorem word_nil (k : Nat) : nil.word k = 0 := by unfold Bag.word nil; split <;> (try split) <;> (try split) <;> rfl
theorem has_nil (n : Nat) : nil.has n = false := by unfold Bag.has; rw [word_nil]; simp
theorem has_lt {x : Bag} {n : Nat} (h : x.has n = true) : n < 256 := by unfold Bag.has at h; simp at h; exact h.1

/-- the bag of some numbers -/
def ofL (l : List Int) : Bag := l.foldl Bag.withI nil
theorem ofL_snoc (l : List Int) (n : Int) : ofL (l ++ [n]) = (ofL l).withI n := by simp [ofL]
theorem foldl_ok (l : List Int) : ∀ x : Bag, x.ok → (l.foldl Bag.withI x).ok := by
  induction l with
  | nil => exact fun x h => h
  | cons n l ih => exact fun x h => ih _ (withI_ok h n)
theorem ofL_ok (l : List Int) : (ofL l).ok := foldl_ok l _ nil_ok
theorem foldl_has (l : List Int) (m : Int) : ∀ x : Bag, (l.foldl Bag.withI x).hasI m = (x.hasI m || (inB m && decide (m ∈ l))) := by
  induction l with
  | nil => intro x; simp
  | cons n l ih =>
    intro x
    rw [List.foldl_cons, ih, hasI_withI]
    rw [Bool.or_assoc, ← Bool.and_or_distrib_left]
    congr 2
    rw [Bool.eq_iff_iff]; simp
theorem ofL_has (l : List Int) (m : Int) : (ofL l).hasI m = (inB m && decide (m ∈ l)) := by
  unfold ofL; rw [foldl_has]
  have : nil.hasI m = false := by unfold Bag.hasI; rw [has_nil]; simp
  rw [this, Bool.false_or]
theorem has_hasI (x : Bag) (n : Nat) : x.has n = x.hasI (n : Int) := by
  unfold Bag.hasI
  by_cases h : n < 256
  · have : inB (n : Int) = true := inB_true.2 (by omega)
    simp [this]
  · have : x.has n = false := by cases e : x.has n with | false => rfl | true => exact absurd (has_lt e) h
    simp [this]
theorem ofL_hasN (l : List Int) (n : Nat) : (ofL l).has n = (decide (n < 256) && decide ((n : Int) ∈ l)) := by
  have e : inB (n : Int) = decide (n < 256) := by rw [Bool.eq_iff_iff, inB_true]; simp; omega
  rw [has_hasI, ofL_has, e]

/-- two that have the same are the same -/
theorem word_testBit (x : Bag) (k j : Nat) (hk : k < 4) (hj : j < 64) : (x.word k).testBit j = x.has (64 * k + j) := by
  unfold Bag.has
  rw [show (64 * k + j) / 64 = k from by omega, show (64 * k + j) % 64 = j from by omega]
  have : decide (64 * k + j < 256) = true := by simp; omega
  rw [this, Bool.true_and]
theorem word_lt {x : Bag} (h : x.ok) (k : Nat) : x.word k < 18446744073709551616 := by
  unfold Bag.word; split
  · exact h.1
  · split
    · exact h.2.1
    · split
      · exact h.2.2.1
      · exact h.2.2.2
theorem same_word {p q : Nat} (hp : p < 18446744073709551616) (hq : q < 18446744073709551616) (h : ∀ j, j < 64 → p.testBit j = q.testBit j) : p = q := by
  refine Nat.eq_of_testBit_eq fun j => ?_
  by_cases hj : j < 64
  · exact h j hj
  · have e : (2 : Nat) ^ 64 ≤ 2 ^ j := Nat.pow_le_pow_right (by decide) (by omega)
    rw [Nat.testBit_lt_two_pow (Nat.lt_of_lt_of_le (show p < 2 ^ 64 from hp) e), Nat.testBit_lt_two_pow (Nat.lt_of_lt_of_le (show q < 2 ^ 64 from hq) e)]
theorem ext {x y : Bag} (hx : x.ok) (hy : y.ok) (h : ∀ n, n < 256 → x.has n = y.has n) : x = y := by
  have hw : ∀ k, k < 4 → x.word k = y.word k := fun k hk => same_word (word_lt hx k) (word_lt hy k) fun j hj => by
    rw [word_testBit x k j hk hj, word_testBit y k j hk hj]; exact h _ (by omega)
  cases x; cases y
  have h0 := hw 0 (by decide); have h1 := hw 1 (by decide); have h2 := hw 2 (by decide); have h3 := hw 3 (by decide)
  simp [Bag.word] at h0 h1 h2 h3
  simp [h0, h1, h2, h3]
theorem word_map2 (f : Nat → Nat → Nat) (x y : Bag) (k : Nat) : (x.map2 f y).word k = f (x.word k) (y.word k) := by
  unfold Bag.map2 Bag.word; split
  · rfl
  · split
    · rfl
    · split <;> rfl
theorem or_has (x y : Bag) (n : Nat) : (x.orB y).has n = (x.has n || y.has n) := by
  unfold Bag.has Bag.orB; rw [word_map2, Nat.testBit_or]; cases decide (n < 256) <;> simp
theorem and_has (x y : Bag) (n : Nat) : (x.andB y).has n = (x.has n && y.has n) := by
  unfold Bag.has Bag.andB; rw [word_map2, Nat.testBit_and]; cases decide (n < 256) <;> simp
theorem compl_test {q : Nat} (hq : q < 18446744073709551616) (j : Nat) (hj : j < 64) : (18446744073709551615 - q).testBit j = !q.testBit j := by
  have : 18446744073709551615 - q = 2 ^ 64 - (q + 1) := by omega
  rw [this, Nat.testBit_two_pow_sub_succ hq]
  simp [hj]
theorem not_has (x : Bag) {y : Bag} (hy : y.ok) (n : Nat) : (x.notB y).has n = (x.has n && !y.has n) := by
  unfold Bag.has Bag.notB
  rw [word_map2, Nat.testBit_and, compl_test (word_lt hy _) _ (Nat.mod_lt _ (by decide))]
  cases decide (n < 256) <;> simp

/-- the list, told by what is in it -/
theorem list_of (x : Bag) (p : Nat → Bool) (h : ∀ n, n < 256 → x.has n = p n) : x.list = ((List.range 256).filter p).map Int.ofNat := by
  unfold Bag.list
  congr 1
  exact List.filter_congr fun n hn => h n (List.mem_range.1 hn)
theorem mem_list (x : Bag) (m : Int) : m ∈ x.list ↔ x.hasI m = true := by
  unfold Bag.list
  constructor
  · intro h
    obtain ⟨n, hn, rfl⟩ := List.mem_map.1 h
    have := (List.mem_filter.1 hn).2
    rw [has_hasI] at this; exact this
  · intro h
    have h1 : inB m = true := by unfold Bag.hasI at h; simp at h; exact h.1
    obtain ⟨m0, m1⟩ := inB_true.1 h1
    obtain ⟨k, rfl⟩ := Int.eq_ofNat_of_zero_le m0
    refine List.mem_map.2 ⟨k, List.mem_filter.2 ⟨List.mem_range.2 (by omega), by rw [has_hasI]; exact h⟩, rfl⟩
theorem list_same {x y : Bag} (hx : x.ok) (hy : y.ok) : x.list = y.list ↔ x = y := by
  constructor
  · intro h
    refine ext hx hy fun n _ => ?_
    rw [has_hasI, has_hasI, Bool.eq_iff_iff, ← mem_list, ← mem_list, h]
  · rintro rfl; rfl
theorem list_length_le (x : Bag) : x.list.length ≤ 256 := by
  unfold Bag.list
  rw [List.length_map]
  exact Nat.le_trans (List.length_filter_le _ _) (by simp)
theorem ofL_list {x : Bag} (hx : x.ok) : ofL x.list = x := by
  refine ext (ofL_ok _) hx fun n hn => ?_
  rw [ofL_hasN, has_hasI, Bool.eq_iff_iff]
  simp only [Bool.and_eq_true, decide_eq_true_eq, mem_list]
  exact ⟨fun h => h.2, fun h => ⟨hn, h⟩⟩
end Go.Proofs.YtnbchikiiipejaaDoor.Bg
namespace Go.Proofs.YtnbchikiiipejaaDoor.Bg

/-- the bits of a word, rising -/
def bitsOf (w : Nat) : List Nat := (List.range 64).filter w.testBit
/-- w less its lowest bit -/
theorem low_clear : ∀ (f w : Nat), 0 < w → w < 2 ^ f → Lib.ctzFrom f w < f ∧ ∀ j, (w &&& (w - 1)).testBit j = (w.testBit j && decide (j ≠ Lib.ctzFrom f w)) ∧ (j < Lib.ctzFrom f w → w.testBit j = false) ∧ w.testBit (Lib.ctzFrom f w) = true
  | 0, w, h0, h => by simp at h; omega
  | f + 1, w, h0, h => by
    unfold Lib.ctzFrom
    by_cases h1 : w % 2 = 1
    · rw [if_pos h1]
      refine ⟨by omega, fun j => ⟨?_, by omega, ?_⟩⟩
      · cases j with
        | zero => simp [Nat.testBit_zero]; omega
        | succ j =>
          rw [Nat.testBit_and, Nat.testBit_succ, Nat.testBit_succ, show (w - 1) / 2 = w / 2 from by omega]
          simp
      · simp [Nat.testBit_zero, h1]
    · rw [if_neg h1]
      have hx : w / 2 < 2 ^ f := by rw [Nat.pow_succ] at h; omega
      obtain ⟨a, b⟩ := low_clear f (w / 2) (by omega) hx
      refine ⟨by omega, fun j => ⟨?_, ?_, ?_⟩⟩
      · cases j with
        | zero =>
          simp [Nat.testBit_zero, h1]
        | succ j =>
          have := (b j).1
          rw [Nat.testBit_and] at this ⊢
          rw [Nat.testBit_succ, Nat.testBit_succ, show (w - 1) / 2 = w / 2 - 1 from by omega, this]
          congr 1
          rw [Bool.eq_iff_iff]; simp; omega
      · intro hj
        cases j with
        | zero => simp [Nat.testBit_zero]; omega
        | succ j => rw [Nat.testBit_succ]; exact (b j).2.1 (by omega)
      · rw [Nat.add_comm, Nat.testBit_succ]; exact (b 0).2.2

theorem filter_range_cons (p q : Nat → Bool) (n k : Nat) (hk : k < n) (hp : p k = true) (hlt : ∀ j, j < k → p j = false) (hq : ∀ j, j < n → q j = (p j && decide (j ≠ k))) :
    (List.range n).filter p = k :: (List.range n).filter q := by
  obtain ⟨m, rfl⟩ : ∃ m, n = k + (m + 1) := ⟨n - k - 1, by omega⟩
  have hqk : ∀ j, j < k → q j = false := fun j hj => by rw [hq j (by omega), hlt j hj]; rfl
  rw [List.range_add, List.filter_append, List.filter_append]
  have e1 : (List.range k).filter p = [] := by rw [List.filter_eq_nil_iff]; intro j hj; rw [hlt j (List.mem_range.1 hj)]; exact Bool.noConfusion
  have e2 : (List.range k).filter q = [] := by rw [List.filter_eq_nil_iff]; intro j hj; rw [hqk j (List.mem_range.1 hj)]; exact Bool.noConfusion
  rw [e1, e2, List.nil_append, List.nil_append, List.range_succ_eq_map, List.map_cons, List.filter_cons, List.filter_cons]
  rw [if_pos (by simpa using hp), if_neg (by rw [hq _ (by omega)]; simp)]
  congr 1
  refine List.filter_congr fun j hj => ?_
  obtain ⟨i, hi, rfl⟩ := List.mem_map.1 hj
  obtain ⟨i, hi', rfl⟩ := List.mem_map.1 hi
  have := List.mem_range.1 hi'
  rw [hq _ (by simp; omega)]
  simp
theorem bits_zero : bitsOf 0 = [] := by unfold bitsOf; rw [List.filter_eq_nil_iff]; intro j _; simp
theorem bits_cons {w : Nat} (h0 : w ≠ 0) (h : w < 18446744073709551616) : bitsOf w = Lib.ctz 64 w :: bitsOf (w &&& (w - 1)) := by
  obtain ⟨a, b⟩ := low_clear 64 w (by omega) h
  have e : Lib.ctz 64 w = Lib.ctzFrom 64 w := by simp [Lib.ctz, h0]
  rw [e]
  exact filter_range_cons _ _ 64 _ a (b 0).2.2 (fun j hj => (b j).2.1 hj) fun j _ => (b j).1
theorem bits_ne {w : Nat} (h0 : w ≠ 0) (h : w < 18446744073709551616) : bitsOf w ≠ [] := by rw [bits_cons h0 h]; exact List.cons_ne_nil _ _
theorem bits_lt {w j : Nat} (h : j ∈ bitsOf w) : j < 64 := List.mem_range.1 (List.mem_filter.1 h).1
theorem clear_lt {w : Nat} (h0 : w ≠ 0) (h : w < 18446744073709551616) : w &&& (w - 1) < w := by
  have h1 : w &&& (w - 1) ≤ w - 1 := Nat.and_le_right
  omega

/-- the list of a bag, word by word -/
def Bag.part (x : Bag) (k : Nat) : List Int := (bitsOf (x.word k)).map fun j => ((64 * k + j : Nat) : Int)
theorem filter_map' {α β : Type} (p : β → Bool) (f : α → β) (l : List α) : (l.map f).filter p = (l.filter fun x => p (f x)).map f := by
  rw [List.filter_map]; rfl
theorem list_parts (x : Bag) : x.list = x.part 0 ++ (x.part 1 ++ (x.part 2 ++ x.part 3)) := by
  have hw : ∀ k, k < 4 → ((List.range 64).map (64 * k + ·)).filter x.has = (bitsOf (x.word k)).map (64 * k + ·) := by
    intro k hk
    rw [filter_map']
    congr 1
    refine List.filter_congr fun j hj => ?_
    rw [word_testBit x k j hk (List.mem_range.1 hj)]
  have hr : List.range 256 = (List.range 64).map (64 * 0 + ·) ++ ((List.range 64).map (64 * 1 + ·) ++ ((List.range 64).map (64 * 2 + ·) ++ (List.range 64).map (64 * 3 + ·))) := by decide +kernel
  unfold Bag.list
  rw [hr, List.filter_append, List.filter_append, List.filter_append, hw 0 (by decide), hw 1 (by decide), hw 2 (by decide), hw 3 (by decide)]
  simp only [List.map_append, List.map_map]
  rfl
end Go.Proofs.YtnbchikiiipejaaDoor.Bg
namespace Go.Proofs.YtnbchikiiipejaaDoor.Bg

def D : List Nat → Nat
  | [] => 0
  | f :: l => f + 256 * D l
def rep (m : Nat) : Nat → Nat
  | 0 => 0
  | n + 1 => m + 256 * rep m n
def cnt (k x : Nat) : Nat := ((List.range k).filter x.testBit).length

theorem land256 (u v p q : Nat) (hu : u < 256) (hv : v < 256) : (u + 256 * p) &&& (v + 256 * q) = (u &&& v) + 256 * (p &&& q) := by
  have huv : u &&& v < 2 ^ 8 := Nat.lt_of_le_of_lt Nat.and_le_left hu
  refine Nat.eq_of_testBit_eq fun j => ?_
  rw [Nat.testBit_and, Nat.add_comm u, Nat.add_comm v, Nat.add_comm (u &&& v), show (256 : Nat) = 2 ^ 8 from rfl,
    Nat.testBit_two_pow_mul_add p (show u < 2 ^ 8 from hu), Nat.testBit_two_pow_mul_add q (show v < 2 ^ 8 from hv), Nat.testBit_two_pow_mul_add (p &&& q) huv]
  split <;> simp [Nat.testBit_and]

def g1 (f : Nat) : Nat := (f / 2 &&& 85) + (f &&& 85)
def g2 (f : Nat) : Nat := (f / 4 &&& 51) + (f &&& 51)
def g3 (f : Nat) : Nat := f / 16 + f % 16
theorem a1 : ∀ f, f < 256 → ∀ c, c < 2 → (f / 2 + 128 * c) &&& 85 = f / 2 &&& 85 := by decide +kernel
theorem a2 : ∀ f, f < 256 → ∀ c, c < 4 → (f / 4 + 64 * c) &&& 51 = f / 4 &&& 51 := by decide +kernel
theorem a3 : ∀ f, f < 256 → g1 f < 256 ∧ g2 (g1 f) < 256 ∧ g2 (g1 f) % 16 ≤ 4 ∧ g2 (g1 f) / 16 ≤ 4 ∧ g3 (g2 (g1 f)) = cnt 8 f := by decide +kernel
theorem st1 : ∀ l : List Nat, (∀ f ∈ l, f < 256) → (D l / 2 &&& rep 85 l.length) + (D l &&& rep 85 l.length) = D (l.map g1)
  | [], _ => rfl
  | f :: l, h => by
    have hf := h f (by simp)
    have ih := st1 l fun g hg => h g (by simp [hg])
    simp only [D, rep, List.length_cons, List.map_cons]
    rw [show (f + 256 * D l) / 2 = (f / 2 + 128 * (D l % 2)) + 256 * (D l / 2) from by omega, land256 _ _ _ _ (by omega) (by decide), land256 _ _ _ _ hf (by decide), a1 f hf _ (Nat.mod_lt _ (by decide)), ← ih]
    unfold g1; omega
theorem st2 : ∀ l : List Nat, (∀ f ∈ l, f < 256) → (D l / 4 &&& rep 51 l.length) + (D l &&& rep 51 l.length) = D (l.map g2)
  | [], _ => rfl
  | f :: l, h => by
    have hf := h f (by simp)
    have ih := st2 l fun g hg => h g (by simp [hg])
    simp only [D, rep, List.length_cons, List.map_cons]
    rw [show (f + 256 * D l) / 4 = (f / 4 + 64 * (D l % 4)) + 256 * (D l / 4) from by omega, land256 _ _ _ _ (by omega) (by decide), land256 _ _ _ _ hf (by decide), a2 f hf _ (Nat.mod_lt _ (by decide)), ← ih]
    unfold g2; omega
theorem st3 : ∀ l : List Nat, (∀ f ∈ l, f < 256 ∧ f % 16 ≤ 4 ∧ f / 16 ≤ 4) → (D l / 16 + D l &&& rep 15 l.length) = D (l.map g3)
  | [], _ => rfl
  | f :: l, h => by
    obtain ⟨h0, h1, h2⟩ := h f (by simp)
    have ih := st3 l fun g hg => h g (by simp [hg])
    have hx : D l % 16 ≤ 4 := by
      cases l with
      | nil => decide
      | cons g l =>
        have := (h g (by simp)).2.1
        simp only [D]; omega
    simp only [D, rep, List.length_cons, List.map_cons]
    rw [show (f + 256 * D l) / 16 + (f + 256 * D l) = (f / 16 + 16 * (D l % 16) + f) + 256 * (D l / 16 + D l) from by omega, land256 _ _ _ _ (by omega) (by decide), ih]
    have : (f / 16 + 16 * (D l % 16) + f) &&& 15 = f / 16 + f % 16 := by
      rw [show (15 : Nat) = 2 ^ 4 - 1 from rfl, Nat.and_two_pow_sub_one_eq_mod]; omega
    rw [this]; rfl
theorem cnt_add (k m x : Nat) : cnt (k + m) x = cnt k x + cnt m (x / 2 ^ k) := by
  unfold cnt
  rw [List.range_add, List.filter_append, List.length_append, List.filter_map, List.length_map]
  congr 2
  refine List.filter_congr fun j _ => ?_
  simp [Nat.testBit_div_two_pow, Nat.add_comm]
theorem cnt_mod (x : Nat) : cnt 8 x = cnt 8 (x % 256) := by
  unfold cnt; congr 1
  refine List.filter_congr fun j hj => ?_
  rw [show (256 : Nat) = 2 ^ 8 from rfl, Nat.testBit_mod_two_pow]
  have := List.mem_range.1 hj
  simp [this]
theorem cnt64 (x : Nat) : cnt 64 x = cnt 8 (x % 256) + (cnt 8 (x / 256 % 256) + (cnt 8 (x / 65536 % 256) + (cnt 8 (x / 16777216 % 256) + (cnt 8 (x / 4294967296 % 256) + (cnt 8 (x / 1099511627776 % 256) + (cnt 8 (x / 281474976710656 % 256) + cnt 8 (x / 72057594037927936 % 256))))))) := by
  rw [show (64 : Nat) = 8 + (8 + (8 + (8 + (8 + (8 + (8 + 8)))))) from rfl, cnt_add, cnt_add, cnt_add, cnt_add, cnt_add, cnt_add, cnt_add]
  simp only [Nat.div_div_eq_div_mul, show (2 : Nat) ^ 8 = 256 from rfl, Nat.reduceMul]
  rw [cnt_mod x, cnt_mod (x / 256), cnt_mod (x / 65536), cnt_mod (x / 16777216), cnt_mod (x / 4294967296), cnt_mod (x / 1099511627776), cnt_mod (x / 281474976710656), cnt_mod (x / 72057594037927936)]

theorem D_le (m : Nat) : ∀ l : List Nat, (∀ f ∈ l, f ≤ m) → D l ≤ rep m l.length
  | [], _ => Nat.le_refl _
  | f :: l, h => by
    have := D_le m l fun g hg => h g (by simp [hg])
    have := h f (by simp)
    simp only [D, rep, List.length_cons]; omega

/-- the three first steps -/
theorem steps (x : Nat) (hx : x < 18446744073709551616) : ∃ p0 p1 p2 p3 p4 p5 p6 p7 : Nat,
    ((((((x / 2 &&& 6148914691236517205) + (x &&& 6148914691236517205)) / 4 &&& 3689348814741910323) + (((x / 2 &&& 6148914691236517205) + (x &&& 6148914691236517205)) &&& 3689348814741910323)) / 16 + ((((x / 2 &&& 6148914691236517205) + (x &&& 6148914691236517205)) / 4 &&& 3689348814741910323) + (((x / 2 &&& 6148914691236517205) + (x &&& 6148914691236517205)) &&& 3689348814741910323)) &&& 1085102592571150095)
      = p0 + 256 * p1 + 65536 * p2 + 16777216 * p3 + 4294967296 * p4 + 1099511627776 * p5 + 281474976710656 * p6 + 72057594037927936 * p7)
    ∧ (((x / 2 &&& 6148914691236517205) + (x &&& 6148914691236517205)) < 18446744073709551616)
    ∧ (((((x / 2 &&& 6148914691236517205) + (x &&& 6148914691236517205)) / 4 &&& 3689348814741910323) + (((x / 2 &&& 6148914691236517205) + (x &&& 6148914691236517205)) &&& 3689348814741910323)) < 4919131752989213765)
    ∧ p0 ≤ 8 ∧ p1 ≤ 8 ∧ p2 ≤ 8 ∧ p3 ≤ 8 ∧ p4 ≤ 8 ∧ p5 ≤ 8 ∧ p6 ≤ 8 ∧ p7 ≤ 8 ∧ cnt 64 x = p0 + p1 + p2 + p3 + p4 + p5 + p6 + p7 := by
  obtain ⟨l, hl⟩ : ∃ l, l = [x % 256, x / 256 % 256, x / 65536 % 256, x / 16777216 % 256, x / 4294967296 % 256, x / 1099511627776 % 256, x / 281474976710656 % 256, x / 72057594037927936 % 256] := ⟨_, rfl⟩
  have hD : x = D l := by rw [hl]; simp only [D]; omega
  have hb : ∀ f ∈ l, f < 256 := by
    intro f hf; rw [hl] at hf; simp only [List.mem_cons, List.not_mem_nil, or_false] at hf; omega
  have hlen : l.length = 8 := by rw [hl]; rfl
  have e1 := st1 l hb
  rw [hlen, ← hD, show rep 85 8 = 6148914691236517205 from rfl] at e1
  have e2 := st2 (l.map g1) (fun f hf => by obtain ⟨g, hg, rfl⟩ := List.mem_map.1 hf; exact (a3 g (hb g hg)).1)
  rw [List.length_map, hlen, show rep 51 8 = 3689348814741910323 from rfl] at e2
  have e3 := st3 ((l.map g1).map g2) (fun f hf => by
    obtain ⟨g', hg', rfl⟩ := List.mem_map.1 hf
    obtain ⟨g, hg, rfl⟩ := List.mem_map.1 hg'
    exact ⟨(a3 g (hb g hg)).2.1, (a3 g (hb g hg)).2.2.1, (a3 g (hb g hg)).2.2.2.1⟩)
  rw [List.length_map, List.length_map, hlen, show rep 15 8 = 1085102592571150095 from rfl] at e3
  have e4 : ((l.map g1).map g2).map g3 = l.map (cnt 8) := by
    rw [List.map_map, List.map_map]
    refine List.map_congr_left fun f hf => (a3 f (hb f hf)).2.2.2.2
  have c8 : ∀ y, cnt 8 y ≤ 8 := fun y => by unfold cnt; exact Nat.le_trans (List.length_filter_le _ _) (by simp)
  have m1 : D (l.map g1) < 18446744073709551616 := by
    rw [← e1]
    have h1 : x / 2 &&& 6148914691236517205 ≤ 6148914691236517205 := Nat.and_le_right
    have h2 : x &&& 6148914691236517205 ≤ 6148914691236517205 := Nat.and_le_right
    omega
  have m2 : ∀ f ∈ (l.map g1).map g2, f ≤ 68 := fun f hf => by
    obtain ⟨g', hg', rfl⟩ := List.mem_map.1 hf
    obtain ⟨g, hg, rfl⟩ := List.mem_map.1 hg'
    have := a3 g (hb g hg)
    omega
  refine ⟨cnt 8 (x % 256), cnt 8 (x / 256 % 256), cnt 8 (x / 65536 % 256), cnt 8 (x / 16777216 % 256), cnt 8 (x / 4294967296 % 256), cnt 8 (x / 1099511627776 % 256), cnt 8 (x / 281474976710656 % 256), cnt 8 (x / 72057594037927936 % 256), ?_, ?_, ?_, c8 _, c8 _, c8 _, c8 _, c8 _, c8 _, c8 _, c8 _, ?_⟩
  · rw [e1, e2, e3, e4, hl]
    simp only [List.map_cons, List.map_nil, D]
    omega
  · rw [e1]; exact m1
  · rw [e1, e2]
    have := D_le 68 _ m2
    rw [List.length_map, List.length_map, hlen, show rep 68 8 = 4919131752989213764 from rfl] at this
    exact Nat.lt_succ_of_le this
  · rw [cnt64]; omega
theorem bits_cnt (x : Nat) : (bitsOf x).length = cnt 64 x := rfl
end Go.Proofs.YtnbchikiiipejaaDoor.Bg
