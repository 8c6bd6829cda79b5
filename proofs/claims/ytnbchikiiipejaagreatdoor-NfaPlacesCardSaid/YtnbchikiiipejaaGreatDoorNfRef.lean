/- Signs: what a text's are, and their text; plain lists, nothing of the program. -/
import Derived.Lib.ItoaNum
import Derived.Laws.Bits64b
import Derived.Laws.BitsAllLaws
import Derived.Lib.TrailingZeros
namespace Go.Proofs.YtnbchikiiipejaaGreatDoor.Lx
structure Sg where
 kind : Int
 at_ : Int
 low : Int
 high : Int
 name : List UInt8
deriving DecidableEq
inductive Res (α : Type) where
 | ok (a : α) (n : Nat)
 | bad (n : Nat) (c : Int)
deriving DecidableEq
def smB (c : UInt8) : Bool := decide (97 ≤ c.toNat) && decide (c.toNat ≤ 122)
def dgB (c : UInt8) : Bool := decide (48 ≤ c.toNat) && decide (c.toNat ≤ 57)
def inB (c : UInt8) : Bool := smB c || dgB c
def num : List UInt8 → Nat → Res Nat
 | [], k => .bad k 5
 | a :: t, k =>
  if dgB a then
   match t with
   | [] => .ok (a.toNat - 48) (k + 1)
   | b :: u =>
    if dgB b then
     if a.toNat = 48 then .bad (k + 1) 2
     else match u with
      | [] => .ok (10 * (a.toNat - 48) + (b.toNat - 48)) (k + 2)
      | c :: _ => if dgB c then .bad (k + 2) 2 else .ok (10 * (a.toNat - 48) + (b.toNat - 48)) (k + 2)
    else .ok (a.toNat - 48) (k + 1)
  else .bad k 2
def numP (t : List UInt8) (k least : Nat) : Res Nat :=
 match num t k with
 | .ok n to => if least ≤ n ∧ n ≤ 20 then .ok n to else .bad k 3
 | .bad p c => .bad p c
def shutP (low : Nat) (high : Int) (t : List UInt8) (to : Nat) : Res (Nat × Int) :=
 match t with
 | [] => .bad to 5
 | c :: _ => if c.toNat = 125 then .ok (low, high) (to + 1) else .bad to 2
def highP (low : Nat) (t : List UInt8) (k : Nat) : Res (Nat × Int) :=
 match t with
 | [] => .bad k 5
 | c :: _ =>
  if c.toNat = 125 then .ok (low, -1) (k + 1)
  else match numP t k (max low 1) with
   | .bad p e => .bad p e
   | .ok high to => shutP low high (t.drop (to - k)) to
def cnt (t : List UInt8) (k : Nat) : Res (Nat × Int) :=
 match numP t k 0 with
 | .bad p e => .bad p e
 | .ok low to =>
  match t.drop (to - k) with
  | [] => .bad to 5
  | c :: u =>
   if c.toNat = 44 then highP low u (to + 1)
   else if c.toNat = 125 then (if low = 0 then .bad k 3 else .ok (low, (low : Int)) (to + 1))
   else .bad to 2
def run (p : UInt8 → Bool) : List UInt8 → Nat
 | [] => 0
 | c :: t => if p c then run p t + 1 else 0
def single (c : UInt8) : Option (Int × Int × Int) :=
 if c.toNat = 40 then some (2, 0, 0) else if c.toNat = 41 then some (3, 0, 0) else if c.toNat = 124 then some (4, 0, 0)
 else if c.toNat = 42 then some (5, 0, -1) else if c.toNat = 43 then some (5, 1, -1) else if c.toNat = 63 then some (5, 0, 1) else none
def begins (c : UInt8) : Bool := smB c || c.toNat == 123 || (single c).isSome
def one (c : UInt8) (t : List UInt8) (k : Nat) : Res Sg :=
 if smB c then
  let n := run inB (c :: t)
  if n ≤ 12 then .ok ⟨1, k, 0, 0, (c :: t).take n⟩ (k + n) else .bad (k + 12) 2
 else if c.toNat = 123 then
  match cnt t (k + 1) with
  | .bad p e => .bad p e
  | .ok (low, high) to => .ok ⟨5, k, low, high, []⟩ to
 else match single c with
  | some (kd, lo, hi) => .ok ⟨kd, k, lo, hi, []⟩ (k + 1)
  | none => .bad k 2
def lex : Nat → List UInt8 → Nat → List Sg → Res (List Sg)
 | 0, _, _, acc => .ok acc 0
 | f + 1, t, k, acc =>
  match t with
  | [] => .ok acc 0
  | c :: u =>
   if c.toNat = 32 then lex f u (k + 1) acc
   else if begins c && acc.length == 200 then .bad k 4
   else match one c u k with
    | .bad p e => .bad p e
    | .ok x to => lex f (t.drop (to - k)) to (acc ++ [x])
def Lex (s : List UInt8) : Res (List Sg) := lex s.length s 0 []
theorem run_le (p : UInt8 → Bool) : ∀ t, run p t ≤ t.length
 | [] => Nat.le_refl _
 | c :: t => by
  have := run_le p t
  unfold run
  split
  ·simp; omega
  ·simp
theorem num_to {t : List UInt8} {k n to : Nat} (h : num t k = .ok n to) : k < to ∧ to ≤ k + t.length ∧ to ≤ k + 2 ∧ n ≤ 3000 := by
 unfold num at h
 cases t with
 | nil => simp at h
 | cons a t =>
  have ha := a.toNat_lt
  simp only at h
  split at h
  ·cases t with
   | nil => simp at h; simp; omega
   | cons b u =>
    have hb := b.toNat_lt
    simp only at h
    split at h
    ·split at h
     ·simp at h
     ·cases u with
      | nil => simp at h; simp; omega
      | cons c u =>
       simp only at h
       split at h
       ·simp at h
       ·simp at h; simp; omega
    ·simp at h; simp; omega
  ·simp at h
theorem numP_to {t : List UInt8} {k l n to : Nat} (h : numP t k l = .ok n to) : num t k = .ok n to ∧ l ≤ n ∧ n ≤ 20 := by
 unfold numP at h
 split at h
 ·split at h
  ·injection h with h1 h2; subst h1; subst h2; exact ⟨‹_›, by omega, by omega⟩
  ·simp at h
 ·simp at h
theorem shutP_to {t : List UInt8} {k to l : Nat} {hi : Int} {p : Nat × Int} (h : shutP l hi t k = .ok p to) : p = (l, hi) ∧ to = k + 1 ∧ 0 < t.length := by
 unfold shutP at h
 split at h
 ·simp at h
 ·split at h
  ·injection h with h1 h2; exact ⟨h1.symm, h2.symm, by simp⟩
  ·simp at h
theorem highP_to {t : List UInt8} {k to l : Nat} {p : Nat × Int} (h : highP l t k = .ok p to) : p.1 = l ∧ (p.2 = -1 ∨ (1 ≤ p.2 ∧ p.2 ≤ 20 ∧ (l : Int) ≤ p.2)) ∧ k < to ∧ to ≤ k + t.length := by
 unfold highP at h
 split at h
 ·simp at h
 ·split at h
  ·injection h with h1 h2; subst h1; subst h2; exact ⟨rfl, .inl rfl, by omega, by simp⟩
  ·split at h
   ·simp at h
   ·rename_i hn
    obtain ⟨h1, h2, h3⟩ := numP_to hn
    have h4 := num_to h1
    obtain ⟨rfl, h6, h7⟩ := shutP_to h
    simp only [List.length_drop] at h7
    exact ⟨rfl, .inr ⟨by omega, by omega, by omega⟩, by omega, by omega⟩
theorem cnt_to {t : List UInt8} {k to : Nat} {p : Nat × Int} (h : cnt t k = .ok p to) : p.1 ≤ 20 ∧ (p.2 = -1 ∨ (1 ≤ p.2 ∧ p.2 ≤ 20 ∧ (p.1 : Int) ≤ p.2)) ∧ k < to ∧ to ≤ k + t.length := by
 unfold cnt at h
 split at h
 ·simp at h
 ·rename_i hn
  obtain ⟨h1, h2, h3⟩ := numP_to hn
  have h4 := num_to h1
  split at h
  ·simp at h
  ·rename_i hd
   have hl := congrArg List.length hd
   simp only [List.length_drop, List.length_cons] at hl
   split at h
   ·obtain ⟨h5, h6, h7, h8⟩ := highP_to h
    exact ⟨by omega, by rw [h5]; exact h6, by omega, by omega⟩
   ·split at h
    ·split at h
     ·simp at h
     ·injection h with e1 e2; subst e1; subst e2; exact ⟨h3, .inr ⟨by simp; omega, by simp; omega, Int.le_refl _⟩, by omega, by omega⟩
    ·simp at h
theorem one_to {c : UInt8} {t : List UInt8} {k to : Nat} {x : Sg} (h : one c t k = .ok x to) : k < to ∧ to ≤ k + t.length + 1 := by
 unfold one at h
 split at h
 ·rename_i hs
  have h1 := run_le inB (c :: t)
  have h2 : 0 < run inB (c :: t) := by
   unfold run; rw [if_pos (by simp [inB, hs])]; omega
  simp only at h
  split at h
  ·injection h with _ e; subst e; simp at h1; omega
  ·simp at h
 ·split at h
  ·split at h
   ·simp at h
   ·rename_i hc
    have := cnt_to hc
    injection h with _ e; subst e; omega
  ·split at h
   ·injection h with _ e; subst e; omega
   ·simp at h
theorem lex_fuel : ∀ (f g : Nat) (t : List UInt8) (k : Nat) (acc : List Sg), t.length ≤ f → t.length ≤ g → lex f t k acc = lex g t k acc
 | 0, 0, _, _, _, _, _ => rfl
 | 0, g + 1, [], _, _, _, _ => by simp [lex]
 | 0, g + 1, _ :: _, _, _, h, _ => by simp at h
 | f + 1, 0, [], _, _, _, _ => by simp [lex]
 | f + 1, 0, _ :: _, _, _, _, h => by simp at h
 | f + 1, g + 1, [], _, _, _, _ => by simp [lex]
 | f + 1, g + 1, c :: u, k, acc, h1, h2 => by
  simp only [List.length_cons] at h1 h2
  have e1 := lex_fuel f g u (k + 1) acc (by omega) (by omega)
  simp only [lex, e1]
  cases ho : one c u k with
  | bad p e => rfl
  | ok x to =>
   have := one_to ho
   simp only
   rw [lex_fuel f g ((c :: u).drop (to - k)) to (acc ++ [x]) (by simp; omega) (by simp; omega)]
def From (t : List UInt8) (k : Nat) (acc : List Sg) : Res (List Sg) := lex t.length t k acc
theorem from_nil (k : Nat) (acc : List Sg) : From [] k acc = .ok acc 0 := rfl
theorem from_blank {c : UInt8} (u : List UInt8) (k : Nat) (acc : List Sg) (h : c.toNat = 32) : From (c :: u) k acc = From u (k + 1) acc := by
 simp [From, lex, h]
theorem from_full {c : UInt8} (u : List UInt8) (k : Nat) (acc : List Sg) (h : begins c = true) (ha : acc.length = 200) : From (c :: u) k acc = .bad k 4 := by
 have : c.toNat ≠ 32 := by
  intro e
  have hc : c = 32 := UInt8.toNat_inj.1 (by simpa using e)
  subst hc; revert h; decide
 simp [From, lex, h, ha, this]
theorem from_bad {c : UInt8} (u : List UInt8) (k : Nat) (acc : List Sg) (h32 : c.toNat ≠ 32) (h : ¬ (begins c = true ∧ acc.length = 200)) {p : Nat} {e : Int} (ho : one c u k = .bad p e) : From (c :: u) k acc = .bad p e := by
 have : (begins c && acc.length == 200) = false := by
  cases hb : begins c
  ·rfl
  ·simp [hb] at h; simp [h]
 simp [From, lex, h32, this, ho]
theorem from_ok {c : UInt8} (u : List UInt8) (k : Nat) (acc : List Sg) (h32 : c.toNat ≠ 32) (h : ¬ (begins c = true ∧ acc.length = 200)) {x : Sg} {to : Nat} (ho : one c u k = .ok x to) : From (c :: u) k acc = From ((c :: u).drop (to - k)) to (acc ++ [x]) := by
 have : (begins c && acc.length == 200) = false := by
  cases hb : begins c
  ·rfl
  ·simp [hb] at h; simp [h]
 have ht := one_to ho
 simp only [From, lex, List.length_cons, if_neg h32, this, ho, Bool.false_eq_true, if_false]
 exact lex_fuel _ _ _ _ _ (by simp; omega) (Nat.le_refl _)
end Go.Proofs.YtnbchikiiipejaaGreatDoor.Lx
namespace Go.Proofs.YtnbchikiiipejaaGreatDoor.Lx
open Go.Lib
def times (low high : Int) : List UInt8 :=
 if low = 0 ∧ high = -1 then [42] else if low = 1 ∧ high = -1 then [43] else if low = 0 ∧ high = 1 then [63]
 else 123 :: itoa low ++ (if low = high then [125] else if high = -1 then [44, 125] else 44 :: itoa high ++ [125])
def show1 (x : Sg) : List UInt8 :=
 if x.kind = 1 then x.name else if x.kind = 2 then [40] else if x.kind = 3 then [41] else if x.kind = 4 then [124] else if x.kind = 5 then times x.low x.high else []
def piece (i : Nat) (x : Sg) : List UInt8 := (if 0 < i ∧ x.kind ≠ 5 then [32] else []) ++ show1 x
def showN : Nat → List Sg → List UInt8
 | _, [] => []
 | i, x :: l => piece i x ++ showN (i + 1) l
theorem showN_append : ∀ (a b : List Sg) (i : Nat), showN i (a ++ b) = showN i a ++ showN (i + a.length) b
 | [], b, i => by simp [showN]
 | x :: a, b, i => by
  simp only [List.cons_append, showN, showN_append a b (i + 1), List.append_assoc, List.length_cons]
  rw [show i + 1 + a.length = i + (a.length + 1) from by omega]
theorem showN_take (l : List Sg) (k : Nat) (h : k < l.length) : showN 0 (l.take (k + 1)) = showN 0 (l.take k) ++ piece k l[k] := by
 rw [List.take_succ_eq_append_getElem h, showN_append, List.length_take, Nat.min_eq_left (by omega)]
 simp [showN]
def Fine (x : Sg) : Prop :=
 (x.kind = 1 ∧ x.low = 0 ∧ x.high = 0 ∧ (∃ c t, x.name = c :: t ∧ smB c = true) ∧ (∀ c ∈ x.name, inB c = true) ∧ x.name.length ≤ 12)
 ∨ ((x.kind = 2 ∨ x.kind = 3 ∨ x.kind = 4) ∧ x.low = 0 ∧ x.high = 0 ∧ x.name = [])
 ∨ (x.kind = 5 ∧ x.name = [] ∧ 0 ≤ x.low ∧ x.low ≤ 20 ∧ (x.high = -1 ∨ (1 ≤ x.high ∧ x.high ≤ 20 ∧ x.low ≤ x.high)))
def Alike (x y : Sg) : Prop := x.kind = y.kind ∧ x.low = y.low ∧ x.high = y.high ∧ x.name = y.name
theorem run_all (p : UInt8 → Bool) : ∀ (a : List UInt8) (b : List UInt8), (∀ c ∈ a, p c = true) → (∀ c t, b = c :: t → p c = false) → run p (a ++ b) = a.length
 | [], b, _, h => by
  cases b with
  | nil => rfl
  | cons c t => simp [run, h c t rfl]
 | c :: a, b, h1, h2 => by
  simp only [List.cons_append, run, h1 c (by simp), if_true, List.length_cons]
  rw [run_all p a b (fun c hc => h1 c (by simp [hc])) h2]
theorem run_taken (p : UInt8 → Bool) : ∀ (t : List UInt8), ∀ c ∈ t.take (run p t), p c = true
 | [] => by simp [run]
 | c :: t => by
  intro d hd
  unfold run at hd
  split at hd
  ·rename_i hc
   rw [List.take_succ_cons] at hd
   rcases List.mem_cons.1 hd with h | h
   ·rw [h]; exact hc
   ·exact run_taken p t d h
  ·simp at hd
theorem one_fine {c : UInt8} {t : List UInt8} {k to : Nat} {x : Sg} (h : one c t k = .ok x to) : Fine x ∧ x.at_ = k := by
 unfold one at h
 split at h
 ·rename_i hs
  simp only at h
  split at h
  ·rename_i hle
   injection h with e _; subst e
   have h2 : 0 < run inB (c :: t) := by
    unfold run; rw [if_pos (by simp [inB, hs])]; omega
   refine ⟨.inl ⟨rfl, rfl, rfl, ⟨c, t.take (run inB (c :: t) - 1), ?_, hs⟩, run_taken inB (c :: t), ?_⟩, rfl⟩
   ·obtain ⟨m, hm⟩ : ∃ m, run inB (c :: t) = m + 1 := ⟨run inB (c :: t) - 1, by omega⟩
    rw [hm]; simp
   ·simp only [List.length_take, List.length_cons]; omega
  ·simp at h
 ·split at h
  ·split at h
   ·simp at h
   ·rename_i hc
    obtain ⟨h1, h2, _⟩ := cnt_to hc
    injection h with e _; subst e
    exact ⟨.inr (.inr ⟨rfl, rfl, by simp, by simp; omega, h2⟩), rfl⟩
  ·split at h
   ·rename_i hsn
    injection h with e _; subst e
    refine ⟨?_, rfl⟩
    unfold single at hsn
    repeat' split at hsn
    all_goals first
     | (simp only [Option.some.injEq, Prod.mk.injEq] at hsn; obtain ⟨rfl, rfl, rfl⟩ := hsn; simp [Fine])
     | simp at hsn
   ·simp at h
theorem lex_fine : ∀ (f : Nat) (t : List UInt8) (k : Nat) (acc l : List Sg) (n : Nat), (∀ x ∈ acc, Fine x) → acc.length ≤ 200 → lex f t k acc = .ok l n → (∀ x ∈ l, Fine x) ∧ l.length ≤ 200 ∧ n = 0
 | 0, t, k, acc, l, n, h, ha, e => by simp [lex] at e; obtain ⟨rfl, rfl⟩ := e; exact ⟨h, ha, rfl⟩
 | f + 1, t, k, acc, l, n, h, ha, e => by
  cases t with
  | nil => simp [lex] at e; obtain ⟨rfl, rfl⟩ := e; exact ⟨h, ha, rfl⟩
  | cons c u =>
   unfold lex at e
   simp only at e
   split at e
   ·exact lex_fine f u (k + 1) acc l n h ha e
   ·split at e
    ·simp at e
    ·rename_i hb
     split at e
     ·simp at e
     ·rename_i x to ho
      have hx := (one_fine ho).1
      refine lex_fine f _ to (acc ++ [x]) l n ?_ ?_ e
      ·intro y hy
       rcases List.mem_append.1 hy with h1 | h1
       ·exact h y h1
       ·rw [List.mem_singleton] at h1; subst h1; exact hx
      ·have hbb : begins c = true := by
        cases hbc : begins c
        ·exfalso
         unfold begins at hbc
         simp only [Bool.or_eq_false_iff] at hbc
         obtain ⟨⟨b1, b2⟩, b3⟩ := hbc
         have b2' : c.toNat ≠ 123 := by simpa using b2
         have b3' : single c = none := by cases hs : single c <;> simp_all
         rw [one, b1, if_neg (by decide), if_neg b2', b3'] at ho
         simp at ho
        ·rfl
       have : acc.length ≠ 200 := by
        intro e2; apply hb; simp [hbb, e2]
       simp; omega
def dc (m : Nat) : UInt8 := UInt8.ofNat (48 + m)
theorem dc_nat (m : Nat) (h : m < 10) : (dc m).toNat = 48 + m := by
 unfold dc; simp only [UInt8.toNat_ofNat']; omega
theorem dc_dg (m : Nat) (h : m < 10) : dgB (dc m) = true := by
 have := dc_nat m h
 simp only [dgB, this, Bool.and_eq_true, decide_eq_true_eq]; omega
theorem dec_small (n : Nat) (h : n ≤ 20) : decDigits n = if n < 10 then [dc n] else [dc (n / 10), dc (n % 10)] := by
 rw [decDigits]
 by_cases h1 : n < 10
 ·rw [dif_pos h1, if_pos h1]; rfl
 ·rw [dif_neg h1, if_neg h1, decDigits, dif_pos (by omega)]; rfl
theorem itoa_nat (n : Nat) : itoa (n : Int) = decDigits n := by
 unfold itoa
 rw [if_neg (by omega)]
 simp
theorem num_dec (n : Nat) (h : n ≤ 20) (c : UInt8) (t : List UInt8) (hc : dgB c = false) (k : Nat) : num (decDigits n ++ c :: t) k = .ok n (k + (decDigits n).length) := by
 rw [dec_small n h]
 by_cases h1 : n < 10
 ·simp [num, h1, dc_dg n h1, hc, dc_nat n h1]
 ·simp [num, h1, dc_dg (n / 10) (by omega), dc_dg (n % 10) (by omega), hc, dc_nat (n / 10) (by omega), dc_nat (n % 10) (by omega)]
  omega
theorem numP_dec (n : Nat) (h : n ≤ 20) (c : UInt8) (t : List UInt8) (hc : dgB c = false) (k l : Nat) (hl : l ≤ n) : numP (decDigits n ++ c :: t) k l = .ok n (k + (decDigits n).length) := by
 simp [numP, num_dec n h c t hc k, hl, h]
theorem dec_head (n : Nat) (h : n ≤ 20) : ∃ d u, decDigits n = d :: u ∧ dgB d = true := by
 rw [dec_small n h]
 split
 ·exact ⟨_, _, rfl, dc_dg n (by omega)⟩
 ·exact ⟨_, _, rfl, dc_dg (n / 10) (by omega)⟩
theorem cnt_shown (low : Nat) (high : Int) (hl : low ≤ 20) (hh : high = -1 ∨ (1 ≤ high ∧ high ≤ 20 ∧ (low : Int) ≤ high)) (t : List UInt8) (k : Nat) :
  cnt (itoa low ++ (if (low : Int) = high then [125] else if high = -1 then [44, 125] else 44 :: itoa high ++ [125]) ++ t) k
   = .ok (low, high) (k + (itoa low ++ (if (low : Int) = high then [125] else if high = -1 then [44, 125] else 44 :: itoa high ++ [125])).length) := by
 rw [itoa_nat]
 by_cases h1 : (low : Int) = high
 ·have h0 : low ≠ 0 := by omega
  simp only [if_pos h1, List.append_assoc, List.singleton_append, cnt, numP_dec low hl 125 t (by decide) k 0 (Nat.zero_le _), Nat.add_sub_cancel_left]
  rw [List.drop_append_of_le_length (Nat.le_refl _), List.drop_length]
  simp [h0, h1]; omega
 ·by_cases h2 : high = -1
  ·simp only [if_neg h1, if_pos h2, List.append_assoc, List.cons_append, List.nil_append, cnt, numP_dec low hl 44 (125 :: t) (by decide) k 0 (Nat.zero_le _), Nat.add_sub_cancel_left]
   rw [List.drop_append_of_le_length (Nat.le_refl _), List.drop_length]
   simp [highP, h2]; omega
  ·obtain ⟨m, rfl⟩ : ∃ m : Nat, high = m := ⟨high.toNat, by omega⟩
   have hm : m ≤ 20 := by omega
   obtain ⟨d, u, hdu, hd⟩ := dec_head m hm
   have hd125 : d.toNat ≠ 125 := by
    simp only [dgB, Bool.and_eq_true, decide_eq_true_eq] at hd; omega
   simp only [if_neg h1, if_neg h2, List.append_assoc, List.cons_append, List.nil_append, cnt, numP_dec low hl 44 _ (by decide) k 0 (Nat.zero_le _), Nat.add_sub_cancel_left]
   rw [List.drop_append_of_le_length (Nat.le_refl _), List.drop_length, itoa_nat]
   have e := numP_dec m hm 125 t (by decide) (k + (decDigits low).length + 1) (max low 1) (by omega)
   have e' : (decDigits m ++ (125 :: t)).drop (k + (decDigits low).length + 1 + (decDigits m).length - (k + (decDigits low).length + 1)) = 125 :: t := by
    rw [Nat.add_sub_cancel_left, List.drop_append_of_le_length (Nat.le_refl _), List.drop_length]; rfl
   rw [hdu] at e e'
   simp only [List.nil_append, hdu, List.cons_append] at e e' ⊢
   simp [highP, hd125, e, shutP]
   omega
theorem one_shown (x : Sg) (hx : Fine x) (t : List UInt8) (ht : ∀ c u, t = c :: u → inB c = false) (k : Nat) :
  ∃ c u y, show1 x ++ t = c :: u ∧ c.toNat ≠ 32 ∧ one c u k = .ok y (k + (show1 x).length) ∧ Alike y x := by
 rcases hx with ⟨h1, h2, h3, ⟨c, u, hn, hc⟩, h4, h5⟩ | ⟨h1, h2, h3, h4⟩ | ⟨h1, h2, h3, h4, h5⟩
 ·have hs : show1 x = c :: u := by simp [show1, h1, hn]
  have hr : run inB (c :: (u ++ t)) = (c :: u).length := run_all inB (c :: u) t (by rw [← hn]; exact h4) ht
  refine ⟨c, u ++ t, ⟨1, k, 0, 0, c :: u⟩, by rw [hs]; rfl, ?_, ?_, ?_⟩
  ·simp only [smB, Bool.and_eq_true, decide_eq_true_eq] at hc; omega
  ·rw [hn] at h5
   unfold one
   rw [if_pos hc]
   simp only [hr, if_pos h5, hs]
   congr 1
   have : (c :: (u ++ t)).take (c :: u).length = c :: u := by
    rw [show c :: (u ++ t) = (c :: u) ++ t from rfl, List.take_append_of_le_length (Nat.le_refl _), List.take_length]
   rw [this]
  ·exact ⟨h1.symm, h2.symm, h3.symm, hn.symm⟩
 ·have go : ∀ (c : UInt8) (kd : Int), x.kind = kd → show1 x = [c] → c.toNat ≠ 32 → c.toNat ≠ 123 → smB c = false → single c = some (kd, 0, 0) →
    ∃ c u y, show1 x ++ t = c :: u ∧ c.toNat ≠ 32 ∧ one c u k = .ok y (k + (show1 x).length) ∧ Alike y x := by
   intro c kd e1 e2 e3 e4 e5 e6
   refine ⟨c, t, ⟨kd, k, 0, 0, []⟩, by rw [e2]; rfl, e3, ?_, e1.symm, h2.symm, h3.symm, h4.symm⟩
   simp [one, e4, e5, e6, e2]
  rcases h1 with h | h | h
  ·exact go 40 2 h (by simp [show1, h]) (by decide) (by decide) (by decide) (by decide)
  ·exact go 41 3 h (by simp [show1, h]) (by decide) (by decide) (by decide) (by decide)
  ·exact go 124 4 h (by simp [show1, h]) (by decide) (by decide) (by decide) (by decide)
 ·have hs : show1 x = times x.low x.high := by simp [show1, h1]
  have go : ∀ (c : UInt8) (lo hi : Int), x.low = lo → x.high = hi → times x.low x.high = [c] → c.toNat ≠ 32 → c.toNat ≠ 123 → smB c = false → single c = some (5, lo, hi) →
    ∃ c u y, show1 x ++ t = c :: u ∧ c.toNat ≠ 32 ∧ one c u k = .ok y (k + (show1 x).length) ∧ Alike y x := by
   intro c lo hi e1 e1' e2 e3 e4 e5 e6
   refine ⟨c, t, ⟨5, k, lo, hi, []⟩, by rw [hs, e2]; rfl, e3, ?_, h1.symm, e1.symm, e1'.symm, h2.symm⟩
   simp [one, e4, e5, e6, hs, e2]
  by_cases a : x.low = 0 ∧ x.high = -1
  ·exact go 42 0 (-1) a.1 a.2 (by unfold times; rw [if_pos a]) (by decide) (by decide) (by decide) (by decide)
  ·by_cases b : x.low = 1 ∧ x.high = -1
   ·exact go 43 1 (-1) b.1 b.2 (by unfold times; rw [if_neg a, if_pos b]) (by decide) (by decide) (by decide) (by decide)
   ·by_cases d : x.low = 0 ∧ x.high = 1
    ·exact go 63 0 1 d.1 d.2 (by unfold times; rw [if_neg a, if_neg b, if_pos d]) (by decide) (by decide) (by decide) (by decide)
    ·obtain ⟨low, hlow⟩ : ∃ m : Nat, x.low = m := ⟨x.low.toNat, by omega⟩
     have ht' : times x.low x.high = 123 :: (itoa low ++ (if (low : Int) = x.high then [125] else if x.high = -1 then [44, 125] else 44 :: itoa x.high ++ [125])) := by
      unfold times; rw [if_neg a, if_neg b, if_neg d, hlow]; rfl
     have hcn := cnt_shown low x.high (by omega) (by rw [← hlow]; exact h5) t (k + 1)
     refine ⟨123, _, ⟨5, k, low, x.high, []⟩, by rw [hs, ht', List.cons_append], by decide, ?_, h1.symm, hlow.symm, rfl, h2.symm⟩
     unfold one
     rw [if_neg (by decide), if_pos (by decide), hcn, hs, ht']
     simp only [List.length_cons]
     congr 1; omega
theorem from_one {c : UInt8} {u t : List UInt8} {k m : Nat} {acc : List Sg} {y : Sg} (h32 : c.toNat ≠ 32) (ha : acc.length < 200) (ho : one c u k = .ok y (k + m)) (ht : (c :: u).drop m = t) : From (c :: u) k acc = From t (k + m) (acc ++ [y]) := by
 rw [from_ok u k acc h32 (by intro h; omega) ho, Nat.add_sub_cancel_left, ht]
end Go.Proofs.YtnbchikiiipejaaGreatDoor.Lx
namespace Go.Proofs.YtnbchikiiipejaaGreatDoor.Ex
open Lx (Sg)
structure Pt where
 kind : Int
 low : Int
 high : Int
 name : List UInt8
 kids : List Nat
deriving DecidableEq
inductive Lv where
 | bare
 | item
 | row (ks : List Nat)
 | choice (ks : List Nat)
def hd : List Sg → Int
 | [] => 0
 | x :: _ => x.kind
def whole (kind : Int) (e : List Pt) (ks : List Nat) : Nat × List Pt :=
 match ks with
 | [k] => (k, e)
 | ks => (e.length, e ++ [⟨kind, 0, 0, [], ks⟩])
inductive Rd : Lv → List Sg → List Pt → Bool → Nat → List Sg → List Pt → Prop where
 | name {x : Sg} {l : List Sg} {e : List Pt} : x.kind = 1 → Rd .bare (x :: l) e true e.length l (e ++ [⟨1, 0, 0, x.name, []⟩])
 | none {l : List Sg} {e : List Pt} : hd l ≠ 1 → hd l ≠ 2 → Rd .bare l e false 0 l e
 | inBad {x : Sg} {l l' : List Sg} {e e' : List Pt} {k : Nat} : x.kind = 2 → Rd (.choice []) l e false k l' e' → Rd .bare (x :: l) e false 0 l' e'
 | noShut {x : Sg} {l l' : List Sg} {e e' : List Pt} {k : Nat} : x.kind = 2 → Rd (.choice []) l e true k l' e' → hd l' ≠ 3 → Rd .bare (x :: l) e false 0 l' e'
 | shut {x y : Sg} {l l' : List Sg} {e e' : List Pt} {k : Nat} : x.kind = 2 → Rd (.choice []) l e true k (y :: l') e' → y.kind = 3 → Rd .bare (x :: l) e true k l' e'
 | itemBad {l l' : List Sg} {e e' : List Pt} {k : Nat} : Rd .bare l e false k l' e' → Rd .item l e false 0 l' e'
 | item {l l' : List Sg} {e e' : List Pt} {k : Nat} : Rd .bare l e true k l' e' → hd l' ≠ 5 → Rd .item l e true k l' e'
 | times {x : Sg} {l l' : List Sg} {e e' : List Pt} {k : Nat} : Rd .bare l e true k (x :: l') e' → x.kind = 5 → Rd .item l e true e'.length l' (e' ++ [⟨4, x.low, x.high, [], [k]⟩])
 | rowBad {ks : List Nat} {l l' : List Sg} {e e' : List Pt} {k : Nat} : Rd .item l e false k l' e' → Rd (.row ks) l e false 0 l' e'
 | rowMore {ks : List Nat} {l l' l'' : List Sg} {e e' e'' : List Pt} {k k' : Nat} {ok : Bool} : Rd .item l e true k l' e' → (hd l' = 1 ∨ hd l' = 2) → Rd (.row (ks ++ [k])) l' e' ok k' l'' e'' → Rd (.row ks) l e ok k' l'' e''
 | rowEnd {ks : List Nat} {l l' : List Sg} {e e' : List Pt} {k : Nat} : Rd .item l e true k l' e' → hd l' ≠ 1 → hd l' ≠ 2 → Rd (.row ks) l e true (whole 2 e' (ks ++ [k])).1 l' (whole 2 e' (ks ++ [k])).2
 | chBad {ks : List Nat} {l l' : List Sg} {e e' : List Pt} {k : Nat} : Rd (.row []) l e false k l' e' → Rd (.choice ks) l e false 0 l' e'
 | chMore {ks : List Nat} {x : Sg} {l l' l'' : List Sg} {e e' e'' : List Pt} {k k' : Nat} {ok : Bool} : Rd (.row []) l e true k (x :: l') e' → x.kind = 4 → Rd (.choice (ks ++ [k])) l' e' ok k' l'' e'' → Rd (.choice ks) l e ok k' l'' e''
 | chEnd {ks : List Nat} {l l' : List Sg} {e e' : List Pt} {k : Nat} : Rd (.row []) l e true k l' e' → hd l' ≠ 4 → Rd (.choice ks) l e true (whole 3 e' (ks ++ [k])).1 l' (whole 3 e' (ks ++ [k])).2
inductive Ck where
 | bad (l : List Sg)
 | fin (d : Nat) (it : Bool)
def wrong (d : Nat) (it ct : Bool) (k : Int) : Bool := (it && k != 1 && k != 2) || (k == 3 && d == 0) || (k == 5 && ct)
def chk : Nat → Bool → Bool → List Sg → Ck
 | d, it, _, [] => .fin d it
 | d, it, ct, x :: l => if wrong d it ct x.kind then .bad (x :: l) else
   chk (if x.kind = 2 then d + 1 else if x.kind = 3 then d - 1 else d) (x.kind == 2 || x.kind == 4) (x.kind != 1 && x.kind != 3) l
def Kinds (l : List Sg) : Prop := ∀ x ∈ l, 1 ≤ x.kind ∧ x.kind ≤ 5
theorem Rd.left {v : Lv} {l l' : List Sg} {e e' : List Pt} {ok : Bool} {k : Nat} (h : Rd v l e ok k l' e') : l' <:+ l := by
 induction h with
 | name _ => exact List.suffix_cons _ _
 | none _ _ => exact List.suffix_refl _
 | inBad _ _ ih => exact ih.trans (List.suffix_cons _ _)
 | noShut _ _ _ ih => exact ih.trans (List.suffix_cons _ _)
 | shut _ _ _ ih => exact ((List.suffix_cons _ _).trans ih).trans (List.suffix_cons _ _)
 | itemBad _ ih => exact ih
 | item _ _ ih => exact ih
 | times _ _ ih => exact (List.suffix_cons _ _).trans ih
 | rowBad _ ih => exact ih
 | rowMore _ _ _ ih1 ih2 => exact ih2.trans ih1
 | rowEnd _ _ _ ih => exact ih
 | chBad _ ih => exact ih
 | chMore _ _ _ ih1 ih2 => exact (ih2.trans (List.suffix_cons _ _)).trans ih1
 | chEnd _ _ ih => exact ih
theorem Kinds.left {l l' : List Sg} (h : Kinds l) (s : l' <:+ l) : Kinds l' := fun x hx => h x (s.mem hx)
def Stops (v : Lv) (ct : Bool) (l : List Sg) : Prop :=
 match v with
 | .bare => ct = false
 | .item => hd l = 5 → ct = true
 | .row _ => (hd l = 5 → ct = true) ∧ hd l ≠ 1 ∧ hd l ≠ 2
 | .choice _ => (hd l = 5 → ct = true) ∧ hd l ≠ 1 ∧ hd l ≠ 2 ∧ hd l ≠ 4
def Agrees (v : Lv) (l : List Sg) (ok : Bool) (l' : List Sg) : Prop :=
 ∀ d : Nat, match ok with
  | true => ∃ ct, chk d true true l = chk d false ct l' ∧ Stops v ct l'
  | false => match l' with
   | [] => ∃ d' it, chk d true true l = .fin d' it ∧ (it = true ∨ 0 < d')
   | x :: r => chk d true true l = .bad (x :: r)
theorem agrees {v : Lv} {l l' : List Sg} {e e' : List Pt} {ok : Bool} {k : Nat} (h : Rd v l e ok k l' e') (hk : Kinds l) : Agrees v l ok l' := by
 induction h with
 | @name x l e h1 =>
  intro d
  exact ⟨false, by simp [chk, wrong, h1], rfl⟩
 | @none l e h1 h2 =>
  intro d
  cases l with
  | nil => exact ⟨d, true, rfl, .inl rfl⟩
  | cons x r =>
   simp only [hd] at h1 h2
   simp [chk, wrong, h1, h2]
 | @inBad x l l' e e' k h2 _ ih =>
  intro d
  have := ih (fun y hy => hk y (by simp [hy])) (d + 1)
  have e1 : chk d true true (x :: l) = chk (d + 1) true true l := by simp [chk, wrong, h2]
  rw [e1]
  exact this
 | @noShut x l l' e e' k h2 hr h3 ih =>
  intro d
  have hk2 : Kinds l := fun y hy => hk y (by simp [hy])
  obtain ⟨ct, h4, h5⟩ := ih hk2 (d + 1)
  have e1 : chk d true true (x :: l) = chk (d + 1) true true l := by simp [chk, wrong, h2]
  rw [e1, h4]
  cases l' with
  | nil => exact ⟨d + 1, false, rfl, .inr (by omega)⟩
  | cons y r =>
   have hy := hk2 y (hr.left.mem (by simp))
   simp only [Stops, hd] at h5 h3
   have h6 : y.kind = 5 := by omega
   obtain rfl := h5.1 h6
   simp [chk, wrong, h6]
 | @shut x y l l' e e' k h2 hr h3 ih =>
  intro d
  obtain ⟨ct, h4, h5⟩ := ih (fun y hy => hk y (by simp [hy])) (d + 1)
  have e1 : chk d true true (x :: l) = chk (d + 1) true true l := by simp [chk, wrong, h2]
  refine ⟨false, ?_, rfl⟩
  rw [e1, h4]
  simp [chk, wrong, h3]
 | itemBad _ ih => intro d; exact ih hk d
 | @item l l' e e' k _ h5 ih =>
  intro d
  obtain ⟨ct, h6, h7⟩ := ih hk d
  exact ⟨ct, h6, fun h => absurd h h5⟩
 | @times x l l' e e' k _ h5 ih =>
  intro d
  obtain ⟨ct, h6, h7⟩ := ih hk d
  simp only [Stops] at h7
  subst h7
  refine ⟨true, ?_, fun _ => rfl⟩
  rw [h6]
  simp [chk, wrong, h5]
 | rowBad _ ih => intro d; exact ih hk d
 | @rowMore ks l l' l'' e e' e'' k k' ok hr h1 hr2 ih1 ih2 =>
  intro d
  obtain ⟨ct, h6, h7⟩ := ih1 hk d
  have e1 : chk d false ct l' = chk d true true l' := by
   cases l' with
   | nil => simp [hd] at h1
   | cons x r =>
    simp only [hd] at h1
    rcases h1 with h1 | h1 <;> simp [chk, wrong, h1]
  have h8 := ih2 (hk.left hr.left) d
  rw [← e1, ← h6] at h8
  exact h8
 | @rowEnd ks l l' e e' k _ h1 h2 ih =>
  intro d
  obtain ⟨ct, h6, h7⟩ := ih hk d
  exact ⟨ct, h6, h7, h1, h2⟩
 | chBad _ ih => intro d; exact ih hk d
 | @chMore ks x l l' l'' e e' e'' k k' ok hr h4 hr2 ih1 ih2 =>
  intro d
  obtain ⟨ct, h6, h7⟩ := ih1 hk d
  have e1 : chk d false ct (x :: l') = chk d true true l' := by simp [chk, wrong, h4]
  have h8 := ih2 ((hk.left hr.left).left (List.suffix_cons _ _)) d
  rw [← e1, ← h6] at h8
  exact h8
 | @chEnd ks l l' e e' k _ h4 ih =>
  intro d
  obtain ⟨ct, h6, h7⟩ := ih hk d
  exact ⟨ct, h6, h7.1, h7.2.1, h7.2.2, h4⟩
end Go.Proofs.YtnbchikiiipejaaGreatDoor.Ex
namespace Go.Proofs.YtnbchikiiipejaaGreatDoor.Ex
open Lx (Sg)
inductive Sn : Lv → List Sg → List Pt → Nat → List Pt → Prop where
 | name {x : Sg} {e : List Pt} : x.kind = 1 → Sn .bare [x] e e.length (e ++ [⟨1, 0, 0, x.name, []⟩])
 | shut {x y : Sg} {s : List Sg} {e e' : List Pt} {k : Nat} : x.kind = 2 → Sn (.choice []) s e k e' → y.kind = 3 → Sn .bare (x :: (s ++ [y])) e k e'
 | item {s : List Sg} {e e' : List Pt} {k : Nat} : Sn .bare s e k e' → Sn .item s e k e'
 | times {x : Sg} {s : List Sg} {e e' : List Pt} {k : Nat} : Sn .bare s e k e' → x.kind = 5 → Sn .item (s ++ [x]) e e'.length (e' ++ [⟨4, x.low, x.high, [], [k]⟩])
 | rowMore {ks : List Nat} {s t : List Sg} {e e' e'' : List Pt} {k k' : Nat} : Sn .item s e k e' → Sn (.row (ks ++ [k])) t e' k' e'' → Sn (.row ks) (s ++ t) e k' e''
 | rowEnd {ks : List Nat} {s : List Sg} {e e' : List Pt} {k : Nat} : Sn .item s e k e' → Sn (.row ks) s e (whole 2 e' (ks ++ [k])).1 (whole 2 e' (ks ++ [k])).2
 | chMore {ks : List Nat} {x : Sg} {s t : List Sg} {e e' e'' : List Pt} {k k' : Nat} : Sn (.row []) s e k e' → x.kind = 4 → Sn (.choice (ks ++ [k])) t e' k' e'' → Sn (.choice ks) (s ++ x :: t) e k' e''
 | chEnd {ks : List Nat} {s : List Sg} {e e' : List Pt} {k : Nat} : Sn (.row []) s e k e' → Sn (.choice ks) s e (whole 3 e' (ks ++ [k])).1 (whole 3 e' (ks ++ [k])).2
theorem Rd.seg {v : Lv} {l l' : List Sg} {e e' : List Pt} {ok : Bool} {k : Nat} (h : Rd v l e ok k l' e') (ho : ok = true) : ∃ s, l = s ++ l' ∧ Sn v s e k e' := by
 induction h with
 | name h1 => exact ⟨[_], rfl, .name h1⟩
 | none _ _ => simp at ho
 | inBad _ _ _ => simp at ho
 | noShut _ _ _ _ => simp at ho
 | shut h2 _ h3 ih =>
  obtain ⟨s, rfl, h⟩ := ih ho
  exact ⟨_, by simp, .shut h2 h h3⟩
 | itemBad _ _ => simp at ho
 | item _ _ ih =>
  obtain ⟨s, rfl, h⟩ := ih ho
  exact ⟨s, rfl, .item h⟩
 | times _ h5 ih =>
  obtain ⟨s, rfl, h⟩ := ih ho
  exact ⟨_, by simp, .times h h5⟩
 | rowBad _ _ => simp at ho
 | rowMore _ _ _ ih1 ih2 =>
  obtain ⟨s, rfl, h⟩ := ih1 rfl
  obtain ⟨t, rfl, g⟩ := ih2 ho
  exact ⟨_, by simp, .rowMore h g⟩
 | rowEnd _ _ _ ih =>
  obtain ⟨s, rfl, h⟩ := ih rfl
  exact ⟨s, rfl, .rowEnd h⟩
 | chBad _ _ => simp at ho
 | chMore _ h4 _ ih1 ih2 =>
  obtain ⟨s, rfl, h⟩ := ih1 rfl
  obtain ⟨t, rfl, g⟩ := ih2 ho
  exact ⟨_, by simp, .chMore h h4 g⟩
 | chEnd _ _ ih =>
  obtain ⟨s, rfl, h⟩ := ih rfl
  exact ⟨s, rfl, .chEnd h⟩
def jump : Nat → List Sg → Nat
 | _, [] => 0
 | d, x :: l => if x.kind = 2 then jump (d + 1) l + 1 else if x.kind = 3 then (if d = 1 then 0 else jump (d - 1) l + 1) else jump d l + 1
theorem Sn.jump {v : Lv} {s : List Sg} {e e' : List Pt} {k : Nat} (h : Sn v s e k e') : ∀ (d : Nat) (r : List Sg), 0 < d → jump d (s ++ r) = jump d r + s.length := by
 induction h with
 | name h1 => intro d r hd; simp [Ex.jump, h1]
 | @shut x y s e e' k h2 _ h3 ih =>
  intro d r hd
  have h := ih (d + 1) (y :: r) (by omega)
  have e1 : Ex.jump d (x :: (s ++ [y]) ++ r) = Ex.jump (d + 1) (s ++ (y :: r)) + 1 := by simp [Ex.jump, h2]
  rw [e1, h]
  have e2 : Ex.jump (d + 1) (y :: r) = Ex.jump d r + 1 := by simp [Ex.jump, h3]; omega
  rw [e2]; simp; omega
 | item _ ih => exact ih
 | @times x s e e' k _ h5 ih =>
  intro d r hd
  rw [List.append_assoc, ih d _ hd]
  simp [Ex.jump, h5]; omega
 | @rowMore ks s t e e' e'' k k' _ _ ih1 ih2 =>
  intro d r hd
  rw [List.append_assoc, ih1 d _ hd, ih2 d _ hd]; simp; omega
 | rowEnd _ ih => exact ih
 | @chMore ks x s t e e' e'' k k' _ h4 _ ih1 ih2 =>
  intro d r hd
  rw [List.append_assoc, ih1 d _ hd]
  have e1 : Ex.jump d (x :: t ++ r) = Ex.jump d (t ++ r) + 1 := by simp [Ex.jump, h4]
  rw [e1, ih2 d _ hd]; simp; omega
 | chEnd _ ih => exact ih
theorem Sn.shuts {y : Sg} {s r : List Sg} {e e' : List Pt} {k : Nat} {v : Lv} (h : Sn v s e k e') (hy : y.kind = 3) : Ex.jump 1 (s ++ y :: r) = s.length := by
 rw [h.jump 1 _ (by omega)]; simp [Ex.jump, hy]
def cuts (way : Nat) : Nat → Nat → Bool → List Sg → List Nat
 | 0, _, _, _ => []
 | _, _, _, [] => []
 | f + 1, i, first, x :: l =>
  (if way = 2 ∧ first = false ∧ (x.kind = 1 ∨ x.kind = 2) then [i] else if way = 3 ∧ x.kind = 4 then [i + 1] else []) ++
  (if x.kind = 2 then cuts way f (i + 1 + Ex.jump 1 l + 1) false (l.drop (Ex.jump 1 l + 1)) else cuts way f (i + 1) false l)
theorem cuts_fuel (way : Nat) : ∀ (f g i : Nat) (b : Bool) (l : List Sg), l.length ≤ f → l.length ≤ g → cuts way f i b l = cuts way g i b l
 | 0, 0, _, _, _, _, _ => rfl
 | 0, g + 1, _, _, [], _, _ => by simp [cuts]
 | 0, g + 1, _, _, _ :: _, h, _ => by simp at h
 | f + 1, 0, _, _, [], _, _ => by simp [cuts]
 | f + 1, 0, _, _, _ :: _, _, h => by simp at h
 | f + 1, g + 1, _, _, [], _, _ => by simp [cuts]
 | f + 1, g + 1, i, b, x :: l, h1, h2 => by
  simp only [List.length_cons] at h1 h2
  have e1 := cuts_fuel way f g (i + 1) false l (by omega) (by omega)
  have e2 := cuts_fuel way f g (i + 1 + Ex.jump 1 l + 1) false (l.drop (Ex.jump 1 l + 1)) (by simp; omega) (by simp; omega)
  simp only [cuts, e1, e2]
def Cuts (way i : Nat) (b : Bool) (l : List Sg) : List Nat := cuts way l.length i b l
theorem cuts_nil (way i : Nat) (b : Bool) : Cuts way i b [] = [] := rfl
theorem cuts_cons (way i : Nat) (b : Bool) (x : Sg) (l : List Sg) : Cuts way i b (x :: l) =
  (if way = 2 ∧ b = false ∧ (x.kind = 1 ∨ x.kind = 2) then [i] else if way = 3 ∧ x.kind = 4 then [i + 1] else []) ++
  (if x.kind = 2 then Cuts way (i + 1 + Ex.jump 1 l + 1) false (l.drop (Ex.jump 1 l + 1)) else Cuts way (i + 1) false l) := by
 have e2 := cuts_fuel way l.length (l.drop (Ex.jump 1 l + 1)).length (i + 1 + Ex.jump 1 l + 1) false (l.drop (Ex.jump 1 l + 1)) (by simp) (Nat.le_refl _)
 simp only [Cuts, List.length_cons, cuts, e2]
theorem Sn.cuts_bare {s : List Sg} {e e' : List Pt} {k : Nat} (h : Sn .bare s e k e') (way i : Nat) (b : Bool) (r : List Sg) :
  Cuts way i b (s ++ r) = (if way = 2 ∧ b = false then [i] else []) ++ Cuts way (i + s.length) false r := by
 cases h with
 | @name x e h1 =>
  rw [List.singleton_append, cuts_cons]
  simp [h1]
 | @shut x y s e e' k h2 hc h3 =>
  have hj : Ex.jump 1 (s ++ (y :: r)) = s.length := hc.shuts h3
  have e1 : x :: (s ++ [y]) ++ r = x :: (s ++ (y :: r)) := by simp
  rw [e1, cuts_cons, hj]
  have e2 : (s ++ y :: r).drop (s.length + 1) = r := by simp [List.drop_append]
  rw [e2]
  simp [h2]
  rw [show i + 1 + s.length + 1 = i + (s.length + 1 + 1) from by omega]
theorem Sn.cuts_item {s : List Sg} {e e' : List Pt} {k : Nat} (h : Sn .item s e k e') (way i : Nat) (b : Bool) (r : List Sg) :
  Cuts way i b (s ++ r) = (if way = 2 ∧ b = false then [i] else []) ++ Cuts way (i + s.length) false r := by
 cases h with
 | item h => exact h.cuts_bare way i b r
 | @times x s e e' k h h5 =>
  rw [List.append_assoc, h.cuts_bare way i b]
  congr 1
  rw [List.singleton_append, cuts_cons]
  simp [h5]
  rw [show i + s.length + 1 = i + (s.length + 1) from by omega]
end Go.Proofs.YtnbchikiiipejaaGreatDoor.Ex
namespace Go.Proofs.YtnbchikiiipejaaGreatDoor.Ex
open Lx (Sg)
theorem Sn.last {v : Lv} {s : List Sg} {e e' : List Pt} {k : Nat} (h : Sn v s e k e') : e'.length = k + 1 := by
 have wh : ∀ (kd : Int) (ks : List Nat) (k : Nat) (e' : List Pt), e'.length = k + 1 → (whole kd e' (ks ++ [k])).2.length = (whole kd e' (ks ++ [k])).1 + 1 := by
  intro kd ks k e' h
  cases ks with
  | nil => exact h
  | cons a ks =>
   cases ks with
   | nil => simp [whole]
   | cons b ks => simp [whole]
 induction h with
 | name _ => simp
 | shut _ _ _ ih => exact ih
 | item _ ih => exact ih
 | times _ _ _ => simp
 | rowMore _ _ _ ih2 => exact ih2
 | rowEnd _ ih => exact wh 2 _ _ _ ih
 | chMore _ _ _ _ ih2 => exact ih2
 | chEnd _ ih => exact wh 3 _ _ _ ih
theorem Sn.ne {v : Lv} {s : List Sg} {e e' : List Pt} {k : Nat} (h : Sn v s e k e') : 0 < s.length := by
 induction h with
 | name _ => simp
 | shut _ _ _ _ => simp
 | item _ ih => exact ih
 | times _ _ _ => simp
 | rowMore _ _ ih1 _ => simp; omega
 | rowEnd _ ih => exact ih
 | chMore _ _ _ _ _ => simp only [List.length_append, List.length_cons]; omega
 | chEnd _ ih => exact ih
def slack : Lv → Nat
 | .row (_ :: _) => 0
 | .choice (_ :: _) => 0
 | _ => 1
theorem slack_le (v : Lv) : slack v ≤ 1 := by unfold slack; split <;> omega
theorem Sn.grown' {v : Lv} {s : List Sg} {e e' : List Pt} {k : Nat} (h : Sn v s e k e') : ∃ n, 0 < n.length ∧ e' = e ++ n ∧ n.length + slack v ≤ 2 * s.length := by
 have wh : ∀ (kd : Int) (ks : List Nat) (k m : Nat) (e n : List Pt), 0 < n.length → n.length + 1 ≤ m → ∃ n', 0 < n'.length ∧ (whole kd (e ++ n) (ks ++ [k])).2 = e ++ n' ∧ n'.length + (match ks with | [] => 1 | _ => 0) ≤ m := by
  intro kd ks k m e n h1 h2
  cases ks with
  | nil => exact ⟨n, h1, rfl, by simpa using h2⟩
  | cons a ks =>
   cases ks with
   | nil => exact ⟨n ++ [⟨kd, 0, 0, [], [a, k]⟩], by simp, by simp [whole], by simp; omega⟩
   | cons b ks => exact ⟨n ++ [⟨kd, 0, 0, [], a :: b :: (ks ++ [k])⟩], by simp, by simp [whole], by simp; omega⟩
 have sr : ∀ ks, slack (.row ks) = (match ks with | [] => 1 | _ => 0) := by intro ks; cases ks <;> rfl
 have sc : ∀ ks, slack (.choice ks) = (match ks with | [] => 1 | _ => 0) := by intro ks; cases ks <;> rfl
 have s0 : ∀ (ks : List Nat) (k : Nat), slack (.row (ks ++ [k])) = 0 := by intro ks k; cases ks <;> rfl
 have c0 : ∀ (ks : List Nat) (k : Nat), slack (.choice (ks ++ [k])) = 0 := by intro ks k; cases ks <;> rfl
 induction h with
 | name _ => exact ⟨[_], by simp, rfl, by simp [slack]⟩
 | shut _ _ _ ih =>
  obtain ⟨n, h1, h2, h3⟩ := ih
  refine ⟨n, h1, h2, ?_⟩
  simp only [slack, List.length_cons, List.length_append, List.length_nil] at h3 ⊢
  omega
 | item _ ih => exact ih
 | times _ _ ih =>
  obtain ⟨n, h1, rfl, h3⟩ := ih
  refine ⟨n ++ [_], by simp, List.append_assoc _ _ _, ?_⟩
  simp only [slack, List.length_cons, List.length_append, List.length_nil] at h3 ⊢
  omega
 | @rowMore ks s t e e' e'' k k' _ _ ih1 ih2 =>
  obtain ⟨n, h1, rfl, h3⟩ := ih1
  obtain ⟨m, g1, rfl, g3⟩ := ih2
  refine ⟨n ++ m, by simp; omega, by simp, ?_⟩
  have := slack_le (.row ks)
  rw [s0] at g3
  simp only [slack] at h3
  simp only [List.length_append]
  omega
 | @rowEnd ks s e e' k _ ih =>
  obtain ⟨n, h1, rfl, h3⟩ := ih
  obtain ⟨m, g1, g2, g3⟩ := wh 2 ks k (2 * s.length) e n h1 (by simpa [slack] using h3)
  exact ⟨m, g1, g2, by rw [sr]; exact g3⟩
 | @chMore ks x s t e e' e'' k k' _ _ _ ih1 ih2 =>
  obtain ⟨n, h1, rfl, h3⟩ := ih1
  obtain ⟨m, g1, rfl, g3⟩ := ih2
  refine ⟨n ++ m, by simp; omega, by simp, ?_⟩
  have := slack_le (.choice ks)
  rw [c0] at g3
  simp only [slack] at h3
  simp only [List.length_append, List.length_cons]
  omega
 | @chEnd ks s e e' k _ ih =>
  obtain ⟨n, h1, rfl, h3⟩ := ih
  obtain ⟨m, g1, g2, g3⟩ := wh 3 ks k (2 * s.length) e n h1 (by simpa [slack] using h3)
  exact ⟨m, g1, g2, by rw [sc]; exact g3⟩
theorem Sn.grown {v : Lv} {s : List Sg} {e e' : List Pt} {k : Nat} (h : Sn v s e k e') : ∃ n, 0 < n.length ∧ e' = e ++ n ∧ n.length ≤ 2 * s.length := by
 obtain ⟨n, h1, h2, h3⟩ := h.grown'
 exact ⟨n, h1, h2, by omega⟩
theorem cuts3_flag (i : Nat) (b c : Bool) : ∀ l : List Sg, Cuts 3 i b l = Cuts 3 i c l
 | [] => rfl
 | x :: l => by rw [cuts_cons, cuts_cons]; simp
theorem Sn.cuts_one {s : List Sg} {e e' : List Pt} {k : Nat} (h : Sn .item s e k e') (way i : Nat) : Cuts way i true s = [] := by
 have := h.cuts_item way i true []
 rw [List.append_nil] at this
 rw [this, cuts_nil]; simp
theorem Sn.cuts3_row {v : Lv} {s : List Sg} {e e' : List Pt} {k : Nat} (h : Sn v s e k e') : ∀ ks, v = .row ks → ∀ (i : Nat) (b : Bool) (r : List Sg), Cuts 3 i b (s ++ r) = Cuts 3 (i + s.length) false r := by
 induction h with
 | name _ => intro ks h; cases h
 | shut _ _ _ _ => intro ks h; cases h
 | item _ _ => intro ks h; cases h
 | times _ _ _ => intro ks h; cases h
 | rowMore h1 h2 _ ih2 =>
  intro ks hk i b r
  rw [List.append_assoc, h1.cuts_item 3 i b, ih2 _ rfl]
  simp [Nat.add_assoc]
 | rowEnd h1 _ =>
  intro ks hk i b r
  rw [h1.cuts_item 3 i b]; simp
 | chMore _ _ _ _ _ => intro ks h; cases h
 | chEnd _ _ => intro ks h; cases h
theorem cuts3_more {x : Sg} {s t : List Sg} {e e' : List Pt} {k : Nat} (h1 : Sn (.row []) s e k e') (h4 : x.kind = 4) (i : Nat) : Cuts 3 i true (s ++ x :: t) = (i + s.length + 1) :: Cuts 3 (i + s.length + 1) true t := by
 rw [h1.cuts3_row [] rfl i true, cuts_cons, cuts3_flag _ true false]
 simp [h4]
theorem cuts3_one {s : List Sg} {e e' : List Pt} {k : Nat} (h1 : Sn (.row []) s e k e') (i : Nat) : Cuts 3 i true s = [] := by
 have := h1.cuts3_row [] rfl i true []
 rw [List.append_nil] at this
 rw [this, cuts_nil]
end Go.Proofs.YtnbchikiiipejaaGreatDoor.Ex
namespace Go.Proofs.YtnbchikiiipejaaGreatDoor.Bg
structure Bag where
 a : Nat
 b : Nat
 c : Nat
 d : Nat
def Bag.ok (x : Bag) : Prop := x.a < 18446744073709551616 ∧ x.b < 18446744073709551616 ∧ x.c < 18446744073709551616 ∧ x.d < 18446744073709551616
def Bag.word (x : Bag) (k : Nat) : Nat := if k = 0 then x.a else if k = 1 then x.b else if k = 2 then x.c else x.d
def Bag.has (x : Bag) (n : Nat) : Bool := decide (n < 256) && (x.word (n / 64)).testBit (n % 64)
def inB (n : Int) : Bool := decide (0 ≤ n) && decide (n < 256)
def Bag.hasI (x : Bag) (n : Int) : Bool := inB n && x.has n.toNat
def Bag.list (x : Bag) : List Int := ((List.range 256).filter x.has).map Int.ofNat
def nil : Bag := ⟨0, 0, 0, 0⟩
def Bag.map2 (f : Nat → Nat → Nat) (x y : Bag) : Bag := ⟨f x.a y.a, f x.b y.b, f x.c y.c, f x.d y.d⟩
def Bag.orB (x y : Bag) : Bag := x.map2 (· ||| ·) y
def setW (w r : Nat) : Nat := w ||| 2 ^ r
def Bag.withN (x : Bag) (n : Nat) : Bag :=
 if n / 64 = 0 then { x with a := setW x.a (n % 64) } else if n / 64 = 1 then { x with b := setW x.b (n % 64) } else if n / 64 = 2 then { x with c := setW x.c (n % 64) } else { x with d := setW x.d (n % 64) }
def Bag.withI (x : Bag) (n : Int) : Bag := if inB n then x.withN n.toNat else x
theorem inB_true {n : Int} : inB n = true ↔ 0 ≤ n ∧ n < 256 := by simp [inB]
theorem setW_lt {w r : Nat} (h : w < 18446744073709551616) (hr : r < 64) : setW w r < 18446744073709551616 :=
 Nat.or_lt_two_pow (n := 64) h (Nat.lt_of_lt_of_le (Nat.pow_lt_pow_right (by decide) hr) (by decide))
theorem setW_test (w r j : Nat) : (setW w r).testBit j = (w.testBit j || decide (r = j)) := by
 unfold setW; rw [Nat.testBit_or, Nat.testBit_two_pow]
theorem nil_ok : nil.ok := by simp [Bag.ok, nil]
theorem withN_ok {x : Bag} (h : x.ok) (n : Nat) : (x.withN n).ok := by
 obtain ⟨h1, h2, h3, h4⟩ := h
 have hr : n % 64 < 64 := Nat.mod_lt _ (by decide)
 unfold Bag.withN
 split
 ·exact ⟨setW_lt h1 hr, h2, h3, h4⟩
 ·split
  ·exact ⟨h1, setW_lt h2 hr, h3, h4⟩
  ·split
   ·exact ⟨h1, h2, setW_lt h3 hr, h4⟩
   ·exact ⟨h1, h2, h3, setW_lt h4 hr⟩
theorem withI_ok {x : Bag} (h : x.ok) (n : Int) : (x.withI n).ok := by
 unfold Bag.withI; split
 ·exact withN_ok h _
 ·exact h
theorem or_lt {p q : Nat} (hp : p < 18446744073709551616) (hq : q < 18446744073709551616) : p ||| q < 18446744073709551616 := Nat.or_lt_two_pow (n := 64) hp hq
theorem or_ok {x y : Bag} (h : x.ok) (g : y.ok) : (x.orB y).ok := ⟨or_lt h.1 g.1, or_lt h.2.1 g.2.1, or_lt h.2.2.1 g.2.2.1, or_lt h.2.2.2 g.2.2.2⟩
theorem word_withN (x : Bag) (n k : Nat) (hn : n < 256) (hk : k < 4) : (x.withN n).word k = if k = n / 64 then setW (x.word k) (n % 64) else x.word k := by
 rcases (show n / 64 = 0 ∨ n / 64 = 1 ∨ n / 64 = 2 ∨ n / 64 = 3 by omega) with e | e | e | e <;>
  rcases (show k = 0 ∨ k = 1 ∨ k = 2 ∨ k = 3 by omega) with rfl | rfl | rfl | rfl <;> simp [Bag.withN, Bag.word, e]
theorem has_withN (x : Bag) (n m : Nat) (hn : n < 256) : (x.withN n).has m = (x.has m || decide (m = n)) := by
 unfold Bag.has
 by_cases hm : m < 256
 ·rw [word_withN x n _ hn (by omega)]
  simp only [hm, decide_true, Bool.true_and]
  by_cases e : m / 64 = n / 64
  ·rw [if_pos e, setW_test]
   congr 1
   rw [Bool.eq_iff_iff]; simp; omega
  ·rw [if_neg e]
   have : decide (m = n) = false := by simp; omega
   rw [this, Bool.or_false]
 ·have : decide (m = n) = false := by simp; omega
  simp [hm, this]
theorem hasI_withI (x : Bag) (n m : Int) : (x.withI n).hasI m = (x.hasI m || (inB m && decide (m = n))) := by
 unfold Bag.withI Bag.hasI
 cases hm : inB m
 ·simp
 ·obtain ⟨m0, m1⟩ := inB_true.1 hm
  cases hn : inB n
  ·have : decide (m = n) = false := by
    simp only [decide_eq_false_iff_not]; rintro rfl; rw [hm] at hn; cases hn
   simp [this]
  ·obtain ⟨n0, n1⟩ := inB_true.1 hn
   simp only [if_true, Bool.true_and]
   rw [has_withN _ _ _ (by omega)]
   congr 1
   rw [Bool.eq_iff_iff]; simp; omega
theorem word_nil (k : Nat) : nil.word k = 0 := by unfold Bag.word nil; split <;> (try split) <;> (try split) <;> rfl
theorem has_nil (n : Nat) : nil.has n = false := by unfold Bag.has; rw [word_nil]; simp
theorem has_lt {x : Bag} {n : Nat} (h : x.has n = true) : n < 256 := by unfold Bag.has at h; simp at h; exact h.1
def ofL (l : List Int) : Bag := l.foldl Bag.withI nil
theorem ofL_snoc (l : List Int) (n : Int) : ofL (l ++ [n]) = (ofL l).withI n := by simp [ofL]
theorem foldl_ok (l : List Int) : ∀ x : Bag, x.ok → (l.foldl Bag.withI x).ok := by
 induction l with
 | nil => exact fun x h => h
 | cons n l ih => exact fun x h => ih _ (withI_ok h n)
theorem ofL_ok (l : List Int) : (ofL l).ok := foldl_ok l _ nil_ok
theorem foldl_has (l : List Int) (m : Int) : ∀ x : Bag, (l.foldl Bag.withI x).hasI m = (x.hasI m || (inB m && decide (m ∈ l))) := by
 induction l with
 | nil => intro x; simp
 | cons n l ih =>
  intro x
  rw [List.foldl_cons, ih, hasI_withI]
  rw [Bool.or_assoc, ← Bool.and_or_distrib_left]
  congr 2
  rw [Bool.eq_iff_iff]; simp
theorem ofL_has (l : List Int) (m : Int) : (ofL l).hasI m = (inB m && decide (m ∈ l)) := by
 unfold ofL; rw [foldl_has]
 have : nil.hasI m = false := by unfold Bag.hasI; rw [has_nil]; simp
 rw [this, Bool.false_or]
theorem has_hasI (x : Bag) (n : Nat) : x.has n = x.hasI (n : Int) := by
 unfold Bag.hasI
 by_cases h : n < 256
 ·have : inB (n : Int) = true := inB_true.2 (by omega)
  simp [this]
 ·have : x.has n = false := by cases e : x.has n with | false => rfl | true => exact absurd (has_lt e) h
  simp [this]
theorem ofL_hasN (l : List Int) (n : Nat) : (ofL l).has n = (decide (n < 256) && decide ((n : Int) ∈ l)) := by
 have e : inB (n : Int) = decide (n < 256) := by rw [Bool.eq_iff_iff, inB_true]; simp; omega
 rw [has_hasI, ofL_has, e]
theorem word_testBit (x : Bag) (k j : Nat) (hk : k < 4) (hj : j < 64) : (x.word k).testBit j = x.has (64 * k + j) := by
 unfold Bag.has
 rw [show (64 * k + j) / 64 = k from by omega, show (64 * k + j) % 64 = j from by omega]
 have : decide (64 * k + j < 256) = true := by simp; omega
 rw [this, Bool.true_and]
theorem word_lt {x : Bag} (h : x.ok) (k : Nat) : x.word k < 18446744073709551616 := by
 unfold Bag.word; split
 ·exact h.1
 ·split
  ·exact h.2.1
  ·split
   ·exact h.2.2.1
   ·exact h.2.2.2
theorem same_word {p q : Nat} (hp : p < 18446744073709551616) (hq : q < 18446744073709551616) (h : ∀ j, j < 64 → p.testBit j = q.testBit j) : p = q := by
 refine Nat.eq_of_testBit_eq fun j => ?_
 by_cases hj : j < 64
 ·exact h j hj
 ·have e : (2 : Nat) ^ 64 ≤ 2 ^ j := Nat.pow_le_pow_right (by decide) (by omega)
  rw [Nat.testBit_lt_two_pow (Nat.lt_of_lt_of_le (show p < 2 ^ 64 from hp) e), Nat.testBit_lt_two_pow (Nat.lt_of_lt_of_le (show q < 2 ^ 64 from hq) e)]
theorem ext {x y : Bag} (hx : x.ok) (hy : y.ok) (h : ∀ n, n < 256 → x.has n = y.has n) : x = y := by
 have hw : ∀ k, k < 4 → x.word k = y.word k := fun k hk => same_word (word_lt hx k) (word_lt hy k) fun j hj => by
  rw [word_testBit x k j hk hj, word_testBit y k j hk hj]; exact h _ (by omega)
 cases x; cases y
 have h0 := hw 0 (by decide); have h1 := hw 1 (by decide); have h2 := hw 2 (by decide); have h3 := hw 3 (by decide)
 simp [Bag.word] at h0 h1 h2 h3
 simp [h0, h1, h2, h3]
theorem list_of (x : Bag) (p : Nat → Bool) (h : ∀ n, n < 256 → x.has n = p n) : x.list = ((List.range 256).filter p).map Int.ofNat := by
 unfold Bag.list
 congr 1
 exact List.filter_congr fun n hn => h n (List.mem_range.1 hn)
theorem mem_list (x : Bag) (m : Int) : m ∈ x.list ↔ x.hasI m = true := by
 unfold Bag.list
 constructor
 ·intro h
  obtain ⟨n, hn, rfl⟩ := List.mem_map.1 h
  have := (List.mem_filter.1 hn).2
  rw [has_hasI] at this; exact this
 ·intro h
  have h1 : inB m = true := by unfold Bag.hasI at h; simp at h; exact h.1
  obtain ⟨m0, m1⟩ := inB_true.1 h1
  obtain ⟨k, rfl⟩ := Int.eq_ofNat_of_zero_le m0
  refine List.mem_map.2 ⟨k, List.mem_filter.2 ⟨List.mem_range.2 (by omega), by rw [has_hasI]; exact h⟩, rfl⟩
theorem list_length_le (x : Bag) : x.list.length ≤ 256 := by
 unfold Bag.list
 rw [List.length_map]
 exact Nat.le_trans (List.length_filter_le _ _) (by simp)
theorem ofL_list {x : Bag} (hx : x.ok) : ofL x.list = x := by
 refine ext (ofL_ok _) hx fun n hn => ?_
 rw [ofL_hasN, has_hasI, Bool.eq_iff_iff]
 simp only [Bool.and_eq_true, decide_eq_true_eq, mem_list]
 exact ⟨fun h => h.2, fun h => ⟨hn, h⟩⟩
end Go.Proofs.YtnbchikiiipejaaGreatDoor.Bg
namespace Go.Proofs.YtnbchikiiipejaaGreatDoor.Nf
open Bg (Bag)
open Ex (Pt)
structure En where
 on : Bag
 behind : Bag
structure Pc where
 em : Bool
 first : Bag
 ends : Bag
def En.ok (x : En) : Prop := x.on.ok ∧ x.behind.ok
def Within (n : Nat) (b : Bag) : Prop := b.ok ∧ ∀ j, b.has j = true → j < n
def Pc.within (n : Nat) (p : Pc) : Prop := Within n p.first ∧ Within n p.ends
def emp : Pc := ⟨true, Bg.nil, Bg.nil⟩
def lead1 (to : Bag) (e : En) : En := { e with behind := e.behind.orB to }
def leadL (is : List Int) (to : Bag) (l : List En) : List En := is.foldl (fun l i => l.modify i.toNat (lead1 to)) l
def lead (frm to : Bag) (l : List En) : List En := leadL frm.list to l
def often (p : Pt) : Nat := if p.kind = 4 then (if p.high < 0 then max p.low.toNat 1 else p.high.toNat) else 1
def lay (on : Bag) (l : List En) : Pc × List En := (⟨false, Bg.nil.withN l.length, Bg.nil.withN l.length⟩, l ++ [⟨on, Bg.nil⟩])
def join (one rest : Pc) : Pc := ⟨one.em && rest.em, if one.em then one.first.orB rest.first else one.first, if rest.em then rest.ends.orB one.ends else rest.ends⟩
def ahead (one rest : Pc) (l : List En) : Pc × List En := (join one rest, lead one.ends rest.first l)
def line (must : Int) : Nat → List Pc → List En → Pc × List En
 | _, [], l => (emp, l)
 | i, one :: t, l =>
  let r := line must (i + 1) t l
  let a := ahead one r.1 r.2
  (⟨a.1.em || decide (must ≤ (i : Int)), a.1.first, a.1.ends⟩, a.2)
def or1 (all one : Pc) : Pc := ⟨all.em || one.em, all.first.orB one.first, all.ends.orB one.ends⟩
def either (l : List Pc) : Pc := l.foldl or1 ⟨false, Bg.nil, Bg.nil⟩
def several (wr : Nat → List En → Pc × List En) : List Nat → List Pc → List En → List Pc × List En
 | [], acc, l => (acc, l)
 | k :: ks, acc, l => several wr ks (acc ++ [(wr k l).1]) (wr k l).2
def close (p : Pt) (m : List UInt8 → Bag) (s : List Pc) (l : List En) : Pc × List En :=
 if p.kind = 1 then lay (m p.name) l
 else if p.kind = 2 then line s.length 0 s l
 else if p.kind = 3 then (either s, l)
 else if p.high < 0 then line p.low 0 s (lead (s.getLastD emp).ends (s.getLastD emp).first l)
 else line p.low 0 s l
def kidsOf (p : Pt) : List Nat := (List.replicate (often p) p.kids).flatten
def write (e : List Pt) (m : List UInt8 → Bag) : Nat → Nat → List En → Pc × List En
 | 0, _, l => (emp, l)
 | f + 1, k, l =>
  match e[k]? with
  | none => (emp, l)
  | some p =>
   let s := several (write e m f) (kidsOf p) [] l
   close p m s.1 s.2
theorem leadL_length (to : Bag) : ∀ (is : List Int) (l : List En), (leadL is to l).length = l.length
 | [], _ => rfl
 | i :: is, l => by
  have := leadL_length to is (l.modify i.toNat (lead1 to))
  simp only [leadL, List.foldl_cons] at this ⊢
  rw [this, List.length_modify]
theorem lead_length (frm to : Bag) (l : List En) : (lead frm to l).length = l.length := leadL_length _ _ _
theorem leadL_append (to : Bag) (a b : List Int) (l : List En) : leadL (a ++ b) to l = leadL b to (leadL a to l) := by simp [leadL]
theorem lead1_ok {to : Bag} (ht : to.ok) {e : En} (h : e.ok) : (lead1 to e).ok := ⟨h.1, Bg.or_ok h.2 ht⟩
theorem leadL_ok {to : Bag} (ht : to.ok) : ∀ (is : List Int) (l : List En), (∀ x ∈ l, x.ok) → ∀ x ∈ leadL is to l, x.ok
 | [], _, h => h
 | i :: is, l, h => by
  refine leadL_ok ht is (l.modify i.toNat (lead1 to)) ?_
  intro x hx
  obtain ⟨j, hj, rfl⟩ := List.mem_iff_getElem.1 hx
  rw [List.getElem_modify]
  have hj' : j < l.length := by simpa using hj
  split
  ·exact lead1_ok ht (h _ (List.getElem_mem hj'))
  ·exact h _ (List.getElem_mem hj')
theorem within_nil (n : Nat) : Within n Bg.nil := ⟨Bg.nil_ok, fun j h => by simp [Bag.has, Bag.word, Bg.nil] at h⟩
theorem word_or (x y : Bag) (k : Nat) : (x.orB y).word k = x.word k ||| y.word k := by
 unfold Bag.word Bag.orB Bag.map2
 split
 ·rfl
 ·split
  ·rfl
  ·split <;> rfl
theorem has_or' (x y : Bag) (j : Nat) : (x.orB y).has j = (x.has j || y.has j) := by
 unfold Bag.has
 rw [word_or, Nat.testBit_or]
 cases decide (j < 256) <;> simp
theorem Within.or {n : Nat} {x y : Bag} (h : Within n x) (g : Within n y) : Within n (x.orB y) :=
 ⟨Bg.or_ok h.1 g.1, fun j hj => by
  rw [has_or'] at hj
  rcases Bool.or_eq_true _ _ ▸ hj with a | a
  ·exact h.2 j a
  ·exact g.2 j a⟩
theorem within_emp (n : Nat) : emp.within n := ⟨within_nil n, within_nil n⟩
theorem join_within {n : Nat} {a b : Pc} (ha : a.within n) (hb : b.within n) : (join a b).within n := by
 unfold join Pc.within
 constructor
 ·dsimp only; split
  ·exact ha.1.or hb.1
  ·exact ha.1
 ·dsimp only; split
  ·exact hb.2.or ha.2
  ·exact hb.2
theorem line_length (must : Int) : ∀ (i : Nat) (s : List Pc) (l : List En), (line must i s l).2.length = l.length
 | _, [], _ => rfl
 | i, one :: t, l => by simp only [line, ahead, lead_length]; exact line_length must (i + 1) t l
theorem line_within {n : Nat} (must : Int) : ∀ (i : Nat) (s : List Pc) (l : List En), (∀ p ∈ s, p.within n) → (line must i s l).1.within n
 | _, [], _, _ => within_emp n
 | i, one :: t, l, h => by
  have h1 := line_within must (i + 1) t l (fun p hp => h p (List.mem_cons_of_mem _ hp))
  exact join_within (h one List.mem_cons_self) h1
theorem line_ok {n : Nat} (must : Int) : ∀ (i : Nat) (s : List Pc) (l : List En), (∀ p ∈ s, p.within n) → (∀ x ∈ l, x.ok) → ∀ x ∈ (line must i s l).2, x.ok
 | _, [], _, _, h => h
 | i, one :: t, l, hs, h => by
  have h1 := line_ok must (i + 1) t l (fun p hp => hs p (List.mem_cons_of_mem _ hp)) h
  have h2 := line_within (n := n) must (i + 1) t l (fun p hp => hs p (List.mem_cons_of_mem _ hp))
  exact leadL_ok h2.1.1 _ _ h1
theorem several_append (wr : Nat → List En → Pc × List En) : ∀ (a b : List Nat) (acc : List Pc) (l : List En), several wr (a ++ b) acc l = several wr b (several wr a acc l).1 (several wr a acc l).2
 | [], _, _, _ => rfl
 | _ :: a, b, _, _ => several_append wr a b _ _
end Go.Proofs.YtnbchikiiipejaaGreatDoor.Nf
namespace Go.Proofs.YtnbchikiiipejaaGreatDoor.Bg
def bitsOf (w : Nat) : List Nat := (List.range 64).filter w.testBit
theorem low_clear : ∀ (f w : Nat), 0 < w → w < 2 ^ f → Lib.ctzFrom f w < f ∧ ∀ j, (w &&& (w - 1)).testBit j = (w.testBit j && decide (j ≠ Lib.ctzFrom f w)) ∧ (j < Lib.ctzFrom f w → w.testBit j = false) ∧ w.testBit (Lib.ctzFrom f w) = true
 | 0, w, h0, h => by simp at h; omega
 | f + 1, w, h0, h => by
  unfold Lib.ctzFrom
  by_cases h1 : w % 2 = 1
  ·rw [if_pos h1]
   refine ⟨by omega, fun j => ⟨?_, by omega, ?_⟩⟩
   ·cases j with
    | zero => simp [Nat.testBit_zero]; omega
    | succ j =>
     rw [Nat.testBit_and, Nat.testBit_succ, Nat.testBit_succ, show (w - 1) / 2 = w / 2 from by omega]
     simp
   ·simp [Nat.testBit_zero, h1]
  ·rw [if_neg h1]
   have hx : w / 2 < 2 ^ f := by rw [Nat.pow_succ] at h; omega
   obtain ⟨a, b⟩ := low_clear f (w / 2) (by omega) hx
   refine ⟨by omega, fun j => ⟨?_, ?_, ?_⟩⟩
   ·cases j with
    | zero =>
     simp [Nat.testBit_zero, h1]
    | succ j =>
     have := (b j).1
     rw [Nat.testBit_and] at this ⊢
     rw [Nat.testBit_succ, Nat.testBit_succ, show (w - 1) / 2 = w / 2 - 1 from by omega, this]
     congr 1
     rw [Bool.eq_iff_iff]; simp; omega
   ·intro hj
    cases j with
    | zero => simp [Nat.testBit_zero]; omega
    | succ j => rw [Nat.testBit_succ]; exact (b j).2.1 (by omega)
   ·rw [Nat.add_comm, Nat.testBit_succ]; exact (b 0).2.2
theorem filter_range_cons (p q : Nat → Bool) (n k : Nat) (hk : k < n) (hp : p k = true) (hlt : ∀ j, j < k → p j = false) (hq : ∀ j, j < n → q j = (p j && decide (j ≠ k))) :
  (List.range n).filter p = k :: (List.range n).filter q := by
 obtain ⟨m, rfl⟩ : ∃ m, n = k + (m + 1) := ⟨n - k - 1, by omega⟩
 have hqk : ∀ j, j < k → q j = false := fun j hj => by rw [hq j (by omega), hlt j hj]; rfl
 rw [List.range_add, List.filter_append, List.filter_append]
 have e1 : (List.range k).filter p = [] := by rw [List.filter_eq_nil_iff]; intro j hj; rw [hlt j (List.mem_range.1 hj)]; exact Bool.noConfusion
 have e2 : (List.range k).filter q = [] := by rw [List.filter_eq_nil_iff]; intro j hj; rw [hqk j (List.mem_range.1 hj)]; exact Bool.noConfusion
 rw [e1, e2, List.nil_append, List.nil_append, List.range_succ_eq_map, List.map_cons, List.filter_cons, List.filter_cons]
 rw [if_pos (by simpa using hp), if_neg (by rw [hq _ (by omega)]; simp)]
 congr 1
 refine List.filter_congr fun j hj => ?_
 obtain ⟨i, hi, rfl⟩ := List.mem_map.1 hj
 obtain ⟨i, hi', rfl⟩ := List.mem_map.1 hi
 have := List.mem_range.1 hi'
 rw [hq _ (by simp; omega)]
 simp
theorem bits_zero : bitsOf 0 = [] := by unfold bitsOf; rw [List.filter_eq_nil_iff]; intro j _; simp
theorem bits_cons {w : Nat} (h0 : w ≠ 0) (h : w < 18446744073709551616) : bitsOf w = Lib.ctz 64 w :: bitsOf (w &&& (w - 1)) := by
 obtain ⟨a, b⟩ := low_clear 64 w (by omega) h
 have e : Lib.ctz 64 w = Lib.ctzFrom 64 w := by simp [Lib.ctz, h0]
 rw [e]
 exact filter_range_cons _ _ 64 _ a (b 0).2.2 (fun j hj => (b j).2.1 hj) fun j _ => (b j).1
theorem bits_lt {w j : Nat} (h : j ∈ bitsOf w) : j < 64 := List.mem_range.1 (List.mem_filter.1 h).1
theorem clear_lt {w : Nat} (h0 : w ≠ 0) (h : w < 18446744073709551616) : w &&& (w - 1) < w := by
 have h1 : w &&& (w - 1) ≤ w - 1 := Nat.and_le_right
 omega
def Bag.part (x : Bag) (k : Nat) : List Int := (bitsOf (x.word k)).map fun j => ((64 * k + j : Nat) : Int)
theorem filter_map' {α β : Type} (p : β → Bool) (f : α → β) (l : List α) : (l.map f).filter p = (l.filter fun x => p (f x)).map f := by
 rw [List.filter_map]; rfl
theorem list_parts (x : Bag) : x.list = x.part 0 ++ (x.part 1 ++ (x.part 2 ++ x.part 3)) := by
 have hw : ∀ k, k < 4 → ((List.range 64).map (64 * k + ·)).filter x.has = (bitsOf (x.word k)).map (64 * k + ·) := by
  intro k hk
  rw [filter_map']
  congr 1
  refine List.filter_congr fun j hj => ?_
  rw [word_testBit x k j hk (List.mem_range.1 hj)]
 have hr : List.range 256 = (List.range 64).map (64 * 0 + ·) ++ ((List.range 64).map (64 * 1 + ·) ++ ((List.range 64).map (64 * 2 + ·) ++ (List.range 64).map (64 * 3 + ·))) := by decide +kernel
 unfold Bag.list
 rw [hr, List.filter_append, List.filter_append, List.filter_append, hw 0 (by decide), hw 1 (by decide), hw 2 (by decide), hw 3 (by decide)]
 simp only [List.map_append, List.map_map]
 rfl
end Go.Proofs.YtnbchikiiipejaaGreatDoor.Bg
namespace Go.Proofs.YtnbchikiiipejaaGreatDoor.Nf
open Bg (Bag)
open Ex (Pt)
theorem orB_comm (x y : Bag) : x.orB y = y.orB x := by simp [Bag.orB, Bag.map2, Nat.or_comm]
theorem orB_assoc (x y z : Bag) : (x.orB y).orB z = x.orB (y.orB z) := by simp [Bag.orB, Bag.map2, Nat.or_assoc]
theorem orB_self (x : Bag) : x.orB x = x := by cases x; simp [Bag.orB, Bag.map2]
theorem orB_nil (x : Bag) : x.orB Bg.nil = x := by cases x; simp [Bag.orB, Bag.map2, Bg.nil]
theorem nil_orB (x : Bag) : Bg.nil.orB x = x := by cases x; simp [Bag.orB, Bag.map2, Bg.nil]
theorem orB_twice (x y : Bag) : (x.orB y).orB y = x.orB y := by rw [orB_assoc, orB_self]
theorem orB_left (x y z : Bag) : x.orB (y.orB z) = y.orB (x.orB z) := by rw [← orB_assoc, orB_comm x y, orB_assoc]
theorem lead1_twice (to : Bag) (e : En) : lead1 to (lead1 to e) = lead1 to e := by simp [lead1, orB_twice]
theorem leadL_get (to : Bag) : ∀ (is : List Int) (l : List En), (∀ i ∈ is, 0 ≤ i) → ∀ j : Nat, (leadL is to l)[j]? = (l[j]?).map (fun e => if (j : Int) ∈ is then lead1 to e else e)
 | [], l, _, j => by simp [leadL]
 | i :: is, l, h, j => by
  have h0 := h i List.mem_cons_self
  have ih := leadL_get to is (l.modify i.toNat (lead1 to)) (fun x hx => h x (List.mem_cons_of_mem _ hx)) j
  have e : leadL (i :: is) to l = leadL is to (l.modify i.toNat (lead1 to)) := rfl
  rw [e, ih, List.getElem?_modify]
  cases hl : l[j]? with
  | none => simp
  | some x =>
   simp only [Option.map_some, List.mem_cons, Option.map_eq_map]
   by_cases h1 : i.toNat = j
   ·have hj : (j : Int) = i := by omega
    rw [if_pos h1, if_pos (Or.inl hj)]
    by_cases h2 : (j : Int) ∈ is
    ·rw [if_pos h2, lead1_twice]
    ·rw [if_neg h2]
   ·have hj : ¬ (j : Int) = i := by omega
    rw [if_neg h1]
    by_cases h2 : (j : Int) ∈ is
    ·rw [if_pos h2, if_pos (Or.inr h2)]
    ·rw [if_neg h2, if_neg (by rintro (h | h) <;> contradiction)]
theorem list_nonneg (x : Bag) : ∀ i ∈ x.list, 0 ≤ i := by
 intro i hi
 obtain ⟨n, _, rfl⟩ := List.mem_map.1 hi
 exact Int.natCast_nonneg n
def sendU (frm to : Bag) (j : Nat) : Bag := if frm.has j then to else Bg.nil
def addU (u : Nat → Bag) (l : List En) : List En := l.mapIdx fun j e => { e with behind := e.behind.orB (u j) }
theorem addU_get (u : Nat → Bag) (l : List En) (j : Nat) : (addU u l)[j]? = (l[j]?).map fun e => { e with behind := e.behind.orB (u j) } := by simp [addU]
theorem addU_length (u : Nat → Bag) (l : List En) : (addU u l).length = l.length := by simp [addU]
theorem lead_addU (frm to : Bag) (l : List En) : lead frm to l = addU (sendU frm to) l := by
 apply List.ext_getElem?
 intro j
 rw [addU_get]
 unfold lead
 rw [leadL_get _ _ _ (list_nonneg frm)]
 congr 1
 funext e
 have : (j : Int) ∈ frm.list ↔ frm.has j = true := by rw [Bg.mem_list, Bg.has_hasI]
 unfold sendU
 by_cases h : frm.has j = true
 ·rw [if_pos (this.2 h), if_pos h]; rfl
 ·rw [if_neg (fun g => h (this.1 g)), if_neg h, orB_nil]
theorem addU_addU (u v : Nat → Bag) (l : List En) : addU v (addU u l) = addU (fun j => (u j).orB (v j)) l := by
 apply List.ext_getElem?
 intro j
 simp only [addU_get, Option.map_map]
 congr 1
 funext e
 simp [Function.comp, orB_assoc]
theorem addU_none (l : List En) : addU (fun _ => Bg.nil) l = l := by
 apply List.ext_getElem?
 intro j
 rw [addU_get]
 cases l[j]? <;> simp [orB_nil]
theorem addU_congr {u v : Nat → Bag} {l : List En} (h : ∀ j, j < l.length → u j = v j) : addU u l = addU v l := by
 apply List.ext_getElem?
 intro j
 rw [addU_get, addU_get]
 by_cases hj : j < l.length
 ·rw [h j hj]
 ·rw [List.getElem?_eq_none (by omega)]; rfl
theorem addU_append (u : Nat → Bag) (l x : List En) : addU u (l ++ x) = addU u l ++ addU (fun j => u (l.length + j)) x := by
 apply List.ext_getElem?
 intro j
 rw [addU_get]
 by_cases hj : j < l.length
 ·rw [List.getElem?_append_left hj, List.getElem?_append_left (by rw [addU_length]; exact hj), addU_get]
 ·rw [List.getElem?_append_right (by omega), List.getElem?_append_right (by rw [addU_length]; omega), addU_length, addU_get, show l.length + (j - l.length) = j by omega]
structure Sq where
 p : Pc
 u : Nat → Bag
def Sq.one : Sq := ⟨emp, fun _ => Bg.nil⟩
def Sq.mul (a b : Sq) : Sq := ⟨join a.p b.p, fun j => (a.u j).orB ((b.u j).orB (sendU a.p.ends b.p.first j))⟩
def Sq.of (p : Pc) : Sq := ⟨p, fun _ => Bg.nil⟩
theorem Sq.one_mul (a : Sq) : Sq.one.mul a = a := by
 obtain ⟨⟨em, fi, en⟩, u⟩ := a
 simp only [Sq.mul, Sq.one, emp, join, Sq.mk.injEq, Pc.mk.injEq, Bool.true_and, if_true, nil_orB, true_and]
 refine ⟨?_, ?_⟩
 ·cases em <;> simp [orB_nil]
 ·funext j
  have : sendU Bg.nil fi j = Bg.nil := by simp [sendU, Bg.has_nil]
  rw [this, orB_nil]
theorem Sq.mul_one (a : Sq) : a.mul Sq.one = a := by
 obtain ⟨⟨em, fi, en⟩, u⟩ := a
 simp only [Sq.mul, Sq.one, emp, join, Sq.mk.injEq, Pc.mk.injEq, Bool.and_true, if_true, nil_orB, and_true, true_and]
 refine ⟨?_, ?_⟩
 ·cases em <;> simp [orB_nil]
 ·funext j
  have : sendU en Bg.nil j = Bg.nil := by simp [sendU]
  rw [this, orB_nil]
theorem has_or (x y : Bag) (j : Nat) : (x.orB y).has j = (x.has j || y.has j) := has_or' x y j
theorem Sq.mul_assoc (a b c : Sq) : (a.mul b).mul c = a.mul (b.mul c) := by
 obtain ⟨⟨e1, f1, n1⟩, u1⟩ := a
 obtain ⟨⟨e2, f2, n2⟩, u2⟩ := b
 obtain ⟨⟨e3, f3, n3⟩, u3⟩ := c
 simp only [Sq.mul, join, Sq.mk.injEq, Pc.mk.injEq, Bool.and_assoc, true_and]
 refine ⟨⟨?_, ?_⟩, ?_⟩
 ·cases e1 <;> cases e2 <;> simp [orB_assoc]
 ·cases e2 <;> cases e3 <;> simp [orB_assoc]
 ·funext j
  have hs : ∀ x y z : Bag, sendU (x.orB y) z j = (sendU x z j).orB (sendU y z j) := by
   intro x y z
   unfold sendU
   rw [has_or]
   cases x.has j <;> cases y.has j <;> simp [orB_self, orB_nil, nil_orB]
  have ht : ∀ x y z : Bag, sendU x (y.orB z) j = (sendU x y j).orB (sendU x z j) := by
   intro x y z
   unfold sendU
   split <;> simp [orB_nil]
  have hi : ∀ (b : Bool) (x y : Bag), (if b = true then x.orB y else x) = x.orB (if b = true then y else Bg.nil) := by
   intro b x y; cases b <;> simp [orB_nil]
  have h0 : ∀ x : Bag, sendU x Bg.nil j = Bg.nil := by intro x; simp [sendU]
  have h1 : ∀ x : Bag, sendU Bg.nil x j = Bg.nil := by intro x; simp [sendU, Bg.has_nil]
  cases e2
  ·simp only [Bool.false_eq_true, if_false]
   cases e1 <;> cases e3 <;> simp [orB_comm, orB_left]
  ·simp only [if_true]
   rw [hs, ht]
   cases e1 <;> cases e3 <;> simp [orB_comm, orB_left]
def optE (b : Bool) (x : Sq) : Sq := ⟨⟨x.p.em || b, x.p.first, x.p.ends⟩, x.u⟩
def lineS (must : Int) : Nat → List Pc → Sq
 | _, [] => Sq.one
 | i, one :: t => optE (decide (must ≤ (i : Int))) ((Sq.of one).mul (lineS must (i + 1) t))
theorem line_lineS (must : Int) : ∀ (i : Nat) (s : List Pc) (l : List En), line must i s l = ((lineS must i s).p, addU (lineS must i s).u l)
 | _, [], l => by simp [line, lineS, Sq.one, addU_none]
 | i, one :: t, l => by
  have ih := line_lineS must (i + 1) t l
  simp only [line, ahead, ih, lead_addU, addU_addU, lineS, optE, Sq.mul, Sq.of, nil_orB]
def foldS (ps : List Pc) : Sq := ps.foldl (fun x p => x.mul (Sq.of p)) Sq.one
theorem foldS_snoc (ps : List Pc) (p : Pc) : foldS (ps ++ [p]) = (foldS ps).mul (Sq.of p) := by simp [foldS]
theorem lineS_head (must : Int) : ∀ (a b : List Pc) (i : Nat), (i : Int) + a.length ≤ must → lineS must i (a ++ b) = (foldS a).mul (lineS must (i + a.length) b) := by
 have key : ∀ (a b : List Pc) (i : Nat) (x : Sq), (i : Int) + a.length ≤ must → x.mul (lineS must i (a ++ b)) = (a.foldl (fun x p => x.mul (Sq.of p)) x).mul (lineS must (i + a.length) b) := by
  intro a
  induction a with
  | nil => intro b i x _; rfl
  | cons p a ih =>
   intro b i x h
   simp only [List.length_cons] at h
   have h1 := ih b (i + 1) (x.mul (Sq.of p)) (by push_cast at h ⊢; omega)
   have hd : decide (must ≤ (i : Int)) = false := by simp; omega
   simp only [List.cons_append, lineS, hd, List.foldl_cons, List.length_cons]
   rw [show i + (a.length + 1) = i + 1 + a.length by omega, ← h1]
   have : ∀ y : Sq, optE false y = y := by intro ⟨⟨e, f, n⟩, u⟩; simp [optE]
   rw [this, Sq.mul_assoc]
 intro a b i h
 rw [← Sq.one_mul (lineS must i (a ++ b)), key a b i _ h]; rfl
theorem lineS_tail (must : Int) : ∀ (b : List Pc) (i : Nat), must ≤ (i : Int) → lineS must i b = lineS 0 0 b := by
 have key : ∀ (b : List Pc) (i : Nat) (k : Int) (m : Nat), must ≤ (i : Int) → k ≤ (m : Int) → lineS must i b = lineS k m b := by
  intro b
  induction b with
  | nil => intro i k m _ _; rfl
  | cons p b ih =>
   intro i k m h g
   simp only [lineS]
   rw [ih (i + 1) k (m + 1) (by push_cast; omega) (by push_cast; omega), decide_eq_true h, decide_eq_true g]
 intro b i h
 exact key b i 0 0 h (by simp)
theorem lineS_all (s : List Pc) : lineS s.length 0 s = foldS s := by
 have := lineS_head s.length s [] 0 (by simp)
 rw [List.append_nil] at this
 rw [this]; simp [lineS, Sq.mul_one]
theorem lineS_low (low : Nat) (s : List Pc) : lineS low 0 s = (foldS (s.take low)).mul (lineS 0 0 (s.drop low)) := by
 by_cases h : low ≤ s.length
 ·have := lineS_head low (s.take low) (s.drop low) 0 (by simp; omega)
  rw [List.take_append_drop] at this
  rw [this, List.length_take, Nat.min_eq_left h, lineS_tail _ _ _ (by simp)]
 ·have := lineS_head low s [] 0 (by simp; omega)
  rw [List.append_nil] at this
  rw [this, List.take_of_length_le (by omega), List.drop_eq_nil_of_le (by omega)]; rfl
end Go.Proofs.YtnbchikiiipejaaGreatDoor.Nf
namespace Go.Proofs.YtnbchikiiipejaaGreatDoor.Nf
open Bg (Bag)
open Ex (Pt)
def places (e : List Pt) : Nat → Nat → Nat
 | 0, _ => 0
 | f + 1, k => match e[k]? with
  | none => 0
  | some p => (if p.kind = 1 then 1 else 0) + ((kidsOf p).map (places e f)).sum
def Pc.rng (a b : Nat) (p : Pc) : Prop := (∀ j, p.first.has j = true → a ≤ j ∧ j < b) ∧ (∀ j, p.ends.has j = true → a ≤ j ∧ j < b)
theorem Pc.rng.mono {a b a' b' : Nat} {p : Pc} (h : p.rng a b) (ha : a' ≤ a) (hb : b ≤ b') : p.rng a' b' :=
 ⟨fun j hj => by have := h.1 j hj; omega, fun j hj => by have := h.2 j hj; omega⟩
theorem emp_rng (a b : Nat) : emp.rng a b := ⟨fun j h => by simp [emp, Bg.has_nil] at h, fun j h => by simp [emp, Bg.has_nil] at h⟩
theorem no_rng (a b : Nat) : (⟨false, Bg.nil, Bg.nil⟩ : Pc).rng a b := ⟨fun j h => by simp [Bg.has_nil] at h, fun j h => by simp [Bg.has_nil] at h⟩
theorem join_rng {a b : Nat} {p q : Pc} (hp : p.rng a b) (hq : q.rng a b) : (join p q).rng a b := by
 constructor
 ·intro j h
  simp only [join] at h
  split at h
  ·rw [has_or] at h
   rcases Bool.or_eq_true _ _ ▸ h with g | g
   ·exact hp.1 j g
   ·exact hq.1 j g
  ·exact hp.1 j h
 ·intro j h
  simp only [join] at h
  split at h
  ·rw [has_or] at h
   rcases Bool.or_eq_true _ _ ▸ h with g | g
   ·exact hq.2 j g
   ·exact hp.2 j g
  ·exact hq.2 j h
theorem or1_rng {a b : Nat} {p q : Pc} (hp : p.rng a b) (hq : q.rng a b) : (or1 p q).rng a b := by
 constructor
 ·intro j h
  simp only [or1, has_or] at h
  rcases Bool.or_eq_true _ _ ▸ h with g | g
  ·exact hp.1 j g
  ·exact hq.1 j g
 ·intro j h
  simp only [or1, has_or] at h
  rcases Bool.or_eq_true _ _ ▸ h with g | g
  ·exact hp.2 j g
  ·exact hq.2 j g
theorem either_rng {a b : Nat} (s : List Pc) (h : ∀ p ∈ s, p.rng a b) : (either s).rng a b := by
 unfold either
 generalize hz : (⟨false, Bg.nil, Bg.nil⟩ : Pc) = z
 have h0 : z.rng a b := by rw [← hz]; exact no_rng a b
 clear hz
 induction s generalizing z with
 | nil => exact h0
 | cons p s ih => exact ih (fun q hq => h q (List.mem_cons_of_mem _ hq)) (or1 z p) (or1_rng h0 (h p List.mem_cons_self))
def Sq.rng (a b : Nat) (x : Sq) : Prop := x.p.rng a b ∧ ∀ j, ¬ (a ≤ j ∧ j < b) → x.u j = Bg.nil
theorem one_rng (a b : Nat) : Sq.one.rng a b := ⟨emp_rng a b, fun _ _ => rfl⟩
theorem of_rng {a b : Nat} {p : Pc} (h : p.rng a b) : (Sq.of p).rng a b := ⟨h, fun _ _ => rfl⟩
theorem send_rng {a b : Nat} {p : Pc} (h : p.rng a b) (to : Bag) : ∀ j, ¬ (a ≤ j ∧ j < b) → sendU p.ends to j = Bg.nil := by
 intro j hj
 unfold sendU
 rw [if_neg (fun g => hj (h.2 j g))]
theorem Sq.rng.mul {a b : Nat} {x y : Sq} (hx : x.rng a b) (hy : y.rng a b) : (x.mul y).rng a b :=
 ⟨join_rng hx.1 hy.1, fun j hj => by
  show (x.u j).orB ((y.u j).orB (sendU x.p.ends y.p.first j)) = Bg.nil
  rw [hx.2 j hj, hy.2 j hj, send_rng hx.1 _ j hj, orB_nil, orB_nil]⟩
theorem lineS_rng {a b : Nat} (must : Int) : ∀ (i : Nat) (s : List Pc), (∀ p ∈ s, p.rng a b) → (lineS must i s).rng a b
 | _, [], _ => one_rng a b
 | i, p :: t, h => by
  have h1 := lineS_rng must (i + 1) t (fun q hq => h q (List.mem_cons_of_mem _ hq))
  exact (of_rng (h p List.mem_cons_self)).mul h1
theorem foldS_rng {a b : Nat} (s : List Pc) (h : ∀ p ∈ s, p.rng a b) : (foldS s).rng a b := by
 rw [← lineS_all]; exact lineS_rng _ _ _ h
theorem addU_new {u : Nat → Bag} (l x : List En) (h : ∀ j, j < l.length → u j = Bg.nil) : addU u (l ++ x) = l ++ addU (fun j => u (l.length + j)) x := by
 rw [addU_append]
 congr 1
 rw [addU_congr (v := fun _ => Bg.nil) h, addU_none]
theorem addU_old {u : Nat → Bag} (l x : List En) (h : ∀ j, l.length ≤ j → u j = Bg.nil) : addU u (l ++ x) = addU u l ++ x := by
 rw [addU_append]
 congr 1
 rw [addU_congr (v := fun _ => Bg.nil) (fun j _ => h _ (by omega)), addU_none]
def Adds (g : List En → Pc × List En) (c : Nat) : Prop := ∀ n, n + c ≤ 256 → ∃ pc ext, ext.length = c ∧ pc.rng n (n + c) ∧ ∀ l : List En, l.length = n → g l = (pc, l ++ ext)
theorem several_adds {wr : Nat → List En → Pc × List En} {c : Nat → Nat} : ∀ (ks : List Nat), (∀ k ∈ ks, Adds (wr k) (c k)) → ∀ n, n + (ks.map c).sum ≤ 256 →
  ∃ ps ext, ext.length = (ks.map c).sum ∧ ps.length = ks.length ∧ (∀ p ∈ ps, p.rng n (n + (ks.map c).sum)) ∧ ∀ acc l, l.length = n → several wr ks acc l = (acc ++ ps, l ++ ext)
 | [], _, n, _ => ⟨[], [], rfl, rfl, fun p hp => by simp at hp, fun acc l _ => by simp [several]⟩
 | k :: ks, h, n, hn => by
  simp only [List.map_cons, List.sum_cons] at hn
  obtain ⟨pc, x1, hx1, hr1, hw1⟩ := h k List.mem_cons_self n (by omega)
  obtain ⟨ps, x2, hx2, hl2, hr2, hw2⟩ := several_adds ks (fun j hj => h j (List.mem_cons_of_mem _ hj)) (n + c k) (by omega)
  refine ⟨pc :: ps, x1 ++ x2, by simp [hx1, hx2], by simp [hl2], ?_, ?_⟩
  ·intro p hp
   simp only [List.map_cons, List.sum_cons]
   rcases List.mem_cons.1 hp with rfl | hp
   ·exact hr1.mono (Nat.le_refl _) (by omega)
   ·exact (hr2 p hp).mono (by omega) (by omega)
  ·intro acc l hl
   simp only [several, hw1 l hl]
   rw [hw2 _ _ (by simp [hl, hx1])]
   simp
theorem write_adds (e : List Pt) (m : List UInt8 → Bag) : ∀ f k, Adds (write e m f k) (places e f k)
 | 0, k => fun n _ => ⟨emp, [], rfl, emp_rng _ _, fun l _ => by simp [write]⟩
 | f + 1, k => by
  intro n hn
  cases hp : e[k]? with
  | none => exact ⟨emp, [], by simp [places, hp], emp_rng _ _, fun l _ => by simp [write, hp]⟩
  | some p =>
   have hpl : places e (f + 1) k = (if p.kind = 1 then 1 else 0) + ((kidsOf p).map (places e f)).sum := by simp [places, hp]
   rw [hpl] at hn ⊢
   obtain ⟨ps, ext, hx, hlen, hr, hw⟩ := several_adds (wr := write e m f) (c := places e f) (kidsOf p) (fun j _ => write_adds e m f j) n (by omega)
   generalize hS : ((kidsOf p).map (places e f)).sum = S at hn hx hr ⊢
   have hwr : ∀ l : List En, l.length = n → write e m (f + 1) k l = close p m ps (l ++ ext) := by
    intro l hl
    simp only [write, hp]
    rw [hw [] l hl]; rfl
   by_cases h1 : p.kind = 1
   ·rw [if_pos h1] at hn ⊢
    have hlt : n + S < 256 := by omega
    have hh : ∀ j, (Bg.nil.withN (n + S)).has j = true → j = n + S := by
     intro j hj
     rw [Bg.has_withN _ _ _ hlt, Bg.has_nil, Bool.false_or] at hj
     exact of_decide_eq_true hj
    refine ⟨⟨false, Bg.nil.withN (n + S), Bg.nil.withN (n + S)⟩, ext ++ [⟨m p.name, Bg.nil⟩], by simp [hx]; omega, ⟨fun j hj => ?_, fun j hj => ?_⟩, fun l hl => ?_⟩
    ·have := hh j hj; omega
    ·have := hh j hj; omega
    ·rw [hwr l hl]
     simp only [close, if_pos h1, lay, List.length_append, hl, hx, List.append_assoc]
   ·rw [if_neg h1] at hn ⊢
    simp only [Nat.zero_add] at hn ⊢
    by_cases h2 : p.kind = 2
    ·have hq := lineS_rng (ps.length : Int) 0 ps hr
     refine ⟨_, addU (fun j => (lineS (ps.length : Int) 0 ps).u (n + j)) ext, by rw [addU_length, hx], hq.1, fun l hl => ?_⟩
     rw [hwr l hl]
     simp only [close, if_neg h1, if_pos h2, line_lineS]
     rw [addU_new l ext (fun j hj => hq.2 j (by omega)), hl]
    ·by_cases h3 : p.kind = 3
     ·refine ⟨either ps, ext, hx, either_rng ps hr, fun l hl => ?_⟩
      rw [hwr l hl]
      simp only [close, if_neg h1, if_neg h2, if_pos h3]
     ·have hq := lineS_rng p.low 0 ps hr
      have hlast : (ps.getLastD emp).rng n (n + S) := by
       cases ps with
       | nil => exact emp_rng _ _
       | cons a t => rw [List.getLastD_cons]; exact hr _ List.getLastD_mem_cons
      by_cases h4 : p.high < 0
      ·refine ⟨_, addU (fun j => (lineS p.low 0 ps).u (n + j)) (addU (fun j => sendU (ps.getLastD emp).ends (ps.getLastD emp).first (n + j)) ext), by rw [addU_length, addU_length, hx], hq.1, fun l hl => ?_⟩
       rw [hwr l hl]
       simp only [close, if_neg h1, if_neg h2, if_neg h3, if_pos h4, line_lineS, lead_addU]
       rw [addU_new l ext (fun j hj => send_rng hlast _ j (by omega)), addU_new l _ (fun j hj => hq.2 j (by omega)), hl]
      ·refine ⟨_, addU (fun j => (lineS p.low 0 ps).u (n + j)) ext, by rw [addU_length, hx], hq.1, fun l hl => ?_⟩
       rw [hwr l hl]
       simp only [close, if_neg h1, if_neg h2, if_neg h3, if_neg h4, line_lineS]
       rw [addU_new l ext (fun j hj => hq.2 j (by omega)), hl]
theorem write_length (e : List Pt) (m : List UInt8 → Bag) (f k : Nat) (l : List En) (h : l.length + places e f k ≤ 256) : (write e m f k l).2.length = l.length + places e f k := by
 obtain ⟨pc, ext, hx, _, hw⟩ := write_adds e m f k l.length h
 rw [hw l rfl]; simp [hx]
def rowR (wr : Nat → List En → Pc × List En) : List Nat → Pc → List En → Pc × List En
 | [], out, l => (out, l)
 | k :: ks, out, l => rowR wr ks (join out (wr k l).1) (lead out.ends (wr k l).1.first (wr k l).2)
def chR (wr : Nat → List En → Pc × List En) : List Nat → Pc → List En → Pc × List En
 | [], out, l => (out, l)
 | k :: ks, out, l => chR wr ks (or1 out (wr k l).1) (wr k l).2
def seqR : List Pc → Pc → List En → Pc × List En
 | [], out, l => (out, l)
 | p :: ps, out, l => seqR ps (join out p) (lead out.ends p.first l)
def timesR (p : Pt) (s : List Pc) (l : List En) : Pc × List En :=
 let a := seqR (s.take p.low.toNat) emp (if p.high < 0 then lead (s.getLastD emp).ends (s.getLastD emp).first l else l)
 let t := line 0 0 (s.drop p.low.toNat) a.2
 ahead a.1 t.1 t.2
def refw (e : List Pt) (m : List UInt8 → Bag) : Nat → Nat → List En → Pc × List En
 | 0, _, l => (emp, l)
 | f + 1, k, l =>
  match e[k]? with
  | none => (emp, l)
  | some p =>
   if p.kind = 1 then lay (m p.name) l
   else if p.kind = 3 then chR (refw e m f) p.kids ⟨false, Bg.nil, Bg.nil⟩ l
   else if p.kind = 2 then rowR (refw e m f) p.kids emp l
   else timesR p (several (refw e m f) (List.replicate (often p) (p.kids.headD 0)) [] l).1 (several (refw e m f) (List.replicate (often p) (p.kids.headD 0)) [] l).2
theorem seqR_foldS : ∀ (ps : List Pc) (x : Sq) (l : List En), seqR ps x.p (addU x.u l) = ((ps.foldl (fun x p => x.mul (Sq.of p)) x).p, addU (ps.foldl (fun x p => x.mul (Sq.of p)) x).u l)
 | [], x, l => rfl
 | p :: ps, x, l => by
  have ih := seqR_foldS ps (x.mul (Sq.of p)) l
  rw [List.foldl_cons, ← ih]
  simp only [seqR, Sq.mul, Sq.of, lead_addU, addU_addU, nil_orB]
theorem timesR_line (p : Pt) (h0 : 0 ≤ p.low) (s : List Pc) (l : List En) : timesR p s l = line p.low 0 s (if p.high < 0 then lead (s.getLastD emp).ends (s.getLastD emp).first l else l) := by
 unfold timesR
 generalize (if p.high < 0 then lead (s.getLastD emp).ends (s.getLastD emp).first l else l) = l1
 have hs : seqR (s.take p.low.toNat) emp l1 = ((foldS (s.take p.low.toNat)).p, addU (foldS (s.take p.low.toNat)).u l1) := by
  have := seqR_foldS (s.take p.low.toNat) Sq.one l1
  rw [show addU Sq.one.u l1 = l1 from addU_none l1] at this
  exact this
 rw [line_lineS]
 have hlow := lineS_low p.low.toNat s
 rw [Int.toNat_of_nonneg h0] at hlow
 simp only [hs, line_lineS, ahead, lead_addU, addU_addU]
 rw [hlow]
 simp only [Sq.mul, orB_assoc]
theorem several_congr {wr wr' : Nat → List En → Pc × List En} {c : Nat → Nat} : ∀ (ks : List Nat), (∀ k ∈ ks, Adds (wr k) (c k)) → (∀ k ∈ ks, ∀ l : List En, l.length + c k ≤ 256 → wr' k l = wr k l) →
  ∀ (acc : List Pc) (l : List En), l.length + (ks.map c).sum ≤ 256 → several wr' ks acc l = several wr ks acc l
 | [], _, _, _, _, _ => rfl
 | k :: ks, ha, h, acc, l, hl => by
  simp only [List.map_cons, List.sum_cons] at hl
  have e := h k List.mem_cons_self l (by omega)
  obtain ⟨pc, ext, hx, _, hw⟩ := ha k List.mem_cons_self l.length (by omega)
  simp only [several, e]
  exact several_congr ks (fun j hj => ha j (List.mem_cons_of_mem _ hj)) (fun j hj => h j (List.mem_cons_of_mem _ hj)) _ _ (by rw [hw l rfl]; simp [hx]; omega)
theorem chR_either {wr wr' : Nat → List En → Pc × List En} {c : Nat → Nat} : ∀ (ks : List Nat), (∀ k ∈ ks, Adds (wr k) (c k)) → (∀ k ∈ ks, ∀ l : List En, l.length + c k ≤ 256 → wr' k l = wr k l) →
  ∀ (acc : List Pc) (l : List En), l.length + (ks.map c).sum ≤ 256 → chR wr' ks (either acc) l = (either (several wr ks acc l).1, (several wr ks acc l).2)
 | [], _, _, _, _, _ => rfl
 | k :: ks, ha, h, acc, l, hl => by
  simp only [List.map_cons, List.sum_cons] at hl
  have e := h k List.mem_cons_self l (by omega)
  obtain ⟨pc, ext, hx, _, hw⟩ := ha k List.mem_cons_self l.length (by omega)
  have ih := chR_either ks (fun j hj => ha j (List.mem_cons_of_mem _ hj)) (fun j hj => h j (List.mem_cons_of_mem _ hj)) (acc ++ [(wr k l).1]) (wr k l).2 (by rw [hw l rfl]; simp [hx]; omega)
  have es : either (acc ++ [(wr k l).1]) = or1 (either acc) (wr k l).1 := by simp [either]
  simp only [chR, several, e]
  rw [← ih, es]
theorem rowR_foldS {wr wr' : Nat → List En → Pc × List En} {c : Nat → Nat} : ∀ (ks : List Nat), (∀ k ∈ ks, Adds (wr k) (c k)) → (∀ k ∈ ks, ∀ l : List En, l.length + c k ≤ 256 → wr' k l = wr k l) →
  ∀ (acc : List Pc) (l : List En), l.length + (ks.map c).sum ≤ 256 → (∀ p ∈ acc, p.rng 0 l.length) →
  rowR wr' ks (foldS acc).p (addU (foldS acc).u l) = ((foldS (several wr ks acc l).1).p, addU (foldS (several wr ks acc l).1).u (several wr ks acc l).2)
 | [], _, _, _, _, _, _ => rfl
 | k :: ks, ha, h, acc, l, hl, hr => by
  simp only [List.map_cons, List.sum_cons] at hl
  have hq := foldS_rng acc hr
  have e := h k List.mem_cons_self (addU (foldS acc).u l) (by rw [addU_length]; omega)
  obtain ⟨pc, ext, hx, hpc, hw⟩ := ha k List.mem_cons_self l.length (by omega)
  have e1 := hw (addU (foldS acc).u l) (addU_length _ _)
  have e2 := hw l rfl
  have ih := rowR_foldS ks (fun j hj => ha j (List.mem_cons_of_mem _ hj)) (fun j hj => h j (List.mem_cons_of_mem _ hj)) (acc ++ [pc]) (l ++ ext) (by simp [hx]; omega) (by
   intro p hp
   rcases List.mem_append.1 hp with hp | hp
   ·exact (hr p hp).mono (Nat.le_refl _) (by simp)
   ·simp only [List.mem_singleton] at hp
    subst hp
    exact hpc.mono (by omega) (by simp [hx]))
  simp only [rowR, several, e, e1, e2]
  rw [← ih, foldS_snoc]
  congr 1
  rw [← addU_old l ext (fun j hj => hq.2 j (by omega)), lead_addU, addU_addU]
  congr 1
  funext j
  simp [Sq.mul, Sq.of, nil_orB]
def Fit (p : Pt) : Prop := (p.kind = 1 → p.kids = []) ∧ (p.kind ≠ 1 → p.kind ≠ 2 → p.kind ≠ 3 → p.kids.length = 1 ∧ 0 ≤ p.low)
theorem kidsOf_one {p : Pt} (h : p.kind ≠ 4) : kidsOf p = p.kids := by
 unfold kidsOf often
 rw [if_neg h]; simp
theorem refw_write (e : List Pt) (m : List UInt8 → Bag) (he : ∀ p ∈ e, Fit p) (h4 : ∀ p ∈ e, p.kind = 1 ∨ p.kind = 2 ∨ p.kind = 3 ∨ p.kind = 4) : ∀ f k (l : List En), l.length + places e f k ≤ 256 → refw e m f k l = write e m f k l
 | 0, _, _, _ => rfl
 | f + 1, k, l, hl => by
  cases hp : e[k]? with
  | none => simp [refw, write, hp]
  | some p =>
   have hm : p ∈ e := List.mem_of_getElem? hp
   have hpl : places e (f + 1) k = (if p.kind = 1 then 1 else 0) + ((kidsOf p).map (places e f)).sum := by simp [places, hp]
   rw [hpl] at hl
   have ha : ∀ j ∈ kidsOf p, Adds (write e m f j) (places e f j) := fun j _ => write_adds e m f j
   have hc : ∀ j ∈ kidsOf p, ∀ l : List En, l.length + places e f j ≤ 256 → refw e m f j l = write e m f j l := fun j _ l hj => refw_write e m he h4 f j l hj
   simp only [refw, write, hp]
   rcases h4 p hm with h1 | h1 | h1 | h1
   ·rw [if_pos h1]
    have hk : kidsOf p = [] := by rw [kidsOf_one (by omega), (he p hm).1 h1]
    rw [hk]
    simp only [several, close, if_pos h1]
   ·rw [if_neg (by omega), if_neg (by omega), if_pos h1]
    rw [if_neg (by omega)] at hl
    have hk : kidsOf p = p.kids := kidsOf_one (by omega)
    rw [hk] at ha hc hl ⊢
    have := rowR_foldS p.kids ha hc [] l (by omega) (fun p hp => by simp at hp)
    rw [show addU (foldS ([] : List Pc)).u l = l from addU_none l] at this
    simp only [close, if_neg (show ¬ p.kind = 1 by omega), if_pos h1, line_lineS, lineS_all]
    exact this
   ·rw [if_neg (by omega), if_pos h1]
    rw [if_neg (by omega)] at hl
    have hk : kidsOf p = p.kids := kidsOf_one (by omega)
    rw [hk] at ha hc hl ⊢
    simp only [close, if_neg (show ¬ p.kind = 1 by omega), if_neg (show ¬ p.kind = 2 by omega), if_pos h1]
    exact chR_either p.kids ha hc [] l (by omega)
   ·rw [if_neg (by omega), if_neg (by omega), if_neg (by omega)]
    rw [if_neg (by omega)] at hl
    obtain ⟨hk1, h0⟩ := (he p hm).2 (by omega) (by omega) (by omega)
    have hk : kidsOf p = List.replicate (often p) (p.kids.headD 0) := by
     unfold kidsOf
     match hks : p.kids, hk1 with
     | [x], _ => simp [List.flatten_replicate_singleton]
    rw [hk] at ha hc hl ⊢
    rw [several_congr _ ha hc [] l (by omega), timesR_line p h0]
    simp only [close, if_neg (show ¬ p.kind = 1 by omega), if_neg (show ¬ p.kind = 2 by omega), if_neg (show ¬ p.kind = 3 by omega)]
    split <;> rfl
end Go.Proofs.YtnbchikiiipejaaGreatDoor.Nf
