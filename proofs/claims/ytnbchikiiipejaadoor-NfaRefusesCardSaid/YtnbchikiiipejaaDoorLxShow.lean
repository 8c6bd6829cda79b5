/- Signs: what a text's are, and their text; plain lists, nothing of the program. The text of signs, and that it is lexed again as it was; plain lists, nothing of the program. -/
import Derived.Lib.ItoaNum
namespace Go.Proofs.YtnbchikiiipejaaDoor.Lx

/-- a sign -/
structure Sg where
  kind : Int
  at_ : Int
  low : Int
  high : Int
  name : List UInt8
deriving DecidableEq

inductive Res (α : Type) where
  | ok (a : α) (n : Nat)
  | bad (n : Nat) (c : Int)
deriving DecidableEq

def smB (c : UInt8) : Bool := decide (97 ≤ c.toNat) && decide (c.toNat ≤ 122)
def dgB (c : UInt8) : Bool := decide (48 ≤ c.toNat) && decide (c.toNat ≤ 57)
def inB (c : UInt8) : Bool := smB c || dgB c

/-- a number at place k; t is what is left from there -/
def num : List UInt8 → Nat → Res Nat
  | [], k => .bad k 5
  | a :: t, k =>
    if dgB a then
      match t with
      | [] => .ok (a.toNat - 48) (k + 1)
      | b :: u =>
        if dgB b then
          if a.toNat = 48 then .bad (k + 1) 2
          else match u with
            | [] => .ok (10 * (a.toNat - 48) + (b.toNat - 48)) (k + 2)
            | c :: _ => if dgB c then .bad (k + 2) 2 else .ok (10 * (a.toNat - 48) + (b.toNat - 48)) (k + 2)
        else .ok (a.toNat - 48) (k + 1)
    else .bad k 2
/-- a number that must not be below some other one, nor above 20 -/
def numP (t : List UInt8) (k least : Nat) : Res Nat :=
  match num t k with
  | .ok n to => if least ≤ n ∧ n ≤ 20 then .ok n to else .bad k 3
  | .bad p c => .bad p c
/-- the brace behind a count -/
def shutP (low : Nat) (high : Int) (t : List UInt8) (to : Nat) : Res (Nat × Int) :=
  match t with
  | [] => .bad to 5
  | c :: _ => if c.toNat = 125 then .ok (low, high) (to + 1) else .bad to 2
/-- what is behind a count's comma -/
def highP (low : Nat) (t : List UInt8) (k : Nat) : Res (Nat × Int) :=
  match t with
  | [] => .bad k 5
  | c :: _ =>
    if c.toNat = 125 then .ok (low, -1) (k + 1)
    else match numP t k (max low 1) with
      | .bad p e => .bad p e
      | .ok high to => shutP low high (t.drop (to - k)) to
/-- a count behind its brace, which stands ahead of place k -/
def cnt (t : List UInt8) (k : Nat) : Res (Nat × Int) :=
  match numP t k 0 with
  | .bad p e => .bad p e
  | .ok low to =>
    match t.drop (to - k) with
    | [] => .bad to 5
    | c :: u =>
      if c.toNat = 44 then highP low u (to + 1)
      else if c.toNat = 125 then (if low = 0 then .bad k 3 else .ok (low, (low : Int)) (to + 1))
      else .bad to 2
/-- how many bytes of a kind stand at the head -/
def run (p : UInt8 → Bool) : List UInt8 → Nat
  | [] => 0
  | c :: t => if p c then run p t + 1 else 0
/-- the sign of one byte -/
def single (c : UInt8) : Option (Int × Int × Int) :=
  if c.toNat = 40 then some (2, 0, 0) else if c.toNat = 41 then some (3, 0, 0) else if c.toNat = 124 then some (4, 0, 0)
  else if c.toNat = 42 then some (5, 0, -1) else if c.toNat = 43 then some (5, 1, -1) else if c.toNat = 63 then some (5, 0, 1) else none
def begins (c : UInt8) : Bool := smB c || c.toNat == 123 || (single c).isSome
/-- the sign at place k, whose text begins with c -/
def one (c : UInt8) (t : List UInt8) (k : Nat) : Res Sg :=
  if smB c then
    let n := run inB (c :: t)
    if n ≤ 12 then .ok ⟨1, k, 0, 0, (c :: t).take n⟩ (k + n) else .bad (k + 12) 2
  else if c.toNat = 123 then
    match cnt t (k + 1) with
    | .bad p e => .bad p e
    | .ok (low, high) to => .ok ⟨5, k, low, high, []⟩ to
  else match single c with
    | some (kd, lo, hi) => .ok ⟨kd, k, lo, hi, []⟩ (k + 1)
    | none => .bad k 2
/-- the signs from place k on, behind others -/
def lex : Nat → List UInt8 → Nat → List Sg → Res (List Sg)
  | 0, _, _, acc => .ok acc 0
  | f + 1, t, k, acc =>
    match t with
    | [] => .ok acc 0
    | c :: u =>
      if c.toNat = 32 then lex f u (k + 1) acc
      else if begins c && acc.length == 200 then .bad k 4
      else match one c u k with
        | .bad p e => .bad p e
        | .ok x to => lex f (t.drop (to - k)) to (acc ++ [x])
def Lex (s : List UInt8) : Res (List Sg) := lex s.length s 0 []

theorem run_le (p : UInt8 → Bool) : ∀ t, run p t ≤ t.length
  | [] => Nat.le_refl _
  | c :: t => by
    have := run_le p t
    unfold run
    split
    · simp; omega
    · simp
theorem num_to {t : List UInt8} {k n to : Nat} (h : num t k = .ok n to) : k < to ∧ to ≤ k + t.length ∧ to ≤ k + 2 ∧ n ≤ 3000 := by
  unfold num at h
  cases t with
  | nil => simp at h
  | cons a t =>
    have ha := a.toNat_lt
    simp only at h
    split at h
    · cases t with
      | nil => simp at h; simp; omega
      | cons b u =>
        have hb := b.toNat_lt
        simp only at h
        split at h
        · split at h
          · simp at h
          · cases u with
            | nil => simp at h; simp; omega
            | cons c u =>
              simp only at h
              split at h
              · simp at h
              · simp at h; simp; omega
        · simp at h; simp; omega
    · simp at h
theorem numP_to {t : List UInt8} {k l n to : Nat} (h : numP t k l = .ok n to) : num t k = .ok n to ∧ l ≤ n ∧ n ≤ 20 := by
  unfold numP at h
  split at h
  · split at h
    · injection h with h1 h2; subst h1; subst h2; exact ⟨‹_›, by omega, by omega⟩
    · simp at h
  · simp at h
theorem shutP_to {t : List UInt8} {k to l : Nat} {hi : Int} {p : Nat × Int} (h : shutP l hi t k = .ok p to) : p = (l, hi) ∧ to = k + 1 ∧ 0 < t.length := by
  unfold shutP at h
  split at h
  · simp at h
  · split at h
    · injection h with h1 h2; exact ⟨h1.symm, h2.symm, by simp⟩
    · simp at h
theorem highP_to {t : List UInt8} {k to l : Nat} {p : Nat × Int} (h : highP l t k = .ok p to) : p.1 = l ∧ (p.2 = -1 ∨ (1 ≤ p.2 ∧ p.2 ≤ 20 ∧ (l : Int) ≤ p.2)) ∧ k < to ∧ to ≤ k + t.length := by
  unfold highP at h
  split at h
  · simp at h
  · split at h
    · injection h with h1 h2; subst h1; subst h2; exact ⟨rfl, .inl rfl, by omega, by simp⟩
    · split at h
      · simp at h
      · rename_i hn
        obtain ⟨h1, h2, h3⟩ := numP_to hn
        have h4 := num_to h1
        obtain ⟨rfl, h6, h7⟩ := shutP_to h
        simp only [List.length_drop] at h7
        exact ⟨rfl, .inr ⟨by omega, by omega, by omega⟩, by omega, by omega⟩
theorem cnt_to {t : List UInt8} {k to : Nat} {p : Nat × Int} (h : cnt t k = .ok p to) : p.1 ≤ 20 ∧ (p.2 = -1 ∨ (1 ≤ p.2 ∧ p.2 ≤ 20 ∧ (p.1 : Int) ≤ p.2)) ∧ k < to ∧ to ≤ k + t.length := by
  unfold cnt at h
  split at h
  · simp at h
  · rename_i hn
    obtain ⟨h1, h2, h3⟩ := numP_to hn
    have h4 := num_to h1
    split at h
    · simp at h
    · rename_i hd
      have hl := congrArg List.length hd
      simp only [List.length_drop, List.length_cons] at hl
      split at h
      · obtain ⟨h5, h6, h7, h8⟩ := highP_to h
        exact ⟨by omega, by rw [h5]; exact h6, by omega, by omega⟩
      · split at h
        · split at h
          · simp at h
          · injection h with e1 e2; subst e1; subst e2; exact ⟨h3, .inr ⟨by simp; omega, by simp; omega, Int.le_refl _⟩, by omega, by omega⟩
        · simp at h
theorem one_to {c : UInt8} {t : List UInt8} {k to : Nat} {x : Sg} (h : one c t k = .ok x to) : k < to ∧ to ≤ k + t.length + 1 := by
  unfold one at h
  split at h
  · rename_i hs
    have h1 := run_le inB (c :: t)
    have h2 : 0 < run inB (c :: t) := by
      unfold run; rw [if_pos (by simp [inB, hs])]; omega
    simp only at h
    split at h
    · injection h with _ e; subst e; simp at h1; omega
    · simp at h
  · split at h
    · split at h
      · simp at h
      · rename_i hc
        have := cnt_to hc
        injection h with _ e; subst e; omega
    · split at h
      · injection h with _ e; subst e; omega
      · simp at h
/-- fuel beyond what is left turns nothing -/
theorem lex_fuel : ∀ (f g : Nat) (t : List UInt8) (k : Nat) (acc : List Sg), t.length ≤ f → t.length ≤ g → lex f t k acc = lex g t k acc
  | 0, 0, _, _, _, _, _ => rfl
  | 0, g + 1, [], _, _, _, _ => by simp [lex]
  | 0, g + 1, _ :: _, _, _, h, _ => by simp at h
  | f + 1, 0, [], _, _, _, _ => by simp [lex]
  | f + 1, 0, _ :: _, _, _, _, h => by simp at h
  | f + 1, g + 1, [], _, _, _, _ => by simp [lex]
  | f + 1, g + 1, c :: u, k, acc, h1, h2 => by
    simp only [List.length_cons] at h1 h2
    have e1 := lex_fuel f g u (k + 1) acc (by omega) (by omega)
    simp only [lex, e1]
    cases ho : one c u k with
    | bad p e => rfl
    | ok x to =>
      have := one_to ho
      simp only
      rw [lex_fuel f g ((c :: u).drop (to - k)) to (acc ++ [x]) (by simp; omega) (by simp; omega)]
/-- the signs of what is left -/
def From (t : List UInt8) (k : Nat) (acc : List Sg) : Res (List Sg) := lex t.length t k acc
theorem from_nil (k : Nat) (acc : List Sg) : From [] k acc = .ok acc 0 := rfl
theorem from_blank {c : UInt8} (u : List UInt8) (k : Nat) (acc : List Sg) (h : c.toNat = 32) : From (c :: u) k acc = From u (k + 1) acc := by
  simp [From, lex, h]
theorem from_full {c : UInt8} (u : List UInt8) (k : Nat) (acc : List Sg) (h : begins c = true) (ha : acc.length = 200) : From (c :: u) k acc = .bad k 4 := by
  have : c.toNat ≠ 32 := by
    intro e
    have hc : c = 32 := UInt8.toNat_inj.1 (by simpa using e)
    subst hc; revert h; decide
  simp [From, lex, h, ha, this]
theorem from_bad {c : UInt8} (u : List UInt8) (k : Nat) (acc : List Sg) (h32 : c.toNat ≠ 32) (h : ¬ (begins c = true ∧ acc.length = 200)) {p : Nat} {e : Int} (ho : one c u k = .bad p e) : From (c :: u) k acc = .bad p e := by
  have : (begins c && acc.length == 200) = false := by
    cases hb : begins c
    · rfl
    · simp [hb] at h; simp [h]
  simp [From, lex, h32, this, ho]
theorem from_ok {c : UInt8} (u : List UInt8) (k : Nat) (acc : List Sg) (h32 : c.toNat ≠ 32) (h : ¬ (begins c = true ∧ acc.length = 200)) {x : Sg} {to : Nat} (ho : one c u k = .ok x to) : From (c :: u) k acc = From ((c :: u).drop (to - k)) to (acc ++ [x]) := by
  have : (begins c && acc.length == 200) = false := by
    cases hb : begins c
    · rfl
    · simp [hb] at h; simp [h]
  have ht := one_to ho
  simp only [From, lex, List.length_cons, if_neg h32, this, ho, Bool.false_eq_true, if_false]
  exact lex_fuel _ _ _ _ _ (by simp; omega) (Nat.le_refl _)
end Go.Proofs.YtnbchikiiipejaaDoor.Lx
namespace Go.Proofs.YtnbchikiiipejaaDoor.Lx
open Go.Lib

/-- a count's text -/
def times (low high : Int) : List UInt8 :=
  if low = 0 ∧ high = -1 then [42] else if low = 1 ∧ high = -1 then [43] else if low = 0 ∧ high = 1 then [63]
  else 123 :: itoa low ++ (if low = high then [125] else if high = -1 then [44, 125] else 44 :: itoa high ++ [125])
def show1 (x : Sg) : List UInt8 :=
  if x.kind = 1 then x.name else if x.kind = 2 then [40] else if x.kind = 3 then [41] else if x.kind = 4 then [124] else if x.kind = 5 then times x.low x.high else []
def piece (i : Nat) (x : Sg) : List UInt8 := (if 0 < i ∧ x.kind ≠ 5 then [32] else []) ++ show1 x
def showN : Nat → List Sg → List UInt8
  | _, [] => []
  | i, x :: l => piece i x ++ showN (i + 1) l
theorem showN_append : ∀ (a b : List Sg) (i : Nat), showN i (a ++ b) = showN i a ++ showN (i + a.length) b
  | [], b, i => by simp [showN]
  | x :: a, b, i => by
    simp only [List.cons_append, showN, showN_append a b (i + 1), List.append_assoc, List.length_cons]
    rw [show i + 1 + a.length = i + (a.length + 1) from by omega]
theorem showN_take (l : List Sg) (k : Nat) (h : k < l.length) : showN 0 (l.take (k + 1)) = showN 0 (l.take k) ++ piece k l[k] := by
  rw [List.take_succ_eq_append_getElem h, showN_append, List.length_take, Nat.min_eq_left (by omega)]
  simp [showN]

/-- a sign that a text may have -/
def Fine (x : Sg) : Prop :=
  (x.kind = 1 ∧ x.low = 0 ∧ x.high = 0 ∧ (∃ c t, x.name = c :: t ∧ smB c = true) ∧ (∀ c ∈ x.name, inB c = true) ∧ x.name.length ≤ 12)
  ∨ ((x.kind = 2 ∨ x.kind = 3 ∨ x.kind = 4) ∧ x.low = 0 ∧ x.high = 0 ∧ x.name = [])
  ∨ (x.kind = 5 ∧ x.name = [] ∧ 0 ≤ x.low ∧ x.low ≤ 20 ∧ (x.high = -1 ∨ (1 ≤ x.high ∧ x.high ≤ 20 ∧ x.low ≤ x.high)))
/-- the same but for the place -/
def Alike (x y : Sg) : Prop := x.kind = y.kind ∧ x.low = y.low ∧ x.high = y.high ∧ x.name = y.name

theorem run_all (p : UInt8 → Bool) : ∀ (a : List UInt8) (b : List UInt8), (∀ c ∈ a, p c = true) → (∀ c t, b = c :: t → p c = false) → run p (a ++ b) = a.length
  | [], b, _, h => by
    cases b with
    | nil => rfl
    | cons c t => simp [run, h c t rfl]
  | c :: a, b, h1, h2 => by
    simp only [List.cons_append, run, h1 c (by simp), if_true, List.length_cons]
    rw [run_all p a b (fun c hc => h1 c (by simp [hc])) h2]
theorem run_taken (p : UInt8 → Bool) : ∀ (t : List UInt8), ∀ c ∈ t.take (run p t), p c = true
  | [] => by simp [run]
  | c :: t => by
    intro d hd
    unfold run at hd
    split at hd
    · rename_i hc
      rw [List.take_succ_cons] at hd
      rcases List.mem_cons.1 hd with h | h
      · rw [h]; exact hc
      · exact run_taken p t d h
    · simp at hd
theorem one_fine {c : UInt8} {t : List UInt8} {k to : Nat} {x : Sg} (h : one c t k = .ok x to) : Fine x ∧ x.at_ = k := by
  unfold one at h
  split at h
  · rename_i hs
    simp only at h
    split at h
    · rename_i hle
      injection h with e _; subst e
      have h2 : 0 < run inB (c :: t) := by
        unfold run; rw [if_pos (by simp [inB, hs])]; omega
      refine ⟨.inl ⟨rfl, rfl, rfl, ⟨c, t.take (run inB (c :: t) - 1), ?_, hs⟩, run_taken inB (c :: t), ?_⟩, rfl⟩
      · obtain ⟨m, hm⟩ : ∃ m, run inB (c :: t) = m + 1 := ⟨run inB (c :: t) - 1, by omega⟩
        rw [hm]; simp
      · simp only [List.length_take, List.length_cons]; omega
    · simp at h
  · split at h
    · split at h
      · simp at h
      · rename_i hc
        obtain ⟨h1, h2, _⟩ := cnt_to hc
        injection h with e _; subst e
        exact ⟨.inr (.inr ⟨rfl, rfl, by simp, by simp; omega, h2⟩), rfl⟩
    · split at h
      · rename_i hsn
        injection h with e _; subst e
        refine ⟨?_, rfl⟩
        unfold single at hsn
        repeat' split at hsn
        all_goals first
          | (simp only [Option.some.injEq, Prod.mk.injEq] at hsn; obtain ⟨rfl, rfl, rfl⟩ := hsn; simp [Fine])
          | simp at hsn
      · simp at h
theorem lex_fine : ∀ (f : Nat) (t : List UInt8) (k : Nat) (acc l : List Sg) (n : Nat), (∀ x ∈ acc, Fine x) → acc.length ≤ 200 → lex f t k acc = .ok l n → (∀ x ∈ l, Fine x) ∧ l.length ≤ 200 ∧ n = 0
  | 0, t, k, acc, l, n, h, ha, e => by simp [lex] at e; obtain ⟨rfl, rfl⟩ := e; exact ⟨h, ha, rfl⟩
  | f + 1, t, k, acc, l, n, h, ha, e => by
    cases t with
    | nil => simp [lex] at e; obtain ⟨rfl, rfl⟩ := e; exact ⟨h, ha, rfl⟩
    | cons c u =>
      unfold lex at e
      simp only at e
      split at e
      · exact lex_fine f u (k + 1) acc l n h ha e
      · split at e
        · simp at e
        · rename_i hb
          split at e
          · simp at e
          · rename_i x to ho
            have hx := (one_fine ho).1
            refine lex_fine f _ to (acc ++ [x]) l n ?_ ?_ e
            · intro y hy
              rcases List.mem_append.1 hy with h1 | h1
              · exact h y h1
              · rw [List.mem_singleton] at h1; subst h1; exact hx
            · have hbb : begins c = true := by
                cases hbc : begins c
                · exfalso
                  unfold begins at hbc
                  simp only [Bool.or_eq_false_iff] at hbc
                  obtain ⟨⟨b1, b2⟩, b3⟩ := hbc
                  have b2' : c.toNat ≠ 123 := by simpa using b2
                  have b3' : single c = none := by cases hs : single c <;> simp_all
                  rw [one, b1, if_neg (by decide), if_neg b2', b3'] at ho
                  simp at ho
                · rfl
              have : acc.length ≠ 200 := by
                intro e2; apply hb; simp [hbb, e2]
              simp; omega

/-- a digit's byte -/
def dc (m : Nat) : UInt8 := UInt8.ofNat (48 + m)
theorem dc_nat (m : Nat) (h : m < 10) : (dc m).toNat = 48 + m := by
  unfold dc; simp only [UInt8.toNat_ofNat']; omega
theorem dc_dg (m : Nat) (h : m < 10) : dgB (dc m) = true := by
  have := dc_nat m h
  simp only [dgB, this, Bool.and_eq_true, decide_eq_true_eq]; omega
theorem dec_small (n : Nat) (h : n ≤ 20) : decDigits n = if n < 10 then [dc n] else [dc (n / 10), dc (n % 10)] := by
  rw [decDigits]
  by_cases h1 : n < 10
  · rw [dif_pos h1, if_pos h1]; rfl
  · rw [dif_neg h1, if_neg h1, decDigits, dif_pos (by omega)]; rfl
theorem itoa_nat (n : Nat) : itoa (n : Int) = decDigits n := by
  unfold itoa
  rw [if_neg (by omega)]
  simp
theorem num_dec (n : Nat) (h : n ≤ 20) (c : UInt8) (t : List UInt8) (hc : dgB c = false) (k : Nat) : num (decDigits n ++ c :: t) k = .ok n (k + (decDigits n).length) := by
  rw [dec_small n h]
  by_cases h1 : n < 10
  · simp [num, h1, dc_dg n h1, hc, dc_nat n h1]
  · simp [num, h1, dc_dg (n / 10) (by omega), dc_dg (n % 10) (by omega), hc, dc_nat (n / 10) (by omega), dc_nat (n % 10) (by omega)]
    omega
theorem numP_dec (n : Nat) (h : n ≤ 20) (c : UInt8) (t : List UInt8) (hc : dgB c = false) (k l : Nat) (hl : l ≤ n) : numP (decDigits n ++ c :: t) k l = .ok n (k + (decDigits n).length) := by
  simp [numP, num_dec n h c t hc k, hl, h]
theorem dec_head (n : Nat) (h : n ≤ 20) : ∃ d u, decDigits n = d :: u ∧ dgB d = true := by
  rw [dec_small n h]
  split
  · exact ⟨_, _, rfl, dc_dg n (by omega)⟩
  · exact ⟨_, _, rfl, dc_dg (n / 10) (by omega)⟩
theorem cnt_shown (low : Nat) (high : Int) (hl : low ≤ 20) (hh : high = -1 ∨ (1 ≤ high ∧ high ≤ 20 ∧ (low : Int) ≤ high)) (t : List UInt8) (k : Nat) :
    cnt (itoa low ++ (if (low : Int) = high then [125] else if high = -1 then [44, 125] else 44 :: itoa high ++ [125]) ++ t) k
      = .ok (low, high) (k + (itoa low ++ (if (low : Int) = high then [125] else if high = -1 then [44, 125] else 44 :: itoa high ++ [125])).length) := by
  rw [itoa_nat]
  by_cases h1 : (low : Int) = high
  · have h0 : low ≠ 0 := by omega
    simp only [if_pos h1, List.append_assoc, List.singleton_append, cnt, numP_dec low hl 125 t (by decide) k 0 (Nat.zero_le _), Nat.add_sub_cancel_left]
    rw [List.drop_append_of_le_length (Nat.le_refl _), List.drop_length]
    simp [h0, h1]; omega
  · by_cases h2 : high = -1
    · simp only [if_neg h1, if_pos h2, List.append_assoc, List.cons_append, List.nil_append, cnt, numP_dec low hl 44 (125 :: t) (by decide) k 0 (Nat.zero_le _), Nat.add_sub_cancel_left]
      rw [List.drop_append_of_le_length (Nat.le_refl _), List.drop_length]
      simp [highP, h2]; omega
    · obtain ⟨m, rfl⟩ : ∃ m : Nat, high = m := ⟨high.toNat, by omega⟩
      have hm : m ≤ 20 := by omega
      obtain ⟨d, u, hdu, hd⟩ := dec_head m hm
      have hd125 : d.toNat ≠ 125 := by
        simp only [dgB, Bool.and_eq_true, decide_eq_true_eq] at hd; omega
      simp only [if_neg h1, if_neg h2, List.append_assoc, List.cons_append, List.nil_append, cnt, numP_dec low hl 44 _ (by decide) k 0 (Nat.zero_le _), Nat.add_sub_cancel_left]
      rw [List.drop_append_of_le_length (Nat.le_refl _), List.drop_length, itoa_nat]
      have e := numP_dec m hm 125 t (by decide) (k + (decDigits low).length + 1) (max low 1) (by omega)
      have e' : (decDigits m ++ (125 :: t)).drop (k + (decDigits low).length + 1 + (decDigits m).length - (k + (decDigits low).length + 1)) = 125 :: t := by
        rw [Nat.add_sub_cancel_left, List.drop_append_of_le_length (Nat.le_refl _), List.drop_length]; rfl
      rw [hdu] at e e'
      simp only [List.nil_append, hdu, List.cons_append] at e e' ⊢
      simp [highP, hd125, e, shutP]
      omega
/-- what is shown of a sign is that sign's text, whatever stands behind it, if it doesn't go on with a name -/
theorem one_shown (x : Sg) (hx : Fine x) (t : List UInt8) (ht : ∀ c u, t = c :: u → inB c = false) (k : Nat) :
    ∃ c u y, show1 x ++ t = c :: u ∧ c.toNat ≠ 32 ∧ one c u k = .ok y (k + (show1 x).length) ∧ Alike y x := by
  rcases hx with ⟨h1, h2, h3, ⟨c, u, hn, hc⟩, h4, h5⟩ | ⟨h1, h2, h3, h4⟩ | ⟨h1, h2, h3, h4, h5⟩
  · have hs : show1 x = c :: u := by simp [show1, h1, hn]
    have hr : run inB (c :: (u ++ t)) = (c :: u).length := run_all inB (c :: u) t (by rw [← hn]; exact h4) ht
    refine ⟨c, u ++ t, ⟨1, k, 0, 0, c :: u⟩, by rw [hs]; rfl, ?_, ?_, ?_⟩
    · simp only [smB, Bool.and_eq_true, decide_eq_true_eq] at hc; omega
    · rw [hn] at h5
      unfold one
      rw [if_pos hc]
      simp only [hr, if_pos h5, hs]
      congr 1
      have : (c :: (u ++ t)).take (c :: u).length = c :: u := by
        rw [show c :: (u ++ t) = (c :: u) ++ t from rfl, List.take_append_of_le_length (Nat.le_refl _), List.take_length]
      rw [this]
    · exact ⟨h1.symm, h2.symm, h3.symm, hn.symm⟩
  · have go : ∀ (c : UInt8) (kd : Int), x.kind = kd → show1 x = [c] → c.toNat ≠ 32 → c.toNat ≠ 123 → smB c = false → single c = some (kd, 0, 0) →
        ∃ c u y, show1 x ++ t = c :: u ∧ c.toNat ≠ 32 ∧ one c u k = .ok y (k + (show1 x).length) ∧ Alike y x := by
      intro c kd e1 e2 e3 e4 e5 e6
      refine ⟨c, t, ⟨kd, k, 0, 0, []⟩, by rw [e2]; rfl, e3, ?_, e1.symm, h2.symm, h3.symm, h4.symm⟩
      simp [one, e4, e5, e6, e2]
    rcases h1 with h | h | h
    · exact go 40 2 h (by simp [show1, h]) (by decide) (by decide) (by decide) (by decide)
    · exact go 41 3 h (by simp [show1, h]) (by decide) (by decide) (by decide) (by decide)
    · exact go 124 4 h (by simp [show1, h]) (by decide) (by decide) (by decide) (by decide)
  · have hs : show1 x = times x.low x.high := by simp [show1, h1]
    have go : ∀ (c : UInt8) (lo hi : Int), x.low = lo → x.high = hi → times x.low x.high = [c] → c.toNat ≠ 32 → c.toNat ≠ 123 → smB c = false → single c = some (5, lo, hi) →
        ∃ c u y, show1 x ++ t = c :: u ∧ c.toNat ≠ 32 ∧ one c u k = .ok y (k + (show1 x).length) ∧ Alike y x := by
      intro c lo hi e1 e1' e2 e3 e4 e5 e6
      refine ⟨c, t, ⟨5, k, lo, hi, []⟩, by rw [hs, e2]; rfl, e3, ?_, h1.symm, e1.symm, e1'.symm, h2.symm⟩
      simp [one, e4, e5, e6, hs, e2]
    by_cases a : x.low = 0 ∧ x.high = -1
    · exact go 42 0 (-1) a.1 a.2 (by unfold times; rw [if_pos a]) (by decide) (by decide) (by decide) (by decide)
    · by_cases b : x.low = 1 ∧ x.high = -1
      · exact go 43 1 (-1) b.1 b.2 (by unfold times; rw [if_neg a, if_pos b]) (by decide) (by decide) (by decide) (by decide)
      · by_cases d : x.low = 0 ∧ x.high = 1
        · exact go 63 0 1 d.1 d.2 (by unfold times; rw [if_neg a, if_neg b, if_pos d]) (by decide) (by decide) (by decide) (by decide)
        · obtain ⟨low, hlow⟩ : ∃ m : Nat, x.low = m := ⟨x.low.toNat, by omega⟩
          have ht' : times x.low x.high = 123 :: (itoa low ++ (if (low : Int) = x.high then [125] else if x.high = -1 then [44, 125] else 44 :: itoa x.high ++ [125])) := by
            unfold times; rw [if_neg a, if_neg b, if_neg d, hlow]; rfl
          have hcn := cnt_shown low x.high (by omega) (by rw [← hlow]; exact h5) t (k + 1)
          refine ⟨123, _, ⟨5, k, low, x.high, []⟩, by rw [hs, ht', List.cons_append], by decide, ?_, h1.symm, hlow.symm, rfl, h2.symm⟩
          unfold one
          rw [if_neg (by decide), if_pos (by decide), hcn, hs, ht']
          simp only [List.length_cons]
          congr 1; omega
theorem fine_begins {c : UInt8} {u : List UInt8} {k to : Nat} {y : Sg} (h : one c u k = .ok y to) : begins c = true := by
  cases hbc : begins c
  · exfalso
    unfold begins at hbc
    simp only [Bool.or_eq_false_iff] at hbc
    obtain ⟨⟨b1, b2⟩, b3⟩ := hbc
    have b2' : c.toNat ≠ 123 := by simpa using b2
    have b3' : single c = none := by cases hs : single c <;> simp_all
    rw [one, b1, if_neg (by decide), if_neg b2', b3'] at h
    simp at h
  · rfl
theorem times_head (low high : Int) : ∃ c u, times low high = c :: u ∧ inB c = false := by
  unfold times
  split
  · exact ⟨_, _, rfl, by decide⟩
  · split
    · exact ⟨_, _, rfl, by decide⟩
    · split
      · exact ⟨_, _, rfl, by decide⟩
      · exact ⟨_, _, rfl, by decide⟩
/-- what stands behind a sign goes on no name -/
theorem showN_head : ∀ (l : List Sg) (i : Nat), 0 < i → ∀ c u, showN i l = c :: u → inB c = false
  | [], _, _, c, u, h => by simp [showN] at h
  | x :: l, i, hi, c, u, h => by
    by_cases h5 : x.kind = 5
    · obtain ⟨d, v, e, hd⟩ := times_head x.low x.high
      have : piece i x = d :: v := by simp [piece, show1, h5, e]
      rw [showN, this] at h
      simp only [List.cons_append, List.cons.injEq] at h
      rw [← h.1]; exact hd
    · have : piece i x = 32 :: show1 x := by simp [piece, h5, hi]
      rw [showN, this] at h
      simp only [List.cons_append, List.cons.injEq] at h
      rw [← h.1]; decide
theorem from_one {c : UInt8} {u t : List UInt8} {k m : Nat} {acc : List Sg} {y : Sg} (h32 : c.toNat ≠ 32) (ha : acc.length < 200) (ho : one c u k = .ok y (k + m)) (ht : (c :: u).drop m = t) : From (c :: u) k acc = From t (k + m) (acc ++ [y]) := by
  rw [from_ok u k acc h32 (by intro h; omega) ho, Nat.add_sub_cancel_left, ht]
theorem lex_shown : ∀ (l : List Sg) (i k : Nat) (acc : List Sg), (∀ x ∈ l, Fine x) → acc.length + l.length ≤ 200 →
    ∃ l', From (showN i l) k acc = .ok (acc ++ l') 0 ∧ l'.length = l.length ∧ ∀ j (h : j < l'.length) (h' : j < l.length), Alike l'[j] l[j]
  | [], i, k, acc, _, _ => ⟨[], by simp [showN, from_nil], rfl, fun j h => by simp at h⟩
  | x :: l, i, k, acc, hf, hn => by
    simp only [List.length_cons] at hn
    have main : ∀ k, ∃ y, From (show1 x ++ showN (i + 1) l) k acc = From (showN (i + 1) l) (k + (show1 x).length) (acc ++ [y]) ∧ Alike y x := by
      intro k
      obtain ⟨c, u, y, e, h32, ho, hy⟩ := one_shown x (hf x (by simp)) (showN (i + 1) l) (showN_head l (i + 1) (by omega)) k
      refine ⟨y, ?_, hy⟩
      rw [e]
      exact from_one h32 (by omega) ho (by rw [← e, List.drop_append_of_le_length (Nat.le_refl _), List.drop_length]; rfl)
    have fin : ∀ k y, Alike y x → ∃ l', From (showN (i + 1) l) k (acc ++ [y]) = .ok (acc ++ l') 0 ∧ l'.length = (x :: l).length ∧ ∀ j (h : j < l'.length) (h' : j < (x :: l).length), Alike l'[j] (x :: l)[j] := by
      intro k y hy
      obtain ⟨l', e, hlen, hal⟩ := lex_shown l (i + 1) k (acc ++ [y]) (fun z hz => hf z (by simp [hz])) (by simp; omega)
      refine ⟨y :: l', by rw [e]; simp, by simp [hlen], fun j h h' => ?_⟩
      cases j with
      | zero => exact hy
      | succ j => exact hal j (by simpa using h) (by simpa using h')
    rw [showN]
    unfold piece
    split
    · obtain ⟨y, e, hy⟩ := main (k + 1)
      obtain ⟨l', e2, r⟩ := fin (k + 1 + (show1 x).length) y hy
      refine ⟨l', ?_, r⟩
      rw [List.append_assoc, List.singleton_append, from_blank _ _ _ (by decide), e, e2]
    · obtain ⟨y, e, hy⟩ := main k
      obtain ⟨l', e2, r⟩ := fin (k + (show1 x).length) y hy
      refine ⟨l', ?_, r⟩
      rw [List.nil_append, e, e2]
end Go.Proofs.YtnbchikiiipejaaDoor.Lx
