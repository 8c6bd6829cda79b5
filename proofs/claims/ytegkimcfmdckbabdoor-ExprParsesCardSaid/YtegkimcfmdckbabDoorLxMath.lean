/- Signs: what a text's are, and their text; plain lists, nothing of the program. -/
namespace Go.Proofs.YtegkimcfmdckbabDoor.Lx

/-- a sign -/
structure Sg where
  kind : Int
  at_ : Int
  low : Int
  high : Int
  name : List UInt8
deriving DecidableEq

inductive Res (α : Type) where
  | ok (a : α) (n : Nat)
  | bad (n : Nat) (c : Int)
deriving DecidableEq

def smB (c : UInt8) : Bool := decide (97 ≤ c.toNat) && decide (c.toNat ≤ 122)
def dgB (c : UInt8) : Bool := decide (48 ≤ c.toNat) && decide (c.toNat ≤ 57)
def inB (c : UInt8) : Bool := smB c || dgB c

/-- a number at place k; t is what is left from there -/
def num : List UInt8 → Nat → Res Nat
  | [], k => .bad k 5
  | a :: t, k =>
    if dgB a then
      match t with
      | [] => .ok (a.toNat - 48) (k + 1)
      | b :: u =>
        if dgB b then
          if a.toNat = 48 then .bad (k + 1) 2
          else match u with
            | [] => .ok (10 * (a.toNat - 48) + (b.toNat - 48)) (k + 2)
            | c :: _ => if dgB c then .bad (k + 2) 2 else .ok (10 * (a.toNat - 48) + (b.toNat - 48)) (k + 2)
        else .ok (a.toNat - 48) (k + 1)
    else .bad k 2
/-- a number that must not be below some other one, nor above 20 -/
def numP (t : List UInt8) (k least : Nat) : Res Nat :=
  match num t k with
  | .ok n to => if least ≤ n ∧ n ≤ 20 then .ok n to else .bad k 3
  | .bad p c => .bad p c
/-- the brace behind a count -/
def shutP (low : Nat) (high : Int) (t : List UInt8) (to : Nat) : Res (Nat × Int) :=
  match t with
  | [] => .bad to 5
  | c :: _ => if c.toNat = 125 then .ok (low, high) (to + 1) else .bad to 2
/-- what is behind a count's comma -/
def highP (low : Nat) (t : List UInt8) (k : Nat) : Res (Nat × Int) :=
  match t with
  | [] => .bad k 5
  | c :: _ =>
    if c.toNat = 125 then .ok (low, -1) (k + 1)
    else match numP t k (max low 1) with
      | .bad p e => .bad p e
      | .ok high to => shutP low high (t.drop (to - k)) to
/-- a count behind its brace, which stands ahead of place k -/
def cnt (t : List UInt8) (k : Nat) : Res (Nat × Int) :=
  match numP t k 0 with
  | .bad p e => .bad p e
  | .ok low to =>
    match t.drop (to - k) with
    | [] => .bad to 5
    | c :: u =>
      if c.toNat = 44 then highP low u (to + 1)
      else if c.toNat = 125 then (if low = 0 then .bad k 3 else .ok (low, (low : Int)) (to + 1))
      else .bad to 2
/-- how many bytes of a kind stand at the head -/
def run (p : UInt8 → Bool) : List UInt8 → Nat
  | [] => 0
  | c :: t => if p c then run p t + 1 else 0
/-- the sign of one byte -/
def single (c : UInt8) : Option (Int × Int × Int) :=
  if c.toNat = 40 then some (2, 0, 0) else if c.toNat = 41 then some (3, 0, 0) else if c.toNat = 124 then some (4, 0, 0)
  else if c.toNat = 42 then some (5, 0, -1) else if c.toNat = 43 then some (5, 1, -1) else if c.toNat = 63 then some (5, 0, 1) else none
def begins (c : UInt8) : Bool := smB c || c.toNat == 123 || (single c).isSome
/-- the sign at place k, whose text begins with c -/
def one (c : UInt8) (t : List UInt8) (k : Nat) : Res Sg :=
  if smB c then
    let n := run inB (c :: t)
    if n ≤ 12 then .ok ⟨1, k, 0, 0, (c :: t).take n⟩ (k + n) else .bad (k + 12) 2
  else if c.toNat = 123 then
    match cnt t (k + 1) with
    | .bad p e => .bad p e
    | .ok (low, high) to => .ok ⟨5, k, low, high, []⟩ to
  else match single c with
    | some (kd, lo, hi) => .ok ⟨kd, k, lo, hi, []⟩ (k + 1)
    | none => .bad k 2
/-- the signs from place k on, behind others -/
def lex : Nat → List UInt8 → Nat → List Sg → Res (List Sg)
  | 0, _, _, acc => .ok acc 0
  | f + 1, t, k, acc =>
    match t with
    | [] => .ok acc 0
    | c :: u =>
      if c.toNat = 32 then lex f u (k + 1) acc
      else if begins c && acc.length == 200 then .bad k 4
      else match one c u k with
        | .bad p e => .bad p e
        | .ok x to => lex f (t.drop (to - k)) to (acc ++ [x])
def Lex (s : List UInt8) : Res (List Sg) := lex s.length s 0 []

theorem run_le (p : UInt8 → Bool) : ∀ t, run p t ≤ t.length
  | [] => Nat.le_refl _
  | c :: t => by
    have := run_le p t
    unfold run
    split
    · simp; omega
    · simp
theorem num_to {t : List UInt8} {k n to : Nat} (h : num t k = .ok n to) : k < to ∧ to ≤ k + t.length ∧ to ≤ k + 2 ∧ n ≤ 3000 := by
  unfold num at h
  cases t with
  | nil => simp at h
  | cons a t =>
    have ha := a.toNat_lt
    simp only at h
    split at h
    · cases t with
      | nil => simp at h; simp; omega
      | cons b u =>
        have hb := b.toNat_lt
        simp only at h
        split at h
        · split at h
          · simp at h
          · cases u with
            | nil => simp at h; simp; omega
            | cons c u =>
              simp only at h
              split at h
              · simp at h
              · simp at h; simp; omega
        · simp at h; simp; omega
    · simp at h
theorem numP_to {t : List UInt8} {k l n to : Nat} (h : numP t k l = .ok n to) : num t k = .ok n to ∧ l ≤ n ∧ n ≤ 20 := by
  unfold numP at h
  split at h
  · split at h
    · injection h with h1 h2; subst h1; subst h2; exact ⟨‹_›, by omega, by omega⟩
    · simp at h
  · simp at h
theorem shutP_to {t : List UInt8} {k to l : Nat} {hi : Int} {p : Nat × Int} (h : shutP l hi t k = .ok p to) : p = (l, hi) ∧ to = k + 1 ∧ 0 < t.length := by
  unfold shutP at h
  split at h
  · simp at h
  · split at h
    · injection h with h1 h2; exact ⟨h1.symm, h2.symm, by simp⟩
    · simp at h
theorem highP_to {t : List UInt8} {k to l : Nat} {p : Nat × Int} (h : highP l t k = .ok p to) : p.1 = l ∧ (p.2 = -1 ∨ (1 ≤ p.2 ∧ p.2 ≤ 20 ∧ (l : Int) ≤ p.2)) ∧ k < to ∧ to ≤ k + t.length := by
  unfold highP at h
  split at h
  · simp at h
  · split at h
    · injection h with h1 h2; subst h1; subst h2; exact ⟨rfl, .inl rfl, by omega, by simp⟩
    · split at h
      · simp at h
      · rename_i hn
        obtain ⟨h1, h2, h3⟩ := numP_to hn
        have h4 := num_to h1
        obtain ⟨rfl, h6, h7⟩ := shutP_to h
        simp only [List.length_drop] at h7
        exact ⟨rfl, .inr ⟨by omega, by omega, by omega⟩, by omega, by omega⟩
theorem cnt_to {t : List UInt8} {k to : Nat} {p : Nat × Int} (h : cnt t k = .ok p to) : p.1 ≤ 20 ∧ (p.2 = -1 ∨ (1 ≤ p.2 ∧ p.2 ≤ 20 ∧ (p.1 : Int) ≤ p.2)) ∧ k < to ∧ to ≤ k + t.length := by
  unfold cnt at h
  split at h
  · simp at h
  · rename_i hn
    obtain ⟨h1, h2, h3⟩ := numP_to hn
    have h4 := num_to h1
    split at h
    · simp at h
    · rename_i hd
      have hl := congrArg List.length hd
      simp only [List.length_drop, List.length_cons] at hl
      split at h
      · obtain ⟨h5, h6, h7, h8⟩ := highP_to h
        exact ⟨by omega, by rw [h5]; exact h6, by omega, by omega⟩
      · split at h
        · split at h
          · simp at h
          · injection h with e1 e2; subst e1; subst e2; exact ⟨h3, .inr ⟨by simp; omega, by simp; omega, Int.le_refl _⟩, by omega, by omega⟩
        · simp at h
theorem one_to {c : UInt8} {t : List UInt8} {k to : Nat} {x : Sg} (h : one c t k = .ok x to) : k < to ∧ to ≤ k + t.length + 1 := by
  unfold one at h
  split at h
  · rename_i hs
    have h1 := run_le inB (c :: t)
    have h2 : 0 < run inB (c :: t) := by
      unfold run; rw [if_pos (by simp [inB, hs])]; omega
    simp only at h
    split at h
    · injection h with _ e; subst e; simp at h1; omega
    · simp at h
  · split at h
    · split at h
      · simp at h
      · rename_i hc
        have := cnt_to hc
        injection h with _ e; subst e; omega
    · split at h
      · injection h with _ e; subst e; omega
      · simp at h
/-- fuel beyond what is left turns nothing -/
theorem lex_fuel : ∀ (f g : Nat) (t : List UInt8) (k : Nat) (acc : List Sg), t.length ≤ f → t.length ≤ g → lex f t k acc = lex g t k acc
  | 0, 0, _, _, _, _, _ => rfl
  | 0, g + 1, [], _, _, _, _ => by simp [lex]
  | 0, g + 1, _ :: _, _, _, h, _ => by simp at h
  | f + 1, 0, [], _, _, _, _ => by simp [lex]
  | f + 1, 0, _ :: _, _, _, _, h => by simp at h
  | f + 1, g + 1, [], _, _, _, _ => by simp [lex]
  | f + 1, g + 1, c :: u, k, acc, h1, h2 => by
    simp only [List.length_cons] at h1 h2
    have e1 := lex_fuel f g u (k + 1) acc (by omega) (by omega)
    simp only [lex, e1]
    cases ho : one c u k with
    | bad p e => rfl
    | ok x to =>
      have := one_to ho
      simp only
      rw [lex_fuel f g ((c :: u).drop (to - k)) to (acc ++ [x]) (by simp; omega) (by simp; omega)]
/-- the signs of what is left -/
def From (t : List UInt8) (k : Nat) (acc : List Sg) : Res (List Sg) := lex t.length t k acc
theorem from_nil (k : Nat) (acc : List Sg) : From [] k acc = .ok acc 0 := rfl
theorem from_blank {c : UInt8} (u : List UInt8) (k : Nat) (acc : List Sg) (h : c.toNat = 32) : From (c :: u) k acc = From u (k + 1) acc := by
  simp [From, lex, h]
theorem from_full {c : UInt8} (u : List UInt8) (k : Nat) (acc : List Sg) (h : begins c = true) (ha : acc.length = 200) : From (c :: u) k acc = .bad k 4 := by
  have : c.toNat ≠ 32 := by
    intro e
    have hc : c = 32 := UInt8.toNat_inj.1 (by simpa using e)
    subst hc; revert h; decide
  simp [From, lex, h, ha, this]
theorem from_bad {c : UInt8} (u : List UInt8) (k : Nat) (acc : List Sg) (h32 : c.toNat ≠ 32) (h : ¬ (begins c = true ∧ acc.length = 200)) {p : Nat} {e : Int} (ho : one c u k = .bad p e) : From (c :: u) k acc = .bad p e := by
  have : (begins c && acc.length == 200) = false := by
    cases hb : begins c
    · rfl
    · simp [hb] at h; simp [h]
  simp [From, lex, h32, this, ho]
theorem from_ok {c : UInt8} (u : List UInt8) (k : Nat) (acc : List Sg) (h32 : c.toNat ≠ 32) (h : ¬ (begins c = true ∧ acc.length = 200)) {x : Sg} {to : Nat} (ho : one c u k = .ok x to) : From (c :: u) k acc = From ((c :: u).drop (to - k)) to (acc ++ [x]) := by
  have : (begins c && acc.length == 200) = false := by
    cases hb : begins c
    · rfl
    · simp [hb] at h; simp [h]
  have ht := one_to ho
  simp only [From, lex, List.length_cons, if_neg h32, this, ho, Bool.false_eq_true, if_false]
  exact lex_fuel _ _ _ _ _ (by simp; omega) (Nat.le_refl _)
end Go.Proofs.YtegkimcfmdckbabDoor.Lx
