/- How open a row of tokens is, by their kinds alone; nothing of the program. -/
namespace Go.Proofs.Ytnmphoemiohgjaa.Sl

/-- (left, right) by one pass from the front -/
def stepO (s : Nat × Nat) (c : Int) : Nat × Nat :=
  if c = 2 then (if s.2 = 0 then (s.1 + 1, 0) else (s.1, s.2 - 1)) else if c = 1 then (s.1, s.2 + 1) else s
def opn (K : List Int) : Nat × Nat := K.foldl stepO (0, 0)
/-- two parts' openness as one -/
def comb (x y : Nat × Nat) : Nat × Nat := (x.1 + (y.1 - x.2), y.2 + (x.2 - y.1))
theorem step_comb (s : Nat × Nat) (c : Int) : stepO s c = comb s (stepO (0, 0) c) := by
  obtain ⟨a, b⟩ := s
  unfold stepO comb
  by_cases h2 : c = 2
  · subst h2
    by_cases hb : b = 0
    · subst hb; simp
    · simp [hb]; omega
  · by_cases h1 : c = 1
    · subst h1; simp; omega
    · simp [h2, h1]
theorem comb_assoc (x y z : Nat × Nat) : comb (comb x y) z = comb x (comb y z) := by
  obtain ⟨a, b⟩ := x; obtain ⟨c, d⟩ := y; obtain ⟨e, f⟩ := z
  unfold comb
  simp only [Prod.mk.injEq]
  omega
theorem comb_zero (x : Nat × Nat) : comb x (0, 0) = x := by obtain ⟨a, b⟩ := x; simp [comb]
theorem zero_comb (x : Nat × Nat) : comb (0, 0) x = x := by obtain ⟨a, b⟩ := x; simp [comb]
theorem fold_comb (K : List Int) : ∀ s, K.foldl stepO s = comb s (opn K) := by
  induction K with
  | nil => intro s; simp [opn, comb_zero]
  | cons c K ih =>
    intro s
    unfold opn
    rw [List.foldl_cons, List.foldl_cons, ih, ih (stepO (0, 0) c), step_comb s c, comb_assoc]
theorem opn_append (K L : List Int) : opn (K ++ L) = comb (opn K) (opn L) := by
  unfold opn; rw [List.foldl_append, fold_comb]; rfl
theorem opn_nil : opn [] = (0, 0) := rfl
theorem opn_one (c : Int) : opn [c] = stepO (0, 0) c := rfl
theorem opn_cons (c : Int) (K : List Int) : opn (c :: K) = comb (stepO (0, 0) c) (opn K) := by
  rw [show c :: K = [c] ++ K from rfl, opn_append, opn_one]
theorem opn_snoc (K : List Int) (c : Int) : opn (K ++ [c]) = stepO (opn K) c := by
  rw [opn_append, opn_one, ← step_comb]
theorem opn_le (K : List Int) : (opn K).1 ≤ K.length ∧ (opn K).2 ≤ K.length := by
  induction K with
  | nil => simp [opn_nil]
  | cons c K ih =>
    rw [opn_cons]
    unfold comb stepO
    simp only [List.length_cons]
    repeat' split
    all_goals (simp; omega)

/-- one token's weight -/
def wt (c : Int) : Int := if c = 1 then 1 else if c = 2 then -1 else 0
def bal (K : List Int) : Int := (K.map wt).sum
theorem bal_nil : bal [] = 0 := rfl
theorem bal_cons (c : Int) (K : List Int) : bal (c :: K) = wt c + bal K := rfl
theorem bal_append (K L : List Int) : bal (K ++ L) = bal K + bal L := by
  unfold bal; rw [List.map_append, List.sum_append]
theorem bal_opn (K : List Int) : bal K = (opn K).2 - (opn K).1 := by
  induction K with
  | nil => simp [opn_nil, bal_nil]
  | cons c K ih =>
    rw [bal_cons, ih, opn_cons]
    unfold wt comb stepO
    repeat' split
    all_goals (simp; try omega)

/-- an open token ahead of K stays open: no front of K (with it) comes to nothing -/
def openFront (K : List Int) : Bool := (List.range K.length).all fun j => 1 + bal (K.take (j + 1)) != 0
/-- right, over places from the end: each open token that no front behind it shuts -/
def cntR : List Int → Nat
  | [] => 0
  | c :: K => (if c = 1 ∧ openFront K = true then 1 else 0) + cntR K
/-- fronts of K go below -m just if more than m closes in it shut nothing -/
theorem front_low (K : List Int) : ∀ m : Nat, (∃ j, j < K.length ∧ (m : Int) + 1 + bal (K.take (j + 1)) = 0) ↔ m < (opn K).1 := by
  induction K with
  | nil => intro m; simp [opn_nil]
  | cons c K ih =>
    intro m
    have split : (∃ j, j < (c :: K).length ∧ (m : Int) + 1 + bal ((c :: K).take (j + 1)) = 0) ↔ ((m : Int) + 1 + wt c = 0 ∨ ∃ j, j < K.length ∧ (m : Int) + 1 + wt c + bal (K.take (j + 1)) = 0) := by
      constructor
      · rintro ⟨j, hj, h⟩
        cases j with
        | zero => left; simpa [bal_cons, bal_nil] using h
        | succ j => right; exact ⟨j, by simpa using hj, by rw [List.take_succ_cons, bal_cons] at h; omega⟩
      · rintro (h | ⟨j, hj, h⟩)
        · exact ⟨0, by simp, by simpa [bal_cons, bal_nil] using h⟩
        · exact ⟨j + 1, by simpa using hj, by rw [List.take_succ_cons, bal_cons]; omega⟩
    rw [split, opn_cons]
    by_cases h2 : c = 2
    · subst h2
      have hw : wt 2 = -1 := by decide
      rw [hw]
      cases m with
      | zero => simp [comb, stepO]; omega
      | succ m =>
        have := ih m
        have e : (∃ j, j < K.length ∧ ((m + 1 : Nat) : Int) + 1 + -1 + bal (K.take (j + 1)) = 0) ↔ (∃ j, j < K.length ∧ (m : Int) + 1 + bal (K.take (j + 1)) = 0) := by
          constructor
          all_goals rintro ⟨j, hj, h⟩; exact ⟨j, hj, by omega⟩
        rw [e, this]
        simp [comb, stepO]; omega
    · by_cases h1 : c = 1
      · subst h1
        have hw : wt 1 = 1 := by decide
        rw [hw]
        have := ih (m + 1)
        have e : (∃ j, j < K.length ∧ (m : Int) + 1 + 1 + bal (K.take (j + 1)) = 0) ↔ (∃ j, j < K.length ∧ ((m + 1 : Nat) : Int) + 1 + bal (K.take (j + 1)) = 0) := by
          constructor
          all_goals rintro ⟨j, hj, h⟩; exact ⟨j, hj, by omega⟩
        rw [e, this]
        simp [comb, stepO]; omega
      · have hw : wt c = 0 := by simp [wt, h1, h2]
        rw [hw]
        have e : (∃ j, j < K.length ∧ (m : Int) + 1 + 0 + bal (K.take (j + 1)) = 0) ↔ (∃ j, j < K.length ∧ (m : Int) + 1 + bal (K.take (j + 1)) = 0) := by
          constructor
          all_goals rintro ⟨j, hj, h⟩; exact ⟨j, hj, by omega⟩
        rw [e, ih m]
        simp [comb, stepO, h1, h2]; omega
theorem openFront_iff (K : List Int) : openFront K = true ↔ (opn K).1 = 0 := by
  have := front_low K 0
  unfold openFront
  rw [List.all_eq_true]
  constructor
  · intro h
    rcases Nat.eq_zero_or_pos (opn K).1 with h0 | h0
    · exact h0
    · obtain ⟨j, hj, he⟩ := this.2 h0
      have := h j (List.mem_range.2 hj)
      simp at this
      omega
  · intro h0 j hj
    have hn : ¬ ∃ j, j < K.length ∧ ((0 : Nat) : Int) + 1 + bal (K.take (j + 1)) = 0 := by rw [this]; omega
    simp only [bne_iff_ne, ne_eq]
    intro he
    exact hn ⟨j, List.mem_range.1 hj, by omega⟩
theorem cntR_opn (K : List Int) : cntR K = (opn K).2 := by
  induction K with
  | nil => rfl
  | cons c K ih =>
    have h1 := openFront_iff K
    unfold cntR
    rw [ih, opn_cons]
    by_cases h2 : c = 2
    · subst h2; simp [comb, stepO]
    · by_cases hc : c = 1
      · subst hc
        by_cases h0 : (opn K).1 = 0
        · rw [if_pos ⟨rfl, h1.2 h0⟩]; simp [comb, stepO, h0]; omega
        · rw [if_neg (by rintro ⟨_, h⟩; exact h0 (h1.1 h))]; simp [comb, stepO]; omega
      · rw [if_neg (by rintro ⟨h, _⟩; exact hc h)]; simp [comb, stepO, hc, h2]

/-- the same backwards: no end of K with a close behind it comes to nothing -/
def openEnd (K : List Int) : Bool := (List.range K.length).all fun j => bal (K.drop j) - 1 != 0
theorem end_high (K : List Int) : ∀ m : Nat, (∃ j, j < K.length ∧ bal (K.drop j) - 1 = m) ↔ m < (opn K).2 := by
  induction K with
  | nil => intro m; simp [opn_nil]
  | cons c K ih =>
    intro m
    have split : (∃ j, j < (c :: K).length ∧ bal ((c :: K).drop j) - 1 = m) ↔ (wt c + bal K - 1 = m ∨ ∃ j, j < K.length ∧ bal (K.drop j) - 1 = m) := by
      constructor
      · rintro ⟨j, hj, h⟩
        cases j with
        | zero => left; simpa [bal_cons] using h
        | succ j => right; exact ⟨j, by simpa using hj, by simpa using h⟩
      · rintro (h | ⟨j, hj, h⟩)
        · exact ⟨0, by simp, by simpa [bal_cons] using h⟩
        · exact ⟨j + 1, by simpa using hj, by simpa using h⟩
    rw [split, ih m, bal_opn K, opn_cons]
    by_cases h2 : c = 2
    · subst h2
      have hw : wt 2 = -1 := by decide
      rw [hw]; simp [comb, stepO]; omega
    · by_cases h1 : c = 1
      · subst h1
        have hw : wt 1 = 1 := by decide
        rw [hw]; simp [comb, stepO]; omega
      · have hw : wt c = 0 := by simp [wt, h1, h2]
        rw [hw]; simp [comb, stepO, h1, h2]; omega
theorem openEnd_iff (K : List Int) : openEnd K = true ↔ (opn K).2 = 0 := by
  have := end_high K 0
  unfold openEnd
  rw [List.all_eq_true]
  constructor
  · intro h
    rcases Nat.eq_zero_or_pos (opn K).2 with h0 | h0
    · exact h0
    · obtain ⟨j, hj, he⟩ := this.2 h0
      have := h j (List.mem_range.2 hj)
      simp at this
      omega
  · intro h0 j hj
    have hn : ¬ ∃ j, j < K.length ∧ bal (K.drop j) - 1 = ((0 : Nat) : Int) := by rw [this]; omega
    simp only [bne_iff_ne, ne_eq]
    intro he
    exact hn ⟨j, List.mem_range.1 hj, by omega⟩

/-- what the reference counts up to place i: of kind c, those without a partner -/
def lone (K : List Int) (c : Int) (i : Nat) : Bool :=
  K.getD i 0 == c && (if c = 2 then openEnd (K.take i) else openFront (K.drop (i + 1)))
def cnt (K : List Int) (c : Int) : Nat → Nat
  | 0 => 0
  | i + 1 => cnt K c i + (if lone K c i = true then 1 else 0)
theorem cnt_le (K : List Int) (c : Int) : ∀ i, cnt K c i ≤ i := by
  intro i
  induction i with
  | zero => simp [cnt]
  | succ i ih => unfold cnt; split <;> omega
theorem cnt_left (K : List Int) : ∀ i, i ≤ K.length → cnt K 2 i = (opn (K.take i)).1 := by
  intro i
  induction i with
  | zero => intro _; simp [cnt, opn_nil]
  | succ i ih =>
    intro hi
    have hk : K.take (i + 1) = K.take i ++ [K[i]] := by rw [List.take_succ_eq_append_getElem (by omega)]
    unfold cnt
    rw [ih (by omega), hk, opn_snoc]
    have hg : K.getD i 0 = K[i] := by simp [List.getD, List.getElem?_eq_getElem (show i < K.length by omega)]
    have he := openEnd_iff (K.take i)
    unfold lone
    rw [hg, if_pos rfl]
    generalize K[i] = c
    unfold stepO
    by_cases h2 : c = 2
    · subst h2
      by_cases h0 : (opn (K.take i)).2 = 0
      · simp [he.2 h0, h0]
      · have : openEnd (K.take i) = false := by
          cases hx : openEnd (K.take i)
          · rfl
          · exact absurd (he.1 hx) h0
        simp [this, h0]
    · by_cases h1 : c = 1
      · subst h1; simp
      · simp [h1, h2]
theorem cnt_right_from (K : List Int) : ∀ i, i ≤ K.length → cnt K 1 i + cntR (K.drop i) = cntR K := by
  intro i
  induction i with
  | zero => intro _; simp [cnt]
  | succ i ih =>
    intro hi
    have h := ih (by omega)
    have hd : K.drop i = K[i] :: K.drop (i + 1) := List.drop_eq_getElem_cons (by omega)
    rw [hd, show cntR (K[i] :: K.drop (i + 1)) = (if K[i] = 1 ∧ openFront (K.drop (i + 1)) = true then 1 else 0) + cntR (K.drop (i + 1)) from rfl] at h
    have hg : K.getD i 0 = K[i] := by simp [List.getD, List.getElem?_eq_getElem (show i < K.length by omega)]
    unfold cnt lone
    rw [hg]
    simp only [show ¬ ((1 : Int) = 2) by decide, if_false, Bool.and_eq_true, beq_iff_eq]
    omega
theorem cnt_open (K : List Int) : cnt K 2 K.length = (opn K).1 ∧ cnt K 1 K.length = (opn K).2 := by
  refine ⟨by rw [cnt_left K _ (Nat.le_refl _), List.take_length], ?_⟩
  have := cnt_right_from K K.length (Nat.le_refl _)
  rw [List.drop_length] at this
  rw [← cntR_opn, ← this]; simp [cntR]
end Go.Proofs.Ytnmphoemiohgjaa.Sl
