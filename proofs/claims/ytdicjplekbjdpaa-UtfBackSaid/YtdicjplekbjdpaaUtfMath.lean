/- Plain facts on letters and their bytes; nothing of the program. -/
import Init
namespace Go.Proofs.Ytdicjplekbjdpaa.Utf

/-- may a code point be a letter -/
def rtB (r : Int) : Bool := decide (0 ≤ r ∧ r ≤ 1114111 ∧ (r < 55296 ∨ 57343 < r))
/-- how many bytes a letter has -/
def lenI (r : Int) : Int := if rtB r = false then 0 else if r < 128 then 1 else if r < 2048 then 2 else if r < 65536 then 3 else 4
/-- a letter's bytes -/
def bytes (r : Int) : List Int :=
  if r < 128 then [r] else if r < 2048 then [192 + r / 64, 128 + r % 64] else if r < 65536 then [224 + r / 4096, 128 + r / 64 % 64, 128 + r % 64]
  else [240 + r / 262144, 128 + r / 4096 % 64, 128 + r / 64 % 64, 128 + r % 64]

theorem rtB_true {r : Int} (h : 0 ≤ r ∧ r ≤ 1114111 ∧ (r < 55296 ∨ 57343 < r)) : rtB r = true := decide_eq_true h
theorem rtB_false {r : Int} (h : ¬ (0 ≤ r ∧ r ≤ 1114111 ∧ (r < 55296 ∨ 57343 < r))) : rtB r = false := decide_eq_false h
theorem of_rtB {r : Int} (h : rtB r = true) : 0 ≤ r ∧ r ≤ 1114111 ∧ (r < 55296 ∨ 57343 < r) := of_decide_eq_true h
theorem of_rtB_false {r : Int} (h : rtB r = false) : ¬ (0 ≤ r ∧ r ≤ 1114111 ∧ (r < 55296 ∨ 57343 < r)) := of_decide_eq_false h

theorem lenI_bytes {r : Int} (h : rtB r = true) : lenI r = ((bytes r).length : Int) := by
  unfold lenI bytes
  rw [if_neg (by simp [h])]
  by_cases a : r < 128
  · simp [a]
  · by_cases b : r < 2048
    · simp [a, b]
    · by_cases c : r < 65536 <;> simp [a, b, c]
theorem lenI_pos {r : Int} (h : rtB r = true) : 1 ≤ lenI r ∧ lenI r ≤ 4 := by
  unfold lenI; rw [if_neg (by simp [h])]; split <;> (try split) <;> (try split) <;> omega
theorem lenI_zero {r : Int} (h : rtB r = false) : lenI r = 0 := by unfold lenI; rw [if_pos h]
theorem lenI_ne {r : Int} (h : lenI r ≠ 0) : rtB r = true := by
  cases e : rtB r
  · exact absurd (lenI_zero e) h
  · rfl
theorem bytes_byte {r : Int} (h : rtB r = true) : ∀ x ∈ bytes r, 0 ≤ x ∧ x ≤ 255 := by
  have := of_rtB h
  intro x hx
  unfold bytes at hx
  split at hx
  · simp at hx; omega
  · split at hx
    · simp at hx; omega
    · split at hx
      · simp at hx; omega
      · simp at hx; omega
theorem bytes_length (r : Int) : 1 ≤ (bytes r).length ∧ (bytes r).length ≤ 4 := by
  unfold bytes; split
  · simp
  · split
    · simp
    · split <;> simp

/-- the letter r stands at place p of zs -/
def At (zs : List Int) (p : Nat) (r : Int) : Prop := rtB r = true ∧ bytes r <+: zs.drop p

/-- what a first byte has of its letter, how many bytes it asks for -/
def headR (c : Int) : Int := if c < 128 then c else if c / 32 = 6 then c % 32 else if c / 16 = 14 then c % 16 else if c / 8 = 30 then c % 8 else 0
def headN (c : Int) : Nat := if c < 128 then 1 else if c / 32 = 6 then 2 else if c / 16 = 14 then 3 else if c / 8 = 30 then 4 else 0
/-- a byte that continues -/
def contB (zs : List Int) (p : Nat) : Bool := decide (p < zs.length ∧ zs.getD p 0 / 64 = 2)
def acc (zs : List Int) (p : Nat) (r : Int) : Nat → Int
  | 0 => r
  | k + 1 => 64 * acc zs p r k + zs.getD (p + 1 + k) 0 % 64

theorem headN_le (c : Int) : headN c ≤ 4 := by unfold headN; split <;> (try split) <;> (try split) <;> (try split) <;> omega
theorem headR_bd (c : Int) (h0 : 0 ≤ c) (h1 : c ≤ 255) : 0 ≤ headR c ∧ headR c ≤ 127 ∧ (headN c = 2 → headR c < 32) ∧ (headN c = 3 → headR c < 16) ∧ (headN c = 4 → headR c < 8) := by
  unfold headR headN; split <;> (try split) <;> (try split) <;> (try split) <;> omega
/-- the accumulated letter stays small -/
theorem acc_bd (zs : List Int) (p : Nat) (c : Int) (h0 : 0 ≤ c) (h1 : c ≤ 255) : ∀ k, k + 1 ≤ headN c → 0 ≤ acc zs p (headR c) k ∧ acc zs p (headR c) k < 2097152 ∧ (k + 2 ≤ headN c → acc zs p (headR c) k < 32768) := by
  have hb := headR_bd c h0 h1
  have hn := headN_le c
  intro k hk
  have : k = 0 ∨ k = 1 ∨ k = 2 ∨ k = 3 := by omega
  have e2 : headN c = 1 ∨ headN c = 2 ∨ headN c = 3 ∨ headN c = 4 := by omega
  rcases this with rfl | rfl | rfl | rfl
  · simp only [acc]; omega
  · simp only [acc]; omega
  · simp only [acc]; omega
  · simp only [acc]; omega

theorem drop_cons {zs : List Int} {p : Nat} (h : p < zs.length) : zs.drop p = zs.getD p 0 :: zs.drop (p + 1) := by
  rw [List.drop_eq_getElem_cons h]; simp [List.getD, List.getElem?_eq_getElem h]
theorem getD_drop_lt {zs : List Int} {p : Nat} {a : Int} {t : List Int} (h : zs.drop p = a :: t) : p < zs.length ∧ zs.getD p 0 = a ∧ zs.drop (p + 1) = t := by
  have hp : p < zs.length := by
    rcases Nat.lt_or_ge p zs.length with h1 | h1
    · exact h1
    · rw [List.drop_of_length_le h1] at h; cases h
  rw [drop_cons hp] at h
  injection h with h1 h2
  exact ⟨hp, h1, h2⟩
theorem pre1 {zs : List Int} {p : Nat} {a : Int} (h : [a] <+: zs.drop p) : p < zs.length ∧ zs.getD p 0 = a := by
  obtain ⟨t, ht⟩ := h
  have := getD_drop_lt ht.symm
  exact ⟨this.1, this.2.1⟩
theorem pre2 {zs : List Int} {p : Nat} {a : Int} {l : List Int} (h : a :: l <+: zs.drop p) : p < zs.length ∧ zs.getD p 0 = a ∧ l <+: zs.drop (p + 1) := by
  obtain ⟨t, ht⟩ := h
  have := getD_drop_lt (show zs.drop p = a :: (l ++ t) from ht.symm)
  exact ⟨this.1, this.2.1, ⟨t, this.2.2.symm⟩⟩
theorem mk_pre1 {zs : List Int} {p : Nat} {a : Int} (h : p < zs.length) (e : zs.getD p 0 = a) : [a] <+: zs.drop p := ⟨zs.drop (p + 1), by rw [drop_cons h, e]; rfl⟩
theorem mk_pre2 {zs : List Int} {p : Nat} {a : Int} {l : List Int} (h : p < zs.length) (e : zs.getD p 0 = a) (r : l <+: zs.drop (p + 1)) : a :: l <+: zs.drop p := by
  obtain ⟨t, ht⟩ := r
  exact ⟨t, by rw [drop_cons h, e, ← ht]; rfl⟩

/-- what stands at a place is what its first byte and the bytes behind it say -/
theorem At.says {zs : List Int} {p : Nat} {r : Int} (h : At zs p r) : p < zs.length ∧ headN (zs.getD p 0) = (bytes r).length ∧ (∀ j, j + 1 < headN (zs.getD p 0) → contB zs (p + 1 + j) = true) ∧
    acc zs p (headR (zs.getD p 0)) (headN (zs.getD p 0) - 1) = r ∧ lenI r = ((headN (zs.getD p 0) : Nat) : Int) := by
  have hr := of_rtB h.1
  have hl := lenI_bytes h.1
  have hp := h.2
  unfold bytes at hp
  by_cases a : r < 128
  · rw [if_pos a] at hp
    obtain ⟨q0, e0⟩ := pre1 hp
    have n1 : headN (zs.getD p 0) = 1 := by rw [e0]; simp [headN, a]
    have lb : (bytes r).length = 1 := by simp [bytes, a]
    refine ⟨q0, by rw [n1, lb], fun j hj => by omega, ?_, by rw [hl, n1, lb]⟩
    rw [n1]; simp only [Nat.sub_self, acc]; rw [e0]; simp [headR, a]
  · rw [if_neg a] at hp
    by_cases b : r < 2048
    · rw [if_pos b] at hp
      obtain ⟨q0, e0, hp⟩ := pre2 hp
      obtain ⟨q1, e1⟩ := pre1 hp
      have n1 : headN (zs.getD p 0) = 2 := by rw [e0]; unfold headN; rw [if_neg (by omega), if_pos (by omega)]
      have r1 : headR (zs.getD p 0) = r / 64 := by rw [e0]; unfold headR; rw [if_neg (by omega), if_pos (by omega)]; omega
      have lb : (bytes r).length = 2 := by simp [bytes, a, b]
      refine ⟨q0, by rw [n1, lb], fun j hj => ?_, ?_, by rw [hl, n1, lb]⟩
      · obtain rfl : j = 0 := by omega
        exact decide_eq_true ⟨q1, by simp only [Nat.add_zero]; omega⟩
      · rw [n1, r1]; simp only [acc, Nat.add_zero]; omega
    · rw [if_neg b] at hp
      by_cases c : r < 65536
      · rw [if_pos c] at hp
        obtain ⟨q0, e0, hp⟩ := pre2 hp
        obtain ⟨q1, e1, hp⟩ := pre2 hp
        obtain ⟨q2, e2⟩ := pre1 hp
        have n1 : headN (zs.getD p 0) = 3 := by rw [e0]; unfold headN; rw [if_neg (by omega), if_neg (by omega), if_pos (by omega)]
        have r1 : headR (zs.getD p 0) = r / 4096 := by rw [e0]; unfold headR; rw [if_neg (by omega), if_neg (by omega), if_pos (by omega)]; omega
        have lb : (bytes r).length = 3 := by simp [bytes, a, b, c]
        refine ⟨q0, by rw [n1, lb], fun j hj => ?_, ?_, by rw [hl, n1, lb]⟩
        · have : j = 0 ∨ j = 1 := by omega
          rcases this with rfl | rfl
          · exact decide_eq_true ⟨q1, by simp only [Nat.add_zero]; omega⟩
          · exact decide_eq_true ⟨q2, by omega⟩
        · rw [n1, r1]; simp only [acc, Nat.add_zero]; omega
      · rw [if_neg c] at hp
        obtain ⟨q0, e0, hp⟩ := pre2 hp
        obtain ⟨q1, e1, hp⟩ := pre2 hp
        obtain ⟨q2, e2, hp⟩ := pre2 hp
        obtain ⟨q3, e3⟩ := pre1 hp
        have n1 : headN (zs.getD p 0) = 4 := by rw [e0]; unfold headN; rw [if_neg (by omega), if_neg (by omega), if_neg (by omega), if_pos (by omega)]
        have r1 : headR (zs.getD p 0) = r / 262144 := by rw [e0]; unfold headR; rw [if_neg (by omega), if_neg (by omega), if_neg (by omega), if_pos (by omega)]; omega
        have lb : (bytes r).length = 4 := by simp [bytes, a, b, c]
        refine ⟨q0, by rw [n1, lb], fun j hj => ?_, ?_, by rw [hl, n1, lb]⟩
        · have : j = 0 ∨ j = 1 ∨ j = 2 := by omega
          rcases this with rfl | rfl | rfl
          · exact decide_eq_true ⟨q1, by simp only [Nat.add_zero]; omega⟩
          · exact decide_eq_true ⟨q2, by omega⟩
          · exact decide_eq_true ⟨q3, by rw [show p + 1 + 2 = p + 1 + 1 + 1 from rfl]; omega⟩
        · rw [n1, r1]; simp only [acc, Nat.add_zero]; rw [show p + 1 + 2 = p + 1 + 1 + 1 from rfl]; omega

/-- what its first byte and the bytes behind it say stands there -/
theorem At.mk' {zs : List Int} {p : Nat} (hp : p < zs.length) (hb : ∀ j, 0 ≤ zs.getD j 0 ∧ zs.getD j 0 ≤ 255) (hc : ∀ j, j + 1 < headN (zs.getD p 0) → contB zs (p + 1 + j) = true)
    (hn : headN (zs.getD p 0) ≠ 0) (hl : lenI (acc zs p (headR (zs.getD p 0)) (headN (zs.getD p 0) - 1)) = ((headN (zs.getD p 0) : Nat) : Int)) :
    At zs p (acc zs p (headR (zs.getD p 0)) (headN (zs.getD p 0) - 1)) := by
  have ht : rtB (acc zs p (headR (zs.getD p 0)) (headN (zs.getD p 0) - 1)) = true := lenI_ne (by rw [hl]; omega)
  refine ⟨ht, ?_⟩
  have hr := of_rtB ht
  have hb0 := hb p
  have hb1 := hb (p + 1)
  have hb2 := hb (p + 1 + 1)
  have hb3 := hb (p + 1 + 2)
  have hnl := headN_le (zs.getD p 0)
  unfold lenI at hl
  rw [if_neg (by rw [ht]; exact Bool.noConfusion)] at hl
  have h1 : ∀ j, j + 1 < headN (zs.getD p 0) → p + 1 + j < zs.length ∧ zs.getD (p + 1 + j) 0 / 64 = 2 := fun j hj => of_decide_eq_true (hc j hj)
  have cases4 : headN (zs.getD p 0) = 1 ∨ headN (zs.getD p 0) = 2 ∨ headN (zs.getD p 0) = 3 ∨ headN (zs.getD p 0) = 4 := by omega
  generalize hz : zs.getD p 0 = z at *
  rcases cases4 with e | e | e | e
  · have zl : z < 128 := by
      unfold headN at e; revert e; split
      · intro _; assumption
      · split <;> (try split) <;> (try split) <;> omega
    have rz : headR z = z := by simp [headR, zl]
    rw [e, rz] at hl hr ⊢
    simp only [Nat.sub_self, acc] at hl hr ⊢
    unfold bytes; rw [if_pos zl]
    exact mk_pre1 hp hz
  · have zl : z / 32 = 6 := by
      unfold headN at e; revert e; split
      · omega
      · split
        · intro _; assumption
        · split <;> (try split) <;> omega
    have rz : headR z = z % 32 := by unfold headR; rw [if_neg (by omega), if_pos zl]
    have c0 := h1 0 (by omega)
    rw [e, rz] at hl hr ⊢
    simp only [acc, Nat.add_zero, show 2 - 1 = 1 from rfl] at hl hr c0 ⊢
    have g1 : ¬ 64 * (z % 32) + zs.getD (p + 1) 0 % 64 < 128 := by intro h; rw [if_pos h] at hl; omega
    rw [if_neg g1] at hl
    have g2 : 64 * (z % 32) + zs.getD (p + 1) 0 % 64 < 2048 := by omega
    unfold bytes; rw [if_neg g1, if_pos g2]
    exact mk_pre2 hp (by omega) (mk_pre1 c0.1 (by omega))
  · have zl : z / 16 = 14 := by
      unfold headN at e; revert e; split
      · omega
      · split
        · omega
        · split
          · intro _; assumption
          · split <;> omega
    have rz : headR z = z % 16 := by unfold headR; rw [if_neg (by omega), if_neg (by omega), if_pos zl]
    have c0 := h1 0 (by omega)
    have c1 := h1 1 (by omega)
    rw [e, rz] at hl hr ⊢
    simp only [acc, Nat.add_zero, show 3 - 1 = 2 from rfl] at hl hr c0 ⊢
    generalize hx : 64 * (64 * (z % 16) + zs.getD (p + 1) 0 % 64) + zs.getD (p + 1 + 1) 0 % 64 = x at *
    have g1 : ¬ x < 128 := by intro h; rw [if_pos h] at hl; omega
    rw [if_neg g1] at hl
    have g2 : ¬ x < 2048 := by intro h; rw [if_pos h] at hl; omega
    have g3 : x < 65536 := by omega
    unfold bytes; rw [if_neg g1, if_neg g2, if_pos g3]
    exact mk_pre2 hp (by omega) (mk_pre2 c0.1 (by omega) (mk_pre1 c1.1 (by omega)))
  · have zl : z / 8 = 30 := by
      unfold headN at e; revert e; split
      · omega
      · split
        · omega
        · split
          · omega
          · split
            · intro _; assumption
            · omega
    have rz : headR z = z % 8 := by unfold headR; rw [if_neg (by omega), if_neg (by omega), if_neg (by omega), if_pos zl]
    have c0 := h1 0 (by omega)
    have c1 := h1 1 (by omega)
    have c2 := h1 2 (by omega)
    rw [e, rz] at hl hr ⊢
    simp only [acc, Nat.add_zero, show 4 - 1 = 3 from rfl] at hl hr c0 ⊢
    generalize hx : 64 * (64 * (64 * (z % 8) + zs.getD (p + 1) 0 % 64) + zs.getD (p + 1 + 1) 0 % 64) + zs.getD (p + 1 + 2) 0 % 64 = x at *
    have g1 : ¬ x < 128 := by intro h; rw [if_pos h] at hl; omega
    rw [if_neg g1] at hl
    have g2 : ¬ x < 2048 := by intro h; rw [if_pos h] at hl; omega
    rw [if_neg g2] at hl
    have g3 : ¬ x < 65536 := by intro h; rw [if_pos h] at hl; omega
    unfold bytes; rw [if_neg g1, if_neg g2, if_neg g3]
    exact mk_pre2 hp (by omega) (mk_pre2 c0.1 (by omega) (mk_pre2 c1.1 (by omega) (mk_pre1 (by have := c2.1; omega) (by rw [show p + 1 + 1 + 1 = p + 1 + 2 from rfl]; omega))))

/-- one letter stands at a place -/
theorem At.one {zs : List Int} {p : Nat} {r r' : Int} (h : At zs p r) (h' : At zs p r') : r = r' := by
  rw [← h.says.2.2.2.1, ← h'.says.2.2.2.1]
end Go.Proofs.Ytdicjplekbjdpaa.Utf
