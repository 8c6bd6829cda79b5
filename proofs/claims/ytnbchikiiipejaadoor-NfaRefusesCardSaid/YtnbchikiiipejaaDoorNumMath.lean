/- Plain facts on decimal numerals; nothing of the program. -/
import Derived.Lib.ItoaNum
import Derived.Lib.AtoiAll
import Derived.Laws.Small
namespace Go.Proofs.YtnbchikiiipejaaDoor.Wd
open Go.Lib

/-- what digits spell -/
def val (l : List UInt8) : Nat := l.foldl (fun a c => a * 10 + (c.toNat - 48)) 0
def isD (c : UInt8) : Prop := 48 ≤ c.toNat ∧ c.toNat ≤ 57

theorem fold_val : ∀ (l : List UInt8) (a : Nat), l.foldl (fun a c => a * 10 + (c.toNat - 48)) a = a * 10 ^ l.length + val l
  | [], a => by simp [val]
  | c :: r, a => by
    unfold val
    rw [List.foldl_cons, List.foldl_cons, fold_val r, fold_val r (0 * 10 + (c.toNat - 48)), List.length_cons, Nat.pow_succ]
    rw [Nat.zero_mul, Nat.zero_add, Nat.add_mul, Nat.mul_assoc, Nat.mul_comm 10]
    omega
theorem val_append (a b : List UInt8) : val (a ++ b) = val a * 10 ^ b.length + val b := by
  unfold val
  rw [List.foldl_append, fold_val]; rfl
theorem val_one (c : UInt8) : val [c] = c.toNat - 48 := by simp [val]

theorem dec_digits : ∀ (u : Nat), (∀ c ∈ decDigits u, isD c) ∧ val (decDigits u) = u ∧ 1 ≤ (decDigits u).length := by
  intro u
  induction u using Nat.strongRecOn with
  | _ u ih =>
    rw [decDigits]
    by_cases h : u < 10
    · rw [dif_pos h]
      have e : (UInt8.ofNat (48 + u)).toNat = 48 + u := by simp only [UInt8.toNat_ofNat']; omega
      refine ⟨fun c hc => ?_, ?_, by simp⟩
      · rw [List.mem_singleton] at hc; subst hc; unfold isD; omega
      · rw [val_one, e]; omega
    · rw [dif_neg h]
      obtain ⟨h1, h2, h3⟩ := ih (u / 10) (by omega)
      have e : (UInt8.ofNat (48 + u % 10)).toNat = 48 + u % 10 := by simp only [UInt8.toNat_ofNat']; omega
      refine ⟨fun c hc => ?_, ?_, by simp⟩
      · rcases List.mem_append.1 hc with h4 | h4
        · exact h1 c h4
        · rw [List.mem_singleton] at h4; subst h4; unfold isD; omega
      · rw [val_append, h2, val_one, e]; simp; omega
theorem dec_len (u : Nat) : 10 ^ ((decDigits u).length - 1) ≤ u ∨ u = 0 := by
  induction u using Nat.strongRecOn with
  | _ u ih =>
    rw [decDigits]
    by_cases h : u < 10
    · rw [dif_pos h]; simp; omega
    · rw [dif_neg h]
      left
      rw [List.length_append, List.length_singleton, Nat.add_sub_cancel]
      have h3 := (dec_digits (u / 10)).2.2
      rcases ih (u / 10) (by omega) with h1 | h1
      · have : 10 ^ (decDigits (u / 10)).length = 10 ^ ((decDigits (u / 10)).length - 1) * 10 := by
          rw [← Nat.pow_succ]; congr 1; omega
        omega
      · omega
theorem dec_len20 (u : Nat) (hu : u < 100000000000000000000) : (decDigits u).length ≤ 20 := by
  rcases dec_len u with h | h
  · rcases Nat.lt_or_ge 20 (decDigits u).length with h1 | h1
    · exfalso
      have : 10 ^ 20 ≤ 10 ^ ((decDigits u).length - 1) := Nat.pow_le_pow_right (by omega) (by omega)
      omega
    · exact h1
  · subst h
    rw [decDigits, dif_pos (by omega)]; simp
theorem dec_len19 (u : Nat) (hu : u < 10000000000000000000) : (decDigits u).length ≤ 19 := by
  rcases dec_len u with h | h
  · rcases Nat.lt_or_ge 19 (decDigits u).length with h1 | h1
    · exfalso
      have : 10 ^ 19 ≤ 10 ^ ((decDigits u).length - 1) := Nat.pow_le_pow_right (by omega) (by omega)
      omega
    · exact h1
  · subst h
    rw [decDigits, dif_pos (by omega)]; simp

theorem parse_ok : ∀ (l : List UInt8) (acc : Nat), (∀ c ∈ l, isD c) → acc * 10 ^ l.length + val l ≤ 9223372036854775808 → parseUint10 acc l = .ok (acc * 10 ^ l.length + val l)
  | [], acc, _, _ => by simp [parseUint10, val]
  | c :: r, acc, h, hb => by
    have hc := h c List.mem_cons_self
    unfold isD at hc
    have e : acc * 10 ^ (c :: r).length + val (c :: r) = (acc * 10 + (c.toNat - 48)) * 10 ^ r.length + val r := by
      have h1 := val_append [c] r
      rw [List.singleton_append, val_one] at h1
      rw [h1, List.length_cons, Nat.pow_succ, Nat.add_mul, Nat.mul_assoc, Nat.mul_comm 10]
      omega
    rw [e] at hb ⊢
    have hp : 1 ≤ 10 ^ r.length := Nat.one_le_pow _ _ (by omega)
    have hm : acc * 10 + (c.toNat - 48) ≤ (acc * 10 + (c.toNat - 48)) * 10 ^ r.length := Nat.le_mul_of_pos_right _ hp
    rw [parseUint10, if_pos hc, if_neg (by omega), if_neg (by omega)]
    exact parse_ok r _ (fun x hx => h x (List.mem_cons_of_mem _ hx)) hb

/-- a number's word is read as that number -/
theorem atoi_itoa (v : Int) (h0 : -9223372036854775808 ≤ v) (h1 : v ≤ 9223372036854775807) : atoiAll (itoa v) = .ok v := by
  unfold itoa
  by_cases hv : v < 0
  · rw [if_pos hv]
    obtain ⟨d1, d2, d3⟩ := dec_digits v.natAbs
    have hp : parseMag (decDigits v.natAbs) = .ok v.natAbs := by
      unfold parseMag
      rw [if_neg (fun h => by rw [h] at d3; simp at d3), parse_ok _ 0 d1 (by rw [d2]; omega), d2]; simp
    unfold atoiAll
    simp only [show (45 : UInt8).toNat = 45 from rfl, or_true, if_true, hp]
    rw [if_neg (by simp), if_neg (by omega)]
    congr 1; omega
  · rw [if_neg hv]
    obtain ⟨d1, d2, d3⟩ := dec_digits v.toNat
    have hp : parseMag (decDigits v.toNat) = .ok v.toNat := by
      unfold parseMag
      rw [if_neg (fun h => by rw [h] at d3; simp at d3), parse_ok _ 0 d1 (by rw [d2]; omega), d2]; simp
    cases hd : decDigits v.toNat with
    | nil => rw [hd] at d3; simp at d3
    | cons c r =>
      have hc := d1 c (by rw [hd]; exact List.mem_cons_self)
      unfold isD at hc
      rw [hd] at hp
      unfold atoiAll
      simp only
      rw [if_neg (by omega), hp]
      simp only
      rw [if_neg (by omega), if_neg (by omega), if_neg (by omega)]
      congr 1; omega

/-- the reference's running value -/
def st (l : List UInt8) : Nat → Nat
  | 0 => 0
  | k + 1 => if k = 0 ∧ (l.getD 0 0).toNat = 45 then 0 else 10 * st l k + ((l.getD k 0).toNat - 48)

theorem st_plain {l : List UInt8} (h : (l.getD 0 0).toNat ≠ 45) : ∀ k, k ≤ l.length → st l k = val (l.take k)
  | 0, _ => by simp [st, val]
  | k + 1, hk => by
    have hk' : k < l.length := by omega
    rw [st, if_neg (fun h' => h h'.2), st_plain h k (by omega), List.take_succ_eq_append_getElem hk', val_append, val_one]
    simp [List.getD, List.getElem?_eq_getElem hk']; omega
theorem st_minus {d : List UInt8} : ∀ k, k ≤ d.length → st (45 :: d) (k + 1) = val (d.take k)
  | 0, _ => by simp [st, val]
  | k + 1, hk => by
    have hk' : k < d.length := by omega
    rw [st, if_neg (fun h' => by omega), st_minus k (by omega), List.take_succ_eq_append_getElem hk', val_append, val_one]
    simp [List.getD, List.getElem?_eq_getElem hk']; omega
theorem val_take {d : List UInt8} {k : Nat} (hk : k < d.length) : val (d.take k) * 10 ≤ val d := by
  have h1 := val_append (d.take k) (d.drop k)
  rw [List.take_append_drop] at h1
  have h2 : 10 ≤ 10 ^ (d.drop k).length := by
    have : 10 ^ 1 ≤ 10 ^ (d.drop k).length := Nat.pow_le_pow_right (by omega) (by rw [List.length_drop]; omega)
    simpa using this
  have h3 := Nat.mul_le_mul_left (val (d.take k)) h2
  omega

/-- what the reference meets at a number's word -/
theorem itoa_says (v : Int) (h0 : -9223372036854775808 ≤ v) (h1 : v ≤ 9223372036854775807) :
    1 ≤ (itoa v).length ∧ (itoa v).length ≤ 20 ∧ (∀ k, k < (itoa v).length → (k = 0 ∧ ((itoa v).getD 0 0).toNat = 45) ∨ (isD ((itoa v).getD k 0) ∧ st (itoa v) k ≤ 922337203685477580)) ∧
    st (itoa v) (itoa v).length = v.natAbs ∧ (((itoa v).getD 0 0).toNat = 45 ↔ v < 0) := by
  unfold itoa
  by_cases hv : v < 0
  · rw [if_pos hv]
    obtain ⟨d1, d2, d3⟩ := dec_digits v.natAbs
    have h19 := dec_len19 v.natAbs (by omega)
    refine ⟨by simp, by simp; omega, fun k hk => ?_, ?_, by simp [hv]⟩
    · cases k with
      | zero => left; exact ⟨rfl, rfl⟩
      | succ k =>
        right
        have hk' : k < (decDigits v.natAbs).length := by simp at hk; omega
        refine ⟨?_, ?_⟩
        · have : (45 :: decDigits v.natAbs).getD (k + 1) 0 = (decDigits v.natAbs)[k] := by simp [List.getD, List.getElem?_eq_getElem hk']
          rw [this]; exact d1 _ (List.getElem_mem hk')
        · rw [st_minus k (by omega)]
          have := val_take hk'
          omega
    · rw [List.length_cons, st_minus _ (Nat.le_refl _), List.take_of_length_le (Nat.le_refl _), d2]
  · rw [if_neg hv]
    obtain ⟨d1, d2, d3⟩ := dec_digits v.toNat
    have h19 := dec_len19 v.toNat (by omega)
    have hg : ∀ k, k < (decDigits v.toNat).length → isD ((decDigits v.toNat).getD k 0) := fun k hk => by
      have : (decDigits v.toNat).getD k 0 = (decDigits v.toNat)[k] := by simp [List.getD, List.getElem?_eq_getElem hk]
      rw [this]; exact d1 _ (List.getElem_mem hk)
    have h45 : ((decDigits v.toNat).getD 0 0).toNat ≠ 45 := by have := hg 0 (by omega); unfold isD at this; omega
    refine ⟨d3, by omega, fun k hk => .inr ⟨hg k hk, ?_⟩, ?_, by constructor <;> intro h <;> omega⟩
    · rw [st_plain h45 k (by omega)]
      have := val_take hk
      omega
    · rw [st_plain h45 _ (Nat.le_refl _), List.take_of_length_le (Nat.le_refl _), d2]; omega
end Go.Proofs.YtnbchikiiipejaaDoor.Wd
