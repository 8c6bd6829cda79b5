/- How many bits a word has, by the bits' sums in halves; nothing of the program. -/
import Derived.Test.YtlnljgfppipceaaDoorBgBits
namespace Go.Proofs.YtlnljgfppipceaaDoor.Bg

def D : List Nat → Nat
  | [] => 0
  | f :: l => f + 256 * D l
def rep (m : Nat) : Nat → Nat
  | 0 => 0
  | n + 1 => m + 256 * rep m n
def cnt (k x : Nat) : Nat := ((List.range k).filter x.testBit).length

theorem land256 (u v p q : Nat) (hu : u < 256) (hv : v < 256) : (u + 256 * p) &&& (v + 256 * q) = (u &&& v) + 256 * (p &&& q) := by
  have huv : u &&& v < 2 ^ 8 := Nat.lt_of_le_of_lt Nat.and_le_left hu
  refine Nat.eq_of_testBit_eq fun j => ?_
  rw [Nat.testBit_and, Nat.add_comm u, Nat.add_comm v, Nat.add_comm (u &&& v), show (256 : Nat) = 2 ^ 8 from rfl,
    Nat.testBit_two_pow_mul_add p (show u < 2 ^ 8 from hu), Nat.testBit_two_pow_mul_add q (show v < 2 ^ 8 from hv), Nat.testBit_two_pow_mul_add (p &&& q) huv]
  split <;> simp [Nat.testBit_and]

def g1 (f : Nat) : Nat := (f / 2 &&& 85) + (f &&& 85)
def g2 (f : Nat) : Nat := (f / 4 &&& 51) + (f &&& 51)
def g3 (f : Nat) : Nat := f / 16 + f % 16
theorem a1 : ∀ f, f < 256 → ∀ c, c < 2 → (f / 2 + 128 * c) &&& 85 = f / 2 &&& 85 := by decide +kernel
theorem a2 : ∀ f, f < 256 → ∀ c, c < 4 → (f / 4 + 64 * c) &&& 51 = f / 4 &&& 51 := by decide +kernel
theorem a3 : ∀ f, f < 256 → g1 f < 256 ∧ g2 (g1 f) < 256 ∧ g2 (g1 f) % 16 ≤ 4 ∧ g2 (g1 f) / 16 ≤ 4 ∧ g3 (g2 (g1 f)) = cnt 8 f := by decide +kernel
theorem st1 : ∀ l : List Nat, (∀ f ∈ l, f < 256) → (D l / 2 &&& rep 85 l.length) + (D l &&& rep 85 l.length) = D (l.map g1)
  | [], _ => rfl
  | f :: l, h => by
    have hf := h f (by simp)
    have ih := st1 l fun g hg => h g (by simp [hg])
    simp only [D, rep, List.length_cons, List.map_cons]
    rw [show (f + 256 * D l) / 2 = (f / 2 + 128 * (D l % 2)) + 256 * (D l / 2) from by omega, land256 _ _ _ _ (by omega) (by decide), land256 _ _ _ _ hf (by decide), a1 f hf _ (Nat.mod_lt _ (by decide)), ← ih]
    unfold g1; omega
theorem st2 : ∀ l : List Nat, (∀ f ∈ l, f < 256) → (D l / 4 &&& rep 51 l.length) + (D l &&& rep 51 l.length) = D (l.map g2)
  | [], _ => rfl
  | f :: l, h => by
    have hf := h f (by simp)
    have ih := st2 l fun g hg => h g (by simp [hg])
    simp only [D, rep, List.length_cons, List.map_cons]
    rw [show (f + 256 * D l) / 4 = (f / 4 + 64 * (D l % 4)) + 256 * (D l / 4) from by omega, land256 _ _ _ _ (by omega) (by decide), land256 _ _ _ _ hf (by decide), a2 f hf _ (Nat.mod_lt _ (by decide)), ← ih]
    unfold g2; omega
theorem st3 : ∀ l : List Nat, (∀ f ∈ l, f < 256 ∧ f % 16 ≤ 4 ∧ f / 16 ≤ 4) → (D l / 16 + D l &&& rep 15 l.length) = D (l.map g3)
  | [], _ => rfl
  | f :: l, h => by
    obtain ⟨h0, h1, h2⟩ := h f (by simp)
    have ih := st3 l fun g hg => h g (by simp [hg])
    have hx : D l % 16 ≤ 4 := by
      cases l with
      | nil => decide
      | cons g l =>
        have := (h g (by simp)).2.1
        simp only [D]; omega
    simp only [D, rep, List.length_cons, List.map_cons]
    rw [show (f + 256 * D l) / 16 + (f + 256 * D l) = (f / 16 + 16 * (D l % 16) + f) + 256 * (D l / 16 + D l) from by omega, land256 _ _ _ _ (by omega) (by decide), ih]
    have : (f / 16 + 16 * (D l % 16) + f) &&& 15 = f / 16 + f % 16 := by
      rw [show (15 : Nat) = 2 ^ 4 - 1 from rfl, Nat.and_two_pow_sub_one_eq_mod]; omega
    rw [this]; rfl
theorem cnt_add (k m x : Nat) : cnt (k + m) x = cnt k x + cnt m (x / 2 ^ k) := by
  unfold cnt
  rw [List.range_add, List.filter_append, List.length_append, List.filter_map, List.length_map]
  congr 2
  refine List.filter_congr fun j _ => ?_
  simp [Nat.testBit_div_two_pow, Nat.add_comm]
theorem cnt_mod (x : Nat) : cnt 8 x = cnt 8 (x % 256) := by
  unfold cnt; congr 1
  refine List.filter_congr fun j hj => ?_
  rw [show (256 : Nat) = 2 ^ 8 from rfl, Nat.testBit_mod_two_pow]
  have := List.mem_range.1 hj
  simp [this]
theorem cnt64 (x : Nat) : cnt 64 x = cnt 8 (x % 256) + (cnt 8 (x / 256 % 256) + (cnt 8 (x / 65536 % 256) + (cnt 8 (x / 16777216 % 256) + (cnt 8 (x / 4294967296 % 256) + (cnt 8 (x / 1099511627776 % 256) + (cnt 8 (x / 281474976710656 % 256) + cnt 8 (x / 72057594037927936 % 256))))))) := by
  rw [show (64 : Nat) = 8 + (8 + (8 + (8 + (8 + (8 + (8 + 8)))))) from rfl, cnt_add, cnt_add, cnt_add, cnt_add, cnt_add, cnt_add, cnt_add]
  simp only [Nat.div_div_eq_div_mul, show (2 : Nat) ^ 8 = 256 from rfl, Nat.reduceMul]
  rw [cnt_mod x, cnt_mod (x / 256), cnt_mod (x / 65536), cnt_mod (x / 16777216), cnt_mod (x / 4294967296), cnt_mod (x / 1099511627776), cnt_mod (x / 281474976710656), cnt_mod (x / 72057594037927936)]

theorem D_le (m : Nat) : ∀ l : List Nat, (∀ f ∈ l, f ≤ m) → D l ≤ rep m l.length
  | [], _ => Nat.le_refl _
  | f :: l, h => by
    have := D_le m l fun g hg => h g (by simp [hg])
    have := h f (by simp)
    simp only [D, rep, List.length_cons]; omega

/-- the three first steps -/
theorem steps (x : Nat) (hx : x < 18446744073709551616) : ∃ p0 p1 p2 p3 p4 p5 p6 p7 : Nat,
    ((((((x / 2 &&& 6148914691236517205) + (x &&& 6148914691236517205)) / 4 &&& 3689348814741910323) + (((x / 2 &&& 6148914691236517205) + (x &&& 6148914691236517205)) &&& 3689348814741910323)) / 16 + ((((x / 2 &&& 6148914691236517205) + (x &&& 6148914691236517205)) / 4 &&& 3689348814741910323) + (((x / 2 &&& 6148914691236517205) + (x &&& 6148914691236517205)) &&& 3689348814741910323)) &&& 1085102592571150095)
      = p0 + 256 * p1 + 65536 * p2 + 16777216 * p3 + 4294967296 * p4 + 1099511627776 * p5 + 281474976710656 * p6 + 72057594037927936 * p7)
    ∧ (((x / 2 &&& 6148914691236517205) + (x &&& 6148914691236517205)) < 18446744073709551616)
    ∧ (((((x / 2 &&& 6148914691236517205) + (x &&& 6148914691236517205)) / 4 &&& 3689348814741910323) + (((x / 2 &&& 6148914691236517205) + (x &&& 6148914691236517205)) &&& 3689348814741910323)) < 4919131752989213765)
    ∧ p0 ≤ 8 ∧ p1 ≤ 8 ∧ p2 ≤ 8 ∧ p3 ≤ 8 ∧ p4 ≤ 8 ∧ p5 ≤ 8 ∧ p6 ≤ 8 ∧ p7 ≤ 8 ∧ cnt 64 x = p0 + p1 + p2 + p3 + p4 + p5 + p6 + p7 := by
  obtain ⟨l, hl⟩ : ∃ l, l = [x % 256, x / 256 % 256, x / 65536 % 256, x / 16777216 % 256, x / 4294967296 % 256, x / 1099511627776 % 256, x / 281474976710656 % 256, x / 72057594037927936 % 256] := ⟨_, rfl⟩
  have hD : x = D l := by rw [hl]; simp only [D]; omega
  have hb : ∀ f ∈ l, f < 256 := by
    intro f hf; rw [hl] at hf; simp only [List.mem_cons, List.not_mem_nil, or_false] at hf; omega
  have hlen : l.length = 8 := by rw [hl]; rfl
  have e1 := st1 l hb
  rw [hlen, ← hD, show rep 85 8 = 6148914691236517205 from rfl] at e1
  have e2 := st2 (l.map g1) (fun f hf => by obtain ⟨g, hg, rfl⟩ := List.mem_map.1 hf; exact (a3 g (hb g hg)).1)
  rw [List.length_map, hlen, show rep 51 8 = 3689348814741910323 from rfl] at e2
  have e3 := st3 ((l.map g1).map g2) (fun f hf => by
    obtain ⟨g', hg', rfl⟩ := List.mem_map.1 hf
    obtain ⟨g, hg, rfl⟩ := List.mem_map.1 hg'
    exact ⟨(a3 g (hb g hg)).2.1, (a3 g (hb g hg)).2.2.1, (a3 g (hb g hg)).2.2.2.1⟩)
  rw [List.length_map, List.length_map, hlen, show rep 15 8 = 1085102592571150095 from rfl] at e3
  have e4 : ((l.map g1).map g2).map g3 = l.map (cnt 8) := by
    rw [List.map_map, List.map_map]
    refine List.map_congr_left fun f hf => (a3 f (hb f hf)).2.2.2.2
  have c8 : ∀ y, cnt 8 y ≤ 8 := fun y => by unfold cnt; exact Nat.le_trans (List.length_filter_le _ _) (by simp)
  have m1 : D (l.map g1) < 18446744073709551616 := by
    rw [← e1]
    have h1 : x / 2 &&& 6148914691236517205 ≤ 6148914691236517205 := Nat.and_le_right
    have h2 : x &&& 6148914691236517205 ≤ 6148914691236517205 := Nat.and_le_right
    omega
  have m2 : ∀ f ∈ (l.map g1).map g2, f ≤ 68 := fun f hf => by
    obtain ⟨g', hg', rfl⟩ := List.mem_map.1 hf
    obtain ⟨g, hg, rfl⟩ := List.mem_map.1 hg'
    have := a3 g (hb g hg)
    omega
  refine ⟨cnt 8 (x % 256), cnt 8 (x / 256 % 256), cnt 8 (x / 65536 % 256), cnt 8 (x / 16777216 % 256), cnt 8 (x / 4294967296 % 256), cnt 8 (x / 1099511627776 % 256), cnt 8 (x / 281474976710656 % 256), cnt 8 (x / 72057594037927936 % 256), ?_, ?_, ?_, c8 _, c8 _, c8 _, c8 _, c8 _, c8 _, c8 _, c8 _, ?_⟩
  · rw [e1, e2, e3, e4, hl]
    simp only [List.map_cons, List.map_nil, D]
    omega
  · rw [e1]; exact m1
  · rw [e1, e2]
    have := D_le 68 _ m2
    rw [List.length_map, List.length_map, hlen, show rep 68 8 = 4919131752989213764 from rfl] at this
    exact Nat.lt_succ_of_le this
  · rw [cnt64]; omega
theorem bits_cnt (x : Nat) : (bitsOf x).length = cnt 64 x := rfl
end Go.Proofs.YtlnljgfppipceaaDoor.Bg
