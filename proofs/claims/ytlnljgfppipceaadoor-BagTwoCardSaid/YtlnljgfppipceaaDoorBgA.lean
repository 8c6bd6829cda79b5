/- Walks of bag: fits, Has. -/
import Derived.Test.YtlnljgfppipceaaDoorProg
import Derived.WalkKit
import Derived.ProofKit
import Derived.RegionTactic
import Derived.BigRegion
import Derived.BigQuiet
import Derived.Deep.QuietTactic
import Derived.Outline
import Derived.Lib.Hide
import Derived.Below
import Derived.Test.YtlnljgfppipceaaDoorBgBits
namespace Go.Proofs.YtlnljgfppipceaaDoor.Bg
open Go.RowKit
set_option linter.unusedVariables false

theorem ret_bool {a b : Bool} (h : a = b) : Ending.returned (.bool a) = .returned (.bool b) := by rw [h]
theorem ret_int {k : IntKind} {a b : Int} (h : a = b) : Ending.returned (.int k a) = .returned (.int k b) := by rw [h]

theorem bit_at (a r : Nat) (h : a < 18446744073709551616) : (bits .and .u64 ((a : Int) / 2 ^ r) 1 == 1) = a.testBit r := by
  have e : ((a : Int) / 2 ^ r) = ((a / 2 ^ r : Nat) : Int) := by simp
  have hl : a / 2 ^ r < 18446744073709551616 := Nat.lt_of_le_of_lt (Nat.div_le_self _ _) h
  rw [e, show (1 : Int) = ((1 : Nat) : Int) from rfl, u64_and_nat _ _ hl (by decide), Nat.and_one_is_mod, Nat.testBit_eq_decide_div_mod_eq]
  rw [Bool.eq_iff_iff]; simp; omega

/-- a bag as a value -/
def bagV (x : Bag) : Value := .agg #[.int .u64 x.a, .int .u64 x.b, .int .u64 x.c, .int .u64 x.d]

theorem fits_any (n : Int) (w : World) : Calls Tryd.prog 23 #[.int .i64 n] w fun e w' => e = .returned (.bool (inB n)) ∧ w = w' := by
  by_cases h0 : 0 ≤ n
  · have : ¬ n < 0 := by omega
    by_cases h1 : n < 256
    · go_enter Tryd.func23, Tryd.ntmps23
      go_wp2
      go_ret
      exact ⟨by simp [inB, h0, h1], rfl⟩
    · go_enter Tryd.func23, Tryd.ntmps23
      go_wp2
      go_ret
      exact ⟨by simp [inB, h0, h1], rfl⟩
  · go_enter Tryd.func23, Tryd.ntmps23
    go_wp2
    go_ret
    exact ⟨by simp [inB]; omega, rfl⟩

set_option maxRecDepth 100000 in
set_option maxHeartbeats 1000000 in
theorem has_in (x : Bag) (hx : x.ok) (n : Nat) (h : n < 256) (w : World) : Calls Tryd.prog 11 #[bagV x, .int .i64 n] w fun e w' => e = .returned (.bool (x.has n)) ∧ Below w.heap.size w w' := by
  have hf : inB n = true := inB_true.2 (by omega)
  have HF := Lib.hid hf
  clear hf
  obtain ⟨a, b, c, d⟩ := x
  have HX := Lib.hid hx
  clear hx
  have hm0 : 0 ≤ (n : Int) % 64 := by omega
  have hm1 : (n : Int) % 64 ≤ 64 := by omega
  have e2 : ∀ k, ((n : Int) % 64).toNat = k → n % 64 = k := fun k hk => by omega
  have HR : Hid (((n : Int) % 64).toNat = n % 64) := by show _ = _; omega
  clear e2
  unfold bagV
  dsimp only
  rcases (show n / 64 = 0 ∨ n / 64 = 1 ∨ n / 64 = 2 ∨ n / 64 = 3 by omega) with e | e | e | e
  all_goals
    have E := Lib.hid e
    first
      | have hq : (n : Int) / 64 = 0 := by omega
      | have hq : (n : Int) / 64 = 1 := by omega
      | have hq : (n : Int) / 64 = 2 := by omega
      | have hq : (n : Int) / 64 = 3 := by omega
    clear e
    go_enter Tryd.func11, Tryd.ntmps11
    go_wp2_with (go_at_call 23; refine (fits_any _ _).mono ?_; rw [HF.out]; rintro e w' ⟨rfl, rfl⟩)
    go_ret
    refine ⟨ret_bool ?_, (Below.refl _ _).alloc (Nat.le_refl _) _⟩
    obtain ⟨h1, h2, h3, h4⟩ := HX.out
    dsimp only at h1 h2 h3 h4
    have hd : decide (n < 256) = true := decide_eq_true h
    simp only [Bag.has, Bag.word, E.out, hd, Bool.true_and]
    first | exact bit_at _ _ h1 | exact bit_at _ _ h2 | exact bit_at _ _ h3 | exact bit_at _ _ h4

theorem has_any (x : Bag) (hx : x.ok) (n : Int) (w : World) : Calls Tryd.prog 11 #[bagV x, .int .i64 n] w fun e w' => e = .returned (.bool (x.hasI n)) ∧ Below w.heap.size w w' := by
  by_cases h : inB n = true
  · obtain ⟨h0, h1⟩ := inB_true.1 h
    obtain ⟨k, rfl⟩ := Int.eq_ofNat_of_zero_le h0
    rw [← has_hasI]
    exact has_in x hx k (by omega) w
  · have hf : inB n = false := by simpa using h
    have HF := Lib.hid hf
    have e : x.hasI n = false := by simp [Bag.hasI, hf]
    rw [e]
    clear hf h e
    unfold bagV
    go_enter Tryd.func11, Tryd.ntmps11
    go_wp2_with (go_at_call 23; refine (fits_any _ _).mono ?_; rw [HF.out]; rintro e w' ⟨rfl, rfl⟩)
    go_ret
    exact ⟨rfl, (Below.refl _ _).alloc (Nat.le_refl _) _⟩

theorem or_at (a r : Nat) (h : a < 18446744073709551616) (hr : r < 64) : bits .or .u64 (a : Int) (IntKind.u64.wrap (2 ^ r)) = ((setW a r : Nat) : Int) := by
  have hp : (2 : Nat) ^ r < 18446744073709551616 := Nat.lt_of_lt_of_le (Nat.pow_lt_pow_right (by decide) hr) (show (2 : Nat) ^ 64 ≤ _ by decide)
  have e : IntKind.u64.wrap (2 ^ r) = ((2 ^ r : Nat) : Int) := by
    rw [IntKind.wrap_u64]
    have : ((2 ^ r : Nat) : Int) = (2 : Int) ^ r := by simp
    rw [← this]
    generalize 2 ^ r = p at hp ⊢
    omega
  rw [e, u64_or_nat _ _ h hp]
  rfl

set_option maxRecDepth 100000 in
set_option maxHeartbeats 1000000 in
theorem with_in (x : Bag) (hx : x.ok) (n : Nat) (h : n < 256) (w : World) : Calls Tryd.prog 15 #[bagV x, .int .i64 n] w fun e w' => e = .returned (bagV (x.withN n)) ∧ Below w.heap.size w w' := by
  have hf : inB n = true := inB_true.2 (by omega)
  have HF := Lib.hid hf
  clear hf
  obtain ⟨a, b, c, d⟩ := x
  have HX := Lib.hid hx
  clear hx
  have hm0 : 0 ≤ (n : Int) % 64 := by omega
  have hm1 : (n : Int) % 64 ≤ 64 := by omega
  have HM : Hid (n % 64 < 64) := by show _ < _; omega
  unfold bagV
  dsimp only
  rcases (show n / 64 = 0 ∨ n / 64 = 1 ∨ n / 64 = 2 ∨ n / 64 = 3 by omega) with e | e | e | e
  all_goals
    have E := Lib.hid e
    first
      | have hq : (n : Int) / 64 = 0 := by omega
      | have hq : (n : Int) / 64 = 1 := by omega
      | have hq : (n : Int) / 64 = 2 := by omega
      | have hq : (n : Int) / 64 = 3 := by omega
    clear e
    go_enter Tryd.func15, Tryd.ntmps15
    go_wp2_with (go_at_call 23; refine (fits_any _ _).mono ?_; rw [HF.out]; rintro e w' ⟨rfl, rfl⟩)
    go_region
    all_goals
      go_wp2
      obtain ⟨h1, h2, h3, h4⟩ := HX.out
      dsimp only at h1 h2 h3 h4
      first
        | exact bodyPost_ret (v := .agg #[.int .u64 (bits .or .u64 (a : Int) (IntKind.u64.wrap (2 ^ (n % 64)))), .int .u64 b, .int .u64 c, .int .u64 d]) (by simp [results, Tryd.results15, go_sem]) rfl ⟨by simp only [Bag.withN, E.out, or_at a _ h1 HM.out]; rfl, (((Below.refl _ w).alloc (Nat.le_refl _) _).alloc (by simp) _).drew⟩
        | exact bodyPost_ret (v := .agg #[.int .u64 a, .int .u64 (bits .or .u64 (b : Int) (IntKind.u64.wrap (2 ^ (n % 64)))), .int .u64 c, .int .u64 d]) (by simp [results, Tryd.results15, go_sem]) rfl ⟨by simp only [Bag.withN, E.out, or_at b _ h2 HM.out]; rfl, (((Below.refl _ w).alloc (Nat.le_refl _) _).alloc (by simp) _).drew⟩
        | exact bodyPost_ret (v := .agg #[.int .u64 a, .int .u64 b, .int .u64 (bits .or .u64 (c : Int) (IntKind.u64.wrap (2 ^ (n % 64)))), .int .u64 d]) (by simp [results, Tryd.results15, go_sem]) rfl ⟨by simp only [Bag.withN, E.out, or_at c _ h3 HM.out]; rfl, (((Below.refl _ w).alloc (Nat.le_refl _) _).alloc (by simp) _).drew⟩
        | exact bodyPost_ret (v := .agg #[.int .u64 a, .int .u64 b, .int .u64 c, .int .u64 (bits .or .u64 (d : Int) (IntKind.u64.wrap (2 ^ (n % 64))))]) (by simp [results, Tryd.results15, go_sem]) rfl ⟨by simp only [Bag.withN, E.out, or_at d _ h4 HM.out]; rfl, (((Below.refl _ w).alloc (Nat.le_refl _) _).alloc (by simp) _).drew⟩

theorem with_any (x : Bag) (hx : x.ok) (n : Int) (w : World) : Calls Tryd.prog 15 #[bagV x, .int .i64 n] w fun e w' => e = .returned (bagV (x.withI n)) ∧ Below w.heap.size w w' := by
  by_cases h : inB n = true
  · obtain ⟨h0, h1⟩ := inB_true.1 h
    obtain ⟨k, rfl⟩ := Int.eq_ofNat_of_zero_le h0
    rw [show x.withI (k : Int) = x.withN k from by simp [Bag.withI, h]]
    exact with_in x hx k (by omega) w
  · have hf : inB n = false := by simpa using h
    have HF := Lib.hid hf
    rw [show x.withI n = x from by simp [Bag.withI, hf]]
    clear hf h hx
    unfold bagV
    go_enter Tryd.func15, Tryd.ntmps15
    go_wp2_with (go_at_call 23; refine (fits_any _ _).mono ?_; rw [HF.out]; rintro e w' ⟨rfl, rfl⟩)
    exact bodyPost_ret (v := .agg #[.int .u64 x.a, .int .u64 x.b, .int .u64 x.c, .int .u64 x.d]) (by simp [results, Tryd.results15, go_sem]) rfl ⟨rfl, ((Below.refl _ w).alloc (Nat.le_refl _) _).alloc (by simp) _⟩
end Go.Proofs.YtlnljgfppipceaaDoor.Bg
