/- Two bags compared by ==. -/
import Derived.Test.YtnbchikiiipejaaDoorNbF
import Derived.ChangeKeysEq
namespace Go.Proofs.YtnbchikiiipejaaDoor.Bg
open Go.RowKit Mem
set_option linter.unusedVariables false

theorem eq_item (d : Nat) (a b : Int) (w : World) : (Op.equalIn (d + 1) 30 (.int .u64 a) (.int .u64 b)).run Tryd.prog w = .ok (a == b) w := by
  unfold Op.equalIn
  simp only [Sem.run_bind, run_underlying Tryd.underlying30, Result.andThen_ok]
  simp
theorem eq_words (d : Nat) (a b c e a' b' c' e' : Int) (w : World) :
    (Op.equalIn (d + 1 + 1) 31 (.agg #[.int .u64 a, .int .u64 b, .int .u64 c, .int .u64 e]) (.agg #[.int .u64 a', .int .u64 b', .int .u64 c', .int .u64 e'])).run Tryd.prog w = .ok ((a == a') && ((b == b') && ((c == c') && (e == e')))) w := by
  obtain ⟨i0, hi⟩ := Option.isSome_iff_exists.1 (show (Tryd.prog.info? 30).isSome = true by kernel_rfl)
  rw [run_equalIn_array w (d + 1) (n := 4) (e := 30) _ _ Tryd.underlying31 hi, show List.range 4 = [0, 1, 2, 3] from rfl]
  have p : ∀ (a b c e : Int) (w : World), (part 30 #[.int .u64 a, .int .u64 b, .int .u64 c, .int .u64 e] (0 * Tryd.prog.cellsOf 30)).run Tryd.prog w = .ok (.int .u64 a) w ∧ (part 30 #[.int .u64 a, .int .u64 b, .int .u64 c, .int .u64 e] (1 * Tryd.prog.cellsOf 30)).run Tryd.prog w = .ok (.int .u64 b) w ∧ (part 30 #[.int .u64 a, .int .u64 b, .int .u64 c, .int .u64 e] (2 * Tryd.prog.cellsOf 30)).run Tryd.prog w = .ok (.int .u64 c) w ∧ (part 30 #[.int .u64 a, .int .u64 b, .int .u64 c, .int .u64 e] (3 * Tryd.prog.cellsOf 30)).run Tryd.prog w = .ok (.int .u64 e) w :=
    fun a b c e w => ⟨by kernel_rfl, by kernel_rfl, by kernel_rfl, by kernel_rfl⟩
  have P1 := p a b c e
  have P2 := p a' b' c' e'
  unfold Op.eqItems
  simp only [Sem.run_bind, (P1 w).1, (P2 w).1, Result.andThen_ok, eq_item]
  cases a == a'
  · simp
  · simp only [Bool.not_true, Bool.false_eq_true, if_false, Bool.true_and]
    unfold Op.eqItems
    simp only [Sem.run_bind, (P1 w).2.1, (P2 w).2.1, Result.andThen_ok, eq_item]
    cases b == b'
    · simp
    · simp only [Bool.not_true, Bool.false_eq_true, if_false, Bool.true_and]
      unfold Op.eqItems
      simp only [Sem.run_bind, (P1 w).2.2.1, (P2 w).2.2.1, Result.andThen_ok, eq_item]
      cases c == c'
      · simp
      · simp only [Bool.not_true, Bool.false_eq_true, if_false, Bool.true_and]
        unfold Op.eqItems
        simp only [Sem.run_bind, (P1 w).2.2.2, (P2 w).2.2.2, Result.andThen_ok, eq_item]
        cases e == e'
        · simp
        · simp [Op.eqItems]
def sameB (x y : Bag) : Bool := (x.a == y.a) && ((x.b == y.b) && ((x.c == y.c) && (x.d == y.d)))
theorem sameB_iff (x y : Bag) : sameB x y = true ↔ x = y := by
  obtain ⟨a, b, c, d⟩ := x
  obtain ⟨a', b', c', d'⟩ := y
  simp [sameB]
theorem sameB_refl (x : Bag) : sameB x x = true := (sameB_iff x x).2 rfl
/-- as the walk comes upon it -/
theorem eq_bags (x y : Bag) (w : World) :
    (Op.equalIn 9999 31 (.agg #[.int .u64 x.a, .int .u64 x.b, .int .u64 x.c, .int .u64 x.d]) (.agg #[.int .u64 y.a, .int .u64 y.b, .int .u64 y.c, .int .u64 y.d])).run Tryd.prog w = .ok (sameB x y) w := by
  rw [eq_words 9997]
  congr 1
  unfold sameB
  rw [Bool.eq_iff_iff]
  simp only [Bool.and_eq_true, beq_iff_eq]
  omega
end Go.Proofs.YtnbchikiiipejaaDoor.Bg
