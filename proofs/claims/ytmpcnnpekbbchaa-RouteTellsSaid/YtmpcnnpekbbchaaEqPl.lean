/- Places that are compared whole. -/
import Derived.Test.YtmpcnnpekbbchaaSmG
import Derived.Laws.StructEq
namespace Go.Proofs.Ytmpcnnpekbbchaa.Sm
open Go.RowKit Mem
set_option linter.unusedVariables false

/-- as the walk comes upon it -/
theorem eq_pl (d : Nat) (a : Int) (b c : Bool) (e f : Int) (w : World) : (Op.equalIn (d + 1 + 1) 48 (.agg #[.int .i64 a, .bool b, .bool c, .int .i64 e, .int .i64 f]) (.agg #[.int .i64 a, .bool b, .bool c, .int .i64 e, .int .i64 f])).run Try.prog w = .ok true w := by
  have hst : Try.prog.underlying 48 = some (.struct (Try.prog.fieldsOf 48)) := by kernel_rfl
  have hin : Try.prog.stoodInHeld 48 = false := by kernel_rfl
  have h64 : Try.prog.underlying 3 = some (.int .i64) := by kernel_rfl
  have hb : Try.prog.underlying 4 = some .bool := by kernel_rfl
  obtain ⟨f0, f1, f2, f3, f4, hl⟩ : ∃ f0 f1 f2 f3 f4, (Try.prog.fieldsOf 48).toList = [f0, f1, f2, f3, f4] := ⟨_, _, _, _, _, rfl⟩
  have hh : ((Try.prog.fieldsOf 48).toList.map fun f => (f.name != "_", f.type, f.offset)) = [(true, 3, 0), (true, 4, 1), (true, 4, 2), (true, 3, 3), (true, 3, 4)] := by decide +kernel
  rw [hl] at hh
  simp only [List.map_cons, List.map_nil, List.cons.injEq, Prod.mk.injEq, and_true, bne_iff_ne] at hh
  obtain ⟨⟨a0, b0, c0⟩, ⟨a1, b1, c1⟩, ⟨a2, b2, c2⟩, ⟨a3, b3, c3⟩, ⟨a4, b4, c4⟩⟩ := hh
  have pi : ∀ (w : World), (part 3 #[.int .i64 a, .bool b, .bool c, .int .i64 e, .int .i64 f] 0).run Try.prog w = .ok (.int .i64 a) w ∧ (part 4 #[.int .i64 a, .bool b, .bool c, .int .i64 e, .int .i64 f] 1).run Try.prog w = .ok (.bool b) w ∧ (part 4 #[.int .i64 a, .bool b, .bool c, .int .i64 e, .int .i64 f] 2).run Try.prog w = .ok (.bool c) w ∧
      (part 3 #[.int .i64 a, .bool b, .bool c, .int .i64 e, .int .i64 f] 3).run Try.prog w = .ok (.int .i64 e) w ∧ (part 3 #[.int .i64 a, .bool b, .bool c, .int .i64 e, .int .i64 f] 4).run Try.prog w = .ok (.int .i64 f) w :=
    fun w => ⟨by kernel_rfl, by kernel_rfl, by kernel_rfl, by kernel_rfl, by kernel_rfl⟩
  rw [run_equalIn_struct w (d + 1) _ _ _ hst hin, hl]
  obtain ⟨x0, x1, x2, x3, x4⟩ := pi w
  generalize (#[.int .i64 a, .bool b, .bool c, .int .i64 e, .int .i64 f] : Array Value) = cs at x0 x1 x2 x3 x4 ⊢
  have st : ∀ (f : Field) (fs : List Field) (u : Value) (R : Bool), f.name ≠ "_" → (part f.type cs f.offset).run Try.prog w = .ok u w → (Op.equalIn (d + 1) f.type u u).run Try.prog w = .ok true w →
      (Op.eqFields (d + 1) cs cs fs).run Try.prog w = .ok R w → (Op.eqFields (d + 1) cs cs (f :: fs)).run Try.prog w = .ok R w := by
    intro f fs u R hn h1 h3 h4
    unfold Op.eqFields
    rw [if_pos hn]
    simp only [Sem.run_bind, h1, h3, Result.andThen_ok]
    simpa using h4
  have ei : ∀ (z : Int), (Op.equalIn (d + 1) 3 (.int .i64 z) (.int .i64 z)).run Try.prog w = .ok true w := fun z => by rw [run_equalIn_int w _ _ _ _ _ _ h64]; simp
  have eb : ∀ (z : Bool), (Op.equalIn (d + 1) 4 (.bool z) (.bool z)).run Try.prog w = .ok true w := fun z => by
    unfold Op.equalIn
    simp [run_underlying hb]
  exact st f0 _ _ _ a0 (by rw [b0, c0]; exact x0) (by rw [b0]; exact ei _)
    (st f1 _ _ _ a1 (by rw [b1, c1]; exact x1) (by rw [b1]; exact eb _)
    (st f2 _ _ _ a2 (by rw [b2, c2]; exact x2) (by rw [b2]; exact eb _)
    (st f3 _ _ _ a3 (by rw [b3, c3]; exact x3) (by rw [b3]; exact ei _)
    (st f4 _ _ _ a4 (by rw [b4, c4]; exact x4) (by rw [b4]; exact ei _)
    (by simp [Op.eqFields])))))
end Go.Proofs.Ytmpcnnpekbbchaa.Sm
