/- Steps: the maps of the kinds, through the interface. -/
import Derived.Test.YthbodpdjjihcaaaStG
namespace Go.Proofs.Ythbodpdjjihcaaa.St
open Go.RowKit Mem Sm
set_option linter.unusedVariables false
theorem m_splice_ranges (fuel : Nat) (x : Sp) (s t : Value) (w : World) : (method (fuel + 1) 171 (stV x s t) "stet/step.ranges").run Try.prog w = .ok (136, stV x s t) w :=
  method_struct (xt := 169) (path := [⟨171, 0, false⟩]) fuel (by kernel_rfl) (fun w => by kernel_rfl) (show Try.prog.underlying 169 = some (.struct (Try.prog.fieldsOf 169)) by kernel_rfl) w
theorem m_around_ranges (fuel : Nat) (x : Sp) (s t : Value) (w : World) : (method (fuel + 1) 172 (stV x s t) "stet/step.ranges").run Try.prog w = .ok (145, stV x s t) w :=
  method_struct (xt := 172) (path := []) fuel (by kernel_rfl) (fun w => rfl) (show Try.prog.underlying 172 = some (.struct (Try.prog.fieldsOf 172)) by kernel_rfl) w
theorem m_adding_ranges (fuel : Nat) (x : Sp) (s t : Value) (w : World) : (method (fuel + 1) 177 (stV x s t) "stet/step.ranges").run Try.prog w = .ok (147, stV x s t) w :=
  method_struct (xt := 173) (path := [⟨177, 0, false⟩, ⟨175, 0, false⟩]) fuel (by kernel_rfl) (fun w => by kernel_rfl) (show Try.prog.underlying 173 = some (.struct (Try.prog.fieldsOf 173)) by kernel_rfl) w
theorem m_removing_ranges (fuel : Nat) (x : Sp) (s t : Value) (w : World) : (method (fuel + 1) 178 (stV x s t) "stet/step.ranges").run Try.prog w = .ok (147, stV x s t) w :=
  method_struct (xt := 173) (path := [⟨178, 0, false⟩, ⟨175, 0, false⟩]) fuel (by kernel_rfl) (fun w => by kernel_rfl) (show Try.prog.underlying 173 = some (.struct (Try.prog.fieldsOf 173)) by kernel_rfl) w
theorem m_remark_ranges (fuel : Nat) (x : Sp) (s t : Value) (w : World) : (method (fuel + 1) 179 (stV x s t) "stet/step.ranges").run Try.prog w = .ok (147, stV x s t) w :=
  method_struct (xt := 173) (path := [⟨179, 0, false⟩]) fuel (by kernel_rfl) (fun w => by kernel_rfl) (show Try.prog.underlying 173 = some (.struct (Try.prog.fieldsOf 173)) by kernel_rfl) w
theorem ranges_mark (v : Array Value) (w : World) : Calls Try.prog 147 #[.agg v] w (RgsIs w []) := by
  have HB := Lib.hid ((Below.refl _ w).alloc (Nat.le_refl _) (.cells v 173))
  go_enter Try.func147, Try.ntmps147
  go_wp2
  go_ret
  exact ⟨_, rfl, Rgs.nil, HB.out⟩
end Go.Proofs.Ythbodpdjjihcaaa.St
