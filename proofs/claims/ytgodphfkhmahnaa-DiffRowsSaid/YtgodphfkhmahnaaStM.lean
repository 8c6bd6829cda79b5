/- Steps: the methods of the kinds, through the interface. -/
import Derived.Test.YtgodphfkhmahnaaStB
import Derived.ChangeKeysEq
namespace Go.Proofs.Ytgodphfkhmahnaa.St
open Go.RowKit Mem Sm
set_option linter.unusedVariables false

theorem method_struct {P : Program} {t xt f : Nat} {path : List FieldStep} {name : String} {u : Array Field} (fuel : Nat) {v v' : Value}
    (hm : (P.info? t).bind (fun i => (i.methods.find? (·.name == name)).map fun m => (m.path.toList, m.func)) = some (path, some (f, false)))
    (hf : ∀ w, (follow path t (.val v)).run P w = .ok (xt, .val v') w) (hu : P.underlying xt = some (.struct u)) (w : World) :
    (method (fuel + 1) t v name).run P w = .ok (f, v') w := by
  obtain ⟨i, hi, h1⟩ := Option.bind_eq_some_iff.1 hm
  obtain ⟨m, hfi, h2⟩ := Option.map_eq_some_iff.1 h1
  simp only [Prod.mk.injEq] at h2
  unfold method
  simp only [Sem.run_bind]
  rw [run_typeInfo w hi]
  simp only [Result.andThen_ok, hfi, h2.1, h2.2, Sem.run_bind, hf]
  unfold receiverAt
  simp only [Sem.run_bind, run_underlying hu, Result.andThen_ok, Place.get, Sem.run_pure]
theorem m_splice_formed (fuel : Nat) (x : Sp) (s t : Value) (w : World) : (method (fuel + 1) 171 (stV x s t) "stet/step.formed").run Try.prog w = .ok (138, stV x s t) w :=
  method_struct (xt := 171) (path := []) fuel (by kernel_rfl) (fun w => rfl) (show Try.prog.underlying 171 = some (.struct (Try.prog.fieldsOf 171)) by kernel_rfl) w
theorem m_around_formed (fuel : Nat) (x : Sp) (s t : Value) (w : World) : (method (fuel + 1) 172 (stV x s t) "stet/step.formed").run Try.prog w = .ok (142, stV x s t) w :=
  method_struct (xt := 172) (path := []) fuel (by kernel_rfl) (fun w => rfl) (show Try.prog.underlying 172 = some (.struct (Try.prog.fieldsOf 172)) by kernel_rfl) w
theorem m_adding_formed (fuel : Nat) (x : Sp) (s t : Value) (w : World) : (method (fuel + 1) 177 (stV x s t) "stet/step.formed").run Try.prog w = .ok (148, stV x s t) w :=
  method_struct (xt := 175) (path := [⟨177, 0, false⟩]) fuel (by kernel_rfl) (fun w => by kernel_rfl) (show Try.prog.underlying 175 = some (.struct (Try.prog.fieldsOf 175)) by kernel_rfl) w
theorem m_removing_formed (fuel : Nat) (x : Sp) (s t : Value) (w : World) : (method (fuel + 1) 178 (stV x s t) "stet/step.formed").run Try.prog w = .ok (148, stV x s t) w :=
  method_struct (xt := 175) (path := [⟨178, 0, false⟩]) fuel (by kernel_rfl) (fun w => by kernel_rfl) (show Try.prog.underlying 175 = some (.struct (Try.prog.fieldsOf 175)) by kernel_rfl) w
theorem m_remark_formed (fuel : Nat) (x : Sp) (s t : Value) (w : World) : (method (fuel + 1) 179 (stV x s t) "stet/step.formed").run Try.prog w = .ok (154, stV x s t) w :=
  method_struct (xt := 179) (path := []) fuel (by kernel_rfl) (fun w => rfl) (show Try.prog.underlying 179 = some (.struct (Try.prog.fieldsOf 179)) by kernel_rfl) w
theorem m_splice_meant (fuel : Nat) (x : Sp) (s t : Value) (w : World) : (method (fuel + 1) 171 (stV x s t) "stet/step.meant").run Try.prog w = .ok (140, stV x s t) w :=
  method_struct (xt := 171) (path := []) fuel (by kernel_rfl) (fun w => rfl) (show Try.prog.underlying 171 = some (.struct (Try.prog.fieldsOf 171)) by kernel_rfl) w
theorem m_around_meant (fuel : Nat) (x : Sp) (s t : Value) (w : World) : (method (fuel + 1) 172 (stV x s t) "stet/step.meant").run Try.prog w = .ok (144, stV x s t) w :=
  method_struct (xt := 172) (path := []) fuel (by kernel_rfl) (fun w => rfl) (show Try.prog.underlying 172 = some (.struct (Try.prog.fieldsOf 172)) by kernel_rfl) w
theorem m_adding_meant (fuel : Nat) (x : Sp) (s t : Value) (w : World) : (method (fuel + 1) 177 (stV x s t) "stet/step.meant").run Try.prog w = .ok (150, stV x s t) w :=
  method_struct (xt := 175) (path := [⟨177, 0, false⟩]) fuel (by kernel_rfl) (fun w => by kernel_rfl) (show Try.prog.underlying 175 = some (.struct (Try.prog.fieldsOf 175)) by kernel_rfl) w
theorem m_removing_meant (fuel : Nat) (x : Sp) (s t : Value) (w : World) : (method (fuel + 1) 178 (stV x s t) "stet/step.meant").run Try.prog w = .ok (150, stV x s t) w :=
  method_struct (xt := 175) (path := [⟨178, 0, false⟩]) fuel (by kernel_rfl) (fun w => by kernel_rfl) (show Try.prog.underlying 175 = some (.struct (Try.prog.fieldsOf 175)) by kernel_rfl) w
theorem m_remark_meant (fuel : Nat) (x : Sp) (s t : Value) (w : World) : (method (fuel + 1) 179 (stV x s t) "stet/step.meant").run Try.prog w = .ok (156, stV x s t) w :=
  method_struct (xt := 179) (path := []) fuel (by kernel_rfl) (fun w => rfl) (show Try.prog.underlying 179 = some (.struct (Try.prog.fieldsOf 179)) by kernel_rfl) w
end Go.Proofs.Ytgodphfkhmahnaa.St
