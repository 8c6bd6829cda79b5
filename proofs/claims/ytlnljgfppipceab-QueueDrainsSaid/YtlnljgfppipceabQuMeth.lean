/- A method called through an interface value: the value's own, or its pointer's. -/
import Derived.Test.YtlnljgfppipceabQuA
import Derived.ChangeKeysEq
namespace Go.Proofs.Ytlnljgfppipceab.Qu
open Go.RowKit Mem
set_option linter.unusedVariables false

section
variable {P : Program}
theorem nil_chk (xt : TypeId) (a : Addr) (s : String) (w : World) : (Builtin.ssaWrapNilChk_ #[xt] xt #[.pointer (some a), strVal "", strVal s]).run P w = .ok (.pointer (some a)) w := rfl
theorem method_of {t elem f : TypeId} {b : Bool} {name : String} (fuel : Nat) (hu : P.underlying t = some (.pointer elem))
    (hm : (P.info? t).bind (fun i => (i.methods.find? (·.name == name)).map fun m => (m.path.size, m.func)) = some (0, some (f, b))) (a : Addr) (w : World) :
    (method (fuel + 1) t (.pointer (some a)) name).run P w = if b then .ok (f, .pointer (some a)) w else ((loadVar elem a).run P w).andThen fun v w' => .ok (f, v) w' := by
  obtain ⟨i, hi, h1⟩ := Option.bind_eq_some_iff.1 hm
  obtain ⟨m, hf, h2⟩ := Option.map_eq_some_iff.1 h1
  simp only [Prod.mk.injEq] at h2
  have hp : m.path.toList = [] := by
    have : m.path = #[] := Array.eq_empty_of_size_eq_zero h2.1
    rw [this]
  have he : m.path.isEmpty = true := by simp [Array.isEmpty, h2.1]
  unfold method
  simp only [Sem.run_bind]
  rw [run_typeInfo w hi]
  simp only [Result.andThen_ok, hf]
  rw [hp]
  unfold follow
  simp only [Sem.run_bind, Sem.run_pure, Result.andThen_ok, h2.2, he, if_true]
  generalize (name.splitOn ".").getLastD name = s
  unfold receiverAt
  simp only [Sem.run_bind, run_underlying hu, Result.andThen_ok]
  cases b
  · simp only [Place.get, Sem.run_bind, Sem.run_pure, Result.andThen_ok, nil_chk, Bool.false_eq_true, if_false]
    rfl
  · simp only [Place.get, Sem.run_pure, Result.andThen_ok, if_true]
theorem load_one {t : TypeId} (h1 : (isAgg t).run P = fun w => .ok false w) (a : Addr) (v : Value) (w : World) (h : w.cell? a = some v) : (loadVar t a).run P w = .ok v w := by
  unfold loadVar
  simp only [Sem.run_bind, h1, Result.andThen_ok, Bool.false_eq_true, if_false]
  rw [run_load]
  simp [h]
end
theorem agg_line : (isAgg 30).run Try.prog = fun w => .ok false w := by kernel_rfl
theorem meth_val {f : Nat} {name : String} (fuel : Nat) (hm : (Try.prog.info? 51).bind (fun i => (i.methods.find? (·.name == name)).map fun m => (m.path.size, m.func)) = some (0, some (f, false))) (qb : Nat) (v : Value) (w : World) (h : w.cell? ⟨qb, 0, none⟩ = some v) :
    (method (fuel + 1) 51 (.pointer (some ⟨qb, 0, none⟩)) name).run Try.prog w = .ok (f, v) w := by
  rw [method_of fuel Try.underlying51 hm, if_neg Bool.false_ne_true, load_one agg_line _ v w h]; rfl
theorem meth_ptr {f : Nat} {name : String} (fuel : Nat) (hm : (Try.prog.info? 51).bind (fun i => (i.methods.find? (·.name == name)).map fun m => (m.path.size, m.func)) = some (0, some (f, true))) (qb : Nat) (w : World) :
    (method (fuel + 1) 51 (.pointer (some ⟨qb, 0, none⟩)) name).run Try.prog w = .ok (f, .pointer (some ⟨qb, 0, none⟩)) w := by
  rw [method_of fuel Try.underlying51 hm, if_pos rfl]
theorem m_len (qb : Nat) (v : Value) (w : World) (h : w.cell? ⟨qb, 0, none⟩ = some v) : (method 178 51 (.pointer (some ⟨qb, 0, none⟩)) "Len").run Try.prog w = .ok (39, v) w := meth_val 177 (by kernel_rfl) qb v w h
theorem m_less (qb : Nat) (v : Value) (w : World) (h : w.cell? ⟨qb, 0, none⟩ = some v) : (method 178 51 (.pointer (some ⟨qb, 0, none⟩)) "Less").run Try.prog w = .ok (40, v) w := meth_val 177 (by kernel_rfl) qb v w h
theorem m_swap (qb : Nat) (v : Value) (w : World) (h : w.cell? ⟨qb, 0, none⟩ = some v) : (method 178 51 (.pointer (some ⟨qb, 0, none⟩)) "Swap").run Try.prog w = .ok (41, v) w := meth_val 177 (by kernel_rfl) qb v w h
theorem m_pop (qb : Nat) (w : World) : (method 178 51 (.pointer (some ⟨qb, 0, none⟩)) "Pop").run Try.prog w = .ok (42, .pointer (some ⟨qb, 0, none⟩)) w := meth_ptr 177 (by kernel_rfl) qb w
theorem m_push (qb : Nat) (w : World) : (method 178 51 (.pointer (some ⟨qb, 0, none⟩)) "Push").run Try.prog w = .ok (43, .pointer (some ⟨qb, 0, none⟩)) w := meth_ptr 177 (by kernel_rfl) qb w

/-- the queue's own block: its line, how many were put in -/
def QBox (W : World) (qb : Nat) (v : Value) (puts : Int) : Prop := W.heap[qb]? = some (.cells #[v, .int .i64 puts] 32 (0, 0))
theorem QBox.lt {W : World} {qb : Nat} {v : Value} {p : Int} (h : QBox W qb v p) : qb < W.heap.size := (Array.getElem?_eq_some_iff.1 h).1
theorem QBox.c0 {W : World} {qb : Nat} {v : Value} {p : Int} (h : QBox W qb v p) : W.cell? ⟨qb, 0, none⟩ = some v := by unfold QBox at h; simp [World.cell?, h]
theorem QBox.c1 {W : World} {qb : Nat} {v : Value} {p : Int} (h : QBox W qb v p) : W.cell? ⟨qb, 1, none⟩ = some (.int .i64 p) := by unfold QBox at h; simp [World.cell?, h]
theorem QBox.free {W : World} {qb : Nat} {v : Value} {p : Int} (h : QBox W qb v p) (j : Nat) : W.frozen? ⟨qb, j, none⟩ = false := by unfold QBox at h; simp [World.frozen?, h]
theorem QBox.kept {W W' : World} {qb : Nat} {v : Value} {p : Int} {row : Option Nat} (h : QBox W qb v p) (hg : W.grownBy W' row) (hne : some qb ≠ row) : QBox W' qb v p := (hg.block qb h.lt hne).trans h
theorem QBox.drew {W : World} {qb : Nat} {v : Value} {p : Int} (h : QBox W qb v p) : QBox W.drew qb v p := h
theorem QBox.drewN {W : World} {qb : Nat} {v : Value} {p : Int} (h : QBox W qb v p) (m : Nat) : QBox (W.drewN m) qb v p := h
theorem only_drewN {a w : World} {row : Option Nat} (h : a.grownBy w row) (m : Nat) : a.grownBy (w.drewN m) row := ⟨h.os, h.tape, h.output, h.size, h.block⟩
end Go.Proofs.Ytlnljgfppipceab.Qu
