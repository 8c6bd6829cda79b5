/- Walks of route: slices.Clone of ranges. -/
import Derived.Test.YtnffgomgfabapaaSmLw
namespace Go.Proofs.Ytnffgomgfabapaa.Rt
open Go.RowKit Mem Sm
set_option linter.unusedVariables false

theorem rgs_empty (w : World) : Rgs w.heap.size (w.alloc (.cells #[] 56)) (.slice (some ⟨w.heap.size, 0, none⟩) 0 0) [] :=
  ⟨rfl, .inr ⟨w.heap.size, 0, #[], rfl, Nat.le_refl _, heap_alloc_new w _, Nat.le_refl _, Nat.zero_le _, rfl, rfl⟩⟩
theorem in_slice (d : Nat) (t e : TypeId) (h : Try.prog.underlying t = some (.slice e)) (A : Option Addr) (n c : Nat) (W : World) : (Op.equalIn (d + 1) t (.slice A n c) (.slice none 0 0)).run Try.prog W = .ok A.isNone W := by
  cases A <;> simp [Op.equalIn, run_underlying h]
theorem eql_slice (t e : TypeId) (h : Try.prog.underlying t = some (.slice e)) (A : Option Addr) (n c : Nat) (W : World) : (binOp .eql t (.slice A n c) (.slice none 0 0)).run Try.prog W = .ok (.bool A.isNone) W := by
  simp only [binOp]
  simp [Op.equal, Op.maxDepth, in_slice 9999 t e h]
set_option maxRecDepth 100000 in
set_option maxHeartbeats 1000000 in
theorem clone_any (l : List Rg) (A : Option Addr) (n c : Nat) (w : World) (hn : n ≤ 100) (hr : RRow w A n l) :
    Calls Try.prog 29 #[.slice A n c] w (RgsIs w l) := by
  cases A with
  | none =>
    have h0 : n = 0 := by
      rcases Nat.eq_zero_or_pos n with h | h
      · exact h
      · obtain ⟨_, _, e, _⟩ := hr.2 h; cases e
    subst h0
    obtain rfl : l = [] := List.eq_nil_of_length_eq_zero hr.1
    clear hr
    go_enter Try.func29, Try.ntmps29
    have he := eql_slice 34 56 Try.underlying34 none 0 c w
    simp only [Option.isNone_none] at he
    go_wp2
    go_ret
    exact ⟨_, rfl, Rgs.nil, Below.refl _ _⟩
  | some a =>
    have HO := Lib.hid (rgs_empty w)
    have HR := Lib.hid (hr.alloc (.cells #[] 56))
    have HB := Lib.hid ((Below.refl _ w).alloc (Nat.le_refl _) (.cells #[] 56))
    have he := eql_slice 34 56 Try.underlying34 (some a) n c w
    simp only [Option.isNone_some] at he
    clear hr
    go_enter Try.func29, Try.ntmps29
    go_wp2_with (at_builtin; (refine wpList_app_rg rfl (.tmp 5) (.tmp 6) rfl w.heap.size _ [] rfl HO.out (some a) n c l rfl HR.out (by simp; omega) (by simp) ?_); intro v' w2 hown' hg hat)
    go_ret
    rw [List.nil_append] at hown'
    exact ⟨_, rfl, hown', below_of_grown HB.out hg (by simp) (fun i hi => (HO.out.block i hi).1)⟩
end Go.Proofs.Ytnffgomgfabapaa.Rt
