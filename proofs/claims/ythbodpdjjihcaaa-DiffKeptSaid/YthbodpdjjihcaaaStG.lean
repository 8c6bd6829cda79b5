/- Steps: clones of tokens. -/
import Derived.Test.YthbodpdjjihcaaaRtA
import Derived.Test.YthbodpdjjihcaaaStF
namespace Go.Proofs.Ythbodpdjjihcaaa.St
open Go.RowKit Mem Sm Tk Rt
set_option linter.unusedVariables false
theorem tks_empty (w : World) : Tks w.heap.size (w.alloc (.cells #[] 101)) (.slice (some ⟨w.heap.size, 0, none⟩) 0 0) [] :=
  ⟨rfl, .inr ⟨w.heap.size, 0, #[], rfl, Nat.le_refl _, heap_alloc_new w _, Nat.le_refl _, Nat.zero_le _, rfl, rfl⟩⟩
def TksIs (w : World) (l : List Tk.Tk) (e : Ending) (w' : World) : Prop := ∃ v, e = .returned v ∧ Tks w.heap.size w' v l ∧ Below w.heap.size w w'
set_option maxRecDepth 100000 in
set_option maxHeartbeats 1000000 in
theorem clone_tok (l : List Tk.Tk) (A : Option Addr) (n c : Nat) (w : World) (hn : n ≤ 1000000) (hr : TRow w A n l) :
    Calls Try.prog 58 #[.slice A n c] w (TksIs w l) := by
  cases A with
  | none =>
    have h0 : n = 0 := by
      rcases Nat.eq_zero_or_pos n with h | h
      · exact h
      · obtain ⟨_, _, e, _⟩ := hr.2 h; cases e
    subst h0
    obtain rfl : l = [] := List.eq_nil_of_length_eq_zero hr.1
    clear hr
    go_enter Try.func58, Try.ntmps58
    have he := eql_slice 22 101 Try.underlying22 none 0 c w
    simp only [Option.isNone_none] at he
    go_wp2
    go_ret
    exact ⟨_, rfl, Tks.nil, Below.refl _ _⟩
  | some a =>
    have HO := Lib.hid (tks_empty w)
    have HR := Lib.hid (hr.alloc (.cells #[] 101))
    have HB := Lib.hid ((Below.refl _ w).alloc (Nat.le_refl _) (.cells #[] 101))
    have he := eql_slice 22 101 Try.underlying22 (some a) n c w
    simp only [Option.isNone_some] at he
    clear hr
    go_enter Try.func58, Try.ntmps58
    go_wp2_with (at_builtin; (refine wpList_app_tk rfl (.tmp 5) (.tmp 6) rfl w.heap.size _ [] rfl HO.out (some a) n c l rfl HR.out (by simp; omega) (by simp) ?_); intro v' w2 hown' hg hat)
    go_ret
    rw [List.nil_append] at hown'
    exact ⟨_, rfl, hown', below_of_grown HB.out hg (by simp) (fun i hi => (HO.out.block i hi).1)⟩
end Go.Proofs.Ythbodpdjjihcaaa.St
