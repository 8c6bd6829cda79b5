/- Walks of route: few. -/
import Derived.Test.YtnffgomgfabapaaRtL
import Derived.Test.YtnffgomgfabapaaRtMw
namespace Go.Proofs.Ytnffgomgfabapaa.Rt
open Go.ChangeShapes Go.WideShapes Go.Deep Go.RowKit Mem Sm
set_option linter.unusedVariables false

/-- are maps few enough to be gone through? -/
def fewP (l : List Mi) : Prop := l.length ≤ 30 ∧ ∀ i, i < l.length → (mi l i).m.length ≤ 20
noncomputable def fewB (l : List Mi) : Bool := @decide (fewP l) (Classical.propDecidable _)
theorem fewB_yes {l : List Mi} (h : fewP l) : fewB l = true := @decide_eq_true _ (Classical.propDecidable _) h
theorem fewB_no {l : List Mi} (h : ¬ fewP l) : fewB l = false := @decide_eq_false _ (Classical.propDecidable _) h
theorem few_of {l : List Mi} (h : fewB l = true) : fewP l := @of_decide_eq_true _ (Classical.propDecidable _) h
set_option maxHeartbeats 1000000 in
theorem few_any (l : List Mi) (A : Option Addr) (n c : Nat) (w : World) (hr : MLow w.heap.size w A n l) :
    Calls Try.prog 15 #[.slice A n c] w fun e w' => e = .returned (.bool (fewB l)) ∧ Below w.heap.size w w' := by
  have HR := Lib.hid hr
  have HL := Lib.hid hr.1
  obtain ⟨F, hF⟩ : ∃ b, b = fewB l := ⟨_, rfl⟩
  rw [← hF]
  have HF := Lib.hid hF
  clear hr hF
  go_enter Try.func15, Try.ntmps15
  go_wp2
  go_loopw [3] (fun iv wr => ∃ i : Nat, iv = .int .i64 i ∧ i ≤ n ∧ i ≤ 30 ∧ Hid (∀ j, j < i → (mi l j).m.length ≤ 20) ∧ Hid (Below w.heap.size w wr)) (fun iv _ => n - (intOf iv).toNat)
  case atStart => exact ⟨0, rfl, by omega, by omega, Lib.hid (fun j h => absurd h (by omega)), Lib.hid (Below.refl _ _)⟩
  case round =>
    obtain ⟨i, rfl, hi, hi30, HJ, HB⟩ := hrel
    by_cases hlt : i < n
    · have d1 : decide ((i : Int) < (n : Int)) = true := decide_eq_true (by omega)
      by_cases h30 : i < 30
      · have d2 : decide ((i : Int) < 30) = true := decide_eq_true (by omega)
        obtain ⟨b, off, rfl, hb, hc⟩ := HR.out.2 (by omega)
        obtain ⟨Ai, ci, c0, c1, _⟩ := (hc i hlt).below HB.out (Nat.le_refl _) hb
        have i1 : (0 : Int) ≤ (i : Int) := by omega
        have i2 : (i : Int) < (n : Int) := by omega
        clear hc
        by_cases hg : (mi l i).m.length ≤ 20
        · have d3 : decide ((20 : Int) < (((mi l i).m.length : Nat) : Int)) = false := decide_eq_false (by omega)
          have HJ2 : Hid (∀ j, j < i + 1 → (mi l j).m.length ≤ 20) := Lib.hid (fun j hj => by
            rcases Nat.lt_succ_iff_lt_or_eq.1 hj with h | rfl
            · exact HJ.out j h
            · exact hg)
          have hg' : ¬ ((((mi l i).m.length : Nat) : Int) > 20) := by omega
          clear hg
          go_wp2
          go_roundw
          case measure => simp only [intOf]; omega
          case rel => exact ⟨i + 1, by push_cast; rfl, by omega, by omega, HJ2, HB⟩
        · have N1 : F = false := HF.out.trans (fewB_no (fun h => hg (h.2 i (by rw [← HL.out]; exact hlt))))
          subst N1
          have hg' : (((mi l i).m.length : Nat) : Int) > 20 := by omega
          clear hg
          go_wp2
          go_ret
          exact ⟨rfl, HB.out⟩
      · have d2 : decide ((i : Int) < 30) = false := decide_eq_false (by omega)
        have N1 : F = false := HF.out.trans (fewB_no (fun h => by have := h.1; rw [← HL.out] at this; omega))
        subst N1
        have hg' : ¬ ((n : Int) ≤ 30) := by omega
        have d3 : decide ((n : Int) ≤ 30) = false := decide_eq_false hg'
        go_wp2
        go_ret
        exact ⟨ret_bool (by simp), HB.out⟩
    · have d1 : decide ((i : Int) < (n : Int)) = false := decide_eq_false (by omega)
      have hin : i = n := by omega
      have N1 : F = true := HF.out.trans (fewB_yes ⟨by rw [← HL.out]; omega, fun j hj => HJ.out j (by rw [hin, HL.out]; exact hj)⟩)
      subst N1
      have hg' : (n : Int) ≤ 30 := by omega
      clear hin
      go_wp2
      go_ret
      exact ⟨ret_bool (by simp), HB.out⟩
end Go.Proofs.Ytnffgomgfabapaa.Rt
