/- Steps: what they are as numbers; the reference's Shape. -/
import Derived.Test.YtgodphfkhmahnaaReg
import Derived.Test.YtgodphfkhmahnaaSmA
import Derived.Deep.CutRange
import Derived.Deep.Cut
namespace Go.Proofs.Ytgodphfkhmahnaa.St
open Go.RowKit Mem Sm
set_option linter.unusedVariables false

/-- a step's numbers -/
structure Sp where
  kind : Int
  from_ : Int
  to_ : Int
  gf : Int
  gt : Int
  ins : Int
  mark : Int
  val : Int
  deriving DecidableEq
def stC (x : Sp) (s t : Value) : Array Value := #[.int .i64 x.kind, .int .i64 x.from_, .int .i64 x.to_, .int .i64 x.gf, .int .i64 x.gt, .int .i64 x.ins, .int .i64 x.mark, .int .i64 x.val, s, t]
def gapB (x : Sp) : Bool := !(decide (x.gf = 0) && decide (x.gt = 0) && decide (x.ins = 0))
def markB (x : Sp) : Bool := !(decide (x.mark = 0) && decide (x.val = 0))
/-- its shape is right; n tokens, m sets -/
def formP (x : Sp) (n m : Nat) : Prop :=
  (x.kind = 1 ∧ gapB x = false ∧ markB x = false ∧ m = 0) ∨
  (x.kind = 2 ∧ (x.from_ ≤ x.gf ∧ x.gf ≤ x.gt ∧ x.gt ≤ x.to_ ∧ 0 ≤ x.ins ∧ x.ins ≤ n) ∧ markB x = false ∧ m = 0) ∨
  ((x.kind = 3 ∨ x.kind = 4) ∧ gapB x = false ∧ n = 0 ∧ m = 0) ∨
  (x.kind = 5 ∧ gapB x = false ∧ markB x = false ∧ n = 0 ∧ (m : Int) = x.to_ - x.from_)
def boundP (x : Sp) (n m : Nat) : Prop := 0 ≤ x.from_ ∧ x.from_ ≤ x.to_ ∧ x.to_ ≤ 1073741824 ∧ n ≤ 20000 ∧ m ≤ 20000
noncomputable def shapeB (x : Sp) (n m : Nat) : Bool := @decide (boundP x n m ∧ formP x n m) (Classical.propDecidable _)
theorem shape_yes {x : Sp} {n m : Nat} (h : boundP x n m ∧ formP x n m) : shapeB x n m = true := @decide_eq_true _ (Classical.propDecidable _) h
theorem shape_no {x : Sp} {n m : Nat} (h : ¬ (boundP x n m ∧ formP x n m)) : shapeB x n m = false := @decide_eq_false _ (Classical.propDecidable _) h
theorem shape_of {x : Sp} {n m : Nat} (h : shapeB x n m = true) : boundP x n m ∧ formP x n m := @of_decide_eq_true _ (Classical.propDecidable _) h
def formB (x : Sp) (n m : Nat) : Bool :=
  if x.kind = 1 then !(gapB x) && !(markB x) && decide (m = 0)
  else if x.kind = 2 then decide (x.from_ ≤ x.gf) && decide (x.gf ≤ x.gt) && decide (x.gt ≤ x.to_) && decide (0 ≤ x.ins) && decide (x.ins ≤ n) && !(markB x) && decide (m = 0)
  else if x.kind = 3 ∨ x.kind = 4 then !(gapB x) && decide (n = 0) && decide (m = 0)
  else if x.kind = 5 then !(gapB x) && !(markB x) && decide (n = 0) && decide ((m : Int) = x.to_ - x.from_)
  else false
theorem form_iff (x : Sp) (n m : Nat) : formB x n m = true ↔ formP x n m := by
  unfold formB formP
  by_cases h1 : x.kind = 1
  · simp [h1, and_assoc]
  · by_cases h2 : x.kind = 2
    · simp [h2, and_assoc]
    · by_cases h3 : x.kind = 3 ∨ x.kind = 4
      · rw [if_neg h1, if_neg h2, if_pos h3]
        have h5 : x.kind ≠ 5 := by omega
        simp [h1, h2, h3, h5, and_assoc]
      · by_cases h5 : x.kind = 5
        · rw [if_neg h1, if_neg h2, if_neg h3, if_pos h5]
          simp [h5, and_assoc]
        · rw [if_neg h1, if_neg h2, if_neg h3, if_neg h5]
          simp only [Bool.false_eq_true, false_iff]
          rintro (h | h | h | h)
          · exact h1 h.1
          · exact h2 h.1
          · exact h3 h.1
          · exact h5 h.1
theorem shape_form {x : Sp} {n m : Nat} (h : boundP x n m) : shapeB x n m = formB x n m := by
  cases hf : formB x n m with
  | true => exact shape_yes ⟨h, (form_iff x n m).1 hf⟩
  | false => exact shape_no (fun g => by rw [(form_iff x n m).2 g.2] at hf; cases hf)
theorem natz (m : Nat) : (((m : Nat) : Int) == 0) = decide (m = 0) := by
  cases m with
  | zero => rfl
  | succ k => simp; omega
/-- the ten cells of a step's block -/
theorem tenc {h : Nat} {W : World} {x0 x1 x2 x3 x4 x5 x6 x7 x8 x9 : Value} {t : TypeId} (e : W.heap[h]? = some (.cells #[x0, x1, x2, x3, x4, x5, x6, x7, x8, x9] t (0, 0))) :
    (W.cell? ⟨h, 0, none⟩ = some x0 ∧ W.cell? ⟨h, 1, none⟩ = some x1 ∧ W.cell? ⟨h, 2, none⟩ = some x2 ∧ W.cell? ⟨h, 3, none⟩ = some x3 ∧ W.cell? ⟨h, 4, none⟩ = some x4) ∧ W.cell? ⟨h, 5, none⟩ = some x5 ∧ W.cell? ⟨h, 6, none⟩ = some x6 ∧ W.cell? ⟨h, 7, none⟩ = some x7 ∧ W.cell? ⟨h, 8, none⟩ = some x8 ∧ W.cell? ⟨h, 9, none⟩ = some x9 := by
  refine ⟨⟨?_, ?_, ?_, ?_, ?_⟩, ?_, ?_, ?_, ?_, ?_⟩
  all_goals simp [World.cell?, e]
set_option maxRecDepth 100000 in
set_option maxHeartbeats 8000000 in
theorem rshape_any (x : Sp) (A B : Option Addr) (n m c d : Nat) (w : World) (hn : n ≤ 1000000000) (hm : m ≤ 1000000000) :
    Calls Try.prog 23 #[.agg #[.int .i64 x.kind, .int .i64 x.from_, .int .i64 x.to_, .int .i64 x.gf, .int .i64 x.gt, .int .i64 x.ins, .int .i64 x.mark, .int .i64 x.val, .slice A n c, .slice B m d]] w fun e w' => e = .returned (.bool (shapeB x n m)) ∧ Below w.heap.size w w' := by
  obtain ⟨F, hF⟩ : ∃ b, b = shapeB x n m := ⟨_, rfl⟩
  rw [← hF]
  have HF := Lib.hid hF
  clear hF
  obtain ⟨xk, xf, xt, xg, xh, xi, xm, xv⟩ := x
  simp only
  have HB := Lib.hid ((Below.refl _ w).alloc (Nat.le_refl _) (.cells #[.int .i64 xk, .int .i64 xf, .int .i64 xt, .int .i64 xg, .int .i64 xh, .int .i64 xi, .int .i64 xm, .int .i64 xv, .slice A n c, .slice B m d] 25))
  have hc := tenc (heap_alloc_new w (.cells #[.int .i64 xk, .int .i64 xf, .int .i64 xt, .int .i64 xg, .int .i64 xh, .int .i64 xi, .int .i64 xm, .int .i64 xv, .slice A n c, .slice B m d] 25))
  obtain ⟨⟨y0, y1, y2, y3, y4⟩, y5, y6, y7, y8, y9⟩ := hc
  by_cases hb : boundP ⟨xk, xf, xt, xg, xh, xi, xm, xv⟩ n m
  · obtain ⟨b1, b2, b3, b4, b5⟩ := id hb
    simp only at b1 b2 b3
    have HBD := Lib.hid hb
    clear hb
    have h1 : ¬ xf < 0 := by omega
    have h2 : ¬ xf > xt := by omega
    have h3 : ¬ xt > 1073741824 := by omega
    have h4 : ¬ ((n : Int) > 20000) := by omega
    have h5 : ¬ ((m : Int) > 20000) := by omega
    go_enter Try.func23, Try.ntmps23
    go_upto_region 3 with fail
    have hN := HF.out.trans (shape_form HBD.out)
    have HN := Lib.hid hN
    obtain ⟨GB, hGB⟩ : ∃ b, b = gapB ⟨xk, xf, xt, xg, xh, xi, xm, xv⟩ := ⟨_, rfl⟩
    obtain ⟨MB, hMB⟩ : ∃ b, b = markB ⟨xk, xf, xt, xg, xh, xi, xm, xv⟩ := ⟨_, rfl⟩
    have HGB := Lib.hid hGB
    have HMB := Lib.hid hMB
    clear hN hGB hMB
    go_cut [3] from 33 to 45 (fun v3 wx => v3 = .bool GB ∧ wx = w.alloc (.cells #[.int .i64 xk, .int .i64 xf, .int .i64 xt, .int .i64 xg, .int .i64 xh, .int .i64 xi, .int .i64 xm, .int .i64 xv, .slice A n c, .slice B m d] 25))
    case first =>
      by_cases g1 : xg = 0
      · by_cases g2 : xh = 0
        · by_cases g3 : xi = 0
          · have e : GB = false := by rw [HGB.out]; simp [gapB, g1, g2, g3]
            subst e
            clear HGB
            subst g1; subst g2; subst g3
            go_wp2_with fail
            go_meet
            exact ⟨rfl, rfl⟩
          · have e : GB = true := by rw [HGB.out]; simp [gapB, g3]
            subst e
            clear HGB
            subst g1; subst g2
            go_wp2_with fail
            go_meet
            exact ⟨by simp [g3], rfl⟩
        · have e : GB = true := by rw [HGB.out]; simp [gapB, g2]
          subst e
          clear HGB
          subst g1
          go_wp2_with fail
          go_meet
          exact ⟨by simp, rfl⟩
      · have e : GB = true := by rw [HGB.out]; simp [gapB, g1]
        subst e
        clear HGB
        go_wp2_with fail
        go_meet
        exact ⟨by simp, rfl⟩
    case rest =>
    obtain ⟨rfl, rfl⟩ := hcut
    go_upto_region 4 with fail
    go_cut [4] from 46 to 53 (fun v4 wx => v4 = .bool MB ∧ wx = w.alloc (.cells #[.int .i64 xk, .int .i64 xf, .int .i64 xt, .int .i64 xg, .int .i64 xh, .int .i64 xi, .int .i64 xm, .int .i64 xv, .slice A n c, .slice B m d] 25))
    case first =>
      by_cases g1 : xm = 0
      · by_cases g2 : xv = 0
        · have e : MB = false := by rw [HMB.out]; simp [markB, g1, g2]
          subst e
          clear HMB
          subst g1; subst g2
          go_wp2_with fail
          go_meet
          exact ⟨rfl, rfl⟩
        · have e : MB = true := by rw [HMB.out]; simp [markB, g2]
          subst e
          clear HMB
          subst g1
          go_wp2_with fail
          go_meet
          exact ⟨by simp [g2], rfl⟩
      · have e : MB = true := by rw [HMB.out]; simp [markB, g1]
        subst e
        clear HMB
        go_wp2_with fail
        go_meet
        exact ⟨by simp, rfl⟩
    case rest =>
    obtain ⟨rfl, rfl⟩ := hcut
    by_cases k1 : xk = 1
    · subst k1
      have hF : F = (!GB && !MB && decide (m = 0)) := by rw [HN.out, HGB.out, HMB.out]; rfl
      have HFF := Lib.hid hF
      clear hF HN HGB HMB HF
      cases GB <;> cases MB <;> by_cases hm0 : (m : Int) = 0
      all_goals
        go_wp2
        go_ret
        exact ⟨ret_bool (by rw [HFF.out, Bool.eq_iff_iff]; simp; try omega), HB.out⟩
    · by_cases k2 : xk = 2
      · subst k2
        have hF : F = (decide (xf ≤ xg) && decide (xg ≤ xh) && decide (xh ≤ xt) && decide (0 ≤ xi) && decide (xi ≤ n) && !MB && decide (m = 0)) := by rw [HN.out, HMB.out]; rfl
        have HFF := Lib.hid hF
        clear hF HN HGB HMB HF
        by_cases c1 : xf ≤ xg
        · by_cases c2 : xg ≤ xh
          · by_cases c3 : xh ≤ xt
            · by_cases c4 : xi ≥ 0
              · by_cases c5 : xi ≤ n
                · cases MB <;> by_cases hm0 : (m : Int) = 0
                  all_goals
                    go_wp2
                    go_ret
                    exact ⟨ret_bool (by rw [HFF.out, Bool.eq_iff_iff]; simp; try omega), HB.out⟩
                · go_wp2
                  go_ret
                  exact ⟨ret_bool (by rw [HFF.out, Bool.eq_iff_iff]; simp; try omega), HB.out⟩
              · have c4' : ¬ 0 ≤ xi := c4
                go_wp2
                go_ret
                exact ⟨ret_bool (by rw [HFF.out, Bool.eq_iff_iff]; simp; try omega), HB.out⟩
            · go_wp2
              go_ret
              exact ⟨ret_bool (by rw [HFF.out, Bool.eq_iff_iff]; simp; try omega), HB.out⟩
          · go_wp2
            go_ret
            exact ⟨ret_bool (by rw [HFF.out, Bool.eq_iff_iff]; simp; try omega), HB.out⟩
        · go_wp2
          go_ret
          exact ⟨ret_bool (by rw [HFF.out, Bool.eq_iff_iff]; simp; try omega), HB.out⟩
      · by_cases k3 : xk = 3
        · subst k3
          have hF : F = (!GB && decide (n = 0) && decide (m = 0)) := by rw [HN.out, HGB.out]; rfl
          have HFF := Lib.hid hF
          clear hF HN HGB HMB HF
          cases GB <;> by_cases hn0 : (n : Int) = 0 <;> by_cases hm0 : (m : Int) = 0
          all_goals
            go_wp2
            go_ret
            exact ⟨ret_bool (by rw [HFF.out, Bool.eq_iff_iff]; simp; try omega), HB.out⟩
        · by_cases k4 : xk = 4
          · subst k4
            have hF : F = (!GB && decide (n = 0) && decide (m = 0)) := by rw [HN.out, HGB.out]; rfl
            have HFF := Lib.hid hF
            clear hF HN HGB HMB HF
            cases GB <;> by_cases hn0 : (n : Int) = 0 <;> by_cases hm0 : (m : Int) = 0
            all_goals
              go_wp2
              go_ret
              exact ⟨ret_bool (by rw [HFF.out, Bool.eq_iff_iff]; simp; try omega), HB.out⟩
          · by_cases k5 : xk = 5
            · subst k5
              have hF : F = (!GB && !MB && decide (n = 0) && decide ((m : Int) = xt - xf)) := by rw [HN.out, HGB.out, HMB.out]; rfl
              have HFF := Lib.hid hF
              clear hF HN HGB HMB HF
              cases GB <;> cases MB <;> by_cases hn0 : (n : Int) = 0 <;> by_cases hm0 : (m : Int) = xt - xf
              all_goals
                go_wp2
                go_ret
                exact ⟨ret_bool (by rw [HFF.out, Bool.eq_iff_iff]; simp; try omega), HB.out⟩
            · have hF : F = false := by
                rw [HN.out]
                unfold formB
                simp [k1, k2, k3, k4, k5]
              subst hF
              clear HN HGB HMB HF
              go_wp2
              go_ret
              exact ⟨rfl, HB.out⟩
  · have N : F = false := HF.out.trans (shape_no (fun h => hb h.1))
    subst N
    have hbad : xf < 0 ∨ (¬ xf < 0 ∧ xf > xt) ∨ (¬ xf < 0 ∧ ¬ xf > xt ∧ xt > 1073741824) ∨ (¬ xf < 0 ∧ ¬ xf > xt ∧ ¬ xt > 1073741824 ∧ (n : Int) > 20000) ∨ (¬ xf < 0 ∧ ¬ xf > xt ∧ ¬ xt > 1073741824 ∧ ¬ (n : Int) > 20000 ∧ (m : Int) > 20000) := by
      unfold boundP at hb
      simp only at hb
      omega
    clear hb
    rcases hbad with h1 | ⟨h1, h2⟩ | ⟨h1, h2, h3⟩ | ⟨h1, h2, h3, h4⟩ | ⟨h1, h2, h3, h4, h5⟩
    all_goals
      go_enter Try.func23, Try.ntmps23
      go_wp2
      go_ret
      exact ⟨rfl, HB.out⟩
end Go.Proofs.Ytgodphfkhmahnaa.St
