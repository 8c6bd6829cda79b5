/- Steps: what they are as numbers; the reference's Shape. Steps: a step by its kind. Steps: their numbers, held against each other. -/
import Derived.Test.YtmhngehpddfccaaSmA
import Derived.Deep.CutRange
import Derived.Deep.Cut
import Derived.ChangeKeysEq
import Derived.Laws.StructEq
namespace Go.Proofs.Ytmhngehpddfccaa.St
open Go.RowKit Mem Sm
set_option linter.unusedVariables false

/-- a step's numbers -/
structure Sp where
  kind : Int
  from_ : Int
  to_ : Int
  gf : Int
  gt : Int
  ins : Int
  mark : Int
  val : Int
  deriving DecidableEq
def stC (x : Sp) (s t : Value) : Array Value := #[.int .i64 x.kind, .int .i64 x.from_, .int .i64 x.to_, .int .i64 x.gf, .int .i64 x.gt, .int .i64 x.ins, .int .i64 x.mark, .int .i64 x.val, s, t]
def gapB (x : Sp) : Bool := !(decide (x.gf = 0) && decide (x.gt = 0) && decide (x.ins = 0))
def markB (x : Sp) : Bool := !(decide (x.mark = 0) && decide (x.val = 0))
/-- its shape is right; n tokens, m sets -/
def formP (x : Sp) (n m : Nat) : Prop :=
  (x.kind = 1 ∧ gapB x = false ∧ markB x = false ∧ m = 0) ∨
  (x.kind = 2 ∧ (x.from_ ≤ x.gf ∧ x.gf ≤ x.gt ∧ x.gt ≤ x.to_ ∧ 0 ≤ x.ins ∧ x.ins ≤ n) ∧ markB x = false ∧ m = 0) ∨
  ((x.kind = 3 ∨ x.kind = 4) ∧ gapB x = false ∧ n = 0 ∧ m = 0) ∨
  (x.kind = 5 ∧ gapB x = false ∧ markB x = false ∧ n = 0 ∧ (m : Int) = x.to_ - x.from_)
def boundP (x : Sp) (n m : Nat) : Prop := 0 ≤ x.from_ ∧ x.from_ ≤ x.to_ ∧ x.to_ ≤ 1073741824 ∧ n ≤ 20000 ∧ m ≤ 20000
noncomputable def shapeB (x : Sp) (n m : Nat) : Bool := @decide (boundP x n m ∧ formP x n m) (Classical.propDecidable _)
theorem shape_yes {x : Sp} {n m : Nat} (h : boundP x n m ∧ formP x n m) : shapeB x n m = true := @decide_eq_true _ (Classical.propDecidable _) h
theorem shape_no {x : Sp} {n m : Nat} (h : ¬ (boundP x n m ∧ formP x n m)) : shapeB x n m = false := @decide_eq_false _ (Classical.propDecidable _) h
theorem shape_of {x : Sp} {n m : Nat} (h : shapeB x n m = true) : boundP x n m ∧ formP x n m := @of_decide_eq_true _ (Classical.propDecidable _) h
def formB (x : Sp) (n m : Nat) : Bool :=
  if x.kind = 1 then !(gapB x) && !(markB x) && decide (m = 0)
  else if x.kind = 2 then decide (x.from_ ≤ x.gf) && decide (x.gf ≤ x.gt) && decide (x.gt ≤ x.to_) && decide (0 ≤ x.ins) && decide (x.ins ≤ n) && !(markB x) && decide (m = 0)
  else if x.kind = 3 ∨ x.kind = 4 then !(gapB x) && decide (n = 0) && decide (m = 0)
  else if x.kind = 5 then !(gapB x) && !(markB x) && decide (n = 0) && decide ((m : Int) = x.to_ - x.from_)
  else false
theorem form_iff (x : Sp) (n m : Nat) : formB x n m = true ↔ formP x n m := by
  unfold formB formP
  by_cases h1 : x.kind = 1
  · simp [h1, and_assoc]
  · by_cases h2 : x.kind = 2
    · simp [h2, and_assoc]
    · by_cases h3 : x.kind = 3 ∨ x.kind = 4
      · rw [if_neg h1, if_neg h2, if_pos h3]
        have h5 : x.kind ≠ 5 := by omega
        simp [h1, h2, h3, h5, and_assoc]
      · by_cases h5 : x.kind = 5
        · rw [if_neg h1, if_neg h2, if_neg h3, if_pos h5]
          simp [h5, and_assoc]
        · rw [if_neg h1, if_neg h2, if_neg h3, if_neg h5]
          simp only [Bool.false_eq_true, false_iff]
          rintro (h | h | h | h)
          · exact h1 h.1
          · exact h2 h.1
          · exact h3 h.1
          · exact h5 h.1
theorem shape_form {x : Sp} {n m : Nat} (h : boundP x n m) : shapeB x n m = formB x n m := by
  cases hf : formB x n m with
  | true => exact shape_yes ⟨h, (form_iff x n m).1 hf⟩
  | false => exact shape_no (fun g => by rw [(form_iff x n m).2 g.2] at hf; cases hf)
theorem natz (m : Nat) : (((m : Nat) : Int) == 0) = decide (m = 0) := by
  cases m with
  | zero => rfl
  | succ k => simp; omega
/-- the ten cells of a step's block -/
theorem tenc {h : Nat} {W : World} {x0 x1 x2 x3 x4 x5 x6 x7 x8 x9 : Value} {t : TypeId} (e : W.heap[h]? = some (.cells #[x0, x1, x2, x3, x4, x5, x6, x7, x8, x9] t (0, 0))) :
    (W.cell? ⟨h, 0, none⟩ = some x0 ∧ W.cell? ⟨h, 1, none⟩ = some x1 ∧ W.cell? ⟨h, 2, none⟩ = some x2 ∧ W.cell? ⟨h, 3, none⟩ = some x3 ∧ W.cell? ⟨h, 4, none⟩ = some x4) ∧ W.cell? ⟨h, 5, none⟩ = some x5 ∧ W.cell? ⟨h, 6, none⟩ = some x6 ∧ W.cell? ⟨h, 7, none⟩ = some x7 ∧ W.cell? ⟨h, 8, none⟩ = some x8 ∧ W.cell? ⟨h, 9, none⟩ = some x9 := by
  refine ⟨⟨?_, ?_, ?_, ?_, ?_⟩, ?_, ?_, ?_, ?_, ?_⟩
  all_goals simp [World.cell?, e]
set_option maxRecDepth 100000 in
set_option maxHeartbeats 8000000 in
theorem rshape_any (x : Sp) (A B : Option Addr) (n m c d : Nat) (w : World) (hn : n ≤ 1000000000) (hm : m ≤ 1000000000) :
    Calls Try.prog 21 #[.agg #[.int .i64 x.kind, .int .i64 x.from_, .int .i64 x.to_, .int .i64 x.gf, .int .i64 x.gt, .int .i64 x.ins, .int .i64 x.mark, .int .i64 x.val, .slice A n c, .slice B m d]] w fun e w' => e = .returned (.bool (shapeB x n m)) ∧ Below w.heap.size w w' := by
  obtain ⟨F, hF⟩ : ∃ b, b = shapeB x n m := ⟨_, rfl⟩
  rw [← hF]
  have HF := Lib.hid hF
  clear hF
  obtain ⟨xk, xf, xt, xg, xh, xi, xm, xv⟩ := x
  simp only
  have HB := Lib.hid ((Below.refl _ w).alloc (Nat.le_refl _) (.cells #[.int .i64 xk, .int .i64 xf, .int .i64 xt, .int .i64 xg, .int .i64 xh, .int .i64 xi, .int .i64 xm, .int .i64 xv, .slice A n c, .slice B m d] 25))
  have hc := tenc (heap_alloc_new w (.cells #[.int .i64 xk, .int .i64 xf, .int .i64 xt, .int .i64 xg, .int .i64 xh, .int .i64 xi, .int .i64 xm, .int .i64 xv, .slice A n c, .slice B m d] 25))
  obtain ⟨⟨y0, y1, y2, y3, y4⟩, y5, y6, y7, y8, y9⟩ := hc
  by_cases hb : boundP ⟨xk, xf, xt, xg, xh, xi, xm, xv⟩ n m
  · obtain ⟨b1, b2, b3, b4, b5⟩ := id hb
    simp only at b1 b2 b3
    have HBD := Lib.hid hb
    clear hb
    have h1 : ¬ xf < 0 := by omega
    have h2 : ¬ xf > xt := by omega
    have h3 : ¬ xt > 1073741824 := by omega
    have h4 : ¬ ((n : Int) > 20000) := by omega
    have h5 : ¬ ((m : Int) > 20000) := by omega
    go_enter Try.func21, Try.ntmps21
    go_upto_region 3 with fail
    have hN := HF.out.trans (shape_form HBD.out)
    have HN := Lib.hid hN
    obtain ⟨GB, hGB⟩ : ∃ b, b = gapB ⟨xk, xf, xt, xg, xh, xi, xm, xv⟩ := ⟨_, rfl⟩
    obtain ⟨MB, hMB⟩ : ∃ b, b = markB ⟨xk, xf, xt, xg, xh, xi, xm, xv⟩ := ⟨_, rfl⟩
    have HGB := Lib.hid hGB
    have HMB := Lib.hid hMB
    clear hN hGB hMB
    go_cut [3] from 33 to 45 (fun v3 wx => v3 = .bool GB ∧ wx = w.alloc (.cells #[.int .i64 xk, .int .i64 xf, .int .i64 xt, .int .i64 xg, .int .i64 xh, .int .i64 xi, .int .i64 xm, .int .i64 xv, .slice A n c, .slice B m d] 25))
    case first =>
      by_cases g1 : xg = 0
      · by_cases g2 : xh = 0
        · by_cases g3 : xi = 0
          · have e : GB = false := by rw [HGB.out]; simp [gapB, g1, g2, g3]
            subst e
            clear HGB
            subst g1; subst g2; subst g3
            go_wp2_with fail
            go_meet
            exact ⟨rfl, rfl⟩
          · have e : GB = true := by rw [HGB.out]; simp [gapB, g3]
            subst e
            clear HGB
            subst g1; subst g2
            go_wp2_with fail
            go_meet
            exact ⟨by simp [g3], rfl⟩
        · have e : GB = true := by rw [HGB.out]; simp [gapB, g2]
          subst e
          clear HGB
          subst g1
          go_wp2_with fail
          go_meet
          exact ⟨by simp, rfl⟩
      · have e : GB = true := by rw [HGB.out]; simp [gapB, g1]
        subst e
        clear HGB
        go_wp2_with fail
        go_meet
        exact ⟨by simp, rfl⟩
    case rest =>
    obtain ⟨rfl, rfl⟩ := hcut
    go_upto_region 4 with fail
    go_cut [4] from 46 to 53 (fun v4 wx => v4 = .bool MB ∧ wx = w.alloc (.cells #[.int .i64 xk, .int .i64 xf, .int .i64 xt, .int .i64 xg, .int .i64 xh, .int .i64 xi, .int .i64 xm, .int .i64 xv, .slice A n c, .slice B m d] 25))
    case first =>
      by_cases g1 : xm = 0
      · by_cases g2 : xv = 0
        · have e : MB = false := by rw [HMB.out]; simp [markB, g1, g2]
          subst e
          clear HMB
          subst g1; subst g2
          go_wp2_with fail
          go_meet
          exact ⟨rfl, rfl⟩
        · have e : MB = true := by rw [HMB.out]; simp [markB, g2]
          subst e
          clear HMB
          subst g1
          go_wp2_with fail
          go_meet
          exact ⟨by simp [g2], rfl⟩
      · have e : MB = true := by rw [HMB.out]; simp [markB, g1]
        subst e
        clear HMB
        go_wp2_with fail
        go_meet
        exact ⟨by simp, rfl⟩
    case rest =>
    obtain ⟨rfl, rfl⟩ := hcut
    by_cases k1 : xk = 1
    · subst k1
      have hF : F = (!GB && !MB && decide (m = 0)) := by rw [HN.out, HGB.out, HMB.out]; rfl
      have HFF := Lib.hid hF
      clear hF HN HGB HMB HF
      cases GB <;> cases MB <;> by_cases hm0 : (m : Int) = 0
      all_goals
        go_wp2
        go_ret
        exact ⟨ret_bool (by rw [HFF.out, Bool.eq_iff_iff]; simp; try omega), HB.out⟩
    · by_cases k2 : xk = 2
      · subst k2
        have hF : F = (decide (xf ≤ xg) && decide (xg ≤ xh) && decide (xh ≤ xt) && decide (0 ≤ xi) && decide (xi ≤ n) && !MB && decide (m = 0)) := by rw [HN.out, HMB.out]; rfl
        have HFF := Lib.hid hF
        clear hF HN HGB HMB HF
        by_cases c1 : xf ≤ xg
        · by_cases c2 : xg ≤ xh
          · by_cases c3 : xh ≤ xt
            · by_cases c4 : xi ≥ 0
              · by_cases c5 : xi ≤ n
                · cases MB <;> by_cases hm0 : (m : Int) = 0
                  all_goals
                    go_wp2
                    go_ret
                    exact ⟨ret_bool (by rw [HFF.out, Bool.eq_iff_iff]; simp; try omega), HB.out⟩
                · go_wp2
                  go_ret
                  exact ⟨ret_bool (by rw [HFF.out, Bool.eq_iff_iff]; simp; try omega), HB.out⟩
              · have c4' : ¬ 0 ≤ xi := c4
                go_wp2
                go_ret
                exact ⟨ret_bool (by rw [HFF.out, Bool.eq_iff_iff]; simp; try omega), HB.out⟩
            · go_wp2
              go_ret
              exact ⟨ret_bool (by rw [HFF.out, Bool.eq_iff_iff]; simp; try omega), HB.out⟩
          · go_wp2
            go_ret
            exact ⟨ret_bool (by rw [HFF.out, Bool.eq_iff_iff]; simp; try omega), HB.out⟩
        · go_wp2
          go_ret
          exact ⟨ret_bool (by rw [HFF.out, Bool.eq_iff_iff]; simp; try omega), HB.out⟩
      · by_cases k3 : xk = 3
        · subst k3
          have hF : F = (!GB && decide (n = 0) && decide (m = 0)) := by rw [HN.out, HGB.out]; rfl
          have HFF := Lib.hid hF
          clear hF HN HGB HMB HF
          cases GB <;> by_cases hn0 : (n : Int) = 0 <;> by_cases hm0 : (m : Int) = 0
          all_goals
            go_wp2
            go_ret
            exact ⟨ret_bool (by rw [HFF.out, Bool.eq_iff_iff]; simp; try omega), HB.out⟩
        · by_cases k4 : xk = 4
          · subst k4
            have hF : F = (!GB && decide (n = 0) && decide (m = 0)) := by rw [HN.out, HGB.out]; rfl
            have HFF := Lib.hid hF
            clear hF HN HGB HMB HF
            cases GB <;> by_cases hn0 : (n : Int) = 0 <;> by_cases hm0 : (m : Int) = 0
            all_goals
              go_wp2
              go_ret
              exact ⟨ret_bool (by rw [HFF.out, Bool.eq_iff_iff]; simp; try omega), HB.out⟩
          · by_cases k5 : xk = 5
            · subst k5
              have hF : F = (!GB && !MB && decide (n = 0) && decide ((m : Int) = xt - xf)) := by rw [HN.out, HGB.out, HMB.out]; rfl
              have HFF := Lib.hid hF
              clear hF HN HGB HMB HF
              cases GB <;> cases MB <;> by_cases hn0 : (n : Int) = 0 <;> by_cases hm0 : (m : Int) = xt - xf
              all_goals
                go_wp2
                go_ret
                exact ⟨ret_bool (by rw [HFF.out, Bool.eq_iff_iff]; simp; try omega), HB.out⟩
            · have hF : F = false := by
                rw [HN.out]
                unfold formB
                simp [k1, k2, k3, k4, k5]
              subst hF
              clear HN HGB HMB HF
              go_wp2
              go_ret
              exact ⟨rfl, HB.out⟩
  · have N : F = false := HF.out.trans (shape_no (fun h => hb h.1))
    subst N
    have hbad : xf < 0 ∨ (¬ xf < 0 ∧ xf > xt) ∨ (¬ xf < 0 ∧ ¬ xf > xt ∧ xt > 1073741824) ∨ (¬ xf < 0 ∧ ¬ xf > xt ∧ ¬ xt > 1073741824 ∧ (n : Int) > 20000) ∨ (¬ xf < 0 ∧ ¬ xf > xt ∧ ¬ xt > 1073741824 ∧ ¬ (n : Int) > 20000 ∧ (m : Int) > 20000) := by
      unfold boundP at hb
      simp only at hb
      omega
    clear hb
    rcases hbad with h1 | ⟨h1, h2⟩ | ⟨h1, h2, h3⟩ | ⟨h1, h2, h3, h4⟩ | ⟨h1, h2, h3, h4, h5⟩
    all_goals
      go_enter Try.func21, Try.ntmps21
      go_wp2
      go_ret
      exact ⟨rfl, HB.out⟩
end Go.Proofs.Ytmhngehpddfccaa.St
namespace Go.Proofs.Ytmhngehpddfccaa.St
open Go.RowKit Mem Sm
set_option linter.unusedVariables false

def stV (x : Sp) (s t : Value) : Value := .agg (stC x s t)
def kI (k : Int) (v : Value) : Value := if k = 1 then .iface 131 v else if k = 2 then .iface 132 v else if k = 3 then .iface 137 v else if k = 4 then .iface 138 v else if k = 5 then .iface 139 v else .nilIface
def kB (k : Int) : Bool := decide (1 ≤ k) && decide (k ≤ 5)
set_option maxRecDepth 100000 in
set_option maxHeartbeats 4000000 in
theorem kindOf_any (x : Sp) (A B : Option Addr) (n m c d : Nat) (w : World) :
    Calls Try.prog 63 #[stV x (.slice A n c) (.slice B m d)] w fun e w' => e = .returned (.tuple #[kI x.kind (stV x (.slice A n c) (.slice B m d)), .bool (kB x.kind)]) ∧ Below w.heap.size w w' := by
  obtain ⟨xk, xf, xt, xg, xh, xi, xm, xv⟩ := x
  unfold stV stC
  simp only
  have HB := Lib.hid ((Below.refl _ w).alloc (Nat.le_refl _) (.cells #[.int .i64 xk, .int .i64 xf, .int .i64 xt, .int .i64 xg, .int .i64 xh, .int .i64 xi, .int .i64 xm, .int .i64 xv, .slice A n c, .slice B m d] 25))
  have hc := tenc (heap_alloc_new w (.cells #[.int .i64 xk, .int .i64 xf, .int .i64 xt, .int .i64 xg, .int .i64 xh, .int .i64 xi, .int .i64 xm, .int .i64 xv, .slice A n c, .slice B m d] 25))
  obtain ⟨⟨y0, y1, y2, y3, y4⟩, y5, y6, y7, y8, y9⟩ := hc
  by_cases k1 : xk = 1
  · subst k1
    go_enter Try.func63, Try.ntmps63
    go_wp2
    go_ret2
    exact ⟨rfl, HB.out⟩
  · by_cases k2 : xk = 2
    · subst k2
      go_enter Try.func63, Try.ntmps63
      go_wp2
      go_ret2
      exact ⟨rfl, HB.out⟩
    · by_cases k3 : xk = 3
      · subst k3
        go_enter Try.func63, Try.ntmps63
        go_wp2
        go_ret2
        exact ⟨rfl, HB.out⟩
      · by_cases k4 : xk = 4
        · subst k4
          go_enter Try.func63, Try.ntmps63
          go_wp2
          go_ret2
          exact ⟨rfl, HB.out⟩
        · by_cases k5 : xk = 5
          · subst k5
            go_enter Try.func63, Try.ntmps63
            go_wp2
            go_ret2
            exact ⟨rfl, HB.out⟩
          · have hI : kI xk = fun _ => .nilIface := by funext v; unfold kI; simp [k1, k2, k3, k4, k5]
            have hK : kB xk = false := by unfold kB; simp; omega
            rw [hI, hK]
            go_enter Try.func63, Try.ntmps63
            go_wp2
            go_ret2
            exact ⟨rfl, HB.out⟩
/-- whether what is told of its kind goes together -/
def partP (x : Sp) (n : Nat) (m : Nat) : Prop :=
  if x.kind = 2 then x.from_ ≤ x.gf ∧ x.gf ≤ x.gt ∧ x.gt ≤ x.to_ ∧ 0 ≤ x.ins ∧ x.ins ≤ n
  else if x.kind = 5 then (m : Int) = x.to_ - x.from_ ∧ m ≤ 20000
  else True
theorem formed_splice (v : Array Value) (w : World) : Calls Try.prog 110 #[.agg v] w fun e w' => e = .returned (.bool true) ∧ Below w.heap.size w w' := by
  have HB := Lib.hid ((Below.refl _ w).alloc (Nat.le_refl _) (.cells v 131))
  go_enter Try.func110, Try.ntmps110
  go_wp2
  go_ret
  exact ⟨rfl, HB.out⟩
theorem formed_mark (v : Array Value) (w : World) : Calls Try.prog 120 #[.agg v] w fun e w' => e = .returned (.bool true) ∧ Below w.heap.size w w' := by
  have HB := Lib.hid ((Below.refl _ w).alloc (Nat.le_refl _) (.cells v 135))
  go_enter Try.func120, Try.ntmps120
  go_wp2
  go_ret
  exact ⟨rfl, HB.out⟩
set_option maxRecDepth 100000 in
set_option maxHeartbeats 4000000 in
theorem formed_around (x : Sp) (A B : Option Addr) (n m c d : Nat) (w : World) : Calls Try.prog 114 #[stV x (.slice A n c) (.slice B m d)] w fun e w' => e = .returned (.bool (decide (x.from_ ≤ x.gf) && decide (x.gf ≤ x.gt) && decide (x.gt ≤ x.to_) && decide (0 ≤ x.ins) && decide (x.ins ≤ n))) ∧ Below w.heap.size w w' := by
  obtain ⟨xk, xf, xt, xg, xh, xi, xm, xv⟩ := x
  unfold stV stC
  simp only
  have HB := Lib.hid ((Below.refl _ w).alloc (Nat.le_refl _) (.cells #[.int .i64 xk, .int .i64 xf, .int .i64 xt, .int .i64 xg, .int .i64 xh, .int .i64 xi, .int .i64 xm, .int .i64 xv, .slice A n c, .slice B m d] 132))
  have hc := tenc (heap_alloc_new w (.cells #[.int .i64 xk, .int .i64 xf, .int .i64 xt, .int .i64 xg, .int .i64 xh, .int .i64 xi, .int .i64 xm, .int .i64 xv, .slice A n c, .slice B m d] 132))
  obtain ⟨⟨y0, y1, y2, y3, y4⟩, y5, y6, y7, y8, y9⟩ := hc
  by_cases c1 : xf ≤ xg
  · by_cases c2 : xg ≤ xh
    · by_cases c3 : xh ≤ xt
      · by_cases c4 : xi ≥ 0
        · by_cases c5 : xi ≤ n
          all_goals
            go_enter Try.func114, Try.ntmps114
            go_wp2
            go_ret
            exact ⟨ret_bool (by rw [Bool.eq_iff_iff]; simp; try omega), HB.out⟩
        · go_enter Try.func114, Try.ntmps114
          go_wp2
          go_ret
          exact ⟨ret_bool (by rw [Bool.eq_iff_iff]; simp; try omega), HB.out⟩
      · go_enter Try.func114, Try.ntmps114
        go_wp2
        go_ret
        exact ⟨ret_bool (by rw [Bool.eq_iff_iff]; simp; try omega), HB.out⟩
    · go_enter Try.func114, Try.ntmps114
      go_wp2
      go_ret
      exact ⟨ret_bool (by rw [Bool.eq_iff_iff]; simp; try omega), HB.out⟩
  · go_enter Try.func114, Try.ntmps114
    go_wp2
    go_ret
    exact ⟨ret_bool (by rw [Bool.eq_iff_iff]; simp; try omega), HB.out⟩
set_option maxRecDepth 100000 in
set_option maxHeartbeats 4000000 in
theorem formed_remark (x : Sp) (A B : Option Addr) (n m c d : Nat) (w : World) (hb : 0 ≤ x.from_ ∧ x.from_ ≤ x.to_ ∧ x.to_ ≤ 1073741824) : Calls Try.prog 126 #[stV x (.slice A n c) (.slice B m d)] w fun e w' => e = .returned (.bool (decide ((m : Int) = x.to_ - x.from_) && decide (m ≤ 20000))) ∧ Below w.heap.size w w' := by
  obtain ⟨xk, xf, xt, xg, xh, xi, xm, xv⟩ := x
  unfold stV stC
  simp only
  have HB := Lib.hid ((Below.refl _ w).alloc (Nat.le_refl _) (.cells #[.int .i64 xk, .int .i64 xf, .int .i64 xt, .int .i64 xg, .int .i64 xh, .int .i64 xi, .int .i64 xm, .int .i64 xv, .slice A n c, .slice B m d] 139))
  have hc := tenc (heap_alloc_new w (.cells #[.int .i64 xk, .int .i64 xf, .int .i64 xt, .int .i64 xg, .int .i64 xh, .int .i64 xi, .int .i64 xm, .int .i64 xv, .slice A n c, .slice B m d] 139))
  obtain ⟨⟨y0, y1, y2, y3, y4⟩, y5, y6, y7, y8, y9⟩ := hc
  obtain ⟨b1, b2, b3⟩ := hb
  simp only at b1 b2 b3
  by_cases c1 : (m : Int) = xt - xf
  · by_cases c2 : (m : Int) ≤ 20000
    all_goals
      go_enter Try.func126, Try.ntmps126
      go_wp2
      go_ret
      exact ⟨ret_bool (by rw [Bool.eq_iff_iff]; simp; try omega), HB.out⟩
  · go_enter Try.func126, Try.ntmps126
    go_wp2
    go_ret
    exact ⟨ret_bool (by rw [Bool.eq_iff_iff]; simp; try omega), HB.out⟩
set_option maxRecDepth 100000 in
set_option maxHeartbeats 4000000 in
theorem meant_splice (x : Sp) (A B : Option Addr) (n m c d : Nat) (w : World) : Calls Try.prog 112 #[stV x (.slice A n c) (.slice B m d)] w fun e w' => e = .returned (stV ⟨x.kind, x.from_, x.to_, 0, 0, 0, 0, 0⟩ (.slice A n c) (.slice none 0 0)) ∧ Below w.heap.size w w' := by
  obtain ⟨xk, xf, xt, xg, xh, xi, xm, xv⟩ := x
  unfold stV stC
  simp only
  have s1 : (w.alloc (.cells #[.int .i64 xk, .int .i64 xf, .int .i64 xt, .int .i64 xg, .int .i64 xh, .int .i64 xi, .int .i64 xm, .int .i64 xv, .slice A n c, .slice B m d] 131)).heap.size = w.heap.size + 1 := by simp
  have hb := heap_alloc_new w (.cells #[.int .i64 xk, .int .i64 xf, .int .i64 xt, .int .i64 xg, .int .i64 xh, .int .i64 xi, .int .i64 xm, .int .i64 xv, .slice A n c, .slice B m d] 131)
  have HB := Lib.hid (((Below.refl _ w).alloc (Nat.le_refl _) (.cells #[.int .i64 xk, .int .i64 xf, .int .i64 xt, .int .i64 xg, .int .i64 xh, .int .i64 xi, .int .i64 xm, .int .i64 xv, .slice A n c, .slice B m d] 131)).alloc (by simp) (.cells #[.int .i64 xk, .int .i64 xf, .int .i64 xt, .int .i64 0, .int .i64 0, .int .i64 0, .int .i64 0, .int .i64 0, .slice A n c, .slice none 0 0] 25))
  have HR := heap_alloc_new (w.alloc (.cells #[.int .i64 xk, .int .i64 xf, .int .i64 xt, .int .i64 xg, .int .i64 xh, .int .i64 xi, .int .i64 xm, .int .i64 xv, .slice A n c, .slice B m d] 131)) (.cells #[.int .i64 xk, .int .i64 xf, .int .i64 xt, .int .i64 0, .int .i64 0, .int .i64 0, .int .i64 0, .int .i64 0, .slice A n c, .slice none 0 0] 25)
  have hb2 : ((w.alloc (.cells #[.int .i64 xk, .int .i64 xf, .int .i64 xt, .int .i64 xg, .int .i64 xh, .int .i64 xi, .int .i64 xm, .int .i64 xv, .slice A n c, .slice B m d] 131)).alloc (.cells #[.int .i64 0, .int .i64 0, .int .i64 0, .int .i64 0, .int .i64 0, .int .i64 0, .int .i64 0, .int .i64 0, .slice none 0 0, .slice none 0 0] 25)).heap[w.heap.size]? = some (.cells #[.int .i64 xk, .int .i64 xf, .int .i64 xt, .int .i64 xg, .int .i64 xh, .int .i64 xi, .int .i64 xm, .int .i64 xv, .slice A n c, .slice B m d] 131 (0, 0)) := by
    rw [Below.heap_alloc _ _ _ (by simp), heap_alloc_new]
  rw [s1] at HR
  obtain ⟨⟨y0, y1, y2, y3, y4⟩, y5, y6, y7, y8, y9⟩ := tenc hb2
  obtain ⟨⟨r0, r1, r2, r3, r4⟩, r5, r6, r7, r8, r9⟩ := tenc HR
  have HQ := Lib.hid (And.intro r0 (And.intro r1 (And.intro r2 (And.intro r3 (And.intro r4 (And.intro r5 (And.intro r6 (And.intro r7 (And.intro r8 r9)))))))))
  clear r0 r1 r2 r3 r4 r5 r6 r7 r8 r9 hb hb2 HR s1
  go_enter Try.func112, Try.ntmps112
  go_wp2
  obtain ⟨r0, r1, r2, r3, r4, r5, r6, r7, r8, r9⟩ := HQ.out
  refine bodyPost_ret (v := .agg #[.int .i64 xk, .int .i64 xf, .int .i64 xt, .int .i64 0, .int .i64 0, .int .i64 0, .int .i64 0, .int .i64 0, .slice A n c, .slice none 0 0]) ?_ rfl ⟨rfl, HB.out⟩
  simp [results, Try.results112, go_sem, r0, r1, r2, r3, r4, r5, r6, r7, r8, r9]
set_option maxRecDepth 100000 in
set_option maxHeartbeats 4000000 in
theorem meant_around (x : Sp) (A B : Option Addr) (n m c d : Nat) (w : World) : Calls Try.prog 116 #[stV x (.slice A n c) (.slice B m d)] w fun e w' => e = .returned (stV ⟨x.kind, x.from_, x.to_, x.gf, x.gt, x.ins, 0, 0⟩ (.slice A n c) (.slice none 0 0)) ∧ Below w.heap.size w w' := by
  obtain ⟨xk, xf, xt, xg, xh, xi, xm, xv⟩ := x
  unfold stV stC
  simp only
  have s1 : (w.alloc (.cells #[.int .i64 xk, .int .i64 xf, .int .i64 xt, .int .i64 xg, .int .i64 xh, .int .i64 xi, .int .i64 xm, .int .i64 xv, .slice A n c, .slice B m d] 132)).heap.size = w.heap.size + 1 := by simp
  have hb := heap_alloc_new w (.cells #[.int .i64 xk, .int .i64 xf, .int .i64 xt, .int .i64 xg, .int .i64 xh, .int .i64 xi, .int .i64 xm, .int .i64 xv, .slice A n c, .slice B m d] 132)
  have HB := Lib.hid (((Below.refl _ w).alloc (Nat.le_refl _) (.cells #[.int .i64 xk, .int .i64 xf, .int .i64 xt, .int .i64 xg, .int .i64 xh, .int .i64 xi, .int .i64 xm, .int .i64 xv, .slice A n c, .slice B m d] 132)).alloc (by simp) (.cells #[.int .i64 xk, .int .i64 xf, .int .i64 xt, .int .i64 xg, .int .i64 xh, .int .i64 xi, .int .i64 0, .int .i64 0, .slice A n c, .slice none 0 0] 25))
  have HR := heap_alloc_new (w.alloc (.cells #[.int .i64 xk, .int .i64 xf, .int .i64 xt, .int .i64 xg, .int .i64 xh, .int .i64 xi, .int .i64 xm, .int .i64 xv, .slice A n c, .slice B m d] 132)) (.cells #[.int .i64 xk, .int .i64 xf, .int .i64 xt, .int .i64 xg, .int .i64 xh, .int .i64 xi, .int .i64 0, .int .i64 0, .slice A n c, .slice none 0 0] 25)
  have hb2 : ((w.alloc (.cells #[.int .i64 xk, .int .i64 xf, .int .i64 xt, .int .i64 xg, .int .i64 xh, .int .i64 xi, .int .i64 xm, .int .i64 xv, .slice A n c, .slice B m d] 132)).alloc (.cells #[.int .i64 0, .int .i64 0, .int .i64 0, .int .i64 0, .int .i64 0, .int .i64 0, .int .i64 0, .int .i64 0, .slice none 0 0, .slice none 0 0] 25)).heap[w.heap.size]? = some (.cells #[.int .i64 xk, .int .i64 xf, .int .i64 xt, .int .i64 xg, .int .i64 xh, .int .i64 xi, .int .i64 xm, .int .i64 xv, .slice A n c, .slice B m d] 132 (0, 0)) := by
    rw [Below.heap_alloc _ _ _ (by simp), heap_alloc_new]
  rw [s1] at HR
  obtain ⟨⟨y0, y1, y2, y3, y4⟩, y5, y6, y7, y8, y9⟩ := tenc hb2
  obtain ⟨⟨r0, r1, r2, r3, r4⟩, r5, r6, r7, r8, r9⟩ := tenc HR
  have HQ := Lib.hid (And.intro r0 (And.intro r1 (And.intro r2 (And.intro r3 (And.intro r4 (And.intro r5 (And.intro r6 (And.intro r7 (And.intro r8 r9)))))))))
  clear r0 r1 r2 r3 r4 r5 r6 r7 r8 r9 hb hb2 HR s1
  go_enter Try.func116, Try.ntmps116
  go_wp2
  obtain ⟨r0, r1, r2, r3, r4, r5, r6, r7, r8, r9⟩ := HQ.out
  refine bodyPost_ret (v := .agg #[.int .i64 xk, .int .i64 xf, .int .i64 xt, .int .i64 xg, .int .i64 xh, .int .i64 xi, .int .i64 0, .int .i64 0, .slice A n c, .slice none 0 0]) ?_ rfl ⟨rfl, HB.out⟩
  simp [results, Try.results116, go_sem, r0, r1, r2, r3, r4, r5, r6, r7, r8, r9]
set_option maxRecDepth 100000 in
set_option maxHeartbeats 4000000 in
theorem meant_mark (x : Sp) (A B : Option Addr) (n m c d : Nat) (w : World) : Calls Try.prog 122 #[stV x (.slice A n c) (.slice B m d)] w fun e w' => e = .returned (stV ⟨x.kind, x.from_, x.to_, 0, 0, 0, x.mark, x.val⟩ (.slice none 0 0) (.slice none 0 0)) ∧ Below w.heap.size w w' := by
  obtain ⟨xk, xf, xt, xg, xh, xi, xm, xv⟩ := x
  unfold stV stC
  simp only
  have s1 : (w.alloc (.cells #[.int .i64 xk, .int .i64 xf, .int .i64 xt, .int .i64 xg, .int .i64 xh, .int .i64 xi, .int .i64 xm, .int .i64 xv, .slice A n c, .slice B m d] 135)).heap.size = w.heap.size + 1 := by simp
  have hb := heap_alloc_new w (.cells #[.int .i64 xk, .int .i64 xf, .int .i64 xt, .int .i64 xg, .int .i64 xh, .int .i64 xi, .int .i64 xm, .int .i64 xv, .slice A n c, .slice B m d] 135)
  have HB := Lib.hid (((Below.refl _ w).alloc (Nat.le_refl _) (.cells #[.int .i64 xk, .int .i64 xf, .int .i64 xt, .int .i64 xg, .int .i64 xh, .int .i64 xi, .int .i64 xm, .int .i64 xv, .slice A n c, .slice B m d] 135)).alloc (by simp) (.cells #[.int .i64 xk, .int .i64 xf, .int .i64 xt, .int .i64 0, .int .i64 0, .int .i64 0, .int .i64 xm, .int .i64 xv, .slice none 0 0, .slice none 0 0] 25))
  have HR := heap_alloc_new (w.alloc (.cells #[.int .i64 xk, .int .i64 xf, .int .i64 xt, .int .i64 xg, .int .i64 xh, .int .i64 xi, .int .i64 xm, .int .i64 xv, .slice A n c, .slice B m d] 135)) (.cells #[.int .i64 xk, .int .i64 xf, .int .i64 xt, .int .i64 0, .int .i64 0, .int .i64 0, .int .i64 xm, .int .i64 xv, .slice none 0 0, .slice none 0 0] 25)
  have hb2 : ((w.alloc (.cells #[.int .i64 xk, .int .i64 xf, .int .i64 xt, .int .i64 xg, .int .i64 xh, .int .i64 xi, .int .i64 xm, .int .i64 xv, .slice A n c, .slice B m d] 135)).alloc (.cells #[.int .i64 0, .int .i64 0, .int .i64 0, .int .i64 0, .int .i64 0, .int .i64 0, .int .i64 0, .int .i64 0, .slice none 0 0, .slice none 0 0] 25)).heap[w.heap.size]? = some (.cells #[.int .i64 xk, .int .i64 xf, .int .i64 xt, .int .i64 xg, .int .i64 xh, .int .i64 xi, .int .i64 xm, .int .i64 xv, .slice A n c, .slice B m d] 135 (0, 0)) := by
    rw [Below.heap_alloc _ _ _ (by simp), heap_alloc_new]
  rw [s1] at HR
  obtain ⟨⟨y0, y1, y2, y3, y4⟩, y5, y6, y7, y8, y9⟩ := tenc hb2
  obtain ⟨⟨r0, r1, r2, r3, r4⟩, r5, r6, r7, r8, r9⟩ := tenc HR
  have HQ := Lib.hid (And.intro r0 (And.intro r1 (And.intro r2 (And.intro r3 (And.intro r4 (And.intro r5 (And.intro r6 (And.intro r7 (And.intro r8 r9)))))))))
  clear r0 r1 r2 r3 r4 r5 r6 r7 r8 r9 hb hb2 HR s1
  go_enter Try.func122, Try.ntmps122
  go_wp2
  obtain ⟨r0, r1, r2, r3, r4, r5, r6, r7, r8, r9⟩ := HQ.out
  refine bodyPost_ret (v := .agg #[.int .i64 xk, .int .i64 xf, .int .i64 xt, .int .i64 0, .int .i64 0, .int .i64 0, .int .i64 xm, .int .i64 xv, .slice none 0 0, .slice none 0 0]) ?_ rfl ⟨rfl, HB.out⟩
  simp [results, Try.results122, go_sem, r0, r1, r2, r3, r4, r5, r6, r7, r8, r9]
set_option maxRecDepth 100000 in
set_option maxHeartbeats 4000000 in
theorem meant_remark (x : Sp) (A B : Option Addr) (n m c d : Nat) (w : World) : Calls Try.prog 128 #[stV x (.slice A n c) (.slice B m d)] w fun e w' => e = .returned (stV ⟨x.kind, x.from_, x.to_, 0, 0, 0, 0, 0⟩ (.slice none 0 0) (.slice B m d)) ∧ Below w.heap.size w w' := by
  obtain ⟨xk, xf, xt, xg, xh, xi, xm, xv⟩ := x
  unfold stV stC
  simp only
  have s1 : (w.alloc (.cells #[.int .i64 xk, .int .i64 xf, .int .i64 xt, .int .i64 xg, .int .i64 xh, .int .i64 xi, .int .i64 xm, .int .i64 xv, .slice A n c, .slice B m d] 139)).heap.size = w.heap.size + 1 := by simp
  have hb := heap_alloc_new w (.cells #[.int .i64 xk, .int .i64 xf, .int .i64 xt, .int .i64 xg, .int .i64 xh, .int .i64 xi, .int .i64 xm, .int .i64 xv, .slice A n c, .slice B m d] 139)
  have HB := Lib.hid (((Below.refl _ w).alloc (Nat.le_refl _) (.cells #[.int .i64 xk, .int .i64 xf, .int .i64 xt, .int .i64 xg, .int .i64 xh, .int .i64 xi, .int .i64 xm, .int .i64 xv, .slice A n c, .slice B m d] 139)).alloc (by simp) (.cells #[.int .i64 xk, .int .i64 xf, .int .i64 xt, .int .i64 0, .int .i64 0, .int .i64 0, .int .i64 0, .int .i64 0, .slice none 0 0, .slice B m d] 25))
  have HR := heap_alloc_new (w.alloc (.cells #[.int .i64 xk, .int .i64 xf, .int .i64 xt, .int .i64 xg, .int .i64 xh, .int .i64 xi, .int .i64 xm, .int .i64 xv, .slice A n c, .slice B m d] 139)) (.cells #[.int .i64 xk, .int .i64 xf, .int .i64 xt, .int .i64 0, .int .i64 0, .int .i64 0, .int .i64 0, .int .i64 0, .slice none 0 0, .slice B m d] 25)
  have hb2 : ((w.alloc (.cells #[.int .i64 xk, .int .i64 xf, .int .i64 xt, .int .i64 xg, .int .i64 xh, .int .i64 xi, .int .i64 xm, .int .i64 xv, .slice A n c, .slice B m d] 139)).alloc (.cells #[.int .i64 0, .int .i64 0, .int .i64 0, .int .i64 0, .int .i64 0, .int .i64 0, .int .i64 0, .int .i64 0, .slice none 0 0, .slice none 0 0] 25)).heap[w.heap.size]? = some (.cells #[.int .i64 xk, .int .i64 xf, .int .i64 xt, .int .i64 xg, .int .i64 xh, .int .i64 xi, .int .i64 xm, .int .i64 xv, .slice A n c, .slice B m d] 139 (0, 0)) := by
    rw [Below.heap_alloc _ _ _ (by simp), heap_alloc_new]
  rw [s1] at HR
  obtain ⟨⟨y0, y1, y2, y3, y4⟩, y5, y6, y7, y8, y9⟩ := tenc hb2
  obtain ⟨⟨r0, r1, r2, r3, r4⟩, r5, r6, r7, r8, r9⟩ := tenc HR
  have HQ := Lib.hid (And.intro r0 (And.intro r1 (And.intro r2 (And.intro r3 (And.intro r4 (And.intro r5 (And.intro r6 (And.intro r7 (And.intro r8 r9)))))))))
  clear r0 r1 r2 r3 r4 r5 r6 r7 r8 r9 hb hb2 HR s1
  go_enter Try.func128, Try.ntmps128
  go_wp2
  obtain ⟨r0, r1, r2, r3, r4, r5, r6, r7, r8, r9⟩ := HQ.out
  refine bodyPost_ret (v := .agg #[.int .i64 xk, .int .i64 xf, .int .i64 xt, .int .i64 0, .int .i64 0, .int .i64 0, .int .i64 0, .int .i64 0, .slice none 0 0, .slice B m d]) ?_ rfl ⟨rfl, HB.out⟩
  simp [results, Try.results128, go_sem, r0, r1, r2, r3, r4, r5, r6, r7, r8, r9]
end Go.Proofs.Ytmhngehpddfccaa.St
namespace Go.Proofs.Ytmhngehpddfccaa.St
open Go.RowKit Mem Sm
set_option linter.unusedVariables false

set_option maxRecDepth 100000 in
theorem eq_nums (d : Nat) (a b c e f g h i a' b' c' e' f' g' h' i' : Int) (w : World) :
    (Op.equalIn (d + 1 + 1) 140 (.agg #[.int .i64 a, .int .i64 b, .int .i64 c, .int .i64 e, .int .i64 f, .int .i64 g, .int .i64 h, .int .i64 i]) (.agg #[.int .i64 a', .int .i64 b', .int .i64 c', .int .i64 e', .int .i64 f', .int .i64 g', .int .i64 h', .int .i64 i'])).run Try.prog w =
      .ok ((a == a') && ((b == b') && ((c == c') && ((e == e') && ((f == f') && ((g == g') && ((h == h') && (i == i')))))))) w := by
  obtain ⟨i0, hi⟩ : ∃ i, Try.prog.info? 3 = some i := Option.isSome_iff_exists.1 (by kernel_rfl)
  have hu : Try.prog.underlying 140 = some (.array 8 3) := by kernel_rfl
  have h16 : Try.prog.underlying 3 = some (.int .i64) := by kernel_rfl
  rw [run_equalIn_array w (d + 1) (n := 8) (e := 3) _ _ hu hi, show List.range 8 = [0, 1, 2, 3, 4, 5, 6, 7] from rfl]
  have p : ∀ (a b c e f g h i : Int) (w : World), (part 3 #[.int .i64 a, .int .i64 b, .int .i64 c, .int .i64 e, .int .i64 f, .int .i64 g, .int .i64 h, .int .i64 i] (0 * Try.prog.cellsOf 3)).run Try.prog w = .ok (.int .i64 a) w ∧ (part 3 #[.int .i64 a, .int .i64 b, .int .i64 c, .int .i64 e, .int .i64 f, .int .i64 g, .int .i64 h, .int .i64 i] (1 * Try.prog.cellsOf 3)).run Try.prog w = .ok (.int .i64 b) w ∧ (part 3 #[.int .i64 a, .int .i64 b, .int .i64 c, .int .i64 e, .int .i64 f, .int .i64 g, .int .i64 h, .int .i64 i] (2 * Try.prog.cellsOf 3)).run Try.prog w = .ok (.int .i64 c) w ∧ (part 3 #[.int .i64 a, .int .i64 b, .int .i64 c, .int .i64 e, .int .i64 f, .int .i64 g, .int .i64 h, .int .i64 i] (3 * Try.prog.cellsOf 3)).run Try.prog w = .ok (.int .i64 e) w ∧ (part 3 #[.int .i64 a, .int .i64 b, .int .i64 c, .int .i64 e, .int .i64 f, .int .i64 g, .int .i64 h, .int .i64 i] (4 * Try.prog.cellsOf 3)).run Try.prog w = .ok (.int .i64 f) w ∧ (part 3 #[.int .i64 a, .int .i64 b, .int .i64 c, .int .i64 e, .int .i64 f, .int .i64 g, .int .i64 h, .int .i64 i] (5 * Try.prog.cellsOf 3)).run Try.prog w = .ok (.int .i64 g) w ∧ (part 3 #[.int .i64 a, .int .i64 b, .int .i64 c, .int .i64 e, .int .i64 f, .int .i64 g, .int .i64 h, .int .i64 i] (6 * Try.prog.cellsOf 3)).run Try.prog w = .ok (.int .i64 h) w ∧ (part 3 #[.int .i64 a, .int .i64 b, .int .i64 c, .int .i64 e, .int .i64 f, .int .i64 g, .int .i64 h, .int .i64 i] (7 * Try.prog.cellsOf 3)).run Try.prog w = .ok (.int .i64 i) w :=
    fun a b c e f g h i w => ⟨by kernel_rfl, by kernel_rfl, by kernel_rfl, by kernel_rfl, by kernel_rfl, by kernel_rfl, by kernel_rfl, by kernel_rfl⟩
  obtain ⟨q0, q1, q2, q3, q4, q5, q6, q7⟩ := p a b c e f g h i w
  obtain ⟨r0, r1, r2, r3, r4, r5, r6, r7⟩ := p a' b' c' e' f' g' h' i' w
  have eqi : ∀ (x y : Int) (w : World), (Op.equalIn (d + 1) 3 (.int .i64 x) (.int .i64 y)).run Try.prog w = .ok (x == y) w := fun x y w => run_equalIn_int w d _ _ _ _ _ h16
  have st : ∀ (j : Nat) (js : List Nat) (x y : Int) (xs ys : Array Value) (R : Bool) (w : World), (part 3 xs (j * Try.prog.cellsOf 3)).run Try.prog w = .ok (.int .i64 x) w → (part 3 ys (j * Try.prog.cellsOf 3)).run Try.prog w = .ok (.int .i64 y) w →
      (Op.eqItems (d + 1) 3 (Try.prog.cellsOf 3) xs ys js).run Try.prog w = .ok R w → (Op.eqItems (d + 1) 3 (Try.prog.cellsOf 3) xs ys (j :: js)).run Try.prog w = .ok ((x == y) && R) w := by
    intro j js x y xs ys R w h1 h2 h3
    unfold Op.eqItems
    simp only [Sem.run_bind, h1, h2, Result.andThen_ok, eqi]
    cases x == y
    · simp
    · simpa using h3
  refine st 0 _ _ _ _ _ _ w q0 r0 ?_
  refine st 1 _ _ _ _ _ _ w q1 r1 ?_
  refine st 2 _ _ _ _ _ _ w q2 r2 ?_
  refine st 3 _ _ _ _ _ _ w q3 r3 ?_
  refine st 4 _ _ _ _ _ _ w q4 r4 ?_
  refine st 5 _ _ _ _ _ _ w q5 r5 ?_
  refine st 6 _ _ _ _ _ _ w q6 r6 ?_
  rw [st 7 [] _ _ _ _ true w q7 r7 (by simp [Op.eqItems])]
  simp
def numV (x : Sp) : Value := .agg #[.int .i64 x.kind, .int .i64 x.from_, .int .i64 x.to_, .int .i64 x.gf, .int .i64 x.gt, .int .i64 x.ins, .int .i64 x.mark, .int .i64 x.val]
theorem eq_num (d : Nat) (x y : Sp) (w : World) : (Op.equalIn (d + 1 + 1) 140 (numV x) (numV y)).run Try.prog w = .ok (decide (x = y)) w := by
  unfold numV
  rw [eq_nums]
  congr 1
  obtain ⟨a, b, c, e, f, g, h, i⟩ := x
  obtain ⟨a', b', c', e', f', g', h', i'⟩ := y
  rw [Bool.eq_iff_iff]
  simp
set_option maxRecDepth 100000 in
set_option maxHeartbeats 4000000 in
theorem numbers_any (x : Sp) (A B : Option Addr) (n m c d : Nat) (w : World) : Calls Try.prog 76 #[stV x (.slice A n c) (.slice B m d)] w fun e w' => e = .returned (numV x) ∧ Below w.heap.size w w' := by
  obtain ⟨xk, xf, xt, xg, xh, xi, xm, xv⟩ := x
  unfold stV stC numV
  simp only
  have s1 : (w.alloc (.cells #[.int .i64 xk, .int .i64 xf, .int .i64 xt, .int .i64 xg, .int .i64 xh, .int .i64 xi, .int .i64 xm, .int .i64 xv, .slice A n c, .slice B m d] 25)).heap.size = w.heap.size + 1 := by simp
  have HB := Lib.hid (((Below.refl _ w).alloc (Nat.le_refl _) (.cells #[.int .i64 xk, .int .i64 xf, .int .i64 xt, .int .i64 xg, .int .i64 xh, .int .i64 xi, .int .i64 xm, .int .i64 xv, .slice A n c, .slice B m d] 25)).alloc (by simp) (.cells #[.int .i64 xk, .int .i64 xf, .int .i64 xt, .int .i64 xg, .int .i64 xh, .int .i64 xi, .int .i64 xm, .int .i64 xv] 140))
  have HR := heap_alloc_new (w.alloc (.cells #[.int .i64 xk, .int .i64 xf, .int .i64 xt, .int .i64 xg, .int .i64 xh, .int .i64 xi, .int .i64 xm, .int .i64 xv, .slice A n c, .slice B m d] 25)) (.cells #[.int .i64 xk, .int .i64 xf, .int .i64 xt, .int .i64 xg, .int .i64 xh, .int .i64 xi, .int .i64 xm, .int .i64 xv] 140)
  have hb2 : ((w.alloc (.cells #[.int .i64 xk, .int .i64 xf, .int .i64 xt, .int .i64 xg, .int .i64 xh, .int .i64 xi, .int .i64 xm, .int .i64 xv, .slice A n c, .slice B m d] 25)).alloc (.cells #[.int .i64 0, .int .i64 0, .int .i64 0, .int .i64 0, .int .i64 0, .int .i64 0, .int .i64 0, .int .i64 0] 140)).heap[w.heap.size]? = some (.cells #[.int .i64 xk, .int .i64 xf, .int .i64 xt, .int .i64 xg, .int .i64 xh, .int .i64 xi, .int .i64 xm, .int .i64 xv, .slice A n c, .slice B m d] 25 (0, 0)) := by
    rw [Below.heap_alloc _ _ _ (by simp), heap_alloc_new]
  rw [s1] at HR
  obtain ⟨⟨y0, y1, y2, y3, y4⟩, y5, y6, y7, y8, y9⟩ := tenc hb2
  have HR2 := Lib.hid HR
  clear hb2 HR s1
  go_enter Try.func76, Try.ntmps76
  go_wp2
  have HR := HR2.out
  have hc : ∀ (j : Nat) (u : Value), (#[.int .i64 xk, .int .i64 xf, .int .i64 xt, .int .i64 xg, .int .i64 xh, .int .i64 xi, .int .i64 xm, .int .i64 xv] : Array Value)[j]? = some u → ((w.alloc (.cells #[.int .i64 xk, .int .i64 xf, .int .i64 xt, .int .i64 xg, .int .i64 xh, .int .i64 xi, .int .i64 xm, .int .i64 xv, .slice A n c, .slice B m d] 25)).alloc (.cells #[.int .i64 xk, .int .i64 xf, .int .i64 xt, .int .i64 xg, .int .i64 xh, .int .i64 xi, .int .i64 xm, .int .i64 xv] 140)).cell? ⟨w.heap.size + 1, j, none⟩ = some u := fun j u hj => by simp only [World.cell?, HR]; exact hj
  have r0 := hc 0 _ rfl
  have r1 := hc 1 _ rfl
  have r2 := hc 2 _ rfl
  have r3 := hc 3 _ rfl
  have r4 := hc 4 _ rfl
  have r5 := hc 5 _ rfl
  have r6 := hc 6 _ rfl
  have r7 := hc 7 _ rfl
  refine bodyPost_ret (v := .agg #[.int .i64 xk, .int .i64 xf, .int .i64 xt, .int .i64 xg, .int .i64 xh, .int .i64 xi, .int .i64 xm, .int .i64 xv]) ?_ rfl ⟨rfl, HB.out⟩
  simp [results, Try.results76, go_sem, r0, r1, r2, r3, r4, r5, r6, r7]
end Go.Proofs.Ytmhngehpddfccaa.St
