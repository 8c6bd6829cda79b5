/- Welding: the program's ways are the reference's. -/
import Derived.Test.YtlbkfenlbkibgaaWeR
set_option linter.unusedVariables false
namespace Go.Proofs.Ytlbkfenlbkibgaa.St
open Go.RowKit Mem Sm Tk Rt
set_option linter.unusedSimpArgs false
def weldK (x y : Sp) (n : Nat) : Nat := if goesB x y n = true then 1 else if leadsB x y = true then 2 else if marksB x y = true then 3 else 0
noncomputable def pieceB (x y : Sp) (n n' m m' : Nat) : Bool := shapeB x n m && (shapeB y n' m' && (decide (n + n' ≤ 20000) && decide (weldK x y n ≠ 0)))
theorem goes_iff (x y : Sp) (n : Nat) : goesB x y n = true ↔ (x.kind = 1 ∧ y.kind = 1) ∧ (y.from_ = x.from_ + n ∧ x.to_ + y.to_ - y.from_ ≤ 1073741824) := by unfold goesB; simp
theorem leads_iff (x y : Sp) : leadsB x y = true ↔ (x.kind = 1 ∧ y.kind = 1) ∧ y.to_ = x.from_ := by unfold leadsB; simp
theorem marks_kind {x y : Sp} (h : marksB x y = true) : (x.kind = 3 ∨ x.kind = 4) ∧ x.kind = y.kind ∧ x.from_ ≤ y.to_ ∧ y.from_ ≤ x.to_ := by
 unfold marksB at h
 simp at h
 exact ⟨h.1, h.2.1, h.2.2.2.2.1, h.2.2.2.2.2⟩
theorem marks_not {x y : Sp} (h : x.kind = 1) : marksB x y = false := by
 cases hm : marksB x y with
 | false => rfl
 | true => have := (marks_kind hm).1; omega
theorem bool_no {b : Bool} (h : ¬ b = true) : b = false := by cases b <;> simp_all
theorem weld_eq (x y : Sp) (L K : List Tk.Tk) (n n' m m' : Nat) (hL : L.length = n) (hK : K.length = n') :
  weldB x y L K n n' m m' = pieceB x y n n' m m' ∧ (pieceB x y n n' m m' = true → weldK x y n = wayOf x y n) := by
 unfold weldB pieceB
 cases hX : shapeB x n m with
 | false => simp
 | true =>
  cases hY : shapeB y n' m' with
  | false => simp
  | true =>
   simp only [Bool.true_and]
   obtain ⟨⟨a1, a2, a3, a4, a5⟩, fx⟩ := shape_of hX
   obtain ⟨⟨b1, b2, b3, b4, b5⟩, fy⟩ := shape_of hY
   by_cases h11 : x.kind = 1 ∧ y.kind = 1
   ·by_cases hw1 : x.from_ + n = y.from_
    ·have e1 : wayOf x y n = 1 := by unfold wayOf; rw [if_pos ⟨h11, hw1⟩]
     have e2 : wayL L K 1 = L ++ K := rfl
     have e3 : wayN x y 1 = ⟨1, x.from_, x.to_ + y.to_ - y.from_, 0, 0, 0, 0, 0⟩ := rfl
     by_cases hb : x.to_ + y.to_ - y.from_ ≤ 1073741824
     ·have hg : goesB x y n = true := (goes_iff x y n).2 ⟨h11, by omega, hb⟩
      have e4 : weldK x y n = 1 := by unfold weldK; rw [if_pos hg]
      rw [e1, e4, e2, e3, List.length_append, hL, hK]
      refine ⟨?_, fun _ => rfl⟩
      by_cases hl : n + n' ≤ 20000
      ·rw [shape_yes (x := ⟨1, x.from_, x.to_ + y.to_ - y.from_, 0, 0, 0, 0, 0⟩) (n := n + n') (m := 0) ⟨⟨a1, by show x.from_ ≤ x.to_ + y.to_ - y.from_; omega, hb, hl, by omega⟩, .inl ⟨rfl, rfl, rfl, rfl⟩⟩]; simp [hl]
      ·rw [shape_no (fun g => hl g.1.2.2.2.1)]; simp [hl]
     ·have hg : goesB x y n = false := bool_no (fun g => hb ((goes_iff x y n).1 g).2.2)
      have hl : leadsB x y = false := bool_no (fun g => by have := ((leads_iff x y).1 g).2; omega)
      have e4 : weldK x y n = 0 := by unfold weldK; rw [hg, hl, marks_not h11.1]; rfl
      rw [e1, e4, e2, e3, shape_no (fun g => hb g.1.2.2.1)]
      exact ⟨by simp, fun g => by simp at g⟩
    ·have hg : goesB x y n = false := bool_no (fun g => by have := ((goes_iff x y n).1 g).2.1; omega)
     by_cases hw2 : y.to_ = x.from_
     ·have e1 : wayOf x y n = 2 := by unfold wayOf; rw [if_neg (fun g => hw1 g.2), if_pos ⟨h11, hw2⟩]
      have hl : leadsB x y = true := (leads_iff x y).2 ⟨h11, hw2⟩
      have e4 : weldK x y n = 2 := by unfold weldK; rw [hg, hl]; rfl
      have e2 : wayL L K 2 = K ++ L := rfl
      have e3 : wayN x y 2 = ⟨1, y.from_, x.to_, 0, 0, 0, 0, 0⟩ := rfl
      rw [e1, e4, e2, e3, List.length_append, hL, hK]
      refine ⟨?_, fun _ => rfl⟩
      by_cases hl : n + n' ≤ 20000
      ·rw [shape_yes (x := ⟨1, y.from_, x.to_, 0, 0, 0, 0, 0⟩) (n := n' + n) (m := 0) ⟨⟨b1, by show y.from_ ≤ x.to_; omega, a3, by omega, by omega⟩, .inl ⟨rfl, rfl, rfl, rfl⟩⟩]; simp [hl]
      ·rw [shape_no (fun g => hl (by have := g.1.2.2.2.1; omega))]; simp [hl]
     ·have e1 : wayOf x y n = 0 := by unfold wayOf; rw [if_neg (fun g => hw1 g.2), if_neg (fun g => hw2 g.2), marks_not h11.1]; rfl
      have hl : leadsB x y = false := bool_no (fun g => hw2 ((leads_iff x y).1 g).2)
      have e4 : weldK x y n = 0 := by unfold weldK; rw [hg, hl, marks_not h11.1]; rfl
      rw [e1, e4]
      exact ⟨by simp, fun g => by simp at g⟩
   ·have hg : goesB x y n = false := bool_no (fun g => h11 ((goes_iff x y n).1 g).1)
    have hl : leadsB x y = false := bool_no (fun g => h11 ((leads_iff x y).1 g).1)
    cases hm : marksB x y with
    | false =>
     have e1 : wayOf x y n = 0 := by unfold wayOf; rw [if_neg (fun g => h11 g.1), if_neg (fun g => h11 g.1), hm]; rfl
     have e4 : weldK x y n = 0 := by unfold weldK; rw [hg, hl, hm]; rfl
     rw [e1, e4]
     exact ⟨by simp, fun g => by simp at g⟩
    | true =>
     have e1 : wayOf x y n = 3 := by unfold wayOf; rw [if_neg (fun g => h11 g.1), if_neg (fun g => h11 g.1), hm]; rfl
     have e4 : weldK x y n = 3 := by unfold weldK; rw [hg, hl, hm]; rfl
     obtain ⟨k1, k2, k3, k4⟩ := marks_kind hm
     have z1 : n = 0 := by unfold formP at fx; omega
     have z2 : n' = 0 := by unfold formP at fy; omega
     have e2 : wayL L K 3 = [] := rfl
     have e3 : wayN x y 3 = overN x y := rfl
     rw [e1, e4, e2, e3, List.length_nil]
     refine ⟨?_, fun _ => rfl⟩
     rw [shape_yes (x := overN x y) (n := 0) (m := 0) ⟨⟨by unfold overN; show 0 ≤ min _ _; omega, by unfold overN; show min _ _ ≤ max _ _; omega, by unfold overN; show max _ _ ≤ _; omega, by simp, by omega⟩, .inr (.inr (.inl ⟨by unfold overN; exact k1, rfl, rfl, rfl⟩))⟩]
     have : n + n' ≤ 20000 := by omega
     simp [this]
end Go.Proofs.Ytlbkfenlbkibgaa.St
namespace Go.Proofs.Ytlbkfenlbkibgaa.St
open Go.RowKit Mem Sm Tk Rt
structure Tr where
 x : Sp
 L : List Tk.Tk
 S : List Mk
noncomputable def okT (p q : Tr) : Bool := pieceB p.x q.x p.L.length q.L.length p.S.length q.S.length
def joinT (p q : Tr) : Tr := ⟨wayN p.x q.x (weldK p.x q.x p.L.length), wayL p.L q.L (weldK p.x q.x p.L.length), []⟩
noncomputable def wstep (acc : List Tr) (q : Tr) : List Tr :=
 match acc.getLast? with
 | some p => if okT p q = true then acc.dropLast ++ [joinT p q] else acc ++ [q]
 | none => [q]
theorem wstep_nil (q : Tr) : wstep [] q = [q] := rfl
theorem wstep_yes {acc : List Tr} {p q : Tr} (h : okT p q = true) : wstep (acc ++ [p]) q = acc ++ [joinT p q] := by
 unfold wstep; simp [h]
theorem wstep_no {acc : List Tr} {p q : Tr} (h : okT p q = false) : wstep (acc ++ [p]) q = acc ++ [p] ++ [q] := by
 unfold wstep; simp [h]
noncomputable def foldW (l : List Tr) : List Tr := l.foldl wstep []
theorem foldW_snoc (l : List Tr) (q : Tr) : foldW (l ++ [q]) = wstep (foldW l) q := by unfold foldW; rw [List.foldl_append]; rfl
theorem joinT_len {p q : Tr} (h : okT p q = true) : (joinT p q).L.length ≤ 20000 ∧ (joinT p q).S.length = 0 := by
 unfold okT pieceB at h
 simp only [Bool.and_eq_true, decide_eq_true_eq] at h
 obtain ⟨_, _, hl, _⟩ := h
 refine ⟨?_, rfl⟩
 unfold joinT wayL
 simp only
 split
 ·rw [List.length_append]; exact hl
 ·split
  ·rw [List.length_append]; omega
  ·simp
theorem joinT_shape {p q : Tr} (h : okT p q = true) : shapeB (joinT p q).x (joinT p q).L.length 0 = true := by
 have he := weld_eq p.x q.x p.L q.L p.L.length q.L.length p.S.length q.S.length rfl rfl
 unfold okT at h
 have hw := he.1.trans h
 have hk := he.2 h
 unfold weldB at hw
 simp only [Bool.and_eq_true] at hw
 unfold joinT
 simp only [hk]
 exact hw.2.2.2
def smallT (t : Tr) : Prop := t.L.length ≤ 20000 ∧ t.S.length ≤ 20000
theorem foldW_small {l : List Tr} (h : ∀ t ∈ l, smallT t) : ∀ t ∈ foldW l, smallT t := by
 have key : ∀ (l acc : List Tr), (∀ t ∈ l, smallT t) → (∀ t ∈ acc, smallT t) → ∀ t ∈ l.foldl wstep acc, smallT t := by
  intro l
  induction l with
  | nil => intro acc _ ha t ht; exact ha t ht
  | cons q l ih =>
   intro acc hl ha
   refine ih _ (fun t ht => hl t (by simp [ht])) ?_
   rcases List.eq_nil_or_concat acc with rfl | ⟨a, p, rfl⟩
   ·intro t ht; rw [wstep_nil] at ht; simp at ht; rw [ht]; exact hl q (by simp)
   ·simp only [List.concat_eq_append] at ha ⊢
    cases ho : okT p q with
    | true =>
     rw [wstep_yes ho]
     intro t ht
     rcases List.mem_append.1 ht with h1 | h1
     ·exact ha t (by simp [h1])
     ·simp at h1; rw [h1]; have := joinT_len ho; exact ⟨this.1, by omega⟩
    | false =>
     rw [wstep_no ho]
     intro t ht
     rcases List.mem_append.1 ht with h1 | h1
     ·exact ha t h1
     ·simp at h1; rw [h1]; exact hl q (by simp)
 exact key l [] h (fun t ht => by simp at ht)
theorem foldW_len (l : List Tr) : (foldW l).length ≤ l.length := by
 have key : ∀ (l acc : List Tr), (l.foldl wstep acc).length ≤ acc.length + l.length := by
  intro l
  induction l with
  | nil => intro acc; simp
  | cons q l ih =>
   intro acc
   refine Nat.le_trans (ih _) ?_
   have : (wstep acc q).length ≤ acc.length + 1 := by
    rcases List.eq_nil_or_concat acc with rfl | ⟨a, p, rfl⟩
    ·rw [wstep_nil]; simp
    ·simp only [List.concat_eq_append]
     cases ho : okT p q with
     | true => rw [wstep_yes ho]; simp
     | false => rw [wstep_no ho]; simp
   simp only [List.length_cons]; omega
 simpa [foldW] using key l []
end Go.Proofs.Ytlbkfenlbkibgaa.St
