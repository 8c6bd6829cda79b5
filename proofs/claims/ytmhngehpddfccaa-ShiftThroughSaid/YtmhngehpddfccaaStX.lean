/- Steps: results, alike; what goes through no maps. -/
import Derived.Test.YtmhngehpddfccaaStW
namespace Go.Proofs.Ytmhngehpddfccaa.St
open Go.RowKit Mem Sm Tk Rt
set_option linter.unusedVariables false
set_option linter.unusedSimpArgs false
def zeroSp : Sp := ⟨0, 0, 0, 0, 0, 0, 0, 0⟩
def pickY (b : Bool) (y : Sp) : Sp := if b = true then y else zeroSp
def pickL {α : Type} (b : Bool) (l : List α) : List α := if b = true then l else []
/-- a step, and whether it goes on -/
def Res (b : Bool) (Y : Sp) (L : List Tk.Tk) (S : List Mk) (e : Ending) (W : World) : Prop :=
  ∃ As cs At ct, e = .returned (.tuple #[stV Y (.slice As L.length cs) (.slice At S.length ct), .bool b]) ∧ TRow W As L.length L ∧ MkRow W At S.length S
theorem res_zero (W : World) : Res false zeroSp [] [] (.returned (.tuple #[zeroV, .bool false])) W := ⟨none, 0, none, 0, rfl, TRow.nil, MkRow.nil⟩
theorem res_own {base : Nat} {Y : Sp} {L : List Tk.Tk} {S : List Mk} {s t : Value} {W : World} (hs : Tks base W s L) (ht : Mks base W t S) : Res true Y L S (.returned (.tuple #[stV Y s t, .bool true])) W := by
  obtain ⟨As, cs, rfl, _, h1⟩ := hs.row
  obtain ⟨At, ct, rfl, _, h2⟩ := ht.row
  exact ⟨As, cs, At, ct, rfl, h1, h2⟩
theorem res_of {b : Bool} {base : Nat} {Y : Sp} {L : List Tk.Tk} {S : List Mk} {e : Ending} {W : World} (h : (b = true ∧ ∃ s t, e = .returned (.tuple #[stV Y s t, .bool true]) ∧ Tks base W s L ∧ Mks base W t S) ∨ (b = false ∧ e = .returned (.tuple #[zeroV, .bool false]))) :
    Res b (pickY b Y) (pickL b L) (pickL b S) e W := by
  rcases h with ⟨rfl, s, t, rfl, hs, ht⟩ | ⟨rfl, rfl⟩
  · exact res_own hs ht
  · exact res_zero W
theorem res_ref {b : Bool} {Y : Sp} {L : List Tk.Tk} {S : List Mk} {A B : Option Addr} {n m c d : Nat} {e : Ending} {W : World} (h1 : TRow W A n L) (h2 : MkRow W B m S) (h : (b = true ∧ e = .returned (.tuple #[stV Y (.slice A n c) (.slice B m d), .bool true])) ∨ (b = false ∧ e = .returned (.tuple #[zeroV, .bool false]))) :
    Res b (pickY b Y) (pickL b L) (pickL b S) e W := by
  have e1 := h1.1
  have e2 := h2.1
  subst e1 e2
  rcases h with ⟨rfl, rfl⟩ | ⟨rfl, rfl⟩
  · exact ⟨A, c, B, d, rfl, h1, h2⟩
  · exact res_zero W
theorem over_res (l : List Rg) (D : Option Addr) (k cd : Nat) (x : Sp) (L : List Tk.Tk) (S : List Mk) (A B : Option Addr) (n m c d : Nat) (w : World) (hn : n ≤ 1000000) (hm : m ≤ 1000000) (h1 : TRow w A n L) (h3 : MkRow w B m S) (hk : k ≤ 100) (h5 : RRow w D k l) :
    Calls Try.prog 18 #[stV x (.slice A n c) (.slice B m d), .slice D k cd] w fun e w' => Res (overB l x n m) (pickY (overB l x n m) (goneN (goT [l] []) x)) (pickL (overB l x n m) L) (pickL (overB l x n m) S) e w' ∧ Below w.heap.size w w' :=
  (over_any l D k cd x L S A B n m c d w hn hm h1 h3 hk h5).mono fun e w' h => ⟨res_of h.1, h.2⟩
theorem rover_res (l : List Rg) (D : Option Addr) (k cd : Nat) (x : Sp) (L : List Tk.Tk) (S : List Mk) (A B : Option Addr) (n m c d : Nat) (w : World) (hn : n ≤ 1000000) (hm : m ≤ 1000000) (h1 : TRow w A n L) (h3 : MkRow w B m S) (hk : k ≤ 100) (h5 : RRow w D k l) :
    Calls Try.prog 19 #[stV x (.slice A n c) (.slice B m d), .slice D k cd] w fun e w' => Res (overB l x n m) (pickY (overB l x n m) (goneN (goT [l] []) x)) (pickL (overB l x n m) L) (pickL (overB l x n m) S) e w' ∧ Below w.heap.size w w' :=
  (rover_any l D k cd x A B n m c d w hn hm hk h5).mono fun e w' h => ⟨res_ref (h1.below h.2) (h3.below h.2) h.1, h.2⟩
theorem past_res (x y : Sp) (L K' : List Tk.Tk) (S T' : List Mk) (A A' B B' : Option Addr) (n n' m m' c c' d d' : Nat) (w : World) (hn : n ≤ 1000000) (hn' : n' ≤ 1000000) (hm : m ≤ 1000000) (hm' : m' ≤ 1000000)
    (h1 : TRow w A n L) (h2 : TRow w A' n' K') (h3 : MkRow w B m S) (h4 : MkRow w B' m' T') :
    Calls Try.prog 20 #[stV x (.slice A n c) (.slice B m d), stV y (.slice A' n' c') (.slice B' m' d')] w fun e w' => Res (pastB y x n' n m m') (pickY (pastB y x n' n m m') (goneN (goT [mapS y n'] []) x)) (pickL (pastB y x n' n m m') L) (pickL (pastB y x n' n m m') S) e w' ∧ Below w.heap.size w w' :=
  (past_any x y L K' S T' A A' B B' n n' m m' c c' d d' w hn hn' hm hm' h1 h2 h3 h4).mono fun e w' h => ⟨res_of h.1, h.2⟩
theorem through_res {pv : Value} {R : World → Prop} {T : Int → Int → Option Rt.St} (HT : Tells pv R T) (x : Sp) (L : List Tk.Tk) (S : List Mk) (A B : Option Addr) (n m c d : Nat) (w : World) (hR : R w) (hn : n ≤ 1000000) (hm : m ≤ 1000000) (h1 : TRow w A n L) (h3 : MkRow w B m S) :
    Calls Try.prog 6 #[stV x (.slice A n c) (.slice B m d), pv] w fun e w' => Res (shiftB T x n m) (pickY (shiftB T x n m) (goneN T x)) (pickL (shiftB T x n m) L) (pickL (shiftB T x n m) S) e w' ∧ Below w.heap.size w w' :=
  (through_any HT x L S A B n m c d w hR (by omega) (by omega) h1 h3).mono fun e w' h => ⟨res_of h.1, h.2⟩
/-- a result's block -/
structure RC (p : Nat) (Y : Sp) (As At : Option Addr) (cs ct : Nat) (L : List Tk.Tk) (S : List Mk) (W : World) : Prop where
  h : W.heap[p]? = some (.cells (stC Y (.slice As L.length cs) (.slice At S.length ct)) 25 (0, 0))
  l : TRow W As L.length L
  s : MkRow W At S.length S
theorem RC.step {p : Nat} {Y : Sp} {As At : Option Addr} {cs ct : Nat} {L : List Tk.Tk} {S : List Mk} {W W' : World} (h : RC p Y As At cs ct L S W) (hb : Below W.heap.size W W') : RC p Y As At cs ct L S W' :=
  ⟨hkeep hb h.h, h.l.below hb, h.s.below hb⟩
theorem RC.new {Y : Sp} {As At : Option Addr} {cs ct : Nat} {L : List Tk.Tk} {S : List Mk} {W : World} (h1 : TRow W As L.length L) (h2 : MkRow W At S.length S) :
    RC W.heap.size Y As At cs ct L S (W.alloc (.cells (stC Y (.slice As L.length cs) (.slice At S.length ct)) 25)) := by
  have hb : Below W.heap.size W (W.alloc (.cells (stC Y (.slice As L.length cs) (.slice At S.length ct)) 25)) := (Below.refl _ _).alloc (Nat.le_refl _) _
  exact ⟨heap_alloc_new W _, h1.below hb, h2.below hb⟩
theorem sameS_refl (Y : Sp) (L : List Tk.Tk) (S : List Mk) : sameS Y Y L L S S = true := by unfold sameS; simp
theorem goT_none (pos side : Int) : goT [] [] pos side = some ⟨pos, false, false⟩ := goR_no (by simp) _
def lostB (x : Sp) (n m : Nat) : Prop := shapeB x n m = false ∨ ((x.kind = 3 ∨ x.kind = 4) ∧ x.from_ = x.to_)
theorem keeps_none {x : Sp} {fr : Int} (hf : 0 ≤ x.from_ ∧ x.from_ ≤ x.to_ ∧ x.to_ ≤ 1073741824) (he : fr = x.from_) : keepsB (goT [] []) x fr = true := keeps_yes (fun i hi => by
  unfold KP
  rw [goT_none]
  refine ⟨rfl, rfl, ?_⟩
  show x.from_ + (i : Int) = wrap64 (fr + i)
  rw [he]
  unfold wrap64; omega)
theorem none_same {x : Sp} {n m : Nat} (h : shapeB x n m = true) : goneN (goT [] []) x = x := by
  have hg := shape_of h
  obtain ⟨xk, xf, xt, xg, xh, xi, xm, xv⟩ := x
  have hb := hg.1
  unfold boundP at hb
  simp only at hb
  unfold goneN
  simp only [goT_none]
  show (if xk = 2 then (⟨xk, xf, max xt xf, xg, xh, xi, xm, xv⟩ : Sp) else if xk = 1 then ⟨xk, xf, max xt xf, xg, xh, xi, xm, xv⟩ else if xk = 5 then ⟨xk, xf, wrap64 (wrap64 (xf + xt) - xf), xg, xh, xi, xm, xv⟩ else ⟨xk, xf, xt, xg, xh, xi, xm, xv⟩) = _
  have h1 : max xt xf = xt := by omega
  have h2 : wrap64 (wrap64 (xf + xt) - xf) = xt := by unfold wrap64; omega
  rw [h1, h2]
  simp
theorem none_yes {x : Sp} {n m : Nat} (h : ¬ lostB x n m) : shiftB (goT [] []) x n m = true ∧ goneN (goT [] []) x = x := by
  have hs : shapeB x n m = true := by
    cases e : shapeB x n m
    · exact absurd (.inl e) h
    · rfl
  have hN := none_same hs
  refine ⟨?_, hN⟩
  unfold shiftB
  rw [hN, hs]
  have hg := shape_of hs
  have hb := hg.1
  unfold boundP at hb
  have hf := hg.2
  unfold formP at hf
  unfold goneB
  simp only [goT_none]
  show (true && ((true && true) && !(false && false) && (if x.kind = 2 then (true && true) && decide (x.gt ≤ x.to_) else if x.kind = 1 then true else if x.kind = 5 then keepsB (goT [] []) x x.from_ else decide (x.to_ > x.from_)) && true)) = true
  have hk := keeps_none (x := x) (fr := x.from_) ⟨hb.1, hb.2.1, hb.2.2.1⟩ rfl
  by_cases k2 : x.kind = 2
  · simp [k2]; omega
  · by_cases k1 : x.kind = 1
    · simp [k1]
    · by_cases k5 : x.kind = 5
      · simp [k5, hk]
      · have k34 : x.kind = 3 ∨ x.kind = 4 := by omega
        have hne : ¬ x.from_ = x.to_ := fun e => h (.inr ⟨k34, e⟩)
        simp [k1, k2, k5]; omega
theorem none_no {x : Sp} {n m : Nat} (h : lostB x n m) : shiftB (goT [] []) x n m = false := by
  rcases h with h | ⟨hk, he⟩
  · unfold shiftB; simp [h]
  · unfold shiftB goneB
    simp only [goT_none]
    have k1 : ¬ x.kind = 1 := by omega
    have k2 : ¬ x.kind = 2 := by omega
    have k5 : ¬ x.kind = 5 := by omega
    have : decide (x.to_ > x.from_) = false := decide_eq_false (by omega)
    simp [k1, k2, k5, endP]
    intro _ h2
    omega
end Go.Proofs.Ytmhngehpddfccaa.St
