/- Welding: the small functions. -/
import Derived.Test.YtlbkfenlbkibgaaStR
import Derived.Lib.MinMax
set_option linter.unusedVariables false
set_option maxRecDepth 100000
set_option maxHeartbeats 2000000
namespace Go.Proofs.Ytlbkfenlbkibgaa.St
open Go.RowKit Mem Sm Tk Rt
set_option linter.unusedSimpArgs false
theorem splices_any (x y : Sp) (A A' B B' : Option Addr) (n n' m m' c c' d d' : Nat) (w : World) :
  Calls Try.prog 110 #[stV x (.slice A n c) (.slice B m d), stV y (.slice A' n' c') (.slice B' m' d')] w fun e w' => e = .returned (.bool (decide (x.kind = 1) && decide (y.kind = 1))) ∧ Below w.heap.size w w' := by
 obtain ⟨xk, xf, xt, xg, xh, xi, xm, xv⟩ := x
 obtain ⟨vk, vf, vt, vg, vh, vi, vm, vv⟩ := y
 unfold stV stC
 simp only
 have hb0 := ((Below.refl _ w).alloc (Nat.le_refl _) (.cells #[.int .i64 xk, .int .i64 xf, .int .i64 xt, .int .i64 xg, .int .i64 xh, .int .i64 xi, .int .i64 xm, .int .i64 xv, .slice A n c, .slice B m d] 25)).alloc (by simp) (.cells #[.int .i64 vk, .int .i64 vf, .int .i64 vt, .int .i64 vg, .int .i64 vh, .int .i64 vi, .int .i64 vm, .int .i64 vv, .slice A' n' c', .slice B' m' d'] 25)
 have hx : ((w.alloc (.cells #[.int .i64 xk, .int .i64 xf, .int .i64 xt, .int .i64 xg, .int .i64 xh, .int .i64 xi, .int .i64 xm, .int .i64 xv, .slice A n c, .slice B m d] 25)).alloc (.cells #[.int .i64 vk, .int .i64 vf, .int .i64 vt, .int .i64 vg, .int .i64 vh, .int .i64 vi, .int .i64 vm, .int .i64 vv, .slice A' n' c', .slice B' m' d'] 25)).heap[w.heap.size]? = some (.cells #[.int .i64 xk, .int .i64 xf, .int .i64 xt, .int .i64 xg, .int .i64 xh, .int .i64 xi, .int .i64 xm, .int .i64 xv, .slice A n c, .slice B m d] 25) := by rw [Below.heap_alloc _ _ _ (by simp), heap_alloc_new]
 have hy := heap_alloc_new (w.alloc (.cells #[.int .i64 xk, .int .i64 xf, .int .i64 xt, .int .i64 xg, .int .i64 xh, .int .i64 xi, .int .i64 xm, .int .i64 xv, .slice A n c, .slice B m d] 25)) (.cells #[.int .i64 vk, .int .i64 vf, .int .i64 vt, .int .i64 vg, .int .i64 vh, .int .i64 vi, .int .i64 vm, .int .i64 vv, .slice A' n' c', .slice B' m' d'] 25)
 rw [show (w.alloc (.cells #[.int .i64 xk, .int .i64 xf, .int .i64 xt, .int .i64 xg, .int .i64 xh, .int .i64 xi, .int .i64 xm, .int .i64 xv, .slice A n c, .slice B m d] 25)).heap.size = w.heap.size + 1 by simp] at hy
 have HB := Lib.hid hb0
 obtain ⟨⟨y0, y1, y2, y3, y4⟩, y5, y6, y7, y8, y9⟩ := tenc hx
 obtain ⟨⟨o0, o1, o2, o3, o4⟩, o5, o6, o7, o8, o9⟩ := tenc hy
 clear hb0 hx hy
 by_cases k1 : xk = 1
 ·subst k1
  by_cases k2 : vk = 1
  ·subst k2
   go_enter Try.func110, Try.ntmps110
   go_wp2
   go_ret
   exact ⟨ret_bool (by simp), HB.out⟩
  ·skip
   go_enter Try.func110, Try.ntmps110
   go_wp2
   go_ret
   exact ⟨ret_bool (by simp [k2]), HB.out⟩
 ·skip
  go_enter Try.func110, Try.ntmps110
  go_wp2
  go_ret
  exact ⟨ret_bool (by simp [k1]), HB.out⟩
theorem end_any (x y : Sp) (A A' B B' : Option Addr) (n n' m m' c c' d d' : Nat) (w : World) :
  Calls Try.prog 111 #[stV x (.slice A n c) (.slice B m d), stV y (.slice A' n' c') (.slice B' m' d')] w fun e w' => e = .returned (.int .i64 (wrap64 (wrap64 (x.to_ + y.to_) - y.from_))) ∧ Below w.heap.size w w' := by
 obtain ⟨xk, xf, xt, xg, xh, xi, xm, xv⟩ := x
 obtain ⟨vk, vf, vt, vg, vh, vi, vm, vv⟩ := y
 unfold stV stC
 simp only
 have hb0 := ((Below.refl _ w).alloc (Nat.le_refl _) (.cells #[.int .i64 xk, .int .i64 xf, .int .i64 xt, .int .i64 xg, .int .i64 xh, .int .i64 xi, .int .i64 xm, .int .i64 xv, .slice A n c, .slice B m d] 25)).alloc (by simp) (.cells #[.int .i64 vk, .int .i64 vf, .int .i64 vt, .int .i64 vg, .int .i64 vh, .int .i64 vi, .int .i64 vm, .int .i64 vv, .slice A' n' c', .slice B' m' d'] 25)
 have hx : ((w.alloc (.cells #[.int .i64 xk, .int .i64 xf, .int .i64 xt, .int .i64 xg, .int .i64 xh, .int .i64 xi, .int .i64 xm, .int .i64 xv, .slice A n c, .slice B m d] 25)).alloc (.cells #[.int .i64 vk, .int .i64 vf, .int .i64 vt, .int .i64 vg, .int .i64 vh, .int .i64 vi, .int .i64 vm, .int .i64 vv, .slice A' n' c', .slice B' m' d'] 25)).heap[w.heap.size]? = some (.cells #[.int .i64 xk, .int .i64 xf, .int .i64 xt, .int .i64 xg, .int .i64 xh, .int .i64 xi, .int .i64 xm, .int .i64 xv, .slice A n c, .slice B m d] 25) := by rw [Below.heap_alloc _ _ _ (by simp), heap_alloc_new]
 have hy := heap_alloc_new (w.alloc (.cells #[.int .i64 xk, .int .i64 xf, .int .i64 xt, .int .i64 xg, .int .i64 xh, .int .i64 xi, .int .i64 xm, .int .i64 xv, .slice A n c, .slice B m d] 25)) (.cells #[.int .i64 vk, .int .i64 vf, .int .i64 vt, .int .i64 vg, .int .i64 vh, .int .i64 vi, .int .i64 vm, .int .i64 vv, .slice A' n' c', .slice B' m' d'] 25)
 rw [show (w.alloc (.cells #[.int .i64 xk, .int .i64 xf, .int .i64 xt, .int .i64 xg, .int .i64 xh, .int .i64 xi, .int .i64 xm, .int .i64 xv, .slice A n c, .slice B m d] 25)).heap.size = w.heap.size + 1 by simp] at hy
 have HB := Lib.hid hb0
 obtain ⟨⟨y0, y1, y2, y3, y4⟩, y5, y6, y7, y8, y9⟩ := tenc hx
 obtain ⟨⟨o0, o1, o2, o3, o4⟩, o5, o6, o7, o8, o9⟩ := tenc hy
 clear hb0 hx hy
 go_enter Try.func111, Try.ntmps111
 go_wp2
 go_ret
 exact ⟨rfl, HB.out⟩
def inB (x : Sp) (n : Nat) : Prop := 0 ≤ x.from_ ∧ x.from_ ≤ x.to_ ∧ x.to_ ≤ 1073741824 ∧ n ≤ 20000
def goesB (x y : Sp) (n : Nat) : Bool := (decide (x.kind = 1) && decide (y.kind = 1)) && (decide (y.from_ = x.from_ + n) && decide (x.to_ + y.to_ - y.from_ ≤ 1073741824))
theorem goesOn_any (x y : Sp) (A A' B B' : Option Addr) (n n' m m' c c' d d' : Nat) (w : World) (hix : inB x n) (hiy : inB y n') :
  Calls Try.prog 95 #[stV x (.slice A n c) (.slice B m d), stV y (.slice A' n' c') (.slice B' m' d')] w fun e w' => e = .returned (.bool (goesB x y n)) ∧ Below w.heap.size w w' := by
 have CS := fun W => splices_any x y A A' B B' n n' m m' c c' d d' W
 have CE := fun W => end_any x y A A' B B' n n' m m' c c' d d' W
 unfold inB at hix hiy
 unfold goesB
 obtain ⟨K, hK⟩ : ∃ b, b = (decide (x.kind = 1) && decide (y.kind = 1)) := ⟨_, rfl⟩
 rw [← hK] at CS ⊢
 clear hK
 obtain ⟨xk, xf, xt, xg, xh, xi, xm, xv⟩ := x
 obtain ⟨vk, vf, vt, vg, vh, vi, vm, vv⟩ := y
 unfold stV stC at CS CE
 unfold stV stC
 simp only at CS CE hix hiy ⊢
 have hb0 := ((Below.refl _ w).alloc (Nat.le_refl _) (.cells #[.int .i64 xk, .int .i64 xf, .int .i64 xt, .int .i64 xg, .int .i64 xh, .int .i64 xi, .int .i64 xm, .int .i64 xv, .slice A n c, .slice B m d] 25)).alloc (by simp) (.cells #[.int .i64 vk, .int .i64 vf, .int .i64 vt, .int .i64 vg, .int .i64 vh, .int .i64 vi, .int .i64 vm, .int .i64 vv, .slice A' n' c', .slice B' m' d'] 25)
 have hx : ((w.alloc (.cells #[.int .i64 xk, .int .i64 xf, .int .i64 xt, .int .i64 xg, .int .i64 xh, .int .i64 xi, .int .i64 xm, .int .i64 xv, .slice A n c, .slice B m d] 25)).alloc (.cells #[.int .i64 vk, .int .i64 vf, .int .i64 vt, .int .i64 vg, .int .i64 vh, .int .i64 vi, .int .i64 vm, .int .i64 vv, .slice A' n' c', .slice B' m' d'] 25)).heap[w.heap.size]? = some (.cells #[.int .i64 xk, .int .i64 xf, .int .i64 xt, .int .i64 xg, .int .i64 xh, .int .i64 xi, .int .i64 xm, .int .i64 xv, .slice A n c, .slice B m d] 25) := by rw [Below.heap_alloc _ _ _ (by simp), heap_alloc_new]
 have hy := heap_alloc_new (w.alloc (.cells #[.int .i64 xk, .int .i64 xf, .int .i64 xt, .int .i64 xg, .int .i64 xh, .int .i64 xi, .int .i64 xm, .int .i64 xv, .slice A n c, .slice B m d] 25)) (.cells #[.int .i64 vk, .int .i64 vf, .int .i64 vt, .int .i64 vg, .int .i64 vh, .int .i64 vi, .int .i64 vm, .int .i64 vv, .slice A' n' c', .slice B' m' d'] 25)
 rw [show (w.alloc (.cells #[.int .i64 xk, .int .i64 xf, .int .i64 xt, .int .i64 xg, .int .i64 xh, .int .i64 xi, .int .i64 xm, .int .i64 xv, .slice A n c, .slice B m d] 25)).heap.size = w.heap.size + 1 by simp] at hy
 have HB := Lib.hid hb0
 obtain ⟨⟨y0, y1, y2, y3, y4⟩, y5, y6, y7, y8, y9⟩ := tenc hx
 obtain ⟨⟨o0, o1, o2, o3, o4⟩, o5, o6, o7, o8, o9⟩ := tenc hy
 have HX := Lib.hid hx
 have HY := Lib.hid hy
 clear hb0 hx hy
 have hw1 : wrap64 (xf + n) = xf + n := by unfold wrap64; omega
 have hw2 : wrap64 (wrap64 (xt + vt) - vf) = xt + vt - vf := by unfold wrap64; omega
 rw [hw2] at CE
 go_enter Try.func95, Try.ntmps95
 go_wp2_with fail
 refine (CS _).mono ?_
 rintro e w1 ⟨rfl, hb1⟩
 have HB1 := Lib.hid (HB.out.trans (hb1.mono HB.out.size))
 have HX1 := Lib.hid (hkeep hb1 HX.out)
 have HY1 := Lib.hid (hkeep hb1 HY.out)
 clear hb1 HB HX HY CS y0 y1 y2 y3 y4 y5 y6 y7 y8 y9 o0 o1 o2 o3 o4 o5 o6 o7 o8 o9
 obtain ⟨⟨y0, y1, y2, y3, y4⟩, y5, y6, y7, y8, y9⟩ := tenc HX1.out
 obtain ⟨⟨o0, o1, o2, o3, o4⟩, o5, o6, o7, o8, o9⟩ := tenc HY1.out
 cases K with
 | false =>
  go_wp2
  go_ret
  exact ⟨ret_bool (by simp), HB1.out⟩
 | true =>
  by_cases e1 : vf = xf + n
  ·subst e1
   go_wp2_with fail
   refine (CE _).mono ?_
   rintro e w2 ⟨rfl, hb2⟩
   have HB2 := Lib.hid (HB1.out.trans (hb2.mono HB1.out.size))
   clear hb2 HB1 HX1 HY1 CE y0 y1 y2 y3 y4 y5 y6 y7 y8 y9 o0 o1 o2 o3 o4 o5 o6 o7 o8 o9
   go_wp2
   go_ret
   exact ⟨ret_bool (by simp), HB2.out⟩
  ·go_wp2
   go_ret
   exact ⟨ret_bool (by simp [e1]), HB1.out⟩
def leadsB (x y : Sp) : Bool := (decide (x.kind = 1) && decide (y.kind = 1)) && decide (y.to_ = x.from_)
theorem leadsTo_any (x y : Sp) (A A' B B' : Option Addr) (n n' m m' c c' d d' : Nat) (w : World) :
  Calls Try.prog 97 #[stV x (.slice A n c) (.slice B m d), stV y (.slice A' n' c') (.slice B' m' d')] w fun e w' => e = .returned (.bool (leadsB x y)) ∧ Below w.heap.size w w' := by
 have CS := fun W => splices_any x y A A' B B' n n' m m' c c' d d' W
 unfold leadsB
 obtain ⟨K, hK⟩ : ∃ b, b = (decide (x.kind = 1) && decide (y.kind = 1)) := ⟨_, rfl⟩
 rw [← hK] at CS ⊢
 clear hK
 obtain ⟨xk, xf, xt, xg, xh, xi, xm, xv⟩ := x
 obtain ⟨vk, vf, vt, vg, vh, vi, vm, vv⟩ := y
 unfold stV stC at CS
 unfold stV stC
 simp only at CS ⊢
 have hb0 := ((Below.refl _ w).alloc (Nat.le_refl _) (.cells #[.int .i64 xk, .int .i64 xf, .int .i64 xt, .int .i64 xg, .int .i64 xh, .int .i64 xi, .int .i64 xm, .int .i64 xv, .slice A n c, .slice B m d] 25)).alloc (by simp) (.cells #[.int .i64 vk, .int .i64 vf, .int .i64 vt, .int .i64 vg, .int .i64 vh, .int .i64 vi, .int .i64 vm, .int .i64 vv, .slice A' n' c', .slice B' m' d'] 25)
 have hx : ((w.alloc (.cells #[.int .i64 xk, .int .i64 xf, .int .i64 xt, .int .i64 xg, .int .i64 xh, .int .i64 xi, .int .i64 xm, .int .i64 xv, .slice A n c, .slice B m d] 25)).alloc (.cells #[.int .i64 vk, .int .i64 vf, .int .i64 vt, .int .i64 vg, .int .i64 vh, .int .i64 vi, .int .i64 vm, .int .i64 vv, .slice A' n' c', .slice B' m' d'] 25)).heap[w.heap.size]? = some (.cells #[.int .i64 xk, .int .i64 xf, .int .i64 xt, .int .i64 xg, .int .i64 xh, .int .i64 xi, .int .i64 xm, .int .i64 xv, .slice A n c, .slice B m d] 25) := by rw [Below.heap_alloc _ _ _ (by simp), heap_alloc_new]
 have hy := heap_alloc_new (w.alloc (.cells #[.int .i64 xk, .int .i64 xf, .int .i64 xt, .int .i64 xg, .int .i64 xh, .int .i64 xi, .int .i64 xm, .int .i64 xv, .slice A n c, .slice B m d] 25)) (.cells #[.int .i64 vk, .int .i64 vf, .int .i64 vt, .int .i64 vg, .int .i64 vh, .int .i64 vi, .int .i64 vm, .int .i64 vv, .slice A' n' c', .slice B' m' d'] 25)
 rw [show (w.alloc (.cells #[.int .i64 xk, .int .i64 xf, .int .i64 xt, .int .i64 xg, .int .i64 xh, .int .i64 xi, .int .i64 xm, .int .i64 xv, .slice A n c, .slice B m d] 25)).heap.size = w.heap.size + 1 by simp] at hy
 have HB := Lib.hid hb0
 obtain ⟨⟨y0, y1, y2, y3, y4⟩, y5, y6, y7, y8, y9⟩ := tenc hx
 obtain ⟨⟨o0, o1, o2, o3, o4⟩, o5, o6, o7, o8, o9⟩ := tenc hy
 have HX := Lib.hid hx
 have HY := Lib.hid hy
 clear hb0 hx hy
 go_enter Try.func97, Try.ntmps97
 go_wp2_with fail
 refine (CS _).mono ?_
 rintro e w1 ⟨rfl, hb1⟩
 have HB1 := Lib.hid (HB.out.trans (hb1.mono HB.out.size))
 have HX1 := Lib.hid (hkeep hb1 HX.out)
 have HY1 := Lib.hid (hkeep hb1 HY.out)
 clear hb1 HB HX HY CS y0 y1 y2 y3 y4 y5 y6 y7 y8 y9 o0 o1 o2 o3 o4 o5 o6 o7 o8 o9
 obtain ⟨⟨y0, y1, y2, y3, y4⟩, y5, y6, y7, y8, y9⟩ := tenc HX1.out
 obtain ⟨⟨o0, o1, o2, o3, o4⟩, o5, o6, o7, o8, o9⟩ := tenc HY1.out
 cases K with
 | false =>
  go_wp2
  go_ret
  exact ⟨ret_bool (by simp), HB1.out⟩
 | true =>
  go_wp2
  go_ret
  exact ⟨ret_bool (by simp; rfl), HB1.out⟩
def marksB (x y : Sp) : Bool := (decide (x.kind = 3) || decide (x.kind = 4)) && (decide (x.kind = y.kind) && (decide (x.mark = y.mark) && (decide (x.val = y.val) && (decide (x.from_ ≤ y.to_) && decide (y.from_ ≤ x.to_)))))
theorem marksOn_any (x y : Sp) (A A' B B' : Option Addr) (n n' m m' c c' d d' : Nat) (w : World) :
  Calls Try.prog 99 #[stV x (.slice A n c) (.slice B m d), stV y (.slice A' n' c') (.slice B' m' d')] w fun e w' => e = .returned (.bool (marksB x y)) ∧ Below w.heap.size w w' := by
 unfold marksB
 obtain ⟨xk, xf, xt, xg, xh, xi, xm, xv⟩ := x
 obtain ⟨vk, vf, vt, vg, vh, vi, vm, vv⟩ := y
 unfold stV stC
 simp only
 have hb0 := ((Below.refl _ w).alloc (Nat.le_refl _) (.cells #[.int .i64 xk, .int .i64 xf, .int .i64 xt, .int .i64 xg, .int .i64 xh, .int .i64 xi, .int .i64 xm, .int .i64 xv, .slice A n c, .slice B m d] 25)).alloc (by simp) (.cells #[.int .i64 vk, .int .i64 vf, .int .i64 vt, .int .i64 vg, .int .i64 vh, .int .i64 vi, .int .i64 vm, .int .i64 vv, .slice A' n' c', .slice B' m' d'] 25)
 have hx : ((w.alloc (.cells #[.int .i64 xk, .int .i64 xf, .int .i64 xt, .int .i64 xg, .int .i64 xh, .int .i64 xi, .int .i64 xm, .int .i64 xv, .slice A n c, .slice B m d] 25)).alloc (.cells #[.int .i64 vk, .int .i64 vf, .int .i64 vt, .int .i64 vg, .int .i64 vh, .int .i64 vi, .int .i64 vm, .int .i64 vv, .slice A' n' c', .slice B' m' d'] 25)).heap[w.heap.size]? = some (.cells #[.int .i64 xk, .int .i64 xf, .int .i64 xt, .int .i64 xg, .int .i64 xh, .int .i64 xi, .int .i64 xm, .int .i64 xv, .slice A n c, .slice B m d] 25) := by rw [Below.heap_alloc _ _ _ (by simp), heap_alloc_new]
 have hy := heap_alloc_new (w.alloc (.cells #[.int .i64 xk, .int .i64 xf, .int .i64 xt, .int .i64 xg, .int .i64 xh, .int .i64 xi, .int .i64 xm, .int .i64 xv, .slice A n c, .slice B m d] 25)) (.cells #[.int .i64 vk, .int .i64 vf, .int .i64 vt, .int .i64 vg, .int .i64 vh, .int .i64 vi, .int .i64 vm, .int .i64 vv, .slice A' n' c', .slice B' m' d'] 25)
 rw [show (w.alloc (.cells #[.int .i64 xk, .int .i64 xf, .int .i64 xt, .int .i64 xg, .int .i64 xh, .int .i64 xi, .int .i64 xm, .int .i64 xv, .slice A n c, .slice B m d] 25)).heap.size = w.heap.size + 1 by simp] at hy
 have HB := Lib.hid hb0
 obtain ⟨⟨y0, y1, y2, y3, y4⟩, y5, y6, y7, y8, y9⟩ := tenc hx
 obtain ⟨⟨o0, o1, o2, o3, o4⟩, o5, o6, o7, o8, o9⟩ := tenc hy
 clear hb0 hx hy
 by_cases k34 : xk = 3 ∨ xk = 4
 ·by_cases e0 : xk = vk
  ·by_cases e1 : xm = vm
   ·by_cases e2 : xv = vv
    ·by_cases e3 : xf ≤ vt
     ·by_cases e4 : vf ≤ xt
      ·subst e0 e1 e2
       rcases k34 with rfl | rfl
       ·skip
        go_enter Try.func99, Try.ntmps99
        go_wp2
        go_ret
        exact ⟨ret_bool (by first | (simp [*]; done) | (simp [*]; omega)), HB.out⟩
       ·skip
        go_enter Try.func99, Try.ntmps99
        go_wp2
        go_ret
        exact ⟨ret_bool (by first | (simp [*]; done) | (simp [*]; omega)), HB.out⟩
      ·subst e0 e1 e2
       rcases k34 with rfl | rfl
       ·skip
        go_enter Try.func99, Try.ntmps99
        go_wp2
        go_ret
        exact ⟨ret_bool (by first | (simp [*]; done) | (simp [*]; omega)), HB.out⟩
       ·skip
        go_enter Try.func99, Try.ntmps99
        go_wp2
        go_ret
        exact ⟨ret_bool (by first | (simp [*]; done) | (simp [*]; omega)), HB.out⟩
     ·subst e0 e1 e2
      rcases k34 with rfl | rfl
      ·skip
       go_enter Try.func99, Try.ntmps99
       go_wp2
       go_ret
       exact ⟨ret_bool (by first | (simp [*]; done) | (simp [*]; omega)), HB.out⟩
      ·skip
       go_enter Try.func99, Try.ntmps99
       go_wp2
       go_ret
       exact ⟨ret_bool (by first | (simp [*]; done) | (simp [*]; omega)), HB.out⟩
    ·subst e0 e1
     rcases k34 with rfl | rfl
     ·skip
      go_enter Try.func99, Try.ntmps99
      go_wp2
      go_ret
      exact ⟨ret_bool (by first | (simp [*]; done) | (simp [*]; omega)), HB.out⟩
     ·skip
      go_enter Try.func99, Try.ntmps99
      go_wp2
      go_ret
      exact ⟨ret_bool (by first | (simp [*]; done) | (simp [*]; omega)), HB.out⟩
   ·subst e0
    rcases k34 with rfl | rfl
    ·skip
     go_enter Try.func99, Try.ntmps99
     go_wp2
     go_ret
     exact ⟨ret_bool (by first | (simp [*]; done) | (simp [*]; omega)), HB.out⟩
    ·skip
     go_enter Try.func99, Try.ntmps99
     go_wp2
     go_ret
     exact ⟨ret_bool (by first | (simp [*]; done) | (simp [*]; omega)), HB.out⟩
  ·rcases k34 with rfl | rfl
   ·skip
    go_enter Try.func99, Try.ntmps99
    go_wp2
    go_ret
    exact ⟨ret_bool (by first | (simp [*]; done) | (simp [*]; omega)), HB.out⟩
   ·skip
    go_enter Try.func99, Try.ntmps99
    go_wp2
    go_ret
    exact ⟨ret_bool (by first | (simp [*]; done) | (simp [*]; omega)), HB.out⟩
 ·have k3 : ¬ xk = 3 := fun h => k34 (.inl h)
  have k4 : ¬ xk = 4 := fun h => k34 (.inr h)
  go_enter Try.func99, Try.ntmps99
  go_wp2
  go_ret
  exact ⟨ret_bool (by simp [k3, k4]), HB.out⟩
end Go.Proofs.Ytlbkfenlbkibgaa.St
