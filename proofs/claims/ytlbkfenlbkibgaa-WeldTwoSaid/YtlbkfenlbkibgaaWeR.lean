/- Welding: the reference's Two. -/
import Derived.Test.YtlbkfenlbkibgaaWeA
import Derived.Test.YtlbkfenlbkibgaaStT
set_option linter.unusedVariables false
set_option maxRecDepth 100000
set_option maxHeartbeats 12000000
namespace Go.Proofs.Ytlbkfenlbkibgaa.St
open Go.RowKit Mem Sm Tk Rt
set_option linter.unusedSimpArgs false
def overN (x y : Sp) : Sp := ⟨x.kind, min x.from_ y.from_, max x.to_ y.to_, 0, 0, 0, x.mark, x.val⟩
def wayOf (x y : Sp) (n : Nat) : Nat :=
 if (x.kind = 1 ∧ y.kind = 1) ∧ x.from_ + n = y.from_ then 1
 else if (x.kind = 1 ∧ y.kind = 1) ∧ y.to_ = x.from_ then 2
 else if marksB x y = true then 3 else 0
def wayN (x y : Sp) (k : Nat) : Sp := if k = 1 then ⟨1, x.from_, x.to_ + y.to_ - y.from_, 0, 0, 0, 0, 0⟩ else if k = 2 then ⟨1, y.from_, x.to_, 0, 0, 0, 0, 0⟩ else overN x y
def wayL (L K : List Tk.Tk) (k : Nat) : List Tk.Tk := if k = 1 then L ++ K else if k = 2 then K ++ L else []
noncomputable def weldB (x y : Sp) (L K : List Tk.Tk) (n n' m m' : Nat) : Bool :=
 shapeB x n m && (shapeB y n' m' && (decide (wayOf x y n ≠ 0) && shapeB (wayN x y (wayOf x y n)) (wayL L K (wayOf x y n)).length 0))
def RTwoIs (x y : Sp) (L K : List Tk.Tk) (n n' m m' : Nat) (w : World) (e : Ending) (w' : World) : Prop :=
 ((weldB x y L K n n' m m' = true ∧ ∃ s, e = .returned (.tuple #[stV (wayN x y (wayOf x y n)) s (.slice none 0 0), .bool true]) ∧ Tks w.heap.size w' s (wayL L K (wayOf x y n))) ∨
  (weldB x y L K n n' m m' = false ∧ e = .returned (.tuple #[zeroV, .bool false]))) ∧ Below w.heap.size w w'
theorem way_kind {x y : Sp} {n : Nat} (h : x.kind ≠ y.kind) : wayOf x y n = 0 := by
 unfold wayOf marksB
 rw [if_neg (fun g => h (by rw [g.1.1, g.1.2])), if_neg (fun g => h (by rw [g.1.1, g.1.2])), if_neg (by simp [h])]
theorem grown_low {k : Nat} {w W W' : World} {row : Option Nat} (hb : Below k w W) (hk : k ≤ W.heap.size) (hg : W.grownBy W' row) (hr : ∀ g, row = some g → k ≤ g) : Below k w W' := by
 refine hb.trans ⟨hg.os, hg.tape, hg.output, hg.size, fun j hj => ?_⟩
 refine hg.block j (by omega) (fun e => ?_)
 have := hr j e.symm
 omega
theorem grown_at {W W' : World} {row : Option Nat} {j : Nat} {ob : Obj} (hg : W.grownBy W' row) (h : W.heap[j]? = some ob) (hr : row ≠ some j) : W'.heap[j]? = some ob := by
 rw [hg.block j (lt_some h) (fun e => hr e.symm)]; exact h
theorem TH.grown {n0 : Nat} {xo ro zo : Obj} {W W' : World} {row : Option Nat} (h : TH n0 xo ro zo W) (hg : W.grownBy W' row) (hr : ∀ g, row = some g → n0 + 3 < g) : TH n0 xo ro zo W' :=
 ⟨grown_at hg h.hx (fun e => by have := hr _ e; omega), grown_at hg h.hr (fun e => by have := hr _ e; omega), grown_at hg h.hz (fun e => by have := hr _ e; omega), grown_at hg h.ho (fun e => by have := hr _ e; omega)⟩
theorem ready_app_tk {w : World} {ops : Array Oper} {o : Oper} {a : Act} {K : Act → World → Prop} {Q : Exit → Act → World → Prop} (hgd : o.guard = none) (s x : Operand)
  (ho : o.op = .call { callee := .builtin .append, args := #[s, x], argTypes := #[22, 22] })
  (base : Nat) (v : Value) (l : List Tk.Tk) (hs : a.eval s = v) (hown : Tks base w v l)
  (A : Option Addr) (m c : Nat) (y : List Tk.Tk) (hx : a.eval x = .slice A m c) (hr : TRow w A m y) (hbig : l.length + m ≤ 1000000000) (hbase : base ≤ w.heap.size)
  (h : ∀ v' w', Tks base w' v' (l ++ y) → w.grownBy w' v.ownBlock → (v'.ownBlock = v.ownBlock ∨ v'.ownBlock = some w.heap.size) → K (a.put o.dst v') w') :
  if Region.wanted o (yielded ops a.tmps) = true then Oper.wp Try.prog o a w K Q else K (a.put o.dst undef) w := by
 have hw : Region.wanted o (yielded ops a.tmps) = true := by simp [Region.wanted, hgd]
 obtain ⟨v', w', hrun, h2, h3, h4⟩ := run_app_tk o.type hown c hr hbig hbase
 rw [if_pos hw]
 unfold Oper.wp
 simp [execOp, ho, resolve, invoke, builtin, hs, hx, hrun, Result.andThen]
 exact h v' w' h2 h3 h4
theorem rtwo_any (x y : Sp) (L K' : List Tk.Tk) (A A' B B' : Option Addr) (n n' m m' c c' d d' : Nat) (w : World) (hn : n ≤ 1000000) (hn' : n' ≤ 1000000) (hm : m ≤ 1000000) (hm' : m' ≤ 1000000) (h1 : TRow w A n L) (h2 : TRow w A' n' K') :
  Calls Try.prog 28 #[stV x (.slice A n c) (.slice B m d), stV y (.slice A' n' c') (.slice B' m' d')] w (RTwoIs x y L K' n n' m m' w) := by
 have CS := fun W => rshape_any x A B n m c d W (by omega) (by omega)
 have CSY := fun W => rshape_any y A' B' n' m' c' d' W (by omega) (by omega)
 have CSO := fun z C k e W q => rshape_any z C none k 0 e 0 W q (by omega)
 obtain ⟨E, hE⟩ : ∃ E : Ending → World → Prop, E = RTwoIs x y L K' n n' m m' w := ⟨_, rfl⟩
 rw [← hE]
 have HE : Hid (∀ e w', E e w' ↔ RTwoIs x y L K' n n' m m' w e w') := Lib.hid (fun e w' => by rw [hE])
 clear hE
 unfold RTwoIs weldB at HE
 obtain ⟨FX, hFX⟩ : ∃ F, F = shapeB x n m := ⟨_, rfl⟩
 obtain ⟨FY, hFY⟩ : ∃ F, F = shapeB y n' m' := ⟨_, rfl⟩
 simp only [← hFX, ← hFY] at HE CS CSY
 have HFX := Lib.hid hFX
 have HFY := Lib.hid hFY
 clear hFX hFY
 have HWK := Lib.hid (@way_kind x y n)
 obtain ⟨WY, hWY⟩ : ∃ F, F = wayOf x y n := ⟨_, rfl⟩
 simp only [← hWY] at HE HWK
 have HWY := Lib.hid hWY
 clear hWY
 unfold wayOf marksB at HWY
 have hlL := h1.1
 have hlK := h2.1
 obtain ⟨xk, xf, xt, xg, xh, xi, xm, xv⟩ := x
 obtain ⟨vk, vf, vt, vg, vh, vi, vm, vv⟩ := y
 unfold stV stC at HE
 unfold stV stC
 simp only at CS CSY HE HWK HWY ⊢
 have hh := TH.new w (.cells #[.int .i64 xk, .int .i64 xf, .int .i64 xt, .int .i64 xg, .int .i64 xh, .int .i64 xi, .int .i64 xm, .int .i64 xv, .slice A n c, .slice B m d] 25) (.cells #[.int .i64 vk, .int .i64 vf, .int .i64 vt, .int .i64 vg, .int .i64 vh, .int .i64 vi, .int .i64 vm, .int .i64 vv, .slice A' n' c', .slice B' m' d'] 25) (.cells #[.int .i64 0, .int .i64 0, .int .i64 0, .int .i64 0, .int .i64 0, .int .i64 0, .int .i64 0, .int .i64 0, .slice none 0 0, .slice none 0 0] 25)
 have H0 := Lib.hid hh.1
 have HB0 := Lib.hid hh.2
 clear hh
 obtain ⟨⟨y0, y1, y2, y3, y4⟩, y5, y6, y7, y8, y9⟩ := tenc H0.out.hx
 go_enter Try.func28, Try.ntmps28
 go_wp2_with fail
 refine (CS _).mono ?_
 rintro e w1 ⟨rfl, hb1⟩
 have HB1 := Lib.hid (HB0.out.trans (hb1.mono HB0.out.size))
 have H1 := Lib.hid (H0.out.step hb1)
 clear hb1 HB0 H0 CS
 clear y0 y1 y2 y3 y4 y5 y6 y7 y8 y9
 cases FX with
 | false =>
  obtain ⟨⟨z0, z1, z2, z3, z4⟩, z5, z6, z7, z8, z9⟩ := tenc H1.out.hz
  obtain ⟨f0, f1, f2, f3, f4, f5, f6, f7, f8, f9⟩ := froz H1.out.hz
  obtain ⟨⟨o0, o1, o2, o3, o4⟩, o5, o6, o7, o8, o9⟩ := tenc H1.out.ho
  go_wp2
  clear z0 z1 z2 z3 z4 z5 z6 z7 z8 z9
  clear f0 f1 f2 f3 f4 f5 f6 f7 f8 f9
  clear o0 o1 o2 o3 o4 o5 o6 o7 o8 o9
  have hF := tenc (put10_at H1.out.hz (.int .i64 0) (.int .i64 0) (.int .i64 0) (.int .i64 0) (.int .i64 0) (.int .i64 0) (.int .i64 0) (.int .i64 0) (.slice none 0 0) (.slice none 0 0))
  have hB10 := put10_below HB1.out (B := w.heap.size + 2) (by omega) (.int .i64 0) (.int .i64 0) (.int .i64 0) (.int .i64 0) (.int .i64 0) (.int .i64 0) (.int .i64 0) (.int .i64 0) (.slice none 0 0) (.slice none 0 0)
  obtain ⟨⟨r0, r1, r2, r3, r4⟩, r5, r6, r7, r8, r9⟩ := hF
  unfold put10 at r0 r1 r2 r3 r4 r5 r6 r7 r8 r9 hB10
  refine bodyPost_ret (v := .tuple #[.agg #[.int .i64 0, .int .i64 0, .int .i64 0, .int .i64 0, .int .i64 0, .int .i64 0, .int .i64 0, .int .i64 0, .slice none 0 0, .slice none 0 0], .bool false]) ?_ rfl ((HE.out _ _).2 ⟨.inr ⟨by simp, rfl⟩, hB10⟩)
  simp [results, Try.results28, go_sem, r0, r1, r2, r3, r4, r5, r6, r7, r8, r9]
 | true =>
  obtain ⟨⟨t0, t1, t2, t3, t4⟩, t5, t6, t7, t8, t9⟩ := tenc H1.out.hr
  go_wp2_with fail
  refine (CSY _).mono ?_
  rintro e w2 ⟨rfl, hb2⟩
  have HB2 := Lib.hid (HB1.out.trans (hb2.mono HB1.out.size))
  have H2 := Lib.hid (H1.out.step hb2)
  clear hb2 HB1 H1 CSY
  clear t0 t1 t2 t3 t4 t5 t6 t7 t8 t9
  cases FY with
  | false =>
   obtain ⟨⟨z0, z1, z2, z3, z4⟩, z5, z6, z7, z8, z9⟩ := tenc H2.out.hz
   obtain ⟨f0, f1, f2, f3, f4, f5, f6, f7, f8, f9⟩ := froz H2.out.hz
   obtain ⟨⟨o0, o1, o2, o3, o4⟩, o5, o6, o7, o8, o9⟩ := tenc H2.out.ho
   go_wp2
   clear z0 z1 z2 z3 z4 z5 z6 z7 z8 z9
   clear f0 f1 f2 f3 f4 f5 f6 f7 f8 f9
   clear o0 o1 o2 o3 o4 o5 o6 o7 o8 o9
   have hF := tenc (put10_at H2.out.hz (.int .i64 0) (.int .i64 0) (.int .i64 0) (.int .i64 0) (.int .i64 0) (.int .i64 0) (.int .i64 0) (.int .i64 0) (.slice none 0 0) (.slice none 0 0))
   have hB10 := put10_below HB2.out (B := w.heap.size + 2) (by omega) (.int .i64 0) (.int .i64 0) (.int .i64 0) (.int .i64 0) (.int .i64 0) (.int .i64 0) (.int .i64 0) (.int .i64 0) (.slice none 0 0) (.slice none 0 0)
   obtain ⟨⟨r0, r1, r2, r3, r4⟩, r5, r6, r7, r8, r9⟩ := hF
   unfold put10 at r0 r1 r2 r3 r4 r5 r6 r7 r8 r9 hB10
   refine bodyPost_ret (v := .tuple #[.agg #[.int .i64 0, .int .i64 0, .int .i64 0, .int .i64 0, .int .i64 0, .int .i64 0, .int .i64 0, .int .i64 0, .slice none 0 0, .slice none 0 0], .bool false]) ?_ rfl ((HE.out _ _).2 ⟨.inr ⟨by simp, rfl⟩, hB10⟩)
   simp [results, Try.results28, go_sem, r0, r1, r2, r3, r4, r5, r6, r7, r8, r9]
  | true =>
   by_cases e0 : xk = vk
   ·skip
    subst e0
    have hbx := (shape_of HFX.out.symm).1
    have hfx := (shape_of HFX.out.symm).2
    have hby := (shape_of HFY.out.symm).1
    unfold boundP at hbx hby
    unfold formP at hfx
    simp only at hbx hby hfx
    have hk : xk = 1 ∨ xk = 3 ∨ xk = 4 ∨ (¬ xk = 1 ∧ ¬ xk = 3 ∧ ¬ xk = 4) := by omega
    clear hfx HFX HFY HWK
    obtain ⟨⟨y0, y1, y2, y3, y4⟩, y5, y6, y7, y8, y9⟩ := tenc H2.out.hx
    obtain ⟨⟨t0, t1, t2, t3, t4⟩, t5, t6, t7, t8, t9⟩ := tenc H2.out.hr
    go_upto_region 5 with fail
    clear y0 y1 y2 y3 y4 y5 y6 y7 y8 y9
    clear t0 t1 t2 t3 t4 t5 t6 t7 t8 t9
    have hbn : Below w2.heap.size w2 (w2.alloc (.cells #[.int .i64 xk, .int .i64 0, .int .i64 0, .int .i64 0, .int .i64 0, .int .i64 0, .int .i64 0, .int .i64 0, .slice none 0 0, .slice none 0 0] 25)) := (Below.refl _ _).alloc (Nat.le_refl _) _
    have HB3 := Lib.hid (HB2.out.trans (hbn.mono HB2.out.size))
    have H3 := Lib.hid (H2.out.step hbn)
    have HY3 := Lib.hid (heap_alloc_new w2 (.cells #[.int .i64 xk, .int .i64 0, .int .i64 0, .int .i64 0, .int .i64 0, .int .i64 0, .int .i64 0, .int .i64 0, .slice none 0 0, .slice none 0 0] 25))
    have hyw : w.heap.size ≤ w2.heap.size := HB2.out.size
    have hl2 := lt_some H2.out.ho
    clear hbn HB2 H2
    generalize hYY : w2.heap.size = Y at *
    generalize w2.alloc (.cells #[.int .i64 xk, .int .i64 0, .int .i64 0, .int .i64 0, .int .i64 0, .int .i64 0, .int .i64 0, .int .i64 0, .slice none 0 0, .slice none 0 0] 25) = W3 at HB3 H3 HY3 ⊢
    clear hYY
    rcases hk with rfl | rfl | rfl | ⟨k1, k3, k4⟩
    ·have hWk : WY = (if xf + (n : Int) = vf then 1 else if vt = xf then 2 else 0) := by
      rw [HWY.out]
      simp
     clear HWY
     by_cases g1 : xf + (n : Int) = vf
     ·rw [if_pos g1] at hWk
      subst hWk
      have hw1 : wrap64 (xf + n) = xf + n := by unfold wrap64; omega
      have hw2 : wrap64 (wrap64 (xt + vt) - vf) = xt + vt - vf := by unfold wrap64; omega
      subst g1
      obtain ⟨⟨y0, y1, y2, y3, y4⟩, y5, y6, y7, y8, y9⟩ := tenc H3.out.hx
      obtain ⟨⟨t0, t1, t2, t3, t4⟩, t5, t6, t7, t8, t9⟩ := tenc H3.out.hr
      obtain ⟨⟨o0, o1, o2, o3, o4⟩, o5, o6, o7, o8, o9⟩ := tenc HY3.out
      obtain ⟨f0, f1, f2, f3, f4, f5, f6, f7, f8, f9⟩ := froz HY3.out
      go_upto_region 7 with fail
      clear y0 y1 y2 y3 y4 y5 y6 y7 y8 y9
      clear t0 t1 t2 t3 t4 t5 t6 t7 t8 t9
      clear o0 o1 o2 o3 o4 o5 o6 o7 o8 o9
      clear f0 f1 f2 f3 f4 f5 f6 f7 f8 f9
      have HB4 := Lib.hid (HB3.out.setCell (p := ⟨Y, 1, none⟩) hyw (.int .i64 xf))
      have H4 := Lib.hid (H3.out.set (Y := Y) (j := 1) (by omega) (.int .i64 xf))
      have HY4 : Hid ((W3.setCell ⟨Y, 1, none⟩ (.int .i64 xf)).heap[Y]? = some (.cells #[.int .i64 1, .int .i64 xf, .int .i64 0, .int .i64 0, .int .i64 0, .int .i64 0, .int .i64 0, .int .i64 0, .slice none 0 0, .slice none 0 0] 25)) := Lib.hid (by have := set_at (j := 1) HY3.out (.int .i64 xf); simpa using this)
      clear HB3 H3 HY3
      generalize W3.setCell ⟨Y, 1, none⟩ (.int .i64 xf) = W4 at HB4 H4 HY4 ⊢
      obtain ⟨⟨y0, y1, y2, y3, y4⟩, y5, y6, y7, y8, y9⟩ := tenc H4.out.hx
      obtain ⟨⟨t0, t1, t2, t3, t4⟩, t5, t6, t7, t8, t9⟩ := tenc H4.out.hr
      obtain ⟨⟨o0, o1, o2, o3, o4⟩, o5, o6, o7, o8, o9⟩ := tenc HY4.out
      obtain ⟨f0, f1, f2, f3, f4, f5, f6, f7, f8, f9⟩ := froz HY4.out
      go_upto_region 8 with fail
      clear y0 y1 y2 y3 y4 y5 y6 y7 y8 y9
      clear t0 t1 t2 t3 t4 t5 t6 t7 t8 t9
      clear o0 o1 o2 o3 o4 o5 o6 o7 o8 o9
      clear f0 f1 f2 f3 f4 f5 f6 f7 f8 f9
      have HB5 := Lib.hid (HB4.out.setCell (p := ⟨Y, 2, none⟩) hyw (.int .i64 (xt + vt - (xf + n))))
      have H5 := Lib.hid (H4.out.set (Y := Y) (j := 2) (by omega) (.int .i64 (xt + vt - (xf + n))))
      have HY5 : Hid ((W4.setCell ⟨Y, 2, none⟩ (.int .i64 (xt + vt - (xf + n)))).heap[Y]? = some (.cells #[.int .i64 1, .int .i64 xf, .int .i64 (xt + vt - (xf + n)), .int .i64 0, .int .i64 0, .int .i64 0, .int .i64 0, .int .i64 0, .slice none 0 0, .slice none 0 0] 25)) := Lib.hid (by have := set_at (j := 2) HY4.out (.int .i64 (xt + vt - (xf + n))); simpa using this)
      clear HB4 H4 HY4
      generalize W4.setCell ⟨Y, 2, none⟩ (.int .i64 (xt + vt - (xf + n))) = W5 at HB5 H5 HY5 ⊢
      refine wp_region_held_drew (S := fun W => W.heap[w.heap.size]? = some (.cells #[.int .i64 1, .int .i64 xf, .int .i64 xt, .int .i64 xg, .int .i64 xh, .int .i64 xi, .int .i64 xm, .int .i64 xv, .slice A n c, .slice B m d] 25) ∧ W.heap[w.heap.size + 1]? = some (.cells #[.int .i64 1, .int .i64 (xf + n), .int .i64 vt, .int .i64 vg, .int .i64 vh, .int .i64 vi, .int .i64 vm, .int .i64 vv, .slice A' n' c', .slice B' m' d'] 25)) (by kernel_rfl) ⟨H5.out.hx, H5.out.hr⟩ (fun hHeld => ?_)
      have HB9 : Hid (Below w.heap.size w W5.drew) := Lib.hid (below_drewN HB5.out 1)
      have H9 : Hid (TH w.heap.size (.cells #[.int .i64 1, .int .i64 xf, .int .i64 xt, .int .i64 xg, .int .i64 xh, .int .i64 xi, .int .i64 xm, .int .i64 xv, .slice A n c, .slice B m d] 25) (.cells #[.int .i64 1, .int .i64 (xf + n), .int .i64 vt, .int .i64 vg, .int .i64 vh, .int .i64 vi, .int .i64 vm, .int .i64 vv, .slice A' n' c', .slice B' m' d'] 25) (.cells #[.int .i64 0, .int .i64 0, .int .i64 0, .int .i64 0, .int .i64 0, .int .i64 0, .int .i64 0, .int .i64 0, .slice none 0 0, .slice none 0 0] 25) W5.drew) := Lib.hid (H5.out.step (below_drewN (Below.refl _ _) 1))
      have HY9 : Hid (W5.drew.heap[Y]? = some (.cells #[.int .i64 1, .int .i64 xf, .int .i64 (xt + vt - (xf + n)), .int .i64 0, .int .i64 0, .int .i64 0, .int .i64 0, .int .i64 0, .slice none 0 0, .slice none 0 0] 25)) := HY5
      clear HB5 H5 HY5
      generalize W5.drew = W9 at HB9 H9 HY9 hHeld ⊢
      refine tk 1 (v := ?_) rfl (by kernel_rfl) (fun _ _ _ h => h) ?_ hHeld ?_
      rotate_left
      ·(intro W hSw; (try dsimp only at hSw); obtain ⟨hs1, hs2⟩ := hSw; obtain ⟨⟨y0, y1, y2, y3, y4⟩, y5, y6, y7, y8, y9⟩ := tenc hs1; obtain ⟨⟨z0, z1, z2, z3, z4⟩, z5, z6, z7, z8, z9⟩ := tenc hs2; go_simp; try with_reducible rfl)
      refine tk 2 (v := ?_) rfl (by kernel_rfl) (fun _ _ _ h => h) ?_ hHeld ?_
      rotate_left
      ·(intro W hSw; (try dsimp only at hSw); obtain ⟨hs1, hs2⟩ := hSw; obtain ⟨⟨y0, y1, y2, y3, y4⟩, y5, y6, y7, y8, y9⟩ := tenc hs1; obtain ⟨⟨z0, z1, z2, z3, z4⟩, z5, z6, z7, z8, z9⟩ := tenc hs2; go_simp; try with_reducible rfl)
      refine tk 4 (v := ?_) rfl (by kernel_rfl) (fun _ _ _ h => h) ?_ hHeld ?_
      rotate_left
      ·(intro W hSw; (try dsimp only at hSw); obtain ⟨hs1, hs2⟩ := hSw; obtain ⟨⟨y0, y1, y2, y3, y4⟩, y5, y6, y7, y8, y9⟩ := tenc hs1; obtain ⟨⟨z0, z1, z2, z3, z4⟩, z5, z6, z7, z8, z9⟩ := tenc hs2; go_simp; try with_reducible rfl)
      refine tk 5 (v := ?_) rfl (by kernel_rfl) (fun _ _ _ h => h) ?_ hHeld ?_
      rotate_left
      ·(intro W hSw; (try dsimp only at hSw); obtain ⟨hs1, hs2⟩ := hSw; obtain ⟨⟨y0, y1, y2, y3, y4⟩, y5, y6, y7, y8, y9⟩ := tenc hs1; obtain ⟨⟨z0, z1, z2, z3, z4⟩, z5, z6, z7, z8, z9⟩ := tenc hs2; go_simp; try with_reducible rfl)
      refine wpAnyH_ready (rs := [0]) (by kernel_rfl) (by simp) ?_
      refine AllReadyH.cons rfl (fun K hK => ?_) AllReadyH.nil
      go_simp
      have hbn : Below W9.heap.size W9 (W9.alloc (.cells #[] 101)) := (Below.refl _ _).alloc (Nat.le_refl _) _
      have HB10 := Lib.hid (HB9.out.trans (hbn.mono HB9.out.size))
      have H10 := Lib.hid (H9.out.step hbn)
      have HY10 := Lib.hid (hkeep hbn HY9.out)
      have hS10 := And.intro (hkeep hbn hHeld.1) (hkeep hbn hHeld.2)
      have HT10 := Lib.hid (tks_empty W9)
      have hY9 := lt_some HY9.out
      have hw9 := HB9.out.size
      clear hbn HB9 H9 HY9 hHeld
      refine hK.out _ _ hS10 (fun hHeld => ?_)
      clear hK K hS10
      generalize hR : W9.heap.size = R at *
      generalize W9.alloc (.cells #[] 101) = W10 at HB10 H10 HY10 HT10 hHeld ⊢
      have hR10 : R < W10.heap.size := (HT10.out.block R rfl).2.1
      refine wpAnyH_ready (rs := [3]) (by kernel_rfl) (by simp) ?_
      refine AllReadyH.cons rfl (fun K hK => ?_) AllReadyH.nil
      refine ready_app_tk rfl (.tmp 54) (.tmp 56) rfl R (.slice (some ⟨R, 0, none⟩) 0 0) [] rfl HT10.out A n c L rfl (h1.below HB10.out) (by simp; omega) (by omega) ?_
      intro v1 W11 hT11 hg11 hown11
      rw [List.nil_append] at hT11
      have hbl : (Value.slice (some ⟨R, 0, none⟩) 0 0).ownBlock = some R := rfl
      rw [hbl] at hg11 hown11
      have HB11 := Lib.hid (grown_low HB10.out HB10.out.size hg11 (fun g e => by cases e; omega))
      have H11 := Lib.hid (H10.out.grown hg11 (fun g e => by cases e; omega))
      have HY11 := Lib.hid (grown_at hg11 HY10.out (fun e => by cases e; omega))
      have hS11 := And.intro (grown_at hg11 hHeld.1 (fun e => by cases e; omega)) (grown_at hg11 hHeld.2 (fun e => by cases e; omega))
      have hown1 : ∀ g, v1.ownBlock = some g → R ≤ g := fun g e => (hT11.block g e).1
      have HT11 := Lib.hid hT11
      have hs11 := hg11.size
      clear HB10 H10 HY10 HT10 hHeld hg11 hown11 hT11 hbl
      refine hK.out _ _ hS11 (fun hHeld => ?_)
      clear hK K hS11
      refine wpAnyH_ready (rs := [6]) (by kernel_rfl) (by simp) ?_
      refine AllReadyH.cons rfl (fun K hK => ?_) AllReadyH.nil
      refine ready_app_tk rfl (.tmp 57) (.tmp 59) rfl R v1 L rfl HT11.out A' n' c' K' rfl (h2.below HB11.out) (by omega) (by omega) ?_
      intro v2 W12 hT12 hg12 hown12
      have HB12 := Lib.hid (grown_low HB11.out HB11.out.size hg12 (fun g e => by have := hown1 g e; omega))
      have H12 := Lib.hid (H11.out.grown hg12 (fun g e => by have := hown1 g e; omega))
      have HY12 := Lib.hid (grown_at hg12 HY11.out (fun e => by have := hown1 _ e; omega))
      have hS12 := And.intro (grown_at hg12 hHeld.1 (fun e => by have := hown1 _ e; omega)) (grown_at hg12 hHeld.2 (fun e => by have := hown1 _ e; omega))
      obtain ⟨A3, c3, rfl⟩ := hT12.form
      have hll : (L ++ K').length = n + n' := by simp [hlL, hlK]
      rw [hll] at hT12
      have HT12 := Lib.hid hT12
      have hs12 := hg12.size
      clear HB11 H11 HY11 HT11 hHeld hg12 hown12 hT12 hown1
      refine hK.out _ _ hS12 (fun hHeld => ?_)
      clear hK K hS12
      refine tk 7 (v := ?_) rfl (by kernel_rfl) (fun _ _ _ h => h) ?_ hHeld ?_
      rotate_left
      ·(intro W hSw; clear hSw; go_simp; try with_reducible rfl)
      refine wpAnyH_ready (rs := [8]) (by kernel_rfl) (by simp) ?_
      refine AllReadyH.cons rfl (fun K hK => ?_) AllReadyH.nil
      have hz := tenc HY12.out
      have z0 := hz.1.1
      have z1 := hz.1.2.1
      have z2 := hz.1.2.2.1
      have z3 := hz.1.2.2.2.1
      have z4 := hz.1.2.2.2.2
      have z5 := hz.2.1
      have z6 := hz.2.2.1
      have z7 := hz.2.2.2.1
      have z8 := hz.2.2.2.2.1
      have z9 := hz.2.2.2.2.2
      have hf := froz HY12.out
      have f0 := hf.1
      have f1 := hf.2.1
      have f2 := hf.2.2.1
      have f3 := hf.2.2.2.1
      have f4 := hf.2.2.2.2.1
      have f5 := hf.2.2.2.2.2.1
      have f6 := hf.2.2.2.2.2.2.1
      have f7 := hf.2.2.2.2.2.2.2.1
      have f8 := hf.2.2.2.2.2.2.2.2.1
      have f9 := hf.2.2.2.2.2.2.2.2.2
      clear hz hf
      go_simp
      have HB13 := Lib.hid (HB12.out.setCell (p := ⟨Y, 8, none⟩) hyw (.slice A3 (n + n') c3))
      have H13 := Lib.hid (H12.out.set (Y := Y) (j := 8) (by omega) (.slice A3 (n + n') c3))
      have HY13 : Hid ((W12.setCell ⟨Y, 8, none⟩ (.slice A3 (n + n') c3)).heap[Y]? = some (.cells #[.int .i64 1, .int .i64 xf, .int .i64 (xt + vt - (xf + n)), .int .i64 0, .int .i64 0, .int .i64 0, .int .i64 0, .int .i64 0, .slice A3 (n + n') c3, .slice none 0 0] 25)) := Lib.hid (by have := set_at (j := 8) HY12.out (.slice A3 (n + n') c3); simpa using this)
      have HT13 := Lib.hid (HT12.out.set (b := Y) (by omega) 8 (.slice A3 (n + n') c3))
      have hS13 := And.intro ((set_else (h := Y) (j := 8) (by omega) (.slice A3 (n + n') c3)).trans hHeld.1) ((set_else (h := Y) (j := 8) (by omega) (.slice A3 (n + n') c3)).trans hHeld.2)
      clear HB12 H12 HY12 HT12 hHeld z0 z1 z2 z3 z4 z5 z6 z7 z8 z9 f0 f1 f2 f3 f4 f5 f6 f7 f8 f9
      refine hK.out _ _ hS13 (fun hHeld => ?_)
      clear hK K hS13 hHeld
      generalize W12.setCell ⟨Y, 8, none⟩ (.slice A3 (n + n') c3) = W13 at HB13 H13 HY13 HT13 ⊢
      refine wpAnyH_done (by kernel_rfl) ?_ _
      obtain ⟨⟨o0, o1, o2, o3, o4⟩, o5, o6, o7, o8, o9⟩ := tenc HY13.out
      go_wp2_with fail
      refine (CSO ⟨1, xf, xt + vt - (xf + n), 0, 0, 0, 0, 0⟩ A3 (n + n') c3 _ (by omega)).mono ?_
      rintro e W14 ⟨rfl, hb14⟩
      have HB14 := Lib.hid (HB13.out.trans (hb14.mono HB13.out.size))
      have H14 := Lib.hid (H13.out.step hb14)
      have HY14 := Lib.hid (hkeep hb14 HY13.out)
      have HT14 := Lib.hid (HT13.out.belowAll hb14)
      clear hb14 HB13 H13 HY13 HT13 CSO
      clear o0 o1 o2 o3 o4 o5 o6 o7 o8 o9
      obtain ⟨SO, hSO⟩ : ∃ b, b = shapeB ⟨1, xf, xt + vt - (xf + n), 0, 0, 0, 0, 0⟩ (n + n') 0 := ⟨_, rfl⟩
      rw [← hSO]
      have HSO := Lib.hid hSO
      clear hSO
      cases SO with
      | false =>
       obtain ⟨⟨z0, z1, z2, z3, z4⟩, z5, z6, z7, z8, z9⟩ := tenc H14.out.hz
       obtain ⟨f0, f1, f2, f3, f4, f5, f6, f7, f8, f9⟩ := froz H14.out.hz
       obtain ⟨⟨o0, o1, o2, o3, o4⟩, o5, o6, o7, o8, o9⟩ := tenc H14.out.ho
       go_wp2
       clear z0 z1 z2 z3 z4 z5 z6 z7 z8 z9
       clear f0 f1 f2 f3 f4 f5 f6 f7 f8 f9
       clear o0 o1 o2 o3 o4 o5 o6 o7 o8 o9
       have hF := tenc (put10_at H14.out.hz (.int .i64 0) (.int .i64 0) (.int .i64 0) (.int .i64 0) (.int .i64 0) (.int .i64 0) (.int .i64 0) (.int .i64 0) (.slice none 0 0) (.slice none 0 0))
       have hB10 := put10_below HB14.out (B := w.heap.size + 2) (by omega) (.int .i64 0) (.int .i64 0) (.int .i64 0) (.int .i64 0) (.int .i64 0) (.int .i64 0) (.int .i64 0) (.int .i64 0) (.slice none 0 0) (.slice none 0 0)
       obtain ⟨⟨r0, r1, r2, r3, r4⟩, r5, r6, r7, r8, r9⟩ := hF
       unfold put10 at r0 r1 r2 r3 r4 r5 r6 r7 r8 r9 hB10
       refine bodyPost_ret (v := .tuple #[.agg #[.int .i64 0, .int .i64 0, .int .i64 0, .int .i64 0, .int .i64 0, .int .i64 0, .int .i64 0, .int .i64 0, .slice none 0 0, .slice none 0 0], .bool false]) ?_ rfl ((HE.out _ _).2 ⟨.inr ⟨by simp only [wayN, wayL]; simp [hlL, hlK]; exact HSO.out.symm, rfl⟩, hB10⟩)
       simp [results, Try.results28, go_sem, r0, r1, r2, r3, r4, r5, r6, r7, r8, r9]
      | true =>
       obtain ⟨⟨o0, o1, o2, o3, o4⟩, o5, o6, o7, o8, o9⟩ := tenc HY14.out
       obtain ⟨⟨z0, z1, z2, z3, z4⟩, z5, z6, z7, z8, z9⟩ := tenc H14.out.hz
       obtain ⟨f0, f1, f2, f3, f4, f5, f6, f7, f8, f9⟩ := froz H14.out.hz
       go_wp2
       clear o0 o1 o2 o3 o4 o5 o6 o7 o8 o9
       clear z0 z1 z2 z3 z4 z5 z6 z7 z8 z9
       clear f0 f1 f2 f3 f4 f5 f6 f7 f8 f9
       have hT := tks_put10 HT14.out (B := w.heap.size + 2) (by omega) (.int .i64 1) (.int .i64 xf) (.int .i64 (xt + vt - (xf + n))) (.int .i64 0) (.int .i64 0) (.int .i64 0) (.int .i64 0) (.int .i64 0) (.slice A3 (n + n') c3) (.slice none 0 0)
       unfold put10 at hT
       have hF := tenc (put10_at H14.out.hz (.int .i64 1) (.int .i64 xf) (.int .i64 (xt + vt - (xf + n))) (.int .i64 0) (.int .i64 0) (.int .i64 0) (.int .i64 0) (.int .i64 0) (.slice A3 (n + n') c3) (.slice none 0 0))
       have hB10 := put10_below HB14.out (B := w.heap.size + 2) (by omega) (.int .i64 1) (.int .i64 xf) (.int .i64 (xt + vt - (xf + n))) (.int .i64 0) (.int .i64 0) (.int .i64 0) (.int .i64 0) (.int .i64 0) (.slice A3 (n + n') c3) (.slice none 0 0)
       obtain ⟨⟨r0, r1, r2, r3, r4⟩, r5, r6, r7, r8, r9⟩ := hF
       unfold put10 at r0 r1 r2 r3 r4 r5 r6 r7 r8 r9 hB10
       refine bodyPost_ret (v := .tuple #[.agg #[.int .i64 1, .int .i64 xf, .int .i64 (xt + vt - (xf + n)), .int .i64 0, .int .i64 0, .int .i64 0, .int .i64 0, .int .i64 0, .slice A3 (n + n') c3, .slice none 0 0], .bool true]) ?_ rfl ((HE.out _ _).2 ⟨.inl ⟨by simp only [wayN, wayL]; simp [hlL, hlK]; exact HSO.out.symm, _, rfl, hT.lower (by omega)⟩, hB10⟩)
       simp [results, Try.results28, go_sem, r0, r1, r2, r3, r4, r5, r6, r7, r8, r9]
     ·rw [if_neg g1] at hWk
      have hw1 : wrap64 (xf + n) = xf + n := by unfold wrap64; omega
      by_cases g2 : vt = xf
      ·rw [if_pos g2] at hWk
       subst hWk
       subst g2
       obtain ⟨⟨y0, y1, y2, y3, y4⟩, y5, y6, y7, y8, y9⟩ := tenc H3.out.hx
       obtain ⟨⟨t0, t1, t2, t3, t4⟩, t5, t6, t7, t8, t9⟩ := tenc H3.out.hr
       obtain ⟨⟨o0, o1, o2, o3, o4⟩, o5, o6, o7, o8, o9⟩ := tenc HY3.out
       obtain ⟨f0, f1, f2, f3, f4, f5, f6, f7, f8, f9⟩ := froz HY3.out
       go_upto_region 11 with fail
       clear y0 y1 y2 y3 y4 y5 y6 y7 y8 y9
       clear t0 t1 t2 t3 t4 t5 t6 t7 t8 t9
       clear o0 o1 o2 o3 o4 o5 o6 o7 o8 o9
       clear f0 f1 f2 f3 f4 f5 f6 f7 f8 f9
       have HB4 := Lib.hid (HB3.out.setCell (p := ⟨Y, 1, none⟩) hyw (.int .i64 vf))
       have H4 := Lib.hid (H3.out.set (Y := Y) (j := 1) (by omega) (.int .i64 vf))
       have HY4 : Hid ((W3.setCell ⟨Y, 1, none⟩ (.int .i64 vf)).heap[Y]? = some (.cells #[.int .i64 1, .int .i64 vf, .int .i64 0, .int .i64 0, .int .i64 0, .int .i64 0, .int .i64 0, .int .i64 0, .slice none 0 0, .slice none 0 0] 25)) := Lib.hid (by have := set_at (j := 1) HY3.out (.int .i64 vf); simpa using this)
       clear HB3 H3 HY3
       generalize W3.setCell ⟨Y, 1, none⟩ (.int .i64 vf) = W4 at HB4 H4 HY4 ⊢
       obtain ⟨⟨y0, y1, y2, y3, y4⟩, y5, y6, y7, y8, y9⟩ := tenc H4.out.hx
       obtain ⟨⟨t0, t1, t2, t3, t4⟩, t5, t6, t7, t8, t9⟩ := tenc H4.out.hr
       obtain ⟨⟨o0, o1, o2, o3, o4⟩, o5, o6, o7, o8, o9⟩ := tenc HY4.out
       obtain ⟨f0, f1, f2, f3, f4, f5, f6, f7, f8, f9⟩ := froz HY4.out
       go_upto_region 12 with fail
       clear y0 y1 y2 y3 y4 y5 y6 y7 y8 y9
       clear t0 t1 t2 t3 t4 t5 t6 t7 t8 t9
       clear o0 o1 o2 o3 o4 o5 o6 o7 o8 o9
       clear f0 f1 f2 f3 f4 f5 f6 f7 f8 f9
       have HB5 := Lib.hid (HB4.out.setCell (p := ⟨Y, 2, none⟩) hyw (.int .i64 xt))
       have H5 := Lib.hid (H4.out.set (Y := Y) (j := 2) (by omega) (.int .i64 xt))
       have HY5 : Hid ((W4.setCell ⟨Y, 2, none⟩ (.int .i64 xt)).heap[Y]? = some (.cells #[.int .i64 1, .int .i64 vf, .int .i64 xt, .int .i64 0, .int .i64 0, .int .i64 0, .int .i64 0, .int .i64 0, .slice none 0 0, .slice none 0 0] 25)) := Lib.hid (by have := set_at (j := 2) HY4.out (.int .i64 xt); simpa using this)
       clear HB4 H4 HY4
       generalize W4.setCell ⟨Y, 2, none⟩ (.int .i64 xt) = W5 at HB5 H5 HY5 ⊢
       refine wp_region_held_drew (S := fun W => W.heap[w.heap.size]? = some (.cells #[.int .i64 1, .int .i64 vt, .int .i64 xt, .int .i64 xg, .int .i64 xh, .int .i64 xi, .int .i64 xm, .int .i64 xv, .slice A n c, .slice B m d] 25) ∧ W.heap[w.heap.size + 1]? = some (.cells #[.int .i64 1, .int .i64 vf, .int .i64 vt, .int .i64 vg, .int .i64 vh, .int .i64 vi, .int .i64 vm, .int .i64 vv, .slice A' n' c', .slice B' m' d'] 25)) (by kernel_rfl) ⟨H5.out.hx, H5.out.hr⟩ (fun hHeld => ?_)
       have HB9 : Hid (Below w.heap.size w W5.drew) := Lib.hid (below_drewN HB5.out 1)
       have H9 : Hid (TH w.heap.size (.cells #[.int .i64 1, .int .i64 vt, .int .i64 xt, .int .i64 xg, .int .i64 xh, .int .i64 xi, .int .i64 xm, .int .i64 xv, .slice A n c, .slice B m d] 25) (.cells #[.int .i64 1, .int .i64 vf, .int .i64 vt, .int .i64 vg, .int .i64 vh, .int .i64 vi, .int .i64 vm, .int .i64 vv, .slice A' n' c', .slice B' m' d'] 25) (.cells #[.int .i64 0, .int .i64 0, .int .i64 0, .int .i64 0, .int .i64 0, .int .i64 0, .int .i64 0, .int .i64 0, .slice none 0 0, .slice none 0 0] 25) W5.drew) := Lib.hid (H5.out.step (below_drewN (Below.refl _ _) 1))
       have HY9 : Hid (W5.drew.heap[Y]? = some (.cells #[.int .i64 1, .int .i64 vf, .int .i64 xt, .int .i64 0, .int .i64 0, .int .i64 0, .int .i64 0, .int .i64 0, .slice none 0 0, .slice none 0 0] 25)) := HY5
       clear HB5 H5 HY5
       generalize W5.drew = W9 at HB9 H9 HY9 hHeld ⊢
       refine tk 1 (v := ?_) rfl (by kernel_rfl) (fun _ _ _ h => h) ?_ hHeld ?_
       rotate_left
       ·(intro W hSw; (try dsimp only at hSw); obtain ⟨hs1, hs2⟩ := hSw; obtain ⟨⟨y0, y1, y2, y3, y4⟩, y5, y6, y7, y8, y9⟩ := tenc hs1; obtain ⟨⟨z0, z1, z2, z3, z4⟩, z5, z6, z7, z8, z9⟩ := tenc hs2; go_simp; try with_reducible rfl)
       refine tk 2 (v := ?_) rfl (by kernel_rfl) (fun _ _ _ h => h) ?_ hHeld ?_
       rotate_left
       ·(intro W hSw; (try dsimp only at hSw); obtain ⟨hs1, hs2⟩ := hSw; obtain ⟨⟨y0, y1, y2, y3, y4⟩, y5, y6, y7, y8, y9⟩ := tenc hs1; obtain ⟨⟨z0, z1, z2, z3, z4⟩, z5, z6, z7, z8, z9⟩ := tenc hs2; go_simp; try with_reducible rfl)
       refine tk 4 (v := ?_) rfl (by kernel_rfl) (fun _ _ _ h => h) ?_ hHeld ?_
       rotate_left
       ·(intro W hSw; (try dsimp only at hSw); obtain ⟨hs1, hs2⟩ := hSw; obtain ⟨⟨y0, y1, y2, y3, y4⟩, y5, y6, y7, y8, y9⟩ := tenc hs1; obtain ⟨⟨z0, z1, z2, z3, z4⟩, z5, z6, z7, z8, z9⟩ := tenc hs2; go_simp; try with_reducible rfl)
       refine tk 5 (v := ?_) rfl (by kernel_rfl) (fun _ _ _ h => h) ?_ hHeld ?_
       rotate_left
       ·(intro W hSw; (try dsimp only at hSw); obtain ⟨hs1, hs2⟩ := hSw; obtain ⟨⟨y0, y1, y2, y3, y4⟩, y5, y6, y7, y8, y9⟩ := tenc hs1; obtain ⟨⟨z0, z1, z2, z3, z4⟩, z5, z6, z7, z8, z9⟩ := tenc hs2; go_simp; try with_reducible rfl)
       refine wpAnyH_ready (rs := [0]) (by kernel_rfl) (by simp) ?_
       refine AllReadyH.cons rfl (fun K hK => ?_) AllReadyH.nil
       go_simp
       have hbn : Below W9.heap.size W9 (W9.alloc (.cells #[] 101)) := (Below.refl _ _).alloc (Nat.le_refl _) _
       have HB10 := Lib.hid (HB9.out.trans (hbn.mono HB9.out.size))
       have H10 := Lib.hid (H9.out.step hbn)
       have HY10 := Lib.hid (hkeep hbn HY9.out)
       have hS10 := And.intro (hkeep hbn hHeld.1) (hkeep hbn hHeld.2)
       have HT10 := Lib.hid (tks_empty W9)
       have hY9 := lt_some HY9.out
       have hw9 := HB9.out.size
       clear hbn HB9 H9 HY9 hHeld
       refine hK.out _ _ hS10 (fun hHeld => ?_)
       clear hK K hS10
       generalize hR : W9.heap.size = R at *
       generalize W9.alloc (.cells #[] 101) = W10 at HB10 H10 HY10 HT10 hHeld ⊢
       have hR10 : R < W10.heap.size := (HT10.out.block R rfl).2.1
       refine wpAnyH_ready (rs := [3]) (by kernel_rfl) (by simp) ?_
       refine AllReadyH.cons rfl (fun K hK => ?_) AllReadyH.nil
       refine ready_app_tk rfl (.tmp 78) (.tmp 80) rfl R (.slice (some ⟨R, 0, none⟩) 0 0) [] rfl HT10.out A' n' c' K' rfl (h2.below HB10.out) (by simp; omega) (by omega) ?_
       intro v1 W11 hT11 hg11 hown11
       rw [List.nil_append] at hT11
       have hbl : (Value.slice (some ⟨R, 0, none⟩) 0 0).ownBlock = some R := rfl
       rw [hbl] at hg11 hown11
       have HB11 := Lib.hid (grown_low HB10.out HB10.out.size hg11 (fun g e => by cases e; omega))
       have H11 := Lib.hid (H10.out.grown hg11 (fun g e => by cases e; omega))
       have HY11 := Lib.hid (grown_at hg11 HY10.out (fun e => by cases e; omega))
       have hS11 := And.intro (grown_at hg11 hHeld.1 (fun e => by cases e; omega)) (grown_at hg11 hHeld.2 (fun e => by cases e; omega))
       have hown1 : ∀ g, v1.ownBlock = some g → R ≤ g := fun g e => (hT11.block g e).1
       have HT11 := Lib.hid hT11
       have hs11 := hg11.size
       clear HB10 H10 HY10 HT10 hHeld hg11 hown11 hT11 hbl
       refine hK.out _ _ hS11 (fun hHeld => ?_)
       clear hK K hS11
       refine wpAnyH_ready (rs := [6]) (by kernel_rfl) (by simp) ?_
       refine AllReadyH.cons rfl (fun K hK => ?_) AllReadyH.nil
       refine ready_app_tk rfl (.tmp 81) (.tmp 83) rfl R v1 K' rfl HT11.out A n c L rfl (h1.below HB11.out) (by omega) (by omega) ?_
       intro v2 W12 hT12 hg12 hown12
       have HB12 := Lib.hid (grown_low HB11.out HB11.out.size hg12 (fun g e => by have := hown1 g e; omega))
       have H12 := Lib.hid (H11.out.grown hg12 (fun g e => by have := hown1 g e; omega))
       have HY12 := Lib.hid (grown_at hg12 HY11.out (fun e => by have := hown1 _ e; omega))
       have hS12 := And.intro (grown_at hg12 hHeld.1 (fun e => by have := hown1 _ e; omega)) (grown_at hg12 hHeld.2 (fun e => by have := hown1 _ e; omega))
       obtain ⟨A3, c3, rfl⟩ := hT12.form
       have hll : (K' ++ L).length = n' + n := by simp [hlL, hlK]
       rw [hll] at hT12
       have HT12 := Lib.hid hT12
       have hs12 := hg12.size
       clear HB11 H11 HY11 HT11 hHeld hg12 hown12 hT12 hown1
       refine hK.out _ _ hS12 (fun hHeld => ?_)
       clear hK K hS12
       refine tk 7 (v := ?_) rfl (by kernel_rfl) (fun _ _ _ h => h) ?_ hHeld ?_
       rotate_left
       ·(intro W hSw; clear hSw; go_simp; try with_reducible rfl)
       refine wpAnyH_ready (rs := [8]) (by kernel_rfl) (by simp) ?_
       refine AllReadyH.cons rfl (fun K hK => ?_) AllReadyH.nil
       have hz := tenc HY12.out
       have z0 := hz.1.1
       have z1 := hz.1.2.1
       have z2 := hz.1.2.2.1
       have z3 := hz.1.2.2.2.1
       have z4 := hz.1.2.2.2.2
       have z5 := hz.2.1
       have z6 := hz.2.2.1
       have z7 := hz.2.2.2.1
       have z8 := hz.2.2.2.2.1
       have z9 := hz.2.2.2.2.2
       have hf := froz HY12.out
       have f0 := hf.1
       have f1 := hf.2.1
       have f2 := hf.2.2.1
       have f3 := hf.2.2.2.1
       have f4 := hf.2.2.2.2.1
       have f5 := hf.2.2.2.2.2.1
       have f6 := hf.2.2.2.2.2.2.1
       have f7 := hf.2.2.2.2.2.2.2.1
       have f8 := hf.2.2.2.2.2.2.2.2.1
       have f9 := hf.2.2.2.2.2.2.2.2.2
       clear hz hf
       go_simp
       have HB13 := Lib.hid (HB12.out.setCell (p := ⟨Y, 8, none⟩) hyw (.slice A3 (n' + n) c3))
       have H13 := Lib.hid (H12.out.set (Y := Y) (j := 8) (by omega) (.slice A3 (n' + n) c3))
       have HY13 : Hid ((W12.setCell ⟨Y, 8, none⟩ (.slice A3 (n' + n) c3)).heap[Y]? = some (.cells #[.int .i64 1, .int .i64 vf, .int .i64 xt, .int .i64 0, .int .i64 0, .int .i64 0, .int .i64 0, .int .i64 0, .slice A3 (n' + n) c3, .slice none 0 0] 25)) := Lib.hid (by have := set_at (j := 8) HY12.out (.slice A3 (n' + n) c3); simpa using this)
       have HT13 := Lib.hid (HT12.out.set (b := Y) (by omega) 8 (.slice A3 (n' + n) c3))
       have hS13 := And.intro ((set_else (h := Y) (j := 8) (by omega) (.slice A3 (n' + n) c3)).trans hHeld.1) ((set_else (h := Y) (j := 8) (by omega) (.slice A3 (n' + n) c3)).trans hHeld.2)
       clear HB12 H12 HY12 HT12 hHeld z0 z1 z2 z3 z4 z5 z6 z7 z8 z9 f0 f1 f2 f3 f4 f5 f6 f7 f8 f9
       refine hK.out _ _ hS13 (fun hHeld => ?_)
       clear hK K hS13 hHeld
       generalize W12.setCell ⟨Y, 8, none⟩ (.slice A3 (n' + n) c3) = W13 at HB13 H13 HY13 HT13 ⊢
       refine wpAnyH_done (by kernel_rfl) ?_ _
       obtain ⟨⟨o0, o1, o2, o3, o4⟩, o5, o6, o7, o8, o9⟩ := tenc HY13.out
       go_wp2_with fail
       refine (CSO ⟨1, vf, xt, 0, 0, 0, 0, 0⟩ A3 (n' + n) c3 _ (by omega)).mono ?_
       rintro e W14 ⟨rfl, hb14⟩
       have HB14 := Lib.hid (HB13.out.trans (hb14.mono HB13.out.size))
       have H14 := Lib.hid (H13.out.step hb14)
       have HY14 := Lib.hid (hkeep hb14 HY13.out)
       have HT14 := Lib.hid (HT13.out.belowAll hb14)
       clear hb14 HB13 H13 HY13 HT13 CSO
       clear o0 o1 o2 o3 o4 o5 o6 o7 o8 o9
       obtain ⟨SO, hSO⟩ : ∃ b, b = shapeB ⟨1, vf, xt, 0, 0, 0, 0, 0⟩ (n' + n) 0 := ⟨_, rfl⟩
       rw [← hSO]
       have HSO := Lib.hid hSO
       clear hSO
       cases SO with
       | false =>
        obtain ⟨⟨z0, z1, z2, z3, z4⟩, z5, z6, z7, z8, z9⟩ := tenc H14.out.hz
        obtain ⟨f0, f1, f2, f3, f4, f5, f6, f7, f8, f9⟩ := froz H14.out.hz
        obtain ⟨⟨o0, o1, o2, o3, o4⟩, o5, o6, o7, o8, o9⟩ := tenc H14.out.ho
        go_wp2
        clear z0 z1 z2 z3 z4 z5 z6 z7 z8 z9
        clear f0 f1 f2 f3 f4 f5 f6 f7 f8 f9
        clear o0 o1 o2 o3 o4 o5 o6 o7 o8 o9
        have hF := tenc (put10_at H14.out.hz (.int .i64 0) (.int .i64 0) (.int .i64 0) (.int .i64 0) (.int .i64 0) (.int .i64 0) (.int .i64 0) (.int .i64 0) (.slice none 0 0) (.slice none 0 0))
        have hB10 := put10_below HB14.out (B := w.heap.size + 2) (by omega) (.int .i64 0) (.int .i64 0) (.int .i64 0) (.int .i64 0) (.int .i64 0) (.int .i64 0) (.int .i64 0) (.int .i64 0) (.slice none 0 0) (.slice none 0 0)
        obtain ⟨⟨r0, r1, r2, r3, r4⟩, r5, r6, r7, r8, r9⟩ := hF
        unfold put10 at r0 r1 r2 r3 r4 r5 r6 r7 r8 r9 hB10
        refine bodyPost_ret (v := .tuple #[.agg #[.int .i64 0, .int .i64 0, .int .i64 0, .int .i64 0, .int .i64 0, .int .i64 0, .int .i64 0, .int .i64 0, .slice none 0 0, .slice none 0 0], .bool false]) ?_ rfl ((HE.out _ _).2 ⟨.inr ⟨by simp only [wayN, wayL]; simp [hlL, hlK]; exact HSO.out.symm, rfl⟩, hB10⟩)
        simp [results, Try.results28, go_sem, r0, r1, r2, r3, r4, r5, r6, r7, r8, r9]
       | true =>
        obtain ⟨⟨o0, o1, o2, o3, o4⟩, o5, o6, o7, o8, o9⟩ := tenc HY14.out
        obtain ⟨⟨z0, z1, z2, z3, z4⟩, z5, z6, z7, z8, z9⟩ := tenc H14.out.hz
        obtain ⟨f0, f1, f2, f3, f4, f5, f6, f7, f8, f9⟩ := froz H14.out.hz
        go_wp2
        clear o0 o1 o2 o3 o4 o5 o6 o7 o8 o9
        clear z0 z1 z2 z3 z4 z5 z6 z7 z8 z9
        clear f0 f1 f2 f3 f4 f5 f6 f7 f8 f9
        have hT := tks_put10 HT14.out (B := w.heap.size + 2) (by omega) (.int .i64 1) (.int .i64 vf) (.int .i64 xt) (.int .i64 0) (.int .i64 0) (.int .i64 0) (.int .i64 0) (.int .i64 0) (.slice A3 (n' + n) c3) (.slice none 0 0)
        unfold put10 at hT
        have hF := tenc (put10_at H14.out.hz (.int .i64 1) (.int .i64 vf) (.int .i64 xt) (.int .i64 0) (.int .i64 0) (.int .i64 0) (.int .i64 0) (.int .i64 0) (.slice A3 (n' + n) c3) (.slice none 0 0))
        have hB10 := put10_below HB14.out (B := w.heap.size + 2) (by omega) (.int .i64 1) (.int .i64 vf) (.int .i64 xt) (.int .i64 0) (.int .i64 0) (.int .i64 0) (.int .i64 0) (.int .i64 0) (.slice A3 (n' + n) c3) (.slice none 0 0)
        obtain ⟨⟨r0, r1, r2, r3, r4⟩, r5, r6, r7, r8, r9⟩ := hF
        unfold put10 at r0 r1 r2 r3 r4 r5 r6 r7 r8 r9 hB10
        refine bodyPost_ret (v := .tuple #[.agg #[.int .i64 1, .int .i64 vf, .int .i64 xt, .int .i64 0, .int .i64 0, .int .i64 0, .int .i64 0, .int .i64 0, .slice A3 (n' + n) c3, .slice none 0 0], .bool true]) ?_ rfl ((HE.out _ _).2 ⟨.inl ⟨by simp only [wayN, wayL]; simp [hlL, hlK]; exact HSO.out.symm, _, rfl, hT.lower (by omega)⟩, hB10⟩)
        simp [results, Try.results28, go_sem, r0, r1, r2, r3, r4, r5, r6, r7, r8, r9]
      ·rw [if_neg g2] at hWk
       subst hWk
       obtain ⟨⟨y0, y1, y2, y3, y4⟩, y5, y6, y7, y8, y9⟩ := tenc H3.out.hx
       obtain ⟨⟨t0, t1, t2, t3, t4⟩, t5, t6, t7, t8, t9⟩ := tenc H3.out.hr
       go_upto_region 18 with fail
       clear y0 y1 y2 y3 y4 y5 y6 y7 y8 y9
       clear t0 t1 t2 t3 t4 t5 t6 t7 t8 t9
       obtain ⟨⟨z0, z1, z2, z3, z4⟩, z5, z6, z7, z8, z9⟩ := tenc H3.out.hz
       obtain ⟨f0, f1, f2, f3, f4, f5, f6, f7, f8, f9⟩ := froz H3.out.hz
       obtain ⟨⟨o0, o1, o2, o3, o4⟩, o5, o6, o7, o8, o9⟩ := tenc H3.out.ho
       go_wp2
       clear z0 z1 z2 z3 z4 z5 z6 z7 z8 z9
       clear f0 f1 f2 f3 f4 f5 f6 f7 f8 f9
       clear o0 o1 o2 o3 o4 o5 o6 o7 o8 o9
       have hF := tenc (put10_at H3.out.hz (.int .i64 0) (.int .i64 0) (.int .i64 0) (.int .i64 0) (.int .i64 0) (.int .i64 0) (.int .i64 0) (.int .i64 0) (.slice none 0 0) (.slice none 0 0))
       have hB10 := put10_below HB3.out (B := w.heap.size + 2) (by omega) (.int .i64 0) (.int .i64 0) (.int .i64 0) (.int .i64 0) (.int .i64 0) (.int .i64 0) (.int .i64 0) (.int .i64 0) (.slice none 0 0) (.slice none 0 0)
       obtain ⟨⟨r0, r1, r2, r3, r4⟩, r5, r6, r7, r8, r9⟩ := hF
       unfold put10 at r0 r1 r2 r3 r4 r5 r6 r7 r8 r9 hB10
       refine bodyPost_ret (v := .tuple #[.agg #[.int .i64 0, .int .i64 0, .int .i64 0, .int .i64 0, .int .i64 0, .int .i64 0, .int .i64 0, .int .i64 0, .slice none 0 0, .slice none 0 0], .bool false]) ?_ rfl ((HE.out _ _).2 ⟨.inr ⟨by simp, rfl⟩, hB10⟩)
       simp [results, Try.results28, go_sem, r0, r1, r2, r3, r4, r5, r6, r7, r8, r9]
    ·have hWk : WY = (if xm = vm ∧ xv = vv ∧ xf ≤ vt ∧ vf ≤ xt then 3 else 0) := by
      rw [HWY.out]
      simp
     clear HWY
     by_cases g : xm = vm ∧ xv = vv ∧ xf ≤ vt ∧ vf ≤ xt
     ·rw [if_pos g] at hWk
      subst hWk
      obtain ⟨rfl, rfl, g3, g4⟩ := g
      obtain ⟨⟨y0, y1, y2, y3, y4⟩, y5, y6, y7, y8, y9⟩ := tenc H3.out.hx
      obtain ⟨⟨t0, t1, t2, t3, t4⟩, t5, t6, t7, t8, t9⟩ := tenc H3.out.hr
      obtain ⟨⟨o0, o1, o2, o3, o4⟩, o5, o6, o7, o8, o9⟩ := tenc HY3.out
      obtain ⟨f0, f1, f2, f3, f4, f5, f6, f7, f8, f9⟩ := froz HY3.out
      go_upto_region 15 with fail
      clear y0 y1 y2 y3 y4 y5 y6 y7 y8 y9
      clear t0 t1 t2 t3 t4 t5 t6 t7 t8 t9
      clear o0 o1 o2 o3 o4 o5 o6 o7 o8 o9
      clear f0 f1 f2 f3 f4 f5 f6 f7 f8 f9
      have HB4 := Lib.hid (HB3.out.setCell (p := ⟨Y, 6, none⟩) hyw (.int .i64 xm))
      have H4 := Lib.hid (H3.out.set (Y := Y) (j := 6) (by omega) (.int .i64 xm))
      have HY4 : Hid ((W3.setCell ⟨Y, 6, none⟩ (.int .i64 xm)).heap[Y]? = some (.cells #[.int .i64 3, .int .i64 0, .int .i64 0, .int .i64 0, .int .i64 0, .int .i64 0, .int .i64 xm, .int .i64 0, .slice none 0 0, .slice none 0 0] 25)) := Lib.hid (by have := set_at (j := 6) HY3.out (.int .i64 xm); simpa using this)
      clear HB3 H3 HY3
      generalize W3.setCell ⟨Y, 6, none⟩ (.int .i64 xm) = W4 at HB4 H4 HY4 ⊢
      obtain ⟨⟨y0, y1, y2, y3, y4⟩, y5, y6, y7, y8, y9⟩ := tenc H4.out.hx
      obtain ⟨⟨t0, t1, t2, t3, t4⟩, t5, t6, t7, t8, t9⟩ := tenc H4.out.hr
      obtain ⟨⟨o0, o1, o2, o3, o4⟩, o5, o6, o7, o8, o9⟩ := tenc HY4.out
      obtain ⟨f0, f1, f2, f3, f4, f5, f6, f7, f8, f9⟩ := froz HY4.out
      go_upto_region 16 with fail
      clear y0 y1 y2 y3 y4 y5 y6 y7 y8 y9
      clear t0 t1 t2 t3 t4 t5 t6 t7 t8 t9
      clear o0 o1 o2 o3 o4 o5 o6 o7 o8 o9
      clear f0 f1 f2 f3 f4 f5 f6 f7 f8 f9
      have HB5 := Lib.hid (HB4.out.setCell (p := ⟨Y, 7, none⟩) hyw (.int .i64 xv))
      have H5 := Lib.hid (H4.out.set (Y := Y) (j := 7) (by omega) (.int .i64 xv))
      have HY5 : Hid ((W4.setCell ⟨Y, 7, none⟩ (.int .i64 xv)).heap[Y]? = some (.cells #[.int .i64 3, .int .i64 0, .int .i64 0, .int .i64 0, .int .i64 0, .int .i64 0, .int .i64 xm, .int .i64 xv, .slice none 0 0, .slice none 0 0] 25)) := Lib.hid (by have := set_at (j := 7) HY4.out (.int .i64 xv); simpa using this)
      clear HB4 H4 HY4
      generalize W4.setCell ⟨Y, 7, none⟩ (.int .i64 xv) = W5 at HB5 H5 HY5 ⊢
      obtain ⟨⟨y0, y1, y2, y3, y4⟩, y5, y6, y7, y8, y9⟩ := tenc H5.out.hx
      obtain ⟨⟨t0, t1, t2, t3, t4⟩, t5, t6, t7, t8, t9⟩ := tenc H5.out.hr
      obtain ⟨⟨o0, o1, o2, o3, o4⟩, o5, o6, o7, o8, o9⟩ := tenc HY5.out
      obtain ⟨f0, f1, f2, f3, f4, f5, f6, f7, f8, f9⟩ := froz HY5.out
      go_upto_region 17 with fail
      clear y0 y1 y2 y3 y4 y5 y6 y7 y8 y9
      clear t0 t1 t2 t3 t4 t5 t6 t7 t8 t9
      clear o0 o1 o2 o3 o4 o5 o6 o7 o8 o9
      clear f0 f1 f2 f3 f4 f5 f6 f7 f8 f9
      have HB6 := Lib.hid (HB5.out.setCell (p := ⟨Y, 1, none⟩) hyw (.int .i64 (min xf vf)))
      have H6 := Lib.hid (H5.out.set (Y := Y) (j := 1) (by omega) (.int .i64 (min xf vf)))
      have HY6 : Hid ((W5.setCell ⟨Y, 1, none⟩ (.int .i64 (min xf vf))).heap[Y]? = some (.cells #[.int .i64 3, .int .i64 (min xf vf), .int .i64 0, .int .i64 0, .int .i64 0, .int .i64 0, .int .i64 xm, .int .i64 xv, .slice none 0 0, .slice none 0 0] 25)) := Lib.hid (by have := set_at (j := 1) HY5.out (.int .i64 (min xf vf)); simpa using this)
      clear HB5 H5 HY5
      generalize W5.setCell ⟨Y, 1, none⟩ (.int .i64 (min xf vf)) = W6 at HB6 H6 HY6 ⊢
      obtain ⟨⟨y0, y1, y2, y3, y4⟩, y5, y6, y7, y8, y9⟩ := tenc H6.out.hx
      obtain ⟨⟨t0, t1, t2, t3, t4⟩, t5, t6, t7, t8, t9⟩ := tenc H6.out.hr
      obtain ⟨⟨o0, o1, o2, o3, o4⟩, o5, o6, o7, o8, o9⟩ := tenc HY6.out
      obtain ⟨f0, f1, f2, f3, f4, f5, f6, f7, f8, f9⟩ := froz HY6.out
      go_upto_region 19 with fail
      clear y0 y1 y2 y3 y4 y5 y6 y7 y8 y9
      clear t0 t1 t2 t3 t4 t5 t6 t7 t8 t9
      clear o0 o1 o2 o3 o4 o5 o6 o7 o8 o9
      clear f0 f1 f2 f3 f4 f5 f6 f7 f8 f9
      have HB7 := Lib.hid (HB6.out.setCell (p := ⟨Y, 2, none⟩) hyw (.int .i64 (max xt vt)))
      have H7 := Lib.hid (H6.out.set (Y := Y) (j := 2) (by omega) (.int .i64 (max xt vt)))
      have HY7 : Hid ((W6.setCell ⟨Y, 2, none⟩ (.int .i64 (max xt vt))).heap[Y]? = some (.cells #[.int .i64 3, .int .i64 (min xf vf), .int .i64 (max xt vt), .int .i64 0, .int .i64 0, .int .i64 0, .int .i64 xm, .int .i64 xv, .slice none 0 0, .slice none 0 0] 25)) := Lib.hid (by have := set_at (j := 2) HY6.out (.int .i64 (max xt vt)); simpa using this)
      clear HB6 H6 HY6
      generalize W6.setCell ⟨Y, 2, none⟩ (.int .i64 (max xt vt)) = W7 at HB7 H7 HY7 ⊢
      have HT7 : Hid (Tks (w.heap.size + 4) W7 (.slice none 0 0) ([] : List Tk.Tk)) := Lib.hid Tks.nil
      obtain ⟨⟨o0, o1, o2, o3, o4⟩, o5, o6, o7, o8, o9⟩ := tenc HY7.out
      go_wp2_with fail
      refine (CSO ⟨3, min xf vf, max xt vt, 0, 0, 0, xm, xv⟩ none 0 0 _ (by omega)).mono ?_
      rintro e W14 ⟨rfl, hb14⟩
      have HB14 := Lib.hid (HB7.out.trans (hb14.mono HB7.out.size))
      have H14 := Lib.hid (H7.out.step hb14)
      have HY14 := Lib.hid (hkeep hb14 HY7.out)
      have HT14 := Lib.hid (HT7.out.belowAll hb14)
      clear hb14 HB7 H7 HY7 HT7 CSO
      clear o0 o1 o2 o3 o4 o5 o6 o7 o8 o9
      obtain ⟨SO, hSO⟩ : ∃ b, b = shapeB ⟨3, min xf vf, max xt vt, 0, 0, 0, xm, xv⟩ (0) 0 := ⟨_, rfl⟩
      rw [← hSO]
      have HSO := Lib.hid hSO
      clear hSO
      cases SO with
      | false =>
       obtain ⟨⟨z0, z1, z2, z3, z4⟩, z5, z6, z7, z8, z9⟩ := tenc H14.out.hz
       obtain ⟨f0, f1, f2, f3, f4, f5, f6, f7, f8, f9⟩ := froz H14.out.hz
       obtain ⟨⟨o0, o1, o2, o3, o4⟩, o5, o6, o7, o8, o9⟩ := tenc H14.out.ho
       go_wp2
       clear z0 z1 z2 z3 z4 z5 z6 z7 z8 z9
       clear f0 f1 f2 f3 f4 f5 f6 f7 f8 f9
       clear o0 o1 o2 o3 o4 o5 o6 o7 o8 o9
       have hF := tenc (put10_at H14.out.hz (.int .i64 0) (.int .i64 0) (.int .i64 0) (.int .i64 0) (.int .i64 0) (.int .i64 0) (.int .i64 0) (.int .i64 0) (.slice none 0 0) (.slice none 0 0))
       have hB10 := put10_below HB14.out (B := w.heap.size + 2) (by omega) (.int .i64 0) (.int .i64 0) (.int .i64 0) (.int .i64 0) (.int .i64 0) (.int .i64 0) (.int .i64 0) (.int .i64 0) (.slice none 0 0) (.slice none 0 0)
       obtain ⟨⟨r0, r1, r2, r3, r4⟩, r5, r6, r7, r8, r9⟩ := hF
       unfold put10 at r0 r1 r2 r3 r4 r5 r6 r7 r8 r9 hB10
       refine bodyPost_ret (v := .tuple #[.agg #[.int .i64 0, .int .i64 0, .int .i64 0, .int .i64 0, .int .i64 0, .int .i64 0, .int .i64 0, .int .i64 0, .slice none 0 0, .slice none 0 0], .bool false]) ?_ rfl ((HE.out _ _).2 ⟨.inr ⟨by simp only [wayN, wayL, overN]; simp; exact HSO.out.symm, rfl⟩, hB10⟩)
       simp [results, Try.results28, go_sem, r0, r1, r2, r3, r4, r5, r6, r7, r8, r9]
      | true =>
       obtain ⟨⟨o0, o1, o2, o3, o4⟩, o5, o6, o7, o8, o9⟩ := tenc HY14.out
       obtain ⟨⟨z0, z1, z2, z3, z4⟩, z5, z6, z7, z8, z9⟩ := tenc H14.out.hz
       obtain ⟨f0, f1, f2, f3, f4, f5, f6, f7, f8, f9⟩ := froz H14.out.hz
       go_wp2
       clear o0 o1 o2 o3 o4 o5 o6 o7 o8 o9
       clear z0 z1 z2 z3 z4 z5 z6 z7 z8 z9
       clear f0 f1 f2 f3 f4 f5 f6 f7 f8 f9
       have hT := tks_put10 HT14.out (B := w.heap.size + 2) (by omega) (.int .i64 3) (.int .i64 (min xf vf)) (.int .i64 (max xt vt)) (.int .i64 0) (.int .i64 0) (.int .i64 0) (.int .i64 xm) (.int .i64 xv) (.slice none 0 0) (.slice none 0 0)
       unfold put10 at hT
       have hF := tenc (put10_at H14.out.hz (.int .i64 3) (.int .i64 (min xf vf)) (.int .i64 (max xt vt)) (.int .i64 0) (.int .i64 0) (.int .i64 0) (.int .i64 xm) (.int .i64 xv) (.slice none 0 0) (.slice none 0 0))
       have hB10 := put10_below HB14.out (B := w.heap.size + 2) (by omega) (.int .i64 3) (.int .i64 (min xf vf)) (.int .i64 (max xt vt)) (.int .i64 0) (.int .i64 0) (.int .i64 0) (.int .i64 xm) (.int .i64 xv) (.slice none 0 0) (.slice none 0 0)
       obtain ⟨⟨r0, r1, r2, r3, r4⟩, r5, r6, r7, r8, r9⟩ := hF
       unfold put10 at r0 r1 r2 r3 r4 r5 r6 r7 r8 r9 hB10
       refine bodyPost_ret (v := .tuple #[.agg #[.int .i64 3, .int .i64 (min xf vf), .int .i64 (max xt vt), .int .i64 0, .int .i64 0, .int .i64 0, .int .i64 xm, .int .i64 xv, .slice none 0 0, .slice none 0 0], .bool true]) ?_ rfl ((HE.out _ _).2 ⟨.inl ⟨by simp only [wayN, wayL, overN]; simp; exact HSO.out.symm, _, rfl, hT.lower (by omega)⟩, hB10⟩)
       simp [results, Try.results28, go_sem, r0, r1, r2, r3, r4, r5, r6, r7, r8, r9]
     ·rw [if_neg g] at hWk
      subst hWk
      by_cases j1 : xm = vm
      ·by_cases j2 : xv = vv
       ·by_cases j3 : xf ≤ vt
        ·have j4 : ¬ vf ≤ xt := fun h => g ⟨j1, j2, j3, h⟩
         subst j1 j2
         obtain ⟨⟨y0, y1, y2, y3, y4⟩, y5, y6, y7, y8, y9⟩ := tenc H3.out.hx
         obtain ⟨⟨t0, t1, t2, t3, t4⟩, t5, t6, t7, t8, t9⟩ := tenc H3.out.hr
         go_upto_region 18 with fail
         clear y0 y1 y2 y3 y4 y5 y6 y7 y8 y9
         clear t0 t1 t2 t3 t4 t5 t6 t7 t8 t9
         obtain ⟨⟨z0, z1, z2, z3, z4⟩, z5, z6, z7, z8, z9⟩ := tenc H3.out.hz
         obtain ⟨f0, f1, f2, f3, f4, f5, f6, f7, f8, f9⟩ := froz H3.out.hz
         obtain ⟨⟨o0, o1, o2, o3, o4⟩, o5, o6, o7, o8, o9⟩ := tenc H3.out.ho
         go_wp2
         clear z0 z1 z2 z3 z4 z5 z6 z7 z8 z9
         clear f0 f1 f2 f3 f4 f5 f6 f7 f8 f9
         clear o0 o1 o2 o3 o4 o5 o6 o7 o8 o9
         have hF := tenc (put10_at H3.out.hz (.int .i64 0) (.int .i64 0) (.int .i64 0) (.int .i64 0) (.int .i64 0) (.int .i64 0) (.int .i64 0) (.int .i64 0) (.slice none 0 0) (.slice none 0 0))
         have hB10 := put10_below HB3.out (B := w.heap.size + 2) (by omega) (.int .i64 0) (.int .i64 0) (.int .i64 0) (.int .i64 0) (.int .i64 0) (.int .i64 0) (.int .i64 0) (.int .i64 0) (.slice none 0 0) (.slice none 0 0)
         obtain ⟨⟨r0, r1, r2, r3, r4⟩, r5, r6, r7, r8, r9⟩ := hF
         unfold put10 at r0 r1 r2 r3 r4 r5 r6 r7 r8 r9 hB10
         refine bodyPost_ret (v := .tuple #[.agg #[.int .i64 0, .int .i64 0, .int .i64 0, .int .i64 0, .int .i64 0, .int .i64 0, .int .i64 0, .int .i64 0, .slice none 0 0, .slice none 0 0], .bool false]) ?_ rfl ((HE.out _ _).2 ⟨.inr ⟨by simp, rfl⟩, hB10⟩)
         simp [results, Try.results28, go_sem, r0, r1, r2, r3, r4, r5, r6, r7, r8, r9]
        ·subst j1 j2
         obtain ⟨⟨y0, y1, y2, y3, y4⟩, y5, y6, y7, y8, y9⟩ := tenc H3.out.hx
         obtain ⟨⟨t0, t1, t2, t3, t4⟩, t5, t6, t7, t8, t9⟩ := tenc H3.out.hr
         go_upto_region 18 with fail
         clear y0 y1 y2 y3 y4 y5 y6 y7 y8 y9
         clear t0 t1 t2 t3 t4 t5 t6 t7 t8 t9
         obtain ⟨⟨z0, z1, z2, z3, z4⟩, z5, z6, z7, z8, z9⟩ := tenc H3.out.hz
         obtain ⟨f0, f1, f2, f3, f4, f5, f6, f7, f8, f9⟩ := froz H3.out.hz
         obtain ⟨⟨o0, o1, o2, o3, o4⟩, o5, o6, o7, o8, o9⟩ := tenc H3.out.ho
         go_wp2
         clear z0 z1 z2 z3 z4 z5 z6 z7 z8 z9
         clear f0 f1 f2 f3 f4 f5 f6 f7 f8 f9
         clear o0 o1 o2 o3 o4 o5 o6 o7 o8 o9
         have hF := tenc (put10_at H3.out.hz (.int .i64 0) (.int .i64 0) (.int .i64 0) (.int .i64 0) (.int .i64 0) (.int .i64 0) (.int .i64 0) (.int .i64 0) (.slice none 0 0) (.slice none 0 0))
         have hB10 := put10_below HB3.out (B := w.heap.size + 2) (by omega) (.int .i64 0) (.int .i64 0) (.int .i64 0) (.int .i64 0) (.int .i64 0) (.int .i64 0) (.int .i64 0) (.int .i64 0) (.slice none 0 0) (.slice none 0 0)
         obtain ⟨⟨r0, r1, r2, r3, r4⟩, r5, r6, r7, r8, r9⟩ := hF
         unfold put10 at r0 r1 r2 r3 r4 r5 r6 r7 r8 r9 hB10
         refine bodyPost_ret (v := .tuple #[.agg #[.int .i64 0, .int .i64 0, .int .i64 0, .int .i64 0, .int .i64 0, .int .i64 0, .int .i64 0, .int .i64 0, .slice none 0 0, .slice none 0 0], .bool false]) ?_ rfl ((HE.out _ _).2 ⟨.inr ⟨by simp, rfl⟩, hB10⟩)
         simp [results, Try.results28, go_sem, r0, r1, r2, r3, r4, r5, r6, r7, r8, r9]
       ·subst j1
        obtain ⟨⟨y0, y1, y2, y3, y4⟩, y5, y6, y7, y8, y9⟩ := tenc H3.out.hx
        obtain ⟨⟨t0, t1, t2, t3, t4⟩, t5, t6, t7, t8, t9⟩ := tenc H3.out.hr
        go_upto_region 18 with fail
        clear y0 y1 y2 y3 y4 y5 y6 y7 y8 y9
        clear t0 t1 t2 t3 t4 t5 t6 t7 t8 t9
        obtain ⟨⟨z0, z1, z2, z3, z4⟩, z5, z6, z7, z8, z9⟩ := tenc H3.out.hz
        obtain ⟨f0, f1, f2, f3, f4, f5, f6, f7, f8, f9⟩ := froz H3.out.hz
        obtain ⟨⟨o0, o1, o2, o3, o4⟩, o5, o6, o7, o8, o9⟩ := tenc H3.out.ho
        go_wp2
        clear z0 z1 z2 z3 z4 z5 z6 z7 z8 z9
        clear f0 f1 f2 f3 f4 f5 f6 f7 f8 f9
        clear o0 o1 o2 o3 o4 o5 o6 o7 o8 o9
        have hF := tenc (put10_at H3.out.hz (.int .i64 0) (.int .i64 0) (.int .i64 0) (.int .i64 0) (.int .i64 0) (.int .i64 0) (.int .i64 0) (.int .i64 0) (.slice none 0 0) (.slice none 0 0))
        have hB10 := put10_below HB3.out (B := w.heap.size + 2) (by omega) (.int .i64 0) (.int .i64 0) (.int .i64 0) (.int .i64 0) (.int .i64 0) (.int .i64 0) (.int .i64 0) (.int .i64 0) (.slice none 0 0) (.slice none 0 0)
        obtain ⟨⟨r0, r1, r2, r3, r4⟩, r5, r6, r7, r8, r9⟩ := hF
        unfold put10 at r0 r1 r2 r3 r4 r5 r6 r7 r8 r9 hB10
        refine bodyPost_ret (v := .tuple #[.agg #[.int .i64 0, .int .i64 0, .int .i64 0, .int .i64 0, .int .i64 0, .int .i64 0, .int .i64 0, .int .i64 0, .slice none 0 0, .slice none 0 0], .bool false]) ?_ rfl ((HE.out _ _).2 ⟨.inr ⟨by simp, rfl⟩, hB10⟩)
        simp [results, Try.results28, go_sem, r0, r1, r2, r3, r4, r5, r6, r7, r8, r9]
      ·skip
       obtain ⟨⟨y0, y1, y2, y3, y4⟩, y5, y6, y7, y8, y9⟩ := tenc H3.out.hx
       obtain ⟨⟨t0, t1, t2, t3, t4⟩, t5, t6, t7, t8, t9⟩ := tenc H3.out.hr
       go_upto_region 18 with fail
       clear y0 y1 y2 y3 y4 y5 y6 y7 y8 y9
       clear t0 t1 t2 t3 t4 t5 t6 t7 t8 t9
       obtain ⟨⟨z0, z1, z2, z3, z4⟩, z5, z6, z7, z8, z9⟩ := tenc H3.out.hz
       obtain ⟨f0, f1, f2, f3, f4, f5, f6, f7, f8, f9⟩ := froz H3.out.hz
       obtain ⟨⟨o0, o1, o2, o3, o4⟩, o5, o6, o7, o8, o9⟩ := tenc H3.out.ho
       go_wp2
       clear z0 z1 z2 z3 z4 z5 z6 z7 z8 z9
       clear f0 f1 f2 f3 f4 f5 f6 f7 f8 f9
       clear o0 o1 o2 o3 o4 o5 o6 o7 o8 o9
       have hF := tenc (put10_at H3.out.hz (.int .i64 0) (.int .i64 0) (.int .i64 0) (.int .i64 0) (.int .i64 0) (.int .i64 0) (.int .i64 0) (.int .i64 0) (.slice none 0 0) (.slice none 0 0))
       have hB10 := put10_below HB3.out (B := w.heap.size + 2) (by omega) (.int .i64 0) (.int .i64 0) (.int .i64 0) (.int .i64 0) (.int .i64 0) (.int .i64 0) (.int .i64 0) (.int .i64 0) (.slice none 0 0) (.slice none 0 0)
       obtain ⟨⟨r0, r1, r2, r3, r4⟩, r5, r6, r7, r8, r9⟩ := hF
       unfold put10 at r0 r1 r2 r3 r4 r5 r6 r7 r8 r9 hB10
       refine bodyPost_ret (v := .tuple #[.agg #[.int .i64 0, .int .i64 0, .int .i64 0, .int .i64 0, .int .i64 0, .int .i64 0, .int .i64 0, .int .i64 0, .slice none 0 0, .slice none 0 0], .bool false]) ?_ rfl ((HE.out _ _).2 ⟨.inr ⟨by simp, rfl⟩, hB10⟩)
       simp [results, Try.results28, go_sem, r0, r1, r2, r3, r4, r5, r6, r7, r8, r9]
    ·have hWk : WY = (if xm = vm ∧ xv = vv ∧ xf ≤ vt ∧ vf ≤ xt then 3 else 0) := by
      rw [HWY.out]
      simp
     clear HWY
     by_cases g : xm = vm ∧ xv = vv ∧ xf ≤ vt ∧ vf ≤ xt
     ·rw [if_pos g] at hWk
      subst hWk
      obtain ⟨rfl, rfl, g3, g4⟩ := g
      obtain ⟨⟨y0, y1, y2, y3, y4⟩, y5, y6, y7, y8, y9⟩ := tenc H3.out.hx
      obtain ⟨⟨t0, t1, t2, t3, t4⟩, t5, t6, t7, t8, t9⟩ := tenc H3.out.hr
      obtain ⟨⟨o0, o1, o2, o3, o4⟩, o5, o6, o7, o8, o9⟩ := tenc HY3.out
      obtain ⟨f0, f1, f2, f3, f4, f5, f6, f7, f8, f9⟩ := froz HY3.out
      go_upto_region 15 with fail
      clear y0 y1 y2 y3 y4 y5 y6 y7 y8 y9
      clear t0 t1 t2 t3 t4 t5 t6 t7 t8 t9
      clear o0 o1 o2 o3 o4 o5 o6 o7 o8 o9
      clear f0 f1 f2 f3 f4 f5 f6 f7 f8 f9
      have HB4 := Lib.hid (HB3.out.setCell (p := ⟨Y, 6, none⟩) hyw (.int .i64 xm))
      have H4 := Lib.hid (H3.out.set (Y := Y) (j := 6) (by omega) (.int .i64 xm))
      have HY4 : Hid ((W3.setCell ⟨Y, 6, none⟩ (.int .i64 xm)).heap[Y]? = some (.cells #[.int .i64 4, .int .i64 0, .int .i64 0, .int .i64 0, .int .i64 0, .int .i64 0, .int .i64 xm, .int .i64 0, .slice none 0 0, .slice none 0 0] 25)) := Lib.hid (by have := set_at (j := 6) HY3.out (.int .i64 xm); simpa using this)
      clear HB3 H3 HY3
      generalize W3.setCell ⟨Y, 6, none⟩ (.int .i64 xm) = W4 at HB4 H4 HY4 ⊢
      obtain ⟨⟨y0, y1, y2, y3, y4⟩, y5, y6, y7, y8, y9⟩ := tenc H4.out.hx
      obtain ⟨⟨t0, t1, t2, t3, t4⟩, t5, t6, t7, t8, t9⟩ := tenc H4.out.hr
      obtain ⟨⟨o0, o1, o2, o3, o4⟩, o5, o6, o7, o8, o9⟩ := tenc HY4.out
      obtain ⟨f0, f1, f2, f3, f4, f5, f6, f7, f8, f9⟩ := froz HY4.out
      go_upto_region 16 with fail
      clear y0 y1 y2 y3 y4 y5 y6 y7 y8 y9
      clear t0 t1 t2 t3 t4 t5 t6 t7 t8 t9
      clear o0 o1 o2 o3 o4 o5 o6 o7 o8 o9
      clear f0 f1 f2 f3 f4 f5 f6 f7 f8 f9
      have HB5 := Lib.hid (HB4.out.setCell (p := ⟨Y, 7, none⟩) hyw (.int .i64 xv))
      have H5 := Lib.hid (H4.out.set (Y := Y) (j := 7) (by omega) (.int .i64 xv))
      have HY5 : Hid ((W4.setCell ⟨Y, 7, none⟩ (.int .i64 xv)).heap[Y]? = some (.cells #[.int .i64 4, .int .i64 0, .int .i64 0, .int .i64 0, .int .i64 0, .int .i64 0, .int .i64 xm, .int .i64 xv, .slice none 0 0, .slice none 0 0] 25)) := Lib.hid (by have := set_at (j := 7) HY4.out (.int .i64 xv); simpa using this)
      clear HB4 H4 HY4
      generalize W4.setCell ⟨Y, 7, none⟩ (.int .i64 xv) = W5 at HB5 H5 HY5 ⊢
      obtain ⟨⟨y0, y1, y2, y3, y4⟩, y5, y6, y7, y8, y9⟩ := tenc H5.out.hx
      obtain ⟨⟨t0, t1, t2, t3, t4⟩, t5, t6, t7, t8, t9⟩ := tenc H5.out.hr
      obtain ⟨⟨o0, o1, o2, o3, o4⟩, o5, o6, o7, o8, o9⟩ := tenc HY5.out
      obtain ⟨f0, f1, f2, f3, f4, f5, f6, f7, f8, f9⟩ := froz HY5.out
      go_upto_region 17 with fail
      clear y0 y1 y2 y3 y4 y5 y6 y7 y8 y9
      clear t0 t1 t2 t3 t4 t5 t6 t7 t8 t9
      clear o0 o1 o2 o3 o4 o5 o6 o7 o8 o9
      clear f0 f1 f2 f3 f4 f5 f6 f7 f8 f9
      have HB6 := Lib.hid (HB5.out.setCell (p := ⟨Y, 1, none⟩) hyw (.int .i64 (min xf vf)))
      have H6 := Lib.hid (H5.out.set (Y := Y) (j := 1) (by omega) (.int .i64 (min xf vf)))
      have HY6 : Hid ((W5.setCell ⟨Y, 1, none⟩ (.int .i64 (min xf vf))).heap[Y]? = some (.cells #[.int .i64 4, .int .i64 (min xf vf), .int .i64 0, .int .i64 0, .int .i64 0, .int .i64 0, .int .i64 xm, .int .i64 xv, .slice none 0 0, .slice none 0 0] 25)) := Lib.hid (by have := set_at (j := 1) HY5.out (.int .i64 (min xf vf)); simpa using this)
      clear HB5 H5 HY5
      generalize W5.setCell ⟨Y, 1, none⟩ (.int .i64 (min xf vf)) = W6 at HB6 H6 HY6 ⊢
      obtain ⟨⟨y0, y1, y2, y3, y4⟩, y5, y6, y7, y8, y9⟩ := tenc H6.out.hx
      obtain ⟨⟨t0, t1, t2, t3, t4⟩, t5, t6, t7, t8, t9⟩ := tenc H6.out.hr
      obtain ⟨⟨o0, o1, o2, o3, o4⟩, o5, o6, o7, o8, o9⟩ := tenc HY6.out
      obtain ⟨f0, f1, f2, f3, f4, f5, f6, f7, f8, f9⟩ := froz HY6.out
      go_upto_region 19 with fail
      clear y0 y1 y2 y3 y4 y5 y6 y7 y8 y9
      clear t0 t1 t2 t3 t4 t5 t6 t7 t8 t9
      clear o0 o1 o2 o3 o4 o5 o6 o7 o8 o9
      clear f0 f1 f2 f3 f4 f5 f6 f7 f8 f9
      have HB7 := Lib.hid (HB6.out.setCell (p := ⟨Y, 2, none⟩) hyw (.int .i64 (max xt vt)))
      have H7 := Lib.hid (H6.out.set (Y := Y) (j := 2) (by omega) (.int .i64 (max xt vt)))
      have HY7 : Hid ((W6.setCell ⟨Y, 2, none⟩ (.int .i64 (max xt vt))).heap[Y]? = some (.cells #[.int .i64 4, .int .i64 (min xf vf), .int .i64 (max xt vt), .int .i64 0, .int .i64 0, .int .i64 0, .int .i64 xm, .int .i64 xv, .slice none 0 0, .slice none 0 0] 25)) := Lib.hid (by have := set_at (j := 2) HY6.out (.int .i64 (max xt vt)); simpa using this)
      clear HB6 H6 HY6
      generalize W6.setCell ⟨Y, 2, none⟩ (.int .i64 (max xt vt)) = W7 at HB7 H7 HY7 ⊢
      have HT7 : Hid (Tks (w.heap.size + 4) W7 (.slice none 0 0) ([] : List Tk.Tk)) := Lib.hid Tks.nil
      obtain ⟨⟨o0, o1, o2, o3, o4⟩, o5, o6, o7, o8, o9⟩ := tenc HY7.out
      go_wp2_with fail
      refine (CSO ⟨4, min xf vf, max xt vt, 0, 0, 0, xm, xv⟩ none 0 0 _ (by omega)).mono ?_
      rintro e W14 ⟨rfl, hb14⟩
      have HB14 := Lib.hid (HB7.out.trans (hb14.mono HB7.out.size))
      have H14 := Lib.hid (H7.out.step hb14)
      have HY14 := Lib.hid (hkeep hb14 HY7.out)
      have HT14 := Lib.hid (HT7.out.belowAll hb14)
      clear hb14 HB7 H7 HY7 HT7 CSO
      clear o0 o1 o2 o3 o4 o5 o6 o7 o8 o9
      obtain ⟨SO, hSO⟩ : ∃ b, b = shapeB ⟨4, min xf vf, max xt vt, 0, 0, 0, xm, xv⟩ (0) 0 := ⟨_, rfl⟩
      rw [← hSO]
      have HSO := Lib.hid hSO
      clear hSO
      cases SO with
      | false =>
       obtain ⟨⟨z0, z1, z2, z3, z4⟩, z5, z6, z7, z8, z9⟩ := tenc H14.out.hz
       obtain ⟨f0, f1, f2, f3, f4, f5, f6, f7, f8, f9⟩ := froz H14.out.hz
       obtain ⟨⟨o0, o1, o2, o3, o4⟩, o5, o6, o7, o8, o9⟩ := tenc H14.out.ho
       go_wp2
       clear z0 z1 z2 z3 z4 z5 z6 z7 z8 z9
       clear f0 f1 f2 f3 f4 f5 f6 f7 f8 f9
       clear o0 o1 o2 o3 o4 o5 o6 o7 o8 o9
       have hF := tenc (put10_at H14.out.hz (.int .i64 0) (.int .i64 0) (.int .i64 0) (.int .i64 0) (.int .i64 0) (.int .i64 0) (.int .i64 0) (.int .i64 0) (.slice none 0 0) (.slice none 0 0))
       have hB10 := put10_below HB14.out (B := w.heap.size + 2) (by omega) (.int .i64 0) (.int .i64 0) (.int .i64 0) (.int .i64 0) (.int .i64 0) (.int .i64 0) (.int .i64 0) (.int .i64 0) (.slice none 0 0) (.slice none 0 0)
       obtain ⟨⟨r0, r1, r2, r3, r4⟩, r5, r6, r7, r8, r9⟩ := hF
       unfold put10 at r0 r1 r2 r3 r4 r5 r6 r7 r8 r9 hB10
       refine bodyPost_ret (v := .tuple #[.agg #[.int .i64 0, .int .i64 0, .int .i64 0, .int .i64 0, .int .i64 0, .int .i64 0, .int .i64 0, .int .i64 0, .slice none 0 0, .slice none 0 0], .bool false]) ?_ rfl ((HE.out _ _).2 ⟨.inr ⟨by simp only [wayN, wayL, overN]; simp; exact HSO.out.symm, rfl⟩, hB10⟩)
       simp [results, Try.results28, go_sem, r0, r1, r2, r3, r4, r5, r6, r7, r8, r9]
      | true =>
       obtain ⟨⟨o0, o1, o2, o3, o4⟩, o5, o6, o7, o8, o9⟩ := tenc HY14.out
       obtain ⟨⟨z0, z1, z2, z3, z4⟩, z5, z6, z7, z8, z9⟩ := tenc H14.out.hz
       obtain ⟨f0, f1, f2, f3, f4, f5, f6, f7, f8, f9⟩ := froz H14.out.hz
       go_wp2
       clear o0 o1 o2 o3 o4 o5 o6 o7 o8 o9
       clear z0 z1 z2 z3 z4 z5 z6 z7 z8 z9
       clear f0 f1 f2 f3 f4 f5 f6 f7 f8 f9
       have hT := tks_put10 HT14.out (B := w.heap.size + 2) (by omega) (.int .i64 4) (.int .i64 (min xf vf)) (.int .i64 (max xt vt)) (.int .i64 0) (.int .i64 0) (.int .i64 0) (.int .i64 xm) (.int .i64 xv) (.slice none 0 0) (.slice none 0 0)
       unfold put10 at hT
       have hF := tenc (put10_at H14.out.hz (.int .i64 4) (.int .i64 (min xf vf)) (.int .i64 (max xt vt)) (.int .i64 0) (.int .i64 0) (.int .i64 0) (.int .i64 xm) (.int .i64 xv) (.slice none 0 0) (.slice none 0 0))
       have hB10 := put10_below HB14.out (B := w.heap.size + 2) (by omega) (.int .i64 4) (.int .i64 (min xf vf)) (.int .i64 (max xt vt)) (.int .i64 0) (.int .i64 0) (.int .i64 0) (.int .i64 xm) (.int .i64 xv) (.slice none 0 0) (.slice none 0 0)
       obtain ⟨⟨r0, r1, r2, r3, r4⟩, r5, r6, r7, r8, r9⟩ := hF
       unfold put10 at r0 r1 r2 r3 r4 r5 r6 r7 r8 r9 hB10
       refine bodyPost_ret (v := .tuple #[.agg #[.int .i64 4, .int .i64 (min xf vf), .int .i64 (max xt vt), .int .i64 0, .int .i64 0, .int .i64 0, .int .i64 xm, .int .i64 xv, .slice none 0 0, .slice none 0 0], .bool true]) ?_ rfl ((HE.out _ _).2 ⟨.inl ⟨by simp only [wayN, wayL, overN]; simp; exact HSO.out.symm, _, rfl, hT.lower (by omega)⟩, hB10⟩)
       simp [results, Try.results28, go_sem, r0, r1, r2, r3, r4, r5, r6, r7, r8, r9]
     ·rw [if_neg g] at hWk
      subst hWk
      by_cases j1 : xm = vm
      ·by_cases j2 : xv = vv
       ·by_cases j3 : xf ≤ vt
        ·have j4 : ¬ vf ≤ xt := fun h => g ⟨j1, j2, j3, h⟩
         subst j1 j2
         obtain ⟨⟨y0, y1, y2, y3, y4⟩, y5, y6, y7, y8, y9⟩ := tenc H3.out.hx
         obtain ⟨⟨t0, t1, t2, t3, t4⟩, t5, t6, t7, t8, t9⟩ := tenc H3.out.hr
         go_upto_region 18 with fail
         clear y0 y1 y2 y3 y4 y5 y6 y7 y8 y9
         clear t0 t1 t2 t3 t4 t5 t6 t7 t8 t9
         obtain ⟨⟨z0, z1, z2, z3, z4⟩, z5, z6, z7, z8, z9⟩ := tenc H3.out.hz
         obtain ⟨f0, f1, f2, f3, f4, f5, f6, f7, f8, f9⟩ := froz H3.out.hz
         obtain ⟨⟨o0, o1, o2, o3, o4⟩, o5, o6, o7, o8, o9⟩ := tenc H3.out.ho
         go_wp2
         clear z0 z1 z2 z3 z4 z5 z6 z7 z8 z9
         clear f0 f1 f2 f3 f4 f5 f6 f7 f8 f9
         clear o0 o1 o2 o3 o4 o5 o6 o7 o8 o9
         have hF := tenc (put10_at H3.out.hz (.int .i64 0) (.int .i64 0) (.int .i64 0) (.int .i64 0) (.int .i64 0) (.int .i64 0) (.int .i64 0) (.int .i64 0) (.slice none 0 0) (.slice none 0 0))
         have hB10 := put10_below HB3.out (B := w.heap.size + 2) (by omega) (.int .i64 0) (.int .i64 0) (.int .i64 0) (.int .i64 0) (.int .i64 0) (.int .i64 0) (.int .i64 0) (.int .i64 0) (.slice none 0 0) (.slice none 0 0)
         obtain ⟨⟨r0, r1, r2, r3, r4⟩, r5, r6, r7, r8, r9⟩ := hF
         unfold put10 at r0 r1 r2 r3 r4 r5 r6 r7 r8 r9 hB10
         refine bodyPost_ret (v := .tuple #[.agg #[.int .i64 0, .int .i64 0, .int .i64 0, .int .i64 0, .int .i64 0, .int .i64 0, .int .i64 0, .int .i64 0, .slice none 0 0, .slice none 0 0], .bool false]) ?_ rfl ((HE.out _ _).2 ⟨.inr ⟨by simp, rfl⟩, hB10⟩)
         simp [results, Try.results28, go_sem, r0, r1, r2, r3, r4, r5, r6, r7, r8, r9]
        ·subst j1 j2
         obtain ⟨⟨y0, y1, y2, y3, y4⟩, y5, y6, y7, y8, y9⟩ := tenc H3.out.hx
         obtain ⟨⟨t0, t1, t2, t3, t4⟩, t5, t6, t7, t8, t9⟩ := tenc H3.out.hr
         go_upto_region 18 with fail
         clear y0 y1 y2 y3 y4 y5 y6 y7 y8 y9
         clear t0 t1 t2 t3 t4 t5 t6 t7 t8 t9
         obtain ⟨⟨z0, z1, z2, z3, z4⟩, z5, z6, z7, z8, z9⟩ := tenc H3.out.hz
         obtain ⟨f0, f1, f2, f3, f4, f5, f6, f7, f8, f9⟩ := froz H3.out.hz
         obtain ⟨⟨o0, o1, o2, o3, o4⟩, o5, o6, o7, o8, o9⟩ := tenc H3.out.ho
         go_wp2
         clear z0 z1 z2 z3 z4 z5 z6 z7 z8 z9
         clear f0 f1 f2 f3 f4 f5 f6 f7 f8 f9
         clear o0 o1 o2 o3 o4 o5 o6 o7 o8 o9
         have hF := tenc (put10_at H3.out.hz (.int .i64 0) (.int .i64 0) (.int .i64 0) (.int .i64 0) (.int .i64 0) (.int .i64 0) (.int .i64 0) (.int .i64 0) (.slice none 0 0) (.slice none 0 0))
         have hB10 := put10_below HB3.out (B := w.heap.size + 2) (by omega) (.int .i64 0) (.int .i64 0) (.int .i64 0) (.int .i64 0) (.int .i64 0) (.int .i64 0) (.int .i64 0) (.int .i64 0) (.slice none 0 0) (.slice none 0 0)
         obtain ⟨⟨r0, r1, r2, r3, r4⟩, r5, r6, r7, r8, r9⟩ := hF
         unfold put10 at r0 r1 r2 r3 r4 r5 r6 r7 r8 r9 hB10
         refine bodyPost_ret (v := .tuple #[.agg #[.int .i64 0, .int .i64 0, .int .i64 0, .int .i64 0, .int .i64 0, .int .i64 0, .int .i64 0, .int .i64 0, .slice none 0 0, .slice none 0 0], .bool false]) ?_ rfl ((HE.out _ _).2 ⟨.inr ⟨by simp, rfl⟩, hB10⟩)
         simp [results, Try.results28, go_sem, r0, r1, r2, r3, r4, r5, r6, r7, r8, r9]
       ·subst j1
        obtain ⟨⟨y0, y1, y2, y3, y4⟩, y5, y6, y7, y8, y9⟩ := tenc H3.out.hx
        obtain ⟨⟨t0, t1, t2, t3, t4⟩, t5, t6, t7, t8, t9⟩ := tenc H3.out.hr
        go_upto_region 18 with fail
        clear y0 y1 y2 y3 y4 y5 y6 y7 y8 y9
        clear t0 t1 t2 t3 t4 t5 t6 t7 t8 t9
        obtain ⟨⟨z0, z1, z2, z3, z4⟩, z5, z6, z7, z8, z9⟩ := tenc H3.out.hz
        obtain ⟨f0, f1, f2, f3, f4, f5, f6, f7, f8, f9⟩ := froz H3.out.hz
        obtain ⟨⟨o0, o1, o2, o3, o4⟩, o5, o6, o7, o8, o9⟩ := tenc H3.out.ho
        go_wp2
        clear z0 z1 z2 z3 z4 z5 z6 z7 z8 z9
        clear f0 f1 f2 f3 f4 f5 f6 f7 f8 f9
        clear o0 o1 o2 o3 o4 o5 o6 o7 o8 o9
        have hF := tenc (put10_at H3.out.hz (.int .i64 0) (.int .i64 0) (.int .i64 0) (.int .i64 0) (.int .i64 0) (.int .i64 0) (.int .i64 0) (.int .i64 0) (.slice none 0 0) (.slice none 0 0))
        have hB10 := put10_below HB3.out (B := w.heap.size + 2) (by omega) (.int .i64 0) (.int .i64 0) (.int .i64 0) (.int .i64 0) (.int .i64 0) (.int .i64 0) (.int .i64 0) (.int .i64 0) (.slice none 0 0) (.slice none 0 0)
        obtain ⟨⟨r0, r1, r2, r3, r4⟩, r5, r6, r7, r8, r9⟩ := hF
        unfold put10 at r0 r1 r2 r3 r4 r5 r6 r7 r8 r9 hB10
        refine bodyPost_ret (v := .tuple #[.agg #[.int .i64 0, .int .i64 0, .int .i64 0, .int .i64 0, .int .i64 0, .int .i64 0, .int .i64 0, .int .i64 0, .slice none 0 0, .slice none 0 0], .bool false]) ?_ rfl ((HE.out _ _).2 ⟨.inr ⟨by simp, rfl⟩, hB10⟩)
        simp [results, Try.results28, go_sem, r0, r1, r2, r3, r4, r5, r6, r7, r8, r9]
      ·skip
       obtain ⟨⟨y0, y1, y2, y3, y4⟩, y5, y6, y7, y8, y9⟩ := tenc H3.out.hx
       obtain ⟨⟨t0, t1, t2, t3, t4⟩, t5, t6, t7, t8, t9⟩ := tenc H3.out.hr
       go_upto_region 18 with fail
       clear y0 y1 y2 y3 y4 y5 y6 y7 y8 y9
       clear t0 t1 t2 t3 t4 t5 t6 t7 t8 t9
       obtain ⟨⟨z0, z1, z2, z3, z4⟩, z5, z6, z7, z8, z9⟩ := tenc H3.out.hz
       obtain ⟨f0, f1, f2, f3, f4, f5, f6, f7, f8, f9⟩ := froz H3.out.hz
       obtain ⟨⟨o0, o1, o2, o3, o4⟩, o5, o6, o7, o8, o9⟩ := tenc H3.out.ho
       go_wp2
       clear z0 z1 z2 z3 z4 z5 z6 z7 z8 z9
       clear f0 f1 f2 f3 f4 f5 f6 f7 f8 f9
       clear o0 o1 o2 o3 o4 o5 o6 o7 o8 o9
       have hF := tenc (put10_at H3.out.hz (.int .i64 0) (.int .i64 0) (.int .i64 0) (.int .i64 0) (.int .i64 0) (.int .i64 0) (.int .i64 0) (.int .i64 0) (.slice none 0 0) (.slice none 0 0))
       have hB10 := put10_below HB3.out (B := w.heap.size + 2) (by omega) (.int .i64 0) (.int .i64 0) (.int .i64 0) (.int .i64 0) (.int .i64 0) (.int .i64 0) (.int .i64 0) (.int .i64 0) (.slice none 0 0) (.slice none 0 0)
       obtain ⟨⟨r0, r1, r2, r3, r4⟩, r5, r6, r7, r8, r9⟩ := hF
       unfold put10 at r0 r1 r2 r3 r4 r5 r6 r7 r8 r9 hB10
       refine bodyPost_ret (v := .tuple #[.agg #[.int .i64 0, .int .i64 0, .int .i64 0, .int .i64 0, .int .i64 0, .int .i64 0, .int .i64 0, .int .i64 0, .slice none 0 0, .slice none 0 0], .bool false]) ?_ rfl ((HE.out _ _).2 ⟨.inr ⟨by simp, rfl⟩, hB10⟩)
       simp [results, Try.results28, go_sem, r0, r1, r2, r3, r4, r5, r6, r7, r8, r9]
    ·have hWk : WY = 0 := by
      rw [HWY.out]
      simp [k1, k3, k4]
     subst hWk
     clear HWY
     obtain ⟨⟨y0, y1, y2, y3, y4⟩, y5, y6, y7, y8, y9⟩ := tenc H3.out.hx
     obtain ⟨⟨t0, t1, t2, t3, t4⟩, t5, t6, t7, t8, t9⟩ := tenc H3.out.hr
     go_upto_region 18 with fail
     clear y0 y1 y2 y3 y4 y5 y6 y7 y8 y9
     clear t0 t1 t2 t3 t4 t5 t6 t7 t8 t9
     obtain ⟨⟨z0, z1, z2, z3, z4⟩, z5, z6, z7, z8, z9⟩ := tenc H3.out.hz
     obtain ⟨f0, f1, f2, f3, f4, f5, f6, f7, f8, f9⟩ := froz H3.out.hz
     obtain ⟨⟨o0, o1, o2, o3, o4⟩, o5, o6, o7, o8, o9⟩ := tenc H3.out.ho
     go_wp2
     clear z0 z1 z2 z3 z4 z5 z6 z7 z8 z9
     clear f0 f1 f2 f3 f4 f5 f6 f7 f8 f9
     clear o0 o1 o2 o3 o4 o5 o6 o7 o8 o9
     have hF := tenc (put10_at H3.out.hz (.int .i64 0) (.int .i64 0) (.int .i64 0) (.int .i64 0) (.int .i64 0) (.int .i64 0) (.int .i64 0) (.int .i64 0) (.slice none 0 0) (.slice none 0 0))
     have hB10 := put10_below HB3.out (B := w.heap.size + 2) (by omega) (.int .i64 0) (.int .i64 0) (.int .i64 0) (.int .i64 0) (.int .i64 0) (.int .i64 0) (.int .i64 0) (.int .i64 0) (.slice none 0 0) (.slice none 0 0)
     obtain ⟨⟨r0, r1, r2, r3, r4⟩, r5, r6, r7, r8, r9⟩ := hF
     unfold put10 at r0 r1 r2 r3 r4 r5 r6 r7 r8 r9 hB10
     refine bodyPost_ret (v := .tuple #[.agg #[.int .i64 0, .int .i64 0, .int .i64 0, .int .i64 0, .int .i64 0, .int .i64 0, .int .i64 0, .int .i64 0, .slice none 0 0, .slice none 0 0], .bool false]) ?_ rfl ((HE.out _ _).2 ⟨.inr ⟨by simp, rfl⟩, hB10⟩)
     simp [results, Try.results28, go_sem, r0, r1, r2, r3, r4, r5, r6, r7, r8, r9]
   ·have hW0 : WY = 0 := HWK.out e0
    subst hW0
    obtain ⟨⟨y0, y1, y2, y3, y4⟩, y5, y6, y7, y8, y9⟩ := tenc H2.out.hx
    obtain ⟨⟨t0, t1, t2, t3, t4⟩, t5, t6, t7, t8, t9⟩ := tenc H2.out.hr
    obtain ⟨⟨z0, z1, z2, z3, z4⟩, z5, z6, z7, z8, z9⟩ := tenc H2.out.hz
    obtain ⟨f0, f1, f2, f3, f4, f5, f6, f7, f8, f9⟩ := froz H2.out.hz
    obtain ⟨⟨o0, o1, o2, o3, o4⟩, o5, o6, o7, o8, o9⟩ := tenc H2.out.ho
    go_wp2
    clear z0 z1 z2 z3 z4 z5 z6 z7 z8 z9
    clear f0 f1 f2 f3 f4 f5 f6 f7 f8 f9
    clear o0 o1 o2 o3 o4 o5 o6 o7 o8 o9
    have hF := tenc (put10_at H2.out.hz (.int .i64 0) (.int .i64 0) (.int .i64 0) (.int .i64 0) (.int .i64 0) (.int .i64 0) (.int .i64 0) (.int .i64 0) (.slice none 0 0) (.slice none 0 0))
    have hB10 := put10_below HB2.out (B := w.heap.size + 2) (by omega) (.int .i64 0) (.int .i64 0) (.int .i64 0) (.int .i64 0) (.int .i64 0) (.int .i64 0) (.int .i64 0) (.int .i64 0) (.slice none 0 0) (.slice none 0 0)
    obtain ⟨⟨r0, r1, r2, r3, r4⟩, r5, r6, r7, r8, r9⟩ := hF
    unfold put10 at r0 r1 r2 r3 r4 r5 r6 r7 r8 r9 hB10
    refine bodyPost_ret (v := .tuple #[.agg #[.int .i64 0, .int .i64 0, .int .i64 0, .int .i64 0, .int .i64 0, .int .i64 0, .int .i64 0, .int .i64 0, .slice none 0 0, .slice none 0 0], .bool false]) ?_ rfl ((HE.out _ _).2 ⟨.inr ⟨by simp, rfl⟩, hB10⟩)
    simp [results, Try.results28, go_sem, r0, r1, r2, r3, r4, r5, r6, r7, r8, r9]
end Go.Proofs.Ytlbkfenlbkibgaa.St
