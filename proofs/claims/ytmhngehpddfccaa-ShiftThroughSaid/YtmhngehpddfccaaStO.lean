/- Steps: gone. -/
import Derived.Test.YtmhngehpddfccaaStN
import Derived.Lib.MinMax
namespace Go.Proofs.Ytmhngehpddfccaa.St
open Go.RowKit Mem Sm Tk Rt
set_option linter.unusedVariables false
set_option linter.unusedSimpArgs false
/-- does a shaped step go on -/
noncomputable def goneB (T : Int → Int → Option Rt.St) (x : Sp) : Bool :=
  ((T x.from_ 1).isSome && (T x.to_ (-1)).isSome) && !((endP (T x.from_ 1)).inside && (endP (T x.to_ (-1))).inside) &&
  (if x.kind = 2 then ((T x.gf (-1)).isSome && (T x.gt 1).isSome) && decide ((endP (T x.gt 1)).pos ≤ (endP (T x.to_ (-1))).pos)
   else if x.kind = 1 then true
   else if x.kind = 5 then keepsB T x (endP (T x.from_ 1)).pos
   else decide ((endP (T x.to_ (-1))).pos > (endP (T x.from_ 1)).pos))
/-- what it is then -/
def goneN (T : Int → Int → Option Rt.St) (x : Sp) : Sp :=
  if x.kind = 2 then ⟨x.kind, (endP (T x.from_ 1)).pos, max (endP (T x.to_ (-1))).pos (endP (T x.from_ 1)).pos, (endP (T x.gf (-1))).pos, (endP (T x.gt 1)).pos, x.ins, x.mark, x.val⟩
  else if x.kind = 1 then ⟨x.kind, (endP (T x.from_ 1)).pos, max (endP (T x.to_ (-1))).pos (endP (T x.from_ 1)).pos, x.gf, x.gt, x.ins, x.mark, x.val⟩
  else if x.kind = 5 then ⟨x.kind, (endP (T x.from_ 1)).pos, wrap64 (wrap64 ((endP (T x.from_ 1)).pos + x.to_) - x.from_), x.gf, x.gt, x.ins, x.mark, x.val⟩
  else ⟨x.kind, (endP (T x.from_ 1)).pos, (endP (T x.to_ (-1))).pos, x.gf, x.gt, x.ins, x.mark, x.val⟩
def GoneIs (T : Int → Int → Option Rt.St) (x : Sp) (A B : Option Addr) (n m c d : Nat) (e : Ending) : Prop :=
  (goneB T x = true ∧ e = .returned (.tuple #[stV (goneN T x) (.slice A n c) (.slice B m d), .bool true])) ∨
  (goneB T x = false ∧ ∃ y A' B' n' m' c' d', e = .returned (.tuple #[stV y (.slice A' n' c') (.slice B' m' d'), .bool false]))
set_option maxRecDepth 100000 in
set_option maxHeartbeats 8000000 in
theorem gone_any {pv : Value} {R : World → Prop} {T : Int → Int → Option Rt.St} (HT : Tells pv R T) (x : Sp) (A B : Option Addr) (n m c d : Nat) (w : World) (hR : R w) (hs : shapeB x n m = true) :
    Calls Try.prog 36 #[wayV pv, stV x (.slice A n c) (.slice B m d)] w fun e w' => GoneIs T x A B n m c d e ∧ Below w.heap.size w w' := by
  have hstep := HT.step
  have hg := shape_of hs
  clear hs
  have hb := hg.1
  have hk : x.kind = 1 ∨ x.kind = 2 ∨ x.kind = 5 ∨ (¬ x.kind = 1 ∧ ¬ x.kind = 2 ∧ ¬ x.kind = 5) := by have := hg.2; unfold formP at this; omega
  clear hg
  unfold boundP at hb
  have CB := fun W => both_any HT x.from_ 1 x.to_ (-1) W
  have CG := fun W t => gap_any HT x A B n m c d t W
  have CK := fun W fr q => keeps_any HT x A B n m c d fr W q ⟨hb.1, hb.2.1, hb.2.2.1⟩
  obtain ⟨E, hE⟩ : ∃ E : Ending → Prop, E = GoneIs T x A B n m c d := ⟨_, rfl⟩
  rw [← hE]
  have HE := Lib.hid hE
  clear hE
  unfold GoneIs goneB goneN at HE
  obtain ⟨P, hP⟩ : ∃ P, P = endP (T x.from_ 1) := ⟨_, rfl⟩
  obtain ⟨Q, hQ⟩ : ∃ P, P = endP (T x.to_ (-1)) := ⟨_, rfl⟩
  obtain ⟨F, hF⟩ : ∃ P, P = ((T x.from_ 1).isSome && (T x.to_ (-1)).isSome) := ⟨_, rfl⟩
  simp only [← hP, ← hQ, ← hF] at CB HE
  clear hP hQ hF
  obtain ⟨p0, p1, p2, p3, p4⟩ := P
  obtain ⟨q0, q1, q2, q3, q4⟩ := Q
  obtain ⟨KV, hKV⟩ : ∃ b, b = keepsB T x p0 := ⟨_, rfl⟩
  have CK := fun W q => CK W p0 q
  simp only [← hKV] at CK HE
  clear hKV
  have CG := fun W => CG W q0
  obtain ⟨U, hU⟩ : ∃ P, P = (endP (T x.gf (-1))).pos := ⟨_, rfl⟩
  obtain ⟨V, hV⟩ : ∃ P, P = (endP (T x.gt 1)).pos := ⟨_, rfl⟩
  obtain ⟨G, hG⟩ : ∃ P, P = ((T x.gf (-1)).isSome && (T x.gt 1).isSome) := ⟨_, rfl⟩
  simp only [← hU, ← hV, ← hG] at CG HE
  clear hU hV hG
  obtain ⟨H, hH⟩ : ∃ b, b = (G && decide (V ≤ q0)) := ⟨_, rfl⟩
  simp only [← hH] at CG HE
  clear hH HT
  obtain ⟨xk, xf, xt, xg, xh, xi, xm, xv⟩ := x
  unfold plV at CB
  unfold stV stC at CG CK HE
  unfold stV stC
  simp only at CB CG CK HE hk hb ⊢
  clear hb
  have s1 : ∀ (W : World) (o : Obj), (W.alloc o).heap.size = W.heap.size + 1 := fun W o => by simp
  have hb0 := ((Below.refl _ w).alloc (Nat.le_refl _) (.cells #[.int .i64 xk, .int .i64 xf, .int .i64 xt, .int .i64 xg, .int .i64 xh, .int .i64 xi, .int .i64 xm, .int .i64 xv, .slice A n c, .slice B m d] 25)).alloc (by simp) (.cells #[.int .i64 0, .int .i64 0, .int .i64 0, .int .i64 0, .int .i64 0, .int .i64 0, .int .i64 0, .int .i64 0, .slice none 0 0, .slice none 0 0] 25)
  have hx : ((w.alloc (.cells #[.int .i64 xk, .int .i64 xf, .int .i64 xt, .int .i64 xg, .int .i64 xh, .int .i64 xi, .int .i64 xm, .int .i64 xv, .slice A n c, .slice B m d] 25)).alloc (.cells #[.int .i64 0, .int .i64 0, .int .i64 0, .int .i64 0, .int .i64 0, .int .i64 0, .int .i64 0, .int .i64 0, .slice none 0 0, .slice none 0 0] 25)).heap[w.heap.size]? = some (.cells #[.int .i64 xk, .int .i64 xf, .int .i64 xt, .int .i64 xg, .int .i64 xh, .int .i64 xi, .int .i64 xm, .int .i64 xv, .slice A n c, .slice B m d] 25) := by rw [Below.heap_alloc _ _ _ (by simp), heap_alloc_new]
  have hz := heap_alloc_new (w.alloc (.cells #[.int .i64 xk, .int .i64 xf, .int .i64 xt, .int .i64 xg, .int .i64 xh, .int .i64 xi, .int .i64 xm, .int .i64 xv, .slice A n c, .slice B m d] 25)) (.cells #[.int .i64 0, .int .i64 0, .int .i64 0, .int .i64 0, .int .i64 0, .int .i64 0, .int .i64 0, .int .i64 0, .slice none 0 0, .slice none 0 0] 25)
  rw [s1] at hz
  have HB := Lib.hid hb0
  have HX := Lib.hid hx
  have HZ := Lib.hid hz
  have CW := CB _ (hstep _ _ hR hb0)
  obtain ⟨⟨y0, y1, y2, y3, y4⟩, y5, y6, y7, y8, y9⟩ := tenc hx
  clear hb0 hx hz CB
  go_enter Try.func36, Try.ntmps36
  go_wp2_with fail
  refine CW.mono ?_
  rintro e w1 ⟨rfl, hb1⟩
  have HB1 := Lib.hid (HB.out.trans (hb1.mono HB.out.size))
  have HX1 := Lib.hid (hkeep hb1 HX.out)
  have HZ1 := Lib.hid (hkeep hb1 HZ.out)
  have hsz := lt_some HZ1.out
  clear CW hb1 HB HX HZ y0 y1 y2 y3 y4 y5 y6 y7 y8 y9
  go_upto_region 2 with fail
  have hb2 := (HB1.out.alloc HB1.out.size (plO ⟨p0, p1, p2, p3, p4⟩)).alloc (by have := HB1.out.size; simp; omega) (plO ⟨q0, q1, q2, q3, q4⟩)
  have hbb : Below w1.heap.size w1 ((w1.alloc (plO ⟨p0, p1, p2, p3, p4⟩)).alloc (plO ⟨q0, q1, q2, q3, q4⟩)) := ((Below.refl _ w1).alloc (Nat.le_refl _) _).alloc (by simp) _
  have HX2 := Lib.hid (hkeep hbb HX1.out)
  have HZ2 := Lib.hid (hkeep hbb HZ1.out)
  have hpp : ((w1.alloc (plO ⟨p0, p1, p2, p3, p4⟩)).alloc (plO ⟨q0, q1, q2, q3, q4⟩)).heap[w1.heap.size]? = some (plO ⟨p0, p1, p2, p3, p4⟩) := by rw [Below.heap_alloc _ _ _ (by simp), heap_alloc_new]
  have hqq := heap_alloc_new (w1.alloc (plO ⟨p0, p1, p2, p3, p4⟩)) (plO ⟨q0, q1, q2, q3, q4⟩)
  rw [s1] at hqq
  have HP2 := Lib.hid hpp
  have HQ2 := Lib.hid hqq
  have HB2 := Lib.hid hb2
  clear hb2 hbb hpp hqq HB1 HX1 HZ1 s1
  generalize (w1.alloc (plO ⟨p0, p1, p2, p3, p4⟩)).alloc (plO ⟨q0, q1, q2, q3, q4⟩) = W at HB2 HX2 HZ2 HP2 HQ2 ⊢
  generalize hB1 : w1.heap.size = B1 at *
  have hlt2 := lt_some HQ2.out
  clear hB1
  cases F with
  | false =>
    clear CG CK hstep hR
    obtain ⟨⟨y0, y1, y2, y3, y4⟩, y5, y6, y7, y8, y9⟩ := tenc HZ2.out
    obtain ⟨f0, f1, f2, f3, f4, f5, f6, f7, f8, f9⟩ := froz HZ2.out
    go_wp2
    have hend : E (.returned (.tuple #[.agg #[.int .i64 0, .int .i64 0, .int .i64 0, .int .i64 0, .int .i64 0, .int .i64 0, .int .i64 0, .int .i64 0, .slice none 0 0, .slice none 0 0], .bool false])) := by
      rw [HE.out]
      exact .inr ⟨by simp, ⟨0, 0, 0, 0, 0, 0, 0, 0⟩, none, none, 0, 0, 0, 0, rfl⟩
    have hF := tenc (put10_at HZ2.out (.int .i64 0) (.int .i64 0) (.int .i64 0) (.int .i64 0) (.int .i64 0) (.int .i64 0) (.int .i64 0) (.int .i64 0) (.slice none 0 0) (.slice none 0 0))
    have hB10 := put10_below HB2.out (B := w.heap.size + 1) (by omega) (.int .i64 0) (.int .i64 0) (.int .i64 0) (.int .i64 0) (.int .i64 0) (.int .i64 0) (.int .i64 0) (.int .i64 0) (.slice none 0 0) (.slice none 0 0)
    obtain ⟨⟨r0, r1, r2, r3, r4⟩, r5, r6, r7, r8, r9⟩ := hF
    unfold put10 at r0 r1 r2 r3 r4 r5 r6 r7 r8 r9 hB10
    refine bodyPost_ret (v := .tuple #[.agg #[.int .i64 0, .int .i64 0, .int .i64 0, .int .i64 0, .int .i64 0, .int .i64 0, .int .i64 0, .int .i64 0, .slice none 0 0, .slice none 0 0], .bool false]) ?_ rfl ⟨hend, hB10⟩
    simp [results, Try.results36, go_sem, r0, r1, r2, r3, r4, r5, r6, r7, r8, r9]
  | true =>
    cases hin : (p2 && q2) with
    | true =>
      simp only [Bool.and_eq_true] at hin
      obtain ⟨rfl, rfl⟩ := hin
      clear CG CK hstep hR
      obtain ⟨⟨y0, y1, y2, y3, y4⟩, y5, y6, y7, y8, y9⟩ := tenc HZ2.out
      obtain ⟨f0, f1, f2, f3, f4, f5, f6, f7, f8, f9⟩ := froz HZ2.out
      obtain ⟨a0, a1, a2, a3, a4⟩ := five HP2.out
      obtain ⟨b0, b1, b2, b3, b4⟩ := five HQ2.out
      go_wp2
      have hend : E (.returned (.tuple #[.agg #[.int .i64 0, .int .i64 0, .int .i64 0, .int .i64 0, .int .i64 0, .int .i64 0, .int .i64 0, .int .i64 0, .slice none 0 0, .slice none 0 0], .bool false])) := by
        rw [HE.out]
        exact .inr ⟨by simp, ⟨0, 0, 0, 0, 0, 0, 0, 0⟩, none, none, 0, 0, 0, 0, rfl⟩
      have hF := tenc (put10_at HZ2.out (.int .i64 0) (.int .i64 0) (.int .i64 0) (.int .i64 0) (.int .i64 0) (.int .i64 0) (.int .i64 0) (.int .i64 0) (.slice none 0 0) (.slice none 0 0))
      have hB10 := put10_below HB2.out (B := w.heap.size + 1) (by omega) (.int .i64 0) (.int .i64 0) (.int .i64 0) (.int .i64 0) (.int .i64 0) (.int .i64 0) (.int .i64 0) (.int .i64 0) (.slice none 0 0) (.slice none 0 0)
      obtain ⟨⟨r0, r1, r2, r3, r4⟩, r5, r6, r7, r8, r9⟩ := hF
      unfold put10 at r0 r1 r2 r3 r4 r5 r6 r7 r8 r9 hB10
      refine bodyPost_ret (v := .tuple #[.agg #[.int .i64 0, .int .i64 0, .int .i64 0, .int .i64 0, .int .i64 0, .int .i64 0, .int .i64 0, .int .i64 0, .slice none 0 0, .slice none 0 0], .bool false]) ?_ rfl ⟨hend, hB10⟩
      simp [results, Try.results36, go_sem, r0, r1, r2, r3, r4, r5, r6, r7, r8, r9]
    | false =>
      simp only [hin] at HE
      go_cut [29] from 20 to 29 (fun v wx => v = .bool false ∧ wx = W)
      case first =>
        clear CG CK HE hstep hR
        obtain ⟨a0, a1, a2, a3, a4⟩ := five HP2.out
        obtain ⟨b0, b1, b2, b3, b4⟩ := five HQ2.out
        cases p2 with
        | false =>
          go_wp2_with fail
          go_meet
          exact ⟨rfl, rfl⟩
        | true =>
          simp only [Bool.true_and] at hin
          subst hin
          go_wp2_with fail
          go_meet
          exact ⟨rfl, rfl⟩
      case rest =>
        obtain ⟨rfl, hw⟩ := hcut
        rw [hw]
        clear hw
        obtain ⟨⟨y0, y1, y2, y3, y4⟩, y5, y6, y7, y8, y9⟩ := tenc HX2.out
        go_upto_region 5 with fail
        clear y0 y1 y2 y3 y4 y5 y6 y7 y8 y9
        have hnb : Below W.heap.size W (W.alloc (.cells #[.int .i64 xk, .int .i64 xf, .int .i64 xt, .int .i64 xg, .int .i64 xh, .int .i64 xi, .int .i64 xm, .int .i64 xv, .slice A n c, .slice B m d] 25)) := (Below.refl _ _).alloc (Nat.le_refl _) _
        have HB3 := Lib.hid (HB2.out.trans (hnb.mono HB2.out.size))
        have HX3 := Lib.hid (hkeep hnb HX2.out)
        have HZ3 := Lib.hid (hkeep hnb HZ2.out)
        have HP3 := Lib.hid (hkeep hnb HP2.out)
        have HQ3 := Lib.hid (hkeep hnb HQ2.out)
        have HY3 := Lib.hid (heap_alloc_new W (.cells #[.int .i64 xk, .int .i64 xf, .int .i64 xt, .int .i64 xg, .int .i64 xh, .int .i64 xi, .int .i64 xm, .int .i64 xv, .slice A n c, .slice B m d] 25))
        have hyw : w.heap.size ≤ W.heap.size := HB2.out.size
        clear hnb HB2 HX2 HZ2 HP2 HQ2
        generalize hYY : W.heap.size = Y at *
        generalize W.alloc (.cells #[.int .i64 xk, .int .i64 xf, .int .i64 xt, .int .i64 xg, .int .i64 xh, .int .i64 xi, .int .i64 xm, .int .i64 xv, .slice A n c, .slice B m d] 25) = W3 at *
        obtain ⟨a0, a1, a2, a3, a4⟩ := five HP3.out
        obtain ⟨⟨y0, y1, y2, y3, y4⟩, y5, y6, y7, y8, y9⟩ := tenc HY3.out
        obtain ⟨f0, f1, f2, f3, f4, f5, f6, f7, f8, f9⟩ := froz HY3.out
        go_upto_region 6 with fail
        clear y0 y1 y2 y3 y4 y5 y6 y7 y8 y9 a0 a1 a2 a3 a4 f0 f1 f2 f3 f4 f5 f6 f7 f8 f9
        have HB4 := Lib.hid (HB3.out.setCell (p := ⟨Y, 1, none⟩) hyw (.int .i64 p0))
        have HX4 : Hid ((W3.setCell ⟨Y, 1, none⟩ (.int .i64 p0)).heap[w.heap.size]? = some (.cells #[.int .i64 xk, .int .i64 xf, .int .i64 xt, .int .i64 xg, .int .i64 xh, .int .i64 xi, .int .i64 xm, .int .i64 xv, .slice A n c, .slice B m d] 25)) := Lib.hid ((set_else (by omega) _).trans HX3.out)
        have HZ4 : Hid ((W3.setCell ⟨Y, 1, none⟩ (.int .i64 p0)).heap[w.heap.size + 1]? = some (.cells #[.int .i64 0, .int .i64 0, .int .i64 0, .int .i64 0, .int .i64 0, .int .i64 0, .int .i64 0, .int .i64 0, .slice none 0 0, .slice none 0 0] 25)) := Lib.hid ((set_else (by omega) _).trans HZ3.out)
        have HP4 : Hid ((W3.setCell ⟨Y, 1, none⟩ (.int .i64 p0)).heap[B1]? = some (plO ⟨p0, p1, p2, p3, p4⟩)) := Lib.hid ((set_else (by omega) _).trans HP3.out)
        have HQ4 : Hid ((W3.setCell ⟨Y, 1, none⟩ (.int .i64 p0)).heap[B1 + 1]? = some (plO ⟨q0, q1, q2, q3, q4⟩)) := Lib.hid ((set_else (by omega) _).trans HQ3.out)
        have HY4 : Hid ((W3.setCell ⟨Y, 1, none⟩ (.int .i64 p0)).heap[Y]? = some (.cells #[.int .i64 xk, .int .i64 p0, .int .i64 xt, .int .i64 xg, .int .i64 xh, .int .i64 xi, .int .i64 xm, .int .i64 xv, .slice A n c, .slice B m d] 25)) := Lib.hid (by have := set_at (j := 1) HY3.out (.int .i64 p0); simpa using this)
        clear HB3 HX3 HZ3 HP3 HQ3 HY3 hYY
        generalize W3.setCell ⟨Y, 1, none⟩ (.int .i64 p0) = W4 at HB4 HX4 HZ4 HP4 HQ4 HY4 ⊢
        obtain ⟨⟨y0, y1, y2, y3, y4⟩, y5, y6, y7, y8, y9⟩ := tenc HX4.out
        rcases hk with rfl | rfl | rfl | ⟨k1, k2, k5⟩
        · go_upto_region 13 with fail
          clear CG CK hstep hR
          clear y0 y1 y2 y3 y4 y5 y6 y7 y8 y9
          obtain ⟨⟨z0, z1, z2, z3, z4⟩, z5, z6, z7, z8, z9⟩ := tenc HY4.out
          obtain ⟨f0, f1, f2, f3, f4, f5, f6, f7, f8, f9⟩ := froz HY4.out
          obtain ⟨b0, b1, b2, b3, b4⟩ := five HQ4.out
          go_upto_region 14 with fail
          clear z0 z1 z2 z3 z4 z5 z6 z7 z8 z9 f0 f1 f2 f3 f4 f5 f6 f7 f8 f9
          clear b0 b1 b2 b3 b4
          have HB5 := Lib.hid (HB4.out.setCell (p := ⟨Y, 2, none⟩) hyw (.int .i64 (max q0 p0)))
          have HZ5 : Hid ((W4.setCell ⟨Y, 2, none⟩ (.int .i64 (max q0 p0))).heap[w.heap.size + 1]? = some (.cells #[.int .i64 0, .int .i64 0, .int .i64 0, .int .i64 0, .int .i64 0, .int .i64 0, .int .i64 0, .int .i64 0, .slice none 0 0, .slice none 0 0] 25)) := Lib.hid ((set_else (by omega) _).trans HZ4.out)
          have HY5 : Hid ((W4.setCell ⟨Y, 2, none⟩ (.int .i64 (max q0 p0))).heap[Y]? = some (.cells #[.int .i64 1, .int .i64 p0, .int .i64 (max q0 p0), .int .i64 xg, .int .i64 xh, .int .i64 xi, .int .i64 xm, .int .i64 xv, .slice A n c, .slice B m d] 25)) := Lib.hid (by have := set_at (j := 2) HY4.out (.int .i64 (max q0 p0)); simpa using this)
          clear HB4 HY4 HZ4
          generalize W4.setCell ⟨Y, 2, none⟩ (.int .i64 (max q0 p0)) = W5 at HZ5 HB5 HY5 ⊢
          obtain ⟨⟨z0, z1, z2, z3, z4⟩, z5, z6, z7, z8, z9⟩ := tenc HZ5.out
          obtain ⟨f0, f1, f2, f3, f4, f5, f6, f7, f8, f9⟩ := froz HZ5.out
          obtain ⟨⟨y0, y1, y2, y3, y4⟩, y5, y6, y7, y8, y9⟩ := tenc HY5.out
          go_wp2
          have hend : E (.returned (.tuple #[.agg #[.int .i64 1, .int .i64 p0, .int .i64 (max q0 p0), .int .i64 xg, .int .i64 xh, .int .i64 xi, .int .i64 xm, .int .i64 xv, .slice A n c, .slice B m d], .bool true])) := by
            rw [HE.out]
            exact .inl ⟨by simp, rfl⟩
          clear z0 z1 z2 z3 z4 z5 z6 z7 z8 z9 f0 f1 f2 f3 f4 f5 f6 f7 f8 f9
          have hF := tenc (put10_at HZ5.out (.int .i64 1) (.int .i64 p0) (.int .i64 (max q0 p0)) (.int .i64 xg) (.int .i64 xh) (.int .i64 xi) (.int .i64 xm) (.int .i64 xv) (.slice A n c) (.slice B m d))
          have hB10 := put10_below HB5.out (B := w.heap.size + 1) (by omega) (.int .i64 1) (.int .i64 p0) (.int .i64 (max q0 p0)) (.int .i64 xg) (.int .i64 xh) (.int .i64 xi) (.int .i64 xm) (.int .i64 xv) (.slice A n c) (.slice B m d)
          obtain ⟨⟨r0, r1, r2, r3, r4⟩, r5, r6, r7, r8, r9⟩ := hF
          unfold put10 at r0 r1 r2 r3 r4 r5 r6 r7 r8 r9 hB10
          refine bodyPost_ret (v := .tuple #[.agg #[.int .i64 1, .int .i64 p0, .int .i64 (max q0 p0), .int .i64 xg, .int .i64 xh, .int .i64 xi, .int .i64 xm, .int .i64 xv, .slice A n c, .slice B m d], .bool true]) ?_ rfl ⟨hend, hB10⟩
          simp [results, Try.results36, go_sem, r0, r1, r2, r3, r4, r5, r6, r7, r8, r9]
        · go_upto_region 10 with fail
          obtain ⟨b0, b1, b2, b3, b4⟩ := five HQ4.out
          go_wp2_with fail
          refine (CG _ (hstep _ _ hR HB4.out)).mono ?_
          rintro e w5 ⟨rfl, hb5⟩
          have HB5 := Lib.hid (HB4.out.trans (hb5.mono HB4.out.size))
          have HZ5 := Lib.hid (hkeep hb5 HZ4.out)
          have HQ5 := Lib.hid (hkeep hb5 HQ4.out)
          have HY5 := Lib.hid (hkeep hb5 HY4.out)
          clear hb5 HB4 HX4 HZ4 HP4 HQ4 HY4 CG CK hstep hR b0 b1 b2 b3 b4
          clear y0 y1 y2 y3 y4 y5 y6 y7 y8 y9
          obtain ⟨⟨z0, z1, z2, z3, z4⟩, z5, z6, z7, z8, z9⟩ := tenc HY5.out
          obtain ⟨f0, f1, f2, f3, f4, f5, f6, f7, f8, f9⟩ := froz HY5.out
          go_upto_region 11 with fail
          clear z0 z1 z2 z3 z4 z5 z6 z7 z8 z9 f0 f1 f2 f3 f4 f5 f6 f7 f8 f9
          have HB6 := Lib.hid (HB5.out.setCell (p := ⟨Y, 3, none⟩) hyw (.int .i64 U))
          have HZ6 : Hid ((w5.setCell ⟨Y, 3, none⟩ (.int .i64 U)).heap[w.heap.size + 1]? = some (.cells #[.int .i64 0, .int .i64 0, .int .i64 0, .int .i64 0, .int .i64 0, .int .i64 0, .int .i64 0, .int .i64 0, .slice none 0 0, .slice none 0 0] 25)) := Lib.hid ((set_else (by omega) _).trans HZ5.out)
          have HQ6 : Hid ((w5.setCell ⟨Y, 3, none⟩ (.int .i64 U)).heap[B1 + 1]? = some (plO ⟨q0, q1, q2, q3, q4⟩)) := Lib.hid ((set_else (by omega) _).trans HQ5.out)
          have HY6 : Hid ((w5.setCell ⟨Y, 3, none⟩ (.int .i64 U)).heap[Y]? = some (.cells #[.int .i64 2, .int .i64 p0, .int .i64 xt, .int .i64 U, .int .i64 xh, .int .i64 xi, .int .i64 xm, .int .i64 xv, .slice A n c, .slice B m d] 25)) := Lib.hid (by have := set_at (j := 3) HY5.out (.int .i64 U); simpa using this)
          clear HB5 HY5 HZ5 HQ5
          generalize w5.setCell ⟨Y, 3, none⟩ (.int .i64 U) = W6 at HZ6 HQ6 HB6 HY6 ⊢
          have HB7 := Lib.hid (HB6.out.setCell (p := ⟨Y, 4, none⟩) hyw (.int .i64 V))
          have HZ7 : Hid ((W6.setCell ⟨Y, 4, none⟩ (.int .i64 V)).heap[w.heap.size + 1]? = some (.cells #[.int .i64 0, .int .i64 0, .int .i64 0, .int .i64 0, .int .i64 0, .int .i64 0, .int .i64 0, .int .i64 0, .slice none 0 0, .slice none 0 0] 25)) := Lib.hid ((set_else (by omega) _).trans HZ6.out)
          have HQ7 : Hid ((W6.setCell ⟨Y, 4, none⟩ (.int .i64 V)).heap[B1 + 1]? = some (plO ⟨q0, q1, q2, q3, q4⟩)) := Lib.hid ((set_else (by omega) _).trans HQ6.out)
          have HY7 : Hid ((W6.setCell ⟨Y, 4, none⟩ (.int .i64 V)).heap[Y]? = some (.cells #[.int .i64 2, .int .i64 p0, .int .i64 xt, .int .i64 U, .int .i64 V, .int .i64 xi, .int .i64 xm, .int .i64 xv, .slice A n c, .slice B m d] 25)) := Lib.hid (by have := set_at (j := 4) HY6.out (.int .i64 V); simpa using this)
          clear HB6 HY6 HZ6 HQ6
          generalize W6.setCell ⟨Y, 4, none⟩ (.int .i64 V) = W7 at HZ7 HQ7 HB7 HY7 ⊢
          cases H with
          | false =>
            obtain ⟨⟨z0, z1, z2, z3, z4⟩, z5, z6, z7, z8, z9⟩ := tenc HZ7.out
            obtain ⟨f0, f1, f2, f3, f4, f5, f6, f7, f8, f9⟩ := froz HZ7.out
            go_wp2
            have hend : E (.returned (.tuple #[.agg #[.int .i64 0, .int .i64 0, .int .i64 0, .int .i64 0, .int .i64 0, .int .i64 0, .int .i64 0, .int .i64 0, .slice none 0 0, .slice none 0 0], .bool false])) := by
              rw [HE.out]
              exact .inr ⟨by simp, ⟨0, 0, 0, 0, 0, 0, 0, 0⟩, none, none, 0, 0, 0, 0, rfl⟩
            clear z0 z1 z2 z3 z4 z5 z6 z7 z8 z9 f0 f1 f2 f3 f4 f5 f6 f7 f8 f9
            have hF := tenc (put10_at HZ7.out (.int .i64 0) (.int .i64 0) (.int .i64 0) (.int .i64 0) (.int .i64 0) (.int .i64 0) (.int .i64 0) (.int .i64 0) (.slice none 0 0) (.slice none 0 0))
            have hB10 := put10_below HB7.out (B := w.heap.size + 1) (by omega) (.int .i64 0) (.int .i64 0) (.int .i64 0) (.int .i64 0) (.int .i64 0) (.int .i64 0) (.int .i64 0) (.int .i64 0) (.slice none 0 0) (.slice none 0 0)
            obtain ⟨⟨r0, r1, r2, r3, r4⟩, r5, r6, r7, r8, r9⟩ := hF
            unfold put10 at r0 r1 r2 r3 r4 r5 r6 r7 r8 r9 hB10
            refine bodyPost_ret (v := .tuple #[.agg #[.int .i64 0, .int .i64 0, .int .i64 0, .int .i64 0, .int .i64 0, .int .i64 0, .int .i64 0, .int .i64 0, .slice none 0 0, .slice none 0 0], .bool false]) ?_ rfl ⟨hend, hB10⟩
            simp [results, Try.results36, go_sem, r0, r1, r2, r3, r4, r5, r6, r7, r8, r9]
          | true =>
            obtain ⟨⟨z0, z1, z2, z3, z4⟩, z5, z6, z7, z8, z9⟩ := tenc HY7.out
            obtain ⟨f0, f1, f2, f3, f4, f5, f6, f7, f8, f9⟩ := froz HY7.out
            obtain ⟨b0, b1, b2, b3, b4⟩ := five HQ7.out
            go_upto_region 14 with fail
            clear z0 z1 z2 z3 z4 z5 z6 z7 z8 z9 f0 f1 f2 f3 f4 f5 f6 f7 f8 f9
            clear b0 b1 b2 b3 b4
            have HB8 := Lib.hid (HB7.out.setCell (p := ⟨Y, 2, none⟩) hyw (.int .i64 (max q0 p0)))
            have HZ8 : Hid ((W7.setCell ⟨Y, 2, none⟩ (.int .i64 (max q0 p0))).heap[w.heap.size + 1]? = some (.cells #[.int .i64 0, .int .i64 0, .int .i64 0, .int .i64 0, .int .i64 0, .int .i64 0, .int .i64 0, .int .i64 0, .slice none 0 0, .slice none 0 0] 25)) := Lib.hid ((set_else (by omega) _).trans HZ7.out)
            have HY8 : Hid ((W7.setCell ⟨Y, 2, none⟩ (.int .i64 (max q0 p0))).heap[Y]? = some (.cells #[.int .i64 2, .int .i64 p0, .int .i64 (max q0 p0), .int .i64 U, .int .i64 V, .int .i64 xi, .int .i64 xm, .int .i64 xv, .slice A n c, .slice B m d] 25)) := Lib.hid (by have := set_at (j := 2) HY7.out (.int .i64 (max q0 p0)); simpa using this)
            clear HB7 HY7 HZ7
            generalize W7.setCell ⟨Y, 2, none⟩ (.int .i64 (max q0 p0)) = W8 at HZ8 HB8 HY8 ⊢
            obtain ⟨⟨z0, z1, z2, z3, z4⟩, z5, z6, z7, z8, z9⟩ := tenc HZ8.out
            obtain ⟨f0, f1, f2, f3, f4, f5, f6, f7, f8, f9⟩ := froz HZ8.out
            obtain ⟨⟨y0, y1, y2, y3, y4⟩, y5, y6, y7, y8, y9⟩ := tenc HY8.out
            go_wp2
            have hend : E (.returned (.tuple #[.agg #[.int .i64 2, .int .i64 p0, .int .i64 (max q0 p0), .int .i64 U, .int .i64 V, .int .i64 xi, .int .i64 xm, .int .i64 xv, .slice A n c, .slice B m d], .bool true])) := by
              rw [HE.out]
              exact .inl ⟨by simp, rfl⟩
            clear z0 z1 z2 z3 z4 z5 z6 z7 z8 z9 f0 f1 f2 f3 f4 f5 f6 f7 f8 f9
            have hF := tenc (put10_at HZ8.out (.int .i64 2) (.int .i64 p0) (.int .i64 (max q0 p0)) (.int .i64 U) (.int .i64 V) (.int .i64 xi) (.int .i64 xm) (.int .i64 xv) (.slice A n c) (.slice B m d))
            have hB10 := put10_below HB8.out (B := w.heap.size + 1) (by omega) (.int .i64 2) (.int .i64 p0) (.int .i64 (max q0 p0)) (.int .i64 U) (.int .i64 V) (.int .i64 xi) (.int .i64 xm) (.int .i64 xv) (.slice A n c) (.slice B m d)
            obtain ⟨⟨r0, r1, r2, r3, r4⟩, r5, r6, r7, r8, r9⟩ := hF
            unfold put10 at r0 r1 r2 r3 r4 r5 r6 r7 r8 r9 hB10
            refine bodyPost_ret (v := .tuple #[.agg #[.int .i64 2, .int .i64 p0, .int .i64 (max q0 p0), .int .i64 U, .int .i64 V, .int .i64 xi, .int .i64 xm, .int .i64 xv, .slice A n c, .slice B m d], .bool true]) ?_ rfl ⟨hend, hB10⟩
            simp [results, Try.results36, go_sem, r0, r1, r2, r3, r4, r5, r6, r7, r8, r9]
        · go_upto_region 15 with fail
          obtain ⟨⟨z0, z1, z2, z3, z4⟩, z5, z6, z7, z8, z9⟩ := tenc HY4.out
          obtain ⟨f0, f1, f2, f3, f4, f5, f6, f7, f8, f9⟩ := froz HY4.out
          go_upto_region 16 with fail
          clear CG
          clear z0 z1 z2 z3 z4 z5 z6 z7 z8 z9 f0 f1 f2 f3 f4 f5 f6 f7 f8 f9
          clear y0 y1 y2 y3 y4 y5 y6 y7 y8 y9
          have HB5 := Lib.hid (HB4.out.setCell (p := ⟨Y, 2, none⟩) hyw (.int .i64 (wrap64 (wrap64 (p0 + xt) - xf))))
          have HZ5 : Hid ((W4.setCell ⟨Y, 2, none⟩ (.int .i64 (wrap64 (wrap64 (p0 + xt) - xf)))).heap[w.heap.size + 1]? = some (.cells #[.int .i64 0, .int .i64 0, .int .i64 0, .int .i64 0, .int .i64 0, .int .i64 0, .int .i64 0, .int .i64 0, .slice none 0 0, .slice none 0 0] 25)) := Lib.hid ((set_else (by omega) _).trans HZ4.out)
          have HX5 : Hid ((W4.setCell ⟨Y, 2, none⟩ (.int .i64 (wrap64 (wrap64 (p0 + xt) - xf)))).heap[w.heap.size]? = some (.cells #[.int .i64 5, .int .i64 xf, .int .i64 xt, .int .i64 xg, .int .i64 xh, .int .i64 xi, .int .i64 xm, .int .i64 xv, .slice A n c, .slice B m d] 25)) := Lib.hid ((set_else (by omega) _).trans HX4.out)
          have HY5 : Hid ((W4.setCell ⟨Y, 2, none⟩ (.int .i64 (wrap64 (wrap64 (p0 + xt) - xf)))).heap[Y]? = some (.cells #[.int .i64 5, .int .i64 p0, .int .i64 (wrap64 (wrap64 (p0 + xt) - xf)), .int .i64 xg, .int .i64 xh, .int .i64 xi, .int .i64 xm, .int .i64 xv, .slice A n c, .slice B m d] 25)) := Lib.hid (by have := set_at (j := 2) HY4.out (.int .i64 (wrap64 (wrap64 (p0 + xt) - xf))); simpa using this)
          clear HB4 HY4 HZ4 HX4
          generalize W4.setCell ⟨Y, 2, none⟩ (.int .i64 (wrap64 (wrap64 (p0 + xt) - xf))) = W5 at HZ5 HX5 HB5 HY5 ⊢
          refine wp_region_held_drew (S := fun W => W.heap[w.heap.size]? = some (.cells #[.int .i64 5, .int .i64 xf, .int .i64 xt, .int .i64 xg, .int .i64 xh, .int .i64 xi, .int .i64 xm, .int .i64 xv, .slice A n c, .slice B m d] 25) ∧ W.heap[Y]? = some (.cells #[.int .i64 5, .int .i64 p0, .int .i64 (wrap64 (wrap64 (p0 + xt) - xf)), .int .i64 xg, .int .i64 xh, .int .i64 xi, .int .i64 xm, .int .i64 xv, .slice A n c, .slice B m d] 25)) (by kernel_rfl) ⟨HX5.out, HY5.out⟩ (fun hHeld => ?_)
          have HB6 : Hid (Below w.heap.size w W5.drew) := Lib.hid (below_drewN HB5.out 1)
          have HZ6 : Hid (W5.drew.heap[w.heap.size + 1]? = some (.cells #[.int .i64 0, .int .i64 0, .int .i64 0, .int .i64 0, .int .i64 0, .int .i64 0, .int .i64 0, .int .i64 0, .slice none 0 0, .slice none 0 0] 25)) := HZ5
          clear HB5 HX5 HY5 HZ5
          generalize W5.drew = W6 at HB6 HZ6 hHeld ⊢
          refine tk 0 (v := ?_) rfl (by kernel_rfl) (fun _ _ _ h => h) ?_ hHeld ?_
          rotate_left
          · (intro W hSw; (try dsimp only at hSw); obtain ⟨hs1, hs2⟩ := hSw; obtain ⟨⟨y0, y1, y2, y3, y4⟩, y5, y6, y7, y8, y9⟩ := tenc hs1; obtain ⟨⟨z0, z1, z2, z3, z4⟩, z5, z6, z7, z8, z9⟩ := tenc hs2; go_simp; try with_reducible rfl)
          refine tk 1 (v := ?_) rfl (by kernel_rfl) (fun _ _ _ h => h) ?_ hHeld ?_
          rotate_left
          · (intro W hSw; (try dsimp only at hSw); obtain ⟨hs1, hs2⟩ := hSw; obtain ⟨⟨y0, y1, y2, y3, y4⟩, y5, y6, y7, y8, y9⟩ := tenc hs1; obtain ⟨⟨z0, z1, z2, z3, z4⟩, z5, z6, z7, z8, z9⟩ := tenc hs2; go_simp; try with_reducible rfl)
          refine tk 2 (v := ?_) rfl (by kernel_rfl) (fun _ _ _ h => h) ?_ hHeld ?_
          rotate_left
          · (intro W hSw; (try dsimp only at hSw); obtain ⟨hs1, hs2⟩ := hSw; obtain ⟨⟨y0, y1, y2, y3, y4⟩, y5, y6, y7, y8, y9⟩ := tenc hs1; obtain ⟨⟨z0, z1, z2, z3, z4⟩, z5, z6, z7, z8, z9⟩ := tenc hs2; go_simp; try with_reducible rfl)
          refine tk 3 (v := ?_) rfl (by kernel_rfl) (fun _ _ _ h => h) ?_ hHeld ?_
          rotate_left
          · (intro W hSw; (try dsimp only at hSw); obtain ⟨hs1, hs2⟩ := hSw; obtain ⟨⟨y0, y1, y2, y3, y4⟩, y5, y6, y7, y8, y9⟩ := tenc hs1; obtain ⟨⟨z0, z1, z2, z3, z4⟩, z5, z6, z7, z8, z9⟩ := tenc hs2; go_simp; try with_reducible rfl)
          refine tk 4 (v := ?_) rfl (by kernel_rfl) (fun _ _ _ h => h) ?_ hHeld ?_
          rotate_left
          · (intro W hSw; (try dsimp only at hSw); obtain ⟨hs1, hs2⟩ := hSw; obtain ⟨⟨y0, y1, y2, y3, y4⟩, y5, y6, y7, y8, y9⟩ := tenc hs1; obtain ⟨⟨z0, z1, z2, z3, z4⟩, z5, z6, z7, z8, z9⟩ := tenc hs2; go_simp; try with_reducible rfl)
          refine wpAnyH_ready (rs := [5]) (by kernel_rfl) (by simp) ?_
          refine AllReadyH.cons rfl (fun K hK => ?_) AllReadyH.nil
          go_simp
          refine (CK _ (hstep _ _ hR HB6.out)).mono ?_
          rintro e W7 ⟨rfl, hb7⟩
          have HB7 := Lib.hid (HB6.out.trans (hb7.mono HB6.out.size))
          have HZ7 := Lib.hid (hkeep hb7 HZ6.out)
          have hS7 := And.intro (hkeep hb7 hHeld.1) (hkeep hb7 hHeld.2)
          clear hb7 HB6 HZ6 CK hstep hR hHeld
          go_wp2_with fail
          refine hK.out _ _ hS7 (fun hHeld => ?_)
          clear hK K hS7
          refine wpAnyH_ready (rs := [6]) (by kernel_rfl) (by simp) ?_
          refine AllReadyH.cons rfl (fun K hK => ?_) AllReadyH.nil
          have hz := tenc HZ7.out
          have z0 := hz.1.1
          have z1 := hz.1.2.1
          have z2 := hz.1.2.2.1
          have z3 := hz.1.2.2.2.1
          have z4 := hz.1.2.2.2.2
          have z5 := hz.2.1
          have z6 := hz.2.2.1
          have z7 := hz.2.2.2.1
          have z8 := hz.2.2.2.2.1
          have z9 := hz.2.2.2.2.2
          have hf := froz HZ7.out
          have f0 := hf.1
          have f1 := hf.2.1
          have f2 := hf.2.2.1
          have f3 := hf.2.2.2.1
          have f4 := hf.2.2.2.2.1
          have f5 := hf.2.2.2.2.2.1
          have f6 := hf.2.2.2.2.2.2.1
          have f7 := hf.2.2.2.2.2.2.2.1
          have f8 := hf.2.2.2.2.2.2.2.2.1
          have f9 := hf.2.2.2.2.2.2.2.2.2
          clear hz hf
          go_simp
          have hS8 := And.intro ((put10_else (B := w.heap.size + 1) (k := w.heap.size) (.int .i64 5) (.int .i64 p0) (.int .i64 (wrap64 (wrap64 (p0 + xt) - xf))) (.int .i64 xg) (.int .i64 xh) (.int .i64 xi) (.int .i64 xm) (.int .i64 xv) (.slice A n c) (.slice B m d) (by omega)).trans hHeld.1) ((put10_else (B := w.heap.size + 1) (k := Y) (.int .i64 5) (.int .i64 p0) (.int .i64 (wrap64 (wrap64 (p0 + xt) - xf))) (.int .i64 xg) (.int .i64 xh) (.int .i64 xi) (.int .i64 xm) (.int .i64 xv) (.slice A n c) (.slice B m d) (by omega)).trans hHeld.2)
          have hZ8 := put10_at HZ7.out (.int .i64 5) (.int .i64 p0) (.int .i64 (wrap64 (wrap64 (p0 + xt) - xf))) (.int .i64 xg) (.int .i64 xh) (.int .i64 xi) (.int .i64 xm) (.int .i64 xv) (.slice A n c) (.slice B m d)
          have hB8 := put10_below HB7.out (B := w.heap.size + 1) (by omega) (.int .i64 5) (.int .i64 p0) (.int .i64 (wrap64 (wrap64 (p0 + xt) - xf))) (.int .i64 xg) (.int .i64 xh) (.int .i64 xi) (.int .i64 xm) (.int .i64 xv) (.slice A n c) (.slice B m d)
          unfold put10 at hS8 hZ8 hB8
          have HB8 := Lib.hid hB8
          have HZ8 := Lib.hid hZ8
          refine hK.out _ _ hS8 (fun hHeld => ?_)
          clear z0 z1 z2 z3 z4 z5 z6 z7 z8 z9 f0 f1 f2 f3 f4 f5 f6 f7 f8 f9
          clear hK K hS8 hZ8 hB8 HZ7 HB7
          generalize World.setCell _ _ _ = W8 at HB8 HZ8 hHeld ⊢
          refine wpAnyH_ready (rs := [7]) (by kernel_rfl) (by simp) ?_
          refine AllReadyH.cons rfl (fun K hK => ?_) AllReadyH.nil
          go_simp
          refine hK.out _ _ hHeld (fun hHeld => ?_)
          clear hK K
          refine wpAnyH_done (by kernel_rfl) ?_ _
          obtain ⟨⟨z0, z1, z2, z3, z4⟩, z5, z6, z7, z8, z9⟩ := tenc HZ8.out
          go_wp2
          refine bodyPost_ret (v := .tuple #[.agg #[.int .i64 5, .int .i64 p0, .int .i64 (wrap64 (wrap64 (p0 + xt) - xf)), .int .i64 xg, .int .i64 xh, .int .i64 xi, .int .i64 xm, .int .i64 xv, .slice A n c, .slice B m d], .bool (KV)]) ?_ rfl ⟨?_, HB8.out⟩
          · simp [results, Try.results36, go_sem, z0, z1, z2, z3, z4, z5, z6, z7, z8, z9]
          · rw [HE.out]
            cases KV with
            | false => exact .inr ⟨by simp, ⟨5, p0, wrap64 (wrap64 (p0 + xt) - xf), xg, xh, xi, xm, xv⟩, A, B, n, m, c, d, rfl⟩
            | true => exact .inl ⟨by simp, rfl⟩
        · go_upto_region 17 with fail
          clear CG CK hstep hR
          clear y0 y1 y2 y3 y4 y5 y6 y7 y8 y9
          obtain ⟨⟨z0, z1, z2, z3, z4⟩, z5, z6, z7, z8, z9⟩ := tenc HY4.out
          obtain ⟨f0, f1, f2, f3, f4, f5, f6, f7, f8, f9⟩ := froz HY4.out
          obtain ⟨b0, b1, b2, b3, b4⟩ := five HQ4.out
          go_upto_region 18 with fail
          clear b0 b1 b2 b3 b4
          clear z0 z1 z2 z3 z4 z5 z6 z7 z8 z9 f0 f1 f2 f3 f4 f5 f6 f7 f8 f9
          have HB5 := Lib.hid (HB4.out.setCell (p := ⟨Y, 2, none⟩) hyw (.int .i64 q0))
          have HZ5 : Hid ((W4.setCell ⟨Y, 2, none⟩ (.int .i64 q0)).heap[w.heap.size + 1]? = some (.cells #[.int .i64 0, .int .i64 0, .int .i64 0, .int .i64 0, .int .i64 0, .int .i64 0, .int .i64 0, .int .i64 0, .slice none 0 0, .slice none 0 0] 25)) := Lib.hid ((set_else (by omega) _).trans HZ4.out)
          have HX5 : Hid ((W4.setCell ⟨Y, 2, none⟩ (.int .i64 q0)).heap[w.heap.size]? = some (.cells #[.int .i64 xk, .int .i64 xf, .int .i64 xt, .int .i64 xg, .int .i64 xh, .int .i64 xi, .int .i64 xm, .int .i64 xv, .slice A n c, .slice B m d] 25)) := Lib.hid ((set_else (by omega) _).trans HX4.out)
          have HY5 : Hid ((W4.setCell ⟨Y, 2, none⟩ (.int .i64 q0)).heap[Y]? = some (.cells #[.int .i64 xk, .int .i64 p0, .int .i64 q0, .int .i64 xg, .int .i64 xh, .int .i64 xi, .int .i64 xm, .int .i64 xv, .slice A n c, .slice B m d] 25)) := Lib.hid (by have := set_at (j := 2) HY4.out (.int .i64 q0); simpa using this)
          clear HB4 HY4 HZ4 HX4
          generalize W4.setCell ⟨Y, 2, none⟩ (.int .i64 q0) = W5 at HZ5 HX5 HB5 HY5 ⊢
          refine wp_region_held_drew (S := fun W => W.heap[w.heap.size]? = some (.cells #[.int .i64 xk, .int .i64 xf, .int .i64 xt, .int .i64 xg, .int .i64 xh, .int .i64 xi, .int .i64 xm, .int .i64 xv, .slice A n c, .slice B m d] 25) ∧ W.heap[Y]? = some (.cells #[.int .i64 xk, .int .i64 p0, .int .i64 q0, .int .i64 xg, .int .i64 xh, .int .i64 xi, .int .i64 xm, .int .i64 xv, .slice A n c, .slice B m d] 25)) (by kernel_rfl) ⟨HX5.out, HY5.out⟩ (fun hHeld => ?_)
          have HB7 : Hid (Below w.heap.size w W5.drew) := Lib.hid (below_drewN HB5.out 1)
          have HZ7 : Hid (W5.drew.heap[w.heap.size + 1]? = some (.cells #[.int .i64 0, .int .i64 0, .int .i64 0, .int .i64 0, .int .i64 0, .int .i64 0, .int .i64 0, .int .i64 0, .slice none 0 0, .slice none 0 0] 25)) := HZ5
          clear HB5 HX5 HY5 HZ5
          generalize W5.drew = W6 at HB7 HZ7 hHeld ⊢
          refine tk 0 (v := ?_) rfl (by kernel_rfl) (fun _ _ _ h => h) ?_ hHeld ?_
          rotate_left
          · (intro W hSw; (try dsimp only at hSw); obtain ⟨hs1, hs2⟩ := hSw; obtain ⟨⟨y0, y1, y2, y3, y4⟩, y5, y6, y7, y8, y9⟩ := tenc hs1; obtain ⟨⟨z0, z1, z2, z3, z4⟩, z5, z6, z7, z8, z9⟩ := tenc hs2; go_simp; try with_reducible rfl)
          refine tk 1 (v := ?_) rfl (by kernel_rfl) (fun _ _ _ h => h) ?_ hHeld ?_
          rotate_left
          · (intro W hSw; (try dsimp only at hSw); obtain ⟨hs1, hs2⟩ := hSw; obtain ⟨⟨y0, y1, y2, y3, y4⟩, y5, y6, y7, y8, y9⟩ := tenc hs1; obtain ⟨⟨z0, z1, z2, z3, z4⟩, z5, z6, z7, z8, z9⟩ := tenc hs2; go_simp; try with_reducible rfl)
          refine tk 2 (v := ?_) rfl (by kernel_rfl) (fun _ _ _ h => h) ?_ hHeld ?_
          rotate_left
          · (intro W hSw; (try dsimp only at hSw); obtain ⟨hs1, hs2⟩ := hSw; obtain ⟨⟨y0, y1, y2, y3, y4⟩, y5, y6, y7, y8, y9⟩ := tenc hs1; obtain ⟨⟨z0, z1, z2, z3, z4⟩, z5, z6, z7, z8, z9⟩ := tenc hs2; go_simp; try with_reducible rfl)
          refine tk 3 (v := ?_) rfl (by kernel_rfl) (fun _ _ _ h => h) ?_ hHeld ?_
          rotate_left
          · (intro W hSw; (try dsimp only at hSw); obtain ⟨hs1, hs2⟩ := hSw; obtain ⟨⟨y0, y1, y2, y3, y4⟩, y5, y6, y7, y8, y9⟩ := tenc hs1; obtain ⟨⟨z0, z1, z2, z3, z4⟩, z5, z6, z7, z8, z9⟩ := tenc hs2; go_simp; try with_reducible rfl)
          refine tk 4 (v := ?_) rfl (by kernel_rfl) (fun _ _ _ h => h) ?_ hHeld ?_
          rotate_left
          · (intro W hSw; (try dsimp only at hSw); obtain ⟨hs1, hs2⟩ := hSw; obtain ⟨⟨y0, y1, y2, y3, y4⟩, y5, y6, y7, y8, y9⟩ := tenc hs1; obtain ⟨⟨z0, z1, z2, z3, z4⟩, z5, z6, z7, z8, z9⟩ := tenc hs2; go_simp; try with_reducible rfl)
          refine tk 5 (v := ?_) rfl (by kernel_rfl) (fun _ _ _ h => h) ?_ hHeld ?_
          rotate_left
          · (intro W hSw; (try dsimp only at hSw); obtain ⟨hs1, hs2⟩ := hSw; obtain ⟨⟨y0, y1, y2, y3, y4⟩, y5, y6, y7, y8, y9⟩ := tenc hs1; obtain ⟨⟨z0, z1, z2, z3, z4⟩, z5, z6, z7, z8, z9⟩ := tenc hs2; go_simp; try with_reducible rfl)
          refine wpAnyH_ready (rs := [6]) (by kernel_rfl) (by simp) ?_
          refine AllReadyH.cons rfl (fun K hK => ?_) AllReadyH.nil
          have hz := tenc HZ7.out
          have z0 := hz.1.1
          have z1 := hz.1.2.1
          have z2 := hz.1.2.2.1
          have z3 := hz.1.2.2.2.1
          have z4 := hz.1.2.2.2.2
          have z5 := hz.2.1
          have z6 := hz.2.2.1
          have z7 := hz.2.2.2.1
          have z8 := hz.2.2.2.2.1
          have z9 := hz.2.2.2.2.2
          have hf := froz HZ7.out
          have f0 := hf.1
          have f1 := hf.2.1
          have f2 := hf.2.2.1
          have f3 := hf.2.2.2.1
          have f4 := hf.2.2.2.2.1
          have f5 := hf.2.2.2.2.2.1
          have f6 := hf.2.2.2.2.2.2.1
          have f7 := hf.2.2.2.2.2.2.2.1
          have f8 := hf.2.2.2.2.2.2.2.2.1
          have f9 := hf.2.2.2.2.2.2.2.2.2
          clear hz hf
          go_simp
          have hS8 := And.intro ((put10_else (B := w.heap.size + 1) (k := w.heap.size) (.int .i64 xk) (.int .i64 p0) (.int .i64 q0) (.int .i64 xg) (.int .i64 xh) (.int .i64 xi) (.int .i64 xm) (.int .i64 xv) (.slice A n c) (.slice B m d) (by omega)).trans hHeld.1) ((put10_else (B := w.heap.size + 1) (k := Y) (.int .i64 xk) (.int .i64 p0) (.int .i64 q0) (.int .i64 xg) (.int .i64 xh) (.int .i64 xi) (.int .i64 xm) (.int .i64 xv) (.slice A n c) (.slice B m d) (by omega)).trans hHeld.2)
          have hZ8 := put10_at HZ7.out (.int .i64 xk) (.int .i64 p0) (.int .i64 q0) (.int .i64 xg) (.int .i64 xh) (.int .i64 xi) (.int .i64 xm) (.int .i64 xv) (.slice A n c) (.slice B m d)
          have hB8 := put10_below HB7.out (B := w.heap.size + 1) (by omega) (.int .i64 xk) (.int .i64 p0) (.int .i64 q0) (.int .i64 xg) (.int .i64 xh) (.int .i64 xi) (.int .i64 xm) (.int .i64 xv) (.slice A n c) (.slice B m d)
          unfold put10 at hS8 hZ8 hB8
          have HB8 := Lib.hid hB8
          have HZ8 := Lib.hid hZ8
          refine hK.out _ _ hS8 (fun hHeld => ?_)
          clear z0 z1 z2 z3 z4 z5 z6 z7 z8 z9 f0 f1 f2 f3 f4 f5 f6 f7 f8 f9
          clear hK K hS8 hZ8 hB8 HZ7 HB7
          generalize World.setCell _ _ _ = W8 at HB8 HZ8 hHeld ⊢
          refine wpAnyH_ready (rs := [7]) (by kernel_rfl) (by simp) ?_
          refine AllReadyH.cons rfl (fun K hK => ?_) AllReadyH.nil
          go_simp
          refine hK.out _ _ hHeld (fun hHeld => ?_)
          clear hK K
          refine wpAnyH_done (by kernel_rfl) ?_ _
          obtain ⟨⟨z0, z1, z2, z3, z4⟩, z5, z6, z7, z8, z9⟩ := tenc HZ8.out
          go_wp2
          refine bodyPost_ret (v := .tuple #[.agg #[.int .i64 xk, .int .i64 p0, .int .i64 q0, .int .i64 xg, .int .i64 xh, .int .i64 xi, .int .i64 xm, .int .i64 xv, .slice A n c, .slice B m d], .bool (decide (q0 > p0))]) ?_ rfl ⟨?_, HB8.out⟩
          · simp [results, Try.results36, go_sem, z0, z1, z2, z3, z4, z5, z6, z7, z8, z9]
          · rw [HE.out]
            by_cases hq : q0 > p0
            · refine .inl ⟨by simp [k1, k2, k5, hq], ?_⟩
              simp [k1, k2, k5, hq]
            · exact .inr ⟨by simp [k1, k2, k5, hq], ⟨xk, p0, q0, xg, xh, xi, xm, xv⟩, A, B, n, m, c, d, by simp [hq]⟩
end Go.Proofs.Ytmhngehpddfccaa.St
