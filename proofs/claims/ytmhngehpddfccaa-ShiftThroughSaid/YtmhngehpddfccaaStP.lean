/- Steps: By, Through. -/
import Derived.Test.YtmhngehpddfccaaStT
namespace Go.Proofs.Ytmhngehpddfccaa.St
open Go.RowKit Mem Sm Tk Rt
set_option linter.unusedVariables false
set_option linter.unusedSimpArgs false
theorem in_func (d : Nat) (f : Fn) (a b : Array Value) (W : World) : (Op.equalIn (d + 1) 51 (.func f a b) .nilFunc).run Try.prog W = .ok false W := by
  simp [Op.equalIn, run_underlying Try.underlying51]
theorem in_nilf (d : Nat) (W : World) : (Op.equalIn (d + 1) 51 .nilFunc .nilFunc).run Try.prog W = .ok true W := by
  simp [Op.equalIn, run_underlying Try.underlying51]
theorem eql_func (f : Fn) (a b : Array Value) (W : World) : (binOp .eql 51 (.func f a b) .nilFunc).run Try.prog W = .ok (.bool false) W := by
  simp only [binOp]
  simp [Op.equal, Op.maxDepth, in_func 9999]
theorem eql_nilf (W : World) : (binOp .eql 51 .nilFunc .nilFunc).run Try.prog W = .ok (.bool true) W := by
  simp only [binOp]
  simp [Op.equal, Op.maxDepth, in_nilf 9999]
def ByIs (T : Int → Int → Option Rt.St) (x : Sp) (L : List Tk.Tk) (S : List Mk) (n m : Nat) (w : World) (e : Ending) (w' : World) : Prop :=
  ((shiftB T x n m = true ∧ ∃ s t, e = .returned (.tuple #[stV (goneN T x) s t, .bool true]) ∧ Tks w.heap.size w' s L ∧ Mks w.heap.size w' t S) ∨
   (shiftB T x n m = false ∧ e = .returned (.tuple #[zeroV, .bool false]))) ∧ Below w.heap.size w w'
set_option maxRecDepth 100000 in
set_option maxHeartbeats 4000000 in
theorem by_nil (x : Sp) (A B : Option Addr) (n m c d : Nat) (w : World) :
    Calls Try.prog 15 #[stV x (.slice A n c) (.slice B m d), .nilFunc] w fun e w' => e = .returned (.tuple #[zeroV, .bool false]) ∧ Below w.heap.size w w' := by
  obtain ⟨xk, xf, xt, xg, xh, xi, xm, xv⟩ := x
  unfold stV stC
  simp only
  have hb0 := ((Below.refl _ w).alloc (Nat.le_refl _) (.cells #[.int .i64 xk, .int .i64 xf, .int .i64 xt, .int .i64 xg, .int .i64 xh, .int .i64 xi, .int .i64 xm, .int .i64 xv, .slice A n c, .slice B m d] 25)).alloc (by simp) (.cells #[.int .i64 0, .int .i64 0, .int .i64 0, .int .i64 0, .int .i64 0, .int .i64 0, .int .i64 0, .int .i64 0, .slice none 0 0, .slice none 0 0] 25)
  have hz := heap_alloc_new (w.alloc (.cells #[.int .i64 xk, .int .i64 xf, .int .i64 xt, .int .i64 xg, .int .i64 xh, .int .i64 xi, .int .i64 xm, .int .i64 xv, .slice A n c, .slice B m d] 25)) (.cells #[.int .i64 0, .int .i64 0, .int .i64 0, .int .i64 0, .int .i64 0, .int .i64 0, .int .i64 0, .int .i64 0, .slice none 0 0, .slice none 0 0] 25)
  rw [show (w.alloc (.cells #[.int .i64 xk, .int .i64 xf, .int .i64 xt, .int .i64 xg, .int .i64 xh, .int .i64 xi, .int .i64 xm, .int .i64 xv, .slice A n c, .slice B m d] 25)).heap.size = w.heap.size + 1 by simp] at hz
  have HB := Lib.hid hb0
  have HZ := Lib.hid hz
  obtain ⟨⟨z0, z1, z2, z3, z4⟩, z5, z6, z7, z8, z9⟩ := tenc HZ.out
  obtain ⟨f0, f1, f2, f3, f4, f5, f6, f7, f8, f9⟩ := froz HZ.out
  clear hb0 hz
  have he := fun W => eql_nilf W
  go_enter Try.func15, Try.ntmps15
  go_wp2
  refine bodyPost_ret (v := .tuple #[.agg #[.int .i64 0, .int .i64 0, .int .i64 0, .int .i64 0, .int .i64 0, .int .i64 0, .int .i64 0, .int .i64 0, .slice none 0 0, .slice none 0 0], .bool false]) ?_ rfl ⟨rfl, HB.out⟩
  simp [results, Try.results15, go_sem, z0, z1, z2, z3, z4, z5, z6, z7, z8, z9]
set_option maxRecDepth 100000 in
set_option maxHeartbeats 4000000 in
theorem by_any {pv : Value} {R : World → Prop} {T : Int → Int → Option Rt.St} (HT : Tells pv R T) (x : Sp) (L : List Tk.Tk) (S : List Mk) (A B : Option Addr) (n m c d : Nat) (w : World) (hR : R w) (hn : n ≤ 9223372036854775807) (hm : m ≤ 9223372036854775807) (h1 : TRow w A n L) (h3 : MkRow w B m S) :
    Calls Try.prog 15 #[stV x (.slice A n c) (.slice B m d), wayV pv] w (ByIs T x L S n m w) := by
  have hstep := HT.step
  have CS := fun W q1 q2 => shape_any x L S A B n m c d W hn hm q1 q2
  have CG := fun W q hs => gone_any HT x A B n m c d W q hs
  have CS2 := fun W q1 q2 => shape_any (goneN T x) L S A B n m c d W hn hm q1 q2
  have CC := fun W hn' hm' q1 q2 => clone_step (goneN T x) L S A B n m c d W hn' hm' q1 q2
  have hbnd : shapeB x n m = true → n ≤ 20000 ∧ m ≤ 20000 := fun h => ⟨(shape_of h).1.2.2.2.1, (shape_of h).1.2.2.2.2⟩
  clear HT
  obtain ⟨E, hE⟩ : ∃ E : Ending → World → Prop, E = ByIs T x L S n m w := ⟨_, rfl⟩
  rw [← hE]
  have HE : Hid (∀ e w', E e w' ↔ ByIs T x L S n m w e w') := Lib.hid (fun e w' => by rw [hE])
  clear hE
  unfold ByIs shiftB at HE
  unfold GoneIs at CG
  obtain ⟨F, hF⟩ : ∃ F, F = shapeB x n m := ⟨_, rfl⟩
  obtain ⟨G, hG⟩ : ∃ F, F = goneB T x := ⟨_, rfl⟩
  obtain ⟨Y, hY⟩ : ∃ F, F = goneN T x := ⟨_, rfl⟩
  simp only [← hF, ← hG, ← hY] at CS CG CS2 CC HE hbnd
  clear hF hG hY
  obtain ⟨H, hH⟩ : ∃ F, F = shapeB Y n m := ⟨_, rfl⟩
  simp only [← hH] at CS2 HE
  clear hH
  obtain ⟨xk, xf, xt, xg, xh, xi, xm, xv⟩ := x
  obtain ⟨yk, yf, yt, yg, yh, yi, ym, yv⟩ := Y
  unfold StIs at CC
  unfold stV stC at CS CG CS2 CC HE
  unfold stV stC
  simp only at CS CG CS2 CC HE ⊢
  have hb0 := ((Below.refl _ w).alloc (Nat.le_refl _) (.cells #[.int .i64 xk, .int .i64 xf, .int .i64 xt, .int .i64 xg, .int .i64 xh, .int .i64 xi, .int .i64 xm, .int .i64 xv, .slice A n c, .slice B m d] 25)).alloc (by simp) (.cells #[.int .i64 0, .int .i64 0, .int .i64 0, .int .i64 0, .int .i64 0, .int .i64 0, .int .i64 0, .int .i64 0, .slice none 0 0, .slice none 0 0] 25)
  have hx : ((w.alloc (.cells #[.int .i64 xk, .int .i64 xf, .int .i64 xt, .int .i64 xg, .int .i64 xh, .int .i64 xi, .int .i64 xm, .int .i64 xv, .slice A n c, .slice B m d] 25)).alloc (.cells #[.int .i64 0, .int .i64 0, .int .i64 0, .int .i64 0, .int .i64 0, .int .i64 0, .int .i64 0, .int .i64 0, .slice none 0 0, .slice none 0 0] 25)).heap[w.heap.size]? = some (.cells #[.int .i64 xk, .int .i64 xf, .int .i64 xt, .int .i64 xg, .int .i64 xh, .int .i64 xi, .int .i64 xm, .int .i64 xv, .slice A n c, .slice B m d] 25) := by rw [Below.heap_alloc _ _ _ (by simp), heap_alloc_new]
  have hz := heap_alloc_new (w.alloc (.cells #[.int .i64 xk, .int .i64 xf, .int .i64 xt, .int .i64 xg, .int .i64 xh, .int .i64 xi, .int .i64 xm, .int .i64 xv, .slice A n c, .slice B m d] 25)) (.cells #[.int .i64 0, .int .i64 0, .int .i64 0, .int .i64 0, .int .i64 0, .int .i64 0, .int .i64 0, .int .i64 0, .slice none 0 0, .slice none 0 0] 25)
  rw [show (w.alloc (.cells #[.int .i64 xk, .int .i64 xf, .int .i64 xt, .int .i64 xg, .int .i64 xh, .int .i64 xi, .int .i64 xm, .int .i64 xv, .slice A n c, .slice B m d] 25)).heap.size = w.heap.size + 1 by simp] at hz
  have HL := Lib.hid (h1.below hb0)
  have HS := Lib.hid (h3.below hb0)
  have HB := Lib.hid hb0
  have HX := Lib.hid hx
  have HZ := Lib.hid hz
  obtain ⟨⟨y0, y1, y2, y3, y4⟩, y5, y6, y7, y8, y9⟩ := tenc hx
  clear hb0 hx hz h1 h3
  have he := fun W => eql_func (.func 16) #[pv] #[] W
  go_enter Try.func15, Try.ntmps15
  go_wp2_with fail
  clear he
  refine (CS _ HL.out HS.out).mono ?_
  rintro e w1 ⟨rfl, hb1⟩
  have HB1 := Lib.hid (HB.out.trans (hb1.mono HB.out.size))
  have HX1 := Lib.hid (hkeep hb1 HX.out)
  have HZ1 := Lib.hid (hkeep hb1 HZ.out)
  have HL1 := Lib.hid (HL.out.below hb1)
  have HS1 := Lib.hid (HS.out.below hb1)
  clear hb1 HB HX HZ HL HS CS y0 y1 y2 y3 y4 y5 y6 y7 y8 y9
  cases F with
  | false =>
    clear CG CS2 CC hstep hR hbnd
    obtain ⟨⟨z0, z1, z2, z3, z4⟩, z5, z6, z7, z8, z9⟩ := tenc HZ1.out
    obtain ⟨f0, f1, f2, f3, f4, f5, f6, f7, f8, f9⟩ := froz HZ1.out
    go_wp2
    clear z0 z1 z2 z3 z4 z5 z6 z7 z8 z9 f0 f1 f2 f3 f4 f5 f6 f7 f8 f9
    have hF := tenc (put10_at HZ1.out (.int .i64 0) (.int .i64 0) (.int .i64 0) (.int .i64 0) (.int .i64 0) (.int .i64 0) (.int .i64 0) (.int .i64 0) (.slice none 0 0) (.slice none 0 0))
    have hB10 := put10_below HB1.out (B := w.heap.size + 1) (by omega) (.int .i64 0) (.int .i64 0) (.int .i64 0) (.int .i64 0) (.int .i64 0) (.int .i64 0) (.int .i64 0) (.int .i64 0) (.slice none 0 0) (.slice none 0 0)
    obtain ⟨⟨r0, r1, r2, r3, r4⟩, r5, r6, r7, r8, r9⟩ := hF
    unfold put10 at r0 r1 r2 r3 r4 r5 r6 r7 r8 r9 hB10
    refine bodyPost_ret (v := .tuple #[.agg #[.int .i64 0, .int .i64 0, .int .i64 0, .int .i64 0, .int .i64 0, .int .i64 0, .int .i64 0, .int .i64 0, .slice none 0 0, .slice none 0 0], .bool false]) ?_ rfl ((HE.out _ _).2 ⟨.inr ⟨by simp, rfl⟩, hB10⟩)
    simp [results, Try.results15, go_sem, r0, r1, r2, r3, r4, r5, r6, r7, r8, r9]
  | true =>
    have hbd := hbnd rfl
    clear hbnd
    obtain ⟨⟨y0, y1, y2, y3, y4⟩, y5, y6, y7, y8, y9⟩ := tenc HX1.out
    go_wp2_with fail
    refine (CG _ (hstep _ _ hR HB1.out) (by trivial)).mono ?_
    rintro e w2 ⟨hgo, hb2⟩
    have HB2 := Lib.hid (HB1.out.trans (hb2.mono HB1.out.size))
    have HZ2 := Lib.hid (hkeep hb2 HZ1.out)
    have HL2 := Lib.hid (HL1.out.below hb2)
    have HS2 := Lib.hid (HS1.out.below hb2)
    have hsz := lt_some HZ2.out
    clear hb2 HB1 HX1 HZ1 HL1 HS1 CG hstep hR y0 y1 y2 y3 y4 y5 y6 y7 y8 y9
    rcases hgo with ⟨rfl, rfl⟩ | ⟨rfl, ⟨tk', tf, tt, tg, th, ti, tm, tv⟩, A', B', n', m', c', d', rfl⟩
    · go_upto_region 4 with fail
      have hbn : Below w2.heap.size w2 (w2.alloc (.cells #[.int .i64 yk, .int .i64 yf, .int .i64 yt, .int .i64 yg, .int .i64 yh, .int .i64 yi, .int .i64 ym, .int .i64 yv, .slice A n c, .slice B m d] 25)) := (Below.refl _ _).alloc (Nat.le_refl _) _
      have HB3 := Lib.hid (HB2.out.trans (hbn.mono HB2.out.size))
      have HZ3 := Lib.hid (hkeep hbn HZ2.out)
      have HL3 := Lib.hid (HL2.out.below hbn)
      have HS3 := Lib.hid (HS2.out.below hbn)
      have HY3 := Lib.hid (heap_alloc_new w2 (.cells #[.int .i64 yk, .int .i64 yf, .int .i64 yt, .int .i64 yg, .int .i64 yh, .int .i64 yi, .int .i64 ym, .int .i64 yv, .slice A n c, .slice B m d] 25))
      clear hbn HB2 HZ2 HL2 HS2
      generalize w2.alloc (.cells #[.int .i64 yk, .int .i64 yf, .int .i64 yt, .int .i64 yg, .int .i64 yh, .int .i64 yi, .int .i64 ym, .int .i64 yv, .slice A n c, .slice B m d] 25) = W3 at HB3 HZ3 HL3 HS3 HY3 ⊢
      obtain ⟨⟨o0, o1, o2, o3, o4⟩, o5, o6, o7, o8, o9⟩ := tenc HY3.out
      go_wp2_with fail
      refine (CS2 _ HL3.out HS3.out).mono ?_
      rintro e w4 ⟨rfl, hb4⟩
      have HB4 := Lib.hid (HB3.out.trans (hb4.mono HB3.out.size))
      have HZ4 := Lib.hid (hkeep hb4 HZ3.out)
      have HL4 := Lib.hid (HL3.out.below hb4)
      have HS4 := Lib.hid (HS3.out.below hb4)
      have HY4 := Lib.hid (hkeep hb4 HY3.out)
      clear hb4 HB3 HZ3 HL3 HS3 HY3 CS2 o0 o1 o2 o3 o4 o5 o6 o7 o8 o9
      cases H with
      | false =>
        obtain ⟨⟨z0, z1, z2, z3, z4⟩, z5, z6, z7, z8, z9⟩ := tenc HZ4.out
        obtain ⟨f0, f1, f2, f3, f4, f5, f6, f7, f8, f9⟩ := froz HZ4.out
        go_wp2
        clear z0 z1 z2 z3 z4 z5 z6 z7 z8 z9 f0 f1 f2 f3 f4 f5 f6 f7 f8 f9
        have hF := tenc (put10_at HZ4.out (.int .i64 0) (.int .i64 0) (.int .i64 0) (.int .i64 0) (.int .i64 0) (.int .i64 0) (.int .i64 0) (.int .i64 0) (.slice none 0 0) (.slice none 0 0))
        have hB10 := put10_below HB4.out (B := w.heap.size + 1) (by omega) (.int .i64 0) (.int .i64 0) (.int .i64 0) (.int .i64 0) (.int .i64 0) (.int .i64 0) (.int .i64 0) (.int .i64 0) (.slice none 0 0) (.slice none 0 0)
        obtain ⟨⟨r0, r1, r2, r3, r4⟩, r5, r6, r7, r8, r9⟩ := hF
        unfold put10 at r0 r1 r2 r3 r4 r5 r6 r7 r8 r9 hB10
        refine bodyPost_ret (v := .tuple #[.agg #[.int .i64 0, .int .i64 0, .int .i64 0, .int .i64 0, .int .i64 0, .int .i64 0, .int .i64 0, .int .i64 0, .slice none 0 0, .slice none 0 0], .bool false]) ?_ rfl ((HE.out _ _).2 ⟨.inr ⟨by simp, rfl⟩, hB10⟩)
        simp [results, Try.results15, go_sem, r0, r1, r2, r3, r4, r5, r6, r7, r8, r9]
      | true =>
        obtain ⟨⟨o0, o1, o2, o3, o4⟩, o5, o6, o7, o8, o9⟩ := tenc HY4.out
        go_wp2_with fail
        refine (CC _ (by omega) (by omega) HL4.out HS4.out).mono ?_
        rintro e w5 ⟨s, t, rfl, hs, ht, hb5⟩
        obtain ⟨As, cs, rfl⟩ := hs.form
        obtain ⟨At, ct, rfl⟩ := ht.form
        have HB5 := Lib.hid (HB4.out.trans (hb5.mono HB4.out.size))
        have HZ5 := Lib.hid (hkeep hb5 HZ4.out)
        have hsz4 := lt_some HZ4.out
        have HT5 := Lib.hid (tks_put10 (hs.lower (base' := w.heap.size + 2) (by omega)) (B := w.heap.size + 1) (by omega) (.int .i64 yk) (.int .i64 yf) (.int .i64 yt) (.int .i64 yg) (.int .i64 yh) (.int .i64 yi) (.int .i64 ym) (.int .i64 yv) (.slice As L.length cs) (.slice At S.length ct))
        have HM5 := Lib.hid (mks_put10 (ht.lower (base' := w.heap.size + 2) (by omega)) (B := w.heap.size + 1) (by omega) (.int .i64 yk) (.int .i64 yf) (.int .i64 yt) (.int .i64 yg) (.int .i64 yh) (.int .i64 yi) (.int .i64 ym) (.int .i64 yv) (.slice As L.length cs) (.slice At S.length ct))
        clear hb5 HB4 HZ4 HL4 HS4 HY4 CC o0 o1 o2 o3 o4 o5 o6 o7 o8 o9 hs ht
        obtain ⟨⟨z0, z1, z2, z3, z4⟩, z5, z6, z7, z8, z9⟩ := tenc HZ5.out
        obtain ⟨f0, f1, f2, f3, f4, f5, f6, f7, f8, f9⟩ := froz HZ5.out
        go_wp2
        clear z0 z1 z2 z3 z4 z5 z6 z7 z8 z9 f0 f1 f2 f3 f4 f5 f6 f7 f8 f9
        have hF := tenc (put10_at HZ5.out (.int .i64 yk) (.int .i64 yf) (.int .i64 yt) (.int .i64 yg) (.int .i64 yh) (.int .i64 yi) (.int .i64 ym) (.int .i64 yv) (.slice As L.length cs) (.slice At S.length ct))
        have hB10 := put10_below HB5.out (B := w.heap.size + 1) (by omega) (.int .i64 yk) (.int .i64 yf) (.int .i64 yt) (.int .i64 yg) (.int .i64 yh) (.int .i64 yi) (.int .i64 ym) (.int .i64 yv) (.slice As L.length cs) (.slice At S.length ct)
        have hT := HT5.out.lower (base' := w.heap.size) (by omega)
        have hM := HM5.out.lower (base' := w.heap.size) (by omega)
        obtain ⟨⟨r0, r1, r2, r3, r4⟩, r5, r6, r7, r8, r9⟩ := hF
        unfold put10 at r0 r1 r2 r3 r4 r5 r6 r7 r8 r9 hB10 hT hM
        refine bodyPost_ret (v := .tuple #[.agg #[.int .i64 yk, .int .i64 yf, .int .i64 yt, .int .i64 yg, .int .i64 yh, .int .i64 yi, .int .i64 ym, .int .i64 yv, .slice As L.length cs, .slice At S.length ct], .bool true]) ?_ rfl ((HE.out _ _).2 ⟨.inl ⟨by simp, _, _, rfl, hT, hM⟩, hB10⟩)
        simp [results, Try.results15, go_sem, r0, r1, r2, r3, r4, r5, r6, r7, r8, r9]
    · have hbn : Below w2.heap.size w2 (w2.alloc (.cells #[.int .i64 tk', .int .i64 tf, .int .i64 tt, .int .i64 tg, .int .i64 th, .int .i64 ti, .int .i64 tm, .int .i64 tv, .slice A' n' c', .slice B' m' d'] 25)) := (Below.refl _ _).alloc (Nat.le_refl _) _
      simp only
      go_upto_region 4 with fail
      have HB3 := Lib.hid (HB2.out.trans (hbn.mono HB2.out.size))
      have HZ3 := Lib.hid (hkeep hbn HZ2.out)
      clear hbn HB2 HZ2 HL2 HS2 CS2 CC
      generalize w2.alloc _ = W3 at HB3 HZ3 ⊢
      obtain ⟨⟨z0, z1, z2, z3, z4⟩, z5, z6, z7, z8, z9⟩ := tenc HZ3.out
      obtain ⟨f0, f1, f2, f3, f4, f5, f6, f7, f8, f9⟩ := froz HZ3.out
      go_wp2
      clear z0 z1 z2 z3 z4 z5 z6 z7 z8 z9 f0 f1 f2 f3 f4 f5 f6 f7 f8 f9
      have hF := tenc (put10_at HZ3.out (.int .i64 0) (.int .i64 0) (.int .i64 0) (.int .i64 0) (.int .i64 0) (.int .i64 0) (.int .i64 0) (.int .i64 0) (.slice none 0 0) (.slice none 0 0))
      have hB10 := put10_below HB3.out (B := w.heap.size + 1) (by omega) (.int .i64 0) (.int .i64 0) (.int .i64 0) (.int .i64 0) (.int .i64 0) (.int .i64 0) (.int .i64 0) (.int .i64 0) (.slice none 0 0) (.slice none 0 0)
      obtain ⟨⟨r0, r1, r2, r3, r4⟩, r5, r6, r7, r8, r9⟩ := hF
      unfold put10 at r0 r1 r2 r3 r4 r5 r6 r7 r8 r9 hB10
      refine bodyPost_ret (v := .tuple #[.agg #[.int .i64 0, .int .i64 0, .int .i64 0, .int .i64 0, .int .i64 0, .int .i64 0, .int .i64 0, .int .i64 0, .slice none 0 0, .slice none 0 0], .bool false]) ?_ rfl ((HE.out _ _).2 ⟨.inr ⟨by simp, rfl⟩, hB10⟩)
      simp [results, Try.results15, go_sem, r0, r1, r2, r3, r4, r5, r6, r7, r8, r9]
end Go.Proofs.Ytmhngehpddfccaa.St
