/- Steps: the reference's Through. -/
import Derived.Test.YtlbkfenlbkibgaaStO
set_option linter.unusedVariables false
set_option maxRecDepth 100000
set_option maxHeartbeats 12000000
namespace Go.Proofs.Ytlbkfenlbkibgaa.St
open Go.RowKit Mem Sm Tk Rt
set_option linter.unusedSimpArgs false
noncomputable def shiftB (T : Int → Int → Option Rt.St) (x : Sp) (n m : Nat) : Bool := shapeB x n m && (goneB T x && shapeB (goneN T x) n m)
abbrev zeroV : Value := .agg #[.int .i64 0, .int .i64 0, .int .i64 0, .int .i64 0, .int .i64 0, .int .i64 0, .int .i64 0, .int .i64 0, .slice none 0 0, .slice none 0 0]
def RThIs (T : Int → Int → Option Rt.St) (x : Sp) (A B : Option Addr) (n m c d : Nat) (e : Ending) : Prop :=
 (shiftB T x n m = true ∧ e = .returned (.tuple #[stV (goneN T x) (.slice A n c) (.slice B m d), .bool true])) ∨
 (shiftB T x n m = false ∧ e = .returned (.tuple #[zeroV, .bool false]))
structure TH (n0 : Nat) (xo ro zo : Obj) (W : World) : Prop where
 hx : W.heap[n0]? = some xo
 hr : W.heap[n0 + 1]? = some ro
 hz : W.heap[n0 + 2]? = some zo
 ho : W.heap[n0 + 3]? = some zo
theorem TH.step {n0 : Nat} {xo ro zo : Obj} {W W' : World} (h : TH n0 xo ro zo W) (hb : Below W.heap.size W W') : TH n0 xo ro zo W' :=
 ⟨hkeep hb h.hx, hkeep hb h.hr, hkeep hb h.hz, hkeep hb h.ho⟩
theorem TH.set {n0 Y j : Nat} {xo ro zo : Obj} {W : World} (h : TH n0 xo ro zo W) (hY : n0 + 3 < Y) (v : Value) : TH n0 xo ro zo (W.setCell ⟨Y, j, none⟩ v) :=
 ⟨(set_else (by omega) v).trans h.hx, (set_else (by omega) v).trans h.hr, (set_else (by omega) v).trans h.hz, (set_else (by omega) v).trans h.ho⟩
theorem TH.new (w : World) (xo ro zo : Obj) : TH w.heap.size xo ro zo ((((w.alloc xo).alloc ro).alloc zo).alloc zo) ∧ Below w.heap.size w ((((w.alloc xo).alloc ro).alloc zo).alloc zo) := by
 have s1 : (w.alloc xo).heap.size = w.heap.size + 1 := by simp
 have s2 : ((w.alloc xo).alloc ro).heap.size = w.heap.size + 2 := by simp
 have s3 : (((w.alloc xo).alloc ro).alloc zo).heap.size = w.heap.size + 3 := by simp
 have b1 : Below w.heap.size w (w.alloc xo) := (Below.refl _ w).alloc (Nat.le_refl _) _
 have b2 := b1.alloc (by omega) ro
 have b3 := b2.alloc (by omega) zo
 have b4 := b3.alloc (by omega) zo
 have q1 := heap_alloc_new w xo
 have q2 := heap_alloc_new (w.alloc xo) ro
 have q3 := heap_alloc_new ((w.alloc xo).alloc ro) zo
 have q4 := heap_alloc_new (((w.alloc xo).alloc ro).alloc zo) zo
 rw [s1] at q2
 rw [s2] at q3
 rw [s3] at q4
 refine ⟨⟨?_, ?_, ?_, q4⟩, b4⟩
 ·rw [Below.heap_alloc _ _ _ (by omega), Below.heap_alloc _ _ _ (by omega), Below.heap_alloc _ _ _ (by omega)]; exact q1
 ·rw [Below.heap_alloc _ _ _ (by omega), Below.heap_alloc _ _ _ (by omega)]; exact q2
 ·rw [Below.heap_alloc _ _ _ (by omega)]; exact q3
theorem shape_gap {x : Sp} {n m : Nat} (h : shapeB x n m = true) (hk : x.kind = 2) : x.from_ ≤ x.gf ∧ x.gf ≤ x.gt := by
 have := (shape_of h).2
 unfold formP at this
 omega
theorem rthrough_any {A1 A2 : Option Addr} {n1 n2 c1 c2 : Nat} {R : World → Prop} {T : Int → Int → Option Rt.St} (HT : RTells (.agg #[.slice A1 n1 c1, .slice A2 n2 c2]) R T) (x : Sp) (A B : Option Addr) (n m c d : Nat) (w : World) (hR : R w) (hn : n ≤ 1000000) (hm : m ≤ 1000000) :
  Calls Try.prog 16 #[stV x (.slice A n c) (.slice B m d), .agg #[.slice A1 n1 c1, .slice A2 n2 c2]] w fun e w' => RThIs T x A B n m c d e ∧ Below w.heap.size w w' := by
 have hstep := HT.step
 have CS := fun W => rshape_any x A B n m c d W (by omega) (by omega)
 have CS2 := fun y W => rshape_any y A B n m c d W (by omega) (by omega)
 have CP := fun W => HT.call W x.from_ 1
 have CQ := fun W => HT.call W x.to_ (-1)
 have CU := fun W => HT.call W x.gf (-1)
 have CV := fun W => HT.call W x.gt 1
 have CK := fun W fr q h => row_any HT x A B n m c d fr W q h
 obtain ⟨E, hE⟩ : ∃ E : Ending → Prop, E = RThIs T x A B n m c d := ⟨_, rfl⟩
 rw [← hE]
 have HE := Lib.hid hE
 clear hE
 obtain ⟨F, hF⟩ : ∃ F, F = shapeB x n m := ⟨_, rfl⟩
 have HF := Lib.hid hF
 obtain ⟨H, hH⟩ : ∃ F, F = shapeB (goneN T x) n m := ⟨_, rfl⟩
 unfold RThIs shiftB at HE
 simp only [← hF, ← hH] at HE CS
 have HH := Lib.hid hH
 clear hF hH
 unfold goneB goneN at HE
 unfold goneN at HH
 obtain ⟨P, hP⟩ : ∃ P, P = endP (T x.from_ 1) := ⟨_, rfl⟩
 obtain ⟨Q, hQ⟩ : ∃ P, P = endP (T x.to_ (-1)) := ⟨_, rfl⟩
 obtain ⟨F1, hF1⟩ : ∃ P, P = (T x.from_ 1).isSome := ⟨_, rfl⟩
 obtain ⟨F2, hF2⟩ : ∃ P, P = (T x.to_ (-1)).isSome := ⟨_, rfl⟩
 obtain ⟨U, hU⟩ : ∃ P, P = endP (T x.gf (-1)) := ⟨_, rfl⟩
 obtain ⟨V, hV⟩ : ∃ P, P = endP (T x.gt 1) := ⟨_, rfl⟩
 obtain ⟨G1, hG1⟩ : ∃ P, P = (T x.gf (-1)).isSome := ⟨_, rfl⟩
 obtain ⟨G2, hG2⟩ : ∃ P, P = (T x.gt 1).isSome := ⟨_, rfl⟩
 simp only [← hP, ← hQ, ← hF1, ← hF2, ← hU, ← hV, ← hG1, ← hG2] at CP CQ CU CV HE HH
 clear hP hQ hF1 hF2 hU hV hG1 hG2
 obtain ⟨p0, p1, p2, p3, p4⟩ := P
 obtain ⟨q0, q1, q2, q3, q4⟩ := Q
 obtain ⟨u0, u1, u2, u3, u4⟩ := U
 obtain ⟨v0, v1, v2, v3, v4⟩ := V
 have CK := fun W q h => CK W p0 q h
 obtain ⟨KV, hKV⟩ : ∃ b, b = keepsB T x p0 := ⟨_, rfl⟩
 simp only [← hKV] at CK HE
 clear hKV HT
 obtain ⟨xk, xf, xt, xg, xh, xi, xm, xv⟩ := x
 unfold plV at CP CQ CU CV
 unfold stV stC at CK HE
 unfold stV stC
 simp only at CP CQ CU CV CK CS CS2 HE HH ⊢
 have hh := TH.new w (.cells #[.int .i64 xk, .int .i64 xf, .int .i64 xt, .int .i64 xg, .int .i64 xh, .int .i64 xi, .int .i64 xm, .int .i64 xv, .slice A n c, .slice B m d] 25) (rtO (.slice A1 n1 c1) (.slice A2 n2 c2)) (.cells #[.int .i64 0, .int .i64 0, .int .i64 0, .int .i64 0, .int .i64 0, .int .i64 0, .int .i64 0, .int .i64 0, .slice none 0 0, .slice none 0 0] 25)
 have H0 := Lib.hid hh.1
 have HB0 := Lib.hid hh.2
 clear hh
 obtain ⟨⟨y0, y1, y2, y3, y4⟩, y5, y6, y7, y8, y9⟩ := tenc H0.out.hx
 go_enter Try.func16, Try.ntmps16
 go_wp2_with fail
 refine (CS _).mono ?_
 rintro e w1 ⟨rfl, hb1⟩
 have HB1 := Lib.hid (HB0.out.trans (hb1.mono HB0.out.size))
 have H1 := Lib.hid (H0.out.step hb1)
 clear hb1 HB0 H0 CS y0 y1 y2 y3 y4 y5 y6 y7 y8 y9
 cases F with
 | false =>
  clear CP CQ CU CV CK CS2 hstep hR
  obtain ⟨⟨z0, z1, z2, z3, z4⟩, z5, z6, z7, z8, z9⟩ := tenc H1.out.hz
  obtain ⟨f0, f1, f2, f3, f4, f5, f6, f7, f8, f9⟩ := froz H1.out.hz
  obtain ⟨⟨o0, o1, o2, o3, o4⟩, o5, o6, o7, o8, o9⟩ := tenc H1.out.ho
  go_wp2
  have hend : E (.returned (.tuple #[.agg #[.int .i64 0, .int .i64 0, .int .i64 0, .int .i64 0, .int .i64 0, .int .i64 0, .int .i64 0, .int .i64 0, .slice none 0 0, .slice none 0 0], .bool false])) := by
   rw [HE.out]
   exact .inr ⟨by simp, rfl⟩
  clear z0 z1 z2 z3 z4 z5 z6 z7 z8 z9
  clear f0 f1 f2 f3 f4 f5 f6 f7 f8 f9
  clear o0 o1 o2 o3 o4 o5 o6 o7 o8 o9
  have hF := tenc (put10_at H1.out.hz (.int .i64 0) (.int .i64 0) (.int .i64 0) (.int .i64 0) (.int .i64 0) (.int .i64 0) (.int .i64 0) (.int .i64 0) (.slice none 0 0) (.slice none 0 0))
  have hB10 := put10_below HB1.out (B := w.heap.size + 2) (by omega) (.int .i64 0) (.int .i64 0) (.int .i64 0) (.int .i64 0) (.int .i64 0) (.int .i64 0) (.int .i64 0) (.int .i64 0) (.slice none 0 0) (.slice none 0 0)
  obtain ⟨⟨r0, r1, r2, r3, r4⟩, r5, r6, r7, r8, r9⟩ := hF
  unfold put10 at r0 r1 r2 r3 r4 r5 r6 r7 r8 r9 hB10
  refine bodyPost_ret (v := .tuple #[.agg #[.int .i64 0, .int .i64 0, .int .i64 0, .int .i64 0, .int .i64 0, .int .i64 0, .int .i64 0, .int .i64 0, .slice none 0 0, .slice none 0 0], .bool false]) ?_ rfl ⟨hend, hB10⟩
  simp [results, Try.results16, go_sem, r0, r1, r2, r3, r4, r5, r6, r7, r8, r9]
 | true =>
  have hsh := shape_of HF.out.symm
  have hbd := hsh.1
  have hk : xk = 1 ∨ xk = 2 ∨ xk = 5 ∨ (¬ xk = 1 ∧ ¬ xk = 2 ∧ ¬ xk = 5 ∧ (xk = 3 ∨ xk = 4)) := by have := hsh.2; unfold formP at this; simp only at this; omega
  unfold boundP at hbd
  simp only at hbd
  have CK := fun W q => CK W q ⟨hbd.1, hbd.2.1, hbd.2.2.1⟩
  clear HF hsh hbd
  obtain ⟨⟨y0, y1, y2, y3, y4⟩, y5, y6, y7, y8, y9⟩ := tenc H1.out.hx
  obtain ⟨a0, a1⟩ := twoc H1.out.hr
  go_wp2_with fail
  refine (CP _ (hstep _ _ hR HB1.out)).mono ?_
  rintro e w2 ⟨rfl, hb2⟩
  have HB2 := Lib.hid (HB1.out.trans (hb2.mono HB1.out.size))
  have H2 := Lib.hid (H1.out.step hb2)
  clear hb2 HB1 H1 CP a0 a1
  clear y0 y1 y2 y3 y4 y5 y6 y7 y8 y9
  have hbn : Below w2.heap.size w2 (w2.alloc (plR ⟨p0, p1, p2, p3, p4⟩)) := (Below.refl _ _).alloc (Nat.le_refl _) _
  have HB3 := Lib.hid (HB2.out.trans (hbn.mono HB2.out.size))
  have H3 := Lib.hid (H2.out.step hbn)
  have HP3 := Lib.hid (heap_alloc_new w2 (plR ⟨p0, p1, p2, p3, p4⟩))
  have hl2 := lt_some H2.out.ho
  clear hbn HB2
  obtain ⟨⟨y0, y1, y2, y3, y4⟩, y5, y6, y7, y8, y9⟩ := tenc H3.out.hx
  obtain ⟨a0, a1⟩ := twoc H3.out.hr
  go_wp2_with fail
  refine (CQ _ (hstep _ _ hR HB3.out)).mono ?_
  rintro e w4 ⟨rfl, hb4⟩
  have HB4 := Lib.hid (HB3.out.trans (hb4.mono HB3.out.size))
  have H4 := Lib.hid (H3.out.step hb4)
  have HP4 := Lib.hid (hkeep hb4 HP3.out)
  clear hb4 HB3 H3 HP3 H2 CQ a0 a1
  clear y0 y1 y2 y3 y4 y5 y6 y7 y8 y9
  generalize hB1 : w2.heap.size = B1 at *
  go_upto_region 6 with fail
  have hbn : Below w4.heap.size w4 (w4.alloc (plR ⟨q0, q1, q2, q3, q4⟩)) := (Below.refl _ _).alloc (Nat.le_refl _) _
  have HB5 := Lib.hid (HB4.out.trans (hbn.mono HB4.out.size))
  have H5 := Lib.hid (H4.out.step hbn)
  have HP5 := Lib.hid (hkeep hbn HP4.out)
  have HQ5 := Lib.hid (heap_alloc_new w4 (plR ⟨q0, q1, q2, q3, q4⟩))
  have hl4 := lt_some HP4.out
  clear hbn HB4 H4 HP4 hB1
  generalize hB2 : w4.heap.size = B2 at *
  generalize w4.alloc (plR ⟨q0, q1, q2, q3, q4⟩) = W at HB5 H5 HP5 HQ5 ⊢
  have hlW := lt_some HQ5.out
  clear hB2
  obtain ⟨BAD, hBAD⟩ : ∃ b, b = (!(F1 && F2) || (p2 && q2)) := ⟨_, rfl⟩
  have HBAD := Lib.hid hBAD
  clear hBAD
  go_cut [48] from 35 to 48 (fun v wx => v = .bool BAD ∧ wx = W)
  case first =>
   clear CU CV CK CS2 HE HH hstep hR
   obtain ⟨a0, a1, a2, a3, a4⟩ := five HP5.out
   obtain ⟨b0, b1, b2, b3, b4⟩ := five HQ5.out
   cases F1 with
   | false =>
    go_wp2_with fail
    go_meet
    exact ⟨by rw [HBAD.out]; rfl, rfl⟩
   | true =>
    cases F2 with
    | false =>
     go_wp2_with fail
     go_meet
     exact ⟨by rw [HBAD.out]; rfl, rfl⟩
    | true =>
     cases p2 with
     | false =>
      go_wp2_with fail
      go_meet
      exact ⟨by rw [HBAD.out]; rfl, rfl⟩
     | true =>
      go_wp2_with fail
      go_meet
      exact ⟨by rw [HBAD.out]; simp, rfl⟩
  case rest =>
  obtain ⟨rfl, hw⟩ := hcut
  rw [hw]
  clear hw
  cases BAD with
  | true =>
   clear CU CV CK CS2 hstep hR
   obtain ⟨⟨z0, z1, z2, z3, z4⟩, z5, z6, z7, z8, z9⟩ := tenc H5.out.hz
   obtain ⟨f0, f1, f2, f3, f4, f5, f6, f7, f8, f9⟩ := froz H5.out.hz
   obtain ⟨⟨o0, o1, o2, o3, o4⟩, o5, o6, o7, o8, o9⟩ := tenc H5.out.ho
   go_wp2
   have hend : E (.returned (.tuple #[.agg #[.int .i64 0, .int .i64 0, .int .i64 0, .int .i64 0, .int .i64 0, .int .i64 0, .int .i64 0, .int .i64 0, .slice none 0 0, .slice none 0 0], .bool false])) := by
    rw [HE.out]
    exact .inr ⟨by have := HBAD.out; revert this; cases F1 <;> cases F2 <;> cases p2 <;> cases q2 <;> simp, rfl⟩
   clear z0 z1 z2 z3 z4 z5 z6 z7 z8 z9
   clear f0 f1 f2 f3 f4 f5 f6 f7 f8 f9
   clear o0 o1 o2 o3 o4 o5 o6 o7 o8 o9
   have hF := tenc (put10_at H5.out.hz (.int .i64 0) (.int .i64 0) (.int .i64 0) (.int .i64 0) (.int .i64 0) (.int .i64 0) (.int .i64 0) (.int .i64 0) (.slice none 0 0) (.slice none 0 0))
   have hB10 := put10_below HB5.out (B := w.heap.size + 2) (by omega) (.int .i64 0) (.int .i64 0) (.int .i64 0) (.int .i64 0) (.int .i64 0) (.int .i64 0) (.int .i64 0) (.int .i64 0) (.slice none 0 0) (.slice none 0 0)
   obtain ⟨⟨r0, r1, r2, r3, r4⟩, r5, r6, r7, r8, r9⟩ := hF
   unfold put10 at r0 r1 r2 r3 r4 r5 r6 r7 r8 r9 hB10
   refine bodyPost_ret (v := .tuple #[.agg #[.int .i64 0, .int .i64 0, .int .i64 0, .int .i64 0, .int .i64 0, .int .i64 0, .int .i64 0, .int .i64 0, .slice none 0 0, .slice none 0 0], .bool false]) ?_ rfl ⟨hend, hB10⟩
   simp [results, Try.results16, go_sem, r0, r1, r2, r3, r4, r5, r6, r7, r8, r9]
  | false =>
   have hbad : F1 = true ∧ F2 = true ∧ (p2 && q2) = false := by have := HBAD.out; revert this; cases F1 <;> cases F2 <;> cases p2 <;> cases q2 <;> simp
   obtain ⟨rfl, rfl, hin⟩ := hbad
   simp only [hin] at HE
   clear HBAD
   obtain ⟨⟨y0, y1, y2, y3, y4⟩, y5, y6, y7, y8, y9⟩ := tenc H5.out.hx
   go_upto_region 9 with fail
   clear y0 y1 y2 y3 y4 y5 y6 y7 y8 y9
   have hbn : Below W.heap.size W (W.alloc (.cells #[.int .i64 xk, .int .i64 xf, .int .i64 xt, .int .i64 xg, .int .i64 xh, .int .i64 xi, .int .i64 xm, .int .i64 xv, .slice A n c, .slice B m d] 25)) := (Below.refl _ _).alloc (Nat.le_refl _) _
   have HB6 := Lib.hid (HB5.out.trans (hbn.mono HB5.out.size))
   have H6 := Lib.hid (H5.out.step hbn)
   have HP6 := Lib.hid (hkeep hbn HP5.out)
   have HQ6 := Lib.hid (hkeep hbn HQ5.out)
   have HY6 := Lib.hid (heap_alloc_new W (.cells #[.int .i64 xk, .int .i64 xf, .int .i64 xt, .int .i64 xg, .int .i64 xh, .int .i64 xi, .int .i64 xm, .int .i64 xv, .slice A n c, .slice B m d] 25))
   have hyw : w.heap.size ≤ W.heap.size := HB5.out.size
   clear hbn HB5 H5 HP5 HQ5
   generalize hYY : W.heap.size = Y at *
   generalize W.alloc (.cells #[.int .i64 xk, .int .i64 xf, .int .i64 xt, .int .i64 xg, .int .i64 xh, .int .i64 xi, .int .i64 xm, .int .i64 xv, .slice A n c, .slice B m d] 25) = W6 at HB6 H6 HP6 HQ6 HY6 ⊢
   clear hYY
   obtain ⟨a0, a1, a2, a3, a4⟩ := five HP6.out
   obtain ⟨⟨o0, o1, o2, o3, o4⟩, o5, o6, o7, o8, o9⟩ := tenc HY6.out
   obtain ⟨f0, f1, f2, f3, f4, f5, f6, f7, f8, f9⟩ := froz HY6.out
   go_upto_region 10 with fail
   clear a0 a1 a2 a3 a4
   clear o0 o1 o2 o3 o4 o5 o6 o7 o8 o9
   clear f0 f1 f2 f3 f4 f5 f6 f7 f8 f9
   have HB7 := Lib.hid (HB6.out.setCell (p := ⟨Y, 1, none⟩) hyw (.int .i64 p0))
   have H7 := Lib.hid (H6.out.set (Y := Y) (j := 1) (by omega) (.int .i64 p0))
   have HP7 : Hid ((W6.setCell ⟨Y, 1, none⟩ (.int .i64 p0)).heap[B1]? = some (plR ⟨p0, p1, p2, p3, p4⟩)) := Lib.hid ((set_else (by omega) _).trans HP6.out)
   have HQ7 : Hid ((W6.setCell ⟨Y, 1, none⟩ (.int .i64 p0)).heap[B2]? = some (plR ⟨q0, q1, q2, q3, q4⟩)) := Lib.hid ((set_else (by omega) _).trans HQ6.out)
   have HY7 : Hid ((W6.setCell ⟨Y, 1, none⟩ (.int .i64 p0)).heap[Y]? = some (.cells #[.int .i64 xk, .int .i64 p0, .int .i64 xt, .int .i64 xg, .int .i64 xh, .int .i64 xi, .int .i64 xm, .int .i64 xv, .slice A n c, .slice B m d] 25)) := Lib.hid (by have := set_at (j := 1) HY6.out (.int .i64 p0); simpa using this)
   clear HB6 H6 HY6 HP6 HQ6
   generalize W6.setCell ⟨Y, 1, none⟩ (.int .i64 p0) = W7 at HB7 H7 HY7 HP7 HQ7 ⊢
   obtain ⟨a0, a1, a2, a3, a4⟩ := five HP7.out
   obtain ⟨b0, b1, b2, b3, b4⟩ := five HQ7.out
   obtain ⟨⟨o0, o1, o2, o3, o4⟩, o5, o6, o7, o8, o9⟩ := tenc HY7.out
   obtain ⟨f0, f1, f2, f3, f4, f5, f6, f7, f8, f9⟩ := froz HY7.out
   go_upto_region 11 with fail
   clear a0 a1 a2 a3 a4
   clear b0 b1 b2 b3 b4
   clear o0 o1 o2 o3 o4 o5 o6 o7 o8 o9
   clear f0 f1 f2 f3 f4 f5 f6 f7 f8 f9
   generalize hM : max p0 q0 = M at *
   have HB8 := Lib.hid (HB7.out.setCell (p := ⟨Y, 2, none⟩) hyw (.int .i64 M))
   have H8 := Lib.hid (H7.out.set (Y := Y) (j := 2) (by omega) (.int .i64 M))
   have HP8 : Hid ((W7.setCell ⟨Y, 2, none⟩ (.int .i64 M)).heap[B1]? = some (plR ⟨p0, p1, p2, p3, p4⟩)) := Lib.hid ((set_else (by omega) _).trans HP7.out)
   have HQ8 : Hid ((W7.setCell ⟨Y, 2, none⟩ (.int .i64 M)).heap[B2]? = some (plR ⟨q0, q1, q2, q3, q4⟩)) := Lib.hid ((set_else (by omega) _).trans HQ7.out)
   have HY8 : Hid ((W7.setCell ⟨Y, 2, none⟩ (.int .i64 M)).heap[Y]? = some (.cells #[.int .i64 xk, .int .i64 p0, .int .i64 M, .int .i64 xg, .int .i64 xh, .int .i64 xi, .int .i64 xm, .int .i64 xv, .slice A n c, .slice B m d] 25)) := Lib.hid (by have := set_at (j := 2) HY7.out (.int .i64 M); simpa using this)
   clear HB7 H7 HY7 HP7 HQ7
   generalize W7.setCell ⟨Y, 2, none⟩ (.int .i64 M) = W8 at HB8 H8 HY8 HP8 HQ8 ⊢
   have hM2 : max q0 p0 = M := by rw [Int.max_comm]; exact hM
   simp only [hM2] at HE HH
   rcases hk with rfl | rfl | rfl | ⟨k1, k2, k5, k34⟩
   ·clear CU CV CK
    have hHH : H = shapeB ⟨1, p0, M, xg, xh, xi, xm, xv⟩ n m := by rw [HH.out] <;> (try simp)
    obtain ⟨⟨y0, y1, y2, y3, y4⟩, y5, y6, y7, y8, y9⟩ := tenc H8.out.hx
    obtain ⟨⟨o0, o1, o2, o3, o4⟩, o5, o6, o7, o8, o9⟩ := tenc HY8.out
    go_wp2_with fail
    refine (CS2 ⟨1, p0, M, xg, xh, xi, xm, xv⟩ _).mono ?_
    rintro e w9 ⟨rfl, hb9⟩
    rw [← hHH]
    have HB9 := Lib.hid (HB8.out.trans (hb9.mono HB8.out.size))
    have H9 := Lib.hid (H8.out.step hb9)
    have HY9 := Lib.hid (hkeep hb9 HY8.out)
    clear hb9 HB8 H8 HY8 CS2 hstep hR hHH HH
    clear y0 y1 y2 y3 y4 y5 y6 y7 y8 y9
    clear o0 o1 o2 o3 o4 o5 o6 o7 o8 o9
    cases H with
    | false =>
     obtain ⟨⟨z0, z1, z2, z3, z4⟩, z5, z6, z7, z8, z9⟩ := tenc H9.out.hz
     obtain ⟨f0, f1, f2, f3, f4, f5, f6, f7, f8, f9⟩ := froz H9.out.hz
     obtain ⟨⟨o0, o1, o2, o3, o4⟩, o5, o6, o7, o8, o9⟩ := tenc H9.out.ho
     go_wp2
     have hend : E (.returned (.tuple #[.agg #[.int .i64 0, .int .i64 0, .int .i64 0, .int .i64 0, .int .i64 0, .int .i64 0, .int .i64 0, .int .i64 0, .slice none 0 0, .slice none 0 0], .bool false])) := by
      rw [HE.out]
      exact .inr ⟨by simp, rfl⟩
     clear z0 z1 z2 z3 z4 z5 z6 z7 z8 z9
     clear f0 f1 f2 f3 f4 f5 f6 f7 f8 f9
     clear o0 o1 o2 o3 o4 o5 o6 o7 o8 o9
     have hF := tenc (put10_at H9.out.hz (.int .i64 0) (.int .i64 0) (.int .i64 0) (.int .i64 0) (.int .i64 0) (.int .i64 0) (.int .i64 0) (.int .i64 0) (.slice none 0 0) (.slice none 0 0))
     have hB10 := put10_below HB9.out (B := w.heap.size + 2) (by omega) (.int .i64 0) (.int .i64 0) (.int .i64 0) (.int .i64 0) (.int .i64 0) (.int .i64 0) (.int .i64 0) (.int .i64 0) (.slice none 0 0) (.slice none 0 0)
     obtain ⟨⟨r0, r1, r2, r3, r4⟩, r5, r6, r7, r8, r9⟩ := hF
     unfold put10 at r0 r1 r2 r3 r4 r5 r6 r7 r8 r9 hB10
     refine bodyPost_ret (v := .tuple #[.agg #[.int .i64 0, .int .i64 0, .int .i64 0, .int .i64 0, .int .i64 0, .int .i64 0, .int .i64 0, .int .i64 0, .slice none 0 0, .slice none 0 0], .bool false]) ?_ rfl ⟨hend, hB10⟩
     simp [results, Try.results16, go_sem, r0, r1, r2, r3, r4, r5, r6, r7, r8, r9]
    | true =>
     obtain ⟨⟨z0, z1, z2, z3, z4⟩, z5, z6, z7, z8, z9⟩ := tenc H9.out.hz
     obtain ⟨f0, f1, f2, f3, f4, f5, f6, f7, f8, f9⟩ := froz H9.out.hz
     obtain ⟨⟨o0, o1, o2, o3, o4⟩, o5, o6, o7, o8, o9⟩ := tenc HY9.out
     go_wp2
     have hend : E (.returned (.tuple #[.agg #[.int .i64 1, .int .i64 p0, .int .i64 M, .int .i64 xg, .int .i64 xh, .int .i64 xi, .int .i64 xm, .int .i64 xv, .slice A n c, .slice B m d], .bool true])) := by
      rw [HE.out]
      exact .inl ⟨by simp, by simp⟩
     clear z0 z1 z2 z3 z4 z5 z6 z7 z8 z9
     clear f0 f1 f2 f3 f4 f5 f6 f7 f8 f9
     clear o0 o1 o2 o3 o4 o5 o6 o7 o8 o9
     have hF := tenc (put10_at H9.out.hz (.int .i64 1) (.int .i64 p0) (.int .i64 M) (.int .i64 xg) (.int .i64 xh) (.int .i64 xi) (.int .i64 xm) (.int .i64 xv) (.slice A n c) (.slice B m d))
     have hB10 := put10_below HB9.out (B := w.heap.size + 2) (by omega) (.int .i64 1) (.int .i64 p0) (.int .i64 M) (.int .i64 xg) (.int .i64 xh) (.int .i64 xi) (.int .i64 xm) (.int .i64 xv) (.slice A n c) (.slice B m d)
     obtain ⟨⟨r0, r1, r2, r3, r4⟩, r5, r6, r7, r8, r9⟩ := hF
     unfold put10 at r0 r1 r2 r3 r4 r5 r6 r7 r8 r9 hB10
     refine bodyPost_ret (v := .tuple #[.agg #[.int .i64 1, .int .i64 p0, .int .i64 M, .int .i64 xg, .int .i64 xh, .int .i64 xi, .int .i64 xm, .int .i64 xv, .slice A n c, .slice B m d], .bool true]) ?_ rfl ⟨hend, hB10⟩
     simp [results, Try.results16, go_sem, r0, r1, r2, r3, r4, r5, r6, r7, r8, r9]
   ·clear CK
    obtain ⟨⟨y0, y1, y2, y3, y4⟩, y5, y6, y7, y8, y9⟩ := tenc H8.out.hx
    obtain ⟨a0, a1⟩ := twoc H8.out.hr
    go_wp2_with fail
    refine (CU _ (hstep _ _ hR HB8.out)).mono ?_
    rintro e w9 ⟨rfl, hb9⟩
    have HB9 := Lib.hid (HB8.out.trans (hb9.mono HB8.out.size))
    have H9 := Lib.hid (H8.out.step hb9)
    have HQ9 := Lib.hid (hkeep hb9 HQ8.out)
    have HY9 := Lib.hid (hkeep hb9 HY8.out)
    have hly := lt_some HY9.out
    clear hb9 HB8 H8 HP8 HQ8 HY8 CU a0 a1
    clear y0 y1 y2 y3 y4 y5 y6 y7 y8 y9
    have hbn : Below w9.heap.size w9 (w9.alloc (plR ⟨u0, u1, u2, u3, u4⟩)) := (Below.refl _ _).alloc (Nat.le_refl _) _
    have HB10 := Lib.hid (HB9.out.trans (hbn.mono HB9.out.size))
    have H10 := Lib.hid (H9.out.step hbn)
    have HQ10 := Lib.hid (hkeep hbn HQ9.out)
    have HY10 := Lib.hid (hkeep hbn HY9.out)
    have HU10 := Lib.hid (heap_alloc_new w9 (plR ⟨u0, u1, u2, u3, u4⟩))
    clear hbn HB9 H9 HQ9 HY9
    obtain ⟨⟨y0, y1, y2, y3, y4⟩, y5, y6, y7, y8, y9⟩ := tenc H10.out.hx
    obtain ⟨a0, a1⟩ := twoc H10.out.hr
    go_wp2_with fail
    refine (CV _ (hstep _ _ hR HB10.out)).mono ?_
    rintro e w11 ⟨rfl, hb11⟩
    have HB11 := Lib.hid (HB10.out.trans (hb11.mono HB10.out.size))
    have H11 := Lib.hid (H10.out.step hb11)
    have HQ11 := Lib.hid (hkeep hb11 HQ10.out)
    have HY11 := Lib.hid (hkeep hb11 HY10.out)
    have HU11 := Lib.hid (hkeep hb11 HU10.out)
    clear hb11 HB10 H10 HQ10 HY10 HU10 CV a0 a1
    clear y0 y1 y2 y3 y4 y5 y6 y7 y8 y9
    generalize hUU : w9.heap.size = UB at *
    go_upto_region 14 with fail
    have hbn : Below w11.heap.size w11 (w11.alloc (plR ⟨v0, v1, v2, v3, v4⟩)) := (Below.refl _ _).alloc (Nat.le_refl _) _
    have HB12 := Lib.hid (HB11.out.trans (hbn.mono HB11.out.size))
    have H12 := Lib.hid (H11.out.step hbn)
    have HQ12 := Lib.hid (hkeep hbn HQ11.out)
    have HY12 := Lib.hid (hkeep hbn HY11.out)
    have HU12 := Lib.hid (hkeep hbn HU11.out)
    have HV12 := Lib.hid (heap_alloc_new w11 (plR ⟨v0, v1, v2, v3, v4⟩))
    have hlu := lt_some HU11.out
    clear hbn HB11 H11 HQ11 HY11 HU11 hUU
    generalize hVV : w11.heap.size = VB at *
    generalize w11.alloc (plR ⟨v0, v1, v2, v3, v4⟩) = W12 at HB12 H12 HQ12 HY12 HU12 HV12 ⊢
    clear hVV
    obtain ⟨a0, a1, a2, a3, a4⟩ := five HU12.out
    obtain ⟨⟨o0, o1, o2, o3, o4⟩, o5, o6, o7, o8, o9⟩ := tenc HY12.out
    obtain ⟨f0, f1, f2, f3, f4, f5, f6, f7, f8, f9⟩ := froz HY12.out
    go_upto_region 15 with fail
    clear a0 a1 a2 a3 a4
    clear o0 o1 o2 o3 o4 o5 o6 o7 o8 o9
    clear f0 f1 f2 f3 f4 f5 f6 f7 f8 f9
    have HB13 := Lib.hid (HB12.out.setCell (p := ⟨Y, 3, none⟩) hyw (.int .i64 u0))
    have H13 := Lib.hid (H12.out.set (Y := Y) (j := 3) (by omega) (.int .i64 u0))
    have HQ13 : Hid ((W12.setCell ⟨Y, 3, none⟩ (.int .i64 u0)).heap[B2]? = some (plR ⟨q0, q1, q2, q3, q4⟩)) := Lib.hid ((set_else (by omega) _).trans HQ12.out)
    have HU13 : Hid ((W12.setCell ⟨Y, 3, none⟩ (.int .i64 u0)).heap[UB]? = some (plR ⟨u0, u1, u2, u3, u4⟩)) := Lib.hid ((set_else (by omega) _).trans HU12.out)
    have HV13 : Hid ((W12.setCell ⟨Y, 3, none⟩ (.int .i64 u0)).heap[VB]? = some (plR ⟨v0, v1, v2, v3, v4⟩)) := Lib.hid ((set_else (by omega) _).trans HV12.out)
    have HY13 : Hid ((W12.setCell ⟨Y, 3, none⟩ (.int .i64 u0)).heap[Y]? = some (.cells #[.int .i64 2, .int .i64 p0, .int .i64 M, .int .i64 u0, .int .i64 xh, .int .i64 xi, .int .i64 xm, .int .i64 xv, .slice A n c, .slice B m d] 25)) := Lib.hid (by have := set_at (j := 3) HY12.out (.int .i64 u0); simpa using this)
    clear HB12 H12 HY12 HQ12 HU12 HV12
    generalize W12.setCell ⟨Y, 3, none⟩ (.int .i64 u0) = W13 at HB13 H13 HY13 HQ13 HU13 HV13 ⊢
    obtain ⟨a0, a1, a2, a3, a4⟩ := five HV13.out
    obtain ⟨⟨o0, o1, o2, o3, o4⟩, o5, o6, o7, o8, o9⟩ := tenc HY13.out
    obtain ⟨f0, f1, f2, f3, f4, f5, f6, f7, f8, f9⟩ := froz HY13.out
    go_upto_region 16 with fail
    clear a0 a1 a2 a3 a4
    clear o0 o1 o2 o3 o4 o5 o6 o7 o8 o9
    clear f0 f1 f2 f3 f4 f5 f6 f7 f8 f9
    have HB14 := Lib.hid (HB13.out.setCell (p := ⟨Y, 4, none⟩) hyw (.int .i64 v0))
    have H14 := Lib.hid (H13.out.set (Y := Y) (j := 4) (by omega) (.int .i64 v0))
    have HQ14 : Hid ((W13.setCell ⟨Y, 4, none⟩ (.int .i64 v0)).heap[B2]? = some (plR ⟨q0, q1, q2, q3, q4⟩)) := Lib.hid ((set_else (by omega) _).trans HQ13.out)
    have HU14 : Hid ((W13.setCell ⟨Y, 4, none⟩ (.int .i64 v0)).heap[UB]? = some (plR ⟨u0, u1, u2, u3, u4⟩)) := Lib.hid ((set_else (by omega) _).trans HU13.out)
    have HV14 : Hid ((W13.setCell ⟨Y, 4, none⟩ (.int .i64 v0)).heap[VB]? = some (plR ⟨v0, v1, v2, v3, v4⟩)) := Lib.hid ((set_else (by omega) _).trans HV13.out)
    have HY14 : Hid ((W13.setCell ⟨Y, 4, none⟩ (.int .i64 v0)).heap[Y]? = some (.cells #[.int .i64 2, .int .i64 p0, .int .i64 M, .int .i64 u0, .int .i64 v0, .int .i64 xi, .int .i64 xm, .int .i64 xv, .slice A n c, .slice B m d] 25)) := Lib.hid (by have := set_at (j := 4) HY13.out (.int .i64 v0); simpa using this)
    clear HB13 H13 HY13 HQ13 HU13 HV13
    generalize W13.setCell ⟨Y, 4, none⟩ (.int .i64 v0) = W14 at HB14 H14 HY14 HQ14 HU14 HV14 ⊢
    obtain ⟨BAD, hBAD⟩ : ∃ b, b = (!(G1 && G2) || decide (u0 < p0) || decide (u0 > v0) || decide (v0 > q0)) := ⟨_, rfl⟩
    have HBAD := Lib.hid hBAD
    clear hBAD
    go_cut [109] from 83 to 109 (fun v wx => v = .bool BAD ∧ wx = W14)
    case first =>
     clear CS2 HE HH hstep hR
     obtain ⟨b0, b1, b2, b3, b4⟩ := five HQ14.out
     obtain ⟨⟨o0, o1, o2, o3, o4⟩, o5, o6, o7, o8, o9⟩ := tenc HY14.out
     cases G1 with
     | false =>
      go_wp2_with fail
      go_meet
      exact ⟨by rw [HBAD.out]; rfl, rfl⟩
     | true =>
      cases G2 with
      | false =>
       go_wp2_with fail
       go_meet
       exact ⟨by rw [HBAD.out]; rfl, rfl⟩
      | true =>
       by_cases g1 : u0 < p0
       ·go_wp2_with fail
        go_meet
        exact ⟨by rw [HBAD.out]; simp [g1], rfl⟩
       ·by_cases g2 : u0 > v0
        ·go_wp2_with fail
         go_meet
         exact ⟨by rw [HBAD.out]; simp [g1, g2], rfl⟩
        ·by_cases g3 : v0 > q0
         ·go_wp2_with fail
          go_meet
          exact ⟨by rw [HBAD.out]; simp [g1, g2, g3], rfl⟩
         ·go_wp2_with fail
          go_meet
          exact ⟨by rw [HBAD.out]; simp [g1, g2, g3], rfl⟩
    case rest =>
    obtain ⟨rfl, hw⟩ := hcut
    rw [hw]
    clear hw
    have hgap : H = true → p0 ≤ u0 ∧ u0 ≤ v0 := fun h => by
     rw [HH.out] at h
     have := shape_gap h (by simp)
     simpa using this
    cases BAD with
    | true =>
     have hno : (G1 && G2 && decide (v0 ≤ q0) && H) = false := by
      cases hz : H
      ·simp
      ·have := hgap hz
       have h2 := HBAD.out
       revert h2
       cases G1 <;> cases G2 <;> simp
       omega
     clear CS2 hstep hR HH hgap
     obtain ⟨⟨z0, z1, z2, z3, z4⟩, z5, z6, z7, z8, z9⟩ := tenc H14.out.hz
     obtain ⟨f0, f1, f2, f3, f4, f5, f6, f7, f8, f9⟩ := froz H14.out.hz
     obtain ⟨⟨o0, o1, o2, o3, o4⟩, o5, o6, o7, o8, o9⟩ := tenc H14.out.ho
     go_wp2
     have hend : E (.returned (.tuple #[.agg #[.int .i64 0, .int .i64 0, .int .i64 0, .int .i64 0, .int .i64 0, .int .i64 0, .int .i64 0, .int .i64 0, .slice none 0 0, .slice none 0 0], .bool false])) := by
      rw [HE.out]
      exact .inr ⟨by simpa using hno, rfl⟩
     clear z0 z1 z2 z3 z4 z5 z6 z7 z8 z9
     clear f0 f1 f2 f3 f4 f5 f6 f7 f8 f9
     clear o0 o1 o2 o3 o4 o5 o6 o7 o8 o9
     have hF := tenc (put10_at H14.out.hz (.int .i64 0) (.int .i64 0) (.int .i64 0) (.int .i64 0) (.int .i64 0) (.int .i64 0) (.int .i64 0) (.int .i64 0) (.slice none 0 0) (.slice none 0 0))
     have hB10 := put10_below HB14.out (B := w.heap.size + 2) (by omega) (.int .i64 0) (.int .i64 0) (.int .i64 0) (.int .i64 0) (.int .i64 0) (.int .i64 0) (.int .i64 0) (.int .i64 0) (.slice none 0 0) (.slice none 0 0)
     obtain ⟨⟨r0, r1, r2, r3, r4⟩, r5, r6, r7, r8, r9⟩ := hF
     unfold put10 at r0 r1 r2 r3 r4 r5 r6 r7 r8 r9 hB10
     refine bodyPost_ret (v := .tuple #[.agg #[.int .i64 0, .int .i64 0, .int .i64 0, .int .i64 0, .int .i64 0, .int .i64 0, .int .i64 0, .int .i64 0, .slice none 0 0, .slice none 0 0], .bool false]) ?_ rfl ⟨hend, hB10⟩
     simp [results, Try.results16, go_sem, r0, r1, r2, r3, r4, r5, r6, r7, r8, r9]
    | false =>
     have hyes : G1 = true ∧ G2 = true ∧ v0 ≤ q0 := by
      have h2 := HBAD.out
      revert h2
      cases G1 <;> cases G2 <;> simp <;> (try omega)
     obtain ⟨rfl, rfl, hvq⟩ := hyes
     have hvq2 : decide (v0 ≤ q0) = true := decide_eq_true hvq
     simp only [hvq2] at HE
     clear HBAD hgap hvq hvq2
     have hHH : H = shapeB ⟨2, p0, M, u0, v0, xi, xm, xv⟩ n m := by rw [HH.out] <;> (try simp)
     obtain ⟨⟨y0, y1, y2, y3, y4⟩, y5, y6, y7, y8, y9⟩ := tenc H14.out.hx
     obtain ⟨⟨o0, o1, o2, o3, o4⟩, o5, o6, o7, o8, o9⟩ := tenc HY14.out
     go_wp2_with fail
     refine (CS2 ⟨2, p0, M, u0, v0, xi, xm, xv⟩ _).mono ?_
     rintro e w9 ⟨rfl, hb9⟩
     rw [← hHH]
     have HB9 := Lib.hid (HB14.out.trans (hb9.mono HB14.out.size))
     have H9 := Lib.hid (H14.out.step hb9)
     have HY9 := Lib.hid (hkeep hb9 HY14.out)
     clear hb9 HB14 H14 HY14 CS2 hstep hR hHH HH
     clear y0 y1 y2 y3 y4 y5 y6 y7 y8 y9
     clear o0 o1 o2 o3 o4 o5 o6 o7 o8 o9
     cases H with
     | false =>
      obtain ⟨⟨z0, z1, z2, z3, z4⟩, z5, z6, z7, z8, z9⟩ := tenc H9.out.hz
      obtain ⟨f0, f1, f2, f3, f4, f5, f6, f7, f8, f9⟩ := froz H9.out.hz
      obtain ⟨⟨o0, o1, o2, o3, o4⟩, o5, o6, o7, o8, o9⟩ := tenc H9.out.ho
      go_wp2
      have hend : E (.returned (.tuple #[.agg #[.int .i64 0, .int .i64 0, .int .i64 0, .int .i64 0, .int .i64 0, .int .i64 0, .int .i64 0, .int .i64 0, .slice none 0 0, .slice none 0 0], .bool false])) := by
       rw [HE.out]
       exact .inr ⟨by simp, rfl⟩
      clear z0 z1 z2 z3 z4 z5 z6 z7 z8 z9
      clear f0 f1 f2 f3 f4 f5 f6 f7 f8 f9
      clear o0 o1 o2 o3 o4 o5 o6 o7 o8 o9
      have hF := tenc (put10_at H9.out.hz (.int .i64 0) (.int .i64 0) (.int .i64 0) (.int .i64 0) (.int .i64 0) (.int .i64 0) (.int .i64 0) (.int .i64 0) (.slice none 0 0) (.slice none 0 0))
      have hB10 := put10_below HB9.out (B := w.heap.size + 2) (by omega) (.int .i64 0) (.int .i64 0) (.int .i64 0) (.int .i64 0) (.int .i64 0) (.int .i64 0) (.int .i64 0) (.int .i64 0) (.slice none 0 0) (.slice none 0 0)
      obtain ⟨⟨r0, r1, r2, r3, r4⟩, r5, r6, r7, r8, r9⟩ := hF
      unfold put10 at r0 r1 r2 r3 r4 r5 r6 r7 r8 r9 hB10
      refine bodyPost_ret (v := .tuple #[.agg #[.int .i64 0, .int .i64 0, .int .i64 0, .int .i64 0, .int .i64 0, .int .i64 0, .int .i64 0, .int .i64 0, .slice none 0 0, .slice none 0 0], .bool false]) ?_ rfl ⟨hend, hB10⟩
      simp [results, Try.results16, go_sem, r0, r1, r2, r3, r4, r5, r6, r7, r8, r9]
     | true =>
      obtain ⟨⟨z0, z1, z2, z3, z4⟩, z5, z6, z7, z8, z9⟩ := tenc H9.out.hz
      obtain ⟨f0, f1, f2, f3, f4, f5, f6, f7, f8, f9⟩ := froz H9.out.hz
      obtain ⟨⟨o0, o1, o2, o3, o4⟩, o5, o6, o7, o8, o9⟩ := tenc HY9.out
      go_wp2
      have hend : E (.returned (.tuple #[.agg #[.int .i64 2, .int .i64 p0, .int .i64 M, .int .i64 u0, .int .i64 v0, .int .i64 xi, .int .i64 xm, .int .i64 xv, .slice A n c, .slice B m d], .bool true])) := by
       rw [HE.out]
       exact .inl ⟨by simp, by simp⟩
      clear z0 z1 z2 z3 z4 z5 z6 z7 z8 z9
      clear f0 f1 f2 f3 f4 f5 f6 f7 f8 f9
      clear o0 o1 o2 o3 o4 o5 o6 o7 o8 o9
      have hF := tenc (put10_at H9.out.hz (.int .i64 2) (.int .i64 p0) (.int .i64 M) (.int .i64 u0) (.int .i64 v0) (.int .i64 xi) (.int .i64 xm) (.int .i64 xv) (.slice A n c) (.slice B m d))
      have hB10 := put10_below HB9.out (B := w.heap.size + 2) (by omega) (.int .i64 2) (.int .i64 p0) (.int .i64 M) (.int .i64 u0) (.int .i64 v0) (.int .i64 xi) (.int .i64 xm) (.int .i64 xv) (.slice A n c) (.slice B m d)
      obtain ⟨⟨r0, r1, r2, r3, r4⟩, r5, r6, r7, r8, r9⟩ := hF
      unfold put10 at r0 r1 r2 r3 r4 r5 r6 r7 r8 r9 hB10
      refine bodyPost_ret (v := .tuple #[.agg #[.int .i64 2, .int .i64 p0, .int .i64 M, .int .i64 u0, .int .i64 v0, .int .i64 xi, .int .i64 xm, .int .i64 xv, .slice A n c, .slice B m d], .bool true]) ?_ rfl ⟨hend, hB10⟩
      simp [results, Try.results16, go_sem, r0, r1, r2, r3, r4, r5, r6, r7, r8, r9]
   ·clear CU CV
    obtain ⟨⟨y0, y1, y2, y3, y4⟩, y5, y6, y7, y8, y9⟩ := tenc H8.out.hx
    obtain ⟨⟨o0, o1, o2, o3, o4⟩, o5, o6, o7, o8, o9⟩ := tenc HY8.out
    obtain ⟨f0, f1, f2, f3, f4, f5, f6, f7, f8, f9⟩ := froz HY8.out
    go_upto_region 22 with fail
    clear f0 f1 f2 f3 f4 f5 f6 f7 f8 f9
    clear o0 o1 o2 o3 o4 o5 o6 o7 o8 o9
    clear y0 y1 y2 y3 y4 y5 y6 y7 y8 y9
    have HB9 := Lib.hid (HB8.out.setCell (p := ⟨Y, 2, none⟩) hyw (.int .i64 (wrap64 (wrap64 (p0 + xt) - xf))))
    have H9 := Lib.hid (H8.out.set (Y := Y) (j := 2) (by omega) (.int .i64 (wrap64 (wrap64 (p0 + xt) - xf))))
    have HP9 : Hid ((W8.setCell ⟨Y, 2, none⟩ (.int .i64 (wrap64 (wrap64 (p0 + xt) - xf)))).heap[B1]? = some (plR ⟨p0, p1, p2, p3, p4⟩)) := Lib.hid ((set_else (by omega) _).trans HP8.out)
    have HQ9 : Hid ((W8.setCell ⟨Y, 2, none⟩ (.int .i64 (wrap64 (wrap64 (p0 + xt) - xf)))).heap[B2]? = some (plR ⟨q0, q1, q2, q3, q4⟩)) := Lib.hid ((set_else (by omega) _).trans HQ8.out)
    have HY9 : Hid ((W8.setCell ⟨Y, 2, none⟩ (.int .i64 (wrap64 (wrap64 (p0 + xt) - xf)))).heap[Y]? = some (.cells #[.int .i64 5, .int .i64 p0, .int .i64 (wrap64 (wrap64 (p0 + xt) - xf)), .int .i64 xg, .int .i64 xh, .int .i64 xi, .int .i64 xm, .int .i64 xv, .slice A n c, .slice B m d] 25)) := Lib.hid (by have := set_at (j := 2) HY8.out (.int .i64 (wrap64 (wrap64 (p0 + xt) - xf))); simpa using this)
    clear HB8 H8 HY8 HP8 HQ8
    generalize W8.setCell ⟨Y, 2, none⟩ (.int .i64 (wrap64 (wrap64 (p0 + xt) - xf))) = W9 at HB9 H9 HY9 HP9 HQ9 ⊢
    obtain ⟨⟨y0, y1, y2, y3, y4⟩, y5, y6, y7, y8, y9⟩ := tenc H9.out.hx
    obtain ⟨⟨o0, o1, o2, o3, o4⟩, o5, o6, o7, o8, o9⟩ := tenc HY9.out
    obtain ⟨a0, a1⟩ := twoc H9.out.hr
    go_wp2_with fail
    refine (CK _ (hstep _ _ hR HB9.out)).mono ?_
    rintro e w10 ⟨rfl, hb10⟩
    have HB10 := Lib.hid (HB9.out.trans (hb10.mono HB9.out.size))
    have H10 := Lib.hid (H9.out.step hb10)
    have HY10 := Lib.hid (hkeep hb10 HY9.out)
    clear hb10 HB9 H9 HY9 HP9 HQ9 CK a0 a1
    clear y0 y1 y2 y3 y4 y5 y6 y7 y8 y9
    clear o0 o1 o2 o3 o4 o5 o6 o7 o8 o9
    cases KV with
    | false =>
     clear CS2 hstep hR HH
     obtain ⟨⟨z0, z1, z2, z3, z4⟩, z5, z6, z7, z8, z9⟩ := tenc H10.out.hz
     obtain ⟨f0, f1, f2, f3, f4, f5, f6, f7, f8, f9⟩ := froz H10.out.hz
     obtain ⟨⟨o0, o1, o2, o3, o4⟩, o5, o6, o7, o8, o9⟩ := tenc H10.out.ho
     go_wp2
     have hend : E (.returned (.tuple #[.agg #[.int .i64 0, .int .i64 0, .int .i64 0, .int .i64 0, .int .i64 0, .int .i64 0, .int .i64 0, .int .i64 0, .slice none 0 0, .slice none 0 0], .bool false])) := by
      rw [HE.out]
      exact .inr ⟨by simp, rfl⟩
     clear z0 z1 z2 z3 z4 z5 z6 z7 z8 z9
     clear f0 f1 f2 f3 f4 f5 f6 f7 f8 f9
     clear o0 o1 o2 o3 o4 o5 o6 o7 o8 o9
     have hF := tenc (put10_at H10.out.hz (.int .i64 0) (.int .i64 0) (.int .i64 0) (.int .i64 0) (.int .i64 0) (.int .i64 0) (.int .i64 0) (.int .i64 0) (.slice none 0 0) (.slice none 0 0))
     have hB10 := put10_below HB10.out (B := w.heap.size + 2) (by omega) (.int .i64 0) (.int .i64 0) (.int .i64 0) (.int .i64 0) (.int .i64 0) (.int .i64 0) (.int .i64 0) (.int .i64 0) (.slice none 0 0) (.slice none 0 0)
     obtain ⟨⟨r0, r1, r2, r3, r4⟩, r5, r6, r7, r8, r9⟩ := hF
     unfold put10 at r0 r1 r2 r3 r4 r5 r6 r7 r8 r9 hB10
     refine bodyPost_ret (v := .tuple #[.agg #[.int .i64 0, .int .i64 0, .int .i64 0, .int .i64 0, .int .i64 0, .int .i64 0, .int .i64 0, .int .i64 0, .slice none 0 0, .slice none 0 0], .bool false]) ?_ rfl ⟨hend, hB10⟩
     simp [results, Try.results16, go_sem, r0, r1, r2, r3, r4, r5, r6, r7, r8, r9]
    | true =>
     have hHH : H = shapeB ⟨5, p0, wrap64 (wrap64 (p0 + xt) - xf), xg, xh, xi, xm, xv⟩ n m := by rw [HH.out] <;> (try simp)
     obtain ⟨⟨y0, y1, y2, y3, y4⟩, y5, y6, y7, y8, y9⟩ := tenc H10.out.hx
     obtain ⟨⟨o0, o1, o2, o3, o4⟩, o5, o6, o7, o8, o9⟩ := tenc HY10.out
     go_wp2_with fail
     refine (CS2 ⟨5, p0, wrap64 (wrap64 (p0 + xt) - xf), xg, xh, xi, xm, xv⟩ _).mono ?_
     rintro e w9 ⟨rfl, hb9⟩
     rw [← hHH]
     have HB9 := Lib.hid (HB10.out.trans (hb9.mono HB10.out.size))
     have H9 := Lib.hid (H10.out.step hb9)
     have HY9 := Lib.hid (hkeep hb9 HY10.out)
     clear hb9 HB10 H10 HY10 CS2 hstep hR hHH HH
     clear y0 y1 y2 y3 y4 y5 y6 y7 y8 y9
     clear o0 o1 o2 o3 o4 o5 o6 o7 o8 o9
     cases H with
     | false =>
      obtain ⟨⟨z0, z1, z2, z3, z4⟩, z5, z6, z7, z8, z9⟩ := tenc H9.out.hz
      obtain ⟨f0, f1, f2, f3, f4, f5, f6, f7, f8, f9⟩ := froz H9.out.hz
      obtain ⟨⟨o0, o1, o2, o3, o4⟩, o5, o6, o7, o8, o9⟩ := tenc H9.out.ho
      go_wp2
      have hend : E (.returned (.tuple #[.agg #[.int .i64 0, .int .i64 0, .int .i64 0, .int .i64 0, .int .i64 0, .int .i64 0, .int .i64 0, .int .i64 0, .slice none 0 0, .slice none 0 0], .bool false])) := by
       rw [HE.out]
       exact .inr ⟨by simp, rfl⟩
      clear z0 z1 z2 z3 z4 z5 z6 z7 z8 z9
      clear f0 f1 f2 f3 f4 f5 f6 f7 f8 f9
      clear o0 o1 o2 o3 o4 o5 o6 o7 o8 o9
      have hF := tenc (put10_at H9.out.hz (.int .i64 0) (.int .i64 0) (.int .i64 0) (.int .i64 0) (.int .i64 0) (.int .i64 0) (.int .i64 0) (.int .i64 0) (.slice none 0 0) (.slice none 0 0))
      have hB10 := put10_below HB9.out (B := w.heap.size + 2) (by omega) (.int .i64 0) (.int .i64 0) (.int .i64 0) (.int .i64 0) (.int .i64 0) (.int .i64 0) (.int .i64 0) (.int .i64 0) (.slice none 0 0) (.slice none 0 0)
      obtain ⟨⟨r0, r1, r2, r3, r4⟩, r5, r6, r7, r8, r9⟩ := hF
      unfold put10 at r0 r1 r2 r3 r4 r5 r6 r7 r8 r9 hB10
      refine bodyPost_ret (v := .tuple #[.agg #[.int .i64 0, .int .i64 0, .int .i64 0, .int .i64 0, .int .i64 0, .int .i64 0, .int .i64 0, .int .i64 0, .slice none 0 0, .slice none 0 0], .bool false]) ?_ rfl ⟨hend, hB10⟩
      simp [results, Try.results16, go_sem, r0, r1, r2, r3, r4, r5, r6, r7, r8, r9]
     | true =>
      obtain ⟨⟨z0, z1, z2, z3, z4⟩, z5, z6, z7, z8, z9⟩ := tenc H9.out.hz
      obtain ⟨f0, f1, f2, f3, f4, f5, f6, f7, f8, f9⟩ := froz H9.out.hz
      obtain ⟨⟨o0, o1, o2, o3, o4⟩, o5, o6, o7, o8, o9⟩ := tenc HY9.out
      go_wp2
      have hend : E (.returned (.tuple #[.agg #[.int .i64 5, .int .i64 p0, .int .i64 (wrap64 (wrap64 (p0 + xt) - xf)), .int .i64 xg, .int .i64 xh, .int .i64 xi, .int .i64 xm, .int .i64 xv, .slice A n c, .slice B m d], .bool true])) := by
       rw [HE.out]
       exact .inl ⟨by simp, by simp⟩
      clear z0 z1 z2 z3 z4 z5 z6 z7 z8 z9
      clear f0 f1 f2 f3 f4 f5 f6 f7 f8 f9
      clear o0 o1 o2 o3 o4 o5 o6 o7 o8 o9
      have hF := tenc (put10_at H9.out.hz (.int .i64 5) (.int .i64 p0) (.int .i64 (wrap64 (wrap64 (p0 + xt) - xf))) (.int .i64 xg) (.int .i64 xh) (.int .i64 xi) (.int .i64 xm) (.int .i64 xv) (.slice A n c) (.slice B m d))
      have hB10 := put10_below HB9.out (B := w.heap.size + 2) (by omega) (.int .i64 5) (.int .i64 p0) (.int .i64 (wrap64 (wrap64 (p0 + xt) - xf))) (.int .i64 xg) (.int .i64 xh) (.int .i64 xi) (.int .i64 xm) (.int .i64 xv) (.slice A n c) (.slice B m d)
      obtain ⟨⟨r0, r1, r2, r3, r4⟩, r5, r6, r7, r8, r9⟩ := hF
      unfold put10 at r0 r1 r2 r3 r4 r5 r6 r7 r8 r9 hB10
      refine bodyPost_ret (v := .tuple #[.agg #[.int .i64 5, .int .i64 p0, .int .i64 (wrap64 (wrap64 (p0 + xt) - xf)), .int .i64 xg, .int .i64 xh, .int .i64 xi, .int .i64 xm, .int .i64 xv, .slice A n c, .slice B m d], .bool true]) ?_ rfl ⟨hend, hB10⟩
      simp [results, Try.results16, go_sem, r0, r1, r2, r3, r4, r5, r6, r7, r8, r9]
   ·clear CU CV CK
    simp only [if_neg k1, if_neg k2, if_neg k5] at HE HH
    obtain ⟨⟨y0, y1, y2, y3, y4⟩, y5, y6, y7, y8, y9⟩ := tenc H8.out.hx
    obtain ⟨b0, b1, b2, b3, b4⟩ := five HQ8.out
    obtain ⟨⟨o0, o1, o2, o3, o4⟩, o5, o6, o7, o8, o9⟩ := tenc HY8.out
    have HB9 := HB8
    have H9 := H8
    by_cases hq : q0 ≤ p0
    ·have hq2 : decide (q0 > p0) = false := decide_eq_false (by omega)
     simp only [hq2] at HE
     clear CS2 hstep hR HH
     rcases k34 with rfl | rfl
     ·obtain ⟨⟨z0, z1, z2, z3, z4⟩, z5, z6, z7, z8, z9⟩ := tenc H9.out.hz
      obtain ⟨f0, f1, f2, f3, f4, f5, f6, f7, f8, f9⟩ := froz H9.out.hz
      obtain ⟨⟨s0, s1, s2, s3, s4⟩, s5, s6, s7, s8, s9⟩ := tenc H9.out.ho
      go_wp2
      have hend : E (.returned (.tuple #[.agg #[.int .i64 0, .int .i64 0, .int .i64 0, .int .i64 0, .int .i64 0, .int .i64 0, .int .i64 0, .int .i64 0, .slice none 0 0, .slice none 0 0], .bool false])) := by
       rw [HE.out]
       exact .inr ⟨by simp, rfl⟩
      clear z0 z1 z2 z3 z4 z5 z6 z7 z8 z9
      clear f0 f1 f2 f3 f4 f5 f6 f7 f8 f9
      have hF := tenc (put10_at H9.out.hz (.int .i64 0) (.int .i64 0) (.int .i64 0) (.int .i64 0) (.int .i64 0) (.int .i64 0) (.int .i64 0) (.int .i64 0) (.slice none 0 0) (.slice none 0 0))
      have hB10 := put10_below HB9.out (B := w.heap.size + 2) (by omega) (.int .i64 0) (.int .i64 0) (.int .i64 0) (.int .i64 0) (.int .i64 0) (.int .i64 0) (.int .i64 0) (.int .i64 0) (.slice none 0 0) (.slice none 0 0)
      obtain ⟨⟨r0, r1, r2, r3, r4⟩, r5, r6, r7, r8, r9⟩ := hF
      unfold put10 at r0 r1 r2 r3 r4 r5 r6 r7 r8 r9 hB10
      refine bodyPost_ret (v := .tuple #[.agg #[.int .i64 0, .int .i64 0, .int .i64 0, .int .i64 0, .int .i64 0, .int .i64 0, .int .i64 0, .int .i64 0, .slice none 0 0, .slice none 0 0], .bool false]) ?_ rfl ⟨hend, hB10⟩
      simp [results, Try.results16, go_sem, r0, r1, r2, r3, r4, r5, r6, r7, r8, r9]
     ·obtain ⟨⟨z0, z1, z2, z3, z4⟩, z5, z6, z7, z8, z9⟩ := tenc H9.out.hz
      obtain ⟨f0, f1, f2, f3, f4, f5, f6, f7, f8, f9⟩ := froz H9.out.hz
      obtain ⟨⟨s0, s1, s2, s3, s4⟩, s5, s6, s7, s8, s9⟩ := tenc H9.out.ho
      go_wp2
      have hend : E (.returned (.tuple #[.agg #[.int .i64 0, .int .i64 0, .int .i64 0, .int .i64 0, .int .i64 0, .int .i64 0, .int .i64 0, .int .i64 0, .slice none 0 0, .slice none 0 0], .bool false])) := by
       rw [HE.out]
       exact .inr ⟨by simp, rfl⟩
      clear z0 z1 z2 z3 z4 z5 z6 z7 z8 z9
      clear f0 f1 f2 f3 f4 f5 f6 f7 f8 f9
      have hF := tenc (put10_at H9.out.hz (.int .i64 0) (.int .i64 0) (.int .i64 0) (.int .i64 0) (.int .i64 0) (.int .i64 0) (.int .i64 0) (.int .i64 0) (.slice none 0 0) (.slice none 0 0))
      have hB10 := put10_below HB9.out (B := w.heap.size + 2) (by omega) (.int .i64 0) (.int .i64 0) (.int .i64 0) (.int .i64 0) (.int .i64 0) (.int .i64 0) (.int .i64 0) (.int .i64 0) (.slice none 0 0) (.slice none 0 0)
      obtain ⟨⟨r0, r1, r2, r3, r4⟩, r5, r6, r7, r8, r9⟩ := hF
      unfold put10 at r0 r1 r2 r3 r4 r5 r6 r7 r8 r9 hB10
      refine bodyPost_ret (v := .tuple #[.agg #[.int .i64 0, .int .i64 0, .int .i64 0, .int .i64 0, .int .i64 0, .int .i64 0, .int .i64 0, .int .i64 0, .slice none 0 0, .slice none 0 0], .bool false]) ?_ rfl ⟨hend, hB10⟩
      simp [results, Try.results16, go_sem, r0, r1, r2, r3, r4, r5, r6, r7, r8, r9]
    ·have hq2 : decide (q0 > p0) = true := decide_eq_true (by omega)
     have hMq : M = q0 := by omega
     simp only [hq2] at HE
     subst hMq
     rcases k34 with rfl | rfl
     ·have hHH : H = shapeB ⟨3, p0, M, xg, xh, xi, xm, xv⟩ n m := by rw [HH.out] <;> (try simp)
      go_wp2_with fail
      refine (CS2 ⟨3, p0, M, xg, xh, xi, xm, xv⟩ _).mono ?_
      rintro e w9 ⟨rfl, hb9⟩
      rw [← hHH]
      have HB9 := Lib.hid (HB8.out.trans (hb9.mono HB8.out.size))
      have H9 := Lib.hid (H8.out.step hb9)
      have HY9 := Lib.hid (hkeep hb9 HY8.out)
      clear hb9 HB8 H8 HY8 CS2 hstep hR hHH HH
      clear y0 y1 y2 y3 y4 y5 y6 y7 y8 y9
      clear o0 o1 o2 o3 o4 o5 o6 o7 o8 o9
      cases H with
      | false =>
       obtain ⟨⟨z0, z1, z2, z3, z4⟩, z5, z6, z7, z8, z9⟩ := tenc H9.out.hz
       obtain ⟨f0, f1, f2, f3, f4, f5, f6, f7, f8, f9⟩ := froz H9.out.hz
       obtain ⟨⟨o0, o1, o2, o3, o4⟩, o5, o6, o7, o8, o9⟩ := tenc H9.out.ho
       go_wp2
       have hend : E (.returned (.tuple #[.agg #[.int .i64 0, .int .i64 0, .int .i64 0, .int .i64 0, .int .i64 0, .int .i64 0, .int .i64 0, .int .i64 0, .slice none 0 0, .slice none 0 0], .bool false])) := by
        rw [HE.out]
        exact .inr ⟨by simp, rfl⟩
       clear z0 z1 z2 z3 z4 z5 z6 z7 z8 z9
       clear f0 f1 f2 f3 f4 f5 f6 f7 f8 f9
       clear o0 o1 o2 o3 o4 o5 o6 o7 o8 o9
       have hF := tenc (put10_at H9.out.hz (.int .i64 0) (.int .i64 0) (.int .i64 0) (.int .i64 0) (.int .i64 0) (.int .i64 0) (.int .i64 0) (.int .i64 0) (.slice none 0 0) (.slice none 0 0))
       have hB10 := put10_below HB9.out (B := w.heap.size + 2) (by omega) (.int .i64 0) (.int .i64 0) (.int .i64 0) (.int .i64 0) (.int .i64 0) (.int .i64 0) (.int .i64 0) (.int .i64 0) (.slice none 0 0) (.slice none 0 0)
       obtain ⟨⟨r0, r1, r2, r3, r4⟩, r5, r6, r7, r8, r9⟩ := hF
       unfold put10 at r0 r1 r2 r3 r4 r5 r6 r7 r8 r9 hB10
       refine bodyPost_ret (v := .tuple #[.agg #[.int .i64 0, .int .i64 0, .int .i64 0, .int .i64 0, .int .i64 0, .int .i64 0, .int .i64 0, .int .i64 0, .slice none 0 0, .slice none 0 0], .bool false]) ?_ rfl ⟨hend, hB10⟩
       simp [results, Try.results16, go_sem, r0, r1, r2, r3, r4, r5, r6, r7, r8, r9]
      | true =>
       obtain ⟨⟨z0, z1, z2, z3, z4⟩, z5, z6, z7, z8, z9⟩ := tenc H9.out.hz
       obtain ⟨f0, f1, f2, f3, f4, f5, f6, f7, f8, f9⟩ := froz H9.out.hz
       obtain ⟨⟨o0, o1, o2, o3, o4⟩, o5, o6, o7, o8, o9⟩ := tenc HY9.out
       go_wp2
       have hend : E (.returned (.tuple #[.agg #[.int .i64 3, .int .i64 p0, .int .i64 M, .int .i64 xg, .int .i64 xh, .int .i64 xi, .int .i64 xm, .int .i64 xv, .slice A n c, .slice B m d], .bool true])) := by
        rw [HE.out]
        exact .inl ⟨by simp, by simp⟩
       clear z0 z1 z2 z3 z4 z5 z6 z7 z8 z9
       clear f0 f1 f2 f3 f4 f5 f6 f7 f8 f9
       clear o0 o1 o2 o3 o4 o5 o6 o7 o8 o9
       have hF := tenc (put10_at H9.out.hz (.int .i64 3) (.int .i64 p0) (.int .i64 M) (.int .i64 xg) (.int .i64 xh) (.int .i64 xi) (.int .i64 xm) (.int .i64 xv) (.slice A n c) (.slice B m d))
       have hB10 := put10_below HB9.out (B := w.heap.size + 2) (by omega) (.int .i64 3) (.int .i64 p0) (.int .i64 M) (.int .i64 xg) (.int .i64 xh) (.int .i64 xi) (.int .i64 xm) (.int .i64 xv) (.slice A n c) (.slice B m d)
       obtain ⟨⟨r0, r1, r2, r3, r4⟩, r5, r6, r7, r8, r9⟩ := hF
       unfold put10 at r0 r1 r2 r3 r4 r5 r6 r7 r8 r9 hB10
       refine bodyPost_ret (v := .tuple #[.agg #[.int .i64 3, .int .i64 p0, .int .i64 M, .int .i64 xg, .int .i64 xh, .int .i64 xi, .int .i64 xm, .int .i64 xv, .slice A n c, .slice B m d], .bool true]) ?_ rfl ⟨hend, hB10⟩
       simp [results, Try.results16, go_sem, r0, r1, r2, r3, r4, r5, r6, r7, r8, r9]
     ·have hHH : H = shapeB ⟨4, p0, M, xg, xh, xi, xm, xv⟩ n m := by rw [HH.out] <;> (try simp)
      go_wp2_with fail
      refine (CS2 ⟨4, p0, M, xg, xh, xi, xm, xv⟩ _).mono ?_
      rintro e w9 ⟨rfl, hb9⟩
      rw [← hHH]
      have HB9 := Lib.hid (HB8.out.trans (hb9.mono HB8.out.size))
      have H9 := Lib.hid (H8.out.step hb9)
      have HY9 := Lib.hid (hkeep hb9 HY8.out)
      clear hb9 HB8 H8 HY8 CS2 hstep hR hHH HH
      clear y0 y1 y2 y3 y4 y5 y6 y7 y8 y9
      clear o0 o1 o2 o3 o4 o5 o6 o7 o8 o9
      cases H with
      | false =>
       obtain ⟨⟨z0, z1, z2, z3, z4⟩, z5, z6, z7, z8, z9⟩ := tenc H9.out.hz
       obtain ⟨f0, f1, f2, f3, f4, f5, f6, f7, f8, f9⟩ := froz H9.out.hz
       obtain ⟨⟨o0, o1, o2, o3, o4⟩, o5, o6, o7, o8, o9⟩ := tenc H9.out.ho
       go_wp2
       have hend : E (.returned (.tuple #[.agg #[.int .i64 0, .int .i64 0, .int .i64 0, .int .i64 0, .int .i64 0, .int .i64 0, .int .i64 0, .int .i64 0, .slice none 0 0, .slice none 0 0], .bool false])) := by
        rw [HE.out]
        exact .inr ⟨by simp, rfl⟩
       clear z0 z1 z2 z3 z4 z5 z6 z7 z8 z9
       clear f0 f1 f2 f3 f4 f5 f6 f7 f8 f9
       clear o0 o1 o2 o3 o4 o5 o6 o7 o8 o9
       have hF := tenc (put10_at H9.out.hz (.int .i64 0) (.int .i64 0) (.int .i64 0) (.int .i64 0) (.int .i64 0) (.int .i64 0) (.int .i64 0) (.int .i64 0) (.slice none 0 0) (.slice none 0 0))
       have hB10 := put10_below HB9.out (B := w.heap.size + 2) (by omega) (.int .i64 0) (.int .i64 0) (.int .i64 0) (.int .i64 0) (.int .i64 0) (.int .i64 0) (.int .i64 0) (.int .i64 0) (.slice none 0 0) (.slice none 0 0)
       obtain ⟨⟨r0, r1, r2, r3, r4⟩, r5, r6, r7, r8, r9⟩ := hF
       unfold put10 at r0 r1 r2 r3 r4 r5 r6 r7 r8 r9 hB10
       refine bodyPost_ret (v := .tuple #[.agg #[.int .i64 0, .int .i64 0, .int .i64 0, .int .i64 0, .int .i64 0, .int .i64 0, .int .i64 0, .int .i64 0, .slice none 0 0, .slice none 0 0], .bool false]) ?_ rfl ⟨hend, hB10⟩
       simp [results, Try.results16, go_sem, r0, r1, r2, r3, r4, r5, r6, r7, r8, r9]
      | true =>
       obtain ⟨⟨z0, z1, z2, z3, z4⟩, z5, z6, z7, z8, z9⟩ := tenc H9.out.hz
       obtain ⟨f0, f1, f2, f3, f4, f5, f6, f7, f8, f9⟩ := froz H9.out.hz
       obtain ⟨⟨o0, o1, o2, o3, o4⟩, o5, o6, o7, o8, o9⟩ := tenc HY9.out
       go_wp2
       have hend : E (.returned (.tuple #[.agg #[.int .i64 4, .int .i64 p0, .int .i64 M, .int .i64 xg, .int .i64 xh, .int .i64 xi, .int .i64 xm, .int .i64 xv, .slice A n c, .slice B m d], .bool true])) := by
        rw [HE.out]
        exact .inl ⟨by simp, by simp⟩
       clear z0 z1 z2 z3 z4 z5 z6 z7 z8 z9
       clear f0 f1 f2 f3 f4 f5 f6 f7 f8 f9
       clear o0 o1 o2 o3 o4 o5 o6 o7 o8 o9
       have hF := tenc (put10_at H9.out.hz (.int .i64 4) (.int .i64 p0) (.int .i64 M) (.int .i64 xg) (.int .i64 xh) (.int .i64 xi) (.int .i64 xm) (.int .i64 xv) (.slice A n c) (.slice B m d))
       have hB10 := put10_below HB9.out (B := w.heap.size + 2) (by omega) (.int .i64 4) (.int .i64 p0) (.int .i64 M) (.int .i64 xg) (.int .i64 xh) (.int .i64 xi) (.int .i64 xm) (.int .i64 xv) (.slice A n c) (.slice B m d)
       obtain ⟨⟨r0, r1, r2, r3, r4⟩, r5, r6, r7, r8, r9⟩ := hF
       unfold put10 at r0 r1 r2 r3 r4 r5 r6 r7 r8 r9 hB10
       refine bodyPost_ret (v := .tuple #[.agg #[.int .i64 4, .int .i64 p0, .int .i64 M, .int .i64 xg, .int .i64 xh, .int .i64 xi, .int .i64 xm, .int .i64 xv, .slice A n c, .slice B m d], .bool true]) ?_ rfl ⟨hend, hB10⟩
       simp [results, Try.results16, go_sem, r0, r1, r2, r3, r4, r5, r6, r7, r8, r9]
end Go.Proofs.Ytlbkfenlbkibgaa.St
