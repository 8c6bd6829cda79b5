/- Steps: the law ShiftOver. -/
import Derived.Test.YtmhngehpddfccaaStX
namespace Go.Proofs.Ytmhngehpddfccaa.St
open Go.RowKit Mem Sm Tk Rt
set_option linter.unusedVariables false
set_option linter.unusedSimpArgs false
structure KF (ox oy : Obj) (w W : World) : Prop where
  hx : W.heap[w.heap.size]? = some ox
  hy : W.heap[w.heap.size + 1]? = some oy
  hb : Below w.heap.size w W
theorem KF.step {ox oy : Obj} {w W W' : World} (h : KF ox oy w W) (hb : Below W.heap.size W W') : KF ox oy w W' :=
  ⟨hkeep hb h.hx, hkeep hb h.hy, h.hb.trans (hb.mono h.hb.size)⟩
theorem pickL_len {α : Type} {b : Bool} {l : List α} {n : Nat} (h : l.length ≤ n) : (pickL b l).length ≤ n := by
  unfold pickL; split
  · exact h
  · simp
set_option maxRecDepth 100000 in
set_option maxHeartbeats 16000000 in
theorem over_walk (x y : Sp) (L K' : List Tk.Tk) (S T' : List Mk) (l : List Rg) (A A' B B' D : Option Addr) (n n' m m' k c c' d d' cd : Nat) (w : World)
    (h1 : TRow w A n L) (h2 : TRow w A' n' K') (h3 : MkRow w B m S) (h4 : MkRow w B' m' T') (h5 : RRow w D k l) :
    Calls Try.prog 4 #[stV x (.slice A n c) (.slice B m d), stV y (.slice A' n' c') (.slice B' m' d'), .slice D k cd] w fun e w' => e = .returned (.bool true) ∧ Below w.heap.size w w' := by
  have CF1 := fun W => few_any x A B n m c d W
  have CF2 := fun W => few_any y A' B' n' m' c' d' W
  have CLV := fun W => live_any W
  have COV := fun W q1 q2 q3 q4 q5 q6 => over_res l D k cd x L S A B n m c d W q1 q2 q3 q4 q5 q6
  have CRO := fun W q1 q2 q3 q4 q5 q6 => rover_res l D k cd x L S A B n m c d W q1 q2 q3 q4 q5 q6
  have CPA := fun W q1 q2 q3 q4 q5 q6 q7 q8 => past_res x y L K' S T' A A' B B' n n' m m' c c' d d' W q1 q2 q3 q4 q5 q6 q7 q8
  have CRM := fun W q1 q2 => rmap_any y A' B' n' m' c' d' W q1 q2
  have CRP := fun D k cd W q1 q2 q3 q4 => (rover_any (mapS y n') D k cd x A B n m c d W q1 q2 q3 q4).mono (fun e w' h => And.intro (res_ref h1 h3 h.1) h.2)
  have CSH := fun W q1 q2 => rshape_any x A B n m c d W q1 q2
  have CSY := fun W q1 q2 => rshape_any y A' B' n' m' c' d' W q1 q2
  have CTH := fun p W q0 q1 q2 q3 q4 => through_res (tells_rt (base := p) (p := p) (v := .slice none 0 0) (mp := .map none) (vs := []) (M := []) (mir := []) (by simp) (by simp) (by simp)) x L S A B n m c d W q0 q1 q2 q3 q4
  have CSA := fun Y LA SA A1 A2 B1 B2 c1 c2 d1 d2 W q1 q2 q3 q4 q5 q6 => rssame_any Y Y LA LA SA SA A1 A2 B1 B2 LA.length LA.length SA.length SA.length c1 c2 d1 d2 W q1 q1 q2 q2 q3 q4 q5 q6
  have CSX := fun A1 B1 c1 d1 W q1 q2 q3 q4 q5 q6 q7 q8 => rssame_any x x L L S S A1 A B1 B n n m m c1 c d1 d W q1 q2 q3 q4 q5 q6 q7 q8
  simp only [sameS_refl] at CSA CSX
  have hml := mapS_length y n'
  have hno := @none_no x n m
  have hyes := @none_yes x n m
  have hpb : pastB y x n' n m m' = (shapeB y n' m' && overB (mapS y n') x n m) := rfl
  have hlb : lostB x n m ↔ (shapeB x n m = false ∨ ((x.kind = 3 ∨ x.kind = 4) ∧ x.from_ = x.to_)) := Iff.rfl
  obtain ⟨OB, hOB⟩ : ∃ b, b = overB l x n m := ⟨_, rfl⟩
  obtain ⟨OY, hOY⟩ : ∃ b, b = pickY OB (goneN (goT [l] []) x) := ⟨_, rfl⟩
  simp only [← hOB] at COV CRO
  simp only [← hOY] at COV CRO
  obtain ⟨OL, hOL⟩ : ∃ b, b = pickL OB L := ⟨_, rfl⟩
  obtain ⟨OS, hOS⟩ : ∃ b, b = pickL OB S := ⟨_, rfl⟩
  have ho1 : OL.length ≤ L.length := by rw [hOL]; exact pickL_len (Nat.le_refl _)
  have ho2 : OS.length ≤ S.length := by rw [hOS]; exact pickL_len (Nat.le_refl _)
  simp only [← hOL, ← hOS] at COV CRO
  clear hOB hOY hOL hOS
  obtain ⟨F2, hF2⟩ : ∃ b, b = shapeB y n' m' := ⟨_, rfl⟩
  obtain ⟨QB, hQB⟩ : ∃ b, b = overB (mapS y n') x n m := ⟨_, rfl⟩
  rw [← hF2, ← hQB] at hpb
  simp only [hpb] at CPA
  simp only [← hF2] at CSY CRM
  simp only [← hQB] at CRP
  obtain ⟨PY, hPY⟩ : ∃ b, b = goneN (goT [mapS y n'] []) x := ⟨_, rfl⟩
  simp only [← hPY] at CPA CRP
  obtain ⟨MP, hMP⟩ : ∃ b, b = mapS y n' := ⟨_, rfl⟩
  simp only [← hMP] at CRM CRP hml
  clear hpb hF2 hQB hPY hMP
  obtain ⟨SB, hSB⟩ : ∃ b, b = shiftB (goT [] []) x n m := ⟨_, rfl⟩
  obtain ⟨SY, hSY⟩ : ∃ b, b = goneN (goT [] []) x := ⟨_, rfl⟩
  simp only [← hSB, ← hSY] at CTH hno hyes
  clear hSB hSY
  obtain ⟨FX, hFX⟩ : ∃ b, b = shapeB x n m := ⟨_, rfl⟩
  rw [← hFX] at hlb
  simp only [← hFX] at CSH
  clear hFX
  obtain ⟨LP, hLP⟩ : ∃ b, b = lostB x n m := ⟨_, rfl⟩
  simp only [← hLP] at hno hyes hlb
  clear hLP
  have HNO := Lib.hid hno
  have HYES := Lib.hid hyes
  have HLB := Lib.hid hlb
  clear hno hyes hlb
  obtain ⟨xk, xf, xt, xg, xh, xi, xm, xv⟩ := x
  obtain ⟨vk, vf, vt, vg, vh, vi, vm, vv⟩ := y
  have hsX : stV ⟨xk, xf, xt, xg, xh, xi, xm, xv⟩ (.slice A n c) (.slice B m d) = .agg #[.int .i64 xk, .int .i64 xf, .int .i64 xt, .int .i64 xg, .int .i64 xh, .int .i64 xi, .int .i64 xm, .int .i64 xv, .slice A n c, .slice B m d] := rfl
  have hsY : stV ⟨vk, vf, vt, vg, vh, vi, vm, vv⟩ (.slice A' n' c') (.slice B' m' d') = .agg #[.int .i64 vk, .int .i64 vf, .int .i64 vt, .int .i64 vg, .int .i64 vh, .int .i64 vi, .int .i64 vm, .int .i64 vv, .slice A' n' c', .slice B' m' d'] := rfl
  rw [hsX, hsY]
  simp only [hsX] at CF1 COV CRO CPA CRP CTH CSX
  simp only [hsY] at CF2 CPA CRM
  clear hsX hsY
  simp only at CSH CSY HLB
  have hb0 := ((Below.refl _ w).alloc (Nat.le_refl _) (.cells #[.int .i64 xk, .int .i64 xf, .int .i64 xt, .int .i64 xg, .int .i64 xh, .int .i64 xi, .int .i64 xm, .int .i64 xv, .slice A n c, .slice B m d] 25)).alloc (by simp) (.cells #[.int .i64 vk, .int .i64 vf, .int .i64 vt, .int .i64 vg, .int .i64 vh, .int .i64 vi, .int .i64 vm, .int .i64 vv, .slice A' n' c', .slice B' m' d'] 25)
  have hx : ((w.alloc (.cells #[.int .i64 xk, .int .i64 xf, .int .i64 xt, .int .i64 xg, .int .i64 xh, .int .i64 xi, .int .i64 xm, .int .i64 xv, .slice A n c, .slice B m d] 25)).alloc (.cells #[.int .i64 vk, .int .i64 vf, .int .i64 vt, .int .i64 vg, .int .i64 vh, .int .i64 vi, .int .i64 vm, .int .i64 vv, .slice A' n' c', .slice B' m' d'] 25)).heap[w.heap.size]? = some (.cells #[.int .i64 xk, .int .i64 xf, .int .i64 xt, .int .i64 xg, .int .i64 xh, .int .i64 xi, .int .i64 xm, .int .i64 xv, .slice A n c, .slice B m d] 25) := by rw [Below.heap_alloc _ _ _ (by simp), heap_alloc_new]
  have hy := heap_alloc_new (w.alloc (.cells #[.int .i64 xk, .int .i64 xf, .int .i64 xt, .int .i64 xg, .int .i64 xh, .int .i64 xi, .int .i64 xm, .int .i64 xv, .slice A n c, .slice B m d] 25)) (.cells #[.int .i64 vk, .int .i64 vf, .int .i64 vt, .int .i64 vg, .int .i64 vh, .int .i64 vi, .int .i64 vm, .int .i64 vv, .slice A' n' c', .slice B' m' d'] 25)
  rw [show (w.alloc (.cells #[.int .i64 xk, .int .i64 xf, .int .i64 xt, .int .i64 xg, .int .i64 xh, .int .i64 xi, .int .i64 xm, .int .i64 xv, .slice A n c, .slice B m d] 25)).heap.size = w.heap.size + 1 by simp] at hy
  have H0 : Hid (KF (.cells #[.int .i64 xk, .int .i64 xf, .int .i64 xt, .int .i64 xg, .int .i64 xh, .int .i64 xi, .int .i64 xm, .int .i64 xv, .slice A n c, .slice B m d] 25) (.cells #[.int .i64 vk, .int .i64 vf, .int .i64 vt, .int .i64 vg, .int .i64 vh, .int .i64 vi, .int .i64 vm, .int .i64 vv, .slice A' n' c', .slice B' m' d'] 25) w ((w.alloc (.cells #[.int .i64 xk, .int .i64 xf, .int .i64 xt, .int .i64 xg, .int .i64 xh, .int .i64 xi, .int .i64 xm, .int .i64 xv, .slice A n c, .slice B m d] 25)).alloc (.cells #[.int .i64 vk, .int .i64 vf, .int .i64 vt, .int .i64 vg, .int .i64 vh, .int .i64 vi, .int .i64 vm, .int .i64 vv, .slice A' n' c', .slice B' m' d'] 25))) := Lib.hid ⟨hx, hy, hb0⟩
  clear hb0 hx hy
  obtain ⟨⟨y0, y1, y2, y3, y4⟩, y5, y6, y7, y8, y9⟩ := tenc H0.out.hx
  go_enter Try.func4, Try.ntmps4
  go_wp2_with fail
  refine (CF1 _).mono ?_
  rintro e w1 ⟨rfl, hb1⟩
  have H1 := Lib.hid (H0.out.step hb1)
  clear hb1 H0 CF1
  clear y0 y1 y2 y3 y4 y5 y6 y7 y8 y9
  obtain ⟨b1, hb1⟩ : ∃ b, b = (decide (n ≤ 60) && decide (m ≤ 150)) := ⟨_, rfl⟩
  rw [← hb1]
  cases b1 with
  | false =>
    clear hb1
    go_wp2_with fail
    refine (CLV _).mono ?_
    rintro e wl ⟨rfl, hbl⟩
    have HBL := H1.out.hb.trans (hbl.mono H1.out.hb.size)
    go_wp2
    go_ret
    exact ⟨rfl, HBL⟩
  | true =>
    have hnm : n ≤ 60 ∧ m ≤ 150 := by simpa using hb1.symm
    clear hb1
    obtain ⟨⟨y0, y1, y2, y3, y4⟩, y5, y6, y7, y8, y9⟩ := tenc H1.out.hy
    go_wp2_with fail
    refine (CF2 _).mono ?_
    rintro e w2 ⟨rfl, hb2⟩
    have H2 := Lib.hid (H1.out.step hb2)
    clear hb2 H1 CF2
    clear y0 y1 y2 y3 y4 y5 y6 y7 y8 y9
    obtain ⟨b1, hb1⟩ : ∃ b, b = (decide (n' ≤ 60) && decide (m' ≤ 150)) := ⟨_, rfl⟩
    rw [← hb1]
    cases b1 with
    | false =>
      clear hb1
      go_wp2_with fail
      refine (CLV _).mono ?_
      rintro e wl ⟨rfl, hbl⟩
      have HBL := H2.out.hb.trans (hbl.mono H2.out.hb.size)
      go_wp2
      go_ret
      exact ⟨rfl, HBL⟩
    | true =>
      have hnm2 : n' ≤ 60 ∧ m' ≤ 150 := by simpa using hb1.symm
      clear hb1
      by_cases hk : (k : Int) > 20
      · skip
        go_wp2_with fail
        refine (CLV _).mono ?_
        rintro e wl ⟨rfl, hbl⟩
        have HBL := H2.out.hb.trans (hbl.mono H2.out.hb.size)
        go_wp2
        go_ret
        exact ⟨rfl, HBL⟩
      · skip
        have hL := h1.1
        have hS := h3.1
        obtain ⟨⟨y0, y1, y2, y3, y4⟩, y5, y6, y7, y8, y9⟩ := tenc H2.out.hx
        go_wp2_with fail
        refine (COV _ (by omega) (by omega) (h1.below H2.out.hb) (h3.below H2.out.hb) (by omega) (h5.below H2.out.hb)).mono ?_
        rintro e w3 ⟨⟨As, cs, At, ct, rfl, ra, rb⟩, hb3⟩
        have H3 := Lib.hid (H2.out.step hb3)
        clear hb3 H2 COV
        clear y0 y1 y2 y3 y4 y5 y6 y7 y8 y9
        have hbn : Below w3.heap.size w3 (w3.alloc (.cells (stC OY (.slice As OL.length cs) (.slice At OS.length ct)) 25)) := (Below.refl _ _).alloc (Nat.le_refl _) _
        have R7 := Lib.hid (RC.new (Y := OY) (cs := cs) (ct := ct) ra rb)
        have H4 := Lib.hid (H3.out.step hbn)
        clear hbn ra rb H3
        unfold stV
        unfold stC at R7 H4 ⊢
        obtain ⟨⟨y0, y1, y2, y3, y4⟩, y5, y6, y7, y8, y9⟩ := tenc H4.out.hx
        go_wp2_with fail
        refine (CRO _ (by omega) (by omega) (h1.below H4.out.hb) (h3.below H4.out.hb) (by omega) (h5.below H4.out.hb)).mono ?_
        rintro e w5 ⟨⟨Ar, cr, Br, dr, rfl, ra, rb⟩, hb5⟩
        have H5 := Lib.hid (H4.out.step hb5)
        have R7b := Lib.hid (R7.out.step hb5)
        clear hb5 H4 R7 CRO
        clear y0 y1 y2 y3 y4 y5 y6 y7 y8 y9
        unfold stV stC
        go_upto_region 5 with fail
        have hbn : Below w5.heap.size w5 (w5.alloc (.cells (stC OY (.slice Ar OL.length cr) (.slice Br OS.length dr)) 25)) := (Below.refl _ _).alloc (Nat.le_refl _) _
        have R9 := Lib.hid (RC.new (Y := OY) (cs := cr) (ct := dr) ra rb)
        have H6 := Lib.hid (H5.out.step hbn)
        have R7c := Lib.hid (R7b.out.step hbn)
        clear hbn ra rb H5 R7b
        unfold stC at R7c R9 H6
        generalize w5.alloc _ = W6 at H6 R7c R9 ⊢
        generalize w5.heap.size = P9 at *
        generalize hP7 : w3.heap.size = P7 at *
        clear hP7
        have hl1 := ho1
        have hl2 := ho2
        obtain ⟨⟨y0, y1, y2, y3, y4⟩, y5, y6, y7, y8, y9⟩ := tenc R7c.out.h
        obtain ⟨⟨o0, o1, o2, o3, o4⟩, o5, o6, o7, o8, o9⟩ := tenc R9.out.h
        go_wp2_with fail
        refine (CSA OY OL OS As Ar At Br cs cr ct dr _ (by omega) (by omega) R7c.out.l R9.out.l R7c.out.s R9.out.s).mono ?_
        rintro e w7 ⟨rfl, hb7⟩
        have H7 := Lib.hid (H6.out.step hb7)
        clear hb7 H6 R7c R9
        clear y0 y1 y2 y3 y4 y5 y6 y7 y8 y9
        clear o0 o1 o2 o3 o4 o5 o6 o7 o8 o9
        cases F2 with
        | true =>
          simp only [Bool.true_and] at CPA
          obtain ⟨Y2, hY2⟩ : ∃ b, b = pickY QB PY := ⟨_, rfl⟩
          obtain ⟨L2, hL2⟩ : ∃ b, b = pickL QB L := ⟨_, rfl⟩
          obtain ⟨S2, hS2⟩ : ∃ b, b = pickL QB S := ⟨_, rfl⟩
          have hm1 : L2.length ≤ L.length := by rw [hL2]; exact pickL_len (Nat.le_refl _)
          have hm2 : S2.length ≤ S.length := by rw [hS2]; exact pickL_len (Nat.le_refl _)
          simp only [← hY2, ← hL2, ← hS2] at CPA CRP
          clear hY2 hL2 hS2
          obtain ⟨⟨y0, y1, y2, y3, y4⟩, y5, y6, y7, y8, y9⟩ := tenc H7.out.hx
          obtain ⟨⟨o0, o1, o2, o3, o4⟩, o5, o6, o7, o8, o9⟩ := tenc H7.out.hy
          go_wp2_with fail
          refine (CPA _ (by omega) (by omega) (by omega) (by omega) (h1.below H7.out.hb) (h2.below H7.out.hb) (h3.below H7.out.hb) (h4.below H7.out.hb)).mono ?_
          rintro e w8 ⟨⟨As, cs, At, ct, rfl, ra, rb⟩, hb8⟩
          have H8 := Lib.hid (H7.out.step hb8)
          clear hb8 H7 CPA
          clear y0 y1 y2 y3 y4 y5 y6 y7 y8 y9
          clear o0 o1 o2 o3 o4 o5 o6 o7 o8 o9
          unfold stV stC
          go_upto_region 9 with fail
          have hbn : Below w8.heap.size w8 (w8.alloc (.cells (stC Y2 (.slice As L2.length cs) (.slice At S2.length ct)) 25)) := (Below.refl _ _).alloc (Nat.le_refl _) _
          have R11 := Lib.hid (RC.new (Y := Y2) (cs := cs) (ct := ct) ra rb)
          have H9 := Lib.hid (H8.out.step hbn)
          have hs9 : (w8.alloc (.cells (stC Y2 (.slice As L2.length cs) (.slice At S2.length ct)) 25)).heap.size = w8.heap.size + 1 := by simp
          clear hbn ra rb H8
          unfold stC at R11 H9 hs9
          generalize w8.alloc _ = W9 at H9 R11 hs9 ⊢
          generalize hP11 : w8.heap.size = P11 at *
          clear hP11
          have hbm : Below W9.heap.size W9 (W9.alloc (.cells #[.int .i64 0, .int .i64 0, .int .i64 0, .int .i64 0, .int .i64 0, .int .i64 0, .int .i64 0, .int .i64 0, .slice none 0 0, .slice none 0 0] 25)) := (Below.refl _ _).alloc (Nat.le_refl _) _
          have H10 := Lib.hid (H9.out.step hbm)
          have HZ := Lib.hid (heap_alloc_new W9 (.cells #[.int .i64 0, .int .i64 0, .int .i64 0, .int .i64 0, .int .i64 0, .int .i64 0, .int .i64 0, .int .i64 0, .slice none 0 0, .slice none 0 0] 25))
          have HB11 := Lib.hid hbm
          have hw9 := H9.out.hb.size
          have hl9 := lt_some H9.out.hy
          clear hbm H9
          generalize W9.alloc (.cells #[.int .i64 0, .int .i64 0, .int .i64 0, .int .i64 0, .int .i64 0, .int .i64 0, .int .i64 0, .int .i64 0, .slice none 0 0, .slice none 0 0] 25) = W10 at H10 HZ HB11 ⊢
          have hP13 : W9.heap.size = P11 + 1 := hs9
          have HZ := Lib.hid (by have h := HZ.out; rw [hP13] at h; exact h)
          have HB11 := Lib.hid (by have h := HB11.out; rw [hP13] at h; exact h)
          obtain ⟨⟨o0, o1, o2, o3, o4⟩, o5, o6, o7, o8, o9⟩ := tenc H10.out.hy
          go_wp2_with fail
          refine (CSY _ (by omega) (by omega)).mono ?_
          rintro e w11 ⟨rfl, hb11⟩
          have H11 := Lib.hid (H10.out.step hb11)
          have HZ11 := Lib.hid (hkeep hb11 HZ.out)
          have HB12 := Lib.hid (HB11.out.trans (hb11.mono (by have := HB11.out.size; omega)))
          clear hb11 H10 HZ HB11 CSY
          clear o0 o1 o2 o3 o4 o5 o6 o7 o8 o9
          go_upto_region 10 with fail
          refine wp_region_held_drew (S := fun W => W.heap[w.heap.size]? = some (.cells #[.int .i64 xk, .int .i64 xf, .int .i64 xt, .int .i64 xg, .int .i64 xh, .int .i64 xi, .int .i64 xm, .int .i64 xv, .slice A n c, .slice B m d] 25) ∧ W.heap[w.heap.size + 1]? = some (.cells #[.int .i64 vk, .int .i64 vf, .int .i64 vt, .int .i64 vg, .int .i64 vh, .int .i64 vi, .int .i64 vm, .int .i64 vv, .slice A' n' c', .slice B' m' d'] 25)) (by kernel_rfl) ⟨H11.out.hx, H11.out.hy⟩ (fun hHeld => ?_)
          have HBB : Hid (Below w.heap.size w w11.drew) := Lib.hid (below_drewN H11.out.hb 1)
          have HZ12 : Hid (w11.drew.heap[(P11 + 1)]? = some (.cells #[.int .i64 0, .int .i64 0, .int .i64 0, .int .i64 0, .int .i64 0, .int .i64 0, .int .i64 0, .int .i64 0, .slice none 0 0, .slice none 0 0] 25)) := HZ11
          have HB13 : Hid (Below (P11 + 1) W9 w11.drew) := Lib.hid (below_drewN HB12.out 1)
          clear H11 HZ11 HB12
          generalize w11.drew = W12 at HBB HZ12 HB13 hHeld ⊢
          refine tk 0 (v := ?_) rfl (by kernel_rfl) (fun _ _ _ h => h) ?_ hHeld ?_
          rotate_left
          · (intro W hSw; (try dsimp only at hSw); obtain ⟨hs1, hs2⟩ := hSw; obtain ⟨⟨y0, y1, y2, y3, y4⟩, y5, y6, y7, y8, y9⟩ := tenc hs1; obtain ⟨⟨z0, z1, z2, z3, z4⟩, z5, z6, z7, z8, z9⟩ := tenc hs2; go_simp; try with_reducible rfl)
          refine tk 1 (v := ?_) rfl (by kernel_rfl) (fun _ _ _ h => h) ?_ hHeld ?_
          rotate_left
          · (intro W hSw; (try dsimp only at hSw); obtain ⟨hs1, hs2⟩ := hSw; obtain ⟨⟨y0, y1, y2, y3, y4⟩, y5, y6, y7, y8, y9⟩ := tenc hs1; obtain ⟨⟨z0, z1, z2, z3, z4⟩, z5, z6, z7, z8, z9⟩ := tenc hs2; go_simp; try with_reducible rfl)
          refine wpAnyH_ready (rs := [2]) (by kernel_rfl) (by simp) ?_
          refine AllReadyH.cons rfl (fun K hK => ?_) AllReadyH.nil
          go_simp
          refine (CRM _ (by omega) (by first | trivial | rfl)).mono ?_
          rintro e w13 ⟨v, rfl, hv, hb13⟩
          obtain ⟨D2, ce2, rfl, hd⟩ := shape_rg hv
          have HBC := Lib.hid (HBB.out.trans (hb13.mono HBB.out.size))
          have HZ13 := Lib.hid (hkeep hb13 HZ12.out)
          have HB14 := Lib.hid (HB13.out.trans (hb13.mono (by have := HB13.out.size; omega)))
          have hS13 := And.intro (hkeep hb13 hHeld.1) (hkeep hb13 hHeld.2)
          have HD := Lib.hid hd
          clear hb13 HBB HZ12 HB13 CRM hv hd hHeld
          go_wp2_with fail
          refine hK.out _ _ hS13 (fun hHeld => ?_)
          clear hK K hS13
          refine wpAnyH_ready (rs := [3]) (by kernel_rfl) (by simp) ?_
          refine AllReadyH.cons rfl (fun K hK => ?_) AllReadyH.nil
          go_simp
          refine (CRP D2 _ ce2 _ (by omega) (by omega) (by omega) HD.out).mono ?_
          rintro e w14 ⟨⟨Ad, ce, Bd, dd, rfl, ra, rb⟩, hb14⟩
          have HBD := Lib.hid (HBC.out.trans (hb14.mono HBC.out.size))
          have HZ14 := Lib.hid (hkeep hb14 HZ13.out)
          have HB15 := Lib.hid (HB14.out.trans (hb14.mono (by have := HB14.out.size; omega)))
          have hS14 := And.intro (hkeep hb14 hHeld.1) (hkeep hb14 hHeld.2)
          clear hb14 HBC HZ13 HB14 CRP HD hHeld
          unfold stV stC
          go_wp2_with fail
          refine hK.out _ _ hS14 (fun hHeld => ?_)
          clear hK K hS14
          refine tk 4 (v := ?_) rfl (by kernel_rfl) (fun _ _ _ h => h) ?_ hHeld ?_
          rotate_left
          · (intro W hSw; (try dsimp only at hSw); obtain ⟨hs1, hs2⟩ := hSw; obtain ⟨⟨y0, y1, y2, y3, y4⟩, y5, y6, y7, y8, y9⟩ := tenc hs1; obtain ⟨⟨z0, z1, z2, z3, z4⟩, z5, z6, z7, z8, z9⟩ := tenc hs2; go_simp; try with_reducible rfl)
          refine tk 5 (v := ?_) rfl (by kernel_rfl) (fun _ _ _ h => h) ?_ hHeld ?_
          rotate_left
          · (intro W hSw; (try dsimp only at hSw); obtain ⟨hs1, hs2⟩ := hSw; obtain ⟨⟨y0, y1, y2, y3, y4⟩, y5, y6, y7, y8, y9⟩ := tenc hs1; obtain ⟨⟨z0, z1, z2, z3, z4⟩, z5, z6, z7, z8, z9⟩ := tenc hs2; go_simp; try with_reducible rfl)
          refine tk 6 (v := ?_) rfl (by kernel_rfl) (fun _ _ _ h => h) ?_ hHeld ?_
          rotate_left
          · (intro W hSw; (try dsimp only at hSw); obtain ⟨hs1, hs2⟩ := hSw; obtain ⟨⟨y0, y1, y2, y3, y4⟩, y5, y6, y7, y8, y9⟩ := tenc hs1; obtain ⟨⟨z0, z1, z2, z3, z4⟩, z5, z6, z7, z8, z9⟩ := tenc hs2; go_simp; try with_reducible rfl)
          refine wpAnyH_ready (rs := [7]) (by kernel_rfl) (by simp) ?_
          refine AllReadyH.cons rfl (fun K hK => ?_) AllReadyH.nil
          have hz := tenc HZ14.out
          have z0 := hz.1.1
          have z1 := hz.1.2.1
          have z2 := hz.1.2.2.1
          have z3 := hz.1.2.2.2.1
          have z4 := hz.1.2.2.2.2
          have z5 := hz.2.1
          have z6 := hz.2.2.1
          have z7 := hz.2.2.2.1
          have z8 := hz.2.2.2.2.1
          have z9 := hz.2.2.2.2.2
          have hf := froz HZ14.out
          have f0 := hf.1
          have f1 := hf.2.1
          have f2 := hf.2.2.1
          have f3 := hf.2.2.2.1
          have f4 := hf.2.2.2.2.1
          have f5 := hf.2.2.2.2.2.1
          have f6 := hf.2.2.2.2.2.2.1
          have f7 := hf.2.2.2.2.2.2.2.1
          have f8 := hf.2.2.2.2.2.2.2.2.1
          have f9 := hf.2.2.2.2.2.2.2.2.2
          clear hz hf
          go_simp
          have hS8 := And.intro ((put10_else (B := (P11 + 1)) (k := w.heap.size) (.int .i64 Y2.kind) (.int .i64 Y2.from_) (.int .i64 Y2.to_) (.int .i64 Y2.gf) (.int .i64 Y2.gt) (.int .i64 Y2.ins) (.int .i64 Y2.mark) (.int .i64 Y2.val) (.slice Ad L2.length ce) (.slice Bd S2.length dd) (by omega)).trans hHeld.1) ((put10_else (B := (P11 + 1)) (k := w.heap.size + 1) (.int .i64 Y2.kind) (.int .i64 Y2.from_) (.int .i64 Y2.to_) (.int .i64 Y2.gf) (.int .i64 Y2.gt) (.int .i64 Y2.ins) (.int .i64 Y2.mark) (.int .i64 Y2.val) (.slice Ad L2.length ce) (.slice Bd S2.length dd) (by omega)).trans hHeld.2)
          have hZ8 := put10_at HZ14.out (.int .i64 Y2.kind) (.int .i64 Y2.from_) (.int .i64 Y2.to_) (.int .i64 Y2.gf) (.int .i64 Y2.gt) (.int .i64 Y2.ins) (.int .i64 Y2.mark) (.int .i64 Y2.val) (.slice Ad L2.length ce) (.slice Bd S2.length dd)
          have hB8 := put10_below HBD.out (B := (P11 + 1)) (by omega) (.int .i64 Y2.kind) (.int .i64 Y2.from_) (.int .i64 Y2.to_) (.int .i64 Y2.gf) (.int .i64 Y2.gt) (.int .i64 Y2.ins) (.int .i64 Y2.mark) (.int .i64 Y2.val) (.slice Ad L2.length ce) (.slice Bd S2.length dd)
          have hB9 := put10_below HB15.out (B := (P11 + 1)) (Nat.le_refl _) (.int .i64 Y2.kind) (.int .i64 Y2.from_) (.int .i64 Y2.to_) (.int .i64 Y2.gf) (.int .i64 Y2.gt) (.int .i64 Y2.ins) (.int .i64 Y2.mark) (.int .i64 Y2.val) (.slice Ad L2.length ce) (.slice Bd S2.length dd)
          unfold put10 at hS8 hZ8 hB8 hB9
          have HB8 := Lib.hid hB8
          have HB9 := Lib.hid hB9
          have HZ8 := Lib.hid hZ8
          refine hK.out _ _ hS8 (fun hHeld => ?_)
          clear z0 z1 z2 z3 z4 z5 z6 z7 z8 z9 f0 f1 f2 f3 f4 f5 f6 f7 f8 f9
          clear hK K hS8 hZ8 hB8 hB9 HZ14 HBD HB15
          generalize World.setCell _ _ _ = W8 at HB8 HB9 HZ8 hHeld ⊢
          refine wpAnyH_ready (rs := [8]) (by kernel_rfl) (by simp) ?_
          refine AllReadyH.cons rfl (fun K hK => ?_) AllReadyH.nil
          go_simp
          refine hK.out _ _ hHeld (fun hHeld => ?_)
          clear hK K
          refine wpAnyH_done (by kernel_rfl) ?_ _
          have H15 : Hid (KF (.cells #[.int .i64 xk, .int .i64 xf, .int .i64 xt, .int .i64 xg, .int .i64 xh, .int .i64 xi, .int .i64 xm, .int .i64 xv, .slice A n c, .slice B m d] 25) (.cells #[.int .i64 vk, .int .i64 vf, .int .i64 vt, .int .i64 vg, .int .i64 vh, .int .i64 vi, .int .i64 vm, .int .i64 vv, .slice A' n' c', .slice B' m' d'] 25) w W8) := Lib.hid ⟨hHeld.1, hHeld.2, HB8.out⟩
          have R13 : Hid (RC (P11 + 1) Y2 Ad Bd ce dd L2 S2 W8) := Lib.hid ⟨HZ8.out, ra.below HB8.out, rb.below HB8.out⟩
          have R11b := Lib.hid (R11.out.step (by rw [hP13]; exact HB9.out))
          clear HB8 HB9 HZ8 hHeld ra rb R11
          unfold stC at R11b
          obtain ⟨⟨y0, y1, y2, y3, y4⟩, y5, y6, y7, y8, y9⟩ := tenc R11b.out.h
          obtain ⟨⟨o0, o1, o2, o3, o4⟩, o5, o6, o7, o8, o9⟩ := tenc R13.out.h
          go_wp2_with fail
          refine (CSA Y2 L2 S2 As Ad At Bd cs ce ct dd _ (by omega) (by omega) R11b.out.l R13.out.l R11b.out.s R13.out.s).mono ?_
          rintro e w16 ⟨rfl, hb16⟩
          have H16 := Lib.hid (H15.out.step hb16)
          clear hb16 H15 R11b R13 CSA
          clear y0 y1 y2 y3 y4 y5 y6 y7 y8 y9
          clear o0 o1 o2 o3 o4 o5 o6 o7 o8 o9
          go_upto_region 13 with fail
          have hbn : Below w16.heap.size w16 (w16.alloc (.cells #[.slice none 0 0, .map none] 35)) := (Below.refl _ _).alloc (Nat.le_refl _) _
          have H17 := Lib.hid (H16.out.step hbn)
          have HR := Lib.hid (RtAt.new w16)
          clear hbn
          obtain ⟨⟨y0, y1, y2, y3, y4⟩, y5, y6, y7, y8, y9⟩ := tenc H16.out.hx
          go_wp2_with fail
          refine (CTH w16.heap.size _ HR.out (by omega) (by omega) (h1.below H17.out.hb) (h3.below H17.out.hb)).mono ?_
          rintro e w18 ⟨⟨Ag, cg, Bg, dg, rfl, ra, rb⟩, hb18⟩
          have H18 := Lib.hid (H17.out.step hb18)
          clear hb18 H17 H16 HR CTH
          clear y0 y1 y2 y3 y4 y5 y6 y7 y8 y9
          unfold stV stC
          go_upto_region 14 with fail
          have hbn : Below w18.heap.size w18 (w18.alloc (.cells (stC (pickY SB SY) (.slice Ag (pickL SB L).length cg) (.slice Bg (pickL SB S).length dg)) 25)) := (Below.refl _ _).alloc (Nat.le_refl _) _
          have R15 := Lib.hid (RC.new (Y := pickY SB SY) (cs := cg) (ct := dg) ra rb)
          have H19 := Lib.hid (H18.out.step hbn)
          clear hbn ra rb H18
          unfold stC at R15 H19
          generalize w18.alloc _ = W19 at H19 R15 ⊢
          generalize w18.heap.size = P15 at *
          obtain ⟨LB, hLB⟩ : ∃ b : Bool, b = true ↔ LP := ⟨@decide LP (Classical.propDecidable _), by simp⟩
          have HLL := Lib.hid hLB
          clear hLB
          go_cut [17] from 85 to 104 (fun v wx => v = .bool LB ∧ Hid (Below W19.heap.size W19 wx))
          case first =>
            clear CSX CLV HNO HYES R15
            obtain ⟨⟨y0, y1, y2, y3, y4⟩, y5, y6, y7, y8, y9⟩ := tenc H19.out.hx
            go_wp2_with fail
            refine (CSH _ (by omega) (by omega)).mono ?_
            rintro e w20 ⟨rfl, hb20⟩
            have HX20 := Lib.hid (hkeep hb20 H19.out.hx)
            have HB20 := Lib.hid hb20
            clear hb20 H19 CSH
            clear y0 y1 y2 y3 y4 y5 y6 y7 y8 y9
            obtain ⟨⟨y0, y1, y2, y3, y4⟩, y5, y6, y7, y8, y9⟩ := tenc HX20.out
            cases FX with
            | false =>
              have hLB : LB = true := HLL.out.2 (HLB.out.2 (.inl rfl))
              subst hLB
              clear HLB HLL
              go_wp2_with fail
              go_meet
              exact ⟨by first | rfl | simp [*], HB20⟩
            | true =>
              by_cases e1 : xf = xt
              · by_cases k3 : xk = 3
                · have hLB : LB = true := HLL.out.2 (HLB.out.2 (.inr ⟨.inl k3, e1⟩))
                  subst hLB k3 e1
                  clear HLB HLL
                  go_wp2_with fail
                  go_meet
                  exact ⟨by first | rfl | simp [*], HB20⟩
                · by_cases k4 : xk = 4
                  · have hLB : LB = true := HLL.out.2 (HLB.out.2 (.inr ⟨.inr k4, e1⟩))
                    subst hLB k4 e1
                    clear HLB HLL
                    go_wp2_with fail
                    go_meet
                    exact ⟨by first | rfl | simp [*], HB20⟩
                  · have hLB : LB = false := by
                      cases hz : LB
                      · rfl
                      · rcases HLB.out.1 (HLL.out.1 hz) with h | ⟨h, _⟩
                        · cases h
                        · omega
                    subst hLB e1
                    clear HLB HLL
                    go_wp2_with fail
                    go_meet
                    exact ⟨by first | rfl | simp [*], HB20⟩
              · have hLB : LB = false := by
                  cases hz : LB
                  · rfl
                  · rcases HLB.out.1 (HLL.out.1 hz) with h | ⟨_, h⟩
                    · cases h
                    · exact absurd h e1
                subst hLB
                clear HLB HLL
                by_cases k3 : xk = 3
                · subst k3
                  go_wp2_with fail
                  go_meet
                  exact ⟨by first | rfl | simp [*], HB20⟩
                · by_cases k4 : xk = 4
                  · subst k4
                    go_wp2_with fail
                    go_meet
                    exact ⟨by first | rfl | simp [*], HB20⟩
                  · go_wp2_with fail
                    go_meet
                    exact ⟨by first | rfl | simp [*], HB20⟩
          case rest =>
          obtain ⟨rfl, hbw⟩ := hcut
          have H21 := Lib.hid (H19.out.step hbw.out)
          have R15b := Lib.hid (R15.out.step hbw.out)
          clear hbw H19 R15 CSH
          cases LB with
          | true =>
            have hSB : SB = false := HNO.out (HLL.out.1 rfl)
            subst hSB
            clear HNO HYES HLL HLB R15b CSX
            go_wp2_with fail
            refine (CLV _).mono ?_
            rintro e wl ⟨rfl, hbl⟩
            have HBL := H21.out.hb.trans (hbl.mono H21.out.hb.size)
            go_wp2
            go_ret
            exact ⟨rfl, HBL⟩
          | false =>
            obtain ⟨hSB, hSY⟩ := HYES.out (fun h => by have := HLL.out.2 h; cases this)
            subst hSB hSY
            have R15c : Hid (RC P15 ⟨xk, xf, xt, xg, xh, xi, xm, xv⟩ Ag Bg cg dg L S wc) := R15b
            clear HNO HYES HLL HLB R15b
            have g2 : (pickL true L).length = L.length := rfl
            have g3 : (pickL true S).length = S.length := rfl
            have g1 : pickY true (⟨xk, xf, xt, xg, xh, xi, xm, xv⟩ : Sp) = ⟨xk, xf, xt, xg, xh, xi, xm, xv⟩ := rfl
            try rw [g2]
            try rw [g3]
            try rw [g1]
            clear g1 g2 g3
            obtain ⟨⟨y0, y1, y2, y3, y4⟩, y5, y6, y7, y8, y9⟩ := tenc H21.out.hx
            obtain ⟨⟨o0, o1, o2, o3, o4⟩, o5, o6, o7, o8, o9⟩ := tenc R15c.out.h
            go_wp2_with fail
            refine (CSX Ag Bg cg dg _ (by omega) (by omega) (by omega) (by omega) (hL ▸ R15c.out.l) (h1.below H21.out.hb) (hS ▸ R15c.out.s) (h3.below H21.out.hb)).mono ?_
            rintro e w22 ⟨rfl, hb22⟩
            have H22 := Lib.hid (H21.out.step hb22)
            clear hb22 H21 R15c CSX
            clear y0 y1 y2 y3 y4 y5 y6 y7 y8 y9
            clear o0 o1 o2 o3 o4 o5 o6 o7 o8 o9
            go_wp2_with fail
            refine (CLV _).mono ?_
            rintro e wl ⟨rfl, hbl⟩
            have HBL := H22.out.hb.trans (hbl.mono H22.out.hb.size)
            go_wp2
            go_ret
            exact ⟨rfl, HBL⟩
        | false =>
          simp only [Bool.false_and] at CPA
          have g1 : pickY false PY = zeroSp := rfl
          have g2 : pickL false L = [] := rfl
          have g3 : pickL false S = [] := rfl
          rw [g1, g2, g3] at CPA
          clear g1 g2 g3 CRP CRM
          obtain ⟨⟨y0, y1, y2, y3, y4⟩, y5, y6, y7, y8, y9⟩ := tenc H7.out.hx
          obtain ⟨⟨o0, o1, o2, o3, o4⟩, o5, o6, o7, o8, o9⟩ := tenc H7.out.hy
          go_wp2_with fail
          refine (CPA _ (by omega) (by omega) (by omega) (by omega) (h1.below H7.out.hb) (h2.below H7.out.hb) (h3.below H7.out.hb) (h4.below H7.out.hb)).mono ?_
          rintro e w8 ⟨⟨As, cs, At, ct, rfl, ra, rb⟩, hb8⟩
          have H8 := Lib.hid (H7.out.step hb8)
          clear hb8 H7 CPA
          clear y0 y1 y2 y3 y4 y5 y6 y7 y8 y9
          clear o0 o1 o2 o3 o4 o5 o6 o7 o8 o9
          unfold stV stC
          go_upto_region 9 with fail
          have hbn : Below w8.heap.size w8 (w8.alloc (.cells (stC zeroSp (.slice As ([] : List Tk.Tk).length cs) (.slice At ([] : List Mk).length ct)) 25)) := (Below.refl _ _).alloc (Nat.le_refl _) _
          have R11 := Lib.hid (RC.new (Y := zeroSp) (cs := cs) (ct := ct) ra rb)
          have H9 := Lib.hid (H8.out.step hbn)
          have hs9 : (w8.alloc (.cells (stC zeroSp (.slice As ([] : List Tk.Tk).length cs) (.slice At ([] : List Mk).length ct)) 25)).heap.size = w8.heap.size + 1 := by simp
          clear hbn ra rb H8
          unfold stC at R11 H9 hs9
          generalize w8.alloc _ = W9 at H9 R11 hs9 ⊢
          generalize hP11 : w8.heap.size = P11 at *
          clear hP11
          have hbm : Below W9.heap.size W9 (W9.alloc (.cells #[.int .i64 0, .int .i64 0, .int .i64 0, .int .i64 0, .int .i64 0, .int .i64 0, .int .i64 0, .int .i64 0, .slice none 0 0, .slice none 0 0] 25)) := (Below.refl _ _).alloc (Nat.le_refl _) _
          have H10 := Lib.hid (H9.out.step hbm)
          have HZ := Lib.hid (heap_alloc_new W9 (.cells #[.int .i64 0, .int .i64 0, .int .i64 0, .int .i64 0, .int .i64 0, .int .i64 0, .int .i64 0, .int .i64 0, .slice none 0 0, .slice none 0 0] 25))
          have HB11 := Lib.hid hbm
          have hw9 := H9.out.hb.size
          have hl9 := lt_some H9.out.hy
          clear hbm H9
          generalize W9.alloc (.cells #[.int .i64 0, .int .i64 0, .int .i64 0, .int .i64 0, .int .i64 0, .int .i64 0, .int .i64 0, .int .i64 0, .slice none 0 0, .slice none 0 0] 25) = W10 at H10 HZ HB11 ⊢
          have hP13 : W9.heap.size = P11 + 1 := hs9
          have HZ := Lib.hid (by have h := HZ.out; rw [hP13] at h; exact h)
          have HB11 := Lib.hid (by have h := HB11.out; rw [hP13] at h; exact h)
          obtain ⟨⟨o0, o1, o2, o3, o4⟩, o5, o6, o7, o8, o9⟩ := tenc H10.out.hy
          go_wp2_with fail
          refine (CSY _ (by omega) (by omega)).mono ?_
          rintro e w11 ⟨rfl, hb11⟩
          have H11 := Lib.hid (H10.out.step hb11)
          have HZ11 := Lib.hid (hkeep hb11 HZ.out)
          have HB12 := Lib.hid (HB11.out.trans (hb11.mono (by have := HB11.out.size; omega)))
          clear hb11 H10 HZ HB11 CSY
          clear o0 o1 o2 o3 o4 o5 o6 o7 o8 o9
          have R13 : Hid (RC (P11 + 1) zeroSp none none 0 0 ([] : List Tk.Tk) ([] : List Mk) w11) := Lib.hid ⟨HZ11.out, TRow.nil, MkRow.nil⟩
          have R11b := Lib.hid (R11.out.step (by rw [hP13]; exact HB12.out))
          clear HZ11 HB12 R11
          unfold stC at R11b
          have hm1 : ([] : List Tk.Tk).length ≤ L.length := by simp
          have hm2 : ([] : List Mk).length ≤ S.length := by simp
          obtain ⟨⟨y0, y1, y2, y3, y4⟩, y5, y6, y7, y8, y9⟩ := tenc R11b.out.h
          obtain ⟨⟨o0, o1, o2, o3, o4⟩, o5, o6, o7, o8, o9⟩ := tenc R13.out.h
          go_wp2_with fail
          refine (CSA zeroSp ([] : List Tk.Tk) ([] : List Mk) As none At none cs 0 ct 0 _ (by omega) (by omega) R11b.out.l R13.out.l R11b.out.s R13.out.s).mono ?_
          rintro e w16 ⟨rfl, hb16⟩
          have H16 := Lib.hid (H11.out.step hb16)
          clear hb16 H11 R11b R13 CSA
          clear y0 y1 y2 y3 y4 y5 y6 y7 y8 y9
          clear o0 o1 o2 o3 o4 o5 o6 o7 o8 o9
          go_upto_region 13 with fail
          have hbn : Below w16.heap.size w16 (w16.alloc (.cells #[.slice none 0 0, .map none] 35)) := (Below.refl _ _).alloc (Nat.le_refl _) _
          have H17 := Lib.hid (H16.out.step hbn)
          have HR := Lib.hid (RtAt.new w16)
          clear hbn
          obtain ⟨⟨y0, y1, y2, y3, y4⟩, y5, y6, y7, y8, y9⟩ := tenc H16.out.hx
          go_wp2_with fail
          refine (CTH w16.heap.size _ HR.out (by omega) (by omega) (h1.below H17.out.hb) (h3.below H17.out.hb)).mono ?_
          rintro e w18 ⟨⟨Ag, cg, Bg, dg, rfl, ra, rb⟩, hb18⟩
          have H18 := Lib.hid (H17.out.step hb18)
          clear hb18 H17 H16 HR CTH
          clear y0 y1 y2 y3 y4 y5 y6 y7 y8 y9
          unfold stV stC
          go_upto_region 14 with fail
          have hbn : Below w18.heap.size w18 (w18.alloc (.cells (stC (pickY SB SY) (.slice Ag (pickL SB L).length cg) (.slice Bg (pickL SB S).length dg)) 25)) := (Below.refl _ _).alloc (Nat.le_refl _) _
          have R15 := Lib.hid (RC.new (Y := pickY SB SY) (cs := cg) (ct := dg) ra rb)
          have H19 := Lib.hid (H18.out.step hbn)
          clear hbn ra rb H18
          unfold stC at R15 H19
          generalize w18.alloc _ = W19 at H19 R15 ⊢
          generalize w18.heap.size = P15 at *
          obtain ⟨LB, hLB⟩ : ∃ b : Bool, b = true ↔ LP := ⟨@decide LP (Classical.propDecidable _), by simp⟩
          have HLL := Lib.hid hLB
          clear hLB
          go_cut [17] from 85 to 104 (fun v wx => v = .bool LB ∧ Hid (Below W19.heap.size W19 wx))
          case first =>
            clear CSX CLV HNO HYES R15
            obtain ⟨⟨y0, y1, y2, y3, y4⟩, y5, y6, y7, y8, y9⟩ := tenc H19.out.hx
            go_wp2_with fail
            refine (CSH _ (by omega) (by omega)).mono ?_
            rintro e w20 ⟨rfl, hb20⟩
            have HX20 := Lib.hid (hkeep hb20 H19.out.hx)
            have HB20 := Lib.hid hb20
            clear hb20 H19 CSH
            clear y0 y1 y2 y3 y4 y5 y6 y7 y8 y9
            obtain ⟨⟨y0, y1, y2, y3, y4⟩, y5, y6, y7, y8, y9⟩ := tenc HX20.out
            cases FX with
            | false =>
              have hLB : LB = true := HLL.out.2 (HLB.out.2 (.inl rfl))
              subst hLB
              clear HLB HLL
              go_wp2_with fail
              go_meet
              exact ⟨by first | rfl | simp [*], HB20⟩
            | true =>
              by_cases e1 : xf = xt
              · by_cases k3 : xk = 3
                · have hLB : LB = true := HLL.out.2 (HLB.out.2 (.inr ⟨.inl k3, e1⟩))
                  subst hLB k3 e1
                  clear HLB HLL
                  go_wp2_with fail
                  go_meet
                  exact ⟨by first | rfl | simp [*], HB20⟩
                · by_cases k4 : xk = 4
                  · have hLB : LB = true := HLL.out.2 (HLB.out.2 (.inr ⟨.inr k4, e1⟩))
                    subst hLB k4 e1
                    clear HLB HLL
                    go_wp2_with fail
                    go_meet
                    exact ⟨by first | rfl | simp [*], HB20⟩
                  · have hLB : LB = false := by
                      cases hz : LB
                      · rfl
                      · rcases HLB.out.1 (HLL.out.1 hz) with h | ⟨h, _⟩
                        · cases h
                        · omega
                    subst hLB e1
                    clear HLB HLL
                    go_wp2_with fail
                    go_meet
                    exact ⟨by first | rfl | simp [*], HB20⟩
              · have hLB : LB = false := by
                  cases hz : LB
                  · rfl
                  · rcases HLB.out.1 (HLL.out.1 hz) with h | ⟨_, h⟩
                    · cases h
                    · exact absurd h e1
                subst hLB
                clear HLB HLL
                by_cases k3 : xk = 3
                · subst k3
                  go_wp2_with fail
                  go_meet
                  exact ⟨by first | rfl | simp [*], HB20⟩
                · by_cases k4 : xk = 4
                  · subst k4
                    go_wp2_with fail
                    go_meet
                    exact ⟨by first | rfl | simp [*], HB20⟩
                  · go_wp2_with fail
                    go_meet
                    exact ⟨by first | rfl | simp [*], HB20⟩
          case rest =>
          obtain ⟨rfl, hbw⟩ := hcut
          have H21 := Lib.hid (H19.out.step hbw.out)
          have R15b := Lib.hid (R15.out.step hbw.out)
          clear hbw H19 R15 CSH
          cases LB with
          | true =>
            have hSB : SB = false := HNO.out (HLL.out.1 rfl)
            subst hSB
            clear HNO HYES HLL HLB R15b CSX
            go_wp2_with fail
            refine (CLV _).mono ?_
            rintro e wl ⟨rfl, hbl⟩
            have HBL := H21.out.hb.trans (hbl.mono H21.out.hb.size)
            go_wp2
            go_ret
            exact ⟨rfl, HBL⟩
          | false =>
            obtain ⟨hSB, hSY⟩ := HYES.out (fun h => by have := HLL.out.2 h; cases this)
            subst hSB hSY
            have R15c : Hid (RC P15 ⟨xk, xf, xt, xg, xh, xi, xm, xv⟩ Ag Bg cg dg L S wc) := R15b
            clear HNO HYES HLL HLB R15b
            have g2 : (pickL true L).length = L.length := rfl
            have g3 : (pickL true S).length = S.length := rfl
            have g1 : pickY true (⟨xk, xf, xt, xg, xh, xi, xm, xv⟩ : Sp) = ⟨xk, xf, xt, xg, xh, xi, xm, xv⟩ := rfl
            try rw [g2]
            try rw [g3]
            try rw [g1]
            clear g1 g2 g3
            obtain ⟨⟨y0, y1, y2, y3, y4⟩, y5, y6, y7, y8, y9⟩ := tenc H21.out.hx
            obtain ⟨⟨o0, o1, o2, o3, o4⟩, o5, o6, o7, o8, o9⟩ := tenc R15c.out.h
            go_wp2_with fail
            refine (CSX Ag Bg cg dg _ (by omega) (by omega) (by omega) (by omega) (hL ▸ R15c.out.l) (h1.below H21.out.hb) (hS ▸ R15c.out.s) (h3.below H21.out.hb)).mono ?_
            rintro e w22 ⟨rfl, hb22⟩
            have H22 := Lib.hid (H21.out.step hb22)
            clear hb22 H21 R15c CSX
            clear y0 y1 y2 y3 y4 y5 y6 y7 y8 y9
            clear o0 o1 o2 o3 o4 o5 o6 o7 o8 o9
            go_wp2_with fail
            refine (CLV _).mono ?_
            rintro e wl ⟨rfl, hbl⟩
            have HBL := H22.out.hb.trans (hbl.mono H22.out.hb.size)
            go_wp2
            go_ret
            exact ⟨rfl, HBL⟩
/-- the door: as the row hands the arguments over -/
theorem over_door (x : Sp) (L : List Tk.Tk) (S : List Mk) (A B : Option Addr) (n m c d : Nat) (y : Sp) (K' : List Tk.Tk) (T' : List Mk) (A' B' : Option Addr) (n' m' c' d' : Nat) (D : Option Addr) (k cd : Nat) (l : List Rg) (w : World)
    (h1 : TRow w A n L) (h3 : MkRow w B m S) (h2 : TRow w A' n' K') (h4 : MkRow w B' m' T') (h5 : RRow w D k l) (_ : k ≤ maxLen) :
    Calls Try.prog 4 #[stV x (.slice A n c) (.slice B m d), stV y (.slice A' n' c') (.slice B' m' d'), .slice D k cd] w fun e w' => e = .returned (.bool true) ∧ Below w.heap.size w w' :=
  over_walk x y L K' S T' l A A' B B' D n n' m m' k c c' d d' cd w h1 h2 h3 h4 h5
end Go.Proofs.Ytmhngehpddfccaa.St
