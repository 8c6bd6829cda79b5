/- Steps: gap, keeps. -/
import Derived.Test.YtmhngehpddfccaaStL
import Derived.Test.YtmhngehpddfccaaStK
import Derived.BigQuiet
import Derived.LoopTactic
namespace Go.Proofs.Ytmhngehpddfccaa.St
open Go.RowKit Mem Sm Tk Rt
set_option linter.unusedVariables false
set_option linter.unusedSimpArgs false
set_option maxRecDepth 100000 in
set_option maxHeartbeats 4000000 in
theorem gap_any {pv : Value} {R : World → Prop} {T : Int → Int → Option Rt.St} (HT : Tells pv R T) (x : Sp) (A B : Option Addr) (n m c d : Nat) (to_ : Int) (w : World) (hR : R w) :
    Calls Try.prog 53 #[wayV pv, stV x (.slice A n c) (.slice B m d), .int .i64 to_] w fun e w' => e = .returned (.tuple #[.int .i64 (endP (T x.gf (-1))).pos, .int .i64 (endP (T x.gt 1)).pos, .bool (((T x.gf (-1)).isSome && (T x.gt 1).isSome) && decide ((endP (T x.gt 1)).pos ≤ to_))]) ∧ Below w.heap.size w w' := by
  have hstep := HT.step
  have CB := fun W => both_any HT x.gf (-1) x.gt 1 W
  obtain ⟨P, hP⟩ : ∃ P, P = endP (T x.gf (-1)) := ⟨_, rfl⟩
  obtain ⟨Q, hQ⟩ : ∃ P, P = endP (T x.gt 1) := ⟨_, rfl⟩
  obtain ⟨F, hF⟩ : ∃ P, P = ((T x.gf (-1)).isSome && (T x.gt 1).isSome) := ⟨_, rfl⟩
  simp only [← hP, ← hQ, ← hF] at CB ⊢
  clear hP hQ hF HT
  obtain ⟨p0, p1, p2, p3, p4⟩ := P
  obtain ⟨q0, q1, q2, q3, q4⟩ := Q
  obtain ⟨xk, xf, xt, xg, xh, xi, xm, xv⟩ := x
  unfold plV at CB
  unfold stV stC
  simp only at CB ⊢
  have HB := Lib.hid ((Below.refl _ w).alloc (Nat.le_refl _) (.cells #[.int .i64 xk, .int .i64 xf, .int .i64 xt, .int .i64 xg, .int .i64 xh, .int .i64 xi, .int .i64 xm, .int .i64 xv, .slice A n c, .slice B m d] 25))
  obtain ⟨⟨y0, y1, y2, y3, y4⟩, y5, y6, y7, y8, y9⟩ := tenc (heap_alloc_new w (.cells #[.int .i64 xk, .int .i64 xf, .int .i64 xt, .int .i64 xg, .int .i64 xh, .int .i64 xi, .int .i64 xm, .int .i64 xv, .slice A n c, .slice B m d] 25))
  have CW := CB _ (hstep _ _ hR HB.out)
  clear CB hstep hR
  go_enter Try.func53, Try.ntmps53
  go_wp2_with fail
  refine CW.mono ?_
  rintro e w1 ⟨rfl, hb1⟩
  have HB1 := Lib.hid (HB.out.trans (hb1.mono HB.out.size))
  clear CW HB y0 y1 y2 y3 y4 y5 y6 y7 y8 y9 hb1
  go_upto_region 2 with fail
  have hb2 := (HB1.out.alloc HB1.out.size (plO ⟨p0, p1, p2, p3, p4⟩)).alloc (by have := HB1.out.size; simp; omega) (plO ⟨q0, q1, q2, q3, q4⟩)
  have hx : ((w1.alloc (plO ⟨p0, p1, p2, p3, p4⟩)).alloc (plO ⟨q0, q1, q2, q3, q4⟩)).heap[w1.heap.size]? = some (plO ⟨p0, p1, p2, p3, p4⟩) := by rw [Below.heap_alloc _ _ _ (by simp), heap_alloc_new]
  have hy := heap_alloc_new (w1.alloc (plO ⟨p0, p1, p2, p3, p4⟩)) (plO ⟨q0, q1, q2, q3, q4⟩)
  rw [show (w1.alloc (plO ⟨p0, p1, p2, p3, p4⟩)).heap.size = w1.heap.size + 1 by simp] at hy
  have HB2 := Lib.hid hb2
  have hx0 := (five hx).1
  have hy0 := (five hy).1
  clear hb2 hx hy HB1
  generalize (w1.alloc (plO ⟨p0, p1, p2, p3, p4⟩)).alloc (plO ⟨q0, q1, q2, q3, q4⟩) = W at HB2 hx0 hy0 ⊢
  cases F with
  | false =>
    go_quiet (fail)
    go_wp2
    go_ret3
    exact ⟨rfl, by first | exact HB2.out | exact below_drewN HB2.out _⟩
  | true =>
    go_quiet (fail)
    go_wp2
    go_ret3
    exact ⟨rfl, by first | exact HB2.out | exact below_drewN HB2.out _⟩
def KP (T : Int → Int → Option Rt.St) (x : Sp) (fr : Int) (i : Nat) : Prop := (T (x.from_ + i) 1).isSome = true ∧ (endP (T (x.from_ + i) 1)).gone = false ∧ (endP (T (x.from_ + i) 1)).pos = wrap64 (fr + i)
/-- the tokens stand one behind the other -/
noncomputable def keepsB (T : Int → Int → Option Rt.St) (x : Sp) (fr : Int) : Bool := @decide (∀ i : Nat, (i : Int) < x.to_ - x.from_ → KP T x fr i) (Classical.propDecidable _)
theorem keeps_yes {T : Int → Int → Option Rt.St} {x : Sp} {fr : Int} (h : ∀ i : Nat, (i : Int) < x.to_ - x.from_ → KP T x fr i) : keepsB T x fr = true := @decide_eq_true _ (Classical.propDecidable _) h
theorem keeps_no {T : Int → Int → Option Rt.St} {x : Sp} {fr : Int} {i : Nat} (hi : (i : Int) < x.to_ - x.from_) (h : ¬ KP T x fr i) : keepsB T x fr = false := @decide_eq_false _ (Classical.propDecidable _) (fun g => h (g i hi))
set_option maxRecDepth 100000 in
set_option maxHeartbeats 4000000 in
theorem keeps_any {pv : Value} {R : World → Prop} {T : Int → Int → Option Rt.St} (HT : Tells pv R T) (x : Sp) (A B : Option Addr) (n m c d : Nat) (fr : Int) (w : World) (hR : R w) (hf : 0 ≤ x.from_ ∧ x.from_ ≤ x.to_ ∧ x.to_ ≤ 1073741824) :
    Calls Try.prog 54 #[wayV pv, stV x (.slice A n c) (.slice B m d), .int .i64 fr] w fun e w' => e = .returned (.bool (keepsB T x fr)) ∧ Below w.heap.size w w' := by
  have hstep := HT.step
  have CB := fun W (i : Nat) => HT.call W (x.from_ + i) 1
  have HKY : Hid ((∀ i : Nat, (i : Int) < x.to_ - x.from_ → KP T x fr i) → keepsB T x fr = true) := Lib.hid keeps_yes
  have HKN : Hid (∀ i : Nat, (i : Int) < x.to_ - x.from_ → ¬ KP T x fr i → keepsB T x fr = false) := Lib.hid (fun i => keeps_no)
  obtain ⟨F, hF⟩ : ∃ F, F = keepsB T x fr := ⟨_, rfl⟩
  rw [← hF] at HKY HKN ⊢
  clear HT hF
  have HKP : Hid (∀ i : Nat, KP T x fr i ↔ ((T (x.from_ + i) 1).isSome = true ∧ (endP (T (x.from_ + i) 1)).gone = false ∧ (endP (T (x.from_ + i) 1)).pos = wrap64 (fr + i))) := Lib.hid (fun i => Iff.rfl)
  obtain ⟨G, hG⟩ : ∃ G : Nat → Option Rt.St, ∀ i : Nat, T (x.from_ + i) 1 = G i := ⟨_, fun _ => rfl⟩
  obtain ⟨K, hK⟩ : ∃ K : Nat → Prop, ∀ i : Nat, KP T x fr i = K i := ⟨_, fun _ => rfl⟩
  simp only [hG, hK] at CB HKP HKY HKN
  clear hG hK
  obtain ⟨xk, xf, xt, xg, xh, xi, xm, xv⟩ := x
  unfold stV stC
  simp only at CB hf HKY HKN ⊢
  have hwl : wrap64 (xt - xf) = xt - xf := by unfold wrap64; omega
  have HB := Lib.hid ((Below.refl _ w).alloc (Nat.le_refl _) (.cells #[.int .i64 xk, .int .i64 xf, .int .i64 xt, .int .i64 xg, .int .i64 xh, .int .i64 xi, .int .i64 xm, .int .i64 xv, .slice A n c, .slice B m d] 25))
  have HX := Lib.hid (heap_alloc_new w (.cells #[.int .i64 xk, .int .i64 xf, .int .i64 xt, .int .i64 xg, .int .i64 xh, .int .i64 xi, .int .i64 xm, .int .i64 xv, .slice A n c, .slice B m d] 25))
  obtain ⟨⟨y0, y1, y2, y3, y4⟩, y5, y6, y7, y8, y9⟩ := tenc HX.out
  go_enter Try.func54, Try.ntmps54
  go_wp2_with fail
  clear y0 y1 y2 y3 y4 y5 y6 y7 y8 y9
  go_loopw [15] (fun iv wr => ∃ i : Nat, iv = .int .i64 i ∧ (i : Int) ≤ xt - xf ∧ Hid (∀ j : Nat, j < i → K j) ∧ Hid (Below w.heap.size w wr) ∧ Hid (wr.heap[w.heap.size]? = some (.cells #[.int .i64 xk, .int .i64 xf, .int .i64 xt, .int .i64 xg, .int .i64 xh, .int .i64 xi, .int .i64 xm, .int .i64 xv, .slice A n c, .slice B m d] 25))) (fun iv _ => (xt - xf).toNat - (intOf iv).toNat)
  case atStart => exact ⟨0, rfl, by omega, Lib.hid (fun j h => by omega), HB, HX⟩
  case round =>
    obtain ⟨i, rfl, hi, HK, HB1, HX1⟩ := hrel
    by_cases hlt : (i : Int) < xt - xf
    · have hwa : wrap64 (xf + i) = xf + i := by unfold wrap64; omega
      have hwi : wrap64 ((i : Int) + 1) = (i : Int) + 1 := by unfold wrap64; omega
      have CW := CB _ i (hstep _ _ hR HB1.out)
      obtain ⟨⟨y0, y1, y2, y3, y4⟩, y5, y6, y7, y8, y9⟩ := tenc HX1.out
      have hki := HKP.out i
      obtain ⟨P, hP⟩ : ∃ P, P = endP (G i) := ⟨_, rfl⟩
      obtain ⟨b, hbb⟩ : ∃ P, P = (G i).isSome := ⟨_, rfl⟩
      simp only [← hP, ← hbb] at CW hki
      clear hP hbb
      obtain ⟨p0, p1, p2, p3, p4⟩ := P
      have HKI := Lib.hid hki
      clear hki
      unfold plV at CW
      simp only at CW
      go_wp2_with fail
      refine CW.mono ?_
      rintro e w1 ⟨⟨ec, rfl, hec⟩, hb1⟩
      have HB2 := Lib.hid (HB1.out.trans (hb1.mono HB1.out.size))
      have HX2 := Lib.hid (hkeep hb1 HX1.out)
      have HEC := Lib.hid hec
      clear CW hb1 HB1 HX1 y0 y1 y2 y3 y4 y5 y6 y7 y8 y9 hec
      have hbn : Below w1.heap.size w1 (w1.alloc (plO ⟨p0, p1, p2, p3, p4⟩)) := (Below.refl _ _).alloc (Nat.le_refl _) _
      have HB3 := Lib.hid (HB2.out.trans (hbn.mono HB2.out.size))
      have HX3 := Lib.hid (hkeep hbn HX2.out)
      obtain ⟨z0, z1, z2, z3, z4⟩ := five (heap_alloc_new w1 (plO ⟨p0, p1, p2, p3, p4⟩))
      clear hbn HB2 HX2
      cases b with
      | false =>
        have hec : ¬ ec = 0 := fun h => by have := HEC.out.1 h; cases this
        have hF : F = false := HKN.out i hlt (fun h => by have := (HKI.out.1 h).1; cases this)
        subst hF
        clear HEC HKN HKY HKI HKP
        go_wp2
        go_ret
        exact ⟨rfl, HB3.out⟩
      | true =>
        have hec : ec = 0 := HEC.out.2 rfl
        subst hec
        clear HEC
        cases p1 with
        | true =>
          have hF : F = false := HKN.out i hlt (fun h => by have := (HKI.out.1 h).2.1; cases this)
          subst hF
          clear HKN HKY HKI HKP
          go_wp2
          go_ret
          exact ⟨rfl, HB3.out⟩
        | false =>
          by_cases hp : p0 = wrap64 (fr + i)
          · have hKi : K i := HKI.out.2 ⟨rfl, rfl, hp⟩
            have HK2 : Hid (∀ j : Nat, j < i + 1 → K j) := Lib.hid (fun j hj => by
              by_cases g : j = i
              · subst g; exact hKi
              · exact HK.out j (by omega))
            subst hp
            clear HKN HKY HKI HKP hKi HK
            go_wp2
            exact ⟨⟨i + 1, by rw [Int.natCast_add]; rfl, by omega, HK2, HB3, HX3⟩, by simp only [intOf]; omega⟩
          · have hF : F = false := HKN.out i hlt (fun h => hp (HKI.out.1 h).2.2)
            subst hF
            clear HKN HKY HKI HKP
            go_wp2
            go_ret
            exact ⟨rfl, HB3.out⟩
    · have hF : F = true := HKY.out (fun j hj => HK.out j (by omega))
      subst hF
      clear HKN HKY HKP CB
      go_wp2
      go_ret
      exact ⟨rfl, HB1.out⟩
end Go.Proofs.Ytmhngehpddfccaa.St
