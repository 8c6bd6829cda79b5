/- Steps: the way, both. -/
import Derived.Test.YtmhngehpddfccaaStR
import Derived.Test.YtmhngehpddfccaaRtK
import Derived.Test.YtmhngehpddfccaaSmH
namespace Go.Proofs.Ytmhngehpddfccaa.St
open Go.RowKit Mem Sm Tk Rt
set_option linter.unusedVariables false
set_option linter.unusedSimpArgs false
/-- the method value -/
abbrev wayV (pv : Value) : Value := .func (.func 16) #[pv] #[]
structure Tells (pv : Value) (R : World → Prop) (T : Int → Int → Option Rt.St) : Prop where
  step : ∀ W W', R W → Below W.heap.size W W' → R W'
  call : ∀ W a s, R W → Calls Try.prog 16 #[pv, .int .i64 a, .int .i64 s] W fun e W' => (∃ ec, e = .returned (.tuple #[plV (endP (T a s)), .int .i64 ec]) ∧ (ec = 0 ↔ (T a s).isSome = true)) ∧ Below W.heap.size W W'
abbrev pl5 (x : Pl) : Array Value := #[.int .i64 x.pos, .bool x.gone, .bool x.inside, .int .i64 x.rng, .int .i64 x.off]
abbrev plO (x : Pl) : Obj := .cells (pl5 x) 76 (0, 0)
theorem put5_heap {W : World} {B k : Nat} {o : Obj} {y0 y1 y2 y3 y4 : Value} (h : W.heap[k]? = some o) (hk : k ≠ B) : (put5 W B y0 y1 y2 y3 y4).heap[k]? = some o := by rw [put5_other _ _ _ _ _ _ _ _ hk]; exact h
set_option maxRecDepth 100000 in
set_option maxHeartbeats 3000000 in
theorem both_any {pv : Value} {R : World → Prop} {T : Int → Int → Option Rt.St} (HT : Tells pv R T) (a sa b sb : Int) (w : World) (hR : R w) :
    Calls Try.prog 52 #[wayV pv, .int .i64 a, .int .i64 sa, .int .i64 b, .int .i64 sb] w fun e w' => e = .returned (.tuple #[plV (endP (T a sa)), plV (endP (T b sb)), .bool ((T a sa).isSome && (T b sb).isSome)]) ∧ Below w.heap.size w w' := by
  have CA := fun W => HT.call W a sa
  have CB := fun W => HT.call W b sb
  obtain ⟨P, hP⟩ : ∃ P, P = endP (T a sa) := ⟨_, rfl⟩
  obtain ⟨Q, hQ⟩ : ∃ P, P = endP (T b sb) := ⟨_, rfl⟩
  obtain ⟨F, hF⟩ : ∃ P, P = (T a sa).isSome := ⟨_, rfl⟩
  obtain ⟨G, hG⟩ : ∃ P, P = (T b sb).isSome := ⟨_, rfl⟩
  simp only [← hP, ← hQ, ← hF, ← hG] at CA CB ⊢
  clear hP hQ hF hG
  have hstep := HT.step
  clear HT
  obtain ⟨p0, p1, p2, p3, p4⟩ := P
  obtain ⟨q0, q1, q2, q3, q4⟩ := Q
  unfold plV at CA CB ⊢
  simp only at CA CB ⊢
  have s1 : ∀ (W : World) (o : Obj), (W.alloc o).heap.size = W.heap.size + 1 := fun W o => by simp
  have hb0 := ((Below.refl _ w).alloc (Nat.le_refl _) (plO ⟨0, false, false, 0, 0⟩)).alloc (by simp) (plO ⟨0, false, false, 0, 0⟩)
  have hx : ((w.alloc (plO ⟨0, false, false, 0, 0⟩)).alloc (plO ⟨0, false, false, 0, 0⟩)).heap[w.heap.size]? = some (plO ⟨0, false, false, 0, 0⟩) := by rw [Below.heap_alloc _ _ _ (by simp), heap_alloc_new]
  have hy := heap_alloc_new (w.alloc (plO ⟨0, false, false, 0, 0⟩)) (plO ⟨0, false, false, 0, 0⟩)
  rw [s1] at hy
  have CAW := CA _ (hstep _ _ hR hb0)
  have HB0 := Lib.hid hb0
  have HX := Lib.hid hx
  have HY := Lib.hid hy
  clear hb0 hx hy CA s1
  go_enter Try.func52, Try.ntmps52
  go_wp2_with fail
  refine CAW.mono ?_
  rintro e w1 ⟨⟨ec, rfl, hec⟩, hb1⟩
  have HB1 := Lib.hid (HB0.out.trans (hb1.mono HB0.out.size))
  have HX1 := Lib.hid (hkeep hb1 HX.out)
  have HY1 := Lib.hid (hkeep hb1 HY.out)
  have hl1 := lt_some HY1.out
  have HEC := Lib.hid hec
  clear hb1 HB0 HX HY CAW hec
  go_wp2_with fail
  have hbn : Below w1.heap.size w1 (w1.alloc (plO ⟨p0, p1, p2, p3, p4⟩)) := (Below.refl _ _).alloc (Nat.le_refl _) _
  have HB2 := Lib.hid (HB1.out.trans (hbn.mono HB1.out.size))
  have HX2 := Lib.hid (hkeep hbn HX1.out)
  have HY2 := Lib.hid (hkeep hbn HY1.out)
  have HP2 := Lib.hid (heap_alloc_new w1 (plO ⟨p0, p1, p2, p3, p4⟩))
  have CBW := CB _ (hstep _ _ hR HB2.out)
  refine CBW.mono ?_
  rintro e w2 ⟨⟨ed, rfl, hed⟩, hb2⟩
  have HB3 := Lib.hid (HB2.out.trans (hb2.mono HB2.out.size))
  have HX3 := Lib.hid (hkeep hb2 HX2.out)
  have HY3 := Lib.hid (hkeep hb2 HY2.out)
  have HP3 := Lib.hid (hkeep hb2 HP2.out)
  have HED := Lib.hid hed
  have hs2 := hb2.size
  rw [show (w1.alloc (Obj.cells #[.int .i64 p0, .bool p1, .bool p2, .int .i64 p3, .int .i64 p4] 76)).heap.size = w1.heap.size + 1 by simp] at hs2
  clear hb2 hbn HB1 HB2 HX1 HY1 HX2 HY2 HP2 CBW CB hed hstep hR
  generalize hB1 : w1.heap.size = B1 at *
  go_upto_region 3 with fail
  have hbn : Below w2.heap.size w2 (w2.alloc (plO ⟨q0, q1, q2, q3, q4⟩)) := (Below.refl _ _).alloc (Nat.le_refl _) _
  have HB4 := Lib.hid (HB3.out.trans (hbn.mono HB3.out.size))
  have HX4 := Lib.hid (hkeep hbn HX3.out)
  have HY4 := Lib.hid (hkeep hbn HY3.out)
  have HP4 := Lib.hid (hkeep hbn HP3.out)
  have HQ4 := Lib.hid (heap_alloc_new w2 (plO ⟨q0, q1, q2, q3, q4⟩))
  clear hbn HB3 HX3 HY3 HP3
  generalize hB2 : w2.heap.size = B2 at *
  generalize w2.alloc (Obj.cells #[.int .i64 q0, .bool q1, .bool q2, .int .i64 q3, .int .i64 q4] 76) = W4 at HB4 HX4 HY4 HP4 HQ4 ⊢
  have hne1 : B1 ≠ w.heap.size := by omega
  have hne2 : B2 ≠ w.heap.size := by omega
  have hne3 : B1 ≠ w.heap.size + 1 := by omega
  have hne4 : B2 ≠ w.heap.size + 1 := by omega
  refine wp_region_held_drew (S := fun W => W.heap[B1]? = some (plO ⟨p0, p1, p2, p3, p4⟩) ∧ W.heap[B2]? = some (plO ⟨q0, q1, q2, q3, q4⟩)) (by kernel_rfl) ⟨HP4.out, HQ4.out⟩ (fun hHeld => ?_)
  have HB4 : Hid (Below w.heap.size w W4.drew) := Lib.hid (HB4.out.trans (below_drewN (Below.refl _ _) 1))
  have HX4 : Hid (W4.drew.heap[w.heap.size]? = some (plO ⟨0, false, false, 0, 0⟩)) := HX4
  have HY4 : Hid (W4.drew.heap[w.heap.size + 1]? = some (plO ⟨0, false, false, 0, 0⟩)) := HY4
  clear HP4 HQ4
  generalize W4.drew = W4 at HB4 HX4 HY4 hHeld ⊢
  cases F with
  | true =>
    have e0 : ec = 0 := HEC.out.2 rfl
    subst e0
    clear HEC
    cases G with
    | true =>
      have e0 : ed = 0 := HED.out.2 rfl
      subst e0
      clear HED
      refine tk 0 (v := ?_) rfl (by kernel_rfl) (fun _ _ _ h => h) ?_ hHeld ?_
      rotate_left
      · (intro W hSw; (try dsimp only at hSw); obtain ⟨hs1, hs2⟩ := hSw; obtain ⟨y0, y1, y2, y3, y4⟩ := five hs1; obtain ⟨z0, z1, z2, z3, z4⟩ := five hs2; go_simp; try with_reducible rfl)
      refine tk 1 (v := ?_) rfl (by kernel_rfl) (fun _ _ _ h => h) ?_ hHeld ?_
      rotate_left
      · (intro W hSw; (try dsimp only at hSw); obtain ⟨hs1, hs2⟩ := hSw; obtain ⟨y0, y1, y2, y3, y4⟩ := five hs1; obtain ⟨z0, z1, z2, z3, z4⟩ := five hs2; go_simp; try with_reducible rfl)
      refine tk 2 (v := ?_) rfl (by kernel_rfl) (fun _ _ _ h => h) ?_ hHeld ?_
      rotate_left
      · (intro W hSw; (try dsimp only at hSw); obtain ⟨hs1, hs2⟩ := hSw; obtain ⟨y0, y1, y2, y3, y4⟩ := five hs1; obtain ⟨z0, z1, z2, z3, z4⟩ := five hs2; go_simp; try with_reducible rfl)
      refine tk 3 (v := ?_) rfl (by kernel_rfl) (fun _ _ _ h => h) ?_ hHeld ?_
      rotate_left
      · (intro W hSw; (try dsimp only at hSw); obtain ⟨hs1, hs2⟩ := hSw; obtain ⟨y0, y1, y2, y3, y4⟩ := five hs1; obtain ⟨z0, z1, z2, z3, z4⟩ := five hs2; go_simp; try with_reducible rfl)
      refine tk 4 (v := ?_) rfl (by kernel_rfl) (fun _ _ _ h => h) ?_ hHeld ?_
      rotate_left
      · (intro W hSw; (try dsimp only at hSw); obtain ⟨hs1, hs2⟩ := hSw; obtain ⟨y0, y1, y2, y3, y4⟩ := five hs1; obtain ⟨z0, z1, z2, z3, z4⟩ := five hs2; go_simp; try with_reducible rfl)
      refine tk 5 (v := ?_) rfl (by kernel_rfl) (fun _ _ _ h => h) ?_ hHeld ?_
      rotate_left
      · (intro W hSw; (try dsimp only at hSw); obtain ⟨hs1, hs2⟩ := hSw; obtain ⟨y0, y1, y2, y3, y4⟩ := five hs1; obtain ⟨z0, z1, z2, z3, z4⟩ := five hs2; go_simp; try with_reducible rfl)
      refine tk 6 (v := ?_) rfl (by kernel_rfl) (fun _ _ _ h => h) ?_ hHeld ?_
      rotate_left
      · (intro W hSw; (try dsimp only at hSw); obtain ⟨hs1, hs2⟩ := hSw; obtain ⟨y0, y1, y2, y3, y4⟩ := five hs1; obtain ⟨z0, z1, z2, z3, z4⟩ := five hs2; go_simp; try with_reducible rfl)
      refine tk 7 (v := ?_) rfl (by kernel_rfl) (fun _ _ _ h => h) ?_ hHeld ?_
      rotate_left
      · (intro W hSw; (try dsimp only at hSw); obtain ⟨hs1, hs2⟩ := hSw; obtain ⟨y0, y1, y2, y3, y4⟩ := five hs1; obtain ⟨z0, z1, z2, z3, z4⟩ := five hs2; go_simp; try with_reducible rfl)
      refine wpAnyH_ready (rs := [8]) (by kernel_rfl) (by simp) ?_
      refine AllReadyH.cons rfl (fun K hK => ?_) AllReadyH.nil
      have hc := ten2 HX4.out
      have y0 := hc.1
      have y1 := hc.2.1
      have y2 := hc.2.2.1
      have y3 := hc.2.2.2.1
      have y4 := hc.2.2.2.2.1
      have g0 := hc.2.2.2.2.2.1
      have g1 := hc.2.2.2.2.2.2.1
      have g2 := hc.2.2.2.2.2.2.2.1
      have g3 := hc.2.2.2.2.2.2.2.2.1
      have g4 := hc.2.2.2.2.2.2.2.2.2
      clear hc
      go_simp
      have hb5 := put5_below HB4.out (B := w.heap.size) (by omega) (.int .i64 p0) (.bool p1) (.bool p2) (.int .i64 p3) (.int .i64 p4)
      have h5a := put5_same HX4.out (.int .i64 p0) (.bool p1) (.bool p2) (.int .i64 p3) (.int .i64 p4)
      have h5b := put5_heap HY4.out (B := w.heap.size) (by omega) (y0 := .int .i64 p0) (y1 := .bool p1) (y2 := .bool p2) (y3 := .int .i64 p3) (y4 := .int .i64 p4)
      have hS5 := And.intro (put5_heap hHeld.1 (B := w.heap.size) (by omega) (y0 := .int .i64 p0) (y1 := .bool p1) (y2 := .bool p2) (y3 := .int .i64 p3) (y4 := .int .i64 p4)) (put5_heap hHeld.2 (B := w.heap.size) (by omega) (y0 := .int .i64 p0) (y1 := .bool p1) (y2 := .bool p2) (y3 := .int .i64 p3) (y4 := .int .i64 p4))
      have HB5 := Lib.hid hb5
      have H5A := Lib.hid h5a
      have H5B := Lib.hid h5b
      have HS5 := Lib.hid hS5
      clear hb5 h5a h5b hS5 y0 y1 y2 y3 y4 g0 g1 g2 g3 g4
      unfold put5 at HB5 H5A H5B HS5
      refine hK.out _ _ HS5.out (fun hHeld => ?_)
      clear hK K HS5 HX4 HY4 HB4
      generalize World.setCell _ _ _ = W5 at HB5 H5A H5B hHeld ⊢
      refine wpAnyH_ready (rs := [9]) (by kernel_rfl) (by simp) ?_
      refine AllReadyH.cons rfl (fun K hK => ?_) AllReadyH.nil
      have hc := ten2 H5B.out
      have y0 := hc.1
      have y1 := hc.2.1
      have y2 := hc.2.2.1
      have y3 := hc.2.2.2.1
      have y4 := hc.2.2.2.2.1
      have g0 := hc.2.2.2.2.2.1
      have g1 := hc.2.2.2.2.2.2.1
      have g2 := hc.2.2.2.2.2.2.2.1
      have g3 := hc.2.2.2.2.2.2.2.2.1
      have g4 := hc.2.2.2.2.2.2.2.2.2
      clear hc
      go_simp
      have hb6 := put5_below HB5.out (B := w.heap.size + 1) (by omega) (.int .i64 q0) (.bool q1) (.bool q2) (.int .i64 q3) (.int .i64 q4)
      have h6a := put5_heap H5A.out (B := w.heap.size + 1) (by omega) (y0 := .int .i64 q0) (y1 := .bool q1) (y2 := .bool q2) (y3 := .int .i64 q3) (y4 := .int .i64 q4)
      have h6b := put5_same H5B.out (.int .i64 q0) (.bool q1) (.bool q2) (.int .i64 q3) (.int .i64 q4)
      have hS6 := And.intro (put5_heap hHeld.1 (B := w.heap.size + 1) (by omega) (y0 := .int .i64 q0) (y1 := .bool q1) (y2 := .bool q2) (y3 := .int .i64 q3) (y4 := .int .i64 q4)) (put5_heap hHeld.2 (B := w.heap.size + 1) (by omega) (y0 := .int .i64 q0) (y1 := .bool q1) (y2 := .bool q2) (y3 := .int .i64 q3) (y4 := .int .i64 q4))
      have HB6 := Lib.hid hb6
      have H6A := Lib.hid h6a
      have H6B := Lib.hid h6b
      have HS6 := Lib.hid hS6
      clear hb6 h6a h6b hS6 y0 y1 y2 y3 y4 g0 g1 g2 g3 g4
      unfold put5 at HB6 H6A H6B HS6
      refine hK.out _ _ HS6.out (fun hHeld => ?_)
      clear hK K HS6 H5A H5B HB5
      generalize World.setCell _ _ _ = W6 at HB6 H6A H6B hHeld ⊢
      refine wpAnyH_ready (rs := [10]) (by kernel_rfl) (by simp) ?_
      refine AllReadyH.cons rfl (fun K hK => ?_) AllReadyH.nil
      go_simp
      refine hK.out _ _ hHeld (fun hHeld => ?_)
      clear hK K
      refine wpAnyH_done (by kernel_rfl) ?_ _
      have hc := five H6A.out
      obtain ⟨y0, y1, y2, y3, y4⟩ := hc
      have hd := five H6B.out
      obtain ⟨z0, z1, z2, z3, z4⟩ := hd
      go_wp2
      refine bodyPost_ret (v := .tuple #[.agg #[.int .i64 p0, .bool p1, .bool p2, .int .i64 p3, .int .i64 p4], .agg #[.int .i64 q0, .bool q1, .bool q2, .int .i64 q3, .int .i64 q4], .bool true]) ?_ rfl ⟨rfl, HB6.out⟩
      simp [results, Try.results52, go_sem, y0, y1, y2, y3, y4, z0, z1, z2, z3, z4]
    | false =>
      have e0 : ¬ ed = 0 := fun h => by have := HED.out.1 h; cases this
      clear HED
      refine tk 0 (v := ?_) rfl (by kernel_rfl) (fun _ _ _ h => h) ?_ hHeld ?_
      rotate_left
      · (intro W hSw; (try dsimp only at hSw); obtain ⟨hs1, hs2⟩ := hSw; obtain ⟨y0, y1, y2, y3, y4⟩ := five hs1; obtain ⟨z0, z1, z2, z3, z4⟩ := five hs2; go_simp; try with_reducible rfl)
      refine tk 1 (v := ?_) rfl (by kernel_rfl) (fun _ _ _ h => h) ?_ hHeld ?_
      rotate_left
      · (intro W hSw; (try dsimp only at hSw); obtain ⟨hs1, hs2⟩ := hSw; obtain ⟨y0, y1, y2, y3, y4⟩ := five hs1; obtain ⟨z0, z1, z2, z3, z4⟩ := five hs2; go_simp; try with_reducible rfl)
      refine tk 2 (v := ?_) rfl (by kernel_rfl) (fun _ _ _ h => h) ?_ hHeld ?_
      rotate_left
      · (intro W hSw; (try dsimp only at hSw); obtain ⟨hs1, hs2⟩ := hSw; obtain ⟨y0, y1, y2, y3, y4⟩ := five hs1; obtain ⟨z0, z1, z2, z3, z4⟩ := five hs2; go_simp; try with_reducible rfl)
      refine tk 3 (v := ?_) rfl (by kernel_rfl) (fun _ _ _ h => h) ?_ hHeld ?_
      rotate_left
      · (intro W hSw; (try dsimp only at hSw); obtain ⟨hs1, hs2⟩ := hSw; obtain ⟨y0, y1, y2, y3, y4⟩ := five hs1; obtain ⟨z0, z1, z2, z3, z4⟩ := five hs2; go_simp; try with_reducible rfl)
      refine tk 4 (v := ?_) rfl (by kernel_rfl) (fun _ _ _ h => h) ?_ hHeld ?_
      rotate_left
      · (intro W hSw; (try dsimp only at hSw); obtain ⟨hs1, hs2⟩ := hSw; obtain ⟨y0, y1, y2, y3, y4⟩ := five hs1; obtain ⟨z0, z1, z2, z3, z4⟩ := five hs2; go_simp; try with_reducible rfl)
      refine tk 5 (v := ?_) rfl (by kernel_rfl) (fun _ _ _ h => h) ?_ hHeld ?_
      rotate_left
      · (intro W hSw; (try dsimp only at hSw); obtain ⟨hs1, hs2⟩ := hSw; obtain ⟨y0, y1, y2, y3, y4⟩ := five hs1; obtain ⟨z0, z1, z2, z3, z4⟩ := five hs2; go_simp; try with_reducible rfl)
      refine tk 6 (v := ?_) rfl (by kernel_rfl) (fun _ _ _ h => h) ?_ hHeld ?_
      rotate_left
      · (intro W hSw; (try dsimp only at hSw); obtain ⟨hs1, hs2⟩ := hSw; obtain ⟨y0, y1, y2, y3, y4⟩ := five hs1; obtain ⟨z0, z1, z2, z3, z4⟩ := five hs2; go_simp; try with_reducible rfl)
      refine tk 7 (v := ?_) rfl (by kernel_rfl) (fun _ _ _ h => h) ?_ hHeld ?_
      rotate_left
      · (intro W hSw; (try dsimp only at hSw); obtain ⟨hs1, hs2⟩ := hSw; obtain ⟨y0, y1, y2, y3, y4⟩ := five hs1; obtain ⟨z0, z1, z2, z3, z4⟩ := five hs2; go_simp; try with_reducible rfl)
      refine wpAnyH_ready (rs := [8]) (by kernel_rfl) (by simp) ?_
      refine AllReadyH.cons rfl (fun K hK => ?_) AllReadyH.nil
      have hc := ten2 HX4.out
      have y0 := hc.1
      have y1 := hc.2.1
      have y2 := hc.2.2.1
      have y3 := hc.2.2.2.1
      have y4 := hc.2.2.2.2.1
      have g0 := hc.2.2.2.2.2.1
      have g1 := hc.2.2.2.2.2.2.1
      have g2 := hc.2.2.2.2.2.2.2.1
      have g3 := hc.2.2.2.2.2.2.2.2.1
      have g4 := hc.2.2.2.2.2.2.2.2.2
      clear hc
      go_simp
      have hb5 := put5_below HB4.out (B := w.heap.size) (by omega) (.int .i64 p0) (.bool p1) (.bool p2) (.int .i64 p3) (.int .i64 p4)
      have h5a := put5_same HX4.out (.int .i64 p0) (.bool p1) (.bool p2) (.int .i64 p3) (.int .i64 p4)
      have h5b := put5_heap HY4.out (B := w.heap.size) (by omega) (y0 := .int .i64 p0) (y1 := .bool p1) (y2 := .bool p2) (y3 := .int .i64 p3) (y4 := .int .i64 p4)
      have hS5 := And.intro (put5_heap hHeld.1 (B := w.heap.size) (by omega) (y0 := .int .i64 p0) (y1 := .bool p1) (y2 := .bool p2) (y3 := .int .i64 p3) (y4 := .int .i64 p4)) (put5_heap hHeld.2 (B := w.heap.size) (by omega) (y0 := .int .i64 p0) (y1 := .bool p1) (y2 := .bool p2) (y3 := .int .i64 p3) (y4 := .int .i64 p4))
      have HB5 := Lib.hid hb5
      have H5A := Lib.hid h5a
      have H5B := Lib.hid h5b
      have HS5 := Lib.hid hS5
      clear hb5 h5a h5b hS5 y0 y1 y2 y3 y4 g0 g1 g2 g3 g4
      unfold put5 at HB5 H5A H5B HS5
      refine hK.out _ _ HS5.out (fun hHeld => ?_)
      clear hK K HS5 HX4 HY4 HB4
      generalize World.setCell _ _ _ = W5 at HB5 H5A H5B hHeld ⊢
      refine wpAnyH_ready (rs := [9]) (by kernel_rfl) (by simp) ?_
      refine AllReadyH.cons rfl (fun K hK => ?_) AllReadyH.nil
      have hc := ten2 H5B.out
      have y0 := hc.1
      have y1 := hc.2.1
      have y2 := hc.2.2.1
      have y3 := hc.2.2.2.1
      have y4 := hc.2.2.2.2.1
      have g0 := hc.2.2.2.2.2.1
      have g1 := hc.2.2.2.2.2.2.1
      have g2 := hc.2.2.2.2.2.2.2.1
      have g3 := hc.2.2.2.2.2.2.2.2.1
      have g4 := hc.2.2.2.2.2.2.2.2.2
      clear hc
      go_simp
      have hb6 := put5_below HB5.out (B := w.heap.size + 1) (by omega) (.int .i64 q0) (.bool q1) (.bool q2) (.int .i64 q3) (.int .i64 q4)
      have h6a := put5_heap H5A.out (B := w.heap.size + 1) (by omega) (y0 := .int .i64 q0) (y1 := .bool q1) (y2 := .bool q2) (y3 := .int .i64 q3) (y4 := .int .i64 q4)
      have h6b := put5_same H5B.out (.int .i64 q0) (.bool q1) (.bool q2) (.int .i64 q3) (.int .i64 q4)
      have hS6 := And.intro (put5_heap hHeld.1 (B := w.heap.size + 1) (by omega) (y0 := .int .i64 q0) (y1 := .bool q1) (y2 := .bool q2) (y3 := .int .i64 q3) (y4 := .int .i64 q4)) (put5_heap hHeld.2 (B := w.heap.size + 1) (by omega) (y0 := .int .i64 q0) (y1 := .bool q1) (y2 := .bool q2) (y3 := .int .i64 q3) (y4 := .int .i64 q4))
      have HB6 := Lib.hid hb6
      have H6A := Lib.hid h6a
      have H6B := Lib.hid h6b
      have HS6 := Lib.hid hS6
      clear hb6 h6a h6b hS6 y0 y1 y2 y3 y4 g0 g1 g2 g3 g4
      unfold put5 at HB6 H6A H6B HS6
      refine hK.out _ _ HS6.out (fun hHeld => ?_)
      clear hK K HS6 H5A H5B HB5
      generalize World.setCell _ _ _ = W6 at HB6 H6A H6B hHeld ⊢
      refine wpAnyH_ready (rs := [10]) (by kernel_rfl) (by simp) ?_
      refine AllReadyH.cons rfl (fun K hK => ?_) AllReadyH.nil
      go_simp
      refine hK.out _ _ hHeld (fun hHeld => ?_)
      clear hK K
      refine wpAnyH_done (by kernel_rfl) ?_ _
      have hc := five H6A.out
      obtain ⟨y0, y1, y2, y3, y4⟩ := hc
      have hd := five H6B.out
      obtain ⟨z0, z1, z2, z3, z4⟩ := hd
      go_wp2
      refine bodyPost_ret (v := .tuple #[.agg #[.int .i64 p0, .bool p1, .bool p2, .int .i64 p3, .int .i64 p4], .agg #[.int .i64 q0, .bool q1, .bool q2, .int .i64 q3, .int .i64 q4], .bool false]) ?_ rfl ⟨rfl, HB6.out⟩
      simp [results, Try.results52, go_sem, y0, y1, y2, y3, y4, z0, z1, z2, z3, z4, e0]
  | false =>
    have e0 : ¬ ec = 0 := fun h => by have := HEC.out.1 h; cases this
    clear HEC
    refine tk 0 (v := ?_) rfl (by kernel_rfl) (fun _ _ _ h => h) ?_ hHeld ?_
    rotate_left
    · (intro W hSw; (try dsimp only at hSw); obtain ⟨hs1, hs2⟩ := hSw; obtain ⟨y0, y1, y2, y3, y4⟩ := five hs1; obtain ⟨z0, z1, z2, z3, z4⟩ := five hs2; go_simp; try with_reducible rfl)
    refine tk 1 (v := ?_) rfl (by kernel_rfl) (fun _ _ _ h => h) ?_ hHeld ?_
    rotate_left
    · (intro W hSw; (try dsimp only at hSw); obtain ⟨hs1, hs2⟩ := hSw; obtain ⟨y0, y1, y2, y3, y4⟩ := five hs1; obtain ⟨z0, z1, z2, z3, z4⟩ := five hs2; go_simp; try with_reducible rfl)
    refine tk 2 (v := ?_) rfl (by kernel_rfl) (fun _ _ _ h => h) ?_ hHeld ?_
    rotate_left
    · (intro W hSw; (try dsimp only at hSw); obtain ⟨hs1, hs2⟩ := hSw; obtain ⟨y0, y1, y2, y3, y4⟩ := five hs1; obtain ⟨z0, z1, z2, z3, z4⟩ := five hs2; go_simp; try with_reducible rfl)
    refine tk 3 (v := .bool false) rfl (by kernel_rfl) (fun _ _ _ h => h) ?_ hHeld ?_
    · (intro W hSw; (try dsimp only at hSw); obtain ⟨hs1, hs2⟩ := hSw; go_simp; try simp [e0])
    refine tk 4 (v := ?_) rfl (by kernel_rfl) (fun _ _ _ h => h) ?_ hHeld ?_
    rotate_left
    · (intro W hSw; (try dsimp only at hSw); obtain ⟨hs1, hs2⟩ := hSw; obtain ⟨y0, y1, y2, y3, y4⟩ := five hs1; obtain ⟨z0, z1, z2, z3, z4⟩ := five hs2; go_simp; try with_reducible rfl)
    refine tkno 5 rfl (by kernel_rfl) (fun _ _ _ h => h) hHeld ?_
    refine tkno 6 rfl (by kernel_rfl) (fun _ _ _ h => h) hHeld ?_
    refine tk 7 (v := ?_) rfl (by kernel_rfl) (fun _ _ _ h => h) ?_ hHeld ?_
    rotate_left
    · (intro W hSw; (try dsimp only at hSw); obtain ⟨hs1, hs2⟩ := hSw; obtain ⟨y0, y1, y2, y3, y4⟩ := five hs1; obtain ⟨z0, z1, z2, z3, z4⟩ := five hs2; go_simp; try with_reducible rfl)
    refine wpAnyH_ready (rs := [8]) (by kernel_rfl) (by simp) ?_
    refine AllReadyH.cons rfl (fun K hK => ?_) AllReadyH.nil
    have hc := ten2 HX4.out
    have y0 := hc.1
    have y1 := hc.2.1
    have y2 := hc.2.2.1
    have y3 := hc.2.2.2.1
    have y4 := hc.2.2.2.2.1
    have g0 := hc.2.2.2.2.2.1
    have g1 := hc.2.2.2.2.2.2.1
    have g2 := hc.2.2.2.2.2.2.2.1
    have g3 := hc.2.2.2.2.2.2.2.2.1
    have g4 := hc.2.2.2.2.2.2.2.2.2
    clear hc
    go_simp
    have hb5 := put5_below HB4.out (B := w.heap.size) (by omega) (.int .i64 p0) (.bool p1) (.bool p2) (.int .i64 p3) (.int .i64 p4)
    have h5a := put5_same HX4.out (.int .i64 p0) (.bool p1) (.bool p2) (.int .i64 p3) (.int .i64 p4)
    have h5b := put5_heap HY4.out (B := w.heap.size) (by omega) (y0 := .int .i64 p0) (y1 := .bool p1) (y2 := .bool p2) (y3 := .int .i64 p3) (y4 := .int .i64 p4)
    have hS5 := And.intro (put5_heap hHeld.1 (B := w.heap.size) (by omega) (y0 := .int .i64 p0) (y1 := .bool p1) (y2 := .bool p2) (y3 := .int .i64 p3) (y4 := .int .i64 p4)) (put5_heap hHeld.2 (B := w.heap.size) (by omega) (y0 := .int .i64 p0) (y1 := .bool p1) (y2 := .bool p2) (y3 := .int .i64 p3) (y4 := .int .i64 p4))
    have HB5 := Lib.hid hb5
    have H5A := Lib.hid h5a
    have H5B := Lib.hid h5b
    have HS5 := Lib.hid hS5
    clear hb5 h5a h5b hS5 y0 y1 y2 y3 y4 g0 g1 g2 g3 g4
    unfold put5 at HB5 H5A H5B HS5
    refine hK.out _ _ HS5.out (fun hHeld => ?_)
    clear hK K HS5 HX4 HY4 HB4
    generalize World.setCell _ _ _ = W5 at HB5 H5A H5B hHeld ⊢
    refine wpAnyH_ready (rs := [9]) (by kernel_rfl) (by simp) ?_
    refine AllReadyH.cons rfl (fun K hK => ?_) AllReadyH.nil
    have hc := ten2 H5B.out
    have y0 := hc.1
    have y1 := hc.2.1
    have y2 := hc.2.2.1
    have y3 := hc.2.2.2.1
    have y4 := hc.2.2.2.2.1
    have g0 := hc.2.2.2.2.2.1
    have g1 := hc.2.2.2.2.2.2.1
    have g2 := hc.2.2.2.2.2.2.2.1
    have g3 := hc.2.2.2.2.2.2.2.2.1
    have g4 := hc.2.2.2.2.2.2.2.2.2
    clear hc
    go_simp
    have hb6 := put5_below HB5.out (B := w.heap.size + 1) (by omega) (.int .i64 q0) (.bool q1) (.bool q2) (.int .i64 q3) (.int .i64 q4)
    have h6a := put5_heap H5A.out (B := w.heap.size + 1) (by omega) (y0 := .int .i64 q0) (y1 := .bool q1) (y2 := .bool q2) (y3 := .int .i64 q3) (y4 := .int .i64 q4)
    have h6b := put5_same H5B.out (.int .i64 q0) (.bool q1) (.bool q2) (.int .i64 q3) (.int .i64 q4)
    have hS6 := And.intro (put5_heap hHeld.1 (B := w.heap.size + 1) (by omega) (y0 := .int .i64 q0) (y1 := .bool q1) (y2 := .bool q2) (y3 := .int .i64 q3) (y4 := .int .i64 q4)) (put5_heap hHeld.2 (B := w.heap.size + 1) (by omega) (y0 := .int .i64 q0) (y1 := .bool q1) (y2 := .bool q2) (y3 := .int .i64 q3) (y4 := .int .i64 q4))
    have HB6 := Lib.hid hb6
    have H6A := Lib.hid h6a
    have H6B := Lib.hid h6b
    have HS6 := Lib.hid hS6
    clear hb6 h6a h6b hS6 y0 y1 y2 y3 y4 g0 g1 g2 g3 g4
    unfold put5 at HB6 H6A H6B HS6
    refine hK.out _ _ HS6.out (fun hHeld => ?_)
    clear hK K HS6 H5A H5B HB5
    generalize World.setCell _ _ _ = W6 at HB6 H6A H6B hHeld ⊢
    refine wpAnyH_ready (rs := [10]) (by kernel_rfl) (by simp) ?_
    refine AllReadyH.cons rfl (fun K hK => ?_) AllReadyH.nil
    go_simp
    refine hK.out _ _ hHeld (fun hHeld => ?_)
    clear hK K
    refine wpAnyH_done (by kernel_rfl) ?_ _
    have hc := five H6A.out
    obtain ⟨y0, y1, y2, y3, y4⟩ := hc
    have hd := five H6B.out
    obtain ⟨z0, z1, z2, z3, z4⟩ := hd
    go_wp2
    refine bodyPost_ret (v := .tuple #[.agg #[.int .i64 p0, .bool p1, .bool p2, .int .i64 p3, .int .i64 p4], .agg #[.int .i64 q0, .bool q1, .bool q2, .int .i64 q3, .int .i64 q4], .bool false]) ?_ rfl ⟨rfl, HB6.out⟩
    simp [results, Try.results52, go_sem, y0, y1, y2, y3, y4, z0, z1, z2, z3, z4]
end Go.Proofs.Ytmhngehpddfccaa.St
