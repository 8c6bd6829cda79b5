/- Walk of the reference of routes: Tell. -/
import Derived.Test.YtnffgomgfabapaaRtR
import Derived.Test.YtnffgomgfabapaaRtK
import Derived.Test.YtnffgomgfabapaaSmG
import Derived.Test.YtnffgomgfabapaaSmMr
namespace Go.Proofs.Ytnffgomgfabapaa.Rt
open Go.RowKit Mem Sm
set_option linter.unusedVariables false

/-- what holds while a position goes through the maps: the route's box, the result's block, the place's -/
structure UB (w : World) (mv ov : Value) (s : St) (W : World) : Prop where
  below : Below w.heap.size w W
  hb : W.heap[w.heap.size]? = some (.cells #[mv, ov] 44 (0, 0))
  h0 : W.heap[w.heap.size + 1]? = some (.cells #[.int .i64 0, .bool false, .bool false, .int .i64 0, .int .i64 0] 48 (0, 0))
  h1 : W.heap[w.heap.size + 1 + 1]? = some (.cells #[.int .i64 s.pos, .bool s.gone, .bool s.inside, .int .i64 0, .int .i64 0] 48 (0, 0))
/-- and the place in the one map -/
def UC (w : World) (mv ov : Value) (s : St) (B : Nat) (q : Pl) (W : World) : Prop := UB w mv ov s W ∧ w.heap.size + 1 + 1 + 1 ≤ B ∧ W.heap[B]? = some (.cells #[.int .i64 q.pos, .bool q.gone, .bool q.inside, .int .i64 q.rng, .int .i64 q.off] 48 (0, 0))
section
variable {w W W' : World} {mv ov : Value} {s s' : St} {B : Nat} {q : Pl}
theorem UB.size (h : UB w mv ov s W) : w.heap.size + 1 + 1 + 1 ≤ W.heap.size := by have := lt_some h.h1; omega
theorem UB.step (h : UB w mv ov s W) (hb : Below W.heap.size W W') : UB w mv ov s W' :=
  ⟨h.below.trans (hb.mono h.below.size), by rw [hb.block _ (lt_some h.hb)]; exact h.hb, by rw [hb.block _ (lt_some h.h0)]; exact h.h0, by rw [hb.block _ (lt_some h.h1)]; exact h.h1⟩
theorem UC.step (h : UC w mv ov s B q W) (hb : Below W.heap.size W W') : UC w mv ov s B q W' := ⟨h.1.step hb, h.2.1, by rw [hb.block _ (lt_some h.2.2)]; exact h.2.2⟩
theorem UB.made (w : World) (mv ov : Value) (pos : Int) : UB w mv ov ⟨pos, false, false⟩ (((w.alloc (.cells #[mv, ov] 44)).alloc (.cells #[.int .i64 0, .bool false, .bool false, .int .i64 0, .int .i64 0] 48)).alloc (.cells #[.int .i64 pos, .bool false, .bool false, .int .i64 0, .int .i64 0] 48)) := by
  have n2 := heap_alloc_new ((w.alloc (.cells #[mv, ov] 44)).alloc (.cells #[.int .i64 0, .bool false, .bool false, .int .i64 0, .int .i64 0] 48)) (.cells #[.int .i64 pos, .bool false, .bool false, .int .i64 0, .int .i64 0] 48)
  rw [show ((w.alloc (.cells #[mv, ov] 44)).alloc (.cells #[.int .i64 0, .bool false, .bool false, .int .i64 0, .int .i64 0] 48)).heap.size = w.heap.size + 1 + 1 by simp] at n2
  have n1 := heap_alloc_new (w.alloc (.cells #[mv, ov] 44)) (.cells #[.int .i64 0, .bool false, .bool false, .int .i64 0, .int .i64 0] 48)
  rw [show (w.alloc (.cells #[mv, ov] 44)).heap.size = w.heap.size + 1 by simp] at n1
  exact ⟨(((Below.refl _ _).alloc (Nat.le_refl _) _).alloc (by simp) _).alloc (by simp; omega) _, by rw [Below.heap_alloc _ _ _ (by simp; omega), Below.heap_alloc _ _ _ (by simp), heap_alloc_new], by rw [Below.heap_alloc _ _ _ (by simp)]; exact n1, n2⟩
theorem UB.new (h : UB w mv ov s W) (q : Pl) : UC w mv ov s W.heap.size q (W.alloc (.cells #[.int .i64 q.pos, .bool q.gone, .bool q.inside, .int .i64 q.rng, .int .i64 q.off] 48)) :=
  ⟨h.step ((Below.refl _ _).alloc (Nat.le_refl _) _), h.size, heap_alloc_new W _⟩
theorem UC.put (h : UC w mv ov s B q W) (q' : Pl) : UC w mv ov s B q' (put5 W B (.int .i64 q'.pos) (.bool q'.gone) (.bool q'.inside) (.int .i64 q'.rng) (.int .i64 q'.off)) := by
  have hB := h.2.1
  exact ⟨⟨put5_below h.1.below (by omega) _ _ _ _ _, by rw [put5_other _ _ _ _ _ _ _ _ (by omega)]; exact h.1.hb, by rw [put5_other _ _ _ _ _ _ _ _ (by omega)]; exact h.1.h0, by rw [put5_other _ _ _ _ _ _ _ _ (by omega)]; exact h.1.h1⟩, h.2.1, put5_any h.2.2 _ _ _ _ _⟩
theorem UB.set (h : UB w mv ov s W) (j : Nat) (v : Value) (e : (#[Value.int .i64 s.pos, .bool s.gone, .bool s.inside, .int .i64 0, .int .i64 0] : Array Value).setIfInBounds j v = #[.int .i64 s'.pos, .bool s'.gone, .bool s'.inside, .int .i64 0, .int .i64 0]) : UB w mv ov s' (W.setCell ⟨w.heap.size + 1 + 1, j, none⟩ v) := by
  refine ⟨h.below.setCell (p := ⟨w.heap.size + 1 + 1, j, none⟩) (by simp; omega) _, ?_, ?_, ?_⟩
  · rw [Below.heap_setCell _ _ _ _ (by simp; omega)]; exact h.hb
  · rw [Below.heap_setCell _ _ _ _ (by simp)]; exact h.h0
  · simp [World.setCell, Array.getElem?_modify, h.h1, e]
theorem UB.three (h : UB w mv ov s W) (z : Int) (a b : Bool) : UB w mv ov ⟨z, a, b⟩ (((W.setCell ⟨w.heap.size + 1 + 1, 0, none⟩ (.int .i64 z)).setCell ⟨w.heap.size + 1 + 1, 1, none⟩ (.bool a)).setCell ⟨w.heap.size + 1 + 1, 2, none⟩ (.bool b)) :=
  ((h.set (s' := ⟨z, s.gone, s.inside⟩) 0 _ rfl).set (s' := ⟨z, a, s.inside⟩) 1 _ rfl).set (s' := ⟨z, a, b⟩) 2 _ rfl
theorem UB.hold (h : UB w mv ov s W) {a1 : Addr} {v1 : Value} (h1 : W.cell? a1 = some v1) :
    W.cell? a1 = some v1 ∧ W.cell? ⟨w.heap.size, 0, none⟩ = some mv ∧ W.cell? ⟨w.heap.size + 1 + 1, 0, none⟩ = some (.int .i64 s.pos) ∧ UB w mv ov s W := ⟨h1, (two h.hb).1, (five h.h1).1, h⟩
end
/-- what a map of the reference's route is -/
theorem XAt.nth {n₀ base : Nat} {W : World} {mv ov : Value} {vs : List Value} {M : List (List Rg)} {O : List Int} (h : XAt n₀ base W mv ov vs M O) {i : Nat} (hi : i < M.length) :
    ∃ g c A c', mv = .slice (some ⟨g, 0, none⟩) M.length c ∧ g < W.heap.size ∧ W.cell? ⟨g, i, none⟩ = some (.slice A (M[i]).length c') ∧ RLow n₀ W A (M[i]).length M[i] := by
  have hv : i < vs.length := by rw [h.len]; exact hi
  obtain ⟨A, c', e, hr⟩ := h.each i vs[i] M[i] (List.getElem?_eq_getElem hv) (List.getElem?_eq_getElem hi)
  obtain ⟨g, c, e2, hl, _, hc⟩ := own_at h.mrow (List.getElem?_eq_getElem hv)
  exact ⟨g, c, A, c', e2, hl, by rw [hc, e], hr⟩
theorem recN_pos {l : List Rg} {a o : Int} (h : recB l a o = true) : 0 ≤ recN l a o := by
  have hk : recOk l a o := by
    by_cases g : recOk l a o
    · exact g
    · rw [recB_no g] at h; cases h
  obtain ⟨hr, k, hk1, rfl, h0, h1⟩ := id hk
  rw [recN_yes hk]
  have := sh_low k ((right_of hr).mono (by omega))
  omega
set_option maxRecDepth 100000 in
set_option maxHeartbeats 8000000 in
theorem rrtell_any (n₀ base : Nat) (mv ov : Value) (vs : List Value) (M : List (List Rg)) (O : List Int) (mir : List (Int × Int)) (pos side : Int) (w : World) (hM : M.length ≤ 1000) (hm : ∀ m ∈ M, m.length ≤ 100 ∧ rightB m = true) (hrel : Rel M O mir)
    (h : XAt n₀ base w mv ov vs M O) (hn₀ : n₀ ≤ w.heap.size) :
    Calls Try.prog 19 #[.agg #[mv, ov], .int .i64 pos, .int .i64 side] w fun e w' => e = .returned (.tuple #[plV (endP (goR M mir side 0 ⟨pos, false, false⟩)), .bool (goR M mir side 0 ⟨pos, false, false⟩).isSome]) ∧ Below w.heap.size w w' := by
  obtain ⟨R, hR⟩ : ∃ R, goR M mir side 0 ⟨pos, false, false⟩ = R := ⟨_, rfl⟩
  rw [hR]
  have HR := Lib.hid hR
  have HT := Lib.hid h
  have HMR := Lib.hid hm
  have HREL := Lib.hid hrel
  obtain ⟨A0, c0, hmv, _⟩ := own_form h.mrow
  obtain ⟨A1, c1, hov, _⟩ := own_form h.orow
  subst hmv; subst hov
  have HB0 := Lib.hid (UB.made w (.slice A0 M.length c0) (.slice A1 O.length c1) pos)
  clear hR h hm hrel
  go_enter Try.func19, Try.ntmps19
  go_wp2_with fail
  go_loopw [9] (fun iv wr => ∃ (i : Nat) (s : St), iv = .int .i64 i ∧ i ≤ M.length ∧ Hid (UB w (.slice A0 M.length c0) (.slice A1 O.length c1) s wr) ∧ Hid (goR M mir side i s = R)) (fun iv _ => M.length - (intOf iv).toNat)
  case atStart => exact ⟨0, ⟨pos, false, false⟩, rfl, by omega, HB0, HR⟩
  case round =>
    obtain ⟨i, s, rfl, hi, HT1, HG⟩ := hrel
    obtain ⟨b0, b1, _, _⟩ := two HT1.out.hb
    by_cases hlt : i < M.length
    · obtain ⟨g, cg, A, c, hv, hgl, hcell0, hrow0⟩ := HT.out.nth hlt
      simp only [Value.slice.injEq] at hv
      obtain ⟨rfl, _, rfl⟩ := hv
      have hcell := below_cell HT1.out.below hcell0
      have hrow := hrow0.below HT1.out.below hn₀
      clear hcell0 hrow0
      obtain ⟨hlM, hrM⟩ := HMR.out _ (List.getElem_mem hlt)
      obtain ⟨m, hmm⟩ : ∃ m, m = M[i] := ⟨_, rfl⟩
      rw [← hmm] at hlM hcell hrow hrM
      have HMM := Lib.hid hmm
      have HRM := Lib.hid hrM
      clear hmm hrM
      obtain ⟨sp, sg, si⟩ := s
      have hd : decide ((i : Int) < (M.length : Int)) = true := decide_eq_true (by omega)
      have i1 : (0 : Int) ≤ (i : Int) := by omega
      have i2 : (i : Int) < (M.length : Int) := by omega
      have HRW := Lib.hid hrow
      clear hrow
      have hG := HG.out
      rw [goR_yes hlt] at hG
      have hgd : M.getD i [] = m := by rw [HMM.out]; simp [List.getD, hlt]
      simp only [hgd] at hG
      have HG2 := Lib.hid hG
      have hc := five HT1.out.h1
      have p0 := hc.1
      have p1 := hc.2.1
      have p2 := hc.2.2.1
      have p3 := hc.2.2.2.1
      have p4 := hc.2.2.2.2
      clear hc
      clear hG hgd HG
      by_cases hp0 : sp < 0
      · have hno : tellE m sp ≠ 0 := by unfold tellE; rw [if_pos HRM.out, if_neg (by rw [mayB_iff]; omega)]; decide
        have hG := HG2.out
        rw [if_neg hno] at hG
        subst hG
        have hc := ten2 HT1.out.h0
        have x0 := hc.1
        have x1 := hc.2.1
        have x2 := hc.2.2.1
        have x3 := hc.2.2.2.1
        have x4 := hc.2.2.2.2.1
        have y0 := hc.2.2.2.2.2.1
        have y1 := hc.2.2.2.2.2.2.1
        have y2 := hc.2.2.2.2.2.2.2.1
        have y3 := hc.2.2.2.2.2.2.2.2.1
        have y4 := hc.2.2.2.2.2.2.2.2.2
        clear hc
        have HF := Lib.hid (five (put5_any HT1.out.h0 (.int .i64 0) (.bool false) (.bool false) (.int .i64 0) (.int .i64 0)))
        have HB5 := Lib.hid (put5_below HT1.out.below (B := w.heap.size + 1) (by omega) (.int .i64 0) (.bool false) (.bool false) (.int .i64 0) (.int .i64 0))
        go_wp2
        have hF := HF.out
        have hB5 := HB5.out
        unfold put5 at hF hB5
        refine bodyPost_ret (v := .tuple #[plV ⟨0, false, false, 0, 0⟩, .bool false]) ?_ rfl ⟨rfl, hB5⟩
        simp [results, Try.results19, go_sem, hF.1, hF.2.1, hF.2.2.1, hF.2.2.2.1, hF.2.2.2.2, plV]
      · by_cases hp1 : sp > 1099511627776
        · have hno : tellE m sp ≠ 0 := by unfold tellE; rw [if_pos HRM.out, if_neg (by rw [mayB_iff]; omega)]; decide
          have hG := HG2.out
          rw [if_neg hno] at hG
          subst hG
          have hc := ten2 HT1.out.h0
          have x0 := hc.1
          have x1 := hc.2.1
          have x2 := hc.2.2.1
          have x3 := hc.2.2.2.1
          have x4 := hc.2.2.2.2.1
          have y0 := hc.2.2.2.2.2.1
          have y1 := hc.2.2.2.2.2.2.1
          have y2 := hc.2.2.2.2.2.2.2.1
          have y3 := hc.2.2.2.2.2.2.2.2.1
          have y4 := hc.2.2.2.2.2.2.2.2.2
          clear hc
          have HF := Lib.hid (five (put5_any HT1.out.h0 (.int .i64 0) (.bool false) (.bool false) (.int .i64 0) (.int .i64 0)))
          have HB5 := Lib.hid (put5_below HT1.out.below (B := w.heap.size + 1) (by omega) (.int .i64 0) (.bool false) (.bool false) (.int .i64 0) (.int .i64 0))
          go_wp2
          have hF := HF.out
          have hB5 := HB5.out
          unfold put5 at hF hB5
          refine bodyPost_ret (v := .tuple #[plV ⟨0, false, false, 0, 0⟩, .bool false]) ?_ rfl ⟨rfl, hB5⟩
          simp [results, Try.results19, go_sem, hF.1, hF.2.1, hF.2.2.1, hF.2.2.2.1, hF.2.2.2.2, plV]
        · have hyes : tellE m sp = 0 := by unfold tellE; rw [if_pos HRM.out, if_pos (by rw [mayB_iff]; omega)]
          have htw : tellW m sp side = tell m sp side := by unfold tellW; rw [if_pos ⟨HRM.out, by rw [mayB_iff]; omega⟩]
          have hG := HG2.out
          rw [if_pos hyes, htw] at hG
          obtain ⟨Q, hQ⟩ : ∃ x, x = tell m sp side := ⟨_, rfl⟩
          rw [← hQ] at hG
          have HQ := Lib.hid hQ
          obtain ⟨qp, qg, qi, qr, qo⟩ := Q
          simp only at hG
          have HG2 := Lib.hid hG
          clear hG hQ htw hyes
          go_upto_region 6 with fail
          go_cut [10] from 19 to 90 (fun v10 wx => ∃ (B : Nat), v10 = .pointer (some ⟨B, 0, none⟩) ∧ Hid (UC w (.slice (some ⟨g, 0, none⟩) M.length c0) (.slice A1 O.length c1) ⟨sp, sg, si⟩ B ⟨qp, qg, qi, qr, qo⟩ wx))
          case first =>
            have hS5 := (HT1.out.step (W' := wr.drew) (below_drewN (Below.refl _ _) 1)).hold (a1 := ⟨g, i, none⟩) hcell
            have HRW5 : Hid (RLow n₀ wr.drew A m.length m) := HRW
            refine wp_region_held_drew (S := fun W => W.cell? ⟨g, i, none⟩ = some (.slice A m.length c) ∧ W.cell? ⟨w.heap.size, 0, none⟩ = some (.slice (some ⟨g, 0, none⟩) M.length c0) ∧ W.cell? ⟨w.heap.size + 1 + 1, 0, none⟩ = some (.int .i64 sp) ∧ UB w (.slice (some ⟨g, 0, none⟩) M.length c0) (.slice A1 O.length c1) ⟨sp, sg, si⟩ W) (by kernel_rfl) hS5 (fun hHeld => ?_)
            clear hS5 HRW HT1 hcell b0 b1
            generalize wr.drew = W5 at HRW5 hHeld ⊢
            refine tk 0 (v := ?_) rfl (by kernel_rfl) (fun _ _ _ h => h) ?_ hHeld ?_
            rotate_left
            · (intro W hSw; (try dsimp only at hSw); go_simp; try with_reducible rfl)
            refine tk 1 (v := ?_) rfl (by kernel_rfl) (fun _ _ _ h => h) ?_ hHeld ?_
            rotate_left
            · (intro W hSw; (try dsimp only at hSw); go_simp; try with_reducible rfl)
            refine tk 2 (v := ?_) rfl (by kernel_rfl) (fun _ _ _ h => h) ?_ hHeld ?_
            rotate_left
            · (intro W hSw; (try dsimp only at hSw); go_simp; try with_reducible rfl)
            refine tk 3 (v := ?_) rfl (by kernel_rfl) (fun _ _ _ h => h) ?_ hHeld ?_
            rotate_left
            · (intro W hSw; (try dsimp only at hSw); go_simp; try with_reducible rfl)
            refine tk 4 (v := ?_) rfl (by kernel_rfl) (fun _ _ _ h => h) ?_ hHeld ?_
            rotate_left
            · (intro W hSw; (try dsimp only at hSw); go_simp; try with_reducible rfl)
            refine tk 5 (v := ?_) rfl (by kernel_rfl) (fun _ _ _ h => h) ?_ hHeld ?_
            rotate_left
            · (intro W hSw; (try dsimp only at hSw); go_simp; try with_reducible rfl)
            refine tk 6 (v := ?_) rfl (by kernel_rfl) (fun _ _ _ h => h) ?_ hHeld ?_
            rotate_left
            · (intro W hSw; (try dsimp only at hSw); go_simp; try with_reducible rfl)
            refine tk 7 (v := ?_) rfl (by kernel_rfl) (fun _ _ _ h => h) ?_ hHeld ?_
            rotate_left
            · (intro W hSw; (try dsimp only at hSw); go_simp; try with_reducible rfl)
            refine wpAnyH_ready (rs := [8, 9]) (by kernel_rfl) (by simp) ?_
            refine AllReadyH.cons rfl (fun K hK => ?_) (AllReadyH.cons rfl (fun K hK => ?_) AllReadyH.nil)
            · go_simp
              refine (rtell_any m A _ c sp side W5 (right_of HRM.out) hlM (by omega) (HRW5.out.lift (Nat.le_trans hn₀ hHeld.2.2.2.below.size))).mono ?_
              rintro e W6 ⟨rfl, hb6⟩
              rw [← HQ.out]
              unfold plV
              have hU6 := hHeld.2.2.2.step hb6
              have hS6 := hU6.hold (below_cell hb6 hHeld.1)
              clear hHeld hb6
              go_wp2_with fail
              refine hK.out _ _ hS6 (fun hHeld => ?_)
              clear hK K hS6
              refine wpAnyH_ready (rs := [9]) (by kernel_rfl) (by simp) ?_
              refine AllReadyH.cons rfl (fun K hK => ?_) AllReadyH.nil
              go_simp
              have hTC := hU6.new ⟨0, false, false, 0, 0⟩
              have hb7 : Below W6.heap.size W6 (W6.alloc (.cells #[.int .i64 0, .bool false, .bool false, .int .i64 0, .int .i64 0] 48)) := (Below.refl _ _).alloc (Nat.le_refl _) _
              have HTN := Lib.hid (hU6.new ⟨qp, qg, qi, qr, qo⟩)
              have hS7 := hTC.1.hold (below_cell hb7 hHeld.1)
              have hb8 : Below W6.heap.size W6 (W6.alloc (.cells #[.int .i64 qp, .bool qg, .bool qi, .int .i64 qr, .int .i64 qo] 48)) := (Below.refl _ _).alloc (Nat.le_refl _) _
              have HS8 := Lib.hid (HTN.out.1.hold (below_cell hb8 hHeld.1))
              refine hK.out _ _ hS7 (fun hHeld => ?_)
              clear hK K hS7 hb7 hb8
              refine wpAnyH_ready (rs := [10]) (by kernel_rfl) (by simp) ?_
              refine AllReadyH.cons rfl (fun K hK => ?_) AllReadyH.nil
              have hc := ten2 hTC.2.2
              have x0 := hc.1
              have x1 := hc.2.1
              have x2 := hc.2.2.1
              have x3 := hc.2.2.2.1
              have x4 := hc.2.2.2.2.1
              have y0 := hc.2.2.2.2.2.1
              have y1 := hc.2.2.2.2.2.2.1
              have y2 := hc.2.2.2.2.2.2.2.1
              have y3 := hc.2.2.2.2.2.2.2.2.1
              have y4 := hc.2.2.2.2.2.2.2.2.2
              clear hc
              go_simp
              refine hK.out _ _ HS8.out (fun hHeld => ?_)
              clear hK K x0 x1 x2 x3 x4 y0 y1 y2 y3 y4
              refine wpAnyH_done (by kernel_rfl) ?_ _
              go_wp2_with fail
              go_meet
              exact ⟨_, rfl, HTN⟩
            · have hTC := hHeld.2.2.2.new ⟨0, false, false, 0, 0⟩
              have hb7 : Below W5.heap.size W5 (W5.alloc (.cells #[.int .i64 0, .bool false, .bool false, .int .i64 0, .int .i64 0] 48)) := (Below.refl _ _).alloc (Nat.le_refl _) _
              have hS7 := hTC.1.hold (below_cell hb7 hHeld.1)
              have HRW7 := Lib.hid (HRW5.out.below hb7 (Nat.le_trans hn₀ hHeld.2.2.2.below.size))
              have HTC := Lib.hid hTC
              go_simp
              refine hK.out _ _ hS7 (fun hHeld => ?_)
              obtain ⟨B, hB⟩ : ∃ B, B = W5.heap.size := ⟨_, rfl⟩
              rw [← hB] at HTC ⊢
              clear hK K hS7 hb7 hTC HRW5 hB
              generalize W5.alloc (.cells #[.int .i64 0, .bool false, .bool false, .int .i64 0, .int .i64 0] 48) = W7 at HRW7 HTC hHeld ⊢
              refine wpAnyH_ready (rs := [8]) (by kernel_rfl) (by simp) ?_
              refine AllReadyH.cons rfl (fun K hK => ?_) AllReadyH.nil
              go_simp
              refine (rtell_any m A _ c sp side W7 (right_of HRM.out) hlM (by omega) (HRW7.out.lift (Nat.le_trans hn₀ hHeld.2.2.2.below.size))).mono ?_
              rintro e W8 ⟨rfl, hb8⟩
              rw [← HQ.out]
              unfold plV
              have HTC8 := Lib.hid (HTC.out.step hb8)
              have hS8 := HTC8.out.1.hold (below_cell hb8 hHeld.1)
              clear hHeld hb8 HTC HRW7
              go_wp2_with fail
              refine hK.out _ _ hS8 (fun hHeld => ?_)
              clear hK K hS8
              refine wpAnyH_ready (rs := [10]) (by kernel_rfl) (by simp) ?_
              refine AllReadyH.cons rfl (fun K hK => ?_) AllReadyH.nil
              have hc := ten2 HTC8.out.2.2
              have x0 := hc.1
              have x1 := hc.2.1
              have x2 := hc.2.2.1
              have x3 := hc.2.2.2.1
              have x4 := hc.2.2.2.2.1
              have y0 := hc.2.2.2.2.2.1
              have y1 := hc.2.2.2.2.2.2.1
              have y2 := hc.2.2.2.2.2.2.2.1
              have y3 := hc.2.2.2.2.2.2.2.2.1
              have y4 := hc.2.2.2.2.2.2.2.2.2
              clear hc
              go_simp
              have HTN := Lib.hid (HTC8.out.put ⟨qp, qg, qi, qr, qo⟩)
              have hS9 := HTN.out.1.hold (a1 := ⟨g, i, none⟩) (v1 := .slice A m.length c) ((put5_cell _ _ _ _ _ _ _ _ (by have := HTC8.out.2.1; simp at hgl ⊢; omega)).trans hHeld.1)
              have HS9 := Lib.hid hS9
              clear hS9
              unfold put5 at HS9 HTN
              refine hK.out _ _ HS9.out (fun hHeld => ?_)
              clear hK K x0 x1 x2 x3 x4 y0 y1 y2 y3 y4
              refine wpAnyH_done (by kernel_rfl) ?_ _
              go_wp2_with fail
              go_meet
              exact ⟨_, rfl, HTN⟩
          case rest =>
            obtain ⟨B, rfl, HTC⟩ := hcut
            clear HT1 hcell b0 b1 HRW p0 p1 p2 p3 p4
            cases qg with
            | false =>
              have hrec : recR M mir i ⟨qp, false, qi, qr, qo⟩ = (0, 0, false) := by
                unfold recR
                cases lk mir i with
                | none => rfl
                | some j => simp
              have hG := HG2.out
              rw [hrec, if_neg (by simp)] at hG
              have HG3 := Lib.hid hG
              have HQ6 := HTC
              clear hG hrec HTC
              cases sg <;> cases si
              all_goals
                have hc := five HQ6.out.2.2
                have z0 := hc.1
                have z1 := hc.2.1
                have z2 := hc.2.2.1
                have z3 := hc.2.2.2.1
                have z4 := hc.2.2.2.2
                clear hc
                have hc := ten2 HQ6.out.1.h1
                have x0 := hc.1
                have x1 := hc.2.1
                have x2 := hc.2.2.1
                have x3 := hc.2.2.2.1
                have x4 := hc.2.2.2.2.1
                have y0 := hc.2.2.2.2.2.1
                have y1 := hc.2.2.2.2.2.2.1
                have y2 := hc.2.2.2.2.2.2.2.1
                have y3 := hc.2.2.2.2.2.2.2.2.1
                have y4 := hc.2.2.2.2.2.2.2.2.2
                clear hc
                have HTT := Lib.hid HQ6.out.1
                go_wp2
                go_roundw
                case measure => simp only [intOf]; omega
                case rel => exact ⟨i + 1, ⟨qp, _, _⟩, by push_cast; rfl, by omega, Lib.hid (HTT.out.three qp _ _), HG3⟩
            | true =>
              have hOl : i < O.length := by rw [HREL.out.len]; exact hlt
              obtain ⟨go, co, hov, hgol, _, hoc0⟩ := own_at HT.out.orow (ints_at hOl)
              simp only [Value.slice.injEq] at hov
              obtain ⟨rfl, _, rfl⟩ := hov
              have hoc := below_cell HTC.out.1.below hoc0
              have hoi : (i : Int) < (O.length : Int) := by omega
              have hz := HREL.out.at_ i hlt
              obtain ⟨z, hzz⟩ : ∃ z, z = O.getD i 0 := ⟨_, rfl⟩
              rw [← hzz] at hoc hz hoc0
              have HOC0 := Lib.hid hoc0
              have HZ := Lib.hid hz
              obtain ⟨b0, b1, _, _⟩ := two HTC.out.1.hb
              have hc := five HTC.out.2.2
              have z0 := hc.1
              have z1 := hc.2.1
              have z2 := hc.2.2.1
              have z3 := hc.2.2.2.1
              have z4 := hc.2.2.2.2
              clear hc
              clear hoc0 hz hzz
              obtain ⟨⟨rn, rj, rb⟩, hrr⟩ : ∃ x, x = recR M mir i ⟨qp, true, qi, qr, qo⟩ := ⟨_, rfl⟩
              have HRR := Lib.hid hrr
              have HG4 := HG2.out
              rw [← hrr] at HG4
              simp only at HG4
              have HG5 := Lib.hid HG4
              clear HG4 HG2 hrr
              go_upto_if 47 with fail
              go_cut [11] from 37 to 90 (fun v11 wx => ∃ bk, v11 = .int .i64 bk ∧ Hid (UC w (.slice (some ⟨g, 0, none⟩) M.length c0) (.slice (some ⟨go, 0, none⟩) O.length c1) ⟨sp, sg, si⟩ B ⟨qp, true, qi, qr, qo⟩ wx) ∧ Hid ((rb = true ∧ bk = rn ∧ 0 ≤ bk ∧ rj = z ∧ i < rj ∧ rj < M.length) ∨ (rb = false ∧ bk = -1)))
              case first =>
                by_cases hzi : z > i
                · have hdz : decide ((i : Int) < z) = true := decide_eq_true hzi
                  obtain ⟨j, hj⟩ : ∃ j, lk mir (i : Int) = some j := by
                    cases hl : lk mir (i : Int) with
                    | none => have := HZ.out; rw [hl] at this; simp only [Option.getD_none] at this; omega
                    | some j => exact ⟨j, rfl⟩
                  have hzj : z = j := by have := HZ.out; rw [hj] at this; exact this
                  have hjb := (HREL.out.bound _ (lk_some hj)).2
                  simp only at hjb
                  obtain ⟨k, rfl⟩ : ∃ k : Nat, z = k := ⟨z.toNat, by omega⟩
                  subst hzj
                  have hkM : k < M.length := by omega
                  obtain ⟨g', cg', Ak, ck, hv', _, hcellk0, hrowk0⟩ := HT.out.nth hkM
                  simp only [Value.slice.injEq, Option.some.injEq, Addr.mk.injEq] at hv'
                  obtain ⟨⟨rfl, _⟩, hcc⟩ := hv'
                  clear hcc
                  have hcellk := below_cell HTC.out.1.below hcellk0
                  have HRK := Lib.hid (hrowk0.below HTC.out.1.below hn₀)
                  have hlk := (HMR.out _ (List.getElem_mem hkM)).1
                  have hrr : (rn, rj, rb) = (recN (M[k]) qr qo, (k : Int), recB (M[k]) qr qo) := by
                    rw [HRR.out]; unfold recR; rw [hj]; simp only
                    rw [if_pos ⟨trivial, by omega⟩, Int.toNat_natCast, show M.getD k [] = M[k] by simp [List.getD, hkM]]
                  obtain ⟨mk, hmk⟩ : ∃ x, x = M[k] := ⟨_, rfl⟩
                  rw [← hmk] at hcellk HRK hlk hrr
                  have HR9 := Lib.hid hrr
                  have k1 : (0 : Int) ≤ (k : Int) := by omega
                  have k2 : (k : Int) < (M.length : Int) := by omega
                  have HJ := Lib.hid hj
                  clear hcellk0 hrowk0 hrr hmk hj
                  go_upto_region 9 with fail
                  have HTC5 : Hid (UC w (.slice (some ⟨g, 0, none⟩) M.length c0) (.slice (some ⟨go, 0, none⟩) O.length c1) ⟨sp, sg, si⟩ B ⟨qp, true, qi, qr, qo⟩ wc.drew) := Lib.hid (HTC.out.step (below_drewN (Below.refl _ _) 1))
                  refine wp_region_held_drew (S := fun W => W.cell? ⟨w.heap.size, 0, none⟩ = some (.slice (some ⟨g, 0, none⟩) M.length c0) ∧ W.cell? ⟨w.heap.size, 1, none⟩ = some (.slice (some ⟨go, 0, none⟩) O.length c1) ∧ W.cell? ⟨go, i, none⟩ = some (.int .i64 (k : Int)) ∧ W.cell? ⟨g, k, none⟩ = some (.slice Ak mk.length ck) ∧ W.cell? ⟨B, 3, none⟩ = some (.int .i64 qr) ∧ W.cell? ⟨B, 4, none⟩ = some (.int .i64 qo)) (by kernel_rfl) ⟨b0, b1, hoc, hcellk, z3, z4⟩ (fun hHeld => ?_)
                  have HRK5 : Hid (RLow n₀ wc.drew Ak mk.length mk) := HRK
                  clear HTC HRK b0 b1 hoc hcellk z0 z1 z2 z3 z4
                  generalize wc.drew = W5 at HTC5 HRK5 hHeld ⊢
                  refine tk 0 (v := ?_) rfl (by kernel_rfl) (fun _ _ _ h => h) ?_ hHeld ?_
                  rotate_left
                  · (intro W hSw; (try dsimp only at hSw); go_simp; try with_reducible rfl)
                  refine tk 1 (v := ?_) rfl (by kernel_rfl) (fun _ _ _ h => h) ?_ hHeld ?_
                  rotate_left
                  · (intro W hSw; (try dsimp only at hSw); go_simp; try with_reducible rfl)
                  refine tk 2 (v := ?_) rfl (by kernel_rfl) (fun _ _ _ h => h) ?_ hHeld ?_
                  rotate_left
                  · (intro W hSw; (try dsimp only at hSw); go_simp; try with_reducible rfl)
                  refine tk 3 (v := ?_) rfl (by kernel_rfl) (fun _ _ _ h => h) ?_ hHeld ?_
                  rotate_left
                  · (intro W hSw; (try dsimp only at hSw); go_simp; try with_reducible rfl)
                  refine tk 4 (v := ?_) rfl (by kernel_rfl) (fun _ _ _ h => h) ?_ hHeld ?_
                  rotate_left
                  · (intro W hSw; (try dsimp only at hSw); go_simp; try with_reducible rfl)
                  refine tk 5 (v := ?_) rfl (by kernel_rfl) (fun _ _ _ h => h) ?_ hHeld ?_
                  rotate_left
                  · (intro W hSw; (try dsimp only at hSw); go_simp; try with_reducible rfl)
                  refine tk 6 (v := ?_) rfl (by kernel_rfl) (fun _ _ _ h => h) ?_ hHeld ?_
                  rotate_left
                  · (intro W hSw; (try dsimp only at hSw); go_simp; try with_reducible rfl)
                  refine tk 7 (v := ?_) rfl (by kernel_rfl) (fun _ _ _ h => h) ?_ hHeld ?_
                  rotate_left
                  · (intro W hSw; (try dsimp only at hSw); go_simp; try with_reducible rfl)
                  refine tk 8 (v := ?_) rfl (by kernel_rfl) (fun _ _ _ h => h) ?_ hHeld ?_
                  rotate_left
                  · (intro W hSw; (try dsimp only at hSw); go_simp; try with_reducible rfl)
                  refine tk 9 (v := ?_) rfl (by kernel_rfl) (fun _ _ _ h => h) ?_ hHeld ?_
                  rotate_left
                  · (intro W hSw; (try dsimp only at hSw); go_simp; try with_reducible rfl)
                  refine tk 10 (v := ?_) rfl (by kernel_rfl) (fun _ _ _ h => h) ?_ hHeld ?_
                  rotate_left
                  · (intro W hSw; (try dsimp only at hSw); go_simp; try with_reducible rfl)
                  refine tk 11 (v := ?_) rfl (by kernel_rfl) (fun _ _ _ h => h) ?_ hHeld ?_
                  rotate_left
                  · (intro W hSw; (try dsimp only at hSw); go_simp; try with_reducible rfl)
                  refine tk 12 (v := ?_) rfl (by kernel_rfl) (fun _ _ _ h => h) ?_ hHeld ?_
                  rotate_left
                  · (intro W hSw; (try dsimp only at hSw); go_simp; try with_reducible rfl)
                  refine wpAnyH_ready (rs := [13]) (by kernel_rfl) (by simp) ?_
                  refine AllReadyH.cons rfl (fun K hK => ?_) AllReadyH.nil
                  go_simp
                  refine (rrecover_any mk Ak mk.length ck qr qo W5 hlk (HRK5.out.lift (Nat.le_trans hn₀ HTC5.out.1.below.size))).mono ?_
                  rintro e W6 ⟨rfl, hb6⟩
                  have hS6 := And.intro (below_cell hb6 hHeld.1) (And.intro (below_cell hb6 hHeld.2.1) (And.intro (below_cell hb6 hHeld.2.2.1) (And.intro (below_cell hb6 hHeld.2.2.2.1) (And.intro (below_cell hb6 hHeld.2.2.2.2.1) (below_cell hb6 hHeld.2.2.2.2.2)))))
                  have HTC6 := Lib.hid (HTC5.out.step hb6)
                  clear hb6 HTC5 HRK5 hHeld
                  go_wp2_with fail
                  refine hK.out _ _ hS6 (fun hHeld => ?_)
                  clear hK K
                  refine wpAnyH_ready (rs := [14]) (by kernel_rfl) (by simp) ?_
                  refine AllReadyH.cons rfl (fun K hK => ?_) AllReadyH.nil
                  go_simp
                  refine hK.out _ _ hS6 (fun hHeld => ?_)
                  clear hK K hS6 hHeld
                  refine wpAnyH_done (by kernel_rfl) ?_ _
                  have hrr := HR9.out
                  injection hrr with hrn hrr
                  injection hrr with hrj hrb
                  have HD : Hid ((rb = true ∧ Sm.recR mk qr qo = rn ∧ 0 ≤ Sm.recR mk qr qo ∧ rj = (k : Int) ∧ (i : Int) < rj ∧ rj < M.length) ∨ (rb = false ∧ Sm.recR mk qr qo = -1)) := Lib.hid (by
                    cases hx : recB mk qr qo with
                    | true => exact .inl ⟨by rw [hrb, hx], by rw [hrn]; unfold Sm.recR; rw [if_pos hx], by unfold Sm.recR; rw [if_pos hx]; exact recN_pos hx, hrj, by rw [hrj]; exact hzi, by rw [hrj]; exact k2⟩
                    | false => exact .inr ⟨by rw [hrb, hx], by unfold Sm.recR; rw [if_neg (by rw [hx]; simp)]⟩)
                  clear hrn hrj hrb HR9 HRR
                  go_wp2_with fail
                  go_meet
                  exact ⟨_, rfl, HTC6, HD⟩
                · have hdz : decide ((i : Int) < z) = false := decide_eq_false hzi
                  have hrb : (rn, rj, rb) = (0, 0, false) := by
                    rw [HRR.out]; unfold recR
                    cases hl : lk mir (i : Int) with
                    | none => rfl
                    | some j =>
                      have := HZ.out; rw [hl] at this; simp only [Option.getD_some] at this
                      have := HREL.out.other _ _ hl
                      simp only
                      rw [if_neg (by omega)]
                  injection hrb with hrn hrb
                  injection hrb with hrj hrb
                  have HD := Lib.hid hrb
                  clear hrn hrb hrj
                  go_wp2_with fail
                  go_meet
                  exact ⟨_, rfl, HTC, Lib.hid (.inr ⟨HD.out, rfl⟩)⟩
              case rest =>
                obtain ⟨bk, rfl, HQ6, HD⟩ := hcut
                clear HTC b0 b1 z0 z1 z2 z3 z4
                rcases HD.out with ⟨rfl, rfl, hk0, hrj, hij, hjM⟩ | ⟨rfl, rfl⟩
                · have hoc6 := below_cell HQ6.out.1.below HOC0.out
                  obtain ⟨b0, b1, _, _⟩ := two HQ6.out.1.hb
                  subst hrj
                  obtain ⟨k, rfl⟩ : ∃ k : Nat, rj = k := ⟨rj.toNat, by omega⟩
                  have HG3 := HG5
                  rw [if_pos rfl, Int.toNat_natCast] at HG3
                  have hc := ten2 HQ6.out.1.h1
                  have x0 := hc.1
                  have x1 := hc.2.1
                  have x2 := hc.2.2.1
                  have x3 := hc.2.2.2.1
                  have x4 := hc.2.2.2.2.1
                  have y0 := hc.2.2.2.2.2.1
                  have y1 := hc.2.2.2.2.2.2.1
                  have y2 := hc.2.2.2.2.2.2.2.1
                  have y3 := hc.2.2.2.2.2.2.2.2.1
                  have y4 := hc.2.2.2.2.2.2.2.2.2
                  clear hc
                  have HTS := Lib.hid (HQ6.out.1.set (s' := ⟨bk, sg, si⟩) 0 (.int .i64 bk) rfl)
                  have hk1 : k + 1 ≤ M.length := by omega
                  have hik : i ≤ k := by omega
                  clear HD hij hjM hoc
                  have n1 : ¬ w.heap.size + 1 + 1 = go := by omega
                  have n2 : ¬ go = w.heap.size + 1 + 1 := by omega
                  go_wp2
                  go_roundw
                  case measure => simp only [intOf]; omega
                  case rel => exact ⟨k + 1, ⟨bk, sg, si⟩, by push_cast; rfl, hk1, HTS, HG3⟩
                · have HG3 := HG5
                  rw [if_neg (by simp)] at HG3
                  cases sg <;> cases si
                  all_goals
                    have hc := five HQ6.out.2.2
                    have z0 := hc.1
                    have z1 := hc.2.1
                    have z2 := hc.2.2.1
                    have z3 := hc.2.2.2.1
                    have z4 := hc.2.2.2.2
                    clear hc
                    have hc := ten2 HQ6.out.1.h1
                    have x0 := hc.1
                    have x1 := hc.2.1
                    have x2 := hc.2.2.1
                    have x3 := hc.2.2.2.1
                    have x4 := hc.2.2.2.2.1
                    have y0 := hc.2.2.2.2.2.1
                    have y1 := hc.2.2.2.2.2.2.1
                    have y2 := hc.2.2.2.2.2.2.2.1
                    have y3 := hc.2.2.2.2.2.2.2.2.1
                    have y4 := hc.2.2.2.2.2.2.2.2.2
                    clear hc
                    have HTT := Lib.hid HQ6.out.1
                    go_wp2
                    go_roundw
                    case measure => simp only [intOf]; omega
                    case rel => exact ⟨i + 1, ⟨qp, _, _⟩, by push_cast; rfl, by omega, Lib.hid (HTT.out.three qp _ _), HG3⟩
    · have hd : decide ((i : Int) < (M.length : Int)) = false := decide_eq_false (by omega)
      rw [goR_no hlt] at HG
      obtain rfl := HG.out
      have hc := ten2 HT1.out.h0
      have x0 := hc.1
      have x1 := hc.2.1
      have x2 := hc.2.2.1
      have x3 := hc.2.2.2.1
      have x4 := hc.2.2.2.2.1
      have y0 := hc.2.2.2.2.2.1
      have y1 := hc.2.2.2.2.2.2.1
      have y2 := hc.2.2.2.2.2.2.2.1
      have y3 := hc.2.2.2.2.2.2.2.2.1
      have y4 := hc.2.2.2.2.2.2.2.2.2
      clear hc
      have hc := five HT1.out.h1
      have z0 := hc.1
      have z1 := hc.2.1
      have z2 := hc.2.2.1
      have z3 := hc.2.2.2.1
      have z4 := hc.2.2.2.2
      clear hc
      have HF := Lib.hid (five (put5_any HT1.out.h0 (.int .i64 s.pos) (.bool s.gone) (.bool s.inside) (.int .i64 0) (.int .i64 0)))
      have HB5 := Lib.hid (put5_below HT1.out.below (B := w.heap.size + 1) (by omega) (.int .i64 s.pos) (.bool s.gone) (.bool s.inside) (.int .i64 0) (.int .i64 0))
      go_wp2
      have hF := HF.out
      have hB5 := HB5.out
      unfold put5 at hF hB5
      refine bodyPost_ret (v := .tuple #[plV ⟨s.pos, s.gone, s.inside, 0, 0⟩, .bool true]) ?_ rfl ⟨rfl, hB5⟩
      simp [results, Try.results19, go_sem, hF.1, hF.2.1, hF.2.2.1, hF.2.2.2.1, hF.2.2.2.2, plV]
end Go.Proofs.Ytnffgomgfabapaa.Rt
