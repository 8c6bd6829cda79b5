/- Walk of the law of routes: alike. -/
import Derived.Test.YtmpcnnpekbbchaaRtS
import Derived.Test.YtmpcnnpekbbchaaRtT
import Derived.Test.YtmpcnnpekbbchaaRtU
namespace Go.Proofs.Ytmpcnnpekbbchaa.Rt
open Go.RowKit Mem Sm
set_option linter.unusedVariables false

/-- what holds while two routes are held against each other -/
def LB (w : World) (mv ov : Value) (W : World) : Prop := Below w.heap.size w W ∧ W.heap[w.heap.size]? = some (.cells #[mv, ov] 44 (0, 0))
theorem LB.step {w W W' : World} {mv ov : Value} (h : LB w mv ov W) (hb : Below W.heap.size W W') : LB w mv ov W' := ⟨h.1.trans (hb.mono h.1.size), by rw [hb.block _ (lt_some h.2)]; exact h.2⟩
theorem LB.made (w : World) (mv ov : Value) : LB w mv ov (w.alloc (.cells #[mv, ov] 44)) := ⟨(Below.refl _ _).alloc (Nat.le_refl _) _, heap_alloc_new w _⟩
set_option maxRecDepth 100000 in
set_option maxHeartbeats 8000000 in
theorem alike_any (n₀ base b0 p : Nat) (v mp mv ov : Value) (vs vs2 : List Value) (M : List (List Rg)) (O : List Int) (mir : List (Int × Int)) (w : World) (hM : M.length ≤ 1000) (hm : ∀ m ∈ M, m.length ≤ 100) (hrel : Rel M O mir)
    (hR : RtAt b0 w p v mp vs M mir) (hX : XAt n₀ base w mv ov vs2 M O) (hn₀ : n₀ ≤ w.heap.size) :
    Calls Try.prog 18 #[.pointer (some ⟨p, 0, none⟩), .agg #[mv, ov]] w fun e w' => e = .returned (.bool true) ∧ Below w.heap.size w w' := by
  have HR := Lib.hid hR
  have HX := Lib.hid hX
  have HM := Lib.hid hm
  have HREL := Lib.hid hrel
  obtain ⟨A0, c0, hmv, _⟩ := own_form hX.mrow
  obtain ⟨A1, c1, hov, _⟩ := own_form hX.orow
  subst hmv; subst hov
  have CLEN := fun W (hb : Below w.heap.size w W) => len_any b0 p v mp vs M mir W (HR.out.step hb)
  have COF := fun i W (hb : Below w.heap.size w W) => of_any b0 p v mp vs M mir i W (HR.out.step hb)
  have CAT := fun i W (hb : Below w.heap.size w W) => at_any b0 p v mp vs M mir i W hM hm (HR.out.step hb)
  have HB0 := Lib.hid (LB.made w (.slice A0 M.length c0) (.slice A1 O.length c1))
  clear hR hX hrel hm
  go_enter Try.func18, Try.ntmps18
  go_upto_region 1 with fail
  have HB1 : Hid (LB w (.slice A0 M.length c0) (.slice A1 O.length c1) (w.alloc (.cells #[.slice A0 M.length c0, .slice A1 O.length c1] 44)).drew) := Lib.hid (HB0.out.step (below_drewN (Below.refl _ _) 1))
  generalize w.alloc (.cells #[.slice A0 M.length c0, .slice A1 O.length c1] 44) = W0 at HB1 ⊢
  clear HB0
  refine wp_region_held_drew (S := fun W => W.cell? ⟨w.heap.size, 0, none⟩ = some (.slice A0 M.length c0)) (by kernel_rfl) (two HB1.out.2).1 (fun hHeld => ?_)
  generalize W0.drew = W1 at HB1 hHeld ⊢
  refine tk 0 (v := ?_) rfl (by kernel_rfl) (fun _ _ _ h => h) ?_ hHeld ?_
  rotate_left
  · (intro W hSw; (try dsimp only at hSw); go_simp; try with_reducible rfl)
  refine tk 2 (v := ?_) rfl (by kernel_rfl) (fun _ _ _ h => h) ?_ hHeld ?_
  rotate_left
  · (intro W hSw; (try dsimp only at hSw); go_simp; try with_reducible rfl)
  refine tk 3 (v := ?_) rfl (by kernel_rfl) (fun _ _ _ h => h) ?_ hHeld ?_
  rotate_left
  · (intro W hSw; (try dsimp only at hSw); go_simp; try with_reducible rfl)
  refine tk 4 (v := ?_) rfl (by kernel_rfl) (fun _ _ _ h => h) ?_ hHeld ?_
  rotate_left
  · (intro W hSw; (try dsimp only at hSw); go_simp; try with_reducible rfl)
  refine wpAnyH_ready (rs := [1]) (by kernel_rfl) (by simp) ?_
  refine AllReadyH.cons rfl (fun K hK => ?_) AllReadyH.nil
  go_simp
  refine (CLEN _ HB1.out.1).mono ?_
  rintro e W2 ⟨rfl, hb2⟩
  have HB2 := Lib.hid (HB1.out.step hb2)
  clear hHeld hb2 HB1
  go_wp2_with fail
  refine hK.out _ _ (two HB2.out.2).1 (fun hHeld => ?_)
  clear hK K
  refine tk 5 (v := ?_) rfl (by kernel_rfl) (fun _ _ _ h => h) ?_ hHeld ?_
  rotate_left
  · (intro W hSw; (try dsimp only at hSw); go_simp; try with_reducible rfl)
  clear hHeld
  refine wpAnyH_done (by kernel_rfl) ?_ _
  go_wp2_with fail
  go_loopw [5] (fun iv wr => ∃ (i : Nat), iv = .int .i64 i ∧ i ≤ M.length ∧ Hid (LB w (.slice A0 M.length c0) (.slice A1 O.length c1) wr)) (fun iv _ => M.length - (intOf iv).toNat)
  case atStart => exact ⟨0, rfl, by omega, HB2⟩
  case round =>
    obtain ⟨i, rfl, hi, HB⟩ := hrel
    obtain ⟨b0', b1, _, _⟩ := two HB.out.2
    by_cases hlt : i < M.length
    · obtain ⟨g, cg, A, c, hv, hgl, hcell0, hrow0⟩ := HX.out.nth hlt
      simp only [Value.slice.injEq] at hv
      obtain ⟨rfl, _, rfl⟩ := hv
      have hOl : i < O.length := by rw [HREL.out.len]; exact hlt
      obtain ⟨go, co, hov, hgol, _, hoc0⟩ := own_at HX.out.orow (ints_at hOl)
      simp only [Value.slice.injEq] at hov
      obtain ⟨rfl, _, rfl⟩ := hov
      have HC0 := Lib.hid hcell0
      have HRW0 := Lib.hid hrow0
      have HOC0 := Lib.hid hoc0
      have hlm := HM.out _ (List.getElem_mem hlt)
      have hat : atL M i = M[i] := by unfold atL; rw [if_pos (by omega)]; simp [List.getD, hlt]
      have hz := HREL.out.at_ i hlt
      obtain ⟨z, hzz⟩ : ∃ z, z = O.getD i 0 := ⟨_, rfl⟩
      rw [← hzz] at hz HOC0
      have hd : decide ((i : Int) < (M.length : Int)) = true := decide_eq_true (by omega)
      have i1 : (0 : Int) ≤ (i : Int) := by omega
      have i2 : (i : Int) < (M.length : Int) := by omega
      have hoi : (i : Int) < (O.length : Int) := by omega
      have CO := COF i
      have CA := CAT i
      rw [hat] at CA
      clear hcell0 hrow0 hoc0 hat hzz
      generalize M[i] = m at CA HC0 HRW0 hlm
      cases hl : lk mir (i : Int) with
      | none =>
        rw [hl] at CO hz
        simp only [Option.getD_none, Option.isSome_none] at CO hz
        subst hz
        go_wp2_with fail
        refine (CO _ HB.out.1).mono ?_
        rintro e W2 ⟨rfl, rfl⟩
        have HB5 : Hid (LB w (.slice (some ⟨g, 0, none⟩) M.length c0) (.slice (some ⟨go, 0, none⟩) O.length c1) W2.drew) := Lib.hid (HB.out.step (below_drewN (Below.refl _ _) 1))
        go_upto_region 7 with fail
        refine wp_region_held_drew (S := fun W => W.cell? ⟨w.heap.size, 0, none⟩ = some (.slice (some ⟨g, 0, none⟩) M.length c0) ∧ W.cell? ⟨w.heap.size, 1, none⟩ = some (.slice (some ⟨go, 0, none⟩) O.length c1) ∧ W.cell? ⟨g, i, none⟩ = some (.slice A m.length c) ∧ W.cell? ⟨go, i, none⟩ = some (.int .i64 (-1))) (by kernel_rfl) ⟨b0', b1, below_cell HB5.out.1 HC0.out, below_cell HB5.out.1 HOC0.out⟩ (fun hHeld => ?_)
        clear HB b0' b1 CO
        generalize W2.drew = W5 at HB5 hHeld ⊢
        refine tk 0 (v := ?_) rfl (by kernel_rfl) (fun _ _ _ h => h) ?_ hHeld ?_
        rotate_left
        · (intro W hSw; (try dsimp only at hSw); go_simp; try with_reducible rfl)
        refine tk 1 (v := ?_) rfl (by kernel_rfl) (fun _ _ _ h => h) ?_ hHeld ?_
        rotate_left
        · (intro W hSw; (try dsimp only at hSw); go_simp; try with_reducible rfl)
        refine tk 3 (v := ?_) rfl (by kernel_rfl) (fun _ _ _ h => h) ?_ hHeld ?_
        rotate_left
        · (intro W hSw; (try dsimp only at hSw); go_simp; try with_reducible rfl)
        refine tk 4 (v := ?_) rfl (by kernel_rfl) (fun _ _ _ h => h) ?_ hHeld ?_
        rotate_left
        · (intro W hSw; (try dsimp only at hSw); go_simp; try with_reducible rfl)
        refine tk 5 (v := ?_) rfl (by kernel_rfl) (fun _ _ _ h => h) ?_ hHeld ?_
        rotate_left
        · (intro W hSw; (try dsimp only at hSw); go_simp; try with_reducible rfl)
        refine tk 6 (v := ?_) rfl (by kernel_rfl) (fun _ _ _ h => h) ?_ hHeld ?_
        rotate_left
        · (intro W hSw; (try dsimp only at hSw); go_simp; try with_reducible rfl)
        refine tk 7 (v := ?_) rfl (by kernel_rfl) (fun _ _ _ h => h) ?_ hHeld ?_
        rotate_left
        · (intro W hSw; (try dsimp only at hSw); go_simp; try with_reducible rfl)
        refine wpAnyH_ready (rs := [2]) (by kernel_rfl) (by simp) ?_
        refine AllReadyH.cons rfl (fun K hK => ?_) AllReadyH.nil
        go_simp
        refine (CA _ HB5.out.1).mono ?_
        rintro e W6 ⟨u, rfl, ho, hb6⟩
        obtain ⟨A6, c6, hu, _, hrow6⟩ := ho.row
        subst hu
        have hS6 := And.intro (below_cell hb6 hHeld.1) (And.intro (below_cell hb6 hHeld.2.1) (And.intro (below_cell hb6 hHeld.2.2.1) (below_cell hb6 hHeld.2.2.2)))
        have HB6 := Lib.hid (HB5.out.step hb6)
        have CS := rsame_any m m A6 A m.length m.length c6 c W6.heap.size n₀ W6 (RLow.of hrow6) (HRW0.out.below HB6.out.1 hn₀) (by omega)
        rw [show decide (m = m) = true by simp] at CS
        clear hb6 HB5 hHeld ho hrow6
        go_wp2_with fail
        refine hK.out _ _ hS6 (fun hHeld => ?_)
        clear hK K
        refine wpAnyH_ready (rs := [8]) (by kernel_rfl) (by simp) ?_
        refine AllReadyH.cons rfl (fun K hK => ?_) AllReadyH.nil
        go_simp
        refine CS.mono ?_
        rintro e W7 ⟨rfl, q, rfl⟩
        have HB7 := Lib.hid (HB6.out.step (below_drewN (Below.refl _ _) q))
        clear CS HB6 hHeld
        go_wp2_with fail
        refine hK.out _ _ hS6 (fun hHeld => ?_)
        clear hK K
        refine tk 9 (v := ?_) rfl (by kernel_rfl) (fun _ _ _ h => h) ?_ hHeld ?_
        rotate_left
        · (intro W hSw; (try dsimp only at hSw); go_simp; try with_reducible rfl)
        refine tk 10 (v := ?_) rfl (by kernel_rfl) (fun _ _ _ h => h) ?_ hHeld ?_
        rotate_left
        · (intro W hSw; (try dsimp only at hSw); go_simp; try with_reducible rfl)
        refine tk 11 (v := ?_) rfl (by kernel_rfl) (fun _ _ _ h => h) ?_ hHeld ?_
        rotate_left
        · (intro W hSw; (try dsimp only at hSw); go_simp; try with_reducible rfl)
        refine tk 12 (v := ?_) rfl (by kernel_rfl) (fun _ _ _ h => h) ?_ hHeld ?_
        rotate_left
        · (intro W hSw; (try dsimp only at hSw); go_simp; try with_reducible rfl)
        refine tk 13 (v := ?_) rfl (by kernel_rfl) (fun _ _ _ h => h) ?_ hHeld ?_
        rotate_left
        · (intro W hSw; (try dsimp only at hSw); go_simp; try with_reducible rfl)
        refine tk 14 (v := ?_) rfl (by kernel_rfl) (fun _ _ _ h => h) ?_ hHeld ?_
        rotate_left
        · (intro W hSw; (try dsimp only at hSw); go_simp; try with_reducible rfl)
        refine tk 15 (v := ?_) rfl (by kernel_rfl) (fun _ _ _ h => h) ?_ hHeld ?_
        rotate_left
        · (intro W hSw; (try dsimp only at hSw); go_simp; try with_reducible rfl)
        refine tk 16 (v := ?_) rfl (by kernel_rfl) (fun _ _ _ h => h) ?_ hHeld ?_
        rotate_left
        · (intro W hSw; (try dsimp only at hSw); go_simp; try with_reducible rfl)
        refine tk 17 (v := ?_) rfl (by kernel_rfl) (fun _ _ _ h => h) ?_ hHeld ?_
        rotate_left
        · (intro W hSw; (try dsimp only at hSw); go_simp; try with_reducible rfl)
        refine tk 18 (v := ?_) rfl (by kernel_rfl) (fun _ _ _ h => h) ?_ hHeld ?_
        rotate_left
        · (intro W hSw; (try dsimp only at hSw); go_simp; try with_reducible rfl)
        refine wpAnyH_ready (rs := [19]) (by kernel_rfl) (by simp) ?_
        refine AllReadyH.cons rfl (fun K hK => ?_) AllReadyH.nil
        go_simp
        refine hK.out _ _ hS6 (fun hHeld => ?_)
        clear hK K
        refine tk 20 (v := ?_) rfl (by kernel_rfl) (fun _ _ _ h => h) ?_ hHeld ?_
        rotate_left
        · (intro W hSw; (try dsimp only at hSw); go_simp; try with_reducible rfl)
        refine tk 21 (v := ?_) rfl (by kernel_rfl) (fun _ _ _ h => h) ?_ hHeld ?_
        rotate_left
        · (intro W hSw; (try dsimp only at hSw); go_simp; try with_reducible rfl)
        refine tk 22 (v := ?_) rfl (by kernel_rfl) (fun _ _ _ h => h) ?_ hHeld ?_
        rotate_left
        · (intro W hSw; (try dsimp only at hSw); go_simp; try with_reducible rfl)
        refine tk 23 (v := ?_) rfl (by kernel_rfl) (fun _ _ _ h => h) ?_ hHeld ?_
        rotate_left
        · (intro W hSw; (try dsimp only at hSw); go_simp; try with_reducible rfl)
        refine tk 24 (v := ?_) rfl (by kernel_rfl) (fun _ _ _ h => h) ?_ hHeld ?_
        rotate_left
        · (intro W hSw; (try dsimp only at hSw); go_simp; try with_reducible rfl)
        refine tk 25 (v := ?_) rfl (by kernel_rfl) (fun _ _ _ h => h) ?_ hHeld ?_
        rotate_left
        · (intro W hSw; (try dsimp only at hSw); go_simp; try with_reducible rfl)
        refine tk 26 (v := ?_) rfl (by kernel_rfl) (fun _ _ _ h => h) ?_ hHeld ?_
        rotate_left
        · (intro W hSw; (try dsimp only at hSw); go_simp; try with_reducible rfl)
        refine tk 27 (v := ?_) rfl (by kernel_rfl) (fun _ _ _ h => h) ?_ hHeld ?_
        rotate_left
        · (intro W hSw; (try dsimp only at hSw); go_simp; try with_reducible rfl)
        refine tk 28 (v := ?_) rfl (by kernel_rfl) (fun _ _ _ h => h) ?_ hHeld ?_
        rotate_left
        · (intro W hSw; (try dsimp only at hSw); go_simp; try with_reducible rfl)
        refine wpAnyH_ready (rs := [29]) (by kernel_rfl) (by simp) ?_
        refine AllReadyH.cons rfl (fun K hK => ?_) AllReadyH.nil
        go_simp
        refine hK.out _ _ hS6 (fun hHeld => ?_)
        clear hK K hS6
        clear hHeld
        refine wpAnyH_done (by kernel_rfl) ?_ _
        go_wp2_with fail
        go_roundw
        case measure => simp only [intOf]; omega
        case rel => exact ⟨i + 1, by push_cast; rfl, by omega, HB7⟩
      | some j =>
        have hjb := (HREL.out.bound _ (lk_some hl)).2
        simp only at hjb
        rw [hl] at CO hz
        simp only [Option.getD_some, Option.isSome_some] at CO hz
        subst hz
        have hz0 : decide (z ≥ 0) = true := decide_eq_true (by omega)
        have hz1 : decide (0 ≤ z) = true := decide_eq_true (by omega)
        have hmax : max z 0 = z := by omega
        have hmax2 : ¬ z < 0 := by omega
        go_wp2_with fail
        refine (CO _ HB.out.1).mono ?_
        rintro e W2 ⟨rfl, rfl⟩
        have HB5 : Hid (LB w (.slice (some ⟨g, 0, none⟩) M.length c0) (.slice (some ⟨go, 0, none⟩) O.length c1) W2.drew) := Lib.hid (HB.out.step (below_drewN (Below.refl _ _) 1))
        go_upto_region 7 with fail
        refine wp_region_held_drew (S := fun W => W.cell? ⟨w.heap.size, 0, none⟩ = some (.slice (some ⟨g, 0, none⟩) M.length c0) ∧ W.cell? ⟨w.heap.size, 1, none⟩ = some (.slice (some ⟨go, 0, none⟩) O.length c1) ∧ W.cell? ⟨g, i, none⟩ = some (.slice A m.length c) ∧ W.cell? ⟨go, i, none⟩ = some (.int .i64 z)) (by kernel_rfl) ⟨b0', b1, below_cell HB5.out.1 HC0.out, below_cell HB5.out.1 HOC0.out⟩ (fun hHeld => ?_)
        clear HB b0' b1 CO
        generalize W2.drew = W5 at HB5 hHeld ⊢
        refine tk 0 (v := ?_) rfl (by kernel_rfl) (fun _ _ _ h => h) ?_ hHeld ?_
        rotate_left
        · (intro W hSw; (try dsimp only at hSw); go_simp; try with_reducible rfl)
        refine tk 1 (v := ?_) rfl (by kernel_rfl) (fun _ _ _ h => h) ?_ hHeld ?_
        rotate_left
        · (intro W hSw; (try dsimp only at hSw); go_simp; try with_reducible rfl)
        refine tk 3 (v := ?_) rfl (by kernel_rfl) (fun _ _ _ h => h) ?_ hHeld ?_
        rotate_left
        · (intro W hSw; (try dsimp only at hSw); go_simp; try with_reducible rfl)
        refine tk 4 (v := ?_) rfl (by kernel_rfl) (fun _ _ _ h => h) ?_ hHeld ?_
        rotate_left
        · (intro W hSw; (try dsimp only at hSw); go_simp; try with_reducible rfl)
        refine tk 5 (v := ?_) rfl (by kernel_rfl) (fun _ _ _ h => h) ?_ hHeld ?_
        rotate_left
        · (intro W hSw; (try dsimp only at hSw); go_simp; try with_reducible rfl)
        refine tk 6 (v := ?_) rfl (by kernel_rfl) (fun _ _ _ h => h) ?_ hHeld ?_
        rotate_left
        · (intro W hSw; (try dsimp only at hSw); go_simp; try with_reducible rfl)
        refine tk 7 (v := ?_) rfl (by kernel_rfl) (fun _ _ _ h => h) ?_ hHeld ?_
        rotate_left
        · (intro W hSw; (try dsimp only at hSw); go_simp; try with_reducible rfl)
        refine wpAnyH_ready (rs := [2]) (by kernel_rfl) (by simp) ?_
        refine AllReadyH.cons rfl (fun K hK => ?_) AllReadyH.nil
        go_simp
        refine (CA _ HB5.out.1).mono ?_
        rintro e W6 ⟨u, rfl, ho, hb6⟩
        obtain ⟨A6, c6, hu, _, hrow6⟩ := ho.row
        subst hu
        have hS6 := And.intro (below_cell hb6 hHeld.1) (And.intro (below_cell hb6 hHeld.2.1) (And.intro (below_cell hb6 hHeld.2.2.1) (below_cell hb6 hHeld.2.2.2)))
        have HB6 := Lib.hid (HB5.out.step hb6)
        have CS := rsame_any m m A6 A m.length m.length c6 c W6.heap.size n₀ W6 (RLow.of hrow6) (HRW0.out.below HB6.out.1 hn₀) (by omega)
        rw [show decide (m = m) = true by simp] at CS
        clear hb6 HB5 hHeld ho hrow6
        go_wp2_with fail
        refine hK.out _ _ hS6 (fun hHeld => ?_)
        clear hK K
        refine wpAnyH_ready (rs := [8]) (by kernel_rfl) (by simp) ?_
        refine AllReadyH.cons rfl (fun K hK => ?_) AllReadyH.nil
        go_simp
        refine CS.mono ?_
        rintro e W7 ⟨rfl, q, rfl⟩
        have HB7 := Lib.hid (HB6.out.step (below_drewN (Below.refl _ _) q))
        clear CS HB6 hHeld
        go_wp2_with fail
        refine hK.out _ _ hS6 (fun hHeld => ?_)
        clear hK K
        refine tk 9 (v := ?_) rfl (by kernel_rfl) (fun _ _ _ h => h) ?_ hHeld ?_
        rotate_left
        · (intro W hSw; (try dsimp only at hSw); go_simp; try with_reducible rfl)
        refine tk 10 (v := ?_) rfl (by kernel_rfl) (fun _ _ _ h => h) ?_ hHeld ?_
        rotate_left
        · (intro W hSw; (try dsimp only at hSw); go_simp; try with_reducible rfl)
        refine tk 11 (v := ?_) rfl (by kernel_rfl) (fun _ _ _ h => h) ?_ hHeld ?_
        rotate_left
        · (intro W hSw; (try dsimp only at hSw); go_simp; try with_reducible rfl)
        refine tk 12 (v := ?_) rfl (by kernel_rfl) (fun _ _ _ h => h) ?_ hHeld ?_
        rotate_left
        · (intro W hSw; (try dsimp only at hSw); go_simp; try with_reducible rfl)
        refine tk 13 (v := ?_) rfl (by kernel_rfl) (fun _ _ _ h => h) ?_ hHeld ?_
        rotate_left
        · (intro W hSw; (try dsimp only at hSw); go_simp; try with_reducible rfl)
        refine tk 14 (v := ?_) rfl (by kernel_rfl) (fun _ _ _ h => h) ?_ hHeld ?_
        rotate_left
        · (intro W hSw; (try dsimp only at hSw); go_simp; try with_reducible rfl)
        refine tk 15 (v := ?_) rfl (by kernel_rfl) (fun _ _ _ h => h) ?_ hHeld ?_
        rotate_left
        · (intro W hSw; (try dsimp only at hSw); go_simp; try with_reducible rfl)
        refine tk 16 (v := ?_) rfl (by kernel_rfl) (fun _ _ _ h => h) ?_ hHeld ?_
        rotate_left
        · (intro W hSw; (try dsimp only at hSw); go_simp; try with_reducible rfl)
        refine tk 17 (v := ?_) rfl (by kernel_rfl) (fun _ _ _ h => h) ?_ hHeld ?_
        rotate_left
        · (intro W hSw; (try dsimp only at hSw); go_simp; try with_reducible rfl)
        refine tk 18 (v := ?_) rfl (by kernel_rfl) (fun _ _ _ h => h) ?_ hHeld ?_
        rotate_left
        · (intro W hSw; (try dsimp only at hSw); go_simp; try with_reducible rfl)
        refine wpAnyH_ready (rs := [19]) (by kernel_rfl) (by simp) ?_
        refine AllReadyH.cons rfl (fun K hK => ?_) AllReadyH.nil
        go_simp
        refine hK.out _ _ hS6 (fun hHeld => ?_)
        clear hK K
        refine tk 20 (v := ?_) rfl (by kernel_rfl) (fun _ _ _ h => h) ?_ hHeld ?_
        rotate_left
        · (intro W hSw; (try dsimp only at hSw); go_simp; try with_reducible rfl)
        refine tk 21 (v := ?_) rfl (by kernel_rfl) (fun _ _ _ h => h) ?_ hHeld ?_
        rotate_left
        · (intro W hSw; (try dsimp only at hSw); go_simp; try with_reducible rfl)
        refine tk 22 (v := ?_) rfl (by kernel_rfl) (fun _ _ _ h => h) ?_ hHeld ?_
        rotate_left
        · (intro W hSw; (try dsimp only at hSw); go_simp; try with_reducible rfl)
        refine tk 23 (v := ?_) rfl (by kernel_rfl) (fun _ _ _ h => h) ?_ hHeld ?_
        rotate_left
        · (intro W hSw; (try dsimp only at hSw); go_simp; try with_reducible rfl)
        refine tk 24 (v := ?_) rfl (by kernel_rfl) (fun _ _ _ h => h) ?_ hHeld ?_
        rotate_left
        · (intro W hSw; (try dsimp only at hSw); go_simp; try with_reducible rfl)
        refine tk 25 (v := ?_) rfl (by kernel_rfl) (fun _ _ _ h => h) ?_ hHeld ?_
        rotate_left
        · (intro W hSw; (try dsimp only at hSw); go_simp; try with_reducible rfl)
        refine tk 26 (v := ?_) rfl (by kernel_rfl) (fun _ _ _ h => h) ?_ hHeld ?_
        rotate_left
        · (intro W hSw; (try dsimp only at hSw); go_simp; try with_reducible rfl)
        refine tk 27 (v := ?_) rfl (by kernel_rfl) (fun _ _ _ h => h) ?_ hHeld ?_
        rotate_left
        · (intro W hSw; (try dsimp only at hSw); go_simp; try with_reducible rfl)
        refine tk 28 (v := ?_) rfl (by kernel_rfl) (fun _ _ _ h => h) ?_ hHeld ?_
        rotate_left
        · (intro W hSw; (try dsimp only at hSw); go_simp; try with_reducible rfl)
        refine wpAnyH_ready (rs := [29]) (by kernel_rfl) (by simp) ?_
        refine AllReadyH.cons rfl (fun K hK => ?_) AllReadyH.nil
        go_simp
        refine hK.out _ _ hS6 (fun hHeld => ?_)
        clear hK K hS6
        clear hHeld
        refine wpAnyH_done (by kernel_rfl) ?_ _
        go_wp2_with fail
        go_roundw
        case measure => simp only [intOf]; omega
        case rel => exact ⟨i + 1, by push_cast; rfl, by omega, HB7⟩
    · have d1 : decide ((i : Int) < (M.length : Int)) = false := decide_eq_false (by omega)
      have CO := COF (M.length : Int)
      rw [lk_out HREL.out (.inr (Int.le_refl _))] at CO
      simp only [Option.getD_none, Option.isSome_none] at CO
      have CA1 := CAT (-1)
      rw [show atL M (-1) = [] by unfold atL; rw [if_neg (by omega)]] at CA1
      have CA2 := CAT (M.length : Int)
      rw [show atL M (M.length : Int) = [] by unfold atL; rw [if_neg (by omega)]] at CA2
      go_wp2_with fail
      refine (CO _ HB.out.1).mono ?_
      rintro e W2 ⟨rfl, rfl⟩
      clear CO
      go_wp2_with fail
      refine (CA1 _ HB.out.1).mono ?_
      rintro e W3 ⟨u, rfl, ho, hb3⟩
      obtain ⟨A3, c3, hu, _⟩ := ho.row
      subst hu
      have HB3 := Lib.hid (HB.out.step hb3)
      obtain ⟨q0, q1, _, _⟩ := two HB3.out.2
      clear hb3 ho CA1 HB b0' b1
      go_wp2_with fail
      refine (CA2 _ HB3.out.1).mono ?_
      rintro e W4 ⟨u, rfl, ho, hb4⟩
      obtain ⟨A4, c4, hu, _⟩ := ho.row
      subst hu
      have HB4 := Lib.hid (HB3.out.step hb4)
      clear hb4 ho CA2 HB3 q0 q1
      go_wp2
      go_ret
      exact ⟨rfl, HB4.out.1⟩
end Go.Proofs.Ytmpcnnpekbbchaa.Rt
