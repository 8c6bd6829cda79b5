/- Walk of the law RouteTells. -/
import Derived.Test.YtmpcnnpekbbchaaRtV
import Derived.Test.YtmpcnnpekbbchaaRtW
import Derived.Test.YtmpcnnpekbbchaaEqPl
namespace Go.Proofs.Ytmpcnnpekbbchaa.Rt
open Go.RowKit Mem Sm
set_option linter.unusedVariables false

theorem RLow.lift' {n₀ k : Nat} {W : World} {A : Option Addr} {m : Nat} {l : List Rg} (h : RLow n₀ W A m l) (hk : n₀ ≤ k) : RLow k W A m l := h.lift hk
theorem MLow.lift {n₀ k n : Nat} {W : World} {A : Option Addr} {l : List Mi} (h : MLow n₀ W A n l) (hk : n₀ ≤ k) : MLow k W A n l :=
  ⟨h.1, fun hn => by
    obtain ⟨b, off, e, hl, hc⟩ := h.2 hn
    exact ⟨b, off, e, by omega, fun i hi => by
      obtain ⟨A, c, h0, h1, h2⟩ := hc i hi
      exact ⟨A, c, h0, h1, h2.lift hk⟩⟩⟩
theorem below_heap {W W' : World} (hb : Below W.heap.size W W') {k : Nat} {o : Obj} (h : W.heap[k]? = some o) : W'.heap[k]? = some o := by
  rw [hb.block _ (lt_some h)]; exact h
set_option maxRecDepth 100000 in
set_option maxHeartbeats 8000000 in
theorem tells_walk (A : Option Addr) (n c : Nat) (l : List Mi) (pos side : Int) (w : World) (hr : MLow w.heap.size w A n l) (hn : n ≤ maxLen) :
    Calls Try.prog 3 #[.slice A n c, .int .i64 pos, .int .i64 side] w fun e w' => e = .returned (.bool true) ∧ Below w.heap.size w w' := by
  have HR := Lib.hid hr
  have LV := fun W => live_any W
  clear hr
  go_enter Try.func3, Try.ntmps3
  go_wp2_with fail
  refine (nil_of _ _).mono ?_
  rintro e w1 ⟨rfl, hb1⟩
  have HB1 := Lib.hid hb1
  clear hb1
  go_wp2_with fail
  refine (nil_tell _ _ _).mono ?_
  rintro e w2 ⟨rfl, hb2⟩
  unfold plV
  have HB2 := Lib.hid ((HB1.out.trans (hb2.mono HB1.out.size)).alloc (by have := hb2.size; have := HB1.out.size; omega) (.cells #[.int .i64 0, .bool false, .bool false, .int .i64 0, .int .i64 0] 27))
  clear hb2 HB1
  go_wp2_with fail
  refine (nil_add _ _ _ _).mono ?_
  rintro e w3 ⟨rfl, hb3⟩
  have HB3 := Lib.hid (HB2.out.trans (hb3.mono HB2.out.size))
  clear hb3 HB2
  go_wp2_with fail
  refine (nil_mirror _ _ _ _ _).mono ?_
  rintro e w4 ⟨rfl, hb4⟩
  have HB4 := Lib.hid (HB3.out.trans (hb4.mono HB3.out.size))
  clear hb4 HB3
  go_wp2_with fail
  refine (nil_len _).mono ?_
  rintro e w5 ⟨rfl, hb5⟩
  have HB5 := Lib.hid (HB4.out.trans (hb5.mono HB4.out.size))
  clear hb5 HB4
  go_wp2_with fail
  refine (nil_at _ _ (by omega)).mono ?_
  rintro e w6 ⟨rfl, hb6⟩
  have HB6 := Lib.hid (HB5.out.trans (hb6.mono HB5.out.size))
  clear hb6 HB5
  go_wp2_with fail
  refine (nil_pos _ _ _).mono ?_
  rintro e w7 ⟨rfl, hb7⟩
  have HB7 := Lib.hid (HB6.out.trans (hb7.mono HB6.out.size))
  clear hb7 HB6
  go_wp2_with fail
  refine (nil_from _ _).mono ?_
  rintro e wf ⟨rfl, hbf⟩
  have HBf := Lib.hid (HB7.out.trans (hbf.mono HB7.out.size))
  clear hbf HB7
  go_wp2_with fail
  refine (nil_invert _).mono ?_
  rintro e wi ⟨rfl, hbi⟩
  have HBi := Lib.hid (HBf.out.trans (hbi.mono HBf.out.size))
  clear hbi HBf
  have CF := few_any l A n c wi ((HR.out.below HBi.out (Nat.le_refl _)).lift HBi.out.size)
  go_wp2_with fail
  refine CF.mono ?_
  rintro e w8 ⟨rfl, hb8⟩
  have HB8 := Lib.hid (HBi.out.trans (hb8.mono HBi.out.size))
  clear hb8 CF HBi
  cases hfb : fewB l with
  | false =>
    go_wp2_with (go_at_call 16; refine (LV _).mono ?_; rintro e w2 ⟨rfl, hb⟩)
    go_ret
    exact ⟨rfl, HB8.out.trans (hb.mono HB8.out.size)⟩
  | true =>
    have CL := fill_any A n c l w8 ((HR.out.below HB8.out (Nat.le_refl _)).lift HB8.out.size) (few_of hfb)
    clear hfb
    go_wp2_with fail
    refine CL.mono ?_
    rintro e w9 ⟨p, v, mp, mv, ov, vs, vs2, M, O, mir, rfl, h9⟩
    obtain ⟨A8, c8, hm8, _⟩ := own_form h9.xt.mrow
    obtain ⟨A9, c9, hm9, _⟩ := own_form h9.xt.orow
    subst hm8; subst hm9
    have hba : Below w9.heap.size w9 (w9.alloc (.cells #[.slice A8 M.length c8, .slice A9 O.length c9] 44)) := (Below.refl _ _).alloc (Nat.le_refl _) _
    have HE9 := Lib.hid (h9.step hba)
    have hx9 := heap_alloc_new w9 (.cells #[.slice A8 M.length c8, .slice A9 O.length c9] 44)
    obtain ⟨X, hX⟩ : ∃ x, x = w9.heap.size := ⟨_, rfl⟩
    clear CL h9 hba
    have hM := HE9.out.len
    have hRT := HE9.out.right
    have hml : ∀ m ∈ M, m.length ≤ 100 := fun m hm => by have := (hRT m hm).1; omega
    have hm1 : ∀ m ∈ M, m.length ≤ 100 ∧ rightB m = true := fun m hm => ⟨by have := (hRT m hm).1; omega, (hRT m hm).2⟩
    have hmir : ∀ x ∈ mir, 0 ≤ x.2 ∧ x.2 < M.length := fun x hx => (HE9.out.rel.bound x hx).2
    have CA := alike_any w8.heap.size w8.heap.size p p v mp (.slice A8 M.length c8) (.slice A9 O.length c9) vs vs2 M O mir _ (by omega) hml HE9.out.rel HE9.out.rt HE9.out.xt HE9.out.below.size
    have CT0 := fun W (h : FE w8 W p v mp (.slice A8 M.length c8) (.slice A9 O.length c9) vs vs2 M O mir) => rttell_any p p v mp vs M mir pos side W (by omega) hm1 hmir h.rt
    have CP0 := fun W (h : FE w8 W p v mp (.slice A8 M.length c8) (.slice A9 O.length c9) vs vs2 M O mir) => rtpos_any p p v mp vs M mir pos side W (by omega) hm1 hmir h.rt
    have CX := fun W (h : FE w8 W p v mp (.slice A8 M.length c8) (.slice A9 O.length c9) vs vs2 M O mir) => rrtell_any w8.heap.size w8.heap.size (.slice A8 M.length c8) (.slice A9 O.length c9) vs2 M O mir pos side W (by omega) hm1 HE9.out.rel h.xt h.below.size
    generalize goR M mir side 0 ⟨pos, false, false⟩ = R at CT0 CX CP0
    have HCP := Lib.hid CP0
    have HMM := Lib.hid hM
    clear hRT hml hm1 hmir hM CP0
    obtain ⟨q0, q1, _, _⟩ := two hx9
    go_wp2_with fail
    refine CA.mono ?_
    rintro e w10 ⟨rfl, hb10⟩
    rw [← hX] at hx9 ⊢
    have HE10 := Lib.hid (HE9.out.step hb10)
    have hx10 := below_heap hb10 hx9
    have CT := CT0 w10 HE10.out
    clear hb10 HE9 hx9 q0 q1 CA hX CT0
    cases R with
    | none =>
      unfold endP endE plV at CT
      unfold endP plV at CX
      simp only [Option.isSome_none] at CT CX
      go_wp2_with fail
      refine CT.mono ?_
      rintro e w11 ⟨rfl, hb11⟩
      have HE11 := Lib.hid (HE10.out.step hb11)
      have hx11 := below_heap hb11 hx10
      have HN12 := Lib.hid (heap_alloc_new w11 (.cells #[.int .i64 0, .bool false, .bool false, .int .i64 0, .int .i64 0] 27))
      have hb12 : Below w11.heap.size w11 (w11.alloc (.cells #[.int .i64 0, .bool false, .bool false, .int .i64 0, .int .i64 0] 27)) := (Below.refl _ _).alloc (Nat.le_refl _) _
      have HE12 := Lib.hid (HE11.out.step hb12)
      have hx12 := below_heap hb12 hx11
      obtain ⟨P1, hP1⟩ : ∃ x, x = w11.heap.size := ⟨_, rfl⟩
      obtain ⟨q0, q1, _, _⟩ := two hx12
      clear hb11 hb12 HE11 HE10 hx10 hx11 CT
      have CX' := CX _ HE12.out
      go_wp2_with fail
      refine CX'.mono ?_
      rintro e w13 ⟨rfl, hb13⟩
      rw [← hP1] at HN12 ⊢
      have HE13 := Lib.hid (HE12.out.step hb13)
      have HN13 := Lib.hid (below_heap hb13 HN12.out)
      have HN14 := Lib.hid (heap_alloc_new w13 (.cells #[.int .i64 0, .bool false, .bool false, .int .i64 0, .int .i64 0] 48))
      have hb14 : Below w13.heap.size w13 (w13.alloc (.cells #[.int .i64 0, .bool false, .bool false, .int .i64 0, .int .i64 0] 48)) := (Below.refl _ _).alloc (Nat.le_refl _) _
      have HE14 := Lib.hid (HE13.out.step hb14)
      have HP14 := Lib.hid (below_heap hb14 HN13.out)
      obtain ⟨P2, hP2⟩ : ∃ x, x = w13.heap.size := ⟨_, rfl⟩
      clear hb13 hb14 HE12 HE13 HN12 HN13 hx12 q0 q1 CX CX' hP1
      go_upto_region 16 with fail
      rw [← hP2] at HN14 ⊢
      clear hP2
      generalize w13.alloc (.cells #[.int .i64 0, .bool false, .bool false, .int .i64 0, .int .i64 0] 48) = w14 at HN14 HE14 HP14 ⊢
      have HE15 : Hid (FE w8 w14.drew p v mp (.slice A8 M.length c8) (.slice A9 O.length c9) vs vs2 M O mir) := Lib.hid (HE14.out.step (below_drewN (Below.refl _ _) 1))
      have EQ : ∀ W : World, (Op.equalIn 10000 48 (.agg #[.int .i64 0, .bool false, .bool false, .int .i64 0, .int .i64 0]) (.agg #[.int .i64 0, .bool false, .bool false, .int .i64 0, .int .i64 0])).run Try.prog W = .ok true W := fun W => eq_pl 9998 _ _ _ _ _ W
      have hc := five HP14.out
      have a0 := hc.1
      have a1 := hc.2.1
      have a2 := hc.2.2.1
      have a3 := hc.2.2.2.1
      have a4 := hc.2.2.2.2
      clear hc
      have hc := five HN14.out
      have z0 := hc.1
      have z1 := hc.2.1
      have z2 := hc.2.2.1
      have z3 := hc.2.2.2.1
      have z4 := hc.2.2.2.2
      clear hc
      refine wp_region_held_drew (S := fun W => (W.cell? ⟨P1, 0, none⟩ = some (.int .i64 0) ∧ W.cell? ⟨P1, 1, none⟩ = some (.bool false) ∧ W.cell? ⟨P1, 2, none⟩ = some (.bool false) ∧ W.cell? ⟨P1, 3, none⟩ = some (.int .i64 0) ∧ W.cell? ⟨P1, 4, none⟩ = some (.int .i64 0)) ∧ W.cell? ⟨P2, 0, none⟩ = some (.int .i64 0) ∧ W.cell? ⟨P2, 1, none⟩ = some (.bool false) ∧ W.cell? ⟨P2, 2, none⟩ = some (.bool false) ∧ W.cell? ⟨P2, 3, none⟩ = some (.int .i64 0) ∧ W.cell? ⟨P2, 4, none⟩ = some (.int .i64 0)) (by kernel_rfl) ⟨⟨a0, a1, a2, a3, a4⟩, z0, z1, z2, z3, z4⟩ (fun hHeld => ?_)
      clear HE14 HN14 HP14 a0 a1 a2 a3 a4 z0 z1 z2 z3 z4
      generalize w14.drew = w15 at HE15 hHeld ⊢
      refine tk 0 (v := ?_) rfl (by kernel_rfl) (fun _ _ _ h => h) ?_ hHeld ?_
      rotate_left
      · (intro W hSw; (try dsimp only at hSw); (try obtain ⟨⟨hs1, hs2, hs3, hs4, hs5⟩, hs6, hs7, hs8, hs9, hs10⟩ := hSw); go_simp; try with_reducible rfl)
      refine tk 1 (v := ?_) rfl (by kernel_rfl) (fun _ _ _ h => h) ?_ hHeld ?_
      rotate_left
      · (intro W hSw; (try dsimp only at hSw); (try obtain ⟨⟨hs1, hs2, hs3, hs4, hs5⟩, hs6, hs7, hs8, hs9, hs10⟩ := hSw); go_simp; try with_reducible rfl)
      refine tk 2 (v := ?_) rfl (by kernel_rfl) (fun _ _ _ h => h) ?_ hHeld ?_
      rotate_left
      · (intro W hSw; (try dsimp only at hSw); (try obtain ⟨⟨hs1, hs2, hs3, hs4, hs5⟩, hs6, hs7, hs8, hs9, hs10⟩ := hSw); go_simp; try with_reducible rfl)
      refine tk 3 (v := ?_) rfl (by kernel_rfl) (fun _ _ _ h => h) ?_ hHeld ?_
      rotate_left
      · (intro W hSw; (try dsimp only at hSw); (try obtain ⟨⟨hs1, hs2, hs3, hs4, hs5⟩, hs6, hs7, hs8, hs9, hs10⟩ := hSw); go_simp; try with_reducible rfl)
      refine tk 4 (v := ?_) rfl (by kernel_rfl) (fun _ _ _ h => h) ?_ hHeld ?_
      rotate_left
      · (intro W hSw; (try dsimp only at hSw); (try obtain ⟨⟨hs1, hs2, hs3, hs4, hs5⟩, hs6, hs7, hs8, hs9, hs10⟩ := hSw); go_simp; try with_reducible rfl)
      refine tk 5 (v := ?_) rfl (by kernel_rfl) (fun _ _ _ h => h) ?_ hHeld ?_
      rotate_left
      · (intro W hSw; (try dsimp only at hSw); (try obtain ⟨⟨hs1, hs2, hs3, hs4, hs5⟩, hs6, hs7, hs8, hs9, hs10⟩ := hSw); go_simp; try with_reducible rfl)
      refine tk 6 (v := ?_) rfl (by kernel_rfl) (fun _ _ _ h => h) ?_ hHeld ?_
      rotate_left
      · (intro W hSw; (try dsimp only at hSw); (try obtain ⟨⟨hs1, hs2, hs3, hs4, hs5⟩, hs6, hs7, hs8, hs9, hs10⟩ := hSw); go_simp; try with_reducible rfl)
      have hS7 := hHeld
      refine wpAnyH_ready (rs := [7]) (by kernel_rfl) (by simp) ?_
      refine AllReadyH.cons rfl (fun K hK => ?_) AllReadyH.nil
      go_simp
      refine hK.out _ _ hS7 (fun hHeld => ?_)
      clear hK K
      refine tk 8 (v := ?_) rfl (by kernel_rfl) (fun _ _ _ h => h) ?_ hHeld ?_
      rotate_left
      · (intro W hSw; (try dsimp only at hSw); (try obtain ⟨⟨hs1, hs2, hs3, hs4, hs5⟩, hs6, hs7, hs8, hs9, hs10⟩ := hSw); go_simp; try with_reducible rfl)
      refine tk 9 (v := ?_) rfl (by kernel_rfl) (fun _ _ _ h => h) ?_ hHeld ?_
      rotate_left
      · (intro W hSw; (try dsimp only at hSw); (try obtain ⟨⟨hs1, hs2, hs3, hs4, hs5⟩, hs6, hs7, hs8, hs9, hs10⟩ := hSw); go_simp; try with_reducible rfl)
      refine tk 10 (v := ?_) rfl (by kernel_rfl) (fun _ _ _ h => h) ?_ hHeld ?_
      rotate_left
      · (intro W hSw; (try dsimp only at hSw); (try obtain ⟨⟨hs1, hs2, hs3, hs4, hs5⟩, hs6, hs7, hs8, hs9, hs10⟩ := hSw); go_simp; try with_reducible rfl)
      refine tk 11 (v := ?_) rfl (by kernel_rfl) (fun _ _ _ h => h) ?_ hHeld ?_
      rotate_left
      · (intro W hSw; (try dsimp only at hSw); (try obtain ⟨⟨hs1, hs2, hs3, hs4, hs5⟩, hs6, hs7, hs8, hs9, hs10⟩ := hSw); go_simp; try with_reducible rfl)
      refine tk 13 (v := ?_) rfl (by kernel_rfl) (fun _ _ _ h => h) ?_ hHeld ?_
      rotate_left
      · (intro W hSw; (try dsimp only at hSw); (try obtain ⟨⟨hs1, hs2, hs3, hs4, hs5⟩, hs6, hs7, hs8, hs9, hs10⟩ := hSw); go_simp; try with_reducible rfl)
      refine tk 14 (v := ?_) rfl (by kernel_rfl) (fun _ _ _ h => h) ?_ hHeld ?_
      rotate_left
      · (intro W hSw; (try dsimp only at hSw); (try obtain ⟨⟨hs1, hs2, hs3, hs4, hs5⟩, hs6, hs7, hs8, hs9, hs10⟩ := hSw); go_simp; try with_reducible rfl)
      refine wpAnyH_ready (rs := [12]) (by kernel_rfl) (by simp) ?_
      refine AllReadyH.cons rfl (fun K hK => ?_) AllReadyH.nil
      go_simp
      refine (HCP.out w15 HE15.out).mono ?_
      rintro e w16 ⟨rfl, hb16⟩
      have hS8 := And.intro (And.intro (below_cell hb16 hS7.1.1) (And.intro (below_cell hb16 hS7.1.2.1) (And.intro (below_cell hb16 hS7.1.2.2.1) (And.intro (below_cell hb16 hS7.1.2.2.2.1) (below_cell hb16 hS7.1.2.2.2.2))))) (And.intro (below_cell hb16 hS7.2.1) (And.intro (below_cell hb16 hS7.2.2.1) (And.intro (below_cell hb16 hS7.2.2.2.1) (And.intro (below_cell hb16 hS7.2.2.2.2.1) (below_cell hb16 hS7.2.2.2.2.2)))))
      have HE16 := Lib.hid (HE15.out.step hb16)
      clear hb16 hHeld hS7 HE15
      unfold endP
      go_wp2_with fail
      refine hK.out _ _ hS8 (fun hHeld => ?_)
      clear hK K
      refine tk 15 (v := ?_) rfl (by kernel_rfl) (fun _ _ _ h => h) ?_ hHeld ?_
      rotate_left
      · (intro W hSw; (try dsimp only at hSw); (try obtain ⟨⟨hs1, hs2, hs3, hs4, hs5⟩, hs6, hs7, hs8, hs9, hs10⟩ := hSw); go_simp; try with_reducible rfl)
      refine wpAnyH_ready (rs := [16]) (by kernel_rfl) (by simp) ?_
      refine AllReadyH.cons rfl (fun K hK => ?_) AllReadyH.nil
      go_simp
      refine hK.out _ _ hS8 (fun hHeld => ?_)
      clear hK K
      refine tk 17 (v := ?_) rfl (by kernel_rfl) (fun _ _ _ h => h) ?_ hHeld ?_
      rotate_left
      · (intro W hSw; (try dsimp only at hSw); (try obtain ⟨⟨hs1, hs2, hs3, hs4, hs5⟩, hs6, hs7, hs8, hs9, hs10⟩ := hSw); go_simp; try with_reducible rfl)
      refine wpAnyH_ready (rs := [18]) (by kernel_rfl) (by simp) ?_
      refine AllReadyH.cons rfl (fun K hK => ?_) AllReadyH.nil
      go_simp
      refine (LV _).mono ?_
      rintro e w17 ⟨rfl, hb17⟩
      have hS9 := And.intro (And.intro (below_cell hb17 hS8.1.1) (And.intro (below_cell hb17 hS8.1.2.1) (And.intro (below_cell hb17 hS8.1.2.2.1) (And.intro (below_cell hb17 hS8.1.2.2.2.1) (below_cell hb17 hS8.1.2.2.2.2))))) (And.intro (below_cell hb17 hS8.2.1) (And.intro (below_cell hb17 hS8.2.2.1) (And.intro (below_cell hb17 hS8.2.2.2.1) (And.intro (below_cell hb17 hS8.2.2.2.2.1) (below_cell hb17 hS8.2.2.2.2.2)))))
      have HE17 := Lib.hid (HE16.out.step hb17)
      clear hb17 hHeld hS8 HE16
      go_wp2_with fail
      refine hK.out _ _ hS9 (fun hHeld => ?_)
      clear hK K
      refine wpAnyH_ready (rs := [19]) (by kernel_rfl) (by simp) ?_
      refine AllReadyH.cons rfl (fun K hK => ?_) AllReadyH.nil
      go_simp
      refine hK.out _ _ hS9 (fun hHeld => ?_)
      clear hK K
      refine wpAnyH_ready (rs := [20]) (by kernel_rfl) (by simp) ?_
      refine AllReadyH.cons rfl (fun K hK => ?_) AllReadyH.nil
      go_simp
      refine hK.out _ _ hS9 (fun hHeld => ?_)
      clear hK K hS9 hHeld
      refine wpAnyH_done (by kernel_rfl) ?_ _
      go_wp2
      go_ret
      exact ⟨rfl, HB8.out.trans (HE17.out.below.mono HB8.out.size)⟩
    | some s =>
      obtain ⟨sp, sg, si⟩ := s
      unfold endP endE plV at CT
      unfold endP plV at CX
      simp only [Option.isSome_some] at CT CX
      go_wp2_with fail
      refine CT.mono ?_
      rintro e w11 ⟨rfl, hb11⟩
      have HE11 := Lib.hid (HE10.out.step hb11)
      have hx11 := below_heap hb11 hx10
      have HN12 := Lib.hid (heap_alloc_new w11 (.cells #[.int .i64 sp, .bool sg, .bool si, .int .i64 0, .int .i64 0] 27))
      have hb12 : Below w11.heap.size w11 (w11.alloc (.cells #[.int .i64 sp, .bool sg, .bool si, .int .i64 0, .int .i64 0] 27)) := (Below.refl _ _).alloc (Nat.le_refl _) _
      have HE12 := Lib.hid (HE11.out.step hb12)
      have hx12 := below_heap hb12 hx11
      obtain ⟨P1, hP1⟩ : ∃ x, x = w11.heap.size := ⟨_, rfl⟩
      obtain ⟨q0, q1, _, _⟩ := two hx12
      clear hb11 hb12 HE11 HE10 hx10 hx11 CT
      have CX' := CX _ HE12.out
      go_wp2_with fail
      refine CX'.mono ?_
      rintro e w13 ⟨rfl, hb13⟩
      rw [← hP1] at HN12 ⊢
      have HE13 := Lib.hid (HE12.out.step hb13)
      have HN13 := Lib.hid (below_heap hb13 HN12.out)
      have HN14 := Lib.hid (heap_alloc_new w13 (.cells #[.int .i64 sp, .bool sg, .bool si, .int .i64 0, .int .i64 0] 48))
      have hb14 : Below w13.heap.size w13 (w13.alloc (.cells #[.int .i64 sp, .bool sg, .bool si, .int .i64 0, .int .i64 0] 48)) := (Below.refl _ _).alloc (Nat.le_refl _) _
      have HE14 := Lib.hid (HE13.out.step hb14)
      have HP14 := Lib.hid (below_heap hb14 HN13.out)
      obtain ⟨P2, hP2⟩ : ∃ x, x = w13.heap.size := ⟨_, rfl⟩
      clear hb13 hb14 HE12 HE13 HN12 HN13 hx12 q0 q1 CX CX' hP1
      go_upto_region 16 with fail
      rw [← hP2] at HN14 ⊢
      clear hP2
      generalize w13.alloc (.cells #[.int .i64 sp, .bool sg, .bool si, .int .i64 0, .int .i64 0] 48) = w14 at HN14 HE14 HP14 ⊢
      have HE15 : Hid (FE w8 w14.drew p v mp (.slice A8 M.length c8) (.slice A9 O.length c9) vs vs2 M O mir) := Lib.hid (HE14.out.step (below_drewN (Below.refl _ _) 1))
      have EQ : ∀ W : World, (Op.equalIn 10000 48 (.agg #[.int .i64 sp, .bool sg, .bool si, .int .i64 0, .int .i64 0]) (.agg #[.int .i64 sp, .bool sg, .bool si, .int .i64 0, .int .i64 0])).run Try.prog W = .ok true W := fun W => eq_pl 9998 _ _ _ _ _ W
      have hc := five HP14.out
      have a0 := hc.1
      have a1 := hc.2.1
      have a2 := hc.2.2.1
      have a3 := hc.2.2.2.1
      have a4 := hc.2.2.2.2
      clear hc
      have hc := five HN14.out
      have z0 := hc.1
      have z1 := hc.2.1
      have z2 := hc.2.2.1
      have z3 := hc.2.2.2.1
      have z4 := hc.2.2.2.2
      clear hc
      refine wp_region_held_drew (S := fun W => (W.cell? ⟨P1, 0, none⟩ = some (.int .i64 sp) ∧ W.cell? ⟨P1, 1, none⟩ = some (.bool sg) ∧ W.cell? ⟨P1, 2, none⟩ = some (.bool si) ∧ W.cell? ⟨P1, 3, none⟩ = some (.int .i64 0) ∧ W.cell? ⟨P1, 4, none⟩ = some (.int .i64 0)) ∧ W.cell? ⟨P2, 0, none⟩ = some (.int .i64 sp) ∧ W.cell? ⟨P2, 1, none⟩ = some (.bool sg) ∧ W.cell? ⟨P2, 2, none⟩ = some (.bool si) ∧ W.cell? ⟨P2, 3, none⟩ = some (.int .i64 0) ∧ W.cell? ⟨P2, 4, none⟩ = some (.int .i64 0)) (by kernel_rfl) ⟨⟨a0, a1, a2, a3, a4⟩, z0, z1, z2, z3, z4⟩ (fun hHeld => ?_)
      clear HE14 HN14 HP14 a0 a1 a2 a3 a4 z0 z1 z2 z3 z4
      generalize w14.drew = w15 at HE15 hHeld ⊢
      refine tk 0 (v := ?_) rfl (by kernel_rfl) (fun _ _ _ h => h) ?_ hHeld ?_
      rotate_left
      · (intro W hSw; (try dsimp only at hSw); (try obtain ⟨⟨hs1, hs2, hs3, hs4, hs5⟩, hs6, hs7, hs8, hs9, hs10⟩ := hSw); go_simp; try with_reducible rfl)
      refine tk 1 (v := ?_) rfl (by kernel_rfl) (fun _ _ _ h => h) ?_ hHeld ?_
      rotate_left
      · (intro W hSw; (try dsimp only at hSw); (try obtain ⟨⟨hs1, hs2, hs3, hs4, hs5⟩, hs6, hs7, hs8, hs9, hs10⟩ := hSw); go_simp; try with_reducible rfl)
      refine tk 2 (v := ?_) rfl (by kernel_rfl) (fun _ _ _ h => h) ?_ hHeld ?_
      rotate_left
      · (intro W hSw; (try dsimp only at hSw); (try obtain ⟨⟨hs1, hs2, hs3, hs4, hs5⟩, hs6, hs7, hs8, hs9, hs10⟩ := hSw); go_simp; try with_reducible rfl)
      refine tk 3 (v := ?_) rfl (by kernel_rfl) (fun _ _ _ h => h) ?_ hHeld ?_
      rotate_left
      · (intro W hSw; (try dsimp only at hSw); (try obtain ⟨⟨hs1, hs2, hs3, hs4, hs5⟩, hs6, hs7, hs8, hs9, hs10⟩ := hSw); go_simp; try with_reducible rfl)
      refine tk 4 (v := ?_) rfl (by kernel_rfl) (fun _ _ _ h => h) ?_ hHeld ?_
      rotate_left
      · (intro W hSw; (try dsimp only at hSw); (try obtain ⟨⟨hs1, hs2, hs3, hs4, hs5⟩, hs6, hs7, hs8, hs9, hs10⟩ := hSw); go_simp; try with_reducible rfl)
      refine tk 5 (v := ?_) rfl (by kernel_rfl) (fun _ _ _ h => h) ?_ hHeld ?_
      rotate_left
      · (intro W hSw; (try dsimp only at hSw); (try obtain ⟨⟨hs1, hs2, hs3, hs4, hs5⟩, hs6, hs7, hs8, hs9, hs10⟩ := hSw); go_simp; try with_reducible rfl)
      refine tk 6 (v := ?_) rfl (by kernel_rfl) (fun _ _ _ h => h) ?_ hHeld ?_
      rotate_left
      · (intro W hSw; (try dsimp only at hSw); (try obtain ⟨⟨hs1, hs2, hs3, hs4, hs5⟩, hs6, hs7, hs8, hs9, hs10⟩ := hSw); go_simp; try with_reducible rfl)
      have hS7 := hHeld
      refine wpAnyH_ready (rs := [7]) (by kernel_rfl) (by simp) ?_
      refine AllReadyH.cons rfl (fun K hK => ?_) AllReadyH.nil
      go_simp
      refine hK.out _ _ hS7 (fun hHeld => ?_)
      clear hK K
      refine tk 8 (v := ?_) rfl (by kernel_rfl) (fun _ _ _ h => h) ?_ hHeld ?_
      rotate_left
      · (intro W hSw; (try dsimp only at hSw); (try obtain ⟨⟨hs1, hs2, hs3, hs4, hs5⟩, hs6, hs7, hs8, hs9, hs10⟩ := hSw); go_simp; try with_reducible rfl)
      refine tk 9 (v := ?_) rfl (by kernel_rfl) (fun _ _ _ h => h) ?_ hHeld ?_
      rotate_left
      · (intro W hSw; (try dsimp only at hSw); (try obtain ⟨⟨hs1, hs2, hs3, hs4, hs5⟩, hs6, hs7, hs8, hs9, hs10⟩ := hSw); go_simp; try with_reducible rfl)
      refine tk 10 (v := ?_) rfl (by kernel_rfl) (fun _ _ _ h => h) ?_ hHeld ?_
      rotate_left
      · (intro W hSw; (try dsimp only at hSw); (try obtain ⟨⟨hs1, hs2, hs3, hs4, hs5⟩, hs6, hs7, hs8, hs9, hs10⟩ := hSw); go_simp; try with_reducible rfl)
      refine tk 11 (v := ?_) rfl (by kernel_rfl) (fun _ _ _ h => h) ?_ hHeld ?_
      rotate_left
      · (intro W hSw; (try dsimp only at hSw); (try obtain ⟨⟨hs1, hs2, hs3, hs4, hs5⟩, hs6, hs7, hs8, hs9, hs10⟩ := hSw); go_simp; try with_reducible rfl)
      refine tk 13 (v := ?_) rfl (by kernel_rfl) (fun _ _ _ h => h) ?_ hHeld ?_
      rotate_left
      · (intro W hSw; (try dsimp only at hSw); (try obtain ⟨⟨hs1, hs2, hs3, hs4, hs5⟩, hs6, hs7, hs8, hs9, hs10⟩ := hSw); go_simp; try with_reducible rfl)
      refine tk 14 (v := ?_) rfl (by kernel_rfl) (fun _ _ _ h => h) ?_ hHeld ?_
      rotate_left
      · (intro W hSw; (try dsimp only at hSw); (try obtain ⟨⟨hs1, hs2, hs3, hs4, hs5⟩, hs6, hs7, hs8, hs9, hs10⟩ := hSw); go_simp; try with_reducible rfl)
      refine wpAnyH_ready (rs := [12]) (by kernel_rfl) (by simp) ?_
      refine AllReadyH.cons rfl (fun K hK => ?_) AllReadyH.nil
      go_simp
      refine (HCP.out w15 HE15.out).mono ?_
      rintro e w16 ⟨rfl, hb16⟩
      have hS8 := And.intro (And.intro (below_cell hb16 hS7.1.1) (And.intro (below_cell hb16 hS7.1.2.1) (And.intro (below_cell hb16 hS7.1.2.2.1) (And.intro (below_cell hb16 hS7.1.2.2.2.1) (below_cell hb16 hS7.1.2.2.2.2))))) (And.intro (below_cell hb16 hS7.2.1) (And.intro (below_cell hb16 hS7.2.2.1) (And.intro (below_cell hb16 hS7.2.2.2.1) (And.intro (below_cell hb16 hS7.2.2.2.2.1) (below_cell hb16 hS7.2.2.2.2.2)))))
      have HE16 := Lib.hid (HE15.out.step hb16)
      clear hb16 hHeld hS7 HE15
      unfold endP
      go_wp2_with fail
      refine hK.out _ _ hS8 (fun hHeld => ?_)
      clear hK K
      refine tk 15 (v := ?_) rfl (by kernel_rfl) (fun _ _ _ h => h) ?_ hHeld ?_
      rotate_left
      · (intro W hSw; (try dsimp only at hSw); (try obtain ⟨⟨hs1, hs2, hs3, hs4, hs5⟩, hs6, hs7, hs8, hs9, hs10⟩ := hSw); go_simp; try with_reducible rfl)
      refine wpAnyH_ready (rs := [16]) (by kernel_rfl) (by simp) ?_
      refine AllReadyH.cons rfl (fun K hK => ?_) AllReadyH.nil
      go_simp
      refine hK.out _ _ hS8 (fun hHeld => ?_)
      clear hK K
      refine tk 17 (v := ?_) rfl (by kernel_rfl) (fun _ _ _ h => h) ?_ hHeld ?_
      rotate_left
      · (intro W hSw; (try dsimp only at hSw); (try obtain ⟨⟨hs1, hs2, hs3, hs4, hs5⟩, hs6, hs7, hs8, hs9, hs10⟩ := hSw); go_simp; try with_reducible rfl)
      refine wpAnyH_ready (rs := [18]) (by kernel_rfl) (by simp) ?_
      refine AllReadyH.cons rfl (fun K hK => ?_) AllReadyH.nil
      go_simp
      refine (LV _).mono ?_
      rintro e w17 ⟨rfl, hb17⟩
      have hS9 := And.intro (And.intro (below_cell hb17 hS8.1.1) (And.intro (below_cell hb17 hS8.1.2.1) (And.intro (below_cell hb17 hS8.1.2.2.1) (And.intro (below_cell hb17 hS8.1.2.2.2.1) (below_cell hb17 hS8.1.2.2.2.2))))) (And.intro (below_cell hb17 hS8.2.1) (And.intro (below_cell hb17 hS8.2.2.1) (And.intro (below_cell hb17 hS8.2.2.2.1) (And.intro (below_cell hb17 hS8.2.2.2.2.1) (below_cell hb17 hS8.2.2.2.2.2)))))
      have HE17 := Lib.hid (HE16.out.step hb17)
      clear hb17 hHeld hS8 HE16
      go_wp2_with fail
      refine hK.out _ _ hS9 (fun hHeld => ?_)
      clear hK K
      refine wpAnyH_ready (rs := [19]) (by kernel_rfl) (by simp) ?_
      refine AllReadyH.cons rfl (fun K hK => ?_) AllReadyH.nil
      go_simp
      refine hK.out _ _ hS9 (fun hHeld => ?_)
      clear hK K
      refine wpAnyH_ready (rs := [20]) (by kernel_rfl) (by simp) ?_
      refine AllReadyH.cons rfl (fun K hK => ?_) AllReadyH.nil
      go_simp
      refine hK.out _ _ hS9 (fun hHeld => ?_)
      clear hK K hS9 hHeld
      refine wpAnyH_done (by kernel_rfl) ?_ _
      go_wp2
      go_ret
      exact ⟨rfl, HB8.out.trans (HE17.out.below.mono HB8.out.size)⟩
end Go.Proofs.Ytmpcnnpekbbchaa.Rt
