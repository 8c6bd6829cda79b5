/- Steps: shaped. -/
import Derived.Test.YtgodphfkhmahnaaStD
import Derived.Test.YtgodphfkhmahnaaStM
namespace Go.Proofs.Ytgodphfkhmahnaa.St
open Go.RowKit Mem Sm Tk
set_option linter.unusedVariables false
set_option linter.unusedSimpArgs false

theorem hkeep {W W' : World} (hb : Below W.heap.size W W') {k : Nat} {o : Obj} (h : W.heap[k]? = some o) : W'.heap[k]? = some o := by
  rw [hb.block _ (lt_some h)]; exact h
theorem kI_one (v : Value) : kI 1 v = .iface 171 v := by unfold kI; simp
theorem kI_two (v : Value) : kI 2 v = .iface 172 v := by unfold kI; simp
theorem kI_three (v : Value) : kI 3 v = .iface 177 v := by unfold kI; simp
theorem kI_four (v : Value) : kI 4 v = .iface 178 v := by unfold kI; simp
theorem kI_five (v : Value) : kI 5 v = .iface 179 v := by unfold kI; simp
theorem shape_eq {x : Sp} {n m : Nat} (h : 0 ≤ x.from_ ∧ x.from_ ≤ x.to_ ∧ x.to_ ≤ 1073741824 ∧ n ≤ 20000) : shapeB x n m = (formB x n m && decide (m ≤ 20000)) := by
  by_cases hm : m ≤ 20000
  · rw [shape_form ⟨h.1, h.2.1, h.2.2.1, h.2.2.2, hm⟩]; simp [hm]
  · rw [shape_no (fun g => hm g.1.2.2.2.2)]; simp [hm]
theorem kB_of (k : Int) : kB k = true ↔ 1 ≤ k ∧ k ≤ 5 := by unfold kB; simp
set_option maxRecDepth 100000 in
set_option maxHeartbeats 16000000 in
theorem shaped_any (x : Sp) (L : List Tk.Tk) (S : List Mk) (A B : Option Addr) (n m c d : Nat) (w : World) (hn : n ≤ 9223372036854775807) (hm : m ≤ 9223372036854775807) (h1 : TRow w A n L) (h3 : MkRow w B m S) :
    Calls Try.prog 69 #[stV x (.slice A n c) (.slice B m d)] w fun e w' => e = .returned (.tuple #[if shapeB x n m = true then kI x.kind (stV x (.slice A n c) (.slice B m d)) else .nilIface, .bool (shapeB x n m)]) ∧ Below w.heap.size w w' := by
  have CK := fun W => kindOf_any x A B n m c d W
  obtain ⟨F, hF⟩ : ∃ b, b = shapeB x n m := ⟨_, rfl⟩
  rw [← hF]
  have HF := Lib.hid hF
  have HL := Lib.hid h1
  have HS := Lib.hid h3
  clear hF h1 h3
  obtain ⟨xk, xf, xt, xg, xh, xi, xm, xv⟩ := x
  unfold stV stC at CK
  unfold stV stC
  simp only at CK ⊢
  have HB0 := Lib.hid ((Below.refl _ w).alloc (Nat.le_refl _) (.cells #[.int .i64 xk, .int .i64 xf, .int .i64 xt, .int .i64 xg, .int .i64 xh, .int .i64 xi, .int .i64 xm, .int .i64 xv, .slice A n c, .slice B m d] 25))
  have HH0 := Lib.hid (heap_alloc_new w (.cells #[.int .i64 xk, .int .i64 xf, .int .i64 xt, .int .i64 xg, .int .i64 xh, .int .i64 xi, .int .i64 xm, .int .i64 xv, .slice A n c, .slice B m d] 25))
  obtain ⟨⟨y0, y1, y2, y3, y4⟩, y5, y6, y7, y8, y9⟩ := tenc HH0.out
  go_enter Try.func69, Try.ntmps69
  go_wp2_with fail
  refine (CK _).mono ?_
  rintro e w1 ⟨rfl, hb1⟩
  have HB1 := Lib.hid (HB0.out.trans (hb1.mono HB0.out.size))
  have HH1 : Hid (w1.heap[w.heap.size]? = some (.cells #[.int .i64 xk, .int .i64 xf, .int .i64 xt, .int .i64 xg, .int .i64 xh, .int .i64 xi, .int .i64 xm, .int .i64 xv, .slice A n c, .slice B m d] 25 (0, 0))) := Lib.hid (by rw [hb1.block _ (lt_some HH0.out)]; exact HH0.out)
  clear y0 y1 y2 y3 y4 y5 y6 y7 y8 y9 hb1 HB0 HH0 CK
  go_upto_region 2 with fail
  have HB5 : Hid (Below w.heap.size w w1.drew) := Lib.hid (HB1.out.trans ((below_drewN (Below.refl _ _) 1).mono HB1.out.size))
  have HS5 : Hid (w1.drew.heap[w.heap.size]? = some (.cells #[.int .i64 xk, .int .i64 xf, .int .i64 xt, .int .i64 xg, .int .i64 xh, .int .i64 xi, .int .i64 xm, .int .i64 xv, .slice A n c, .slice B m d] 25 (0, 0))) := HH1
  refine wp_region_held_drew (S := fun W => W.heap[w.heap.size]? = some (.cells #[.int .i64 xk, .int .i64 xf, .int .i64 xt, .int .i64 xg, .int .i64 xh, .int .i64 xi, .int .i64 xm, .int .i64 xv, .slice A n c, .slice B m d] 25 (0, 0))) (by kernel_rfl) HS5.out (fun hHeld => ?_)
  clear HB1 HH1
  generalize w1.drew = W5 at HB5 HS5 hHeld ⊢
  cases hkb : kB xk with
  | false =>
    have e : F = false := HF.out.trans (shape_no (fun h => by
      have hh := h.2
      unfold formP at hh
      simp only at hh
      have : ¬ (1 ≤ xk ∧ xk ≤ 5) := fun g => by rw [(kB_of xk).2 g] at hkb; cases hkb
      omega))
    subst e
    clear HF hkb
    refine tk 0 (v := ?_) rfl (by kernel_rfl) (fun _ _ _ h => h) ?_ hHeld ?_
    rotate_left
    · (intro W hSw; (try dsimp only at hSw); obtain ⟨⟨y0, y1, y2, y3, y4⟩, y5, y6, y7, y8, y9⟩ := tenc hSw; go_simp; try with_reducible rfl)
    refine tk 1 (v := ?_) rfl (by kernel_rfl) (fun _ _ _ h => h) ?_ hHeld ?_
    rotate_left
    · (intro W hSw; (try dsimp only at hSw); obtain ⟨⟨y0, y1, y2, y3, y4⟩, y5, y6, y7, y8, y9⟩ := tenc hSw; go_simp; try with_reducible rfl)
    refine tk 2 (v := ?_) rfl (by kernel_rfl) (fun _ _ _ h => h) ?_ hHeld ?_
    rotate_left
    · (intro W hSw; (try dsimp only at hSw); obtain ⟨⟨y0, y1, y2, y3, y4⟩, y5, y6, y7, y8, y9⟩ := tenc hSw; go_simp; try with_reducible rfl)
    refine tkno 3 rfl (by kernel_rfl) (fun _ _ _ h => h) hHeld ?_
    refine tkno 4 rfl (by kernel_rfl) (fun _ _ _ h => h) hHeld ?_
    refine tkno 5 rfl (by kernel_rfl) (fun _ _ _ h => h) hHeld ?_
    refine wpAnyH_ready (rs := [6]) (by kernel_rfl) (by simp) ?_
    refine AllReadyH.cons rfl (fun K hK => ?_) AllReadyH.nil
    go_simp
    refine hK.out _ _ HS5.out (fun hHeld => ?_)
    clear hK K
    refine tk 7 (v := ?_) rfl (by kernel_rfl) (fun _ _ _ h => h) ?_ hHeld ?_
    rotate_left
    · (intro W hSw; (try dsimp only at hSw); obtain ⟨⟨y0, y1, y2, y3, y4⟩, y5, y6, y7, y8, y9⟩ := tenc hSw; go_simp; try with_reducible rfl)
    refine tkno 8 rfl (by kernel_rfl) (fun _ _ _ h => h) hHeld ?_
    refine tkno 9 rfl (by kernel_rfl) (fun _ _ _ h => h) hHeld ?_
    refine tkno 10 rfl (by kernel_rfl) (fun _ _ _ h => h) hHeld ?_
    refine tkno 11 rfl (by kernel_rfl) (fun _ _ _ h => h) hHeld ?_
    refine tkno 12 rfl (by kernel_rfl) (fun _ _ _ h => h) hHeld ?_
    refine wpAnyH_ready (rs := [13]) (by kernel_rfl) (by simp) ?_
    refine AllReadyH.cons rfl (fun K hK => ?_) AllReadyH.nil
    go_simp
    refine hK.out _ _ HS5.out (fun hHeld => ?_)
    clear hK K
    refine tk 14 (v := ?_) rfl (by kernel_rfl) (fun _ _ _ h => h) ?_ hHeld ?_
    rotate_left
    · (intro W hSw; (try dsimp only at hSw); obtain ⟨⟨y0, y1, y2, y3, y4⟩, y5, y6, y7, y8, y9⟩ := tenc hSw; go_simp; try with_reducible rfl)
    refine tkno 15 rfl (by kernel_rfl) (fun _ _ _ h => h) hHeld ?_
    refine tkno 16 rfl (by kernel_rfl) (fun _ _ _ h => h) hHeld ?_
    refine tkno 17 rfl (by kernel_rfl) (fun _ _ _ h => h) hHeld ?_
    refine wpAnyH_ready (rs := [18]) (by kernel_rfl) (by simp) ?_
    refine AllReadyH.cons rfl (fun K hK => ?_) AllReadyH.nil
    go_simp
    refine hK.out _ _ HS5.out (fun hHeld => ?_)
    clear hK K
    refine tk 19 (v := ?_) rfl (by kernel_rfl) (fun _ _ _ h => h) ?_ hHeld ?_
    rotate_left
    · (intro W hSw; (try dsimp only at hSw); obtain ⟨⟨y0, y1, y2, y3, y4⟩, y5, y6, y7, y8, y9⟩ := tenc hSw; go_simp; try with_reducible rfl)
    refine tkno 20 rfl (by kernel_rfl) (fun _ _ _ h => h) hHeld ?_
    refine tkno 21 rfl (by kernel_rfl) (fun _ _ _ h => h) hHeld ?_
    refine tkno 22 rfl (by kernel_rfl) (fun _ _ _ h => h) hHeld ?_
    refine tkno 23 rfl (by kernel_rfl) (fun _ _ _ h => h) hHeld ?_
    refine wpAnyH_ready (rs := [24]) (by kernel_rfl) (by simp) ?_
    refine AllReadyH.cons rfl (fun K hK => ?_) AllReadyH.nil
    go_simp
    refine hK.out _ _ HS5.out (fun hHeld => ?_)
    clear hK K
    refine tk 25 (v := ?_) rfl (by kernel_rfl) (fun _ _ _ h => h) ?_ hHeld ?_
    rotate_left
    · (intro W hSw; (try dsimp only at hSw); obtain ⟨⟨y0, y1, y2, y3, y4⟩, y5, y6, y7, y8, y9⟩ := tenc hSw; go_simp; try with_reducible rfl)
    refine tkno 26 rfl (by kernel_rfl) (fun _ _ _ h => h) hHeld ?_
    refine tkno 27 rfl (by kernel_rfl) (fun _ _ _ h => h) hHeld ?_
    refine tkno 28 rfl (by kernel_rfl) (fun _ _ _ h => h) hHeld ?_
    refine wpAnyH_ready (rs := [29]) (by kernel_rfl) (by simp) ?_
    refine AllReadyH.cons rfl (fun K hK => ?_) AllReadyH.nil
    go_simp
    refine hK.out _ _ HS5.out (fun hHeld => ?_)
    clear hK K
    refine tk 30 (v := ?_) rfl (by kernel_rfl) (fun _ _ _ h => h) ?_ hHeld ?_
    rotate_left
    · (intro W hSw; (try dsimp only at hSw); obtain ⟨⟨y0, y1, y2, y3, y4⟩, y5, y6, y7, y8, y9⟩ := tenc hSw; go_simp; try with_reducible rfl)
    refine tkno 31 rfl (by kernel_rfl) (fun _ _ _ h => h) hHeld ?_
    refine tkno 32 rfl (by kernel_rfl) (fun _ _ _ h => h) hHeld ?_
    refine tkno 33 rfl (by kernel_rfl) (fun _ _ _ h => h) hHeld ?_
    refine tkno 34 rfl (by kernel_rfl) (fun _ _ _ h => h) hHeld ?_
    refine tkno 35 rfl (by kernel_rfl) (fun _ _ _ h => h) hHeld ?_
    refine wpAnyH_ready (rs := [36]) (by kernel_rfl) (by simp) ?_
    refine AllReadyH.cons rfl (fun K hK => ?_) AllReadyH.nil
    go_simp
    refine hK.out _ _ HS5.out (fun hHeld => ?_)
    clear hK K
    clear hHeld
    refine wpAnyH_done (by kernel_rfl) ?_ _
    go_wp2
    go_ret2
    exact ⟨rfl, HB5.out⟩
  | true =>
    by_cases b1 : xf < 0
    · have e : F = false := HF.out.trans (shape_no (fun h => by have := h.1; unfold boundP at this; simp only at this; omega))
      subst e
      clear HF hkb
      refine tk 0 (v := ?_) rfl (by kernel_rfl) (fun _ _ _ h => h) ?_ hHeld ?_
      rotate_left
      · (intro W hSw; (try dsimp only at hSw); obtain ⟨⟨y0, y1, y2, y3, y4⟩, y5, y6, y7, y8, y9⟩ := tenc hSw; go_simp; try with_reducible rfl)
      refine tk 1 (v := ?_) rfl (by kernel_rfl) (fun _ _ _ h => h) ?_ hHeld ?_
      rotate_left
      · (intro W hSw; (try dsimp only at hSw); obtain ⟨⟨y0, y1, y2, y3, y4⟩, y5, y6, y7, y8, y9⟩ := tenc hSw; go_simp; try with_reducible rfl)
      refine tk 2 (v := ?_) rfl (by kernel_rfl) (fun _ _ _ h => h) ?_ hHeld ?_
      rotate_left
      · (intro W hSw; (try dsimp only at hSw); obtain ⟨⟨y0, y1, y2, y3, y4⟩, y5, y6, y7, y8, y9⟩ := tenc hSw; go_simp; try with_reducible rfl)
      refine tk 3 (v := ?_) rfl (by kernel_rfl) (fun _ _ _ h => h) ?_ hHeld ?_
      rotate_left
      · (intro W hSw; (try dsimp only at hSw); obtain ⟨⟨y0, y1, y2, y3, y4⟩, y5, y6, y7, y8, y9⟩ := tenc hSw; go_simp; try with_reducible rfl)
      refine tk 4 (v := ?_) rfl (by kernel_rfl) (fun _ _ _ h => h) ?_ hHeld ?_
      rotate_left
      · (intro W hSw; (try dsimp only at hSw); obtain ⟨⟨y0, y1, y2, y3, y4⟩, y5, y6, y7, y8, y9⟩ := tenc hSw; go_simp; try with_reducible rfl)
      refine tk 5 (v := ?_) rfl (by kernel_rfl) (fun _ _ _ h => h) ?_ hHeld ?_
      rotate_left
      · (intro W hSw; (try dsimp only at hSw); obtain ⟨⟨y0, y1, y2, y3, y4⟩, y5, y6, y7, y8, y9⟩ := tenc hSw; go_simp; try with_reducible rfl)
      refine wpAnyH_ready (rs := [6]) (by kernel_rfl) (by simp) ?_
      refine AllReadyH.cons rfl (fun K hK => ?_) AllReadyH.nil
      go_simp
      refine hK.out _ _ HS5.out (fun hHeld => ?_)
      clear hK K
      refine tk 7 (v := ?_) rfl (by kernel_rfl) (fun _ _ _ h => h) ?_ hHeld ?_
      rotate_left
      · (intro W hSw; (try dsimp only at hSw); obtain ⟨⟨y0, y1, y2, y3, y4⟩, y5, y6, y7, y8, y9⟩ := tenc hSw; go_simp; try with_reducible rfl)
      refine tkno 8 rfl (by kernel_rfl) (fun _ _ _ h => h) hHeld ?_
      refine tkno 9 rfl (by kernel_rfl) (fun _ _ _ h => h) hHeld ?_
      refine tkno 10 rfl (by kernel_rfl) (fun _ _ _ h => h) hHeld ?_
      refine tkno 11 rfl (by kernel_rfl) (fun _ _ _ h => h) hHeld ?_
      refine tkno 12 rfl (by kernel_rfl) (fun _ _ _ h => h) hHeld ?_
      refine wpAnyH_ready (rs := [13]) (by kernel_rfl) (by simp) ?_
      refine AllReadyH.cons rfl (fun K hK => ?_) AllReadyH.nil
      go_simp
      refine hK.out _ _ HS5.out (fun hHeld => ?_)
      clear hK K
      refine tk 14 (v := ?_) rfl (by kernel_rfl) (fun _ _ _ h => h) ?_ hHeld ?_
      rotate_left
      · (intro W hSw; (try dsimp only at hSw); obtain ⟨⟨y0, y1, y2, y3, y4⟩, y5, y6, y7, y8, y9⟩ := tenc hSw; go_simp; try with_reducible rfl)
      refine tkno 15 rfl (by kernel_rfl) (fun _ _ _ h => h) hHeld ?_
      refine tkno 16 rfl (by kernel_rfl) (fun _ _ _ h => h) hHeld ?_
      refine tkno 17 rfl (by kernel_rfl) (fun _ _ _ h => h) hHeld ?_
      refine wpAnyH_ready (rs := [18]) (by kernel_rfl) (by simp) ?_
      refine AllReadyH.cons rfl (fun K hK => ?_) AllReadyH.nil
      go_simp
      refine hK.out _ _ HS5.out (fun hHeld => ?_)
      clear hK K
      refine tk 19 (v := ?_) rfl (by kernel_rfl) (fun _ _ _ h => h) ?_ hHeld ?_
      rotate_left
      · (intro W hSw; (try dsimp only at hSw); obtain ⟨⟨y0, y1, y2, y3, y4⟩, y5, y6, y7, y8, y9⟩ := tenc hSw; go_simp; try with_reducible rfl)
      refine tkno 20 rfl (by kernel_rfl) (fun _ _ _ h => h) hHeld ?_
      refine tkno 21 rfl (by kernel_rfl) (fun _ _ _ h => h) hHeld ?_
      refine tkno 22 rfl (by kernel_rfl) (fun _ _ _ h => h) hHeld ?_
      refine tkno 23 rfl (by kernel_rfl) (fun _ _ _ h => h) hHeld ?_
      refine wpAnyH_ready (rs := [24]) (by kernel_rfl) (by simp) ?_
      refine AllReadyH.cons rfl (fun K hK => ?_) AllReadyH.nil
      go_simp
      refine hK.out _ _ HS5.out (fun hHeld => ?_)
      clear hK K
      refine tk 25 (v := ?_) rfl (by kernel_rfl) (fun _ _ _ h => h) ?_ hHeld ?_
      rotate_left
      · (intro W hSw; (try dsimp only at hSw); obtain ⟨⟨y0, y1, y2, y3, y4⟩, y5, y6, y7, y8, y9⟩ := tenc hSw; go_simp; try with_reducible rfl)
      refine tkno 26 rfl (by kernel_rfl) (fun _ _ _ h => h) hHeld ?_
      refine tkno 27 rfl (by kernel_rfl) (fun _ _ _ h => h) hHeld ?_
      refine tkno 28 rfl (by kernel_rfl) (fun _ _ _ h => h) hHeld ?_
      refine wpAnyH_ready (rs := [29]) (by kernel_rfl) (by simp) ?_
      refine AllReadyH.cons rfl (fun K hK => ?_) AllReadyH.nil
      go_simp
      refine hK.out _ _ HS5.out (fun hHeld => ?_)
      clear hK K
      refine tk 30 (v := ?_) rfl (by kernel_rfl) (fun _ _ _ h => h) ?_ hHeld ?_
      rotate_left
      · (intro W hSw; (try dsimp only at hSw); obtain ⟨⟨y0, y1, y2, y3, y4⟩, y5, y6, y7, y8, y9⟩ := tenc hSw; go_simp; try with_reducible rfl)
      refine tkno 31 rfl (by kernel_rfl) (fun _ _ _ h => h) hHeld ?_
      refine tkno 32 rfl (by kernel_rfl) (fun _ _ _ h => h) hHeld ?_
      refine tkno 33 rfl (by kernel_rfl) (fun _ _ _ h => h) hHeld ?_
      refine tkno 34 rfl (by kernel_rfl) (fun _ _ _ h => h) hHeld ?_
      refine tkno 35 rfl (by kernel_rfl) (fun _ _ _ h => h) hHeld ?_
      refine wpAnyH_ready (rs := [36]) (by kernel_rfl) (by simp) ?_
      refine AllReadyH.cons rfl (fun K hK => ?_) AllReadyH.nil
      go_simp
      refine hK.out _ _ HS5.out (fun hHeld => ?_)
      clear hK K
      clear hHeld
      refine wpAnyH_done (by kernel_rfl) ?_ _
      go_wp2
      go_ret2
      exact ⟨rfl, HB5.out⟩
    · by_cases b2 : xf > xt
      · have e : F = false := HF.out.trans (shape_no (fun h => by have := h.1; unfold boundP at this; simp only at this; omega))
        subst e
        clear HF hkb
        refine tk 0 (v := ?_) rfl (by kernel_rfl) (fun _ _ _ h => h) ?_ hHeld ?_
        rotate_left
        · (intro W hSw; (try dsimp only at hSw); obtain ⟨⟨y0, y1, y2, y3, y4⟩, y5, y6, y7, y8, y9⟩ := tenc hSw; go_simp; try with_reducible rfl)
        refine tk 1 (v := ?_) rfl (by kernel_rfl) (fun _ _ _ h => h) ?_ hHeld ?_
        rotate_left
        · (intro W hSw; (try dsimp only at hSw); obtain ⟨⟨y0, y1, y2, y3, y4⟩, y5, y6, y7, y8, y9⟩ := tenc hSw; go_simp; try with_reducible rfl)
        refine tk 2 (v := ?_) rfl (by kernel_rfl) (fun _ _ _ h => h) ?_ hHeld ?_
        rotate_left
        · (intro W hSw; (try dsimp only at hSw); obtain ⟨⟨y0, y1, y2, y3, y4⟩, y5, y6, y7, y8, y9⟩ := tenc hSw; go_simp; try with_reducible rfl)
        refine tk 3 (v := ?_) rfl (by kernel_rfl) (fun _ _ _ h => h) ?_ hHeld ?_
        rotate_left
        · (intro W hSw; (try dsimp only at hSw); obtain ⟨⟨y0, y1, y2, y3, y4⟩, y5, y6, y7, y8, y9⟩ := tenc hSw; go_simp; try with_reducible rfl)
        refine tk 4 (v := ?_) rfl (by kernel_rfl) (fun _ _ _ h => h) ?_ hHeld ?_
        rotate_left
        · (intro W hSw; (try dsimp only at hSw); obtain ⟨⟨y0, y1, y2, y3, y4⟩, y5, y6, y7, y8, y9⟩ := tenc hSw; go_simp; try with_reducible rfl)
        refine tk 5 (v := ?_) rfl (by kernel_rfl) (fun _ _ _ h => h) ?_ hHeld ?_
        rotate_left
        · (intro W hSw; (try dsimp only at hSw); obtain ⟨⟨y0, y1, y2, y3, y4⟩, y5, y6, y7, y8, y9⟩ := tenc hSw; go_simp; try with_reducible rfl)
        refine wpAnyH_ready (rs := [6]) (by kernel_rfl) (by simp) ?_
        refine AllReadyH.cons rfl (fun K hK => ?_) AllReadyH.nil
        go_simp
        refine hK.out _ _ HS5.out (fun hHeld => ?_)
        clear hK K
        refine tk 7 (v := ?_) rfl (by kernel_rfl) (fun _ _ _ h => h) ?_ hHeld ?_
        rotate_left
        · (intro W hSw; (try dsimp only at hSw); obtain ⟨⟨y0, y1, y2, y3, y4⟩, y5, y6, y7, y8, y9⟩ := tenc hSw; go_simp; try with_reducible rfl)
        refine tk 8 (v := ?_) rfl (by kernel_rfl) (fun _ _ _ h => h) ?_ hHeld ?_
        rotate_left
        · (intro W hSw; (try dsimp only at hSw); obtain ⟨⟨y0, y1, y2, y3, y4⟩, y5, y6, y7, y8, y9⟩ := tenc hSw; go_simp; try with_reducible rfl)
        refine tk 9 (v := ?_) rfl (by kernel_rfl) (fun _ _ _ h => h) ?_ hHeld ?_
        rotate_left
        · (intro W hSw; (try dsimp only at hSw); obtain ⟨⟨y0, y1, y2, y3, y4⟩, y5, y6, y7, y8, y9⟩ := tenc hSw; go_simp; try with_reducible rfl)
        refine tk 10 (v := ?_) rfl (by kernel_rfl) (fun _ _ _ h => h) ?_ hHeld ?_
        rotate_left
        · (intro W hSw; (try dsimp only at hSw); obtain ⟨⟨y0, y1, y2, y3, y4⟩, y5, y6, y7, y8, y9⟩ := tenc hSw; go_simp; try with_reducible rfl)
        refine tk 11 (v := ?_) rfl (by kernel_rfl) (fun _ _ _ h => h) ?_ hHeld ?_
        rotate_left
        · (intro W hSw; (try dsimp only at hSw); obtain ⟨⟨y0, y1, y2, y3, y4⟩, y5, y6, y7, y8, y9⟩ := tenc hSw; go_simp; try with_reducible rfl)
        refine tk 12 (v := ?_) rfl (by kernel_rfl) (fun _ _ _ h => h) ?_ hHeld ?_
        rotate_left
        · (intro W hSw; (try dsimp only at hSw); obtain ⟨⟨y0, y1, y2, y3, y4⟩, y5, y6, y7, y8, y9⟩ := tenc hSw; go_simp; try with_reducible rfl)
        refine wpAnyH_ready (rs := [13]) (by kernel_rfl) (by simp) ?_
        refine AllReadyH.cons rfl (fun K hK => ?_) AllReadyH.nil
        go_simp
        refine hK.out _ _ HS5.out (fun hHeld => ?_)
        clear hK K
        refine tk 14 (v := ?_) rfl (by kernel_rfl) (fun _ _ _ h => h) ?_ hHeld ?_
        rotate_left
        · (intro W hSw; (try dsimp only at hSw); obtain ⟨⟨y0, y1, y2, y3, y4⟩, y5, y6, y7, y8, y9⟩ := tenc hSw; go_simp; try with_reducible rfl)
        refine tkno 15 rfl (by kernel_rfl) (fun _ _ _ h => h) hHeld ?_
        refine tkno 16 rfl (by kernel_rfl) (fun _ _ _ h => h) hHeld ?_
        refine tkno 17 rfl (by kernel_rfl) (fun _ _ _ h => h) hHeld ?_
        refine wpAnyH_ready (rs := [18]) (by kernel_rfl) (by simp) ?_
        refine AllReadyH.cons rfl (fun K hK => ?_) AllReadyH.nil
        go_simp
        refine hK.out _ _ HS5.out (fun hHeld => ?_)
        clear hK K
        refine tk 19 (v := ?_) rfl (by kernel_rfl) (fun _ _ _ h => h) ?_ hHeld ?_
        rotate_left
        · (intro W hSw; (try dsimp only at hSw); obtain ⟨⟨y0, y1, y2, y3, y4⟩, y5, y6, y7, y8, y9⟩ := tenc hSw; go_simp; try with_reducible rfl)
        refine tkno 20 rfl (by kernel_rfl) (fun _ _ _ h => h) hHeld ?_
        refine tkno 21 rfl (by kernel_rfl) (fun _ _ _ h => h) hHeld ?_
        refine tkno 22 rfl (by kernel_rfl) (fun _ _ _ h => h) hHeld ?_
        refine tkno 23 rfl (by kernel_rfl) (fun _ _ _ h => h) hHeld ?_
        refine wpAnyH_ready (rs := [24]) (by kernel_rfl) (by simp) ?_
        refine AllReadyH.cons rfl (fun K hK => ?_) AllReadyH.nil
        go_simp
        refine hK.out _ _ HS5.out (fun hHeld => ?_)
        clear hK K
        refine tk 25 (v := ?_) rfl (by kernel_rfl) (fun _ _ _ h => h) ?_ hHeld ?_
        rotate_left
        · (intro W hSw; (try dsimp only at hSw); obtain ⟨⟨y0, y1, y2, y3, y4⟩, y5, y6, y7, y8, y9⟩ := tenc hSw; go_simp; try with_reducible rfl)
        refine tkno 26 rfl (by kernel_rfl) (fun _ _ _ h => h) hHeld ?_
        refine tkno 27 rfl (by kernel_rfl) (fun _ _ _ h => h) hHeld ?_
        refine tkno 28 rfl (by kernel_rfl) (fun _ _ _ h => h) hHeld ?_
        refine wpAnyH_ready (rs := [29]) (by kernel_rfl) (by simp) ?_
        refine AllReadyH.cons rfl (fun K hK => ?_) AllReadyH.nil
        go_simp
        refine hK.out _ _ HS5.out (fun hHeld => ?_)
        clear hK K
        refine tk 30 (v := ?_) rfl (by kernel_rfl) (fun _ _ _ h => h) ?_ hHeld ?_
        rotate_left
        · (intro W hSw; (try dsimp only at hSw); obtain ⟨⟨y0, y1, y2, y3, y4⟩, y5, y6, y7, y8, y9⟩ := tenc hSw; go_simp; try with_reducible rfl)
        refine tkno 31 rfl (by kernel_rfl) (fun _ _ _ h => h) hHeld ?_
        refine tkno 32 rfl (by kernel_rfl) (fun _ _ _ h => h) hHeld ?_
        refine tkno 33 rfl (by kernel_rfl) (fun _ _ _ h => h) hHeld ?_
        refine tkno 34 rfl (by kernel_rfl) (fun _ _ _ h => h) hHeld ?_
        refine tkno 35 rfl (by kernel_rfl) (fun _ _ _ h => h) hHeld ?_
        refine wpAnyH_ready (rs := [36]) (by kernel_rfl) (by simp) ?_
        refine AllReadyH.cons rfl (fun K hK => ?_) AllReadyH.nil
        go_simp
        refine hK.out _ _ HS5.out (fun hHeld => ?_)
        clear hK K
        clear hHeld
        refine wpAnyH_done (by kernel_rfl) ?_ _
        go_wp2
        go_ret2
        exact ⟨rfl, HB5.out⟩
      · by_cases b3 : xt > 1073741824
        · have e : F = false := HF.out.trans (shape_no (fun h => by have := h.1; unfold boundP at this; simp only at this; omega))
          subst e
          clear HF hkb
          refine tk 0 (v := ?_) rfl (by kernel_rfl) (fun _ _ _ h => h) ?_ hHeld ?_
          rotate_left
          · (intro W hSw; (try dsimp only at hSw); obtain ⟨⟨y0, y1, y2, y3, y4⟩, y5, y6, y7, y8, y9⟩ := tenc hSw; go_simp; try with_reducible rfl)
          refine tk 1 (v := ?_) rfl (by kernel_rfl) (fun _ _ _ h => h) ?_ hHeld ?_
          rotate_left
          · (intro W hSw; (try dsimp only at hSw); obtain ⟨⟨y0, y1, y2, y3, y4⟩, y5, y6, y7, y8, y9⟩ := tenc hSw; go_simp; try with_reducible rfl)
          refine tk 2 (v := ?_) rfl (by kernel_rfl) (fun _ _ _ h => h) ?_ hHeld ?_
          rotate_left
          · (intro W hSw; (try dsimp only at hSw); obtain ⟨⟨y0, y1, y2, y3, y4⟩, y5, y6, y7, y8, y9⟩ := tenc hSw; go_simp; try with_reducible rfl)
          refine tk 3 (v := ?_) rfl (by kernel_rfl) (fun _ _ _ h => h) ?_ hHeld ?_
          rotate_left
          · (intro W hSw; (try dsimp only at hSw); obtain ⟨⟨y0, y1, y2, y3, y4⟩, y5, y6, y7, y8, y9⟩ := tenc hSw; go_simp; try with_reducible rfl)
          refine tk 4 (v := ?_) rfl (by kernel_rfl) (fun _ _ _ h => h) ?_ hHeld ?_
          rotate_left
          · (intro W hSw; (try dsimp only at hSw); obtain ⟨⟨y0, y1, y2, y3, y4⟩, y5, y6, y7, y8, y9⟩ := tenc hSw; go_simp; try with_reducible rfl)
          refine tk 5 (v := ?_) rfl (by kernel_rfl) (fun _ _ _ h => h) ?_ hHeld ?_
          rotate_left
          · (intro W hSw; (try dsimp only at hSw); obtain ⟨⟨y0, y1, y2, y3, y4⟩, y5, y6, y7, y8, y9⟩ := tenc hSw; go_simp; try with_reducible rfl)
          refine wpAnyH_ready (rs := [6]) (by kernel_rfl) (by simp) ?_
          refine AllReadyH.cons rfl (fun K hK => ?_) AllReadyH.nil
          go_simp
          refine hK.out _ _ HS5.out (fun hHeld => ?_)
          clear hK K
          refine tk 7 (v := ?_) rfl (by kernel_rfl) (fun _ _ _ h => h) ?_ hHeld ?_
          rotate_left
          · (intro W hSw; (try dsimp only at hSw); obtain ⟨⟨y0, y1, y2, y3, y4⟩, y5, y6, y7, y8, y9⟩ := tenc hSw; go_simp; try with_reducible rfl)
          refine tk 8 (v := ?_) rfl (by kernel_rfl) (fun _ _ _ h => h) ?_ hHeld ?_
          rotate_left
          · (intro W hSw; (try dsimp only at hSw); obtain ⟨⟨y0, y1, y2, y3, y4⟩, y5, y6, y7, y8, y9⟩ := tenc hSw; go_simp; try with_reducible rfl)
          refine tk 9 (v := ?_) rfl (by kernel_rfl) (fun _ _ _ h => h) ?_ hHeld ?_
          rotate_left
          · (intro W hSw; (try dsimp only at hSw); obtain ⟨⟨y0, y1, y2, y3, y4⟩, y5, y6, y7, y8, y9⟩ := tenc hSw; go_simp; try with_reducible rfl)
          refine tk 10 (v := ?_) rfl (by kernel_rfl) (fun _ _ _ h => h) ?_ hHeld ?_
          rotate_left
          · (intro W hSw; (try dsimp only at hSw); obtain ⟨⟨y0, y1, y2, y3, y4⟩, y5, y6, y7, y8, y9⟩ := tenc hSw; go_simp; try with_reducible rfl)
          refine tk 11 (v := ?_) rfl (by kernel_rfl) (fun _ _ _ h => h) ?_ hHeld ?_
          rotate_left
          · (intro W hSw; (try dsimp only at hSw); obtain ⟨⟨y0, y1, y2, y3, y4⟩, y5, y6, y7, y8, y9⟩ := tenc hSw; go_simp; try with_reducible rfl)
          refine tk 12 (v := ?_) rfl (by kernel_rfl) (fun _ _ _ h => h) ?_ hHeld ?_
          rotate_left
          · (intro W hSw; (try dsimp only at hSw); obtain ⟨⟨y0, y1, y2, y3, y4⟩, y5, y6, y7, y8, y9⟩ := tenc hSw; go_simp; try with_reducible rfl)
          refine wpAnyH_ready (rs := [13]) (by kernel_rfl) (by simp) ?_
          refine AllReadyH.cons rfl (fun K hK => ?_) AllReadyH.nil
          go_simp
          refine hK.out _ _ HS5.out (fun hHeld => ?_)
          clear hK K
          refine tk 14 (v := ?_) rfl (by kernel_rfl) (fun _ _ _ h => h) ?_ hHeld ?_
          rotate_left
          · (intro W hSw; (try dsimp only at hSw); obtain ⟨⟨y0, y1, y2, y3, y4⟩, y5, y6, y7, y8, y9⟩ := tenc hSw; go_simp; try with_reducible rfl)
          refine tk 15 (v := ?_) rfl (by kernel_rfl) (fun _ _ _ h => h) ?_ hHeld ?_
          rotate_left
          · (intro W hSw; (try dsimp only at hSw); obtain ⟨⟨y0, y1, y2, y3, y4⟩, y5, y6, y7, y8, y9⟩ := tenc hSw; go_simp; try with_reducible rfl)
          refine tk 16 (v := ?_) rfl (by kernel_rfl) (fun _ _ _ h => h) ?_ hHeld ?_
          rotate_left
          · (intro W hSw; (try dsimp only at hSw); obtain ⟨⟨y0, y1, y2, y3, y4⟩, y5, y6, y7, y8, y9⟩ := tenc hSw; go_simp; try with_reducible rfl)
          refine tk 17 (v := ?_) rfl (by kernel_rfl) (fun _ _ _ h => h) ?_ hHeld ?_
          rotate_left
          · (intro W hSw; (try dsimp only at hSw); obtain ⟨⟨y0, y1, y2, y3, y4⟩, y5, y6, y7, y8, y9⟩ := tenc hSw; go_simp; try with_reducible rfl)
          refine wpAnyH_ready (rs := [18]) (by kernel_rfl) (by simp) ?_
          refine AllReadyH.cons rfl (fun K hK => ?_) AllReadyH.nil
          go_simp
          refine hK.out _ _ HS5.out (fun hHeld => ?_)
          clear hK K
          refine tk 19 (v := ?_) rfl (by kernel_rfl) (fun _ _ _ h => h) ?_ hHeld ?_
          rotate_left
          · (intro W hSw; (try dsimp only at hSw); obtain ⟨⟨y0, y1, y2, y3, y4⟩, y5, y6, y7, y8, y9⟩ := tenc hSw; go_simp; try with_reducible rfl)
          refine tkno 20 rfl (by kernel_rfl) (fun _ _ _ h => h) hHeld ?_
          refine tkno 21 rfl (by kernel_rfl) (fun _ _ _ h => h) hHeld ?_
          refine tkno 22 rfl (by kernel_rfl) (fun _ _ _ h => h) hHeld ?_
          refine tkno 23 rfl (by kernel_rfl) (fun _ _ _ h => h) hHeld ?_
          refine wpAnyH_ready (rs := [24]) (by kernel_rfl) (by simp) ?_
          refine AllReadyH.cons rfl (fun K hK => ?_) AllReadyH.nil
          go_simp
          refine hK.out _ _ HS5.out (fun hHeld => ?_)
          clear hK K
          refine tk 25 (v := ?_) rfl (by kernel_rfl) (fun _ _ _ h => h) ?_ hHeld ?_
          rotate_left
          · (intro W hSw; (try dsimp only at hSw); obtain ⟨⟨y0, y1, y2, y3, y4⟩, y5, y6, y7, y8, y9⟩ := tenc hSw; go_simp; try with_reducible rfl)
          refine tkno 26 rfl (by kernel_rfl) (fun _ _ _ h => h) hHeld ?_
          refine tkno 27 rfl (by kernel_rfl) (fun _ _ _ h => h) hHeld ?_
          refine tkno 28 rfl (by kernel_rfl) (fun _ _ _ h => h) hHeld ?_
          refine wpAnyH_ready (rs := [29]) (by kernel_rfl) (by simp) ?_
          refine AllReadyH.cons rfl (fun K hK => ?_) AllReadyH.nil
          go_simp
          refine hK.out _ _ HS5.out (fun hHeld => ?_)
          clear hK K
          refine tk 30 (v := ?_) rfl (by kernel_rfl) (fun _ _ _ h => h) ?_ hHeld ?_
          rotate_left
          · (intro W hSw; (try dsimp only at hSw); obtain ⟨⟨y0, y1, y2, y3, y4⟩, y5, y6, y7, y8, y9⟩ := tenc hSw; go_simp; try with_reducible rfl)
          refine tkno 31 rfl (by kernel_rfl) (fun _ _ _ h => h) hHeld ?_
          refine tkno 32 rfl (by kernel_rfl) (fun _ _ _ h => h) hHeld ?_
          refine tkno 33 rfl (by kernel_rfl) (fun _ _ _ h => h) hHeld ?_
          refine tkno 34 rfl (by kernel_rfl) (fun _ _ _ h => h) hHeld ?_
          refine tkno 35 rfl (by kernel_rfl) (fun _ _ _ h => h) hHeld ?_
          refine wpAnyH_ready (rs := [36]) (by kernel_rfl) (by simp) ?_
          refine AllReadyH.cons rfl (fun K hK => ?_) AllReadyH.nil
          go_simp
          refine hK.out _ _ HS5.out (fun hHeld => ?_)
          clear hK K
          clear hHeld
          refine wpAnyH_done (by kernel_rfl) ?_ _
          go_wp2
          go_ret2
          exact ⟨rfl, HB5.out⟩
        · by_cases b4 : (n : Int) > 20000
          · have e : F = false := HF.out.trans (shape_no (fun h => by have := h.1; unfold boundP at this; simp only at this; omega))
            subst e
            clear HF hkb
            refine tk 0 (v := ?_) rfl (by kernel_rfl) (fun _ _ _ h => h) ?_ hHeld ?_
            rotate_left
            · (intro W hSw; (try dsimp only at hSw); obtain ⟨⟨y0, y1, y2, y3, y4⟩, y5, y6, y7, y8, y9⟩ := tenc hSw; go_simp; try with_reducible rfl)
            refine tk 1 (v := ?_) rfl (by kernel_rfl) (fun _ _ _ h => h) ?_ hHeld ?_
            rotate_left
            · (intro W hSw; (try dsimp only at hSw); obtain ⟨⟨y0, y1, y2, y3, y4⟩, y5, y6, y7, y8, y9⟩ := tenc hSw; go_simp; try with_reducible rfl)
            refine tk 2 (v := ?_) rfl (by kernel_rfl) (fun _ _ _ h => h) ?_ hHeld ?_
            rotate_left
            · (intro W hSw; (try dsimp only at hSw); obtain ⟨⟨y0, y1, y2, y3, y4⟩, y5, y6, y7, y8, y9⟩ := tenc hSw; go_simp; try with_reducible rfl)
            refine tk 3 (v := ?_) rfl (by kernel_rfl) (fun _ _ _ h => h) ?_ hHeld ?_
            rotate_left
            · (intro W hSw; (try dsimp only at hSw); obtain ⟨⟨y0, y1, y2, y3, y4⟩, y5, y6, y7, y8, y9⟩ := tenc hSw; go_simp; try with_reducible rfl)
            refine tk 4 (v := ?_) rfl (by kernel_rfl) (fun _ _ _ h => h) ?_ hHeld ?_
            rotate_left
            · (intro W hSw; (try dsimp only at hSw); obtain ⟨⟨y0, y1, y2, y3, y4⟩, y5, y6, y7, y8, y9⟩ := tenc hSw; go_simp; try with_reducible rfl)
            refine tk 5 (v := ?_) rfl (by kernel_rfl) (fun _ _ _ h => h) ?_ hHeld ?_
            rotate_left
            · (intro W hSw; (try dsimp only at hSw); obtain ⟨⟨y0, y1, y2, y3, y4⟩, y5, y6, y7, y8, y9⟩ := tenc hSw; go_simp; try with_reducible rfl)
            refine wpAnyH_ready (rs := [6]) (by kernel_rfl) (by simp) ?_
            refine AllReadyH.cons rfl (fun K hK => ?_) AllReadyH.nil
            go_simp
            refine hK.out _ _ HS5.out (fun hHeld => ?_)
            clear hK K
            refine tk 7 (v := ?_) rfl (by kernel_rfl) (fun _ _ _ h => h) ?_ hHeld ?_
            rotate_left
            · (intro W hSw; (try dsimp only at hSw); obtain ⟨⟨y0, y1, y2, y3, y4⟩, y5, y6, y7, y8, y9⟩ := tenc hSw; go_simp; try with_reducible rfl)
            refine tk 8 (v := ?_) rfl (by kernel_rfl) (fun _ _ _ h => h) ?_ hHeld ?_
            rotate_left
            · (intro W hSw; (try dsimp only at hSw); obtain ⟨⟨y0, y1, y2, y3, y4⟩, y5, y6, y7, y8, y9⟩ := tenc hSw; go_simp; try with_reducible rfl)
            refine tk 9 (v := ?_) rfl (by kernel_rfl) (fun _ _ _ h => h) ?_ hHeld ?_
            rotate_left
            · (intro W hSw; (try dsimp only at hSw); obtain ⟨⟨y0, y1, y2, y3, y4⟩, y5, y6, y7, y8, y9⟩ := tenc hSw; go_simp; try with_reducible rfl)
            refine tk 10 (v := ?_) rfl (by kernel_rfl) (fun _ _ _ h => h) ?_ hHeld ?_
            rotate_left
            · (intro W hSw; (try dsimp only at hSw); obtain ⟨⟨y0, y1, y2, y3, y4⟩, y5, y6, y7, y8, y9⟩ := tenc hSw; go_simp; try with_reducible rfl)
            refine tk 11 (v := ?_) rfl (by kernel_rfl) (fun _ _ _ h => h) ?_ hHeld ?_
            rotate_left
            · (intro W hSw; (try dsimp only at hSw); obtain ⟨⟨y0, y1, y2, y3, y4⟩, y5, y6, y7, y8, y9⟩ := tenc hSw; go_simp; try with_reducible rfl)
            refine tk 12 (v := ?_) rfl (by kernel_rfl) (fun _ _ _ h => h) ?_ hHeld ?_
            rotate_left
            · (intro W hSw; (try dsimp only at hSw); obtain ⟨⟨y0, y1, y2, y3, y4⟩, y5, y6, y7, y8, y9⟩ := tenc hSw; go_simp; try with_reducible rfl)
            refine wpAnyH_ready (rs := [13]) (by kernel_rfl) (by simp) ?_
            refine AllReadyH.cons rfl (fun K hK => ?_) AllReadyH.nil
            go_simp
            refine hK.out _ _ HS5.out (fun hHeld => ?_)
            clear hK K
            refine tk 14 (v := ?_) rfl (by kernel_rfl) (fun _ _ _ h => h) ?_ hHeld ?_
            rotate_left
            · (intro W hSw; (try dsimp only at hSw); obtain ⟨⟨y0, y1, y2, y3, y4⟩, y5, y6, y7, y8, y9⟩ := tenc hSw; go_simp; try with_reducible rfl)
            refine tk 15 (v := ?_) rfl (by kernel_rfl) (fun _ _ _ h => h) ?_ hHeld ?_
            rotate_left
            · (intro W hSw; (try dsimp only at hSw); obtain ⟨⟨y0, y1, y2, y3, y4⟩, y5, y6, y7, y8, y9⟩ := tenc hSw; go_simp; try with_reducible rfl)
            refine tk 16 (v := ?_) rfl (by kernel_rfl) (fun _ _ _ h => h) ?_ hHeld ?_
            rotate_left
            · (intro W hSw; (try dsimp only at hSw); obtain ⟨⟨y0, y1, y2, y3, y4⟩, y5, y6, y7, y8, y9⟩ := tenc hSw; go_simp; try with_reducible rfl)
            refine tk 17 (v := ?_) rfl (by kernel_rfl) (fun _ _ _ h => h) ?_ hHeld ?_
            rotate_left
            · (intro W hSw; (try dsimp only at hSw); obtain ⟨⟨y0, y1, y2, y3, y4⟩, y5, y6, y7, y8, y9⟩ := tenc hSw; go_simp; try with_reducible rfl)
            refine wpAnyH_ready (rs := [18]) (by kernel_rfl) (by simp) ?_
            refine AllReadyH.cons rfl (fun K hK => ?_) AllReadyH.nil
            go_simp
            refine hK.out _ _ HS5.out (fun hHeld => ?_)
            clear hK K
            refine tk 19 (v := ?_) rfl (by kernel_rfl) (fun _ _ _ h => h) ?_ hHeld ?_
            rotate_left
            · (intro W hSw; (try dsimp only at hSw); obtain ⟨⟨y0, y1, y2, y3, y4⟩, y5, y6, y7, y8, y9⟩ := tenc hSw; go_simp; try with_reducible rfl)
            refine tk 20 (v := ?_) rfl (by kernel_rfl) (fun _ _ _ h => h) ?_ hHeld ?_
            rotate_left
            · (intro W hSw; (try dsimp only at hSw); obtain ⟨⟨y0, y1, y2, y3, y4⟩, y5, y6, y7, y8, y9⟩ := tenc hSw; go_simp; try with_reducible rfl)
            refine tk 21 (v := ?_) rfl (by kernel_rfl) (fun _ _ _ h => h) ?_ hHeld ?_
            rotate_left
            · (intro W hSw; (try dsimp only at hSw); obtain ⟨⟨y0, y1, y2, y3, y4⟩, y5, y6, y7, y8, y9⟩ := tenc hSw; go_simp; try with_reducible rfl)
            refine tk 22 (v := ?_) rfl (by kernel_rfl) (fun _ _ _ h => h) ?_ hHeld ?_
            rotate_left
            · (intro W hSw; (try dsimp only at hSw); obtain ⟨⟨y0, y1, y2, y3, y4⟩, y5, y6, y7, y8, y9⟩ := tenc hSw; go_simp; try with_reducible rfl)
            refine tk 23 (v := ?_) rfl (by kernel_rfl) (fun _ _ _ h => h) ?_ hHeld ?_
            rotate_left
            · (intro W hSw; (try dsimp only at hSw); obtain ⟨⟨y0, y1, y2, y3, y4⟩, y5, y6, y7, y8, y9⟩ := tenc hSw; go_simp; try with_reducible rfl)
            refine wpAnyH_ready (rs := [24]) (by kernel_rfl) (by simp) ?_
            refine AllReadyH.cons rfl (fun K hK => ?_) AllReadyH.nil
            go_simp
            refine hK.out _ _ HS5.out (fun hHeld => ?_)
            clear hK K
            refine tk 25 (v := ?_) rfl (by kernel_rfl) (fun _ _ _ h => h) ?_ hHeld ?_
            rotate_left
            · (intro W hSw; (try dsimp only at hSw); obtain ⟨⟨y0, y1, y2, y3, y4⟩, y5, y6, y7, y8, y9⟩ := tenc hSw; go_simp; try with_reducible rfl)
            refine tkno 26 rfl (by kernel_rfl) (fun _ _ _ h => h) hHeld ?_
            refine tkno 27 rfl (by kernel_rfl) (fun _ _ _ h => h) hHeld ?_
            refine tkno 28 rfl (by kernel_rfl) (fun _ _ _ h => h) hHeld ?_
            refine wpAnyH_ready (rs := [29]) (by kernel_rfl) (by simp) ?_
            refine AllReadyH.cons rfl (fun K hK => ?_) AllReadyH.nil
            go_simp
            refine hK.out _ _ HS5.out (fun hHeld => ?_)
            clear hK K
            refine tk 30 (v := ?_) rfl (by kernel_rfl) (fun _ _ _ h => h) ?_ hHeld ?_
            rotate_left
            · (intro W hSw; (try dsimp only at hSw); obtain ⟨⟨y0, y1, y2, y3, y4⟩, y5, y6, y7, y8, y9⟩ := tenc hSw; go_simp; try with_reducible rfl)
            refine tkno 31 rfl (by kernel_rfl) (fun _ _ _ h => h) hHeld ?_
            refine tkno 32 rfl (by kernel_rfl) (fun _ _ _ h => h) hHeld ?_
            refine tkno 33 rfl (by kernel_rfl) (fun _ _ _ h => h) hHeld ?_
            refine tkno 34 rfl (by kernel_rfl) (fun _ _ _ h => h) hHeld ?_
            refine tkno 35 rfl (by kernel_rfl) (fun _ _ _ h => h) hHeld ?_
            refine wpAnyH_ready (rs := [36]) (by kernel_rfl) (by simp) ?_
            refine AllReadyH.cons rfl (fun K hK => ?_) AllReadyH.nil
            go_simp
            refine hK.out _ _ HS5.out (fun hHeld => ?_)
            clear hK K
            clear hHeld
            refine wpAnyH_done (by kernel_rfl) ?_ _
            go_wp2
            go_ret2
            exact ⟨rfl, HB5.out⟩
          · have hk5 := (kB_of xk).1 hkb
            clear hkb
            refine tk 0 (v := ?_) rfl (by kernel_rfl) (fun _ _ _ h => h) ?_ hHeld ?_
            rotate_left
            · (intro W hSw; (try dsimp only at hSw); obtain ⟨⟨y0, y1, y2, y3, y4⟩, y5, y6, y7, y8, y9⟩ := tenc hSw; go_simp; try with_reducible rfl)
            refine tk 1 (v := ?_) rfl (by kernel_rfl) (fun _ _ _ h => h) ?_ hHeld ?_
            rotate_left
            · (intro W hSw; (try dsimp only at hSw); obtain ⟨⟨y0, y1, y2, y3, y4⟩, y5, y6, y7, y8, y9⟩ := tenc hSw; go_simp; try with_reducible rfl)
            refine tk 2 (v := ?_) rfl (by kernel_rfl) (fun _ _ _ h => h) ?_ hHeld ?_
            rotate_left
            · (intro W hSw; (try dsimp only at hSw); obtain ⟨⟨y0, y1, y2, y3, y4⟩, y5, y6, y7, y8, y9⟩ := tenc hSw; go_simp; try with_reducible rfl)
            refine tk 3 (v := ?_) rfl (by kernel_rfl) (fun _ _ _ h => h) ?_ hHeld ?_
            rotate_left
            · (intro W hSw; (try dsimp only at hSw); obtain ⟨⟨y0, y1, y2, y3, y4⟩, y5, y6, y7, y8, y9⟩ := tenc hSw; go_simp; try with_reducible rfl)
            refine tk 4 (v := ?_) rfl (by kernel_rfl) (fun _ _ _ h => h) ?_ hHeld ?_
            rotate_left
            · (intro W hSw; (try dsimp only at hSw); obtain ⟨⟨y0, y1, y2, y3, y4⟩, y5, y6, y7, y8, y9⟩ := tenc hSw; go_simp; try with_reducible rfl)
            refine tk 5 (v := ?_) rfl (by kernel_rfl) (fun _ _ _ h => h) ?_ hHeld ?_
            rotate_left
            · (intro W hSw; (try dsimp only at hSw); obtain ⟨⟨y0, y1, y2, y3, y4⟩, y5, y6, y7, y8, y9⟩ := tenc hSw; go_simp; try with_reducible rfl)
            refine wpAnyH_ready (rs := [6]) (by kernel_rfl) (by simp) ?_
            refine AllReadyH.cons rfl (fun K hK => ?_) AllReadyH.nil
            go_simp
            refine hK.out _ _ HS5.out (fun hHeld => ?_)
            clear hK K
            refine tk 7 (v := ?_) rfl (by kernel_rfl) (fun _ _ _ h => h) ?_ hHeld ?_
            rotate_left
            · (intro W hSw; (try dsimp only at hSw); obtain ⟨⟨y0, y1, y2, y3, y4⟩, y5, y6, y7, y8, y9⟩ := tenc hSw; go_simp; try with_reducible rfl)
            refine tk 8 (v := ?_) rfl (by kernel_rfl) (fun _ _ _ h => h) ?_ hHeld ?_
            rotate_left
            · (intro W hSw; (try dsimp only at hSw); obtain ⟨⟨y0, y1, y2, y3, y4⟩, y5, y6, y7, y8, y9⟩ := tenc hSw; go_simp; try with_reducible rfl)
            refine tk 9 (v := ?_) rfl (by kernel_rfl) (fun _ _ _ h => h) ?_ hHeld ?_
            rotate_left
            · (intro W hSw; (try dsimp only at hSw); obtain ⟨⟨y0, y1, y2, y3, y4⟩, y5, y6, y7, y8, y9⟩ := tenc hSw; go_simp; try with_reducible rfl)
            refine tk 10 (v := ?_) rfl (by kernel_rfl) (fun _ _ _ h => h) ?_ hHeld ?_
            rotate_left
            · (intro W hSw; (try dsimp only at hSw); obtain ⟨⟨y0, y1, y2, y3, y4⟩, y5, y6, y7, y8, y9⟩ := tenc hSw; go_simp; try with_reducible rfl)
            refine tk 11 (v := ?_) rfl (by kernel_rfl) (fun _ _ _ h => h) ?_ hHeld ?_
            rotate_left
            · (intro W hSw; (try dsimp only at hSw); obtain ⟨⟨y0, y1, y2, y3, y4⟩, y5, y6, y7, y8, y9⟩ := tenc hSw; go_simp; try with_reducible rfl)
            refine tk 12 (v := ?_) rfl (by kernel_rfl) (fun _ _ _ h => h) ?_ hHeld ?_
            rotate_left
            · (intro W hSw; (try dsimp only at hSw); obtain ⟨⟨y0, y1, y2, y3, y4⟩, y5, y6, y7, y8, y9⟩ := tenc hSw; go_simp; try with_reducible rfl)
            refine wpAnyH_ready (rs := [13]) (by kernel_rfl) (by simp) ?_
            refine AllReadyH.cons rfl (fun K hK => ?_) AllReadyH.nil
            go_simp
            refine hK.out _ _ HS5.out (fun hHeld => ?_)
            clear hK K
            refine tk 14 (v := ?_) rfl (by kernel_rfl) (fun _ _ _ h => h) ?_ hHeld ?_
            rotate_left
            · (intro W hSw; (try dsimp only at hSw); obtain ⟨⟨y0, y1, y2, y3, y4⟩, y5, y6, y7, y8, y9⟩ := tenc hSw; go_simp; try with_reducible rfl)
            refine tk 15 (v := ?_) rfl (by kernel_rfl) (fun _ _ _ h => h) ?_ hHeld ?_
            rotate_left
            · (intro W hSw; (try dsimp only at hSw); obtain ⟨⟨y0, y1, y2, y3, y4⟩, y5, y6, y7, y8, y9⟩ := tenc hSw; go_simp; try with_reducible rfl)
            refine tk 16 (v := ?_) rfl (by kernel_rfl) (fun _ _ _ h => h) ?_ hHeld ?_
            rotate_left
            · (intro W hSw; (try dsimp only at hSw); obtain ⟨⟨y0, y1, y2, y3, y4⟩, y5, y6, y7, y8, y9⟩ := tenc hSw; go_simp; try with_reducible rfl)
            refine tk 17 (v := ?_) rfl (by kernel_rfl) (fun _ _ _ h => h) ?_ hHeld ?_
            rotate_left
            · (intro W hSw; (try dsimp only at hSw); obtain ⟨⟨y0, y1, y2, y3, y4⟩, y5, y6, y7, y8, y9⟩ := tenc hSw; go_simp; try with_reducible rfl)
            refine wpAnyH_ready (rs := [18]) (by kernel_rfl) (by simp) ?_
            refine AllReadyH.cons rfl (fun K hK => ?_) AllReadyH.nil
            go_simp
            refine hK.out _ _ HS5.out (fun hHeld => ?_)
            clear hK K
            refine tk 19 (v := ?_) rfl (by kernel_rfl) (fun _ _ _ h => h) ?_ hHeld ?_
            rotate_left
            · (intro W hSw; (try dsimp only at hSw); obtain ⟨⟨y0, y1, y2, y3, y4⟩, y5, y6, y7, y8, y9⟩ := tenc hSw; go_simp; try with_reducible rfl)
            refine tk 20 (v := ?_) rfl (by kernel_rfl) (fun _ _ _ h => h) ?_ hHeld ?_
            rotate_left
            · (intro W hSw; (try dsimp only at hSw); obtain ⟨⟨y0, y1, y2, y3, y4⟩, y5, y6, y7, y8, y9⟩ := tenc hSw; go_simp; try with_reducible rfl)
            refine tk 21 (v := ?_) rfl (by kernel_rfl) (fun _ _ _ h => h) ?_ hHeld ?_
            rotate_left
            · (intro W hSw; (try dsimp only at hSw); obtain ⟨⟨y0, y1, y2, y3, y4⟩, y5, y6, y7, y8, y9⟩ := tenc hSw; go_simp; try with_reducible rfl)
            refine tk 22 (v := ?_) rfl (by kernel_rfl) (fun _ _ _ h => h) ?_ hHeld ?_
            rotate_left
            · (intro W hSw; (try dsimp only at hSw); obtain ⟨⟨y0, y1, y2, y3, y4⟩, y5, y6, y7, y8, y9⟩ := tenc hSw; go_simp; try with_reducible rfl)
            refine tk 23 (v := ?_) rfl (by kernel_rfl) (fun _ _ _ h => h) ?_ hHeld ?_
            rotate_left
            · (intro W hSw; (try dsimp only at hSw); obtain ⟨⟨y0, y1, y2, y3, y4⟩, y5, y6, y7, y8, y9⟩ := tenc hSw; go_simp; try with_reducible rfl)
            refine wpAnyH_ready (rs := [24]) (by kernel_rfl) (by simp) ?_
            refine AllReadyH.cons rfl (fun K hK => ?_) AllReadyH.nil
            go_simp
            refine hK.out _ _ HS5.out (fun hHeld => ?_)
            clear hK K
            refine tk 25 (v := ?_) rfl (by kernel_rfl) (fun _ _ _ h => h) ?_ hHeld ?_
            rotate_left
            · (intro W hSw; (try dsimp only at hSw); obtain ⟨⟨y0, y1, y2, y3, y4⟩, y5, y6, y7, y8, y9⟩ := tenc hSw; go_simp; try with_reducible rfl)
            have hb : 0 ≤ xf ∧ xf ≤ xt ∧ xt ≤ 1073741824 := ⟨by omega, by omega, by omega⟩
            have hkk : xk = 1 ∨ xk = 2 ∨ xk = 3 ∨ xk = 4 ∨ xk = 5 := by omega
            rcases hkk with k1 | k2 | k3 | k4 | k5
            · subst k1
              rw [kI_one] at *
              have MF : ∀ f W, (method (f + 1) 171 (.agg #[.int .i64 1, .int .i64 xf, .int .i64 xt, .int .i64 xg, .int .i64 xh, .int .i64 xi, .int .i64 xm, .int .i64 xv, .slice A n c, .slice B m d]) "stet/step.formed").run Try.prog W = _ := fun f W => m_splice_formed f ⟨1, xf, xt, xg, xh, xi, xm, xv⟩ (.slice A n c) (.slice B m d) W
              have MM : ∀ f W, (method (f + 1) 171 (.agg #[.int .i64 1, .int .i64 xf, .int .i64 xt, .int .i64 xg, .int .i64 xh, .int .i64 xi, .int .i64 xm, .int .i64 xv, .slice A n c, .slice B m d]) "stet/step.meant").run Try.prog W = _ := fun f W => m_splice_meant f ⟨1, xf, xt, xg, xh, xi, xm, xv⟩ (.slice A n c) (.slice B m d) W
              have CF := fun W => formed_splice (#[.int .i64 1, .int .i64 xf, .int .i64 xt, .int .i64 xg, .int .i64 xh, .int .i64 xi, .int .i64 xm, .int .i64 xv, .slice A n c, .slice B m d]) W
              have CM := fun W => meant_splice ⟨1, xf, xt, xg, xh, xi, xm, xv⟩ A B n m c d W
              have CS := fun W h1 h2 h3 h4 => ssame_any ⟨1, xf, xt, xg, xh, xi, xm, xv⟩ ⟨1, xf, xt, 0, 0, 0, 0, 0⟩ L L S [] A A B none n n m 0 c c d 0 W hn hn hm (by omega) h1 h2 h3 h4
              unfold stV stC at CM CS MF MM
              skip
              simp only at CM CS MF MM CF
              obtain ⟨bs, hbs⟩ : ∃ b, b = sameS ⟨1, xf, xt, xg, xh, xi, xm, xv⟩ ⟨1, xf, xt, 0, 0, 0, 0, 0⟩ L L S [] := ⟨_, rfl⟩
              have hFb : F = bs := by
                rw [HF.out, shape_eq ⟨hb.1, hb.2.1, hb.2.2, by omega⟩, hbs, Bool.eq_iff_iff]
                have hSm := HS.out.1
                have hLn := HL.out.1
                have hS0 : S = [] ↔ m = 0 := by rw [← hSm]; exact List.length_eq_zero_iff.symm
                have hL0 : L = [] ↔ n = 0 := by rw [← hLn]; exact List.length_eq_zero_iff.symm
                simp [formB, sameS, gapB, markB, hS0, hL0]
                try omega
              subst hFb
              have HBS := Lib.hid hbs
              clear hbs
              clear HF
              refine tk 26 (v := ?_) rfl (by kernel_rfl) (fun _ _ _ h => h) ?_ hHeld ?_
              rotate_left
              · (intro W hSw; (try dsimp only at hSw); obtain ⟨⟨y0, y1, y2, y3, y4⟩, y5, y6, y7, y8, y9⟩ := tenc hSw; go_simp; try with_reducible rfl)
              refine wpAnyH_ready (rs := [27]) (by kernel_rfl) (by simp) ?_
              refine AllReadyH.cons rfl (fun K hK => ?_) AllReadyH.nil
              go_simp
              refine (CF _).mono ?_
              rintro e W6 ⟨rfl, hb6⟩
              have HB6 := Lib.hid (HB5.out.trans (hb6.mono HB5.out.size))
              have HS6 := Lib.hid (hkeep hb6 HS5.out)
              clear hb6 hHeld HB5 HS5
              go_wp2_with fail
              refine hK.out _ _ HS6.out (fun hHeld => ?_)
              clear hK K
              refine tk 28 (v := ?_) rfl (by kernel_rfl) (fun _ _ _ h => h) ?_ hHeld ?_
              rotate_left
              · (intro W hSw; (try dsimp only at hSw); obtain ⟨⟨y0, y1, y2, y3, y4⟩, y5, y6, y7, y8, y9⟩ := tenc hSw; go_simp; try with_reducible rfl)
              refine wpAnyH_ready (rs := [29]) (by kernel_rfl) (by simp) ?_
              refine AllReadyH.cons rfl (fun K hK => ?_) AllReadyH.nil
              go_simp
              refine hK.out _ _ HS6.out (fun hHeld => ?_)
              clear hK K
              refine tk 30 (v := ?_) rfl (by kernel_rfl) (fun _ _ _ h => h) ?_ hHeld ?_
              rotate_left
              · (intro W hSw; (try dsimp only at hSw); obtain ⟨⟨y0, y1, y2, y3, y4⟩, y5, y6, y7, y8, y9⟩ := tenc hSw; go_simp; try with_reducible rfl)
              refine tk 31 (v := ?_) rfl (by kernel_rfl) (fun _ _ _ h => h) ?_ hHeld ?_
              rotate_left
              · (intro W hSw; (try dsimp only at hSw); obtain ⟨⟨y0, y1, y2, y3, y4⟩, y5, y6, y7, y8, y9⟩ := tenc hSw; go_simp; try with_reducible rfl)
              refine tk 32 (v := ?_) rfl (by kernel_rfl) (fun _ _ _ h => h) ?_ hHeld ?_
              rotate_left
              · (intro W hSw; (try dsimp only at hSw); obtain ⟨⟨y0, y1, y2, y3, y4⟩, y5, y6, y7, y8, y9⟩ := tenc hSw; go_simp; try with_reducible rfl)
              refine wpAnyH_ready (rs := [33]) (by kernel_rfl) (by simp) ?_
              refine AllReadyH.cons rfl (fun K hK => ?_) AllReadyH.nil
              go_simp
              refine (CM _).mono ?_
              rintro e W8 ⟨rfl, hb8⟩
              have HB8 := Lib.hid (HB6.out.trans (hb8.mono HB6.out.size))
              have HS8 := Lib.hid (hkeep hb8 HS6.out)
              clear hb8 hHeld HB6 HS6
              go_wp2_with fail
              refine hK.out _ _ HS8.out (fun hHeld => ?_)
              clear hK K
              have CSW := CS W8 (HL.out.below HB8.out) (HL.out.below HB8.out) (HS.out.below HB8.out) MkRow.nil
              rw [← HBS.out] at CSW
              refine wpAnyH_ready (rs := [34]) (by kernel_rfl) (by simp) ?_
              refine AllReadyH.cons rfl (fun K hK => ?_) AllReadyH.nil
              go_simp
              refine CSW.mono ?_
              rintro e W9 ⟨rfl, hb9⟩
              have HB9 := Lib.hid (HB8.out.trans (hb9.mono HB8.out.size))
              have HS9 := Lib.hid (hkeep hb9 HS8.out)
              clear hb9 hHeld HB8 HS8 CSW CS CM CF MF MM
              go_wp2_with fail
              refine hK.out _ _ HS9.out (fun hHeld => ?_)
              clear hK K
              cases F with
              | true =>
                refine tk 35 (v := ?_) rfl (by kernel_rfl) (fun _ _ _ h => h) ?_ hHeld ?_
                rotate_left
                · (intro W hSw; (try dsimp only at hSw); obtain ⟨⟨y0, y1, y2, y3, y4⟩, y5, y6, y7, y8, y9⟩ := tenc hSw; go_simp; try with_reducible rfl)
                refine wpAnyH_ready (rs := [36]) (by kernel_rfl) (by simp) ?_
                refine AllReadyH.cons rfl (fun K hK => ?_) AllReadyH.nil
                go_simp
                refine hK.out _ _ HS9.out (fun hHeld => ?_)
                clear hK K
                clear hHeld
                refine wpAnyH_done (by kernel_rfl) ?_ _
                go_wp2
                go_ret2
                exact ⟨rfl, HB9.out⟩
              | false =>
                refine tk 35 (v := ?_) rfl (by kernel_rfl) (fun _ _ _ h => h) ?_ hHeld ?_
                rotate_left
                · (intro W hSw; (try dsimp only at hSw); obtain ⟨⟨y0, y1, y2, y3, y4⟩, y5, y6, y7, y8, y9⟩ := tenc hSw; go_simp; try with_reducible rfl)
                refine wpAnyH_ready (rs := [36]) (by kernel_rfl) (by simp) ?_
                refine AllReadyH.cons rfl (fun K hK => ?_) AllReadyH.nil
                go_simp
                refine hK.out _ _ HS9.out (fun hHeld => ?_)
                clear hK K
                clear hHeld
                refine wpAnyH_done (by kernel_rfl) ?_ _
                go_wp2
                go_ret2
                exact ⟨rfl, HB9.out⟩
            · subst k2
              rw [kI_two] at *
              have MF : ∀ f W, (method (f + 1) 172 (.agg #[.int .i64 2, .int .i64 xf, .int .i64 xt, .int .i64 xg, .int .i64 xh, .int .i64 xi, .int .i64 xm, .int .i64 xv, .slice A n c, .slice B m d]) "stet/step.formed").run Try.prog W = _ := fun f W => m_around_formed f ⟨2, xf, xt, xg, xh, xi, xm, xv⟩ (.slice A n c) (.slice B m d) W
              have MM : ∀ f W, (method (f + 1) 172 (.agg #[.int .i64 2, .int .i64 xf, .int .i64 xt, .int .i64 xg, .int .i64 xh, .int .i64 xi, .int .i64 xm, .int .i64 xv, .slice A n c, .slice B m d]) "stet/step.meant").run Try.prog W = _ := fun f W => m_around_meant f ⟨2, xf, xt, xg, xh, xi, xm, xv⟩ (.slice A n c) (.slice B m d) W
              have CF := fun W => formed_around ⟨2, xf, xt, xg, xh, xi, xm, xv⟩ A B n m c d W
              have CM := fun W => meant_around ⟨2, xf, xt, xg, xh, xi, xm, xv⟩ A B n m c d W
              have CS := fun W h1 h2 h3 h4 => ssame_any ⟨2, xf, xt, xg, xh, xi, xm, xv⟩ ⟨2, xf, xt, xg, xh, xi, 0, 0⟩ L L S [] A A B none n n m 0 c c d 0 W hn hn hm (by omega) h1 h2 h3 h4
              unfold stV stC at CM CS MF MM
              unfold stV stC at CF
              simp only at CM CS MF MM CF
              obtain ⟨bf, hbf⟩ : ∃ b, b = (decide (xf ≤ xg) && decide (xg ≤ xh) && decide (xh ≤ xt) && decide (0 ≤ xi) && decide (xi ≤ n)) := ⟨_, rfl⟩
              rw [← hbf] at CF
              have HBF := Lib.hid hbf
              clear hbf
              refine tk 26 (v := ?_) rfl (by kernel_rfl) (fun _ _ _ h => h) ?_ hHeld ?_
              rotate_left
              · (intro W hSw; (try dsimp only at hSw); obtain ⟨⟨y0, y1, y2, y3, y4⟩, y5, y6, y7, y8, y9⟩ := tenc hSw; go_simp; try with_reducible rfl)
              refine wpAnyH_ready (rs := [27]) (by kernel_rfl) (by simp) ?_
              refine AllReadyH.cons rfl (fun K hK => ?_) AllReadyH.nil
              go_simp
              refine (CF _).mono ?_
              rintro e W6 ⟨rfl, hb6⟩
              have HB6 := Lib.hid (HB5.out.trans (hb6.mono HB5.out.size))
              have HS6 := Lib.hid (hkeep hb6 HS5.out)
              clear hb6 hHeld HB5 HS5
              go_wp2_with fail
              refine hK.out _ _ HS6.out (fun hHeld => ?_)
              clear hK K
              cases bf with
              | false =>
                have e : F = false := by
                  rw [HF.out, shape_eq ⟨hb.1, hb.2.1, hb.2.2, by omega⟩, Bool.eq_iff_iff]
                  have h := HBF.out
                  rw [Bool.eq_iff_iff] at h
                  simp at h
                  simp [formB]
                  try (intros; omega)
                subst e
                clear HF HBF
                refine tk 28 (v := ?_) rfl (by kernel_rfl) (fun _ _ _ h => h) ?_ hHeld ?_
                rotate_left
                · (intro W hSw; (try dsimp only at hSw); obtain ⟨⟨y0, y1, y2, y3, y4⟩, y5, y6, y7, y8, y9⟩ := tenc hSw; go_simp; try with_reducible rfl)
                refine wpAnyH_ready (rs := [29]) (by kernel_rfl) (by simp) ?_
                refine AllReadyH.cons rfl (fun K hK => ?_) AllReadyH.nil
                go_simp
                refine hK.out _ _ HS6.out (fun hHeld => ?_)
                clear hK K
                refine tk 30 (v := ?_) rfl (by kernel_rfl) (fun _ _ _ h => h) ?_ hHeld ?_
                rotate_left
                · (intro W hSw; (try dsimp only at hSw); obtain ⟨⟨y0, y1, y2, y3, y4⟩, y5, y6, y7, y8, y9⟩ := tenc hSw; go_simp; try with_reducible rfl)
                refine tkno 31 rfl (by kernel_rfl) (fun _ _ _ h => h) hHeld ?_
                refine tkno 32 rfl (by kernel_rfl) (fun _ _ _ h => h) hHeld ?_
                refine tkno 33 rfl (by kernel_rfl) (fun _ _ _ h => h) hHeld ?_
                refine tkno 34 rfl (by kernel_rfl) (fun _ _ _ h => h) hHeld ?_
                refine tkno 35 rfl (by kernel_rfl) (fun _ _ _ h => h) hHeld ?_
                refine wpAnyH_ready (rs := [36]) (by kernel_rfl) (by simp) ?_
                refine AllReadyH.cons rfl (fun K hK => ?_) AllReadyH.nil
                go_simp
                refine hK.out _ _ HS6.out (fun hHeld => ?_)
                clear hK K
                clear hHeld
                refine wpAnyH_done (by kernel_rfl) ?_ _
                go_wp2
                go_ret2
                exact ⟨rfl, HB6.out⟩
              | true =>
                obtain ⟨bs, hbs⟩ : ∃ b, b = sameS ⟨2, xf, xt, xg, xh, xi, xm, xv⟩ ⟨2, xf, xt, xg, xh, xi, 0, 0⟩ L L S [] := ⟨_, rfl⟩
                have hFb : F = bs := by
                  rw [HF.out, shape_eq ⟨hb.1, hb.2.1, hb.2.2, by omega⟩, hbs, Bool.eq_iff_iff]
                  have hSm := HS.out.1
                  have hLn := HL.out.1
                  have hS0 : S = [] ↔ m = 0 := by rw [← hSm]; exact List.length_eq_zero_iff.symm
                  have hL0 : L = [] ↔ n = 0 := by rw [← hLn]; exact List.length_eq_zero_iff.symm
                  simp [formB, sameS, gapB, markB, hS0, hL0]
                  have h := HBF.out
                  rw [Bool.eq_iff_iff] at h
                  simp at h
                  try omega
                subst hFb
                have HBS := Lib.hid hbs
                clear hbs
                clear HF HBF
                refine tk 28 (v := ?_) rfl (by kernel_rfl) (fun _ _ _ h => h) ?_ hHeld ?_
                rotate_left
                · (intro W hSw; (try dsimp only at hSw); obtain ⟨⟨y0, y1, y2, y3, y4⟩, y5, y6, y7, y8, y9⟩ := tenc hSw; go_simp; try with_reducible rfl)
                refine wpAnyH_ready (rs := [29]) (by kernel_rfl) (by simp) ?_
                refine AllReadyH.cons rfl (fun K hK => ?_) AllReadyH.nil
                go_simp
                refine hK.out _ _ HS6.out (fun hHeld => ?_)
                clear hK K
                refine tk 30 (v := ?_) rfl (by kernel_rfl) (fun _ _ _ h => h) ?_ hHeld ?_
                rotate_left
                · (intro W hSw; (try dsimp only at hSw); obtain ⟨⟨y0, y1, y2, y3, y4⟩, y5, y6, y7, y8, y9⟩ := tenc hSw; go_simp; try with_reducible rfl)
                refine tk 31 (v := ?_) rfl (by kernel_rfl) (fun _ _ _ h => h) ?_ hHeld ?_
                rotate_left
                · (intro W hSw; (try dsimp only at hSw); obtain ⟨⟨y0, y1, y2, y3, y4⟩, y5, y6, y7, y8, y9⟩ := tenc hSw; go_simp; try with_reducible rfl)
                refine tk 32 (v := ?_) rfl (by kernel_rfl) (fun _ _ _ h => h) ?_ hHeld ?_
                rotate_left
                · (intro W hSw; (try dsimp only at hSw); obtain ⟨⟨y0, y1, y2, y3, y4⟩, y5, y6, y7, y8, y9⟩ := tenc hSw; go_simp; try with_reducible rfl)
                refine wpAnyH_ready (rs := [33]) (by kernel_rfl) (by simp) ?_
                refine AllReadyH.cons rfl (fun K hK => ?_) AllReadyH.nil
                go_simp
                refine (CM _).mono ?_
                rintro e W8 ⟨rfl, hb8⟩
                have HB8 := Lib.hid (HB6.out.trans (hb8.mono HB6.out.size))
                have HS8 := Lib.hid (hkeep hb8 HS6.out)
                clear hb8 hHeld HB6 HS6
                go_wp2_with fail
                refine hK.out _ _ HS8.out (fun hHeld => ?_)
                clear hK K
                have CSW := CS W8 (HL.out.below HB8.out) (HL.out.below HB8.out) (HS.out.below HB8.out) MkRow.nil
                rw [← HBS.out] at CSW
                refine wpAnyH_ready (rs := [34]) (by kernel_rfl) (by simp) ?_
                refine AllReadyH.cons rfl (fun K hK => ?_) AllReadyH.nil
                go_simp
                refine CSW.mono ?_
                rintro e W9 ⟨rfl, hb9⟩
                have HB9 := Lib.hid (HB8.out.trans (hb9.mono HB8.out.size))
                have HS9 := Lib.hid (hkeep hb9 HS8.out)
                clear hb9 hHeld HB8 HS8 CSW CS CM CF MF MM
                go_wp2_with fail
                refine hK.out _ _ HS9.out (fun hHeld => ?_)
                clear hK K
                cases F with
                | true =>
                  refine tk 35 (v := ?_) rfl (by kernel_rfl) (fun _ _ _ h => h) ?_ hHeld ?_
                  rotate_left
                  · (intro W hSw; (try dsimp only at hSw); obtain ⟨⟨y0, y1, y2, y3, y4⟩, y5, y6, y7, y8, y9⟩ := tenc hSw; go_simp; try with_reducible rfl)
                  refine wpAnyH_ready (rs := [36]) (by kernel_rfl) (by simp) ?_
                  refine AllReadyH.cons rfl (fun K hK => ?_) AllReadyH.nil
                  go_simp
                  refine hK.out _ _ HS9.out (fun hHeld => ?_)
                  clear hK K
                  clear hHeld
                  refine wpAnyH_done (by kernel_rfl) ?_ _
                  go_wp2
                  go_ret2
                  exact ⟨rfl, HB9.out⟩
                | false =>
                  refine tk 35 (v := ?_) rfl (by kernel_rfl) (fun _ _ _ h => h) ?_ hHeld ?_
                  rotate_left
                  · (intro W hSw; (try dsimp only at hSw); obtain ⟨⟨y0, y1, y2, y3, y4⟩, y5, y6, y7, y8, y9⟩ := tenc hSw; go_simp; try with_reducible rfl)
                  refine wpAnyH_ready (rs := [36]) (by kernel_rfl) (by simp) ?_
                  refine AllReadyH.cons rfl (fun K hK => ?_) AllReadyH.nil
                  go_simp
                  refine hK.out _ _ HS9.out (fun hHeld => ?_)
                  clear hK K
                  clear hHeld
                  refine wpAnyH_done (by kernel_rfl) ?_ _
                  go_wp2
                  go_ret2
                  exact ⟨rfl, HB9.out⟩
            · subst k3
              rw [kI_three] at *
              have MF : ∀ f W, (method (f + 1) 177 (.agg #[.int .i64 3, .int .i64 xf, .int .i64 xt, .int .i64 xg, .int .i64 xh, .int .i64 xi, .int .i64 xm, .int .i64 xv, .slice A n c, .slice B m d]) "stet/step.formed").run Try.prog W = _ := fun f W => m_adding_formed f ⟨3, xf, xt, xg, xh, xi, xm, xv⟩ (.slice A n c) (.slice B m d) W
              have MM : ∀ f W, (method (f + 1) 177 (.agg #[.int .i64 3, .int .i64 xf, .int .i64 xt, .int .i64 xg, .int .i64 xh, .int .i64 xi, .int .i64 xm, .int .i64 xv, .slice A n c, .slice B m d]) "stet/step.meant").run Try.prog W = _ := fun f W => m_adding_meant f ⟨3, xf, xt, xg, xh, xi, xm, xv⟩ (.slice A n c) (.slice B m d) W
              have CF := fun W => formed_mark (#[.int .i64 3, .int .i64 xf, .int .i64 xt, .int .i64 xg, .int .i64 xh, .int .i64 xi, .int .i64 xm, .int .i64 xv, .slice A n c, .slice B m d]) W
              have CM := fun W => meant_mark ⟨3, xf, xt, xg, xh, xi, xm, xv⟩ A B n m c d W
              have CS := fun W h1 h2 h3 h4 => ssame_any ⟨3, xf, xt, xg, xh, xi, xm, xv⟩ ⟨3, xf, xt, 0, 0, 0, xm, xv⟩ L [] S [] A none B none n 0 m 0 c 0 d 0 W hn (by omega) hm (by omega) h1 h2 h3 h4
              unfold stV stC at CM CS MF MM
              skip
              simp only at CM CS MF MM CF
              obtain ⟨bs, hbs⟩ : ∃ b, b = sameS ⟨3, xf, xt, xg, xh, xi, xm, xv⟩ ⟨3, xf, xt, 0, 0, 0, xm, xv⟩ L [] S [] := ⟨_, rfl⟩
              have hFb : F = bs := by
                rw [HF.out, shape_eq ⟨hb.1, hb.2.1, hb.2.2, by omega⟩, hbs, Bool.eq_iff_iff]
                have hSm := HS.out.1
                have hLn := HL.out.1
                have hS0 : S = [] ↔ m = 0 := by rw [← hSm]; exact List.length_eq_zero_iff.symm
                have hL0 : L = [] ↔ n = 0 := by rw [← hLn]; exact List.length_eq_zero_iff.symm
                simp [formB, sameS, gapB, markB, hS0, hL0]
                try omega
              subst hFb
              have HBS := Lib.hid hbs
              clear hbs
              clear HF
              refine tk 26 (v := ?_) rfl (by kernel_rfl) (fun _ _ _ h => h) ?_ hHeld ?_
              rotate_left
              · (intro W hSw; (try dsimp only at hSw); obtain ⟨⟨y0, y1, y2, y3, y4⟩, y5, y6, y7, y8, y9⟩ := tenc hSw; go_simp; try with_reducible rfl)
              refine wpAnyH_ready (rs := [27]) (by kernel_rfl) (by simp) ?_
              refine AllReadyH.cons rfl (fun K hK => ?_) AllReadyH.nil
              go_simp
              refine (CF _).mono ?_
              rintro e W6 ⟨rfl, hb6⟩
              have HB6 := Lib.hid (HB5.out.trans (hb6.mono HB5.out.size))
              have HS6 := Lib.hid (hkeep hb6 HS5.out)
              clear hb6 hHeld HB5 HS5
              go_wp2_with fail
              refine hK.out _ _ HS6.out (fun hHeld => ?_)
              clear hK K
              refine tk 28 (v := ?_) rfl (by kernel_rfl) (fun _ _ _ h => h) ?_ hHeld ?_
              rotate_left
              · (intro W hSw; (try dsimp only at hSw); obtain ⟨⟨y0, y1, y2, y3, y4⟩, y5, y6, y7, y8, y9⟩ := tenc hSw; go_simp; try with_reducible rfl)
              refine wpAnyH_ready (rs := [29]) (by kernel_rfl) (by simp) ?_
              refine AllReadyH.cons rfl (fun K hK => ?_) AllReadyH.nil
              go_simp
              refine hK.out _ _ HS6.out (fun hHeld => ?_)
              clear hK K
              refine tk 30 (v := ?_) rfl (by kernel_rfl) (fun _ _ _ h => h) ?_ hHeld ?_
              rotate_left
              · (intro W hSw; (try dsimp only at hSw); obtain ⟨⟨y0, y1, y2, y3, y4⟩, y5, y6, y7, y8, y9⟩ := tenc hSw; go_simp; try with_reducible rfl)
              refine tk 31 (v := ?_) rfl (by kernel_rfl) (fun _ _ _ h => h) ?_ hHeld ?_
              rotate_left
              · (intro W hSw; (try dsimp only at hSw); obtain ⟨⟨y0, y1, y2, y3, y4⟩, y5, y6, y7, y8, y9⟩ := tenc hSw; go_simp; try with_reducible rfl)
              refine tk 32 (v := ?_) rfl (by kernel_rfl) (fun _ _ _ h => h) ?_ hHeld ?_
              rotate_left
              · (intro W hSw; (try dsimp only at hSw); obtain ⟨⟨y0, y1, y2, y3, y4⟩, y5, y6, y7, y8, y9⟩ := tenc hSw; go_simp; try with_reducible rfl)
              refine wpAnyH_ready (rs := [33]) (by kernel_rfl) (by simp) ?_
              refine AllReadyH.cons rfl (fun K hK => ?_) AllReadyH.nil
              go_simp
              refine (CM _).mono ?_
              rintro e W8 ⟨rfl, hb8⟩
              have HB8 := Lib.hid (HB6.out.trans (hb8.mono HB6.out.size))
              have HS8 := Lib.hid (hkeep hb8 HS6.out)
              clear hb8 hHeld HB6 HS6
              go_wp2_with fail
              refine hK.out _ _ HS8.out (fun hHeld => ?_)
              clear hK K
              have CSW := CS W8 (HL.out.below HB8.out) TRow.nil (HS.out.below HB8.out) MkRow.nil
              rw [← HBS.out] at CSW
              refine wpAnyH_ready (rs := [34]) (by kernel_rfl) (by simp) ?_
              refine AllReadyH.cons rfl (fun K hK => ?_) AllReadyH.nil
              go_simp
              refine CSW.mono ?_
              rintro e W9 ⟨rfl, hb9⟩
              have HB9 := Lib.hid (HB8.out.trans (hb9.mono HB8.out.size))
              have HS9 := Lib.hid (hkeep hb9 HS8.out)
              clear hb9 hHeld HB8 HS8 CSW CS CM CF MF MM
              go_wp2_with fail
              refine hK.out _ _ HS9.out (fun hHeld => ?_)
              clear hK K
              cases F with
              | true =>
                refine tk 35 (v := ?_) rfl (by kernel_rfl) (fun _ _ _ h => h) ?_ hHeld ?_
                rotate_left
                · (intro W hSw; (try dsimp only at hSw); obtain ⟨⟨y0, y1, y2, y3, y4⟩, y5, y6, y7, y8, y9⟩ := tenc hSw; go_simp; try with_reducible rfl)
                refine wpAnyH_ready (rs := [36]) (by kernel_rfl) (by simp) ?_
                refine AllReadyH.cons rfl (fun K hK => ?_) AllReadyH.nil
                go_simp
                refine hK.out _ _ HS9.out (fun hHeld => ?_)
                clear hK K
                clear hHeld
                refine wpAnyH_done (by kernel_rfl) ?_ _
                go_wp2
                go_ret2
                exact ⟨rfl, HB9.out⟩
              | false =>
                refine tk 35 (v := ?_) rfl (by kernel_rfl) (fun _ _ _ h => h) ?_ hHeld ?_
                rotate_left
                · (intro W hSw; (try dsimp only at hSw); obtain ⟨⟨y0, y1, y2, y3, y4⟩, y5, y6, y7, y8, y9⟩ := tenc hSw; go_simp; try with_reducible rfl)
                refine wpAnyH_ready (rs := [36]) (by kernel_rfl) (by simp) ?_
                refine AllReadyH.cons rfl (fun K hK => ?_) AllReadyH.nil
                go_simp
                refine hK.out _ _ HS9.out (fun hHeld => ?_)
                clear hK K
                clear hHeld
                refine wpAnyH_done (by kernel_rfl) ?_ _
                go_wp2
                go_ret2
                exact ⟨rfl, HB9.out⟩
            · subst k4
              rw [kI_four] at *
              have MF : ∀ f W, (method (f + 1) 178 (.agg #[.int .i64 4, .int .i64 xf, .int .i64 xt, .int .i64 xg, .int .i64 xh, .int .i64 xi, .int .i64 xm, .int .i64 xv, .slice A n c, .slice B m d]) "stet/step.formed").run Try.prog W = _ := fun f W => m_removing_formed f ⟨4, xf, xt, xg, xh, xi, xm, xv⟩ (.slice A n c) (.slice B m d) W
              have MM : ∀ f W, (method (f + 1) 178 (.agg #[.int .i64 4, .int .i64 xf, .int .i64 xt, .int .i64 xg, .int .i64 xh, .int .i64 xi, .int .i64 xm, .int .i64 xv, .slice A n c, .slice B m d]) "stet/step.meant").run Try.prog W = _ := fun f W => m_removing_meant f ⟨4, xf, xt, xg, xh, xi, xm, xv⟩ (.slice A n c) (.slice B m d) W
              have CF := fun W => formed_mark (#[.int .i64 4, .int .i64 xf, .int .i64 xt, .int .i64 xg, .int .i64 xh, .int .i64 xi, .int .i64 xm, .int .i64 xv, .slice A n c, .slice B m d]) W
              have CM := fun W => meant_mark ⟨4, xf, xt, xg, xh, xi, xm, xv⟩ A B n m c d W
              have CS := fun W h1 h2 h3 h4 => ssame_any ⟨4, xf, xt, xg, xh, xi, xm, xv⟩ ⟨4, xf, xt, 0, 0, 0, xm, xv⟩ L [] S [] A none B none n 0 m 0 c 0 d 0 W hn (by omega) hm (by omega) h1 h2 h3 h4
              unfold stV stC at CM CS MF MM
              skip
              simp only at CM CS MF MM CF
              obtain ⟨bs, hbs⟩ : ∃ b, b = sameS ⟨4, xf, xt, xg, xh, xi, xm, xv⟩ ⟨4, xf, xt, 0, 0, 0, xm, xv⟩ L [] S [] := ⟨_, rfl⟩
              have hFb : F = bs := by
                rw [HF.out, shape_eq ⟨hb.1, hb.2.1, hb.2.2, by omega⟩, hbs, Bool.eq_iff_iff]
                have hSm := HS.out.1
                have hLn := HL.out.1
                have hS0 : S = [] ↔ m = 0 := by rw [← hSm]; exact List.length_eq_zero_iff.symm
                have hL0 : L = [] ↔ n = 0 := by rw [← hLn]; exact List.length_eq_zero_iff.symm
                simp [formB, sameS, gapB, markB, hS0, hL0]
                try omega
              subst hFb
              have HBS := Lib.hid hbs
              clear hbs
              clear HF
              refine tk 26 (v := ?_) rfl (by kernel_rfl) (fun _ _ _ h => h) ?_ hHeld ?_
              rotate_left
              · (intro W hSw; (try dsimp only at hSw); obtain ⟨⟨y0, y1, y2, y3, y4⟩, y5, y6, y7, y8, y9⟩ := tenc hSw; go_simp; try with_reducible rfl)
              refine wpAnyH_ready (rs := [27]) (by kernel_rfl) (by simp) ?_
              refine AllReadyH.cons rfl (fun K hK => ?_) AllReadyH.nil
              go_simp
              refine (CF _).mono ?_
              rintro e W6 ⟨rfl, hb6⟩
              have HB6 := Lib.hid (HB5.out.trans (hb6.mono HB5.out.size))
              have HS6 := Lib.hid (hkeep hb6 HS5.out)
              clear hb6 hHeld HB5 HS5
              go_wp2_with fail
              refine hK.out _ _ HS6.out (fun hHeld => ?_)
              clear hK K
              refine tk 28 (v := ?_) rfl (by kernel_rfl) (fun _ _ _ h => h) ?_ hHeld ?_
              rotate_left
              · (intro W hSw; (try dsimp only at hSw); obtain ⟨⟨y0, y1, y2, y3, y4⟩, y5, y6, y7, y8, y9⟩ := tenc hSw; go_simp; try with_reducible rfl)
              refine wpAnyH_ready (rs := [29]) (by kernel_rfl) (by simp) ?_
              refine AllReadyH.cons rfl (fun K hK => ?_) AllReadyH.nil
              go_simp
              refine hK.out _ _ HS6.out (fun hHeld => ?_)
              clear hK K
              refine tk 30 (v := ?_) rfl (by kernel_rfl) (fun _ _ _ h => h) ?_ hHeld ?_
              rotate_left
              · (intro W hSw; (try dsimp only at hSw); obtain ⟨⟨y0, y1, y2, y3, y4⟩, y5, y6, y7, y8, y9⟩ := tenc hSw; go_simp; try with_reducible rfl)
              refine tk 31 (v := ?_) rfl (by kernel_rfl) (fun _ _ _ h => h) ?_ hHeld ?_
              rotate_left
              · (intro W hSw; (try dsimp only at hSw); obtain ⟨⟨y0, y1, y2, y3, y4⟩, y5, y6, y7, y8, y9⟩ := tenc hSw; go_simp; try with_reducible rfl)
              refine tk 32 (v := ?_) rfl (by kernel_rfl) (fun _ _ _ h => h) ?_ hHeld ?_
              rotate_left
              · (intro W hSw; (try dsimp only at hSw); obtain ⟨⟨y0, y1, y2, y3, y4⟩, y5, y6, y7, y8, y9⟩ := tenc hSw; go_simp; try with_reducible rfl)
              refine wpAnyH_ready (rs := [33]) (by kernel_rfl) (by simp) ?_
              refine AllReadyH.cons rfl (fun K hK => ?_) AllReadyH.nil
              go_simp
              refine (CM _).mono ?_
              rintro e W8 ⟨rfl, hb8⟩
              have HB8 := Lib.hid (HB6.out.trans (hb8.mono HB6.out.size))
              have HS8 := Lib.hid (hkeep hb8 HS6.out)
              clear hb8 hHeld HB6 HS6
              go_wp2_with fail
              refine hK.out _ _ HS8.out (fun hHeld => ?_)
              clear hK K
              have CSW := CS W8 (HL.out.below HB8.out) TRow.nil (HS.out.below HB8.out) MkRow.nil
              rw [← HBS.out] at CSW
              refine wpAnyH_ready (rs := [34]) (by kernel_rfl) (by simp) ?_
              refine AllReadyH.cons rfl (fun K hK => ?_) AllReadyH.nil
              go_simp
              refine CSW.mono ?_
              rintro e W9 ⟨rfl, hb9⟩
              have HB9 := Lib.hid (HB8.out.trans (hb9.mono HB8.out.size))
              have HS9 := Lib.hid (hkeep hb9 HS8.out)
              clear hb9 hHeld HB8 HS8 CSW CS CM CF MF MM
              go_wp2_with fail
              refine hK.out _ _ HS9.out (fun hHeld => ?_)
              clear hK K
              cases F with
              | true =>
                refine tk 35 (v := ?_) rfl (by kernel_rfl) (fun _ _ _ h => h) ?_ hHeld ?_
                rotate_left
                · (intro W hSw; (try dsimp only at hSw); obtain ⟨⟨y0, y1, y2, y3, y4⟩, y5, y6, y7, y8, y9⟩ := tenc hSw; go_simp; try with_reducible rfl)
                refine wpAnyH_ready (rs := [36]) (by kernel_rfl) (by simp) ?_
                refine AllReadyH.cons rfl (fun K hK => ?_) AllReadyH.nil
                go_simp
                refine hK.out _ _ HS9.out (fun hHeld => ?_)
                clear hK K
                clear hHeld
                refine wpAnyH_done (by kernel_rfl) ?_ _
                go_wp2
                go_ret2
                exact ⟨rfl, HB9.out⟩
              | false =>
                refine tk 35 (v := ?_) rfl (by kernel_rfl) (fun _ _ _ h => h) ?_ hHeld ?_
                rotate_left
                · (intro W hSw; (try dsimp only at hSw); obtain ⟨⟨y0, y1, y2, y3, y4⟩, y5, y6, y7, y8, y9⟩ := tenc hSw; go_simp; try with_reducible rfl)
                refine wpAnyH_ready (rs := [36]) (by kernel_rfl) (by simp) ?_
                refine AllReadyH.cons rfl (fun K hK => ?_) AllReadyH.nil
                go_simp
                refine hK.out _ _ HS9.out (fun hHeld => ?_)
                clear hK K
                clear hHeld
                refine wpAnyH_done (by kernel_rfl) ?_ _
                go_wp2
                go_ret2
                exact ⟨rfl, HB9.out⟩
            · subst k5
              rw [kI_five] at *
              have MF : ∀ f W, (method (f + 1) 179 (.agg #[.int .i64 5, .int .i64 xf, .int .i64 xt, .int .i64 xg, .int .i64 xh, .int .i64 xi, .int .i64 xm, .int .i64 xv, .slice A n c, .slice B m d]) "stet/step.formed").run Try.prog W = _ := fun f W => m_remark_formed f ⟨5, xf, xt, xg, xh, xi, xm, xv⟩ (.slice A n c) (.slice B m d) W
              have MM : ∀ f W, (method (f + 1) 179 (.agg #[.int .i64 5, .int .i64 xf, .int .i64 xt, .int .i64 xg, .int .i64 xh, .int .i64 xi, .int .i64 xm, .int .i64 xv, .slice A n c, .slice B m d]) "stet/step.meant").run Try.prog W = _ := fun f W => m_remark_meant f ⟨5, xf, xt, xg, xh, xi, xm, xv⟩ (.slice A n c) (.slice B m d) W
              have CF := fun W => formed_remark ⟨5, xf, xt, xg, xh, xi, xm, xv⟩ A B n m c d W hb
              have CM := fun W => meant_remark ⟨5, xf, xt, xg, xh, xi, xm, xv⟩ A B n m c d W
              have CS := fun W h1 h2 h3 h4 => ssame_any ⟨5, xf, xt, xg, xh, xi, xm, xv⟩ ⟨5, xf, xt, 0, 0, 0, 0, 0⟩ L [] S S A none B B n 0 m m c 0 d d W hn (by omega) hm hm h1 h2 h3 h4
              unfold stV stC at CM CS MF MM
              unfold stV stC at CF
              simp only at CM CS MF MM CF
              obtain ⟨bf, hbf⟩ : ∃ b, b = (decide ((m : Int) = xt - xf) && decide (m ≤ 20000)) := ⟨_, rfl⟩
              rw [← hbf] at CF
              have HBF := Lib.hid hbf
              clear hbf
              refine tk 26 (v := ?_) rfl (by kernel_rfl) (fun _ _ _ h => h) ?_ hHeld ?_
              rotate_left
              · (intro W hSw; (try dsimp only at hSw); obtain ⟨⟨y0, y1, y2, y3, y4⟩, y5, y6, y7, y8, y9⟩ := tenc hSw; go_simp; try with_reducible rfl)
              refine wpAnyH_ready (rs := [27]) (by kernel_rfl) (by simp) ?_
              refine AllReadyH.cons rfl (fun K hK => ?_) AllReadyH.nil
              go_simp
              refine (CF _).mono ?_
              rintro e W6 ⟨rfl, hb6⟩
              have HB6 := Lib.hid (HB5.out.trans (hb6.mono HB5.out.size))
              have HS6 := Lib.hid (hkeep hb6 HS5.out)
              clear hb6 hHeld HB5 HS5
              go_wp2_with fail
              refine hK.out _ _ HS6.out (fun hHeld => ?_)
              clear hK K
              cases bf with
              | false =>
                have e : F = false := by
                  rw [HF.out, shape_eq ⟨hb.1, hb.2.1, hb.2.2, by omega⟩, Bool.eq_iff_iff]
                  have h := HBF.out
                  rw [Bool.eq_iff_iff] at h
                  simp at h
                  simp [formB]
                  try (intros; omega)
                subst e
                clear HF HBF
                refine tk 28 (v := ?_) rfl (by kernel_rfl) (fun _ _ _ h => h) ?_ hHeld ?_
                rotate_left
                · (intro W hSw; (try dsimp only at hSw); obtain ⟨⟨y0, y1, y2, y3, y4⟩, y5, y6, y7, y8, y9⟩ := tenc hSw; go_simp; try with_reducible rfl)
                refine wpAnyH_ready (rs := [29]) (by kernel_rfl) (by simp) ?_
                refine AllReadyH.cons rfl (fun K hK => ?_) AllReadyH.nil
                go_simp
                refine hK.out _ _ HS6.out (fun hHeld => ?_)
                clear hK K
                refine tk 30 (v := ?_) rfl (by kernel_rfl) (fun _ _ _ h => h) ?_ hHeld ?_
                rotate_left
                · (intro W hSw; (try dsimp only at hSw); obtain ⟨⟨y0, y1, y2, y3, y4⟩, y5, y6, y7, y8, y9⟩ := tenc hSw; go_simp; try with_reducible rfl)
                refine tkno 31 rfl (by kernel_rfl) (fun _ _ _ h => h) hHeld ?_
                refine tkno 32 rfl (by kernel_rfl) (fun _ _ _ h => h) hHeld ?_
                refine tkno 33 rfl (by kernel_rfl) (fun _ _ _ h => h) hHeld ?_
                refine tkno 34 rfl (by kernel_rfl) (fun _ _ _ h => h) hHeld ?_
                refine tkno 35 rfl (by kernel_rfl) (fun _ _ _ h => h) hHeld ?_
                refine wpAnyH_ready (rs := [36]) (by kernel_rfl) (by simp) ?_
                refine AllReadyH.cons rfl (fun K hK => ?_) AllReadyH.nil
                go_simp
                refine hK.out _ _ HS6.out (fun hHeld => ?_)
                clear hK K
                clear hHeld
                refine wpAnyH_done (by kernel_rfl) ?_ _
                go_wp2
                go_ret2
                exact ⟨rfl, HB6.out⟩
              | true =>
                obtain ⟨bs, hbs⟩ : ∃ b, b = sameS ⟨5, xf, xt, xg, xh, xi, xm, xv⟩ ⟨5, xf, xt, 0, 0, 0, 0, 0⟩ L [] S S := ⟨_, rfl⟩
                have hFb : F = bs := by
                  rw [HF.out, shape_eq ⟨hb.1, hb.2.1, hb.2.2, by omega⟩, hbs, Bool.eq_iff_iff]
                  have hSm := HS.out.1
                  have hLn := HL.out.1
                  have hS0 : S = [] ↔ m = 0 := by rw [← hSm]; exact List.length_eq_zero_iff.symm
                  have hL0 : L = [] ↔ n = 0 := by rw [← hLn]; exact List.length_eq_zero_iff.symm
                  simp [formB, sameS, gapB, markB, hS0, hL0]
                  have h := HBF.out
                  rw [Bool.eq_iff_iff] at h
                  simp at h
                  try omega
                subst hFb
                have HBS := Lib.hid hbs
                clear hbs
                clear HF HBF
                refine tk 28 (v := ?_) rfl (by kernel_rfl) (fun _ _ _ h => h) ?_ hHeld ?_
                rotate_left
                · (intro W hSw; (try dsimp only at hSw); obtain ⟨⟨y0, y1, y2, y3, y4⟩, y5, y6, y7, y8, y9⟩ := tenc hSw; go_simp; try with_reducible rfl)
                refine wpAnyH_ready (rs := [29]) (by kernel_rfl) (by simp) ?_
                refine AllReadyH.cons rfl (fun K hK => ?_) AllReadyH.nil
                go_simp
                refine hK.out _ _ HS6.out (fun hHeld => ?_)
                clear hK K
                refine tk 30 (v := ?_) rfl (by kernel_rfl) (fun _ _ _ h => h) ?_ hHeld ?_
                rotate_left
                · (intro W hSw; (try dsimp only at hSw); obtain ⟨⟨y0, y1, y2, y3, y4⟩, y5, y6, y7, y8, y9⟩ := tenc hSw; go_simp; try with_reducible rfl)
                refine tk 31 (v := ?_) rfl (by kernel_rfl) (fun _ _ _ h => h) ?_ hHeld ?_
                rotate_left
                · (intro W hSw; (try dsimp only at hSw); obtain ⟨⟨y0, y1, y2, y3, y4⟩, y5, y6, y7, y8, y9⟩ := tenc hSw; go_simp; try with_reducible rfl)
                refine tk 32 (v := ?_) rfl (by kernel_rfl) (fun _ _ _ h => h) ?_ hHeld ?_
                rotate_left
                · (intro W hSw; (try dsimp only at hSw); obtain ⟨⟨y0, y1, y2, y3, y4⟩, y5, y6, y7, y8, y9⟩ := tenc hSw; go_simp; try with_reducible rfl)
                refine wpAnyH_ready (rs := [33]) (by kernel_rfl) (by simp) ?_
                refine AllReadyH.cons rfl (fun K hK => ?_) AllReadyH.nil
                go_simp
                refine (CM _).mono ?_
                rintro e W8 ⟨rfl, hb8⟩
                have HB8 := Lib.hid (HB6.out.trans (hb8.mono HB6.out.size))
                have HS8 := Lib.hid (hkeep hb8 HS6.out)
                clear hb8 hHeld HB6 HS6
                go_wp2_with fail
                refine hK.out _ _ HS8.out (fun hHeld => ?_)
                clear hK K
                have CSW := CS W8 (HL.out.below HB8.out) TRow.nil (HS.out.below HB8.out) (HS.out.below HB8.out)
                rw [← HBS.out] at CSW
                refine wpAnyH_ready (rs := [34]) (by kernel_rfl) (by simp) ?_
                refine AllReadyH.cons rfl (fun K hK => ?_) AllReadyH.nil
                go_simp
                refine CSW.mono ?_
                rintro e W9 ⟨rfl, hb9⟩
                have HB9 := Lib.hid (HB8.out.trans (hb9.mono HB8.out.size))
                have HS9 := Lib.hid (hkeep hb9 HS8.out)
                clear hb9 hHeld HB8 HS8 CSW CS CM CF MF MM
                go_wp2_with fail
                refine hK.out _ _ HS9.out (fun hHeld => ?_)
                clear hK K
                cases F with
                | true =>
                  refine tk 35 (v := ?_) rfl (by kernel_rfl) (fun _ _ _ h => h) ?_ hHeld ?_
                  rotate_left
                  · (intro W hSw; (try dsimp only at hSw); obtain ⟨⟨y0, y1, y2, y3, y4⟩, y5, y6, y7, y8, y9⟩ := tenc hSw; go_simp; try with_reducible rfl)
                  refine wpAnyH_ready (rs := [36]) (by kernel_rfl) (by simp) ?_
                  refine AllReadyH.cons rfl (fun K hK => ?_) AllReadyH.nil
                  go_simp
                  refine hK.out _ _ HS9.out (fun hHeld => ?_)
                  clear hK K
                  clear hHeld
                  refine wpAnyH_done (by kernel_rfl) ?_ _
                  go_wp2
                  go_ret2
                  exact ⟨rfl, HB9.out⟩
                | false =>
                  refine tk 35 (v := ?_) rfl (by kernel_rfl) (fun _ _ _ h => h) ?_ hHeld ?_
                  rotate_left
                  · (intro W hSw; (try dsimp only at hSw); obtain ⟨⟨y0, y1, y2, y3, y4⟩, y5, y6, y7, y8, y9⟩ := tenc hSw; go_simp; try with_reducible rfl)
                  refine wpAnyH_ready (rs := [36]) (by kernel_rfl) (by simp) ?_
                  refine AllReadyH.cons rfl (fun K hK => ?_) AllReadyH.nil
                  go_simp
                  refine hK.out _ _ HS9.out (fun hHeld => ?_)
                  clear hK K
                  clear hHeld
                  refine wpAnyH_done (by kernel_rfl) ?_ _
                  go_wp2
                  go_ret2
                  exact ⟨rfl, HB9.out⟩
end Go.Proofs.Ytgodphfkhmahnaa.St
