/- Steps held against each other: step.Same. -/
import Derived.Test.YtgodphfkhmahnaaMkEq
import Derived.Test.YtgodphfkhmahnaaSmB
namespace Go.Proofs.Ytgodphfkhmahnaa.St
open Go.RowKit Mem Sm Tk
set_option linter.unusedVariables false

/-- two steps in their boxes -/
def SH (n0 : Nat) (a b : Array Value) (W : World) : Prop := W.heap[n0]? = some (.cells a 25 (0, 0)) ∧ W.heap[n0 + 1]? = some (.cells b 25 (0, 0))
theorem SH.step {n0 : Nat} {a b : Array Value} {W W' : World} (h : SH n0 a b W) (hb : Below W.heap.size W W') : SH n0 a b W' :=
  ⟨by rw [hb.block _ (lt_some h.1)]; exact h.1, by rw [hb.block _ (lt_some h.2)]; exact h.2⟩
noncomputable def sameS (x y : Sp) (L K : List Tk.Tk) (S T : List Mk) : Bool := decide (x = y) && (decide (L = K) && decide (S = T))
set_option maxRecDepth 100000 in
set_option maxHeartbeats 8000000 in
theorem ssame_any (x y : Sp) (L K' : List Tk.Tk) (S T : List Mk) (A A' B B' : Option Addr) (n n' m m' c c' d d' : Nat) (w : World) (hn : n ≤ 9223372036854775807) (hn' : n' ≤ 9223372036854775807) (hm : m ≤ 9223372036854775807) (hm' : m' ≤ 9223372036854775807)
    (h1 : TRow w A n L) (h2 : TRow w A' n' K') (h3 : MkRow w B m S) (h4 : MkRow w B' m' T) :
    Calls Try.prog 89 #[stV x (.slice A n c) (.slice B m d), stV y (.slice A' n' c') (.slice B' m' d')] w fun e w' => e = .returned (.bool (sameS x y L K' S T)) ∧ Below w.heap.size w w' := by
  obtain ⟨F, hF⟩ : ∃ b, b = sameS x y L K' S T := ⟨_, rfl⟩
  rw [← hF]
  have HF := Lib.hid hF
  have HL := Lib.hid h1
  have HK := Lib.hid h2
  have HS := Lib.hid h3
  have HT := Lib.hid h4
  have CNX := fun W => numbers_any x A B n m c d W
  have CNY := fun W => numbers_any y A' B' n' m' c' d' W
  have EQ : ∀ W : World, (Op.equalIn 10000 180 (numV x) (numV y)).run Try.prog W = .ok (decide (x = y)) W := fun W => eq_num 9998 _ _ W
  clear hF h1 h2 h3 h4
  obtain ⟨xk, xf, xt, xg, xh, xi, xm, xv⟩ := x
  obtain ⟨yk, yf, yt, yg, yh, yi, ym, yv⟩ := y
  obtain ⟨bx, hbx⟩ : ∃ b, b = decide ((⟨xk, xf, xt, xg, xh, xi, xm, xv⟩ : Sp) = ⟨yk, yf, yt, yg, yh, yi, ym, yv⟩) := ⟨_, rfl⟩
  rw [← hbx] at EQ
  have HF2 : Hid (F = (bx && (decide (L = K') && decide (S = T)))) := Lib.hid (by rw [HF.out, hbx]; rfl)
  clear hbx HF
  unfold stV stC numV at CNX CNY
  unfold numV at EQ
  unfold stV stC
  simp only at CNX CNY EQ ⊢
  have HB0 := Lib.hid (((Below.refl _ w).alloc (Nat.le_refl _) (.cells #[.int .i64 xk, .int .i64 xf, .int .i64 xt, .int .i64 xg, .int .i64 xh, .int .i64 xi, .int .i64 xm, .int .i64 xv, .slice A n c, .slice B m d] 25)).alloc (by simp) (.cells #[.int .i64 yk, .int .i64 yf, .int .i64 yt, .int .i64 yg, .int .i64 yh, .int .i64 yi, .int .i64 ym, .int .i64 yv, .slice A' n' c', .slice B' m' d'] 25))
  have HH0 : Hid (SH w.heap.size #[.int .i64 xk, .int .i64 xf, .int .i64 xt, .int .i64 xg, .int .i64 xh, .int .i64 xi, .int .i64 xm, .int .i64 xv, .slice A n c, .slice B m d] #[.int .i64 yk, .int .i64 yf, .int .i64 yt, .int .i64 yg, .int .i64 yh, .int .i64 yi, .int .i64 ym, .int .i64 yv, .slice A' n' c', .slice B' m' d'] ((w.alloc (.cells #[.int .i64 xk, .int .i64 xf, .int .i64 xt, .int .i64 xg, .int .i64 xh, .int .i64 xi, .int .i64 xm, .int .i64 xv, .slice A n c, .slice B m d] 25)).alloc (.cells #[.int .i64 yk, .int .i64 yf, .int .i64 yt, .int .i64 yg, .int .i64 yh, .int .i64 yi, .int .i64 ym, .int .i64 yv, .slice A' n' c', .slice B' m' d'] 25))) := Lib.hid (by
    have r := heap_alloc_new (w.alloc (.cells #[.int .i64 xk, .int .i64 xf, .int .i64 xt, .int .i64 xg, .int .i64 xh, .int .i64 xi, .int .i64 xm, .int .i64 xv, .slice A n c, .slice B m d] 25)) (.cells #[.int .i64 yk, .int .i64 yf, .int .i64 yt, .int .i64 yg, .int .i64 yh, .int .i64 yi, .int .i64 ym, .int .i64 yv, .slice A' n' c', .slice B' m' d'] 25)
    rw [show (w.alloc (.cells #[.int .i64 xk, .int .i64 xf, .int .i64 xt, .int .i64 xg, .int .i64 xh, .int .i64 xi, .int .i64 xm, .int .i64 xv, .slice A n c, .slice B m d] 25)).heap.size = w.heap.size + 1 by simp] at r
    exact ⟨by rw [Below.heap_alloc _ _ _ (by simp), heap_alloc_new], r⟩)
  go_enter Try.func89, Try.ntmps89
  go_upto_region 1 with fail
  have HB1 : Hid (Below w.heap.size w ((w.alloc (.cells #[.int .i64 xk, .int .i64 xf, .int .i64 xt, .int .i64 xg, .int .i64 xh, .int .i64 xi, .int .i64 xm, .int .i64 xv, .slice A n c, .slice B m d] 25)).alloc (.cells #[.int .i64 yk, .int .i64 yf, .int .i64 yt, .int .i64 yg, .int .i64 yh, .int .i64 yi, .int .i64 ym, .int .i64 yv, .slice A' n' c', .slice B' m' d'] 25)).drew) := Lib.hid (HB0.out.trans ((below_drewN (Below.refl _ _) 1).mono HB0.out.size))
  have HH1 : Hid (SH w.heap.size #[.int .i64 xk, .int .i64 xf, .int .i64 xt, .int .i64 xg, .int .i64 xh, .int .i64 xi, .int .i64 xm, .int .i64 xv, .slice A n c, .slice B m d] #[.int .i64 yk, .int .i64 yf, .int .i64 yt, .int .i64 yg, .int .i64 yh, .int .i64 yi, .int .i64 ym, .int .i64 yv, .slice A' n' c', .slice B' m' d'] ((w.alloc (.cells #[.int .i64 xk, .int .i64 xf, .int .i64 xt, .int .i64 xg, .int .i64 xh, .int .i64 xi, .int .i64 xm, .int .i64 xv, .slice A n c, .slice B m d] 25)).alloc (.cells #[.int .i64 yk, .int .i64 yf, .int .i64 yt, .int .i64 yg, .int .i64 yh, .int .i64 yi, .int .i64 ym, .int .i64 yv, .slice A' n' c', .slice B' m' d'] 25)).drew) := Lib.hid (HH0.out.step (below_drewN (Below.refl _ _) 1))
  refine wp_region_held_drew (S := SH w.heap.size #[.int .i64 xk, .int .i64 xf, .int .i64 xt, .int .i64 xg, .int .i64 xh, .int .i64 xi, .int .i64 xm, .int .i64 xv, .slice A n c, .slice B m d] #[.int .i64 yk, .int .i64 yf, .int .i64 yt, .int .i64 yg, .int .i64 yh, .int .i64 yi, .int .i64 ym, .int .i64 yv, .slice A' n' c', .slice B' m' d']) (by kernel_rfl) HH1.out (fun hHeld => ?_)
  generalize ((w.alloc (.cells #[.int .i64 xk, .int .i64 xf, .int .i64 xt, .int .i64 xg, .int .i64 xh, .int .i64 xi, .int .i64 xm, .int .i64 xv, .slice A n c, .slice B m d] 25)).alloc (.cells #[.int .i64 yk, .int .i64 yf, .int .i64 yt, .int .i64 yg, .int .i64 yh, .int .i64 yi, .int .i64 ym, .int .i64 yv, .slice A' n' c', .slice B' m' d'] 25)).drew = W1 at HB1 HH1 hHeld ⊢
  clear HB0 HH0
  refine tk 0 (v := ?_) rfl (by kernel_rfl) (fun _ _ _ h => h) ?_ hHeld ?_
  rotate_left
  · (intro W hSw; (try dsimp only at hSw); obtain ⟨hs1, hs2⟩ := hSw; obtain ⟨⟨y0, y1, y2, y3, y4⟩, y5, y6, y7, y8, y9⟩ := tenc hs1; obtain ⟨⟨z0, z1, z2, z3, z4⟩, z5, z6, z7, z8, z9⟩ := tenc hs2; go_simp; try with_reducible rfl)
  refine tk 2 (v := ?_) rfl (by kernel_rfl) (fun _ _ _ h => h) ?_ hHeld ?_
  rotate_left
  · (intro W hSw; (try dsimp only at hSw); obtain ⟨hs1, hs2⟩ := hSw; obtain ⟨⟨y0, y1, y2, y3, y4⟩, y5, y6, y7, y8, y9⟩ := tenc hs1; obtain ⟨⟨z0, z1, z2, z3, z4⟩, z5, z6, z7, z8, z9⟩ := tenc hs2; go_simp; try with_reducible rfl)
  refine wpAnyH_ready (rs := [1]) (by kernel_rfl) (by simp) ?_
  refine AllReadyH.cons rfl (fun K hK => ?_) AllReadyH.nil
  go_simp
  refine (CNX _).mono ?_
  rintro e W2 ⟨rfl, hb2⟩
  have HB2 := Lib.hid (HB1.out.trans (hb2.mono HB1.out.size))
  have hS2 := hHeld.step hb2
  clear hb2 HB1 HH1 hHeld
  go_wp2_with fail
  refine hK.out _ _ hS2 (fun hHeld => ?_)
  clear hK K hS2
  refine wpAnyH_ready (rs := [3]) (by kernel_rfl) (by simp) ?_
  refine AllReadyH.cons rfl (fun K hK => ?_) AllReadyH.nil
  go_simp
  refine (CNY _).mono ?_
  rintro e W3 ⟨rfl, hb3⟩
  have HB3 := Lib.hid (HB2.out.trans (hb3.mono HB2.out.size))
  have hS3 := hHeld.step hb3
  clear hb3 HB2 hHeld
  go_wp2_with fail
  refine hK.out _ _ hS3 (fun hHeld => ?_)
  clear hK K CNX CNY
  cases bx with
  | false =>
    have e : F = false := by rw [HF2.out]; rfl
    subst e
    clear HF2
    refine wpAnyH_ready (rs := [4]) (by kernel_rfl) (by simp) ?_
    refine AllReadyH.cons rfl (fun K hK => ?_) AllReadyH.nil
    go_simp
    refine hK.out _ _ hS3 (fun hHeld => ?_)
    clear hK K
    refine tk 5 (v := ?_) rfl (by kernel_rfl) (fun _ _ _ h => h) ?_ hHeld ?_
    rotate_left
    · (intro W hSw; (try dsimp only at hSw); obtain ⟨hs1, hs2⟩ := hSw; obtain ⟨⟨y0, y1, y2, y3, y4⟩, y5, y6, y7, y8, y9⟩ := tenc hs1; obtain ⟨⟨z0, z1, z2, z3, z4⟩, z5, z6, z7, z8, z9⟩ := tenc hs2; go_simp; try with_reducible rfl)
    refine tkno 6 rfl (by kernel_rfl) (fun _ _ _ h => h) hHeld ?_
    refine tkno 7 rfl (by kernel_rfl) (fun _ _ _ h => h) hHeld ?_
    refine tkno 8 rfl (by kernel_rfl) (fun _ _ _ h => h) hHeld ?_
    refine tkno 9 rfl (by kernel_rfl) (fun _ _ _ h => h) hHeld ?_
    refine tkno 10 rfl (by kernel_rfl) (fun _ _ _ h => h) hHeld ?_
    refine wpAnyH_ready (rs := [11]) (by kernel_rfl) (by simp) ?_
    refine AllReadyH.cons rfl (fun K hK => ?_) AllReadyH.nil
    go_simp
    refine hK.out _ _ hS3 (fun hHeld => ?_)
    clear hK K
    refine tk 12 (v := ?_) rfl (by kernel_rfl) (fun _ _ _ h => h) ?_ hHeld ?_
    rotate_left
    · (intro W hSw; (try dsimp only at hSw); obtain ⟨hs1, hs2⟩ := hSw; obtain ⟨⟨y0, y1, y2, y3, y4⟩, y5, y6, y7, y8, y9⟩ := tenc hs1; obtain ⟨⟨z0, z1, z2, z3, z4⟩, z5, z6, z7, z8, z9⟩ := tenc hs2; go_simp; try with_reducible rfl)
    refine tkno 13 rfl (by kernel_rfl) (fun _ _ _ h => h) hHeld ?_
    refine tkno 14 rfl (by kernel_rfl) (fun _ _ _ h => h) hHeld ?_
    refine tkno 15 rfl (by kernel_rfl) (fun _ _ _ h => h) hHeld ?_
    refine tkno 16 rfl (by kernel_rfl) (fun _ _ _ h => h) hHeld ?_
    refine tkno 17 rfl (by kernel_rfl) (fun _ _ _ h => h) hHeld ?_
    refine wpAnyH_ready (rs := [18]) (by kernel_rfl) (by simp) ?_
    refine AllReadyH.cons rfl (fun K hK => ?_) AllReadyH.nil
    go_simp
    refine hK.out _ _ hS3 (fun hHeld => ?_)
    clear hK K
    refine wpAnyH_ready (rs := [19]) (by kernel_rfl) (by simp) ?_
    refine AllReadyH.cons rfl (fun K hK => ?_) AllReadyH.nil
    go_simp
    refine hK.out _ _ hS3 (fun hHeld => ?_)
    clear hK K
    clear hHeld hS3
    refine wpAnyH_done (by kernel_rfl) ?_ _
    go_wp2_with fail
    go_ret
    exact ⟨rfl, HB3.out⟩
  | true =>
    have CTK := same_tok L K' A A' n n' c c' W3 (HL.out.below HB3.out) (HK.out.below HB3.out) hn hn'
    refine wpAnyH_ready (rs := [4]) (by kernel_rfl) (by simp) ?_
    refine AllReadyH.cons rfl (fun K hK => ?_) AllReadyH.nil
    go_simp
    refine hK.out _ _ hS3 (fun hHeld => ?_)
    clear hK K
    refine tk 5 (v := ?_) rfl (by kernel_rfl) (fun _ _ _ h => h) ?_ hHeld ?_
    rotate_left
    · (intro W hSw; (try dsimp only at hSw); obtain ⟨hs1, hs2⟩ := hSw; obtain ⟨⟨y0, y1, y2, y3, y4⟩, y5, y6, y7, y8, y9⟩ := tenc hs1; obtain ⟨⟨z0, z1, z2, z3, z4⟩, z5, z6, z7, z8, z9⟩ := tenc hs2; go_simp; try with_reducible rfl)
    refine tk 6 (v := ?_) rfl (by kernel_rfl) (fun _ _ _ h => h) ?_ hHeld ?_
    rotate_left
    · (intro W hSw; (try dsimp only at hSw); obtain ⟨hs1, hs2⟩ := hSw; obtain ⟨⟨y0, y1, y2, y3, y4⟩, y5, y6, y7, y8, y9⟩ := tenc hs1; obtain ⟨⟨z0, z1, z2, z3, z4⟩, z5, z6, z7, z8, z9⟩ := tenc hs2; go_simp; try with_reducible rfl)
    refine tk 7 (v := ?_) rfl (by kernel_rfl) (fun _ _ _ h => h) ?_ hHeld ?_
    rotate_left
    · (intro W hSw; (try dsimp only at hSw); obtain ⟨hs1, hs2⟩ := hSw; obtain ⟨⟨y0, y1, y2, y3, y4⟩, y5, y6, y7, y8, y9⟩ := tenc hs1; obtain ⟨⟨z0, z1, z2, z3, z4⟩, z5, z6, z7, z8, z9⟩ := tenc hs2; go_simp; try with_reducible rfl)
    refine tk 8 (v := ?_) rfl (by kernel_rfl) (fun _ _ _ h => h) ?_ hHeld ?_
    rotate_left
    · (intro W hSw; (try dsimp only at hSw); obtain ⟨hs1, hs2⟩ := hSw; obtain ⟨⟨y0, y1, y2, y3, y4⟩, y5, y6, y7, y8, y9⟩ := tenc hs1; obtain ⟨⟨z0, z1, z2, z3, z4⟩, z5, z6, z7, z8, z9⟩ := tenc hs2; go_simp; try with_reducible rfl)
    refine tk 9 (v := ?_) rfl (by kernel_rfl) (fun _ _ _ h => h) ?_ hHeld ?_
    rotate_left
    · (intro W hSw; (try dsimp only at hSw); obtain ⟨hs1, hs2⟩ := hSw; obtain ⟨⟨y0, y1, y2, y3, y4⟩, y5, y6, y7, y8, y9⟩ := tenc hs1; obtain ⟨⟨z0, z1, z2, z3, z4⟩, z5, z6, z7, z8, z9⟩ := tenc hs2; go_simp; try with_reducible rfl)
    obtain ⟨bt, hbt⟩ : ∃ b, b = decide (L = K') := ⟨_, rfl⟩
    rw [← hbt] at CTK
    have HF3 : Hid (F = (bt && decide (S = T))) := Lib.hid (by rw [HF2.out, hbt]; rfl)
    clear hbt HF2
    refine wpAnyH_ready (rs := [10]) (by kernel_rfl) (by simp) ?_
    refine AllReadyH.cons rfl (fun K hK => ?_) AllReadyH.nil
    go_simp
    refine CTK.mono ?_
    rintro e W4 ⟨rfl, q, rfl⟩
    have HB4 := Lib.hid (HB3.out.trans ((below_drewN (Below.refl _ _) q).mono HB3.out.size))
    have hS4 : SH w.heap.size #[.int .i64 xk, .int .i64 xf, .int .i64 xt, .int .i64 xg, .int .i64 xh, .int .i64 xi, .int .i64 xm, .int .i64 xv, .slice A n c, .slice B m d] #[.int .i64 yk, .int .i64 yf, .int .i64 yt, .int .i64 yg, .int .i64 yh, .int .i64 yi, .int .i64 ym, .int .i64 yv, .slice A' n' c', .slice B' m' d'] (W3.drewN q) := hS3
    clear CTK hHeld
    go_wp2_with fail
    refine hK.out _ _ hS4 (fun hHeld => ?_)
    clear hK K
    cases bt with
    | false =>
      have e : F = false := by rw [HF3.out]; rfl
      subst e
      clear HF3
      refine wpAnyH_ready (rs := [11]) (by kernel_rfl) (by simp) ?_
      refine AllReadyH.cons rfl (fun K hK => ?_) AllReadyH.nil
      go_simp
      refine hK.out _ _ hS4 (fun hHeld => ?_)
      clear hK K
      refine tk 12 (v := ?_) rfl (by kernel_rfl) (fun _ _ _ h => h) ?_ hHeld ?_
      rotate_left
      · (intro W hSw; (try dsimp only at hSw); obtain ⟨hs1, hs2⟩ := hSw; obtain ⟨⟨y0, y1, y2, y3, y4⟩, y5, y6, y7, y8, y9⟩ := tenc hs1; obtain ⟨⟨z0, z1, z2, z3, z4⟩, z5, z6, z7, z8, z9⟩ := tenc hs2; go_simp; try with_reducible rfl)
      refine tkno 13 rfl (by kernel_rfl) (fun _ _ _ h => h) hHeld ?_
      refine tkno 14 rfl (by kernel_rfl) (fun _ _ _ h => h) hHeld ?_
      refine tkno 15 rfl (by kernel_rfl) (fun _ _ _ h => h) hHeld ?_
      refine tkno 16 rfl (by kernel_rfl) (fun _ _ _ h => h) hHeld ?_
      refine tkno 17 rfl (by kernel_rfl) (fun _ _ _ h => h) hHeld ?_
      refine wpAnyH_ready (rs := [18]) (by kernel_rfl) (by simp) ?_
      refine AllReadyH.cons rfl (fun K hK => ?_) AllReadyH.nil
      go_simp
      refine hK.out _ _ hS4 (fun hHeld => ?_)
      clear hK K
      refine wpAnyH_ready (rs := [19]) (by kernel_rfl) (by simp) ?_
      refine AllReadyH.cons rfl (fun K hK => ?_) AllReadyH.nil
      go_simp
      refine hK.out _ _ hS4 (fun hHeld => ?_)
      clear hK K
      clear hHeld hS4
      refine wpAnyH_done (by kernel_rfl) ?_ _
      go_wp2_with fail
      go_ret
      exact ⟨rfl, HB4.out⟩
    | true =>
      have e : F = decide (S = T) := by rw [HF3.out]; rfl
      clear HF3
      have CMK := equal_mk S T B B' m m' d d' (W3.drewN q) (HS.out.below HB4.out) (HT.out.below HB4.out) hm hm'
      rw [← e] at CMK
      clear e
      refine wpAnyH_ready (rs := [11]) (by kernel_rfl) (by simp) ?_
      refine AllReadyH.cons rfl (fun K hK => ?_) AllReadyH.nil
      go_simp
      refine hK.out _ _ hS4 (fun hHeld => ?_)
      clear hK K
      refine tk 12 (v := ?_) rfl (by kernel_rfl) (fun _ _ _ h => h) ?_ hHeld ?_
      rotate_left
      · (intro W hSw; (try dsimp only at hSw); obtain ⟨hs1, hs2⟩ := hSw; obtain ⟨⟨y0, y1, y2, y3, y4⟩, y5, y6, y7, y8, y9⟩ := tenc hs1; obtain ⟨⟨z0, z1, z2, z3, z4⟩, z5, z6, z7, z8, z9⟩ := tenc hs2; go_simp; try with_reducible rfl)
      refine tk 13 (v := ?_) rfl (by kernel_rfl) (fun _ _ _ h => h) ?_ hHeld ?_
      rotate_left
      · (intro W hSw; (try dsimp only at hSw); obtain ⟨hs1, hs2⟩ := hSw; obtain ⟨⟨y0, y1, y2, y3, y4⟩, y5, y6, y7, y8, y9⟩ := tenc hs1; obtain ⟨⟨z0, z1, z2, z3, z4⟩, z5, z6, z7, z8, z9⟩ := tenc hs2; go_simp; try with_reducible rfl)
      refine tk 14 (v := ?_) rfl (by kernel_rfl) (fun _ _ _ h => h) ?_ hHeld ?_
      rotate_left
      · (intro W hSw; (try dsimp only at hSw); obtain ⟨hs1, hs2⟩ := hSw; obtain ⟨⟨y0, y1, y2, y3, y4⟩, y5, y6, y7, y8, y9⟩ := tenc hs1; obtain ⟨⟨z0, z1, z2, z3, z4⟩, z5, z6, z7, z8, z9⟩ := tenc hs2; go_simp; try with_reducible rfl)
      refine tk 15 (v := ?_) rfl (by kernel_rfl) (fun _ _ _ h => h) ?_ hHeld ?_
      rotate_left
      · (intro W hSw; (try dsimp only at hSw); obtain ⟨hs1, hs2⟩ := hSw; obtain ⟨⟨y0, y1, y2, y3, y4⟩, y5, y6, y7, y8, y9⟩ := tenc hs1; obtain ⟨⟨z0, z1, z2, z3, z4⟩, z5, z6, z7, z8, z9⟩ := tenc hs2; go_simp; try with_reducible rfl)
      refine tk 16 (v := ?_) rfl (by kernel_rfl) (fun _ _ _ h => h) ?_ hHeld ?_
      rotate_left
      · (intro W hSw; (try dsimp only at hSw); obtain ⟨hs1, hs2⟩ := hSw; obtain ⟨⟨y0, y1, y2, y3, y4⟩, y5, y6, y7, y8, y9⟩ := tenc hs1; obtain ⟨⟨z0, z1, z2, z3, z4⟩, z5, z6, z7, z8, z9⟩ := tenc hs2; go_simp; try with_reducible rfl)
      refine wpAnyH_ready (rs := [17]) (by kernel_rfl) (by simp) ?_
      refine AllReadyH.cons rfl (fun K hK => ?_) AllReadyH.nil
      go_simp
      refine CMK.mono ?_
      rintro e W5 ⟨rfl, q5, rfl⟩
      have HB5 := Lib.hid (HB4.out.trans ((below_drewN (Below.refl _ _) q5).mono HB4.out.size))
      have hS5 : SH w.heap.size #[.int .i64 xk, .int .i64 xf, .int .i64 xt, .int .i64 xg, .int .i64 xh, .int .i64 xi, .int .i64 xm, .int .i64 xv, .slice A n c, .slice B m d] #[.int .i64 yk, .int .i64 yf, .int .i64 yt, .int .i64 yg, .int .i64 yh, .int .i64 yi, .int .i64 ym, .int .i64 yv, .slice A' n' c', .slice B' m' d'] ((W3.drewN q).drewN q5) := hS4
      clear CMK hHeld
      go_wp2_with fail
      refine hK.out _ _ hS5 (fun hHeld => ?_)
      clear hK K
      refine wpAnyH_ready (rs := [18]) (by kernel_rfl) (by simp) ?_
      refine AllReadyH.cons rfl (fun K hK => ?_) AllReadyH.nil
      go_simp
      refine hK.out _ _ hS5 (fun hHeld => ?_)
      clear hK K
      refine wpAnyH_ready (rs := [19]) (by kernel_rfl) (by simp) ?_
      refine AllReadyH.cons rfl (fun K hK => ?_) AllReadyH.nil
      go_simp
      refine hK.out _ _ hS5 (fun hHeld => ?_)
      clear hK K
      clear hHeld hS5
      refine wpAnyH_done (by kernel_rfl) ?_ _
      go_wp2_with fail
      go_ret
      exact ⟨rfl, by have := HB5.out; rw [World.drewN_drewN] at this; exact this⟩
end Go.Proofs.Ytgodphfkhmahnaa.St
