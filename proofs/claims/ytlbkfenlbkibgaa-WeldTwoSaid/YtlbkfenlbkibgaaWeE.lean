/- Welding: ahead, by what slices.Insert is to say. -/
import Derived.Test.YtlbkfenlbkibgaaWeC
set_option linter.unusedVariables false
set_option maxRecDepth 100000
set_option maxHeartbeats 4000000
namespace Go.Proofs.Ytlbkfenlbkibgaa.St
open Go.RowKit Mem Sm Tk Rt
set_option linter.unusedSimpArgs false
def InsIs (L K : List Tk.Tk) (base : Nat) (row : Option Nat) (w : World) (e : Ending) (w' : World) : Prop :=
 ∃ v, e = .returned v ∧ Tks base w' v (K ++ L) ∧ w.grownBy w' row ∧ (∀ g, v.ownBlock = some g → row = some g ∨ w.heap.size ≤ g)
def AheadIs (x : Sp) (y : Sp) (L K : List Tk.Tk) (base : Nat) (row : Option Nat) (w : World) (e : Ending) (w' : World) : Prop :=
 ∃ v, e = .returned (stV ⟨1, y.from_, x.to_, 0, 0, 0, 0, 0⟩ v (.slice none 0 0)) ∧ Tks base w' v (K ++ L) ∧ w.grownBy w' row ∧ (∀ g, v.ownBlock = some g → row = some g ∨ w.heap.size ≤ g)
theorem ahead_any (x y : Sp) (L K' : List Tk.Tk) (base : Nat) (A A' B B' : Option Addr) (n' m m' c c' d d' : Nat) (w : World) (hl : L.length ≤ 100000) (hn' : n' ≤ 100000) (hb : base ≤ w.heap.size)
  (h1 : Tks base w (.slice A L.length c) L) (h2 : TRow w A' n' K')
  (HI : ∀ W, Below w.heap.size w W → Calls Try.prog 112 #[.slice A L.length c, .int .i64 0, .slice A' n' c'] W (InsIs L K' base (Value.slice A L.length c).ownBlock W)) :
  Calls Try.prog 98 #[stV x (.slice A L.length c) (.slice B m d), stV y (.slice A' n' c') (.slice B' m' d')] w (AheadIs x y L K' base (Value.slice A L.length c).ownBlock w) := by
 obtain ⟨row, hrow⟩ : ∃ r, r = (Value.slice A L.length c).ownBlock := ⟨_, rfl⟩
 have hlow : ∀ g, row = some g → base ≤ g ∧ g < w.heap.size := fun g e => by
  rw [hrow] at e
  exact ⟨(h1.block g e).1, (h1.block g e).2.1⟩
 rw [← hrow]
 simp only [← hrow] at HI
 obtain ⟨xk, xf, xt, xg, xh, xi, xm, xv⟩ := x
 obtain ⟨vk, vf, vt, vg, vh, vi, vm, vv⟩ := y
 unfold AheadIs stV stC
 simp only
 unfold InsIs at HI
 have hb1 := ((Below.refl _ w).alloc (Nat.le_refl _) (.cells #[.int .i64 xk, .int .i64 xf, .int .i64 xt, .int .i64 xg, .int .i64 xh, .int .i64 xi, .int .i64 xm, .int .i64 xv, .slice A L.length c, .slice B m d] 25)).alloc (by simp) (.cells #[.int .i64 vk, .int .i64 vf, .int .i64 vt, .int .i64 vg, .int .i64 vh, .int .i64 vi, .int .i64 vm, .int .i64 vv, .slice A' n' c', .slice B' m' d'] 25)
 have hsz : ((w.alloc (.cells #[.int .i64 xk, .int .i64 xf, .int .i64 xt, .int .i64 xg, .int .i64 xh, .int .i64 xi, .int .i64 xm, .int .i64 xv, .slice A L.length c, .slice B m d] 25)).alloc (.cells #[.int .i64 vk, .int .i64 vf, .int .i64 vt, .int .i64 vg, .int .i64 vh, .int .i64 vi, .int .i64 vm, .int .i64 vv, .slice A' n' c', .slice B' m' d'] 25)).heap.size = w.heap.size + 2 := by simp
 have hb0 := hb1.alloc (by omega) (.cells #[.int .i64 0, .int .i64 0, .int .i64 0, .int .i64 0, .int .i64 0, .int .i64 0, .int .i64 0, .int .i64 0, .slice none 0 0, .slice none 0 0] 25)
 have hx : (((w.alloc (.cells #[.int .i64 xk, .int .i64 xf, .int .i64 xt, .int .i64 xg, .int .i64 xh, .int .i64 xi, .int .i64 xm, .int .i64 xv, .slice A L.length c, .slice B m d] 25)).alloc (.cells #[.int .i64 vk, .int .i64 vf, .int .i64 vt, .int .i64 vg, .int .i64 vh, .int .i64 vi, .int .i64 vm, .int .i64 vv, .slice A' n' c', .slice B' m' d'] 25)).alloc (.cells #[.int .i64 0, .int .i64 0, .int .i64 0, .int .i64 0, .int .i64 0, .int .i64 0, .int .i64 0, .int .i64 0, .slice none 0 0, .slice none 0 0] 25)).heap[w.heap.size]? = some (.cells #[.int .i64 xk, .int .i64 xf, .int .i64 xt, .int .i64 xg, .int .i64 xh, .int .i64 xi, .int .i64 xm, .int .i64 xv, .slice A L.length c, .slice B m d] 25) := by rw [Below.heap_alloc _ _ _ (by omega), Below.heap_alloc _ _ _ (by simp), heap_alloc_new]
 have hy : (((w.alloc (.cells #[.int .i64 xk, .int .i64 xf, .int .i64 xt, .int .i64 xg, .int .i64 xh, .int .i64 xi, .int .i64 xm, .int .i64 xv, .slice A L.length c, .slice B m d] 25)).alloc (.cells #[.int .i64 vk, .int .i64 vf, .int .i64 vt, .int .i64 vg, .int .i64 vh, .int .i64 vi, .int .i64 vm, .int .i64 vv, .slice A' n' c', .slice B' m' d'] 25)).alloc (.cells #[.int .i64 0, .int .i64 0, .int .i64 0, .int .i64 0, .int .i64 0, .int .i64 0, .int .i64 0, .int .i64 0, .slice none 0 0, .slice none 0 0] 25)).heap[w.heap.size + 1]? = some (.cells #[.int .i64 vk, .int .i64 vf, .int .i64 vt, .int .i64 vg, .int .i64 vh, .int .i64 vi, .int .i64 vm, .int .i64 vv, .slice A' n' c', .slice B' m' d'] 25) := by
  have := heap_alloc_new (w.alloc (.cells #[.int .i64 xk, .int .i64 xf, .int .i64 xt, .int .i64 xg, .int .i64 xh, .int .i64 xi, .int .i64 xm, .int .i64 xv, .slice A L.length c, .slice B m d] 25)) (.cells #[.int .i64 vk, .int .i64 vf, .int .i64 vt, .int .i64 vg, .int .i64 vh, .int .i64 vi, .int .i64 vm, .int .i64 vv, .slice A' n' c', .slice B' m' d'] 25)
  rw [show (w.alloc (.cells #[.int .i64 xk, .int .i64 xf, .int .i64 xt, .int .i64 xg, .int .i64 xh, .int .i64 xi, .int .i64 xm, .int .i64 xv, .slice A L.length c, .slice B m d] 25)).heap.size = w.heap.size + 1 by simp] at this
  rw [Below.heap_alloc _ _ _ (by omega)]; exact this
 have hz := heap_alloc_new ((w.alloc (.cells #[.int .i64 xk, .int .i64 xf, .int .i64 xt, .int .i64 xg, .int .i64 xh, .int .i64 xi, .int .i64 xm, .int .i64 xv, .slice A L.length c, .slice B m d] 25)).alloc (.cells #[.int .i64 vk, .int .i64 vf, .int .i64 vt, .int .i64 vg, .int .i64 vh, .int .i64 vi, .int .i64 vm, .int .i64 vv, .slice A' n' c', .slice B' m' d'] 25)) (.cells #[.int .i64 0, .int .i64 0, .int .i64 0, .int .i64 0, .int .i64 0, .int .i64 0, .int .i64 0, .int .i64 0, .slice none 0 0, .slice none 0 0] 25)
 rw [hsz] at hz
 have HT := Lib.hid (h1.belowAll hb0)
 have HK := Lib.hid (h2.below hb0)
 have HG := Lib.hid ((grown_below hb0).but row)
 have HBW := Lib.hid hb0
 have HX := Lib.hid hx
 have HY := Lib.hid hy
 have HZ := Lib.hid hz
 clear hb0 hb1 hx hy hz h1 h2 hsz
 go_enter Try.func98, Try.ntmps98
 go_upto_region 1 with fail
 generalize ((w.alloc (.cells #[.int .i64 xk, .int .i64 xf, .int .i64 xt, .int .i64 xg, .int .i64 xh, .int .i64 xi, .int .i64 xm, .int .i64 xv, .slice A L.length c, .slice B m d] 25)).alloc (.cells #[.int .i64 vk, .int .i64 vf, .int .i64 vt, .int .i64 vg, .int .i64 vh, .int .i64 vi, .int .i64 vm, .int .i64 vv, .slice A' n' c', .slice B' m' d'] 25)).alloc (.cells #[.int .i64 0, .int .i64 0, .int .i64 0, .int .i64 0, .int .i64 0, .int .i64 0, .int .i64 0, .int .i64 0, .slice none 0 0, .slice none 0 0] 25) = W at HT HK HG HX HY HZ HBW ⊢
 refine wp_region_held_drew (S := fun W => W.heap[w.heap.size]? = some (.cells #[.int .i64 xk, .int .i64 xf, .int .i64 xt, .int .i64 xg, .int .i64 xh, .int .i64 xi, .int .i64 xm, .int .i64 xv, .slice A L.length c, .slice B m d] 25) ∧ W.heap[w.heap.size + 1]? = some (.cells #[.int .i64 vk, .int .i64 vf, .int .i64 vt, .int .i64 vg, .int .i64 vh, .int .i64 vi, .int .i64 vm, .int .i64 vv, .slice A' n' c', .slice B' m' d'] 25)) (by kernel_rfl) ⟨HX.out, HY.out⟩ (fun hHeld => ?_)
 have HT : Hid (Tks base W.drew (.slice A L.length c) L) := HT
 have HK : Hid (TRow W.drew A' n' K') := HK
 have HG : Hid (w.grownBy W.drew row) := Lib.hid (HG.out.trans ((grown_below (below_drewN (Below.refl _ _) 1)).but row))
 have HZ : Hid (W.drew.heap[w.heap.size + 2]? = some (.cells #[.int .i64 0, .int .i64 0, .int .i64 0, .int .i64 0, .int .i64 0, .int .i64 0, .int .i64 0, .int .i64 0, .slice none 0 0, .slice none 0 0] 25)) := HZ
 have HBW : Hid (Below w.heap.size w W.drew) := Lib.hid (below_drewN HBW.out 1)
 clear HX HY
 generalize W.drew = W at HT HK HG HZ HBW hHeld ⊢
 refine tk 0 (v := ?_) rfl (by kernel_rfl) (fun _ _ _ h => h) ?_ hHeld ?_
 rotate_left
 ·(intro W hSw; (try dsimp only at hSw); obtain ⟨hs1, hs2⟩ := hSw; obtain ⟨⟨y0, y1, y2, y3, y4⟩, y5, y6, y7, y8, y9⟩ := tenc hs1; obtain ⟨⟨z0, z1, z2, z3, z4⟩, z5, z6, z7, z8, z9⟩ := tenc hs2; go_simp; try with_reducible rfl)
 refine tk 1 (v := ?_) rfl (by kernel_rfl) (fun _ _ _ h => h) ?_ hHeld ?_
 rotate_left
 ·(intro W hSw; (try dsimp only at hSw); obtain ⟨hs1, hs2⟩ := hSw; obtain ⟨⟨y0, y1, y2, y3, y4⟩, y5, y6, y7, y8, y9⟩ := tenc hs1; obtain ⟨⟨z0, z1, z2, z3, z4⟩, z5, z6, z7, z8, z9⟩ := tenc hs2; go_simp; try with_reducible rfl)
 refine tk 2 (v := ?_) rfl (by kernel_rfl) (fun _ _ _ h => h) ?_ hHeld ?_
 rotate_left
 ·(intro W hSw; (try dsimp only at hSw); obtain ⟨hs1, hs2⟩ := hSw; obtain ⟨⟨y0, y1, y2, y3, y4⟩, y5, y6, y7, y8, y9⟩ := tenc hs1; obtain ⟨⟨z0, z1, z2, z3, z4⟩, z5, z6, z7, z8, z9⟩ := tenc hs2; go_simp; try with_reducible rfl)
 refine tk 3 (v := ?_) rfl (by kernel_rfl) (fun _ _ _ h => h) ?_ hHeld ?_
 rotate_left
 ·(intro W hSw; (try dsimp only at hSw); obtain ⟨hs1, hs2⟩ := hSw; obtain ⟨⟨y0, y1, y2, y3, y4⟩, y5, y6, y7, y8, y9⟩ := tenc hs1; obtain ⟨⟨z0, z1, z2, z3, z4⟩, z5, z6, z7, z8, z9⟩ := tenc hs2; go_simp; try with_reducible rfl)
 refine tk 4 (v := ?_) rfl (by kernel_rfl) (fun _ _ _ h => h) ?_ hHeld ?_
 rotate_left
 ·(intro W hSw; (try dsimp only at hSw); obtain ⟨hs1, hs2⟩ := hSw; obtain ⟨⟨y0, y1, y2, y3, y4⟩, y5, y6, y7, y8, y9⟩ := tenc hs1; obtain ⟨⟨z0, z1, z2, z3, z4⟩, z5, z6, z7, z8, z9⟩ := tenc hs2; go_simp; try with_reducible rfl)
 refine tk 5 (v := ?_) rfl (by kernel_rfl) (fun _ _ _ h => h) ?_ hHeld ?_
 rotate_left
 ·(intro W hSw; (try dsimp only at hSw); obtain ⟨hs1, hs2⟩ := hSw; obtain ⟨⟨y0, y1, y2, y3, y4⟩, y5, y6, y7, y8, y9⟩ := tenc hs1; obtain ⟨⟨z0, z1, z2, z3, z4⟩, z5, z6, z7, z8, z9⟩ := tenc hs2; go_simp; try with_reducible rfl)
 refine tk 6 (v := ?_) rfl (by kernel_rfl) (fun _ _ _ h => h) ?_ hHeld ?_
 rotate_left
 ·(intro W hSw; (try dsimp only at hSw); obtain ⟨hs1, hs2⟩ := hSw; obtain ⟨⟨y0, y1, y2, y3, y4⟩, y5, y6, y7, y8, y9⟩ := tenc hs1; obtain ⟨⟨z0, z1, z2, z3, z4⟩, z5, z6, z7, z8, z9⟩ := tenc hs2; go_simp; try with_reducible rfl)
 refine tk 7 (v := ?_) rfl (by kernel_rfl) (fun _ _ _ h => h) ?_ hHeld ?_
 rotate_left
 ·(intro W hSw; (try dsimp only at hSw); obtain ⟨hs1, hs2⟩ := hSw; obtain ⟨⟨y0, y1, y2, y3, y4⟩, y5, y6, y7, y8, y9⟩ := tenc hs1; obtain ⟨⟨z0, z1, z2, z3, z4⟩, z5, z6, z7, z8, z9⟩ := tenc hs2; go_simp; try with_reducible rfl)
 refine wpAnyH_ready (rs := [8]) (by kernel_rfl) (by simp) ?_
 refine AllReadyH.cons rfl (fun K hK => ?_) AllReadyH.nil
 go_simp
 have hws := HG.out.size
 have hwz := lt_some HZ.out
 refine (HI _ HBW.out).mono ?_
 rintro e W2 ⟨v2, rfl, hT2, hg2, hown2⟩
 have HG2 := Lib.hid (HG.out.trans hg2)
 have HZ2 := Lib.hid (grown_at hg2 HZ.out (fun e => by have := hlow _ e; omega))
 have hS2 := And.intro (grown_at hg2 hHeld.1 (fun e => by have := hlow _ e; omega)) (grown_at hg2 hHeld.2 (fun e => by have := hlow _ e; omega))
 have hown : ∀ g, v2.ownBlock = some g → row = some g ∨ w.heap.size + 3 ≤ g := fun g e => by
  rcases hown2 g e with h | h
  ·exact .inl h
  ·exact .inr (by omega)
 obtain ⟨A3, c3, rfl⟩ := hT2.form
 generalize hN3 : (K' ++ L).length = N3 at *
 have HT2 := Lib.hid hT2
 clear hg2 hown2 hT2 HT HK HG HZ HBW HI hHeld
 go_wp2_with fail
 refine hK.out _ _ hS2 (fun hHeld => ?_)
 clear hK K hS2
 refine tk 9 (v := ?_) rfl (by kernel_rfl) (fun _ _ _ h => h) ?_ hHeld ?_
 rotate_left
 ·(intro W hSw; clear hSw; go_simp; try with_reducible rfl)
 refine wpAnyH_ready (rs := [10]) (by kernel_rfl) (by simp) ?_
 refine AllReadyH.cons rfl (fun K hK => ?_) AllReadyH.nil
 have HZ2 : Hid (W2.heap[w.heap.size + 1 + 1]? = some (.cells #[.int .i64 0, .int .i64 0, .int .i64 0, .int .i64 0, .int .i64 0, .int .i64 0, .int .i64 0, .int .i64 0, .slice none 0 0, .slice none 0 0] 25)) := HZ2
 have hz := tenc HZ2.out
 have z0 := hz.1.1
 have z1 := hz.1.2.1
 have z2 := hz.1.2.2.1
 have z3 := hz.1.2.2.2.1
 have z4 := hz.1.2.2.2.2
 have z5 := hz.2.1
 have z6 := hz.2.2.1
 have z7 := hz.2.2.2.1
 have z8 := hz.2.2.2.2.1
 have z9 := hz.2.2.2.2.2
 have hf := froz HZ2.out
 have f0 := hf.1
 have f1 := hf.2.1
 have f2 := hf.2.2.1
 have f3 := hf.2.2.2.1
 have f4 := hf.2.2.2.2.1
 have f5 := hf.2.2.2.2.2.1
 have f6 := hf.2.2.2.2.2.2.1
 have f7 := hf.2.2.2.2.2.2.2.1
 have f8 := hf.2.2.2.2.2.2.2.2.1
 have f9 := hf.2.2.2.2.2.2.2.2.2
 clear hz hf
 go_simp
 have hS8 := And.intro ((put10_else (B := w.heap.size + 1 + 1) (k := w.heap.size) (.int .i64 1) (.int .i64 vf) (.int .i64 xt) (.int .i64 0) (.int .i64 0) (.int .i64 0) (.int .i64 0) (.int .i64 0) (.slice A3 N3 c3) (.slice none 0 0) (by omega)).trans hHeld.1) ((put10_else (B := w.heap.size + 1 + 1) (k := w.heap.size + 1) (.int .i64 1) (.int .i64 vf) (.int .i64 xt) (.int .i64 0) (.int .i64 0) (.int .i64 0) (.int .i64 0) (.int .i64 0) (.slice A3 N3 c3) (.slice none 0 0) (by omega)).trans hHeld.2)
 have hZ8 := put10_at HZ2.out (.int .i64 1) (.int .i64 vf) (.int .i64 xt) (.int .i64 0) (.int .i64 0) (.int .i64 0) (.int .i64 0) (.int .i64 0) (.slice A3 N3 c3) (.slice none 0 0)
 have hG8 := HG2.out.andThen (grown_put10 (W := W2) (B := w.heap.size + 1 + 1) (.int .i64 1) (.int .i64 vf) (.int .i64 xt) (.int .i64 0) (.int .i64 0) (.int .i64 0) (.int .i64 0) (.int .i64 0) (.slice A3 N3 c3) (.slice none 0 0)) (fun j e => .inl (by cases e; omega))
 have hT8 : Tks base (put10 W2 (w.heap.size + 1 + 1) (.int .i64 1) (.int .i64 vf) (.int .i64 xt) (.int .i64 0) (.int .i64 0) (.int .i64 0) (.int .i64 0) (.int .i64 0) (.slice A3 N3 c3) (.slice none 0 0)) (.slice A3 N3 c3) (K' ++ L) := HT2.out.grown (grown_put10 (.int .i64 1) (.int .i64 vf) (.int .i64 xt) (.int .i64 0) (.int .i64 0) (.int .i64 0) (.int .i64 0) (.int .i64 0) (.slice A3 N3 c3) (.slice none 0 0)) (fun g e e2 => by
  cases e2
  rcases hown _ e with h | h
  ·have := hlow _ h; omega
  ·omega)
 unfold put10 at hS8 hZ8 hG8 hT8
 have HZ8 := Lib.hid hZ8
 have HG8 := Lib.hid hG8
 have HT8 := Lib.hid hT8
 refine hK.out _ _ hS8 (fun hHeld => ?_)
 clear hK K hS8 hZ8 hG8 hT8 HZ2 HG2 HT2 z0 z1 z2 z3 z4 z5 z6 z7 z8 z9 f0 f1 f2 f3 f4 f5 f6 f7 f8 f9
 generalize World.setCell _ _ _ = W8 at HZ8 HG8 HT8 hHeld ⊢
 refine wpAnyH_done (by kernel_rfl) ?_ _
 obtain ⟨⟨z0, z1, z2, z3, z4⟩, z5, z6, z7, z8, z9⟩ := tenc HZ8.out
 go_wp2
 refine bodyPost_ret (v := .agg #[.int .i64 1, .int .i64 vf, .int .i64 xt, .int .i64 0, .int .i64 0, .int .i64 0, .int .i64 0, .int .i64 0, .slice A3 N3 c3, .slice none 0 0]) ?_ rfl ⟨_, rfl, HT8.out, HG8.out, fun g e => by
  rcases hown g e with h | h
  ·exact .inl h
  ·exact .inr (by omega)⟩
 simp [results, Try.results98, go_sem, z0, z1, z2, z3, z4, z5, z6, z7, z8, z9]
end Go.Proofs.Ytlbkfenlbkibgaa.St
