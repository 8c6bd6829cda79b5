/- Welding: Two. -/
import Derived.Test.YtlbkfenlbkibgaaWeW
set_option linter.unusedVariables false
set_option maxRecDepth 100000
set_option maxHeartbeats 4000000
namespace Go.Proofs.Ytlbkfenlbkibgaa.St
open Go.RowKit Mem Sm Tk Rt
set_option linter.unusedSimpArgs false
structure TW (w : World) (ox oy oz : Obj) (L K' : List Tk.Tk) (S S' : List Mk) (A A' B B' : Option Addr) (n n' m m' : Nat) (W : World) : Prop where
 hb : Below w.heap.size w W
 hx : W.heap[w.heap.size]? = some ox
 hy : W.heap[w.heap.size + 1]? = some oy
 hz : W.heap[w.heap.size + 2]? = some oz
 l : TRow W A n L
 s : MkRow W B m S
 l' : TRow W A' n' K'
 s' : MkRow W B' m' S'
theorem TW.step {w : World} {ox oy oz : Obj} {L K' : List Tk.Tk} {S S' : List Mk} {A A' B B' : Option Addr} {n n' m m' : Nat} {W W' : World} (h : TW w ox oy oz L K' S S' A A' B B' n n' m m' W) (hb : Below W.heap.size W W') : TW w ox oy oz L K' S S' A A' B B' n n' m m' W' :=
 ⟨h.hb.trans (hb.mono h.hb.size), hkeep hb h.hx, hkeep hb h.hy, hkeep hb h.hz, h.l.below hb, h.s.below hb, h.l'.below hb, h.s'.below hb⟩
structure TV (w : World) (ox oy oz : Obj) (W : World) : Prop where
 hb : Below w.heap.size w W
 hx : W.heap[w.heap.size]? = some ox
 hy : W.heap[w.heap.size + 1]? = some oy
 hz : W.heap[w.heap.size + 2]? = some oz
theorem TW.tv {w : World} {ox oy oz : Obj} {L K' : List Tk.Tk} {S S' : List Mk} {A A' B B' : Option Addr} {n n' m m' : Nat} {W W' : World} {row : Option Nat} (h : TW w ox oy oz L K' S S' A A' B B' n n' m m' W) (hg : W.grownBy W' row) (hr : ∀ g, row = some g → w.heap.size + 3 ≤ g) : TV w ox oy oz W' :=
 ⟨grown_low h.hb h.hb.size hg (fun g e => by have := hr g e; omega), grown_at hg h.hx (fun e => by have := hr _ e; omega), grown_at hg h.hy (fun e => by have := hr _ e; omega), grown_at hg h.hz (fun e => by have := hr _ e; omega)⟩
theorem TV.step {w : World} {ox oy oz : Obj} {W W' : World} (h : TV w ox oy oz W) (hb : Below W.heap.size W W') : TV w ox oy oz W' :=
 ⟨h.hb.trans (hb.mono h.hb.size), hkeep hb h.hx, hkeep hb h.hy, hkeep hb h.hz⟩
theorem two_any (x y : Sp) (L K' : List Tk.Tk) (S S' : List Mk) (A A' B B' : Option Addr) (n n' m m' c c' d d' : Nat) (w : World) (hn : n ≤ 100000) (hm : m ≤ 100000) (hn' : n' ≤ 100000) (hm' : m' ≤ 100000) (h1 : TRow w A n L) (h2 : MkRow w B m S) (h3 : TRow w A' n' K') (h4 : MkRow w B' m' S') :
  Calls Try.prog 27 #[stV x (.slice A n c) (.slice B m d), stV y (.slice A' n' c') (.slice B' m' d')] w (RTwoIs x y L K' n n' m m' w) := by
 have hnl := h1.1
 have hsl := h2.1
 have CBG := fun W q1 q2 => begun_any x L S A B n m c d W (by omega) (by omega) q1 q2
 have CWT := fun As Bt cs ct W q1 q2 q3 q4 q5 => with_any x y L K' S' (w.heap.size + 3) As A' Bt B' n' m m' cs c' ct d' (shapeB x n m) W (by omega) hn' hm' q1 (by rw [hnl]) q2 q3 q4 q5
 have hlow : 0 < n' → ∀ b off, A' = some ⟨b, off, none⟩ → b < w.heap.size := fun h0 b off e => by
  obtain ⟨b2, off2, e2, hb2, _⟩ := h3.2 h0
  rw [e] at e2; cases e2; exact hb2
 have hwe := weld_eq x y L K' n n' m m' hnl h3.1
 rw [hnl] at CWT
 obtain ⟨E, hE⟩ : ∃ E : Ending → World → Prop, E = RTwoIs x y L K' n n' m m' w := ⟨_, rfl⟩
 rw [← hE]
 obtain ⟨OK, hOK⟩ : ∃ b, b = pieceB x y n n' m m' := ⟨_, rfl⟩
 obtain ⟨Z, hZ⟩ : ∃ z, z = wayN x y (weldK x y n) := ⟨_, rfl⟩
 obtain ⟨M, hM⟩ : ∃ z, z = wayL L K' (weldK x y n) := ⟨_, rfl⟩
 have HFY : Hid (OK = true → ∀ v W', Tks w.heap.size W' v M → Below w.heap.size w W' → E (.returned (.tuple #[stV Z v (.slice none 0 0), .bool true])) W') := Lib.hid (fun ho v W' t b => by
  rw [hE]
  rw [hOK] at ho
  have e := hwe.2 ho
  refine ⟨.inl ⟨hwe.1.trans ho, v, ?_, ?_⟩, b⟩
  ·rw [hZ, e]
  ·rw [← e, ← hM]; exact t)
 have HFN : Hid (OK = false → ∀ W', Below w.heap.size w W' → E (.returned (.tuple #[.agg #[.int .i64 0, .int .i64 0, .int .i64 0, .int .i64 0, .int .i64 0, .int .i64 0, .int .i64 0, .int .i64 0, .slice none 0 0, .slice none 0 0], .bool false])) W') := Lib.hid (fun ho W' b => by
  rw [hE]
  rw [hOK] at ho
  exact ⟨.inr ⟨hwe.1.trans ho, rfl⟩, b⟩)
 unfold WithIs at CWT
 simp only [hnl, ← hOK, ← hZ, ← hM] at CWT
 clear hwe hOK hZ hM hE
 unfold BegunIs at CBG
 obtain ⟨SB, hSB⟩ : ∃ b, b = shapeB x n m := ⟨_, rfl⟩
 rw [← hSB] at CBG CWT
 clear hSB
 obtain ⟨xk, xf, xt, xg, xh, xi, xm, xv⟩ := x
 obtain ⟨vk, vf, vt, vg, vh, vi, vm, vv⟩ := y
 obtain ⟨zk, zf, zt, zg, zh, zi, zm, zv⟩ := Z
 unfold pcV pcC stV stC at CWT
 unfold pcV pcC stV stC at CBG
 unfold stV stC at HFY
 unfold stV stC
 simp only at CBG CWT HFY ⊢
 have hb1 := (((Below.refl _ w).alloc (Nat.le_refl _) (.cells #[.int .i64 xk, .int .i64 xf, .int .i64 xt, .int .i64 xg, .int .i64 xh, .int .i64 xi, .int .i64 xm, .int .i64 xv, .slice A n c, .slice B m d] 25)).alloc (by simp) (.cells #[.int .i64 vk, .int .i64 vf, .int .i64 vt, .int .i64 vg, .int .i64 vh, .int .i64 vi, .int .i64 vm, .int .i64 vv, .slice A' n' c', .slice B' m' d'] 25)).alloc (by simp; omega) (.cells #[.int .i64 0, .int .i64 0, .int .i64 0, .int .i64 0, .int .i64 0, .int .i64 0, .int .i64 0, .int .i64 0, .slice none 0 0, .slice none 0 0] 25)
 have hx : (((w.alloc (.cells #[.int .i64 xk, .int .i64 xf, .int .i64 xt, .int .i64 xg, .int .i64 xh, .int .i64 xi, .int .i64 xm, .int .i64 xv, .slice A n c, .slice B m d] 25)).alloc (.cells #[.int .i64 vk, .int .i64 vf, .int .i64 vt, .int .i64 vg, .int .i64 vh, .int .i64 vi, .int .i64 vm, .int .i64 vv, .slice A' n' c', .slice B' m' d'] 25)).alloc (.cells #[.int .i64 0, .int .i64 0, .int .i64 0, .int .i64 0, .int .i64 0, .int .i64 0, .int .i64 0, .int .i64 0, .slice none 0 0, .slice none 0 0] 25)).heap[w.heap.size]? = some (.cells #[.int .i64 xk, .int .i64 xf, .int .i64 xt, .int .i64 xg, .int .i64 xh, .int .i64 xi, .int .i64 xm, .int .i64 xv, .slice A n c, .slice B m d] 25) := by rw [Below.heap_alloc _ _ _ (by simp; omega), Below.heap_alloc _ _ _ (by simp), heap_alloc_new]
 have hy : (((w.alloc (.cells #[.int .i64 xk, .int .i64 xf, .int .i64 xt, .int .i64 xg, .int .i64 xh, .int .i64 xi, .int .i64 xm, .int .i64 xv, .slice A n c, .slice B m d] 25)).alloc (.cells #[.int .i64 vk, .int .i64 vf, .int .i64 vt, .int .i64 vg, .int .i64 vh, .int .i64 vi, .int .i64 vm, .int .i64 vv, .slice A' n' c', .slice B' m' d'] 25)).alloc (.cells #[.int .i64 0, .int .i64 0, .int .i64 0, .int .i64 0, .int .i64 0, .int .i64 0, .int .i64 0, .int .i64 0, .slice none 0 0, .slice none 0 0] 25)).heap[w.heap.size + 1]? = some (.cells #[.int .i64 vk, .int .i64 vf, .int .i64 vt, .int .i64 vg, .int .i64 vh, .int .i64 vi, .int .i64 vm, .int .i64 vv, .slice A' n' c', .slice B' m' d'] 25) := by
  have := heap_alloc_new (w.alloc (.cells #[.int .i64 xk, .int .i64 xf, .int .i64 xt, .int .i64 xg, .int .i64 xh, .int .i64 xi, .int .i64 xm, .int .i64 xv, .slice A n c, .slice B m d] 25)) (.cells #[.int .i64 vk, .int .i64 vf, .int .i64 vt, .int .i64 vg, .int .i64 vh, .int .i64 vi, .int .i64 vm, .int .i64 vv, .slice A' n' c', .slice B' m' d'] 25)
  rw [show (w.alloc (.cells #[.int .i64 xk, .int .i64 xf, .int .i64 xt, .int .i64 xg, .int .i64 xh, .int .i64 xi, .int .i64 xm, .int .i64 xv, .slice A n c, .slice B m d] 25)).heap.size = w.heap.size + 1 by simp] at this
  rw [Below.heap_alloc _ _ _ (by simp)]; exact this
 have hz : (((w.alloc (.cells #[.int .i64 xk, .int .i64 xf, .int .i64 xt, .int .i64 xg, .int .i64 xh, .int .i64 xi, .int .i64 xm, .int .i64 xv, .slice A n c, .slice B m d] 25)).alloc (.cells #[.int .i64 vk, .int .i64 vf, .int .i64 vt, .int .i64 vg, .int .i64 vh, .int .i64 vi, .int .i64 vm, .int .i64 vv, .slice A' n' c', .slice B' m' d'] 25)).alloc (.cells #[.int .i64 0, .int .i64 0, .int .i64 0, .int .i64 0, .int .i64 0, .int .i64 0, .int .i64 0, .int .i64 0, .slice none 0 0, .slice none 0 0] 25)).heap[w.heap.size + 2]? = some (.cells #[.int .i64 0, .int .i64 0, .int .i64 0, .int .i64 0, .int .i64 0, .int .i64 0, .int .i64 0, .int .i64 0, .slice none 0 0, .slice none 0 0] 25) := by
  have := heap_alloc_new ((w.alloc (.cells #[.int .i64 xk, .int .i64 xf, .int .i64 xt, .int .i64 xg, .int .i64 xh, .int .i64 xi, .int .i64 xm, .int .i64 xv, .slice A n c, .slice B m d] 25)).alloc (.cells #[.int .i64 vk, .int .i64 vf, .int .i64 vt, .int .i64 vg, .int .i64 vh, .int .i64 vi, .int .i64 vm, .int .i64 vv, .slice A' n' c', .slice B' m' d'] 25)) (.cells #[.int .i64 0, .int .i64 0, .int .i64 0, .int .i64 0, .int .i64 0, .int .i64 0, .int .i64 0, .int .i64 0, .slice none 0 0, .slice none 0 0] 25)
  rwa [show ((w.alloc (.cells #[.int .i64 xk, .int .i64 xf, .int .i64 xt, .int .i64 xg, .int .i64 xh, .int .i64 xi, .int .i64 xm, .int .i64 xv, .slice A n c, .slice B m d] 25)).alloc (.cells #[.int .i64 vk, .int .i64 vf, .int .i64 vt, .int .i64 vg, .int .i64 vh, .int .i64 vi, .int .i64 vm, .int .i64 vv, .slice A' n' c', .slice B' m' d'] 25)).heap.size = w.heap.size + 2 by simp] at this
 have HT := Lib.hid (show TW w (.cells #[.int .i64 xk, .int .i64 xf, .int .i64 xt, .int .i64 xg, .int .i64 xh, .int .i64 xi, .int .i64 xm, .int .i64 xv, .slice A n c, .slice B m d] 25) (.cells #[.int .i64 vk, .int .i64 vf, .int .i64 vt, .int .i64 vg, .int .i64 vh, .int .i64 vi, .int .i64 vm, .int .i64 vv, .slice A' n' c', .slice B' m' d'] 25) (.cells #[.int .i64 0, .int .i64 0, .int .i64 0, .int .i64 0, .int .i64 0, .int .i64 0, .int .i64 0, .int .i64 0, .slice none 0 0, .slice none 0 0] 25) L K' S S' A A' B B' n n' m m' (((w.alloc (.cells #[.int .i64 xk, .int .i64 xf, .int .i64 xt, .int .i64 xg, .int .i64 xh, .int .i64 xi, .int .i64 xm, .int .i64 xv, .slice A n c, .slice B m d] 25)).alloc (.cells #[.int .i64 vk, .int .i64 vf, .int .i64 vt, .int .i64 vg, .int .i64 vh, .int .i64 vi, .int .i64 vm, .int .i64 vv, .slice A' n' c', .slice B' m' d'] 25)).alloc (.cells #[.int .i64 0, .int .i64 0, .int .i64 0, .int .i64 0, .int .i64 0, .int .i64 0, .int .i64 0, .int .i64 0, .slice none 0 0, .slice none 0 0] 25)) from ⟨hb1, hx, hy, hz, h1.below hb1, h2.below hb1, h3.below hb1, h4.below hb1⟩)
 clear hb1 hx hy hz h1 h2 h3 h4
 go_enter Try.func27, Try.ntmps27
 go_upto_region 1 with fail
 generalize ((w.alloc (.cells #[.int .i64 xk, .int .i64 xf, .int .i64 xt, .int .i64 xg, .int .i64 xh, .int .i64 xi, .int .i64 xm, .int .i64 xv, .slice A n c, .slice B m d] 25)).alloc (.cells #[.int .i64 vk, .int .i64 vf, .int .i64 vt, .int .i64 vg, .int .i64 vh, .int .i64 vi, .int .i64 vm, .int .i64 vv, .slice A' n' c', .slice B' m' d'] 25)).alloc (.cells #[.int .i64 0, .int .i64 0, .int .i64 0, .int .i64 0, .int .i64 0, .int .i64 0, .int .i64 0, .int .i64 0, .slice none 0 0, .slice none 0 0] 25) = W at HT ⊢
 refine wp_region_held_drew (S := fun W => W.heap[w.heap.size]? = some (.cells #[.int .i64 xk, .int .i64 xf, .int .i64 xt, .int .i64 xg, .int .i64 xh, .int .i64 xi, .int .i64 xm, .int .i64 xv, .slice A n c, .slice B m d] 25) ∧ W.heap[w.heap.size + 1]? = some (.cells #[.int .i64 vk, .int .i64 vf, .int .i64 vt, .int .i64 vg, .int .i64 vh, .int .i64 vi, .int .i64 vm, .int .i64 vv, .slice A' n' c', .slice B' m' d'] 25)) (by kernel_rfl) ⟨HT.out.hx, HT.out.hy⟩ (fun hHeld => ?_)
 have HT := Lib.hid (HT.out.step (below_drewN (Below.refl _ _) 1))
 change Hid (TW w _ _ _ L K' S S' A A' B B' n n' m m' W.drew) at HT
 generalize W.drew = W at HT hHeld ⊢
 refine tk 0 (v := ?_) rfl (by kernel_rfl) (fun _ _ _ h => h) ?_ hHeld ?_
 rotate_left
 ·(intro W hSw; (try dsimp only at hSw); obtain ⟨hs1, hs2⟩ := hSw; obtain ⟨⟨y0, y1, y2, y3, y4⟩, y5, y6, y7, y8, y9⟩ := tenc hs1; obtain ⟨⟨z0, z1, z2, z3, z4⟩, z5, z6, z7, z8, z9⟩ := tenc hs2; go_simp; try with_reducible rfl)
 refine tk 2 (v := ?_) rfl (by kernel_rfl) (fun _ _ _ h => h) ?_ hHeld ?_
 rotate_left
 ·(intro W hSw; (try dsimp only at hSw); obtain ⟨hs1, hs2⟩ := hSw; obtain ⟨⟨y0, y1, y2, y3, y4⟩, y5, y6, y7, y8, y9⟩ := tenc hs1; obtain ⟨⟨z0, z1, z2, z3, z4⟩, z5, z6, z7, z8, z9⟩ := tenc hs2; go_simp; try with_reducible rfl)
 refine wpAnyH_ready (rs := [1, 7]) (by kernel_rfl) (by simp) ?_
 refine AllReadyH.cons rfl (fun K hK => ?_) (AllReadyH.cons rfl (fun K hK => ?_) AllReadyH.nil)
 ·go_simp
  refine (CBG _ HT.out.l HT.out.s).mono ?_
  rintro e W1 ⟨s, t, rfl, hs, ht, hb1⟩
  obtain ⟨As, cs, rfl⟩ := hs.form
  obtain ⟨Bt, ct, rfl⟩ := ht.form
  have hws := HT.out.hb.size
  have hwz := lt_some HT.out.hz
  have HS := Lib.hid (hs.lower (base' := w.heap.size + 3) (by omega))
  have HT1 := Lib.hid (HT.out.step hb1)
  have hS1 := And.intro (hkeep hb1 hHeld.1) (hkeep hb1 hHeld.2)
  rw [hnl] at HS
  rw [hsl]
  clear hs ht hb1 HT hHeld CBG
  have HT := HT1
  clear HT1
  go_wp2_with fail
  refine hK.out _ _ hS1 (fun hHeld => ?_)
  clear hK K hS1
  refine wpAnyH_ready (rs := [3, 7]) (by kernel_rfl) (by simp) ?_
  refine AllReadyH.cons rfl (fun K hK => ?_) (AllReadyH.cons rfl (fun K hK => ?_) AllReadyH.nil)
  ·go_simp
   refine (CWT As Bt cs ct _ (by have := lt_some HT.out.hz; omega) HS.out HT.out.l' HT.out.s' (fun h0 b off e e2 => by have := hlow h0 b off e; have := (HS.out.block _ e2).1; omega)).mono ?_
   rintro e W2 hor
   have hrl : ∀ g, (Value.slice As n cs).ownBlock = some g → w.heap.size + 3 ≤ g := fun g e => (HS.out.block g e).1
   have hws := HT.out.hb.size
   have hwz := lt_some HT.out.hz
   rcases hor with ⟨hok, v, rfl, htv, hgv, hov⟩ | ⟨hok, rfl, hbv⟩
   ·have hvl : ∀ g, v.ownBlock = some g → w.heap.size + 3 ≤ g := fun g e => by
     rcases hov g e with h | h
     ·exact hrl g h
     ·omega
    have HV := Lib.hid (HT.out.tv hgv hrl)
    have HE := Lib.hid (HFY.out hok)
    obtain ⟨Av, cv, rfl⟩ := htv.form
    generalize M.length = NM at *
    have HTV := Lib.hid htv
    have hS1 := And.intro (grown_at hgv hHeld.1 (fun e => by have := hrl _ e; omega)) (grown_at hgv hHeld.2 (fun e => by have := hrl _ e; omega))
    clear htv hgv hov hok HT HS HFY HFN CWT hHeld hrl
    go_wp2_with fail
    refine hK.out _ _ hS1 (fun hHeld => ?_)
    clear hK K hS1
    refine tk 4 (v := ?_) rfl (by kernel_rfl) (fun _ _ _ h => h) ?_ hHeld ?_
    rotate_left
    ·(intro W hSw; clear hSw; go_simp; try with_reducible rfl)
    refine tk 5 (v := ?_) rfl (by kernel_rfl) (fun _ _ _ h => h) ?_ hHeld ?_
    rotate_left
    ·(intro W hSw; clear hSw; go_simp; try with_reducible rfl)
    refine tk 6 (v := ?_) rfl (by kernel_rfl) (fun _ _ _ h => h) ?_ hHeld ?_
    rotate_left
    ·(intro W hSw; clear hSw; go_simp; try with_reducible rfl)
    refine wpAnyH_ready (rs := [7]) (by kernel_rfl) (by simp) ?_
    refine AllReadyH.cons rfl (fun K hK => ?_) AllReadyH.nil
    have hba := (Below.refl W2.heap.size W2).alloc (Nat.le_refl _) (.cells #[.int .i64 0, .int .i64 0, .int .i64 0, .int .i64 0, .int .i64 0, .int .i64 0, .int .i64 0, .int .i64 0, .slice none 0 0, .slice none 0 0, .bool false] 103)
    have HP0 := Lib.hid (heap_alloc_new W2 (.cells #[.int .i64 0, .int .i64 0, .int .i64 0, .int .i64 0, .int .i64 0, .int .i64 0, .int .i64 0, .int .i64 0, .slice none 0 0, .slice none 0 0, .bool false] 103))
    have hwz2 := lt_some HV.out.hz
    have HV1 := Lib.hid (HV.out.step hba)
    have hS1 := And.intro (hkeep hba hHeld.1) (hkeep hba hHeld.2)
    have hvp : ∀ g, (Value.slice Av NM cv).ownBlock = some g → g ≠ W2.heap.size := fun g e => by have := (HTV.out.block g e).2.1; omega
    have HTV1 := Lib.hid (HTV.out.belowAll hba)
    clear HV hHeld hba HTV
    go_simp
    refine hK.out _ _ hS1 (fun hHeld => ?_)
    clear hK K hS1
    have hPB : w.heap.size + 3 ≤ W2.heap.size := by omega
    generalize W2.alloc (.cells #[.int .i64 0, .int .i64 0, .int .i64 0, .int .i64 0, .int .i64 0, .int .i64 0, .int .i64 0, .int .i64 0, .slice none 0 0, .slice none 0 0, .bool false] 103) = WY at HV1 HP0 hHeld HTV1 ⊢
    generalize W2.heap.size = PB at HP0 hPB hvp ⊢
    have HPP := HP0
    have HV := HV1
    clear HP0 HV1 hwz2
    have HTV := HTV1
    clear HTV1
    refine wpAnyH_ready (rs := [8]) (by kernel_rfl) (by simp) ?_
    refine AllReadyH.cons rfl (fun K hK => ?_) AllReadyH.nil
    have hfr := elevf HPP.out
    have f0 := hfr.1
    have f1 := hfr.2.1
    have f2 := hfr.2.2.1
    have f3 := hfr.2.2.2.1
    have f4 := hfr.2.2.2.2.1
    have f5 := hfr.2.2.2.2.2.1
    have f6 := hfr.2.2.2.2.2.2.1
    have f7 := hfr.2.2.2.2.2.2.2.1
    have f8 := hfr.2.2.2.2.2.2.2.2.1
    have f9 := hfr.2.2.2.2.2.2.2.2.2.1
    have f10 := hfr.2.2.2.2.2.2.2.2.2.2
    have hcl := elev HPP.out
    have z0 := hcl.1
    have z1 := hcl.2.1
    have z2 := hcl.2.2.1
    have z3 := hcl.2.2.2.1
    have z4 := hcl.2.2.2.2.1
    have z5 := hcl.2.2.2.2.2.1
    have z6 := hcl.2.2.2.2.2.2.1
    have z7 := hcl.2.2.2.2.2.2.2.1
    have z8 := hcl.2.2.2.2.2.2.2.2.1
    have z9 := hcl.2.2.2.2.2.2.2.2.2.1
    have z10 := hcl.2.2.2.2.2.2.2.2.2.2
    clear hfr hcl
    go_simp
    have hS8 := And.intro ((put11_else (B := PB) (k := w.heap.size) (.int .i64 zk) (.int .i64 zf) (.int .i64 zt) (.int .i64 zg) (.int .i64 zh) (.int .i64 zi) (.int .i64 zm) (.int .i64 zv) (.slice Av NM cv) (.slice none 0 0) (.bool true) (by omega)).trans hHeld.1) ((put11_else (B := PB) (k := w.heap.size + 1) (.int .i64 zk) (.int .i64 zf) (.int .i64 zt) (.int .i64 zg) (.int .i64 zh) (.int .i64 zi) (.int .i64 zm) (.int .i64 zv) (.slice Av NM cv) (.slice none 0 0) (.bool true) (by omega)).trans hHeld.2)
    have hP8 := put11_at HPP.out (.int .i64 zk) (.int .i64 zf) (.int .i64 zt) (.int .i64 zg) (.int .i64 zh) (.int .i64 zi) (.int .i64 zm) (.int .i64 zv) (.slice Av NM cv) (.slice none 0 0) (.bool true)
    have hb8 : Below PB WY (put11 WY PB (.int .i64 zk) (.int .i64 zf) (.int .i64 zt) (.int .i64 zg) (.int .i64 zh) (.int .i64 zi) (.int .i64 zm) (.int .i64 zv) (.slice Av NM cv) (.slice none 0 0) (.bool true)) := put11_below (Below.refl _ _) (Nat.le_refl _) (.int .i64 zk) (.int .i64 zf) (.int .i64 zt) (.int .i64 zg) (.int .i64 zh) (.int .i64 zi) (.int .i64 zm) (.int .i64 zv) (.slice Av NM cv) (.slice none 0 0) (.bool true)
    have hV8 : TV w (.cells #[.int .i64 xk, .int .i64 xf, .int .i64 xt, .int .i64 xg, .int .i64 xh, .int .i64 xi, .int .i64 xm, .int .i64 xv, .slice A n c, .slice B m d] 25) (.cells #[.int .i64 vk, .int .i64 vf, .int .i64 vt, .int .i64 vg, .int .i64 vh, .int .i64 vi, .int .i64 vm, .int .i64 vv, .slice A' n' c', .slice B' m' d'] 25) (.cells #[.int .i64 0, .int .i64 0, .int .i64 0, .int .i64 0, .int .i64 0, .int .i64 0, .int .i64 0, .int .i64 0, .slice none 0 0, .slice none 0 0] 25) (put11 WY PB (.int .i64 zk) (.int .i64 zf) (.int .i64 zt) (.int .i64 zg) (.int .i64 zh) (.int .i64 zi) (.int .i64 zm) (.int .i64 zv) (.slice Av NM cv) (.slice none 0 0) (.bool true)) := ⟨put11_below HV.out.hb (by omega) (.int .i64 zk) (.int .i64 zf) (.int .i64 zt) (.int .i64 zg) (.int .i64 zh) (.int .i64 zi) (.int .i64 zm) (.int .i64 zv) (.slice Av NM cv) (.slice none 0 0) (.bool true), (put11_else (B := PB) (.int .i64 zk) (.int .i64 zf) (.int .i64 zt) (.int .i64 zg) (.int .i64 zh) (.int .i64 zi) (.int .i64 zm) (.int .i64 zv) (.slice Av NM cv) (.slice none 0 0) (.bool true) (by omega)).trans HV.out.hx, (put11_else (B := PB) (.int .i64 zk) (.int .i64 zf) (.int .i64 zt) (.int .i64 zg) (.int .i64 zh) (.int .i64 zi) (.int .i64 zm) (.int .i64 zv) (.slice Av NM cv) (.slice none 0 0) (.bool true) (by omega)).trans HV.out.hy, (put11_else (B := PB) (.int .i64 zk) (.int .i64 zf) (.int .i64 zt) (.int .i64 zg) (.int .i64 zh) (.int .i64 zi) (.int .i64 zm) (.int .i64 zv) (.slice Av NM cv) (.slice none 0 0) (.bool true) (by omega)).trans HV.out.hz⟩
    have hT8 : Tks (w.heap.size + 3) (put11 WY PB (.int .i64 zk) (.int .i64 zf) (.int .i64 zt) (.int .i64 zg) (.int .i64 zh) (.int .i64 zi) (.int .i64 zm) (.int .i64 zv) (.slice Av NM cv) (.slice none 0 0) (.bool true)) (.slice Av NM cv) M := HTV.out.grown (grown_put11 (.int .i64 zk) (.int .i64 zf) (.int .i64 zt) (.int .i64 zg) (.int .i64 zh) (.int .i64 zi) (.int .i64 zm) (.int .i64 zv) (.slice Av NM cv) (.slice none 0 0) (.bool true)) (fun g e e2 => by cases e2; exact hvp _ e rfl)
    unfold put11 at hS8 hP8 hV8 hT8
    have HP8 := Lib.hid hP8
    have HV8 := Lib.hid hV8
    have HT8 := Lib.hid hT8
    clear hT8
    refine hK.out _ _ hS8 (fun hHeld => ?_)
    clear hK K hS8 hP8 hV8 HPP HV hb8 z0 z1 z2 z3 z4 z5 z6 z7 z8 z9 z10 f0 f1 f2 f3 f4 f5 f6 f7 f8 f9 f10 HTV
    generalize World.setCell _ _ _ = W8 at HP8 HV8 hHeld HT8 ⊢
    refine wpAnyH_ready (rs := [9]) (by kernel_rfl) (by simp) ?_
    refine AllReadyH.cons rfl (fun K hK => ?_) AllReadyH.nil
    go_simp
    refine hK.out _ _ hHeld (fun hHeld => ?_)
    clear hK K
    refine wpAnyH_done (by kernel_rfl) ?_ _
    have hcl := elev HP8.out
    have p0 := hcl.1
    have p1 := hcl.2.1
    have p2 := hcl.2.2.1
    have p3 := hcl.2.2.2.1
    have p4 := hcl.2.2.2.2.1
    have p5 := hcl.2.2.2.2.2.1
    have p6 := hcl.2.2.2.2.2.2.1
    have p7 := hcl.2.2.2.2.2.2.2.1
    have p8 := hcl.2.2.2.2.2.2.2.2.1
    have p9 := hcl.2.2.2.2.2.2.2.2.2.1
    have p10 := hcl.2.2.2.2.2.2.2.2.2.2
    clear hcl
    have hz := tenc (Lib.hid HV8.out.hz).out
    have z0 := hz.1.1
    have z1 := hz.1.2.1
    have z2 := hz.1.2.2.1
    have z3 := hz.1.2.2.2.1
    have z4 := hz.1.2.2.2.2
    have z5 := hz.2.1
    have z6 := hz.2.2.1
    have z7 := hz.2.2.2.1
    have z8 := hz.2.2.2.2.1
    have z9 := hz.2.2.2.2.2
    have hf := froz (Lib.hid HV8.out.hz).out
    have f0 := hf.1
    have f1 := hf.2.1
    have f2 := hf.2.2.1
    have f3 := hf.2.2.2.1
    have f4 := hf.2.2.2.2.1
    have f5 := hf.2.2.2.2.2.1
    have f6 := hf.2.2.2.2.2.2.1
    have f7 := hf.2.2.2.2.2.2.2.1
    have f8 := hf.2.2.2.2.2.2.2.2.1
    have f9 := hf.2.2.2.2.2.2.2.2.2
    clear hz hf
    go_wp2
    have hF := tenc (put10_at HV8.out.hz (.int .i64 zk) (.int .i64 zf) (.int .i64 zt) (.int .i64 zg) (.int .i64 zh) (.int .i64 zi) (.int .i64 zm) (.int .i64 zv) (.slice Av NM cv) (.slice none 0 0))
    have hB10 := put10_below HV8.out.hb (B := w.heap.size + 2) (by omega) (.int .i64 zk) (.int .i64 zf) (.int .i64 zt) (.int .i64 zg) (.int .i64 zh) (.int .i64 zi) (.int .i64 zm) (.int .i64 zv) (.slice Av NM cv) (.slice none 0 0)
    have hT10 : Tks (w.heap.size + 3) (put10 W8 (w.heap.size + 2) (.int .i64 zk) (.int .i64 zf) (.int .i64 zt) (.int .i64 zg) (.int .i64 zh) (.int .i64 zi) (.int .i64 zm) (.int .i64 zv) (.slice Av NM cv) (.slice none 0 0)) (.slice Av NM cv) M := HT8.out.grown (grown_put10 (.int .i64 zk) (.int .i64 zf) (.int .i64 zt) (.int .i64 zg) (.int .i64 zh) (.int .i64 zi) (.int .i64 zm) (.int .i64 zv) (.slice Av NM cv) (.slice none 0 0)) (fun g e e2 => by cases e2; have := (HT8.out.block _ e).1; omega)
    have hT10' := hT10.lower (show w.heap.size ≤ w.heap.size + 3 by omega)
    obtain ⟨⟨r0, r1, r2, r3, r4⟩, r5, r6, r7, r8, r9⟩ := hF
    unfold put10 at r0 r1 r2 r3 r4 r5 r6 r7 r8 r9 hB10 hT10'
    refine bodyPost_ret (v := .tuple #[.agg #[.int .i64 zk, .int .i64 zf, .int .i64 zt, .int .i64 zg, .int .i64 zh, .int .i64 zi, .int .i64 zm, .int .i64 zv, .slice Av NM cv, .slice none 0 0], .bool true]) ?_ rfl (HE.out _ _ hT10' hB10)
    simp [results, Try.results27, go_sem, r0, r1, r2, r3, r4, r5, r6, r7, r8, r9]
   ·have HV := Lib.hid (HT.out.tv (grown_below hbv) (fun g e => by cases e))
    have HE := Lib.hid (HFN.out hok)
    have hS1 := And.intro (hkeep hbv hHeld.1) (hkeep hbv hHeld.2)
    clear hbv hok HT HS HFY HFN CWT hHeld hrl
    go_wp2_with fail
    refine hK.out _ _ hS1 (fun hHeld => ?_)
    clear hK K hS1
    refine tk 4 (v := ?_) rfl (by kernel_rfl) (fun _ _ _ h => h) ?_ hHeld ?_
    rotate_left
    ·(intro W hSw; clear hSw; go_simp; try with_reducible rfl)
    refine tk 5 (v := ?_) rfl (by kernel_rfl) (fun _ _ _ h => h) ?_ hHeld ?_
    rotate_left
    ·(intro W hSw; clear hSw; go_simp; try with_reducible rfl)
    refine tk 6 (v := ?_) rfl (by kernel_rfl) (fun _ _ _ h => h) ?_ hHeld ?_
    rotate_left
    ·(intro W hSw; clear hSw; go_simp; try with_reducible rfl)
    refine wpAnyH_ready (rs := [7]) (by kernel_rfl) (by simp) ?_
    refine AllReadyH.cons rfl (fun K hK => ?_) AllReadyH.nil
    have hba := (Below.refl W2.heap.size W2).alloc (Nat.le_refl _) (.cells #[.int .i64 0, .int .i64 0, .int .i64 0, .int .i64 0, .int .i64 0, .int .i64 0, .int .i64 0, .int .i64 0, .slice none 0 0, .slice none 0 0, .bool false] 103)
    have HP0 := Lib.hid (heap_alloc_new W2 (.cells #[.int .i64 0, .int .i64 0, .int .i64 0, .int .i64 0, .int .i64 0, .int .i64 0, .int .i64 0, .int .i64 0, .slice none 0 0, .slice none 0 0, .bool false] 103))
    have hwz2 := lt_some HV.out.hz
    have HV1 := Lib.hid (HV.out.step hba)
    have hS1 := And.intro (hkeep hba hHeld.1) (hkeep hba hHeld.2)
    clear HV hHeld hba
    go_simp
    refine hK.out _ _ hS1 (fun hHeld => ?_)
    clear hK K hS1
    have hPB : w.heap.size + 3 ≤ W2.heap.size := by omega
    generalize W2.alloc (.cells #[.int .i64 0, .int .i64 0, .int .i64 0, .int .i64 0, .int .i64 0, .int .i64 0, .int .i64 0, .int .i64 0, .slice none 0 0, .slice none 0 0, .bool false] 103) = WY at HV1 HP0 hHeld ⊢
    generalize W2.heap.size = PB at HP0 hPB ⊢
    have HPP := HP0
    have HV := HV1
    clear HP0 HV1 hwz2
    refine wpAnyH_ready (rs := [8]) (by kernel_rfl) (by simp) ?_
    refine AllReadyH.cons rfl (fun K hK => ?_) AllReadyH.nil
    have hfr := elevf HPP.out
    have f0 := hfr.1
    have f1 := hfr.2.1
    have f2 := hfr.2.2.1
    have f3 := hfr.2.2.2.1
    have f4 := hfr.2.2.2.2.1
    have f5 := hfr.2.2.2.2.2.1
    have f6 := hfr.2.2.2.2.2.2.1
    have f7 := hfr.2.2.2.2.2.2.2.1
    have f8 := hfr.2.2.2.2.2.2.2.2.1
    have f9 := hfr.2.2.2.2.2.2.2.2.2.1
    have f10 := hfr.2.2.2.2.2.2.2.2.2.2
    have hcl := elev HPP.out
    have z0 := hcl.1
    have z1 := hcl.2.1
    have z2 := hcl.2.2.1
    have z3 := hcl.2.2.2.1
    have z4 := hcl.2.2.2.2.1
    have z5 := hcl.2.2.2.2.2.1
    have z6 := hcl.2.2.2.2.2.2.1
    have z7 := hcl.2.2.2.2.2.2.2.1
    have z8 := hcl.2.2.2.2.2.2.2.2.1
    have z9 := hcl.2.2.2.2.2.2.2.2.2.1
    have z10 := hcl.2.2.2.2.2.2.2.2.2.2
    clear hfr hcl
    go_simp
    have hS8 := And.intro ((put11_else (B := PB) (k := w.heap.size) (.int .i64 0) (.int .i64 0) (.int .i64 0) (.int .i64 0) (.int .i64 0) (.int .i64 0) (.int .i64 0) (.int .i64 0) (.slice none 0 0) (.slice none 0 0) (.bool false) (by omega)).trans hHeld.1) ((put11_else (B := PB) (k := w.heap.size + 1) (.int .i64 0) (.int .i64 0) (.int .i64 0) (.int .i64 0) (.int .i64 0) (.int .i64 0) (.int .i64 0) (.int .i64 0) (.slice none 0 0) (.slice none 0 0) (.bool false) (by omega)).trans hHeld.2)
    have hP8 := put11_at HPP.out (.int .i64 0) (.int .i64 0) (.int .i64 0) (.int .i64 0) (.int .i64 0) (.int .i64 0) (.int .i64 0) (.int .i64 0) (.slice none 0 0) (.slice none 0 0) (.bool false)
    have hb8 : Below PB WY (put11 WY PB (.int .i64 0) (.int .i64 0) (.int .i64 0) (.int .i64 0) (.int .i64 0) (.int .i64 0) (.int .i64 0) (.int .i64 0) (.slice none 0 0) (.slice none 0 0) (.bool false)) := put11_below (Below.refl _ _) (Nat.le_refl _) (.int .i64 0) (.int .i64 0) (.int .i64 0) (.int .i64 0) (.int .i64 0) (.int .i64 0) (.int .i64 0) (.int .i64 0) (.slice none 0 0) (.slice none 0 0) (.bool false)
    have hV8 : TV w (.cells #[.int .i64 xk, .int .i64 xf, .int .i64 xt, .int .i64 xg, .int .i64 xh, .int .i64 xi, .int .i64 xm, .int .i64 xv, .slice A n c, .slice B m d] 25) (.cells #[.int .i64 vk, .int .i64 vf, .int .i64 vt, .int .i64 vg, .int .i64 vh, .int .i64 vi, .int .i64 vm, .int .i64 vv, .slice A' n' c', .slice B' m' d'] 25) (.cells #[.int .i64 0, .int .i64 0, .int .i64 0, .int .i64 0, .int .i64 0, .int .i64 0, .int .i64 0, .int .i64 0, .slice none 0 0, .slice none 0 0] 25) (put11 WY PB (.int .i64 0) (.int .i64 0) (.int .i64 0) (.int .i64 0) (.int .i64 0) (.int .i64 0) (.int .i64 0) (.int .i64 0) (.slice none 0 0) (.slice none 0 0) (.bool false)) := ⟨put11_below HV.out.hb (by omega) (.int .i64 0) (.int .i64 0) (.int .i64 0) (.int .i64 0) (.int .i64 0) (.int .i64 0) (.int .i64 0) (.int .i64 0) (.slice none 0 0) (.slice none 0 0) (.bool false), (put11_else (B := PB) (.int .i64 0) (.int .i64 0) (.int .i64 0) (.int .i64 0) (.int .i64 0) (.int .i64 0) (.int .i64 0) (.int .i64 0) (.slice none 0 0) (.slice none 0 0) (.bool false) (by omega)).trans HV.out.hx, (put11_else (B := PB) (.int .i64 0) (.int .i64 0) (.int .i64 0) (.int .i64 0) (.int .i64 0) (.int .i64 0) (.int .i64 0) (.int .i64 0) (.slice none 0 0) (.slice none 0 0) (.bool false) (by omega)).trans HV.out.hy, (put11_else (B := PB) (.int .i64 0) (.int .i64 0) (.int .i64 0) (.int .i64 0) (.int .i64 0) (.int .i64 0) (.int .i64 0) (.int .i64 0) (.slice none 0 0) (.slice none 0 0) (.bool false) (by omega)).trans HV.out.hz⟩
    unfold put11 at hS8 hP8 hV8
    have HP8 := Lib.hid hP8
    have HV8 := Lib.hid hV8
    refine hK.out _ _ hS8 (fun hHeld => ?_)
    clear hK K hS8 hP8 hV8 HPP HV hb8 z0 z1 z2 z3 z4 z5 z6 z7 z8 z9 z10 f0 f1 f2 f3 f4 f5 f6 f7 f8 f9 f10
    generalize World.setCell _ _ _ = W8 at HP8 HV8 hHeld ⊢
    refine wpAnyH_ready (rs := [9]) (by kernel_rfl) (by simp) ?_
    refine AllReadyH.cons rfl (fun K hK => ?_) AllReadyH.nil
    go_simp
    refine hK.out _ _ hHeld (fun hHeld => ?_)
    clear hK K
    refine wpAnyH_done (by kernel_rfl) ?_ _
    have hcl := elev HP8.out
    have p0 := hcl.1
    have p1 := hcl.2.1
    have p2 := hcl.2.2.1
    have p3 := hcl.2.2.2.1
    have p4 := hcl.2.2.2.2.1
    have p5 := hcl.2.2.2.2.2.1
    have p6 := hcl.2.2.2.2.2.2.1
    have p7 := hcl.2.2.2.2.2.2.2.1
    have p8 := hcl.2.2.2.2.2.2.2.2.1
    have p9 := hcl.2.2.2.2.2.2.2.2.2.1
    have p10 := hcl.2.2.2.2.2.2.2.2.2.2
    clear hcl
    have hz := tenc (Lib.hid HV8.out.hz).out
    have z0 := hz.1.1
    have z1 := hz.1.2.1
    have z2 := hz.1.2.2.1
    have z3 := hz.1.2.2.2.1
    have z4 := hz.1.2.2.2.2
    have z5 := hz.2.1
    have z6 := hz.2.2.1
    have z7 := hz.2.2.2.1
    have z8 := hz.2.2.2.2.1
    have z9 := hz.2.2.2.2.2
    have hf := froz (Lib.hid HV8.out.hz).out
    have f0 := hf.1
    have f1 := hf.2.1
    have f2 := hf.2.2.1
    have f3 := hf.2.2.2.1
    have f4 := hf.2.2.2.2.1
    have f5 := hf.2.2.2.2.2.1
    have f6 := hf.2.2.2.2.2.2.1
    have f7 := hf.2.2.2.2.2.2.2.1
    have f8 := hf.2.2.2.2.2.2.2.2.1
    have f9 := hf.2.2.2.2.2.2.2.2.2
    clear hz hf
    go_wp2
    have hF := tenc (put10_at HV8.out.hz (.int .i64 0) (.int .i64 0) (.int .i64 0) (.int .i64 0) (.int .i64 0) (.int .i64 0) (.int .i64 0) (.int .i64 0) (.slice none 0 0) (.slice none 0 0))
    have hB10 := put10_below HV8.out.hb (B := w.heap.size + 2) (by omega) (.int .i64 0) (.int .i64 0) (.int .i64 0) (.int .i64 0) (.int .i64 0) (.int .i64 0) (.int .i64 0) (.int .i64 0) (.slice none 0 0) (.slice none 0 0)
    obtain ⟨⟨r0, r1, r2, r3, r4⟩, r5, r6, r7, r8, r9⟩ := hF
    unfold put10 at r0 r1 r2 r3 r4 r5 r6 r7 r8 r9 hB10
    refine bodyPost_ret (v := .tuple #[.agg #[.int .i64 0, .int .i64 0, .int .i64 0, .int .i64 0, .int .i64 0, .int .i64 0, .int .i64 0, .int .i64 0, .slice none 0 0, .slice none 0 0], .bool false]) ?_ rfl (HE.out _ hB10)
    simp [results, Try.results27, go_sem, r0, r1, r2, r3, r4, r5, r6, r7, r8, r9]
  ·have hba := (Below.refl W1.heap.size W1).alloc (Nat.le_refl _) (.cells #[.int .i64 0, .int .i64 0, .int .i64 0, .int .i64 0, .int .i64 0, .int .i64 0, .int .i64 0, .int .i64 0, .slice none 0 0, .slice none 0 0, .bool false] 103)
   have HP0 := Lib.hid (heap_alloc_new W1 (.cells #[.int .i64 0, .int .i64 0, .int .i64 0, .int .i64 0, .int .i64 0, .int .i64 0, .int .i64 0, .int .i64 0, .slice none 0 0, .slice none 0 0, .bool false] 103))
   have hlt : W1.heap.size < (W1.alloc (.cells #[.int .i64 0, .int .i64 0, .int .i64 0, .int .i64 0, .int .i64 0, .int .i64 0, .int .i64 0, .int .i64 0, .slice none 0 0, .slice none 0 0, .bool false] 103)).heap.size := by simp
   have hwz := lt_some HT.out.hz
   have HRP := Lib.hid (show ∀ g, (Value.slice As n cs).ownBlock = some g → g ≠ W1.heap.size from fun g e => by have := (HS.out.block g e).2.1; omega)
   have HS1 := Lib.hid (HS.out.belowAll hba)
   have HT1 := Lib.hid (HT.out.step hba)
   have hS1 := And.intro (hkeep hba hHeld.1) (hkeep hba hHeld.2)
   clear HT hHeld hba
   have HT := HT1
   clear HT1
   go_simp
   refine hK.out _ _ hS1 (fun hHeld => ?_)
   clear hK K hS1
   clear HS
   have HS := HS1
   clear HS1
   have hPB : w.heap.size + 3 ≤ W1.heap.size := by omega
   generalize W1.alloc (.cells #[.int .i64 0, .int .i64 0, .int .i64 0, .int .i64 0, .int .i64 0, .int .i64 0, .int .i64 0, .int .i64 0, .slice none 0 0, .slice none 0 0, .bool false] 103) = W2 at HT HP0 hHeld hlt HS ⊢
   generalize W1.heap.size = PB at HP0 hPB hlt HRP ⊢
   have HP := HP0
   clear HP0 hwz
   refine wpAnyH_ready (rs := [3]) (by kernel_rfl) (by simp) ?_
   refine AllReadyH.cons rfl (fun K hK => ?_) AllReadyH.nil
   go_simp
   refine (CWT As Bt cs ct _ (by have := lt_some HT.out.hz; omega) HS.out HT.out.l' HT.out.s' (fun h0 b off e e2 => by have := hlow h0 b off e; have := (HS.out.block _ e2).1; omega)).mono ?_
   rintro e W3 hor
   have hrl : ∀ g, (Value.slice As n cs).ownBlock = some g → w.heap.size + 3 ≤ g := fun g e => (HS.out.block g e).1
   have hws := HT.out.hb.size
   have hwz := lt_some HT.out.hz
   rcases hor with ⟨hok, v, rfl, htv, hgv, hov⟩ | ⟨hok, rfl, hbv⟩
   ·have hvl : ∀ g, v.ownBlock = some g → w.heap.size + 3 ≤ g := fun g e => by
     rcases hov g e with h | h
     ·exact hrl g h
     ·omega
    have HV := Lib.hid (HT.out.tv hgv hrl)
    have HE := Lib.hid (HFY.out hok)
    obtain ⟨Av, cv, rfl⟩ := htv.form
    generalize M.length = NM at *
    have HTV := Lib.hid htv
    have hS1 := And.intro (grown_at hgv hHeld.1 (fun e => by have := hrl _ e; omega)) (grown_at hgv hHeld.2 (fun e => by have := hrl _ e; omega))
    have HPP := Lib.hid (grown_at hgv HP.out (fun e => HRP.out _ e rfl))
    have hvp : ∀ g, (Value.slice Av NM cv).ownBlock = some g → g ≠ PB := fun g e => by
     rcases hov g e with h | h
     ·exact HRP.out g h
     ·have := lt_some HP.out; omega
    clear htv hgv hov hok HT HS HFY HFN CWT hHeld hrl HP HRP
    go_wp2_with fail
    refine hK.out _ _ hS1 (fun hHeld => ?_)
    clear hK K hS1
    refine tk 4 (v := ?_) rfl (by kernel_rfl) (fun _ _ _ h => h) ?_ hHeld ?_
    rotate_left
    ·(intro W hSw; clear hSw; go_simp; try with_reducible rfl)
    refine tk 5 (v := ?_) rfl (by kernel_rfl) (fun _ _ _ h => h) ?_ hHeld ?_
    rotate_left
    ·(intro W hSw; clear hSw; go_simp; try with_reducible rfl)
    refine tk 6 (v := ?_) rfl (by kernel_rfl) (fun _ _ _ h => h) ?_ hHeld ?_
    rotate_left
    ·(intro W hSw; clear hSw; go_simp; try with_reducible rfl)
    refine wpAnyH_ready (rs := [8]) (by kernel_rfl) (by simp) ?_
    refine AllReadyH.cons rfl (fun K hK => ?_) AllReadyH.nil
    have hfr := elevf HPP.out
    have f0 := hfr.1
    have f1 := hfr.2.1
    have f2 := hfr.2.2.1
    have f3 := hfr.2.2.2.1
    have f4 := hfr.2.2.2.2.1
    have f5 := hfr.2.2.2.2.2.1
    have f6 := hfr.2.2.2.2.2.2.1
    have f7 := hfr.2.2.2.2.2.2.2.1
    have f8 := hfr.2.2.2.2.2.2.2.2.1
    have f9 := hfr.2.2.2.2.2.2.2.2.2.1
    have f10 := hfr.2.2.2.2.2.2.2.2.2.2
    have hcl := elev HPP.out
    have z0 := hcl.1
    have z1 := hcl.2.1
    have z2 := hcl.2.2.1
    have z3 := hcl.2.2.2.1
    have z4 := hcl.2.2.2.2.1
    have z5 := hcl.2.2.2.2.2.1
    have z6 := hcl.2.2.2.2.2.2.1
    have z7 := hcl.2.2.2.2.2.2.2.1
    have z8 := hcl.2.2.2.2.2.2.2.2.1
    have z9 := hcl.2.2.2.2.2.2.2.2.2.1
    have z10 := hcl.2.2.2.2.2.2.2.2.2.2
    clear hfr hcl
    go_simp
    have hS8 := And.intro ((put11_else (B := PB) (k := w.heap.size) (.int .i64 zk) (.int .i64 zf) (.int .i64 zt) (.int .i64 zg) (.int .i64 zh) (.int .i64 zi) (.int .i64 zm) (.int .i64 zv) (.slice Av NM cv) (.slice none 0 0) (.bool true) (by omega)).trans hHeld.1) ((put11_else (B := PB) (k := w.heap.size + 1) (.int .i64 zk) (.int .i64 zf) (.int .i64 zt) (.int .i64 zg) (.int .i64 zh) (.int .i64 zi) (.int .i64 zm) (.int .i64 zv) (.slice Av NM cv) (.slice none 0 0) (.bool true) (by omega)).trans hHeld.2)
    have hP8 := put11_at HPP.out (.int .i64 zk) (.int .i64 zf) (.int .i64 zt) (.int .i64 zg) (.int .i64 zh) (.int .i64 zi) (.int .i64 zm) (.int .i64 zv) (.slice Av NM cv) (.slice none 0 0) (.bool true)
    have hb8 : Below PB W3 (put11 W3 PB (.int .i64 zk) (.int .i64 zf) (.int .i64 zt) (.int .i64 zg) (.int .i64 zh) (.int .i64 zi) (.int .i64 zm) (.int .i64 zv) (.slice Av NM cv) (.slice none 0 0) (.bool true)) := put11_below (Below.refl _ _) (Nat.le_refl _) (.int .i64 zk) (.int .i64 zf) (.int .i64 zt) (.int .i64 zg) (.int .i64 zh) (.int .i64 zi) (.int .i64 zm) (.int .i64 zv) (.slice Av NM cv) (.slice none 0 0) (.bool true)
    have hV8 : TV w (.cells #[.int .i64 xk, .int .i64 xf, .int .i64 xt, .int .i64 xg, .int .i64 xh, .int .i64 xi, .int .i64 xm, .int .i64 xv, .slice A n c, .slice B m d] 25) (.cells #[.int .i64 vk, .int .i64 vf, .int .i64 vt, .int .i64 vg, .int .i64 vh, .int .i64 vi, .int .i64 vm, .int .i64 vv, .slice A' n' c', .slice B' m' d'] 25) (.cells #[.int .i64 0, .int .i64 0, .int .i64 0, .int .i64 0, .int .i64 0, .int .i64 0, .int .i64 0, .int .i64 0, .slice none 0 0, .slice none 0 0] 25) (put11 W3 PB (.int .i64 zk) (.int .i64 zf) (.int .i64 zt) (.int .i64 zg) (.int .i64 zh) (.int .i64 zi) (.int .i64 zm) (.int .i64 zv) (.slice Av NM cv) (.slice none 0 0) (.bool true)) := ⟨put11_below HV.out.hb (by omega) (.int .i64 zk) (.int .i64 zf) (.int .i64 zt) (.int .i64 zg) (.int .i64 zh) (.int .i64 zi) (.int .i64 zm) (.int .i64 zv) (.slice Av NM cv) (.slice none 0 0) (.bool true), (put11_else (B := PB) (.int .i64 zk) (.int .i64 zf) (.int .i64 zt) (.int .i64 zg) (.int .i64 zh) (.int .i64 zi) (.int .i64 zm) (.int .i64 zv) (.slice Av NM cv) (.slice none 0 0) (.bool true) (by omega)).trans HV.out.hx, (put11_else (B := PB) (.int .i64 zk) (.int .i64 zf) (.int .i64 zt) (.int .i64 zg) (.int .i64 zh) (.int .i64 zi) (.int .i64 zm) (.int .i64 zv) (.slice Av NM cv) (.slice none 0 0) (.bool true) (by omega)).trans HV.out.hy, (put11_else (B := PB) (.int .i64 zk) (.int .i64 zf) (.int .i64 zt) (.int .i64 zg) (.int .i64 zh) (.int .i64 zi) (.int .i64 zm) (.int .i64 zv) (.slice Av NM cv) (.slice none 0 0) (.bool true) (by omega)).trans HV.out.hz⟩
    have hT8 : Tks (w.heap.size + 3) (put11 W3 PB (.int .i64 zk) (.int .i64 zf) (.int .i64 zt) (.int .i64 zg) (.int .i64 zh) (.int .i64 zi) (.int .i64 zm) (.int .i64 zv) (.slice Av NM cv) (.slice none 0 0) (.bool true)) (.slice Av NM cv) M := HTV.out.grown (grown_put11 (.int .i64 zk) (.int .i64 zf) (.int .i64 zt) (.int .i64 zg) (.int .i64 zh) (.int .i64 zi) (.int .i64 zm) (.int .i64 zv) (.slice Av NM cv) (.slice none 0 0) (.bool true)) (fun g e e2 => by cases e2; exact hvp _ e rfl)
    unfold put11 at hS8 hP8 hV8 hT8
    have HP8 := Lib.hid hP8
    have HV8 := Lib.hid hV8
    have HT8 := Lib.hid hT8
    clear hT8
    refine hK.out _ _ hS8 (fun hHeld => ?_)
    clear hK K hS8 hP8 hV8 HPP HV hb8 z0 z1 z2 z3 z4 z5 z6 z7 z8 z9 z10 f0 f1 f2 f3 f4 f5 f6 f7 f8 f9 f10 HTV
    generalize World.setCell _ _ _ = W8 at HP8 HV8 hHeld HT8 ⊢
    refine wpAnyH_ready (rs := [9]) (by kernel_rfl) (by simp) ?_
    refine AllReadyH.cons rfl (fun K hK => ?_) AllReadyH.nil
    go_simp
    refine hK.out _ _ hHeld (fun hHeld => ?_)
    clear hK K
    refine wpAnyH_done (by kernel_rfl) ?_ _
    have hcl := elev HP8.out
    have p0 := hcl.1
    have p1 := hcl.2.1
    have p2 := hcl.2.2.1
    have p3 := hcl.2.2.2.1
    have p4 := hcl.2.2.2.2.1
    have p5 := hcl.2.2.2.2.2.1
    have p6 := hcl.2.2.2.2.2.2.1
    have p7 := hcl.2.2.2.2.2.2.2.1
    have p8 := hcl.2.2.2.2.2.2.2.2.1
    have p9 := hcl.2.2.2.2.2.2.2.2.2.1
    have p10 := hcl.2.2.2.2.2.2.2.2.2.2
    clear hcl
    have hz := tenc (Lib.hid HV8.out.hz).out
    have z0 := hz.1.1
    have z1 := hz.1.2.1
    have z2 := hz.1.2.2.1
    have z3 := hz.1.2.2.2.1
    have z4 := hz.1.2.2.2.2
    have z5 := hz.2.1
    have z6 := hz.2.2.1
    have z7 := hz.2.2.2.1
    have z8 := hz.2.2.2.2.1
    have z9 := hz.2.2.2.2.2
    have hf := froz (Lib.hid HV8.out.hz).out
    have f0 := hf.1
    have f1 := hf.2.1
    have f2 := hf.2.2.1
    have f3 := hf.2.2.2.1
    have f4 := hf.2.2.2.2.1
    have f5 := hf.2.2.2.2.2.1
    have f6 := hf.2.2.2.2.2.2.1
    have f7 := hf.2.2.2.2.2.2.2.1
    have f8 := hf.2.2.2.2.2.2.2.2.1
    have f9 := hf.2.2.2.2.2.2.2.2.2
    clear hz hf
    go_wp2
    have hF := tenc (put10_at HV8.out.hz (.int .i64 zk) (.int .i64 zf) (.int .i64 zt) (.int .i64 zg) (.int .i64 zh) (.int .i64 zi) (.int .i64 zm) (.int .i64 zv) (.slice Av NM cv) (.slice none 0 0))
    have hB10 := put10_below HV8.out.hb (B := w.heap.size + 2) (by omega) (.int .i64 zk) (.int .i64 zf) (.int .i64 zt) (.int .i64 zg) (.int .i64 zh) (.int .i64 zi) (.int .i64 zm) (.int .i64 zv) (.slice Av NM cv) (.slice none 0 0)
    have hT10 : Tks (w.heap.size + 3) (put10 W8 (w.heap.size + 2) (.int .i64 zk) (.int .i64 zf) (.int .i64 zt) (.int .i64 zg) (.int .i64 zh) (.int .i64 zi) (.int .i64 zm) (.int .i64 zv) (.slice Av NM cv) (.slice none 0 0)) (.slice Av NM cv) M := HT8.out.grown (grown_put10 (.int .i64 zk) (.int .i64 zf) (.int .i64 zt) (.int .i64 zg) (.int .i64 zh) (.int .i64 zi) (.int .i64 zm) (.int .i64 zv) (.slice Av NM cv) (.slice none 0 0)) (fun g e e2 => by cases e2; have := (HT8.out.block _ e).1; omega)
    have hT10' := hT10.lower (show w.heap.size ≤ w.heap.size + 3 by omega)
    obtain ⟨⟨r0, r1, r2, r3, r4⟩, r5, r6, r7, r8, r9⟩ := hF
    unfold put10 at r0 r1 r2 r3 r4 r5 r6 r7 r8 r9 hB10 hT10'
    refine bodyPost_ret (v := .tuple #[.agg #[.int .i64 zk, .int .i64 zf, .int .i64 zt, .int .i64 zg, .int .i64 zh, .int .i64 zi, .int .i64 zm, .int .i64 zv, .slice Av NM cv, .slice none 0 0], .bool true]) ?_ rfl (HE.out _ _ hT10' hB10)
    simp [results, Try.results27, go_sem, r0, r1, r2, r3, r4, r5, r6, r7, r8, r9]
   ·have HV := Lib.hid (HT.out.tv (grown_below hbv) (fun g e => by cases e))
    have HE := Lib.hid (HFN.out hok)
    have hS1 := And.intro (hkeep hbv hHeld.1) (hkeep hbv hHeld.2)
    have HPP := Lib.hid (hkeep hbv HP.out)
    clear hbv hok HT HS HFY HFN CWT hHeld hrl HP HRP
    go_wp2_with fail
    refine hK.out _ _ hS1 (fun hHeld => ?_)
    clear hK K hS1
    refine tk 4 (v := ?_) rfl (by kernel_rfl) (fun _ _ _ h => h) ?_ hHeld ?_
    rotate_left
    ·(intro W hSw; clear hSw; go_simp; try with_reducible rfl)
    refine tk 5 (v := ?_) rfl (by kernel_rfl) (fun _ _ _ h => h) ?_ hHeld ?_
    rotate_left
    ·(intro W hSw; clear hSw; go_simp; try with_reducible rfl)
    refine tk 6 (v := ?_) rfl (by kernel_rfl) (fun _ _ _ h => h) ?_ hHeld ?_
    rotate_left
    ·(intro W hSw; clear hSw; go_simp; try with_reducible rfl)
    refine wpAnyH_ready (rs := [8]) (by kernel_rfl) (by simp) ?_
    refine AllReadyH.cons rfl (fun K hK => ?_) AllReadyH.nil
    have hfr := elevf HPP.out
    have f0 := hfr.1
    have f1 := hfr.2.1
    have f2 := hfr.2.2.1
    have f3 := hfr.2.2.2.1
    have f4 := hfr.2.2.2.2.1
    have f5 := hfr.2.2.2.2.2.1
    have f6 := hfr.2.2.2.2.2.2.1
    have f7 := hfr.2.2.2.2.2.2.2.1
    have f8 := hfr.2.2.2.2.2.2.2.2.1
    have f9 := hfr.2.2.2.2.2.2.2.2.2.1
    have f10 := hfr.2.2.2.2.2.2.2.2.2.2
    have hcl := elev HPP.out
    have z0 := hcl.1
    have z1 := hcl.2.1
    have z2 := hcl.2.2.1
    have z3 := hcl.2.2.2.1
    have z4 := hcl.2.2.2.2.1
    have z5 := hcl.2.2.2.2.2.1
    have z6 := hcl.2.2.2.2.2.2.1
    have z7 := hcl.2.2.2.2.2.2.2.1
    have z8 := hcl.2.2.2.2.2.2.2.2.1
    have z9 := hcl.2.2.2.2.2.2.2.2.2.1
    have z10 := hcl.2.2.2.2.2.2.2.2.2.2
    clear hfr hcl
    go_simp
    have hS8 := And.intro ((put11_else (B := PB) (k := w.heap.size) (.int .i64 0) (.int .i64 0) (.int .i64 0) (.int .i64 0) (.int .i64 0) (.int .i64 0) (.int .i64 0) (.int .i64 0) (.slice none 0 0) (.slice none 0 0) (.bool false) (by omega)).trans hHeld.1) ((put11_else (B := PB) (k := w.heap.size + 1) (.int .i64 0) (.int .i64 0) (.int .i64 0) (.int .i64 0) (.int .i64 0) (.int .i64 0) (.int .i64 0) (.int .i64 0) (.slice none 0 0) (.slice none 0 0) (.bool false) (by omega)).trans hHeld.2)
    have hP8 := put11_at HPP.out (.int .i64 0) (.int .i64 0) (.int .i64 0) (.int .i64 0) (.int .i64 0) (.int .i64 0) (.int .i64 0) (.int .i64 0) (.slice none 0 0) (.slice none 0 0) (.bool false)
    have hb8 : Below PB W3 (put11 W3 PB (.int .i64 0) (.int .i64 0) (.int .i64 0) (.int .i64 0) (.int .i64 0) (.int .i64 0) (.int .i64 0) (.int .i64 0) (.slice none 0 0) (.slice none 0 0) (.bool false)) := put11_below (Below.refl _ _) (Nat.le_refl _) (.int .i64 0) (.int .i64 0) (.int .i64 0) (.int .i64 0) (.int .i64 0) (.int .i64 0) (.int .i64 0) (.int .i64 0) (.slice none 0 0) (.slice none 0 0) (.bool false)
    have hV8 : TV w (.cells #[.int .i64 xk, .int .i64 xf, .int .i64 xt, .int .i64 xg, .int .i64 xh, .int .i64 xi, .int .i64 xm, .int .i64 xv, .slice A n c, .slice B m d] 25) (.cells #[.int .i64 vk, .int .i64 vf, .int .i64 vt, .int .i64 vg, .int .i64 vh, .int .i64 vi, .int .i64 vm, .int .i64 vv, .slice A' n' c', .slice B' m' d'] 25) (.cells #[.int .i64 0, .int .i64 0, .int .i64 0, .int .i64 0, .int .i64 0, .int .i64 0, .int .i64 0, .int .i64 0, .slice none 0 0, .slice none 0 0] 25) (put11 W3 PB (.int .i64 0) (.int .i64 0) (.int .i64 0) (.int .i64 0) (.int .i64 0) (.int .i64 0) (.int .i64 0) (.int .i64 0) (.slice none 0 0) (.slice none 0 0) (.bool false)) := ⟨put11_below HV.out.hb (by omega) (.int .i64 0) (.int .i64 0) (.int .i64 0) (.int .i64 0) (.int .i64 0) (.int .i64 0) (.int .i64 0) (.int .i64 0) (.slice none 0 0) (.slice none 0 0) (.bool false), (put11_else (B := PB) (.int .i64 0) (.int .i64 0) (.int .i64 0) (.int .i64 0) (.int .i64 0) (.int .i64 0) (.int .i64 0) (.int .i64 0) (.slice none 0 0) (.slice none 0 0) (.bool false) (by omega)).trans HV.out.hx, (put11_else (B := PB) (.int .i64 0) (.int .i64 0) (.int .i64 0) (.int .i64 0) (.int .i64 0) (.int .i64 0) (.int .i64 0) (.int .i64 0) (.slice none 0 0) (.slice none 0 0) (.bool false) (by omega)).trans HV.out.hy, (put11_else (B := PB) (.int .i64 0) (.int .i64 0) (.int .i64 0) (.int .i64 0) (.int .i64 0) (.int .i64 0) (.int .i64 0) (.int .i64 0) (.slice none 0 0) (.slice none 0 0) (.bool false) (by omega)).trans HV.out.hz⟩
    unfold put11 at hS8 hP8 hV8
    have HP8 := Lib.hid hP8
    have HV8 := Lib.hid hV8
    refine hK.out _ _ hS8 (fun hHeld => ?_)
    clear hK K hS8 hP8 hV8 HPP HV hb8 z0 z1 z2 z3 z4 z5 z6 z7 z8 z9 z10 f0 f1 f2 f3 f4 f5 f6 f7 f8 f9 f10
    generalize World.setCell _ _ _ = W8 at HP8 HV8 hHeld ⊢
    refine wpAnyH_ready (rs := [9]) (by kernel_rfl) (by simp) ?_
    refine AllReadyH.cons rfl (fun K hK => ?_) AllReadyH.nil
    go_simp
    refine hK.out _ _ hHeld (fun hHeld => ?_)
    clear hK K
    refine wpAnyH_done (by kernel_rfl) ?_ _
    have hcl := elev HP8.out
    have p0 := hcl.1
    have p1 := hcl.2.1
    have p2 := hcl.2.2.1
    have p3 := hcl.2.2.2.1
    have p4 := hcl.2.2.2.2.1
    have p5 := hcl.2.2.2.2.2.1
    have p6 := hcl.2.2.2.2.2.2.1
    have p7 := hcl.2.2.2.2.2.2.2.1
    have p8 := hcl.2.2.2.2.2.2.2.2.1
    have p9 := hcl.2.2.2.2.2.2.2.2.2.1
    have p10 := hcl.2.2.2.2.2.2.2.2.2.2
    clear hcl
    have hz := tenc (Lib.hid HV8.out.hz).out
    have z0 := hz.1.1
    have z1 := hz.1.2.1
    have z2 := hz.1.2.2.1
    have z3 := hz.1.2.2.2.1
    have z4 := hz.1.2.2.2.2
    have z5 := hz.2.1
    have z6 := hz.2.2.1
    have z7 := hz.2.2.2.1
    have z8 := hz.2.2.2.2.1
    have z9 := hz.2.2.2.2.2
    have hf := froz (Lib.hid HV8.out.hz).out
    have f0 := hf.1
    have f1 := hf.2.1
    have f2 := hf.2.2.1
    have f3 := hf.2.2.2.1
    have f4 := hf.2.2.2.2.1
    have f5 := hf.2.2.2.2.2.1
    have f6 := hf.2.2.2.2.2.2.1
    have f7 := hf.2.2.2.2.2.2.2.1
    have f8 := hf.2.2.2.2.2.2.2.2.1
    have f9 := hf.2.2.2.2.2.2.2.2.2
    clear hz hf
    go_wp2
    have hF := tenc (put10_at HV8.out.hz (.int .i64 0) (.int .i64 0) (.int .i64 0) (.int .i64 0) (.int .i64 0) (.int .i64 0) (.int .i64 0) (.int .i64 0) (.slice none 0 0) (.slice none 0 0))
    have hB10 := put10_below HV8.out.hb (B := w.heap.size + 2) (by omega) (.int .i64 0) (.int .i64 0) (.int .i64 0) (.int .i64 0) (.int .i64 0) (.int .i64 0) (.int .i64 0) (.int .i64 0) (.slice none 0 0) (.slice none 0 0)
    obtain ⟨⟨r0, r1, r2, r3, r4⟩, r5, r6, r7, r8, r9⟩ := hF
    unfold put10 at r0 r1 r2 r3 r4 r5 r6 r7 r8 r9 hB10
    refine bodyPost_ret (v := .tuple #[.agg #[.int .i64 0, .int .i64 0, .int .i64 0, .int .i64 0, .int .i64 0, .int .i64 0, .int .i64 0, .int .i64 0, .slice none 0 0, .slice none 0 0], .bool false]) ?_ rfl (HE.out _ hB10)
    simp [results, Try.results27, go_sem, r0, r1, r2, r3, r4, r5, r6, r7, r8, r9]
 ·have hba := (Below.refl W.heap.size W).alloc (Nat.le_refl _) (.cells #[.int .i64 0, .int .i64 0, .int .i64 0, .int .i64 0, .int .i64 0, .int .i64 0, .int .i64 0, .int .i64 0, .slice none 0 0, .slice none 0 0, .bool false] 103)
  have HP0 := Lib.hid (heap_alloc_new W (.cells #[.int .i64 0, .int .i64 0, .int .i64 0, .int .i64 0, .int .i64 0, .int .i64 0, .int .i64 0, .int .i64 0, .slice none 0 0, .slice none 0 0, .bool false] 103))
  have hlt : W.heap.size < (W.alloc (.cells #[.int .i64 0, .int .i64 0, .int .i64 0, .int .i64 0, .int .i64 0, .int .i64 0, .int .i64 0, .int .i64 0, .slice none 0 0, .slice none 0 0, .bool false] 103)).heap.size := by simp
  have hwz := lt_some HT.out.hz
  have HT1 := Lib.hid (HT.out.step hba)
  have hS1 := And.intro (hkeep hba hHeld.1) (hkeep hba hHeld.2)
  clear HT hHeld hba
  have HT := HT1
  clear HT1
  go_simp
  refine hK.out _ _ hS1 (fun hHeld => ?_)
  clear hK K hS1
  have hPB : w.heap.size + 3 ≤ W.heap.size := by omega
  generalize W.alloc (.cells #[.int .i64 0, .int .i64 0, .int .i64 0, .int .i64 0, .int .i64 0, .int .i64 0, .int .i64 0, .int .i64 0, .slice none 0 0, .slice none 0 0, .bool false] 103) = W1 at HT HP0 hHeld hlt ⊢
  generalize W.heap.size = PB at HP0 hPB hlt ⊢
  have HP := HP0
  clear HP0 hwz
  refine wpAnyH_ready (rs := [1]) (by kernel_rfl) (by simp) ?_
  refine AllReadyH.cons rfl (fun K hK => ?_) AllReadyH.nil
  go_simp
  refine (CBG _ HT.out.l HT.out.s).mono ?_
  rintro e W2 ⟨s, t, rfl, hs, ht, hb1⟩
  obtain ⟨As, cs, rfl⟩ := hs.form
  obtain ⟨Bt, ct, rfl⟩ := ht.form
  have hws := HT.out.hb.size
  have hwz := lt_some HT.out.hz
  have HS := Lib.hid (hs.lower (base' := w.heap.size + 3) (by omega))
  have HRP := Lib.hid (show ∀ g, (Value.slice As L.length cs).ownBlock = some g → g ≠ PB from fun g e => by have := (hs.block g e).1; omega)
  have HPP := Lib.hid (hkeep hb1 HP.out)
  have HT1 := Lib.hid (HT.out.step hb1)
  have hS1 := And.intro (hkeep hb1 hHeld.1) (hkeep hb1 hHeld.2)
  rw [hnl] at HS HRP
  rw [hsl]
  clear hs ht hb1 HT hHeld CBG HP
  have HT := HT1
  clear HT1
  go_wp2_with fail
  refine hK.out _ _ hS1 (fun hHeld => ?_)
  clear hK K hS1
  have HP := HPP
  clear HPP
  refine wpAnyH_ready (rs := [3]) (by kernel_rfl) (by simp) ?_
  refine AllReadyH.cons rfl (fun K hK => ?_) AllReadyH.nil
  go_simp
  refine (CWT As Bt cs ct _ (by have := lt_some HT.out.hz; omega) HS.out HT.out.l' HT.out.s' (fun h0 b off e e2 => by have := hlow h0 b off e; have := (HS.out.block _ e2).1; omega)).mono ?_
  rintro e W3 hor
  have hrl : ∀ g, (Value.slice As n cs).ownBlock = some g → w.heap.size + 3 ≤ g := fun g e => (HS.out.block g e).1
  have hws := HT.out.hb.size
  have hwz := lt_some HT.out.hz
  rcases hor with ⟨hok, v, rfl, htv, hgv, hov⟩ | ⟨hok, rfl, hbv⟩
  ·have hvl : ∀ g, v.ownBlock = some g → w.heap.size + 3 ≤ g := fun g e => by
    rcases hov g e with h | h
    ·exact hrl g h
    ·omega
   have HV := Lib.hid (HT.out.tv hgv hrl)
   have HE := Lib.hid (HFY.out hok)
   obtain ⟨Av, cv, rfl⟩ := htv.form
   generalize M.length = NM at *
   have HTV := Lib.hid htv
   have hS1 := And.intro (grown_at hgv hHeld.1 (fun e => by have := hrl _ e; omega)) (grown_at hgv hHeld.2 (fun e => by have := hrl _ e; omega))
   have HPP := Lib.hid (grown_at hgv HP.out (fun e => HRP.out _ e rfl))
   have hvp : ∀ g, (Value.slice Av NM cv).ownBlock = some g → g ≠ PB := fun g e => by
    rcases hov g e with h | h
    ·exact HRP.out g h
    ·have := lt_some HP.out; omega
   clear htv hgv hov hok HT HS HFY HFN CWT hHeld hrl HP HRP
   go_wp2_with fail
   refine hK.out _ _ hS1 (fun hHeld => ?_)
   clear hK K hS1
   refine tk 4 (v := ?_) rfl (by kernel_rfl) (fun _ _ _ h => h) ?_ hHeld ?_
   rotate_left
   ·(intro W hSw; clear hSw; go_simp; try with_reducible rfl)
   refine tk 5 (v := ?_) rfl (by kernel_rfl) (fun _ _ _ h => h) ?_ hHeld ?_
   rotate_left
   ·(intro W hSw; clear hSw; go_simp; try with_reducible rfl)
   refine tk 6 (v := ?_) rfl (by kernel_rfl) (fun _ _ _ h => h) ?_ hHeld ?_
   rotate_left
   ·(intro W hSw; clear hSw; go_simp; try with_reducible rfl)
   refine wpAnyH_ready (rs := [8]) (by kernel_rfl) (by simp) ?_
   refine AllReadyH.cons rfl (fun K hK => ?_) AllReadyH.nil
   have hfr := elevf HPP.out
   have f0 := hfr.1
   have f1 := hfr.2.1
   have f2 := hfr.2.2.1
   have f3 := hfr.2.2.2.1
   have f4 := hfr.2.2.2.2.1
   have f5 := hfr.2.2.2.2.2.1
   have f6 := hfr.2.2.2.2.2.2.1
   have f7 := hfr.2.2.2.2.2.2.2.1
   have f8 := hfr.2.2.2.2.2.2.2.2.1
   have f9 := hfr.2.2.2.2.2.2.2.2.2.1
   have f10 := hfr.2.2.2.2.2.2.2.2.2.2
   have hcl := elev HPP.out
   have z0 := hcl.1
   have z1 := hcl.2.1
   have z2 := hcl.2.2.1
   have z3 := hcl.2.2.2.1
   have z4 := hcl.2.2.2.2.1
   have z5 := hcl.2.2.2.2.2.1
   have z6 := hcl.2.2.2.2.2.2.1
   have z7 := hcl.2.2.2.2.2.2.2.1
   have z8 := hcl.2.2.2.2.2.2.2.2.1
   have z9 := hcl.2.2.2.2.2.2.2.2.2.1
   have z10 := hcl.2.2.2.2.2.2.2.2.2.2
   clear hfr hcl
   go_simp
   have hS8 := And.intro ((put11_else (B := PB) (k := w.heap.size) (.int .i64 zk) (.int .i64 zf) (.int .i64 zt) (.int .i64 zg) (.int .i64 zh) (.int .i64 zi) (.int .i64 zm) (.int .i64 zv) (.slice Av NM cv) (.slice none 0 0) (.bool true) (by omega)).trans hHeld.1) ((put11_else (B := PB) (k := w.heap.size + 1) (.int .i64 zk) (.int .i64 zf) (.int .i64 zt) (.int .i64 zg) (.int .i64 zh) (.int .i64 zi) (.int .i64 zm) (.int .i64 zv) (.slice Av NM cv) (.slice none 0 0) (.bool true) (by omega)).trans hHeld.2)
   have hP8 := put11_at HPP.out (.int .i64 zk) (.int .i64 zf) (.int .i64 zt) (.int .i64 zg) (.int .i64 zh) (.int .i64 zi) (.int .i64 zm) (.int .i64 zv) (.slice Av NM cv) (.slice none 0 0) (.bool true)
   have hb8 : Below PB W3 (put11 W3 PB (.int .i64 zk) (.int .i64 zf) (.int .i64 zt) (.int .i64 zg) (.int .i64 zh) (.int .i64 zi) (.int .i64 zm) (.int .i64 zv) (.slice Av NM cv) (.slice none 0 0) (.bool true)) := put11_below (Below.refl _ _) (Nat.le_refl _) (.int .i64 zk) (.int .i64 zf) (.int .i64 zt) (.int .i64 zg) (.int .i64 zh) (.int .i64 zi) (.int .i64 zm) (.int .i64 zv) (.slice Av NM cv) (.slice none 0 0) (.bool true)
   have hV8 : TV w (.cells #[.int .i64 xk, .int .i64 xf, .int .i64 xt, .int .i64 xg, .int .i64 xh, .int .i64 xi, .int .i64 xm, .int .i64 xv, .slice A n c, .slice B m d] 25) (.cells #[.int .i64 vk, .int .i64 vf, .int .i64 vt, .int .i64 vg, .int .i64 vh, .int .i64 vi, .int .i64 vm, .int .i64 vv, .slice A' n' c', .slice B' m' d'] 25) (.cells #[.int .i64 0, .int .i64 0, .int .i64 0, .int .i64 0, .int .i64 0, .int .i64 0, .int .i64 0, .int .i64 0, .slice none 0 0, .slice none 0 0] 25) (put11 W3 PB (.int .i64 zk) (.int .i64 zf) (.int .i64 zt) (.int .i64 zg) (.int .i64 zh) (.int .i64 zi) (.int .i64 zm) (.int .i64 zv) (.slice Av NM cv) (.slice none 0 0) (.bool true)) := ⟨put11_below HV.out.hb (by omega) (.int .i64 zk) (.int .i64 zf) (.int .i64 zt) (.int .i64 zg) (.int .i64 zh) (.int .i64 zi) (.int .i64 zm) (.int .i64 zv) (.slice Av NM cv) (.slice none 0 0) (.bool true), (put11_else (B := PB) (.int .i64 zk) (.int .i64 zf) (.int .i64 zt) (.int .i64 zg) (.int .i64 zh) (.int .i64 zi) (.int .i64 zm) (.int .i64 zv) (.slice Av NM cv) (.slice none 0 0) (.bool true) (by omega)).trans HV.out.hx, (put11_else (B := PB) (.int .i64 zk) (.int .i64 zf) (.int .i64 zt) (.int .i64 zg) (.int .i64 zh) (.int .i64 zi) (.int .i64 zm) (.int .i64 zv) (.slice Av NM cv) (.slice none 0 0) (.bool true) (by omega)).trans HV.out.hy, (put11_else (B := PB) (.int .i64 zk) (.int .i64 zf) (.int .i64 zt) (.int .i64 zg) (.int .i64 zh) (.int .i64 zi) (.int .i64 zm) (.int .i64 zv) (.slice Av NM cv) (.slice none 0 0) (.bool true) (by omega)).trans HV.out.hz⟩
   have hT8 : Tks (w.heap.size + 3) (put11 W3 PB (.int .i64 zk) (.int .i64 zf) (.int .i64 zt) (.int .i64 zg) (.int .i64 zh) (.int .i64 zi) (.int .i64 zm) (.int .i64 zv) (.slice Av NM cv) (.slice none 0 0) (.bool true)) (.slice Av NM cv) M := HTV.out.grown (grown_put11 (.int .i64 zk) (.int .i64 zf) (.int .i64 zt) (.int .i64 zg) (.int .i64 zh) (.int .i64 zi) (.int .i64 zm) (.int .i64 zv) (.slice Av NM cv) (.slice none 0 0) (.bool true)) (fun g e e2 => by cases e2; exact hvp _ e rfl)
   unfold put11 at hS8 hP8 hV8 hT8
   have HP8 := Lib.hid hP8
   have HV8 := Lib.hid hV8
   have HT8 := Lib.hid hT8
   clear hT8
   refine hK.out _ _ hS8 (fun hHeld => ?_)
   clear hK K hS8 hP8 hV8 HPP HV hb8 z0 z1 z2 z3 z4 z5 z6 z7 z8 z9 z10 f0 f1 f2 f3 f4 f5 f6 f7 f8 f9 f10 HTV
   generalize World.setCell _ _ _ = W8 at HP8 HV8 hHeld HT8 ⊢
   refine wpAnyH_ready (rs := [9]) (by kernel_rfl) (by simp) ?_
   refine AllReadyH.cons rfl (fun K hK => ?_) AllReadyH.nil
   go_simp
   refine hK.out _ _ hHeld (fun hHeld => ?_)
   clear hK K
   refine wpAnyH_done (by kernel_rfl) ?_ _
   have hcl := elev HP8.out
   have p0 := hcl.1
   have p1 := hcl.2.1
   have p2 := hcl.2.2.1
   have p3 := hcl.2.2.2.1
   have p4 := hcl.2.2.2.2.1
   have p5 := hcl.2.2.2.2.2.1
   have p6 := hcl.2.2.2.2.2.2.1
   have p7 := hcl.2.2.2.2.2.2.2.1
   have p8 := hcl.2.2.2.2.2.2.2.2.1
   have p9 := hcl.2.2.2.2.2.2.2.2.2.1
   have p10 := hcl.2.2.2.2.2.2.2.2.2.2
   clear hcl
   have hz := tenc (Lib.hid HV8.out.hz).out
   have z0 := hz.1.1
   have z1 := hz.1.2.1
   have z2 := hz.1.2.2.1
   have z3 := hz.1.2.2.2.1
   have z4 := hz.1.2.2.2.2
   have z5 := hz.2.1
   have z6 := hz.2.2.1
   have z7 := hz.2.2.2.1
   have z8 := hz.2.2.2.2.1
   have z9 := hz.2.2.2.2.2
   have hf := froz (Lib.hid HV8.out.hz).out
   have f0 := hf.1
   have f1 := hf.2.1
   have f2 := hf.2.2.1
   have f3 := hf.2.2.2.1
   have f4 := hf.2.2.2.2.1
   have f5 := hf.2.2.2.2.2.1
   have f6 := hf.2.2.2.2.2.2.1
   have f7 := hf.2.2.2.2.2.2.2.1
   have f8 := hf.2.2.2.2.2.2.2.2.1
   have f9 := hf.2.2.2.2.2.2.2.2.2
   clear hz hf
   go_wp2
   have hF := tenc (put10_at HV8.out.hz (.int .i64 zk) (.int .i64 zf) (.int .i64 zt) (.int .i64 zg) (.int .i64 zh) (.int .i64 zi) (.int .i64 zm) (.int .i64 zv) (.slice Av NM cv) (.slice none 0 0))
   have hB10 := put10_below HV8.out.hb (B := w.heap.size + 2) (by omega) (.int .i64 zk) (.int .i64 zf) (.int .i64 zt) (.int .i64 zg) (.int .i64 zh) (.int .i64 zi) (.int .i64 zm) (.int .i64 zv) (.slice Av NM cv) (.slice none 0 0)
   have hT10 : Tks (w.heap.size + 3) (put10 W8 (w.heap.size + 2) (.int .i64 zk) (.int .i64 zf) (.int .i64 zt) (.int .i64 zg) (.int .i64 zh) (.int .i64 zi) (.int .i64 zm) (.int .i64 zv) (.slice Av NM cv) (.slice none 0 0)) (.slice Av NM cv) M := HT8.out.grown (grown_put10 (.int .i64 zk) (.int .i64 zf) (.int .i64 zt) (.int .i64 zg) (.int .i64 zh) (.int .i64 zi) (.int .i64 zm) (.int .i64 zv) (.slice Av NM cv) (.slice none 0 0)) (fun g e e2 => by cases e2; have := (HT8.out.block _ e).1; omega)
   have hT10' := hT10.lower (show w.heap.size ≤ w.heap.size + 3 by omega)
   obtain ⟨⟨r0, r1, r2, r3, r4⟩, r5, r6, r7, r8, r9⟩ := hF
   unfold put10 at r0 r1 r2 r3 r4 r5 r6 r7 r8 r9 hB10 hT10'
   refine bodyPost_ret (v := .tuple #[.agg #[.int .i64 zk, .int .i64 zf, .int .i64 zt, .int .i64 zg, .int .i64 zh, .int .i64 zi, .int .i64 zm, .int .i64 zv, .slice Av NM cv, .slice none 0 0], .bool true]) ?_ rfl (HE.out _ _ hT10' hB10)
   simp [results, Try.results27, go_sem, r0, r1, r2, r3, r4, r5, r6, r7, r8, r9]
  ·have HV := Lib.hid (HT.out.tv (grown_below hbv) (fun g e => by cases e))
   have HE := Lib.hid (HFN.out hok)
   have hS1 := And.intro (hkeep hbv hHeld.1) (hkeep hbv hHeld.2)
   have HPP := Lib.hid (hkeep hbv HP.out)
   clear hbv hok HT HS HFY HFN CWT hHeld hrl HP HRP
   go_wp2_with fail
   refine hK.out _ _ hS1 (fun hHeld => ?_)
   clear hK K hS1
   refine tk 4 (v := ?_) rfl (by kernel_rfl) (fun _ _ _ h => h) ?_ hHeld ?_
   rotate_left
   ·(intro W hSw; clear hSw; go_simp; try with_reducible rfl)
   refine tk 5 (v := ?_) rfl (by kernel_rfl) (fun _ _ _ h => h) ?_ hHeld ?_
   rotate_left
   ·(intro W hSw; clear hSw; go_simp; try with_reducible rfl)
   refine tk 6 (v := ?_) rfl (by kernel_rfl) (fun _ _ _ h => h) ?_ hHeld ?_
   rotate_left
   ·(intro W hSw; clear hSw; go_simp; try with_reducible rfl)
   refine wpAnyH_ready (rs := [8]) (by kernel_rfl) (by simp) ?_
   refine AllReadyH.cons rfl (fun K hK => ?_) AllReadyH.nil
   have hfr := elevf HPP.out
   have f0 := hfr.1
   have f1 := hfr.2.1
   have f2 := hfr.2.2.1
   have f3 := hfr.2.2.2.1
   have f4 := hfr.2.2.2.2.1
   have f5 := hfr.2.2.2.2.2.1
   have f6 := hfr.2.2.2.2.2.2.1
   have f7 := hfr.2.2.2.2.2.2.2.1
   have f8 := hfr.2.2.2.2.2.2.2.2.1
   have f9 := hfr.2.2.2.2.2.2.2.2.2.1
   have f10 := hfr.2.2.2.2.2.2.2.2.2.2
   have hcl := elev HPP.out
   have z0 := hcl.1
   have z1 := hcl.2.1
   have z2 := hcl.2.2.1
   have z3 := hcl.2.2.2.1
   have z4 := hcl.2.2.2.2.1
   have z5 := hcl.2.2.2.2.2.1
   have z6 := hcl.2.2.2.2.2.2.1
   have z7 := hcl.2.2.2.2.2.2.2.1
   have z8 := hcl.2.2.2.2.2.2.2.2.1
   have z9 := hcl.2.2.2.2.2.2.2.2.2.1
   have z10 := hcl.2.2.2.2.2.2.2.2.2.2
   clear hfr hcl
   go_simp
   have hS8 := And.intro ((put11_else (B := PB) (k := w.heap.size) (.int .i64 0) (.int .i64 0) (.int .i64 0) (.int .i64 0) (.int .i64 0) (.int .i64 0) (.int .i64 0) (.int .i64 0) (.slice none 0 0) (.slice none 0 0) (.bool false) (by omega)).trans hHeld.1) ((put11_else (B := PB) (k := w.heap.size + 1) (.int .i64 0) (.int .i64 0) (.int .i64 0) (.int .i64 0) (.int .i64 0) (.int .i64 0) (.int .i64 0) (.int .i64 0) (.slice none 0 0) (.slice none 0 0) (.bool false) (by omega)).trans hHeld.2)
   have hP8 := put11_at HPP.out (.int .i64 0) (.int .i64 0) (.int .i64 0) (.int .i64 0) (.int .i64 0) (.int .i64 0) (.int .i64 0) (.int .i64 0) (.slice none 0 0) (.slice none 0 0) (.bool false)
   have hb8 : Below PB W3 (put11 W3 PB (.int .i64 0) (.int .i64 0) (.int .i64 0) (.int .i64 0) (.int .i64 0) (.int .i64 0) (.int .i64 0) (.int .i64 0) (.slice none 0 0) (.slice none 0 0) (.bool false)) := put11_below (Below.refl _ _) (Nat.le_refl _) (.int .i64 0) (.int .i64 0) (.int .i64 0) (.int .i64 0) (.int .i64 0) (.int .i64 0) (.int .i64 0) (.int .i64 0) (.slice none 0 0) (.slice none 0 0) (.bool false)
   have hV8 : TV w (.cells #[.int .i64 xk, .int .i64 xf, .int .i64 xt, .int .i64 xg, .int .i64 xh, .int .i64 xi, .int .i64 xm, .int .i64 xv, .slice A n c, .slice B m d] 25) (.cells #[.int .i64 vk, .int .i64 vf, .int .i64 vt, .int .i64 vg, .int .i64 vh, .int .i64 vi, .int .i64 vm, .int .i64 vv, .slice A' n' c', .slice B' m' d'] 25) (.cells #[.int .i64 0, .int .i64 0, .int .i64 0, .int .i64 0, .int .i64 0, .int .i64 0, .int .i64 0, .int .i64 0, .slice none 0 0, .slice none 0 0] 25) (put11 W3 PB (.int .i64 0) (.int .i64 0) (.int .i64 0) (.int .i64 0) (.int .i64 0) (.int .i64 0) (.int .i64 0) (.int .i64 0) (.slice none 0 0) (.slice none 0 0) (.bool false)) := ⟨put11_below HV.out.hb (by omega) (.int .i64 0) (.int .i64 0) (.int .i64 0) (.int .i64 0) (.int .i64 0) (.int .i64 0) (.int .i64 0) (.int .i64 0) (.slice none 0 0) (.slice none 0 0) (.bool false), (put11_else (B := PB) (.int .i64 0) (.int .i64 0) (.int .i64 0) (.int .i64 0) (.int .i64 0) (.int .i64 0) (.int .i64 0) (.int .i64 0) (.slice none 0 0) (.slice none 0 0) (.bool false) (by omega)).trans HV.out.hx, (put11_else (B := PB) (.int .i64 0) (.int .i64 0) (.int .i64 0) (.int .i64 0) (.int .i64 0) (.int .i64 0) (.int .i64 0) (.int .i64 0) (.slice none 0 0) (.slice none 0 0) (.bool false) (by omega)).trans HV.out.hy, (put11_else (B := PB) (.int .i64 0) (.int .i64 0) (.int .i64 0) (.int .i64 0) (.int .i64 0) (.int .i64 0) (.int .i64 0) (.int .i64 0) (.slice none 0 0) (.slice none 0 0) (.bool false) (by omega)).trans HV.out.hz⟩
   unfold put11 at hS8 hP8 hV8
   have HP8 := Lib.hid hP8
   have HV8 := Lib.hid hV8
   refine hK.out _ _ hS8 (fun hHeld => ?_)
   clear hK K hS8 hP8 hV8 HPP HV hb8 z0 z1 z2 z3 z4 z5 z6 z7 z8 z9 z10 f0 f1 f2 f3 f4 f5 f6 f7 f8 f9 f10
   generalize World.setCell _ _ _ = W8 at HP8 HV8 hHeld ⊢
   refine wpAnyH_ready (rs := [9]) (by kernel_rfl) (by simp) ?_
   refine AllReadyH.cons rfl (fun K hK => ?_) AllReadyH.nil
   go_simp
   refine hK.out _ _ hHeld (fun hHeld => ?_)
   clear hK K
   refine wpAnyH_done (by kernel_rfl) ?_ _
   have hcl := elev HP8.out
   have p0 := hcl.1
   have p1 := hcl.2.1
   have p2 := hcl.2.2.1
   have p3 := hcl.2.2.2.1
   have p4 := hcl.2.2.2.2.1
   have p5 := hcl.2.2.2.2.2.1
   have p6 := hcl.2.2.2.2.2.2.1
   have p7 := hcl.2.2.2.2.2.2.2.1
   have p8 := hcl.2.2.2.2.2.2.2.2.1
   have p9 := hcl.2.2.2.2.2.2.2.2.2.1
   have p10 := hcl.2.2.2.2.2.2.2.2.2.2
   clear hcl
   have hz := tenc (Lib.hid HV8.out.hz).out
   have z0 := hz.1.1
   have z1 := hz.1.2.1
   have z2 := hz.1.2.2.1
   have z3 := hz.1.2.2.2.1
   have z4 := hz.1.2.2.2.2
   have z5 := hz.2.1
   have z6 := hz.2.2.1
   have z7 := hz.2.2.2.1
   have z8 := hz.2.2.2.2.1
   have z9 := hz.2.2.2.2.2
   have hf := froz (Lib.hid HV8.out.hz).out
   have f0 := hf.1
   have f1 := hf.2.1
   have f2 := hf.2.2.1
   have f3 := hf.2.2.2.1
   have f4 := hf.2.2.2.2.1
   have f5 := hf.2.2.2.2.2.1
   have f6 := hf.2.2.2.2.2.2.1
   have f7 := hf.2.2.2.2.2.2.2.1
   have f8 := hf.2.2.2.2.2.2.2.2.1
   have f9 := hf.2.2.2.2.2.2.2.2.2
   clear hz hf
   go_wp2
   have hF := tenc (put10_at HV8.out.hz (.int .i64 0) (.int .i64 0) (.int .i64 0) (.int .i64 0) (.int .i64 0) (.int .i64 0) (.int .i64 0) (.int .i64 0) (.slice none 0 0) (.slice none 0 0))
   have hB10 := put10_below HV8.out.hb (B := w.heap.size + 2) (by omega) (.int .i64 0) (.int .i64 0) (.int .i64 0) (.int .i64 0) (.int .i64 0) (.int .i64 0) (.int .i64 0) (.int .i64 0) (.slice none 0 0) (.slice none 0 0)
   obtain ⟨⟨r0, r1, r2, r3, r4⟩, r5, r6, r7, r8, r9⟩ := hF
   unfold put10 at r0 r1 r2 r3 r4 r5 r6 r7 r8 r9 hB10
   refine bodyPost_ret (v := .tuple #[.agg #[.int .i64 0, .int .i64 0, .int .i64 0, .int .i64 0, .int .i64 0, .int .i64 0, .int .i64 0, .int .i64 0, .slice none 0 0, .slice none 0 0], .bool false]) ?_ rfl (HE.out _ hB10)
   simp [results, Try.results27, go_sem, r0, r1, r2, r3, r4, r5, r6, r7, r8, r9]
end Go.Proofs.Ytlbkfenlbkibgaa.St
