/- Welding: over; a piece, begun. -/
import Derived.Test.YtlbkfenlbkibgaaWeR
import Derived.Test.YtlbkfenlbkibgaaStK
set_option linter.unusedVariables false
set_option maxRecDepth 100000
set_option maxHeartbeats 4000000
namespace Go.Proofs.Ytlbkfenlbkibgaa.St
open Go.RowKit Mem Sm Tk Rt
set_option linter.unusedSimpArgs false
theorem wover_any (x y : Sp) (A A' B B' : Option Addr) (n n' m m' c c' d d' : Nat) (w : World) :
  Calls Try.prog 100 #[stV x (.slice A n c) (.slice B m d), stV y (.slice A' n' c') (.slice B' m' d')] w fun e w' => e = .returned (stV (overN x y) (.slice none 0 0) (.slice none 0 0)) ∧ Below w.heap.size w w' := by
 obtain ⟨xk, xf, xt, xg, xh, xi, xm, xv⟩ := x
 obtain ⟨vk, vf, vt, vg, vh, vi, vm, vv⟩ := y
 unfold stV stC overN
 simp only
 have hb0 := ((Below.refl _ w).alloc (Nat.le_refl _) (.cells #[.int .i64 xk, .int .i64 xf, .int .i64 xt, .int .i64 xg, .int .i64 xh, .int .i64 xi, .int .i64 xm, .int .i64 xv, .slice A n c, .slice B m d] 25)).alloc (by simp) (.cells #[.int .i64 vk, .int .i64 vf, .int .i64 vt, .int .i64 vg, .int .i64 vh, .int .i64 vi, .int .i64 vm, .int .i64 vv, .slice A' n' c', .slice B' m' d'] 25)
 have hsz : ((w.alloc (.cells #[.int .i64 xk, .int .i64 xf, .int .i64 xt, .int .i64 xg, .int .i64 xh, .int .i64 xi, .int .i64 xm, .int .i64 xv, .slice A n c, .slice B m d] 25)).alloc (.cells #[.int .i64 vk, .int .i64 vf, .int .i64 vt, .int .i64 vg, .int .i64 vh, .int .i64 vi, .int .i64 vm, .int .i64 vv, .slice A' n' c', .slice B' m' d'] 25)).heap.size = w.heap.size + 2 := by simp
 have HB := Lib.hid (hb0.alloc (by omega) (.cells #[.int .i64 xk, .int .i64 (min xf vf), .int .i64 (max xt vt), .int .i64 0, .int .i64 0, .int .i64 0, .int .i64 xm, .int .i64 xv, .slice none 0 0, .slice none 0 0] 25))
 have hx : (((w.alloc (.cells #[.int .i64 xk, .int .i64 xf, .int .i64 xt, .int .i64 xg, .int .i64 xh, .int .i64 xi, .int .i64 xm, .int .i64 xv, .slice A n c, .slice B m d] 25)).alloc (.cells #[.int .i64 vk, .int .i64 vf, .int .i64 vt, .int .i64 vg, .int .i64 vh, .int .i64 vi, .int .i64 vm, .int .i64 vv, .slice A' n' c', .slice B' m' d'] 25)).alloc (.cells #[.int .i64 0, .int .i64 0, .int .i64 0, .int .i64 0, .int .i64 0, .int .i64 0, .int .i64 0, .int .i64 0, .slice none 0 0, .slice none 0 0] 25)).heap[w.heap.size]? = some (.cells #[.int .i64 xk, .int .i64 xf, .int .i64 xt, .int .i64 xg, .int .i64 xh, .int .i64 xi, .int .i64 xm, .int .i64 xv, .slice A n c, .slice B m d] 25) := by rw [Below.heap_alloc _ _ _ (by omega), Below.heap_alloc _ _ _ (by simp), heap_alloc_new]
 have hy : (((w.alloc (.cells #[.int .i64 xk, .int .i64 xf, .int .i64 xt, .int .i64 xg, .int .i64 xh, .int .i64 xi, .int .i64 xm, .int .i64 xv, .slice A n c, .slice B m d] 25)).alloc (.cells #[.int .i64 vk, .int .i64 vf, .int .i64 vt, .int .i64 vg, .int .i64 vh, .int .i64 vi, .int .i64 vm, .int .i64 vv, .slice A' n' c', .slice B' m' d'] 25)).alloc (.cells #[.int .i64 0, .int .i64 0, .int .i64 0, .int .i64 0, .int .i64 0, .int .i64 0, .int .i64 0, .int .i64 0, .slice none 0 0, .slice none 0 0] 25)).heap[w.heap.size + 1]? = some (.cells #[.int .i64 vk, .int .i64 vf, .int .i64 vt, .int .i64 vg, .int .i64 vh, .int .i64 vi, .int .i64 vm, .int .i64 vv, .slice A' n' c', .slice B' m' d'] 25) := by
  have := heap_alloc_new (w.alloc (.cells #[.int .i64 xk, .int .i64 xf, .int .i64 xt, .int .i64 xg, .int .i64 xh, .int .i64 xi, .int .i64 xm, .int .i64 xv, .slice A n c, .slice B m d] 25)) (.cells #[.int .i64 vk, .int .i64 vf, .int .i64 vt, .int .i64 vg, .int .i64 vh, .int .i64 vi, .int .i64 vm, .int .i64 vv, .slice A' n' c', .slice B' m' d'] 25)
  rw [show (w.alloc (.cells #[.int .i64 xk, .int .i64 xf, .int .i64 xt, .int .i64 xg, .int .i64 xh, .int .i64 xi, .int .i64 xm, .int .i64 xv, .slice A n c, .slice B m d] 25)).heap.size = w.heap.size + 1 by simp] at this
  rw [Below.heap_alloc _ _ _ (by omega)]; exact this
 have HR := heap_alloc_new ((w.alloc (.cells #[.int .i64 xk, .int .i64 xf, .int .i64 xt, .int .i64 xg, .int .i64 xh, .int .i64 xi, .int .i64 xm, .int .i64 xv, .slice A n c, .slice B m d] 25)).alloc (.cells #[.int .i64 vk, .int .i64 vf, .int .i64 vt, .int .i64 vg, .int .i64 vh, .int .i64 vi, .int .i64 vm, .int .i64 vv, .slice A' n' c', .slice B' m' d'] 25)) (.cells #[.int .i64 xk, .int .i64 (min xf vf), .int .i64 (max xt vt), .int .i64 0, .int .i64 0, .int .i64 0, .int .i64 xm, .int .i64 xv, .slice none 0 0, .slice none 0 0] 25)
 rw [hsz] at HR
 obtain ⟨⟨y0, y1, y2, y3, y4⟩, y5, y6, y7, y8, y9⟩ := tenc hx
 obtain ⟨⟨o0, o1, o2, o3, o4⟩, o5, o6, o7, o8, o9⟩ := tenc hy
 have HQ := Lib.hid (tenc HR)
 clear hb0 hsz hx hy HR
 go_enter Try.func100, Try.ntmps100
 go_wp2
 obtain ⟨⟨r0, r1, r2, r3, r4⟩, r5, r6, r7, r8, r9⟩ := HQ.out
 refine bodyPost_ret (v := .agg #[.int .i64 xk, .int .i64 (min xf vf), .int .i64 (max xt vt), .int .i64 0, .int .i64 0, .int .i64 0, .int .i64 xm, .int .i64 xv, .slice none 0 0, .slice none 0 0]) ?_ rfl ⟨rfl, HB.out⟩
 simp [results, Try.results100, go_sem, r0, r1, r2, r3, r4, r5, r6, r7, r8, r9]
def pcC (x : Sp) (s t : Value) (b : Bool) : Array Value := #[.int .i64 x.kind, .int .i64 x.from_, .int .i64 x.to_, .int .i64 x.gf, .int .i64 x.gt, .int .i64 x.ins, .int .i64 x.mark, .int .i64 x.val, s, t, .bool b]
def pcV (x : Sp) (s t : Value) (b : Bool) : Value := .agg (pcC x s t b)
def put11 (W : World) (B : Nat) (y0 y1 y2 y3 y4 y5 y6 y7 y8 y9 y10 : Value) : World := (((((((((((W.setCell ⟨B, 0, none⟩ y0).setCell ⟨B, 1, none⟩ y1).setCell ⟨B, 2, none⟩ y2).setCell ⟨B, 3, none⟩ y3).setCell ⟨B, 4, none⟩ y4).setCell ⟨B, 5, none⟩ y5).setCell ⟨B, 6, none⟩ y6).setCell ⟨B, 7, none⟩ y7).setCell ⟨B, 8, none⟩ y8).setCell ⟨B, 9, none⟩ y9).setCell ⟨B, 10, none⟩ y10)
theorem put11_at {B : Nat} {W : World} {x0 x1 x2 x3 x4 x5 x6 x7 x8 x9 x10 : Value} {t : TypeId} (e : W.heap[B]? = some (.cells #[x0, x1, x2, x3, x4, x5, x6, x7, x8, x9, x10] t (0, 0))) (y0 y1 y2 y3 y4 y5 y6 y7 y8 y9 y10 : Value) : (put11 W B y0 y1 y2 y3 y4 y5 y6 y7 y8 y9 y10).heap[B]? = some (.cells #[y0, y1, y2, y3, y4, y5, y6, y7, y8, y9, y10] t (0, 0)) := by
 unfold put11
 simp [World.setCell, Array.getElem?_modify, e]
theorem put11_below {k B : Nat} {w W : World} (hb : Below k w W) (hB : k ≤ B) (y0 y1 y2 y3 y4 y5 y6 y7 y8 y9 y10 : Value) : Below k w (put11 W B y0 y1 y2 y3 y4 y5 y6 y7 y8 y9 y10) := by
 unfold put11
 exact (((((((((((hb.setCell (p := ⟨B, 0, none⟩) hB _).setCell (p := ⟨B, 1, none⟩) hB _).setCell (p := ⟨B, 2, none⟩) hB _).setCell (p := ⟨B, 3, none⟩) hB _).setCell (p := ⟨B, 4, none⟩) hB _).setCell (p := ⟨B, 5, none⟩) hB _).setCell (p := ⟨B, 6, none⟩) hB _).setCell (p := ⟨B, 7, none⟩) hB _).setCell (p := ⟨B, 8, none⟩) hB _).setCell (p := ⟨B, 9, none⟩) hB _).setCell (p := ⟨B, 10, none⟩) hB _)
theorem put11_else {W : World} {B k : Nat} (y0 y1 y2 y3 y4 y5 y6 y7 y8 y9 y10 : Value) (h : k ≠ B) : (put11 W B y0 y1 y2 y3 y4 y5 y6 y7 y8 y9 y10).heap[k]? = W.heap[k]? := by
 unfold put11
 have hne : ∀ (W : World) (j : Nat) (v : Value), (W.setCell ⟨B, j, none⟩ v).heap[k]? = W.heap[k]? := fun W j v => Below.heap_setCell W ⟨B, j, none⟩ v k h
 simp only [hne]
theorem tks_put11 {base B : Nat} {W : World} {v : Value} {l : List Tk.Tk} (h : Tks base W v l) (hB : B < base) (y0 y1 y2 y3 y4 y5 y6 y7 y8 y9 y10 : Value) : Tks base (put11 W B y0 y1 y2 y3 y4 y5 y6 y7 y8 y9 y10) v l := by
 unfold put11
 exact (((((((((((h.set hB 0 _).set hB 1 _).set hB 2 _).set hB 3 _).set hB 4 _).set hB 5 _).set hB 6 _).set hB 7 _).set hB 8 _).set hB 9 _).set hB 10 _)
theorem mks_put11 {base B : Nat} {W : World} {v : Value} {l : List Mk} (h : Mks base W v l) (hB : B < base) (y0 y1 y2 y3 y4 y5 y6 y7 y8 y9 y10 : Value) : Mks base (put11 W B y0 y1 y2 y3 y4 y5 y6 y7 y8 y9 y10) v l := by
 unfold put11
 exact (((((((((((h.set hB 0 _).set hB 1 _).set hB 2 _).set hB 3 _).set hB 4 _).set hB 5 _).set hB 6 _).set hB 7 _).set hB 8 _).set hB 9 _).set hB 10 _)
theorem elev {h : Nat} {W : World} {x0 x1 x2 x3 x4 x5 x6 x7 x8 x9 x10 : Value} {t : TypeId} (e : W.heap[h]? = some (.cells #[x0, x1, x2, x3, x4, x5, x6, x7, x8, x9, x10] t (0, 0))) : W.cell? ⟨h, 0, none⟩ = some x0 ∧ W.cell? ⟨h, 1, none⟩ = some x1 ∧ W.cell? ⟨h, 2, none⟩ = some x2 ∧ W.cell? ⟨h, 3, none⟩ = some x3 ∧ W.cell? ⟨h, 4, none⟩ = some x4 ∧ W.cell? ⟨h, 5, none⟩ = some x5 ∧ W.cell? ⟨h, 6, none⟩ = some x6 ∧ W.cell? ⟨h, 7, none⟩ = some x7 ∧ W.cell? ⟨h, 8, none⟩ = some x8 ∧ W.cell? ⟨h, 9, none⟩ = some x9 ∧ W.cell? ⟨h, 10, none⟩ = some x10 := by
 refine ⟨?_, ?_, ?_, ?_, ?_, ?_, ?_, ?_, ?_, ?_, ?_⟩
 all_goals simp [World.cell?, e]
theorem elevf {h : Nat} {W : World} {x0 x1 x2 x3 x4 x5 x6 x7 x8 x9 x10 : Value} {t : TypeId} (e : W.heap[h]? = some (.cells #[x0, x1, x2, x3, x4, x5, x6, x7, x8, x9, x10] t (0, 0))) : W.frozen? ⟨h, 0, none⟩ = false ∧ W.frozen? ⟨h, 1, none⟩ = false ∧ W.frozen? ⟨h, 2, none⟩ = false ∧ W.frozen? ⟨h, 3, none⟩ = false ∧ W.frozen? ⟨h, 4, none⟩ = false ∧ W.frozen? ⟨h, 5, none⟩ = false ∧ W.frozen? ⟨h, 6, none⟩ = false ∧ W.frozen? ⟨h, 7, none⟩ = false ∧ W.frozen? ⟨h, 8, none⟩ = false ∧ W.frozen? ⟨h, 9, none⟩ = false ∧ W.frozen? ⟨h, 10, none⟩ = false := by
 refine ⟨?_, ?_, ?_, ?_, ?_, ?_, ?_, ?_, ?_, ?_, ?_⟩
 all_goals first | (simp [World.frozen?, e]; done) | (simp [World.frozen?, e]; omega)
def BegunIs (x : Sp) (L : List Tk.Tk) (S : List Mk) (b : Bool) (w : World) (e : Ending) (w' : World) : Prop := ∃ s t, e = .returned (pcV x s t b) ∧ Tks w.heap.size w' s L ∧ Mks w.heap.size w' t S ∧ Below w.heap.size w w'
theorem begun_any (x : Sp) (L : List Tk.Tk) (S : List Mk) (A B : Option Addr) (n m c d : Nat) (w : World) (hn : n ≤ 1000000) (hm : m ≤ 1000000) (h1 : TRow w A n L) (h3 : MkRow w B m S) :
  Calls Try.prog 53 #[stV x (.slice A n c) (.slice B m d)] w (BegunIs x L S (shapeB x n m) w) := by
 have CC := fun W q1 q2 => clone_step x L S A B n m c d W hn hm q1 q2
 have CS := fun W q1 q2 => shape_any x L S A B n m c d W (by omega) (by omega) q1 q2
 obtain ⟨F, hF⟩ : ∃ b, b = shapeB x n m := ⟨_, rfl⟩
 rw [← hF]
 simp only [← hF] at CS
 clear hF
 obtain ⟨xk, xf, xt, xg, xh, xi, xm, xv⟩ := x
 unfold StIs at CC
 unfold stV stC at CC CS
 unfold BegunIs pcV pcC stV stC
 simp only at CC CS ⊢
 have hb0 := ((Below.refl _ w).alloc (Nat.le_refl _) (.cells #[.int .i64 xk, .int .i64 xf, .int .i64 xt, .int .i64 xg, .int .i64 xh, .int .i64 xi, .int .i64 xm, .int .i64 xv, .slice A n c, .slice B m d] 25)).alloc (by simp) (.cells #[.int .i64 0, .int .i64 0, .int .i64 0, .int .i64 0, .int .i64 0, .int .i64 0, .int .i64 0, .int .i64 0, .slice none 0 0, .slice none 0 0, .bool false] 103)
 have hx : ((w.alloc (.cells #[.int .i64 xk, .int .i64 xf, .int .i64 xt, .int .i64 xg, .int .i64 xh, .int .i64 xi, .int .i64 xm, .int .i64 xv, .slice A n c, .slice B m d] 25)).alloc (.cells #[.int .i64 0, .int .i64 0, .int .i64 0, .int .i64 0, .int .i64 0, .int .i64 0, .int .i64 0, .int .i64 0, .slice none 0 0, .slice none 0 0, .bool false] 103)).heap[w.heap.size]? = some (.cells #[.int .i64 xk, .int .i64 xf, .int .i64 xt, .int .i64 xg, .int .i64 xh, .int .i64 xi, .int .i64 xm, .int .i64 xv, .slice A n c, .slice B m d] 25) := by rw [Below.heap_alloc _ _ _ (by simp), heap_alloc_new]
 have hz := heap_alloc_new (w.alloc (.cells #[.int .i64 xk, .int .i64 xf, .int .i64 xt, .int .i64 xg, .int .i64 xh, .int .i64 xi, .int .i64 xm, .int .i64 xv, .slice A n c, .slice B m d] 25)) (.cells #[.int .i64 0, .int .i64 0, .int .i64 0, .int .i64 0, .int .i64 0, .int .i64 0, .int .i64 0, .int .i64 0, .slice none 0 0, .slice none 0 0, .bool false] 103)
 rw [show (w.alloc (.cells #[.int .i64 xk, .int .i64 xf, .int .i64 xt, .int .i64 xg, .int .i64 xh, .int .i64 xi, .int .i64 xm, .int .i64 xv, .slice A n c, .slice B m d] 25)).heap.size = w.heap.size + 1 by simp] at hz
 have HL := Lib.hid (h1.below hb0)
 have HS := Lib.hid (h3.below hb0)
 have HB := Lib.hid hb0
 have HX := Lib.hid hx
 have HZ := Lib.hid hz
 clear hb0 hx hz h1 h3
 go_enter Try.func53, Try.ntmps53
 go_upto_region 1 with fail
 generalize (w.alloc (.cells #[.int .i64 xk, .int .i64 xf, .int .i64 xt, .int .i64 xg, .int .i64 xh, .int .i64 xi, .int .i64 xm, .int .i64 xv, .slice A n c, .slice B m d] 25)).alloc (.cells #[.int .i64 0, .int .i64 0, .int .i64 0, .int .i64 0, .int .i64 0, .int .i64 0, .int .i64 0, .int .i64 0, .slice none 0 0, .slice none 0 0, .bool false] 103) = W at HB HX HZ HL HS ⊢
 refine wp_region_held_drew (S := fun W => W.heap[w.heap.size]? = some (.cells #[.int .i64 xk, .int .i64 xf, .int .i64 xt, .int .i64 xg, .int .i64 xh, .int .i64 xi, .int .i64 xm, .int .i64 xv, .slice A n c, .slice B m d] 25)) (by kernel_rfl) HX.out (fun hHeld => ?_)
 have HB : Hid (Below w.heap.size w W.drew) := Lib.hid (below_drewN HB.out 1)
 have HZ : Hid (W.drew.heap[w.heap.size + 1]? = some (.cells #[.int .i64 0, .int .i64 0, .int .i64 0, .int .i64 0, .int .i64 0, .int .i64 0, .int .i64 0, .int .i64 0, .slice none 0 0, .slice none 0 0, .bool false] 103)) := HZ
 have HL : Hid (TRow W.drew A n L) := HL
 have HS : Hid (MkRow W.drew B m S) := HS
 generalize W.drew = W at HB HZ HL HS hHeld ⊢
 clear HX
 refine tk 0 (v := ?_) rfl (by kernel_rfl) (fun _ _ _ h => h) ?_ hHeld ?_
 rotate_left
 ·(intro W hSw; (try dsimp only at hSw); obtain ⟨⟨y0, y1, y2, y3, y4⟩, y5, y6, y7, y8, y9⟩ := tenc hSw; go_simp; try with_reducible rfl)
 refine tk 2 (v := ?_) rfl (by kernel_rfl) (fun _ _ _ h => h) ?_ hHeld ?_
 rotate_left
 ·(intro W hSw; (try dsimp only at hSw); obtain ⟨⟨y0, y1, y2, y3, y4⟩, y5, y6, y7, y8, y9⟩ := tenc hSw; go_simp; try with_reducible rfl)
 refine wpAnyH_ready (rs := [1]) (by kernel_rfl) (by simp) ?_
 refine AllReadyH.cons rfl (fun K hK => ?_) AllReadyH.nil
 go_simp
 refine (CC _ HL.out HS.out).mono ?_
 rintro e w1 ⟨s, t, rfl, hs, ht, hb1⟩
 obtain ⟨As, cs, rfl⟩ := hs.form
 obtain ⟨At, ct, rfl⟩ := ht.form
 have hbs := HB.out.size
 have hsz := lt_some HZ.out
 have HT := Lib.hid (hs.lower (base' := w.heap.size + 2) (by omega))
 have HM := Lib.hid (ht.lower (base' := w.heap.size + 2) (by omega))
 have HB1 := Lib.hid (HB.out.trans (hb1.mono hbs))
 have HZ1 := Lib.hid (hkeep hb1 HZ.out)
 have HL1 := Lib.hid (HL.out.below hb1)
 have HS1 := Lib.hid (HS.out.below hb1)
 have hS1 := hkeep hb1 hHeld
 clear hs ht hb1 HB HZ HL HS hHeld CC
 go_wp2_with fail
 refine hK.out _ _ hS1 (fun hHeld => ?_)
 clear hK K hS1
 refine wpAnyH_ready (rs := [3]) (by kernel_rfl) (by simp) ?_
 refine AllReadyH.cons rfl (fun K hK => ?_) AllReadyH.nil
 go_simp
 refine (CS _ HL1.out HS1.out).mono ?_
 rintro e w2 ⟨rfl, hb2⟩
 have HT2 := Lib.hid (HT.out.belowAll hb2)
 have HM2 := Lib.hid (HM.out.belowAll hb2)
 have HB2 := Lib.hid (HB1.out.trans (hb2.mono HB1.out.size))
 have HZ2 := Lib.hid (hkeep hb2 HZ1.out)
 have hS2 := hkeep hb2 hHeld
 clear hb2 HB1 HZ1 HL1 HS1 hHeld CS HT HM
 go_wp2_with fail
 refine hK.out _ _ hS2 (fun hHeld => ?_)
 clear hK K hS2
 refine tk 4 (v := ?_) rfl (by kernel_rfl) (fun _ _ _ h => h) ?_ hHeld ?_
 rotate_left
 ·(intro W hSw; (try dsimp only at hSw); obtain ⟨⟨y0, y1, y2, y3, y4⟩, y5, y6, y7, y8, y9⟩ := tenc hSw; go_simp; try with_reducible rfl)
 refine wpAnyH_ready (rs := [5]) (by kernel_rfl) (by simp) ?_
 refine AllReadyH.cons rfl (fun K hK => ?_) AllReadyH.nil
 have hz := elev HZ2.out
 have z0 := hz.1
 have z1 := hz.2.1
 have z2 := hz.2.2.1
 have z3 := hz.2.2.2.1
 have z4 := hz.2.2.2.2.1
 have z5 := hz.2.2.2.2.2.1
 have z6 := hz.2.2.2.2.2.2.1
 have z7 := hz.2.2.2.2.2.2.2.1
 have z8 := hz.2.2.2.2.2.2.2.2.1
 have z9 := hz.2.2.2.2.2.2.2.2.2.1
 have z10 := hz.2.2.2.2.2.2.2.2.2.2
 have hf := elevf HZ2.out
 have f0 := hf.1
 have f1 := hf.2.1
 have f2 := hf.2.2.1
 have f3 := hf.2.2.2.1
 have f4 := hf.2.2.2.2.1
 have f5 := hf.2.2.2.2.2.1
 have f6 := hf.2.2.2.2.2.2.1
 have f7 := hf.2.2.2.2.2.2.2.1
 have f8 := hf.2.2.2.2.2.2.2.2.1
 have f9 := hf.2.2.2.2.2.2.2.2.2.1
 have f10 := hf.2.2.2.2.2.2.2.2.2.2
 clear hz hf
 go_simp
 have hS3 := (put11_else (B := w.heap.size + 1) (k := w.heap.size) (.int .i64 xk) (.int .i64 xf) (.int .i64 xt) (.int .i64 xg) (.int .i64 xh) (.int .i64 xi) (.int .i64 xm) (.int .i64 xv) (.slice As L.length cs) (.slice At S.length ct) (.bool F) (by omega)).trans hHeld
 have hZ3 := put11_at HZ2.out (.int .i64 xk) (.int .i64 xf) (.int .i64 xt) (.int .i64 xg) (.int .i64 xh) (.int .i64 xi) (.int .i64 xm) (.int .i64 xv) (.slice As L.length cs) (.slice At S.length ct) (.bool F)
 have hB3 := put11_below HB2.out (B := w.heap.size + 1) (by omega) (.int .i64 xk) (.int .i64 xf) (.int .i64 xt) (.int .i64 xg) (.int .i64 xh) (.int .i64 xi) (.int .i64 xm) (.int .i64 xv) (.slice As L.length cs) (.slice At S.length ct) (.bool F)
 have hT3 := tks_put11 HT2.out (B := w.heap.size + 1) (by omega) (.int .i64 xk) (.int .i64 xf) (.int .i64 xt) (.int .i64 xg) (.int .i64 xh) (.int .i64 xi) (.int .i64 xm) (.int .i64 xv) (.slice As L.length cs) (.slice At S.length ct) (.bool F)
 have hM3 := mks_put11 HM2.out (B := w.heap.size + 1) (by omega) (.int .i64 xk) (.int .i64 xf) (.int .i64 xt) (.int .i64 xg) (.int .i64 xh) (.int .i64 xi) (.int .i64 xm) (.int .i64 xv) (.slice As L.length cs) (.slice At S.length ct) (.bool F)
 unfold put11 at hS3 hZ3 hB3 hT3 hM3
 have HB3 := Lib.hid hB3
 have HZ3 := Lib.hid hZ3
 have HT3 := Lib.hid hT3
 have HM3 := Lib.hid hM3
 refine hK.out _ _ hS3 (fun hHeld => ?_)
 clear hK K hS3 hZ3 hB3 hT3 hM3 HZ2 HB2 HT2 HM2 z0 z1 z2 z3 z4 z5 z6 z7 z8 z9 z10 f0 f1 f2 f3 f4 f5 f6 f7 f8 f9 f10
 generalize World.setCell _ _ _ = W3 at HB3 HZ3 HT3 HM3 hHeld ⊢
 refine wpAnyH_done (by kernel_rfl) ?_ _
 obtain ⟨z0, z1, z2, z3, z4, z5, z6, z7, z8, z9, z10⟩ := elev HZ3.out
 go_wp2
 refine bodyPost_ret (v := .agg #[.int .i64 xk, .int .i64 xf, .int .i64 xt, .int .i64 xg, .int .i64 xh, .int .i64 xi, .int .i64 xm, .int .i64 xv, .slice As L.length cs, .slice At S.length ct, .bool F]) ?_ rfl ⟨_, _, rfl, HT3.out.lower (by omega), HM3.out.lower (by omega), HB3.out⟩
 simp [results, Try.results53, go_sem, z0, z1, z2, z3, z4, z5, z6, z7, z8, z9, z10]
end Go.Proofs.Ytlbkfenlbkibgaa.St
