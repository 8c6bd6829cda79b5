/- Steps: ten cells written; a copy of a step. -/
import Derived.Test.YtgodphfkhmahnaaStR
import Derived.Test.YtgodphfkhmahnaaMkOwn
import Derived.Test.YtgodphfkhmahnaaStJ
namespace Go.Proofs.Ytgodphfkhmahnaa.St
open Go.RowKit Mem Sm Tk
set_option linter.unusedVariables false
set_option linter.unusedSimpArgs false
def put10 (W : World) (B : Nat) (y0 y1 y2 y3 y4 y5 y6 y7 y8 y9 : Value) : World := ((((((((((W.setCell ⟨B, 0, none⟩ y0).setCell ⟨B, 1, none⟩ y1).setCell ⟨B, 2, none⟩ y2).setCell ⟨B, 3, none⟩ y3).setCell ⟨B, 4, none⟩ y4).setCell ⟨B, 5, none⟩ y5).setCell ⟨B, 6, none⟩ y6).setCell ⟨B, 7, none⟩ y7).setCell ⟨B, 8, none⟩ y8).setCell ⟨B, 9, none⟩ y9)
theorem put10_at {B : Nat} {W : World} {x0 x1 x2 x3 x4 x5 x6 x7 x8 x9 : Value} {t : TypeId} (e : W.heap[B]? = some (.cells #[x0, x1, x2, x3, x4, x5, x6, x7, x8, x9] t (0, 0))) (y0 y1 y2 y3 y4 y5 y6 y7 y8 y9 : Value) : (put10 W B y0 y1 y2 y3 y4 y5 y6 y7 y8 y9).heap[B]? = some (.cells #[y0, y1, y2, y3, y4, y5, y6, y7, y8, y9] t (0, 0)) := by
  unfold put10
  simp [World.setCell, Array.getElem?_modify, e]
theorem put10_below {k B : Nat} {w W : World} (hb : Below k w W) (hB : k ≤ B) (y0 y1 y2 y3 y4 y5 y6 y7 y8 y9 : Value) : Below k w (put10 W B y0 y1 y2 y3 y4 y5 y6 y7 y8 y9) := by
  unfold put10
  exact ((((((((((hb.setCell (p := ⟨B, 0, none⟩) hB _).setCell (p := ⟨B, 1, none⟩) hB _).setCell (p := ⟨B, 2, none⟩) hB _).setCell (p := ⟨B, 3, none⟩) hB _).setCell (p := ⟨B, 4, none⟩) hB _).setCell (p := ⟨B, 5, none⟩) hB _).setCell (p := ⟨B, 6, none⟩) hB _).setCell (p := ⟨B, 7, none⟩) hB _).setCell (p := ⟨B, 8, none⟩) hB _).setCell (p := ⟨B, 9, none⟩) hB _)
theorem put10_else {W : World} {B k : Nat} (y0 y1 y2 y3 y4 y5 y6 y7 y8 y9 : Value) (h : k ≠ B) : (put10 W B y0 y1 y2 y3 y4 y5 y6 y7 y8 y9).heap[k]? = W.heap[k]? := by
  unfold put10
  have hne : ∀ (W : World) (j : Nat) (v : Value), (W.setCell ⟨B, j, none⟩ v).heap[k]? = W.heap[k]? := fun W j v => Below.heap_setCell W ⟨B, j, none⟩ v k h
  simp only [hne]
theorem froz {h : Nat} {W : World} {x0 x1 x2 x3 x4 x5 x6 x7 x8 x9 : Value} {t : TypeId} (e : W.heap[h]? = some (.cells #[x0, x1, x2, x3, x4, x5, x6, x7, x8, x9] t (0, 0))) : W.frozen? ⟨h, 0, none⟩ = false ∧ W.frozen? ⟨h, 1, none⟩ = false ∧ W.frozen? ⟨h, 2, none⟩ = false ∧ W.frozen? ⟨h, 3, none⟩ = false ∧ W.frozen? ⟨h, 4, none⟩ = false ∧ W.frozen? ⟨h, 5, none⟩ = false ∧ W.frozen? ⟨h, 6, none⟩ = false ∧ W.frozen? ⟨h, 7, none⟩ = false ∧ W.frozen? ⟨h, 8, none⟩ = false ∧ W.frozen? ⟨h, 9, none⟩ = false := by
  refine ⟨?_, ?_, ?_, ?_, ?_, ?_, ?_, ?_, ?_, ?_⟩
  all_goals first | (simp [World.frozen?, e]; done) | (simp [World.frozen?, e]; omega)
theorem set_at {W : World} {h j : Nat} {xs : Array Value} {t : TypeId} {fr : Nat × Nat} (e : W.heap[h]? = some (.cells xs t fr)) (v : Value) : (W.setCell ⟨h, j, none⟩ v).heap[h]? = some (.cells (xs.setIfInBounds j v) t fr) := by
  simp [World.setCell, Array.getElem?_modify, e]
theorem set_else {W : World} {h k j : Nat} (hk : k ≠ h) (v : Value) : (W.setCell ⟨h, j, none⟩ v).heap[k]? = W.heap[k]? := Below.heap_setCell W ⟨h, j, none⟩ v k hk
theorem tks_put10 {base B : Nat} {W : World} {v : Value} {l : List Tk.Tk} (h : Tks base W v l) (hB : B < base) (y0 y1 y2 y3 y4 y5 y6 y7 y8 y9 : Value) : Tks base (put10 W B y0 y1 y2 y3 y4 y5 y6 y7 y8 y9) v l := by
  unfold put10
  exact ((((((((((h.set hB 0 _).set hB 1 _).set hB 2 _).set hB 3 _).set hB 4 _).set hB 5 _).set hB 6 _).set hB 7 _).set hB 8 _).set hB 9 _)
theorem mks_put10 {base B : Nat} {W : World} {v : Value} {l : List Mk} (h : Mks base W v l) (hB : B < base) (y0 y1 y2 y3 y4 y5 y6 y7 y8 y9 : Value) : Mks base (put10 W B y0 y1 y2 y3 y4 y5 y6 y7 y8 y9) v l := by
  unfold put10
  exact ((((((((((h.set hB 0 _).set hB 1 _).set hB 2 _).set hB 3 _).set hB 4 _).set hB 5 _).set hB 6 _).set hB 7 _).set hB 8 _).set hB 9 _)
def StIs (x : Sp) (L : List Tk.Tk) (S : List Mk) (w : World) (e : Ending) (w' : World) : Prop := ∃ s t, e = .returned (stV x s t) ∧ Tks w.heap.size w' s L ∧ Mks w.heap.size w' t S ∧ Below w.heap.size w w'
set_option maxRecDepth 100000 in
set_option maxHeartbeats 4000000 in
theorem clone_step (x : Sp) (L : List Tk.Tk) (S : List Mk) (A B : Option Addr) (n m c d : Nat) (w : World) (hn : n ≤ 1000000) (hm : m ≤ 1000000) (h1 : TRow w A n L) (h3 : MkRow w B m S) :
    Calls Try.prog 47 #[stV x (.slice A n c) (.slice B m d)] w (StIs x L S w) := by
  have CT := fun W q => clone_tok L A n c W hn q
  have CM := fun W q => clone_mk S B m d W hm q
  obtain ⟨xk, xf, xt, xg, xh, xi, xm, xv⟩ := x
  unfold StIs stV stC
  simp only
  have s1 : ∀ (W : World) (o : Obj), (W.alloc o).heap.size = W.heap.size + 1 := fun W o => by simp
  have hb0 := ((Below.refl _ w).alloc (Nat.le_refl _) (.cells #[.int .i64 xk, .int .i64 xf, .int .i64 xt, .int .i64 xg, .int .i64 xh, .int .i64 xi, .int .i64 xm, .int .i64 xv, .slice A n c, .slice B m d] 25)).alloc (by simp) (.cells #[.int .i64 0, .int .i64 0, .int .i64 0, .int .i64 0, .int .i64 0, .int .i64 0, .int .i64 0, .int .i64 0, .slice none 0 0, .slice none 0 0] 25)
  have hx : ((w.alloc (.cells #[.int .i64 xk, .int .i64 xf, .int .i64 xt, .int .i64 xg, .int .i64 xh, .int .i64 xi, .int .i64 xm, .int .i64 xv, .slice A n c, .slice B m d] 25)).alloc (.cells #[.int .i64 0, .int .i64 0, .int .i64 0, .int .i64 0, .int .i64 0, .int .i64 0, .int .i64 0, .int .i64 0, .slice none 0 0, .slice none 0 0] 25)).heap[w.heap.size]? = some (.cells #[.int .i64 xk, .int .i64 xf, .int .i64 xt, .int .i64 xg, .int .i64 xh, .int .i64 xi, .int .i64 xm, .int .i64 xv, .slice A n c, .slice B m d] 25) := by rw [Below.heap_alloc _ _ _ (by simp), heap_alloc_new]
  have hz := heap_alloc_new (w.alloc (.cells #[.int .i64 xk, .int .i64 xf, .int .i64 xt, .int .i64 xg, .int .i64 xh, .int .i64 xi, .int .i64 xm, .int .i64 xv, .slice A n c, .slice B m d] 25)) (.cells #[.int .i64 0, .int .i64 0, .int .i64 0, .int .i64 0, .int .i64 0, .int .i64 0, .int .i64 0, .int .i64 0, .slice none 0 0, .slice none 0 0] 25)
  rw [s1] at hz
  have HL := Lib.hid (h1.below hb0)
  have HS := Lib.hid (h3.below hb0)
  have HB := Lib.hid hb0
  have HX := Lib.hid hx
  have HZ := Lib.hid hz
  have hsz := lt_some hz
  clear hb0 hx hz h1 h3 s1
  go_enter Try.func47, Try.ntmps47
  go_upto_region 1 with fail
  generalize (w.alloc (.cells #[.int .i64 xk, .int .i64 xf, .int .i64 xt, .int .i64 xg, .int .i64 xh, .int .i64 xi, .int .i64 xm, .int .i64 xv, .slice A n c, .slice B m d] 25)).alloc (.cells #[.int .i64 0, .int .i64 0, .int .i64 0, .int .i64 0, .int .i64 0, .int .i64 0, .int .i64 0, .int .i64 0, .slice none 0 0, .slice none 0 0] 25) = W at HB HX HZ HL HS hsz ⊢
  refine wp_region_held_drew (S := fun _ => True) (by kernel_rfl) trivial (fun hHeld => ?_)
  have HB : Hid (Below w.heap.size w W.drew) := Lib.hid (below_drewN HB.out 1)
  have HX : Hid (W.drew.heap[w.heap.size]? = some (.cells #[.int .i64 xk, .int .i64 xf, .int .i64 xt, .int .i64 xg, .int .i64 xh, .int .i64 xi, .int .i64 xm, .int .i64 xv, .slice A n c, .slice B m d] 25)) := HX
  have HZ : Hid (W.drew.heap[w.heap.size + 1]? = some (.cells #[.int .i64 0, .int .i64 0, .int .i64 0, .int .i64 0, .int .i64 0, .int .i64 0, .int .i64 0, .int .i64 0, .slice none 0 0, .slice none 0 0] 25)) := HZ
  have HL : Hid (TRow W.drew A n L) := HL
  have HS : Hid (MkRow W.drew B m S) := HS
  have hsz : w.heap.size + 1 < W.drew.heap.size := hsz
  generalize W.drew = W at HB HX HZ HL HS hsz ⊢
  refine tk 0 (v := ?_) rfl (by kernel_rfl) (fun _ _ _ h => h) ?_ trivial ?_
  rotate_left
  · (intro W hSw; go_simp; try with_reducible rfl)
  refine tk 3 (v := ?_) rfl (by kernel_rfl) (fun _ _ _ h => h) ?_ trivial ?_
  rotate_left
  · (intro W hSw; go_simp; try with_reducible rfl)
  refine wpAnyH_ready (rs := [1, 4]) (by kernel_rfl) (by simp) ?_
  refine AllReadyH.cons rfl (fun K hK => ?_) (AllReadyH.cons rfl (fun K hK => ?_) AllReadyH.nil)
  · obtain ⟨⟨y0, y1, y2, y3, y4⟩, y5, y6, y7, y8, y9⟩ := tenc HX.out
    go_simp
    refine hK.out _ _ trivial (fun _ => ?_)
    clear hK K y0 y1 y2 y3 y4 y5 y6 y7 y8 y9
    refine wpAnyH_ready (rs := [2, 4]) (by kernel_rfl) (by simp) ?_
    refine AllReadyH.cons rfl (fun K hK => ?_) (AllReadyH.cons rfl (fun K hK => ?_) AllReadyH.nil)
    · go_simp
      refine (CT _ HL.out).mono ?_
      rintro e W1 ⟨v2, rfl, hv, hb⟩
      obtain ⟨A2, c2, rfl⟩ := hv.form
      have HT := Lib.hid (hv.lower (base' := w.heap.size + 1 + 1) (by omega))
      have HB1 := Lib.hid (HB.out.trans (hb.mono HB.out.size))
      have HX1 := Lib.hid (hkeep hb HX.out)
      have HZ1 := Lib.hid (hkeep hb HZ.out)
      have hsz1 := lt_some HZ1.out
      have HS1 := Lib.hid (HS.out.below hb)
      clear hv hb HB HX HZ hsz  HL CT HS
      go_wp2_with fail
      refine hK.out _ _ trivial (fun _ => ?_)
      clear hK K
      have HB := HB1
      have HX := HX1
      have HZ := HZ1
      have hsz := hsz1
      have HS := HS1
      clear HB1 HX1 HZ1 hsz1 HS1
      refine wpAnyH_ready (rs := [4]) (by kernel_rfl) (by simp) ?_
      refine AllReadyH.cons rfl (fun K hK => ?_) AllReadyH.nil
      obtain ⟨⟨y0, y1, y2, y3, y4⟩, y5, y6, y7, y8, y9⟩ := tenc HX.out
      go_simp
      refine hK.out _ _ trivial (fun _ => ?_)
      clear hK K y0 y1 y2 y3 y4 y5 y6 y7 y8 y9
      refine tk 6 (v := ?_) rfl (by kernel_rfl) (fun _ _ _ h => h) ?_ trivial ?_
      rotate_left
      · (intro W hSw; go_simp; try with_reducible rfl)
      refine wpAnyH_ready (rs := [5]) (by kernel_rfl) (by simp) ?_
      refine AllReadyH.cons rfl (fun K hK => ?_) AllReadyH.nil
      go_simp
      refine (CM _ HS.out).mono ?_
      rintro e W1 ⟨v5, rfl, hv, hb⟩
      obtain ⟨A5, c5, rfl⟩ := hv.form
      have HM := Lib.hid (hv.lower (base' := w.heap.size + 1 + 1) (by omega))
      have HB1 := Lib.hid (HB.out.trans (hb.mono HB.out.size))
      have HX1 := Lib.hid (hkeep hb HX.out)
      have HZ1 := Lib.hid (hkeep hb HZ.out)
      have hsz1 := lt_some HZ1.out
      have HT1 := Lib.hid (HT.out.belowAll hb)
      clear hv hb HB HX HZ hsz HT HS CM 
      go_wp2_with fail
      refine hK.out _ _ trivial (fun _ => ?_)
      clear hK K
      have HB := HB1
      have HX := HX1
      have HZ := HZ1
      have hsz := hsz1
      have HT := HT1
      clear HB1 HX1 HZ1 hsz1 HT1
      refine wpAnyH_ready (rs := [7]) (by kernel_rfl) (by simp) ?_
      refine AllReadyH.cons rfl (fun K hK => ?_) AllReadyH.nil
      obtain ⟨⟨y0, y1, y2, y3, y4⟩, y5, y6, y7, y8, y9⟩ := tenc HX.out
      obtain ⟨f0, f1, f2, f3, f4, f5, f6, f7, f8, f9⟩ := froz HX.out
      go_simp
      refine hK.out _ _ trivial (fun _ => ?_)
      clear hK K y0 y1 y2 y3 y4 y5 y6 y7 y8 y9 f0 f1 f2 f3 f4 f5 f6 f7 f8 f9
      have HX1 := Lib.hid (set_at (j := 8) HX.out (.slice A2 L.length c2))
      have HZ1 : Hid ((World.setCell _ ⟨w.heap.size, 8, none⟩ (.slice A2 L.length c2)).heap[w.heap.size + 1]? = _) := Lib.hid ((set_else (by omega) (.slice A2 L.length c2)).trans HZ.out)
      have HB1 := Lib.hid (HB.out.setCell (p := ⟨w.heap.size, 8, none⟩) (Nat.le_refl _) (.slice A2 L.length c2))
      have HT1 := Lib.hid (HT.out.set (b := w.heap.size) (by omega) 8 (.slice A2 L.length c2))
      have HM1 := Lib.hid (HM.out.set (b := w.heap.size) (by omega) 8 (.slice A2 L.length c2))
      clear HX HZ HB HT HM
      generalize World.setCell _ _ _ = W3 at HX1 HZ1 HB1 HT1 HM1 ⊢
      refine tk 8 (v := ?_) rfl (by kernel_rfl) (fun _ _ _ h => h) ?_ trivial ?_
      rotate_left
      · (intro W hSw; go_simp; try with_reducible rfl)
      refine wpAnyH_ready (rs := [9]) (by kernel_rfl) (by simp) ?_
      refine AllReadyH.cons rfl (fun K hK => ?_) AllReadyH.nil
      have hx1 := HX1.out
      simp at hx1
      obtain ⟨⟨y0, y1, y2, y3, y4⟩, y5, y6, y7, y8, y9⟩ := tenc hx1
      obtain ⟨f0, f1, f2, f3, f4, f5, f6, f7, f8, f9⟩ := froz hx1
      go_simp
      refine hK.out _ _ trivial (fun _ => ?_)
      clear hK K y0 y1 y2 y3 y4 y5 y6 y7 y8 y9 f0 f1 f2 f3 f4 f5 f6 f7 f8 f9
      have HX2 := Lib.hid (set_at (j := 9) hx1 (.slice A5 S.length c5))
      have HZ2 : Hid ((World.setCell _ ⟨w.heap.size, 9, none⟩ (.slice A5 S.length c5)).heap[w.heap.size + 1]? = _) := Lib.hid ((set_else (by omega) (.slice A5 S.length c5)).trans HZ1.out)
      have HB2 := Lib.hid (HB1.out.setCell (p := ⟨w.heap.size, 9, none⟩) (Nat.le_refl _) (.slice A5 S.length c5))
      have HT2 := Lib.hid (HT1.out.set (b := w.heap.size) (by omega) 9 (.slice A5 S.length c5))
      have HM2 := Lib.hid (HM1.out.set (b := w.heap.size) (by omega) 9 (.slice A5 S.length c5))
      clear HX1 HZ1 HB1 HT1 HM1 hx1
      generalize World.setCell _ _ _ = W4 at HX2 HZ2 HB2 HT2 HM2 ⊢
      refine wpAnyH_done (by kernel_rfl) ?_ _
      have hx1 := HX2.out
      simp at hx1
      obtain ⟨⟨y0, y1, y2, y3, y4⟩, y5, y6, y7, y8, y9⟩ := tenc hx1
      obtain ⟨⟨z0, z1, z2, z3, z4⟩, z5, z6, z7, z8, z9⟩ := tenc HZ2.out
      obtain ⟨f0, f1, f2, f3, f4, f5, f6, f7, f8, f9⟩ := froz HZ2.out
      go_wp2
      have hF := tenc (put10_at HZ2.out (.int .i64 xk) (.int .i64 xf) (.int .i64 xt) (.int .i64 xg) (.int .i64 xh) (.int .i64 xi) (.int .i64 xm) (.int .i64 xv) (.slice A2 L.length c2) (.slice A5 S.length c5))
      have hB10 := put10_below HB2.out (B := w.heap.size + 1) (by omega) (.int .i64 xk) (.int .i64 xf) (.int .i64 xt) (.int .i64 xg) (.int .i64 xh) (.int .i64 xi) (.int .i64 xm) (.int .i64 xv) (.slice A2 L.length c2) (.slice A5 S.length c5)
      have hT10 := tks_put10 HT2.out (B := w.heap.size + 1) (by omega) (.int .i64 xk) (.int .i64 xf) (.int .i64 xt) (.int .i64 xg) (.int .i64 xh) (.int .i64 xi) (.int .i64 xm) (.int .i64 xv) (.slice A2 L.length c2) (.slice A5 S.length c5)
      have hM10 := mks_put10 HM2.out (B := w.heap.size + 1) (by omega) (.int .i64 xk) (.int .i64 xf) (.int .i64 xt) (.int .i64 xg) (.int .i64 xh) (.int .i64 xi) (.int .i64 xm) (.int .i64 xv) (.slice A2 L.length c2) (.slice A5 S.length c5)
      obtain ⟨⟨r0, r1, r2, r3, r4⟩, r5, r6, r7, r8, r9⟩ := hF
      unfold put10 at r0 r1 r2 r3 r4 r5 r6 r7 r8 r9 hB10 hT10 hM10
      refine bodyPost_ret (v := .agg #[.int .i64 xk, .int .i64 xf, .int .i64 xt, .int .i64 xg, .int .i64 xh, .int .i64 xi, .int .i64 xm, .int .i64 xv, (.slice A2 L.length c2), (.slice A5 S.length c5)]) ?_ rfl ⟨(.slice A2 L.length c2), (.slice A5 S.length c5), rfl, hT10.lower (by omega), hM10.lower (by omega), hB10⟩
      simp [results, Try.results47, go_sem, r0, r1, r2, r3, r4, r5, r6, r7, r8, r9]
    · obtain ⟨⟨y0, y1, y2, y3, y4⟩, y5, y6, y7, y8, y9⟩ := tenc HX.out
      go_simp
      refine hK.out _ _ trivial (fun _ => ?_)
      clear hK K y0 y1 y2 y3 y4 y5 y6 y7 y8 y9
      refine wpAnyH_ready (rs := [2]) (by kernel_rfl) (by simp) ?_
      refine AllReadyH.cons rfl (fun K hK => ?_) AllReadyH.nil
      go_simp
      refine (CT _ HL.out).mono ?_
      rintro e W1 ⟨v2, rfl, hv, hb⟩
      obtain ⟨A2, c2, rfl⟩ := hv.form
      have HT := Lib.hid (hv.lower (base' := w.heap.size + 1 + 1) (by omega))
      have HB1 := Lib.hid (HB.out.trans (hb.mono HB.out.size))
      have HX1 := Lib.hid (hkeep hb HX.out)
      have HZ1 := Lib.hid (hkeep hb HZ.out)
      have hsz1 := lt_some HZ1.out
      have HS1 := Lib.hid (HS.out.below hb)
      clear hv hb HB HX HZ hsz  HL CT HS
      go_wp2_with fail
      refine hK.out _ _ trivial (fun _ => ?_)
      clear hK K
      have HB := HB1
      have HX := HX1
      have HZ := HZ1
      have hsz := hsz1
      have HS := HS1
      clear HB1 HX1 HZ1 hsz1 HS1
      refine tk 6 (v := ?_) rfl (by kernel_rfl) (fun _ _ _ h => h) ?_ trivial ?_
      rotate_left
      · (intro W hSw; go_simp; try with_reducible rfl)
      refine wpAnyH_ready (rs := [5]) (by kernel_rfl) (by simp) ?_
      refine AllReadyH.cons rfl (fun K hK => ?_) AllReadyH.nil
      go_simp
      refine (CM _ HS.out).mono ?_
      rintro e W1 ⟨v5, rfl, hv, hb⟩
      obtain ⟨A5, c5, rfl⟩ := hv.form
      have HM := Lib.hid (hv.lower (base' := w.heap.size + 1 + 1) (by omega))
      have HB1 := Lib.hid (HB.out.trans (hb.mono HB.out.size))
      have HX1 := Lib.hid (hkeep hb HX.out)
      have HZ1 := Lib.hid (hkeep hb HZ.out)
      have hsz1 := lt_some HZ1.out
      have HT1 := Lib.hid (HT.out.belowAll hb)
      clear hv hb HB HX HZ hsz HT HS CM 
      go_wp2_with fail
      refine hK.out _ _ trivial (fun _ => ?_)
      clear hK K
      have HB := HB1
      have HX := HX1
      have HZ := HZ1
      have hsz := hsz1
      have HT := HT1
      clear HB1 HX1 HZ1 hsz1 HT1
      refine wpAnyH_ready (rs := [7]) (by kernel_rfl) (by simp) ?_
      refine AllReadyH.cons rfl (fun K hK => ?_) AllReadyH.nil
      obtain ⟨⟨y0, y1, y2, y3, y4⟩, y5, y6, y7, y8, y9⟩ := tenc HX.out
      obtain ⟨f0, f1, f2, f3, f4, f5, f6, f7, f8, f9⟩ := froz HX.out
      go_simp
      refine hK.out _ _ trivial (fun _ => ?_)
      clear hK K y0 y1 y2 y3 y4 y5 y6 y7 y8 y9 f0 f1 f2 f3 f4 f5 f6 f7 f8 f9
      have HX1 := Lib.hid (set_at (j := 8) HX.out (.slice A2 L.length c2))
      have HZ1 : Hid ((World.setCell _ ⟨w.heap.size, 8, none⟩ (.slice A2 L.length c2)).heap[w.heap.size + 1]? = _) := Lib.hid ((set_else (by omega) (.slice A2 L.length c2)).trans HZ.out)
      have HB1 := Lib.hid (HB.out.setCell (p := ⟨w.heap.size, 8, none⟩) (Nat.le_refl _) (.slice A2 L.length c2))
      have HT1 := Lib.hid (HT.out.set (b := w.heap.size) (by omega) 8 (.slice A2 L.length c2))
      have HM1 := Lib.hid (HM.out.set (b := w.heap.size) (by omega) 8 (.slice A2 L.length c2))
      clear HX HZ HB HT HM
      generalize World.setCell _ _ _ = W3 at HX1 HZ1 HB1 HT1 HM1 ⊢
      refine tk 8 (v := ?_) rfl (by kernel_rfl) (fun _ _ _ h => h) ?_ trivial ?_
      rotate_left
      · (intro W hSw; go_simp; try with_reducible rfl)
      refine wpAnyH_ready (rs := [9]) (by kernel_rfl) (by simp) ?_
      refine AllReadyH.cons rfl (fun K hK => ?_) AllReadyH.nil
      have hx1 := HX1.out
      simp at hx1
      obtain ⟨⟨y0, y1, y2, y3, y4⟩, y5, y6, y7, y8, y9⟩ := tenc hx1
      obtain ⟨f0, f1, f2, f3, f4, f5, f6, f7, f8, f9⟩ := froz hx1
      go_simp
      refine hK.out _ _ trivial (fun _ => ?_)
      clear hK K y0 y1 y2 y3 y4 y5 y6 y7 y8 y9 f0 f1 f2 f3 f4 f5 f6 f7 f8 f9
      have HX2 := Lib.hid (set_at (j := 9) hx1 (.slice A5 S.length c5))
      have HZ2 : Hid ((World.setCell _ ⟨w.heap.size, 9, none⟩ (.slice A5 S.length c5)).heap[w.heap.size + 1]? = _) := Lib.hid ((set_else (by omega) (.slice A5 S.length c5)).trans HZ1.out)
      have HB2 := Lib.hid (HB1.out.setCell (p := ⟨w.heap.size, 9, none⟩) (Nat.le_refl _) (.slice A5 S.length c5))
      have HT2 := Lib.hid (HT1.out.set (b := w.heap.size) (by omega) 9 (.slice A5 S.length c5))
      have HM2 := Lib.hid (HM1.out.set (b := w.heap.size) (by omega) 9 (.slice A5 S.length c5))
      clear HX1 HZ1 HB1 HT1 HM1 hx1
      generalize World.setCell _ _ _ = W4 at HX2 HZ2 HB2 HT2 HM2 ⊢
      refine wpAnyH_done (by kernel_rfl) ?_ _
      have hx1 := HX2.out
      simp at hx1
      obtain ⟨⟨y0, y1, y2, y3, y4⟩, y5, y6, y7, y8, y9⟩ := tenc hx1
      obtain ⟨⟨z0, z1, z2, z3, z4⟩, z5, z6, z7, z8, z9⟩ := tenc HZ2.out
      obtain ⟨f0, f1, f2, f3, f4, f5, f6, f7, f8, f9⟩ := froz HZ2.out
      go_wp2
      have hF := tenc (put10_at HZ2.out (.int .i64 xk) (.int .i64 xf) (.int .i64 xt) (.int .i64 xg) (.int .i64 xh) (.int .i64 xi) (.int .i64 xm) (.int .i64 xv) (.slice A2 L.length c2) (.slice A5 S.length c5))
      have hB10 := put10_below HB2.out (B := w.heap.size + 1) (by omega) (.int .i64 xk) (.int .i64 xf) (.int .i64 xt) (.int .i64 xg) (.int .i64 xh) (.int .i64 xi) (.int .i64 xm) (.int .i64 xv) (.slice A2 L.length c2) (.slice A5 S.length c5)
      have hT10 := tks_put10 HT2.out (B := w.heap.size + 1) (by omega) (.int .i64 xk) (.int .i64 xf) (.int .i64 xt) (.int .i64 xg) (.int .i64 xh) (.int .i64 xi) (.int .i64 xm) (.int .i64 xv) (.slice A2 L.length c2) (.slice A5 S.length c5)
      have hM10 := mks_put10 HM2.out (B := w.heap.size + 1) (by omega) (.int .i64 xk) (.int .i64 xf) (.int .i64 xt) (.int .i64 xg) (.int .i64 xh) (.int .i64 xi) (.int .i64 xm) (.int .i64 xv) (.slice A2 L.length c2) (.slice A5 S.length c5)
      obtain ⟨⟨r0, r1, r2, r3, r4⟩, r5, r6, r7, r8, r9⟩ := hF
      unfold put10 at r0 r1 r2 r3 r4 r5 r6 r7 r8 r9 hB10 hT10 hM10
      refine bodyPost_ret (v := .agg #[.int .i64 xk, .int .i64 xf, .int .i64 xt, .int .i64 xg, .int .i64 xh, .int .i64 xi, .int .i64 xm, .int .i64 xv, (.slice A2 L.length c2), (.slice A5 S.length c5)]) ?_ rfl ⟨(.slice A2 L.length c2), (.slice A5 S.length c5), rfl, hT10.lower (by omega), hM10.lower (by omega), hB10⟩
      simp [results, Try.results47, go_sem, r0, r1, r2, r3, r4, r5, r6, r7, r8, r9]
  · obtain ⟨⟨y0, y1, y2, y3, y4⟩, y5, y6, y7, y8, y9⟩ := tenc HX.out
    go_simp
    refine hK.out _ _ trivial (fun _ => ?_)
    clear hK K y0 y1 y2 y3 y4 y5 y6 y7 y8 y9
    refine wpAnyH_ready (rs := [1]) (by kernel_rfl) (by simp) ?_
    refine AllReadyH.cons rfl (fun K hK => ?_) AllReadyH.nil
    obtain ⟨⟨y0, y1, y2, y3, y4⟩, y5, y6, y7, y8, y9⟩ := tenc HX.out
    go_simp
    refine hK.out _ _ trivial (fun _ => ?_)
    clear hK K y0 y1 y2 y3 y4 y5 y6 y7 y8 y9
    refine wpAnyH_ready (rs := [2]) (by kernel_rfl) (by simp) ?_
    refine AllReadyH.cons rfl (fun K hK => ?_) AllReadyH.nil
    go_simp
    refine (CT _ HL.out).mono ?_
    rintro e W1 ⟨v2, rfl, hv, hb⟩
    obtain ⟨A2, c2, rfl⟩ := hv.form
    have HT := Lib.hid (hv.lower (base' := w.heap.size + 1 + 1) (by omega))
    have HB1 := Lib.hid (HB.out.trans (hb.mono HB.out.size))
    have HX1 := Lib.hid (hkeep hb HX.out)
    have HZ1 := Lib.hid (hkeep hb HZ.out)
    have hsz1 := lt_some HZ1.out
    have HS1 := Lib.hid (HS.out.below hb)
    clear hv hb HB HX HZ hsz  HL CT HS
    go_wp2_with fail
    refine hK.out _ _ trivial (fun _ => ?_)
    clear hK K
    have HB := HB1
    have HX := HX1
    have HZ := HZ1
    have hsz := hsz1
    have HS := HS1
    clear HB1 HX1 HZ1 hsz1 HS1
    refine tk 6 (v := ?_) rfl (by kernel_rfl) (fun _ _ _ h => h) ?_ trivial ?_
    rotate_left
    · (intro W hSw; go_simp; try with_reducible rfl)
    refine wpAnyH_ready (rs := [5]) (by kernel_rfl) (by simp) ?_
    refine AllReadyH.cons rfl (fun K hK => ?_) AllReadyH.nil
    go_simp
    refine (CM _ HS.out).mono ?_
    rintro e W1 ⟨v5, rfl, hv, hb⟩
    obtain ⟨A5, c5, rfl⟩ := hv.form
    have HM := Lib.hid (hv.lower (base' := w.heap.size + 1 + 1) (by omega))
    have HB1 := Lib.hid (HB.out.trans (hb.mono HB.out.size))
    have HX1 := Lib.hid (hkeep hb HX.out)
    have HZ1 := Lib.hid (hkeep hb HZ.out)
    have hsz1 := lt_some HZ1.out
    have HT1 := Lib.hid (HT.out.belowAll hb)
    clear hv hb HB HX HZ hsz HT HS CM 
    go_wp2_with fail
    refine hK.out _ _ trivial (fun _ => ?_)
    clear hK K
    have HB := HB1
    have HX := HX1
    have HZ := HZ1
    have hsz := hsz1
    have HT := HT1
    clear HB1 HX1 HZ1 hsz1 HT1
    refine wpAnyH_ready (rs := [7]) (by kernel_rfl) (by simp) ?_
    refine AllReadyH.cons rfl (fun K hK => ?_) AllReadyH.nil
    obtain ⟨⟨y0, y1, y2, y3, y4⟩, y5, y6, y7, y8, y9⟩ := tenc HX.out
    obtain ⟨f0, f1, f2, f3, f4, f5, f6, f7, f8, f9⟩ := froz HX.out
    go_simp
    refine hK.out _ _ trivial (fun _ => ?_)
    clear hK K y0 y1 y2 y3 y4 y5 y6 y7 y8 y9 f0 f1 f2 f3 f4 f5 f6 f7 f8 f9
    have HX1 := Lib.hid (set_at (j := 8) HX.out (.slice A2 L.length c2))
    have HZ1 : Hid ((World.setCell _ ⟨w.heap.size, 8, none⟩ (.slice A2 L.length c2)).heap[w.heap.size + 1]? = _) := Lib.hid ((set_else (by omega) (.slice A2 L.length c2)).trans HZ.out)
    have HB1 := Lib.hid (HB.out.setCell (p := ⟨w.heap.size, 8, none⟩) (Nat.le_refl _) (.slice A2 L.length c2))
    have HT1 := Lib.hid (HT.out.set (b := w.heap.size) (by omega) 8 (.slice A2 L.length c2))
    have HM1 := Lib.hid (HM.out.set (b := w.heap.size) (by omega) 8 (.slice A2 L.length c2))
    clear HX HZ HB HT HM
    generalize World.setCell _ _ _ = W3 at HX1 HZ1 HB1 HT1 HM1 ⊢
    refine tk 8 (v := ?_) rfl (by kernel_rfl) (fun _ _ _ h => h) ?_ trivial ?_
    rotate_left
    · (intro W hSw; go_simp; try with_reducible rfl)
    refine wpAnyH_ready (rs := [9]) (by kernel_rfl) (by simp) ?_
    refine AllReadyH.cons rfl (fun K hK => ?_) AllReadyH.nil
    have hx1 := HX1.out
    simp at hx1
    obtain ⟨⟨y0, y1, y2, y3, y4⟩, y5, y6, y7, y8, y9⟩ := tenc hx1
    obtain ⟨f0, f1, f2, f3, f4, f5, f6, f7, f8, f9⟩ := froz hx1
    go_simp
    refine hK.out _ _ trivial (fun _ => ?_)
    clear hK K y0 y1 y2 y3 y4 y5 y6 y7 y8 y9 f0 f1 f2 f3 f4 f5 f6 f7 f8 f9
    have HX2 := Lib.hid (set_at (j := 9) hx1 (.slice A5 S.length c5))
    have HZ2 : Hid ((World.setCell _ ⟨w.heap.size, 9, none⟩ (.slice A5 S.length c5)).heap[w.heap.size + 1]? = _) := Lib.hid ((set_else (by omega) (.slice A5 S.length c5)).trans HZ1.out)
    have HB2 := Lib.hid (HB1.out.setCell (p := ⟨w.heap.size, 9, none⟩) (Nat.le_refl _) (.slice A5 S.length c5))
    have HT2 := Lib.hid (HT1.out.set (b := w.heap.size) (by omega) 9 (.slice A5 S.length c5))
    have HM2 := Lib.hid (HM1.out.set (b := w.heap.size) (by omega) 9 (.slice A5 S.length c5))
    clear HX1 HZ1 HB1 HT1 HM1 hx1
    generalize World.setCell _ _ _ = W4 at HX2 HZ2 HB2 HT2 HM2 ⊢
    refine wpAnyH_done (by kernel_rfl) ?_ _
    have hx1 := HX2.out
    simp at hx1
    obtain ⟨⟨y0, y1, y2, y3, y4⟩, y5, y6, y7, y8, y9⟩ := tenc hx1
    obtain ⟨⟨z0, z1, z2, z3, z4⟩, z5, z6, z7, z8, z9⟩ := tenc HZ2.out
    obtain ⟨f0, f1, f2, f3, f4, f5, f6, f7, f8, f9⟩ := froz HZ2.out
    go_wp2
    have hF := tenc (put10_at HZ2.out (.int .i64 xk) (.int .i64 xf) (.int .i64 xt) (.int .i64 xg) (.int .i64 xh) (.int .i64 xi) (.int .i64 xm) (.int .i64 xv) (.slice A2 L.length c2) (.slice A5 S.length c5))
    have hB10 := put10_below HB2.out (B := w.heap.size + 1) (by omega) (.int .i64 xk) (.int .i64 xf) (.int .i64 xt) (.int .i64 xg) (.int .i64 xh) (.int .i64 xi) (.int .i64 xm) (.int .i64 xv) (.slice A2 L.length c2) (.slice A5 S.length c5)
    have hT10 := tks_put10 HT2.out (B := w.heap.size + 1) (by omega) (.int .i64 xk) (.int .i64 xf) (.int .i64 xt) (.int .i64 xg) (.int .i64 xh) (.int .i64 xi) (.int .i64 xm) (.int .i64 xv) (.slice A2 L.length c2) (.slice A5 S.length c5)
    have hM10 := mks_put10 HM2.out (B := w.heap.size + 1) (by omega) (.int .i64 xk) (.int .i64 xf) (.int .i64 xt) (.int .i64 xg) (.int .i64 xh) (.int .i64 xi) (.int .i64 xm) (.int .i64 xv) (.slice A2 L.length c2) (.slice A5 S.length c5)
    obtain ⟨⟨r0, r1, r2, r3, r4⟩, r5, r6, r7, r8, r9⟩ := hF
    unfold put10 at r0 r1 r2 r3 r4 r5 r6 r7 r8 r9 hB10 hT10 hM10
    refine bodyPost_ret (v := .agg #[.int .i64 xk, .int .i64 xf, .int .i64 xt, .int .i64 xg, .int .i64 xh, .int .i64 xi, .int .i64 xm, .int .i64 xv, (.slice A2 L.length c2), (.slice A5 S.length c5)]) ?_ rfl ⟨(.slice A2 L.length c2), (.slice A5 S.length c5), rfl, hT10.lower (by omega), hM10.lower (by omega), hB10⟩
    simp [results, Try.results47, go_sem, r0, r1, r2, r3, r4, r5, r6, r7, r8, r9]
end Go.Proofs.Ytgodphfkhmahnaa.St
