/- Welding: the law WeldTwo. -/
import Derived.Test.YtlbkfenlbkibgaaWeLm
import Derived.Test.YtlbkfenlbkibgaaWeV
set_option linter.unusedVariables false
set_option maxRecDepth 100000
set_option maxHeartbeats 16000000
namespace Go.Proofs.Ytlbkfenlbkibgaa.St
open Go.RowKit Mem Sm Tk Rt
set_option linter.unusedSimpArgs false
theorem wrap_two {i i2 : Nat} (h : i2 = i + 1) (hb : i ≤ 1000) : IntKind.i64.wrap ((i : Int) + 1) = (i2 : Int) := by
 have := wrap_few' (x := (i : Int) + 1) (by omega) (by omega)
 rw [this]; omega
theorem weld_walk (a0 : Option Addr) (len0 cap0 : Nat) (l : List Sq) (w : World) (h : SqRow w a0 len0 l) (hn : len0 ≤ maxLen) :
  Calls Try.prog 5 #[.slice a0 len0 cap0] w fun e w' => e = .returned (.bool true) ∧ Below w.heap.size w w' := by
 have hnl := h.1
 subst hnl
 have hn2 : l.length ≤ 9223372036854775807 := Nat.le_trans hn (by decide)
 have CF := fews_any l a0 l.length cap0 w h hn2
 clear hn hn2
 obtain ⟨B, hB⟩ : ∃ b, b = fewsB l := ⟨_, rfl⟩
 rw [← hB] at CF
 cases B with
 | false =>
  clear hB h
  go_enter Try.func5, Try.ntmps5
  go_wp2_with fail
  refine CF.mono ?_
  rintro e w1 ⟨rfl, hb1⟩
  have HB := Lib.hid hb1
  clear hb1 CF
  go_wp2_with fail
  refine (live27_any _).mono ?_
  rintro e w2 ⟨rfl, hb2⟩
  have HB2 := Lib.hid (HB.out.trans (hb2.mono HB.out.size))
  clear hb2 HB
  go_wp2
  go_ret
  exact ⟨rfl, HB2.out⟩
 | true =>
  obtain ⟨hl20, hsm⟩ := fews_true hB.symm
  have HR := Lib.hid h
  have HSM := Lib.hid hsm
  have CA := fun W (hb : Below w.heap.size w W) => all_any l a0 cap0 W (h.below hb) (fun q hq => ⟨by have := (hsm q hq).1; omega, by have := (hsm q hq).2; omega⟩) (by omega)
  have CR := fun W (hb : Below w.heap.size w W) => rall_any l a0 cap0 W (h.below hb) (fun q hq => ⟨by have := (hsm q hq).1; omega, by have := (hsm q hq).2; omega⟩) (by omega)
  have HFS : Hid (∀ t ∈ foldW (l.map trOf), smallT t) := Lib.hid (foldW_small (fun t ht => by
   obtain ⟨q, hq, rfl⟩ := List.mem_map.1 ht
   obtain ⟨j, hj, rfl⟩ := List.getElem_of_mem hq
   have h1 := hsm _ hq
   obtain ⟨b, off, _, _, hc⟩ := h.2 (by omega)
   have h2 := hc j hj
   rw [sq_at hj] at h2
   refine ⟨?_, ?_⟩
   ·show (l[j].L).length ≤ 20000; rw [h2.2.1.1]; have := h1.1; omega
   ·show (l[j].S).length ≤ 20000; rw [h2.2.2.1.1]; have := h1.2; omega))
  have HFL : Hid ((foldW (l.map trOf)).length ≤ 1000) := Lib.hid (by have := foldW_len (l.map trOf); rw [List.length_map] at this; omega)
  generalize foldW (l.map trOf) = FW at HFS HFL CA CR
  clear hB h hsm
  have HCA := Lib.hid CA
  have HCR := Lib.hid CR
  clear CA CR
  go_enter Try.func5, Try.ntmps5
  go_wp2_with fail
  refine CF.mono ?_
  rintro e w1 ⟨rfl, hb1⟩
  have HB1 := Lib.hid hb1
  clear hb1 CF
  go_wp2_with fail
  go_loopw [3] (fun iv wr => ∃ i : Nat, iv = .int .i64 i ∧ i ≤ l.length ∧ Hid (Below w.heap.size w wr)) (fun iv _ => l.length - (intOf iv).toNat)
  case atStart => exact ⟨0, rfl, by omega, HB1⟩
  case round =>
   clear HB1
   obtain ⟨i, rfl, hi, HB⟩ := hrel
   have hwi : wrap64 ((i : Int) + 1) = (i : Int) + 1 := by unfold wrap64; omega
   by_cases h1 : (i : Int) + 1 < (l.length : Int)
   ·obtain ⟨i2, hi2⟩ : ∃ i2 : Nat, i2 = i + 1 := ⟨_, rfl⟩
    have hil : i < l.length := by omega
    have hil2 : i2 < l.length := by omega
    obtain ⟨b, off, rfl, hb0, hc⟩ := HR.out.2 (by omega)
    have hq := hc i hil
    have hq' := hc i2 hil2
    have hp := HSM.out (sq l i) (by rw [sq_at hil]; exact List.getElem_mem _)
    have hp' := HSM.out (sq l i2) (by rw [sq_at hil2]; exact List.getElem_mem _)
    clear hc HSM HR HCA HCR HFS HFL
    generalize sq l i = q at hq hp
    generalize sq l i2 = q' at hq' hp'
    have HSQ : Hid (∀ W, Below w.heap.size w W → SqAt W b (off + i * 10) q ∧ SqAt W b (off + i2 * 10) q') := Lib.hid (fun W h => ⟨hq.below h hb0, hq'.below h hb0⟩)
    clear hq hq' hb0
    have CT1 := fun W q1 q2 q3 q4 => (two_any q.x q'.x q.L q'.L q.S q'.S q.A q'.A q.B q'.B q.n q'.n q.m q'.m q.c q'.c q.d q'.d W (by omega) (by omega) (by omega) (by omega) q1 q2 q3 q4).mono (fun e w' h => two_one h)
    have CT2 := fun W q1 (q2 : MkRow W q.B q.m q.S) q3 (q4 : MkRow W q'.B q'.m q'.S) => (rtwo_any q.x q'.x q.L q'.L q.A q'.A q.B q'.B q.n q'.n q.m q'.m q.c q'.c q.d q'.d W (by omega) (by omega) (by omega) (by omega) q1 q3).mono (fun e w' h => two_one h)
    have hzl : (twoL q.x q'.x q.L q'.L q.n q'.n q.m q'.m).length ≤ 1000000 := twoL_len (by rw [(HSQ.out _ (Below.refl _ _)).1.2.1.1]; omega) (by rw [(HSQ.out _ (Below.refl _ _)).2.2.1.1]; omega)
    generalize twoX q.x q'.x q.L q'.L q.n q'.n q.m q'.m = Z at CT1 CT2
    generalize twoL q.x q'.x q.L q'.L q.n q'.n q.m q'.m = ML at CT1 CT2 hzl
    generalize weldB q.x q'.x q.L q'.L q.n q'.n q.m q'.m = OK at CT1 CT2
    have CS := fun Av Bv cv dv W q1 q2 => rssame_any Z Z ML ML [] [] Av Bv none none ML.length ML.length 0 0 cv dv 0 0 W hzl hzl (by omega) (by omega) q1 q2 ⟨rfl, fun h => absurd h (by omega)⟩ ⟨rfl, fun h => absurd h (by omega)⟩
    have hss : sameS Z Z ML ML [] [] = true := by simp [sameS]
    simp only [hss] at CS
    clear hss hp hp'
    obtain ⟨NM, hNM⟩ : ∃ n, ML.length = n := ⟨_, rfl⟩
    rw [hNM] at CS hzl
    have HNM := Lib.hid hNM
    clear hNM
    unfold stV stC at CT1 CT2 CS
    unfold TwoOne at CT1 CT2
    have i1 : (0 : Int) ≤ (i : Int) := by omega
    have i3 : (i : Int) < (l.length : Int) := by omega
    have i4 : (0 : Int) ≤ (i2 : Int) := by omega
    have i5 : (i2 : Int) < (l.length : Int) := by omega
    have HI2 := Lib.hid hi2
    clear hi2
    go_upto_region 6 with fail
    refine wp_region_held_drew (S := fun W => SqAt W b (off + i * 10) q ∧ SqAt W b (off + i2 * 10) q') (by kernel_rfl) (HSQ.out _ (below_drewN HB.out 1)) (fun hHeld => ?_)
    have HB2 : Hid (Below w.heap.size w wr.drew) := Lib.hid (below_drewN HB.out 1)
    clear HB
    have HB := HB2
    clear HB2
    generalize wr.drew = U0 at HB hHeld ⊢
    refine tk 0 (v := ?_) rfl (by kernel_rfl) (fun _ _ _ h => h) ?_ hHeld ?_
    rotate_left
    ·(intro W hSw; (try dsimp only at hSw); obtain ⟨hs1, hs2⟩ := hSw; obtain ⟨⟨y0, y1, y2, y3, y4⟩, y5, y6, y7, y8, y9⟩ := hs1.cells; obtain ⟨⟨z0, z1, z2, z3, z4⟩, z5, z6, z7, z8, z9⟩ := hs2.cells; go_simp; try with_reducible rfl)
    refine tk 1 (v := ?_) rfl (by kernel_rfl) (fun _ _ _ h => h) ?_ hHeld ?_
    rotate_left
    ·(intro W hSw; (try dsimp only at hSw); obtain ⟨hs1, hs2⟩ := hSw; obtain ⟨⟨y0, y1, y2, y3, y4⟩, y5, y6, y7, y8, y9⟩ := hs1.cells; obtain ⟨⟨z0, z1, z2, z3, z4⟩, z5, z6, z7, z8, z9⟩ := hs2.cells; go_simp; try with_reducible rfl)
    refine tk 2 (v := ?_) rfl (by kernel_rfl) (fun _ _ _ h => h) ?_ hHeld ?_
    rotate_left
    ·(intro W hSw; (try dsimp only at hSw); obtain ⟨hs1, hs2⟩ := hSw; obtain ⟨⟨y0, y1, y2, y3, y4⟩, y5, y6, y7, y8, y9⟩ := hs1.cells; obtain ⟨⟨z0, z1, z2, z3, z4⟩, z5, z6, z7, z8, z9⟩ := hs2.cells; go_simp; try with_reducible rfl)
    refine tk 3 (v := ?_) rfl (by kernel_rfl) (fun _ _ _ h => h) ?_ hHeld ?_
    rotate_left
    ·(intro W hSw; (try dsimp only at hSw); obtain ⟨hs1, hs2⟩ := hSw; obtain ⟨⟨y0, y1, y2, y3, y4⟩, y5, y6, y7, y8, y9⟩ := hs1.cells; obtain ⟨⟨z0, z1, z2, z3, z4⟩, z5, z6, z7, z8, z9⟩ := hs2.cells; go_simp; try with_reducible rfl)
    refine tk 4 (v := ?_) rfl (by kernel_rfl) (fun _ _ _ h => h) ?_ hHeld ?_
    rotate_left
    ·(intro W hSw; (try dsimp only at hSw); obtain ⟨hs1, hs2⟩ := hSw; obtain ⟨⟨y0, y1, y2, y3, y4⟩, y5, y6, y7, y8, y9⟩ := hs1.cells; obtain ⟨⟨z0, z1, z2, z3, z4⟩, z5, z6, z7, z8, z9⟩ := hs2.cells; go_simp; try with_reducible rfl)
    refine tk 5 (v := ?_) rfl (by kernel_rfl) (fun _ _ _ h => h) ?_ hHeld ?_
    rotate_left
    ·(intro W hSw; (try dsimp only at hSw); obtain ⟨hs1, hs2⟩ := hSw; obtain ⟨⟨y0, y1, y2, y3, y4⟩, y5, y6, y7, y8, y9⟩ := hs1.cells; obtain ⟨⟨z0, z1, z2, z3, z4⟩, z5, z6, z7, z8, z9⟩ := hs2.cells; go_simp; try with_reducible rfl)
    have hwq : IntKind.i64.wrap ((i : Int) + 1) = (i2 : Int) := wrap_two HI2.out (by omega)
    refine tk 6 (v := ?_) rfl (by kernel_rfl) (fun _ _ _ h => h) ?_ hHeld ?_
    rotate_left
    ·(intro W hSw; (try dsimp only at hSw); obtain ⟨hs1, hs2⟩ := hSw; obtain ⟨⟨y0, y1, y2, y3, y4⟩, y5, y6, y7, y8, y9⟩ := hs1.cells; obtain ⟨⟨z0, z1, z2, z3, z4⟩, z5, z6, z7, z8, z9⟩ := hs2.cells; go_simp; try with_reducible rfl)
    clear hwq
    refine tk 7 (v := ?_) rfl (by kernel_rfl) (fun _ _ _ h => h) ?_ hHeld ?_
    rotate_left
    ·(intro W hSw; (try dsimp only at hSw); obtain ⟨hs1, hs2⟩ := hSw; obtain ⟨⟨y0, y1, y2, y3, y4⟩, y5, y6, y7, y8, y9⟩ := hs1.cells; obtain ⟨⟨z0, z1, z2, z3, z4⟩, z5, z6, z7, z8, z9⟩ := hs2.cells; go_simp; try with_reducible rfl)
    refine tk 8 (v := ?_) rfl (by kernel_rfl) (fun _ _ _ h => h) ?_ hHeld ?_
    rotate_left
    ·(intro W hSw; (try dsimp only at hSw); obtain ⟨hs1, hs2⟩ := hSw; obtain ⟨⟨y0, y1, y2, y3, y4⟩, y5, y6, y7, y8, y9⟩ := hs1.cells; obtain ⟨⟨z0, z1, z2, z3, z4⟩, z5, z6, z7, z8, z9⟩ := hs2.cells; go_simp; try with_reducible rfl)
    refine wpAnyH_ready (rs := [9, 13]) (by kernel_rfl) (by simp) ?_
    refine AllReadyH.cons rfl (fun K hK => ?_) (AllReadyH.cons rfl (fun K hK => ?_) AllReadyH.nil)
    ·go_simp
     refine (CT1 _ hHeld.1.2.1 hHeld.1.2.2.1 hHeld.2.2.1 hHeld.2.2.2.1).mono ?_
     rintro e U1 ⟨Av, cv, rfl, hT, hb2⟩
     rw [HNM.out] at hT
     rw [HNM.out]
     have HB2 := Lib.hid (HB.out.trans (hb2.mono HB.out.size))
     have hS := HSQ.out _ HB2.out
     have HU := Lib.hid hT
     clear HB
     have HB := HB2
     clear HB2
     clear hHeld hT hb2
     go_wp2_with fail
     refine hK.out _ _ hS (fun hHeld => ?_)
     clear hK K hS
     refine tk 10 (v := ?_) rfl (by kernel_rfl) (fun _ _ _ h => h) ?_ hHeld ?_
     rotate_left
     ·(intro W hSw; clear hSw; go_simp; try with_reducible rfl)
     refine tk 11 (v := ?_) rfl (by kernel_rfl) (fun _ _ _ h => h) ?_ hHeld ?_
     rotate_left
     ·(intro W hSw; clear hSw; go_simp; try with_reducible rfl)
     refine tk 12 (v := ?_) rfl (by kernel_rfl) (fun _ _ _ h => h) ?_ hHeld ?_
     rotate_left
     ·(intro W hSw; clear hSw; go_simp; try with_reducible rfl)
     refine wpAnyH_ready (rs := [13]) (by kernel_rfl) (by simp) ?_
     refine AllReadyH.cons rfl (fun K hK => ?_) AllReadyH.nil
     go_simp
     have hba := (Below.refl U1.heap.size U1).alloc (Nat.le_refl _) (.cells #[.int .i64 0, .int .i64 0, .int .i64 0, .int .i64 0, .int .i64 0, .int .i64 0, .int .i64 0, .int .i64 0, .slice none 0 0, .slice none 0 0] 25)
     have HZ := Lib.hid (heap_alloc_new U1 (.cells #[.int .i64 0, .int .i64 0, .int .i64 0, .int .i64 0, .int .i64 0, .int .i64 0, .int .i64 0, .int .i64 0, .slice none 0 0, .slice none 0 0] 25))
     have hPw : w.heap.size ≤ U1.heap.size := HB.out.size
     have HB2 := Lib.hid (HB.out.trans (hba.mono HB.out.size))
     have HU2 := Lib.hid (HU.out.below hba)
     have hS := HSQ.out _ HB2.out
     clear HB HU
     have HB := HB2
     have HU := HU2
     clear HB2 HU2
     clear hHeld hba
     refine hK.out _ _ hS (fun hHeld => ?_)
     clear hK K hS
     generalize U1.alloc (.cells #[.int .i64 0, .int .i64 0, .int .i64 0, .int .i64 0, .int .i64 0, .int .i64 0, .int .i64 0, .int .i64 0, .slice none 0 0, .slice none 0 0] 25) = U2 at HB hHeld HZ HU ⊢
     generalize U1.heap.size = P4 at HZ hPw ⊢
     refine wpAnyH_ready (rs := [14]) (by kernel_rfl) (by simp) ?_
     refine AllReadyH.cons rfl (fun K hK => ?_) AllReadyH.nil
     have hz := tenc HZ.out
     have z0 := hz.1.1
     have z1 := hz.1.2.1
     have z2 := hz.1.2.2.1
     have z3 := hz.1.2.2.2.1
     have z4 := hz.1.2.2.2.2
     have z5 := hz.2.1
     have z6 := hz.2.2.1
     have z7 := hz.2.2.2.1
     have z8 := hz.2.2.2.2.1
     have z9 := hz.2.2.2.2.2
     have hf := froz HZ.out
     have f0 := hf.1
     have f1 := hf.2.1
     have f2 := hf.2.2.1
     have f3 := hf.2.2.2.1
     have f4 := hf.2.2.2.2.1
     have f5 := hf.2.2.2.2.2.1
     have f6 := hf.2.2.2.2.2.2.1
     have f7 := hf.2.2.2.2.2.2.2.1
     have f8 := hf.2.2.2.2.2.2.2.2.1
     have f9 := hf.2.2.2.2.2.2.2.2.2
     clear hz hf
     go_simp
     have hg := grown_put10 (W := U2) (B := P4) (.int .i64 Z.kind) (.int .i64 Z.from_) (.int .i64 Z.to_) (.int .i64 Z.gf) (.int .i64 Z.gt) (.int .i64 Z.ins) (.int .i64 Z.mark) (.int .i64 Z.val) (.slice Av NM cv) (.slice none 0 0)
     have hZ2 := put10_at HZ.out (.int .i64 Z.kind) (.int .i64 Z.from_) (.int .i64 Z.to_) (.int .i64 Z.gf) (.int .i64 Z.gt) (.int .i64 Z.ins) (.int .i64 Z.mark) (.int .i64 Z.val) (.slice Av NM cv) (.slice none 0 0)
     have hB2 := put10_below HB.out (B := P4) hPw (.int .i64 Z.kind) (.int .i64 Z.from_) (.int .i64 Z.to_) (.int .i64 Z.gf) (.int .i64 Z.gt) (.int .i64 Z.ins) (.int .i64 Z.mark) (.int .i64 Z.val) (.slice Av NM cv) (.slice none 0 0)
     have hU2 := HU.out.grown hg HZ.out
     unfold put10 at hZ2 hB2 hU2
     have HZ2 := Lib.hid hZ2
     have HB2 := Lib.hid hB2
     have HU2 := Lib.hid hU2
     clear hg hZ2 hB2 hU2
     have hS := HSQ.out _ HB2.out
     clear hHeld z0 z1 z2 z3 z4 z5 z6 z7 z8 z9 f0 f1 f2 f3 f4 f5 f6 f7 f8 f9
     refine hK.out _ _ hS (fun hHeld => ?_)
     clear hK K hS hPw
     clear HZ HB HU
     have HZ := HZ2
     have HB := HB2
     have HU := HU2
     clear HZ2 HB2 HU2
     generalize World.setCell _ _ _ = U3 at HZ HB HU hHeld ⊢
     refine wpAnyH_ready (rs := [15]) (by kernel_rfl) (by simp) ?_
     refine AllReadyH.cons rfl (fun K hK => ?_) AllReadyH.nil
     go_simp
     refine hK.out _ _ hHeld (fun hHeld => ?_)
     clear hK K hHeld
     refine wpAnyH_done (by kernel_rfl) ?_ _
     have HF := HZ
     have HT := HU
     clear HZ HU
     go_upto_region 7 with fail
     refine wp_region_held_drew (S := fun W => SqAt W b (off + i * 10) q ∧ SqAt W b (off + i2 * 10) q') (by kernel_rfl) (HSQ.out _ (below_drewN HB.out 1)) (fun hHeld => ?_)
     have HB2 : Hid (Below w.heap.size w U3.drew) := Lib.hid (below_drewN HB.out 1)
     have HF2 : Hid (U3.drew.heap[P4]? = some (.cells #[.int .i64 Z.kind, .int .i64 Z.from_, .int .i64 Z.to_, .int .i64 Z.gf, .int .i64 Z.gt, .int .i64 Z.ins, .int .i64 Z.mark, .int .i64 Z.val, .slice Av NM cv, .slice none 0 0] 25)) := HF
     have HT2 : Hid (TkO U3.drew Av NM ML) := HT
     clear HB HF HT
     have HB := HB2
     have HF := HF2
     have HT := HT2
     clear HB2 HF2 HT2
     generalize U3.drew = V0 at HB hHeld HF HT ⊢
     refine tk 0 (v := ?_) rfl (by kernel_rfl) (fun _ _ _ h => h) ?_ hHeld ?_
     rotate_left
     ·(intro W hSw; (try dsimp only at hSw); obtain ⟨hs1, hs2⟩ := hSw; obtain ⟨⟨y0, y1, y2, y3, y4⟩, y5, y6, y7, y8, y9⟩ := hs1.cells; obtain ⟨⟨z0, z1, z2, z3, z4⟩, z5, z6, z7, z8, z9⟩ := hs2.cells; go_simp; try with_reducible rfl)
     refine tk 1 (v := ?_) rfl (by kernel_rfl) (fun _ _ _ h => h) ?_ hHeld ?_
     rotate_left
     ·(intro W hSw; (try dsimp only at hSw); obtain ⟨hs1, hs2⟩ := hSw; obtain ⟨⟨y0, y1, y2, y3, y4⟩, y5, y6, y7, y8, y9⟩ := hs1.cells; obtain ⟨⟨z0, z1, z2, z3, z4⟩, z5, z6, z7, z8, z9⟩ := hs2.cells; go_simp; try with_reducible rfl)
     refine tk 2 (v := ?_) rfl (by kernel_rfl) (fun _ _ _ h => h) ?_ hHeld ?_
     rotate_left
     ·(intro W hSw; (try dsimp only at hSw); obtain ⟨hs1, hs2⟩ := hSw; obtain ⟨⟨y0, y1, y2, y3, y4⟩, y5, y6, y7, y8, y9⟩ := hs1.cells; obtain ⟨⟨z0, z1, z2, z3, z4⟩, z5, z6, z7, z8, z9⟩ := hs2.cells; go_simp; try with_reducible rfl)
     refine tk 3 (v := ?_) rfl (by kernel_rfl) (fun _ _ _ h => h) ?_ hHeld ?_
     rotate_left
     ·(intro W hSw; (try dsimp only at hSw); obtain ⟨hs1, hs2⟩ := hSw; obtain ⟨⟨y0, y1, y2, y3, y4⟩, y5, y6, y7, y8, y9⟩ := hs1.cells; obtain ⟨⟨z0, z1, z2, z3, z4⟩, z5, z6, z7, z8, z9⟩ := hs2.cells; go_simp; try with_reducible rfl)
     refine tk 4 (v := ?_) rfl (by kernel_rfl) (fun _ _ _ h => h) ?_ hHeld ?_
     rotate_left
     ·(intro W hSw; (try dsimp only at hSw); obtain ⟨hs1, hs2⟩ := hSw; obtain ⟨⟨y0, y1, y2, y3, y4⟩, y5, y6, y7, y8, y9⟩ := hs1.cells; obtain ⟨⟨z0, z1, z2, z3, z4⟩, z5, z6, z7, z8, z9⟩ := hs2.cells; go_simp; try with_reducible rfl)
     refine tk 5 (v := ?_) rfl (by kernel_rfl) (fun _ _ _ h => h) ?_ hHeld ?_
     rotate_left
     ·(intro W hSw; (try dsimp only at hSw); obtain ⟨hs1, hs2⟩ := hSw; obtain ⟨⟨y0, y1, y2, y3, y4⟩, y5, y6, y7, y8, y9⟩ := hs1.cells; obtain ⟨⟨z0, z1, z2, z3, z4⟩, z5, z6, z7, z8, z9⟩ := hs2.cells; go_simp; try with_reducible rfl)
     have hwq : IntKind.i64.wrap ((i : Int) + 1) = (i2 : Int) := wrap_two HI2.out (by omega)
     refine tk 6 (v := ?_) rfl (by kernel_rfl) (fun _ _ _ h => h) ?_ hHeld ?_
     rotate_left
     ·(intro W hSw; (try dsimp only at hSw); obtain ⟨hs1, hs2⟩ := hSw; obtain ⟨⟨y0, y1, y2, y3, y4⟩, y5, y6, y7, y8, y9⟩ := hs1.cells; obtain ⟨⟨z0, z1, z2, z3, z4⟩, z5, z6, z7, z8, z9⟩ := hs2.cells; go_simp; try with_reducible rfl)
     clear hwq
     refine tk 7 (v := ?_) rfl (by kernel_rfl) (fun _ _ _ h => h) ?_ hHeld ?_
     rotate_left
     ·(intro W hSw; (try dsimp only at hSw); obtain ⟨hs1, hs2⟩ := hSw; obtain ⟨⟨y0, y1, y2, y3, y4⟩, y5, y6, y7, y8, y9⟩ := hs1.cells; obtain ⟨⟨z0, z1, z2, z3, z4⟩, z5, z6, z7, z8, z9⟩ := hs2.cells; go_simp; try with_reducible rfl)
     refine tk 8 (v := ?_) rfl (by kernel_rfl) (fun _ _ _ h => h) ?_ hHeld ?_
     rotate_left
     ·(intro W hSw; (try dsimp only at hSw); obtain ⟨hs1, hs2⟩ := hSw; obtain ⟨⟨y0, y1, y2, y3, y4⟩, y5, y6, y7, y8, y9⟩ := hs1.cells; obtain ⟨⟨z0, z1, z2, z3, z4⟩, z5, z6, z7, z8, z9⟩ := hs2.cells; go_simp; try with_reducible rfl)
     refine wpAnyH_ready (rs := [9, 13]) (by kernel_rfl) (by simp) ?_
     refine AllReadyH.cons rfl (fun K hK => ?_) (AllReadyH.cons rfl (fun K hK => ?_) AllReadyH.nil)
     ·go_simp
      refine (CT2 _ hHeld.1.2.1 hHeld.1.2.2.1 hHeld.2.2.1 hHeld.2.2.2.1).mono ?_
      rintro e V1 ⟨Bv, dv, rfl, hT, hb2⟩
      rw [HNM.out] at hT
      rw [HNM.out]
      have HB2 := Lib.hid (HB.out.trans (hb2.mono HB.out.size))
      have HF2 := Lib.hid (hkeep hb2 HF.out)
      have HT2 := Lib.hid (HT.out.below hb2)
      have hS := HSQ.out _ HB2.out
      have HU := Lib.hid hT
      clear HB HF HT
      have HB := HB2
      have HF := HF2
      have HT := HT2
      clear HB2 HF2 HT2
      clear hHeld hT hb2
      go_wp2_with fail
      refine hK.out _ _ hS (fun hHeld => ?_)
      clear hK K hS
      refine tk 10 (v := ?_) rfl (by kernel_rfl) (fun _ _ _ h => h) ?_ hHeld ?_
      rotate_left
      ·(intro W hSw; clear hSw; go_simp; try with_reducible rfl)
      refine tk 11 (v := ?_) rfl (by kernel_rfl) (fun _ _ _ h => h) ?_ hHeld ?_
      rotate_left
      ·(intro W hSw; clear hSw; go_simp; try with_reducible rfl)
      refine tk 12 (v := ?_) rfl (by kernel_rfl) (fun _ _ _ h => h) ?_ hHeld ?_
      rotate_left
      ·(intro W hSw; clear hSw; go_simp; try with_reducible rfl)
      refine wpAnyH_ready (rs := [13]) (by kernel_rfl) (by simp) ?_
      refine AllReadyH.cons rfl (fun K hK => ?_) AllReadyH.nil
      go_simp
      have hba := (Below.refl V1.heap.size V1).alloc (Nat.le_refl _) (.cells #[.int .i64 0, .int .i64 0, .int .i64 0, .int .i64 0, .int .i64 0, .int .i64 0, .int .i64 0, .int .i64 0, .slice none 0 0, .slice none 0 0] 25)
      have HZ := Lib.hid (heap_alloc_new V1 (.cells #[.int .i64 0, .int .i64 0, .int .i64 0, .int .i64 0, .int .i64 0, .int .i64 0, .int .i64 0, .int .i64 0, .slice none 0 0, .slice none 0 0] 25))
      have hPw : w.heap.size ≤ V1.heap.size := HB.out.size
      have hPP : V1.heap.size ≠ P4 := by have := lt_some HF.out; omega
      have HB2 := Lib.hid (HB.out.trans (hba.mono HB.out.size))
      have HF2 := Lib.hid (hkeep hba HF.out)
      have HT2 := Lib.hid (HT.out.below hba)
      have HU2 := Lib.hid (HU.out.below hba)
      have hS := HSQ.out _ HB2.out
      clear HB HF HT HU
      have HB := HB2
      have HF := HF2
      have HT := HT2
      have HU := HU2
      clear HB2 HF2 HT2 HU2
      clear hHeld hba
      refine hK.out _ _ hS (fun hHeld => ?_)
      clear hK K hS
      generalize V1.alloc (.cells #[.int .i64 0, .int .i64 0, .int .i64 0, .int .i64 0, .int .i64 0, .int .i64 0, .int .i64 0, .int .i64 0, .slice none 0 0, .slice none 0 0] 25) = V2 at HB hHeld HZ HF HT HU ⊢
      generalize V1.heap.size = P6 at HZ hPw hPP ⊢
      refine wpAnyH_ready (rs := [14]) (by kernel_rfl) (by simp) ?_
      refine AllReadyH.cons rfl (fun K hK => ?_) AllReadyH.nil
      have hz := tenc HZ.out
      have z0 := hz.1.1
      have z1 := hz.1.2.1
      have z2 := hz.1.2.2.1
      have z3 := hz.1.2.2.2.1
      have z4 := hz.1.2.2.2.2
      have z5 := hz.2.1
      have z6 := hz.2.2.1
      have z7 := hz.2.2.2.1
      have z8 := hz.2.2.2.2.1
      have z9 := hz.2.2.2.2.2
      have hf := froz HZ.out
      have f0 := hf.1
      have f1 := hf.2.1
      have f2 := hf.2.2.1
      have f3 := hf.2.2.2.1
      have f4 := hf.2.2.2.2.1
      have f5 := hf.2.2.2.2.2.1
      have f6 := hf.2.2.2.2.2.2.1
      have f7 := hf.2.2.2.2.2.2.2.1
      have f8 := hf.2.2.2.2.2.2.2.2.1
      have f9 := hf.2.2.2.2.2.2.2.2.2
      clear hz hf
      go_simp
      have hg := grown_put10 (W := V2) (B := P6) (.int .i64 Z.kind) (.int .i64 Z.from_) (.int .i64 Z.to_) (.int .i64 Z.gf) (.int .i64 Z.gt) (.int .i64 Z.ins) (.int .i64 Z.mark) (.int .i64 Z.val) (.slice Bv NM dv) (.slice none 0 0)
      have hZ2 := put10_at HZ.out (.int .i64 Z.kind) (.int .i64 Z.from_) (.int .i64 Z.to_) (.int .i64 Z.gf) (.int .i64 Z.gt) (.int .i64 Z.ins) (.int .i64 Z.mark) (.int .i64 Z.val) (.slice Bv NM dv) (.slice none 0 0)
      have hB2 := put10_below HB.out (B := P6) hPw (.int .i64 Z.kind) (.int .i64 Z.from_) (.int .i64 Z.to_) (.int .i64 Z.gf) (.int .i64 Z.gt) (.int .i64 Z.ins) (.int .i64 Z.mark) (.int .i64 Z.val) (.slice Bv NM dv) (.slice none 0 0)
      have hU2 := HU.out.grown hg HZ.out
      have hF2 := grown_at hg HF.out (fun e => hPP (Option.some.inj e))
      have hT2 := HT.out.grown hg HZ.out
      unfold put10 at hZ2 hB2 hU2 hF2 hT2
      have HZ2 := Lib.hid hZ2
      have HB2 := Lib.hid hB2
      have HU2 := Lib.hid hU2
      have HF2 := Lib.hid hF2
      have HT2 := Lib.hid hT2
      clear hg hZ2 hB2 hU2 hF2 hT2
      have hS := HSQ.out _ HB2.out
      clear hHeld z0 z1 z2 z3 z4 z5 z6 z7 z8 z9 f0 f1 f2 f3 f4 f5 f6 f7 f8 f9
      refine hK.out _ _ hS (fun hHeld => ?_)
      clear hK K hS hPw
      clear HZ HB HU HF HT
      have HZ := HZ2
      have HB := HB2
      have HU := HU2
      have HF := HF2
      have HT := HT2
      clear HZ2 HB2 HU2 HF2 HT2
      generalize World.setCell _ _ _ = V3 at HZ HB HU hHeld HF HT ⊢
      refine wpAnyH_ready (rs := [15]) (by kernel_rfl) (by simp) ?_
      refine AllReadyH.cons rfl (fun K hK => ?_) AllReadyH.nil
      go_simp
      refine hK.out _ _ hHeld (fun hHeld => ?_)
      clear hK K hHeld
      refine wpAnyH_done (by kernel_rfl) ?_ _
      clear hPP HSQ
      have q0 := tenc HF.out
      have q1 := tenc HZ.out
      obtain ⟨⟨y0, y1, y2, y3, y4⟩, y5, y6, y7, y8, y9⟩ := q0
      obtain ⟨⟨z0, z1, z2, z3, z4⟩, z5, z6, z7, z8, z9⟩ := q1
      have hok : (OK != OK) = false := by cases OK <;> rfl
      clear HF HZ CT1 CT2
      go_wp2_with fail
      refine (CS Av Bv cv dv _ HT.out.1 HU.out.1).mono ?_
      rintro e WE ⟨rfl, hbe⟩
      have HBE := Lib.hid (HB.out.trans (hbe.mono HB.out.size))
      clear hbe HB HT HU CS y0 y1 y2 y3 y4 y5 y6 y7 y8 y9 z0 z1 z2 z3 z4 z5 z6 z7 z8 z9 hok
      go_wp2
      go_roundw
      case measure => simp only [intOf]; omega
      case rel => exact ⟨i + 1, by push_cast; rfl, by omega, HBE⟩
     ·go_simp
      have hba := (Below.refl V0.heap.size V0).alloc (Nat.le_refl _) (.cells #[.int .i64 0, .int .i64 0, .int .i64 0, .int .i64 0, .int .i64 0, .int .i64 0, .int .i64 0, .int .i64 0, .slice none 0 0, .slice none 0 0] 25)
      have HZ := Lib.hid (heap_alloc_new V0 (.cells #[.int .i64 0, .int .i64 0, .int .i64 0, .int .i64 0, .int .i64 0, .int .i64 0, .int .i64 0, .int .i64 0, .slice none 0 0, .slice none 0 0] 25))
      have hPw : w.heap.size ≤ V0.heap.size := HB.out.size
      have hPP : V0.heap.size ≠ P4 := by have := lt_some HF.out; omega
      have HB2 := Lib.hid (HB.out.trans (hba.mono HB.out.size))
      have HF2 := Lib.hid (hkeep hba HF.out)
      have HT2 := Lib.hid (HT.out.below hba)
      have hS := HSQ.out _ HB2.out
      clear HB HF HT
      have HB := HB2
      have HF := HF2
      have HT := HT2
      clear HB2 HF2 HT2
      clear hHeld hba
      refine hK.out _ _ hS (fun hHeld => ?_)
      clear hK K hS
      generalize V0.alloc (.cells #[.int .i64 0, .int .i64 0, .int .i64 0, .int .i64 0, .int .i64 0, .int .i64 0, .int .i64 0, .int .i64 0, .slice none 0 0, .slice none 0 0] 25) = V1 at HB hHeld HZ HF HT ⊢
      generalize V0.heap.size = P6 at HZ hPw hPP ⊢
      refine wpAnyH_ready (rs := [9]) (by kernel_rfl) (by simp) ?_
      refine AllReadyH.cons rfl (fun K hK => ?_) AllReadyH.nil
      go_simp
      refine (CT2 _ hHeld.1.2.1 hHeld.1.2.2.1 hHeld.2.2.1 hHeld.2.2.2.1).mono ?_
      rintro e V2 ⟨Bv, dv, rfl, hT, hb2⟩
      rw [HNM.out] at hT
      rw [HNM.out]
      have HB2 := Lib.hid (HB.out.trans (hb2.mono HB.out.size))
      have HF2 := Lib.hid (hkeep hb2 HF.out)
      have HT2 := Lib.hid (HT.out.below hb2)
      have HZ2 := Lib.hid (hkeep hb2 HZ.out)
      have hS := HSQ.out _ HB2.out
      have HU := Lib.hid hT
      clear HB HF HT HZ
      have HB := HB2
      have HF := HF2
      have HT := HT2
      have HZ := HZ2
      clear HB2 HF2 HT2 HZ2
      clear hHeld hT hb2
      go_wp2_with fail
      refine hK.out _ _ hS (fun hHeld => ?_)
      clear hK K hS
      refine tk 10 (v := ?_) rfl (by kernel_rfl) (fun _ _ _ h => h) ?_ hHeld ?_
      rotate_left
      ·(intro W hSw; clear hSw; go_simp; try with_reducible rfl)
      refine tk 11 (v := ?_) rfl (by kernel_rfl) (fun _ _ _ h => h) ?_ hHeld ?_
      rotate_left
      ·(intro W hSw; clear hSw; go_simp; try with_reducible rfl)
      refine tk 12 (v := ?_) rfl (by kernel_rfl) (fun _ _ _ h => h) ?_ hHeld ?_
      rotate_left
      ·(intro W hSw; clear hSw; go_simp; try with_reducible rfl)
      refine wpAnyH_ready (rs := [14]) (by kernel_rfl) (by simp) ?_
      refine AllReadyH.cons rfl (fun K hK => ?_) AllReadyH.nil
      have hz := tenc HZ.out
      have z0 := hz.1.1
      have z1 := hz.1.2.1
      have z2 := hz.1.2.2.1
      have z3 := hz.1.2.2.2.1
      have z4 := hz.1.2.2.2.2
      have z5 := hz.2.1
      have z6 := hz.2.2.1
      have z7 := hz.2.2.2.1
      have z8 := hz.2.2.2.2.1
      have z9 := hz.2.2.2.2.2
      have hf := froz HZ.out
      have f0 := hf.1
      have f1 := hf.2.1
      have f2 := hf.2.2.1
      have f3 := hf.2.2.2.1
      have f4 := hf.2.2.2.2.1
      have f5 := hf.2.2.2.2.2.1
      have f6 := hf.2.2.2.2.2.2.1
      have f7 := hf.2.2.2.2.2.2.2.1
      have f8 := hf.2.2.2.2.2.2.2.2.1
      have f9 := hf.2.2.2.2.2.2.2.2.2
      clear hz hf
      go_simp
      have hg := grown_put10 (W := V2) (B := P6) (.int .i64 Z.kind) (.int .i64 Z.from_) (.int .i64 Z.to_) (.int .i64 Z.gf) (.int .i64 Z.gt) (.int .i64 Z.ins) (.int .i64 Z.mark) (.int .i64 Z.val) (.slice Bv NM dv) (.slice none 0 0)
      have hZ2 := put10_at HZ.out (.int .i64 Z.kind) (.int .i64 Z.from_) (.int .i64 Z.to_) (.int .i64 Z.gf) (.int .i64 Z.gt) (.int .i64 Z.ins) (.int .i64 Z.mark) (.int .i64 Z.val) (.slice Bv NM dv) (.slice none 0 0)
      have hB2 := put10_below HB.out (B := P6) hPw (.int .i64 Z.kind) (.int .i64 Z.from_) (.int .i64 Z.to_) (.int .i64 Z.gf) (.int .i64 Z.gt) (.int .i64 Z.ins) (.int .i64 Z.mark) (.int .i64 Z.val) (.slice Bv NM dv) (.slice none 0 0)
      have hU2 := HU.out.grown hg HZ.out
      have hF2 := grown_at hg HF.out (fun e => hPP (Option.some.inj e))
      have hT2 := HT.out.grown hg HZ.out
      unfold put10 at hZ2 hB2 hU2 hF2 hT2
      have HZ2 := Lib.hid hZ2
      have HB2 := Lib.hid hB2
      have HU2 := Lib.hid hU2
      have HF2 := Lib.hid hF2
      have HT2 := Lib.hid hT2
      clear hg hZ2 hB2 hU2 hF2 hT2
      have hS := HSQ.out _ HB2.out
      clear hHeld z0 z1 z2 z3 z4 z5 z6 z7 z8 z9 f0 f1 f2 f3 f4 f5 f6 f7 f8 f9
      refine hK.out _ _ hS (fun hHeld => ?_)
      clear hK K hS hPw
      clear HZ HB HU HF HT
      have HZ := HZ2
      have HB := HB2
      have HU := HU2
      have HF := HF2
      have HT := HT2
      clear HZ2 HB2 HU2 HF2 HT2
      generalize World.setCell _ _ _ = V3 at HZ HB HU hHeld HF HT ⊢
      refine wpAnyH_ready (rs := [15]) (by kernel_rfl) (by simp) ?_
      refine AllReadyH.cons rfl (fun K hK => ?_) AllReadyH.nil
      go_simp
      refine hK.out _ _ hHeld (fun hHeld => ?_)
      clear hK K hHeld
      refine wpAnyH_done (by kernel_rfl) ?_ _
      clear hPP HSQ
      have q0 := tenc HF.out
      have q1 := tenc HZ.out
      obtain ⟨⟨y0, y1, y2, y3, y4⟩, y5, y6, y7, y8, y9⟩ := q0
      obtain ⟨⟨z0, z1, z2, z3, z4⟩, z5, z6, z7, z8, z9⟩ := q1
      have hok : (OK != OK) = false := by cases OK <;> rfl
      clear HF HZ CT1 CT2
      go_wp2_with fail
      refine (CS Av Bv cv dv _ HT.out.1 HU.out.1).mono ?_
      rintro e WE ⟨rfl, hbe⟩
      have HBE := Lib.hid (HB.out.trans (hbe.mono HB.out.size))
      clear hbe HB HT HU CS y0 y1 y2 y3 y4 y5 y6 y7 y8 y9 z0 z1 z2 z3 z4 z5 z6 z7 z8 z9 hok
      go_wp2
      go_roundw
      case measure => simp only [intOf]; omega
      case rel => exact ⟨i + 1, by push_cast; rfl, by omega, HBE⟩
    ·go_simp
     have hba := (Below.refl U0.heap.size U0).alloc (Nat.le_refl _) (.cells #[.int .i64 0, .int .i64 0, .int .i64 0, .int .i64 0, .int .i64 0, .int .i64 0, .int .i64 0, .int .i64 0, .slice none 0 0, .slice none 0 0] 25)
     have HZ := Lib.hid (heap_alloc_new U0 (.cells #[.int .i64 0, .int .i64 0, .int .i64 0, .int .i64 0, .int .i64 0, .int .i64 0, .int .i64 0, .int .i64 0, .slice none 0 0, .slice none 0 0] 25))
     have hPw : w.heap.size ≤ U0.heap.size := HB.out.size
     have HB2 := Lib.hid (HB.out.trans (hba.mono HB.out.size))
     have hS := HSQ.out _ HB2.out
     clear HB
     have HB := HB2
     clear HB2
     clear hHeld hba
     refine hK.out _ _ hS (fun hHeld => ?_)
     clear hK K hS
     generalize U0.alloc (.cells #[.int .i64 0, .int .i64 0, .int .i64 0, .int .i64 0, .int .i64 0, .int .i64 0, .int .i64 0, .int .i64 0, .slice none 0 0, .slice none 0 0] 25) = U1 at HB hHeld HZ ⊢
     generalize U0.heap.size = P4 at HZ hPw ⊢
     refine wpAnyH_ready (rs := [9]) (by kernel_rfl) (by simp) ?_
     refine AllReadyH.cons rfl (fun K hK => ?_) AllReadyH.nil
     go_simp
     refine (CT1 _ hHeld.1.2.1 hHeld.1.2.2.1 hHeld.2.2.1 hHeld.2.2.2.1).mono ?_
     rintro e U2 ⟨Av, cv, rfl, hT, hb2⟩
     rw [HNM.out] at hT
     rw [HNM.out]
     have HB2 := Lib.hid (HB.out.trans (hb2.mono HB.out.size))
     have HZ2 := Lib.hid (hkeep hb2 HZ.out)
     have hS := HSQ.out _ HB2.out
     have HU := Lib.hid hT
     clear HB HZ
     have HB := HB2
     have HZ := HZ2
     clear HB2 HZ2
     clear hHeld hT hb2
     go_wp2_with fail
     refine hK.out _ _ hS (fun hHeld => ?_)
     clear hK K hS
     refine tk 10 (v := ?_) rfl (by kernel_rfl) (fun _ _ _ h => h) ?_ hHeld ?_
     rotate_left
     ·(intro W hSw; clear hSw; go_simp; try with_reducible rfl)
     refine tk 11 (v := ?_) rfl (by kernel_rfl) (fun _ _ _ h => h) ?_ hHeld ?_
     rotate_left
     ·(intro W hSw; clear hSw; go_simp; try with_reducible rfl)
     refine tk 12 (v := ?_) rfl (by kernel_rfl) (fun _ _ _ h => h) ?_ hHeld ?_
     rotate_left
     ·(intro W hSw; clear hSw; go_simp; try with_reducible rfl)
     refine wpAnyH_ready (rs := [14]) (by kernel_rfl) (by simp) ?_
     refine AllReadyH.cons rfl (fun K hK => ?_) AllReadyH.nil
     have hz := tenc HZ.out
     have z0 := hz.1.1
     have z1 := hz.1.2.1
     have z2 := hz.1.2.2.1
     have z3 := hz.1.2.2.2.1
     have z4 := hz.1.2.2.2.2
     have z5 := hz.2.1
     have z6 := hz.2.2.1
     have z7 := hz.2.2.2.1
     have z8 := hz.2.2.2.2.1
     have z9 := hz.2.2.2.2.2
     have hf := froz HZ.out
     have f0 := hf.1
     have f1 := hf.2.1
     have f2 := hf.2.2.1
     have f3 := hf.2.2.2.1
     have f4 := hf.2.2.2.2.1
     have f5 := hf.2.2.2.2.2.1
     have f6 := hf.2.2.2.2.2.2.1
     have f7 := hf.2.2.2.2.2.2.2.1
     have f8 := hf.2.2.2.2.2.2.2.2.1
     have f9 := hf.2.2.2.2.2.2.2.2.2
     clear hz hf
     go_simp
     have hg := grown_put10 (W := U2) (B := P4) (.int .i64 Z.kind) (.int .i64 Z.from_) (.int .i64 Z.to_) (.int .i64 Z.gf) (.int .i64 Z.gt) (.int .i64 Z.ins) (.int .i64 Z.mark) (.int .i64 Z.val) (.slice Av NM cv) (.slice none 0 0)
     have hZ2 := put10_at HZ.out (.int .i64 Z.kind) (.int .i64 Z.from_) (.int .i64 Z.to_) (.int .i64 Z.gf) (.int .i64 Z.gt) (.int .i64 Z.ins) (.int .i64 Z.mark) (.int .i64 Z.val) (.slice Av NM cv) (.slice none 0 0)
     have hB2 := put10_below HB.out (B := P4) hPw (.int .i64 Z.kind) (.int .i64 Z.from_) (.int .i64 Z.to_) (.int .i64 Z.gf) (.int .i64 Z.gt) (.int .i64 Z.ins) (.int .i64 Z.mark) (.int .i64 Z.val) (.slice Av NM cv) (.slice none 0 0)
     have hU2 := HU.out.grown hg HZ.out
     unfold put10 at hZ2 hB2 hU2
     have HZ2 := Lib.hid hZ2
     have HB2 := Lib.hid hB2
     have HU2 := Lib.hid hU2
     clear hg hZ2 hB2 hU2
     have hS := HSQ.out _ HB2.out
     clear hHeld z0 z1 z2 z3 z4 z5 z6 z7 z8 z9 f0 f1 f2 f3 f4 f5 f6 f7 f8 f9
     refine hK.out _ _ hS (fun hHeld => ?_)
     clear hK K hS hPw
     clear HZ HB HU
     have HZ := HZ2
     have HB := HB2
     have HU := HU2
     clear HZ2 HB2 HU2
     generalize World.setCell _ _ _ = U3 at HZ HB HU hHeld ⊢
     refine wpAnyH_ready (rs := [15]) (by kernel_rfl) (by simp) ?_
     refine AllReadyH.cons rfl (fun K hK => ?_) AllReadyH.nil
     go_simp
     refine hK.out _ _ hHeld (fun hHeld => ?_)
     clear hK K hHeld
     refine wpAnyH_done (by kernel_rfl) ?_ _
     have HF := HZ
     have HT := HU
     clear HZ HU
     go_upto_region 7 with fail
     refine wp_region_held_drew (S := fun W => SqAt W b (off + i * 10) q ∧ SqAt W b (off + i2 * 10) q') (by kernel_rfl) (HSQ.out _ (below_drewN HB.out 1)) (fun hHeld => ?_)
     have HB2 : Hid (Below w.heap.size w U3.drew) := Lib.hid (below_drewN HB.out 1)
     have HF2 : Hid (U3.drew.heap[P4]? = some (.cells #[.int .i64 Z.kind, .int .i64 Z.from_, .int .i64 Z.to_, .int .i64 Z.gf, .int .i64 Z.gt, .int .i64 Z.ins, .int .i64 Z.mark, .int .i64 Z.val, .slice Av NM cv, .slice none 0 0] 25)) := HF
     have HT2 : Hid (TkO U3.drew Av NM ML) := HT
     clear HB HF HT
     have HB := HB2
     have HF := HF2
     have HT := HT2
     clear HB2 HF2 HT2
     generalize U3.drew = V0 at HB hHeld HF HT ⊢
     refine tk 0 (v := ?_) rfl (by kernel_rfl) (fun _ _ _ h => h) ?_ hHeld ?_
     rotate_left
     ·(intro W hSw; (try dsimp only at hSw); obtain ⟨hs1, hs2⟩ := hSw; obtain ⟨⟨y0, y1, y2, y3, y4⟩, y5, y6, y7, y8, y9⟩ := hs1.cells; obtain ⟨⟨z0, z1, z2, z3, z4⟩, z5, z6, z7, z8, z9⟩ := hs2.cells; go_simp; try with_reducible rfl)
     refine tk 1 (v := ?_) rfl (by kernel_rfl) (fun _ _ _ h => h) ?_ hHeld ?_
     rotate_left
     ·(intro W hSw; (try dsimp only at hSw); obtain ⟨hs1, hs2⟩ := hSw; obtain ⟨⟨y0, y1, y2, y3, y4⟩, y5, y6, y7, y8, y9⟩ := hs1.cells; obtain ⟨⟨z0, z1, z2, z3, z4⟩, z5, z6, z7, z8, z9⟩ := hs2.cells; go_simp; try with_reducible rfl)
     refine tk 2 (v := ?_) rfl (by kernel_rfl) (fun _ _ _ h => h) ?_ hHeld ?_
     rotate_left
     ·(intro W hSw; (try dsimp only at hSw); obtain ⟨hs1, hs2⟩ := hSw; obtain ⟨⟨y0, y1, y2, y3, y4⟩, y5, y6, y7, y8, y9⟩ := hs1.cells; obtain ⟨⟨z0, z1, z2, z3, z4⟩, z5, z6, z7, z8, z9⟩ := hs2.cells; go_simp; try with_reducible rfl)
     refine tk 3 (v := ?_) rfl (by kernel_rfl) (fun _ _ _ h => h) ?_ hHeld ?_
     rotate_left
     ·(intro W hSw; (try dsimp only at hSw); obtain ⟨hs1, hs2⟩ := hSw; obtain ⟨⟨y0, y1, y2, y3, y4⟩, y5, y6, y7, y8, y9⟩ := hs1.cells; obtain ⟨⟨z0, z1, z2, z3, z4⟩, z5, z6, z7, z8, z9⟩ := hs2.cells; go_simp; try with_reducible rfl)
     refine tk 4 (v := ?_) rfl (by kernel_rfl) (fun _ _ _ h => h) ?_ hHeld ?_
     rotate_left
     ·(intro W hSw; (try dsimp only at hSw); obtain ⟨hs1, hs2⟩ := hSw; obtain ⟨⟨y0, y1, y2, y3, y4⟩, y5, y6, y7, y8, y9⟩ := hs1.cells; obtain ⟨⟨z0, z1, z2, z3, z4⟩, z5, z6, z7, z8, z9⟩ := hs2.cells; go_simp; try with_reducible rfl)
     refine tk 5 (v := ?_) rfl (by kernel_rfl) (fun _ _ _ h => h) ?_ hHeld ?_
     rotate_left
     ·(intro W hSw; (try dsimp only at hSw); obtain ⟨hs1, hs2⟩ := hSw; obtain ⟨⟨y0, y1, y2, y3, y4⟩, y5, y6, y7, y8, y9⟩ := hs1.cells; obtain ⟨⟨z0, z1, z2, z3, z4⟩, z5, z6, z7, z8, z9⟩ := hs2.cells; go_simp; try with_reducible rfl)
     have hwq : IntKind.i64.wrap ((i : Int) + 1) = (i2 : Int) := wrap_two HI2.out (by omega)
     refine tk 6 (v := ?_) rfl (by kernel_rfl) (fun _ _ _ h => h) ?_ hHeld ?_
     rotate_left
     ·(intro W hSw; (try dsimp only at hSw); obtain ⟨hs1, hs2⟩ := hSw; obtain ⟨⟨y0, y1, y2, y3, y4⟩, y5, y6, y7, y8, y9⟩ := hs1.cells; obtain ⟨⟨z0, z1, z2, z3, z4⟩, z5, z6, z7, z8, z9⟩ := hs2.cells; go_simp; try with_reducible rfl)
     clear hwq
     refine tk 7 (v := ?_) rfl (by kernel_rfl) (fun _ _ _ h => h) ?_ hHeld ?_
     rotate_left
     ·(intro W hSw; (try dsimp only at hSw); obtain ⟨hs1, hs2⟩ := hSw; obtain ⟨⟨y0, y1, y2, y3, y4⟩, y5, y6, y7, y8, y9⟩ := hs1.cells; obtain ⟨⟨z0, z1, z2, z3, z4⟩, z5, z6, z7, z8, z9⟩ := hs2.cells; go_simp; try with_reducible rfl)
     refine tk 8 (v := ?_) rfl (by kernel_rfl) (fun _ _ _ h => h) ?_ hHeld ?_
     rotate_left
     ·(intro W hSw; (try dsimp only at hSw); obtain ⟨hs1, hs2⟩ := hSw; obtain ⟨⟨y0, y1, y2, y3, y4⟩, y5, y6, y7, y8, y9⟩ := hs1.cells; obtain ⟨⟨z0, z1, z2, z3, z4⟩, z5, z6, z7, z8, z9⟩ := hs2.cells; go_simp; try with_reducible rfl)
     refine wpAnyH_ready (rs := [9, 13]) (by kernel_rfl) (by simp) ?_
     refine AllReadyH.cons rfl (fun K hK => ?_) (AllReadyH.cons rfl (fun K hK => ?_) AllReadyH.nil)
     ·go_simp
      refine (CT2 _ hHeld.1.2.1 hHeld.1.2.2.1 hHeld.2.2.1 hHeld.2.2.2.1).mono ?_
      rintro e V1 ⟨Bv, dv, rfl, hT, hb2⟩
      rw [HNM.out] at hT
      rw [HNM.out]
      have HB2 := Lib.hid (HB.out.trans (hb2.mono HB.out.size))
      have HF2 := Lib.hid (hkeep hb2 HF.out)
      have HT2 := Lib.hid (HT.out.below hb2)
      have hS := HSQ.out _ HB2.out
      have HU := Lib.hid hT
      clear HB HF HT
      have HB := HB2
      have HF := HF2
      have HT := HT2
      clear HB2 HF2 HT2
      clear hHeld hT hb2
      go_wp2_with fail
      refine hK.out _ _ hS (fun hHeld => ?_)
      clear hK K hS
      refine tk 10 (v := ?_) rfl (by kernel_rfl) (fun _ _ _ h => h) ?_ hHeld ?_
      rotate_left
      ·(intro W hSw; clear hSw; go_simp; try with_reducible rfl)
      refine tk 11 (v := ?_) rfl (by kernel_rfl) (fun _ _ _ h => h) ?_ hHeld ?_
      rotate_left
      ·(intro W hSw; clear hSw; go_simp; try with_reducible rfl)
      refine tk 12 (v := ?_) rfl (by kernel_rfl) (fun _ _ _ h => h) ?_ hHeld ?_
      rotate_left
      ·(intro W hSw; clear hSw; go_simp; try with_reducible rfl)
      refine wpAnyH_ready (rs := [13]) (by kernel_rfl) (by simp) ?_
      refine AllReadyH.cons rfl (fun K hK => ?_) AllReadyH.nil
      go_simp
      have hba := (Below.refl V1.heap.size V1).alloc (Nat.le_refl _) (.cells #[.int .i64 0, .int .i64 0, .int .i64 0, .int .i64 0, .int .i64 0, .int .i64 0, .int .i64 0, .int .i64 0, .slice none 0 0, .slice none 0 0] 25)
      have HZ := Lib.hid (heap_alloc_new V1 (.cells #[.int .i64 0, .int .i64 0, .int .i64 0, .int .i64 0, .int .i64 0, .int .i64 0, .int .i64 0, .int .i64 0, .slice none 0 0, .slice none 0 0] 25))
      have hPw : w.heap.size ≤ V1.heap.size := HB.out.size
      have hPP : V1.heap.size ≠ P4 := by have := lt_some HF.out; omega
      have HB2 := Lib.hid (HB.out.trans (hba.mono HB.out.size))
      have HF2 := Lib.hid (hkeep hba HF.out)
      have HT2 := Lib.hid (HT.out.below hba)
      have HU2 := Lib.hid (HU.out.below hba)
      have hS := HSQ.out _ HB2.out
      clear HB HF HT HU
      have HB := HB2
      have HF := HF2
      have HT := HT2
      have HU := HU2
      clear HB2 HF2 HT2 HU2
      clear hHeld hba
      refine hK.out _ _ hS (fun hHeld => ?_)
      clear hK K hS
      generalize V1.alloc (.cells #[.int .i64 0, .int .i64 0, .int .i64 0, .int .i64 0, .int .i64 0, .int .i64 0, .int .i64 0, .int .i64 0, .slice none 0 0, .slice none 0 0] 25) = V2 at HB hHeld HZ HF HT HU ⊢
      generalize V1.heap.size = P6 at HZ hPw hPP ⊢
      refine wpAnyH_ready (rs := [14]) (by kernel_rfl) (by simp) ?_
      refine AllReadyH.cons rfl (fun K hK => ?_) AllReadyH.nil
      have hz := tenc HZ.out
      have z0 := hz.1.1
      have z1 := hz.1.2.1
      have z2 := hz.1.2.2.1
      have z3 := hz.1.2.2.2.1
      have z4 := hz.1.2.2.2.2
      have z5 := hz.2.1
      have z6 := hz.2.2.1
      have z7 := hz.2.2.2.1
      have z8 := hz.2.2.2.2.1
      have z9 := hz.2.2.2.2.2
      have hf := froz HZ.out
      have f0 := hf.1
      have f1 := hf.2.1
      have f2 := hf.2.2.1
      have f3 := hf.2.2.2.1
      have f4 := hf.2.2.2.2.1
      have f5 := hf.2.2.2.2.2.1
      have f6 := hf.2.2.2.2.2.2.1
      have f7 := hf.2.2.2.2.2.2.2.1
      have f8 := hf.2.2.2.2.2.2.2.2.1
      have f9 := hf.2.2.2.2.2.2.2.2.2
      clear hz hf
      go_simp
      have hg := grown_put10 (W := V2) (B := P6) (.int .i64 Z.kind) (.int .i64 Z.from_) (.int .i64 Z.to_) (.int .i64 Z.gf) (.int .i64 Z.gt) (.int .i64 Z.ins) (.int .i64 Z.mark) (.int .i64 Z.val) (.slice Bv NM dv) (.slice none 0 0)
      have hZ2 := put10_at HZ.out (.int .i64 Z.kind) (.int .i64 Z.from_) (.int .i64 Z.to_) (.int .i64 Z.gf) (.int .i64 Z.gt) (.int .i64 Z.ins) (.int .i64 Z.mark) (.int .i64 Z.val) (.slice Bv NM dv) (.slice none 0 0)
      have hB2 := put10_below HB.out (B := P6) hPw (.int .i64 Z.kind) (.int .i64 Z.from_) (.int .i64 Z.to_) (.int .i64 Z.gf) (.int .i64 Z.gt) (.int .i64 Z.ins) (.int .i64 Z.mark) (.int .i64 Z.val) (.slice Bv NM dv) (.slice none 0 0)
      have hU2 := HU.out.grown hg HZ.out
      have hF2 := grown_at hg HF.out (fun e => hPP (Option.some.inj e))
      have hT2 := HT.out.grown hg HZ.out
      unfold put10 at hZ2 hB2 hU2 hF2 hT2
      have HZ2 := Lib.hid hZ2
      have HB2 := Lib.hid hB2
      have HU2 := Lib.hid hU2
      have HF2 := Lib.hid hF2
      have HT2 := Lib.hid hT2
      clear hg hZ2 hB2 hU2 hF2 hT2
      have hS := HSQ.out _ HB2.out
      clear hHeld z0 z1 z2 z3 z4 z5 z6 z7 z8 z9 f0 f1 f2 f3 f4 f5 f6 f7 f8 f9
      refine hK.out _ _ hS (fun hHeld => ?_)
      clear hK K hS hPw
      clear HZ HB HU HF HT
      have HZ := HZ2
      have HB := HB2
      have HU := HU2
      have HF := HF2
      have HT := HT2
      clear HZ2 HB2 HU2 HF2 HT2
      generalize World.setCell _ _ _ = V3 at HZ HB HU hHeld HF HT ⊢
      refine wpAnyH_ready (rs := [15]) (by kernel_rfl) (by simp) ?_
      refine AllReadyH.cons rfl (fun K hK => ?_) AllReadyH.nil
      go_simp
      refine hK.out _ _ hHeld (fun hHeld => ?_)
      clear hK K hHeld
      refine wpAnyH_done (by kernel_rfl) ?_ _
      clear hPP HSQ
      have q0 := tenc HF.out
      have q1 := tenc HZ.out
      obtain ⟨⟨y0, y1, y2, y3, y4⟩, y5, y6, y7, y8, y9⟩ := q0
      obtain ⟨⟨z0, z1, z2, z3, z4⟩, z5, z6, z7, z8, z9⟩ := q1
      have hok : (OK != OK) = false := by cases OK <;> rfl
      clear HF HZ CT1 CT2
      go_wp2_with fail
      refine (CS Av Bv cv dv _ HT.out.1 HU.out.1).mono ?_
      rintro e WE ⟨rfl, hbe⟩
      have HBE := Lib.hid (HB.out.trans (hbe.mono HB.out.size))
      clear hbe HB HT HU CS y0 y1 y2 y3 y4 y5 y6 y7 y8 y9 z0 z1 z2 z3 z4 z5 z6 z7 z8 z9 hok
      go_wp2
      go_roundw
      case measure => simp only [intOf]; omega
      case rel => exact ⟨i + 1, by push_cast; rfl, by omega, HBE⟩
     ·go_simp
      have hba := (Below.refl V0.heap.size V0).alloc (Nat.le_refl _) (.cells #[.int .i64 0, .int .i64 0, .int .i64 0, .int .i64 0, .int .i64 0, .int .i64 0, .int .i64 0, .int .i64 0, .slice none 0 0, .slice none 0 0] 25)
      have HZ := Lib.hid (heap_alloc_new V0 (.cells #[.int .i64 0, .int .i64 0, .int .i64 0, .int .i64 0, .int .i64 0, .int .i64 0, .int .i64 0, .int .i64 0, .slice none 0 0, .slice none 0 0] 25))
      have hPw : w.heap.size ≤ V0.heap.size := HB.out.size
      have hPP : V0.heap.size ≠ P4 := by have := lt_some HF.out; omega
      have HB2 := Lib.hid (HB.out.trans (hba.mono HB.out.size))
      have HF2 := Lib.hid (hkeep hba HF.out)
      have HT2 := Lib.hid (HT.out.below hba)
      have hS := HSQ.out _ HB2.out
      clear HB HF HT
      have HB := HB2
      have HF := HF2
      have HT := HT2
      clear HB2 HF2 HT2
      clear hHeld hba
      refine hK.out _ _ hS (fun hHeld => ?_)
      clear hK K hS
      generalize V0.alloc (.cells #[.int .i64 0, .int .i64 0, .int .i64 0, .int .i64 0, .int .i64 0, .int .i64 0, .int .i64 0, .int .i64 0, .slice none 0 0, .slice none 0 0] 25) = V1 at HB hHeld HZ HF HT ⊢
      generalize V0.heap.size = P6 at HZ hPw hPP ⊢
      refine wpAnyH_ready (rs := [9]) (by kernel_rfl) (by simp) ?_
      refine AllReadyH.cons rfl (fun K hK => ?_) AllReadyH.nil
      go_simp
      refine (CT2 _ hHeld.1.2.1 hHeld.1.2.2.1 hHeld.2.2.1 hHeld.2.2.2.1).mono ?_
      rintro e V2 ⟨Bv, dv, rfl, hT, hb2⟩
      rw [HNM.out] at hT
      rw [HNM.out]
      have HB2 := Lib.hid (HB.out.trans (hb2.mono HB.out.size))
      have HF2 := Lib.hid (hkeep hb2 HF.out)
      have HT2 := Lib.hid (HT.out.below hb2)
      have HZ2 := Lib.hid (hkeep hb2 HZ.out)
      have hS := HSQ.out _ HB2.out
      have HU := Lib.hid hT
      clear HB HF HT HZ
      have HB := HB2
      have HF := HF2
      have HT := HT2
      have HZ := HZ2
      clear HB2 HF2 HT2 HZ2
      clear hHeld hT hb2
      go_wp2_with fail
      refine hK.out _ _ hS (fun hHeld => ?_)
      clear hK K hS
      refine tk 10 (v := ?_) rfl (by kernel_rfl) (fun _ _ _ h => h) ?_ hHeld ?_
      rotate_left
      ·(intro W hSw; clear hSw; go_simp; try with_reducible rfl)
      refine tk 11 (v := ?_) rfl (by kernel_rfl) (fun _ _ _ h => h) ?_ hHeld ?_
      rotate_left
      ·(intro W hSw; clear hSw; go_simp; try with_reducible rfl)
      refine tk 12 (v := ?_) rfl (by kernel_rfl) (fun _ _ _ h => h) ?_ hHeld ?_
      rotate_left
      ·(intro W hSw; clear hSw; go_simp; try with_reducible rfl)
      refine wpAnyH_ready (rs := [14]) (by kernel_rfl) (by simp) ?_
      refine AllReadyH.cons rfl (fun K hK => ?_) AllReadyH.nil
      have hz := tenc HZ.out
      have z0 := hz.1.1
      have z1 := hz.1.2.1
      have z2 := hz.1.2.2.1
      have z3 := hz.1.2.2.2.1
      have z4 := hz.1.2.2.2.2
      have z5 := hz.2.1
      have z6 := hz.2.2.1
      have z7 := hz.2.2.2.1
      have z8 := hz.2.2.2.2.1
      have z9 := hz.2.2.2.2.2
      have hf := froz HZ.out
      have f0 := hf.1
      have f1 := hf.2.1
      have f2 := hf.2.2.1
      have f3 := hf.2.2.2.1
      have f4 := hf.2.2.2.2.1
      have f5 := hf.2.2.2.2.2.1
      have f6 := hf.2.2.2.2.2.2.1
      have f7 := hf.2.2.2.2.2.2.2.1
      have f8 := hf.2.2.2.2.2.2.2.2.1
      have f9 := hf.2.2.2.2.2.2.2.2.2
      clear hz hf
      go_simp
      have hg := grown_put10 (W := V2) (B := P6) (.int .i64 Z.kind) (.int .i64 Z.from_) (.int .i64 Z.to_) (.int .i64 Z.gf) (.int .i64 Z.gt) (.int .i64 Z.ins) (.int .i64 Z.mark) (.int .i64 Z.val) (.slice Bv NM dv) (.slice none 0 0)
      have hZ2 := put10_at HZ.out (.int .i64 Z.kind) (.int .i64 Z.from_) (.int .i64 Z.to_) (.int .i64 Z.gf) (.int .i64 Z.gt) (.int .i64 Z.ins) (.int .i64 Z.mark) (.int .i64 Z.val) (.slice Bv NM dv) (.slice none 0 0)
      have hB2 := put10_below HB.out (B := P6) hPw (.int .i64 Z.kind) (.int .i64 Z.from_) (.int .i64 Z.to_) (.int .i64 Z.gf) (.int .i64 Z.gt) (.int .i64 Z.ins) (.int .i64 Z.mark) (.int .i64 Z.val) (.slice Bv NM dv) (.slice none 0 0)
      have hU2 := HU.out.grown hg HZ.out
      have hF2 := grown_at hg HF.out (fun e => hPP (Option.some.inj e))
      have hT2 := HT.out.grown hg HZ.out
      unfold put10 at hZ2 hB2 hU2 hF2 hT2
      have HZ2 := Lib.hid hZ2
      have HB2 := Lib.hid hB2
      have HU2 := Lib.hid hU2
      have HF2 := Lib.hid hF2
      have HT2 := Lib.hid hT2
      clear hg hZ2 hB2 hU2 hF2 hT2
      have hS := HSQ.out _ HB2.out
      clear hHeld z0 z1 z2 z3 z4 z5 z6 z7 z8 z9 f0 f1 f2 f3 f4 f5 f6 f7 f8 f9
      refine hK.out _ _ hS (fun hHeld => ?_)
      clear hK K hS hPw
      clear HZ HB HU HF HT
      have HZ := HZ2
      have HB := HB2
      have HU := HU2
      have HF := HF2
      have HT := HT2
      clear HZ2 HB2 HU2 HF2 HT2
      generalize World.setCell _ _ _ = V3 at HZ HB HU hHeld HF HT ⊢
      refine wpAnyH_ready (rs := [15]) (by kernel_rfl) (by simp) ?_
      refine AllReadyH.cons rfl (fun K hK => ?_) AllReadyH.nil
      go_simp
      refine hK.out _ _ hHeld (fun hHeld => ?_)
      clear hK K hHeld
      refine wpAnyH_done (by kernel_rfl) ?_ _
      clear hPP HSQ
      have q0 := tenc HF.out
      have q1 := tenc HZ.out
      obtain ⟨⟨y0, y1, y2, y3, y4⟩, y5, y6, y7, y8, y9⟩ := q0
      obtain ⟨⟨z0, z1, z2, z3, z4⟩, z5, z6, z7, z8, z9⟩ := q1
      have hok : (OK != OK) = false := by cases OK <;> rfl
      clear HF HZ CT1 CT2
      go_wp2_with fail
      refine (CS Av Bv cv dv _ HT.out.1 HU.out.1).mono ?_
      rintro e WE ⟨rfl, hbe⟩
      have HBE := Lib.hid (HB.out.trans (hbe.mono HB.out.size))
      clear hbe HB HT HU CS y0 y1 y2 y3 y4 y5 y6 y7 y8 y9 z0 z1 z2 z3 z4 z5 z6 z7 z8 z9 hok
      go_wp2
      go_roundw
      case measure => simp only [intOf]; omega
      case rel => exact ⟨i + 1, by push_cast; rfl, by omega, HBE⟩
   ·clear HSM HR
    go_wp2_with fail
    refine (HCA.out _ HB.out).mono ?_
    rintro e w2 ⟨v, pv, ps, rfl, hv, hp, hb2⟩
    have HB2 := Lib.hid (HB.out.trans (hb2.mono HB.out.size))
    have HV := Lib.hid hv
    have HP := Lib.hid hp
    clear hv hp hb2 HB HCA
    go_wp2_with fail
    refine (HCR.out _ HB2.out).mono ?_
    rintro e w3 ⟨v2, qs, rfl, hq, hb3⟩
    have HB3 := Lib.hid (HB2.out.trans (hb3.mono HB2.out.size))
    have HV3 := Lib.hid (HV.out.belowAll hb3)
    have HP3 := Lib.hid (HP.out.below hb3)
    have HQ3 := Lib.hid hq
    clear hq hb3 HB2 HV HP HCR
    go_wp2_with fail
    refine (rsteps_two HV3.out HP3.out HQ3.out HFS.out HFL.out).mono ?_
    rintro e w4 ⟨rfl, hb4⟩
    have HB4 := Lib.hid (HB3.out.trans (hb4.mono HB3.out.size))
    clear hb4 HB3 HV3 HP3 HQ3 HFS HFL
    go_wp2_with fail
    refine (live27_any _).mono ?_
    rintro e w5 ⟨rfl, hb5⟩
    have HB5 := Lib.hid (HB4.out.trans (hb5.mono HB4.out.size))
    clear hb5 HB4
    go_wp2
    go_ret
    exact ⟨rfl, HB5.out⟩
end Go.Proofs.Ytlbkfenlbkibgaa.St
