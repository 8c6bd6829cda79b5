/- Welding: two rows of steps. -/
import Derived.Test.YtlbkfenlbkibgaaStX
set_option linter.unusedVariables false
set_option maxRecDepth 100000
set_option maxHeartbeats 4000000
namespace Go.Proofs.Ytlbkfenlbkibgaa.St
open Go.RowKit Mem Sm Tk Rt
set_option linter.unusedSimpArgs false
noncomputable def sameQ (p q : Sq) : Bool := sameS p.x q.x p.L q.L p.S q.S
noncomputable def rowsB (l k : List Sq) : Bool := @decide (l.length = k.length ∧ ∀ i, i < l.length → sameQ (sq l i) (sq k i) = true) (Classical.propDecidable _)
theorem rows_yes {l k : List Sq} (h : l.length = k.length ∧ ∀ i, i < l.length → sameQ (sq l i) (sq k i) = true) : rowsB l k = true := @decide_eq_true _ (Classical.propDecidable _) h
theorem rows_no {l k : List Sq} (h : ¬ (l.length = k.length ∧ ∀ i, i < l.length → sameQ (sq l i) (sq k i) = true)) : rowsB l k = false := @decide_eq_false _ (Classical.propDecidable _) h
theorem rsteps_any (l k : List Sq) (A A' : Option Addr) (c c' : Nat) (w : World) (h : SqRow w A l.length l) (h' : SqRow w A' k.length k) (hl : l.length ≤ 1000000) (hk : k.length ≤ 1000000)
  (hb : ∀ q, q ∈ l → q.n ≤ 1000000 ∧ q.m ≤ 1000000) (hb' : ∀ q, q ∈ k → q.n ≤ 1000000 ∧ q.m ≤ 1000000) :
  Calls Try.prog 29 #[.slice A l.length c, .slice A' k.length c'] w fun e w' => e = .returned (.bool (rowsB l k)) ∧ Below w.heap.size w w' := by
 have HR := Lib.hid h
 have HR' := Lib.hid h'
 have HBL := Lib.hid hb
 have HBK := Lib.hid hb'
 clear h h' hb hb'
 obtain ⟨F, hF⟩ : ∃ F, F = rowsB l k := ⟨_, rfl⟩
 have HFN : Hid (¬ (l.length = k.length ∧ ∀ i, i < l.length → sameQ (sq l i) (sq k i) = true) → F = false) := Lib.hid (fun a => by rw [hF]; exact rows_no a)
 have HFY : Hid ((l.length = k.length ∧ ∀ i, i < l.length → sameQ (sq l i) (sq k i) = true) → F = true) := Lib.hid (fun a => by rw [hF]; exact rows_yes a)
 rw [← hF]
 clear hF
 by_cases he : (l.length : Int) = (k.length : Int)
 ·have hlk : l.length = k.length := by omega
  obtain ⟨N, hN⟩ : ∃ N, N = l.length := ⟨_, rfl⟩
  have HN1 : Hid (l.length = N) := Lib.hid hN.symm
  have HN2 : Hid (k.length = N) := Lib.hid (by omega)
  rw [HN1.out] at HR hl
  rw [HN2.out] at HR' hk
  rw [HN1.out, HN2.out]
  clear he hlk hN
  go_enter Try.func29, Try.ntmps29
  go_wp2_with fail
  go_loopw [5] (fun iv wr => ∃ i : Nat, iv = .int .i64 i ∧ i ≤ N ∧ Hid (∀ j, j < i → sameQ (sq l j) (sq k j) = true) ∧ Hid (Below w.heap.size w wr)) (fun iv _ => N - (intOf iv).toNat)
  case atStart => exact ⟨0, rfl, by omega, Lib.hid (fun j h => by omega), Lib.hid (Below.refl _ _)⟩
  case round =>
   obtain ⟨i, rfl, hi, HK, HB⟩ := hrel
   by_cases h1 : (i : Int) < (N : Int)
   ·have hiN : i < N := by omega
    obtain ⟨b, off, rfl, hbb, hc⟩ := (HR.out.below HB.out).2 (Nat.lt_of_le_of_lt (Nat.zero_le i) hiN)
    obtain ⟨b', off', rfl, hbb', hc'⟩ := (HR'.out.below HB.out).2 (Nat.lt_of_le_of_lt (Nat.zero_le i) hiN)
    have hq := hc i hiN
    have hq' := hc' i hiN
    have hp := HBL.out (sq l i) (by rw [sq_at (by rw [HN1.out]; exact hiN)]; exact List.getElem_mem _)
    have hp' := HBK.out (sq k i) (by rw [sq_at (by rw [HN2.out]; exact hiN)]; exact List.getElem_mem _)
    have HFNI : Hid (sameQ (sq l i) (sq k i) = false → F = false) := Lib.hid (fun a => HFN.out (fun g => by have := g.2 i (by rw [HN1.out]; exact hiN); rw [a] at this; cases this))
    have HKS : Hid (sameQ (sq l i) (sq k i) = true → ∀ j, j < i + 1 → sameQ (sq l j) (sq k j) = true) := Lib.hid (fun hy j hj => by
     by_cases g : j = i
     ·subst g; exact hy
     ·exact HK.out j (by omega))
    clear hc hc'
    generalize sq l i = q at hq hp HFNI HKS
    generalize sq k i = q' at hq' hp' HFNI HKS
    have CS := fun W g1 g2 g3 g4 => rssame_any q.x q'.x q.L q'.L q.S q'.S q.A q'.A q.B q'.B q.n q'.n q.m q'.m q.c q'.c q.d q'.d W (by omega) (by omega) (by omega) (by omega) g1 g2 g3 g4
    obtain ⟨b1, hb1⟩ : ∃ b, b = sameQ q q' := ⟨_, rfl⟩
    have hb2 : sameS q.x q'.x q.L q'.L q.S q'.S = b1 := hb1.symm
    rw [← hb1] at HFNI HKS
    simp only [hb2] at CS
    clear hb1 hb2 hp hp'
    unfold stV stC at CS
    have i1 : (0 : Int) ≤ (i : Int) := by omega
    have hwi : wrap64 ((i : Int) + 1) = (i : Int) + 1 := by unfold wrap64; omega
    go_upto_region 6 with fail
    refine wp_region_held_drew (S := fun W => SqAt W b (off + i * 10) q ∧ SqAt W b' (off' + i * 10) q') (by kernel_rfl) ⟨hq.below (below_drewN (Below.refl _ _) 1) hbb, hq'.below (below_drewN (Below.refl _ _) 1) hbb'⟩ (fun hHeld => ?_)
    have HB1 : Hid (Below w.heap.size w wr.drew) := Lib.hid (below_drewN HB.out 1)
    have hbb1 : b < wr.drew.heap.size := hbb
    have hbb2 : b' < wr.drew.heap.size := hbb'
    clear HB hq hq' hbb hbb'
    generalize wr.drew = W1 at HB1 hbb1 hbb2 hHeld ⊢
    refine tk 0 (v := ?_) rfl (by kernel_rfl) (fun _ _ _ h => h) ?_ hHeld ?_
    rotate_left
    ·(intro W hSw; (try dsimp only at hSw); obtain ⟨hs1, hs2⟩ := hSw; obtain ⟨⟨y0, y1, y2, y3, y4⟩, y5, y6, y7, y8, y9⟩ := hs1.cells; obtain ⟨⟨z0, z1, z2, z3, z4⟩, z5, z6, z7, z8, z9⟩ := hs2.cells; go_simp; try with_reducible rfl)
    refine tk 1 (v := ?_) rfl (by kernel_rfl) (fun _ _ _ h => h) ?_ hHeld ?_
    rotate_left
    ·(intro W hSw; (try dsimp only at hSw); obtain ⟨hs1, hs2⟩ := hSw; obtain ⟨⟨y0, y1, y2, y3, y4⟩, y5, y6, y7, y8, y9⟩ := hs1.cells; obtain ⟨⟨z0, z1, z2, z3, z4⟩, z5, z6, z7, z8, z9⟩ := hs2.cells; go_simp; try with_reducible rfl)
    refine tk 2 (v := ?_) rfl (by kernel_rfl) (fun _ _ _ h => h) ?_ hHeld ?_
    rotate_left
    ·(intro W hSw; (try dsimp only at hSw); obtain ⟨hs1, hs2⟩ := hSw; obtain ⟨⟨y0, y1, y2, y3, y4⟩, y5, y6, y7, y8, y9⟩ := hs1.cells; obtain ⟨⟨z0, z1, z2, z3, z4⟩, z5, z6, z7, z8, z9⟩ := hs2.cells; go_simp; try with_reducible rfl)
    refine tk 3 (v := ?_) rfl (by kernel_rfl) (fun _ _ _ h => h) ?_ hHeld ?_
    rotate_left
    ·(intro W hSw; (try dsimp only at hSw); obtain ⟨hs1, hs2⟩ := hSw; obtain ⟨⟨y0, y1, y2, y3, y4⟩, y5, y6, y7, y8, y9⟩ := hs1.cells; obtain ⟨⟨z0, z1, z2, z3, z4⟩, z5, z6, z7, z8, z9⟩ := hs2.cells; go_simp; try with_reducible rfl)
    refine tk 4 (v := ?_) rfl (by kernel_rfl) (fun _ _ _ h => h) ?_ hHeld ?_
    rotate_left
    ·(intro W hSw; (try dsimp only at hSw); obtain ⟨hs1, hs2⟩ := hSw; obtain ⟨⟨y0, y1, y2, y3, y4⟩, y5, y6, y7, y8, y9⟩ := hs1.cells; obtain ⟨⟨z0, z1, z2, z3, z4⟩, z5, z6, z7, z8, z9⟩ := hs2.cells; go_simp; try with_reducible rfl)
    refine tk 5 (v := ?_) rfl (by kernel_rfl) (fun _ _ _ h => h) ?_ hHeld ?_
    rotate_left
    ·(intro W hSw; (try dsimp only at hSw); obtain ⟨hs1, hs2⟩ := hSw; obtain ⟨⟨y0, y1, y2, y3, y4⟩, y5, y6, y7, y8, y9⟩ := hs1.cells; obtain ⟨⟨z0, z1, z2, z3, z4⟩, z5, z6, z7, z8, z9⟩ := hs2.cells; go_simp; try with_reducible rfl)
    refine tk 6 (v := ?_) rfl (by kernel_rfl) (fun _ _ _ h => h) ?_ hHeld ?_
    rotate_left
    ·(intro W hSw; (try dsimp only at hSw); obtain ⟨hs1, hs2⟩ := hSw; obtain ⟨⟨y0, y1, y2, y3, y4⟩, y5, y6, y7, y8, y9⟩ := hs1.cells; obtain ⟨⟨z0, z1, z2, z3, z4⟩, z5, z6, z7, z8, z9⟩ := hs2.cells; go_simp; try with_reducible rfl)
    refine tk 7 (v := ?_) rfl (by kernel_rfl) (fun _ _ _ h => h) ?_ hHeld ?_
    rotate_left
    ·(intro W hSw; (try dsimp only at hSw); obtain ⟨hs1, hs2⟩ := hSw; obtain ⟨⟨y0, y1, y2, y3, y4⟩, y5, y6, y7, y8, y9⟩ := hs1.cells; obtain ⟨⟨z0, z1, z2, z3, z4⟩, z5, z6, z7, z8, z9⟩ := hs2.cells; go_simp; try with_reducible rfl)
    refine wpAnyH_ready (rs := [8]) (by kernel_rfl) (by simp) ?_
    refine AllReadyH.cons rfl (fun K hK => ?_) AllReadyH.nil
    go_simp
    refine (CS _ hHeld.1.2.1 hHeld.2.2.1 hHeld.1.2.2.1 hHeld.2.2.2.1).mono ?_
    rintro e W2 ⟨rfl, hb2⟩
    have HB2 := Lib.hid (HB1.out.trans (hb2.mono HB1.out.size))
    have hsz := HB1.out.size
    have hS2 := And.intro (hHeld.1.below hb2 hbb1) (hHeld.2.below hb2 hbb2)
    clear hb2 HB1 CS hHeld
    go_wp2_with fail
    refine hK.out _ _ hS2 (fun hHeld => ?_)
    clear hK K hS2
    refine wpAnyH_ready (rs := [9]) (by kernel_rfl) (by simp) ?_
    refine AllReadyH.cons rfl (fun K hK => ?_) AllReadyH.nil
    go_simp
    refine hK.out _ _ hHeld (fun hHeld => ?_)
    clear hK K hHeld
    refine wpAnyH_done (by kernel_rfl) ?_ _
    cases b1 with
    | false =>
     have hF := HFNI.out rfl
     subst hF
     clear HFN HFY HFNI HKS
     go_wp2
     go_ret
     exact ⟨rfl, HB2.out⟩
    | true =>
     have HK2 := Lib.hid (HKS.out rfl)
     clear HKS HK HFNI
     go_wp2
     go_roundw
     case measure => simp only [intOf]; omega
     case rel => exact ⟨i + 1, by push_cast; rfl, by omega, HK2, HB2⟩
   ·have hF := HFY.out ⟨by rw [HN1.out, HN2.out], fun j hj => HK.out j (by rw [HN1.out] at hj; omega)⟩
    subst hF
    clear HFN HFY
    go_wp2
    go_ret
    exact ⟨rfl, HB.out⟩
 ·have hF := HFN.out (fun g => by omega)
  subst hF
  clear HFN HFY
  go_enter Try.func29, Try.ntmps29
  go_wp2
  go_ret
  exact ⟨rfl, Below.refl _ _⟩
end Go.Proofs.Ytlbkfenlbkibgaa.St
