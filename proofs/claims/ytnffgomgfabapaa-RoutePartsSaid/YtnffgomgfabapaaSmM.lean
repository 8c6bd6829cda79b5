/- Walks: the reference's Invert. -/
import Derived.Test.YtnffgomgfabapaaSmL
import Derived.Test.YtnffgomgfabapaaSmF
import Derived.Test.YtnffgomgfabapaaSmMr
namespace Go.Proofs.Ytnffgomgfabapaa.Sm
open Go.RowKit Mem
set_option linter.unusedVariables false

set_option maxHeartbeats 4000000 in
theorem rinvert_any (l : List Rg) (A : Option Addr) (m c : Nat) (w : World) (hm : m ≤ 100) (hok : okTo l m) (hr : RLow w.heap.size w A m l) :
    Calls Try.prog 23 #[.slice A m c] w (RgsIs w (inv l)) := by
  have HR := Lib.hid hr
  have HL := Lib.hid hr.1
  have HOK := Lib.hid hok
  clear hr hok
  go_enter Try.func23, Try.ntmps23
  go_wp2
  go_loopw [3, 4] (fun s j wr => ∃ (i : Nat) (v : Value), i ≤ m ∧ j = .int .i64 i ∧ s = v ∧ Hid (Rgs w.heap.size wr v (invTo l i)) ∧ Hid (Below w.heap.size w wr)) (fun _ j _ => m - (intOf j).toNat)
  case atStart => exact ⟨0, _, by omega, rfl, rfl, Lib.hid Rgs.nil, Lib.hid (Below.refl _ _)⟩
  case round =>
    obtain ⟨i, v, hi, rfl, rfl, HO, HW⟩ := hrel
    have hws : w.heap.size ≤ wr.heap.size := HW.out.size
    obtain ⟨A1, c1', hv⟩ := HO.out.form
    rw [invTo_length] at hv
    subst hv
    by_cases hlt : i < m
    · obtain ⟨b, off, rfl, hb, hc⟩ := HR.out.2 (by omega)
      have HC : Hid (∀ W, Below w.heap.size w W → W.cell? ⟨b, off + i * 3, none⟩ = some (.int .i64 (rg l i).at_) ∧ W.cell? ⟨b, off + i * 3 + 1, none⟩ = some (.int .i64 (rg l i).old) ∧ W.cell? ⟨b, off + i * 3 + 2, none⟩ = some (.int .i64 (rg l i).new)) :=
        Lib.hid (fun W hW => ((hc i hlt).keep fun p => hW.cell (p := ⟨b, p, none⟩) hb).cells)
      have i1 : (0 : Int) ≤ (i : Int) := by omega
      have i2 : (i : Int) < (m : Int) := by omega
      have hf := (HOK.out i hlt).1
      have hs := far_sh (HOK.out.mono (by omega) : okTo l i) (by omega)
      have CS := fun W h => rshift_any w.heap.size l (some ⟨b, off, none⟩) m c i W HOK.out hm (by omega) (HR.out.below h (Nat.le_refl _))
      have HNX : Hid (invTo l (i + 1) = invTo l i ++ [⟨(rg l i).at_ + sh l i, (rg l i).new, (rg l i).old⟩]) := Lib.hid rfl
      unfold Rg.fits at hf
      unfold far at hs
      clear hc
      generalize rg l i = r at *
      generalize sh l i = zk at *
      obtain ⟨a, o, n⟩ := r
      try simp only at hf HC HNX
      have ew : IntKind.i64.wrap (a + zk) = a + zk := IntWalk.i64_in _ (by omega)
      have HC0 := Lib.hid (HC.out _ (below_drewN HW.out 1))
      go_wp2_with fail
      refine wp_region_held_drew (S := (fun W => W.cell? ⟨b, off + i * 3, none⟩ = some (.int .i64 a) ∧ W.cell? ⟨b, off + i * 3 + 1, none⟩ = some (.int .i64 o) ∧ W.cell? ⟨b, off + i * 3 + 2, none⟩ = some (.int .i64 n))) (by kernel_rfl) HC0.out (fun hHeld => ?_)
      have HO1 : Hid (Rgs w.heap.size wr.drew (.slice A1 i c1') (invTo l i)) := Lib.hid HO.out.drew
      have HW1 : Hid (Below w.heap.size w wr.drew) := Lib.hid (below_drewN HW.out 1)
      generalize wr.drew = W5 at hHeld HO1 HW1 ⊢
      clear HO HW HC0
      refine tk 0 (v := ?_) rfl (by kernel_rfl) (fun _ _ _ h => h) ?_ hHeld ?_
      rotate_left
      · (intro W hSw; (try dsimp only at hSw); go_simp; try with_reducible rfl)
      refine tk 1 (v := ?_) rfl (by kernel_rfl) (fun _ _ _ h => h) ?_ hHeld ?_
      rotate_left
      · (intro W hSw; (try dsimp only at hSw); go_simp; try with_reducible rfl)
      refine tk 2 (v := ?_) rfl (by kernel_rfl) (fun _ _ _ h => h) ?_ hHeld ?_
      rotate_left
      · (intro W hSw; (try dsimp only at hSw); go_simp; try with_reducible rfl)
      refine tk 3 (v := ?_) rfl (by kernel_rfl) (fun _ _ _ h => h) ?_ hHeld ?_
      rotate_left
      · (intro W hSw; (try dsimp only at hSw); go_simp; try with_reducible rfl)
      refine tk 4 (v := ?_) rfl (by kernel_rfl) (fun _ _ _ h => h) ?_ hHeld ?_
      rotate_left
      · (intro W hSw; (try dsimp only at hSw); go_simp; try with_reducible rfl)
      refine tk 5 (v := ?_) rfl (by kernel_rfl) (fun _ _ _ h => h) ?_ hHeld ?_
      rotate_left
      · (intro W hSw; (try dsimp only at hSw); go_simp; try with_reducible rfl)
      refine tk 6 (v := ?_) rfl (by kernel_rfl) (fun _ _ _ h => h) ?_ hHeld ?_
      rotate_left
      · (intro W hSw; (try dsimp only at hSw); go_simp; try with_reducible rfl)
      refine tk 7 (v := ?_) rfl (by kernel_rfl) (fun _ _ _ h => h) ?_ hHeld ?_
      rotate_left
      · (intro W hSw; (try dsimp only at hSw); go_simp; try with_reducible rfl)
      refine tk 10 (v := ?_) rfl (by kernel_rfl) (fun _ _ _ h => h) ?_ hHeld ?_
      rotate_left
      · (intro W hSw; (try dsimp only at hSw); go_simp; try with_reducible rfl)
      refine tk 11 (v := ?_) rfl (by kernel_rfl) (fun _ _ _ h => h) ?_ hHeld ?_
      rotate_left
      · (intro W hSw; (try dsimp only at hSw); go_simp; try with_reducible rfl)
      refine tk 12 (v := ?_) rfl (by kernel_rfl) (fun _ _ _ h => h) ?_ hHeld ?_
      rotate_left
      · (intro W hSw; (try dsimp only at hSw); go_simp; try with_reducible rfl)
      refine tk 13 (v := ?_) rfl (by kernel_rfl) (fun _ _ _ h => h) ?_ hHeld ?_
      rotate_left
      · (intro W hSw; (try dsimp only at hSw); go_simp; try with_reducible rfl)
      refine tk 14 (v := ?_) rfl (by kernel_rfl) (fun _ _ _ h => h) ?_ hHeld ?_
      rotate_left
      · (intro W hSw; (try dsimp only at hSw); go_simp; try with_reducible rfl)
      refine tk 15 (v := ?_) rfl (by kernel_rfl) (fun _ _ _ h => h) ?_ hHeld ?_
      rotate_left
      · (intro W hSw; (try dsimp only at hSw); go_simp; try with_reducible rfl)
      refine tk 16 (v := ?_) rfl (by kernel_rfl) (fun _ _ _ h => h) ?_ hHeld ?_
      rotate_left
      · (intro W hSw; (try dsimp only at hSw); go_simp; try with_reducible rfl)
      refine tk 17 (v := ?_) rfl (by kernel_rfl) (fun _ _ _ h => h) ?_ hHeld ?_
      rotate_left
      · (intro W hSw; (try dsimp only at hSw); go_simp; try with_reducible rfl)
      refine tk 18 (v := ?_) rfl (by kernel_rfl) (fun _ _ _ h => h) ?_ hHeld ?_
      rotate_left
      · (intro W hSw; (try dsimp only at hSw); go_simp; try with_reducible rfl)
      refine tk 19 (v := ?_) rfl (by kernel_rfl) (fun _ _ _ h => h) ?_ hHeld ?_
      rotate_left
      · (intro W hSw; (try dsimp only at hSw); go_simp; try with_reducible rfl)
      refine wpAnyH_ready (rs := [8]) (by kernel_rfl) (by simp) ?_
      refine AllReadyH.cons rfl (fun K hK => ?_) AllReadyH.nil
      go_simp
      refine (CS _ HW1.out).mono ?_
      rintro e W6 ⟨rfl, q, hq⟩
      have HO6 : Hid (Rgs w.heap.size W6 (.slice A1 i c1') (invTo l i)) := Lib.hid (by rw [hq]; exact HO1.out.drewN q)
      have HW6 : Hid (Below w.heap.size w W6) := Lib.hid (by rw [hq]; exact below_drewN HW1.out q)
      clear hq HO1 HW1 hHeld CS
      go_wp2_with fail
      refine hK.out _ _ (HC.out _ HW6.out) (fun hHeld => ?_)
      clear hK K
      refine tk 9 (v := ?_) rfl (by kernel_rfl) (fun _ _ _ h => h) ?_ hHeld ?_
      rotate_left
      · (intro W hSw; (try dsimp only at hSw); go_simp; try with_reducible rfl)
      refine tk 20 (v := ?_) rfl (by kernel_rfl) (fun _ _ _ h => h) ?_ hHeld ?_
      rotate_left
      · (intro W hSw; (try dsimp only at hSw); go_simp; try with_reducible rfl)
      refine wpAnyH_ready (rs := [21]) (by kernel_rfl) (by simp) ?_
      refine AllReadyH.cons rfl (fun K hK => ?_) AllReadyH.nil
      go_simp
      have HO7 := Lib.hid (HO6.out.alloc (.cells #[.int .i64 (a + zk), .int .i64 n, .int .i64 o] 56))
      have HW7 := Lib.hid (HW6.out.alloc HW6.out.size (.cells #[.int .i64 (a + zk), .int .i64 n, .int .i64 o] 56))
      have HN7 := Lib.hid (rrow_one W6 ⟨a + zk, n, o⟩)
      refine hK.out _ _ (HC.out _ HW7.out) (fun hHeld => ?_)
      clear hK K HO6 HW6
      refine wpAnyH_ready (rs := [22]) (by kernel_rfl) (by simp) ?_
      refine AllReadyH.cons rfl (fun K hK => ?_) AllReadyH.nil
      refine step_app_rg (by rfl) (.tmp 11) (.tmp 32) (by rfl) w.heap.size (.slice A1 i c1') (invTo l i) (by rfl) HO7.out _ 1 1 [⟨a + zk, n, o⟩] (by rfl) HN7.out (by rw [invTo_length]; omega) (HW7.out.size) ?_
      intro v' W8 hown hg hat
      have HO8 := Lib.hid hown
      have HW8 := Lib.hid (below_of_grown HW7.out hg HW7.out.size (fun k e => (HO7.out.block k e).1))
      clear hown hg hat hHeld HN7 HO7 HW7
      rw [← HNX.out] at HO8
      refine hK.out _ _ (HC.out _ HW8.out) (fun hHeld => ?_)
      clear hK K
      refine tk 23 (v := ?_) rfl (by kernel_rfl) (fun _ _ _ h => h) ?_ hHeld ?_
      rotate_left
      · (intro W hSw; (try dsimp only at hSw); go_simp; try with_reducible rfl)
      refine wpAnyH_done (by kernel_rfl) ?_ _
      clear hHeld
      go_wp2_with fail
      go_roundw
      case rel => exact ⟨i + 1, v', by omega, by go_num, rfl, HO8, HW8⟩
      case measure => simp [intOf]; omega
    · obtain rfl : i = m := by omega
      go_wp2
      go_ret
      exact ⟨_, rfl, by rw [inv, HL.out]; exact HO.out, HW.out⟩
end Go.Proofs.Ytnffgomgfabapaa.Sm
