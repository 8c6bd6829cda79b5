/- Walks: the reference's Recover and Invert. -/
import Derived.Test.YtmpcnnpekbbchaaSmL
import Derived.Test.YtmpcnnpekbbchaaSmF
namespace Go.Proofs.Ytmpcnnpekbbchaa.Sm
open Go.RowKit Mem
set_option linter.unusedVariables false

theorem RLow.next' {w W : World} {A : Option Addr} {m : Nat} {l : List Rg} (h : RLow w.heap.size w A m l) (hb : Below w.heap.size w W) : RLow W.heap.size W A m l := (h.below hb (Nat.le_refl _)).lift hb.size
noncomputable def recR (l : List Rg) (at_ off : Int) : Int := if recB l at_ off = true then recN l at_ off else -1
set_option maxHeartbeats 2000000 in
theorem rrecover_any (l : List Rg) (A : Option Addr) (m c : Nat) (at_ off : Int) (w : World) (hm : m ≤ 100) (hr : RLow w.heap.size w A m l) :
    Calls Try.prog 36 #[.slice A m c, .int .i64 at_, .int .i64 off] w fun e w' => e = .returned (.int .i64 (recR l at_ off)) ∧ Below w.heap.size w w' := by
  have HR := Lib.hid hr
  have HL := Lib.hid hr.1
  have CR := rright_any l A m c w hm hr
  obtain ⟨z, hz⟩ : ∃ z, z = recR l at_ off := ⟨_, rfl⟩
  rw [← hz]
  have HZ := Lib.hid hz
  have HNO : Hid (¬ recOk l at_ off → z = -1) := Lib.hid (fun h => by rw [hz, recR, recB_no h]; simp)
  clear hr hz
  go_enter Try.func36, Try.ntmps36
  go_wp2_with fail
  refine CR.mono ?_
  rintro e w1 ⟨rfl, hb1⟩
  have HB1 := Lib.hid hb1
  have HR1 := Lib.hid (HR.out.next' hb1)
  clear hb1 CR
  cases hrb : rightB l with
  | false =>
    have e : z = -1 := HNO.out (fun h => by rw [h.1] at hrb; cases hrb)
    clear HNO HZ
    subst e
    go_wp2
    go_ret
    exact ⟨rfl, HB1.out⟩
  | true =>
    have HRB := Lib.hid hrb
    by_cases h1 : at_ < 0
    · have e : z = -1 := HNO.out (fun ⟨_, k, _, h, _⟩ => by omega)
      clear HNO HZ
      subst e
      go_wp2
      go_ret
      exact ⟨rfl, HB1.out⟩
    · obtain ⟨k, rfl⟩ : ∃ k : Nat, at_ = k := ⟨at_.toNat, by omega⟩
      by_cases h2 : k < m
      · by_cases h3 : off < 0
        · have e : z = -1 := HNO.out (fun ⟨_, _, _, _, h, _⟩ => by omega)
          clear HNO HZ
          subst e
          go_wp2
          go_ret
          exact ⟨rfl, HB1.out⟩
        · have HOK : Hid (okTo l m) := Lib.hid (by rw [← HL.out]; exact right_of hrb)
          obtain ⟨b, off', rfl, hc⟩ := HR1.out.at_ (by omega)
          obtain ⟨c0, c1, c2⟩ := hc k h2
          have i1 : (0 : Int) ≤ (k : Int) := by omega
          have i2 : (k : Int) < (m : Int) := by omega
          clear hc
          by_cases h4 : off ≤ (rg l k).new
          · have e : z = (rg l k).at_ + sh l k + off := by
              have hk : recOk l (k : Int) off := ⟨HRB.out, k, by rw [HL.out]; exact h2, rfl, by omega, h4⟩
              rw [HZ.out, recR, if_pos (recB_yes hk), recN_yes hk]
            have hf := (HOK.out k h2).1
            have hs := far_sh (HOK.out.mono (by omega) : okTo l k) (by omega)
            have CS := fun q => rshift_any w1.heap.size l (some ⟨b, off', none⟩) m c k (w1.drewN q) HOK.out hm (by omega) (HR1.out.drewN q)
            unfold Rg.fits at hf
            unfold far at hs
            clear HNO HZ hrb
            generalize rg l k = r at *
            generalize sh l k = zk at *
            obtain ⟨a, o, n⟩ := r
            try simp only at c0 c1 c2 hf h4
            have h5 : decide (off > n) = false := decide_eq_false (by omega)
            simp only at e
            have HE := Lib.hid e
            clear e
            go_wp2_with fail
            go_quiet (first | (go_at_call 37; refine Calls.quiet_of (CS _)))
            go_wp2
            go_ret
            exact ⟨by rw [HE.out]; exact ret_int (by first | rfl | (rw [IntWalk.i64_in _ (by omega)]) | (unfold wrap64; omega)), below_drewN HB1.out _⟩
          · have e : z = -1 := HNO.out (fun ⟨_, j, _, h, _, h'⟩ => h4 (by
              have : j = k := by omega
              rw [this] at h'; exact h'))
            clear HNO HZ
            subst e
            generalize rg l k = r at *
            obtain ⟨a, o, n⟩ := r
            try simp only at c0 c1 c2 h4
            have h5 : decide (off > n) = true := decide_eq_true (by omega)
            go_wp2
            go_ret
            exact ⟨rfl, HB1.out⟩
      · have e : z = -1 := HNO.out (fun ⟨_, j, hj, h, _⟩ => by rw [HL.out] at hj; omega)
        have h2' : (k : Int) ≥ (m : Int) := by omega
        clear HNO HZ
        subst e
        go_wp2
        go_ret
        exact ⟨rfl, HB1.out⟩

set_option maxHeartbeats 4000000 in
theorem rinvert_any (l : List Rg) (A : Option Addr) (m c : Nat) (w : World) (hm : m ≤ 100) (hok : okTo l m) (hr : RLow w.heap.size w A m l) :
    Calls Try.prog 23 #[.slice A m c] w (RgsIs w (inv l)) := by
  have HR := Lib.hid hr
  have HL := Lib.hid hr.1
  have HOK := Lib.hid hok
  clear hr hok
  go_enter Try.func23, Try.ntmps23
  go_wp2
  go_loopw [3, 4] (fun s j wr => ∃ (i : Nat) (v : Value), i ≤ m ∧ j = .int .i64 i ∧ s = v ∧ Hid (Rgs w.heap.size wr v (invTo l i)) ∧ Hid (Below w.heap.size w wr)) (fun _ j _ => m - (intOf j).toNat)
  case atStart => exact ⟨0, _, by omega, rfl, rfl, Lib.hid Rgs.nil, Lib.hid (Below.refl _ _)⟩
  case round =>
    obtain ⟨i, v, hi, rfl, rfl, HO, HW⟩ := hrel
    have hws : w.heap.size ≤ wr.heap.size := HW.out.size
    obtain ⟨A1, c1', hv⟩ := HO.out.form
    rw [invTo_length] at hv
    subst hv
    by_cases hlt : i < m
    · obtain ⟨b, off, rfl, hb, hc⟩ := HR.out.2 (by omega)
      have HC : Hid (∀ W, Below w.heap.size w W → W.cell? ⟨b, off + i * 3, none⟩ = some (.int .i64 (rg l i).at_) ∧ W.cell? ⟨b, off + i * 3 + 1, none⟩ = some (.int .i64 (rg l i).old) ∧ W.cell? ⟨b, off + i * 3 + 2, none⟩ = some (.int .i64 (rg l i).new)) :=
        Lib.hid (fun W hW => ((hc i hlt).keep fun p => hW.cell (p := ⟨b, p, none⟩) hb).cells)
      have i1 : (0 : Int) ≤ (i : Int) := by omega
      have i2 : (i : Int) < (m : Int) := by omega
      have hf := (HOK.out i hlt).1
      have hs := far_sh (HOK.out.mono (by omega) : okTo l i) (by omega)
      have CS := fun W h => rshift_any w.heap.size l (some ⟨b, off, none⟩) m c i W HOK.out hm (by omega) (HR.out.below h (Nat.le_refl _))
      have HNX : Hid (invTo l (i + 1) = invTo l i ++ [⟨(rg l i).at_ + sh l i, (rg l i).new, (rg l i).old⟩]) := Lib.hid rfl
      unfold Rg.fits at hf
      unfold far at hs
      clear hc
      generalize rg l i = r at *
      generalize sh l i = zk at *
      obtain ⟨a, o, n⟩ := r
      try simp only at hf HC HNX
      have ew : IntKind.i64.wrap (a + zk) = a + zk := IntWalk.i64_in _ (by omega)
      have HC0 := Lib.hid (HC.out _ (below_drewN HW.out 1))
      go_wp2_with fail
      refine wp_region_held_drew (S := (fun W => W.cell? ⟨b, off + i * 3, none⟩ = some (.int .i64 a) ∧ W.cell? ⟨b, off + i * 3 + 1, none⟩ = some (.int .i64 o) ∧ W.cell? ⟨b, off + i * 3 + 2, none⟩ = some (.int .i64 n))) (by kernel_rfl) HC0.out (fun hHeld => ?_)
      have HO1 : Hid (Rgs w.heap.size wr.drew (.slice A1 i c1') (invTo l i)) := Lib.hid HO.out.drew
      have HW1 : Hid (Below w.heap.size w wr.drew) := Lib.hid (below_drewN HW.out 1)
      generalize wr.drew = W5 at hHeld HO1 HW1 ⊢
      clear HO HW HC0
      refine tk 0 (v := ?_) rfl (by kernel_rfl) (fun _ _ _ h => h) ?_ hHeld ?_
      rotate_left
      · (intro W hSw; (try dsimp only at hSw); go_simp; try with_reducible rfl)
      refine tk 1 (v := ?_) rfl (by kernel_rfl) (fun _ _ _ h => h) ?_ hHeld ?_
      rotate_left
      · (intro W hSw; (try dsimp only at hSw); go_simp; try with_reducible rfl)
      refine tk 2 (v := ?_) rfl (by kernel_rfl) (fun _ _ _ h => h) ?_ hHeld ?_
      rotate_left
      · (intro W hSw; (try dsimp only at hSw); go_simp; try with_reducible rfl)
      refine tk 3 (v := ?_) rfl (by kernel_rfl) (fun _ _ _ h => h) ?_ hHeld ?_
      rotate_left
      · (intro W hSw; (try dsimp only at hSw); go_simp; try with_reducible rfl)
      refine tk 4 (v := ?_) rfl (by kernel_rfl) (fun _ _ _ h => h) ?_ hHeld ?_
      rotate_left
      · (intro W hSw; (try dsimp only at hSw); go_simp; try with_reducible rfl)
      refine tk 5 (v := ?_) rfl (by kernel_rfl) (fun _ _ _ h => h) ?_ hHeld ?_
      rotate_left
      · (intro W hSw; (try dsimp only at hSw); go_simp; try with_reducible rfl)
      refine tk 6 (v := ?_) rfl (by kernel_rfl) (fun _ _ _ h => h) ?_ hHeld ?_
      rotate_left
      · (intro W hSw; (try dsimp only at hSw); go_simp; try with_reducible rfl)
      refine tk 7 (v := ?_) rfl (by kernel_rfl) (fun _ _ _ h => h) ?_ hHeld ?_
      rotate_left
      · (intro W hSw; (try dsimp only at hSw); go_simp; try with_reducible rfl)
      refine tk 10 (v := ?_) rfl (by kernel_rfl) (fun _ _ _ h => h) ?_ hHeld ?_
      rotate_left
      · (intro W hSw; (try dsimp only at hSw); go_simp; try with_reducible rfl)
      refine tk 11 (v := ?_) rfl (by kernel_rfl) (fun _ _ _ h => h) ?_ hHeld ?_
      rotate_left
      · (intro W hSw; (try dsimp only at hSw); go_simp; try with_reducible rfl)
      refine tk 12 (v := ?_) rfl (by kernel_rfl) (fun _ _ _ h => h) ?_ hHeld ?_
      rotate_left
      · (intro W hSw; (try dsimp only at hSw); go_simp; try with_reducible rfl)
      refine tk 13 (v := ?_) rfl (by kernel_rfl) (fun _ _ _ h => h) ?_ hHeld ?_
      rotate_left
      · (intro W hSw; (try dsimp only at hSw); go_simp; try with_reducible rfl)
      refine tk 14 (v := ?_) rfl (by kernel_rfl) (fun _ _ _ h => h) ?_ hHeld ?_
      rotate_left
      · (intro W hSw; (try dsimp only at hSw); go_simp; try with_reducible rfl)
      refine tk 15 (v := ?_) rfl (by kernel_rfl) (fun _ _ _ h => h) ?_ hHeld ?_
      rotate_left
      · (intro W hSw; (try dsimp only at hSw); go_simp; try with_reducible rfl)
      refine tk 16 (v := ?_) rfl (by kernel_rfl) (fun _ _ _ h => h) ?_ hHeld ?_
      rotate_left
      · (intro W hSw; (try dsimp only at hSw); go_simp; try with_reducible rfl)
      refine tk 17 (v := ?_) rfl (by kernel_rfl) (fun _ _ _ h => h) ?_ hHeld ?_
      rotate_left
      · (intro W hSw; (try dsimp only at hSw); go_simp; try with_reducible rfl)
      refine tk 18 (v := ?_) rfl (by kernel_rfl) (fun _ _ _ h => h) ?_ hHeld ?_
      rotate_left
      · (intro W hSw; (try dsimp only at hSw); go_simp; try with_reducible rfl)
      refine tk 19 (v := ?_) rfl (by kernel_rfl) (fun _ _ _ h => h) ?_ hHeld ?_
      rotate_left
      · (intro W hSw; (try dsimp only at hSw); go_simp; try with_reducible rfl)
      refine wpAnyH_ready (rs := [8]) (by kernel_rfl) (by simp) ?_
      refine AllReadyH.cons rfl (fun K hK => ?_) AllReadyH.nil
      go_simp
      refine (CS _ HW1.out).mono ?_
      rintro e W6 ⟨rfl, q, hq⟩
      have HO6 : Hid (Rgs w.heap.size W6 (.slice A1 i c1') (invTo l i)) := Lib.hid (by rw [hq]; exact HO1.out.drewN q)
      have HW6 : Hid (Below w.heap.size w W6) := Lib.hid (by rw [hq]; exact below_drewN HW1.out q)
      clear hq HO1 HW1 hHeld CS
      go_wp2_with fail
      refine hK.out _ _ (HC.out _ HW6.out) (fun hHeld => ?_)
      clear hK K
      refine tk 9 (v := ?_) rfl (by kernel_rfl) (fun _ _ _ h => h) ?_ hHeld ?_
      rotate_left
      · (intro W hSw; (try dsimp only at hSw); go_simp; try with_reducible rfl)
      refine tk 20 (v := ?_) rfl (by kernel_rfl) (fun _ _ _ h => h) ?_ hHeld ?_
      rotate_left
      · (intro W hSw; (try dsimp only at hSw); go_simp; try with_reducible rfl)
      refine wpAnyH_ready (rs := [21]) (by kernel_rfl) (by simp) ?_
      refine AllReadyH.cons rfl (fun K hK => ?_) AllReadyH.nil
      go_simp
      have HO7 := Lib.hid (HO6.out.alloc (.cells #[.int .i64 (a + zk), .int .i64 n, .int .i64 o] 56))
      have HW7 := Lib.hid (HW6.out.alloc HW6.out.size (.cells #[.int .i64 (a + zk), .int .i64 n, .int .i64 o] 56))
      have HN7 := Lib.hid (rrow_one W6 ⟨a + zk, n, o⟩)
      refine hK.out _ _ (HC.out _ HW7.out) (fun hHeld => ?_)
      clear hK K HO6 HW6
      refine wpAnyH_ready (rs := [22]) (by kernel_rfl) (by simp) ?_
      refine AllReadyH.cons rfl (fun K hK => ?_) AllReadyH.nil
      refine step_app_rg (by rfl) (.tmp 11) (.tmp 32) (by rfl) w.heap.size (.slice A1 i c1') (invTo l i) (by rfl) HO7.out _ 1 1 [⟨a + zk, n, o⟩] (by rfl) HN7.out (by rw [invTo_length]; omega) (HW7.out.size) ?_
      intro v' W8 hown hg hat
      have HO8 := Lib.hid hown
      have HW8 := Lib.hid (below_of_grown HW7.out hg HW7.out.size (fun k e => (HO7.out.block k e).1))
      clear hown hg hat hHeld HN7 HO7 HW7
      rw [← HNX.out] at HO8
      refine hK.out _ _ (HC.out _ HW8.out) (fun hHeld => ?_)
      clear hK K
      refine tk 23 (v := ?_) rfl (by kernel_rfl) (fun _ _ _ h => h) ?_ hHeld ?_
      rotate_left
      · (intro W hSw; (try dsimp only at hSw); go_simp; try with_reducible rfl)
      refine wpAnyH_done (by kernel_rfl) ?_ _
      clear hHeld
      go_wp2_with fail
      go_roundw
      case rel => exact ⟨i + 1, v', by omega, by go_num, rfl, HO8, HW8⟩
      case measure => simp [intOf]; omega
    · obtain rfl : i = m := by omega
      go_wp2
      go_ret
      exact ⟨_, rfl, by rw [inv, HL.out]; exact HO.out, HW.out⟩
end Go.Proofs.Ytmpcnnpekbbchaa.Sm
