/- Walks for the law BagAll: the body that collects, and what All hands back, called with it. -/
import Derived.Test.YtlnljgfppipceaaDoorBgH
namespace Go.Proofs.YtlnljgfppipceaaDoor.Bg
open Go.RowKit Mem
set_option linter.unusedVariables false

/-- what has been collected: in its box, beside the box of how many are wanted -/
def Got (n₀ gb mb : Nat) (mo : Int) (w0 : World) (pre : List Int) (W : World) : Prop :=
  (∃ v, Boxed W gb 22 v ∧ W.ownsRow n₀ 3 1 v pre.length (pre.map (Value.int .i64))) ∧ Boxed W mb 5 (.int .u8 mo) ∧ Below n₀ w0 W ∧ n₀ ≤ W.heap.size

set_option maxRecDepth 100000 in
set_option maxHeartbeats 1000000 in
theorem yield_any (n₀ gb mb : Nat) (mo : Int) (w0 : World) (hg : n₀ ≤ gb) (hne : mb ≠ gb) (hmo0 : 0 ≤ mo) (hmo1 : mo ≤ 255) (pre : List Int) (y : Int) (W : World) (h : Got n₀ gb mb mo w0 pre W) (hlen : pre.length < 256) :
    Calls Tryd.prog 21 #[.int .i64 y, .pointer (some ⟨gb, 0, none⟩), .pointer (some ⟨mb, 0, none⟩)] W fun e W' =>
      e = .returned (.bool (decide ((pre.length : Int) + 1 < mo))) ∧ Got n₀ gb mb mo w0 (pre ++ [y]) W' ∧ Below n₀ W W' := by
  obtain ⟨i0, hi, hz0, hz1, hz2⟩ := info_parts info_i64
  obtain ⟨⟨v, hv, hrow⟩, hm, hB, hle⟩ := h
  have hc := hv.cell
  have hmc := hm.cell
  have HM := Lib.hid hm
  have HB := Lib.hid hB
  have hnr := hm.not_row (t := 5) (e := 3) (by decide) hrow
  have HNR := Lib.hid hnr
  obtain ⟨k, hk⟩ : ∃ k, k = pre.length := ⟨_, rfl⟩
  rw [← hk] at hrow hlen ⊢
  have HK := Lib.hid hk
  clear hm hB hnr hk
  have h2 : (k : Int) + 1 < 300 := by omega
  by_cases h1 : (k : Int) + 1 < mo
  all_goals
    go_enter Tryd.func21, Tryd.ntmps21
    go_wp2_with (at_builtin; refine wpList_append_own _ rfl _ _ 22 rfl n₀ 3 i0 (.int .i64 0) 1 8 Tryd.underlying22 hi hz0 hz1 hz2 rfl (by decide) _ _ _ rfl (hrow.alloc _) ⟨W.heap.size, 0, none⟩ 1 1 [.int .i64 y] rfl rfl (cell_one_new _ _ _) (by simp [Value.oneCell']) (by unfold maxLen; omega) (by omega) (by simp; omega) ?_; intro v' w1 hown' hgrow _; obtain ⟨g', cap', rfl⟩ := ownsRow_succ hown'; obtain ⟨hv1, hv2, hr2, hk2, hb2⟩ := hv.appended (by decide) hrow hle hg hown' hgrow; have hc1 := hv1.cell; have hf1 := hv1.frozen; have hM1 := Lib.hid ((HM.out.alloc (.cells #[.int .i64 y] 3)).kept hgrow HNR.out); have hM2 := Lib.hid (hM1.out.other (B' := gb) hne (.slice (some ⟨g', 0, none⟩) (k + 1) cap')); have hmc2 := hM2.out.cell; have hc2 := hv2.cell)
    go_ret
    refine ⟨ret_bool ?_, ⟨⟨_, hv2, by simpa [HK.out] using hr2⟩, hM2.out, HB.out.trans hb2, Nat.le_trans hle hb2.size⟩, hb2⟩
    simp [h1]
  
set_option maxRecDepth 100000 in
set_option maxHeartbeats 2000000 in
theorem all1_call (n₀ gb mb Bn : Nat) (mo : Int) (w0 : World) (hg : n₀ ≤ gb) (hne : mb ≠ gb) (hmo0 : 1 ≤ mo) (hmo1 : mo ≤ 255) (x : Bag) (hx : x.ok) (W : World) (hBn : At W Bn x) (hT : Tab W) (hn0 : 0 < n₀) (h : Got n₀ gb mb mo w0 [] W) :
    Calls Tryd.prog 24 #[.func (.func 21) #[] #[.pointer (some ⟨gb, 0, none⟩), .pointer (some ⟨mb, 0, none⟩)], .pointer (some ⟨Bn, 0, none⟩)] W fun e W' =>
      (∃ v, e = .returned v) ∧ Got n₀ gb mb mo w0 (x.list.take mo.toNat) W' := by
  obtain ⟨c0, c1, c2, c3, _⟩ := hBn.cell
  have HT := Lib.hid hT
  have H0 := Lib.hid h
  have HX := Lib.hid hx
  have HL := Lib.hid (list_length_le x)
  clear hT h hx hBn
  go_enter Tryd.func24, Tryd.ntmps24
  go_wp2
  go_loopw [7] (fun i wr => ∃ k : Nat, k ≤ 4 ∧ i = .int .i64 k ∧ Hid (Got n₀ gb mb mo w0 (pf x k) wr) ∧ Hid (((pf x k).length : Int) < mo) ∧ Hid (Tab wr)) (fun i _ => 4 - (intOf i).toNat)
  case atStart => exact ⟨0, by omega, rfl, H0, by show _ < _; simp [pf_zero]; omega, HT⟩
  case round =>
    obtain ⟨k, hk, rfl, hJ, hlm, hTr⟩ := hrel
    by_cases hlt : k < 4
    · have hix := ix_any x k hlt
      have hd4 : decide ((k : Int) < 4) = true := by simp; omega
      have HPS := Lib.hid (pf_succ x k hlt)
      have HPP := Lib.hid (pf_pre x (k + 1) (by omega))
      go_wp2
      obtain ⟨wo, rfl⟩ : ∃ wo : World, wo = wr := ⟨_, rfl⟩
      go_loopw [4] (fun v wr => ∃ (u : Nat) (pre : List Int), v = .int .u64 u ∧ Hid (u < 18446744073709551616) ∧ Hid (Got n₀ gb mb mo w0 pre wr) ∧ Hid ((pre.length : Int) < mo) ∧ Hid (Tab wr) ∧ Hid (pre ++ (bitsOf u).map (fun j => ((64 * k + j : Nat) : Int)) = pf x (k + 1))) (fun v _ => (intOf v).toNat)
      case atStart => exact ⟨x.word k, pf x k, rfl, word_lt HX.out k, hJ, hlm, hTr, HPS.out.symm⟩
      case round =>
        obtain ⟨u, pre, rfl, hu, hJ2, hl2, hT2, hpre⟩ := hrel
        by_cases hu0 : u = 0
        · subst hu0
          go_wp2
          go_roundw
          case rel =>
            have h := hpre.out
            rw [bits_zero] at h
            simp at h
            exact ⟨k + 1, by omega, by go_num, by rw [← h]; exact hJ2, by rw [← h]; exact hl2, hT2⟩
          case measure => simp [intOf]; omega
        · have hd : ((u : Int) != 0) = true := by simp; omega
          have HB := Lib.hid (bits_cons hu0 hu.out)
          have HC := Lib.hid (clear_lt hu0 hu.out)
          have HD := Lib.hid hu0
          clear hu0
          have hc64 : Lib.ctz 64 u < 64 := bits_lt (w := u) (by rw [HB.out]; simp)
          obtain ⟨z, hz⟩ : ∃ z, z = Lib.ctz 64 u := ⟨_, rfl⟩
          rw [← hz] at hc64
          have HZ := Lib.hid hz
          have hlen : pre.length < 256 := by
            have h1 := hpre.out
            rw [HB.out] at h1
            have h2 := HPP.out.length_le
            rw [← h1] at h2
            have h3 := HL.out
            simp at h2; omega
          have HLEN := Lib.hid hlen
          have HE : Hid (bits .and .u64 (u : Int) (IntKind.u64.wrap ((u : Int) - 1)) = ((u &&& (u - 1) : Nat) : Int)) := by
            show _ = _
            have h1 := hu.out
            have h2 := HD.out
            rw [show ((u : Int) - 1) = ((u - 1 : Nat) : Int) from by omega, wrap_nat _ (by omega), u64_and_nat _ _ h1 (by omega)]
          have HQ : Hid ((pre ++ [(k : Int) * 64 + (z : Int)]) ++ (bitsOf (u &&& (u - 1))).map (fun j => ((64 * k + j : Nat) : Int)) = pf x (k + 1)) := by
            show _ = _
            have h1 := hpre.out
            rw [HB.out, List.map_cons, ← HZ.out, show ((64 * k + z : Nat) : Int) = (k : Int) * 64 + (z : Int) from by omega] at h1
            rw [← h1, List.append_assoc]; rfl
          clear hz hlen
          by_cases hgo : (pre.length : Int) + 1 < mo
          · have HG := Lib.hid hgo
            clear hgo
            go_wp2_with (first
              | (go_at_call 25; refine (tz_any u hu.out HD.out _ hT2.out).mono ?_; rw [← HZ.out]; rintro e w' ⟨rfl, rfl⟩)
              | (go_at_call 21; refine (yield_any n₀ gb mb mo w0 hg hne (by omega) hmo1 pre _ _ hJ2.out HLEN.out).mono ?_; rw [decide_eq_true HG.out]; rintro e W3 ⟨rfl, hJ3, hb3⟩; have HJ3 := Lib.hid hJ3; have HT3 := Lib.hid (hT2.out.below hb3 hn0); clear hJ3 hb3))
            go_roundw
            case rel => exact ⟨u &&& (u - 1), _, by rw [HE.out], Nat.lt_of_lt_of_le HC.out (Nat.le_of_lt hu.out), HJ3, by show _ < _; have := HG.out; simpa using this, HT3, HQ⟩
            case measure => rw [HE.out]; simpa [intOf] using HC.out
          · have HG := Lib.hid hgo
            clear hgo
            go_wp2_with (first
              | (go_at_call 25; refine (tz_any u hu.out HD.out _ hT2.out).mono ?_; rw [← HZ.out]; rintro e w' ⟨rfl, rfl⟩)
              | (go_at_call 21; refine (yield_any n₀ gb mb mo w0 hg hne (by omega) hmo1 pre _ _ hJ2.out HLEN.out).mono ?_; rw [decide_eq_false (Int.not_lt.2 HG.out)]; rintro e W3 ⟨rfl, hJ3, hb3⟩; have HJ3 := Lib.hid hJ3; clear hJ3 hb3))
            refine bodyPost_ret (results_none rfl _ _ _) rfl ?_
            refine ⟨⟨_, rfl⟩, ?_⟩
            have h1 := HPP.out
            rw [← HQ.out] at h1
            have h2 := List.IsPrefix.trans (List.prefix_append _ _) h1
            have h3 : (pre ++ [(k : Int) * 64 + (z : Int)]).length = mo.toNat := by
              have a1 := HG.out
              have a2 := hl2.out
              simp; omega
            rw [← h3, ← List.prefix_iff_eq_take.1 h2]
            exact HJ3.out
    · obtain rfl : k = 4 := by omega
      go_wp2
      go_end0
      refine ⟨⟨_, rfl⟩, ?_⟩
      have h1 := hlm.out
      rw [pf_all] at h1
      rw [List.take_of_length_le (by omega), ← pf_all]
      exact hJ.out
end Go.Proofs.YtlnljgfppipceaaDoor.Bg
