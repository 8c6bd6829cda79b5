/- The law QueueDrains, walked: none is wanted. -/
import Derived.Test.YtlnljgfppipceabQuR
namespace Go.Proofs.Ytlnljgfppipceab.Qu
open Go.RowKit Go.Shelf Mem
set_option linter.unusedVariables false

set_option maxRecDepth 1000000 in
set_option maxHeartbeats 8000000 in
theorem drains_none (A : Option Addr) (n c : Nat) (zs : List Int) (mo : Int) (w : World) (hr : Row .i64 w A n zs) (hmo0 : 0 ≤ mo) (hmo1 : mo ≤ 255) (hbig : ¬ 200 < n) (HP : Hid (mo = 0)) :
    Calls Try.prog 4 #[.slice A n c, .int .u8 mo] w fun e w' => e = .returned (.bool true) ∧ Below w.heap.size w w' := by
  have HR := Lib.hid hr
  obtain ⟨i0, hi, hz0, hz1, hz2⟩ := info_parts info_i64
  clear hr
  have hb0 := (Below.refl _ w).alloc (Nat.le_refl _) (.cells #[.slice A n c] 41)
  have hbx := Boxed.new w 41 (.slice A n c)
  have hmx := Boxed.new (w.alloc (.cells #[.slice A n c] 41)) 5 (.int .u8 mo)
  simp only [World.size_alloc] at hmx
  have hb1 := hb0.alloc (by simp) (.cells #[.int .u8 mo] 5)
  obtain ⟨K, hK⟩ : ∃ K : Nat → Int, K = fun j => zs.getD j 0 := ⟨_, rfl⟩
  have HK := Lib.hid hK
  have HM0 : Hid (Md w A n c mo K (.slice none 0 0) (.slice none 0 0) 0 0 0 (((w.alloc (.cells #[.slice A n c] 41)).alloc (.cells #[.int .u8 mo] 5)).alloc (.cells #[.slice none 0 0, .int .i64 0] 32))) := by
    have g0 := G.new (base := w.heap.size) ((w.alloc (.cells #[.slice A n c] 41)).alloc (.cells #[.int .u8 mo] 5)) (by simp; omega)
    simp only [World.size_alloc] at g0
    exact ⟨(hbx.alloc _).alloc _, hmx.alloc _, g0, POwn.nil, World.ownsRow_nil _ _ _ _, hb1.alloc (by simp; omega) _, by simp⟩
  have hc0 := (hbx.alloc (.cells #[.int .u8 mo] 5)).cell
  clear hK hbx hmx hb0 hb1
  go_enter Try.func4, Try.ntmps4
  go_wp2
  go_loopw [6, 7, 8] (fun vl vp i wr => ∃ k : Nat, k ≤ n ∧ i = .int .i64 k ∧ Hid (Md w A n c mo K vl vp k k k wr) ∧ Hid (n = 0 → vl = .slice none 0 0 ∧ vp = .slice none 0 0)) (fun _ _ i _ => n - (intOf i).toNat)
  case atStart => exact ⟨0, Nat.zero_le _, rfl, HM0, fun _ => ⟨rfl, rfl⟩⟩
  case round =>
    obtain ⟨k, hk, rfl, hM, hZ⟩ := hrel
    have kx := hM.out.kx.cell
    by_cases hlt : k < n
    · obtain ⟨b, off, rfl, hb, hc⟩ := HR.out.at_ (by omega)
      have c0 := hc k hlt
      rw [show zs.getD k 0 = K k from by rw [HK.out]] at c0
      have d0 := (hM.out.bel.cell (p := ⟨b, off + k, none⟩) hb).trans c0
      have C0 := Lib.hid c0
      have i1 : (0 : Int) ≤ (k : Int) := by omega
      have i2 : (k : Int) < (n : Int) := by omega
      have HIT := Lib.hid (its_succ K k)
      have HIL := Lib.hid (its_length K k)
      have HPS := Lib.hid (places_succ k)
      clear hc c0
      go_wp2_with fail
      refine (gput _ (its K k) k (K k) (k : Int) _ hM.out.q (by rw [HIL.out]; omega) (by omega)).mono ?_
      rintro e w1 ⟨⟨u1, rfl⟩, hg1, hf1⟩
      rw [← HIT.out] at hg1
      have HM1 := Lib.hid (hM.out.put hg1 hf1)
      have kx1 := HM1.out.kx.cell
      have e1 := (HM1.out.bel.cell (p := ⟨b, off + k, none⟩) hb).trans C0.out
      obtain ⟨y, hy⟩ : ∃ y, y = K k := ⟨_, rfl⟩
      obtain ⟨a, ha⟩ : ∃ a : It, a = ⟨K k, k, (k : Int)⟩ := ⟨_, rfl⟩
      have HIT2 : Hid (its K (k + 1) = its K k ++ [a]) := by rw [ha]; exact HIT.out
      have HN2 : Hid (∀ (j : Nat) (u : Value), (cells2 [a])[j]? = some u → (w1.alloc (.cells #[.int .i64 y, .int .i64 (k : Int)] 37)).cell? ((⟨w1.heap.size, 0, none⟩ : Addr).add j) = some u) := by
        rw [ha, hy]; exact World.news_of_block (heap_alloc_new w1 (.cells #[.int .i64 (K k), .int .i64 (k : Int)] 37))
      rw [← hy] at e1 d0
      have HM2 := Lib.hid (HM1.out.step ((Below.refl _ w1).alloc (Nat.le_refl _) (.cells #[.int .i64 y, .int .i64 (k : Int)] 37)))
      clear hg1 hf1 ha d0 hy
      go_wp2_with (first
        | (at_builtin; (refine wpList_app2 rfl (.tmp 33) (.tmp 40) rfl (w.heap.size + 3) _ (its K k) rfl HM2.out.x ⟨w1.heap.size, 0, none⟩ 1 1 [a] rfl rfl HN2.out (by rw [HIL.out]; omega) HM2.out.sz ?_); intro v3 w3 ho3 hg3 hat3; rw [← HIT2.out] at ho3; have HM3 := Lib.hid (HM2.out.appX hg3 ho3); have hs3 := HM3.out.sz; clear ho3 hg3 hat3)
        | (at_builtin; (refine wpList_append_own _ rfl _ _ 41 rfl (w.heap.size + 3) 3 i0 (.int .i64 0) 1 8 Try.underlying41 hi hz0 hz1 hz2 rfl (by decide) _ _ _ rfl (HM3.out.p.alloc _) ⟨w3.heap.size, 0, none⟩ 1 1 [.int .i64 (k : Int)] rfl rfl (cell_one_new _ _ _) (by simp [Value.oneCell']) (by unfold maxLen; omega) (by omega) (by simp; omega) ?_); intro v5 w5 hown' hgrow _; have HM5 := Lib.hid ((HM3.out.step ((Below.refl _ w3).alloc (Nat.le_refl _) (.cells #[.int .i64 (k : Int)] 3))).appP (jp' := k + 1) hgrow (by rw [HPS.out]; simpa using hown')); clear hown' hgrow))
      go_roundw
      case rel => exact ⟨k + 1, by omega, by go_num, HM5, fun h => by omega⟩
      case measure => simp [intOf]; omega
    · obtain rfl : k = n := by omega
      have hpv := hM.out.p
      obtain ⟨Ap, cp, rfl, hcp, hrp⟩ := Row.of_own hpv (places_wf k (by omega))
      have HRP := Lib.hid hrp
      have HIL := Lib.hid (its_length K k)
      have HZ0 := hZ
      have HMr := hM
      clear hpv hrp
      go_wp2_with fail
      refine (rsorted_both _ (its K k) _ HMr.out.x (by rw [HIL.out]; omega) (fun e => (HZ0.out (by have := HIL.out; rw [e] at this; simpa using this.symm)).1)).mono ?_
      rintro e w1 ⟨v', rfl, hp1, hb1⟩
      rw [HIL.out] at hp1
      have HM1 := Lib.hid (hM.out.step hb1)
      have HW1 := Lib.hid (hp1.base_le hM.out.sz)
      obtain ⟨Aw, cw, rfl⟩ := hp1.shape
      rw [outs_length] at HW1 ⊢
      have HRP1 := Lib.hid (HRP.out.below hb1)
      clear hp1 hb1
      have hal := (Below.refl w1.heap.size w1).alloc (Nat.le_refl _) (.cells #[.slice Aw k cw] 33)
      have HM2 := Lib.hid (HM1.out.step hal)
      have HW2 := Lib.hid (HW1.out.below hal)
      have HRP2 := Lib.hid (HRP1.out.below hal)
      have HWB2 := Lib.hid (Boxed.new w1 33 (.slice Aw k cw))
      have hwb : w.heap.size + 3 ≤ w1.heap.size := HM1.out.sz
      obtain ⟨wb, hwbe⟩ : ∃ wb, wb = w1.heap.size := ⟨_, rfl⟩
      rw [← hwbe] at HWB2 hwb
      obtain ⟨w2, hw2⟩ : ∃ w2, w2 = w1.alloc (.cells #[.slice Aw k cw] 33) := ⟨_, rfl⟩
      rw [← hw2] at HM2 HW2 HRP2 HWB2
      have HWE := Lib.hid hwbe
      have HW2E := Lib.hid hw2
      clear hal hwbe hw2
      go_wp2_with fail
      rw [← HWE.out, ← HW2E.out]
      refine (sorted_keys w.heap.size A k c zs Ap k cp w2 HM2.out.kx (HR.out.below HM2.out.bel) (Nat.le_refl _) HRP2.out (by omega)).mono ?_
      rw [← HK.out]
      rintro e w3 ⟨As, cs, rfl, hcs, hrs, hb3⟩
      have HM3 := Lib.hid (HM2.out.step hb3)
      have HW3 := Lib.hid (HW2.out.below hb3)
      have HRP3 := Lib.hid (HRP2.out.below hb3)
      have HWB3 : Hid (Boxed w3 wb 33 (.slice Aw k cw)) := (hb3.block _ HWB2.out.lt).trans HWB2.out
      have HRS3 := Lib.hid hrs
      clear hb3 hrs
      go_wp2_with fail
      refine (sorted_nokey Ap k cp w3 HRP3.out (by omega)).mono ?_
      rintro e w4 ⟨At, ct, rfl, hct, hrt, hb4⟩
      have HM4 := Lib.hid (HM3.out.step hb4)
      have HW4 := Lib.hid (HW3.out.below hb4)
      have HRS4 := Lib.hid (HRS3.out.below hb4)
      have HWB4 : Hid (Boxed w4 wb 33 (.slice Aw k cw)) := (hb4.block _ HWB3.out.lt).trans HWB3.out
      have HRT4 := Lib.hid hrt
      have wb4 := HWB4.out.cell
      have dkk : ((k : Int) != (k : Int)) = false := by simp
      clear hb4 hrt kx
      go_wp2
      go_loopw [12] (fun i wr => ∃ j : Nat, j ≤ k ∧ i = .int .i64 j ∧ ∃ m, wr = w4.drewN m) (fun i _ => k - (intOf i).toNat)
      case atStart => exact ⟨0, Nat.zero_le _, rfl, 0, rfl⟩
      case round =>
        obtain ⟨j, hj, rfl, m, rfl⟩ := hrel
        by_cases hjl : j < k
        · obtain ⟨bs, os, rfl, _, hcs'⟩ := HRS4.out.at_ (by omega)
          obtain ⟨bt, ot, rfl, _, hct'⟩ := HRT4.out.at_ (by omega)
          obtain ⟨bw, capw, hv, _⟩ := HW4.out.opn (by rw [outs_length]; omega)
          simp only [Value.slice.injEq, outs_length, true_and] at hv
          obtain ⟨rfl, rfl⟩ := hv
          obtain ⟨_, hcw⟩ := HW4.out.cells
          have x1 := (hcw j (by rw [outs_length]; exact hjl)).2
          have x2 := hcs' j hjl
          have x3 := hct' j hjl
          rw [thing_getD _ _ (by rw [outs_length]; exact hjl)] at x2
          rw [thing_getD _ _ (by rw [outs_length]; exact hjl), same_thing k j hjl] at x3
          obtain ⟨z, hz⟩ : ∃ z, z = (at_ (outs (its K k) k) j).thing := ⟨_, rfl⟩
          rw [← hz] at x1 x2
          have dz : (z != z) = false := by simp
          have dj : ((j : Int) != (j : Int)) = false := by simp
          have i1 : (0 : Int) ≤ (j : Int) := by omega
          have i2 : (j : Int) < (k : Int) := by omega
          clear hcs' hct' hcw hz
          go_wp2
          go_quiet (fail)
          go_wp2
          go_roundw
          case rel => exact ⟨j + 1, by omega, by go_num, _, rfl⟩
          case measure => simp [intOf]; omega
        · obtain rfl : j = k := by omega
          obtain ⟨w5, hw5⟩ : ∃ w5, w5 = w4.drewN m := ⟨_, rfl⟩
          have hb5 : Below w4.heap.size w4 w5 := by rw [hw5]; exact Mem.below_drewN (Below.refl _ _) m
          rw [← hw5]
          have HM5 := Lib.hid (HM4.out.step hb5)
          have HW5 := Lib.hid (HW4.out.below hb5)
          have HWB5 : Hid (Boxed w5 wb 33 (.slice Aw j cw)) := (hb5.block _ HWB4.out.lt).trans HWB4.out
          clear hb5 hw5 wb4
          have heq := eql_func_nil 46 und_seq (.func 20) #[] #[.pointer (some ⟨w5.heap.size, 0, none⟩)]
          have hal := (((Below.refl w5.heap.size w5).alloc (Nat.le_refl _) (.cells #[.pointer (some ⟨w.heap.size + 1 + 1, 0, none⟩)] 23)).alloc (by simp) (.cells #[.int .i64 0] 3)).alloc (by simp; omega) (.cells #[.bool true] 4)
          have HM6 := Lib.hid (HM5.out.step hal)
          have HW6 := Lib.hid (HW5.out.below hal)
          have HWB6 : Hid (Boxed _ wb 33 (.slice Aw j cw)) := (hal.block _ HWB5.out.lt).trans HWB5.out
          have hbq := Boxed.new w5 23 (.pointer (some ⟨w.heap.size + 1 + 1, 0, none⟩))
          have hnb := Boxed.new (w5.alloc (.cells #[.pointer (some ⟨w.heap.size + 1 + 1, 0, none⟩)] 23)) 3 (.int .i64 0)
          have hfb := Boxed.new ((w5.alloc (.cells #[.pointer (some ⟨w.heap.size + 1 + 1, 0, none⟩)] 23)).alloc (.cells #[.int .i64 0] 3)) 4 (.bool true)
          simp only [World.size_alloc] at hnb hfb
          have HBQ6 := Lib.hid ((hbq.alloc (.cells #[.int .i64 0] 3)).alloc (.cells #[.bool true] 4))
          have hs5 := HM5.out.sz
          have hwl := HWB5.out.lt
          have wb5 := HWB5.out.cell
          have wb6 := HWB6.out.cell
          have HT0 : Hid (Got ⟨w.heap.size, w5.heap.size + 1 + 1, w5.heap.size + 1, wb, w.heap.size + 1⟩ (.slice Aw j cw) (outs (its K j) (its K j).length) mo w 0 _) :=
            ⟨hfb, hnb.alloc _, HWB6.out, by rw [HIL.out]; exact HW6.out.base_le (show w.heap.size ≤ w.heap.size + 3 from by omega), HM6.out.mx, HM6.out.bel⟩
          have hm5 := HM6.out.mx.cell
          clear hbq hnb hfb hal
          have hw : wrap64 mo = mo := by simp [wrap64]; omega
          have hz : mo = 0 := HP.out
          clear HP
          subst hz
          have hE6 : End w (w5.heap.size + 1 + 1) (w5.heap.size + 1) wb 0 j (.slice Aw j cw) _ := ⟨HT0.out.f, HT0.out.n, HT0.out.w, ⟨its K j, j, HIL.out, HM6.out.q⟩, HT0.out.bel⟩
          have HE6 := Lib.hid hE6
          clear hE6
          by_cases hj0 : 0 < j
          · have hj1 : (0 : Int) < (j : Int) := by omega
            go_wp2_with (go_at_call 15; refine (callsIn_wide.1 (drain_in Fence.wide 3 trivial rfl (w.heap.size + 1 + 1) w5)).mono ?_; rintro e w' ⟨rfl, rfl⟩)
            obtain ⟨w6, hw6⟩ : ∃ x, x = (((w5.alloc (.cells #[.pointer (some ⟨w.heap.size + 1 + 1, 0, none⟩)] 23)).alloc (.cells #[.int .i64 0] 3)).alloc (.cells #[.bool true] 4)) := ⟨_, rfl⟩
            rw [← hw6] at HE6 ⊢
            clear hw6
            have hwj : IntKind.i64.wrap (j : Int) = (j : Int) := by rw [IntKind.wrap_i64]; omega
            try clear heq
            try clear wb5
            try clear wb6
            try clear hm5
            try clear hs5
            try clear hwl
            try clear hwb
            try clear hw
            try clear dkk
            try clear hc0
            try clear hcp
            try clear hcs
            try clear hct
            try clear hZ
            try clear HZ0
            try clear hmo0
            try clear hmo1
            try clear hbig
            try clear hi
            try clear hz0
            try clear hz1
            try clear hz2
            have HS0 := Lib.hid (hold_of HE6.out.drew)
            have c1 := HE6.out.f.cell
            have c2 := HE6.out.n.cell
            have c3 := HE6.out.wv.cell
            go_region_held3 (fun W => W.cell? ⟨w5.heap.size + 1 + 1, 0, none⟩ = some (.bool true) ∧ W.cell? ⟨w5.heap.size + 1, 0, none⟩ = some (.int .i64 0) ∧ W.cell? ⟨wb, 0, none⟩ = some (.slice Aw j cw) ∧ End w (w5.heap.size + 1 + 1) (w5.heap.size + 1) wb 0 j (.slice Aw j cw) W)
              (first
                | exact HS0.out
                | exact hold_step (by assumption) (by assumption))
              (first
                | (go_at_call 8; (with_reducible refine (len_keep (by assumption)).mono ?_); rintro e w18 ⟨rfl, hb18⟩)
                | (go_at_call 9; (with_reducible refine (live_keep (by assumption)).mono ?_); rintro e w21 ⟨rfl, hb21⟩))
            have hE := hold_keep (W := w21) (by assumption)
            go_wp2
            go_ret
            exact ⟨rfl, hE.bel⟩
          · obtain rfl : j = 0 := by omega
            go_wp2_with (go_at_call 15; refine (callsIn_wide.1 (drain_in Fence.wide 3 trivial rfl (w.heap.size + 1 + 1) w5)).mono ?_; rintro e w' ⟨rfl, rfl⟩)
            obtain ⟨w6, hw6⟩ : ∃ x, x = (((w5.alloc (.cells #[.pointer (some ⟨w.heap.size + 1 + 1, 0, none⟩)] 23)).alloc (.cells #[.int .i64 0] 3)).alloc (.cells #[.bool true] 4)) := ⟨_, rfl⟩
            rw [← hw6] at HE6 ⊢
            clear hw6
            have hwj := wrap_zero
            try clear heq
            try clear wb5
            try clear wb6
            try clear hm5
            try clear hs5
            try clear hwl
            try clear hwb
            try clear hw
            try clear dkk
            try clear hc0
            try clear hcp
            try clear hcs
            try clear hct
            try clear hZ
            try clear HZ0
            try clear hmo0
            try clear hmo1
            try clear hbig
            try clear hi
            try clear hz0
            try clear hz1
            try clear hz2
            have HS0 := Lib.hid (hold_of HE6.out.drew)
            have c1 := HE6.out.f.cell
            have c2 := HE6.out.n.cell
            have c3 := HE6.out.wv.cell
            go_region_held3 (fun W => W.cell? ⟨w5.heap.size + 1 + 1, 0, none⟩ = some (.bool true) ∧ W.cell? ⟨w5.heap.size + 1, 0, none⟩ = some (.int .i64 0) ∧ W.cell? ⟨wb, 0, none⟩ = some (.slice Aw 0 cw) ∧ End w (w5.heap.size + 1 + 1) (w5.heap.size + 1) wb 0 0 (.slice Aw 0 cw) W)
              (first
                | exact HS0.out
                | exact hold_step (by assumption) (by assumption))
              (first
                | (go_at_call 8; (with_reducible refine (len_keep (by assumption)).mono ?_); rintro e w18 ⟨rfl, hb18⟩)
                | (go_at_call 9; (with_reducible refine (live_keep (by assumption)).mono ?_); rintro e w21 ⟨rfl, hb21⟩))
            have hE := hold_keep (W := w21) (by assumption)
            go_wp2
            go_ret
            exact ⟨rfl, hE.bel⟩
end Go.Proofs.Ytlnljgfppipceab.Qu
