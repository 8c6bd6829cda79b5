/- Walk of the law SmapInverts. -/
import Derived.Test.YtalbgafchfmmaaaSmM
import Derived.Test.YtalbgafchfmmaaaSmBk
namespace Go.Proofs.Ytalbgafchfmmaaa.Sm
open Go.RowKit Mem
set_option linter.unusedVariables false

theorem rec_low {l : List Rg} (h : okTo l l.length) (at_ off : Int) : (recB l at_ off = false ∧ recN l at_ off = 0 ∧ recR l at_ off = -1) ∨ (recB l at_ off = true ∧ 0 ≤ recN l at_ off ∧ recR l at_ off = recN l at_ off) := by
  by_cases hk : recOk l at_ off
  · refine .inr ⟨recB_yes hk, ?_, by rw [recR, if_pos (recB_yes hk)]⟩
    obtain ⟨_, k, hk1, rfl, h1, h2⟩ := id hk
    rw [recN_yes hk]
    have := sh_low k (h.mono (by omega))
    omega
  · exact .inl ⟨recB_no hk, recN_no hk, by rw [recR, recB_no hk]; simp⟩
def lowTo (l : List Rg) (n : Nat) : Bool := (List.range n).all fun i => decide ((rg l i).at_ ≤ 1073741824)
theorem lowTo_succ (l : List Rg) (n : Nat) : lowTo l (n + 1) = (lowTo l n && decide ((rg l n).at_ ≤ 1073741824)) := by
  simp [lowTo, List.range_succ]
theorem lowTo_all {l : List Rg} {n : Nat} (h : lowTo l n = true) : ∀ i, i < n → (rg l i).at_ ≤ 1073741824 := by
  intro i hi
  have := List.all_eq_true.1 h i (List.mem_range.2 hi)
  simpa using this
set_option maxHeartbeats 2000000 in
theorem inverts_walk (l : List Rg) (A : Option Addr) (m c : Nat) (at_ off : Int) (w : World) (hr : RLow w.heap.size w A m l) :
    Calls Try.prog 4 #[.slice A m c, .int .i64 at_, .int .i64 off] w fun e w' => e = .returned (.bool true) ∧ Below w.heap.size w w' := by
  have HR := Lib.hid hr
  have HL := Lib.hid hr.1
  have LV := fun W => live_any W
  clear hr
  by_cases hm : (m : Int) > 60
  · go_enter Try.func4, Try.ntmps4
    go_wp2_with (go_at_call 6; refine (LV _).mono ?_; rintro e w1 ⟨rfl, hb⟩)
    go_ret
    exact ⟨rfl, hb⟩
  · have hm' : m ≤ 60 := by omega
    have CI := pinvert_any l A m c w (by omega) HR.out
    have CV := fun W h => precover_any l A m c at_ off W (by omega) h
    have CR := fun W h => rright_any l A m c W (by omega) h
    go_enter Try.func4, Try.ntmps4
    go_wp2_with fail
    refine CI.mono ?_
    rintro e w1 ⟨v, rfl, ho, hb1⟩
    obtain ⟨A1, c1, hv, hc1, hrow⟩ := ho.row
    obtain ⟨k, hk⟩ : ∃ k, k = (invW l).length := ⟨_, rfl⟩
    rw [← hk] at hv hrow hc1
    subst hv
    have HK := Lib.hid hk
    have HR1 := Lib.hid (HR.out.next hb1)
    have HI1 := Lib.hid (RLow.of hrow)
    have HB1 := Lib.hid hb1
    clear hb1 CI ho hrow hc1 hk
    go_wp2_with fail
    refine (CV _ HR1.out).mono ?_
    rintro e w2 ⟨rfl, hb2⟩
    have HB2 := Lib.hid (HB1.out.trans (hb2.mono HB1.out.size))
    have HR2 := Lib.hid (HR1.out.next hb2)
    have HI2 := Lib.hid (HI1.out.next hb2)
    clear hb2 CV HB1 HR1 HI1
    go_wp2_with fail
    refine (CR _ HR2.out).mono ?_
    rintro e w3 ⟨rfl, hb3⟩
    have HB3 := Lib.hid (HB2.out.trans (hb3.mono HB2.out.size))
    have HR3 := Lib.hid (HR2.out.next hb3)
    have HI3 := Lib.hid (HI2.out.next hb3)
    clear hb3 CR HB2 HR2 HI2
    cases hrb : rightB l with
    | false =>
      have hno : ¬ recOk l at_ off := fun h => by rw [h.1] at hrb; cases hrb
      have hk0 : k = 0 := by rw [HK.out, invW, hrb]; simp
      subst hk0
      rw [recN_no hno, recB_no hno]
      go_wp2_with (go_at_call 6; refine (LV _).mono ?_; rintro e w4 ⟨rfl, hb⟩)
      go_ret
      exact ⟨rfl, HB3.out.trans (hb.mono HB3.out.size)⟩
    | true =>
      have HOK : Hid (okTo l l.length) := Lib.hid (right_of hrb)
      have hiw : invW l = inv l := by unfold invW; rw [hrb]; simp
      have hkm : k = m := by rw [HK.out, hiw, inv_length, HL.out]
      subst hkm
      rw [hiw] at HI3
      have CRR := rrecover_any l A k c at_ off w3 (by omega) HR3.out
      have HRL := Lib.hid (rec_low HOK.out at_ off)
      have HRB := Lib.hid hrb
      clear hiw hrb HK
      generalize recN l at_ off = rn at *
      generalize recB l at_ off = rb at *
      generalize recR l at_ off = rr at *
      go_wp2_with fail
      refine CRR.mono ?_
      rintro e w4 ⟨rfl, hb4⟩
      have HB4 := Lib.hid (HB3.out.trans (hb4.mono HB3.out.size))
      have HR4 := Lib.hid (HR3.out.next hb4)
      have HI4 := Lib.hid (HI3.out.next hb4)
      clear hb4 CRR HB3 HR3 HI3
      have CRI := rinvert_any l A k c w4 (by omega) (by rw [← HL.out]; exact HOK.out) HR4.out
      go_wp2_with fail
      refine CRI.mono ?_
      rintro e w5 ⟨v5, rfl, ho5, hb5⟩
      obtain ⟨A5, c5, hv5, hc5, hrow5⟩ := ho5.row
      have hil : (inv l).length = k := by rw [inv_length, HL.out]
      rw [hil] at hv5 hrow5 hc5
      subst hv5
      have HB5 := Lib.hid (HB4.out.trans (hb5.mono HB4.out.size))
      have HR5 := Lib.hid (HR4.out.next hb5)
      have HI5 := Lib.hid (HI4.out.next hb5)
      have HJ5 := Lib.hid (RLow.of hrow5)
      have HIL := Lib.hid hil
      clear hb5 CRI HB4 HR4 HI4 ho5 hrow5 hc5 hil
      have CS := rsame_any (inv l) (inv l) A1 A5 k k c1 c5 _ _ w5 HI5.out HJ5.out (by omega)
      rw [show decide (inv l = inv l) = true by simp] at CS
      go_wp2_with fail
      refine CS.mono ?_
      rintro e w6 ⟨rfl, q, hq⟩
      have HB6 : Hid (Below w.heap.size w w6) := Lib.hid (by rw [hq]; exact below_drewN HB5.out q)
      have HR6 : Hid (RLow w6.heap.size w6 A k l) := Lib.hid (by rw [hq]; exact HR5.out.next (below_drewN (Below.refl _ _) q))
      have HI6 : Hid (RLow w6.heap.size w6 A1 k (inv l)) := Lib.hid (by rw [hq]; exact HI5.out.next (below_drewN (Below.refl _ _) q))
      clear hq CS HB5 HR5 HI5 HJ5
      have fin : True := trivial
      have hN : (rb = false ∧ rn = 0 ∧ rr = -1) ∨ (rb = true ∧ (max rr 0 = rr ∧ decide (rr ≥ 0) = true) ∧ rr = rn) := by
        rcases HRL.out with ⟨h1, h2, h3⟩ | ⟨h1, h2, h3⟩
        · exact .inl ⟨h1, h2, h3⟩
        · exact .inr ⟨h1, ⟨by omega, decide_eq_true (by omega)⟩, h3⟩
      clear HRL
      rcases hN with ⟨rfl, rfl, rfl⟩ | ⟨rfl, ⟨hmx, hge⟩, rfl⟩
      all_goals
        go_wp2
        go_loop [11, 12] (fun u j => ∃ (i : Nat) (b : Bool), i ≤ k ∧ j = .int .i64 i ∧ u = .bool b ∧ Hid (b = lowTo (inv l) i)) (fun _ j => k - (intOf j).toNat)
        case atStart => exact ⟨0, true, by omega, rfl, rfl, Lib.hid rfl⟩
        case round =>
          obtain ⟨i, b, hi, rfl, rfl, HBB⟩ := hrel
          by_cases hlt : i < k
          · obtain ⟨bb, off', rfl, hc⟩ := HI6.out.at_ (by omega)
            obtain ⟨c0, _, _⟩ := hc i hlt
            have i1 : (0 : Int) ≤ (i : Int) := by omega
            have i2 : (i : Int) < (k : Int) := by omega
            have HS := Lib.hid (lowTo_succ (inv l) i)
            clear hc
            cases b with
            | false =>
              have N1 : Hid (false = lowTo (inv l) (i + 1)) := Lib.hid (by rw [HS.out, ← HBB.out]; rfl)
              go_wp2
              go_round
              case rel => exact ⟨i + 1, false, by omega, by go_num, rfl, N1⟩
              case measure => simp [intOf]; omega
            | true =>
              have N1 : Hid (decide ((rg (inv l) i).at_ ≤ 1073741824) = lowTo (inv l) (i + 1)) := Lib.hid (by rw [HS.out, ← HBB.out]; rfl)
              generalize rg (inv l) i = r at *
              obtain ⟨a, o, n⟩ := r
              try simp only at c0 N1
              go_wp2
              go_round
              case rel => exact ⟨i + 1, _, by omega, by go_num, rfl, N1⟩
              case measure => simp [intOf]; omega
          · obtain rfl : i = k := by omega
            cases b with
            | false =>
              go_wp2_with (go_at_call 6; refine (LV _).mono ?_; rintro e w7 ⟨rfl, hb⟩)
              go_ret
              exact ⟨rfl, HB6.out.trans (hb.mono HB6.out.size)⟩
            | true =>
              have hri : rightB (inv l) = true := rightB_true (inv_right HOK.out (fun j hj => lowTo_all HBB.out.symm j (by rw [← HL.out]; exact hj)))
              have hii : invW (inv l) = l := by unfold invW; rw [hri]; simp [inv_inv]
              have CI2 := pinvert_any (inv l) A1 i c1 w6 (by omega) HI6.out
              rw [hii] at CI2
              clear hri hii
              go_wp2_with fail
              refine CI2.mono ?_
              rintro e w7 ⟨v7, rfl, ho7, hb7⟩
              obtain ⟨A7, c7, hv7, hc7, hrow7⟩ := ho7.row
              rw [HL.out] at hv7 hrow7 hc7
              subst hv7
              have HB7 := Lib.hid (HB6.out.trans (hb7.mono HB6.out.size))
              have HR7 := Lib.hid (HR6.out.next hb7)
              have HJ7 := Lib.hid (RLow.of hrow7)
              clear hb7 CI2 HB6 HR6 HI6 ho7 hrow7 hc7
              have CS7 := rsame_any l l A7 A i i c7 c _ _ w7 HJ7.out HR7.out (by omega)
              rw [show decide (l = l) = true by simp] at CS7
              go_wp2_with fail
              refine CS7.mono ?_
              rintro e w8 ⟨rfl, q, hq⟩
              have HB8 : Hid (Below w.heap.size w w8) := Lib.hid (by rw [hq]; exact below_drewN HB7.out q)
              clear hq CS7 HB7 HR7 HJ7
              go_wp2_with (go_at_call 6; refine (LV _).mono ?_; rintro e w9 ⟨rfl, hb⟩)
              go_ret
              exact ⟨rfl, HB8.out.trans (hb.mono HB8.out.size)⟩
theorem inverts_law (A : Option Addr) (m c : Nat) (l : List Rg) (at_ off : Int) (w : World) (h : RRow w A m l) (_ : m ≤ maxLen) (_ : (Lit.int .i64 at_).wf = true) (_ : (Lit.int .i64 off).wf = true) :
    Calls Try.prog 4 #[.slice A m c, .int .i64 at_, .int .i64 off] w fun e w' => e = .returned (.bool true) ∧ Below w.heap.size w w' :=
  inverts_walk l A m c at_ off w (RLow.of h)
end Go.Proofs.Ytalbgafchfmmaaa.Sm
