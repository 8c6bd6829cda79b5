/- Walk of the law SmapBack. -/
import Derived.Test.YtalbgafchfmmaaaSmLv
import Derived.Test.YtalbgafchfmmaaaSmBm
namespace Go.Proofs.Ytalbgafchfmmaaa.Sm
open Go.RowKit Mem
set_option linter.unusedVariables false

theorem RLow.next {w W : World} {A : Option Addr} {m : Nat} {l : List Rg} (h : RLow w.heap.size w A m l) (hb : Below w.heap.size w W) : RLow W.heap.size W A m l := (h.below hb (Nat.le_refl _)).lift hb.size
set_option maxHeartbeats 2000000 in
theorem back_walk (l : List Rg) (A : Option Addr) (m c : Nat) (x y side : Int) (w : World) (hr : RLow w.heap.size w A m l) :
    Calls Try.prog 5 #[.slice A m c, .agg #[.int .i64 x, .int .i64 y], .int .i64 side] w fun e w' => e = .returned (.bool true) ∧ Below w.heap.size w w' := by
  have HR := Lib.hid hr
  have HL := Lib.hid hr.1
  clear hr
  obtain ⟨lo, hlo⟩ : ∃ z, min x y = z := ⟨_, rfl⟩
  obtain ⟨hi, hhi⟩ : ∃ z, max x y = z := ⟨_, rfl⟩
  have hlh : Hid (lo ≤ hi) := Lib.hid (by omega)
  have HLO := Lib.hid hlo
  have HHI := Lib.hid hhi
  have LV := fun W => live_any W
  have HB0 := Lib.hid ((Below.refl _ w).alloc (Nat.le_refl _) (.cells #[.int .i64 x, .int .i64 y] 43))
  by_cases hm : (m : Int) > 60
  · go_enter Try.func5, Try.ntmps5
    go_wp2_with (go_at_call 6; refine (LV _).mono ?_; rintro e w1 ⟨rfl, hb⟩)
    all_goals
      go_ret
      exact ⟨rfl, HB0.out.trans (hb.mono HB0.out.size)⟩
  · have hm' : m ≤ 60 := by omega
    have CR := rright_any l A m c _ (by omega) (HR.out.next HB0.out)
    go_enter Try.func5, Try.ntmps5
    go_upto_region 1 with fail
    go_cut [7] from 16 to 20 (fun v wx => v = .int .i64 lo ∧ wx = w.alloc (.cells #[.int .i64 x, .int .i64 y] 43))
    case first =>
      go_wp2_with fail
      all_goals (go_meet; exact ⟨by congr 1; omega, rfl⟩)
    case rest =>
    obtain ⟨rfl, rfl⟩ := hcut
    go_upto_region 2 with fail
    go_cut [8] from 21 to 25 (fun v wx => v = .int .i64 hi ∧ wx = w.alloc (.cells #[.int .i64 x, .int .i64 y] 43))
    case first =>
      go_wp2_with fail
      all_goals (go_meet; exact ⟨by congr 1; omega, rfl⟩)
    case rest =>
    obtain ⟨rfl, rfl⟩ := hcut
    clear hlo hhi
    go_wp2_with fail
    refine CR.mono ?_
    rintro e w1 ⟨rfl, hb1⟩
    have HB1 := Lib.hid (HB0.out.trans (hb1.mono HB0.out.size))
    clear hb1 CR HB0
    cases hrb : rightB l with
    | false =>
      go_wp2_with (go_at_call 6; refine (LV _).mono ?_; rintro e w2 ⟨rfl, hb⟩)
      go_ret
      exact ⟨rfl, HB1.out.trans (hb.mono HB1.out.size)⟩
    | true =>
      have CM := fun W => may_any lo W
      have CM2 := fun W => may_any hi W
      go_wp2_with fail
      refine (CM _).mono ?_
      rintro e w2 ⟨rfl, rfl⟩
      cases hml : mayB lo with
      | false =>
        go_wp2_with (go_at_call 6; refine (LV _).mono ?_; rintro e w2 ⟨rfl, hb⟩)
        go_ret
        exact ⟨rfl, HB1.out.trans (hb.mono HB1.out.size)⟩
      | true =>
        go_wp2_with fail
        refine (CM2 _).mono ?_
        rintro e w2 ⟨rfl, rfl⟩
        cases hmh : mayB hi with
        | false =>
          go_wp2_with (go_at_call 6; refine (LV _).mono ?_; rintro e w2 ⟨rfl, hb⟩)
          go_ret
          exact ⟨rfl, HB1.out.trans (hb.mono HB1.out.size)⟩
        | true =>
          have HOK : Hid (okTo l l.length) := Lib.hid (right_of hrb)
          have HRB := Lib.hid hrb
          have CT1 := fun W h => ptell_any l A m c lo side W (by omega) h
          have CT2 := fun W h => ptell_any l A m c hi side W (by omega) h
          have CP1 := fun W h => ppos_any l A m c lo (-1) W (by omega) h
          have CP2 := fun W h => ppos_any l A m c lo 1 W (by omega) h
          have e1 : ∀ s, tellW l lo s = tell l lo s := fun s => by unfold tellW; rw [if_pos ⟨hrb, hml⟩]
          have e2 : ∀ s, tellW l hi s = tell l hi s := fun s => by unfold tellW; rw [if_pos ⟨hrb, hmh⟩]
          have e3 : tellE l lo = 0 := by unfold tellE; rw [hrb, hml]; simp
          have e4 : tellE l hi = 0 := by unfold tellE; rw [hrb, hmh]; simp
          rw [e1, e3] at CT1
          rw [e2, e4] at CT2
          rw [e1] at CP1 CP2
          have m1 : ¬ ((tell l lo side).pos > (tell l hi side).pos) := by have := tell_mono HOK.out hlh.out side; omega
          have m2 : ¬ ((tell l lo (-1)).pos > (tell l lo 1).pos) := by have := tell_sides HOK.out lo; omega
          have HG := Lib.hid (tell_gone HOK.out lo side)
          have HBK := Lib.hid (tell_back HOK.out lo side)
          clear e1 e2 e3 e4 CM CM2 hrb hmh
          have HML := Lib.hid hml
          clear hml
          generalize tell l hi side = Q at CT2 m1
          generalize tell l lo (-1) = S1 at CP1 m2
          generalize tell l lo 1 = S2 at CP2 m2
          generalize tell l lo side = P at CT1 m1 HG HBK
          obtain ⟨pp, pg, pin, pr, po⟩ := P
          obtain ⟨qp, qg, qin, qr, qo⟩ := Q
          unfold plV at CT1 CT2
          try simp only at CT1 CT2 m1 HG HBK
          go_wp2_with fail
          refine (CT1 _ (HR.out.next HB1.out)).mono ?_
          rintro e w3 ⟨rfl, hb3⟩
          have HB3 := Lib.hid (HB1.out.trans (hb3.mono HB1.out.size))
          clear hb3 HB1 CT1
          have HP4 := Lib.hid (heap_alloc_new w3 (.cells #[.int .i64 pp, .bool pg, .bool pin, .int .i64 pr, .int .i64 po] 25))
          have HB4 := Lib.hid (HB3.out.alloc HB3.out.size (.cells #[.int .i64 pp, .bool pg, .bool pin, .int .i64 pr, .int .i64 po] 25))
          obtain ⟨D, hD⟩ : ∃ D, D = w3.heap.size := ⟨_, rfl⟩
          go_wp2_with fail
          refine (CT2 _ (HR.out.next HB4.out)).mono ?_
          rintro e w4 ⟨rfl, hb4⟩
          rw [← hD] at HP4 ⊢
          have HD4 : Hid (w4.heap[D]? = some (.cells #[.int .i64 pp, .bool pg, .bool pin, .int .i64 pr, .int .i64 po] 25 (0, 0))) := Lib.hid (by rw [hb4.block _ (by rw [hD]; simp)]; exact HP4.out)
          have HB5 := Lib.hid (HB4.out.trans (hb4.mono HB4.out.size))
          clear hb4 CT2 HP4 HB4 HB3 hD
          have HP6 := Lib.hid (heap_alloc_new w4 (.cells #[.int .i64 qp, .bool qg, .bool qin, .int .i64 qr, .int .i64 qo] 25))
          have HB6 := Lib.hid (HB5.out.alloc HB5.out.size (.cells #[.int .i64 qp, .bool qg, .bool qin, .int .i64 qr, .int .i64 qo] 25))
          have HD6 : Hid ((w4.alloc (.cells #[.int .i64 qp, .bool qg, .bool qin, .int .i64 qr, .int .i64 qo] 25)).heap[D]? = some (.cells #[.int .i64 pp, .bool pg, .bool pin, .int .i64 pr, .int .i64 po] 25 (0, 0))) := Lib.hid (by rw [Below.heap_alloc _ _ _ (lt_some HD4.out)]; exact HD4.out)
          obtain ⟨DQ, hDQ⟩ : ∃ D, D = w4.heap.size := ⟨_, rfl⟩
          rw [← hDQ] at HP6
          go_upto_region 7 with fail
          rw [← hDQ]
          generalize w4.alloc (.cells #[.int .i64 qp, .bool qg, .bool qin, .int .i64 qr, .int .i64 qo] 25) = w6 at HP6 HB6 HD6 ⊢
          clear hDQ HD4 HB5
          have hc := ten2 HD6.out
          have x0 := hc.1
          have x1 := hc.2.1
          have x2 := hc.2.2.1
          have x3 := hc.2.2.2.1
          have x4 := hc.2.2.2.2.1
          have y0 := hc.2.2.2.2.2.1
          have y1 := hc.2.2.2.2.2.2.1
          have y2 := hc.2.2.2.2.2.2.2.1
          have y3 := hc.2.2.2.2.2.2.2.2.1
          have y4 := hc.2.2.2.2.2.2.2.2.2
          clear hc
          have hc := five HP6.out
          have z0 := hc.1
          have z1 := hc.2.1
          have z2 := hc.2.2.1
          have z3 := hc.2.2.2.1
          have z4 := hc.2.2.2.2
          clear hc
          clear x1 x2 x3 x4 y0 y1 y2 y3 y4 z1 z2 z3 z4
          go_wp2_with fail
          refine (CP1 _ (HR.out.next HB6.out)).mono ?_
          rintro e w7 ⟨rfl, hb7⟩
          have HB7 := Lib.hid (HB6.out.trans (hb7.mono HB6.out.size))
          have HD7 : Hid (w7.heap[D]? = some (.cells #[.int .i64 pp, .bool pg, .bool pin, .int .i64 pr, .int .i64 po] 25 (0, 0))) := Lib.hid (by rw [hb7.block _ (lt_some HD6.out)]; exact HD6.out)
          clear hb7 CP1 HB6 HD6 HP6 x0 z0
          go_wp2_with fail
          refine (CP2 _ (HR.out.next HB7.out)).mono ?_
          rintro e w8 ⟨rfl, hb8⟩
          have HB8 := Lib.hid (HB7.out.trans (hb8.mono HB7.out.size))
          have HD8 : Hid (w8.heap[D]? = some (.cells #[.int .i64 pp, .bool pg, .bool pin, .int .i64 pr, .int .i64 po] 25 (0, 0))) := Lib.hid (by rw [hb8.block _ (lt_some HD7.out)]; exact HD7.out)
          clear hb8 CP2 HB7 HD7
          have CI := fun W h => pinvert_any l A m c W (by omega) h
          rw [show invW l = inv l by unfold invW; rw [HRB.out]; simp] at CI
          go_wp2_with fail
          refine (CI _ (HR.out.next HB8.out)).mono ?_
          rintro e w9 ⟨v, rfl, ho, hb9⟩
          obtain ⟨A1, c1, hv, hc1, hrow⟩ := ho.row
          have hil : (inv l).length = m := by rw [inv_length, HL.out]
          rw [hil] at hv hrow hc1
          subst hv
          have HB9 := Lib.hid (HB8.out.trans (hb9.mono HB8.out.size))
          have HRI := Lib.hid (RLow.of hrow)
          have HD9 : Hid (w9.heap[D]? = some (.cells #[.int .i64 pp, .bool pg, .bool pin, .int .i64 pr, .int .i64 po] 25 (0, 0))) := Lib.hid (by rw [hb9.block _ (lt_some HD8.out)]; exact HD8.out)
          clear hb9 CI HB8 HD8 ho hrow hc1 m2 m1
          have CR9 := pright_any (inv l) A1 m c1 w9 (by omega) HRI.out
          have HIL := Lib.hid hil
          clear hil
          go_wp2_with fail
          refine CR9.mono ?_
          rintro e w10 ⟨rfl, hb10⟩
          have HB10 := Lib.hid (HB9.out.trans (hb10.mono HB9.out.size))
          have HRI10 := Lib.hid (HRI.out.next hb10)
          have HD10 : Hid (w10.heap[D]? = some (.cells #[.int .i64 pp, .bool pg, .bool pin, .int .i64 pr, .int .i64 po] 25 (0, 0))) := Lib.hid (by rw [hb10.block _ (lt_some HD9.out)]; exact HD9.out)
          clear hb10 CR9 HB9 HD9 HRI
          have hc := five HD10.out
          have x0 := hc.1
          have x1 := hc.2.1
          have x2 := hc.2.2.1
          have x3 := hc.2.2.2.1
          have x4 := hc.2.2.2.2
          clear hc
          cases hri : rightB (inv l) with
          | false =>
            go_wp2_with (go_at_call 6; refine (LV _).mono ?_; rintro e w2 ⟨rfl, hb⟩)
            go_ret
            exact ⟨rfl, HB10.out.trans (hb.mono HB10.out.size)⟩
          | true =>
            have CM := fun W => may_any pp W
            have HRI2 := Lib.hid hri
            clear hri
            go_wp2_with fail
            refine (CM _).mono ?_
            rintro e w2 ⟨rfl, rfl⟩
            cases hmp : mayB pp with
            | false =>
              go_wp2_with (go_at_call 6; refine (LV _).mono ?_; rintro e w2 ⟨rfl, hb⟩)
              go_ret
              exact ⟨rfl, HB10.out.trans (hb.mono HB10.out.size)⟩
            | true =>
              cases pg with
              | true =>
                obtain ⟨k, k1, k2, k3, k4, k5⟩ := HG.out rfl
                have hrok : recOk (inv l) (k : Int) po := ⟨HRI2.out, k, by rw [HIL.out, ← HL.out]; exact k1, rfl, k3, k4⟩
                have hN : recN (inv l) pr po = lo := by rw [k2, recN_yes hrok]; exact k5
                have hB : recB (inv l) pr po = true := by rw [k2]; exact recB_yes hrok
                have CV := precover_any (inv l) A1 m c1 pr po w10 (by omega) HRI10.out
                rw [hN, hB] at CV
                clear hN hB hrok k1 k2 k3 k4 k5 CM
                go_wp2_with fail
                refine CV.mono ?_
                rintro e w11 ⟨rfl, hb11⟩
                have HB11 := Lib.hid (HB10.out.trans (hb11.mono HB10.out.size))
                clear hb11 CV
                go_wp2_with (go_at_call 6; refine (LV _).mono ?_; rintro e w2 ⟨rfl, hb⟩)
                go_ret
                exact ⟨rfl, HB11.out.trans (hb.mono HB11.out.size)⟩
              | false =>
                have hpb := HBK.out rfl
                have CV := ppos_any (inv l) A1 m c1 pp side w10 (by omega) HRI10.out
                rw [show tellW (inv l) pp side = tell (inv l) pp side by unfold tellW; rw [if_pos ⟨HRI2.out, hmp⟩], hpb] at CV
                clear hpb CM
                go_wp2_with fail
                refine CV.mono ?_
                rintro e w11 ⟨rfl, hb11⟩
                have HB11 := Lib.hid (HB10.out.trans (hb11.mono HB10.out.size))
                clear hb11 CV
                go_wp2_with (go_at_call 6; refine (LV _).mono ?_; rintro e w2 ⟨rfl, hb⟩)
                go_ret
                exact ⟨rfl, HB11.out.trans (hb.mono HB11.out.size)⟩
end Go.Proofs.Ytalbgafchfmmaaa.Sm
