/- Walk of the law SmapTells. -/
import Derived.Test.YtalbgafchfmmaaaSmG
import Derived.Test.YtalbgafchfmmaaaSmM
import Derived.Test.YtalbgafchfmmaaaSmBk
namespace Go.Proofs.Ytalbgafchfmmaaa.Sm
open Go.RowKit Mem
set_option linter.unusedVariables false

/-- as the walk comes upon it -/
theorem eq_pl (d : Nat) (a : Int) (b c : Bool) (e f : Int) (w : World) : (Op.equalIn (d + 1 + 1) 30 (.agg #[.int .i64 a, .bool b, .bool c, .int .i64 e, .int .i64 f]) (.agg #[.int .i64 a, .bool b, .bool c, .int .i64 e, .int .i64 f])).run Try.prog w = .ok true w := by
  have hst : Try.prog.underlying 30 = some (.struct (Try.prog.fieldsOf 30)) := by kernel_rfl
  have hin : Try.prog.stoodInHeld 30 = false := by kernel_rfl
  have h64 : Try.prog.underlying 3 = some (.int .i64) := by kernel_rfl
  have hb : Try.prog.underlying 4 = some .bool := by kernel_rfl
  obtain ⟨f0, f1, f2, f3, f4, hl⟩ : ∃ f0 f1 f2 f3 f4, (Try.prog.fieldsOf 30).toList = [f0, f1, f2, f3, f4] := ⟨_, _, _, _, _, rfl⟩
  have hh : ((Try.prog.fieldsOf 30).toList.map fun f => (f.name != "_", f.type, f.offset)) = [(true, 3, 0), (true, 4, 1), (true, 4, 2), (true, 3, 3), (true, 3, 4)] := by decide +kernel
  rw [hl] at hh
  simp only [List.map_cons, List.map_nil, List.cons.injEq, Prod.mk.injEq, and_true, bne_iff_ne] at hh
  obtain ⟨⟨a0, b0, c0⟩, ⟨a1, b1, c1⟩, ⟨a2, b2, c2⟩, ⟨a3, b3, c3⟩, ⟨a4, b4, c4⟩⟩ := hh
  have pi : ∀ (w : World), (part 3 #[.int .i64 a, .bool b, .bool c, .int .i64 e, .int .i64 f] 0).run Try.prog w = .ok (.int .i64 a) w ∧ (part 4 #[.int .i64 a, .bool b, .bool c, .int .i64 e, .int .i64 f] 1).run Try.prog w = .ok (.bool b) w ∧ (part 4 #[.int .i64 a, .bool b, .bool c, .int .i64 e, .int .i64 f] 2).run Try.prog w = .ok (.bool c) w ∧
      (part 3 #[.int .i64 a, .bool b, .bool c, .int .i64 e, .int .i64 f] 3).run Try.prog w = .ok (.int .i64 e) w ∧ (part 3 #[.int .i64 a, .bool b, .bool c, .int .i64 e, .int .i64 f] 4).run Try.prog w = .ok (.int .i64 f) w :=
    fun w => ⟨by kernel_rfl, by kernel_rfl, by kernel_rfl, by kernel_rfl, by kernel_rfl⟩
  rw [run_equalIn_struct w (d + 1) _ _ _ hst hin, hl]
  obtain ⟨x0, x1, x2, x3, x4⟩ := pi w
  generalize (#[.int .i64 a, .bool b, .bool c, .int .i64 e, .int .i64 f] : Array Value) = cs at x0 x1 x2 x3 x4 ⊢
  have st : ∀ (f : Field) (fs : List Field) (u : Value) (R : Bool), f.name ≠ "_" → (part f.type cs f.offset).run Try.prog w = .ok u w → (Op.equalIn (d + 1) f.type u u).run Try.prog w = .ok true w →
      (Op.eqFields (d + 1) cs cs fs).run Try.prog w = .ok R w → (Op.eqFields (d + 1) cs cs (f :: fs)).run Try.prog w = .ok R w := by
    intro f fs u R hn h1 h3 h4
    unfold Op.eqFields
    rw [if_pos hn]
    simp only [Sem.run_bind, h1, h3, Result.andThen_ok]
    simpa using h4
  have ei : ∀ (z : Int), (Op.equalIn (d + 1) 3 (.int .i64 z) (.int .i64 z)).run Try.prog w = .ok true w := fun z => by rw [run_equalIn_int w _ _ _ _ _ _ h64]; simp
  have eb : ∀ (z : Bool), (Op.equalIn (d + 1) 4 (.bool z) (.bool z)).run Try.prog w = .ok true w := fun z => by
    unfold Op.equalIn
    simp [run_underlying hb]
  exact st f0 _ _ _ a0 (by rw [b0, c0]; exact x0) (by rw [b0]; exact ei _)
    (st f1 _ _ _ a1 (by rw [b1, c1]; exact x1) (by rw [b1]; exact eb _)
    (st f2 _ _ _ a2 (by rw [b2, c2]; exact x2) (by rw [b2]; exact eb _)
    (st f3 _ _ _ a3 (by rw [b3, c3]; exact x3) (by rw [b3]; exact ei _)
    (st f4 _ _ _ a4 (by rw [b4, c4]; exact x4) (by rw [b4]; exact ei _)
    (by simp [Op.eqFields])))))

set_option maxHeartbeats 4000000 in
theorem tells_walk (l : List Rg) (A : Option Addr) (m c : Nat) (pos side : Int) (w : World) (hr : RLow w.heap.size w A m l) :
    Calls Try.prog 3 #[.slice A m c, .int .i64 pos, .int .i64 side] w fun e w' => e = .returned (.bool true) ∧ Below w.heap.size w w' := by
  have HR := Lib.hid hr
  have HL := Lib.hid hr.1
  have LV := fun W => live_any W
  clear hr
  by_cases hm : (m : Int) > 60
  · go_enter Try.func3, Try.ntmps3
    go_wp2_with (go_at_call 6; refine (LV _).mono ?_; rintro e w1 ⟨rfl, hb⟩)
    go_ret
    exact ⟨rfl, hb⟩
  · have hm' : m ≤ 60 := by omega
    have CT := ptell_any l A m c pos side w (by omega) HR.out
    have CR := fun W h => rright_any l A m c W (by omega) h
    have CP := fun W h => ppos_any l A m c pos side W (by omega) h
    have CQ := fun W h => pright_any l A m c W (by omega) h
    have CM := fun W => may_any pos W
    have HTW : Hid (tellW l pos side = if rightB l = true ∧ mayB pos = true then tell l pos side else ⟨0, false, false, 0, 0⟩) := Lib.hid rfl
    have HTE : Hid (tellE l pos = if rightB l = true then (if mayB pos = true then 0 else 3) else 1) := Lib.hid rfl
    generalize tellW l pos side = P at *
    generalize tellE l pos = E at *
    obtain ⟨PP, PG, PI, PR, PO⟩ := P
    unfold plV at CT
    try simp only at CT CP
    go_enter Try.func3, Try.ntmps3
    go_wp2_with fail
    refine CT.mono ?_
    rintro e w1 ⟨rfl, hb1⟩
    have HB2 := Lib.hid (hb1.alloc hb1.size (.cells #[.int .i64 PP, .bool PG, .bool PI, .int .i64 PR, .int .i64 PO] 25))
    have HP2 := Lib.hid (heap_alloc_new w1 (.cells #[.int .i64 PP, .bool PG, .bool PI, .int .i64 PR, .int .i64 PO] 25))
    obtain ⟨D, hD⟩ : ∃ D, D = w1.heap.size := ⟨_, rfl⟩
    rw [← hD] at HP2
    go_upto_region 4 with fail
    rw [← hD]
    generalize w1.alloc (.cells #[.int .i64 PP, .bool PG, .bool PI, .int .i64 PR, .int .i64 PO] 25) = w2 at HB2 HP2 ⊢
    clear hb1 CT hD
    go_wp2_with fail
    refine (CR _ (HR.out.next HB2.out)).mono ?_
    rintro e w3 ⟨rfl, hb3⟩
    have HB3 := Lib.hid (HB2.out.trans (hb3.mono HB2.out.size))
    have HP3 : Hid (w3.heap[D]? = some (.cells #[.int .i64 PP, .bool PG, .bool PI, .int .i64 PR, .int .i64 PO] 25 (0, 0))) := Lib.hid (by rw [hb3.block _ (lt_some HP2.out)]; exact HP2.out)
    clear hb3 CR HB2 HP2
    have HB4 := Lib.hid (HB3.out.alloc HB3.out.size (.cells #[.int .i64 0, .bool false, .bool false, .int .i64 0, .int .i64 0] 30))
    have HP4 : Hid ((w3.alloc (.cells #[.int .i64 0, .bool false, .bool false, .int .i64 0, .int .i64 0] 30)).heap[D]? = some (.cells #[.int .i64 PP, .bool PG, .bool PI, .int .i64 PR, .int .i64 PO] 25 (0, 0))) := Lib.hid (by rw [Below.heap_alloc _ _ _ (lt_some HP3.out)]; exact HP3.out)
    have HW4 := Lib.hid (heap_alloc_new w3 (.cells #[.int .i64 0, .bool false, .bool false, .int .i64 0, .int .i64 0] 30))
    have hDG : D < w3.heap.size := lt_some HP3.out
    have hwG : w.heap.size ≤ w3.heap.size := HB3.out.size
    obtain ⟨G, hG⟩ : ∃ G, G = w3.heap.size := ⟨_, rfl⟩
    rw [← hG] at HW4 hDG hwG
    go_upto_region 6 with fail
    rw [← hG]
    generalize w3.alloc (.cells #[.int .i64 0, .bool false, .bool false, .int .i64 0, .int .i64 0] 30) = w4 at HB4 HP4 HW4 ⊢
    clear hG HB3 HP3
    cases hrb : rightB l with
    | false =>
      have e1 : (⟨PP, PG, PI, PR, PO⟩ : Pl) = ⟨0, false, false, 0, 0⟩ := HTW.out.trans (by rw [hrb]; simp)
      have e2 : E = 1 := HTE.out.trans (by rw [hrb]; simp)
      injection e1 with q0 q1 q2 q3 q4
      subst q0; subst q1; subst q2; subst q3; subst q4; subst e2
      go_upto_region 12 with fail
      rw [hrb] at CQ
      have EQ : ∀ W : World, (Op.equalIn 10000 30 (.agg #[.int .i64 (0), .bool (false), .bool (false), .int .i64 (0), .int .i64 (0)]) (.agg #[.int .i64 (0), .bool (false), .bool (false), .int .i64 (0), .int .i64 (0)])).run Try.prog W = .ok true W := fun W => eq_pl 9998 _ _ _ _ _ W
      go_cut [58] from 36 to 58 (fun v wx => v = .bool false ∧ Hid (Below w.heap.size w wx))
      case first =>
        clear LV CM HTW HTE
        refine wp_region_held_drew (S := (fun W => (W.cell? ⟨D, 0, none⟩ = some (.int .i64 (0)) ∧ W.cell? ⟨D, 1, none⟩ = some (.bool (false)) ∧ W.cell? ⟨D, 2, none⟩ = some (.bool (false)) ∧ W.cell? ⟨D, 3, none⟩ = some (.int .i64 (0)) ∧ W.cell? ⟨D, 4, none⟩ = some (.int .i64 (0))) ∧ (W.cell? ⟨G, 0, none⟩ = some (.int .i64 (0)) ∧ W.cell? ⟨G, 1, none⟩ = some (.bool (false)) ∧ W.cell? ⟨G, 2, none⟩ = some (.bool (false)) ∧ W.cell? ⟨G, 3, none⟩ = some (.int .i64 (0)) ∧ W.cell? ⟨G, 4, none⟩ = some (.int .i64 (0))))) (by kernel_rfl) ⟨five HP4.out, five HW4.out⟩ (fun hHeld => ?_)
        have HB7 : Hid (Below w.heap.size w w4.drew) := Lib.hid (below_drewN HB4.out 1)
        have HP7 : Hid (w4.drew.heap[D]? = some (.cells #[.int .i64 (0), .bool (false), .bool (false), .int .i64 (0), .int .i64 (0)] 25 (0, 0))) := HP4
        have HW7 : Hid (w4.drew.heap[G]? = some (.cells #[.int .i64 (0), .bool (false), .bool (false), .int .i64 (0), .int .i64 (0)] 30 (0, 0))) := HW4
        generalize w4.drew = w7 at hHeld HB7 HP7 HW7 ⊢
        clear HB4 HP4 HW4
        refine tk 0 (v := ?_) rfl (by kernel_rfl) (fun _ _ _ h => h) ?_ hHeld ?_
        rotate_left
        · (intro W hSw; (try dsimp only at hSw); go_simp; try with_reducible rfl)
        refine tk 2 (v := ?_) rfl (by kernel_rfl) (fun _ _ _ h => h) ?_ hHeld ?_
        rotate_left
        · (intro W hSw; (try dsimp only at hSw); go_simp; try with_reducible rfl)
        refine wpAnyH_ready (rs := [1]) (by kernel_rfl) (by simp) ?_
        refine AllReadyH.cons rfl (fun K hK => ?_) AllReadyH.nil
        go_simp
        refine (CQ _ (HR.out.next HB7.out)).mono ?_
        rintro e w8 ⟨rfl, hb8⟩
        have HB8 := Lib.hid (HB7.out.trans (hb8.mono HB7.out.size))
        have HP8 : Hid (w8.heap[D]? = some (.cells #[.int .i64 (0), .bool (false), .bool (false), .int .i64 (0), .int .i64 (0)] 25 (0, 0))) := Lib.hid (by rw [hb8.block _ (lt_some HP7.out)]; exact HP7.out)
        have HW8 : Hid (w8.heap[G]? = some (.cells #[.int .i64 (0), .bool (false), .bool (false), .int .i64 (0), .int .i64 (0)] 30 (0, 0))) := Lib.hid (by rw [hb8.block _ (lt_some HW7.out)]; exact HW7.out)
        clear hb8 HB7 HP7 HW7 hHeld CQ
        go_wp2_with fail
        refine hK.out _ _ ⟨five HP8.out, five HW8.out⟩ (fun hHeld => ?_)
        clear hK K
        refine tk 3 (v := ?_) rfl (by kernel_rfl) (fun _ _ _ h => h) ?_ hHeld ?_
        rotate_left
        · (intro W hSw; (try dsimp only at hSw); go_simp; try with_reducible rfl)
        refine tk 4 (v := ?_) rfl (by kernel_rfl) (fun _ _ _ h => h) ?_ hHeld ?_
        rotate_left
        · (intro W hSw; (try dsimp only at hSw); go_simp; try with_reducible rfl)
        refine tk 5 (v := ?_) rfl (by kernel_rfl) (fun _ _ _ h => h) ?_ hHeld ?_
        rotate_left
        · (intro W hSw; (try dsimp only at hSw); go_simp; try with_reducible rfl)
        refine tk 6 (v := ?_) rfl (by kernel_rfl) (fun _ _ _ h => h) ?_ hHeld ?_
        rotate_left
        · (intro W hSw; (try dsimp only at hSw); go_simp; try with_reducible rfl)
        refine tk 7 (v := ?_) rfl (by kernel_rfl) (fun _ _ _ h => h) ?_ hHeld ?_
        rotate_left
        · (intro W hSw; (try dsimp only at hSw); go_simp; try with_reducible rfl)
        refine tk 8 (v := ?_) rfl (by kernel_rfl) (fun _ _ _ h => h) ?_ hHeld ?_
        rotate_left
        · (intro W hSw; (try dsimp only at hSw); go_simp; try with_reducible rfl)
        refine tk 9 (v := ?_) rfl (by kernel_rfl) (fun _ _ _ h => h) ?_ hHeld ?_
        rotate_left
        · (intro W hSw; (try dsimp only at hSw); go_simp; try with_reducible rfl)
        refine tk 10 (v := ?_) rfl (by kernel_rfl) (fun _ _ _ h => h) ?_ hHeld ?_
        rotate_left
        · (intro W hSw; (try dsimp only at hSw); go_simp; try with_reducible rfl)
        refine tk 11 (v := ?_) rfl (by kernel_rfl) (fun _ _ _ h => h) ?_ hHeld ?_
        rotate_left
        · (intro W hSw; (try dsimp only at hSw); go_simp; try with_reducible rfl)
        refine tk 12 (v := ?_) rfl (by kernel_rfl) (fun _ _ _ h => h) ?_ hHeld ?_
        rotate_left
        · (intro W hSw; (try dsimp only at hSw); go_simp; try with_reducible rfl)
        refine tk 13 (v := ?_) rfl (by kernel_rfl) (fun _ _ _ h => h) ?_ hHeld ?_
        rotate_left
        · (intro W hSw; (try dsimp only at hSw); go_simp; try with_reducible rfl)
        refine tk 14 (v := ?_) rfl (by kernel_rfl) (fun _ _ _ h => h) ?_ hHeld ?_
        rotate_left
        · (intro W hSw; (try dsimp only at hSw); go_simp; try with_reducible rfl)
        refine tk 15 (v := ?_) rfl (by kernel_rfl) (fun _ _ _ h => h) ?_ hHeld ?_
        rotate_left
        · (intro W hSw; (try dsimp only at hSw); go_simp; try with_reducible rfl)
        refine tk 16 (v := ?_) rfl (by kernel_rfl) (fun _ _ _ h => h) ?_ hHeld ?_
        rotate_left
        · (intro W hSw; (try dsimp only at hSw); go_simp; try with_reducible rfl)
        refine tk 17 (v := ?_) rfl (by kernel_rfl) (fun _ _ _ h => h) ?_ hHeld ?_
        rotate_left
        · (intro W hSw; (try dsimp only at hSw); go_simp; try with_reducible rfl)
        refine tk 19 (v := ?_) rfl (by kernel_rfl) (fun _ _ _ h => h) ?_ hHeld ?_
        rotate_left
        · (intro W hSw; (try dsimp only at hSw); go_simp; try with_reducible rfl)
        refine tk 20 (v := ?_) rfl (by kernel_rfl) (fun _ _ _ h => h) ?_ hHeld ?_
        rotate_left
        · (intro W hSw; (try dsimp only at hSw); go_simp; try with_reducible rfl)
        refine wpAnyH_ready (rs := [18]) (by kernel_rfl) (by simp) ?_
        refine AllReadyH.cons rfl (fun K hK => ?_) AllReadyH.nil
        go_simp
        refine (CP _ (HR.out.next HB8.out)).mono ?_
        rintro e w9 ⟨rfl, hb9⟩
        have HB9 := Lib.hid (HB8.out.trans (hb9.mono HB8.out.size))
        have HP9 : Hid (w9.heap[D]? = some (.cells #[.int .i64 (0), .bool (false), .bool (false), .int .i64 (0), .int .i64 (0)] 25 (0, 0))) := Lib.hid (by rw [hb9.block _ (lt_some HP8.out)]; exact HP8.out)
        have HW9 : Hid (w9.heap[G]? = some (.cells #[.int .i64 (0), .bool (false), .bool (false), .int .i64 (0), .int .i64 (0)] 30 (0, 0))) := Lib.hid (by rw [hb9.block _ (lt_some HW8.out)]; exact HW8.out)
        clear hb9 HB8 HP8 HW8 hHeld CP
        go_wp2_with fail
        refine hK.out _ _ ⟨five HP9.out, five HW9.out⟩ (fun hHeld => ?_)
        clear hK K
        refine tk 21 (v := ?_) rfl (by kernel_rfl) (fun _ _ _ h => h) ?_ hHeld ?_
        rotate_left
        · (intro W hSw; (try dsimp only at hSw); go_simp; try with_reducible rfl)
        refine tk 22 (v := ?_) rfl (by kernel_rfl) (fun _ _ _ h => h) ?_ hHeld ?_
        rotate_left
        · (intro W hSw; (try dsimp only at hSw); go_simp; try with_reducible rfl)
        refine wpAnyH_done (by kernel_rfl) ?_ _
        clear hHeld
        go_wp2_with fail
        go_meet
        exact ⟨by simp, HB9⟩
      case rest =>
        obtain ⟨rfl, HB10⟩ := hcut
        clear HB4 HP4 HW4 CP CQ CM
        have CSH := pshift_any l A m c wc (by omega) (HR.out.next HB10.out)
        rw [show shiftW l = 0 by unfold shiftW; rw [hrb]; simp] at CSH
        go_wp2_with fail
        refine CSH.mono ?_
        rintro e w11 ⟨rfl, hb11⟩
        have HB11 := Lib.hid (HB10.out.trans (hb11.mono HB10.out.size))
        clear hb11 CSH HB10
        go_wp2_with (go_at_call 6; refine (LV _).mono ?_; rintro e w12 ⟨rfl, hb⟩)
        go_ret
        exact ⟨rfl, HB11.out.trans (hb.mono HB11.out.size)⟩
    | true =>
      have HRB := Lib.hid hrb
      go_wp2_with fail
      refine (CM _).mono ?_
      rintro e w5 ⟨rfl, rfl⟩
      cases hmb : mayB pos with
      | false =>
        have e1 : (⟨PP, PG, PI, PR, PO⟩ : Pl) = ⟨0, false, false, 0, 0⟩ := HTW.out.trans (by rw [hmb]; simp)
        have e2 : E = 3 := HTE.out.trans (by rw [hrb, hmb]; simp)
        injection e1 with q0 q1 q2 q3 q4
        subst q0; subst q1; subst q2; subst q3; subst q4; subst e2
        go_upto_region 12 with fail
        rw [hrb] at CQ
        have EQ : ∀ W : World, (Op.equalIn 10000 30 (.agg #[.int .i64 (0), .bool (false), .bool (false), .int .i64 (0), .int .i64 (0)]) (.agg #[.int .i64 (0), .bool (false), .bool (false), .int .i64 (0), .int .i64 (0)])).run Try.prog W = .ok true W := fun W => eq_pl 9998 _ _ _ _ _ W
        go_cut [58] from 36 to 58 (fun v wx => v = .bool false ∧ Hid (Below w.heap.size w wx))
        case first =>
          clear LV CM HTW HTE
          refine wp_region_held_drew (S := (fun W => (W.cell? ⟨D, 0, none⟩ = some (.int .i64 (0)) ∧ W.cell? ⟨D, 1, none⟩ = some (.bool (false)) ∧ W.cell? ⟨D, 2, none⟩ = some (.bool (false)) ∧ W.cell? ⟨D, 3, none⟩ = some (.int .i64 (0)) ∧ W.cell? ⟨D, 4, none⟩ = some (.int .i64 (0))) ∧ (W.cell? ⟨G, 0, none⟩ = some (.int .i64 (0)) ∧ W.cell? ⟨G, 1, none⟩ = some (.bool (false)) ∧ W.cell? ⟨G, 2, none⟩ = some (.bool (false)) ∧ W.cell? ⟨G, 3, none⟩ = some (.int .i64 (0)) ∧ W.cell? ⟨G, 4, none⟩ = some (.int .i64 (0))))) (by kernel_rfl) ⟨five HP4.out, five HW4.out⟩ (fun hHeld => ?_)
          have HB7 : Hid (Below w.heap.size w w4.drew) := Lib.hid (below_drewN HB4.out 1)
          have HP7 : Hid (w4.drew.heap[D]? = some (.cells #[.int .i64 (0), .bool (false), .bool (false), .int .i64 (0), .int .i64 (0)] 25 (0, 0))) := HP4
          have HW7 : Hid (w4.drew.heap[G]? = some (.cells #[.int .i64 (0), .bool (false), .bool (false), .int .i64 (0), .int .i64 (0)] 30 (0, 0))) := HW4
          generalize w4.drew = w7 at hHeld HB7 HP7 HW7 ⊢
          clear HB4 HP4 HW4
          refine tk 0 (v := ?_) rfl (by kernel_rfl) (fun _ _ _ h => h) ?_ hHeld ?_
          rotate_left
          · (intro W hSw; (try dsimp only at hSw); go_simp; try with_reducible rfl)
          refine tk 2 (v := ?_) rfl (by kernel_rfl) (fun _ _ _ h => h) ?_ hHeld ?_
          rotate_left
          · (intro W hSw; (try dsimp only at hSw); go_simp; try with_reducible rfl)
          refine wpAnyH_ready (rs := [1]) (by kernel_rfl) (by simp) ?_
          refine AllReadyH.cons rfl (fun K hK => ?_) AllReadyH.nil
          go_simp
          refine (CQ _ (HR.out.next HB7.out)).mono ?_
          rintro e w8 ⟨rfl, hb8⟩
          have HB8 := Lib.hid (HB7.out.trans (hb8.mono HB7.out.size))
          have HP8 : Hid (w8.heap[D]? = some (.cells #[.int .i64 (0), .bool (false), .bool (false), .int .i64 (0), .int .i64 (0)] 25 (0, 0))) := Lib.hid (by rw [hb8.block _ (lt_some HP7.out)]; exact HP7.out)
          have HW8 : Hid (w8.heap[G]? = some (.cells #[.int .i64 (0), .bool (false), .bool (false), .int .i64 (0), .int .i64 (0)] 30 (0, 0))) := Lib.hid (by rw [hb8.block _ (lt_some HW7.out)]; exact HW7.out)
          clear hb8 HB7 HP7 HW7 hHeld CQ
          go_wp2_with fail
          refine hK.out _ _ ⟨five HP8.out, five HW8.out⟩ (fun hHeld => ?_)
          clear hK K
          refine tk 3 (v := ?_) rfl (by kernel_rfl) (fun _ _ _ h => h) ?_ hHeld ?_
          rotate_left
          · (intro W hSw; (try dsimp only at hSw); go_simp; try with_reducible rfl)
          refine tk 4 (v := ?_) rfl (by kernel_rfl) (fun _ _ _ h => h) ?_ hHeld ?_
          rotate_left
          · (intro W hSw; (try dsimp only at hSw); go_simp; try with_reducible rfl)
          refine tk 5 (v := ?_) rfl (by kernel_rfl) (fun _ _ _ h => h) ?_ hHeld ?_
          rotate_left
          · (intro W hSw; (try dsimp only at hSw); go_simp; try with_reducible rfl)
          refine tk 6 (v := ?_) rfl (by kernel_rfl) (fun _ _ _ h => h) ?_ hHeld ?_
          rotate_left
          · (intro W hSw; (try dsimp only at hSw); go_simp; try with_reducible rfl)
          refine tk 7 (v := ?_) rfl (by kernel_rfl) (fun _ _ _ h => h) ?_ hHeld ?_
          rotate_left
          · (intro W hSw; (try dsimp only at hSw); go_simp; try with_reducible rfl)
          refine tk 8 (v := ?_) rfl (by kernel_rfl) (fun _ _ _ h => h) ?_ hHeld ?_
          rotate_left
          · (intro W hSw; (try dsimp only at hSw); go_simp; try with_reducible rfl)
          refine tk 9 (v := ?_) rfl (by kernel_rfl) (fun _ _ _ h => h) ?_ hHeld ?_
          rotate_left
          · (intro W hSw; (try dsimp only at hSw); go_simp; try with_reducible rfl)
          refine tk 10 (v := ?_) rfl (by kernel_rfl) (fun _ _ _ h => h) ?_ hHeld ?_
          rotate_left
          · (intro W hSw; (try dsimp only at hSw); go_simp; try with_reducible rfl)
          refine tk 11 (v := ?_) rfl (by kernel_rfl) (fun _ _ _ h => h) ?_ hHeld ?_
          rotate_left
          · (intro W hSw; (try dsimp only at hSw); go_simp; try with_reducible rfl)
          refine tk 12 (v := ?_) rfl (by kernel_rfl) (fun _ _ _ h => h) ?_ hHeld ?_
          rotate_left
          · (intro W hSw; (try dsimp only at hSw); go_simp; try with_reducible rfl)
          refine tk 13 (v := ?_) rfl (by kernel_rfl) (fun _ _ _ h => h) ?_ hHeld ?_
          rotate_left
          · (intro W hSw; (try dsimp only at hSw); go_simp; try with_reducible rfl)
          refine tk 14 (v := ?_) rfl (by kernel_rfl) (fun _ _ _ h => h) ?_ hHeld ?_
          rotate_left
          · (intro W hSw; (try dsimp only at hSw); go_simp; try with_reducible rfl)
          refine tk 15 (v := ?_) rfl (by kernel_rfl) (fun _ _ _ h => h) ?_ hHeld ?_
          rotate_left
          · (intro W hSw; (try dsimp only at hSw); go_simp; try with_reducible rfl)
          refine tk 16 (v := ?_) rfl (by kernel_rfl) (fun _ _ _ h => h) ?_ hHeld ?_
          rotate_left
          · (intro W hSw; (try dsimp only at hSw); go_simp; try with_reducible rfl)
          refine tk 17 (v := ?_) rfl (by kernel_rfl) (fun _ _ _ h => h) ?_ hHeld ?_
          rotate_left
          · (intro W hSw; (try dsimp only at hSw); go_simp; try with_reducible rfl)
          refine tk 19 (v := ?_) rfl (by kernel_rfl) (fun _ _ _ h => h) ?_ hHeld ?_
          rotate_left
          · (intro W hSw; (try dsimp only at hSw); go_simp; try with_reducible rfl)
          refine tk 20 (v := ?_) rfl (by kernel_rfl) (fun _ _ _ h => h) ?_ hHeld ?_
          rotate_left
          · (intro W hSw; (try dsimp only at hSw); go_simp; try with_reducible rfl)
          refine wpAnyH_ready (rs := [18]) (by kernel_rfl) (by simp) ?_
          refine AllReadyH.cons rfl (fun K hK => ?_) AllReadyH.nil
          go_simp
          refine (CP _ (HR.out.next HB8.out)).mono ?_
          rintro e w9 ⟨rfl, hb9⟩
          have HB9 := Lib.hid (HB8.out.trans (hb9.mono HB8.out.size))
          have HP9 : Hid (w9.heap[D]? = some (.cells #[.int .i64 (0), .bool (false), .bool (false), .int .i64 (0), .int .i64 (0)] 25 (0, 0))) := Lib.hid (by rw [hb9.block _ (lt_some HP8.out)]; exact HP8.out)
          have HW9 : Hid (w9.heap[G]? = some (.cells #[.int .i64 (0), .bool (false), .bool (false), .int .i64 (0), .int .i64 (0)] 30 (0, 0))) := Lib.hid (by rw [hb9.block _ (lt_some HW8.out)]; exact HW8.out)
          clear hb9 HB8 HP8 HW8 hHeld CP
          go_wp2_with fail
          refine hK.out _ _ ⟨five HP9.out, five HW9.out⟩ (fun hHeld => ?_)
          clear hK K
          refine tk 21 (v := ?_) rfl (by kernel_rfl) (fun _ _ _ h => h) ?_ hHeld ?_
          rotate_left
          · (intro W hSw; (try dsimp only at hSw); go_simp; try with_reducible rfl)
          refine tk 22 (v := ?_) rfl (by kernel_rfl) (fun _ _ _ h => h) ?_ hHeld ?_
          rotate_left
          · (intro W hSw; (try dsimp only at hSw); go_simp; try with_reducible rfl)
          refine wpAnyH_done (by kernel_rfl) ?_ _
          clear hHeld
          go_wp2_with fail
          go_meet
          exact ⟨by simp, HB9⟩
        case rest =>
          obtain ⟨rfl, HB10⟩ := hcut
          clear HB4 HP4 HW4 CP CQ CM
          have CS := rshift_any w.heap.size l A m c m wc (by rw [← HL.out]; exact right_of hrb) (by omega) (Nat.le_refl _) (HR.out.below HB10.out (Nat.le_refl _))
          go_wp2_with fail
          refine CS.mono ?_
          rintro e w11 ⟨rfl, q, hq⟩
          have HB11 : Hid (Below w.heap.size w w11) := Lib.hid (by rw [hq]; exact below_drewN HB10.out q)
          clear hq CS HB10
          have CSH := pshift_any l A m c w11 (by omega) (HR.out.next HB11.out)
          rw [show shiftW l = sh l m by unfold shiftW; rw [hrb, HL.out]; simp] at CSH
          go_wp2_with fail
          refine CSH.mono ?_
          rintro e w12 ⟨rfl, hb12⟩
          have HB12 := Lib.hid (HB11.out.trans (hb12.mono HB11.out.size))
          clear hb12 CSH HB11
          go_wp2_with (go_at_call 6; refine (LV _).mono ?_; rintro e w13 ⟨rfl, hb⟩)
          go_ret
          exact ⟨rfl, HB12.out.trans (hb.mono HB12.out.size)⟩
      | true =>
        have e1 : (⟨PP, PG, PI, PR, PO⟩ : Pl) = tell l pos side := HTW.out.trans (by rw [hrb, hmb]; simp)
        have e2 : E = 0 := HTE.out.trans (by rw [hrb, hmb]; simp)
        subst e2
        have CRT := rtell_any l A m c pos side w4 (by rw [← HL.out]; exact right_of hrb) (by omega) ((mayB_iff pos).1 hmb) (HR.out.next HB4.out)
        rw [← e1] at CRT
        clear e1
        unfold plV at CRT
        try simp only at CRT
        go_wp2_with fail
        refine CRT.mono ?_
        rintro e w5 ⟨rfl, hb5⟩
        have HB5 := Lib.hid (HB4.out.trans (hb5.mono HB4.out.size))
        have HP5 : Hid (w5.heap[D]? = some (.cells #[.int .i64 PP, .bool PG, .bool PI, .int .i64 PR, .int .i64 PO] 25 (0, 0))) := Lib.hid (by rw [hb5.block _ (lt_some HP4.out)]; exact HP4.out)
        have HW5 : Hid (w5.heap[G]? = some (.cells #[.int .i64 0, .bool false, .bool false, .int .i64 0, .int .i64 0] 30 (0, 0))) := Lib.hid (by rw [hb5.block _ (lt_some HW4.out)]; exact HW4.out)
        clear hb5 CRT HB4 HP4 HW4
        have hc := ten HW5.out
        have x0 := hc.1
        have x1 := hc.2.1
        have x2 := hc.2.2.1
        have x3 := hc.2.2.2.1
        have x4 := hc.2.2.2.2.1
        have y0 := hc.2.2.2.2.2.1
        have y1 := hc.2.2.2.2.2.2.1
        have y2 := hc.2.2.2.2.2.2.2.1
        have y3 := hc.2.2.2.2.2.2.2.2.1
        have y4 := hc.2.2.2.2.2.2.2.2.2
        clear hc
        have HB6 := Lib.hid (put5_below HB5.out hwG (.int .i64 PP) (.bool PG) (.bool PI) (.int .i64 PR) (.int .i64 PO))
        have HP6 : Hid ((put5 w5 G (.int .i64 PP) (.bool PG) (.bool PI) (.int .i64 PR) (.int .i64 PO)).heap[D]? = some (.cells #[.int .i64 PP, .bool PG, .bool PI, .int .i64 PR, .int .i64 PO] 25 (0, 0))) := Lib.hid (by rw [put5_other _ _ _ _ _ _ _ _ (by omega)]; exact HP5.out)
        have HW6 := Lib.hid (put5_any HW5.out (.int .i64 PP) (.bool PG) (.bool PI) (.int .i64 PR) (.int .i64 PO))
        go_upto_region 12 with fail
        clear x0 x1 x2 x3 x4 y0 y1 y2 y3 y4 HB5 HP5 HW5
        unfold put5 at HB6 HP6 HW6
        generalize ((((w5.setCell ⟨G, 0, none⟩ (.int .i64 PP)).setCell ⟨G, 1, none⟩ (.bool PG)).setCell ⟨G, 2, none⟩ (.bool PI)).setCell ⟨G, 3, none⟩ (.int .i64 PR)).setCell ⟨G, 4, none⟩ (.int .i64 PO) = w6 at HB6 HP6 HW6 ⊢
        rw [hrb] at CQ
        have EQ : ∀ W : World, (Op.equalIn 10000 30 (.agg #[.int .i64 (PP), .bool (PG), .bool (PI), .int .i64 (PR), .int .i64 (PO)]) (.agg #[.int .i64 (PP), .bool (PG), .bool (PI), .int .i64 (PR), .int .i64 (PO)])).run Try.prog W = .ok true W := fun W => eq_pl 9998 _ _ _ _ _ W
        go_cut [58] from 36 to 58 (fun v wx => v = .bool false ∧ Hid (Below w.heap.size w wx))
        case first =>
          clear LV CM HTW HTE
          refine wp_region_held_drew (S := (fun W => (W.cell? ⟨D, 0, none⟩ = some (.int .i64 (PP)) ∧ W.cell? ⟨D, 1, none⟩ = some (.bool (PG)) ∧ W.cell? ⟨D, 2, none⟩ = some (.bool (PI)) ∧ W.cell? ⟨D, 3, none⟩ = some (.int .i64 (PR)) ∧ W.cell? ⟨D, 4, none⟩ = some (.int .i64 (PO))) ∧ (W.cell? ⟨G, 0, none⟩ = some (.int .i64 (PP)) ∧ W.cell? ⟨G, 1, none⟩ = some (.bool (PG)) ∧ W.cell? ⟨G, 2, none⟩ = some (.bool (PI)) ∧ W.cell? ⟨G, 3, none⟩ = some (.int .i64 (PR)) ∧ W.cell? ⟨G, 4, none⟩ = some (.int .i64 (PO))))) (by kernel_rfl) ⟨five HP6.out, five HW6.out⟩ (fun hHeld => ?_)
          have HB7 : Hid (Below w.heap.size w w6.drew) := Lib.hid (below_drewN HB6.out 1)
          have HP7 : Hid (w6.drew.heap[D]? = some (.cells #[.int .i64 (PP), .bool (PG), .bool (PI), .int .i64 (PR), .int .i64 (PO)] 25 (0, 0))) := HP6
          have HW7 : Hid (w6.drew.heap[G]? = some (.cells #[.int .i64 (PP), .bool (PG), .bool (PI), .int .i64 (PR), .int .i64 (PO)] 30 (0, 0))) := HW6
          generalize w6.drew = w7 at hHeld HB7 HP7 HW7 ⊢
          clear HB6 HP6 HW6
          refine tk 0 (v := ?_) rfl (by kernel_rfl) (fun _ _ _ h => h) ?_ hHeld ?_
          rotate_left
          · (intro W hSw; (try dsimp only at hSw); go_simp; try with_reducible rfl)
          refine tk 2 (v := ?_) rfl (by kernel_rfl) (fun _ _ _ h => h) ?_ hHeld ?_
          rotate_left
          · (intro W hSw; (try dsimp only at hSw); go_simp; try with_reducible rfl)
          refine wpAnyH_ready (rs := [1]) (by kernel_rfl) (by simp) ?_
          refine AllReadyH.cons rfl (fun K hK => ?_) AllReadyH.nil
          go_simp
          refine (CQ _ (HR.out.next HB7.out)).mono ?_
          rintro e w8 ⟨rfl, hb8⟩
          have HB8 := Lib.hid (HB7.out.trans (hb8.mono HB7.out.size))
          have HP8 : Hid (w8.heap[D]? = some (.cells #[.int .i64 (PP), .bool (PG), .bool (PI), .int .i64 (PR), .int .i64 (PO)] 25 (0, 0))) := Lib.hid (by rw [hb8.block _ (lt_some HP7.out)]; exact HP7.out)
          have HW8 : Hid (w8.heap[G]? = some (.cells #[.int .i64 (PP), .bool (PG), .bool (PI), .int .i64 (PR), .int .i64 (PO)] 30 (0, 0))) := Lib.hid (by rw [hb8.block _ (lt_some HW7.out)]; exact HW7.out)
          clear hb8 HB7 HP7 HW7 hHeld CQ
          go_wp2_with fail
          refine hK.out _ _ ⟨five HP8.out, five HW8.out⟩ (fun hHeld => ?_)
          clear hK K
          refine tk 3 (v := ?_) rfl (by kernel_rfl) (fun _ _ _ h => h) ?_ hHeld ?_
          rotate_left
          · (intro W hSw; (try dsimp only at hSw); go_simp; try with_reducible rfl)
          refine tk 4 (v := ?_) rfl (by kernel_rfl) (fun _ _ _ h => h) ?_ hHeld ?_
          rotate_left
          · (intro W hSw; (try dsimp only at hSw); go_simp; try with_reducible rfl)
          refine tk 5 (v := ?_) rfl (by kernel_rfl) (fun _ _ _ h => h) ?_ hHeld ?_
          rotate_left
          · (intro W hSw; (try dsimp only at hSw); go_simp; try with_reducible rfl)
          refine tk 6 (v := ?_) rfl (by kernel_rfl) (fun _ _ _ h => h) ?_ hHeld ?_
          rotate_left
          · (intro W hSw; (try dsimp only at hSw); go_simp; try with_reducible rfl)
          refine tk 7 (v := ?_) rfl (by kernel_rfl) (fun _ _ _ h => h) ?_ hHeld ?_
          rotate_left
          · (intro W hSw; (try dsimp only at hSw); go_simp; try with_reducible rfl)
          refine tk 8 (v := ?_) rfl (by kernel_rfl) (fun _ _ _ h => h) ?_ hHeld ?_
          rotate_left
          · (intro W hSw; (try dsimp only at hSw); go_simp; try with_reducible rfl)
          refine tk 9 (v := ?_) rfl (by kernel_rfl) (fun _ _ _ h => h) ?_ hHeld ?_
          rotate_left
          · (intro W hSw; (try dsimp only at hSw); go_simp; try with_reducible rfl)
          refine tk 10 (v := ?_) rfl (by kernel_rfl) (fun _ _ _ h => h) ?_ hHeld ?_
          rotate_left
          · (intro W hSw; (try dsimp only at hSw); go_simp; try with_reducible rfl)
          refine tk 11 (v := ?_) rfl (by kernel_rfl) (fun _ _ _ h => h) ?_ hHeld ?_
          rotate_left
          · (intro W hSw; (try dsimp only at hSw); go_simp; try with_reducible rfl)
          refine tk 12 (v := ?_) rfl (by kernel_rfl) (fun _ _ _ h => h) ?_ hHeld ?_
          rotate_left
          · (intro W hSw; (try dsimp only at hSw); go_simp; try with_reducible rfl)
          refine tk 13 (v := ?_) rfl (by kernel_rfl) (fun _ _ _ h => h) ?_ hHeld ?_
          rotate_left
          · (intro W hSw; (try dsimp only at hSw); go_simp; try with_reducible rfl)
          refine tk 14 (v := ?_) rfl (by kernel_rfl) (fun _ _ _ h => h) ?_ hHeld ?_
          rotate_left
          · (intro W hSw; (try dsimp only at hSw); go_simp; try with_reducible rfl)
          refine tk 15 (v := ?_) rfl (by kernel_rfl) (fun _ _ _ h => h) ?_ hHeld ?_
          rotate_left
          · (intro W hSw; (try dsimp only at hSw); go_simp; try with_reducible rfl)
          refine tk 16 (v := ?_) rfl (by kernel_rfl) (fun _ _ _ h => h) ?_ hHeld ?_
          rotate_left
          · (intro W hSw; (try dsimp only at hSw); go_simp; try with_reducible rfl)
          refine tk 17 (v := ?_) rfl (by kernel_rfl) (fun _ _ _ h => h) ?_ hHeld ?_
          rotate_left
          · (intro W hSw; (try dsimp only at hSw); go_simp; try with_reducible rfl)
          refine tk 19 (v := ?_) rfl (by kernel_rfl) (fun _ _ _ h => h) ?_ hHeld ?_
          rotate_left
          · (intro W hSw; (try dsimp only at hSw); go_simp; try with_reducible rfl)
          refine tk 20 (v := ?_) rfl (by kernel_rfl) (fun _ _ _ h => h) ?_ hHeld ?_
          rotate_left
          · (intro W hSw; (try dsimp only at hSw); go_simp; try with_reducible rfl)
          refine wpAnyH_ready (rs := [18]) (by kernel_rfl) (by simp) ?_
          refine AllReadyH.cons rfl (fun K hK => ?_) AllReadyH.nil
          go_simp
          refine (CP _ (HR.out.next HB8.out)).mono ?_
          rintro e w9 ⟨rfl, hb9⟩
          have HB9 := Lib.hid (HB8.out.trans (hb9.mono HB8.out.size))
          have HP9 : Hid (w9.heap[D]? = some (.cells #[.int .i64 (PP), .bool (PG), .bool (PI), .int .i64 (PR), .int .i64 (PO)] 25 (0, 0))) := Lib.hid (by rw [hb9.block _ (lt_some HP8.out)]; exact HP8.out)
          have HW9 : Hid (w9.heap[G]? = some (.cells #[.int .i64 (PP), .bool (PG), .bool (PI), .int .i64 (PR), .int .i64 (PO)] 30 (0, 0))) := Lib.hid (by rw [hb9.block _ (lt_some HW8.out)]; exact HW8.out)
          clear hb9 HB8 HP8 HW8 hHeld CP
          go_wp2_with fail
          refine hK.out _ _ ⟨five HP9.out, five HW9.out⟩ (fun hHeld => ?_)
          clear hK K
          refine tk 21 (v := ?_) rfl (by kernel_rfl) (fun _ _ _ h => h) ?_ hHeld ?_
          rotate_left
          · (intro W hSw; (try dsimp only at hSw); go_simp; try with_reducible rfl)
          refine tk 22 (v := ?_) rfl (by kernel_rfl) (fun _ _ _ h => h) ?_ hHeld ?_
          rotate_left
          · (intro W hSw; (try dsimp only at hSw); go_simp; try with_reducible rfl)
          refine wpAnyH_done (by kernel_rfl) ?_ _
          clear hHeld
          go_wp2_with fail
          go_meet
          exact ⟨by simp, HB9⟩
        case rest =>
          obtain ⟨rfl, HB10⟩ := hcut
          clear HB6 HP6 HW6 CP CQ CM
          have CS := rshift_any w.heap.size l A m c m wc (by rw [← HL.out]; exact right_of hrb) (by omega) (Nat.le_refl _) (HR.out.below HB10.out (Nat.le_refl _))
          go_wp2_with fail
          refine CS.mono ?_
          rintro e w11 ⟨rfl, q, hq⟩
          have HB11 : Hid (Below w.heap.size w w11) := Lib.hid (by rw [hq]; exact below_drewN HB10.out q)
          clear hq CS HB10
          have CSH := pshift_any l A m c w11 (by omega) (HR.out.next HB11.out)
          rw [show shiftW l = sh l m by unfold shiftW; rw [hrb, HL.out]; simp] at CSH
          go_wp2_with fail
          refine CSH.mono ?_
          rintro e w12 ⟨rfl, hb12⟩
          have HB12 := Lib.hid (HB11.out.trans (hb12.mono HB11.out.size))
          clear hb12 CSH HB11
          go_wp2_with (go_at_call 6; refine (LV _).mono ?_; rintro e w13 ⟨rfl, hb⟩)
          go_ret
          exact ⟨rfl, HB12.out.trans (hb.mono HB12.out.size)⟩
theorem tells_law (A : Option Addr) (m c : Nat) (l : List Rg) (pos side : Int) (w : World) (h : RRow w A m l) (_ : m ≤ maxLen) (_ : (Lit.int .i64 pos).wf = true) (_ : (Lit.int .i64 side).wf = true) :
    Calls Try.prog 3 #[.slice A m c, .int .i64 pos, .int .i64 side] w fun e w' => e = .returned (.bool true) ∧ Below w.heap.size w w' :=
  tells_walk l A m c pos side w (RLow.of h)
end Go.Proofs.Ytalbgafchfmmaaa.Sm
