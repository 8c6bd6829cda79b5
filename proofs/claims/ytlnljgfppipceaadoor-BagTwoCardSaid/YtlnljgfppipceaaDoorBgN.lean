/- The law BagTwo, walked: up to the drawn regions. -/
import Derived.Test.YtlnljgfppipceaaDoorBgM
namespace Go.Proofs.YtlnljgfppipceaaDoor.Bg
open Go.RowKit Mem
set_option linter.unusedVariables false

set_option maxRecDepth 100000 in
set_option maxHeartbeats 8000000 in
theorem bagTwo_walk (A : Option Addr) (n c : Nat) (zs : List Int) (B : Option Addr) (n' c' : Nat) (ks : List Int) (w : World) (hr : Row .i64 w A n zs) (hnc : n ≤ c) (hcm : c ≤ maxLen) (hr' : Row .i64 w B n' ks) (hnc' : n' ≤ c') (hcm' : c' ≤ maxLen) (hT : Tab w) :
    Calls Tryd.prog 4 #[.slice A n c, .slice B n' c'] w fun e w' => e = .returned (.bool true) ∧ Below w.heap.size w w' := by
  have HR := Lib.hid hr
  have HR' := Lib.hid hr'
  have HT := Lib.hid hT
  have hn : n ≤ maxLen := by omega
  have hn' : n' ≤ maxLen := by omega
  unfold maxLen at hn hn'
  clear hr hr' hT hcm hnc hcm' hnc'
  by_cases hbig : 300 < n
  · go_enter Tryd.func4, Tryd.ntmps4
    go_wp2_with (go_at_call 6; refine (live_any _ HT.out).mono ?_; rintro e w' ⟨rfl, hb⟩)
    go_ret
    exact ⟨rfl, hb⟩
  by_cases hbig' : 300 < n'
  · go_enter Tryd.func4, Tryd.ntmps4
    go_wp2_with (go_at_call 6; refine (live_any _ HT.out).mono ?_; rintro e w' ⟨rfl, hb⟩)
    go_ret
    exact ⟨rfl, hb⟩
  clear hn hn'
  go_enter Tryd.func4, Tryd.ntmps4
  go_wp2_with fail
  refine (of_any A n c zs _ HR.out (by omega)).mono ?_
  rintro e w1 ⟨rfl, hb1⟩
  obtain ⟨x, hx⟩ : ∃ x, x = ofL zs := ⟨_, rfl⟩
  rw [← hx]
  have HX := Lib.hid hx
  have HXO := Lib.hid (show x.ok by rw [hx]; exact ofL_ok zs)
  have HR'1 := Lib.hid (HR'.out.below hb1)
  have HB1 := Lib.hid hb1
  have hs1 := hb1.size
  clear hx hb1
  go_wp2_with fail
  refine (of_any B n' c' ks _ HR'1.out (by omega)).mono ?_
  rintro e w2 ⟨rfl, hb2⟩
  obtain ⟨y, hy⟩ : ∃ y, y = ofL ks := ⟨_, rfl⟩
  rw [← hy]
  have HY := Lib.hid hy
  have HYO := Lib.hid (show y.ok by rw [hy]; exact ofL_ok ks)
  have HB2 := Lib.hid (HB1.out.trans (hb2.mono hs1))
  have hs2 := HB2.out.size
  clear hy hb2
  have HA3 := Lib.hid ((At.new w2 x).alloc (.cells #[.int .u64 y.a, .int .u64 y.b, .int .u64 y.c, .int .u64 y.d] 27))
  have HA3' := Lib.hid (At.new (w2.alloc (.cells #[.int .u64 x.a, .int .u64 x.b, .int .u64 x.c, .int .u64 x.d] 27)) y)
  rw [World.size_alloc] at HA3'
  have HB3 := Lib.hid ((HB2.out.alloc hs2 (.cells #[.int .u64 x.a, .int .u64 x.b, .int .u64 x.c, .int .u64 x.d] 27)).alloc (by simp; omega) (.cells #[.int .u64 y.a, .int .u64 y.b, .int .u64 y.c, .int .u64 y.d] 27))
  unfold bagV
  go_wp2_with fail
  refine (rlist_any A n c zs _ ((HR.out.below HB3.out)) (by omega)).mono ?_
  rw [want_two, ← HX.out]
  rintro e w4 ⟨A3, c3, rfl, hc3, hr4, hb4⟩
  have hlx := list_length_le x
  have hly := list_length_le y
  obtain ⟨m, hm⟩ : ∃ m, m = x.list.length := ⟨_, rfl⟩
  rw [← hm] at hlx hr4 ⊢
  have HM := Lib.hid hm
  have HR4 := Lib.hid hr4
  have HA4 := Lib.hid (HA3.out.below hb4 HA3.out.lt)
  have HA4' := Lib.hid (HA3'.out.below hb4 HA3'.out.lt)
  have HB4 := Lib.hid (HB3.out.trans (hb4.mono HB3.out.size))
  clear hc3 hr4 hb4 hm
  go_wp2_with fail
  refine (rlist_any B n' c' ks _ ((HR'.out.below HB4.out)) (by omega)).mono ?_
  rw [want_two, ← HY.out]
  rintro e w5 ⟨A4, c4, rfl, hc4, hr5, hb5⟩
  obtain ⟨k, hk⟩ : ∃ k, k = y.list.length := ⟨_, rfl⟩
  rw [← hk] at hly hr5 ⊢
  have HK := Lib.hid hk
  have HK5 : Hid (Keep w w2.heap.size (w2.heap.size + 1) x y A3 A4 m k x.list y.list w5) :=
    ⟨HA4.out.below hb5 HA4.out.lt, HA4'.out.below hb5 HA4'.out.lt, HR4.out.below hb5, hr5, HT.out.below (HB4.out.trans (hb5.mono HB4.out.size)) HT.out.2, HB4.out.trans (hb5.mono HB4.out.size)⟩
  clear hc4 hr5 hb5 hk
  obtain ⟨a0, a1, a2, a3, b0, b1, b2, b3⟩ := HK5.out.cells
  go_wp2_with fail
  refine (or_any x y HXO.out HYO.out _).mono ?_
  rintro e w6 ⟨rfl, hb6⟩
  have HK6 := Lib.hid (HK5.out.step hb6)
  clear a0 a1 a2 a3 b0 b1 b2 b3 hb6
  go_wp2_with fail
  refine (list_any (x.orB y) (or_ok HXO.out HYO.out) _ HK6.out.t).mono ?_
  rintro e w7 ⟨A7, c7, rfl, hc7, hr7, hb7⟩
  have HR7 := Lib.hid hr7
  have HK7 := Lib.hid (HK6.out.step hb7)
  clear hc7 hr7 hb7
  go_wp2_with fail
  refine (two_0 A3 A4 m c3 k c4 x.list y.list _ HK7.out.rl HK7.out.rk (by omega) (by omega)).mono ?_
  rw [two_or x y]
  rintro e w8 ⟨A8, c8, rfl, hc8, hr8, hb8⟩
  have HR8 := Lib.hid hr8
  have HR7' := Lib.hid (HR7.out.below hb8)
  have HK8 := Lib.hid (HK7.out.step hb8)
  clear hc8 hr8 hb8
  go_wp2_with fail
  refine (rsame_any A7 A8 _ _ c7 c8 (x.orB y).list (x.orB y).list _ HR7'.out HR8.out (Nat.le_trans (list_length_le _) (by decide)) (Nat.le_trans (list_length_le _) (by decide))).mono ?_
  rw [show decide ((x.orB y).list = (x.orB y).list) = true from by simp]
  rintro e w9 ⟨rfl, hb9⟩
  have HK9 := Lib.hid (HK8.out.step hb9)
  clear hb9
  obtain ⟨a0, a1, a2, a3, b0, b1, b2, b3⟩ := HK9.out.cells
  go_wp2_with fail
  refine (and_any x y HXO.out HYO.out _).mono ?_
  rintro e w10 ⟨rfl, hb10⟩
  have HK10 := Lib.hid (HK9.out.step hb10)
  clear a0 a1 a2 a3 b0 b1 b2 b3 hb10
  go_wp2_with fail
  refine (list_any (x.andB y) (and_ok y HXO.out) _ HK10.out.t).mono ?_
  rintro e w11 ⟨A11, c11, rfl, hc11, hr11, hb11⟩
  have HR11 := Lib.hid hr11
  have HK11 := Lib.hid (HK10.out.step hb11)
  clear hc11 hr11 hb11
  go_wp2_with fail
  refine (two_1 A3 A4 m c3 k c4 x.list y.list _ HK11.out.rl HK11.out.rk (by omega) (by omega)).mono ?_
  rw [two_and x y]
  rintro e w12 ⟨A12, c12, rfl, hc12, hr12, hb12⟩
  have HR12 := Lib.hid hr12
  have HR11' := Lib.hid (HR11.out.below hb12)
  have HK12 := Lib.hid (HK11.out.step hb12)
  clear hc12 hr12 hb12
  go_wp2_with fail
  refine (rsame_any A11 A12 _ _ c11 c12 (x.andB y).list (x.andB y).list _ HR11'.out HR12.out (Nat.le_trans (list_length_le _) (by decide)) (Nat.le_trans (list_length_le _) (by decide))).mono ?_
  rw [show decide ((x.andB y).list = (x.andB y).list) = true from by simp]
  rintro e w13 ⟨rfl, hb13⟩
  have HK13 := Lib.hid (HK12.out.step hb13)
  clear hb13
  obtain ⟨a0, a1, a2, a3, b0, b1, b2, b3⟩ := HK13.out.cells
  go_wp2_with fail
  refine (not_any x y HXO.out HYO.out _).mono ?_
  rintro e w14 ⟨rfl, hb14⟩
  have HK14 := Lib.hid (HK13.out.step hb14)
  clear a0 a1 a2 a3 b0 b1 b2 b3 hb14
  go_wp2_with fail
  refine (list_any (x.notB y) (not_ok y HXO.out) _ HK14.out.t).mono ?_
  rintro e w15 ⟨A15, c15, rfl, hc15, hr15, hb15⟩
  have HR15 := Lib.hid hr15
  have HK15 := Lib.hid (HK14.out.step hb15)
  clear hc15 hr15 hb15
  go_wp2_with fail
  refine (two_2 A3 A4 m c3 k c4 x.list y.list _ HK15.out.rl HK15.out.rk (by omega) (by omega)).mono ?_
  rw [two_not x y HYO.out]
  rintro e w16 ⟨A16, c16, rfl, hc16, hr16, hb16⟩
  have HR16 := Lib.hid hr16
  have HR15' := Lib.hid (HR15.out.below hb16)
  have HK16 := Lib.hid (HK15.out.step hb16)
  clear hc16 hr16 hb16
  go_wp2_with fail
  refine (rsame_any A15 A16 _ _ c15 c16 (x.notB y).list (x.notB y).list _ HR15'.out HR16.out (Nat.le_trans (list_length_le _) (by decide)) (Nat.le_trans (list_length_le _) (by decide))).mono ?_
  rw [show decide ((x.notB y).list = (x.notB y).list) = true from by simp]
  rintro e w17 ⟨rfl, hb17⟩
  have HK17 := Lib.hid (HK16.out.step hb17)
  clear hb17
  have HS0 := Lib.hid (hold_of HK17.out.drew)
  obtain ⟨s, hs⟩ : ∃ s, s = sameB x y := ⟨_, rfl⟩
  have HS : Hid (decide (x.list = y.list) = s) := by
    show _ = _
    rw [hs, Bool.eq_iff_iff, decide_eq_true_eq, sameB_iff, list_same HXO.out HYO.out]
  have heq1 : ∀ w : World, (Op.equalIn 9999 25 (.agg #[.int .u64 x.a, .int .u64 x.b, .int .u64 x.c, .int .u64 x.d]) (.agg #[.int .u64 y.a, .int .u64 y.b, .int .u64 y.c, .int .u64 y.d])).run Tryd.prog w = .ok s w := fun w => by rw [hs]; exact eq_bags x y w
  have heq2 : ∀ w : World, (Op.equalIn 9999 25 (.agg #[.int .u64 x.a, .int .u64 x.b, .int .u64 x.c, .int .u64 x.d]) (.agg #[.int .u64 x.a, .int .u64 x.b, .int .u64 x.c, .int .u64 x.d])).run Tryd.prog w = .ok true w := fun w => by rw [eq_bags x x w, sameB_refl]
  have heq3 : ∀ w : World, (Op.equalIn 9999 25 (.agg #[.int .u64 0, .int .u64 0, .int .u64 0, .int .u64 0]) (.agg #[.int .u64 0, .int .u64 0, .int .u64 0, .int .u64 0])).run Tryd.prog w = .ok true w := fun w => eq_bags nil nil w
  obtain ⟨p, hp⟩ : ∃ p, p = x.andB y := ⟨_, rfl⟩
  obtain ⟨q, hq⟩ : ∃ q, q = x.notB y := ⟨_, rfl⟩
  have HP := Lib.hid hp
  have HQ := Lib.hid hq
  have HPO := Lib.hid (show p.ok by rw [hp]; exact and_ok y HXO.out)
  have HQO := Lib.hid (show q.ok by rw [hq]; exact not_ok y HXO.out)
  have HPQ : Hid (p.orB q = x) := by show _ = _; rw [hp, hq]; exact split_is HXO.out HYO.out
  have HPN : Hid (p.andB q = nil) := by show _ = _; rw [hp, hq]; exact apart_is HXO.out HYO.out
  clear hs hp hq
  cases s
  all_goals
    go_wp2
    go_region_held3 (fun W => W.cell? ⟨w2.heap.size, 0, none⟩ = some (.int .u64 x.a) ∧ W.cell? ⟨w2.heap.size, 1, none⟩ = some (.int .u64 x.b) ∧ W.cell? ⟨w2.heap.size, 2, none⟩ = some (.int .u64 x.c) ∧ W.cell? ⟨w2.heap.size, 3, none⟩ = some (.int .u64 x.d) ∧ W.cell? ⟨w2.heap.size + 1, 0, none⟩ = some (.int .u64 y.a) ∧ W.cell? ⟨w2.heap.size + 1, 1, none⟩ = some (.int .u64 y.b) ∧ W.cell? ⟨w2.heap.size + 1, 2, none⟩ = some (.int .u64 y.c) ∧ W.cell? ⟨w2.heap.size + 1, 3, none⟩ = some (.int .u64 y.d) ∧ Keep w w2.heap.size (w2.heap.size + 1) x y A3 A4 m k x.list y.list W)
      (first
        | exact HS0.out
        | exact hold_step (by assumption) (by assumption))
      (first
        | (go_at_call 13; (with_reducible refine (rsame_keep _ HS.out (by omega) (by omega) (by assumption)).mono ?_); rintro e w18 ⟨rfl, hb18⟩)
        | (go_at_call 18; (with_reducible refine (and_l x y p HXO.out HYO.out HP.out.symm _).mono ?_); rintro e w18 ⟨rfl, hb18⟩)
        | (go_at_call 19; (with_reducible refine (not_l x y q HXO.out HYO.out HQ.out.symm _).mono ?_); rintro e w18 ⟨rfl, hb18⟩)
        | (go_at_call 16; (with_reducible refine (or_l p q x HPO.out HQO.out HPQ.out _).mono ?_); rintro e w18 ⟨rfl, hb18⟩)
        | (go_at_call 18; (with_reducible refine (and_z p q HPO.out HQO.out HPN.out _).mono ?_); rintro e w18 ⟨rfl, hb18⟩))
    have hH : Keep w w2.heap.size (w2.heap.size + 1) x y A3 A4 m k x.list y.list w18 := hold_keep (by assumption)
    have HS1 := Lib.hid (hold_of hH.drew)
    clear hH
    go_wp2
    go_region_held3 (fun W => W.cell? ⟨w2.heap.size, 0, none⟩ = some (.int .u64 x.a) ∧ W.cell? ⟨w2.heap.size, 1, none⟩ = some (.int .u64 x.b) ∧ W.cell? ⟨w2.heap.size, 2, none⟩ = some (.int .u64 x.c) ∧ W.cell? ⟨w2.heap.size, 3, none⟩ = some (.int .u64 x.d) ∧ W.cell? ⟨w2.heap.size + 1, 0, none⟩ = some (.int .u64 y.a) ∧ W.cell? ⟨w2.heap.size + 1, 1, none⟩ = some (.int .u64 y.b) ∧ W.cell? ⟨w2.heap.size + 1, 2, none⟩ = some (.int .u64 y.c) ∧ W.cell? ⟨w2.heap.size + 1, 3, none⟩ = some (.int .u64 y.d) ∧ Keep w w2.heap.size (w2.heap.size + 1) x y A3 A4 m k x.list y.list W)
      (first
        | exact HS1.out
        | exact hold_step (by assumption) (by assumption))
      (first
        | (go_at_call 14; (with_reducible refine (list_keep HXO.out (by assumption)).mono ?_); rintro e w19 ⟨A19, c19, rfl, hc19, hr19, hb19⟩)
        | (go_at_call 7; (with_reducible refine (of_l x HXO.out A19 _ c19 _ hr19 (Nat.le_trans (list_length_le x) (by decide))).mono ?_); rintro e w20 ⟨rfl, hb20⟩)
        | (go_at_call 6; (with_reducible refine (live_keep (by assumption)).mono ?_); rintro e w21 ⟨rfl, hb21⟩))
    have hE : Keep w w2.heap.size (w2.heap.size + 1) x y A3 A4 m k x.list y.list w21 := hold_keep (by assumption)
    have HE := Lib.hid hE.bel
    clear hE
    go_wp2
    go_ret
    exact ⟨rfl, HE.out⟩
end Go.Proofs.YtlnljgfppipceaaDoor.Bg
