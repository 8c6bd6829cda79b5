/- Walks: the reference's Open; the program's open, Flat. -/
import Derived.Test.YtnmphoemiohgjaaSlA
namespace Go.Proofs.Ytnmphoemiohgjaa.Sl
open Go.RowKit Mem Tk
set_option linter.unusedVariables false

theorem partner_any (l : List Tk) (A : Option Addr) (n cap i : Nat) (c : Int) (w : World) (hc : c = 1 ∨ c = 2) (hr : TRow w A n l) (hn : n ≤ 1000000) (hi : i < n) (hk : (kinds l).getD i 0 = c) :
    Calls Try.prog 11 #[.slice A n cap, .int .i64 i] w (PNeg (lone (kinds l) c i) w) := by
  have hk' : ∀ h : i < l.length, l[i].k = c := fun h => by
    rw [← hk, ← kinds_at l i h]; simp [List.getD, List.getElem?_eq_getElem (show i < (kinds l).length by rw [kinds_length]; exact h)]
  unfold lone
  rw [hk]
  rcases hc with rfl | rfl
  · simpa using partner_fwd l A n cap i w hr hn hi hk'
  · simpa using partner_back l A n cap i w hr hn hi hk'
theorem lone_no (K : List Int) (c : Int) (i : Nat) (h : ¬ K.getD i 0 = c) : lone K c i = false := by unfold lone; rw [beq_eq_false_iff_ne.2 h]; rfl
theorem getD_kinds (l : List Tk) (i : Nat) (h : i < l.length) : (kinds l).getD i 0 = l[i].k := by
  rw [← kinds_at l i h]; simp [List.getD, List.getElem?_eq_getElem (show i < (kinds l).length by rw [kinds_length]; exact h)]

set_option maxHeartbeats 1000000 in
theorem ropen_any (l : List Tk) (A : Option Addr) (n cap : Nat) (c : Int) (w : World) (hc : c = 1 ∨ c = 2) (hr : TRow w A n l) (hn : n ≤ 1000000) :
    Calls Try.prog 5 #[.slice A n cap, .int .i64 c] w fun e w' => e = .returned (.int .i64 (cnt (kinds l) c l.length)) ∧ w = w' := by
  obtain ⟨hl, hrow⟩ := id hr
  have PC := fun i hi hk => partner_any l A n cap i c w hc hr hn hi hk
  have HP := Lib.hid PC
  have HR := Lib.hid hrow
  have HL := Lib.hid hl
  have HCC := Lib.hid hc
  clear hrow hl hr PC hc
  go_enter Try.func5, Try.ntmps5
  go_wp2
  go_loop [5, 6] (fun s j => ∃ i : Nat, i ≤ n ∧ j = .int .i64 i ∧ s = .int .i64 (cnt (kinds l) c i)) (fun _ j => n - (intOf j).toNat)
  case atStart => exact ⟨0, by omega, by simp, by simp [cnt]⟩
  case round =>
    obtain ⟨i, hi, rfl, rfl⟩ := hrel
    have hb := cnt_le (kinds l) c i
    have CS := Lib.hid (show cnt (kinds l) c (i + 1) = cnt (kinds l) c i + (if lone (kinds l) c i = true then 1 else 0) from rfl)
    by_cases hlt : i < n
    · obtain ⟨b, off, rfl, hbl, hcells⟩ := HR.out (by omega)
      have hi' : i < l.length := by have := HL.out; omega
      have c1 := (hcells i hi').cells.1
      have GK := Lib.hid (getD_kinds l i hi')
      clear hcells
      generalize hD : cnt (kinds l) c i = D at hb CS ⊢
      generalize hK : l[i].k = k at c1 GK
      clear hD hK
      by_cases he : k = c
      · have CP := HP.out i hlt (GK.out.trans he)
        subst he
        have HP' := HP
        clear HP
        cases hlo : lone (kinds l) k i with
        | true =>
          rw [hlo] at CP
          have CS' := Lib.hid (show cnt (kinds l) k (i + 1) = D + 1 by rw [CS.out, hlo]; rfl)
          clear CS hlo
          go_wp2_with (go_at_call 11; refine CP.mono ?_; rintro e w' ⟨r, rfl, hneg, rfl⟩)
          go_round
          case rel => exact ⟨i + 1, by omega, by go_num, by rw [CS'.out]; go_num⟩
          case measure => simp [intOf]; omega
        | false =>
          rw [hlo] at CP
          have CS' := Lib.hid (show cnt (kinds l) k (i + 1) = D by rw [CS.out, hlo]; rfl)
          clear CS hlo
          go_wp2_with (go_at_call 11; refine CP.mono ?_; rintro e w' ⟨r, rfl, hneg, rfl⟩)
          go_round
          case rel => exact ⟨i + 1, by omega, by go_num, by rw [CS'.out]⟩
          case measure => simp [intOf]; omega
      · have CS' := Lib.hid (show cnt (kinds l) c (i + 1) = D by rw [CS.out, lone_no _ _ _ (by rw [GK.out]; exact he)]; rfl)
        have he' : (k == c) = false := by simpa using he
        clear CS HP
        go_wp2
        go_round
        case rel => exact ⟨i + 1, by omega, by go_num, by rw [CS'.out]⟩
        case measure => simp [intOf]; omega
    · obtain rfl : i = n := by omega
      go_wp2
      go_ret
      exact ⟨by rw [HL.out]; rfl, rfl⟩

def OpnIs (w : World) (K : List Int) (e : Ending) (w' : World) : Prop := ∃ a b : Int, e = .returned (.tuple #[.int .i64 a, .int .i64 b]) ∧ a = (opn K).1 ∧ b = (opn K).2 ∧ Below w.heap.size w w'
theorem step_a (s : Nat × Nat) (h : s.2 = 0) : stepO s 2 = (s.1 + 1, 0) := by unfold stepO; simp [h]
theorem step_b (s : Nat × Nat) (h : s.2 ≠ 0) : stepO s 2 = (s.1, s.2 - 1) := by unfold stepO; simp [h]
theorem step_c (s : Nat × Nat) : stepO s 1 = (s.1, s.2 + 1) := by unfold stepO; simp
theorem step_d (s : Nat × Nat) {c : Int} (h1 : ¬ c = 1) (h2 : ¬ c = 2) : stepO s c = s := by unfold stepO; simp [h1, h2]
set_option maxHeartbeats 2000000 in
theorem open_any (l : List Tk) (A : Option Addr) (n cap : Nat) (w : World) (hr : TRow w A n l) (hn : n ≤ 1000000) :
    Calls Try.prog 15 #[.slice A n cap] w (OpnIs w (kinds l)) := by
  obtain ⟨hl, hrow⟩ := id hr
  have HR := Lib.hid hr
  have HL := Lib.hid hl
  clear hrow hl hr
  go_enter Try.func15, Try.ntmps15
  go_wp2
  go_loopw [2, 3, 8] (fun u v j wr => ∃ (i : Nat) (a b : Int), i ≤ n ∧ j = .int .i64 i ∧ u = .int .i64 a ∧ v = .int .i64 b ∧ (0 ≤ a ∧ a ≤ i) ∧ (0 ≤ b ∧ b ≤ i) ∧ Hid (a = (opn ((kinds l).take i)).1) ∧ Hid (b = (opn ((kinds l).take i)).2) ∧ Hid (Below w.heap.size w wr)) (fun _ _ j _ => n - (intOf j).toNat)
  case atStart => exact ⟨0, 0, 0, by omega, by simp, rfl, rfl, by omega, by omega, Lib.hid (by simp [opn_nil]), Lib.hid (by simp [opn_nil]), Lib.hid (Below.refl _ _)⟩
  case round =>
    obtain ⟨i, a, b, hi, rfl, rfl, rfl, ⟨ha0, ha1⟩, ⟨hb0, hb1⟩, HA, HB, HW⟩ := hrel
    by_cases hlt : i < n
    · obtain ⟨bl, off, rfl, hbl, hcells⟩ := (HR.out.below HW.out).2 (by omega)
      have hi' : i < l.length := by have := HL.out; omega
      obtain ⟨c0, c1, c2, c3, c4, c5, c6, c7, c8, c9, c10, c11⟩ := (hcells i hi').cells
      have KS : Hid ((kinds l).take (i + 1) = (kinds l).take i ++ [l[i].k]) := Lib.hid (by
        rw [List.take_succ_eq_append_getElem (by rw [kinds_length]; exact hi'), kinds_at l i hi'])
      clear hcells
      generalize hK : l[i] = x at *
      obtain ⟨k, ty, at_, r, ma, mb, mc, md, me, mf, mg, mh⟩ := x
      simp only at c0 c1 c2 c3 c4 c5 c6 c7 c8 c9 c10 c11 KS
      clear hK hbl
      by_cases h2 : k = 2
      · subst h2
        by_cases hz : b = 0
        · subst hz
          have N1 := Lib.hid (show (opn ((kinds l).take (i + 1))) = ((opn ((kinds l).take i)).1 + 1, 0) by rw [KS.out, opn_snoc, step_a _ (by have := HB.out; omega)])
          go_wp2
          go_roundw
          case rel => exact ⟨i + 1, a + 1, 0, by omega, by go_num, by go_num, by go_num, by omega, by omega, Lib.hid (by rw [N1.out, HA.out]; simp), Lib.hid (by rw [N1.out]; rfl), Lib.hid (((HW.out.alloc HW.out.size _)))⟩
          case measure => simp [intOf]; omega
        · have N1 := Lib.hid (show (opn ((kinds l).take (i + 1))) = ((opn ((kinds l).take i)).1, (opn ((kinds l).take i)).2 - 1) by rw [KS.out, opn_snoc, step_b _ (by have := HB.out; omega)])
          have hz' : (b == 0) = false := by simpa using hz
          go_wp2
          go_roundw
          case rel => exact ⟨i + 1, a, b - 1, by omega, by go_num, rfl, by go_num, by omega, by omega, Lib.hid (by rw [N1.out, HA.out]), Lib.hid (by have := HB.out; rw [N1.out]; simp only; omega), Lib.hid (((HW.out.alloc HW.out.size _)))⟩
          case measure => simp [intOf]; omega
      · by_cases h1 : k = 1
        · subst h1
          have N1 := Lib.hid (show (opn ((kinds l).take (i + 1))) = ((opn ((kinds l).take i)).1, (opn ((kinds l).take i)).2 + 1) by rw [KS.out, opn_snoc, step_c])
          go_wp2
          go_roundw
          case rel => exact ⟨i + 1, a, b + 1, by omega, by go_num, rfl, by go_num, by omega, by omega, Lib.hid (by rw [N1.out, HA.out]), Lib.hid (by have := HB.out; rw [N1.out]; simp only; omega), Lib.hid (((HW.out.alloc HW.out.size _)))⟩
          case measure => simp [intOf]; omega
        · have N1 := Lib.hid (show (opn ((kinds l).take (i + 1))) = opn ((kinds l).take i) by rw [KS.out, opn_snoc, step_d _ h1 h2])
          have h1' : (k == 1) = false := by simpa using h1
          have h2' : (k == 2) = false := by simpa using h2
          go_wp2
          go_roundw
          case rel => exact ⟨i + 1, a, b, by omega, by go_num, rfl, rfl, by omega, by omega, Lib.hid (by rw [N1.out, HA.out]), Lib.hid (by rw [N1.out, HB.out]), Lib.hid (((HW.out.alloc HW.out.size _)))⟩
          case measure => simp [intOf]; omega
    · obtain rfl : i = n := by omega
      go_wp2
      go_ret2
      have hT : (kinds l).take i = kinds l := by rw [List.take_of_length_le]; rw [kinds_length, HL.out]; exact Nat.le_refl _
      exact ⟨a, b, rfl, by rw [HA.out, hT], by rw [HB.out, hT], HW.out⟩
def flat (K : List Int) : Bool := decide (opn K = (0, 0))
set_option maxHeartbeats 1000000 in
theorem flat_any (l : List Tk) (A : Option Addr) (n cap : Nat) (w : World) (hr : TRow w A n l) (hn : n ≤ 1000000) :
    Calls Try.prog 10 #[.slice A n cap] w fun e w' => e = .returned (.bool (flat (kinds l))) ∧ Below w.heap.size w w' := by
  have C := open_any l A n cap w hr hn
  obtain ⟨fl, hfl⟩ : ∃ x, x = flat (kinds l) := ⟨_, rfl⟩
  rw [← hfl]
  have HF := Lib.hid hfl
  clear hfl hr hn
  go_enter Try.func10, Try.ntmps10
  go_wp2_with fail
  refine C.mono ?_
  rintro e w1 ⟨a, b, rfl, ha, hb, BW⟩
  have HA := Lib.hid ha
  have HB := Lib.hid hb
  clear ha hb C
  by_cases h1 : a = 0
  · subst h1
    by_cases h2 : b = 0
    · subst h2
      go_wp2
      go_ret
      refine ⟨?_, BW⟩
      have : fl = true := by rw [HF.out]; unfold flat; have := HA.out; have := HB.out; simp only [decide_eq_true_eq, Prod.ext_iff]; omega
      rw [this]; rfl
    · have h2' : (b == 0) = false := by simpa using h2
      go_wp2
      go_ret
      refine ⟨?_, BW⟩
      have : fl = false := by rw [HF.out]; unfold flat; have := HA.out; have := HB.out; simp only [decide_eq_false_iff_not, Prod.ext_iff]; omega
      rw [this]; rfl
  · have h1' : (a == 0) = false := by simpa using h1
    go_wp2
    go_ret
    refine ⟨?_, BW⟩
    have : fl = false := by rw [HF.out]; unfold flat; have := HA.out; have := HB.out; simp only [decide_eq_false_iff_not, Prod.ext_iff]; omega
    rw [this]; rfl
end Go.Proofs.Ytnmphoemiohgjaa.Sl
