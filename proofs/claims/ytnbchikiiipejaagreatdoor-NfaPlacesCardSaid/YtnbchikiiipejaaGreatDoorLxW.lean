/- Walks of the reference of the lexer: count, begins, one. -/
import Derived.Test.YtnbchikiiipejaaGreatDoorLxS
import Derived.Test.YtnbchikiiipejaaGreatDoorLxEnds
set_option linter.unusedVariables false
set_option maxRecDepth 100000
set_option maxHeartbeats 4000000
namespace Go.Proofs.YtnbchikiiipejaaGreatDoor.Lx
open Go.RowKit Mem
def cntR (k : Nat) (r : Res (Nat × Int)) : Res Sg :=
 match r with
 | .ok p to => .ok ⟨5, k, p.1, p.2, []⟩ to
 | .bad p c => .bad p c
theorem num_P_bad {t : List UInt8} {k l p : Nat} {c : Int} (h : num t k = .bad p c) : numP t k l = .bad p c := by unfold numP; rw [h]
theorem num_P_ok {t : List UInt8} {k l n to : Nat} (h : num t k = .ok n to) : numP t k l = if l ≤ n ∧ n ≤ 20 then .ok n to else .bad k 3 := by unfold numP; rw [h]
theorem rcount_any (s : ByteArray) (k : Nat) (w : World) (hk : k < s.size) (hs : s.size ≤ 9223372036854775807) :
  Calls Tryz.prog 206 #[.string s, .int .i64 k] w (Gives w (cntR k (cnt (s.data.toList.drop (k + 1)) (k + 1)))) := by
 cases hN : num (s.data.toList.drop (k + 1)) (k + 1) with
 | bad p c =>
  rw [cnt, num_P_bad hN]
  exact rc_num s k w hk hs hN
 | ok n to =>
  by_cases h20 : n ≤ 20
  ·have hP : numP (s.data.toList.drop (k + 1)) (k + 1) 0 = .ok n to := by rw [num_P_ok hN]; simp [h20]
   rw [cnt_at hP]
   obtain ⟨hto1, hto2, _⟩ := num_len hN
   have hto3 : to ≤ s.size := hto2 (by omega)
   by_cases hlt : to < s.size
   ·rw [drop_cons s to hlt]
    by_cases h44 : s[to].toNat = 44
    ·simp only [h44, if_true]
     by_cases hlt2 : to + 1 < s.size
     ·by_cases h6 : s[to + 1].toNat = 125
      ·have e : highP n (s.data.toList.drop (to + 1)) (to + 1) = .ok (n, -1) (to + 1 + 1) := by
        rw [drop_cons s (to + 1) hlt2]; simp [highP, h6]
       rw [e]
       by_cases hz : n = 0
       ·exact rc_more s k w hk hs hN h20 hz hlt h44 hlt2 h6
       ·exact rc_more s k w hk hs hN h20 hz hlt h44 hlt2 h6
      ·rw [high_at hlt2 h6]
       cases hN2 : num (s.data.toList.drop (to + 1)) (to + 1) with
       | bad p c =>
        rw [num_P_bad hN2]
        by_cases hz : n = 0
        ·exact rc_hibad s k w hk hs hN h20 hz hlt h44 hlt2 h6 hN2
        ·exact rc_hibad s k w hk hs hN h20 hz hlt h44 hlt2 h6 hN2
       | ok m to2 =>
        rw [num_P_ok hN2]
        by_cases hm1 : m < 1
        ·simp only [show ¬ (max n 1 ≤ m ∧ m ≤ 20) from by omega, if_false]
         by_cases hz : n = 0
         ·exact rc_low s k w hk hs hN h20 hz hlt h44 hlt2 h6 hN2 hm1
         ·exact rc_low s k w hk hs hN h20 hz hlt h44 hlt2 h6 hN2 hm1
        by_cases hm2 : 20 < m
        ·simp only [show ¬ (max n 1 ≤ m ∧ m ≤ 20) from by omega, if_false]
         by_cases hz : n = 0
         ·exact rc_high s k w hk hs hN h20 hz hlt h44 hlt2 h6 hN2 hm2
         ·exact rc_high s k w hk hs hN h20 hz hlt h44 hlt2 h6 hN2 hm2
        by_cases hm3 : m < n
        ·simp only [show ¬ (max n 1 ≤ m ∧ m ≤ 20) from by omega, if_false]
         by_cases hz : n = 0
         ·exact rc_less s k w hk hs hN h20 hz hlt h44 hlt2 h6 hN2 (by omega) (by omega) hm3
         ·exact rc_less s k w hk hs hN h20 hz hlt h44 hlt2 h6 hN2 (by omega) (by omega) hm3
        simp only [show (max n 1 ≤ m ∧ m ≤ 20) from by omega, and_self, if_true]
        obtain ⟨hto4, hto5, _⟩ := num_len hN2
        have hto6 : to2 ≤ s.size := hto5 (by omega)
        by_cases hlt3 : to2 < s.size
        ·rw [drop_cons s to2 hlt3]
         by_cases h7 : s[to2].toNat = 125
         ·simp only [shutP, h7, if_true]
          by_cases hz : n = 0
          ·exact rc_hiok s k w hk hs hN h20 hz hlt h44 hlt2 h6 hN2 (by omega) (by omega) (by omega) hlt3 h7
          ·exact rc_hiok s k w hk hs hN h20 hz hlt h44 hlt2 h6 hN2 (by omega) (by omega) (by omega) hlt3 h7
         ·simp only [shutP, h7, if_false]
          by_cases hz : n = 0
          ·exact rc_hioth s k w hk hs hN h20 hz hlt h44 hlt2 h6 hN2 (by omega) (by omega) (by omega) hlt3 h7
          ·exact rc_hioth s k w hk hs hN h20 hz hlt h44 hlt2 h6 hN2 (by omega) (by omega) (by omega) hlt3 h7
        ·rw [drop_end s to2 (by omega)]
         simp only [shutP]
         by_cases hz : n = 0
         ·exact rc_hiend s k w hk hs hN h20 hz hlt h44 hlt2 h6 hN2 (by omega) (by omega) (by omega) (by omega)
         ·exact rc_hiend s k w hk hs hN h20 hz hlt h44 hlt2 h6 hN2 (by omega) (by omega) (by omega) (by omega)
     ·have hN2 : num (s.data.toList.drop (to + 1)) (to + 1) = .bad (to + 1) 5 := by rw [drop_end s (to + 1) (by omega)]; rfl
      have e : highP n (s.data.toList.drop (to + 1)) (to + 1) = .bad (to + 1) 5 := by rw [drop_end s (to + 1) (by omega)]; rfl
      rw [e]
      by_cases hz : n = 0
      ·exact rc_nobad s k w hk hs hN h20 hz hlt h44 (by omega) hN2
      ·exact rc_nobad s k w hk hs hN h20 hz hlt h44 (by omega) hN2
    ·by_cases h125 : s[to].toNat = 125
     ·simp only [h125, if_true]
      by_cases hz : n = 0
      ·simp only [hz, if_true]
       exact rc_zero s k w hk hs hN h20 hlt h125 hz
      ·simp only [hz, if_false]
       exact rc_same s k w hk hs hN h20 hlt h125 hz
     ·simp only [h44, h125, if_false]
      by_cases hz : n = 0
      ·exact rc_other s k w hk hs hN h20 hz hlt h44 h125
      ·exact rc_other s k w hk hs hN h20 hz hlt h44 h125
   ·rw [drop_end s to (by omega)]
    by_cases hz : n = 0
    ·exact rc_end s k w hk hs hN h20 hz (by omega)
    ·exact rc_end s k w hk hs hN h20 hz (by omega)
  ·rw [cnt, num_P_ok hN]
   simp only [show ¬ (0 ≤ n ∧ n ≤ 20) from by omega, if_false]
   exact rc_big s k w hk hs hN (by omega)
def bgI (c : Int) : Bool := smI c || c == 40 || c == 41 || c == 124 || c == 42 || c == 43 || c == 63 || c == 123
theorem bgI_nat (c : UInt8) : bgI (c.toNat : Int) = begins c := by
 unfold bgI begins single
 rw [smI_nat]
 generalize smB c = b
 generalize c.toNat = m
 cases b with
 | true => simp
 | false =>
  by_cases h0 : m = 40
  ·subst h0; rfl
  by_cases h1 : m = 41
  ·subst h1; rfl
  by_cases h2 : m = 124
  ·subst h2; rfl
  by_cases h3 : m = 42
  ·subst h3; rfl
  by_cases h4 : m = 43
  ·subst h4; rfl
  by_cases h5 : m = 63
  ·subst h5; rfl
  by_cases h6 : m = 123
  ·subst h6; rfl
  have e : ∀ n : Nat, m ≠ n → ((m : Int) == (n : Int)) = false := by intro n hn; simp; omega
  have e0 := e 40 h0
  have e1 := e 41 h1
  have e2 := e 124 h2
  have e3 := e 42 h3
  have e4 := e 43 h4
  have e5 := e 63 h5
  have e6 := e 123 h6
  simp only [Int.cast_ofNat_Int] at e0 e1 e2 e3 e4 e5 e6
  simp [e0, e1, e2, e3, e4, e5, e6, h0, h1, h2, h3, h4, h5, h6]
theorem rbegins_any : Tells 158 bgI := by
 intro c w h0 h1
 have HC := hide (rsmall_any c w h0 h1)
 cases hs : smI c with
 | true =>
  have E : Hid (bgI c = true) := by show _ = _; simp [bgI, hs]
  rw [hs] at HC
  clear hs
  go_enter Tryz.func158, Tryz.ntmps158
  go_wp2_with (go_at_call 204; (with_reducible refine HC.out.mono ?_); rintro e w' ⟨rfl, rfl⟩)
  go_ret
  exact ⟨by rw [E.out]; rfl, rfl⟩
 | false =>
  rw [hs] at HC
  by_cases q : c = 40 ∨ c = 41 ∨ c = 124 ∨ c = 42 ∨ c = 43 ∨ c = 63 ∨ c = 123
  ·have E : Hid (bgI c = true) := by show _ = _; simp only [bgI, hs]; rcases q with rfl | rfl | rfl | rfl | rfl | rfl | rfl <;> rfl
   clear hs
   rcases q with rfl | rfl | rfl | rfl | rfl | rfl | rfl
   all_goals (
    go_enter Tryz.func158, Tryz.ntmps158
    go_wp2_with (go_at_call 204; (with_reducible refine HC.out.mono ?_); rintro e w' ⟨rfl, rfl⟩)
    go_ret
    exact ⟨by rw [E.out]; rfl, rfl⟩)
  ·simp only [not_or] at q
   obtain ⟨q0, q1, q2, q3, q4, q5, q6⟩ := q
   have E : Hid (bgI c = false) := by show _ = _; simp [bgI, hs, q0, q1, q2, q3, q4, q5, q6]
   have t0 : (c == 40) = false := by simp [q0]
   have t1 : (c == 41) = false := by simp [q1]
   have t2 : (c == 124) = false := by simp [q2]
   have t3 : (c == 42) = false := by simp [q3]
   have t4 : (c == 43) = false := by simp [q4]
   have t5 : (c == 63) = false := by simp [q5]
   have t6 : (c == 123) = false := by simp [q6]
   clear hs q0 q1 q2 q3 q4 q5 q6
   go_enter Tryz.func158, Tryz.ntmps158
   go_wp2_with (go_at_call 204; (with_reducible refine HC.out.mono ?_); rintro e w' ⟨rfl, rfl⟩)
   go_ret
   exact ⟨by rw [E.out]; rfl, rfl⟩
end Go.Proofs.YtnbchikiiipejaaGreatDoor.Lx
namespace Go.Proofs.YtnbchikiiipejaaGreatDoor.Lx
open Go.RowKit Mem
abbrev ow (w : World) : World := w.alloc (.cells #[.int .i64 0, .int .i64 0, .int .i64 0, .int .i64 0, .string ⟨#[]⟩] 208)
theorem rsm_of {s : ByteArray} {k : Nat} {b : Bool} (hk : k < s.size) (hd : smI (s[k].toNat : Int) = b) (w : World) : Calls Tryz.prog 204 #[.int .u8 (s[k].toNat : Int)] w fun e w' => e = .returned (.bool b) ∧ w' = w := by
 have hb := s[k].toNat_lt
 have := rsmall_any (s[k].toNat : Int) w (by omega) (by omega)
 rwa [hd] at this
theorem rone_name (s : ByteArray) (k n : Nat) (w : World) (hk : k < s.size) (hs : s.size ≤ 9223372036854775807) (hsm : smB s[k] = true) (hn : n = run inB (s.data.toList.drop k)) (hn12 : n ≤ 12) :
  Calls Tryz.prog 159 #[.string s, .int .i64 k] w fun e w' => w.grownBy w' none ∧ e = .returned (.tuple #[.agg #[.int .i64 1, .int .i64 k, .int .i64 0, .int .i64 0, .string (s.extract k (k + n))], .int .i64 ((k + n : Nat) : Int), .int .i64 0]) := by
 have HN : Hid (k + n = k + run inB' (s.data.toList.drop k)) := by show _ = _; rw [inB'_eq, hn]
 have HB1 := Lib.hid (SC.new w 0 0 0 0 ⟨#[]⟩)
 have HG1 := Lib.hid (World.grownBy_alloc w (.cells #[.int .i64 0, .int .i64 0, .int .i64 0, .int .i64 0, .string ⟨#[]⟩] 208) none)
 have HS0 := hide (rsm_of hk (b := true) (by rw [smI_nat]; exact hsm))
 clear hn hsm
 go_enter Tryz.func159, Tryz.ntmps159
 go_wp2_with (go_at_call 204; (with_reducible refine (HS0.out _).mono ?_); rintro e w1 ⟨rfl, hw1⟩; replace hw1 := hw1.symm; subst hw1)
 go_loopw [8] (fun i wr => ∃ j : Nat, i = .int .i64 j ∧ k ≤ j ∧ j ≤ s.size ∧ j ≤ k + 12 ∧ Hid (SC wr w.heap.size 0 0 0 0 ⟨#[]⟩) ∧ Hid (w.grownBy wr none) ∧ Hid (k + n = j + run inB' (s.data.toList.drop j))) (fun i _ => s.size - (intOf i).toNat)
 case atStart => exact ⟨k, rfl, Nat.le_refl _, by omega, by omega, HB1, HG1, HN⟩
 case round =>
  obtain ⟨j, rfl, hkj, hj, hj12, hB, hg, ht⟩ := hrel
  have hw : IntKind.i64.wrap ((j : Int) - (k : Int)) = (j : Int) - (k : Int) := IntWalk.i64_in _ (by omega)
  by_cases hlt : j < s.size
  ·have l1 : decide ((j : Int) < (s.size : Int)) = true := by simp; omega
   have l2 : decide (j < s.size) = true := by simp; omega
   have hb := s[j].toNat_lt
   cases hp : smI (s[j].toNat : Int) with
   | true =>
    have hin : inI (s[j].toNat : Int) = true := by simp [inI, hp]
    have HSM := hide (rsm_of hlt hp)
    have HT2 := Lib.hid (name_step ht.out hlt hin)
    have h12 : j - k < 12 := by have := HT2.out; omega
    have hd : ((j : Int) - (k : Int) == 12) = false := by simp; omega
    clear hp ht hin
    go_wp2_with (go_at_call 204; (with_reducible refine (HSM.out _).mono ?_); rintro e w1 ⟨rfl, hw1⟩; replace hw1 := hw1.symm; subst hw1)
    go_roundw
    case rel => exact ⟨j + 1, by go_num, by omega, by omega, by omega, hB, hg, HT2⟩
    case measure => simp [intOf]; omega
   | false =>
    have HSM := hide (rsm_of hlt hp)
    cases hd2 : dgI (s[j].toNat : Int) with
    | true =>
     have hin : inI (s[j].toNat : Int) = true := by simp [inI, hd2]
     have HDG := hide (dg_of hlt hd2)
     have HT2 := Lib.hid (name_step ht.out hlt hin)
     have h12 : j - k < 12 := by have := HT2.out; omega
     have hd : ((j : Int) - (k : Int) == 12) = false := by simp; omega
     clear hp ht hin hd2
     go_wp2_with (first
      | (go_at_call 204; (with_reducible refine (HSM.out _).mono ?_); rintro e w1 ⟨rfl, hw1⟩; replace hw1 := hw1.symm; subst hw1)
      | (go_at_call 205; (with_reducible refine (HDG.out _).mono ?_); rintro e w1 ⟨rfl, hw1⟩; replace hw1 := hw1.symm; subst hw1))
     go_roundw
     case rel => exact ⟨j + 1, by go_num, by omega, by omega, by omega, hB, hg, HT2⟩
     case measure => simp [intOf]; omega
    | false =>
     have hin : inI (s[j].toNat : Int) = false := by simp [inI, hp, hd2]
     have HDG := hide (dg_of hlt hd2)
     have HT2 : Hid (j = k + n) := by
      have e := ht.out; rw [run_no inB' s j hlt hin] at e; exact e.symm
     clear hp ht hin hd2
     obtain ⟨b0, b1, b2, b3, b4⟩ := hB.out.cells
     have f0 := hB.out.free 0
     have f1 := hB.out.free 1
     have f2 := hB.out.free 2
     have f3 := hB.out.free 3
     have f4 := hB.out.free 4
     have i0 : (0 : Int) ≤ (k : Int) := by omega
     have i1 : (k : Int) ≤ (j : Int) := by omega
     have i2 : (j : Int) ≤ (s.size : Int) := by omega
     go_wp2_with (first
      | (go_at_call 204; (with_reducible refine (HSM.out _).mono ?_); rintro e w1 ⟨rfl, hw1⟩; replace hw1 := hw1.symm; subst hw1)
      | (go_at_call 205; (with_reducible refine (HDG.out _).mono ?_); rintro e w1 ⟨rfl, hw1⟩; replace hw1 := hw1.symm; subst hw1))
     have HS := Lib.hid (hB.out.st5 1 k 0 0 (s.extract k j))
     have HG3 := Lib.hid (grown_new hg.out (st5_grown wr w.heap.size 1 k 0 0 (s.extract k j)) (Nat.le_refl _))
     clear b0 b1 b2 b3 b4 f0 f1 f2 f3 f4
     change bodyPost _ _ _ _ _ (st5 wr w.heap.size 1 k 0 0 (s.extract k j))
     generalize st5 wr w.heap.size 1 k 0 0 (s.extract k j) = W2 at HS HG3 ⊢
     obtain ⟨b0, b1, b2, b3, b4⟩ := HS.out.cells
     exact bodyPost_ret (v := .tuple #[.agg #[.int .i64 1, .int .i64 k, .int .i64 0, .int .i64 0, .string (s.extract k j)], .int .i64 j, .int .i64 0]) (by simp [results, Tryz.results159, go_sem, b0, b1, b2, b3, b4]) rfl ⟨HG3.out, by rw [HT2.out]⟩
  ·have l1 : decide ((j : Int) < (s.size : Int)) = false := by simp; omega
   have l2 : decide (j < s.size) = false := by simp; omega
   have HT2 : Hid (j = k + n) := by
    have e := ht.out; rw [run_end inB' s j (by omega)] at e; exact e.symm
   clear ht
   obtain ⟨b0, b1, b2, b3, b4⟩ := hB.out.cells
   have f0 := hB.out.free 0
   have f1 := hB.out.free 1
   have f2 := hB.out.free 2
   have f3 := hB.out.free 3
   have f4 := hB.out.free 4
   have i0 : (0 : Int) ≤ (k : Int) := by omega
   have i1 : (k : Int) ≤ (j : Int) := by omega
   have i2 : (j : Int) ≤ (s.size : Int) := by omega
   go_wp2_with fail
   have HS := Lib.hid (hB.out.st5 1 k 0 0 (s.extract k j))
   have HG3 := Lib.hid (grown_new hg.out (st5_grown wr w.heap.size 1 k 0 0 (s.extract k j)) (Nat.le_refl _))
   clear b0 b1 b2 b3 b4 f0 f1 f2 f3 f4
   change bodyPost _ _ _ _ _ (st5 wr w.heap.size 1 k 0 0 (s.extract k j))
   generalize st5 wr w.heap.size 1 k 0 0 (s.extract k j) = W2 at HS HG3 ⊢
   obtain ⟨b0, b1, b2, b3, b4⟩ := HS.out.cells
   exact bodyPost_ret (v := .tuple #[.agg #[.int .i64 1, .int .i64 k, .int .i64 0, .int .i64 0, .string (s.extract k j)], .int .i64 j, .int .i64 0]) (by simp [results, Tryz.results159, go_sem, b0, b1, b2, b3, b4]) rfl ⟨HG3.out, by rw [HT2.out]⟩
end Go.Proofs.YtnbchikiiipejaaGreatDoor.Lx
namespace Go.Proofs.YtnbchikiiipejaaGreatDoor.Lx
open Go.RowKit Mem
theorem rone_long (s : ByteArray) (k n : Nat) (w : World) (hk : k < s.size) (hs : s.size ≤ 9223372036854775807) (hsm : smB s[k] = true) (hn : n = run inB (s.data.toList.drop k)) (hn12 : 12 < n) :
  Calls Tryz.prog 159 #[.string s, .int .i64 k] w (Gives w (.bad (k + 12) 2)) := by
 have HN : Hid (k + n = k + run inB' (s.data.toList.drop k)) := by show _ = _; rw [inB'_eq, hn]
 have HB1 := Lib.hid (SC.new w 0 0 0 0 ⟨#[]⟩)
 have HG1 := Lib.hid (World.grownBy_alloc w (.cells #[.int .i64 0, .int .i64 0, .int .i64 0, .int .i64 0, .string ⟨#[]⟩] 208) none)
 have HS0 := hide (rsm_of hk (b := true) (by rw [smI_nat]; exact hsm))
 clear hn hsm
 go_enter Tryz.func159, Tryz.ntmps159
 go_wp2_with (go_at_call 204; (with_reducible refine (HS0.out _).mono ?_); rintro e w1 ⟨rfl, hw1⟩; replace hw1 := hw1.symm; subst hw1)
 go_loopw [8] (fun i wr => ∃ j : Nat, i = .int .i64 j ∧ k ≤ j ∧ j ≤ s.size ∧ j ≤ k + 12 ∧ Hid (SC wr w.heap.size 0 0 0 0 ⟨#[]⟩) ∧ Hid (w.grownBy wr none) ∧ Hid (k + n = j + run inB' (s.data.toList.drop j))) (fun i _ => s.size - (intOf i).toNat)
 case atStart => exact ⟨k, rfl, Nat.le_refl _, by omega, by omega, HB1, HG1, HN⟩
 case round =>
  obtain ⟨j, rfl, hkj, hj, hj12, hB, hg, ht⟩ := hrel
  have hw : IntKind.i64.wrap ((j : Int) - (k : Int)) = (j : Int) - (k : Int) := IntWalk.i64_in _ (by omega)
  obtain ⟨hlt, hin⟩ := run_long ht.out hj (by omega)
  have l1 : decide ((j : Int) < (s.size : Int)) = true := by simp; omega
  have l2 : decide (j < s.size) = true := by simp; omega
  have hb := s[j].toNat_lt
  have HT2 := Lib.hid (name_step ht.out hlt hin)
  have HI : Hid (inI (s[j].toNat : Int) = true) := hin
  clear ht hin
  cases hp : smI (s[j].toNat : Int) with
  | true =>
   have HSM := hide (rsm_of hlt hp)
   clear hp
   by_cases h12 : j - k < 12
   ·have hd : ((j : Int) - (k : Int) == 12) = false := by simp; omega
    go_wp2_with (go_at_call 204; (with_reducible refine (HSM.out _).mono ?_); rintro e w1 ⟨rfl, hw1⟩; replace hw1 := hw1.symm; subst hw1)
    go_roundw
    case rel => exact ⟨j + 1, by go_num, by omega, by omega, by omega, hB, hg, HT2⟩
    case measure => simp [intOf]; omega
   ·have hd : ((j : Int) - (k : Int) == 12) = true := by simp; omega
    have hj2 : Hid (j = k + 12) := by show _ = _; omega
    obtain ⟨b0, b1, b2, b3, b4⟩ := hB.out.cells
    have f0 := hB.out.free 0
    have f1 := hB.out.free 1
    have f2 := hB.out.free 2
    have f3 := hB.out.free 3
    have f4 := hB.out.free 4
    go_wp2_with (first
     | (go_at_call 204; (with_reducible refine (HSM.out _).mono ?_); rintro e w1 ⟨rfl, hw1⟩; replace hw1 := hw1.symm; subst hw1)
     | (go_at_call 205; (with_reducible refine (HDG.out _).mono ?_); rintro e w1 ⟨rfl, hw1⟩; replace hw1 := hw1.symm; subst hw1))
    have HS := Lib.hid (hB.out.st5 0 0 0 0 ⟨#[]⟩)
    have HG3 := Lib.hid (grown_new hg.out (st5_grown wr w.heap.size 0 0 0 0 ⟨#[]⟩) (Nat.le_refl _))
    clear b0 b1 b2 b3 b4 f0 f1 f2 f3 f4
    change bodyPost _ _ _ _ _ (st5 wr w.heap.size 0 0 0 0 ⟨#[]⟩)
    generalize st5 wr w.heap.size 0 0 0 0 ⟨#[]⟩ = W2 at HS HG3 ⊢
    obtain ⟨b0, b1, b2, b3, b4⟩ := HS.out.cells
    exact bodyPost_ret (v := .tuple #[.agg #[.int .i64 0, .int .i64 0, .int .i64 0, .int .i64 0, .string ⟨#[]⟩], .int .i64 j, .int .i64 2]) (by simp [results, Tryz.results159, go_sem, b0, b1, b2, b3, b4]) rfl ⟨HG3.out, ⟨⟨0, 0, 0, 0, []⟩, by rw [hj2.out]; rfl⟩⟩
  | false =>
   have HSM := hide (rsm_of hlt hp)
   have hd2 : dgI (s[j].toNat : Int) = true := by have h := HI.out; unfold inI at h; rwa [hp, Bool.false_or] at h
   have HDG := hide (dg_of hlt hd2)
   clear hp hd2
   by_cases h12 : j - k < 12
   ·have hd : ((j : Int) - (k : Int) == 12) = false := by simp; omega
    go_wp2_with (first
     | (go_at_call 204; (with_reducible refine (HSM.out _).mono ?_); rintro e w1 ⟨rfl, hw1⟩; replace hw1 := hw1.symm; subst hw1)
     | (go_at_call 205; (with_reducible refine (HDG.out _).mono ?_); rintro e w1 ⟨rfl, hw1⟩; replace hw1 := hw1.symm; subst hw1))
    go_roundw
    case rel => exact ⟨j + 1, by go_num, by omega, by omega, by omega, hB, hg, HT2⟩
    case measure => simp [intOf]; omega
   ·have hd : ((j : Int) - (k : Int) == 12) = true := by simp; omega
    have hj2 : Hid (j = k + 12) := by show _ = _; omega
    obtain ⟨b0, b1, b2, b3, b4⟩ := hB.out.cells
    have f0 := hB.out.free 0
    have f1 := hB.out.free 1
    have f2 := hB.out.free 2
    have f3 := hB.out.free 3
    have f4 := hB.out.free 4
    go_wp2_with (first
     | (go_at_call 204; (with_reducible refine (HSM.out _).mono ?_); rintro e w1 ⟨rfl, hw1⟩; replace hw1 := hw1.symm; subst hw1)
     | (go_at_call 205; (with_reducible refine (HDG.out _).mono ?_); rintro e w1 ⟨rfl, hw1⟩; replace hw1 := hw1.symm; subst hw1))
    have HS := Lib.hid (hB.out.st5 0 0 0 0 ⟨#[]⟩)
    have HG3 := Lib.hid (grown_new hg.out (st5_grown wr w.heap.size 0 0 0 0 ⟨#[]⟩) (Nat.le_refl _))
    clear b0 b1 b2 b3 b4 f0 f1 f2 f3 f4
    change bodyPost _ _ _ _ _ (st5 wr w.heap.size 0 0 0 0 ⟨#[]⟩)
    generalize st5 wr w.heap.size 0 0 0 0 ⟨#[]⟩ = W2 at HS HG3 ⊢
    obtain ⟨b0, b1, b2, b3, b4⟩ := HS.out.cells
    exact bodyPost_ret (v := .tuple #[.agg #[.int .i64 0, .int .i64 0, .int .i64 0, .int .i64 0, .string ⟨#[]⟩], .int .i64 j, .int .i64 2]) (by simp [results, Tryz.results159, go_sem, b0, b1, b2, b3, b4]) rfl ⟨HG3.out, ⟨⟨0, 0, 0, 0, []⟩, by rw [hj2.out]; rfl⟩⟩
theorem rone_40 (s : ByteArray) (k : Nat) (w : World) (hk : k < s.size) (hs : s.size ≤ 9223372036854775807) (hsm : smB s[k] = false) (hc : s[k].toNat = 40) :
  Calls Tryz.prog 159 #[.string s, .int .i64 k] w (Gives w (.ok ⟨2, k, 0, 0, []⟩ (k + 1))) := by
 have HB0 := Lib.hid (SC.new w 0 0 0 0 ⟨#[]⟩)
 have HG0 := Lib.hid (World.grownBy_alloc w (.cells #[.int .i64 0, .int .i64 0, .int .i64 0, .int .i64 0, .string ⟨#[]⟩] 208) none)
 have HS0 := hide (rsm_of hk (b := false) (by rw [smI_nat]; exact hsm))
 have e40 : ((s[k].toNat : Int) == 40) = true := by simp; omega
 clear hc
 clear hsm
 go_enter Tryz.func159, Tryz.ntmps159
 go_wp2_with (go_at_call 204; (with_reducible refine (HS0.out _).mono ?_); rintro e w1 ⟨rfl, hw0⟩; have hw1 : w1 = ow w := hw0; clear hw0; have HB : Hid (SC w1 w.heap.size 0 0 0 0 ⟨#[]⟩) := (by show SC _ _ _ _ _ _ _; rw [hw1]; exact HB0.out); have HG : Hid (w.grownBy w1 none) := (by show World.grownBy _ _ _; rw [hw1]; exact HG0.out); clear hw1; obtain ⟨b0, b1, b2, b3, b4⟩ := HB.out.cells; have f0 := HB.out.free 0; have f1 := HB.out.free 1; have f2 := HB.out.free 2; have f3 := HB.out.free 3; have f4 := HB.out.free 4)
 have HS := Lib.hid (HB.out.st5 2 k 0 0 ⟨#[]⟩)
 have HG3 := Lib.hid (grown_new HG.out (st5_grown w1 w.heap.size 2 k 0 0 ⟨#[]⟩) (Nat.le_refl _))
 clear b0 b1 b2 b3 b4 f0 f1 f2 f3 f4
 change bodyPost _ _ _ _ _ (st5 w1 w.heap.size 2 k 0 0 ⟨#[]⟩)
 generalize st5 w1 w.heap.size 2 k 0 0 ⟨#[]⟩ = W2 at HS HG3 ⊢
 obtain ⟨b0, b1, b2, b3, b4⟩ := HS.out.cells
 exact bodyPost_ret (v := .tuple #[.agg #[.int .i64 2, .int .i64 k, .int .i64 0, .int .i64 0, .string ⟨#[]⟩], .int .i64 ((k : Int) + 1), .int .i64 0]) (by simp [results, Tryz.results159, go_sem, b0, b1, b2, b3, b4]) rfl ⟨HG3.out, rfl⟩
theorem rone_41 (s : ByteArray) (k : Nat) (w : World) (hk : k < s.size) (hs : s.size ≤ 9223372036854775807) (hsm : smB s[k] = false) (hc : s[k].toNat = 41) :
  Calls Tryz.prog 159 #[.string s, .int .i64 k] w (Gives w (.ok ⟨3, k, 0, 0, []⟩ (k + 1))) := by
 have HB0 := Lib.hid (SC.new w 0 0 0 0 ⟨#[]⟩)
 have HG0 := Lib.hid (World.grownBy_alloc w (.cells #[.int .i64 0, .int .i64 0, .int .i64 0, .int .i64 0, .string ⟨#[]⟩] 208) none)
 have HS0 := hide (rsm_of hk (b := false) (by rw [smI_nat]; exact hsm))
 have e40 : ((s[k].toNat : Int) == 40) = false := by simp; omega
 have e41 : ((s[k].toNat : Int) == 41) = true := by simp; omega
 clear hc
 clear hsm
 go_enter Tryz.func159, Tryz.ntmps159
 go_wp2_with (go_at_call 204; (with_reducible refine (HS0.out _).mono ?_); rintro e w1 ⟨rfl, hw0⟩; have hw1 : w1 = ow w := hw0; clear hw0; have HB : Hid (SC w1 w.heap.size 0 0 0 0 ⟨#[]⟩) := (by show SC _ _ _ _ _ _ _; rw [hw1]; exact HB0.out); have HG : Hid (w.grownBy w1 none) := (by show World.grownBy _ _ _; rw [hw1]; exact HG0.out); clear hw1; obtain ⟨b0, b1, b2, b3, b4⟩ := HB.out.cells; have f0 := HB.out.free 0; have f1 := HB.out.free 1; have f2 := HB.out.free 2; have f3 := HB.out.free 3; have f4 := HB.out.free 4)
 have HS := Lib.hid (HB.out.st5 3 k 0 0 ⟨#[]⟩)
 have HG3 := Lib.hid (grown_new HG.out (st5_grown w1 w.heap.size 3 k 0 0 ⟨#[]⟩) (Nat.le_refl _))
 clear b0 b1 b2 b3 b4 f0 f1 f2 f3 f4
 change bodyPost _ _ _ _ _ (st5 w1 w.heap.size 3 k 0 0 ⟨#[]⟩)
 generalize st5 w1 w.heap.size 3 k 0 0 ⟨#[]⟩ = W2 at HS HG3 ⊢
 obtain ⟨b0, b1, b2, b3, b4⟩ := HS.out.cells
 exact bodyPost_ret (v := .tuple #[.agg #[.int .i64 3, .int .i64 k, .int .i64 0, .int .i64 0, .string ⟨#[]⟩], .int .i64 ((k : Int) + 1), .int .i64 0]) (by simp [results, Tryz.results159, go_sem, b0, b1, b2, b3, b4]) rfl ⟨HG3.out, rfl⟩
theorem rone_124 (s : ByteArray) (k : Nat) (w : World) (hk : k < s.size) (hs : s.size ≤ 9223372036854775807) (hsm : smB s[k] = false) (hc : s[k].toNat = 124) :
  Calls Tryz.prog 159 #[.string s, .int .i64 k] w (Gives w (.ok ⟨4, k, 0, 0, []⟩ (k + 1))) := by
 have HB0 := Lib.hid (SC.new w 0 0 0 0 ⟨#[]⟩)
 have HG0 := Lib.hid (World.grownBy_alloc w (.cells #[.int .i64 0, .int .i64 0, .int .i64 0, .int .i64 0, .string ⟨#[]⟩] 208) none)
 have HS0 := hide (rsm_of hk (b := false) (by rw [smI_nat]; exact hsm))
 have e40 : ((s[k].toNat : Int) == 40) = false := by simp; omega
 have e41 : ((s[k].toNat : Int) == 41) = false := by simp; omega
 have e124 : ((s[k].toNat : Int) == 124) = true := by simp; omega
 clear hc
 clear hsm
 go_enter Tryz.func159, Tryz.ntmps159
 go_wp2_with (go_at_call 204; (with_reducible refine (HS0.out _).mono ?_); rintro e w1 ⟨rfl, hw0⟩; have hw1 : w1 = ow w := hw0; clear hw0; have HB : Hid (SC w1 w.heap.size 0 0 0 0 ⟨#[]⟩) := (by show SC _ _ _ _ _ _ _; rw [hw1]; exact HB0.out); have HG : Hid (w.grownBy w1 none) := (by show World.grownBy _ _ _; rw [hw1]; exact HG0.out); clear hw1; obtain ⟨b0, b1, b2, b3, b4⟩ := HB.out.cells; have f0 := HB.out.free 0; have f1 := HB.out.free 1; have f2 := HB.out.free 2; have f3 := HB.out.free 3; have f4 := HB.out.free 4)
 have HS := Lib.hid (HB.out.st5 4 k 0 0 ⟨#[]⟩)
 have HG3 := Lib.hid (grown_new HG.out (st5_grown w1 w.heap.size 4 k 0 0 ⟨#[]⟩) (Nat.le_refl _))
 clear b0 b1 b2 b3 b4 f0 f1 f2 f3 f4
 change bodyPost _ _ _ _ _ (st5 w1 w.heap.size 4 k 0 0 ⟨#[]⟩)
 generalize st5 w1 w.heap.size 4 k 0 0 ⟨#[]⟩ = W2 at HS HG3 ⊢
 obtain ⟨b0, b1, b2, b3, b4⟩ := HS.out.cells
 exact bodyPost_ret (v := .tuple #[.agg #[.int .i64 4, .int .i64 k, .int .i64 0, .int .i64 0, .string ⟨#[]⟩], .int .i64 ((k : Int) + 1), .int .i64 0]) (by simp [results, Tryz.results159, go_sem, b0, b1, b2, b3, b4]) rfl ⟨HG3.out, rfl⟩
theorem rone_42 (s : ByteArray) (k : Nat) (w : World) (hk : k < s.size) (hs : s.size ≤ 9223372036854775807) (hsm : smB s[k] = false) (hc : s[k].toNat = 42) :
  Calls Tryz.prog 159 #[.string s, .int .i64 k] w (Gives w (.ok ⟨5, k, 0, (-1), []⟩ (k + 1))) := by
 have HB0 := Lib.hid (SC.new w 0 0 0 0 ⟨#[]⟩)
 have HG0 := Lib.hid (World.grownBy_alloc w (.cells #[.int .i64 0, .int .i64 0, .int .i64 0, .int .i64 0, .string ⟨#[]⟩] 208) none)
 have HS0 := hide (rsm_of hk (b := false) (by rw [smI_nat]; exact hsm))
 have e40 : ((s[k].toNat : Int) == 40) = false := by simp; omega
 have e41 : ((s[k].toNat : Int) == 41) = false := by simp; omega
 have e124 : ((s[k].toNat : Int) == 124) = false := by simp; omega
 have e42 : ((s[k].toNat : Int) == 42) = true := by simp; omega
 clear hc
 clear hsm
 go_enter Tryz.func159, Tryz.ntmps159
 go_wp2_with (go_at_call 204; (with_reducible refine (HS0.out _).mono ?_); rintro e w1 ⟨rfl, hw0⟩; have hw1 : w1 = ow w := hw0; clear hw0; have HB : Hid (SC w1 w.heap.size 0 0 0 0 ⟨#[]⟩) := (by show SC _ _ _ _ _ _ _; rw [hw1]; exact HB0.out); have HG : Hid (w.grownBy w1 none) := (by show World.grownBy _ _ _; rw [hw1]; exact HG0.out); clear hw1; obtain ⟨b0, b1, b2, b3, b4⟩ := HB.out.cells; have f0 := HB.out.free 0; have f1 := HB.out.free 1; have f2 := HB.out.free 2; have f3 := HB.out.free 3; have f4 := HB.out.free 4)
 have HS := Lib.hid (HB.out.st5 5 k 0 (-1) ⟨#[]⟩)
 have HG3 := Lib.hid (grown_new HG.out (st5_grown w1 w.heap.size 5 k 0 (-1) ⟨#[]⟩) (Nat.le_refl _))
 clear b0 b1 b2 b3 b4 f0 f1 f2 f3 f4
 change bodyPost _ _ _ _ _ (st5 w1 w.heap.size 5 k 0 (-1) ⟨#[]⟩)
 generalize st5 w1 w.heap.size 5 k 0 (-1) ⟨#[]⟩ = W2 at HS HG3 ⊢
 obtain ⟨b0, b1, b2, b3, b4⟩ := HS.out.cells
 exact bodyPost_ret (v := .tuple #[.agg #[.int .i64 5, .int .i64 k, .int .i64 0, .int .i64 (-1), .string ⟨#[]⟩], .int .i64 ((k : Int) + 1), .int .i64 0]) (by simp [results, Tryz.results159, go_sem, b0, b1, b2, b3, b4]) rfl ⟨HG3.out, rfl⟩
theorem rone_43 (s : ByteArray) (k : Nat) (w : World) (hk : k < s.size) (hs : s.size ≤ 9223372036854775807) (hsm : smB s[k] = false) (hc : s[k].toNat = 43) :
  Calls Tryz.prog 159 #[.string s, .int .i64 k] w (Gives w (.ok ⟨5, k, 1, (-1), []⟩ (k + 1))) := by
 have HB0 := Lib.hid (SC.new w 0 0 0 0 ⟨#[]⟩)
 have HG0 := Lib.hid (World.grownBy_alloc w (.cells #[.int .i64 0, .int .i64 0, .int .i64 0, .int .i64 0, .string ⟨#[]⟩] 208) none)
 have HS0 := hide (rsm_of hk (b := false) (by rw [smI_nat]; exact hsm))
 have e40 : ((s[k].toNat : Int) == 40) = false := by simp; omega
 have e41 : ((s[k].toNat : Int) == 41) = false := by simp; omega
 have e124 : ((s[k].toNat : Int) == 124) = false := by simp; omega
 have e42 : ((s[k].toNat : Int) == 42) = false := by simp; omega
 have e43 : ((s[k].toNat : Int) == 43) = true := by simp; omega
 clear hc
 clear hsm
 go_enter Tryz.func159, Tryz.ntmps159
 go_wp2_with (go_at_call 204; (with_reducible refine (HS0.out _).mono ?_); rintro e w1 ⟨rfl, hw0⟩; have hw1 : w1 = ow w := hw0; clear hw0; have HB : Hid (SC w1 w.heap.size 0 0 0 0 ⟨#[]⟩) := (by show SC _ _ _ _ _ _ _; rw [hw1]; exact HB0.out); have HG : Hid (w.grownBy w1 none) := (by show World.grownBy _ _ _; rw [hw1]; exact HG0.out); clear hw1; obtain ⟨b0, b1, b2, b3, b4⟩ := HB.out.cells; have f0 := HB.out.free 0; have f1 := HB.out.free 1; have f2 := HB.out.free 2; have f3 := HB.out.free 3; have f4 := HB.out.free 4)
 have HS := Lib.hid (HB.out.st5 5 k 1 (-1) ⟨#[]⟩)
 have HG3 := Lib.hid (grown_new HG.out (st5_grown w1 w.heap.size 5 k 1 (-1) ⟨#[]⟩) (Nat.le_refl _))
 clear b0 b1 b2 b3 b4 f0 f1 f2 f3 f4
 change bodyPost _ _ _ _ _ (st5 w1 w.heap.size 5 k 1 (-1) ⟨#[]⟩)
 generalize st5 w1 w.heap.size 5 k 1 (-1) ⟨#[]⟩ = W2 at HS HG3 ⊢
 obtain ⟨b0, b1, b2, b3, b4⟩ := HS.out.cells
 exact bodyPost_ret (v := .tuple #[.agg #[.int .i64 5, .int .i64 k, .int .i64 1, .int .i64 (-1), .string ⟨#[]⟩], .int .i64 ((k : Int) + 1), .int .i64 0]) (by simp [results, Tryz.results159, go_sem, b0, b1, b2, b3, b4]) rfl ⟨HG3.out, rfl⟩
theorem rone_63 (s : ByteArray) (k : Nat) (w : World) (hk : k < s.size) (hs : s.size ≤ 9223372036854775807) (hsm : smB s[k] = false) (hc : s[k].toNat = 63) :
  Calls Tryz.prog 159 #[.string s, .int .i64 k] w (Gives w (.ok ⟨5, k, 0, 1, []⟩ (k + 1))) := by
 have HB0 := Lib.hid (SC.new w 0 0 0 0 ⟨#[]⟩)
 have HG0 := Lib.hid (World.grownBy_alloc w (.cells #[.int .i64 0, .int .i64 0, .int .i64 0, .int .i64 0, .string ⟨#[]⟩] 208) none)
 have HS0 := hide (rsm_of hk (b := false) (by rw [smI_nat]; exact hsm))
 have e40 : ((s[k].toNat : Int) == 40) = false := by simp; omega
 have e41 : ((s[k].toNat : Int) == 41) = false := by simp; omega
 have e124 : ((s[k].toNat : Int) == 124) = false := by simp; omega
 have e42 : ((s[k].toNat : Int) == 42) = false := by simp; omega
 have e43 : ((s[k].toNat : Int) == 43) = false := by simp; omega
 have e63 : ((s[k].toNat : Int) == 63) = true := by simp; omega
 clear hc
 clear hsm
 go_enter Tryz.func159, Tryz.ntmps159
 go_wp2_with (go_at_call 204; (with_reducible refine (HS0.out _).mono ?_); rintro e w1 ⟨rfl, hw0⟩; have hw1 : w1 = ow w := hw0; clear hw0; have HB : Hid (SC w1 w.heap.size 0 0 0 0 ⟨#[]⟩) := (by show SC _ _ _ _ _ _ _; rw [hw1]; exact HB0.out); have HG : Hid (w.grownBy w1 none) := (by show World.grownBy _ _ _; rw [hw1]; exact HG0.out); clear hw1; obtain ⟨b0, b1, b2, b3, b4⟩ := HB.out.cells; have f0 := HB.out.free 0; have f1 := HB.out.free 1; have f2 := HB.out.free 2; have f3 := HB.out.free 3; have f4 := HB.out.free 4)
 have HS := Lib.hid (HB.out.st5 5 k 0 1 ⟨#[]⟩)
 have HG3 := Lib.hid (grown_new HG.out (st5_grown w1 w.heap.size 5 k 0 1 ⟨#[]⟩) (Nat.le_refl _))
 clear b0 b1 b2 b3 b4 f0 f1 f2 f3 f4
 change bodyPost _ _ _ _ _ (st5 w1 w.heap.size 5 k 0 1 ⟨#[]⟩)
 generalize st5 w1 w.heap.size 5 k 0 1 ⟨#[]⟩ = W2 at HS HG3 ⊢
 obtain ⟨b0, b1, b2, b3, b4⟩ := HS.out.cells
 exact bodyPost_ret (v := .tuple #[.agg #[.int .i64 5, .int .i64 k, .int .i64 0, .int .i64 1, .string ⟨#[]⟩], .int .i64 ((k : Int) + 1), .int .i64 0]) (by simp [results, Tryz.results159, go_sem, b0, b1, b2, b3, b4]) rfl ⟨HG3.out, rfl⟩
theorem rone_none (s : ByteArray) (k : Nat) (w : World) (hk : k < s.size) (hs : s.size ≤ 9223372036854775807) (hsm : smB s[k] = false) (h40 : s[k].toNat ≠ 40) (h41 : s[k].toNat ≠ 41) (h124 : s[k].toNat ≠ 124) (h42 : s[k].toNat ≠ 42) (h43 : s[k].toNat ≠ 43) (h63 : s[k].toNat ≠ 63) (h123 : s[k].toNat ≠ 123) :
  Calls Tryz.prog 159 #[.string s, .int .i64 k] w (Gives w (.bad k 2)) := by
 have HB0 := Lib.hid (SC.new w 0 0 0 0 ⟨#[]⟩)
 have HG0 := Lib.hid (World.grownBy_alloc w (.cells #[.int .i64 0, .int .i64 0, .int .i64 0, .int .i64 0, .string ⟨#[]⟩] 208) none)
 have HS0 := hide (rsm_of hk (b := false) (by rw [smI_nat]; exact hsm))
 have e40 : ((s[k].toNat : Int) == 40) = false := by simp; omega
 have e41 : ((s[k].toNat : Int) == 41) = false := by simp; omega
 have e124 : ((s[k].toNat : Int) == 124) = false := by simp; omega
 have e42 : ((s[k].toNat : Int) == 42) = false := by simp; omega
 have e43 : ((s[k].toNat : Int) == 43) = false := by simp; omega
 have e63 : ((s[k].toNat : Int) == 63) = false := by simp; omega
 have e123 : ((s[k].toNat : Int) == 123) = false := by simp; omega
 clear h40 h41 h124 h42 h43 h63 h123
 clear hsm
 go_enter Tryz.func159, Tryz.ntmps159
 go_wp2_with (go_at_call 204; (with_reducible refine (HS0.out _).mono ?_); rintro e w1 ⟨rfl, hw0⟩; have hw1 : w1 = ow w := hw0; clear hw0; have HB : Hid (SC w1 w.heap.size 0 0 0 0 ⟨#[]⟩) := (by show SC _ _ _ _ _ _ _; rw [hw1]; exact HB0.out); have HG : Hid (w.grownBy w1 none) := (by show World.grownBy _ _ _; rw [hw1]; exact HG0.out); clear hw1; obtain ⟨b0, b1, b2, b3, b4⟩ := HB.out.cells; have f0 := HB.out.free 0; have f1 := HB.out.free 1; have f2 := HB.out.free 2; have f3 := HB.out.free 3; have f4 := HB.out.free 4)
 have HS := Lib.hid (HB.out.st5 0 0 0 0 ⟨#[]⟩)
 have HG3 := Lib.hid (grown_new HG.out (st5_grown w1 w.heap.size 0 0 0 0 ⟨#[]⟩) (Nat.le_refl _))
 clear b0 b1 b2 b3 b4 f0 f1 f2 f3 f4
 change bodyPost _ _ _ _ _ (st5 w1 w.heap.size 0 0 0 0 ⟨#[]⟩)
 generalize st5 w1 w.heap.size 0 0 0 0 ⟨#[]⟩ = W2 at HS HG3 ⊢
 obtain ⟨b0, b1, b2, b3, b4⟩ := HS.out.cells
 exact bodyPost_ret (v := .tuple #[.agg #[.int .i64 0, .int .i64 0, .int .i64 0, .int .i64 0, .string ⟨#[]⟩], .int .i64 k, .int .i64 2]) (by simp [results, Tryz.results159, go_sem, b0, b1, b2, b3, b4]) rfl ⟨HG3.out, ⟨⟨0, 0, 0, 0, []⟩, rfl⟩⟩
theorem rone_count (s : ByteArray) (k : Nat) (w : World) (hk : k < s.size) (hs : s.size ≤ 9223372036854775807) (hsm : smB s[k] = false) (h123 : s[k].toNat = 123) {p : Nat × Int} {to : Nat} (hc : cnt (s.data.toList.drop (k + 1)) (k + 1) = .ok p to) :
  Calls Tryz.prog 159 #[.string s, .int .i64 k] w (Gives w (.ok ⟨5, k, p.1, p.2, []⟩ to)) := by
 have HB0 := Lib.hid (SC.new w 0 0 0 0 ⟨#[]⟩)
 have HG0 := Lib.hid (World.grownBy_alloc w (.cells #[.int .i64 0, .int .i64 0, .int .i64 0, .int .i64 0, .string ⟨#[]⟩] 208) none)
 have HS0 := hide (rsm_of hk (b := false) (by rw [smI_nat]; exact hsm))
 have e40 : ((s[k].toNat : Int) == 40) = false := by simp; omega
 have e41 : ((s[k].toNat : Int) == 41) = false := by simp; omega
 have e124 : ((s[k].toNat : Int) == 124) = false := by simp; omega
 have e42 : ((s[k].toNat : Int) == 42) = false := by simp; omega
 have e43 : ((s[k].toNat : Int) == 43) = false := by simp; omega
 have e63 : ((s[k].toNat : Int) == 63) = false := by simp; omega
 have e123 : ((s[k].toNat : Int) == 123) = true := by simp; omega
 have HC := hide (fun W => rcount_any s k W hk hs)
 rw [hc] at HC
 clear h123 hc
 clear hsm
 go_enter Tryz.func159, Tryz.ntmps159
 go_wp2_with (first
  | (go_at_call 204; (with_reducible refine (HS0.out _).mono ?_); rintro e w1 ⟨rfl, hw0⟩; have hw1 : w1 = ow w := hw0; clear hw0; have HB : Hid (SC w1 w.heap.size 0 0 0 0 ⟨#[]⟩) := (by show SC _ _ _ _ _ _ _; rw [hw1]; exact HB0.out); have HG : Hid (w.grownBy w1 none) := (by show World.grownBy _ _ _; rw [hw1]; exact HG0.out); clear hw1; obtain ⟨b0, b1, b2, b3, b4⟩ := HB.out.cells; have f0 := HB.out.free 0; have f1 := HB.out.free 1; have f2 := HB.out.free 2; have f3 := HB.out.free 3; have f4 := HB.out.free 4)
  | (go_at_call 206; (with_reducible refine (HC.out _).mono ?_); rintro e w2 h9; have hg2 := h9.1; obtain rfl := h9.2; have HB2 := Lib.hid (HB.out.kept hg2 (by simp)); have HG2 := Lib.hid (HG.out.trans hg2); clear h9 hg2 b0 b1 b2 b3 b4 f0 f1 f2 f3 f4; obtain ⟨b0, b1, b2, b3, b4⟩ := HB2.out.cells; have f0 := HB2.out.free 0; have f1 := HB2.out.free 1; have f2 := HB2.out.free 2; have f3 := HB2.out.free 3; have f4 := HB2.out.free 4; try dsimp only [sgV]))
 have HS := Lib.hid (HB2.out.st5 5 k p.1 p.2 ⟨#[]⟩)
 have HG3 := Lib.hid (grown_new HG2.out (st5_grown w2 w.heap.size 5 k p.1 p.2 ⟨#[]⟩) (Nat.le_refl _))
 clear b0 b1 b2 b3 b4 f0 f1 f2 f3 f4
 change bodyPost _ _ _ _ _ (st5 w2 w.heap.size 5 k p.1 p.2 ⟨#[]⟩)
 generalize st5 w2 w.heap.size 5 k p.1 p.2 ⟨#[]⟩ = W2 at HS HG3 ⊢
 obtain ⟨b0, b1, b2, b3, b4⟩ := HS.out.cells
 exact bodyPost_ret (v := .tuple #[.agg #[.int .i64 5, .int .i64 k, .int .i64 p.1, .int .i64 p.2, .string ⟨#[]⟩], .int .i64 to, .int .i64 0]) (by simp [results, Tryz.results159, go_sem, b0, b1, b2, b3, b4]) rfl ⟨HG3.out, rfl⟩
theorem rone_count_bad (s : ByteArray) (k : Nat) (w : World) (hk : k < s.size) (hs : s.size ≤ 9223372036854775807) (hsm : smB s[k] = false) (h123 : s[k].toNat = 123) {p : Nat} {c : Int} (hc : cnt (s.data.toList.drop (k + 1)) (k + 1) = .bad p c) :
  Calls Tryz.prog 159 #[.string s, .int .i64 k] w (Gives w (.bad p c)) := by
 have HB0 := Lib.hid (SC.new w 0 0 0 0 ⟨#[]⟩)
 have HG0 := Lib.hid (World.grownBy_alloc w (.cells #[.int .i64 0, .int .i64 0, .int .i64 0, .int .i64 0, .string ⟨#[]⟩] 208) none)
 have HS0 := hide (rsm_of hk (b := false) (by rw [smI_nat]; exact hsm))
 have e40 : ((s[k].toNat : Int) == 40) = false := by simp; omega
 have e41 : ((s[k].toNat : Int) == 41) = false := by simp; omega
 have e124 : ((s[k].toNat : Int) == 124) = false := by simp; omega
 have e42 : ((s[k].toNat : Int) == 42) = false := by simp; omega
 have e43 : ((s[k].toNat : Int) == 43) = false := by simp; omega
 have e63 : ((s[k].toNat : Int) == 63) = false := by simp; omega
 have e123 : ((s[k].toNat : Int) == 123) = true := by simp; omega
 have HC := hide (fun W => rcount_any s k W hk hs)
 rw [hc] at HC
 clear h123 hc
 clear hsm
 go_enter Tryz.func159, Tryz.ntmps159
 go_wp2_with (first
  | (go_at_call 204; (with_reducible refine (HS0.out _).mono ?_); rintro e w1 ⟨rfl, hw0⟩; have hw1 : w1 = ow w := hw0; clear hw0; have HB : Hid (SC w1 w.heap.size 0 0 0 0 ⟨#[]⟩) := (by show SC _ _ _ _ _ _ _; rw [hw1]; exact HB0.out); have HG : Hid (w.grownBy w1 none) := (by show World.grownBy _ _ _; rw [hw1]; exact HG0.out); clear hw1; obtain ⟨b0, b1, b2, b3, b4⟩ := HB.out.cells; have f0 := HB.out.free 0; have f1 := HB.out.free 1; have f2 := HB.out.free 2; have f3 := HB.out.free 3; have f4 := HB.out.free 4)
  | (go_at_call 206; (with_reducible refine (HC.out _).mono ?_); rintro e w2 h9; have hg2 := h9.1; obtain ⟨⟨kd, a_, lo, hi, nm⟩, rfl⟩ := h9.2; have HB2 := Lib.hid (HB.out.kept hg2 (by simp)); have HG2 := Lib.hid (HG.out.trans hg2); clear h9 hg2 b0 b1 b2 b3 b4 f0 f1 f2 f3 f4; obtain ⟨b0, b1, b2, b3, b4⟩ := HB2.out.cells; have f0 := HB2.out.free 0; have f1 := HB2.out.free 1; have f2 := HB2.out.free 2; have f3 := HB2.out.free 3; have f4 := HB2.out.free 4; try dsimp only [sgV]))
 have HS := Lib.hid (HB2.out.st5 kd a_ lo hi ⟨nm.toArray⟩)
 have HG3 := Lib.hid (grown_new HG2.out (st5_grown w2 w.heap.size kd a_ lo hi ⟨nm.toArray⟩) (Nat.le_refl _))
 clear b0 b1 b2 b3 b4 f0 f1 f2 f3 f4
 change bodyPost _ _ _ _ _ (st5 w2 w.heap.size kd a_ lo hi ⟨nm.toArray⟩)
 generalize st5 w2 w.heap.size kd a_ lo hi ⟨nm.toArray⟩ = W2 at HS HG3 ⊢
 obtain ⟨b0, b1, b2, b3, b4⟩ := HS.out.cells
 exact bodyPost_ret (v := .tuple #[.agg #[.int .i64 kd, .int .i64 a_, .int .i64 lo, .int .i64 hi, .string ⟨nm.toArray⟩], .int .i64 p, .int .i64 c]) (by simp [results, Tryz.results159, go_sem, b0, b1, b2, b3, b4]) rfl ⟨HG3.out, ⟨⟨kd, a_, lo, hi, nm⟩, rfl⟩⟩
theorem rone_any (s : ByteArray) (k : Nat) (w : World) (hk : k < s.size) (hs : s.size ≤ 9223372036854775807) :
  Calls Tryz.prog 159 #[.string s, .int .i64 k] w (Gives w (one s[k] (s.data.toList.drop (k + 1)) k)) := by
 cases hsm : smB s[k] with
 | true =>
  have e : one s[k] (s.data.toList.drop (k + 1)) k = if run inB (s.data.toList.drop k) ≤ 12 then .ok ⟨1, k, 0, 0, (s.data.toList.drop k).take (run inB (s.data.toList.drop k))⟩ (k + run inB (s.data.toList.drop k)) else .bad (k + 12) 2 := by
   rw [one, if_pos hsm, ← drop_cons s k hk]
  rw [e]
  by_cases h : run inB (s.data.toList.drop k) ≤ 12
  ·rw [if_pos h]
   refine (rone_name s k _ w hk hs hsm rfl h).mono fun e w' ⟨hg, he⟩ => ⟨hg, ?_⟩
   show e = _
   rw [he, extract_list s k _ (run_max inB s k (by omega))]; rfl
  ·rw [if_neg h]
   exact rone_long s k _ w hk hs hsm rfl (by omega)
 | false =>
  by_cases h123 : s[k].toNat = 123
  ·rw [one, hsm, if_neg (by decide), if_pos h123]
   cases hc : cnt (s.data.toList.drop (k + 1)) (k + 1) with
   | bad p c => exact rone_count_bad s k w hk hs hsm h123 hc
   | ok p to => exact rone_count s k w hk hs hsm h123 hc
  ·rw [one, hsm, if_neg (by decide), if_neg h123]
   unfold single
   by_cases h40 : s[k].toNat = 40
   ·simp only [h40]; exact rone_40 s k w hk hs hsm h40
   by_cases h41 : s[k].toNat = 41
   ·simp only [h41]; exact rone_41 s k w hk hs hsm h41
   by_cases h124 : s[k].toNat = 124
   ·simp only [h124]; exact rone_124 s k w hk hs hsm h124
   by_cases h42 : s[k].toNat = 42
   ·simp only [h42]; exact rone_42 s k w hk hs hsm h42
   by_cases h43 : s[k].toNat = 43
   ·simp only [h43]; exact rone_43 s k w hk hs hsm h43
   by_cases h63 : s[k].toNat = 63
   ·simp only [h63]; exact rone_63 s k w hk hs hsm h63
   simp only [h40, h41, h124, h42, h43, h63, if_false]
   exact rone_none s k w hk hs hsm h40 h41 h124 h42 h43 h63 h123
end Go.Proofs.YtnbchikiiipejaaGreatDoor.Lx
namespace Go.Proofs.YtnbchikiiipejaaGreatDoor.Lx
open Go.RowKit Mem
theorem info_rsg : (Tryz.prog.info? 208).map (fun i => (i.zero, i.size, i.bytes)) = some (some (.agg #[.int .i64 0, .int .i64 0, .int .i64 0, .int .i64 0, .string ⟨#[]⟩]), 5, 48) := by kernel_rfl
theorem rbg_of {s : ByteArray} {k : Nat} {b : Bool} (hk : k < s.size) (hd : begins s[k] = b) (w : World) : Calls Tryz.prog 158 #[.int .u8 (s[k].toNat : Int)] w fun e w' => e = .returned (.bool b) ∧ w' = w := by
 have hb := s[k].toNat_lt
 have := rbegins_any (s[k].toNat : Int) w (by omega) (by omega)
 rwa [bgI_nat, hd] at this
theorem one_none {c : UInt8} {t : List UInt8} {k : Nat} (h : ¬ begins c = true) : one c t k = .bad k 2 := by
 obtain ⟨h1, h2, h3⟩ := not_begins h
 rw [one, h1, if_neg (by decide), if_neg h2, h3]
theorem below_none {w0 w w' : World} (h : Below w0.heap.size w0 w) (hg : w.grownBy w' none) : Below w0.heap.size w0 w' := h.grown hg h.size (by intro i hi; simp at hi)
theorem rlex_any (s : ByteArray) (w : World) (hs : s.size ≤ 9223372036854775807) : Calls Tryz.prog 111 #[.string s] w (LexIs s w) := by
 obtain ⟨i0, hi, hz, hs1, hs2⟩ := info_parts info_rsg
 obtain ⟨Fin, hFin⟩ : ∃ Fin, Fin = Lex s.data.toList := ⟨_, rfl⟩
 have HFin := Lib.hid hFin
 clear hFin
 go_enter Tryz.func111, Tryz.ntmps111
 go_wp2_with fail
 go_loopw [5, 6] (fun v iv wr => ∃ (k : Nat) (acc : List Sg), iv = .int .i64 k ∧ k ≤ s.size ∧ acc.length ≤ 200 ∧ Hid (wr.ownsRow w.heap.size 208 5 v acc.length (cells5 acc)) ∧ Hid (Below w.heap.size w wr) ∧ Hid (From (s.data.toList.drop k) k acc = Fin)) (fun _ iv _ => s.size - (intOf iv).toNat)
 case atStart => exact ⟨0, [], rfl, by omega, by simp, Lib.hid (World.ownsRow_nil _ _ _ _), Lib.hid (Below.refl _ _), Lib.hid HFin.out.symm⟩
 case round =>
  obtain ⟨k, acc, rfl, hk, hacc, hO, hW, hF⟩ := hrel
  have hsz := hW.out.size
  by_cases hlt : k < s.size
  ·have l1 : decide ((k : Int) < (s.size : Int)) = true := by simp; omega
   have l2 : decide (k < s.size) = true := by simp; omega
   have i1 : (0 : Int) ≤ (k : Int) := by omega
   have i2 : (k : Int) < (s.size : Int) := by omega
   have hb := s[k].toNat_lt
   have hF0 := hF.out
   rw [drop_cons s k hlt] at hF0
   by_cases h32 : s[k].toNat = 32
   ·rw [from_blank _ _ _ h32] at hF0
    have HF2 := Lib.hid hF0
    have t1 : ((s[k].toNat : Int) == 32) = true := by rw [h32]; rfl
    clear hF hF0 h32
    go_wp2_with fail
    go_roundw
    case rel => exact ⟨k + 1, acc, by go_num, by omega, hacc, hO, hW, HF2⟩
    case measure => simp [intOf]; omega
   ·have t1 : ((s[k].toNat : Int) == 32) = false := by simp; omega
    obtain ⟨A0, c0, hv⟩ := own_form5 hO.out
    subst hv
    by_cases hfull : acc.length = 200 ∧ begins s[k] = true
    ·have HBG := hide (rbg_of hlt hfull.2)
     have HL : Hid (Lex s.data.toList = .bad k 4) := by show _ = _; rw [← HFin.out, ← hF0, from_full _ _ _ hfull.2 hfull.1]
     have t2 : ((acc.length : Int) == 200) = true := by simp; omega
     have t3 : (acc.length == 200) = true := by simp; omega
     clear hF hF0 h32 hfull
     go_wp2_with (go_at_call 158; (with_reducible refine (HBG.out _).mono ?_); rintro e w1 ⟨rfl, hw1⟩; replace hw1 := hw1.symm; subst hw1)
     exact bodyPost_ret (v := .tuple #[.slice none 0 0, .int .i64 k, .int .i64 4]) (by simp [results, Tryz.results111, go_sem]) rfl ⟨hW.out, by rw [HL.out]⟩
    ·have HR := hide (fun W => rone_any s k W hlt hs)
     have hnf : ¬ (begins s[k] = true ∧ acc.length = 200) := fun h => hfull ⟨h.2, h.1⟩
     cases ho : one s[k] (s.data.toList.drop (k + 1)) k with
     | bad p c =>
      rw [ho] at HR
      have HL : Hid (Lex s.data.toList = .bad p c) := by show _ = _; rw [← HFin.out, ← hF0, from_bad _ _ _ h32 hnf ho]
      have hc0 : c ≠ 0 := by have := one_bad ho; omega
      have t4 : (c != 0) = true := by simp [hc0]
      have t5 : (c == 0) = false := by simp [hc0]
      by_cases h200 : acc.length = 200
      ·have HBG := hide (rbg_of (b := false) hlt (by cases h : begins s[k] with | false => rfl | true => exact absurd ⟨h200, h⟩ hfull))
       have t2 : ((acc.length : Int) == 200) = true := by simp; omega
       have t3 : (acc.length == 200) = true := by simp; omega
       clear hF hF0 h32 hfull hnf ho hc0
       go_wp2_with (first
        | (go_at_call 158; (with_reducible refine (HBG.out _).mono ?_); rintro e w1 ⟨rfl, hw1⟩; replace hw1 := hw1.symm; subst hw1)
        | (go_at_call 159; (with_reducible refine (HR.out _).mono ?_); rintro e w2 h9; have hg2 := h9.1; obtain ⟨⟨kd, a_, lo, hi', nm⟩, rfl⟩ := h9.2; have HW2 := Lib.hid (below_none hW.out hg2); clear h9 hg2; try dsimp only [sgV]))
       exact bodyPost_ret (v := .tuple #[.slice none 0 0, .int .i64 p, .int .i64 c]) (by simp [results, Tryz.results111, go_sem]) rfl ⟨HW2.out.alloc HW2.out.size _, by rw [HL.out]⟩
      ·have t2 : ((acc.length : Int) == 200) = false := by simp; omega
       have t3 : (acc.length == 200) = false := by simp; omega
       clear hF hF0 h32 hfull hnf ho hc0
       go_wp2_with (go_at_call 159; (with_reducible refine (HR.out _).mono ?_); rintro e w2 h9; have hg2 := h9.1; obtain ⟨⟨kd, a_, lo, hi', nm⟩, rfl⟩ := h9.2; have HW2 := Lib.hid (below_none hW.out hg2); clear h9 hg2; try dsimp only [sgV])
       exact bodyPost_ret (v := .tuple #[.slice none 0 0, .int .i64 p, .int .i64 c]) (by simp [results, Tryz.results111, go_sem]) rfl ⟨HW2.out.alloc HW2.out.size _, by rw [HL.out]⟩
     | ok x to =>
      rw [ho] at HR
      have h200 : acc.length < 200 := by
       have hbg : begins s[k] = true := by
        cases h : begins s[k] with
        | true => rfl
        | false => rw [one_none (by simp [h])] at ho; simp at ho
       have : acc.length ≠ 200 := fun h => hfull ⟨h, hbg⟩
       omega
      have t2 : ((acc.length : Int) == 200) = false := by simp; omega
      have t3 : (acc.length == 200) = false := by simp; omega
      have hto := one_to ho
      rw [List.length_drop, show s.data.toList.length = s.size from by rw [Array.length_toList]; rfl] at hto
      have hFn := from_ok (s.data.toList.drop (k + 1)) k acc h32 hnf ho
      rw [hF0, ← drop_cons s k hlt, drop_to s k to (by omega)] at hFn
      have HF2 := Lib.hid hFn.symm
      obtain ⟨kd, at_, lo, hi', nm⟩ := x
      have hto2 : to ≤ s.size ∧ k < to := by omega
      clear hF hF0 hFn hto h32 hfull hnf ho
      go_wp2_with (first
       | (go_at_call 159; (with_reducible refine (HR.out _).mono ?_); rintro e w2 h9; have hg2 := h9.1; obtain rfl := h9.2; have HW2 := Lib.hid (below_none hW.out hg2); have HO2 := Lib.hid (hO.out.kept hg2 (Classical.em _)); have hz2 := HW2.out.size; clear h9 hg2; try dsimp only [sgV])
       | (at_builtin; refine wpList_app_sg rfl (.tmp 41) (.tmp 43) 203 rfl w.heap.size 208 i0 _ Tryz.underlying203 hi hz rfl hs1 hs2 _ acc rfl ((HO2.out.alloc (.cells #[.int .i64 kd, .int .i64 at_, .int .i64 lo, .int .i64 hi', .string ⟨nm.toArray⟩] 208)).alloc (.cells #[.int .i64 kd, .int .i64 at_, .int .i64 lo, .int .i64 hi', .string ⟨nm.toArray⟩] 208)) (w2.heap.size + 1) 1 ⟨kd, at_, lo, hi', nm⟩ rfl (new_cells w2 (.cells #[.int .i64 kd, .int .i64 at_, .int .i64 lo, .int .i64 hi', .string ⟨nm.toArray⟩] 208) _ _ rfl) (by omega) (by simp; omega) ?_; intro v' w4 hown' hg4 hat4))
      have HO4 := Lib.hid hown'
      have HW4 : Hid (Below w.heap.size w w4) := ((HW2.out.alloc hz2 _).alloc (by simp; omega) _).grown hg4 (by simp; omega) (fun g hg => (HO2.out.lt g hg).1)
      clear hown' hg4 hat4
      go_wp2_with fail
      go_roundw
      case rel => exact ⟨to, acc ++ [⟨kd, at_, lo, hi', nm⟩], rfl, hto2.1, by simp; omega, HO4, HW4, HF2⟩
      case measure => simp [intOf]; omega
  ·have l1 : decide ((k : Int) < (s.size : Int)) = false := by simp; omega
   have l2 : decide (k < s.size) = false := by simp; omega
   have hF0 := hF.out
   rw [drop_end s k (by omega), from_nil] at hF0
   have HL : Hid (Lex s.data.toList = .ok acc 0) := by show _ = _; rw [← HFin.out, ← hF0]
   obtain ⟨A0, c0, hv, hc0, hrow⟩ := GRow.of_own hO.out
   subst hv
   have HROW := Lib.hid hrow
   clear hF hF0 hrow
   go_wp2_with fail
   exact bodyPost_ret (v := .tuple #[.slice A0 acc.length c0, .int .i64 0, .int .i64 0]) (by simp [results, Tryz.results111, go_sem]) rfl ⟨hW.out, by rw [HL.out]; exact ⟨A0, c0, rfl, hc0, HROW.out⟩⟩
end Go.Proofs.YtnbchikiiipejaaGreatDoor.Lx
