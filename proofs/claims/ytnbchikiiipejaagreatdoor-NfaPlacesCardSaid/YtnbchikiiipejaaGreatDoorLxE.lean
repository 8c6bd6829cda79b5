/- Walks of the lexer: a number. -/
import Derived.Test.YtnbchikiiipejaaGreatDoorLxC
set_option linter.unusedVariables false
set_option maxRecDepth 100000
set_option maxHeartbeats 2000000
namespace Go.Proofs.YtnbchikiiipejaaGreatDoor.Lx
open Go.RowKit Mem
theorem int_eq {a b : Int} (h : a = b) : Value.int .i64 a = .int .i64 b := by rw [h]
theorem chain_at {a b c : Int} (h : a = b) : Ending.panicked (chain a c) = Ending.panicked (chain b c) := by rw [h]
def numC (i n : Nat) : List UInt8 → Nat → Res Nat
 | [], j => .ok n j
 | c :: u, j => if dgB c then (if i = 2 ∨ (0 < i ∧ n = 0) then .bad j 2 else numC (i + 1) (n * 10 + (c.toNat - 48)) u (j + 1)) else .ok n j
theorem num_eq (c : UInt8) (u : List UInt8) (k : Nat) (h : dgB c = true) : num (c :: u) k = numC 0 0 (c :: u) k := by
 have hc : 48 ≤ c.toNat := by simp only [dgB, Bool.and_eq_true, decide_eq_true_eq] at h; exact h.1
 have e0 : numC 0 0 (c :: u) k = numC 1 (c.toNat - 48) u (k + 1) := by
  rw [numC, if_pos h, if_neg (by omega)]; simp
 rw [e0]
 cases u with
 | nil => simp [num, numC, h]
 | cons d v =>
  by_cases hd : dgB d = true
  ·by_cases hz : c.toNat = 48
   ·simp [num, numC, h, hd, hz]
   ·have hz' : ¬ (1 = 2 ∨ 0 < 1 ∧ c.toNat - 48 = 0) := by omega
    have e1 : numC 1 (c.toNat - 48) (d :: v) (k + 1) = numC 2 (10 * (c.toNat - 48) + (d.toNat - 48)) v (k + 2) := by
     rw [numC, if_pos hd, if_neg hz', Nat.mul_comm]
    rw [e1]
    cases v with
    | nil => simp [num, numC, h, hd, hz]
    | cons x y =>
     by_cases hx : dgB x = true
     ·simp [num, numC, h, hd, hz, hx]
     ·simp [num, numC, h, hd, hz, hx]
  ·simp [num, numC, h, hd]
def rangeP (R : Res Nat) (k least : Nat) : Res Nat :=
 match R with
 | .ok n to => if least ≤ n ∧ n ≤ 20 then .ok n to else .bad k 3
 | .bad p c => .bad p c
theorem numP_eq (t : List UInt8) (k least : Nat) : numP t k least = rangeP (num t k) k least := by
 unfold numP rangeP; cases num t k <;> rfl
def After {α : Type} (b : Nat) (s : ByteArray) (w : World) (V : α → Value) (res : Res α) (e : Ending) (w' : World) : Prop :=
 match res with
 | .ok x to => e = .returned (V x) ∧ Rd w' b s to ∧ w.grownBy w' (some b)
 | .bad p c => e = .panicked (chain p c) ∧ w.grownBy w' (some b)
abbrev natV (n : Nat) : Value := .int .i64 n
theorem numC_yes {s : ByteArray} {i n j : Nat} {R : Res Nat} (h : numC i n (s.data.toList.drop j) j = R) (hj : j < s.size) (hd : dgI (s[j].toNat : Int) = true) :
  (i = 2 ∨ (0 < i ∧ n = 0) → R = .bad j 2) ∧ (¬ (i = 2 ∨ (0 < i ∧ n = 0)) → numC (i + 1) (n * 10 + (s[j].toNat - 48)) (s.data.toList.drop (j + 1)) (j + 1) = R) := by
 rw [dgI_nat] at hd
 rw [drop_cons s j hj, numC, if_pos hd] at h
 exact ⟨fun c => by rw [if_pos c] at h; exact h.symm, fun c => by rw [if_neg c] at h; exact h⟩
theorem numC_no {s : ByteArray} {i n j : Nat} {R : Res Nat} (h : numC i n (s.data.toList.drop j) j = R) (hd : ∀ hj : j < s.size, dgI (s[j].toNat : Int) = false) : R = .ok n j := by
 by_cases hj : j < s.size
 ·have := hd hj
  rw [dgI_nat] at this
  rw [drop_cons s j hj, numC, if_neg (by simp [this])] at h
  exact h.symm
 ·rw [drop_end s j (by omega), numC] at h
  exact h.symm
theorem number_end (b : Nat) (s : ByteArray) (k least : Nat) (w : World) (r : Rd w b s k) (hk : k = s.size) (hs : s.size ≤ 100000) :
  Calls Tryz.prog 243 #[.pointer (some ⟨b, 0, none⟩), .int .i64 least] w (After b s w natV (numP (s.data.toList.drop k) k least)) := by
 have HE : Hid (numP (s.data.toList.drop k) k least = .bad k 5) := by rw [drop_end s k (by omega)]; rfl
 obtain ⟨R, hR⟩ : ∃ R, R = numP (s.data.toList.drop k) k least := ⟨_, rfl⟩
 rw [← hR] at HE ⊢
 have HC := hide (fun n => next_end b s k (w.drewN n) (r.drewN n) (by omega) hs (by omega))
 have c1 := r.c1
 clear r hk hR
 go_enter Tryz.func243, Tryz.ntmps243
 go_wp2_with fail
 refine wp_region_dies_at (ch := chain k 5) 2 4 4 2 _ (by kernel_rfl) rfl (by simp) (by kernel_rfl) (by kernel_rfl) ?_ ?_
 ·simp only [List.take_succ_cons, List.take_zero, List.drop_succ_cons, List.drop_zero, List.cons_append, List.nil_append]
  repeat (quiet_step (fail))
  refine wpQuiet_nil ⟨rfl, dies_end 244 #[.pointer (some ⟨b, 0, none⟩)] (fun n => by go_simp) (fun n => ?_)⟩
  exact HC.out n
 ·intro a' n hd
  exact ⟨hd, by rw [HE.out]; exact ⟨rfl, only_drewN (grown_refl _ _) n⟩⟩
theorem number_none (b : Nat) (s : ByteArray) (k least : Nat) (w : World) (r : Rd w b s k) (hk : k < s.size) (hd : dgI (s[k].toNat : Int) = false) (hs : s.size ≤ 100000) :
  Calls Tryz.prog 243 #[.pointer (some ⟨b, 0, none⟩), .int .i64 least] w (After b s w natV (numP (s.data.toList.drop k) k least)) := by
 have HE : Hid (numP (s.data.toList.drop k) k least = .bad k 2) := by
  show _ = _
  rw [dgI_nat] at hd
  rw [drop_cons s k hk, numP]; simp [num, hd]
 obtain ⟨R, hR⟩ : ∃ R, R = numP (s.data.toList.drop k) k least := ⟨_, rfl⟩
 rw [← hR] at HE ⊢
 have HC := hide (fun n => next_in b s k (w.drewN n) (r.drewN n) hk hs)
 have hb := s[k].toNat_lt
 have HD0 := fun n => digit_any (s[k].toNat : Int) (w.drewN n) (by omega) (by omega)
 rw [hd] at HD0
 have HD := Lib.hid HD0
 have HM := hide (fun n => must_bad k 2 b (w.drewN n))
 have c1 := r.c1
 clear r hR hd hb HD0
 go_enter Tryz.func243, Tryz.ntmps243
 go_wp2_with fail
 refine wp_region_dies_at (ch := chain k 2) 8 0 0 8 _ (by kernel_rfl) rfl (by simp) (by kernel_rfl) (by kernel_rfl) ?_ ?_
 ·simp only [List.take_succ_cons, List.take_zero, List.drop_zero, List.append_nil]
  repeat (quiet_step ((first | (go_at_call 244; exact Calls.quiet_of (HC.out _)) | (go_at_call 262; exact Calls.quiet_of_same (HD.out _)))))
  refine wpQuiet_nil ⟨rfl, dies_end 165 #[.pointer (some ⟨b, 0, none⟩), .bool false, .int .i64 k, .int .i64 2] (fun n => by go_simp) (fun n => ?_)⟩
  exact (HM.out n).mono fun e w' ⟨he, hw⟩ => ⟨he, 0, hw⟩
 ·intro a' n hd
  exact ⟨hd, by rw [HE.out]; exact ⟨rfl, only_drewN (grown_refl _ _) n⟩⟩
theorem number_some (b : Nat) (s : ByteArray) (k least : Nat) (w : World) (r : Rd w b s k) (hk : k < s.size) (hd : dgI (s[k].toNat : Int) = true) (hs : s.size ≤ 100000) (hl : least ≤ 100) :
  Calls Tryz.prog 243 #[.pointer (some ⟨b, 0, none⟩), .int .i64 least] w (After b s w natV (numP (s.data.toList.drop k) k least)) := by
 obtain ⟨P, hP⟩ : ∃ P, P = numP (s.data.toList.drop k) k least := ⟨_, rfl⟩
 obtain ⟨R, hR⟩ : ∃ R, R = numC 0 0 (s.data.toList.drop k) k := ⟨_, rfl⟩
 have HP : Hid (P = rangeP R k least) := by
  show _ = _
  rw [dgI_nat] at hd
  rw [hP, hR, numP_eq, drop_cons s k hk, num_eq _ _ _ hd]
 rw [← hP]
 have HR := Lib.hid hR.symm
 have HC := hide (fun n => next_in b s k (w.drewN n) (r.drewN n) hk hs)
 have hb := s[k].toNat_lt
 have HD0 := fun n => digit_any (s[k].toNat : Int) (w.drewN n) (by omega) (by omega)
 rw [hd] at HD0
 have HD := Lib.hid HD0
 have HM := hide (fun n => must_ok k 2 b (w.drewN n))
 have c1 := r.c1
 have HRd := Lib.hid r
 clear r hR hd hb HD0 hP
 go_enter Tryz.func243, Tryz.ntmps243
 go_wp2_with fail
 go_quiet ((first | (go_at_call 244; exact Calls.quiet_of (HC.out _)) | (go_at_call 262; exact Calls.quiet_of_same (HD.out _)) | (go_at_call 165; exact Calls.quiet_of_same (HM.out _))))
 go_wp2_with fail
 have HR1 := Lib.hid (HRd.out.drewN nq)
 have HG1 := Lib.hid (only_drewN (grown_refl w (some b)) nq)
 clear c1
 go_loopw [6, 22] (fun n _ wr => ∃ i m : Nat, k + i ≤ s.size ∧ i ≤ 2 ∧ m ≤ 99 ∧ Hid ((i = 0 → m = 0) ∧ (i = 1 → m ≤ 9)) ∧ n = .int .i64 m ∧ Hid (Rd wr b s (k + i)) ∧ Hid (w.grownBy wr (some b)) ∧ Hid (numC i m (s.data.toList.drop (k + i)) (k + i) = R)) (fun _ _ wr => s.size - (intOf ((wr.cell? ⟨b, 1, none⟩).getD undef)).toNat)
 case atStart => exact ⟨0, 0, by omega, by omega, by omega, Lib.hid ⟨fun _ => rfl, by omega⟩, rfl, HR1, HG1, HR⟩
 case round =>
  obtain ⟨i, m, hi, hi2, hm, hm0, rfl, hr, hg, ht⟩ := hrel
  obtain ⟨j, hj⟩ : ∃ j, j = k + i := ⟨_, rfl⟩
  rw [← hj] at hi hr ht
  have HJ := Lib.hid hj
  clear hj
  have c0 := hr.out.c0
  have c1 := hr.out.c1
  have cf := hr.out.free 1
  by_cases hlt : j < s.size
  ·have hb := s[j].toNat_lt
   cases hp : dgI (s[j].toNat : Int) with
   | true =>
    have HA0 := ahead_in_digit b s j wr hr.out hlt hs
    rw [hp] at HA0
    have HA := Lib.hid HA0
    obtain ⟨q1, q2⟩ := numC_yes ht.out hlt hp
    have hdg : 48 ≤ s[j].toNat ∧ s[j].toNat ≤ 57 := by simp only [dgI, Bool.and_eq_true, decide_eq_true_eq] at hp; omega
    clear hp ht HA0
    by_cases hfull : i = 2 ∨ (0 < i ∧ m = 0)
    ·have HB := Lib.hid (q1 hfull)
     clear q1 q2
     by_cases h2 : i = 2
     ·have t1 : ((j : Int) == (k : Int) + 2) = true := by have := HJ.out; simp; omega
      have H0 := Lib.hid hfull
      clear hfull
      go_wp2_with (first
       | (go_at_call 208; refine HA.out.mono ?_; rintro e w1 ⟨rfl, hw1⟩; have HW : Hid (Drawn wr w1) := hw1; clear hw1; have d1 := (HW.out.rd hr.out).c1; have d2 := (HW.out.rd hr.out).free 1)
       | (go_at_call 165; refine (must_bad _ 2 b _).mono ?_; rintro e w2 ⟨rfl, rfl⟩))
      refine ⟨rfl, ?_⟩
      rw [HP.out, HB.out]
      exact ⟨chain_at (by have := HJ.out; omega), HW.out.grown hg.out⟩
     ·have t1 : ((j : Int) == (k : Int) + 2) = false := by have := HJ.out; simp; omega
      have t2 : decide (k < j) = true := by have := HJ.out; simp; omega
      have t3 : ((m : Int) == 0) = true := by simp; omega
      have H0 := Lib.hid hfull
      clear hfull h2
      go_wp2_with (first
       | (go_at_call 208; refine HA.out.mono ?_; rintro e w1 ⟨rfl, hw1⟩; have HW : Hid (Drawn wr w1) := hw1; clear hw1; have d1 := (HW.out.rd hr.out).c1; have d2 := (HW.out.rd hr.out).free 1)
       | (go_at_call 165; refine (must_bad _ 2 b _).mono ?_; rintro e w2 ⟨rfl, rfl⟩))
      refine ⟨rfl, ?_⟩
      rw [HP.out, HB.out]
      exact ⟨chain_at (by have := HJ.out; omega), HW.out.grown hg.out⟩
    ·have HT2 := Lib.hid (q2 hfull)
     clear q1 q2
     have t1 : ((j : Int) == (k : Int) + 2) = false := by have := HJ.out; simp; omega
     have a1 : IntKind.i64.wrap ((m : Int) * 10) = (m : Int) * 10 := IntWalk.i64_in _ (by omega)
     have a2 : IntKind.u8.wrap ((s[j].toNat : Int) - 48) = (s[j].toNat : Int) - 48 := IntWalk.u8_in _ (by omega)
     have i0 : (0 : Int) ≤ (j : Int) := by omega
     have i1 : (j : Int) < (s.size : Int) := by omega
     by_cases h0 : i = 0
     ·have t2 : decide (k < j) = false := by have := HJ.out; simp; omega
      have H0 := Lib.hid (⟨h0, hfull⟩ : i = 0 ∧ ¬ (i = 2 ∨ (0 < i ∧ m = 0)))
      clear h0 hfull
      go_wp2_with (first
       | (go_at_call 208; refine HA.out.mono ?_; rintro e w1 ⟨rfl, hw1⟩; have HW : Hid (Drawn wr w1) := hw1; clear hw1; have d0 := (HW.out.rd hr.out).c0; have d1 := (HW.out.rd hr.out).c1; have d2 := (HW.out.rd hr.out).free 1)
       | (go_at_call 165; refine (must_ok _ 2 b _).mono ?_; rintro e w2 ⟨rfl, rfl⟩))
      go_quiet (fail)
      have HD2 := Lib.hid (HW.out.trans ⟨nq, rfl⟩)
      have HR2 := Lib.hid ((HD2.out.rd hr.out).set1 j)
      have HG2 := Lib.hid (World.grownBy.trans (HD2.out.grown hg.out) (grown_set _ b 1 (.int .i64 ((j : Int) + 1))))
      go_wp2_with fail
      go_roundw
      case rel => exact ⟨i + 1, m * 10 + (s[j].toNat - 48), by have := HJ.out; omega, by have := H0.out; omega, by have := H0.out; have := hm0.out; omega, Lib.hid ⟨by omega, by have := H0.out; have := hm0.out; omega⟩, int_eq (by omega), by rw [show k + (i + 1) = j + 1 from by have := HJ.out; omega]; exact HR2, HG2, by rw [show k + (i + 1) = j + 1 from by have := HJ.out; omega]; exact HT2⟩
      case measure => rw [c1, HR2.out.c1]; simp [intOf]; omega
     ·have t2 : decide (k < j) = true := by have := HJ.out; simp; omega
      have t3 : ((m : Int) == 0) = false := by simp; omega
      have H0 := Lib.hid (⟨h0, hfull⟩ : ¬ i = 0 ∧ ¬ (i = 2 ∨ (0 < i ∧ m = 0)))
      clear h0 hfull
      go_wp2_with (first
       | (go_at_call 208; refine HA.out.mono ?_; rintro e w1 ⟨rfl, hw1⟩; have HW : Hid (Drawn wr w1) := hw1; clear hw1; have d0 := (HW.out.rd hr.out).c0; have d1 := (HW.out.rd hr.out).c1; have d2 := (HW.out.rd hr.out).free 1)
       | (go_at_call 165; refine (must_ok _ 2 b _).mono ?_; rintro e w2 ⟨rfl, rfl⟩))
      go_quiet (fail)
      have HD2 := Lib.hid (HW.out.trans ⟨nq, rfl⟩)
      have HR2 := Lib.hid ((HD2.out.rd hr.out).set1 j)
      have HG2 := Lib.hid (World.grownBy.trans (HD2.out.grown hg.out) (grown_set _ b 1 (.int .i64 ((j : Int) + 1))))
      go_wp2_with fail
      go_roundw
      case rel => exact ⟨i + 1, m * 10 + (s[j].toNat - 48), by have := HJ.out; omega, by have := H0.out; omega, by have := H0.out; have := hm0.out; omega, Lib.hid ⟨by omega, by have := H0.out; have := hm0.out; omega⟩, int_eq (by omega), by rw [show k + (i + 1) = j + 1 from by have := HJ.out; omega]; exact HR2, HG2, by rw [show k + (i + 1) = j + 1 from by have := HJ.out; omega]; exact HT2⟩
      case measure => rw [c1, HR2.out.c1]; simp [intOf]; omega
   | false =>
    have HA0 := ahead_in_digit b s j wr hr.out hlt hs
    rw [hp] at HA0
    have HA := Lib.hid HA0
    have HT2 := Lib.hid (numC_no ht.out (fun _ => hp))
    clear hp ht HA0
    by_cases hlm : least ≤ m
    ·have t1 : decide (least ≤ m) = true := by simpa using hlm
     by_cases hm20 : m ≤ 20
     ·have t2 : decide ((m : Int) ≤ 20) = true := by simp; omega
      go_wp2_with (first
       | (go_at_call 208; refine HA.out.mono ?_; rintro e w1 ⟨rfl, hw1⟩; have HW : Hid (Drawn wr w1) := hw1; clear hw1; have d1 := (HW.out.rd hr.out).c1; have d2 := (HW.out.rd hr.out).free 1)
       | (go_at_call 165; refine (must_ok _ 3 b _).mono ?_; rintro e w2 ⟨rfl, rfl⟩))
      go_ret
      rw [HP.out, HT2.out, rangeP, if_pos ⟨hlm, hm20⟩]
      exact ⟨rfl, HW.out.rd hr.out, HW.out.grown hg.out⟩
     ·have t2 : decide ((m : Int) ≤ 20) = false := by simp; omega
      go_wp2_with (first
       | (go_at_call 208; refine HA.out.mono ?_; rintro e w1 ⟨rfl, hw1⟩; have HW : Hid (Drawn wr w1) := hw1; clear hw1; have d1 := (HW.out.rd hr.out).c1; have d2 := (HW.out.rd hr.out).free 1)
       | (go_at_call 165; refine (must_bad _ 3 b _).mono ?_; rintro e w2 ⟨rfl, rfl⟩))
      refine ⟨rfl, ?_⟩
      rw [HP.out, HT2.out, rangeP, if_neg (by omega)]
      exact ⟨rfl, HW.out.grown hg.out⟩
    ·have t1 : decide (least ≤ m) = false := by simpa using hlm
     go_wp2_with (first
      | (go_at_call 208; refine HA.out.mono ?_; rintro e w1 ⟨rfl, hw1⟩; have HW : Hid (Drawn wr w1) := hw1; clear hw1; have d1 := (HW.out.rd hr.out).c1; have d2 := (HW.out.rd hr.out).free 1)
      | (go_at_call 165; refine (must_bad _ 3 b _).mono ?_; rintro e w2 ⟨rfl, rfl⟩))
     refine ⟨rfl, ?_⟩
     rw [HP.out, HT2.out, rangeP, if_neg (by omega)]
     exact ⟨rfl, HW.out.grown hg.out⟩
  ·have HA := Lib.hid (ahead_end_digit b s j wr hr.out (by omega) hs (by omega))
   have HT2 := Lib.hid (numC_no ht.out (fun h => absurd h hlt))
   clear ht
   by_cases hlm : least ≤ m
   ·have t1 : decide (least ≤ m) = true := by simpa using hlm
    by_cases hm20 : m ≤ 20
    ·have t2 : decide ((m : Int) ≤ 20) = true := by simp; omega
     go_wp2_with (first
      | (go_at_call 208; refine HA.out.mono ?_; rintro e w1 ⟨rfl, hw1⟩; have HW : Hid (Drawn wr w1) := hw1; clear hw1; have d1 := (HW.out.rd hr.out).c1; have d2 := (HW.out.rd hr.out).free 1)
      | (go_at_call 165; refine (must_ok _ 3 b _).mono ?_; rintro e w2 ⟨rfl, rfl⟩))
     go_ret
     rw [HP.out, HT2.out, rangeP, if_pos ⟨hlm, hm20⟩]
     exact ⟨rfl, HW.out.rd hr.out, HW.out.grown hg.out⟩
    ·have t2 : decide ((m : Int) ≤ 20) = false := by simp; omega
     go_wp2_with (first
      | (go_at_call 208; refine HA.out.mono ?_; rintro e w1 ⟨rfl, hw1⟩; have HW : Hid (Drawn wr w1) := hw1; clear hw1; have d1 := (HW.out.rd hr.out).c1; have d2 := (HW.out.rd hr.out).free 1)
      | (go_at_call 165; refine (must_bad _ 3 b _).mono ?_; rintro e w2 ⟨rfl, rfl⟩))
     refine ⟨rfl, ?_⟩
     rw [HP.out, HT2.out, rangeP, if_neg (by omega)]
     exact ⟨rfl, HW.out.grown hg.out⟩
   ·have t1 : decide (least ≤ m) = false := by simpa using hlm
    go_wp2_with (first
     | (go_at_call 208; refine HA.out.mono ?_; rintro e w1 ⟨rfl, hw1⟩; have HW : Hid (Drawn wr w1) := hw1; clear hw1; have d1 := (HW.out.rd hr.out).c1; have d2 := (HW.out.rd hr.out).free 1)
     | (go_at_call 165; refine (must_bad _ 3 b _).mono ?_; rintro e w2 ⟨rfl, rfl⟩))
    refine ⟨rfl, ?_⟩
    rw [HP.out, HT2.out, rangeP, if_neg (by omega)]
    exact ⟨rfl, HW.out.grown hg.out⟩
theorem number_any (b : Nat) (s : ByteArray) (k least : Nat) (w : World) (r : Rd w b s k) (hk : k ≤ s.size) (hs : s.size ≤ 100000) (hl : least ≤ 100) :
  Calls Tryz.prog 243 #[.pointer (some ⟨b, 0, none⟩), .int .i64 least] w (After b s w natV (numP (s.data.toList.drop k) k least)) := by
 by_cases h : k < s.size
 ·cases hd : dgI (s[k].toNat : Int) with
  | true => exact number_some b s k least w r h hd hs hl
  | false => exact number_none b s k least w r h hd hs
 ·exact number_end b s k least w r (by omega) hs
end Go.Proofs.YtnbchikiiipejaaGreatDoor.Lx
namespace Go.Proofs.YtnbchikiiipejaaGreatDoor.Lx
open Go.RowKit Mem
theorem drop_to (s : ByteArray) (k to : Nat) (h : k ≤ to) : (s.data.toList.drop k).drop (to - k) = s.data.toList.drop to := by
 rw [List.drop_drop]; congr 1; omega
theorem cnt_at {s : ByteArray} {k low to : Nat} (hN : numP (s.data.toList.drop k) k 0 = .ok low to) : cnt (s.data.toList.drop k) k =
  match s.data.toList.drop to with
  | [] => .bad to 5
  | c :: u => if c.toNat = 44 then highP low u (to + 1) else if c.toNat = 125 then (if low = 0 then .bad k 3 else .ok (low, (low : Int)) (to + 1)) else .bad to 2 := by
 rw [cnt, hN]
 have := (num_to (numP_to hN).1).1
 simp only
 rw [drop_to s k to (by omega)]
 cases s.data.toList.drop to <;> rfl
theorem high_at {s : ByteArray} {k low : Nat} (hk : k < s.size) (hc : s[k].toNat ≠ 125) : highP low (s.data.toList.drop k) k =
  match numP (s.data.toList.drop k) k (max low 1) with
  | .bad p e => .bad p e
  | .ok high to => shutP low high (s.data.toList.drop to) to := by
 unfold highP
 rw [drop_cons s k hk]
 simp only [if_neg hc]
 cases hN : numP (s[k] :: s.data.toList.drop (k + 1)) k (max low 1) with
 | bad p e => rfl
 | ok high to =>
  have h1 := (num_to (numP_to hN).1).1
  simp only
  rw [← drop_cons s k hk, drop_to s k to (by omega)]
theorem numP_len {s : ByteArray} {k l n to : Nat} (hN : numP (s.data.toList.drop k) k l = .ok n to) : k < to ∧ (k ≤ s.size → to ≤ s.size) ∧ n ≤ 20 := by
 have hto := num_to (numP_to hN).1
 rw [List.length_drop, show s.data.toList.length = s.size from by rw [Array.length_toList]; rfl] at hto
 exact ⟨hto.1, by omega, (numP_to hN).2.2⟩
abbrev cntV (p : Nat × Int) : Value := .agg #[.int .i64 5, .int .i64 0, .int .i64 p.1, .int .i64 p.2, .string ⟨#[]⟩]
theorem number0 (b : Nat) (s : ByteArray) (k : Nat) (w : World) (r : Rd w b s k) (hk : k ≤ s.size) (hs : s.size ≤ 100000) :
  Calls Tryz.prog 243 #[.pointer (some ⟨b, 0, none⟩), .int .i64 0] w (After b s w natV (numP (s.data.toList.drop k) k 0)) := number_any b s k 0 w r hk hs (by omega)
theorem number_max (b : Nat) (s : ByteArray) (k low : Nat) (w : World) (r : Rd w b s k) (hk : k ≤ s.size) (hs : s.size ≤ 100000) (hl : low ≤ 20) :
  Calls Tryz.prog 243 #[.pointer (some ⟨b, 0, none⟩), .int .i64 (if (low : Int) < 1 then 1 else (low : Int))] w (After b s w natV (numP (s.data.toList.drop k) k (max low 1))) := by
 rw [show (if (low : Int) < 1 then 1 else (low : Int)) = ((max low 1 : Nat) : Int) from by split <;> omega]
 exact number_any b s k (max low 1) w r hk hs (by omega)
theorem br_num (b : Nat) (s : ByteArray) (k : Nat) (w : World) (r : Rd w b s k) (hk : k < s.size) (hs : s.size ≤ 100000) {p : Nat} {c : Int} (hN : numP (s.data.toList.drop (k + 1)) (k + 1) 0 = .bad p c) :
  Calls Tryz.prog 211 #[.pointer (some ⟨b, 0, none⟩)] w (After b s w cntV (.bad p c)) := by
 have c1 := r.c1
 have cf := r.free 1
 have hbw := r.lt
 have hne : Hid (some w.heap.size ≠ some b) := by show _ ≠ _; intro e; injection e; omega
 have HR1 := Lib.hid ((r.set1 k).alloc (.cells #[.int .i64 0, .int .i64 0, .int .i64 0, .int .i64 0, .string ⟨#[]⟩] 222))
 have HB1 : Hid (SB ((w.setCell ⟨b, 1, none⟩ (.int .i64 ((k : Int) + 1))).alloc (.cells #[.int .i64 0, .int .i64 0, .int .i64 0, .int .i64 0, .string ⟨#[]⟩] 222)) w.heap.size 0 0 0 0 ⟨#[]⟩) := by
  have h := SB.new (w.setCell ⟨b, 1, none⟩ (.int .i64 ((k : Int) + 1))) 0 0 0 0 ⟨#[]⟩
  rwa [show (w.setCell ⟨b, 1, none⟩ (.int .i64 ((k : Int) + 1))).heap.size = w.heap.size from by simp] at h
 have HG1 := Lib.hid ((grown_set w b 1 (.int .i64 ((k : Int) + 1))).trans (World.grownBy_alloc _ (.cells #[.int .i64 0, .int .i64 0, .int .i64 0, .int .i64 0, .string ⟨#[]⟩] 222) (some b)))
 have HN0 := hide (fun W (h : Rd W b s (k + 1)) => number0 b s (k + 1) W h (by omega) hs)
 rw [hN] at HN0
 clear r hN
 go_enter Tryz.func211, Tryz.ntmps211
 go_wp2_with (go_at_call 243; (with_reducible refine (HN0.out _ HR1.out).mono ?_); rintro e w1 ⟨rfl, hg⟩)
 exact ⟨rfl, rfl, HG1.out.trans hg⟩
theorem br_end (b : Nat) (s : ByteArray) (k : Nat) (w : World) (r : Rd w b s k) (hk : k < s.size) (hs : s.size ≤ 100000) {low to : Nat} (hN : numP (s.data.toList.drop (k + 1)) (k + 1) 0 = .ok low to) (hle : s.size ≤ to) :
  Calls Tryz.prog 211 #[.pointer (some ⟨b, 0, none⟩)] w (After b s w cntV (.bad to 5)) := by
 have c1 := r.c1
 have cf := r.free 1
 have hbw := r.lt
 have hne : Hid (some w.heap.size ≠ some b) := by show _ ≠ _; intro e; injection e; omega
 have HR1 := Lib.hid ((r.set1 k).alloc (.cells #[.int .i64 0, .int .i64 0, .int .i64 0, .int .i64 0, .string ⟨#[]⟩] 222))
 have HB1 : Hid (SB ((w.setCell ⟨b, 1, none⟩ (.int .i64 ((k : Int) + 1))).alloc (.cells #[.int .i64 0, .int .i64 0, .int .i64 0, .int .i64 0, .string ⟨#[]⟩] 222)) w.heap.size 0 0 0 0 ⟨#[]⟩) := by
  have h := SB.new (w.setCell ⟨b, 1, none⟩ (.int .i64 ((k : Int) + 1))) 0 0 0 0 ⟨#[]⟩
  rwa [show (w.setCell ⟨b, 1, none⟩ (.int .i64 ((k : Int) + 1))).heap.size = w.heap.size from by simp] at h
 have HG1 := Lib.hid ((grown_set w b 1 (.int .i64 ((k : Int) + 1))).trans (World.grownBy_alloc _ (.cells #[.int .i64 0, .int .i64 0, .int .i64 0, .int .i64 0, .string ⟨#[]⟩] 222) (some b)))
 have HN0 := hide (fun W (h : Rd W b s (k + 1)) => number0 b s (k + 1) W h (by omega) hs)
 rw [hN] at HN0
 obtain ⟨hto1, hto2, hlow⟩ := numP_len hN
 have hto3 : to ≤ s.size := hto2 (by omega)
 clear r hN hto2
 have tok1 : True := trivial
 have tok2 : True := trivial
 go_enter Tryz.func211, Tryz.ntmps211
 go_wp2_with (first
  | (go_at_call 243; have _t := tok1; (with_reducible refine (HN0.out _ HR1.out).mono ?_); rintro e w1 ⟨rfl, hr0, hg0⟩; have hr := Lib.hid hr0; have hg := Lib.hid hg0; clear hr0 hg0 tok1)
  | (go_at_call 244; refine (next_end b s to _ hr.out hle hs (by omega)).mono ?_; rintro e w2 ⟨rfl, n, rfl⟩))
 exact ⟨rfl, rfl, only_drewN (HG1.out.trans hg.out) n⟩
theorem br_zero (b : Nat) (s : ByteArray) (k : Nat) (w : World) (r : Rd w b s k) (hk : k < s.size) (hs : s.size ≤ 100000) {low to : Nat} (hN : numP (s.data.toList.drop (k + 1)) (k + 1) 0 = .ok low to) (hlt : to < s.size) (h125 : s[to].toNat = 125) (hz : low = 0) :
  Calls Tryz.prog 211 #[.pointer (some ⟨b, 0, none⟩)] w (After b s w cntV (.bad (k + 1) 3)) := by
 have c1 := r.c1
 have cf := r.free 1
 have hbw := r.lt
 have hne : Hid (some w.heap.size ≠ some b) := by show _ ≠ _; intro e; injection e; omega
 have HR1 := Lib.hid ((r.set1 k).alloc (.cells #[.int .i64 0, .int .i64 0, .int .i64 0, .int .i64 0, .string ⟨#[]⟩] 222))
 have HB1 : Hid (SB ((w.setCell ⟨b, 1, none⟩ (.int .i64 ((k : Int) + 1))).alloc (.cells #[.int .i64 0, .int .i64 0, .int .i64 0, .int .i64 0, .string ⟨#[]⟩] 222)) w.heap.size 0 0 0 0 ⟨#[]⟩) := by
  have h := SB.new (w.setCell ⟨b, 1, none⟩ (.int .i64 ((k : Int) + 1))) 0 0 0 0 ⟨#[]⟩
  rwa [show (w.setCell ⟨b, 1, none⟩ (.int .i64 ((k : Int) + 1))).heap.size = w.heap.size from by simp] at h
 have HG1 := Lib.hid ((grown_set w b 1 (.int .i64 ((k : Int) + 1))).trans (World.grownBy_alloc _ (.cells #[.int .i64 0, .int .i64 0, .int .i64 0, .int .i64 0, .string ⟨#[]⟩] 222) (some b)))
 have HN0 := hide (fun W (h : Rd W b s (k + 1)) => number0 b s (k + 1) W h (by omega) hs)
 rw [hN] at HN0
 obtain ⟨hto1, hto2, hlow⟩ := numP_len hN
 have hto3 : to ≤ s.size := hto2 (by omega)
 clear r hN hto2
 have tok1 : True := trivial
 have tok2 : True := trivial
 have t1 : ((s[to].toNat : Int) == 44) = false := by simp; omega
 have t2 : ((s[to].toNat : Int) == 125) = true := by simp; omega
 have t4 : decide (0 < low) = false := by simp; omega
 have hz' : low ≤ 0 := by omega
 clear h125 hz
 go_enter Tryz.func211, Tryz.ntmps211
 go_wp2_with (first
  | (go_at_call 243; have _t := tok1; (with_reducible refine (HN0.out _ HR1.out).mono ?_); rintro e w1 ⟨rfl, hr0, hg0⟩; have hr := Lib.hid hr0; have hg := Lib.hid hg0; clear hr0 hg0 tok1)
  | (go_at_call 244; have _t := tok2; (with_reducible refine (next_in b s to _ hr.out hlt hs).mono ?_); rintro e w2 ⟨rfl, hw2⟩; have HW : Hid (Drawn w1 w2) := hw2; clear hw2 tok2)
  | (go_at_call 165; (with_reducible refine (must_bad _ 3 b _).mono ?_); rintro e w3 ⟨rfl, rfl⟩))
 exact ⟨rfl, chain_at (by omega), HW.out.grown (HG1.out.trans hg.out)⟩
theorem br_same (b : Nat) (s : ByteArray) (k : Nat) (w : World) (r : Rd w b s k) (hk : k < s.size) (hs : s.size ≤ 100000) {low to : Nat} (hN : numP (s.data.toList.drop (k + 1)) (k + 1) 0 = .ok low to) (hlt : to < s.size) (h125 : s[to].toNat = 125) (hz : low ≠ 0) :
  Calls Tryz.prog 211 #[.pointer (some ⟨b, 0, none⟩)] w (After b s w cntV (.ok (low, (low : Int)) (to + 1))) := by
 have c1 := r.c1
 have cf := r.free 1
 have hbw := r.lt
 have hne : Hid (some w.heap.size ≠ some b) := by show _ ≠ _; intro e; injection e; omega
 have HR1 := Lib.hid ((r.set1 k).alloc (.cells #[.int .i64 0, .int .i64 0, .int .i64 0, .int .i64 0, .string ⟨#[]⟩] 222))
 have HB1 : Hid (SB ((w.setCell ⟨b, 1, none⟩ (.int .i64 ((k : Int) + 1))).alloc (.cells #[.int .i64 0, .int .i64 0, .int .i64 0, .int .i64 0, .string ⟨#[]⟩] 222)) w.heap.size 0 0 0 0 ⟨#[]⟩) := by
  have h := SB.new (w.setCell ⟨b, 1, none⟩ (.int .i64 ((k : Int) + 1))) 0 0 0 0 ⟨#[]⟩
  rwa [show (w.setCell ⟨b, 1, none⟩ (.int .i64 ((k : Int) + 1))).heap.size = w.heap.size from by simp] at h
 have HG1 := Lib.hid ((grown_set w b 1 (.int .i64 ((k : Int) + 1))).trans (World.grownBy_alloc _ (.cells #[.int .i64 0, .int .i64 0, .int .i64 0, .int .i64 0, .string ⟨#[]⟩] 222) (some b)))
 have HN0 := hide (fun W (h : Rd W b s (k + 1)) => number0 b s (k + 1) W h (by omega) hs)
 rw [hN] at HN0
 obtain ⟨hto1, hto2, hlow⟩ := numP_len hN
 have hto3 : to ≤ s.size := hto2 (by omega)
 clear r hN hto2
 have tok1 : True := trivial
 have tok2 : True := trivial
 have t1 : ((s[to].toNat : Int) == 44) = false := by simp; omega
 have t2 : ((s[to].toNat : Int) == 125) = true := by simp; omega
 have t4 : decide (0 < low) = true := by simp; omega
 clear h125 hz
 go_enter Tryz.func211, Tryz.ntmps211
 go_wp2_with (first
  | (go_at_call 243; have _t := tok1; (with_reducible refine (HN0.out _ HR1.out).mono ?_); rintro e w1 ⟨rfl, hr0, hg0⟩; have hr := Lib.hid hr0; have hg := Lib.hid hg0; clear hr0 hg0 tok1)
  | (go_at_call 244; have _t := tok2; (with_reducible refine (next_in b s to _ hr.out hlt hs).mono ?_); rintro e w2 ⟨rfl, hw2⟩; have HW : Hid (Drawn w1 w2) := hw2; clear hw2 tok2)
  | (go_at_call 165; (with_reducible refine (must_ok _ 3 b _).mono ?_); rintro e w3 ⟨rfl, rfl⟩))
 have HS := Lib.hid (HW.out.rd hr.out)
 have HGS := Lib.hid (HW.out.grown (HG1.out.trans hg.out))
 have HBS := Lib.hid (HW.out.sb (HB1.out.kept hg.out hne.out))
 have HC := hide (fun n => next_in b s to (w3.drewN n) (HS.out.drewN n) (by omega) hs)
 have HM := hide (fun n => must_ok (to : Int) 2 b (w3.drewN n))
 have d1 := HS.out.c1
 have d2 := HS.out.free 1
 obtain ⟨b0, b1, b2, b3, b4⟩ := HBS.out.cells
 have f0 := HBS.out.free 0
 have f1 := HBS.out.free 1
 have f2 := HBS.out.free 2
 have f3 := HBS.out.free 3
 have f4 := HBS.out.free 4
 go_quiet ((first | (go_at_call 244; exact Calls.quiet_of (HC.out _)) | (go_at_call 165; exact Calls.quiet_of_same (HM.out _))))
 go_wp2_with fail
 have HSx := Lib.hid ((HS.out.drewN nq).set1 to)
 have HGx := Lib.hid ((only_drewN HGS.out nq).trans (grown_set _ b 1 (.int .i64 ((to : Int) + 1))))
 have HBx : Hid (SB ((w3.drewN nq).setCell ⟨b, 1, none⟩ (.int .i64 ((to : Int) + 1))) w.heap.size 0 0 0 0 ⟨#[]⟩) := SB.kept (W := w3.drewN nq) HBS.out (grown_set _ b 1 (.int .i64 ((to : Int) + 1))) hne.out
 have HB5 := Lib.hid (HBx.out.st5 5 0 (low : Int) (low : Int) ⟨#[]⟩)
 have HR5 := Lib.hid (HSx.out.kept (st5_grown _ w.heap.size 5 0 (low : Int) (low : Int) ⟨#[]⟩) (Ne.symm hne.out))
 have HG5 := Lib.hid (grown_new HGx.out (st5_grown _ w.heap.size 5 0 (low : Int) (low : Int) ⟨#[]⟩) (Nat.le_refl _))
 clear b0 b1 b2 b3 b4 f0 f1 f2 f3 f4 d1 d2
 change bodyPost _ _ _ _ _ (st5 ((w3.drewN nq).setCell ⟨b, 1, none⟩ (.int .i64 ((to : Int) + 1))) w.heap.size 5 0 (low : Int) (low : Int) ⟨#[]⟩)
 generalize st5 ((w3.drewN nq).setCell ⟨b, 1, none⟩ (.int .i64 ((to : Int) + 1))) w.heap.size 5 0 (low : Int) (low : Int) ⟨#[]⟩ = W9 at HB5 HR5 HG5 ⊢
 obtain ⟨b0, b1, b2, b3, b4⟩ := HB5.out.cells
 refine bodyPost_ret (v := cntV (low, (low : Int))) (by simp [results, Tryz.results211, go_sem, b0, b1, b2, b3, b4]) rfl ⟨rfl, HR5.out, HG5.out⟩
theorem br_other (b : Nat) (s : ByteArray) (k : Nat) (w : World) (r : Rd w b s k) (hk : k < s.size) (hs : s.size ≤ 100000) {low to : Nat} (hN : numP (s.data.toList.drop (k + 1)) (k + 1) 0 = .ok low to) (hlt : to < s.size) (h44 : s[to].toNat ≠ 44) (h125 : s[to].toNat ≠ 125) :
  Calls Tryz.prog 211 #[.pointer (some ⟨b, 0, none⟩)] w (After b s w cntV (.bad to 2)) := by
 have c1 := r.c1
 have cf := r.free 1
 have hbw := r.lt
 have hne : Hid (some w.heap.size ≠ some b) := by show _ ≠ _; intro e; injection e; omega
 have HR1 := Lib.hid ((r.set1 k).alloc (.cells #[.int .i64 0, .int .i64 0, .int .i64 0, .int .i64 0, .string ⟨#[]⟩] 222))
 have HB1 : Hid (SB ((w.setCell ⟨b, 1, none⟩ (.int .i64 ((k : Int) + 1))).alloc (.cells #[.int .i64 0, .int .i64 0, .int .i64 0, .int .i64 0, .string ⟨#[]⟩] 222)) w.heap.size 0 0 0 0 ⟨#[]⟩) := by
  have h := SB.new (w.setCell ⟨b, 1, none⟩ (.int .i64 ((k : Int) + 1))) 0 0 0 0 ⟨#[]⟩
  rwa [show (w.setCell ⟨b, 1, none⟩ (.int .i64 ((k : Int) + 1))).heap.size = w.heap.size from by simp] at h
 have HG1 := Lib.hid ((grown_set w b 1 (.int .i64 ((k : Int) + 1))).trans (World.grownBy_alloc _ (.cells #[.int .i64 0, .int .i64 0, .int .i64 0, .int .i64 0, .string ⟨#[]⟩] 222) (some b)))
 have HN0 := hide (fun W (h : Rd W b s (k + 1)) => number0 b s (k + 1) W h (by omega) hs)
 rw [hN] at HN0
 obtain ⟨hto1, hto2, hlow⟩ := numP_len hN
 have hto3 : to ≤ s.size := hto2 (by omega)
 clear r hN hto2
 have tok1 : True := trivial
 have tok2 : True := trivial
 have t1 : ((s[to].toNat : Int) == 44) = false := by simp; omega
 have t2 : ((s[to].toNat : Int) == 125) = false := by simp; omega
 clear h44 h125
 go_enter Tryz.func211, Tryz.ntmps211
 go_wp2_with (first
  | (go_at_call 243; have _t := tok1; (with_reducible refine (HN0.out _ HR1.out).mono ?_); rintro e w1 ⟨rfl, hr0, hg0⟩; have hr := Lib.hid hr0; have hg := Lib.hid hg0; clear hr0 hg0 tok1)
  | (go_at_call 244; have _t := tok2; (with_reducible refine (next_in b s to _ hr.out hlt hs).mono ?_); rintro e w2 ⟨rfl, hw2⟩; have HW : Hid (Drawn w1 w2) := hw2; clear hw2 tok2))
 have HS := Lib.hid (HW.out.rd hr.out)
 have HGS := Lib.hid (HW.out.grown (HG1.out.trans hg.out))
 have HC := hide (fun n => next_in b s to (w2.drewN n) (HS.out.drewN n) (by omega) hs)
 have HM := hide (fun n => must_bad (to : Int) 2 b (w2.drewN n))
 have d1 := HS.out.c1
 refine wp_region_dies_at (ch := chain (to : Int) 2) 8 0 0 8 _ (by kernel_rfl) rfl (by simp) (by kernel_rfl) (by kernel_rfl) ?_ ?_
 ·simp only [List.take_succ_cons, List.take_zero, List.drop_zero, List.append_nil]
  repeat (quiet_step ((go_at_call 244; exact Calls.quiet_of (HC.out _))))
  refine wpQuiet_nil ⟨rfl, dies_end 165 #[.pointer (some ⟨b, 0, none⟩), .bool false, .int .i64 (to : Int), .int .i64 2] (fun n => by go_simp) (fun n => ?_)⟩
  exact (HM.out n).mono fun e w' ⟨he, hw⟩ => ⟨he, 0, hw⟩
 ·intro a' n hd
  exact ⟨hd, ⟨rfl, only_drewN HGS.out n⟩⟩
theorem br_comma_end (b : Nat) (s : ByteArray) (k : Nat) (w : World) (r : Rd w b s k) (hk : k < s.size) (hs : s.size ≤ 100000) {low to : Nat} (hN : numP (s.data.toList.drop (k + 1)) (k + 1) 0 = .ok low to) (hlt : to < s.size) (h44 : s[to].toNat = 44) {j : Nat} (hj : j = to + 1) (hle : s.size ≤ j) :
  Calls Tryz.prog 211 #[.pointer (some ⟨b, 0, none⟩)] w (After b s w cntV (.bad j 5)) := by
 have c1 := r.c1
 have cf := r.free 1
 have hbw := r.lt
 have hne : Hid (some w.heap.size ≠ some b) := by show _ ≠ _; intro e; injection e; omega
 have HR1 := Lib.hid ((r.set1 k).alloc (.cells #[.int .i64 0, .int .i64 0, .int .i64 0, .int .i64 0, .string ⟨#[]⟩] 222))
 have HB1 : Hid (SB ((w.setCell ⟨b, 1, none⟩ (.int .i64 ((k : Int) + 1))).alloc (.cells #[.int .i64 0, .int .i64 0, .int .i64 0, .int .i64 0, .string ⟨#[]⟩] 222)) w.heap.size 0 0 0 0 ⟨#[]⟩) := by
  have h := SB.new (w.setCell ⟨b, 1, none⟩ (.int .i64 ((k : Int) + 1))) 0 0 0 0 ⟨#[]⟩
  rwa [show (w.setCell ⟨b, 1, none⟩ (.int .i64 ((k : Int) + 1))).heap.size = w.heap.size from by simp] at h
 have HG1 := Lib.hid ((grown_set w b 1 (.int .i64 ((k : Int) + 1))).trans (World.grownBy_alloc _ (.cells #[.int .i64 0, .int .i64 0, .int .i64 0, .int .i64 0, .string ⟨#[]⟩] 222) (some b)))
 have HN0 := hide (fun W (h : Rd W b s (k + 1)) => number0 b s (k + 1) W h (by omega) hs)
 rw [hN] at HN0
 obtain ⟨hto1, hto2, hlow⟩ := numP_len hN
 have hto3 : to ≤ s.size := hto2 (by omega)
 clear r hN hto2
 have tok1 : True := trivial
 have tok2 : True := trivial
 have t1 : ((s[to].toNat : Int) == 44) = true := by simp; omega
 have hj2 : to < j ∧ j ≤ to + 1 := by omega
 have HJ := Lib.hid hj
 clear h44 hj
 go_enter Tryz.func211, Tryz.ntmps211
 go_wp2_with (first
  | (go_at_call 243; have _t := tok1; (with_reducible refine (HN0.out _ HR1.out).mono ?_); rintro e w1 ⟨rfl, hr0, hg0⟩; have hr := Lib.hid hr0; have hg := Lib.hid hg0; clear hr0 hg0 tok1)
  | (go_at_call 244; have _t := tok2; (with_reducible refine (next_in b s to _ hr.out hlt hs).mono ?_); rintro e w2 ⟨rfl, hw2⟩; have HW : Hid (Drawn w1 w2) := hw2; clear hw2 tok2; have HRB : Hid (Rd (w2.setCell ⟨b, 1, none⟩ (.int .i64 ((to : Int) + 1))) b s j) := (by have h := (HW.out.rd hr.out).set1 to; rwa [← HJ.out] at h); have e1 := (HW.out.rd hr.out).c1; have e2 := (HW.out.rd hr.out).free 1)
  | (go_at_call 244; refine (next_end b s j _ HRB.out hle hs (by omega)).mono ?_; rintro e w4 ⟨rfl, n, rfl⟩))
 exact ⟨rfl, rfl, only_drewN ((HW.out.grown (HG1.out.trans hg.out)).trans (grown_set _ b 1 (.int .i64 ((to : Int) + 1)))) n⟩
theorem br_more (b : Nat) (s : ByteArray) (k : Nat) (w : World) (r : Rd w b s k) (hk : k < s.size) (hs : s.size ≤ 100000) {low to : Nat} (hN : numP (s.data.toList.drop (k + 1)) (k + 1) 0 = .ok low to) (hlt : to < s.size) (h44 : s[to].toNat = 44) {j : Nat} (hj : j = to + 1) (hlt2 : j < s.size) (h125 : s[j].toNat = 125) :
  Calls Tryz.prog 211 #[.pointer (some ⟨b, 0, none⟩)] w (After b s w cntV (.ok (low, -1) (j + 1))) := by
 have c1 := r.c1
 have cf := r.free 1
 have hbw := r.lt
 have hne : Hid (some w.heap.size ≠ some b) := by show _ ≠ _; intro e; injection e; omega
 have HR1 := Lib.hid ((r.set1 k).alloc (.cells #[.int .i64 0, .int .i64 0, .int .i64 0, .int .i64 0, .string ⟨#[]⟩] 222))
 have HB1 : Hid (SB ((w.setCell ⟨b, 1, none⟩ (.int .i64 ((k : Int) + 1))).alloc (.cells #[.int .i64 0, .int .i64 0, .int .i64 0, .int .i64 0, .string ⟨#[]⟩] 222)) w.heap.size 0 0 0 0 ⟨#[]⟩) := by
  have h := SB.new (w.setCell ⟨b, 1, none⟩ (.int .i64 ((k : Int) + 1))) 0 0 0 0 ⟨#[]⟩
  rwa [show (w.setCell ⟨b, 1, none⟩ (.int .i64 ((k : Int) + 1))).heap.size = w.heap.size from by simp] at h
 have HG1 := Lib.hid ((grown_set w b 1 (.int .i64 ((k : Int) + 1))).trans (World.grownBy_alloc _ (.cells #[.int .i64 0, .int .i64 0, .int .i64 0, .int .i64 0, .string ⟨#[]⟩] 222) (some b)))
 have HN0 := hide (fun W (h : Rd W b s (k + 1)) => number0 b s (k + 1) W h (by omega) hs)
 rw [hN] at HN0
 obtain ⟨hto1, hto2, hlow⟩ := numP_len hN
 have hto3 : to ≤ s.size := hto2 (by omega)
 clear r hN hto2
 have tok1 : True := trivial
 have tok2 : True := trivial
 have t1 : ((s[to].toNat : Int) == 44) = true := by simp; omega
 have hj2 : to < j ∧ j ≤ to + 1 := by omega
 have HJ := Lib.hid hj
 clear h44 hj
 have t2 : ((s[j].toNat : Int) == 125) = true := by simp; omega
 have t3 : ((s[j].toNat : Int) != 125) = false := by simp; omega
 clear h125
 go_enter Tryz.func211, Tryz.ntmps211
 go_wp2_with (first
  | (go_at_call 243; have _t := tok1; (with_reducible refine (HN0.out _ HR1.out).mono ?_); rintro e w1 ⟨rfl, hr0, hg0⟩; have hr := Lib.hid hr0; have hg := Lib.hid hg0; clear hr0 hg0 tok1)
  | (go_at_call 244; have _t := tok2; (with_reducible refine (next_in b s to _ hr.out hlt hs).mono ?_); rintro e w2 ⟨rfl, hw2⟩; have HW : Hid (Drawn w1 w2) := hw2; clear hw2 tok2; have HRB : Hid (Rd (w2.setCell ⟨b, 1, none⟩ (.int .i64 ((to : Int) + 1))) b s j) := (by have h := (HW.out.rd hr.out).set1 to; rwa [← HJ.out] at h); have e1 := (HW.out.rd hr.out).c1; have e2 := (HW.out.rd hr.out).free 1)
  | (go_at_call 244; (with_reducible refine (next_in b s j _ HRB.out hlt2 hs).mono ?_); rintro e w4 ⟨rfl, hw4⟩; have HW4 : Hid (Drawn (w2.setCell ⟨b, 1, none⟩ (.int .i64 ((to : Int) + 1))) w4) := hw4; clear hw4))
 have HS := Lib.hid (HW4.out.rd HRB.out)
 have HGS := Lib.hid (HW4.out.grown ((HW.out.grown (HG1.out.trans hg.out)).trans (grown_set _ b 1 (.int .i64 ((to : Int) + 1)))))
 have HBS := Lib.hid (HW4.out.sb (SB.kept (HW.out.sb (HB1.out.kept hg.out hne.out)) (grown_set _ b 1 (.int .i64 ((to : Int) + 1))) hne.out))
 have HC := hide (fun n => next_in b s j (w4.drewN n) (HS.out.drewN n) (by omega) hs)
 have HM := hide (fun n => must_ok (j : Int) 2 b (w4.drewN n))
 have d1 := HS.out.c1
 have d2 := HS.out.free 1
 obtain ⟨b0, b1, b2, b3, b4⟩ := HBS.out.cells
 have f0 := HBS.out.free 0
 have f1 := HBS.out.free 1
 have f2 := HBS.out.free 2
 have f3 := HBS.out.free 3
 have f4 := HBS.out.free 4
 go_quiet ((first | (go_at_call 244; exact Calls.quiet_of (HC.out _)) | (go_at_call 165; exact Calls.quiet_of_same (HM.out _))))
 go_wp2_with fail
 have HSx := Lib.hid ((HS.out.drewN nq).set1 j)
 have HGx := Lib.hid ((only_drewN HGS.out nq).trans (grown_set _ b 1 (.int .i64 ((j : Int) + 1))))
 have HBx : Hid (SB ((w4.drewN nq).setCell ⟨b, 1, none⟩ (.int .i64 ((j : Int) + 1))) w.heap.size 0 0 0 0 ⟨#[]⟩) := SB.kept (W := w4.drewN nq) HBS.out (grown_set _ b 1 (.int .i64 ((j : Int) + 1))) hne.out
 have HB5 := Lib.hid (HBx.out.st5 5 0 (low : Int) (-1) ⟨#[]⟩)
 have HR5 := Lib.hid (HSx.out.kept (st5_grown _ w.heap.size 5 0 (low : Int) (-1) ⟨#[]⟩) (Ne.symm hne.out))
 have HG5 := Lib.hid (grown_new HGx.out (st5_grown _ w.heap.size 5 0 (low : Int) (-1) ⟨#[]⟩) (Nat.le_refl _))
 clear b0 b1 b2 b3 b4 f0 f1 f2 f3 f4 d1 d2
 change bodyPost _ _ _ _ _ (st5 ((w4.drewN nq).setCell ⟨b, 1, none⟩ (.int .i64 ((j : Int) + 1))) w.heap.size 5 0 (low : Int) (-1) ⟨#[]⟩)
 generalize st5 ((w4.drewN nq).setCell ⟨b, 1, none⟩ (.int .i64 ((j : Int) + 1))) w.heap.size 5 0 (low : Int) (-1) ⟨#[]⟩ = W9 at HB5 HR5 HG5 ⊢
 obtain ⟨b0, b1, b2, b3, b4⟩ := HB5.out.cells
 refine bodyPost_ret (v := cntV (low, (-1))) (by simp [results, Tryz.results211, go_sem, b0, b1, b2, b3, b4]) rfl ⟨rfl, HR5.out, HG5.out⟩
theorem br_high_bad (b : Nat) (s : ByteArray) (k : Nat) (w : World) (r : Rd w b s k) (hk : k < s.size) (hs : s.size ≤ 100000) {low to : Nat} (hN : numP (s.data.toList.drop (k + 1)) (k + 1) 0 = .ok low to) (hlt : to < s.size) (h44 : s[to].toNat = 44) {j : Nat} (hj : j = to + 1) (hlt2 : j < s.size) (h125 : s[j].toNat ≠ 125) {p : Nat} {c : Int} (hN2 : numP (s.data.toList.drop j) j (max low 1) = .bad p c) :
  Calls Tryz.prog 211 #[.pointer (some ⟨b, 0, none⟩)] w (After b s w cntV (.bad p c)) := by
 have c1 := r.c1
 have cf := r.free 1
 have hbw := r.lt
 have hne : Hid (some w.heap.size ≠ some b) := by show _ ≠ _; intro e; injection e; omega
 have HR1 := Lib.hid ((r.set1 k).alloc (.cells #[.int .i64 0, .int .i64 0, .int .i64 0, .int .i64 0, .string ⟨#[]⟩] 222))
 have HB1 : Hid (SB ((w.setCell ⟨b, 1, none⟩ (.int .i64 ((k : Int) + 1))).alloc (.cells #[.int .i64 0, .int .i64 0, .int .i64 0, .int .i64 0, .string ⟨#[]⟩] 222)) w.heap.size 0 0 0 0 ⟨#[]⟩) := by
  have h := SB.new (w.setCell ⟨b, 1, none⟩ (.int .i64 ((k : Int) + 1))) 0 0 0 0 ⟨#[]⟩
  rwa [show (w.setCell ⟨b, 1, none⟩ (.int .i64 ((k : Int) + 1))).heap.size = w.heap.size from by simp] at h
 have HG1 := Lib.hid ((grown_set w b 1 (.int .i64 ((k : Int) + 1))).trans (World.grownBy_alloc _ (.cells #[.int .i64 0, .int .i64 0, .int .i64 0, .int .i64 0, .string ⟨#[]⟩] 222) (some b)))
 have HN0 := hide (fun W (h : Rd W b s (k + 1)) => number0 b s (k + 1) W h (by omega) hs)
 rw [hN] at HN0
 obtain ⟨hto1, hto2, hlow⟩ := numP_len hN
 have hto3 : to ≤ s.size := hto2 (by omega)
 clear r hN hto2
 have tok1 : True := trivial
 have tok2 : True := trivial
 have t1 : ((s[to].toNat : Int) == 44) = true := by simp; omega
 have hj2 : to < j ∧ j ≤ to + 1 := by omega
 have HJ := Lib.hid hj
 clear h44 hj
 have HN2 := hide (fun W (h : Rd W b s j) => number_max b s j low W h (by omega) hs hlow)
 rw [hN2] at HN2
 have t2 : ((s[j].toNat : Int) == 125) = false := by simp; omega
 have t3 : ((s[j].toNat : Int) != 125) = true := by simp; omega
 clear h125 hN2
 go_enter Tryz.func211, Tryz.ntmps211
 go_wp2_with (first
  | (go_at_call 243; have _t := tok1; (with_reducible refine (HN0.out _ HR1.out).mono ?_); rintro e w1 ⟨rfl, hr0, hg0⟩; have hr := Lib.hid hr0; have hg := Lib.hid hg0; clear hr0 hg0 tok1)
  | (go_at_call 244; have _t := tok2; (with_reducible refine (next_in b s to _ hr.out hlt hs).mono ?_); rintro e w2 ⟨rfl, hw2⟩; have HW : Hid (Drawn w1 w2) := hw2; clear hw2 tok2; have HRB : Hid (Rd (w2.setCell ⟨b, 1, none⟩ (.int .i64 ((to : Int) + 1))) b s j) := (by have h := (HW.out.rd hr.out).set1 to; rwa [← HJ.out] at h); have e1 := (HW.out.rd hr.out).c1; have e2 := (HW.out.rd hr.out).free 1)
  | (go_at_call 244; (with_reducible refine (next_in b s j _ HRB.out hlt2 hs).mono ?_); rintro e w4 ⟨rfl, hw4⟩; have HW4 : Hid (Drawn (w2.setCell ⟨b, 1, none⟩ (.int .i64 ((to : Int) + 1))) w4) := hw4; clear hw4; have HR4 := Lib.hid (HW4.out.rd HRB.out))
  | (go_at_call 243; (with_reducible refine (HN2.out _ HR4.out).mono ?_); rintro e w5 ⟨rfl, hg5⟩))
 all_goals exact ⟨rfl, rfl, (HW4.out.grown ((HW.out.grown (HG1.out.trans hg.out)).trans (grown_set _ b 1 (.int .i64 ((to : Int) + 1))))).trans hg5⟩
theorem br_high_end (b : Nat) (s : ByteArray) (k : Nat) (w : World) (r : Rd w b s k) (hk : k < s.size) (hs : s.size ≤ 100000) {low to : Nat} (hN : numP (s.data.toList.drop (k + 1)) (k + 1) 0 = .ok low to) (hlt : to < s.size) (h44 : s[to].toNat = 44) {j : Nat} (hj : j = to + 1) (hlt2 : j < s.size) (h125 : s[j].toNat ≠ 125) {high to2 : Nat} (hN2 : numP (s.data.toList.drop j) j (max low 1) = .ok high to2) (hle : s.size ≤ to2) :
  Calls Tryz.prog 211 #[.pointer (some ⟨b, 0, none⟩)] w (After b s w cntV (.bad to2 5)) := by
 have c1 := r.c1
 have cf := r.free 1
 have hbw := r.lt
 have hne : Hid (some w.heap.size ≠ some b) := by show _ ≠ _; intro e; injection e; omega
 have HR1 := Lib.hid ((r.set1 k).alloc (.cells #[.int .i64 0, .int .i64 0, .int .i64 0, .int .i64 0, .string ⟨#[]⟩] 222))
 have HB1 : Hid (SB ((w.setCell ⟨b, 1, none⟩ (.int .i64 ((k : Int) + 1))).alloc (.cells #[.int .i64 0, .int .i64 0, .int .i64 0, .int .i64 0, .string ⟨#[]⟩] 222)) w.heap.size 0 0 0 0 ⟨#[]⟩) := by
  have h := SB.new (w.setCell ⟨b, 1, none⟩ (.int .i64 ((k : Int) + 1))) 0 0 0 0 ⟨#[]⟩
  rwa [show (w.setCell ⟨b, 1, none⟩ (.int .i64 ((k : Int) + 1))).heap.size = w.heap.size from by simp] at h
 have HG1 := Lib.hid ((grown_set w b 1 (.int .i64 ((k : Int) + 1))).trans (World.grownBy_alloc _ (.cells #[.int .i64 0, .int .i64 0, .int .i64 0, .int .i64 0, .string ⟨#[]⟩] 222) (some b)))
 have HN0 := hide (fun W (h : Rd W b s (k + 1)) => number0 b s (k + 1) W h (by omega) hs)
 rw [hN] at HN0
 obtain ⟨hto1, hto2, hlow⟩ := numP_len hN
 have hto3 : to ≤ s.size := hto2 (by omega)
 clear r hN hto2
 have tok1 : True := trivial
 have tok2 : True := trivial
 have t1 : ((s[to].toNat : Int) == 44) = true := by simp; omega
 have hj2 : to < j ∧ j ≤ to + 1 := by omega
 have HJ := Lib.hid hj
 clear h44 hj
 have HN2 := hide (fun W (h : Rd W b s j) => number_max b s j low W h (by omega) hs hlow)
 rw [hN2] at HN2
 have t2 : ((s[j].toNat : Int) == 125) = false := by simp; omega
 have t3 : ((s[j].toNat : Int) != 125) = true := by simp; omega
 obtain ⟨hto4, hto5, hhigh⟩ := numP_len hN2
 have hto6 : to2 ≤ s.size := hto5 (by omega)
 clear h125 hN2 hto5
 go_enter Tryz.func211, Tryz.ntmps211
 go_wp2_with (first
  | (go_at_call 243; have _t := tok1; (with_reducible refine (HN0.out _ HR1.out).mono ?_); rintro e w1 ⟨rfl, hr0, hg0⟩; have hr := Lib.hid hr0; have hg := Lib.hid hg0; clear hr0 hg0 tok1)
  | (go_at_call 244; have _t := tok2; (with_reducible refine (next_in b s to _ hr.out hlt hs).mono ?_); rintro e w2 ⟨rfl, hw2⟩; have HW : Hid (Drawn w1 w2) := hw2; clear hw2 tok2; have HRB : Hid (Rd (w2.setCell ⟨b, 1, none⟩ (.int .i64 ((to : Int) + 1))) b s j) := (by have h := (HW.out.rd hr.out).set1 to; rwa [← HJ.out] at h); have e1 := (HW.out.rd hr.out).c1; have e2 := (HW.out.rd hr.out).free 1)
  | (go_at_call 244; (with_reducible refine (next_in b s j _ HRB.out hlt2 hs).mono ?_); rintro e w4 ⟨rfl, hw4⟩; have HW4 : Hid (Drawn (w2.setCell ⟨b, 1, none⟩ (.int .i64 ((to : Int) + 1))) w4) := hw4; clear hw4; have HR4 := Lib.hid (HW4.out.rd HRB.out))
  | (go_at_call 243; (with_reducible refine (HN2.out _ HR4.out).mono ?_); rintro e w5 ⟨rfl, hr5, hg5⟩; have HR5 := Lib.hid hr5; have HG5 := Lib.hid hg5; clear hr5 hg5))
 all_goals
  have HS := Lib.hid (HR5.out)
  have HGS := Lib.hid ((HW4.out.grown ((HW.out.grown (HG1.out.trans hg.out)).trans (grown_set _ b 1 (.int .i64 ((to : Int) + 1))))).trans HG5.out)
  have HC := hide (fun n => next_end b s to2 (w5.drewN n) (HS.out.drewN n) hle hs (by omega))
  have d1 := HS.out.c1
  refine wp_region_dies_at (ch := chain (to2 : Int) 5) 2 4 4 2 _ (by kernel_rfl) rfl (by simp) (by kernel_rfl) (by kernel_rfl) ?_ ?_
  ·simp only [List.take_succ_cons, List.take_zero, List.drop_succ_cons, List.drop_zero, List.cons_append, List.nil_append]
   repeat (quiet_step (fail))
   refine wpQuiet_nil ⟨rfl, dies_end 244 #[.pointer (some ⟨b, 0, none⟩)] (fun n => by go_simp) (fun n => ?_)⟩
   exact HC.out n
  ·intro a' n hd
   exact ⟨hd, ⟨rfl, only_drewN HGS.out n⟩⟩
theorem br_high_ok (b : Nat) (s : ByteArray) (k : Nat) (w : World) (r : Rd w b s k) (hk : k < s.size) (hs : s.size ≤ 100000) {low to : Nat} (hN : numP (s.data.toList.drop (k + 1)) (k + 1) 0 = .ok low to) (hlt : to < s.size) (h44 : s[to].toNat = 44) {j : Nat} (hj : j = to + 1) (hlt2 : j < s.size) (h125 : s[j].toNat ≠ 125) {high to2 : Nat} (hN2 : numP (s.data.toList.drop j) j (max low 1) = .ok high to2) (hlt3 : to2 < s.size) (h6 : s[to2].toNat = 125) :
  Calls Tryz.prog 211 #[.pointer (some ⟨b, 0, none⟩)] w (After b s w cntV (.ok (low, (high : Int)) (to2 + 1))) := by
 have c1 := r.c1
 have cf := r.free 1
 have hbw := r.lt
 have hne : Hid (some w.heap.size ≠ some b) := by show _ ≠ _; intro e; injection e; omega
 have HR1 := Lib.hid ((r.set1 k).alloc (.cells #[.int .i64 0, .int .i64 0, .int .i64 0, .int .i64 0, .string ⟨#[]⟩] 222))
 have HB1 : Hid (SB ((w.setCell ⟨b, 1, none⟩ (.int .i64 ((k : Int) + 1))).alloc (.cells #[.int .i64 0, .int .i64 0, .int .i64 0, .int .i64 0, .string ⟨#[]⟩] 222)) w.heap.size 0 0 0 0 ⟨#[]⟩) := by
  have h := SB.new (w.setCell ⟨b, 1, none⟩ (.int .i64 ((k : Int) + 1))) 0 0 0 0 ⟨#[]⟩
  rwa [show (w.setCell ⟨b, 1, none⟩ (.int .i64 ((k : Int) + 1))).heap.size = w.heap.size from by simp] at h
 have HG1 := Lib.hid ((grown_set w b 1 (.int .i64 ((k : Int) + 1))).trans (World.grownBy_alloc _ (.cells #[.int .i64 0, .int .i64 0, .int .i64 0, .int .i64 0, .string ⟨#[]⟩] 222) (some b)))
 have HN0 := hide (fun W (h : Rd W b s (k + 1)) => number0 b s (k + 1) W h (by omega) hs)
 rw [hN] at HN0
 obtain ⟨hto1, hto2, hlow⟩ := numP_len hN
 have hto3 : to ≤ s.size := hto2 (by omega)
 clear r hN hto2
 have tok1 : True := trivial
 have tok2 : True := trivial
 have t1 : ((s[to].toNat : Int) == 44) = true := by simp; omega
 have hj2 : to < j ∧ j ≤ to + 1 := by omega
 have HJ := Lib.hid hj
 clear h44 hj
 have HN2 := hide (fun W (h : Rd W b s j) => number_max b s j low W h (by omega) hs hlow)
 rw [hN2] at HN2
 have t2 : ((s[j].toNat : Int) == 125) = false := by simp; omega
 have t3 : ((s[j].toNat : Int) != 125) = true := by simp; omega
 obtain ⟨hto4, hto5, hhigh⟩ := numP_len hN2
 have hto6 : to2 ≤ s.size := hto5 (by omega)
 clear h125 hN2 hto5
 have t5 : ((s[to2].toNat : Int) == 125) = true := by simp; omega
 clear h6
 go_enter Tryz.func211, Tryz.ntmps211
 go_wp2_with (first
  | (go_at_call 243; have _t := tok1; (with_reducible refine (HN0.out _ HR1.out).mono ?_); rintro e w1 ⟨rfl, hr0, hg0⟩; have hr := Lib.hid hr0; have hg := Lib.hid hg0; clear hr0 hg0 tok1)
  | (go_at_call 244; have _t := tok2; (with_reducible refine (next_in b s to _ hr.out hlt hs).mono ?_); rintro e w2 ⟨rfl, hw2⟩; have HW : Hid (Drawn w1 w2) := hw2; clear hw2 tok2; have HRB : Hid (Rd (w2.setCell ⟨b, 1, none⟩ (.int .i64 ((to : Int) + 1))) b s j) := (by have h := (HW.out.rd hr.out).set1 to; rwa [← HJ.out] at h); have e1 := (HW.out.rd hr.out).c1; have e2 := (HW.out.rd hr.out).free 1)
  | (go_at_call 244; (with_reducible refine (next_in b s j _ HRB.out hlt2 hs).mono ?_); rintro e w4 ⟨rfl, hw4⟩; have HW4 : Hid (Drawn (w2.setCell ⟨b, 1, none⟩ (.int .i64 ((to : Int) + 1))) w4) := hw4; clear hw4; have HR4 := Lib.hid (HW4.out.rd HRB.out))
  | (go_at_call 243; (with_reducible refine (HN2.out _ HR4.out).mono ?_); rintro e w5 ⟨rfl, hr5, hg5⟩; have HR5 := Lib.hid hr5; have HG5 := Lib.hid hg5; clear hr5 hg5))
 all_goals
  have HS := Lib.hid (HR5.out)
  have HGS := Lib.hid ((HW4.out.grown ((HW.out.grown (HG1.out.trans hg.out)).trans (grown_set _ b 1 (.int .i64 ((to : Int) + 1))))).trans HG5.out)
  have HBS := Lib.hid ((HW4.out.sb (SB.kept (HW.out.sb (HB1.out.kept hg.out hne.out)) (grown_set _ b 1 (.int .i64 ((to : Int) + 1))) hne.out)).kept HG5.out hne.out)
  have HC := hide (fun n => next_in b s to2 (w5.drewN n) (HS.out.drewN n) (by omega) hs)
  have HM := hide (fun n => must_ok (to2 : Int) 2 b (w5.drewN n))
  have d1 := HS.out.c1
  have d2 := HS.out.free 1
  obtain ⟨b0, b1, b2, b3, b4⟩ := HBS.out.cells
  have f0 := HBS.out.free 0
  have f1 := HBS.out.free 1
  have f2 := HBS.out.free 2
  have f3 := HBS.out.free 3
  have f4 := HBS.out.free 4
  go_quiet ((first | (go_at_call 244; exact Calls.quiet_of (HC.out _)) | (go_at_call 165; exact Calls.quiet_of_same (HM.out _))))
  go_wp2_with fail
  have HSx := Lib.hid ((HS.out.drewN nq).set1 to2)
  have HGx := Lib.hid ((only_drewN HGS.out nq).trans (grown_set _ b 1 (.int .i64 ((to2 : Int) + 1))))
  have HBx : Hid (SB ((w5.drewN nq).setCell ⟨b, 1, none⟩ (.int .i64 ((to2 : Int) + 1))) w.heap.size 0 0 0 0 ⟨#[]⟩) := SB.kept (W := w5.drewN nq) HBS.out (grown_set _ b 1 (.int .i64 ((to2 : Int) + 1))) hne.out
  have HB5 := Lib.hid (HBx.out.st5 5 0 (low : Int) (high : Int) ⟨#[]⟩)
  have HRf := Lib.hid (HSx.out.kept (st5_grown _ w.heap.size 5 0 (low : Int) (high : Int) ⟨#[]⟩) (Ne.symm hne.out))
  have HGf := Lib.hid (grown_new HGx.out (st5_grown _ w.heap.size 5 0 (low : Int) (high : Int) ⟨#[]⟩) (Nat.le_refl _))
  clear b0 b1 b2 b3 b4 f0 f1 f2 f3 f4 d1 d2
  change bodyPost _ _ _ _ _ (st5 ((w5.drewN nq).setCell ⟨b, 1, none⟩ (.int .i64 ((to2 : Int) + 1))) w.heap.size 5 0 (low : Int) (high : Int) ⟨#[]⟩)
  generalize st5 ((w5.drewN nq).setCell ⟨b, 1, none⟩ (.int .i64 ((to2 : Int) + 1))) w.heap.size 5 0 (low : Int) (high : Int) ⟨#[]⟩ = W9 at HB5 HRf HGf ⊢
  obtain ⟨b0, b1, b2, b3, b4⟩ := HB5.out.cells
  refine bodyPost_ret (v := cntV (low, (high : Int))) (by simp [results, Tryz.results211, go_sem, b0, b1, b2, b3, b4]) rfl ⟨rfl, HRf.out, HGf.out⟩
theorem br_high_other (b : Nat) (s : ByteArray) (k : Nat) (w : World) (r : Rd w b s k) (hk : k < s.size) (hs : s.size ≤ 100000) {low to : Nat} (hN : numP (s.data.toList.drop (k + 1)) (k + 1) 0 = .ok low to) (hlt : to < s.size) (h44 : s[to].toNat = 44) {j : Nat} (hj : j = to + 1) (hlt2 : j < s.size) (h125 : s[j].toNat ≠ 125) {high to2 : Nat} (hN2 : numP (s.data.toList.drop j) j (max low 1) = .ok high to2) (hlt3 : to2 < s.size) (h6 : s[to2].toNat ≠ 125) :
  Calls Tryz.prog 211 #[.pointer (some ⟨b, 0, none⟩)] w (After b s w cntV (.bad to2 2)) := by
 have c1 := r.c1
 have cf := r.free 1
 have hbw := r.lt
 have hne : Hid (some w.heap.size ≠ some b) := by show _ ≠ _; intro e; injection e; omega
 have HR1 := Lib.hid ((r.set1 k).alloc (.cells #[.int .i64 0, .int .i64 0, .int .i64 0, .int .i64 0, .string ⟨#[]⟩] 222))
 have HB1 : Hid (SB ((w.setCell ⟨b, 1, none⟩ (.int .i64 ((k : Int) + 1))).alloc (.cells #[.int .i64 0, .int .i64 0, .int .i64 0, .int .i64 0, .string ⟨#[]⟩] 222)) w.heap.size 0 0 0 0 ⟨#[]⟩) := by
  have h := SB.new (w.setCell ⟨b, 1, none⟩ (.int .i64 ((k : Int) + 1))) 0 0 0 0 ⟨#[]⟩
  rwa [show (w.setCell ⟨b, 1, none⟩ (.int .i64 ((k : Int) + 1))).heap.size = w.heap.size from by simp] at h
 have HG1 := Lib.hid ((grown_set w b 1 (.int .i64 ((k : Int) + 1))).trans (World.grownBy_alloc _ (.cells #[.int .i64 0, .int .i64 0, .int .i64 0, .int .i64 0, .string ⟨#[]⟩] 222) (some b)))
 have HN0 := hide (fun W (h : Rd W b s (k + 1)) => number0 b s (k + 1) W h (by omega) hs)
 rw [hN] at HN0
 obtain ⟨hto1, hto2, hlow⟩ := numP_len hN
 have hto3 : to ≤ s.size := hto2 (by omega)
 clear r hN hto2
 have tok1 : True := trivial
 have tok2 : True := trivial
 have t1 : ((s[to].toNat : Int) == 44) = true := by simp; omega
 have hj2 : to < j ∧ j ≤ to + 1 := by omega
 have HJ := Lib.hid hj
 clear h44 hj
 have HN2 := hide (fun W (h : Rd W b s j) => number_max b s j low W h (by omega) hs hlow)
 rw [hN2] at HN2
 have t2 : ((s[j].toNat : Int) == 125) = false := by simp; omega
 have t3 : ((s[j].toNat : Int) != 125) = true := by simp; omega
 obtain ⟨hto4, hto5, hhigh⟩ := numP_len hN2
 have hto6 : to2 ≤ s.size := hto5 (by omega)
 clear h125 hN2 hto5
 have t5 : ((s[to2].toNat : Int) == 125) = false := by simp; omega
 clear h6
 go_enter Tryz.func211, Tryz.ntmps211
 go_wp2_with (first
  | (go_at_call 243; have _t := tok1; (with_reducible refine (HN0.out _ HR1.out).mono ?_); rintro e w1 ⟨rfl, hr0, hg0⟩; have hr := Lib.hid hr0; have hg := Lib.hid hg0; clear hr0 hg0 tok1)
  | (go_at_call 244; have _t := tok2; (with_reducible refine (next_in b s to _ hr.out hlt hs).mono ?_); rintro e w2 ⟨rfl, hw2⟩; have HW : Hid (Drawn w1 w2) := hw2; clear hw2 tok2; have HRB : Hid (Rd (w2.setCell ⟨b, 1, none⟩ (.int .i64 ((to : Int) + 1))) b s j) := (by have h := (HW.out.rd hr.out).set1 to; rwa [← HJ.out] at h); have e1 := (HW.out.rd hr.out).c1; have e2 := (HW.out.rd hr.out).free 1)
  | (go_at_call 244; (with_reducible refine (next_in b s j _ HRB.out hlt2 hs).mono ?_); rintro e w4 ⟨rfl, hw4⟩; have HW4 : Hid (Drawn (w2.setCell ⟨b, 1, none⟩ (.int .i64 ((to : Int) + 1))) w4) := hw4; clear hw4; have HR4 := Lib.hid (HW4.out.rd HRB.out))
  | (go_at_call 243; (with_reducible refine (HN2.out _ HR4.out).mono ?_); rintro e w5 ⟨rfl, hr5, hg5⟩; have HR5 := Lib.hid hr5; have HG5 := Lib.hid hg5; clear hr5 hg5))
 all_goals
  have HS := Lib.hid (HR5.out)
  have HGS := Lib.hid ((HW4.out.grown ((HW.out.grown (HG1.out.trans hg.out)).trans (grown_set _ b 1 (.int .i64 ((to : Int) + 1))))).trans HG5.out)
  have HC := hide (fun n => next_in b s to2 (w5.drewN n) (HS.out.drewN n) (by omega) hs)
  have HM := hide (fun n => must_bad (to2 : Int) 2 b (w5.drewN n))
  have d1 := HS.out.c1
  refine wp_region_dies_at (ch := chain (to2 : Int) 2) 8 0 0 8 _ (by kernel_rfl) rfl (by simp) (by kernel_rfl) (by kernel_rfl) ?_ ?_
  ·simp only [List.take_succ_cons, List.take_zero, List.drop_zero, List.append_nil]
   repeat (quiet_step ((go_at_call 244; exact Calls.quiet_of (HC.out _))))
   refine wpQuiet_nil ⟨rfl, dies_end 165 #[.pointer (some ⟨b, 0, none⟩), .bool false, .int .i64 (to2 : Int), .int .i64 2] (fun n => by go_simp) (fun n => ?_)⟩
   exact (HM.out n).mono fun e w' ⟨he, hw⟩ => ⟨he, 0, hw⟩
  ·intro a' n hd
   exact ⟨hd, ⟨rfl, only_drewN HGS.out n⟩⟩
theorem braces_any (b : Nat) (s : ByteArray) (k : Nat) (w : World) (r : Rd w b s k) (hk : k < s.size) (hs : s.size ≤ 100000) :
  Calls Tryz.prog 211 #[.pointer (some ⟨b, 0, none⟩)] w (After b s w cntV (cnt (s.data.toList.drop (k + 1)) (k + 1))) := by
 cases hN : numP (s.data.toList.drop (k + 1)) (k + 1) 0 with
 | bad p c => rw [cnt, hN]; exact br_num b s k w r hk hs hN
 | ok low to =>
  rw [cnt_at hN]
  by_cases hlt : to < s.size
  ·rw [drop_cons s to hlt]
   simp only
   by_cases h44 : s[to].toNat = 44
   ·rw [if_pos h44]
    by_cases hlt2 : to + 1 < s.size
    ·by_cases h125 : s[to + 1].toNat = 125
     ·have e : highP low (s.data.toList.drop (to + 1)) (to + 1) = .ok (low, -1) (to + 1 + 1) := by
       rw [drop_cons s (to + 1) hlt2]; simp only [highP, if_pos h125]
      rw [e]
      exact br_more b s k w r hk hs hN hlt h44 rfl hlt2 h125
     ·rw [high_at hlt2 h125]
      cases hN2 : numP (s.data.toList.drop (to + 1)) (to + 1) (max low 1) with
      | bad p c => exact br_high_bad b s k w r hk hs hN hlt h44 rfl hlt2 h125 hN2
      | ok high to2 =>
       simp only
       by_cases hlt3 : to2 < s.size
       ·rw [drop_cons s to2 hlt3, shutP]
        by_cases h6 : s[to2].toNat = 125
        ·simp only [if_pos h6]
         exact br_high_ok b s k w r hk hs hN hlt h44 rfl hlt2 h125 hN2 hlt3 h6
        ·simp only [if_neg h6]
         exact br_high_other b s k w r hk hs hN hlt h44 rfl hlt2 h125 hN2 hlt3 h6
       ·rw [drop_end s to2 (by omega)]
        exact br_high_end b s k w r hk hs hN hlt h44 rfl hlt2 h125 hN2 (by omega)
    ·rw [drop_end s (to + 1) (by omega)]
     exact br_comma_end b s k w r hk hs hN hlt h44 rfl (by omega)
   ·rw [if_neg h44]
    by_cases h125 : s[to].toNat = 125
    ·rw [if_pos h125]
     by_cases hz : low = 0
     ·rw [if_pos hz]; exact br_zero b s k w r hk hs hN hlt h125 hz
     ·rw [if_neg hz]; exact br_same b s k w r hk hs hN hlt h125 hz
    ·rw [if_neg h125]; exact br_other b s k w r hk hs hN hlt h44 h125
  ·rw [drop_end s to (by omega)]
   exact br_end b s k w r hk hs hN (by omega)
end Go.Proofs.YtnbchikiiipejaaGreatDoor.Lx
