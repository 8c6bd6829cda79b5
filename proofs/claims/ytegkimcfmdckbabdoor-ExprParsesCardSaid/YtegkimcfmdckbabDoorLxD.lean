/- Walks of the lexer: a number. -/
import Derived.Test.YtegkimcfmdckbabDoorLxC
namespace Go.Proofs.YtegkimcfmdckbabDoor.Lx
open Go.RowKit Mem
set_option linter.unusedVariables false

theorem int_eq {a b : Int} (h : a = b) : Value.int .i64 a = .int .i64 b := by rw [h]
theorem chain_at {a b c : Int} (h : a = b) : Ending.panicked (chain a c) = Ending.panicked (chain b c) := by rw [h]
/-- a number of which i digits have been read, that make n -/
def numC (i n : Nat) : List UInt8 → Nat → Res Nat
  | [], j => .ok n j
  | c :: u, j => if dgB c then (if i = 2 ∨ (0 < i ∧ n = 0) then .bad j 2 else numC (i + 1) (n * 10 + (c.toNat - 48)) u (j + 1)) else .ok n j
theorem num_eq (c : UInt8) (u : List UInt8) (k : Nat) (h : dgB c = true) : num (c :: u) k = numC 0 0 (c :: u) k := by
  have hc : 48 ≤ c.toNat := by simp only [dgB, Bool.and_eq_true, decide_eq_true_eq] at h; exact h.1
  have e0 : numC 0 0 (c :: u) k = numC 1 (c.toNat - 48) u (k + 1) := by
    rw [numC, if_pos h, if_neg (by omega)]; simp
  rw [e0]
  cases u with
  | nil => simp [num, numC, h]
  | cons d v =>
    by_cases hd : dgB d = true
    · by_cases hz : c.toNat = 48
      · simp [num, numC, h, hd, hz]
      · have hz' : ¬ (1 = 2 ∨ 0 < 1 ∧ c.toNat - 48 = 0) := by omega
        have e1 : numC 1 (c.toNat - 48) (d :: v) (k + 1) = numC 2 (10 * (c.toNat - 48) + (d.toNat - 48)) v (k + 2) := by
          rw [numC, if_pos hd, if_neg hz', Nat.mul_comm]
        rw [e1]
        cases v with
        | nil => simp [num, numC, h, hd, hz]
        | cons x y =>
          by_cases hx : dgB x = true
          · simp [num, numC, h, hd, hz, hx]
          · simp [num, numC, h, hd, hz, hx]
    · simp [num, numC, h, hd]
def rangeP (R : Res Nat) (k least : Nat) : Res Nat :=
  match R with
  | .ok n to => if least ≤ n ∧ n ≤ 20 then .ok n to else .bad k 3
  | .bad p c => .bad p c
theorem numP_eq (t : List UInt8) (k least : Nat) : numP t k least = rangeP (num t k) k least := by
  unfold numP rangeP; cases num t k <;> rfl
/-- what a reading function answers: its value, and where the reader stands; or it gives up -/
def After {α : Type} (b : Nat) (s : ByteArray) (w : World) (V : α → Value) (res : Res α) (e : Ending) (w' : World) : Prop :=
  match res with
  | .ok x to => e = .returned (V x) ∧ Rd w' b s to ∧ w.grownBy w' (some b)
  | .bad p c => e = .panicked (chain p c) ∧ w.grownBy w' (some b)
abbrev natV (n : Nat) : Value := .int .i64 n

theorem numC_yes {s : ByteArray} {i n j : Nat} {R : Res Nat} (h : numC i n (s.data.toList.drop j) j = R) (hj : j < s.size) (hd : dgI (s[j].toNat : Int) = true) :
    (i = 2 ∨ (0 < i ∧ n = 0) → R = .bad j 2) ∧ (¬ (i = 2 ∨ (0 < i ∧ n = 0)) → numC (i + 1) (n * 10 + (s[j].toNat - 48)) (s.data.toList.drop (j + 1)) (j + 1) = R) := by
  rw [dgI_nat] at hd
  rw [drop_cons s j hj, numC, if_pos hd] at h
  exact ⟨fun c => by rw [if_pos c] at h; exact h.symm, fun c => by rw [if_neg c] at h; exact h⟩
theorem numC_no {s : ByteArray} {i n j : Nat} {R : Res Nat} (h : numC i n (s.data.toList.drop j) j = R) (hd : ∀ hj : j < s.size, dgI (s[j].toNat : Int) = false) : R = .ok n j := by
  by_cases hj : j < s.size
  · have := hd hj
    rw [dgI_nat] at this
    rw [drop_cons s j hj, numC, if_neg (by simp [this])] at h
    exact h.symm
  · rw [drop_end s j (by omega), numC] at h
    exact h.symm

set_option maxRecDepth 100000 in
set_option maxHeartbeats 2000000 in
theorem number_end (b : Nat) (s : ByteArray) (k least : Nat) (w : World) (r : Rd w b s k) (hk : k = s.size) (hs : s.size ≤ 100000) :
    Calls Tryd.prog 73 #[.pointer (some ⟨b, 0, none⟩), .int .i64 least] w (After b s w natV (numP (s.data.toList.drop k) k least)) := by
  have HE : Hid (numP (s.data.toList.drop k) k least = .bad k 5) := by rw [drop_end s k (by omega)]; rfl
  obtain ⟨R, hR⟩ : ∃ R, R = numP (s.data.toList.drop k) k least := ⟨_, rfl⟩
  rw [← hR] at HE ⊢
  have HC := hide (fun n => next_end b s k (w.drewN n) (r.drewN n) (by omega) hs (by omega))
  have c1 := r.c1
  clear r hk hR
  go_enter Tryd.func73, Tryd.ntmps73
  go_wp2_with fail
  refine wp_region_dies_at (ch := chain k 5) 2 4 4 2 _ (by kernel_rfl) rfl (by simp) (by kernel_rfl) (by kernel_rfl) ?_ ?_
  · simp only [List.take_succ_cons, List.take_zero, List.drop_succ_cons, List.drop_zero, List.cons_append, List.nil_append]
    repeat (quiet_step (fail))
    refine wpQuiet_nil ⟨rfl, dies_end 74 #[.pointer (some ⟨b, 0, none⟩)] (fun n => by go_simp) (fun n => ?_)⟩
    exact HC.out n
  · intro a' n hd
    exact ⟨hd, by rw [HE.out]; exact ⟨rfl, only_drewN (grown_refl _ _) n⟩⟩
set_option maxRecDepth 100000 in
set_option maxHeartbeats 2000000 in
theorem number_none (b : Nat) (s : ByteArray) (k least : Nat) (w : World) (r : Rd w b s k) (hk : k < s.size) (hd : dgI (s[k].toNat : Int) = false) (hs : s.size ≤ 100000) :
    Calls Tryd.prog 73 #[.pointer (some ⟨b, 0, none⟩), .int .i64 least] w (After b s w natV (numP (s.data.toList.drop k) k least)) := by
  have HE : Hid (numP (s.data.toList.drop k) k least = .bad k 2) := by
    show _ = _
    rw [dgI_nat] at hd
    rw [drop_cons s k hk, numP]; simp [num, hd]
  obtain ⟨R, hR⟩ : ∃ R, R = numP (s.data.toList.drop k) k least := ⟨_, rfl⟩
  rw [← hR] at HE ⊢
  have HC := hide (fun n => next_in b s k (w.drewN n) (r.drewN n) hk hs)
  have hb := s[k].toNat_lt
  have HD0 := fun n => digit_any (s[k].toNat : Int) (w.drewN n) (by omega) (by omega)
  rw [hd] at HD0
  have HD := Lib.hid HD0
  have HM := hide (fun n => must_bad k 2 b (w.drewN n))
  have c1 := r.c1
  clear r hR hd hb HD0
  go_enter Tryd.func73, Tryd.ntmps73
  go_wp2_with fail
  refine wp_region_dies_at (ch := chain k 2) 8 0 0 8 _ (by kernel_rfl) rfl (by simp) (by kernel_rfl) (by kernel_rfl) ?_ ?_
  · simp only [List.take_succ_cons, List.take_zero, List.drop_zero, List.append_nil]
    repeat (quiet_step ((first | (go_at_call 74; exact Calls.quiet_of (HC.out _)) | (go_at_call 82; exact Calls.quiet_of_same (HD.out _)))))
    refine wpQuiet_nil ⟨rfl, dies_end 41 #[.pointer (some ⟨b, 0, none⟩), .bool false, .int .i64 k, .int .i64 2] (fun n => by go_simp) (fun n => ?_)⟩
    exact (HM.out n).mono fun e w' ⟨he, hw⟩ => ⟨he, 0, hw⟩
  · intro a' n hd
    exact ⟨hd, by rw [HE.out]; exact ⟨rfl, only_drewN (grown_refl _ _) n⟩⟩
set_option maxRecDepth 100000 in
set_option maxHeartbeats 1600000 in
theorem number_some (b : Nat) (s : ByteArray) (k least : Nat) (w : World) (r : Rd w b s k) (hk : k < s.size) (hd : dgI (s[k].toNat : Int) = true) (hs : s.size ≤ 100000) (hl : least ≤ 100) :
    Calls Tryd.prog 73 #[.pointer (some ⟨b, 0, none⟩), .int .i64 least] w (After b s w natV (numP (s.data.toList.drop k) k least)) := by
  obtain ⟨P, hP⟩ : ∃ P, P = numP (s.data.toList.drop k) k least := ⟨_, rfl⟩
  obtain ⟨R, hR⟩ : ∃ R, R = numC 0 0 (s.data.toList.drop k) k := ⟨_, rfl⟩
  have HP : Hid (P = rangeP R k least) := by
    show _ = _
    rw [dgI_nat] at hd
    rw [hP, hR, numP_eq, drop_cons s k hk, num_eq _ _ _ hd]
  rw [← hP]
  have HR := Lib.hid hR.symm
  have HC := hide (fun n => next_in b s k (w.drewN n) (r.drewN n) hk hs)
  have hb := s[k].toNat_lt
  have HD0 := fun n => digit_any (s[k].toNat : Int) (w.drewN n) (by omega) (by omega)
  rw [hd] at HD0
  have HD := Lib.hid HD0
  have HM := hide (fun n => must_ok k 2 b (w.drewN n))
  have c1 := r.c1
  have HRd := Lib.hid r
  clear r hR hd hb HD0 hP
  go_enter Tryd.func73, Tryd.ntmps73
  go_wp2_with fail
  go_quiet ((first | (go_at_call 74; exact Calls.quiet_of (HC.out _)) | (go_at_call 82; exact Calls.quiet_of_same (HD.out _)) | (go_at_call 41; exact Calls.quiet_of_same (HM.out _))))
  go_wp2_with fail
  have HR1 := Lib.hid (HRd.out.drewN nq)
  have HG1 := Lib.hid (only_drewN (grown_refl w (some b)) nq)
  clear c1
  go_loopw [6, 22] (fun n _ wr => ∃ i m : Nat, k + i ≤ s.size ∧ i ≤ 2 ∧ m ≤ 99 ∧ Hid ((i = 0 → m = 0) ∧ (i = 1 → m ≤ 9)) ∧ n = .int .i64 m ∧ Hid (Rd wr b s (k + i)) ∧ Hid (w.grownBy wr (some b)) ∧ Hid (numC i m (s.data.toList.drop (k + i)) (k + i) = R)) (fun _ _ wr => s.size - (intOf ((wr.cell? ⟨b, 1, none⟩).getD undef)).toNat)
  case atStart => exact ⟨0, 0, by omega, by omega, by omega, Lib.hid ⟨fun _ => rfl, by omega⟩, rfl, HR1, HG1, HR⟩
  case round =>
    obtain ⟨i, m, hi, hi2, hm, hm0, rfl, hr, hg, ht⟩ := hrel
    obtain ⟨j, hj⟩ : ∃ j, j = k + i := ⟨_, rfl⟩
    rw [← hj] at hi hr ht
    have HJ := Lib.hid hj
    clear hj
    have c0 := hr.out.c0
    have c1 := hr.out.c1
    have cf := hr.out.free 1
    by_cases hlt : j < s.size
    · have hb := s[j].toNat_lt
      cases hp : dgI (s[j].toNat : Int) with
      | true =>
        have HA0 := ahead_in_digit b s j wr hr.out hlt hs
        rw [hp] at HA0
        have HA := Lib.hid HA0
        obtain ⟨q1, q2⟩ := numC_yes ht.out hlt hp
        have hdg : 48 ≤ s[j].toNat ∧ s[j].toNat ≤ 57 := by simp only [dgI, Bool.and_eq_true, decide_eq_true_eq] at hp; omega
        clear hp ht HA0
        by_cases hfull : i = 2 ∨ (0 < i ∧ m = 0)
        · have HB := Lib.hid (q1 hfull)
          clear q1 q2
          by_cases h2 : i = 2
          · have t1 : ((j : Int) == (k : Int) + 2) = true := by have := HJ.out; simp; omega
            have H0 := Lib.hid hfull
            clear hfull
            go_wp2_with (first
              | (go_at_call 56; refine HA.out.mono ?_; rintro e w1 ⟨rfl, hw1⟩; have HW : Hid (Drawn wr w1) := hw1; clear hw1; have d1 := (HW.out.rd hr.out).c1; have d2 := (HW.out.rd hr.out).free 1)
              | (go_at_call 41; refine (must_bad _ 2 b _).mono ?_; rintro e w2 ⟨rfl, rfl⟩))
            refine ⟨rfl, ?_⟩
            rw [HP.out, HB.out]
            exact ⟨chain_at (by have := HJ.out; omega), HW.out.grown hg.out⟩
          · have t1 : ((j : Int) == (k : Int) + 2) = false := by have := HJ.out; simp; omega
            have t2 : decide (k < j) = true := by have := HJ.out; simp; omega
            have t3 : ((m : Int) == 0) = true := by simp; omega
            have H0 := Lib.hid hfull
            clear hfull h2
            go_wp2_with (first
              | (go_at_call 56; refine HA.out.mono ?_; rintro e w1 ⟨rfl, hw1⟩; have HW : Hid (Drawn wr w1) := hw1; clear hw1; have d1 := (HW.out.rd hr.out).c1; have d2 := (HW.out.rd hr.out).free 1)
              | (go_at_call 41; refine (must_bad _ 2 b _).mono ?_; rintro e w2 ⟨rfl, rfl⟩))
            refine ⟨rfl, ?_⟩
            rw [HP.out, HB.out]
            exact ⟨chain_at (by have := HJ.out; omega), HW.out.grown hg.out⟩
        · have HT2 := Lib.hid (q2 hfull)
          clear q1 q2
          have t1 : ((j : Int) == (k : Int) + 2) = false := by have := HJ.out; simp; omega
          have a1 : IntKind.i64.wrap ((m : Int) * 10) = (m : Int) * 10 := IntWalk.i64_in _ (by omega)
          have a2 : IntKind.u8.wrap ((s[j].toNat : Int) - 48) = (s[j].toNat : Int) - 48 := IntWalk.u8_in _ (by omega)
          have i0 : (0 : Int) ≤ (j : Int) := by omega
          have i1 : (j : Int) < (s.size : Int) := by omega
          by_cases h0 : i = 0
          · have t2 : decide (k < j) = false := by have := HJ.out; simp; omega
            have H0 := Lib.hid (⟨h0, hfull⟩ : i = 0 ∧ ¬ (i = 2 ∨ (0 < i ∧ m = 0)))
            clear h0 hfull
            go_wp2_with (first
              | (go_at_call 56; refine HA.out.mono ?_; rintro e w1 ⟨rfl, hw1⟩; have HW : Hid (Drawn wr w1) := hw1; clear hw1; have d0 := (HW.out.rd hr.out).c0; have d1 := (HW.out.rd hr.out).c1; have d2 := (HW.out.rd hr.out).free 1)
              | (go_at_call 41; refine (must_ok _ 2 b _).mono ?_; rintro e w2 ⟨rfl, rfl⟩))
            go_quiet (fail)
            have HD2 := Lib.hid (HW.out.trans ⟨nq, rfl⟩)
            have HR2 := Lib.hid ((HD2.out.rd hr.out).set1 j)
            have HG2 := Lib.hid (World.grownBy.trans (HD2.out.grown hg.out) (grown_set _ b 1 (.int .i64 ((j : Int) + 1))))
            go_wp2_with fail
            go_roundw
            case rel => exact ⟨i + 1, m * 10 + (s[j].toNat - 48), by have := HJ.out; omega, by have := H0.out; omega, by have := H0.out; have := hm0.out; omega, Lib.hid ⟨by omega, by have := H0.out; have := hm0.out; omega⟩, int_eq (by omega), by rw [show k + (i + 1) = j + 1 from by have := HJ.out; omega]; exact HR2, HG2, by rw [show k + (i + 1) = j + 1 from by have := HJ.out; omega]; exact HT2⟩
            case measure => rw [c1, HR2.out.c1]; simp [intOf]; omega
          · have t2 : decide (k < j) = true := by have := HJ.out; simp; omega
            have t3 : ((m : Int) == 0) = false := by simp; omega
            have H0 := Lib.hid (⟨h0, hfull⟩ : ¬ i = 0 ∧ ¬ (i = 2 ∨ (0 < i ∧ m = 0)))
            clear h0 hfull
            go_wp2_with (first
              | (go_at_call 56; refine HA.out.mono ?_; rintro e w1 ⟨rfl, hw1⟩; have HW : Hid (Drawn wr w1) := hw1; clear hw1; have d0 := (HW.out.rd hr.out).c0; have d1 := (HW.out.rd hr.out).c1; have d2 := (HW.out.rd hr.out).free 1)
              | (go_at_call 41; refine (must_ok _ 2 b _).mono ?_; rintro e w2 ⟨rfl, rfl⟩))
            go_quiet (fail)
            have HD2 := Lib.hid (HW.out.trans ⟨nq, rfl⟩)
            have HR2 := Lib.hid ((HD2.out.rd hr.out).set1 j)
            have HG2 := Lib.hid (World.grownBy.trans (HD2.out.grown hg.out) (grown_set _ b 1 (.int .i64 ((j : Int) + 1))))
            go_wp2_with fail
            go_roundw
            case rel => exact ⟨i + 1, m * 10 + (s[j].toNat - 48), by have := HJ.out; omega, by have := H0.out; omega, by have := H0.out; have := hm0.out; omega, Lib.hid ⟨by omega, by have := H0.out; have := hm0.out; omega⟩, int_eq (by omega), by rw [show k + (i + 1) = j + 1 from by have := HJ.out; omega]; exact HR2, HG2, by rw [show k + (i + 1) = j + 1 from by have := HJ.out; omega]; exact HT2⟩
            case measure => rw [c1, HR2.out.c1]; simp [intOf]; omega
      | false =>
        have HA0 := ahead_in_digit b s j wr hr.out hlt hs
        rw [hp] at HA0
        have HA := Lib.hid HA0
        have HT2 := Lib.hid (numC_no ht.out (fun _ => hp))
        clear hp ht HA0
        by_cases hlm : least ≤ m
        · have t1 : decide (least ≤ m) = true := by simpa using hlm
          by_cases hm20 : m ≤ 20
          · have t2 : decide ((m : Int) ≤ 20) = true := by simp; omega
            go_wp2_with (first
              | (go_at_call 56; refine HA.out.mono ?_; rintro e w1 ⟨rfl, hw1⟩; have HW : Hid (Drawn wr w1) := hw1; clear hw1; have d1 := (HW.out.rd hr.out).c1; have d2 := (HW.out.rd hr.out).free 1)
              | (go_at_call 41; refine (must_ok _ 3 b _).mono ?_; rintro e w2 ⟨rfl, rfl⟩))
            go_ret
            rw [HP.out, HT2.out, rangeP, if_pos ⟨hlm, hm20⟩]
            exact ⟨rfl, HW.out.rd hr.out, HW.out.grown hg.out⟩
          · have t2 : decide ((m : Int) ≤ 20) = false := by simp; omega
            go_wp2_with (first
              | (go_at_call 56; refine HA.out.mono ?_; rintro e w1 ⟨rfl, hw1⟩; have HW : Hid (Drawn wr w1) := hw1; clear hw1; have d1 := (HW.out.rd hr.out).c1; have d2 := (HW.out.rd hr.out).free 1)
              | (go_at_call 41; refine (must_bad _ 3 b _).mono ?_; rintro e w2 ⟨rfl, rfl⟩))
            refine ⟨rfl, ?_⟩
            rw [HP.out, HT2.out, rangeP, if_neg (by omega)]
            exact ⟨rfl, HW.out.grown hg.out⟩
        · have t1 : decide (least ≤ m) = false := by simpa using hlm
          go_wp2_with (first
            | (go_at_call 56; refine HA.out.mono ?_; rintro e w1 ⟨rfl, hw1⟩; have HW : Hid (Drawn wr w1) := hw1; clear hw1; have d1 := (HW.out.rd hr.out).c1; have d2 := (HW.out.rd hr.out).free 1)
            | (go_at_call 41; refine (must_bad _ 3 b _).mono ?_; rintro e w2 ⟨rfl, rfl⟩))
          refine ⟨rfl, ?_⟩
          rw [HP.out, HT2.out, rangeP, if_neg (by omega)]
          exact ⟨rfl, HW.out.grown hg.out⟩
    · have HA := Lib.hid (ahead_end_digit b s j wr hr.out (by omega) hs (by omega))
      have HT2 := Lib.hid (numC_no ht.out (fun h => absurd h hlt))
      clear ht
      by_cases hlm : least ≤ m
      · have t1 : decide (least ≤ m) = true := by simpa using hlm
        by_cases hm20 : m ≤ 20
        · have t2 : decide ((m : Int) ≤ 20) = true := by simp; omega
          go_wp2_with (first
            | (go_at_call 56; refine HA.out.mono ?_; rintro e w1 ⟨rfl, hw1⟩; have HW : Hid (Drawn wr w1) := hw1; clear hw1; have d1 := (HW.out.rd hr.out).c1; have d2 := (HW.out.rd hr.out).free 1)
            | (go_at_call 41; refine (must_ok _ 3 b _).mono ?_; rintro e w2 ⟨rfl, rfl⟩))
          go_ret
          rw [HP.out, HT2.out, rangeP, if_pos ⟨hlm, hm20⟩]
          exact ⟨rfl, HW.out.rd hr.out, HW.out.grown hg.out⟩
        · have t2 : decide ((m : Int) ≤ 20) = false := by simp; omega
          go_wp2_with (first
            | (go_at_call 56; refine HA.out.mono ?_; rintro e w1 ⟨rfl, hw1⟩; have HW : Hid (Drawn wr w1) := hw1; clear hw1; have d1 := (HW.out.rd hr.out).c1; have d2 := (HW.out.rd hr.out).free 1)
            | (go_at_call 41; refine (must_bad _ 3 b _).mono ?_; rintro e w2 ⟨rfl, rfl⟩))
          refine ⟨rfl, ?_⟩
          rw [HP.out, HT2.out, rangeP, if_neg (by omega)]
          exact ⟨rfl, HW.out.grown hg.out⟩
      · have t1 : decide (least ≤ m) = false := by simpa using hlm
        go_wp2_with (first
          | (go_at_call 56; refine HA.out.mono ?_; rintro e w1 ⟨rfl, hw1⟩; have HW : Hid (Drawn wr w1) := hw1; clear hw1; have d1 := (HW.out.rd hr.out).c1; have d2 := (HW.out.rd hr.out).free 1)
          | (go_at_call 41; refine (must_bad _ 3 b _).mono ?_; rintro e w2 ⟨rfl, rfl⟩))
        refine ⟨rfl, ?_⟩
        rw [HP.out, HT2.out, rangeP, if_neg (by omega)]
        exact ⟨rfl, HW.out.grown hg.out⟩
theorem number_any (b : Nat) (s : ByteArray) (k least : Nat) (w : World) (r : Rd w b s k) (hk : k ≤ s.size) (hs : s.size ≤ 100000) (hl : least ≤ 100) :
    Calls Tryd.prog 73 #[.pointer (some ⟨b, 0, none⟩), .int .i64 least] w (After b s w natV (numP (s.data.toList.drop k) k least)) := by
  by_cases h : k < s.size
  · cases hd : dgI (s[k].toNat : Int) with
    | true => exact number_some b s k least w r h hd hs hl
    | false => exact number_none b s k least w r h hd hs
  · exact number_end b s k least w r (by omega) hs
end Go.Proofs.YtegkimcfmdckbabDoor.Lx
