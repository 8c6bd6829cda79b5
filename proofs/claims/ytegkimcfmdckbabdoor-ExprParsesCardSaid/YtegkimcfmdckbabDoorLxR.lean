/- Walks of the reference of the lexer: what bytes are; a number. -/
import Derived.Test.YtegkimcfmdckbabDoorLxO
namespace Go.Proofs.YtegkimcfmdckbabDoor.Lx
open Go.RowKit Mem
set_option linter.unusedVariables false

theorem rsmall_any : Tells 65 smI := by
  intro c w h0 h1
  by_cases a : 97 ≤ c
  · by_cases b : c ≤ 122
    · have E : Hid (smI c = true) := by show _ = _; simp [smI, a, b]
      go_enter Tryd.func65, Tryd.ntmps65
      go_wp2
      go_ret
      exact ⟨by rw [E.out]; rfl, rfl⟩
    · have E : Hid (smI c = false) := by show _ = _; simp [smI, b]
      have d : decide (c ≤ 122) = false := by simpa using b
      clear b
      go_enter Tryd.func65, Tryd.ntmps65
      go_wp2
      go_ret
      exact ⟨by rw [E.out]; rfl, rfl⟩
  · have E : Hid (smI c = false) := by show _ = _; simp [smI, a]
    have d : decide (97 ≤ c) = false := by simpa using a
    clear a
    go_enter Tryd.func65, Tryd.ntmps65
    go_wp2
    go_ret
    exact ⟨by rw [E.out]; rfl, rfl⟩
theorem rdigit_any : Tells 66 dgI := by
  intro c w h0 h1
  by_cases a : 48 ≤ c
  · by_cases b : c ≤ 57
    · have E : Hid (dgI c = true) := by show _ = _; simp [dgI, a, b]
      go_enter Tryd.func66, Tryd.ntmps66
      go_wp2
      go_ret
      exact ⟨by rw [E.out]; rfl, rfl⟩
    · have E : Hid (dgI c = false) := by show _ = _; simp [dgI, b]
      have d : decide (c ≤ 57) = false := by simpa using b
      clear b
      go_enter Tryd.func66, Tryd.ntmps66
      go_wp2
      go_ret
      exact ⟨by rw [E.out]; rfl, rfl⟩
  · have E : Hid (dgI c = false) := by show _ = _; simp [dgI, a]
    have d : decide (48 ≤ c) = false := by simpa using a
    clear a
    go_enter Tryd.func66, Tryd.ntmps66
    go_wp2
    go_ret
    exact ⟨by rw [E.out]; rfl, rfl⟩
theorem rwrong_end (s : ByteArray) (k : Nat) (hk : s.size ≤ k) (hs : s.size ≤ 100000) (hk2 : k ≤ 100000) (w : World) :
    Calls Tryd.prog 78 #[.string s, .int .i64 k] w fun e w' => e = .returned (.tuple #[.int .i64 s.size, .int .i64 5]) ∧ w' = w := by
  have d : decide (s.size ≤ k) = true := by simpa using hk
  go_enter Tryd.func78, Tryd.ntmps78
  go_wp2
  go_ret2
  exact ⟨rfl, rfl⟩
theorem rwrong_in (s : ByteArray) (k : Nat) (hk : k < s.size) (hs : s.size ≤ 100000) (w : World) :
    Calls Tryd.prog 78 #[.string s, .int .i64 k] w fun e w' => e = .returned (.tuple #[.int .i64 k, .int .i64 2]) ∧ w' = w := by
  have d : decide (s.size ≤ k) = false := by simpa using hk
  go_enter Tryd.func78, Tryd.ntmps78
  go_wp2
  go_ret2
  exact ⟨rfl, rfl⟩

/-- what the reference's number answers: -1 and the place, if it is none -/
def numR (r : Res Nat) : Value :=
  match r with
  | .ok n to => .tuple #[.int .i64 n, .int .i64 to]
  | .bad p _ => .tuple #[.int .i64 (-1), .int .i64 p]
theorem dg_of {s : ByteArray} {k : Nat} {b : Bool} (hk : k < s.size) (hd : dgI (s[k].toNat : Int) = b) (w : World) : Calls Tryd.prog 66 #[.int .u8 (s[k].toNat : Int)] w fun e w' => e = .returned (.bool b) ∧ w' = w := by
  have hb := s[k].toNat_lt
  have := rdigit_any (s[k].toNat : Int) w (by omega) (by omega)
  rwa [hd] at this

set_option maxRecDepth 100000 in
set_option maxHeartbeats 2000000 in
theorem rnum_any (s : ByteArray) (k : Nat) (hk : k ≤ s.size) (hs : s.size ≤ 100000) (w : World) :
    Calls Tryd.prog 77 #[.string s, .int .i64 k] w fun e w' => e = .returned (numR (num (s.data.toList.drop k) k)) ∧ w' = w := by
  obtain ⟨R, hR⟩ : ∃ R, R = numR (num (s.data.toList.drop k) k) := ⟨_, rfl⟩
  rw [← hR]
  by_cases hlt : k < s.size
  · have d0 : decide (s.size ≤ k) = false := by simpa using hlt
    have i0 : (0 : Int) ≤ (k : Int) := by omega
    have i1 : (k : Int) < (s.size : Int) := by omega
    have hb := s[k].toNat_lt
    rw [drop_cons s k hlt] at hR
    cases hd : dgI (s[k].toNat : Int) with
    | false =>
      have HD := hide (dg_of hlt hd)
      have HE : Hid (R = .tuple #[.int .i64 (-1), .int .i64 k]) := by
        show _ = _; rw [dgI_nat] at hd; rw [hR]; simp [num, hd, numR]
      clear hR hd
      go_enter Tryd.func77, Tryd.ntmps77
      go_wp2_with (go_at_call 66; (with_reducible refine (HD.out _).mono ?_); rintro e w1 ⟨rfl, rfl⟩)
      go_ret2
      exact ⟨by rw [HE.out]; rfl, rfl⟩
    | true =>
      have HD := hide (dg_of hlt hd)
      have hdg : 48 ≤ s[k].toNat ∧ s[k].toNat ≤ 57 := by simp only [dgI, Bool.and_eq_true, decide_eq_true_eq] at hd; omega
      have a1 : IntKind.u8.wrap ((s[k].toNat : Int) - 48) = (s[k].toNat : Int) - 48 := IntWalk.u8_in _ (by omega)
      have a2 : ((k : Int) + 1).toNat = k + 1 := by omega
      by_cases hlt1 : k + 1 < s.size
      · have d1 : decide ((k : Int) + 1 < (s.size : Int)) = true := by simp; omega
        have i2 : (0 : Int) ≤ (k : Int) + 1 := by omega
        have i3 : (k : Int) + 1 < (s.size : Int) := by omega
        have hb1 := s[k + 1].toNat_lt
        cases hd1 : dgI (s[k + 1].toNat : Int) with
        | false =>
          have HD1 := hide (dg_of hlt1 hd1)
          have HE : Hid (R = .tuple #[.int .i64 ((s[k].toNat : Int) - 48), .int .i64 ((k : Int) + 1)]) := by
            show _ = _; rw [dgI_nat] at hd hd1; rw [hR, drop_cons s (k + 1) hlt1]; simp [num, hd, hd1, numR]; omega
          clear hR hd hd1
          go_enter Tryd.func77, Tryd.ntmps77
          go_wp2_with (first
            | (go_at_call 66; (with_reducible refine (HD.out _).mono ?_); rintro e w1 ⟨rfl, rfl⟩)
            | (go_at_call 66; (with_reducible refine (HD1.out _).mono ?_); rintro e w1 ⟨rfl, rfl⟩))
          go_ret2
          exact ⟨by rw [HE.out]; rfl, rfl⟩
        | true =>
          have HD1 := hide (dg_of hlt1 hd1)
          have hdg1 : 48 ≤ s[k + 1].toNat ∧ s[k + 1].toNat ≤ 57 := by simp only [dgI, Bool.and_eq_true, decide_eq_true_eq] at hd1; omega
          by_cases hz : s[k].toNat = 48
          · have HE : Hid (R = .tuple #[.int .i64 (-1), .int .i64 ((k : Int) + 1)]) := by
              show _ = _; rw [dgI_nat] at hd hd1; rw [hR, drop_cons s (k + 1) hlt1]; simp [num, hd, hd1, hz, numR]
            have hz2 : ((s[k].toNat : Int) - 48 == 0) = true := by rw [hz]; rfl
            clear hR hd hd1 hz
            go_enter Tryd.func77, Tryd.ntmps77
            go_wp2_with (first
              | (go_at_call 66; (with_reducible refine (HD.out _).mono ?_); rintro e w1 ⟨rfl, rfl⟩)
              | (go_at_call 66; (with_reducible refine (HD1.out _).mono ?_); rintro e w1 ⟨rfl, rfl⟩))
            go_ret2
            exact ⟨by rw [HE.out]; rfl, rfl⟩
          · have hz2 : ((s[k].toNat : Int) - 48 == 0) = false := by simp; omega
            have m1 : IntKind.u8.wrap ((s[k + 1].toNat : Int) - 48) = (s[k + 1].toNat : Int) - 48 := IntWalk.u8_in _ (by omega)
            have m2 : ((k : Int) + 1 + 1).toNat = k + 1 + 1 := by omega
            by_cases hlt2 : k + 1 + 1 < s.size
            · have d2 : decide ((k : Int) + 1 + 1 < (s.size : Int)) = true := by simp; omega
              have i4 : (0 : Int) ≤ (k : Int) + 1 + 1 := by omega
              have i5 : (k : Int) + 1 + 1 < (s.size : Int) := by omega
              have hb2 := s[k + 1 + 1].toNat_lt
              cases hd2 : dgI (s[k + 1 + 1].toNat : Int) with
              | false =>
                have HD2 := hide (dg_of hlt2 hd2)
                have HE : Hid (R = .tuple #[.int .i64 (10 * ((s[k].toNat : Int) - 48) + ((s[k + 1].toNat : Int) - 48)), .int .i64 ((k : Int) + 1 + 1)]) := by
                  show _ = _; rw [dgI_nat] at hd hd1 hd2; rw [hR, drop_cons s (k + 1) hlt1, drop_cons s (k + 1 + 1) hlt2]; simp [num, hd, hd1, hd2, hz, numR]; omega
                clear hR hd hd1 hd2 hz
                go_enter Tryd.func77, Tryd.ntmps77
                go_wp2_with (first
                  | (go_at_call 66; (with_reducible refine (HD.out _).mono ?_); rintro e w1 ⟨rfl, rfl⟩)
                  | (go_at_call 66; (with_reducible refine (HD1.out _).mono ?_); rintro e w1 ⟨rfl, rfl⟩)
                  | (go_at_call 66; (with_reducible refine (HD2.out _).mono ?_); rintro e w1 ⟨rfl, rfl⟩))
                go_ret2
                exact ⟨by rw [HE.out]; rfl, rfl⟩
              | true =>
                have HD2 := hide (dg_of hlt2 hd2)
                have HE : Hid (R = .tuple #[.int .i64 (-1), .int .i64 ((k : Int) + 1 + 1)]) := by
                  show _ = _; rw [dgI_nat] at hd hd1 hd2; rw [hR, drop_cons s (k + 1) hlt1, drop_cons s (k + 1 + 1) hlt2]; simp [num, hd, hd1, hd2, hz, numR]; omega
                clear hR hd hd1 hd2 hz
                go_enter Tryd.func77, Tryd.ntmps77
                go_wp2_with (first
                  | (go_at_call 66; (with_reducible refine (HD.out _).mono ?_); rintro e w1 ⟨rfl, rfl⟩)
                  | (go_at_call 66; (with_reducible refine (HD1.out _).mono ?_); rintro e w1 ⟨rfl, rfl⟩)
                  | (go_at_call 66; (with_reducible refine (HD2.out _).mono ?_); rintro e w1 ⟨rfl, rfl⟩))
                go_ret2
                exact ⟨by rw [HE.out]; rfl, rfl⟩
            · have d2 : decide ((k : Int) + 1 + 1 < (s.size : Int)) = false := by simp; omega
              have HE : Hid (R = .tuple #[.int .i64 (10 * ((s[k].toNat : Int) - 48) + ((s[k + 1].toNat : Int) - 48)), .int .i64 ((k : Int) + 1 + 1)]) := by
                show _ = _; rw [dgI_nat] at hd hd1; rw [hR, drop_cons s (k + 1) hlt1, drop_end s (k + 1 + 1) (by omega)]; simp [num, hd, hd1, hz, numR]; omega
              clear hR hd hd1 hz
              go_enter Tryd.func77, Tryd.ntmps77
              go_wp2_with (first
                | (go_at_call 66; (with_reducible refine (HD.out _).mono ?_); rintro e w1 ⟨rfl, rfl⟩)
                | (go_at_call 66; (with_reducible refine (HD1.out _).mono ?_); rintro e w1 ⟨rfl, rfl⟩))
              go_ret2
              exact ⟨by rw [HE.out]; rfl, rfl⟩
      · have d1 : decide ((k : Int) + 1 < (s.size : Int)) = false := by simp; omega
        have HE : Hid (R = .tuple #[.int .i64 ((s[k].toNat : Int) - 48), .int .i64 ((k : Int) + 1)]) := by
          show _ = _; rw [dgI_nat] at hd; rw [hR, drop_end s (k + 1) (by omega)]; simp [num, hd, numR]; omega
        clear hR hd
        go_enter Tryd.func77, Tryd.ntmps77
        go_wp2_with (first
          | (go_at_call 66; (with_reducible refine (HD.out _).mono ?_); rintro e w1 ⟨rfl, rfl⟩))
        go_ret2
        exact ⟨by rw [HE.out]; rfl, rfl⟩
  · have d0 : decide (s.size ≤ k) = true := by simp; omega
    have HE : Hid (R = .tuple #[.int .i64 (-1), .int .i64 k]) := by
      show _ = _; rw [hR, drop_end s k (by omega)]; rfl
    clear hR
    go_enter Tryd.func77, Tryd.ntmps77
    go_wp2_with fail
    go_ret2
    exact ⟨by rw [HE.out]; rfl, rfl⟩
end Go.Proofs.YtegkimcfmdckbabDoor.Lx
