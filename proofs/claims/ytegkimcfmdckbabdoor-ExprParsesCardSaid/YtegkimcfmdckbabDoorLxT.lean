/- Walks of the reference of the lexer: count, begins, one. -/
import Derived.Test.YtegkimcfmdckbabDoorLxS
namespace Go.Proofs.YtegkimcfmdckbabDoor.Lx
open Go.RowKit Mem
set_option linter.unusedVariables false

/-- a count as a sign -/
def cntR (k : Nat) (r : Res (Nat × Int)) : Res Sg :=
  match r with
  | .ok p to => .ok ⟨5, k, p.1, p.2, []⟩ to
  | .bad p c => .bad p c
theorem num_P_bad {t : List UInt8} {k l p : Nat} {c : Int} (h : num t k = .bad p c) : numP t k l = .bad p c := by unfold numP; rw [h]
theorem num_P_ok {t : List UInt8} {k l n to : Nat} (h : num t k = .ok n to) : numP t k l = if l ≤ n ∧ n ≤ 20 then .ok n to else .bad k 3 := by unfold numP; rw [h]
theorem rcount_any (s : ByteArray) (k : Nat) (w : World) (hk : k < s.size) (hs : s.size ≤ 100000) :
    Calls Tryd.prog 67 #[.string s, .int .i64 k] w (Gives w (cntR k (cnt (s.data.toList.drop (k + 1)) (k + 1)))) := by
  cases hN : num (s.data.toList.drop (k + 1)) (k + 1) with
  | bad p c =>
    rw [cnt, num_P_bad hN]
    exact rc_num s k w hk hs hN
  | ok n to =>
    by_cases h20 : n ≤ 20
    · have hP : numP (s.data.toList.drop (k + 1)) (k + 1) 0 = .ok n to := by rw [num_P_ok hN]; simp [h20]
      rw [cnt_at hP]
      obtain ⟨hto1, hto2, _⟩ := num_len hN
      have hto3 : to ≤ s.size := hto2 (by omega)
      by_cases hlt : to < s.size
      · rw [drop_cons s to hlt]
        by_cases h44 : s[to].toNat = 44
        · simp only [h44, if_true]
          by_cases hlt2 : to + 1 < s.size
          · by_cases h6 : s[to + 1].toNat = 125
            · have e : highP n (s.data.toList.drop (to + 1)) (to + 1) = .ok (n, -1) (to + 1 + 1) := by
                rw [drop_cons s (to + 1) hlt2]; simp [highP, h6]
              rw [e]
              by_cases hz : n = 0
              · exact rc_more0 s k w hk hs hN h20 hz hlt h44 hlt2 h6
              · exact rc_more1 s k w hk hs hN h20 hz hlt h44 hlt2 h6
            · rw [high_at hlt2 h6]
              cases hN2 : num (s.data.toList.drop (to + 1)) (to + 1) with
              | bad p c =>
                rw [num_P_bad hN2]
                by_cases hz : n = 0
                · exact rc_hibad0 s k w hk hs hN h20 hz hlt h44 hlt2 h6 hN2
                · exact rc_hibad1 s k w hk hs hN h20 hz hlt h44 hlt2 h6 hN2
              | ok m to2 =>
                rw [num_P_ok hN2]
                by_cases hm1 : m < 1
                · simp only [show ¬ (max n 1 ≤ m ∧ m ≤ 20) from by omega, if_false]
                  by_cases hz : n = 0
                  · exact rc_low0 s k w hk hs hN h20 hz hlt h44 hlt2 h6 hN2 hm1
                  · exact rc_low1 s k w hk hs hN h20 hz hlt h44 hlt2 h6 hN2 hm1
                by_cases hm2 : 20 < m
                · simp only [show ¬ (max n 1 ≤ m ∧ m ≤ 20) from by omega, if_false]
                  by_cases hz : n = 0
                  · exact rc_high0 s k w hk hs hN h20 hz hlt h44 hlt2 h6 hN2 hm2
                  · exact rc_high1 s k w hk hs hN h20 hz hlt h44 hlt2 h6 hN2 hm2
                by_cases hm3 : m < n
                · simp only [show ¬ (max n 1 ≤ m ∧ m ≤ 20) from by omega, if_false]
                  by_cases hz : n = 0
                  · exact rc_less0 s k w hk hs hN h20 hz hlt h44 hlt2 h6 hN2 (by omega) (by omega) hm3
                  · exact rc_less1 s k w hk hs hN h20 hz hlt h44 hlt2 h6 hN2 (by omega) (by omega) hm3
                simp only [show (max n 1 ≤ m ∧ m ≤ 20) from by omega, and_self, if_true]
                obtain ⟨hto4, hto5, _⟩ := num_len hN2
                have hto6 : to2 ≤ s.size := hto5 (by omega)
                by_cases hlt3 : to2 < s.size
                · rw [drop_cons s to2 hlt3]
                  by_cases h7 : s[to2].toNat = 125
                  · simp only [shutP, h7, if_true]
                    by_cases hz : n = 0
                    · exact rc_hiok0 s k w hk hs hN h20 hz hlt h44 hlt2 h6 hN2 (by omega) (by omega) (by omega) hlt3 h7
                    · exact rc_hiok1 s k w hk hs hN h20 hz hlt h44 hlt2 h6 hN2 (by omega) (by omega) (by omega) hlt3 h7
                  · simp only [shutP, h7, if_false]
                    by_cases hz : n = 0
                    · exact rc_hioth0 s k w hk hs hN h20 hz hlt h44 hlt2 h6 hN2 (by omega) (by omega) (by omega) hlt3 h7
                    · exact rc_hioth1 s k w hk hs hN h20 hz hlt h44 hlt2 h6 hN2 (by omega) (by omega) (by omega) hlt3 h7
                · rw [drop_end s to2 (by omega)]
                  simp only [shutP]
                  by_cases hz : n = 0
                  · exact rc_hiend0 s k w hk hs hN h20 hz hlt h44 hlt2 h6 hN2 (by omega) (by omega) (by omega) (by omega)
                  · exact rc_hiend1 s k w hk hs hN h20 hz hlt h44 hlt2 h6 hN2 (by omega) (by omega) (by omega) (by omega)
          · have hN2 : num (s.data.toList.drop (to + 1)) (to + 1) = .bad (to + 1) 5 := by rw [drop_end s (to + 1) (by omega)]; rfl
            have e : highP n (s.data.toList.drop (to + 1)) (to + 1) = .bad (to + 1) 5 := by rw [drop_end s (to + 1) (by omega)]; rfl
            rw [e]
            by_cases hz : n = 0
            · exact rc_nobad0 s k w hk hs hN h20 hz hlt h44 (by omega) hN2
            · exact rc_nobad1 s k w hk hs hN h20 hz hlt h44 (by omega) hN2
        · by_cases h125 : s[to].toNat = 125
          · simp only [h125, if_true]
            by_cases hz : n = 0
            · simp only [hz, if_true]
              exact rc_zero s k w hk hs hN h20 hlt h125 hz
            · simp only [hz, if_false]
              exact rc_same s k w hk hs hN h20 hlt h125 hz
          · simp only [h44, h125, if_false]
            by_cases hz : n = 0
            · exact rc_other0 s k w hk hs hN h20 hz hlt h44 h125
            · exact rc_other1 s k w hk hs hN h20 hz hlt h44 h125
      · rw [drop_end s to (by omega)]
        by_cases hz : n = 0
        · exact rc_end0 s k w hk hs hN h20 hz (by omega)
        · exact rc_end1 s k w hk hs hN h20 hz (by omega)
    · rw [cnt, num_P_ok hN]
      simp only [show ¬ (0 ≤ n ∧ n ≤ 20) from by omega, if_false]
      exact rc_big s k w hk hs hN (by omega)

/-- begins, of a byte's number -/
def bgI (c : Int) : Bool := smI c || c == 40 || c == 41 || c == 124 || c == 42 || c == 43 || c == 63 || c == 123
theorem bgI_nat (c : UInt8) : bgI (c.toNat : Int) = begins c := by
  unfold bgI begins single
  rw [smI_nat]
  generalize smB c = b
  generalize c.toNat = m
  cases b with
  | true => simp
  | false =>
    by_cases h0 : m = 40
    · subst h0; rfl
    by_cases h1 : m = 41
    · subst h1; rfl
    by_cases h2 : m = 124
    · subst h2; rfl
    by_cases h3 : m = 42
    · subst h3; rfl
    by_cases h4 : m = 43
    · subst h4; rfl
    by_cases h5 : m = 63
    · subst h5; rfl
    by_cases h6 : m = 123
    · subst h6; rfl
    have e : ∀ n : Nat, m ≠ n → ((m : Int) == (n : Int)) = false := by intro n hn; simp; omega
    have e0 := e 40 h0
    have e1 := e 41 h1
    have e2 := e 124 h2
    have e3 := e 42 h3
    have e4 := e 43 h4
    have e5 := e 63 h5
    have e6 := e 123 h6
    simp only [Int.cast_ofNat_Int] at e0 e1 e2 e3 e4 e5 e6
    simp [e0, e1, e2, e3, e4, e5, e6, h0, h1, h2, h3, h4, h5, h6]
theorem rbegins_any : Tells 46 bgI := by
  intro c w h0 h1
  have HC := hide (rsmall_any c w h0 h1)
  cases hs : smI c with
  | true =>
    have E : Hid (bgI c = true) := by show _ = _; simp [bgI, hs]
    rw [hs] at HC
    clear hs
    go_enter Tryd.func46, Tryd.ntmps46
    go_wp2_with (go_at_call 65; (with_reducible refine HC.out.mono ?_); rintro e w' ⟨rfl, rfl⟩)
    go_ret
    exact ⟨by rw [E.out]; rfl, rfl⟩
  | false =>
    rw [hs] at HC
    by_cases q : c = 40 ∨ c = 41 ∨ c = 124 ∨ c = 42 ∨ c = 43 ∨ c = 63 ∨ c = 123
    · have E : Hid (bgI c = true) := by show _ = _; simp only [bgI, hs]; rcases q with rfl | rfl | rfl | rfl | rfl | rfl | rfl <;> rfl
      clear hs
      rcases q with rfl | rfl | rfl | rfl | rfl | rfl | rfl
      all_goals (
        go_enter Tryd.func46, Tryd.ntmps46
        go_wp2_with (go_at_call 65; (with_reducible refine HC.out.mono ?_); rintro e w' ⟨rfl, rfl⟩)
        go_ret
        exact ⟨by rw [E.out]; rfl, rfl⟩)
    · simp only [not_or] at q
      obtain ⟨q0, q1, q2, q3, q4, q5, q6⟩ := q
      have E : Hid (bgI c = false) := by show _ = _; simp [bgI, hs, q0, q1, q2, q3, q4, q5, q6]
      have t0 : (c == 40) = false := by simp [q0]
      have t1 : (c == 41) = false := by simp [q1]
      have t2 : (c == 124) = false := by simp [q2]
      have t3 : (c == 42) = false := by simp [q3]
      have t4 : (c == 43) = false := by simp [q4]
      have t5 : (c == 63) = false := by simp [q5]
      have t6 : (c == 123) = false := by simp [q6]
      clear hs q0 q1 q2 q3 q4 q5 q6
      go_enter Tryd.func46, Tryd.ntmps46
      go_wp2_with (go_at_call 65; (with_reducible refine HC.out.mono ?_); rintro e w' ⟨rfl, rfl⟩)
      go_ret
      exact ⟨by rw [E.out]; rfl, rfl⟩
end Go.Proofs.YtegkimcfmdckbabDoor.Lx
