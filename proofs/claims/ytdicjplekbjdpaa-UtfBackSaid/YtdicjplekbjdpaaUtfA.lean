/- Walks of the small functions of utf and its reference. -/
import Derived.Test.YtdicjplekbjdpaaUtfMath
import Derived.Test.YtdicjplekbjdpaaMem
import Derived.Test.YtdicjplekbjdpaaRows
import Derived.WalkKit
import Derived.ProofKit
import Derived.WalkSpells
import Derived.WalkLawsBesides
import Derived.BigQuiet
import Derived.Lib.Hide
namespace Go.Proofs.Ytdicjplekbjdpaa.Utf
open Go.RowKit Mem
set_option linter.unusedVariables false

theorem ret_int {k : IntKind} {a b : Int} (h : a = b) : Ending.returned (.int k a) = .returned (.int k b) := by rw [h]

theorem right_any (r : Int) (w : World) : Calls Try.prog 10 #[.int .i32 r] w fun e w' => e = .returned (.bool (rtB r)) ∧ w = w' := by
  by_cases h1 : 0 ≤ r
  · by_cases h2 : r ≤ 1114111
    · by_cases h3 : r < 55296
      · rw [rtB_true ⟨h1, h2, .inl h3⟩]
        go_enter Try.func10, Try.ntmps10
        go_wp2
        go_ret
        exact ⟨rfl, rfl⟩
      · by_cases h4 : 57343 < r
        · rw [rtB_true ⟨h1, h2, .inr h4⟩]
          go_enter Try.func10, Try.ntmps10
          go_wp2
          go_ret
          exact ⟨rfl, rfl⟩
        · rw [rtB_false (by omega)]
          go_enter Try.func10, Try.ntmps10
          go_wp2
          go_ret
          exact ⟨rfl, rfl⟩
    · rw [rtB_false (by omega)]
      go_enter Try.func10, Try.ntmps10
      go_wp2
      go_ret
      exact ⟨rfl, rfl⟩
  · rw [rtB_false (by omega)]
    go_enter Try.func10, Try.ntmps10
    go_wp2
    go_ret
    exact ⟨rfl, rfl⟩

theorem rright_any (r : Int) (w : World) : Calls Try.prog 9 #[.int .i32 r] w fun e w' => e = .returned (.bool (rtB r)) ∧ w = w' := by
  by_cases h1 : 0 ≤ r
  · by_cases h2 : r ≤ 1114111
    · by_cases h3 : r < 55296
      · rw [rtB_true ⟨h1, h2, .inl h3⟩]
        go_enter Try.func9, Try.ntmps9
        go_wp2
        go_ret
        exact ⟨rfl, rfl⟩
      · by_cases h4 : 57343 < r
        · rw [rtB_true ⟨h1, h2, .inr h4⟩]
          go_enter Try.func9, Try.ntmps9
          go_wp2
          go_ret
          exact ⟨rfl, rfl⟩
        · rw [rtB_false (by omega)]
          go_enter Try.func9, Try.ntmps9
          go_wp2
          go_ret
          exact ⟨rfl, rfl⟩
    · rw [rtB_false (by omega)]
      go_enter Try.func9, Try.ntmps9
      go_wp2
      go_ret
      exact ⟨rfl, rfl⟩
  · rw [rtB_false (by omega)]
    go_enter Try.func9, Try.ntmps9
    go_wp2
    go_ret
    exact ⟨rfl, rfl⟩

theorem right_yes (r : Int) (h : rtB r = true) (w : World) : Calls Try.prog 10 #[.int .i32 r] w fun e w' => e = .returned (.bool true) ∧ w = w' :=
  (right_any r w).mono fun _ _ ⟨he, hw⟩ => ⟨by rw [he, h], hw⟩
theorem right_no (r : Int) (h : rtB r = false) (w : World) : Calls Try.prog 10 #[.int .i32 r] w fun e w' => e = .returned (.bool false) ∧ w = w' :=
  (right_any r w).mono fun _ _ ⟨he, hw⟩ => ⟨by rw [he, h], hw⟩

theorem len_any (r : Int) (w : World) : Calls Try.prog 11 #[.int .i32 r] w fun e w' => e = .returned (.int .i64 (lenI r)) ∧ w = w' := by
  cases h : rtB r
  · have e0 := lenI_zero h
    go_enter Try.func11, Try.ntmps11
    go_wp2_with (go_at_call 10; refine (right_no r h _).mono ?_; rintro e w' ⟨rfl, rfl⟩)
    go_ret
    exact ⟨ret_int e0.symm, rfl⟩
  · have hr := of_rtB h
    have e0 : lenI r = if r < 128 then 1 else if r < 2048 then 2 else if r < 65536 then 3 else 4 := by unfold lenI; rw [if_neg (by simp [h])]
    have E0 := Lib.hid e0
    clear e0
    go_enter Try.func11, Try.ntmps11
    go_wp2_with (go_at_call 10; refine (right_yes r h _).mono ?_; rintro e w' ⟨rfl, rfl⟩)
    all_goals
      go_ret
      refine ⟨ret_int ?_, rfl⟩
      rw [E0.out]
      repeat (first | rw [if_pos (by omega)] | rw [if_neg (by omega)])

theorem head_any (c : Int) (w : World) (h0 : 0 ≤ c) (h1 : c ≤ 255) : Calls Try.prog 23 #[.int .u8 c] w fun e w' => e = .returned (.tuple #[.int .i32 (headR c), .int .i64 (headN c)]) ∧ w = w' := by
  by_cases a : c < 128
  · have E1 : Hid (headR c = c) := by show headR c = c; simp [headR, a]
    have E2 : Hid (headN c = 1) := by show headN c = 1; simp [headN, a]
    go_enter Try.func23, Try.ntmps23
    go_wp2
    go_ret2
    exact ⟨by rw [E1.out, E2.out]; rfl, rfl⟩
  · by_cases b : c / 32 = 6
    · have E1 : Hid (headR c = c % 32) := by show headR c = c % 32; simp [headR, a, b]
      have E2 : Hid (headN c = 2) := by show headN c = 2; simp [headN, a, b]
      have tb : (c / 32 == 6) = true := by simp [b]
      clear b
      go_enter Try.func23, Try.ntmps23
      go_wp2
      go_ret2
      exact ⟨by rw [E1.out, E2.out]; rfl, rfl⟩
    · have tb : (c / 32 == 6) = false := by simp [b]
      by_cases d : c / 16 = 14
      · have E1 : Hid (headR c = c % 16) := by show headR c = c % 16; simp [headR, a, b, d]
        have E2 : Hid (headN c = 3) := by show headN c = 3; simp [headN, a, b, d]
        have td : (c / 16 == 14) = true := by simp [d]
        clear b d
        go_enter Try.func23, Try.ntmps23
        go_wp2
        go_ret2
        exact ⟨by rw [E1.out, E2.out]; rfl, rfl⟩
      · have td : (c / 16 == 14) = false := by simp [d]
        by_cases f : c / 8 = 30
        · have E1 : Hid (headR c = c % 8) := by show headR c = c % 8; simp [headR, a, b, d, f]
          have E2 : Hid (headN c = 4) := by show headN c = 4; simp [headN, a, b, d, f]
          have tf : (c / 8 == 30) = true := by simp [f]
          clear b d f
          go_enter Try.func23, Try.ntmps23
          go_wp2
          go_ret2
          exact ⟨by rw [E1.out, E2.out]; rfl, rfl⟩
        · have E1 : Hid (headR c = 0) := by show headR c = 0; simp [headR, a, b, d, f]
          have E2 : Hid (headN c = 0) := by show headN c = 0; simp [headN, a, b, d, f]
          have tf : (c / 8 == 30) = false := by simp [f]
          clear b d f
          go_enter Try.func23, Try.ntmps23
          go_wp2
          go_ret2
          exact ⟨by rw [E1.out, E2.out]; rfl, rfl⟩

/-- the closure of Next: does a byte continue -/
theorem cont_any (i b n cp : Nat) (A : Option Addr) (zs : List Int) (w : World) (hr : Row .u8 w A n zs) (hn : n ≤ maxLen) (hc : w.cell? ⟨b, 0, none⟩ = some (.slice A n cp)) :
    Calls Try.prog 22 #[.int .i64 i, .pointer (some ⟨b, 0, none⟩)] w fun e w' => e = .returned (.bool (contB zs i)) ∧ w = w' := by
  unfold maxLen at hn
  by_cases h : i < n
  · obtain ⟨g, off, rfl, _, hx⟩ := hr.at_ (by omega)
    have hxi := hx i h
    have hb := hr.byte i
    obtain ⟨c, hcc⟩ : ∃ c, c = zs.getD i 0 := ⟨_, rfl⟩
    rw [← hcc] at hxi hb
    have E : Hid (contB zs i = (c / 64 == 2)) := by
      show contB zs i = (c / 64 == 2)
      unfold contB; rw [← hcc, hr.1]; rw [Bool.eq_iff_iff]; simp [h]
    clear hx hcc hr
    go_enter Try.func22, Try.ntmps22
    go_wp2
    go_ret
    exact ⟨by rw [E.out]; rfl, rfl⟩
  · have E : Hid (contB zs i = false) := by
      show contB zs i = false
      unfold contB; rw [hr.1]; simp [h]
    clear hr
    go_enter Try.func22, Try.ntmps22
    go_wp2
    go_ret
    exact ⟨by rw [E.out]; rfl, rfl⟩

/-- the closure of lay: a byte that continues -/
theorem more_any (s : Nat) (r : Int) (b : Nat) (w : World) (hs2 : s ≤ 20) (hr : 0 ≤ r) (hr2 : r ≤ 1114111) (hc : w.cell? ⟨b, 0, none⟩ = some (.int .i32 r)) :
    Calls Try.prog 28 #[.int .i64 s, .pointer (some ⟨b, 0, none⟩)] w fun e w' => e = .returned (.int .u8 (128 + r / 2 ^ s % 64)) ∧ w = w' := by
  have hp : (0 : Int) < 2 ^ s := Int.pow_pos (by omega)
  have q0 : 0 ≤ r / 2 ^ s := Int.ediv_nonneg hr (by omega)
  have q1 : r / 2 ^ s ≤ r := Int.ediv_le_self _ hr
  have E : Hid (bits .or .i32 128 (bits .and .i32 (r / 2 ^ s) 63) % 256 = 128 + r / 2 ^ s % 64) := by
    show _ = _
    rw [and63 _ q0 (by omega), or_join 6 128 _ (by omega) (by omega) (by omega) (by omega) (by omega) (by decide) (by omega)]
    omega
  clear hp
  go_enter Try.func28, Try.ntmps28
  go_wp2
  go_ret
  exact ⟨ret_int (by first | exact E.out | (have := E.out; simpa using this)), rfl⟩
end Go.Proofs.Ytdicjplekbjdpaa.Utf
