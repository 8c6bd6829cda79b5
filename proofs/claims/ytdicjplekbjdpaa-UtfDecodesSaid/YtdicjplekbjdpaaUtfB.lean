/- Walks of the reference of utf: Bytes, guess. -/
import Derived.Test.YtdicjplekbjdpaaUtfA
import Derived.Deep.QuietTactic
namespace Go.Proofs.Ytdicjplekbjdpaa.Utf
open Go.RowKit Mem
set_option linter.unusedVariables false

/-- a slice of bytes that the call made, or that it hands on -/
def IsSl (W : World) (zs : List Int) (e : Ending) (w' : World) : Prop := ∃ A c, e = .returned (.slice A zs.length c) ∧ zs.length ≤ c ∧ Row .u8 w' A zs.length zs ∧ Below W.heap.size W w'

theorem row_alloc (w : World) (zs : List Int) (t : TypeId) (n : Nat) (hn : zs.length = n) (hz : ∀ z ∈ zs, 0 ≤ z ∧ z ≤ 255) :
    Row .u8 (w.alloc (.cells (zs.map (Value.int .u8)).toArray t)) (some ⟨w.heap.size, 0, none⟩) n zs := by
  refine ⟨hn, fun z h => WalkArith.wf_u8 (by have := hz z h; omega), fun _ => ⟨w.heap.size, 0, rfl, fun j hj => ?_⟩⟩
  have hj' : j < zs.length := by omega
  rw [Nat.zero_add, World.cell?_alloc_mark]
  simp [List.getD, List.getElem?_eq_getElem hj']

theorem bytes_any (r : Int) (w : World) (hr : rtB r = true) : Calls Try.prog 12 #[.int .i32 r] w (IsSl w (bytes r)) := by
  have h := of_rtB hr
  have hb := bytes_byte hr
  by_cases a : r < 128
  · have e : bytes r = [r] := by simp [bytes, a]
    rw [e] at hb ⊢
    have hrow := row_alloc w [r] 5 1 rfl hb
    have H := Lib.hid hrow
    clear hrow hr e hb
    go_enter Try.func12, Try.ntmps12
    go_wp2
    go_ret
    exact ⟨_, _, rfl, Nat.le_refl _, H.out, (Below.refl _ _).alloc (Nat.le_refl _) _⟩
  · by_cases b : r < 2048
    · have e : bytes r = [192 + r / 64, 128 + r % 64] := by simp [bytes, a, b]
      rw [e] at hb ⊢
      have hrow := row_alloc w [192 + r / 64, 128 + r % 64] 5 2 rfl hb
      have H := Lib.hid hrow
      clear hrow hr e hb
      go_enter Try.func12, Try.ntmps12
      go_wp2
      go_ret
      exact ⟨_, _, rfl, Nat.le_refl _, H.out, (Below.refl _ _).alloc (Nat.le_refl _) _⟩
    · by_cases c : r < 65536
      · have e : bytes r = [224 + r / 4096, 128 + r / 64 % 64, 128 + r % 64] := by simp [bytes, a, b, c]
        rw [e] at hb ⊢
        have hrow := row_alloc w [224 + r / 4096, 128 + r / 64 % 64, 128 + r % 64] 5 3 rfl hb
        have H := Lib.hid hrow
        clear hrow hr e hb
        go_enter Try.func12, Try.ntmps12
        go_wp2
        go_ret
        exact ⟨_, _, rfl, Nat.le_refl _, H.out, (Below.refl _ _).alloc (Nat.le_refl _) _⟩
      · have e : bytes r = [240 + r / 262144, 128 + r / 4096 % 64, 128 + r / 64 % 64, 128 + r % 64] := by simp [bytes, a, b, c]
        rw [e] at hb ⊢
        have hrow := row_alloc w [240 + r / 262144, 128 + r / 4096 % 64, 128 + r / 64 % 64, 128 + r % 64] 5 4 rfl hb
        have H := Lib.hid hrow
        clear hrow hr e hb
        go_enter Try.func12, Try.ntmps12
        go_wp2
        go_ret
        exact ⟨_, _, rfl, Nat.le_refl _, H.out, (Below.refl _ _).alloc (Nat.le_refl _) _⟩

/-- the letter that bytes would be, if they are so many -/
def gs (zs : List Int) (p m : Nat) : Int :=
  if m = 1 then zs.getD p 0 else if m = 2 then 64 * (zs.getD p 0 - 192) + zs.getD (p + 1) 0 - 128
  else if m = 3 then 64 * (64 * (zs.getD p 0 - 224) + zs.getD (p + 1) 0 - 128) + zs.getD (p + 2) 0 - 128
  else 64 * (64 * (64 * (zs.getD p 0 - 240) + zs.getD (p + 1) 0 - 128) + zs.getD (p + 2) 0 - 128) + zs.getD (p + 3) 0 - 128

theorem gs_bd (zs : List Int) (p m : Nat) (h : ∀ j, 0 ≤ zs.getD j 0 ∧ zs.getD j 0 ≤ 255) : -100000000 ≤ gs zs p m ∧ gs zs p m ≤ 100000000 := by
  have h0 := h p
  have h1 := h (p + 1)
  have h2 := h (p + 2)
  have h3 := h (p + 3)
  unfold gs; split
  · omega
  · split
    · omega
    · split <;> omega

theorem guess_any (zs : List Int) (A : Option Addr) (n c p m : Nat) (w : World) (hr : Row .u8 w A n zs) (hn : n ≤ maxLen) (hm : 1 ≤ m) (hm4 : m ≤ 4) (hp : p + m ≤ n) :
    Calls Try.prog 24 #[.slice A n c, .int .i64 p, .int .i64 m] w fun e w' => e = .returned (.int .i64 (gs zs p m)) ∧ w = w' := by
  obtain ⟨b, off, rfl, _, hx⟩ := hr.at_ (by omega)
  unfold maxLen at hn
  have x0 := hx p (by omega)
  have y0 := hr.byte p
  obtain ⟨c0, hc0⟩ : ∃ c0, c0 = zs.getD p 0 := ⟨_, rfl⟩
  rw [← hc0] at x0 y0
  have : m = 1 ∨ m = 2 ∨ m = 3 ∨ m = 4 := by omega
  rcases this with rfl | rfl | rfl | rfl
  · have E : Hid (gs zs p 1 = c0) := by show _ = _; unfold gs; rw [if_pos rfl, ← hc0]
    clear hx hc0 hr
    go_enter Try.func24, Try.ntmps24
    go_wp2
    go_ret
    exact ⟨ret_int E.out.symm, rfl⟩
  · have x1 := hx (p + 1) (by omega)
    have y1 := hr.byte (p + 1)
    obtain ⟨c1, hc1⟩ : ∃ c0, c0 = zs.getD (p + 1) 0 := ⟨_, rfl⟩
    rw [← hc1] at x1 y1
    have E : Hid (gs zs p 2 = 64 * (c0 - 192) + c1 - 128) := by show _ = _; unfold gs; rw [if_neg (by decide), if_pos rfl, ← hc0, ← hc1]
    clear hx hc0 hc1 hr
    go_enter Try.func24, Try.ntmps24
    go_wp2
    refine wp_loop_rounds 2 ?_
    rw [rounds_succ]; go_wp2
    rw [rounds_succ]; go_wp2
    go_ret
    exact ⟨ret_int E.out.symm, rfl⟩
  · have x1 := hx (p + 1) (by omega)
    have y1 := hr.byte (p + 1)
    obtain ⟨c1, hc1⟩ : ∃ c0, c0 = zs.getD (p + 1) 0 := ⟨_, rfl⟩
    rw [← hc1] at x1 y1
    have x2 := hx (p + 2) (by omega)
    have y2 := hr.byte (p + 2)
    obtain ⟨c2, hc2⟩ : ∃ c0, c0 = zs.getD (p + 2) 0 := ⟨_, rfl⟩
    rw [← hc2] at x2 y2
    have E : Hid (gs zs p 3 = 64 * (64 * (c0 - 224) + c1 - 128) + c2 - 128) := by show _ = _; unfold gs; rw [if_neg (by decide), if_neg (by decide), if_pos rfl, ← hc0, ← hc1, ← hc2]
    clear hx hc0 hc1 hc2 hr
    go_enter Try.func24, Try.ntmps24
    go_wp2
    refine wp_loop_rounds 3 ?_
    rw [rounds_succ]; go_wp2
    rw [rounds_succ]; go_wp2
    rw [rounds_succ]; go_wp2
    go_ret
    exact ⟨ret_int E.out.symm, rfl⟩
  · have x1 := hx (p + 1) (by omega)
    have y1 := hr.byte (p + 1)
    obtain ⟨c1, hc1⟩ : ∃ c0, c0 = zs.getD (p + 1) 0 := ⟨_, rfl⟩
    rw [← hc1] at x1 y1
    have x2 := hx (p + 2) (by omega)
    have y2 := hr.byte (p + 2)
    obtain ⟨c2, hc2⟩ : ∃ c0, c0 = zs.getD (p + 2) 0 := ⟨_, rfl⟩
    rw [← hc2] at x2 y2
    have x3 := hx (p + 3) (by omega)
    have y3 := hr.byte (p + 3)
    obtain ⟨c3, hc3⟩ : ∃ c0, c0 = zs.getD (p + 3) 0 := ⟨_, rfl⟩
    rw [← hc3] at x3 y3
    have E : Hid (gs zs p 4 = 64 * (64 * (64 * (c0 - 240) + c1 - 128) + c2 - 128) + c3 - 128) := by show _ = _; unfold gs; rw [if_neg (by decide), if_neg (by decide), if_neg (by decide), ← hc0, ← hc1, ← hc2, ← hc3]
    clear hx hc0 hc1 hc2 hc3 hr
    go_enter Try.func24, Try.ntmps24
    go_wp2
    refine wp_loop_rounds 4 ?_
    rw [rounds_succ]; go_wp2
    rw [rounds_succ]; go_wp2
    rw [rounds_succ]; go_wp2
    rw [rounds_succ]; go_wp2
    go_ret
    exact ⟨ret_int E.out.symm, rfl⟩
end Go.Proofs.Ytdicjplekbjdpaa.Utf
