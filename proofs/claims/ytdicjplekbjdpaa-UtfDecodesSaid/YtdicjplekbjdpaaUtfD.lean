/- Walk of utf: Next. -/
import Derived.Test.YtdicjplekbjdpaaUtfC
namespace Go.Proofs.Ytdicjplekbjdpaa.Utf
open Go.RowKit Mem
set_option linter.unusedVariables false

theorem cont_at (zs : List Int) (A : Option Addr) (p k b n cp : Nat) (v : Bool) (hv : contB zs (p + 1 + k) = v) (w : World) (hr : Row .u8 w A n zs) (hn : n ≤ maxLen) (hc : w.cell? ⟨b, 0, none⟩ = some (.slice A n cp)) :
    Calls Try.prog 22 #[.int .i64 ((p : Int) + 1 + (k : Int)), .pointer (some ⟨b, 0, none⟩)] w fun e w' => e = .returned (.bool v) ∧ w = w' := by
  have := cont_any (p + 1 + k) b n cp A zs w hr hn hc
  rw [hv] at this
  rwa [show ((p + 1 + k : Nat) : Int) = (p : Int) + 1 + (k : Int) from by omega] at this

/-- what stands at a place, or that nothing does -/
def UNext (W : World) (zs : List Int) (p : Nat) (e : Ending) (w' : World) : Prop :=
  Below W.heap.size W w' ∧ ((∃ r, At zs p r ∧ e = .returned (.tuple #[.int .i32 r, .int .i64 ((bytes r).length : Int), .int .i64 0])) ∨ ((∀ r, ¬ At zs p r) ∧ e = .returned (.tuple #[.int .i32 0, .int .i64 0, .int .i64 11])))

theorem unext_out (A : Option Addr) (n c : Nat) (p : Int) (w : World) (hn : n ≤ maxLen) (hp : p < 0 ∨ n ≤ p) :
    Calls Try.prog 13 #[.slice A n c, .int .i64 p] w fun e w' => e = .returned (.tuple #[.int .i32 0, .int .i64 0, .int .i64 3]) ∧ Below w.heap.size w w' := by
  unfold maxLen at hn
  by_cases h : p < 0
  · go_enter Try.func13, Try.ntmps13
    go_wp2
    go_ret3
    exact ⟨rfl, (Below.refl _ _).alloc (Nat.le_refl _) _⟩
  · have h' : (n : Int) ≤ p := by omega
    go_enter Try.func13, Try.ntmps13
    go_wp2
    go_ret3
    exact ⟨rfl, (Below.refl _ _).alloc (Nat.le_refl _) _⟩

set_option maxHeartbeats 1000000 in
theorem unext_any (zs : List Int) (A : Option Addr) (n c p : Nat) (w : World) (hr : Row .u8 w A n zs) (hn : n ≤ 100000) (hp : p < n) :
    Calls Try.prog 13 #[.slice A n c, .int .i64 p] w (UNext w zs p) := by
  have hlz := hr.1
  have hnn : n ≤ maxLen := by unfold maxLen; omega
  obtain ⟨b, off, rfl, hbl, hx⟩ := hr.at_ (by omega)
  obtain ⟨O, hO⟩ : ∃ O, O = Obj.cells #[Value.slice (some ⟨b, off, none⟩) n c] 22 (0, 0) := ⟨_, rfl⟩
  have hr1 : Row .u8 (w.alloc O) (some ⟨b, off, none⟩) n zs := hr.alloc O
  have hb1 : Below w.heap.size w (w.alloc O) := (Below.refl _ _).alloc (Nat.le_refl _) _
  subst hO
  have hc0 : (w.alloc (Obj.cells #[Value.slice (some ⟨b, off, none⟩) n c] 22 (0, 0))).cell? ⟨w.heap.size, 0, none⟩ = some (.slice (some ⟨b, off, none⟩) n c) := by rw [World.cell?_alloc_mark]; rfl
  have hC0 := Lib.hid hc0
  clear hc0
  have hxp := hx p hp
  have hbp := hr.byte p
  have hby := hr.byte
  obtain ⟨c0, hcc⟩ : ∃ c0, c0 = zs.getD p 0 := ⟨_, rfl⟩
  rw [← hcc] at hxp hbp
  have hN4 := headN_le c0
  have hab := acc_bd zs p c0 hbp.1 hbp.2
  have hR := Lib.hid hr1
  have hB := Lib.hid hb1
  have hY := Lib.hid hby
  have hAB := Lib.hid hab
  have hX := Lib.hid hx
  have hC := Lib.hid hcc
  have hZ := Lib.hid hlz
  clear hr1 hb1 hby hab hx hcc hlz hr
  obtain ⟨N, hNN⟩ : ∃ N, N = headN c0 := ⟨_, rfl⟩
  rw [← hNN] at hN4
  have hh := head_any c0 w
  rw [← hNN] at hh
  have hNH := Lib.hid hNN
  clear hNN hh
  go_enter Try.func13, Try.ntmps13
  go_wp2_with (go_at_call 23; refine (head_any c0 _ hbp.1 hbp.2).mono ?_; rw [← hNH.out]; rintro e w' ⟨rfl, rfl⟩)
  go_loop [8, 31] (fun r i => ∃ k : Nat, k ≤ N - 1 ∧ i = .int .i64 k ∧ r = .int .i32 (acc zs p (headR c0) k) ∧ ∀ j, j < k → contB zs (p + 1 + j) = true) (fun _ i => N - (intOf i).toNat)
  case atStart => exact ⟨0, Nat.zero_le _, rfl, rfl, fun j h => absurd h (by omega)⟩
  case round =>
    obtain ⟨k, hk, rfl, rfl, hco⟩ := hrel
    have hCO := Lib.hid hco
    clear hco
    by_cases hlt : k < N - 1
    · have hacc := hAB.out k (by rw [← hNH.out]; omega)
      rw [← hNH.out] at hacc
      obtain ⟨a, ha⟩ : ∃ a, a = acc zs p (headR c0) k := ⟨_, rfl⟩
      rw [← ha] at hacc
      have hacc2 : a < 32768 := hacc.2.2 (by omega)
      have hacc1 : 0 ≤ a := hacc.1
      clear hacc
      have hz := hY.out (p + 1 + k)
      obtain ⟨z, hzz⟩ : ∃ z, z = zs.getD (p + 1 + k) 0 := ⟨_, rfl⟩
      rw [← hzz] at hz
      have hsucc : acc zs p (headR c0) (k + 1) = 64 * a + z % 64 := by rw [ha, hzz]; rfl
      have hS := Lib.hid hsucc
      rw [← ha]
      have hA := Lib.hid ha
      clear ha hsucc
      cases hcv : contB zs (p + 1 + k)
      · have hV := Lib.hid hcv
        clear hcv hzz
        go_wp2_with (go_at_call 22; refine (cont_at zs _ p k _ n c false hV.out _ hR.out hnn hC0.out).mono ?_; rintro e w' ⟨rfl, rfl⟩)
        go_ret3
        refine ⟨hB.out, .inr ⟨fun r h => ?_, rfl⟩⟩
        have h1 := h.says.2.2.1 k (by rw [← hC.out, ← hNH.out]; omega)
        rw [hV.out] at h1; exact absurd h1 Bool.noConfusion
      · have hV := Lib.hid hcv
        have hin : p + 1 + k < n := by
          have := (of_decide_eq_true (show decide (p + 1 + k < zs.length ∧ zs.getD (p + 1 + k) 0 / 64 = 2) = true from hcv)).1
          rw [hZ.out] at this; exact this
        have hxk := hX.out (p + 1 + k) hin
        rw [← hzz] at hxk
        have hbits : bits .or .i32 (64 * a) (z % 64) = 64 * a + z % 64 := or_join 6 _ _ (by omega) (by omega) (by omega) (by omega) (by omega) (by simp) (by omega)
        clear hcv hzz
        go_wp2_with (go_at_call 22; refine (cont_at zs _ p k _ n c true hV.out _ hR.out hnn hC0.out).mono ?_; rintro e w' ⟨rfl, rfl⟩)
        go_round
        case rel => exact ⟨k + 1, by omega, by go_num, by rw [hS.out, Int.mul_comm], fun j hj => by
          rcases Nat.lt_or_ge j k with h | h
          · exact hCO.out j h
          · obtain rfl : j = k := by omega
            exact hV.out⟩
        case measure => simp [intOf]; omega
    · by_cases h0 : N = 0
      · subst h0
        go_wp2
        go_ret3
        refine ⟨hB.out, .inr ⟨fun r h => ?_, rfl⟩⟩
        have h1 := h.says.2.1
        rw [← hC.out, ← hNH.out] at h1
        have h2 := (bytes_length r).1
        omega
      · obtain rfl : k = N - 1 := by omega
        have t0 : ((N : Int) == 0) = false := by simp; omega
        obtain ⟨a, ha⟩ : ∃ a, a = acc zs p (headR c0) (N - 1) := ⟨_, rfl⟩
        rw [← ha]
        have hA := Lib.hid ha
        clear ha
        by_cases hl : lenI a = (N : Int)
        · have t1 : (lenI a != (N : Int)) = false := by simp [hl]
          have hyes : At zs p a ∧ (bytes a).length = N := by
            have h1 := At.mk' (zs := zs) (p := p) (by rw [hZ.out]; exact hp) hY.out (fun j hj => hCO.out j (by rw [← hC.out, ← hNH.out] at hj; omega)) (by rw [← hC.out, ← hNH.out]; omega)
              (by rw [← hC.out, ← hNH.out, ← hA.out]; exact hl)
            rw [← hC.out, ← hNH.out, ← hA.out] at h1
            have h2 := lenI_bytes h1.1
            exact ⟨h1, by omega⟩
          have hYES := Lib.hid hyes
          clear hyes hl
          go_wp2_with (go_at_call 11; refine (len_any a _).mono ?_; rintro e w' ⟨rfl, rfl⟩)
          go_ret3
          exact ⟨hB.out, .inl ⟨a, hYES.out.1, by rw [hYES.out.2]; rfl⟩⟩
        · have t1 : (lenI a != (N : Int)) = true := by simp [hl]
          have hno : ∀ r, ¬ At zs p r := fun r h => by
            have h1 := h.says
            rw [← hC.out, ← hNH.out, ← hA.out] at h1
            rw [h1.2.2.2.1] at hl
            exact hl h1.2.2.2.2
          have hNO := Lib.hid hno
          clear hno hl
          go_wp2_with (go_at_call 11; refine (len_any a _).mono ?_; rintro e w' ⟨rfl, rfl⟩)
          go_ret3
          exact ⟨hB.out, .inr ⟨hNO.out, rfl⟩⟩
end Go.Proofs.Ytdicjplekbjdpaa.Utf
