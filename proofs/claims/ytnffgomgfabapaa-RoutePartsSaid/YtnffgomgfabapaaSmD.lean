/- Walks: the reference's Shift and Right; the program's Right. -/
import Derived.Test.YtnffgomgfabapaaSmC
import Derived.Deep.QuietTactic
import Derived.BigQuiet
namespace Go.Proofs.Ytnffgomgfabapaa.Sm
open Go.RowKit Mem
set_option linter.unusedVariables false

theorem RLow.at_ {n₀ : Nat} {W : World} {A : Option Addr} {m : Nat} {l : List Rg} (h : RLow n₀ W A m l) (hm : 0 < m) : ∃ b off, A = some ⟨b, off, none⟩ ∧ ∀ j, j < m → W.cell? ⟨b, off + j * 3, none⟩ = some (.int .i64 (rg l j).at_) ∧ W.cell? ⟨b, off + j * 3 + 1, none⟩ = some (.int .i64 (rg l j).old) ∧ W.cell? ⟨b, off + j * 3 + 2, none⟩ = some (.int .i64 (rg l j).new) := by
  obtain ⟨b, off, e, hb, hc⟩ := h.2 hm
  exact ⟨b, off, e, fun j hj => (hc j hj).cells⟩
theorem RLow.drewN {n₀ : Nat} {W : World} {A : Option Addr} {m : Nat} {l : List Rg} (h : RLow n₀ W A m l) (q : Nat) : RLow n₀ (W.drewN q) A m l := h

set_option maxHeartbeats 1000000 in
theorem rshift_any (n₀ : Nat) (l : List Rg) (A : Option Addr) (m c k : Nat) (w : World) (hok : okTo l m) (hm : m ≤ 100) (hk : k ≤ m) (hr : RLow n₀ w A m l) :
    Calls Try.prog 37 #[.slice A m c, .int .i64 k] w fun e w' => e = .returned (.int .i64 (sh l k)) ∧ ∃ q, w' = w.drewN q := by
  have HR := Lib.hid hr
  have HOK := Lib.hid hok
  clear hr hok
  go_enter Try.func37, Try.ntmps37
  go_wp2
  go_loopw [5, 6] (fun s j wr => ∃ (i : Nat) (z : Int), i ≤ k ∧ j = .int .i64 i ∧ s = .int .i64 z ∧ Hid (z = sh l i) ∧ ∃ q, wr = w.drewN q) (fun _ j _ => k - (intOf j).toNat)
  case atStart => exact ⟨0, 0, by omega, rfl, rfl, Lib.hid rfl, 0, rfl⟩
  case round =>
    obtain ⟨i, z, hi, rfl, rfl, HZ, q, rfl⟩ := hrel
    by_cases hlt : i < k
    · obtain ⟨b, off, rfl, hc⟩ := HR.out.at_ (by omega)
      obtain ⟨c0, c1, c2⟩ := hc i (by omega)
      clear hc
      have hf := (HOK.out i (by omega)).1
      have hs := far_sh (HOK.out.mono (by omega) : okTo l i) (by omega)
      have hz := sh_succ l i
      rw [← HZ.out] at hs hz
      unfold far at hs
      unfold Rg.fits at hf
      have HZ' := Lib.hid hz
      have i1 : (0 : Int) ≤ (i : Int) := by omega
      have i2 : (i : Int) < (m : Int) := by omega
      clear hz
      generalize rg l i = r at *
      obtain ⟨a, o, n⟩ := r
      simp only at c0 c1 c2 hf HZ'
      go_wp2_with fail
      go_quiet (fail)
      go_wp2
      go_roundw
      case rel => exact ⟨i + 1, _, by omega, by go_num, rfl, Lib.hid HZ'.out.symm, _, rfl⟩
      case measure => simp [intOf]; omega
    · obtain rfl : i = k := by omega
      go_wp2
      go_ret
      exact ⟨by rw [← HZ.out]; rfl, _, rfl⟩

theorem not_fits {a o n : Int} (h : ¬ (Rg.fits ⟨a, o, n⟩)) : a < 0 ∨ (0 ≤ a ∧ o < 0) ∨ (0 ≤ a ∧ 0 ≤ o ∧ n < 0) ∨ (0 ≤ a ∧ 0 ≤ o ∧ 0 ≤ n ∧ 1073741824 < a) ∨ (0 ≤ a ∧ 0 ≤ o ∧ 0 ≤ n ∧ a ≤ 1073741824 ∧ 1073741824 < o) ∨ (0 ≤ a ∧ 0 ≤ o ∧ 0 ≤ n ∧ a ≤ 1073741824 ∧ o ≤ 1073741824 ∧ 1073741824 < n) := by
  unfold Rg.fits at h
  simp only at h
  omega
theorem okAt_zero {l : List Rg} (h : (rg l 0).fits) : okAt l 0 := ⟨h, fun h => absurd h (by omega)⟩

set_option maxHeartbeats 2000000 in
theorem rright_any (l : List Rg) (A : Option Addr) (m c : Nat) (w : World) (hm : m ≤ 100) (hr : RLow w.heap.size w A m l) :
    Calls Try.prog 22 #[.slice A m c] w fun e w' => e = .returned (.bool (rightB l)) ∧ Below w.heap.size w w' := by
  have HR := Lib.hid hr
  have HL := Lib.hid hr.1
  obtain ⟨rb, hrb⟩ : ∃ b, b = rightB l := ⟨_, rfl⟩
  rw [← hrb]
  have HB := Lib.hid hrb
  clear hr hrb
  go_enter Try.func22, Try.ntmps22
  go_wp2
  go_loopw [3] (fun j wr => ∃ (i : Nat), i ≤ m ∧ j = .int .i64 i ∧ Hid (okTo l i) ∧ Hid (Below w.heap.size w wr)) (fun j _ => m - (intOf j).toNat)
  case atStart => exact ⟨0, by omega, rfl, Lib.hid (okTo_zero _), Lib.hid (Below.refl _ _)⟩
  case round =>
    obtain ⟨i, hi, rfl, HO, HW⟩ := hrel
    have hws : w.heap.size ≤ wr.heap.size := HW.out.size
    by_cases hlt : i < m
    · obtain ⟨b, off, rfl, hc⟩ := (HR.out.below HW.out (Nat.le_refl _)).at_ (by omega)
      obtain ⟨b', off', e', hbl, _⟩ := HR.out.2 (by omega)
      injection e' with e'
      injection e' with e1 e2 e3
      subst e1; subst e2
      obtain ⟨c0, c1, c2⟩ := hc i hlt
      have i1 : (0 : Int) ≤ (i : Int) := by omega
      have i2 : (i : Int) < (m : Int) := by omega
      by_cases hf : (rg l i).fits
      · by_cases h0 : i = 0
        · subst h0
          have N1 := Lib.hid (okTo_succ HO.out (okAt_zero hf))
          clear hc
          unfold Rg.fits at hf
          generalize rg l 0 = r at *
          obtain ⟨a, o, n⟩ := r
          simp only [Nat.zero_mul, Nat.add_zero] at c0 c1 c2 hf
          obtain ⟨⟨f0, f1⟩, ⟨f2, f3⟩, f4, f5⟩ := hf
          go_wp2_with fail
          go_quiet (fail)
          go_wp2
          go_roundw
          case rel => exact ⟨0 + 1, by omega, by go_num, N1, Lib.hid (below_drewN (HW.out.alloc hws _) _)⟩
          case measure => simp [intOf]; omega
        · obtain ⟨k, rfl⟩ : ∃ k, i = k + 1 := ⟨i - 1, by omega⟩
          obtain ⟨d0, d1, d2⟩ := hc k (by omega)
          have j1 : (0 : Int) ≤ (k : Int) := by omega
          have j2 : (k : Int) < (m : Int) := by omega
          have hpos : ((k : Int) + 1) > 0 := by omega
          have fp := (HO.out k (by omega)).1
          by_cases hg : (rg l k).at_ + (rg l k).old < (rg l (k + 1)).at_
          · have N1 := Lib.hid (okTo_succ HO.out ⟨hf, fun _ => hg⟩)
            have hbl' : b < wr.heap.size := by omega
            clear hc
            unfold Rg.fits at hf fp
            generalize rg l (k + 1) = r at *
            generalize rg l k = s at *
            obtain ⟨a, o, n⟩ := r
            obtain ⟨a', o', n'⟩ := s
            simp only at c0 c1 c2 hf d0 d1 d2 fp hg
            obtain ⟨⟨f0, f1⟩, ⟨f2, f3⟩, f4, f5⟩ := hf
            have hgf : decide (a ≤ a' + o') = false := decide_eq_false (by omega)
            have x0 := (World.cell?_alloc_lt wr (.cells #[.int .i64 a, .int .i64 o, .int .i64 n] 56) ⟨b, off + k * 3, none⟩ hbl').trans d0
            have x1 := (World.cell?_alloc_lt wr (.cells #[.int .i64 a, .int .i64 o, .int .i64 n] 56) ⟨b, off + k * 3 + 1, none⟩ hbl').trans d1
            have y0 : (wr.alloc (.cells #[.int .i64 a, .int .i64 o, .int .i64 n] 56)).cell? ⟨wr.heap.size, 0, none⟩ = some (.int .i64 a) := by rw [World.cell?_alloc_mark]; rfl
            have HW1 := Lib.hid (HW.out.alloc hws (.cells #[.int .i64 a, .int .i64 o, .int .i64 n] 56))
            go_upto_region 9 with fail
            clear c0 c1 c2 d0 d1 d2
            generalize wr.alloc (.cells #[.int .i64 a, .int .i64 o, .int .i64 n] 56) = W1 at *
            go_quiet (fail)
            go_wp2
            go_roundw
            case rel => exact ⟨k + 1 + 1, by omega, by go_num, N1, Lib.hid (below_drewN HW1.out _)⟩
            case measure => simp [intOf]; omega
          · have N1 := Lib.hid (HB.out.trans (rightB_false (i := k + 1) (by rw [HL.out]; exact hlt) (fun g => hg (g.2 (by omega)))))
            have hbl' : b < wr.heap.size := by omega
            clear hc
            unfold Rg.fits at hf fp
            generalize rg l (k + 1) = r at *
            generalize rg l k = s at *
            obtain ⟨a, o, n⟩ := r
            obtain ⟨a', o', n'⟩ := s
            simp only at c0 c1 c2 hf d0 d1 d2 fp hg
            obtain ⟨⟨f0, f1⟩, ⟨f2, f3⟩, f4, f5⟩ := hf
            have hgf : decide (a ≤ a' + o') = true := decide_eq_true (by omega)
            have x0 := (World.cell?_alloc_lt wr (.cells #[.int .i64 a, .int .i64 o, .int .i64 n] 56) ⟨b, off + k * 3, none⟩ hbl').trans d0
            have x1 := (World.cell?_alloc_lt wr (.cells #[.int .i64 a, .int .i64 o, .int .i64 n] 56) ⟨b, off + k * 3 + 1, none⟩ hbl').trans d1
            have y0 : (wr.alloc (.cells #[.int .i64 a, .int .i64 o, .int .i64 n] 56)).cell? ⟨wr.heap.size, 0, none⟩ = some (.int .i64 a) := by rw [World.cell?_alloc_mark]; rfl
            have HW1 := Lib.hid (HW.out.alloc hws (.cells #[.int .i64 a, .int .i64 o, .int .i64 n] 56))
            go_upto_region 9 with fail
            clear c0 c1 c2 d0 d1 d2
            generalize wr.alloc (.cells #[.int .i64 a, .int .i64 o, .int .i64 n] 56) = W1 at *
            go_quiet (fail)
            go_wp2
            go_ret
            exact ⟨ret_bool N1.out.symm, below_drewN HW1.out _⟩
      · have N1 := Lib.hid (HB.out.trans (rightB_false (i := i) (by rw [HL.out]; exact hlt) (fun g => hf g.1)))
        have HW1 := Lib.hid (HW.out.alloc hws (.cells #[.int .i64 (rg l i).at_, .int .i64 (rg l i).old, .int .i64 (rg l i).new] 56))
        clear hc
        generalize rg l i = r at *
        obtain ⟨a, o, n⟩ := r
        have hnf := not_fits hf
        clear hf
        simp only at c0 c1 c2
        rcases hnf with h1 | ⟨h1, h2⟩ | ⟨h1, h2, h3⟩ | ⟨h1, h2, h3, h4⟩ | ⟨h1, h2, h3, h4, h5⟩ | ⟨h1, h2, h3, h4, h5, h6⟩
        all_goals
          go_wp2
          go_ret
          exact ⟨ret_bool N1.out.symm, HW1.out⟩
    · obtain rfl : i = m := by omega
      go_wp2
      go_ret
      exact ⟨ret_bool (by rw [HB.out, rightB_true (by rw [HL.out]; exact HO.out)]), HW.out⟩
end Go.Proofs.Ytnffgomgfabapaa.Sm
