/- Walks: the reference's Same, Invert, Recover. -/
import Derived.Test.YtnffgomgfabapaaSmE
namespace Go.Proofs.Ytnffgomgfabapaa.Sm
open Go.RowKit Mem
set_option linter.unusedVariables false

theorem RLow.take {n₀ : Nat} {W : World} {A : Option Addr} {m : Nat} {l : List Rg} (h : RLow n₀ W A m l) : l.length = m := h.1
set_option maxHeartbeats 1000000 in
theorem rsame_any (l k : List Rg) (A B : Option Addr) (n n' c c' n₀ n₁ : Nat) (w : World) (hr : RLow n₀ w A n l) (hr' : RLow n₁ w B n' k) (hn : n ≤ 1000) :
    Calls Try.prog 34 #[.slice A n c, .slice B n' c'] w fun e w' => e = .returned (.bool (decide (l = k))) ∧ ∃ q, w' = w.drewN q := by
  have HR := Lib.hid hr
  have HR' := Lib.hid hr'
  have HL := Lib.hid hr.1
  have HL' := Lib.hid hr'.1
  obtain ⟨s, hs⟩ : ∃ x, x = decide (l = k) := ⟨_, rfl⟩
  rw [← hs]
  have HS := Lib.hid hs
  clear hr hr' hs
  by_cases hnn : n = n'
  · subst hnn
    go_enter Try.func34, Try.ntmps34
    go_wp2
    go_loopw [5] (fun j wr => ∃ (i : Nat), i ≤ n ∧ j = .int .i64 i ∧ Hid (∀ x, x < i → rg l x = rg k x) ∧ ∃ q, wr = w.drewN q) (fun j _ => n - (intOf j).toNat)
    case atStart => exact ⟨0, by omega, by simp, Lib.hid (fun x h => absurd h (by omega)), 0, rfl⟩
    case round =>
      obtain ⟨i, hi, rfl, HO, q, rfl⟩ := hrel
      by_cases hlt : i < n
      · obtain ⟨b, off, rfl, hc⟩ := HR.out.at_ (by omega)
        obtain ⟨b', off', rfl, hc'⟩ := HR'.out.at_ (by omega)
        obtain ⟨c0, c1, c2⟩ := hc i hlt
        obtain ⟨d0, d1, d2⟩ := hc' i hlt
        have i1 : (0 : Int) ≤ (i : Int) := by omega
        have i2 : (i : Int) < (n : Int) := by omega
        clear hc hc'
        have NE : Hid (rg l i ≠ rg k i → l ≠ k) := Lib.hid (fun h e => h (by rw [e]))
        have NX : Hid (rg l i = rg k i → ∀ x, x < i + 1 → rg l x = rg k x) := Lib.hid (fun h x hx => by
          rcases Nat.lt_succ_iff_lt_or_eq.1 hx with h1 | rfl
          · exact HO.out x h1
          · exact h)
        have EQ : ∀ W : World, (Op.equalIn 10000 56 (rgV (rg l i)) (rgV (rg k i))).run Try.prog W = .ok (decide (rg l i = rg k i)) W := fun W => eq_rg 9998 _ _ W
        by_cases he : rg l i = rg k i
        · have N1 := Lib.hid (NX.out he)
          have EQ' : ∀ W : World, (Op.equalIn 10000 56 (rgV (rg l i)) (rgV (rg k i))).run Try.prog W = .ok true W := fun W => by rw [EQ W]; simp [he]
          clear EQ NE NX he
          generalize rg l i = x at *
          generalize rg k i = y at *
          obtain ⟨a, o, nn⟩ := x
          obtain ⟨a', o', nn'⟩ := y
          unfold rgV at EQ'
          simp only at c0 c1 c2 d0 d1 d2 EQ'
          go_wp2_with fail
          go_quiet (fail)
          go_wp2
          go_roundw
          case rel => exact ⟨i + 1, by omega, by go_num, N1, _, rfl⟩
          case measure => simp [intOf]; omega
        · have N1 : Hid (s = false) := Lib.hid (by rw [HS.out]; simpa using NE.out he)
          have EQ' : ∀ W : World, (Op.equalIn 10000 56 (rgV (rg l i)) (rgV (rg k i))).run Try.prog W = .ok false W := fun W => by rw [EQ W]; simp [he]
          clear EQ NE NX he
          generalize rg l i = x at *
          generalize rg k i = y at *
          obtain ⟨a, o, nn⟩ := x
          obtain ⟨a', o', nn'⟩ := y
          unfold rgV at EQ'
          simp only at c0 c1 c2 d0 d1 d2 EQ'
          go_wp2_with fail
          go_quiet (fail)
          go_wp2
          go_ret
          exact ⟨by rw [N1.out]; rfl, q + nq, by rw [World.drewN_drewN]⟩
      · obtain rfl : i = n := by omega
        go_wp2
        go_ret
        have e : l = k := ext_rg (by rw [HL.out, HL'.out]) (by rw [HL.out]; exact HO.out)
        exact ⟨by rw [HS.out, e]; simp, _, rfl⟩
  · have N1 : Hid (s = false) := Lib.hid (by rw [HS.out]; simp; intro e; exact hnn (by rw [← HL.out, ← HL'.out, e]))
    have hne : ((n : Int) == (n' : Int)) = false := by rw [beq_eq_false_iff_ne]; omega
    go_enter Try.func34, Try.ntmps34
    go_wp2
    go_ret
    exact ⟨by rw [N1.out]; rfl, 0, rfl⟩
end Go.Proofs.Ytnffgomgfabapaa.Sm
