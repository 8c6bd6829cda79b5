/- Rows of tokens held against each other: slices.Equal, token.Same, the reference's Same. -/
import Derived.Test.YtgodphfkhmahnaaTkMem
import Derived.Test.YtgodphfkhmahnaaReg
import Derived.Deep.CutRange
import Derived.Deep.QuietTactic
namespace Go.Proofs.Ytgodphfkhmahnaa.Tk
open Go.RowKit Mem
set_option linter.unusedVariables false

set_option maxRecDepth 100000 in
set_option maxHeartbeats 1000000 in
theorem equal_tok (l m : List Tk) (A B : Option Addr) (n n' cap cap' : Nat) (w : World) (hr : TRow w A n l) (hr' : TRow w B n' m) (hn : n ≤ 9223372036854775807) (hn' : n' ≤ 9223372036854775807) :
    Calls Try.prog 78 #[.slice A n cap, .slice B n' cap'] w fun e w' => e = .returned (.bool (decide (l = m))) ∧ ∃ q, w' = w.drewN q := by
  have HR := Lib.hid hr
  have HR' := Lib.hid hr'
  have HL := Lib.hid hr.1
  have HL' := Lib.hid hr'.1
  obtain ⟨s, hs⟩ : ∃ x, x = decide (l = m) := ⟨_, rfl⟩
  rw [← hs]
  have HS := Lib.hid hs
  clear hr hr' hs
  by_cases hnn : n = n'
  · subst hnn
    go_enter Try.func78, Try.ntmps78
    go_wp2
    go_loopw [13] (fun j wr => ∃ (i : Nat), i ≤ n ∧ j = .int .i64 i ∧ Hid (l.take i = m.take i) ∧ ∃ q, wr = w.drewN q) (fun j _ => n - (intOf j).toNat)
    case atStart => exact ⟨0, by omega, by simp, Lib.hid rfl, 0, rfl⟩
    case round =>
      obtain ⟨i, hi, rfl, HO, q, rfl⟩ := hrel
      by_cases hlt : i < n
      · obtain ⟨bl, off, rfl, hbl, hcells⟩ := HR.out.2 (by omega)
        obtain ⟨bl', off', rfl, hbl', hcells'⟩ := HR'.out.2 (by omega)
        have hi' : i < l.length := by have := HL.out; omega
        have hi2 : i < m.length := by have := HL'.out; omega
        obtain ⟨c0, c1, c2, c3, c4, c5, c6, c7, c8, c9, c10, c11⟩ := (hcells i hi').cells
        obtain ⟨d0, d1, d2, d3, d4, d5, d6, d7, d8, d9, d10, d11⟩ := (hcells' i hi2).cells
        have TS : Hid (l.take (i + 1) = l.take i ++ [l[i]]) := Lib.hid (by rw [List.take_succ_eq_append_getElem hi'])
        have TS' : Hid (m.take (i + 1) = m.take i ++ [m[i]]) := Lib.hid (by rw [List.take_succ_eq_append_getElem hi2])
        have NE : Hid (l[i] ≠ m[i] → l ≠ m) := Lib.hid (fun h e => h (by subst e; rfl))
        clear hcells hcells'
        have EQ : ∀ W : World, (Op.equalIn 10000 101 (tokV l[i]) (tokV m[i])).run Try.prog W = .ok (decide (l[i] = m[i])) W := fun W => eq_tok 9997 _ _ W
        by_cases he : l[i] = m[i]
        · have N1 : Hid (l.take (i + 1) = m.take (i + 1)) := Lib.hid (by rw [TS.out, TS'.out, HO.out, he])
          have EQ' : ∀ W : World, (Op.equalIn 10000 101 (tokV l[i]) (tokV m[i])).run Try.prog W = .ok true W := fun W => by rw [EQ W]; simp [he]
          clear EQ NE TS TS' he
          generalize hK : l[i] = x at *
          generalize hK' : m[i] = y at *
          obtain ⟨k, ty, at_, r, ma, mb, mc, md, me, mf, mg, mh⟩ := x
          obtain ⟨yk, yty, yat, yr, ya, yb, yc, yd, ye, yf, yg, yh⟩ := y
          unfold tokV at EQ'
          simp only at c0 c1 c2 c3 c4 c5 c6 c7 c8 c9 c10 c11 d0 d1 d2 d3 d4 d5 d6 d7 d8 d9 d10 d11 EQ'
          clear hK hK' hbl hbl'
          go_wp2_with fail
          go_quiet (fail)
          go_wp2
          go_roundw
          case rel => exact ⟨i + 1, by omega, by go_num, N1, _, rfl⟩
          case measure => simp [intOf]; omega
        · have N1 : Hid (s = false) := Lib.hid (by rw [HS.out]; simpa using NE.out he)
          have EQ' : ∀ W : World, (Op.equalIn 10000 101 (tokV l[i]) (tokV m[i])).run Try.prog W = .ok false W := fun W => by rw [EQ W]; simp [he]
          clear EQ NE TS TS' he
          generalize hK : l[i] = x at *
          generalize hK' : m[i] = y at *
          obtain ⟨k, ty, at_, r, ma, mb, mc, md, me, mf, mg, mh⟩ := x
          obtain ⟨yk, yty, yat, yr, ya, yb, yc, yd, ye, yf, yg, yh⟩ := y
          unfold tokV at EQ'
          simp only at c0 c1 c2 c3 c4 c5 c6 c7 c8 c9 c10 c11 d0 d1 d2 d3 d4 d5 d6 d7 d8 d9 d10 d11 EQ'
          clear hK hK' hbl hbl'
          go_wp2_with fail
          go_quiet (fail)
          go_wp2
          go_ret
          exact ⟨by rw [N1.out]; rfl, q + nq, by rw [World.drewN_drewN]⟩
      · obtain rfl : i = n := by omega
        go_wp2
        go_ret
        have hT : l.take i = l := by rw [List.take_of_length_le]; rw [HL.out]; exact Nat.le_refl _
        have hT' : m.take i = m := by rw [List.take_of_length_le]; rw [HL'.out]; exact Nat.le_refl _
        have h := HO.out
        rw [hT, hT'] at h
        exact ⟨by rw [HS.out, h]; simp, _, rfl⟩
  · have N1 : Hid (s = false) := Lib.hid (by rw [HS.out]; simp; intro e; exact hnn (by rw [← HL.out, ← HL'.out, e]))
    have hne : ((n : Int) == (n' : Int)) = false := by rw [beq_eq_false_iff_ne]; omega
    go_enter Try.func78, Try.ntmps78
    go_wp2
    go_ret
    exact ⟨by rw [N1.out]; rfl, 0, rfl⟩
set_option maxRecDepth 100000 in
set_option maxHeartbeats 1000000 in
theorem rsame_any (l m : List Tk) (A B : Option Addr) (n n' cap cap' : Nat) (w : World) (hr : TRow w A n l) (hr' : TRow w B n' m) (hn : n ≤ 9223372036854775807) (hn' : n' ≤ 9223372036854775807) :
    Calls Try.prog 34 #[.slice A n cap, .slice B n' cap'] w fun e w' => e = .returned (.bool (decide (l = m))) ∧ ∃ q, w' = w.drewN q := by
  have HR := Lib.hid hr
  have HR' := Lib.hid hr'
  have HL := Lib.hid hr.1
  have HL' := Lib.hid hr'.1
  obtain ⟨s, hs⟩ : ∃ x, x = decide (l = m) := ⟨_, rfl⟩
  rw [← hs]
  have HS := Lib.hid hs
  clear hr hr' hs
  by_cases hnn : n = n'
  · subst hnn
    go_enter Try.func34, Try.ntmps34
    go_wp2
    go_loopw [5] (fun j wr => ∃ (i : Nat), i ≤ n ∧ j = .int .i64 i ∧ Hid (l.take i = m.take i) ∧ ∃ q, wr = w.drewN q) (fun j _ => n - (intOf j).toNat)
    case atStart => exact ⟨0, by omega, by simp, Lib.hid rfl, 0, rfl⟩
    case round =>
      obtain ⟨i, hi, rfl, HO, q, rfl⟩ := hrel
      by_cases hlt : i < n
      · obtain ⟨bl, off, rfl, hbl, hcells⟩ := HR.out.2 (by omega)
        obtain ⟨bl', off', rfl, hbl', hcells'⟩ := HR'.out.2 (by omega)
        have hi' : i < l.length := by have := HL.out; omega
        have hi2 : i < m.length := by have := HL'.out; omega
        obtain ⟨c0, c1, c2, c3, c4, c5, c6, c7, c8, c9, c10, c11⟩ := (hcells i hi').cells
        obtain ⟨d0, d1, d2, d3, d4, d5, d6, d7, d8, d9, d10, d11⟩ := (hcells' i hi2).cells
        have TS : Hid (l.take (i + 1) = l.take i ++ [l[i]]) := Lib.hid (by rw [List.take_succ_eq_append_getElem hi'])
        have TS' : Hid (m.take (i + 1) = m.take i ++ [m[i]]) := Lib.hid (by rw [List.take_succ_eq_append_getElem hi2])
        have NE : Hid (l[i] ≠ m[i] → l ≠ m) := Lib.hid (fun h e => h (by subst e; rfl))
        clear hcells hcells'
        have EQ : ∀ W : World, (Op.equalIn 10000 101 (tokV l[i]) (tokV m[i])).run Try.prog W = .ok (decide (l[i] = m[i])) W := fun W => eq_tok 9997 _ _ W
        by_cases he : l[i] = m[i]
        · have N1 : Hid (l.take (i + 1) = m.take (i + 1)) := Lib.hid (by rw [TS.out, TS'.out, HO.out, he])
          have EQ' : ∀ W : World, (Op.equalIn 10000 101 (tokV l[i]) (tokV m[i])).run Try.prog W = .ok true W := fun W => by rw [EQ W]; simp [he]
          clear EQ NE TS TS' he
          generalize hK : l[i] = x at *
          generalize hK' : m[i] = y at *
          obtain ⟨k, ty, at_, r, ma, mb, mc, md, me, mf, mg, mh⟩ := x
          obtain ⟨yk, yty, yat, yr, ya, yb, yc, yd, ye, yf, yg, yh⟩ := y
          unfold tokV at EQ'
          simp only at c0 c1 c2 c3 c4 c5 c6 c7 c8 c9 c10 c11 d0 d1 d2 d3 d4 d5 d6 d7 d8 d9 d10 d11 EQ'
          clear hK hK' hbl hbl'
          go_wp2_with fail
          go_quiet (fail)
          go_wp2
          go_roundw
          case rel => exact ⟨i + 1, by omega, by go_num, N1, _, rfl⟩
          case measure => simp [intOf]; omega
        · have N1 : Hid (s = false) := Lib.hid (by rw [HS.out]; simpa using NE.out he)
          have EQ' : ∀ W : World, (Op.equalIn 10000 101 (tokV l[i]) (tokV m[i])).run Try.prog W = .ok false W := fun W => by rw [EQ W]; simp [he]
          clear EQ NE TS TS' he
          generalize hK : l[i] = x at *
          generalize hK' : m[i] = y at *
          obtain ⟨k, ty, at_, r, ma, mb, mc, md, me, mf, mg, mh⟩ := x
          obtain ⟨yk, yty, yat, yr, ya, yb, yc, yd, ye, yf, yg, yh⟩ := y
          unfold tokV at EQ'
          simp only at c0 c1 c2 c3 c4 c5 c6 c7 c8 c9 c10 c11 d0 d1 d2 d3 d4 d5 d6 d7 d8 d9 d10 d11 EQ'
          clear hK hK' hbl hbl'
          go_wp2_with fail
          go_quiet (fail)
          go_wp2
          go_ret
          exact ⟨by rw [N1.out]; rfl, q + nq, by rw [World.drewN_drewN]⟩
      · obtain rfl : i = n := by omega
        go_wp2
        go_ret
        have hT : l.take i = l := by rw [List.take_of_length_le]; rw [HL.out]; exact Nat.le_refl _
        have hT' : m.take i = m := by rw [List.take_of_length_le]; rw [HL'.out]; exact Nat.le_refl _
        have h := HO.out
        rw [hT, hT'] at h
        exact ⟨by rw [HS.out, h]; simp, _, rfl⟩
  · have N1 : Hid (s = false) := Lib.hid (by rw [HS.out]; simp; intro e; exact hnn (by rw [← HL.out, ← HL'.out, e]))
    have hne : ((n : Int) == (n' : Int)) = false := by rw [beq_eq_false_iff_ne]; omega
    go_enter Try.func34, Try.ntmps34
    go_wp2
    go_ret
    exact ⟨by rw [N1.out]; rfl, 0, rfl⟩
set_option maxRecDepth 100000 in
theorem same_tok (l m : List Tk) (A B : Option Addr) (n n' cap cap' : Nat) (w : World) (hr : TRow w A n l) (hr' : TRow w B n' m) (hn : n ≤ 9223372036854775807) (hn' : n' ≤ 9223372036854775807) :
    Calls Try.prog 56 #[.slice A n cap, .slice B n' cap'] w fun e w' => e = .returned (.bool (decide (l = m))) ∧ ∃ q, w' = w.drewN q := by
  have CE := equal_tok l m A B n n' cap cap' w hr hr' hn hn'
  clear hr hr'
  go_enter Try.func56, Try.ntmps56
  go_wp2_with fail
  refine CE.mono ?_
  rintro e w1 ⟨rfl, q, rfl⟩
  clear CE
  go_wp2
  go_ret
  exact ⟨rfl, q, rfl⟩
end Go.Proofs.Ytgodphfkhmahnaa.Tk
