/- Walks: which tokens are no open ones (Whole's closure, IndexFunc, ContainsFunc); two rows held against each other (the reference's Same). -/
import Derived.Test.YtnmphoemiohgjaaSlB
import Derived.Deep.QuietTactic
namespace Go.Proofs.Ytnmphoemiohgjaa.Sl
open Go.RowKit Mem Tk
set_option linter.unusedVariables false

theorem other_any (x : Tk) (w : World) : Calls Try.prog 13 #[tokV x] w fun e w' => e = .returned (.bool (x.k != 1)) ∧ Below w.heap.size w w' := by
  obtain ⟨k, ty, at_, r, ma, mb, mc, md, me, mf, mg, mh⟩ := x
  unfold tokV
  simp only
  by_cases h : k = 1
  · subst h
    go_enter Try.func13, Try.ntmps13
    go_wp2
    go_ret
    exact ⟨rfl, (Below.refl _ _).alloc (Nat.le_refl _) _⟩
  · have h' : (k != 1) = true := by simpa using h
    rw [h']
    go_enter Try.func13, Try.ntmps13
    go_wp2
    go_ret
    exact ⟨rfl, (Below.refl _ _).alloc (Nat.le_refl _) _⟩
def others (l : List Tk) : Bool := l.any fun x => x.k != 1
def IdxIs (l : List Tk) (w : World) (e : Ending) (w' : World) : Prop := ∃ r : Int, e = .returned (.int .i64 r) ∧ decide (0 ≤ r) = others l ∧ (-1 ≤ r ∧ r ≤ 1000000) ∧ Below w.heap.size w w'
set_option maxHeartbeats 1000000 in
theorem index_any (l : List Tk) (A : Option Addr) (n cap : Nat) (w : World) (hr : TRow w A n l) (hn : n ≤ 1000000) :
    Calls Try.prog 17 #[.slice A n cap, .func (.func 13) #[] #[]] w (IdxIs l w) := by
  have HR := Lib.hid hr
  have HL := Lib.hid hr.1
  clear hr
  go_enter Try.func17, Try.ntmps17
  go_wp2
  go_loopw [8] (fun j wr => ∃ (i : Nat), i ≤ n ∧ j = .int .i64 i ∧ Hid (others (l.take i) = false) ∧ Hid (Below w.heap.size w wr)) (fun j _ => n - (intOf j).toNat)
  case atStart => exact ⟨0, by omega, by simp, Lib.hid (by simp [others]), Lib.hid (Below.refl _ _)⟩
  case round =>
    obtain ⟨i, hi, rfl, HO, HW⟩ := hrel
    by_cases hlt : i < n
    · obtain ⟨bl, off, rfl, hbl, hcells⟩ := (HR.out.below HW.out).2 (by omega)
      have hi' : i < l.length := by have := HL.out; omega
      obtain ⟨c0, c1, c2, c3, c4, c5, c6, c7, c8, c9, c10, c11⟩ := (hcells i hi').cells
      have TS : Hid (l.take (i + 1) = l.take i ++ [l[i]]) := Lib.hid (by rw [List.take_succ_eq_append_getElem hi'])
      have MM : Hid (l[i] ∈ l) := Lib.hid (List.getElem_mem hi')
      clear hcells
      generalize hK : l[i] = x at *
      have CO := fun W => other_any x W
      obtain ⟨k, ty, at_, r, ma, mb, mc, md, me, mf, mg, mh⟩ := x
      unfold tokV at CO
      simp only at c0 c1 c2 c3 c4 c5 c6 c7 c8 c9 c10 c11 CO
      clear hK hbl
      by_cases h1 : k = 1
      · subst h1
        have N1 : Hid (others (l.take (i + 1)) = false) := Lib.hid (by rw [TS.out]; have := HO.out; simp only [others, List.any_append] at this ⊢; rw [this]; rfl)
        go_wp2_with (go_at_call 13; refine (CO _).mono ?_; rintro e w' ⟨rfl, hb'⟩)
        go_roundw
        case rel => exact ⟨i + 1, by omega, by go_num, N1, Lib.hid (HW.out.trans (hb'.mono HW.out.size))⟩
        case measure => simp [intOf]; omega
      · have h1' : (k != 1) = true := by simpa using h1
        rw [h1'] at CO
        have N1 : Hid (others l = true) := Lib.hid (by unfold others; rw [List.any_eq_true]; exact ⟨_, MM.out, by simpa using h1⟩)
        clear h1'
        go_wp2_with (go_at_call 13; refine (CO _).mono ?_; rintro e w' ⟨rfl, hb'⟩)
        go_ret
        exact ⟨_, rfl, by rw [N1.out]; simp, by omega, HW.out.trans (hb'.mono HW.out.size)⟩
    · obtain rfl : i = n := by omega
      go_wp2
      go_ret
      have hT : l.take i = l := by rw [List.take_of_length_le]; rw [HL.out]; exact Nat.le_refl _
      exact ⟨_, rfl, by have := HO.out; rw [hT] at this; rw [this]; simp, by omega, HW.out⟩
theorem contains_any (l : List Tk) (A : Option Addr) (n cap : Nat) (w : World) (hr : TRow w A n l) (hn : n ≤ 1000000) :
    Calls Try.prog 14 #[.slice A n cap, .func (.func 13) #[] #[]] w fun e w' => e = .returned (.bool (others l)) ∧ Below w.heap.size w w' := by
  have C := index_any l A n cap w hr hn
  obtain ⟨o, ho⟩ : ∃ x, x = others l := ⟨_, rfl⟩
  rw [← ho]
  have HF := Lib.hid ho
  clear ho hr hn
  go_enter Try.func14, Try.ntmps14
  go_wp2_with fail
  refine C.mono ?_
  rintro e w1 ⟨r, rfl, hr, ⟨hr0, hr1⟩, BW⟩
  rw [← HF.out] at hr
  have HA := Lib.hid hr
  clear hr C
  go_wp2
  go_ret
  exact ⟨by rw [← HA.out]; rfl, BW⟩

set_option maxHeartbeats 1000000 in
theorem rsame_any (l m : List Tk) (A B : Option Addr) (n n' cap cap' : Nat) (w : World) (hr : TRow w A n l) (hr' : TRow w B n' m) (hn : n ≤ 1000000) (hn' : n' ≤ 1000000) :
    Calls Try.prog 9 #[.slice A n cap, .slice B n' cap'] w fun e w' => e = .returned (.bool (decide (l = m))) ∧ ∃ q, w' = w.drewN q := by
  have HR := Lib.hid hr
  have HR' := Lib.hid hr'
  have HL := Lib.hid hr.1
  have HL' := Lib.hid hr'.1
  obtain ⟨s, hs⟩ : ∃ x, x = decide (l = m) := ⟨_, rfl⟩
  rw [← hs]
  have HS := Lib.hid hs
  clear hr hr' hs
  by_cases hnn : n = n'
  · subst hnn
    go_enter Try.func9, Try.ntmps9
    go_wp2
    go_loopw [5] (fun j wr => ∃ (i : Nat), i ≤ n ∧ j = .int .i64 i ∧ Hid (l.take i = m.take i) ∧ ∃ q, wr = w.drewN q) (fun j _ => n - (intOf j).toNat)
    case atStart => exact ⟨0, by omega, by simp, Lib.hid rfl, 0, rfl⟩
    case round =>
      obtain ⟨i, hi, rfl, HO, q, rfl⟩ := hrel
      by_cases hlt : i < n
      · obtain ⟨bl, off, rfl, hbl, hcells⟩ := HR.out.2 (by omega)
        obtain ⟨bl', off', rfl, hbl', hcells'⟩ := HR'.out.2 (by omega)
        have hi' : i < l.length := by have := HL.out; omega
        have hi2 : i < m.length := by have := HL'.out; omega
        obtain ⟨c0, c1, c2, c3, c4, c5, c6, c7, c8, c9, c10, c11⟩ := (hcells i hi').cells
        obtain ⟨d0, d1, d2, d3, d4, d5, d6, d7, d8, d9, d10, d11⟩ := (hcells' i hi2).cells
        have TS : Hid (l.take (i + 1) = l.take i ++ [l[i]]) := Lib.hid (by rw [List.take_succ_eq_append_getElem hi'])
        have TS' : Hid (m.take (i + 1) = m.take i ++ [m[i]]) := Lib.hid (by rw [List.take_succ_eq_append_getElem hi2])
        have NE : Hid (l[i] ≠ m[i] → l ≠ m) := Lib.hid (fun h e => h (by subst e; rfl))
        clear hcells hcells'
        have EQ : ∀ W : World, (Op.equalIn 10000 35 (tokV l[i]) (tokV m[i])).run Try.prog W = .ok (decide (l[i] = m[i])) W := fun W => eq_tok 9997 _ _ W
        by_cases he : l[i] = m[i]
        · have N1 : Hid (l.take (i + 1) = m.take (i + 1)) := Lib.hid (by rw [TS.out, TS'.out, HO.out, he])
          have EQ' : ∀ W : World, (Op.equalIn 10000 35 (tokV l[i]) (tokV m[i])).run Try.prog W = .ok true W := fun W => by rw [EQ W]; simp [he]
          clear EQ NE TS TS' he
          generalize hK : l[i] = x at *
          generalize hK' : m[i] = y at *
          obtain ⟨k, ty, at_, r, ma, mb, mc, md, me, mf, mg, mh⟩ := x
          obtain ⟨yk, yty, yat, yr, ya, yb, yc, yd, ye, yf, yg, yh⟩ := y
          unfold tokV at EQ'
          simp only at c0 c1 c2 c3 c4 c5 c6 c7 c8 c9 c10 c11 d0 d1 d2 d3 d4 d5 d6 d7 d8 d9 d10 d11 EQ'
          clear hK hK' hbl hbl'
          go_wp2_with fail
          go_quiet (fail)
          go_wp2
          go_roundw
          case rel => exact ⟨i + 1, by omega, by go_num, N1, _, rfl⟩
          case measure => simp [intOf]; omega
        · have N1 : Hid (s = false) := Lib.hid (by rw [HS.out]; simpa using NE.out he)
          have EQ' : ∀ W : World, (Op.equalIn 10000 35 (tokV l[i]) (tokV m[i])).run Try.prog W = .ok false W := fun W => by rw [EQ W]; simp [he]
          clear EQ NE TS TS' he
          generalize hK : l[i] = x at *
          generalize hK' : m[i] = y at *
          obtain ⟨k, ty, at_, r, ma, mb, mc, md, me, mf, mg, mh⟩ := x
          obtain ⟨yk, yty, yat, yr, ya, yb, yc, yd, ye, yf, yg, yh⟩ := y
          unfold tokV at EQ'
          simp only at c0 c1 c2 c3 c4 c5 c6 c7 c8 c9 c10 c11 d0 d1 d2 d3 d4 d5 d6 d7 d8 d9 d10 d11 EQ'
          clear hK hK' hbl hbl'
          go_wp2_with fail
          go_quiet (fail)
          go_wp2
          go_ret
          exact ⟨by rw [N1.out]; rfl, q + nq, by rw [World.drewN_drewN]⟩
      · obtain rfl : i = n := by omega
        go_wp2
        go_ret
        have hT : l.take i = l := by rw [List.take_of_length_le]; rw [HL.out]; exact Nat.le_refl _
        have hT' : m.take i = m := by rw [List.take_of_length_le]; rw [HL'.out]; exact Nat.le_refl _
        have h := HO.out
        rw [hT, hT'] at h
        exact ⟨by rw [HS.out, h]; simp, _, rfl⟩
  · have N1 : Hid (s = false) := Lib.hid (by rw [HS.out]; simp; intro e; exact hnn (by rw [← HL.out, ← HL'.out, e]))
    have hne : ((n : Int) == (n' : Int)) = false := by rw [beq_eq_false_iff_ne]; omega
    go_enter Try.func9, Try.ntmps9
    go_wp2
    go_ret
    exact ⟨by rw [N1.out]; rfl, 0, rfl⟩
end Go.Proofs.Ytnmphoemiohgjaa.Sl
