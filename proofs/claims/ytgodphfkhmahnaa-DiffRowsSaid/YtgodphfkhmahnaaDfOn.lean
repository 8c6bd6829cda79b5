/- Diffs: the reference's splice: how many are the same ahead, and behind. -/
import Derived.Test.YtgodphfkhmahnaaDfPa
import Derived.Test.YtgodphfkhmahnaaDfC
namespace Go.Proofs.Ytgodphfkhmahnaa.Df
open Go.RowKit Mem Sm Rt Tk St
set_option linter.unusedVariables false
set_option linter.unusedSimpArgs false
set_option maxRecDepth 100000 in
set_option maxHeartbeats 4000000 in
theorem front_any (l m : List Tk.Tk) (A B : Option Addr) (n n' cap cap' : Nat) (w : World) (hr : TRow w A n l) (hr' : TRow w B n' m) (hn : n ≤ 1000000) (hn' : n' ≤ 1000000) :
    Calls Try.prog 59 #[.slice A n cap, .slice B n' cap'] w fun e w' => e = .returned (.int .i64 (fr l m : Nat)) ∧ Below w.heap.size w w' := by
  have HL := Lib.hid hr
  have HR := Lib.hid hr'
  obtain ⟨S, hS⟩ : ∃ S, S = fr l m := ⟨_, rfl⟩
  have HS1 : Hid (∀ j, j < S → l[j]? = m[j]?) := Lib.hid (fun j hj => fr_same l m j (by rw [← hS]; exact hj))
  have HS2 : Hid (S < l.length → S < m.length → l[S]? ≠ m[S]?) := Lib.hid (by rw [hS]; exact fr_stop l m)
  have hle := fr_le l m
  rw [hr.1, hr'.1, ← hS] at hle
  obtain ⟨l1, l2⟩ := hle
  rw [← hS]
  clear hr hr' hS
  go_enter Try.func59, Try.ntmps59
  go_wp2_with fail
  go_loopw [5] (fun iv wr => ∃ (i q : Nat), iv = .int .i64 i ∧ i ≤ S ∧ wr = w.drewN q) (fun iv _ => S - (intOf iv).toNat)
  case atStart => exact ⟨0, 0, rfl, by omega, rfl⟩
  case round =>
    obtain ⟨i, q, rfl, hi, rfl⟩ := hrel
    have n1 : (0 : Int) ≤ (i : Int) := by omega
    by_cases g1 : i < n
    · by_cases g2 : i < n'
      · obtain ⟨bl, off, rfl, hbl, hcells⟩ := HL.out.2 (by omega)
        obtain ⟨bl', off', rfl, hbl', hcells'⟩ := HR.out.2 (by omega)
        have hi' : i < l.length := by have := HL.out.1; omega
        have hi2 : i < m.length := by have := HR.out.1; omega
        obtain ⟨c0, c1, c2, c3, c4, c5, c6, c7, c8, c9, c10, c11⟩ := (hcells i hi').cells
        obtain ⟨d0, d1, d2, d3, d4, d5, d6, d7, d8, d9, d10, d11⟩ := (hcells' i hi2).cells
        have HE : Hid ((l[i] = m[i]) = (l[i]? = m[i]?)) := Lib.hid (ne_at hi' hi2)
        have HIN : Hid (i < l.length ∧ i < m.length) := Lib.hid ⟨hi', hi2⟩
        clear hcells hcells'
        have EQ : ∀ W : World, (Op.equalIn 10000 101 (tokV l[i]) (tokV m[i])).run Try.prog W = .ok (decide (l[i] = m[i])) W := fun W => eq_tok 9997 _ _ W
        have j0 : decide ((i : Int) < (n : Int)) = true := by simp; omega
        have j9 : decide ((i : Int) < (n' : Int)) = true := by simp; omega
        have j2 : (i : Int) < (n : Int) := by omega
        have j3 : (i : Int) < (n' : Int) := by omega
        by_cases he : l[i] = m[i]
        · have hkS : i < S := by
            rcases Nat.lt_or_ge i S with g | g
            · exact g
            · have e : i = S := by omega
              have := HS2.out (by rw [← e]; exact HIN.out.1) (by rw [← e]; exact HIN.out.2)
              rw [← e] at this
              have he' := he
              rw [HE.out] at he'
              exact absurd he' this
          have EQ' : ∀ W : World, (Op.equalIn 10000 101 (tokV l[i]) (tokV m[i])).run Try.prog W = .ok true W := fun W => by rw [EQ W]; simp [he]
          clear EQ HE he HIN
          generalize hKx : l[i] = X at *
          generalize hKy : m[i] = Y at *
          obtain ⟨z0, ty, at_, tr, ma, mb, mc, md, me, mf, mg, mh⟩ := X
          obtain ⟨yk, yty, yat, yr, ya, yb, yc, yd, ye, yf, yg, yh⟩ := Y
          unfold tokV at EQ'
          simp only at c0 c1 c2 c3 c4 c5 c6 c7 c8 c9 c10 c11 d0 d1 d2 d3 d4 d5 d6 d7 d8 d9 d10 d11 EQ'
          clear hKx hKy hbl hbl'
          go_wp2_with fail
          go_quiet (fail)
          go_wp2
          go_roundw
          case rel => exact ⟨i + 1, _, by go_num, by omega, rfl⟩
          case measure => simp [intOf]; omega
        · have hkS : i = S := by
            rcases Nat.lt_or_ge i S with g | g
            · have := HS1.out i g
              exact absurd (by rw [HE.out]; exact this) he
            · omega
          have EQ' : ∀ W : World, (Op.equalIn 10000 101 (tokV l[i]) (tokV m[i])).run Try.prog W = .ok false W := fun W => by rw [EQ W]; simp [he]
          have HRS : Hid ((S : Int) = (i : Int)) := Lib.hid (by omega)
          clear EQ HE he HIN hkS
          generalize hKx : l[i] = X at *
          generalize hKy : m[i] = Y at *
          obtain ⟨z0, ty, at_, tr, ma, mb, mc, md, me, mf, mg, mh⟩ := X
          obtain ⟨yk, yty, yat, yr, ya, yb, yc, yd, ye, yf, yg, yh⟩ := Y
          unfold tokV at EQ'
          simp only at c0 c1 c2 c3 c4 c5 c6 c7 c8 c9 c10 c11 d0 d1 d2 d3 d4 d5 d6 d7 d8 d9 d10 d11 EQ'
          clear hKx hKy hbl hbl'
          go_wp2_with fail
          go_quiet (fail)
          go_wp2
          go_ret
          exact ⟨by rw [HRS.out]; rfl, below_drewN (below_drewN (Below.refl _ _) q) _⟩
      · have HRS : Hid ((S : Int) = (i : Int)) := Lib.hid (by omega)
        have j0 : decide ((i : Int) < (n : Int)) = true := by simp; omega
        have j9 : decide ((i : Int) < (n' : Int)) = false := by simp; omega
        go_wp2_with fail
        go_quiet (fail)
        go_wp2
        go_ret
        exact ⟨by rw [HRS.out]; rfl, below_drewN (below_drewN (Below.refl _ _) q) _⟩
    · have HRS : Hid ((S : Int) = (i : Int)) := Lib.hid (by omega)
      have j0 : decide ((i : Int) < (n : Int)) = false := by simp; omega
      go_wp2_with fail
      go_quiet (fail)
      go_wp2
      go_ret
      exact ⟨by rw [HRS.out]; rfl, below_drewN (below_drewN (Below.refl _ _) q) _⟩
set_option maxRecDepth 100000 in
set_option maxHeartbeats 4000000 in
theorem backR_any (l m : List Tk.Tk) (A B : Option Addr) (n n' cap cap' : Nat) (w : World) (hr : TRow w A n l) (hr' : TRow w B n' m) (hn : n ≤ 1000000) (hn' : n' ≤ 1000000) :
    Calls Try.prog 60 #[.slice A n cap, .slice B n' cap'] w fun e w' => e = .returned (.int .i64 (bk l m : Nat)) ∧ Below w.heap.size w w' := by
  have HL := Lib.hid hr
  have HR := Lib.hid hr'
  obtain ⟨S, hS⟩ : ∃ S, S = bk l m := ⟨_, rfl⟩
  have HS1 : Hid (∀ j, j < S → l[l.length - 1 - j]? = m[m.length - 1 - j]?) := Lib.hid (fun j hj => by
    have hle := bk_le l m
    have := fr_same l.reverse m.reverse j (by rw [hS] at hj; exact hj)
    rwa [rev_at _ _ (by omega), rev_at _ _ (by omega)] at this)
  have HS2 : Hid (S < l.length → S < m.length → l[l.length - 1 - S]? ≠ m[m.length - 1 - S]?) := Lib.hid (fun g1 g2 => by
    have := fr_stop l.reverse m.reverse (by rw [List.length_reverse, ← show S = fr l.reverse m.reverse from hS]; exact g1) (by rw [List.length_reverse, ← show S = fr l.reverse m.reverse from hS]; exact g2)
    rw [← show S = fr l.reverse m.reverse from hS, rev_at _ _ g1, rev_at _ _ g2] at this
    exact this)
  have hle := bk_le l m
  rw [hr.1, hr'.1, ← hS] at hle
  obtain ⟨l1, l2⟩ := hle
  rw [← hS]
  clear hr hr' hS
  go_enter Try.func60, Try.ntmps60
  go_wp2_with fail
  go_loopw [5] (fun iv wr => ∃ (i q : Nat), iv = .int .i64 i ∧ i ≤ S ∧ wr = w.drewN q) (fun iv _ => S - (intOf iv).toNat)
  case atStart => exact ⟨0, 0, rfl, by omega, rfl⟩
  case round =>
    obtain ⟨i, q, rfl, hi, rfl⟩ := hrel
    have n1 : (0 : Int) ≤ (i : Int) := by omega
    by_cases g1 : i < n
    · by_cases g2 : i < n'
      · obtain ⟨bl, off, rfl, hbl, hcells⟩ := HL.out.2 (by omega)
        obtain ⟨bl', off', rfl, hbl', hcells'⟩ := HR.out.2 (by omega)
        obtain ⟨a, ha⟩ : ∃ a : Nat, a = n - 1 - i := ⟨_, rfl⟩
        obtain ⟨b, hb⟩ : ∃ b : Nat, b = n' - 1 - i := ⟨_, rfl⟩
        have hi' : a < l.length := by have := HL.out.1; omega
        have hi2 : b < m.length := by have := HR.out.1; omega
        have ia : (n : Int) - 1 - (i : Int) = (a : Int) := by omega
        have ib : (n' : Int) - 1 - (i : Int) = (b : Int) := by omega
        have ia0 : (a : Int) < (n : Int) := by omega
        have ib0 : (b : Int) < (n' : Int) := by omega
        have ia1 : (0 : Int) ≤ (a : Int) := by omega
        have ib1 : (0 : Int) ≤ (b : Int) := by omega
        have wa : IntKind.i64.wrap ((n : Int) - 1 - (i : Int)) = (a : Int) := by rw [IntWalk.i64_in _ (by omega)]; exact ia
        have wb : IntKind.i64.wrap ((n' : Int) - 1 - (i : Int)) = (b : Int) := by rw [IntWalk.i64_in _ (by omega)]; exact ib
        have wa0 : IntKind.i64.wrap ((n : Int) - 1) = (n : Int) - 1 := IntWalk.i64_in _ (by omega)
        have wb0 : IntKind.i64.wrap ((n' : Int) - 1) = (n' : Int) - 1 := IntWalk.i64_in _ (by omega)
        obtain ⟨c0, c1, c2, c3, c4, c5, c6, c7, c8, c9, c10, c11⟩ := (hcells a hi').cells
        obtain ⟨d0, d1, d2, d3, d4, d5, d6, d7, d8, d9, d10, d11⟩ := (hcells' b hi2).cells
        have HE : Hid ((l[a] = m[b]) = (l[l.length - 1 - i]? = m[m.length - 1 - i]?)) := Lib.hid (by
          rw [HL.out.1, HR.out.1, ← ha, ← hb]; exact ne_at hi' hi2)
        have HIN : Hid (i < l.length ∧ i < m.length) := Lib.hid ⟨by have := HL.out.1; omega, by have := HR.out.1; omega⟩
        clear ha hb
        clear hcells hcells'
        have EQ : ∀ W : World, (Op.equalIn 10000 101 (tokV l[a]) (tokV m[b])).run Try.prog W = .ok (decide (l[a] = m[b])) W := fun W => eq_tok 9997 _ _ W
        have j0 : decide ((i : Int) < (n : Int)) = true := by simp; omega
        have j9 : decide ((i : Int) < (n' : Int)) = true := by simp; omega
        have j2 : (i : Int) < (n : Int) := by omega
        have j3 : (i : Int) < (n' : Int) := by omega
        by_cases he : l[a] = m[b]
        · have hkS : i < S := by
            rcases Nat.lt_or_ge i S with g | g
            · exact g
            · have e : i = S := by omega
              have := HS2.out (by rw [← e]; exact HIN.out.1) (by rw [← e]; exact HIN.out.2)
              rw [← e] at this
              have he' := he
              rw [HE.out] at he'
              exact absurd he' this
          have EQ' : ∀ W : World, (Op.equalIn 10000 101 (tokV l[a]) (tokV m[b])).run Try.prog W = .ok true W := fun W => by rw [EQ W]; simp [he]
          clear EQ HE he HIN
          generalize hKx : l[a] = X at *
          generalize hKy : m[b] = Y at *
          obtain ⟨z0, ty, at_, tr, ma, mb, mc, md, me, mf, mg, mh⟩ := X
          obtain ⟨yk, yty, yat, yr, ya, yb, yc, yd, ye, yf, yg, yh⟩ := Y
          unfold tokV at EQ'
          simp only at c0 c1 c2 c3 c4 c5 c6 c7 c8 c9 c10 c11 d0 d1 d2 d3 d4 d5 d6 d7 d8 d9 d10 d11 EQ'
          clear hKx hKy hbl hbl' ia ib
          go_wp2_with fail
          go_quiet (fail)
          go_wp2
          go_roundw
          case rel => exact ⟨i + 1, _, by go_num, by omega, rfl⟩
          case measure => simp [intOf]; omega
        · have hkS : i = S := by
            rcases Nat.lt_or_ge i S with g | g
            · have := HS1.out i g
              exact absurd (by rw [HE.out]; exact this) he
            · omega
          have EQ' : ∀ W : World, (Op.equalIn 10000 101 (tokV l[a]) (tokV m[b])).run Try.prog W = .ok false W := fun W => by rw [EQ W]; simp [he]
          have HRS : Hid ((S : Int) = (i : Int)) := Lib.hid (by omega)
          clear EQ HE he HIN hkS
          generalize hKx : l[a] = X at *
          generalize hKy : m[b] = Y at *
          obtain ⟨z0, ty, at_, tr, ma, mb, mc, md, me, mf, mg, mh⟩ := X
          obtain ⟨yk, yty, yat, yr, ya, yb, yc, yd, ye, yf, yg, yh⟩ := Y
          unfold tokV at EQ'
          simp only at c0 c1 c2 c3 c4 c5 c6 c7 c8 c9 c10 c11 d0 d1 d2 d3 d4 d5 d6 d7 d8 d9 d10 d11 EQ'
          clear hKx hKy hbl hbl' ia ib
          go_wp2_with fail
          go_quiet (fail)
          go_wp2
          go_ret
          exact ⟨by rw [HRS.out]; rfl, below_drewN (below_drewN (Below.refl _ _) q) _⟩
      · have HRS : Hid ((S : Int) = (i : Int)) := Lib.hid (by omega)
        have j0 : decide ((i : Int) < (n : Int)) = true := by simp; omega
        have j9 : decide ((i : Int) < (n' : Int)) = false := by simp; omega
        go_wp2_with fail
        go_quiet (fail)
        go_wp2
        go_ret
        exact ⟨by rw [HRS.out]; rfl, below_drewN (below_drewN (Below.refl _ _) q) _⟩
    · have HRS : Hid ((S : Int) = (i : Int)) := Lib.hid (by omega)
      have j0 : decide ((i : Int) < (n : Int)) = false := by simp; omega
      go_wp2_with fail
      go_quiet (fail)
      go_wp2
      go_ret
      exact ⟨by rw [HRS.out]; rfl, below_drewN (below_drewN (Below.refl _ _) q) _⟩
def ROneIs (l m : List Tk.Tk) (w : World) (e : Ending) (w' : World) : Prop := ∃ v, e = .returned (stV (oneS l m) v (.slice none 0 0)) ∧ Tks w.heap.size w' v (oneL l m) ∧ Below w.heap.size w w'
theorem tks_empty (w : World) : Tks w.heap.size (w.alloc (.cells #[] 101)) (.slice (some ⟨w.heap.size, 0, none⟩) 0 0) [] :=
  ⟨rfl, .inr ⟨w.heap.size, 0, #[], rfl, Nat.le_refl _, heap_alloc_new w _, Nat.le_refl _, Nat.zero_le _, rfl, rfl⟩⟩
set_option maxRecDepth 100000 in
set_option maxHeartbeats 4000000 in
theorem rone_any (l m : List Tk.Tk) (A B : Option Addr) (n n' c c' : Nat) (w : World) (hn : n ≤ 1000) (hn' : n' ≤ 1000) (hc : n ≤ c) (hc' : n' ≤ c') (h1 : TRow w A n l) (h2 : TRow w B n' m) :
    Calls Try.prog 35 #[.slice A n c, .slice B n' c'] w (ROneIs l m w) := by
  have hnl := h1.1
  have hnm := h2.1
  have hb0 := (Below.refl _ w).alloc (Nat.le_refl _) (.cells #[.int .i64 0, .int .i64 0, .int .i64 0, .int .i64 0, .int .i64 0, .int .i64 0, .int .i64 0, .int .i64 0, .slice none 0 0, .slice none 0 0] 25)
  have HB := Lib.hid hb0
  have HZ := Lib.hid (heap_alloc_new w (.cells #[.int .i64 0, .int .i64 0, .int .i64 0, .int .i64 0, .int .i64 0, .int .i64 0, .int .i64 0, .int .i64 0, .slice none 0 0, .slice none 0 0] 25))
  have HL := Lib.hid (h1.below hb0)
  have HM := Lib.hid (h2.below hb0)
  unfold ROneIs stV oneS
  obtain ⟨f, hf⟩ : ∃ x, x = fr l m := ⟨_, rfl⟩
  obtain ⟨k, hk⟩ : ∃ x, x = bk (l.drop (fr l m)) (m.drop (fr l m)) := ⟨_, rfl⟩
  have hle1 := fr_le l m
  have hle2 := bk_le (l.drop (fr l m)) (m.drop (fr l m))
  have CF := fun W a b => front_any l m A B n n' c c' W a b (by omega) (by omega)
  simp only [← hf] at hk
  simp only [← hf, ← hk, List.length_drop] at hle1 hle2 CF ⊢
  have HO : Hid (cut m f (n' - k) = oneL l m) := Lib.hid (by unfold oneL cut; rw [← hf, ← hk, hnm])
  have HKK : Hid (k = bk (l.drop f) (m.drop f)) := Lib.hid hk
  rw [hnl, hnm] at hle1 hle2
  rw [hnl]
  clear hf hk h1 h2 hnl hnm hb0
  obtain ⟨E1, hE1⟩ : ∃ x, x = n - k := ⟨_, rfl⟩
  obtain ⟨E2, hE2⟩ : ∃ x, x = n' - k := ⟨_, rfl⟩
  rw [← hE2] at HO
  rw [← hE1]
  have hi1 : ((n : Int) - (k : Int)) = (E1 : Int) := by omega
  have hi2 : ((n' : Int) - (k : Int)) = (E2 : Int) := by omega
  obtain ⟨A9', hA9⟩ : ∃ x, (if c = f then A else A.map (·.add (f * 12))) = x := ⟨_, rfl⟩
  obtain ⟨B9', hB9⟩ : ∃ x, (if c' = f then B else B.map (·.add (f * 12))) = x := ⟨_, rfl⟩
  have HCA : Hid (∀ W, TRow W A n l → TRow W A9' (n - f) (l.drop f)) := Lib.hid (fun W hr => by
    have t := trow_cut hr hc (f := f) (h := n) (by omega) (Nat.le_refl _)
    unfold cutA at t
    rw [hA9, List.take_of_length_le (by rw [List.length_drop, hr.1]; exact Nat.le_refl _)] at t
    exact t)
  have HCB : Hid (∀ W, TRow W B n' m → TRow W B9' (n' - f) (m.drop f)) := Lib.hid (fun W hr => by
    have t := trow_cut hr hc' (f := f) (h := n') (by omega) (Nat.le_refl _)
    unfold cutA at t
    rw [hB9, List.take_of_length_le (by rw [List.length_drop, hr.1]; exact Nat.le_refl _)] at t
    exact t)
  have HCU : Hid (∀ W, TRow W B n' m → TRow W B9' (E2 - f) (cut m f E2)) := Lib.hid (fun W hr => by
    have t := trow_cut hr hc' (f := f) (h := E2) (by omega) (by omega)
    unfold cutA at t
    rw [hB9] at t
    exact t)
  have HCK := Lib.hid (fun W a b => backR_any (l.drop f) (m.drop f) A9' B9' (n - f) (n' - f) (c - f) (c' - f) W a b (by omega) (by omega))
  rw [← HKK.out] at HCK
  have n0 : (0 : Int) ≤ (f : Int) := by omega
  have n1 : (f : Int) ≤ (n : Int) := by omega
  have n2 : (f : Int) ≤ (n' : Int) := by omega
  have n3 : (n : Int) ≤ (c : Int) := by omega
  have n4 : (n' : Int) ≤ (c' : Int) := by omega
  have n5 : (f : Int) ≤ (E2 : Int) := by omega
  have n6 : (E2 : Int) ≤ (c' : Int) := by omega
  have hbig : E2 ≤ 1000 := by omega
  clear HKK hle1 hle2 hE1 hE2
  have HCF := Lib.hid CF
  clear CF
  go_enter Try.func35, Try.ntmps35
  go_wp2_with fail
  refine (HCF.out _ HL.out HM.out).mono ?_
  rintro e w1 ⟨rfl, hb1⟩
  have HB1 := Lib.hid (HB.out.trans (hb1.mono HB.out.size))
  have HZ1 := Lib.hid (hkeep hb1 HZ.out)
  have HL1 := Lib.hid (HL.out.below hb1)
  have HM1 := Lib.hid (HM.out.below hb1)
  clear HB HZ HL HM hb1 HCF
  go_wp2_with fail
  go_region_with (go_at_call 60; refine (HCK.out (w1.drewN 1) (HCA.out _ (HL1.out.drewN 1)) (HCB.out _ (HM1.out.drewN 1))).mono ?_; rintro e w2 ⟨rfl, hb2⟩; have HB2 := Lib.hid ((below_drewN HB1.out 1).trans (hb2.mono HB1.out.size)); have HZ2 := Lib.hid (hkeep hb2 (show (w1.drewN 1).heap[w.heap.size]? = _ from HZ1.out)); have HM2 := Lib.hid ((HM1.out.drewN 1).below hb2); clear hb2)
  have hb3 := (Below.refl w2.heap.size w2).alloc (Nat.le_refl _) (.cells #[] 101)
  have HB3 := Lib.hid (HB2.out.trans (hb3.mono HB2.out.size))
  have HZ3 := Lib.hid (hkeep hb3 HZ2.out)
  have HV3 := Lib.hid ((tks_empty w2).lower (Nat.succ_le_of_lt (lt_some HZ2.out)))
  have HC3 := Lib.hid (HCU.out _ (HM2.out.below hb3))
  have hs3 : w.heap.size + 1 ≤ (w2.alloc (.cells #[] 101)).heap.size := lt_some HZ3.out
  clear hb3 HB1 HZ1 HL1 HM1 HB2 HZ2 HM2 HCK HCA HCB HCU hA9
  go_wp2_with (at_builtin; (refine wpList_app_tk rfl (.tmp 22) (.tmp 29) rfl (w.heap.size + 1) (.slice (some ⟨w2.heap.size, 0, none⟩) 0 0) [] rfl HV3.out B9' (E2 - f) (c' - f) (cut m f E2) rfl HC3.out (by simp; omega) hs3 ?_); intro v4 w4 hown hg hat; obtain ⟨A3, c3, hv⟩ := hown.form; obtain ⟨N3, hN3⟩ : ∃ x, x = ([] ++ cut m f E2).length := ⟨_, rfl⟩; rw [← hN3] at hv; clear hN3; subst hv; have hz4 := hg.block w.heap.size (by omega) (fun e => by have := (HV3.out.block _ e.symm).1; omega); rw [HZ3.out] at hz4; have HZ4 := Lib.hid hz4; have HV4 := Lib.hid hown; have HB4 := Lib.hid (below_of_grown HB3.out hg HB3.out.size (fun i e => by have := (HV3.out.block i e).1; omega)); clear hown hg hat hz4; have hz := tenc HZ4.out; have z0 := hz.1.1; have z1 := hz.1.2.1; have z2 := hz.1.2.2.1; have z3 := hz.1.2.2.2.1; have z4 := hz.1.2.2.2.2; have z5 := hz.2.1; have z6 := hz.2.2.1; have z7 := hz.2.2.2.1; have z8 := hz.2.2.2.2.1; have z9 := hz.2.2.2.2.2; have hf := froz HZ4.out; have f0 := hf.1; have f1 := hf.2.1; have f2 := hf.2.2.1; have f3 := hf.2.2.2.1; have f4 := hf.2.2.2.2.1; have f5 := hf.2.2.2.2.2.1; have f6 := hf.2.2.2.2.2.2.1; have f7 := hf.2.2.2.2.2.2.2.1; have f8 := hf.2.2.2.2.2.2.2.2.1; have f9 := hf.2.2.2.2.2.2.2.2.2; clear hz hf)
  have hV9 := HV4.out.grown (grown_put10 (W := w4) (B := w.heap.size) (.int .i64 1) (.int .i64 (f : Int)) (.int .i64 (E1 : Int)) (.int .i64 0) (.int .i64 0) (.int .i64 0) (.int .i64 0) (.int .i64 0) (.slice A3 N3 c3) (.slice none 0 0)) (fun g e e2 => by
    cases e2
    have := (HV4.out.block _ e).1
    omega)
  have hV10 := hV9.lower (show w.heap.size ≤ w.heap.size + 1 by omega)
  rw [List.nil_append, HO.out] at hV10
  unfold put10 at hV10
  have HV10 := Lib.hid hV10
  clear hV9 hV10 HV4 HO
  have hF := tenc (put10_at HZ4.out (.int .i64 1) (.int .i64 (f : Int)) (.int .i64 (E1 : Int)) (.int .i64 0) (.int .i64 0) (.int .i64 0) (.int .i64 0) (.int .i64 0) (.slice A3 N3 c3) (.slice none 0 0))
  have hB10 := put10_below HB4.out (B := w.heap.size) (by omega) (.int .i64 1) (.int .i64 (f : Int)) (.int .i64 (E1 : Int)) (.int .i64 0) (.int .i64 0) (.int .i64 0) (.int .i64 0) (.int .i64 0) (.slice A3 N3 c3) (.slice none 0 0)
  obtain ⟨⟨r0, r1, r2, r3, r4⟩, r5, r6, r7, r8, r9⟩ := hF
  unfold put10 at r0 r1 r2 r3 r4 r5 r6 r7 r8 r9 hB10
  refine bodyPost_ret (v := .agg #[.int .i64 1, .int .i64 (f : Int), .int .i64 (E1 : Int), .int .i64 0, .int .i64 0, .int .i64 0, .int .i64 0, .int .i64 0, .slice A3 N3 c3, .slice none 0 0]) ?_ rfl (⟨.slice A3 N3 c3, rfl, HV10.out, hB10⟩)
  simp [results, Try.results35, go_sem, r0, r1, r2, r3, r4, r5, r6, r7, r8, r9]
end Go.Proofs.Ytgodphfkhmahnaa.Df
