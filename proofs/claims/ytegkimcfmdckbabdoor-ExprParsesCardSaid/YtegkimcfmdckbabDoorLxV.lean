/- Walks of the reference of the lexer: one sign, the other ways. -/
import Derived.Test.YtegkimcfmdckbabDoorLxU
namespace Go.Proofs.YtegkimcfmdckbabDoor.Lx
open Go.RowKit Mem
set_option linter.unusedVariables false

set_option maxRecDepth 100000 in
set_option maxHeartbeats 4000000 in
theorem rone_long (s : ByteArray) (k n : Nat) (w : World) (hk : k < s.size) (hs : s.size ≤ 100000) (hsm : smB s[k] = true) (hn : n = run inB (s.data.toList.drop k)) (hn12 : 12 < n) :
    Calls Tryd.prog 47 #[.string s, .int .i64 k] w (Gives w (.bad (k + 12) 2)) := by
  have HN : Hid (k + n = k + run inB' (s.data.toList.drop k)) := by show _ = _; rw [inB'_eq, hn]
  have HB1 := Lib.hid (SC.new w 0 0 0 0 ⟨#[]⟩)
  have HG1 := Lib.hid (World.grownBy_alloc w (.cells #[.int .i64 0, .int .i64 0, .int .i64 0, .int .i64 0, .string ⟨#[]⟩] 63) none)
  have HS0 := hide (rsm_of hk (b := true) (by rw [smI_nat]; exact hsm))
  clear hn hsm
  go_enter Tryd.func47, Tryd.ntmps47
  go_wp2_with (go_at_call 65; (with_reducible refine (HS0.out _).mono ?_); rintro e w1 ⟨rfl, hw1⟩; replace hw1 := hw1.symm; subst hw1)
  go_loopw [8] (fun i wr => ∃ j : Nat, i = .int .i64 j ∧ k ≤ j ∧ j ≤ s.size ∧ j ≤ k + 12 ∧ Hid (SC wr w.heap.size 0 0 0 0 ⟨#[]⟩) ∧ Hid (w.grownBy wr none) ∧ Hid (k + n = j + run inB' (s.data.toList.drop j))) (fun i _ => s.size - (intOf i).toNat)
  case atStart => exact ⟨k, rfl, Nat.le_refl _, by omega, by omega, HB1, HG1, HN⟩
  case round =>
    obtain ⟨j, rfl, hkj, hj, hj12, hB, hg, ht⟩ := hrel
    have hw : IntKind.i64.wrap ((j : Int) - (k : Int)) = (j : Int) - (k : Int) := IntWalk.i64_in _ (by omega)
    obtain ⟨hlt, hin⟩ := run_long ht.out hj (by omega)
    have l1 : decide ((j : Int) < (s.size : Int)) = true := by simp; omega
    have l2 : decide (j < s.size) = true := by simp; omega
    have hb := s[j].toNat_lt
    have HT2 := Lib.hid (name_step ht.out hlt hin)
    have HI : Hid (inI (s[j].toNat : Int) = true) := hin
    clear ht hin
    cases hp : smI (s[j].toNat : Int) with
    | true =>
      have HSM := hide (rsm_of hlt hp)
      clear hp
      by_cases h12 : j - k < 12
      · have hd : ((j : Int) - (k : Int) == 12) = false := by simp; omega
        go_wp2_with (go_at_call 65; (with_reducible refine (HSM.out _).mono ?_); rintro e w1 ⟨rfl, hw1⟩; replace hw1 := hw1.symm; subst hw1)
        go_roundw
        case rel => exact ⟨j + 1, by go_num, by omega, by omega, by omega, hB, hg, HT2⟩
        case measure => simp [intOf]; omega
      · have hd : ((j : Int) - (k : Int) == 12) = true := by simp; omega
        have hj2 : Hid (j = k + 12) := by show _ = _; omega
        obtain ⟨b0, b1, b2, b3, b4⟩ := hB.out.cells
        have f0 := hB.out.free 0
        have f1 := hB.out.free 1
        have f2 := hB.out.free 2
        have f3 := hB.out.free 3
        have f4 := hB.out.free 4
        go_wp2_with (first
          | (go_at_call 65; (with_reducible refine (HSM.out _).mono ?_); rintro e w1 ⟨rfl, hw1⟩; replace hw1 := hw1.symm; subst hw1)
          | (go_at_call 66; (with_reducible refine (HDG.out _).mono ?_); rintro e w1 ⟨rfl, hw1⟩; replace hw1 := hw1.symm; subst hw1))
        have HS := Lib.hid (hB.out.st5 0 0 0 0 ⟨#[]⟩)
        have HG3 := Lib.hid (grown_new hg.out (st5_grown wr w.heap.size 0 0 0 0 ⟨#[]⟩) (Nat.le_refl _))
        clear b0 b1 b2 b3 b4 f0 f1 f2 f3 f4
        change bodyPost _ _ _ _ _ (st5 wr w.heap.size 0 0 0 0 ⟨#[]⟩)
        generalize st5 wr w.heap.size 0 0 0 0 ⟨#[]⟩ = W2 at HS HG3 ⊢
        obtain ⟨b0, b1, b2, b3, b4⟩ := HS.out.cells
        exact bodyPost_ret (v := .tuple #[.agg #[.int .i64 0, .int .i64 0, .int .i64 0, .int .i64 0, .string ⟨#[]⟩], .int .i64 j, .int .i64 2]) (by simp [results, Tryd.results47, go_sem, b0, b1, b2, b3, b4]) rfl ⟨HG3.out, ⟨⟨0, 0, 0, 0, []⟩, by rw [hj2.out]; rfl⟩⟩
    | false =>
      have HSM := hide (rsm_of hlt hp)
      have hd2 : dgI (s[j].toNat : Int) = true := by have h := HI.out; unfold inI at h; rwa [hp, Bool.false_or] at h
      have HDG := hide (dg_of hlt hd2)
      clear hp hd2
      by_cases h12 : j - k < 12
      · have hd : ((j : Int) - (k : Int) == 12) = false := by simp; omega
        go_wp2_with (first
          | (go_at_call 65; (with_reducible refine (HSM.out _).mono ?_); rintro e w1 ⟨rfl, hw1⟩; replace hw1 := hw1.symm; subst hw1)
          | (go_at_call 66; (with_reducible refine (HDG.out _).mono ?_); rintro e w1 ⟨rfl, hw1⟩; replace hw1 := hw1.symm; subst hw1))
        go_roundw
        case rel => exact ⟨j + 1, by go_num, by omega, by omega, by omega, hB, hg, HT2⟩
        case measure => simp [intOf]; omega
      · have hd : ((j : Int) - (k : Int) == 12) = true := by simp; omega
        have hj2 : Hid (j = k + 12) := by show _ = _; omega
        obtain ⟨b0, b1, b2, b3, b4⟩ := hB.out.cells
        have f0 := hB.out.free 0
        have f1 := hB.out.free 1
        have f2 := hB.out.free 2
        have f3 := hB.out.free 3
        have f4 := hB.out.free 4
        go_wp2_with (first
          | (go_at_call 65; (with_reducible refine (HSM.out _).mono ?_); rintro e w1 ⟨rfl, hw1⟩; replace hw1 := hw1.symm; subst hw1)
          | (go_at_call 66; (with_reducible refine (HDG.out _).mono ?_); rintro e w1 ⟨rfl, hw1⟩; replace hw1 := hw1.symm; subst hw1))
        have HS := Lib.hid (hB.out.st5 0 0 0 0 ⟨#[]⟩)
        have HG3 := Lib.hid (grown_new hg.out (st5_grown wr w.heap.size 0 0 0 0 ⟨#[]⟩) (Nat.le_refl _))
        clear b0 b1 b2 b3 b4 f0 f1 f2 f3 f4
        change bodyPost _ _ _ _ _ (st5 wr w.heap.size 0 0 0 0 ⟨#[]⟩)
        generalize st5 wr w.heap.size 0 0 0 0 ⟨#[]⟩ = W2 at HS HG3 ⊢
        obtain ⟨b0, b1, b2, b3, b4⟩ := HS.out.cells
        exact bodyPost_ret (v := .tuple #[.agg #[.int .i64 0, .int .i64 0, .int .i64 0, .int .i64 0, .string ⟨#[]⟩], .int .i64 j, .int .i64 2]) (by simp [results, Tryd.results47, go_sem, b0, b1, b2, b3, b4]) rfl ⟨HG3.out, ⟨⟨0, 0, 0, 0, []⟩, by rw [hj2.out]; rfl⟩⟩

set_option maxRecDepth 100000 in
set_option maxHeartbeats 4000000 in
theorem rone_40 (s : ByteArray) (k : Nat) (w : World) (hk : k < s.size) (hs : s.size ≤ 100000) (hsm : smB s[k] = false) (hc : s[k].toNat = 40) :
    Calls Tryd.prog 47 #[.string s, .int .i64 k] w (Gives w (.ok ⟨2, k, 0, 0, []⟩ (k + 1))) := by
  have HB0 := Lib.hid (SC.new w 0 0 0 0 ⟨#[]⟩)
  have HG0 := Lib.hid (World.grownBy_alloc w (.cells #[.int .i64 0, .int .i64 0, .int .i64 0, .int .i64 0, .string ⟨#[]⟩] 63) none)
  have HS0 := hide (rsm_of hk (b := false) (by rw [smI_nat]; exact hsm))
  have e40 : ((s[k].toNat : Int) == 40) = true := by simp; omega
  clear hc
  clear hsm
  go_enter Tryd.func47, Tryd.ntmps47
  go_wp2_with (go_at_call 65; (with_reducible refine (HS0.out _).mono ?_); rintro e w1 ⟨rfl, hw0⟩; have hw1 : w1 = ow w := hw0; clear hw0; have HB : Hid (SC w1 w.heap.size 0 0 0 0 ⟨#[]⟩) := (by show SC _ _ _ _ _ _ _; rw [hw1]; exact HB0.out); have HG : Hid (w.grownBy w1 none) := (by show World.grownBy _ _ _; rw [hw1]; exact HG0.out); clear hw1; obtain ⟨b0, b1, b2, b3, b4⟩ := HB.out.cells; have f0 := HB.out.free 0; have f1 := HB.out.free 1; have f2 := HB.out.free 2; have f3 := HB.out.free 3; have f4 := HB.out.free 4)
  have HS := Lib.hid (HB.out.st5 2 k 0 0 ⟨#[]⟩)
  have HG3 := Lib.hid (grown_new HG.out (st5_grown w1 w.heap.size 2 k 0 0 ⟨#[]⟩) (Nat.le_refl _))
  clear b0 b1 b2 b3 b4 f0 f1 f2 f3 f4
  change bodyPost _ _ _ _ _ (st5 w1 w.heap.size 2 k 0 0 ⟨#[]⟩)
  generalize st5 w1 w.heap.size 2 k 0 0 ⟨#[]⟩ = W2 at HS HG3 ⊢
  obtain ⟨b0, b1, b2, b3, b4⟩ := HS.out.cells
  exact bodyPost_ret (v := .tuple #[.agg #[.int .i64 2, .int .i64 k, .int .i64 0, .int .i64 0, .string ⟨#[]⟩], .int .i64 ((k : Int) + 1), .int .i64 0]) (by simp [results, Tryd.results47, go_sem, b0, b1, b2, b3, b4]) rfl ⟨HG3.out, rfl⟩

set_option maxRecDepth 100000 in
set_option maxHeartbeats 4000000 in
theorem rone_41 (s : ByteArray) (k : Nat) (w : World) (hk : k < s.size) (hs : s.size ≤ 100000) (hsm : smB s[k] = false) (hc : s[k].toNat = 41) :
    Calls Tryd.prog 47 #[.string s, .int .i64 k] w (Gives w (.ok ⟨3, k, 0, 0, []⟩ (k + 1))) := by
  have HB0 := Lib.hid (SC.new w 0 0 0 0 ⟨#[]⟩)
  have HG0 := Lib.hid (World.grownBy_alloc w (.cells #[.int .i64 0, .int .i64 0, .int .i64 0, .int .i64 0, .string ⟨#[]⟩] 63) none)
  have HS0 := hide (rsm_of hk (b := false) (by rw [smI_nat]; exact hsm))
  have e40 : ((s[k].toNat : Int) == 40) = false := by simp; omega
  have e41 : ((s[k].toNat : Int) == 41) = true := by simp; omega
  clear hc
  clear hsm
  go_enter Tryd.func47, Tryd.ntmps47
  go_wp2_with (go_at_call 65; (with_reducible refine (HS0.out _).mono ?_); rintro e w1 ⟨rfl, hw0⟩; have hw1 : w1 = ow w := hw0; clear hw0; have HB : Hid (SC w1 w.heap.size 0 0 0 0 ⟨#[]⟩) := (by show SC _ _ _ _ _ _ _; rw [hw1]; exact HB0.out); have HG : Hid (w.grownBy w1 none) := (by show World.grownBy _ _ _; rw [hw1]; exact HG0.out); clear hw1; obtain ⟨b0, b1, b2, b3, b4⟩ := HB.out.cells; have f0 := HB.out.free 0; have f1 := HB.out.free 1; have f2 := HB.out.free 2; have f3 := HB.out.free 3; have f4 := HB.out.free 4)
  have HS := Lib.hid (HB.out.st5 3 k 0 0 ⟨#[]⟩)
  have HG3 := Lib.hid (grown_new HG.out (st5_grown w1 w.heap.size 3 k 0 0 ⟨#[]⟩) (Nat.le_refl _))
  clear b0 b1 b2 b3 b4 f0 f1 f2 f3 f4
  change bodyPost _ _ _ _ _ (st5 w1 w.heap.size 3 k 0 0 ⟨#[]⟩)
  generalize st5 w1 w.heap.size 3 k 0 0 ⟨#[]⟩ = W2 at HS HG3 ⊢
  obtain ⟨b0, b1, b2, b3, b4⟩ := HS.out.cells
  exact bodyPost_ret (v := .tuple #[.agg #[.int .i64 3, .int .i64 k, .int .i64 0, .int .i64 0, .string ⟨#[]⟩], .int .i64 ((k : Int) + 1), .int .i64 0]) (by simp [results, Tryd.results47, go_sem, b0, b1, b2, b3, b4]) rfl ⟨HG3.out, rfl⟩

set_option maxRecDepth 100000 in
set_option maxHeartbeats 4000000 in
theorem rone_124 (s : ByteArray) (k : Nat) (w : World) (hk : k < s.size) (hs : s.size ≤ 100000) (hsm : smB s[k] = false) (hc : s[k].toNat = 124) :
    Calls Tryd.prog 47 #[.string s, .int .i64 k] w (Gives w (.ok ⟨4, k, 0, 0, []⟩ (k + 1))) := by
  have HB0 := Lib.hid (SC.new w 0 0 0 0 ⟨#[]⟩)
  have HG0 := Lib.hid (World.grownBy_alloc w (.cells #[.int .i64 0, .int .i64 0, .int .i64 0, .int .i64 0, .string ⟨#[]⟩] 63) none)
  have HS0 := hide (rsm_of hk (b := false) (by rw [smI_nat]; exact hsm))
  have e40 : ((s[k].toNat : Int) == 40) = false := by simp; omega
  have e41 : ((s[k].toNat : Int) == 41) = false := by simp; omega
  have e124 : ((s[k].toNat : Int) == 124) = true := by simp; omega
  clear hc
  clear hsm
  go_enter Tryd.func47, Tryd.ntmps47
  go_wp2_with (go_at_call 65; (with_reducible refine (HS0.out _).mono ?_); rintro e w1 ⟨rfl, hw0⟩; have hw1 : w1 = ow w := hw0; clear hw0; have HB : Hid (SC w1 w.heap.size 0 0 0 0 ⟨#[]⟩) := (by show SC _ _ _ _ _ _ _; rw [hw1]; exact HB0.out); have HG : Hid (w.grownBy w1 none) := (by show World.grownBy _ _ _; rw [hw1]; exact HG0.out); clear hw1; obtain ⟨b0, b1, b2, b3, b4⟩ := HB.out.cells; have f0 := HB.out.free 0; have f1 := HB.out.free 1; have f2 := HB.out.free 2; have f3 := HB.out.free 3; have f4 := HB.out.free 4)
  have HS := Lib.hid (HB.out.st5 4 k 0 0 ⟨#[]⟩)
  have HG3 := Lib.hid (grown_new HG.out (st5_grown w1 w.heap.size 4 k 0 0 ⟨#[]⟩) (Nat.le_refl _))
  clear b0 b1 b2 b3 b4 f0 f1 f2 f3 f4
  change bodyPost _ _ _ _ _ (st5 w1 w.heap.size 4 k 0 0 ⟨#[]⟩)
  generalize st5 w1 w.heap.size 4 k 0 0 ⟨#[]⟩ = W2 at HS HG3 ⊢
  obtain ⟨b0, b1, b2, b3, b4⟩ := HS.out.cells
  exact bodyPost_ret (v := .tuple #[.agg #[.int .i64 4, .int .i64 k, .int .i64 0, .int .i64 0, .string ⟨#[]⟩], .int .i64 ((k : Int) + 1), .int .i64 0]) (by simp [results, Tryd.results47, go_sem, b0, b1, b2, b3, b4]) rfl ⟨HG3.out, rfl⟩

set_option maxRecDepth 100000 in
set_option maxHeartbeats 4000000 in
theorem rone_42 (s : ByteArray) (k : Nat) (w : World) (hk : k < s.size) (hs : s.size ≤ 100000) (hsm : smB s[k] = false) (hc : s[k].toNat = 42) :
    Calls Tryd.prog 47 #[.string s, .int .i64 k] w (Gives w (.ok ⟨5, k, 0, (-1), []⟩ (k + 1))) := by
  have HB0 := Lib.hid (SC.new w 0 0 0 0 ⟨#[]⟩)
  have HG0 := Lib.hid (World.grownBy_alloc w (.cells #[.int .i64 0, .int .i64 0, .int .i64 0, .int .i64 0, .string ⟨#[]⟩] 63) none)
  have HS0 := hide (rsm_of hk (b := false) (by rw [smI_nat]; exact hsm))
  have e40 : ((s[k].toNat : Int) == 40) = false := by simp; omega
  have e41 : ((s[k].toNat : Int) == 41) = false := by simp; omega
  have e124 : ((s[k].toNat : Int) == 124) = false := by simp; omega
  have e42 : ((s[k].toNat : Int) == 42) = true := by simp; omega
  clear hc
  clear hsm
  go_enter Tryd.func47, Tryd.ntmps47
  go_wp2_with (go_at_call 65; (with_reducible refine (HS0.out _).mono ?_); rintro e w1 ⟨rfl, hw0⟩; have hw1 : w1 = ow w := hw0; clear hw0; have HB : Hid (SC w1 w.heap.size 0 0 0 0 ⟨#[]⟩) := (by show SC _ _ _ _ _ _ _; rw [hw1]; exact HB0.out); have HG : Hid (w.grownBy w1 none) := (by show World.grownBy _ _ _; rw [hw1]; exact HG0.out); clear hw1; obtain ⟨b0, b1, b2, b3, b4⟩ := HB.out.cells; have f0 := HB.out.free 0; have f1 := HB.out.free 1; have f2 := HB.out.free 2; have f3 := HB.out.free 3; have f4 := HB.out.free 4)
  have HS := Lib.hid (HB.out.st5 5 k 0 (-1) ⟨#[]⟩)
  have HG3 := Lib.hid (grown_new HG.out (st5_grown w1 w.heap.size 5 k 0 (-1) ⟨#[]⟩) (Nat.le_refl _))
  clear b0 b1 b2 b3 b4 f0 f1 f2 f3 f4
  change bodyPost _ _ _ _ _ (st5 w1 w.heap.size 5 k 0 (-1) ⟨#[]⟩)
  generalize st5 w1 w.heap.size 5 k 0 (-1) ⟨#[]⟩ = W2 at HS HG3 ⊢
  obtain ⟨b0, b1, b2, b3, b4⟩ := HS.out.cells
  exact bodyPost_ret (v := .tuple #[.agg #[.int .i64 5, .int .i64 k, .int .i64 0, .int .i64 (-1), .string ⟨#[]⟩], .int .i64 ((k : Int) + 1), .int .i64 0]) (by simp [results, Tryd.results47, go_sem, b0, b1, b2, b3, b4]) rfl ⟨HG3.out, rfl⟩

set_option maxRecDepth 100000 in
set_option maxHeartbeats 4000000 in
theorem rone_43 (s : ByteArray) (k : Nat) (w : World) (hk : k < s.size) (hs : s.size ≤ 100000) (hsm : smB s[k] = false) (hc : s[k].toNat = 43) :
    Calls Tryd.prog 47 #[.string s, .int .i64 k] w (Gives w (.ok ⟨5, k, 1, (-1), []⟩ (k + 1))) := by
  have HB0 := Lib.hid (SC.new w 0 0 0 0 ⟨#[]⟩)
  have HG0 := Lib.hid (World.grownBy_alloc w (.cells #[.int .i64 0, .int .i64 0, .int .i64 0, .int .i64 0, .string ⟨#[]⟩] 63) none)
  have HS0 := hide (rsm_of hk (b := false) (by rw [smI_nat]; exact hsm))
  have e40 : ((s[k].toNat : Int) == 40) = false := by simp; omega
  have e41 : ((s[k].toNat : Int) == 41) = false := by simp; omega
  have e124 : ((s[k].toNat : Int) == 124) = false := by simp; omega
  have e42 : ((s[k].toNat : Int) == 42) = false := by simp; omega
  have e43 : ((s[k].toNat : Int) == 43) = true := by simp; omega
  clear hc
  clear hsm
  go_enter Tryd.func47, Tryd.ntmps47
  go_wp2_with (go_at_call 65; (with_reducible refine (HS0.out _).mono ?_); rintro e w1 ⟨rfl, hw0⟩; have hw1 : w1 = ow w := hw0; clear hw0; have HB : Hid (SC w1 w.heap.size 0 0 0 0 ⟨#[]⟩) := (by show SC _ _ _ _ _ _ _; rw [hw1]; exact HB0.out); have HG : Hid (w.grownBy w1 none) := (by show World.grownBy _ _ _; rw [hw1]; exact HG0.out); clear hw1; obtain ⟨b0, b1, b2, b3, b4⟩ := HB.out.cells; have f0 := HB.out.free 0; have f1 := HB.out.free 1; have f2 := HB.out.free 2; have f3 := HB.out.free 3; have f4 := HB.out.free 4)
  have HS := Lib.hid (HB.out.st5 5 k 1 (-1) ⟨#[]⟩)
  have HG3 := Lib.hid (grown_new HG.out (st5_grown w1 w.heap.size 5 k 1 (-1) ⟨#[]⟩) (Nat.le_refl _))
  clear b0 b1 b2 b3 b4 f0 f1 f2 f3 f4
  change bodyPost _ _ _ _ _ (st5 w1 w.heap.size 5 k 1 (-1) ⟨#[]⟩)
  generalize st5 w1 w.heap.size 5 k 1 (-1) ⟨#[]⟩ = W2 at HS HG3 ⊢
  obtain ⟨b0, b1, b2, b3, b4⟩ := HS.out.cells
  exact bodyPost_ret (v := .tuple #[.agg #[.int .i64 5, .int .i64 k, .int .i64 1, .int .i64 (-1), .string ⟨#[]⟩], .int .i64 ((k : Int) + 1), .int .i64 0]) (by simp [results, Tryd.results47, go_sem, b0, b1, b2, b3, b4]) rfl ⟨HG3.out, rfl⟩

set_option maxRecDepth 100000 in
set_option maxHeartbeats 4000000 in
theorem rone_63 (s : ByteArray) (k : Nat) (w : World) (hk : k < s.size) (hs : s.size ≤ 100000) (hsm : smB s[k] = false) (hc : s[k].toNat = 63) :
    Calls Tryd.prog 47 #[.string s, .int .i64 k] w (Gives w (.ok ⟨5, k, 0, 1, []⟩ (k + 1))) := by
  have HB0 := Lib.hid (SC.new w 0 0 0 0 ⟨#[]⟩)
  have HG0 := Lib.hid (World.grownBy_alloc w (.cells #[.int .i64 0, .int .i64 0, .int .i64 0, .int .i64 0, .string ⟨#[]⟩] 63) none)
  have HS0 := hide (rsm_of hk (b := false) (by rw [smI_nat]; exact hsm))
  have e40 : ((s[k].toNat : Int) == 40) = false := by simp; omega
  have e41 : ((s[k].toNat : Int) == 41) = false := by simp; omega
  have e124 : ((s[k].toNat : Int) == 124) = false := by simp; omega
  have e42 : ((s[k].toNat : Int) == 42) = false := by simp; omega
  have e43 : ((s[k].toNat : Int) == 43) = false := by simp; omega
  have e63 : ((s[k].toNat : Int) == 63) = true := by simp; omega
  clear hc
  clear hsm
  go_enter Tryd.func47, Tryd.ntmps47
  go_wp2_with (go_at_call 65; (with_reducible refine (HS0.out _).mono ?_); rintro e w1 ⟨rfl, hw0⟩; have hw1 : w1 = ow w := hw0; clear hw0; have HB : Hid (SC w1 w.heap.size 0 0 0 0 ⟨#[]⟩) := (by show SC _ _ _ _ _ _ _; rw [hw1]; exact HB0.out); have HG : Hid (w.grownBy w1 none) := (by show World.grownBy _ _ _; rw [hw1]; exact HG0.out); clear hw1; obtain ⟨b0, b1, b2, b3, b4⟩ := HB.out.cells; have f0 := HB.out.free 0; have f1 := HB.out.free 1; have f2 := HB.out.free 2; have f3 := HB.out.free 3; have f4 := HB.out.free 4)
  have HS := Lib.hid (HB.out.st5 5 k 0 1 ⟨#[]⟩)
  have HG3 := Lib.hid (grown_new HG.out (st5_grown w1 w.heap.size 5 k 0 1 ⟨#[]⟩) (Nat.le_refl _))
  clear b0 b1 b2 b3 b4 f0 f1 f2 f3 f4
  change bodyPost _ _ _ _ _ (st5 w1 w.heap.size 5 k 0 1 ⟨#[]⟩)
  generalize st5 w1 w.heap.size 5 k 0 1 ⟨#[]⟩ = W2 at HS HG3 ⊢
  obtain ⟨b0, b1, b2, b3, b4⟩ := HS.out.cells
  exact bodyPost_ret (v := .tuple #[.agg #[.int .i64 5, .int .i64 k, .int .i64 0, .int .i64 1, .string ⟨#[]⟩], .int .i64 ((k : Int) + 1), .int .i64 0]) (by simp [results, Tryd.results47, go_sem, b0, b1, b2, b3, b4]) rfl ⟨HG3.out, rfl⟩

set_option maxRecDepth 100000 in
set_option maxHeartbeats 4000000 in
theorem rone_none (s : ByteArray) (k : Nat) (w : World) (hk : k < s.size) (hs : s.size ≤ 100000) (hsm : smB s[k] = false) (h40 : s[k].toNat ≠ 40) (h41 : s[k].toNat ≠ 41) (h124 : s[k].toNat ≠ 124) (h42 : s[k].toNat ≠ 42) (h43 : s[k].toNat ≠ 43) (h63 : s[k].toNat ≠ 63) (h123 : s[k].toNat ≠ 123) :
    Calls Tryd.prog 47 #[.string s, .int .i64 k] w (Gives w (.bad k 2)) := by
  have HB0 := Lib.hid (SC.new w 0 0 0 0 ⟨#[]⟩)
  have HG0 := Lib.hid (World.grownBy_alloc w (.cells #[.int .i64 0, .int .i64 0, .int .i64 0, .int .i64 0, .string ⟨#[]⟩] 63) none)
  have HS0 := hide (rsm_of hk (b := false) (by rw [smI_nat]; exact hsm))
  have e40 : ((s[k].toNat : Int) == 40) = false := by simp; omega
  have e41 : ((s[k].toNat : Int) == 41) = false := by simp; omega
  have e124 : ((s[k].toNat : Int) == 124) = false := by simp; omega
  have e42 : ((s[k].toNat : Int) == 42) = false := by simp; omega
  have e43 : ((s[k].toNat : Int) == 43) = false := by simp; omega
  have e63 : ((s[k].toNat : Int) == 63) = false := by simp; omega
  have e123 : ((s[k].toNat : Int) == 123) = false := by simp; omega
  clear h40 h41 h124 h42 h43 h63 h123
  clear hsm
  go_enter Tryd.func47, Tryd.ntmps47
  go_wp2_with (go_at_call 65; (with_reducible refine (HS0.out _).mono ?_); rintro e w1 ⟨rfl, hw0⟩; have hw1 : w1 = ow w := hw0; clear hw0; have HB : Hid (SC w1 w.heap.size 0 0 0 0 ⟨#[]⟩) := (by show SC _ _ _ _ _ _ _; rw [hw1]; exact HB0.out); have HG : Hid (w.grownBy w1 none) := (by show World.grownBy _ _ _; rw [hw1]; exact HG0.out); clear hw1; obtain ⟨b0, b1, b2, b3, b4⟩ := HB.out.cells; have f0 := HB.out.free 0; have f1 := HB.out.free 1; have f2 := HB.out.free 2; have f3 := HB.out.free 3; have f4 := HB.out.free 4)
  have HS := Lib.hid (HB.out.st5 0 0 0 0 ⟨#[]⟩)
  have HG3 := Lib.hid (grown_new HG.out (st5_grown w1 w.heap.size 0 0 0 0 ⟨#[]⟩) (Nat.le_refl _))
  clear b0 b1 b2 b3 b4 f0 f1 f2 f3 f4
  change bodyPost _ _ _ _ _ (st5 w1 w.heap.size 0 0 0 0 ⟨#[]⟩)
  generalize st5 w1 w.heap.size 0 0 0 0 ⟨#[]⟩ = W2 at HS HG3 ⊢
  obtain ⟨b0, b1, b2, b3, b4⟩ := HS.out.cells
  exact bodyPost_ret (v := .tuple #[.agg #[.int .i64 0, .int .i64 0, .int .i64 0, .int .i64 0, .string ⟨#[]⟩], .int .i64 k, .int .i64 2]) (by simp [results, Tryd.results47, go_sem, b0, b1, b2, b3, b4]) rfl ⟨HG3.out, ⟨⟨0, 0, 0, 0, []⟩, rfl⟩⟩

set_option maxRecDepth 100000 in
set_option maxHeartbeats 4000000 in
theorem rone_count (s : ByteArray) (k : Nat) (w : World) (hk : k < s.size) (hs : s.size ≤ 100000) (hsm : smB s[k] = false) (h123 : s[k].toNat = 123) {p : Nat × Int} {to : Nat} (hc : cnt (s.data.toList.drop (k + 1)) (k + 1) = .ok p to) :
    Calls Tryd.prog 47 #[.string s, .int .i64 k] w (Gives w (.ok ⟨5, k, p.1, p.2, []⟩ to)) := by
  have HB0 := Lib.hid (SC.new w 0 0 0 0 ⟨#[]⟩)
  have HG0 := Lib.hid (World.grownBy_alloc w (.cells #[.int .i64 0, .int .i64 0, .int .i64 0, .int .i64 0, .string ⟨#[]⟩] 63) none)
  have HS0 := hide (rsm_of hk (b := false) (by rw [smI_nat]; exact hsm))
  have e40 : ((s[k].toNat : Int) == 40) = false := by simp; omega
  have e41 : ((s[k].toNat : Int) == 41) = false := by simp; omega
  have e124 : ((s[k].toNat : Int) == 124) = false := by simp; omega
  have e42 : ((s[k].toNat : Int) == 42) = false := by simp; omega
  have e43 : ((s[k].toNat : Int) == 43) = false := by simp; omega
  have e63 : ((s[k].toNat : Int) == 63) = false := by simp; omega
  have e123 : ((s[k].toNat : Int) == 123) = true := by simp; omega
  have HC := hide (fun W => rcount_any s k W hk hs)
  rw [hc] at HC
  clear h123 hc
  clear hsm
  go_enter Tryd.func47, Tryd.ntmps47
  go_wp2_with (first
    | (go_at_call 65; (with_reducible refine (HS0.out _).mono ?_); rintro e w1 ⟨rfl, hw0⟩; have hw1 : w1 = ow w := hw0; clear hw0; have HB : Hid (SC w1 w.heap.size 0 0 0 0 ⟨#[]⟩) := (by show SC _ _ _ _ _ _ _; rw [hw1]; exact HB0.out); have HG : Hid (w.grownBy w1 none) := (by show World.grownBy _ _ _; rw [hw1]; exact HG0.out); clear hw1; obtain ⟨b0, b1, b2, b3, b4⟩ := HB.out.cells; have f0 := HB.out.free 0; have f1 := HB.out.free 1; have f2 := HB.out.free 2; have f3 := HB.out.free 3; have f4 := HB.out.free 4)
    | (go_at_call 67; (with_reducible refine (HC.out _).mono ?_); rintro e w2 h9; have hg2 := h9.1; obtain rfl := h9.2; have HB2 := Lib.hid (HB.out.kept hg2 (by simp)); have HG2 := Lib.hid (HG.out.trans hg2); clear h9 hg2 b0 b1 b2 b3 b4 f0 f1 f2 f3 f4; obtain ⟨b0, b1, b2, b3, b4⟩ := HB2.out.cells; have f0 := HB2.out.free 0; have f1 := HB2.out.free 1; have f2 := HB2.out.free 2; have f3 := HB2.out.free 3; have f4 := HB2.out.free 4; try dsimp only [sgV]))
  have HS := Lib.hid (HB2.out.st5 5 k p.1 p.2 ⟨#[]⟩)
  have HG3 := Lib.hid (grown_new HG2.out (st5_grown w2 w.heap.size 5 k p.1 p.2 ⟨#[]⟩) (Nat.le_refl _))
  clear b0 b1 b2 b3 b4 f0 f1 f2 f3 f4
  change bodyPost _ _ _ _ _ (st5 w2 w.heap.size 5 k p.1 p.2 ⟨#[]⟩)
  generalize st5 w2 w.heap.size 5 k p.1 p.2 ⟨#[]⟩ = W2 at HS HG3 ⊢
  obtain ⟨b0, b1, b2, b3, b4⟩ := HS.out.cells
  exact bodyPost_ret (v := .tuple #[.agg #[.int .i64 5, .int .i64 k, .int .i64 p.1, .int .i64 p.2, .string ⟨#[]⟩], .int .i64 to, .int .i64 0]) (by simp [results, Tryd.results47, go_sem, b0, b1, b2, b3, b4]) rfl ⟨HG3.out, rfl⟩

set_option maxRecDepth 100000 in
set_option maxHeartbeats 4000000 in
theorem rone_count_bad (s : ByteArray) (k : Nat) (w : World) (hk : k < s.size) (hs : s.size ≤ 100000) (hsm : smB s[k] = false) (h123 : s[k].toNat = 123) {p : Nat} {c : Int} (hc : cnt (s.data.toList.drop (k + 1)) (k + 1) = .bad p c) :
    Calls Tryd.prog 47 #[.string s, .int .i64 k] w (Gives w (.bad p c)) := by
  have HB0 := Lib.hid (SC.new w 0 0 0 0 ⟨#[]⟩)
  have HG0 := Lib.hid (World.grownBy_alloc w (.cells #[.int .i64 0, .int .i64 0, .int .i64 0, .int .i64 0, .string ⟨#[]⟩] 63) none)
  have HS0 := hide (rsm_of hk (b := false) (by rw [smI_nat]; exact hsm))
  have e40 : ((s[k].toNat : Int) == 40) = false := by simp; omega
  have e41 : ((s[k].toNat : Int) == 41) = false := by simp; omega
  have e124 : ((s[k].toNat : Int) == 124) = false := by simp; omega
  have e42 : ((s[k].toNat : Int) == 42) = false := by simp; omega
  have e43 : ((s[k].toNat : Int) == 43) = false := by simp; omega
  have e63 : ((s[k].toNat : Int) == 63) = false := by simp; omega
  have e123 : ((s[k].toNat : Int) == 123) = true := by simp; omega
  have HC := hide (fun W => rcount_any s k W hk hs)
  rw [hc] at HC
  clear h123 hc
  clear hsm
  go_enter Tryd.func47, Tryd.ntmps47
  go_wp2_with (first
    | (go_at_call 65; (with_reducible refine (HS0.out _).mono ?_); rintro e w1 ⟨rfl, hw0⟩; have hw1 : w1 = ow w := hw0; clear hw0; have HB : Hid (SC w1 w.heap.size 0 0 0 0 ⟨#[]⟩) := (by show SC _ _ _ _ _ _ _; rw [hw1]; exact HB0.out); have HG : Hid (w.grownBy w1 none) := (by show World.grownBy _ _ _; rw [hw1]; exact HG0.out); clear hw1; obtain ⟨b0, b1, b2, b3, b4⟩ := HB.out.cells; have f0 := HB.out.free 0; have f1 := HB.out.free 1; have f2 := HB.out.free 2; have f3 := HB.out.free 3; have f4 := HB.out.free 4)
    | (go_at_call 67; (with_reducible refine (HC.out _).mono ?_); rintro e w2 h9; have hg2 := h9.1; obtain ⟨⟨kd, a_, lo, hi, nm⟩, rfl⟩ := h9.2; have HB2 := Lib.hid (HB.out.kept hg2 (by simp)); have HG2 := Lib.hid (HG.out.trans hg2); clear h9 hg2 b0 b1 b2 b3 b4 f0 f1 f2 f3 f4; obtain ⟨b0, b1, b2, b3, b4⟩ := HB2.out.cells; have f0 := HB2.out.free 0; have f1 := HB2.out.free 1; have f2 := HB2.out.free 2; have f3 := HB2.out.free 3; have f4 := HB2.out.free 4; try dsimp only [sgV]))
  have HS := Lib.hid (HB2.out.st5 kd a_ lo hi ⟨nm.toArray⟩)
  have HG3 := Lib.hid (grown_new HG2.out (st5_grown w2 w.heap.size kd a_ lo hi ⟨nm.toArray⟩) (Nat.le_refl _))
  clear b0 b1 b2 b3 b4 f0 f1 f2 f3 f4
  change bodyPost _ _ _ _ _ (st5 w2 w.heap.size kd a_ lo hi ⟨nm.toArray⟩)
  generalize st5 w2 w.heap.size kd a_ lo hi ⟨nm.toArray⟩ = W2 at HS HG3 ⊢
  obtain ⟨b0, b1, b2, b3, b4⟩ := HS.out.cells
  exact bodyPost_ret (v := .tuple #[.agg #[.int .i64 kd, .int .i64 a_, .int .i64 lo, .int .i64 hi, .string ⟨nm.toArray⟩], .int .i64 p, .int .i64 c]) (by simp [results, Tryd.results47, go_sem, b0, b1, b2, b3, b4]) rfl ⟨HG3.out, ⟨⟨kd, a_, lo, hi, nm⟩, rfl⟩⟩

theorem rone_any (s : ByteArray) (k : Nat) (w : World) (hk : k < s.size) (hs : s.size ≤ 100000) :
    Calls Tryd.prog 47 #[.string s, .int .i64 k] w (Gives w (one s[k] (s.data.toList.drop (k + 1)) k)) := by
  cases hsm : smB s[k] with
  | true =>
    have e : one s[k] (s.data.toList.drop (k + 1)) k = if run inB (s.data.toList.drop k) ≤ 12 then .ok ⟨1, k, 0, 0, (s.data.toList.drop k).take (run inB (s.data.toList.drop k))⟩ (k + run inB (s.data.toList.drop k)) else .bad (k + 12) 2 := by
      rw [one, if_pos hsm, ← drop_cons s k hk]
    rw [e]
    by_cases h : run inB (s.data.toList.drop k) ≤ 12
    · rw [if_pos h]
      refine (rone_name s k _ w hk hs hsm rfl h).mono fun e w' ⟨hg, he⟩ => ⟨hg, ?_⟩
      show e = _
      rw [he, extract_list s k _ (run_max inB s k (by omega))]; rfl
    · rw [if_neg h]
      exact rone_long s k _ w hk hs hsm rfl (by omega)
  | false =>
    by_cases h123 : s[k].toNat = 123
    · rw [one, hsm, if_neg (by decide), if_pos h123]
      cases hc : cnt (s.data.toList.drop (k + 1)) (k + 1) with
      | bad p c => exact rone_count_bad s k w hk hs hsm h123 hc
      | ok p to => exact rone_count s k w hk hs hsm h123 hc
    · rw [one, hsm, if_neg (by decide), if_neg h123]
      unfold single
      by_cases h40 : s[k].toNat = 40
      · simp only [h40]; exact rone_40 s k w hk hs hsm h40
      by_cases h41 : s[k].toNat = 41
      · simp only [h41]; exact rone_41 s k w hk hs hsm h41
      by_cases h124 : s[k].toNat = 124
      · simp only [h124]; exact rone_124 s k w hk hs hsm h124
      by_cases h42 : s[k].toNat = 42
      · simp only [h42]; exact rone_42 s k w hk hs hsm h42
      by_cases h43 : s[k].toNat = 43
      · simp only [h43]; exact rone_43 s k w hk hs hsm h43
      by_cases h63 : s[k].toNat = 63
      · simp only [h63]; exact rone_63 s k w hk hs hsm h63
      simp only [h40, h41, h124, h42, h43, h63, if_false]
      exact rone_none s k w hk hs hsm h40 h41 h124 h42 h43 h63 h123
end Go.Proofs.YtegkimcfmdckbabDoor.Lx
