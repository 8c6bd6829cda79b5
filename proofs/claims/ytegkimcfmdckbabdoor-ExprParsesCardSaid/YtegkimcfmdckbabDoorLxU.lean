/- Walks of the reference of the lexer: one sign. -/
import Derived.Test.YtegkimcfmdckbabDoorLxT
namespace Go.Proofs.YtegkimcfmdckbabDoor.Lx
open Go.RowKit Mem
set_option linter.unusedVariables false

abbrev ow (w : World) : World := w.alloc (.cells #[.int .i64 0, .int .i64 0, .int .i64 0, .int .i64 0, .string ⟨#[]⟩] 63)
theorem rsm_of {s : ByteArray} {k : Nat} {b : Bool} (hk : k < s.size) (hd : smI (s[k].toNat : Int) = b) (w : World) : Calls Tryd.prog 65 #[.int .u8 (s[k].toNat : Int)] w fun e w' => e = .returned (.bool b) ∧ w' = w := by
  have hb := s[k].toNat_lt
  have := rsmall_any (s[k].toNat : Int) w (by omega) (by omega)
  rwa [hd] at this
set_option maxRecDepth 100000 in
set_option maxHeartbeats 4000000 in
theorem rone_name (s : ByteArray) (k n : Nat) (w : World) (hk : k < s.size) (hs : s.size ≤ 100000) (hsm : smB s[k] = true) (hn : n = run inB (s.data.toList.drop k)) (hn12 : n ≤ 12) :
    Calls Tryd.prog 47 #[.string s, .int .i64 k] w fun e w' => w.grownBy w' none ∧ e = .returned (.tuple #[.agg #[.int .i64 1, .int .i64 k, .int .i64 0, .int .i64 0, .string (s.extract k (k + n))], .int .i64 ((k + n : Nat) : Int), .int .i64 0]) := by
  have HN : Hid (k + n = k + run inB' (s.data.toList.drop k)) := by show _ = _; rw [inB'_eq, hn]
  have HB1 := Lib.hid (SC.new w 0 0 0 0 ⟨#[]⟩)
  have HG1 := Lib.hid (World.grownBy_alloc w (.cells #[.int .i64 0, .int .i64 0, .int .i64 0, .int .i64 0, .string ⟨#[]⟩] 63) none)
  have HS0 := hide (rsm_of hk (b := true) (by rw [smI_nat]; exact hsm))
  clear hn hsm
  go_enter Tryd.func47, Tryd.ntmps47
  go_wp2_with (go_at_call 65; (with_reducible refine (HS0.out _).mono ?_); rintro e w1 ⟨rfl, hw1⟩; replace hw1 := hw1.symm; subst hw1)
  go_loopw [8] (fun i wr => ∃ j : Nat, i = .int .i64 j ∧ k ≤ j ∧ j ≤ s.size ∧ j ≤ k + 12 ∧ Hid (SC wr w.heap.size 0 0 0 0 ⟨#[]⟩) ∧ Hid (w.grownBy wr none) ∧ Hid (k + n = j + run inB' (s.data.toList.drop j))) (fun i _ => s.size - (intOf i).toNat)
  case atStart => exact ⟨k, rfl, Nat.le_refl _, by omega, by omega, HB1, HG1, HN⟩
  case round =>
    obtain ⟨j, rfl, hkj, hj, hj12, hB, hg, ht⟩ := hrel
    have hw : IntKind.i64.wrap ((j : Int) - (k : Int)) = (j : Int) - (k : Int) := IntWalk.i64_in _ (by omega)
    by_cases hlt : j < s.size
    · have l1 : decide ((j : Int) < (s.size : Int)) = true := by simp; omega
      have l2 : decide (j < s.size) = true := by simp; omega
      have hb := s[j].toNat_lt
      cases hp : smI (s[j].toNat : Int) with
      | true =>
        have hin : inI (s[j].toNat : Int) = true := by simp [inI, hp]
        have HSM := hide (rsm_of hlt hp)
        have HT2 := Lib.hid (name_step ht.out hlt hin)
        have h12 : j - k < 12 := by have := HT2.out; omega
        have hd : ((j : Int) - (k : Int) == 12) = false := by simp; omega
        clear hp ht hin
        go_wp2_with (go_at_call 65; (with_reducible refine (HSM.out _).mono ?_); rintro e w1 ⟨rfl, hw1⟩; replace hw1 := hw1.symm; subst hw1)
        go_roundw
        case rel => exact ⟨j + 1, by go_num, by omega, by omega, by omega, hB, hg, HT2⟩
        case measure => simp [intOf]; omega
      | false =>
        have HSM := hide (rsm_of hlt hp)
        cases hd2 : dgI (s[j].toNat : Int) with
        | true =>
          have hin : inI (s[j].toNat : Int) = true := by simp [inI, hd2]
          have HDG := hide (dg_of hlt hd2)
          have HT2 := Lib.hid (name_step ht.out hlt hin)
          have h12 : j - k < 12 := by have := HT2.out; omega
          have hd : ((j : Int) - (k : Int) == 12) = false := by simp; omega
          clear hp ht hin hd2
          go_wp2_with (first
            | (go_at_call 65; (with_reducible refine (HSM.out _).mono ?_); rintro e w1 ⟨rfl, hw1⟩; replace hw1 := hw1.symm; subst hw1)
            | (go_at_call 66; (with_reducible refine (HDG.out _).mono ?_); rintro e w1 ⟨rfl, hw1⟩; replace hw1 := hw1.symm; subst hw1))
          go_roundw
          case rel => exact ⟨j + 1, by go_num, by omega, by omega, by omega, hB, hg, HT2⟩
          case measure => simp [intOf]; omega
        | false =>
          have hin : inI (s[j].toNat : Int) = false := by simp [inI, hp, hd2]
          have HDG := hide (dg_of hlt hd2)
          have HT2 : Hid (j = k + n) := by
            have e := ht.out; rw [run_no inB' s j hlt hin] at e; exact e.symm
          clear hp ht hin hd2
          obtain ⟨b0, b1, b2, b3, b4⟩ := hB.out.cells
          have f0 := hB.out.free 0
          have f1 := hB.out.free 1
          have f2 := hB.out.free 2
          have f3 := hB.out.free 3
          have f4 := hB.out.free 4
          have i0 : (0 : Int) ≤ (k : Int) := by omega
          have i1 : (k : Int) ≤ (j : Int) := by omega
          have i2 : (j : Int) ≤ (s.size : Int) := by omega
          go_wp2_with (first
            | (go_at_call 65; (with_reducible refine (HSM.out _).mono ?_); rintro e w1 ⟨rfl, hw1⟩; replace hw1 := hw1.symm; subst hw1)
            | (go_at_call 66; (with_reducible refine (HDG.out _).mono ?_); rintro e w1 ⟨rfl, hw1⟩; replace hw1 := hw1.symm; subst hw1))
          have HS := Lib.hid (hB.out.st5 1 k 0 0 (s.extract k j))
          have HG3 := Lib.hid (grown_new hg.out (st5_grown wr w.heap.size 1 k 0 0 (s.extract k j)) (Nat.le_refl _))
          clear b0 b1 b2 b3 b4 f0 f1 f2 f3 f4
          change bodyPost _ _ _ _ _ (st5 wr w.heap.size 1 k 0 0 (s.extract k j))
          generalize st5 wr w.heap.size 1 k 0 0 (s.extract k j) = W2 at HS HG3 ⊢
          obtain ⟨b0, b1, b2, b3, b4⟩ := HS.out.cells
          exact bodyPost_ret (v := .tuple #[.agg #[.int .i64 1, .int .i64 k, .int .i64 0, .int .i64 0, .string (s.extract k j)], .int .i64 j, .int .i64 0]) (by simp [results, Tryd.results47, go_sem, b0, b1, b2, b3, b4]) rfl ⟨HG3.out, by rw [HT2.out]⟩
    · have l1 : decide ((j : Int) < (s.size : Int)) = false := by simp; omega
      have l2 : decide (j < s.size) = false := by simp; omega
      have HT2 : Hid (j = k + n) := by
        have e := ht.out; rw [run_end inB' s j (by omega)] at e; exact e.symm
      clear ht
      obtain ⟨b0, b1, b2, b3, b4⟩ := hB.out.cells
      have f0 := hB.out.free 0
      have f1 := hB.out.free 1
      have f2 := hB.out.free 2
      have f3 := hB.out.free 3
      have f4 := hB.out.free 4
      have i0 : (0 : Int) ≤ (k : Int) := by omega
      have i1 : (k : Int) ≤ (j : Int) := by omega
      have i2 : (j : Int) ≤ (s.size : Int) := by omega
      go_wp2_with fail
      have HS := Lib.hid (hB.out.st5 1 k 0 0 (s.extract k j))
      have HG3 := Lib.hid (grown_new hg.out (st5_grown wr w.heap.size 1 k 0 0 (s.extract k j)) (Nat.le_refl _))
      clear b0 b1 b2 b3 b4 f0 f1 f2 f3 f4
      change bodyPost _ _ _ _ _ (st5 wr w.heap.size 1 k 0 0 (s.extract k j))
      generalize st5 wr w.heap.size 1 k 0 0 (s.extract k j) = W2 at HS HG3 ⊢
      obtain ⟨b0, b1, b2, b3, b4⟩ := HS.out.cells
      exact bodyPost_ret (v := .tuple #[.agg #[.int .i64 1, .int .i64 k, .int .i64 0, .int .i64 0, .string (s.extract k j)], .int .i64 j, .int .i64 0]) (by simp [results, Tryd.results47, go_sem, b0, b1, b2, b3, b4]) rfl ⟨HG3.out, by rw [HT2.out]⟩
end Go.Proofs.YtegkimcfmdckbabDoor.Lx
