/- Walks of the lexer: passing blanks, the byte ahead. -/
import Derived.Test.YtegkimcfmdckbabDoorLxA
import Derived.StillTailTactics
namespace Go.Proofs.YtegkimcfmdckbabDoor.Lx
open Go.RowKit Mem
set_option linter.unusedVariables false

def blkB (c : UInt8) : Bool := blkI (c.toNat : Int)
theorem run_yes (p : UInt8 → Bool) (s : ByteArray) (k : Nat) (h : k < s.size) (hp : p s[k] = true) : run p (s.data.toList.drop k) = run p (s.data.toList.drop (k + 1)) + 1 := by
  rw [drop_cons s k h, run, if_pos hp]
theorem run_no (p : UInt8 → Bool) (s : ByteArray) (k : Nat) (h : k < s.size) (hp : p s[k] = false) : run p (s.data.toList.drop k) = 0 := by
  rw [drop_cons s k h, run, if_neg (by simp [hp])]
theorem run_end (p : UInt8 → Bool) (s : ByteArray) (k : Nat) (h : s.size ≤ k) : run p (s.data.toList.drop k) = 0 := by
  rw [drop_end s k h]; rfl
theorem run_max (p : UInt8 → Bool) (s : ByteArray) (k : Nat) (h : k ≤ s.size) : k + run p (s.data.toList.drop k) ≤ s.size := by
  have := run_le p (s.data.toList.drop k)
  rw [List.length_drop, Array.length_toList] at this
  have e : s.data.size = s.size := rfl
  omega

set_option maxHeartbeats 1000000 in
theorem pass_any (b : Nat) (s : ByteArray) (k : Nat) (w : World) (r : Rd w b s k) (hk : k ≤ s.size) (hs : s.size ≤ 100000) :
    Calls Tryd.prog 38 #[.pointer (some ⟨b, 0, none⟩), .func (.func 39) #[] #[]] w fun e w' => e = .returned (.tuple #[]) ∧ Rd w' b s (k + run blkB (s.data.toList.drop k)) ∧ w.grownBy w' (some b) := by
  obtain ⟨T, hT⟩ : ∃ T, T = k + run blkB (s.data.toList.drop k) := ⟨_, rfl⟩
  rw [← hT]
  have HT := Lib.hid hT
  have HR := Lib.hid r
  clear hT r
  go_enter Tryd.func38, Tryd.ntmps38
  go_wp2_with fail
  go_loopw [6] (fun _ wr => ∃ j : Nat, j ≤ s.size ∧ Hid (Rd wr b s j) ∧ Hid (w.grownBy wr (some b)) ∧ Hid (T = j + run blkB (s.data.toList.drop j))) (fun _ wr => s.size - (intOf ((wr.cell? ⟨b, 1, none⟩).getD undef)).toNat)
  case atStart => exact ⟨k, hk, HR, Lib.hid (grown_refl _ _), HT⟩
  case round =>
    obtain ⟨j, hj, hr, hg, ht⟩ := hrel
    have hsz := hr.out.c1
    have hfz := hr.out.free 1
    by_cases hlt : j < s.size
    · cases hp : blkI (s[j].toNat : Int) with
      | true =>
        have HC0 := ahead_in_blank b s j wr hr.out hlt hs
        rw [hp] at HC0
        have HC := Lib.hid HC0
        have HT2 : Hid (T = (j + 1) + run blkB (s.data.toList.drop (j + 1))) := by
          have e := ht.out; rw [run_yes blkB s j hlt hp] at e; show _ = _; omega
        clear hp ht HC0
        go_wp2_with (go_at_call 56; refine HC.out.mono ?_; rintro e w' ⟨rfl, n, rfl⟩)
        have HR2 := Lib.hid (((hr.out).drewN n).set1 j)
        have HG2 := Lib.hid (World.grownBy.trans (only_drewN hg.out n) (grown_set _ b 1 (.int .i64 ((j : Int) + 1))))
        go_roundw
        case rel => exact ⟨j + 1, by omega, HR2, HG2, HT2⟩
        case measure => rw [hsz, HR2.out.c1]; simp [intOf]; omega
      | false =>
        have HC0 := ahead_in_blank b s j wr hr.out hlt hs
        rw [hp] at HC0
        have HC := Lib.hid HC0
        have HT2 : Hid (T = j) := by
          have e := ht.out; rw [run_no blkB s j hlt hp] at e; exact e
        clear hp ht HC0
        go_wp2_with (go_at_call 56; refine HC.out.mono ?_; rintro e w' ⟨rfl, n, rfl⟩)
        go_end0
        exact ⟨rfl, by rw [HT2.out]; exact hr.out.drewN n, only_drewN hg.out n⟩
    · have HC := Lib.hid (ahead_end_blank b s j wr hr.out (by omega) hs (by omega))
      have HT2 : Hid (T = j) := by
        have e := ht.out; rw [run_end blkB s j (by omega)] at e; exact e
      clear ht
      go_wp2_with (go_at_call 56; refine HC.out.mono ?_; rintro e w' ⟨rfl, n, rfl⟩)
      go_end0
      exact ⟨rfl, by rw [HT2.out]; exact hr.out.drewN n, only_drewN hg.out n⟩

-- the byte ahead, of a sign that isn't whole yet
set_option maxHeartbeats 1000000 in
theorem next_in (b : Nat) (s : ByteArray) (k : Nat) (w : World) (r : Rd w b s k) (hk : k < s.size) (hs : s.size ≤ 100000) :
    Calls Tryd.prog 74 #[.pointer (some ⟨b, 0, none⟩)] w fun e w' => e = .returned (.int .u8 (s[k].toNat : Int)) ∧ ∃ n, w' = w.drewN n := by
  have c0 := r.c0
  have c1 := r.c1
  have d : decide (k < s.size) = true := by simpa using hk
  have i0 : (0 : Int) ≤ (k : Int) := by omega
  have i1 : (k : Int) < (s.size : Int) := by omega
  have HM := hide (fun n => must_ok (k : Int) 5 b (w.drewN n))
  clear r
  go_enter Tryd.func74, Tryd.ntmps74
  go_wp2
  go_quiet ((go_at_call 41; exact Calls.quiet_of_same (HM.out _)))
  go_wp2
  go_quiet (fail)
  go_wp2
  go_ret
  exact ⟨rfl, _, by rw [World.drewN_drewN]⟩
set_option maxHeartbeats 1000000 in
theorem next_end (b : Nat) (s : ByteArray) (k : Nat) (w : World) (r : Rd w b s k) (hk : s.size ≤ k) (hs : s.size ≤ 100000) (hk2 : k ≤ 100000) :
    Calls Tryd.prog 74 #[.pointer (some ⟨b, 0, none⟩)] w fun e w' => e = .panicked (chain k 5) ∧ ∃ n, w' = w.drewN n := by
  have c0 := r.c0
  have c1 := r.c1
  have d : decide (k < s.size) = false := by simp; omega
  have HM := hide (fun n => must_bad k 5 b (w.drewN n))
  clear r
  go_enter Tryd.func74, Tryd.ntmps74
  go_wp2
  refine wp_region_dies_at (ch := chain k 5) 15 0 0 15 _ (by kernel_rfl) rfl (by simp) (by kernel_rfl) (by kernel_rfl) ?_ ?_
  · simp only [List.take_succ_cons, List.take_zero, List.drop_zero, List.append_nil]
    repeat (quiet_step (fail))
    refine wpQuiet_nil ⟨rfl, dies_end 41 #[.pointer (some ⟨b, 0, none⟩), .bool false, .int .i64 k, .int .i64 5] (fun n => by go_simp) (fun n => ?_)⟩
    exact (HM.out n).mono fun e w' ⟨he, hw⟩ => ⟨he, 0, hw⟩
  · intro a' n hd
    exact ⟨hd, rfl, _, rfl⟩
end Go.Proofs.YtegkimcfmdckbabDoor.Lx
