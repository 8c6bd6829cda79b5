/- Walks of words: Lines, and its reference; the reference's Same. -/
import Derived.Test.YtdicjplekbjdpabDoorWdF
import Derived.Test.YtdicjplekbjdpabDoorStr
import Derived.BigQuiet
namespace Go.Proofs.YtdicjplekbjdpabDoor.Wd
open Go.RowKit Go.Sort Mem
set_option linter.unusedVariables false

theorem info_str : (Tryd.prog.info? 9).map (fun i => (i.zero, i.size, i.bytes)) = some (some (.string ⟨#[]⟩), 1, 16) := by kernel_rfl

/-- the lines that end ahead of place k, and where the next one begins -/
def stL (s : ByteArray) : Nat → List ByteArray × Nat
  | 0 => ([], 0)
  | k + 1 => if (s.data.toList.getD k 0).toNat = 10 then ((stL s k).1 ++ [s.extract (stL s k).2 k], k + 1) else stL s k
theorem stL_le (s : ByteArray) : ∀ k, (stL s k).2 ≤ k ∧ (stL s k).1.length ≤ k
  | 0 => ⟨Nat.le_refl _, Nat.le_refl _⟩
  | k + 1 => by
    have := stL_le s k
    unfold stL
    split
    · simp; omega
    · omega
/-- the lines of a text, or the first line that has no end -/
def LinesIs (s : ByteArray) (w : World) (e : Ending) (w' : World) : Prop :=
  Below w.heap.size w w' ∧ (((stL s s.size).2 = s.size ∧ ∃ A c, e = .returned (.tuple #[.slice A (stL s s.size).1.length c, .int .i64 0, .int .i64 0]) ∧ SRow w' A (stL s s.size).1.length (stL s s.size).1) ∨
    ((stL s s.size).2 ≠ s.size ∧ e = .returned (.tuple #[.slice none 0 0, .int .i64 ((stL s s.size).1.length + 1 : Int), .int .i64 2])))

set_option maxHeartbeats 1000000 in
theorem lines_any (s : ByteArray) (w : World) (hs : s.size ≤ 2000) : Calls Tryd.prog 10 #[.string s] w (LinesIs s w) := by
  obtain ⟨i0, hi, hz, hs1, hs2⟩ := info_parts info_str
  have hget : ∀ k (h : k < s.size), s[k] = s.data.toList.getD k 0 := fun k h => sget s k h
  have HG := hide hget
  clear hget
  go_enter Tryd.func10, Tryd.ntmps10
  go_wp2
  go_loopw [5, 6, 13] (fun v b i wr => ∃ k : Nat, k ≤ s.size ∧ i = .int .i64 k ∧ b = .int .i64 (stL s k).2 ∧ wr.ownsRow w.heap.size 9 1 v (stL s k).1.length ((stL s k).1.map Value.string) ∧ Below w.heap.size w wr) (fun _ _ i _ => s.size - (intOf i).toNat)
  case atStart => exact ⟨0, Nat.zero_le _, rfl, rfl, World.ownsRow_nil _ _ _ _, Below.refl _ _⟩
  case round =>
    obtain ⟨k, hk, rfl, rfl, ho, hbw⟩ := hrel
    have hle := stL_le s k
    have hnx : stL s (k + 1) = if (s.data.toList.getD k 0).toNat = 10 then ((stL s k).1 ++ [s.extract (stL s k).2 k], k + 1) else stL s k := rfl
    obtain ⟨st, hst⟩ : ∃ st, st = stL s k := ⟨_, rfl⟩
    rw [← hst] at hle ho hnx ⊢
    obtain ⟨ls, b⟩ := st
    simp only at hle ho hnx ⊢
    have HST := Lib.hid hst
    have HNX := Lib.hid hnx
    have HO := Lib.hid ho
    have HB := Lib.hid hbw
    have hbs := hbw.size
    clear hst hnx ho hbw
    by_cases hlt : k < s.size
    · have hg := (unhide HG) k hlt
      by_cases h10 : (s[k]).toNat = 10
      · have t0 : (((s[k]).toNat : Int) == 10) = true := by rw [h10]; rfl
        have hnew : stL s (k + 1) = (ls ++ [s.extract b k], k + 1) := by rw [HNX.out, ← hg, if_pos h10]
        have hc : (wr.alloc (.cells #[.string (s.extract b k)] 9 (0, 0))).cell? ⟨wr.heap.size, 0, none⟩ = some (.string (s.extract b k)) := by rw [World.cell?_alloc_mark]; rfl
        have HC := Lib.hid hc
        have HO2 := Lib.hid (HO.out.alloc (.cells #[.string (s.extract b k)] 9 (0, 0)))
        have HNEW := Lib.hid hnew
        clear hg h10 hnew hc
        go_wp2_with (at_builtin; refine wpList_app_str rfl (.tmp 20) (.tmp 25) _ rfl w.heap.size 9 i0 _ Tryd.underlying23 hi hz (by rfl) hs1 hs2 _ ls.length ls rfl HO2.out _ 1 (s.extract b k) rfl HC.out (by omega) (by simp; omega) ?_; intro v' w2 hown' hg hat)
        have HW2 : Hid (Below w.heap.size w w2) := (HB.out.alloc hbs _).grown hg (by simp; omega) (fun k hk => (HO.out.lt k hk).1)
        go_wp2
        go_roundw
        case rel => exact ⟨k + 1, by omega, by go_num, by rw [HNEW.out]; go_num, by rw [HNEW.out]; simpa using hown', HW2.out⟩
        case measure => simp [intOf]; omega
      · have t0 : (((s[k]).toNat : Int) == 10) = false := by rw [beq_eq_false_iff_ne]; omega
        have hnew : stL s (k + 1) = (ls, b) := by rw [HNX.out, ← hg, if_neg h10]
        have HNEW := Lib.hid hnew
        clear hg h10 hnew
        go_wp2
        go_roundw
        case rel => exact ⟨k + 1, by omega, by go_num, by rw [HNEW.out], by rw [HNEW.out]; exact HO.out, HB.out⟩
        case measure => simp [intOf]; omega
    · obtain rfl : k = s.size := by omega
      obtain ⟨A1, c1, rfl, hc1, hr1⟩ := SRow.of_own HO.out
      have HR1 := Lib.hid hr1
      clear hr1
      by_cases hend : b = s.size
      · have t0 : ((b : Int) != (s.size : Int)) = false := by simp; omega
        go_wp2
        go_ret3
        exact ⟨HB.out, .inl ⟨by rw [← HST.out]; exact hend, A1, c1, by rw [← HST.out]; rfl, by rw [← HST.out]; exact HR1.out⟩⟩
      · have t0 : ((b : Int) != (s.size : Int)) = true := by simp; omega
        go_wp2
        go_ret3
        exact ⟨HB.out, .inr ⟨by rw [← HST.out]; exact hend, by rw [← HST.out]; rfl⟩⟩
end Go.Proofs.YtdicjplekbjdpabDoor.Wd
