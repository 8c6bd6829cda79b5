/- Walks of the reference of words: Lines, Same. -/
import Derived.Test.YtdicjplekbjdpabDoorWdM
namespace Go.Proofs.YtdicjplekbjdpabDoor.Wd
open Go.RowKit Go.Sort Mem
set_option linter.unusedVariables false

set_option maxHeartbeats 1000000 in
theorem rlines_any (s : ByteArray) (w : World) (hs : s.size ≤ 2000) : Calls Tryd.prog 11 #[.string s] w (LinesIs s w) := by
  obtain ⟨i0, hi, hz, hs1, hs2⟩ := info_parts info_str
  have hget : ∀ k (h : k < s.size), s[k] = s.data.toList.getD k 0 := fun k h => sget s k h
  have HG := hide hget
  clear hget
  go_enter Tryd.func11, Tryd.ntmps11
  go_wp2
  go_loopw [5, 6, 7] (fun v b i wr => ∃ k : Nat, k ≤ s.size ∧ i = .int .i64 k ∧ b = .int .i64 (stL s k).2 ∧ wr.ownsRow w.heap.size 9 1 v (stL s k).1.length ((stL s k).1.map Value.string) ∧ Below w.heap.size w wr) (fun _ _ i _ => s.size - (intOf i).toNat)
  case atStart => exact ⟨0, Nat.zero_le _, rfl, rfl, World.ownsRow_nil _ _ _ _, Below.refl _ _⟩
  case round =>
    obtain ⟨k, hk, rfl, rfl, ho, hbw⟩ := hrel
    have hle := stL_le s k
    have hnx : stL s (k + 1) = if (s.data.toList.getD k 0).toNat = 10 then ((stL s k).1 ++ [s.extract (stL s k).2 k], k + 1) else stL s k := rfl
    obtain ⟨st, hst⟩ : ∃ st, st = stL s k := ⟨_, rfl⟩
    rw [← hst] at hle ho hnx ⊢
    obtain ⟨ls, b⟩ := st
    simp only at hle ho hnx ⊢
    have HST := Lib.hid hst
    have HNX := Lib.hid hnx
    have HO := Lib.hid ho
    have HB := Lib.hid hbw
    have hbs := hbw.size
    clear hst hnx ho hbw
    by_cases hlt : k < s.size
    · have hg := (unhide HG) k hlt
      by_cases h10 : (s[k]).toNat = 10
      · have t0 : (((s[k]).toNat : Int) == 10) = true := by rw [h10]; rfl
        have hnew : stL s (k + 1) = (ls ++ [s.extract b k], k + 1) := by rw [HNX.out, ← hg, if_pos h10]
        have hc : (wr.alloc (.cells #[.string (s.extract b k)] 9 (0, 0))).cell? ⟨wr.heap.size, 0, none⟩ = some (.string (s.extract b k)) := by rw [World.cell?_alloc_mark]; rfl
        have HC := Lib.hid hc
        have HO2 := Lib.hid (HO.out.alloc (.cells #[.string (s.extract b k)] 9 (0, 0)))
        have HNEW := Lib.hid hnew
        clear hg h10 hnew hc
        go_wp2_with (at_builtin; refine wpList_app_str rfl (.tmp 21) (.tmp 26) _ rfl w.heap.size 9 i0 _ Tryd.underlying23 hi hz (by rfl) hs1 hs2 _ ls.length ls rfl HO2.out _ 1 (s.extract b k) rfl HC.out (by omega) (by simp; omega) ?_; intro v' w2 hown' hg hat)
        have HW2 : Hid (Below w.heap.size w w2) := (HB.out.alloc hbs _).grown hg (by simp; omega) (fun k hk => (HO.out.lt k hk).1)
        go_wp2
        go_roundw
        case rel => exact ⟨k + 1, by omega, by go_num, by rw [HNEW.out]; go_num, by rw [HNEW.out]; simpa using hown', HW2.out⟩
        case measure => simp [intOf]; omega
      · have t0 : (((s[k]).toNat : Int) == 10) = false := by rw [beq_eq_false_iff_ne]; omega
        have hnew : stL s (k + 1) = (ls, b) := by rw [HNX.out, ← hg, if_neg h10]
        have HNEW := Lib.hid hnew
        clear hg h10 hnew
        go_wp2
        go_roundw
        case rel => exact ⟨k + 1, by omega, by go_num, by rw [HNEW.out], by rw [HNEW.out]; exact HO.out, HB.out⟩
        case measure => simp [intOf]; omega
    · obtain rfl : k = s.size := by omega
      obtain ⟨A1, c1, rfl, hc1, hr1⟩ := SRow.of_own HO.out
      have HR1 := Lib.hid hr1
      clear hr1
      by_cases hend : b = s.size
      · have t0 : ¬ (b : Int) < (s.size : Int) := by omega
        go_wp2
        go_ret3
        exact ⟨HB.out, .inl ⟨by rw [← HST.out]; exact hend, A1, c1, by rw [← HST.out]; rfl, by rw [← HST.out]; exact HR1.out⟩⟩
      · have t0 : (b : Int) < (s.size : Int) := by have := hle.1; omega
        go_wp2
        go_ret3
        exact ⟨HB.out, .inr ⟨by rw [← HST.out]; exact hend, by rw [← HST.out]; rfl⟩⟩

set_option maxHeartbeats 400000 in
theorem same_yes (A1 A2 : Option Addr) (n c1 c2 : Nat) (ss : List ByteArray) (w : World) (h1 : SRow w A1 n ss) (h2 : SRow w A2 n ss) (hn : n ≤ 100000) :
    Calls Tryd.prog 12 #[.slice A1 n c1, .slice A2 n c2] w fun e w' => e = .returned (.bool true) ∧ Below w.heap.size w w' := by
  have d0 : ((n : Int) != (n : Int)) = false := by simp
  go_enter Tryd.func12, Tryd.ntmps12
  go_wp2
  go_loopw [5] (fun i wr => ∃ k : Nat, k ≤ n ∧ i = .int .i64 k ∧ ∃ m, wr = w.drewN m) (fun i _ => n - (intOf i).toNat)
  case atStart => exact ⟨0, Nat.zero_le _, rfl, 0, rfl⟩
  case round =>
    obtain ⟨k, hk, rfl, m, rfl⟩ := hrel
    by_cases hlt : k < n
    · obtain ⟨b1, o1, rfl, _, hx1⟩ := h1.2 (by omega)
      obtain ⟨b2, o2, rfl, _, hx2⟩ := h2.2 (by omega)
      have x1 := hx1 k hlt
      have x2 := hx2 k hlt
      obtain ⟨z, hz⟩ : ∃ z, z = ss.getD k ByteArray.empty := ⟨_, rfl⟩
      rw [← hz] at x1 x2
      have i1 : (0 : Int) ≤ (k : Int) := by omega
      have i2 : (k : Int) < (n : Int) := by omega
      have d1 : (z.toList != z.toList) = false := by simp
      have d2 : (z.toList == z.toList) = true := by simp
      clear hx1 hx2 hz h1 h2
      go_wp2
      go_quiet (fail)
      go_wp2
      go_roundw
      case rel => exact ⟨k + 1, by omega, by go_num, _, rfl⟩
      case measure => simp [intOf]; omega
    · go_wp2
      go_ret
      exact ⟨rfl, Mem.below_drewN (Below.refl _ _) _⟩
end Go.Proofs.YtdicjplekbjdpabDoor.Wd
