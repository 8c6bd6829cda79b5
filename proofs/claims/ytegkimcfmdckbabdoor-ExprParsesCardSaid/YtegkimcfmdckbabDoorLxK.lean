/- Walks of the lexer: the text of signs. -/
import Derived.Test.YtegkimcfmdckbabDoorLxBl
namespace Go.Proofs.YtegkimcfmdckbabDoor.Lx
open Go.RowKit Mem
set_option linter.unusedVariables false

/-- a number of Go's -/
def I64 (v : Int) : Prop := -9223372036854775808 ≤ v ∧ v ≤ 9223372036854775807
theorem times_len {lo hi : Int} (h : I64 lo) (h' : I64 hi) : (times lo hi).length ≤ 43 := by
  have a := itoa_len lo h.1 h.2
  have b := itoa_len hi h'.1 h'.2
  unfold times
  repeat' split
  all_goals simp <;> omega
theorem show1_len {x : Sg} (h : I64 x.low ∧ I64 x.high) (hn : x.name.length ≤ 100) : (show1 x).length ≤ 100 := by
  have a := times_len h.1 h.2
  unfold show1
  repeat' split
  all_goals simp <;> omega
theorem piece_len {x : Sg} (i : Nat) (h : I64 x.low ∧ I64 x.high) (hn : x.name.length ≤ 100) : (piece i x).length ≤ 101 := by
  have a := show1_len h hn
  unfold piece
  split <;> simp <;> omega
theorem showN_len : ∀ (l : List Sg) (i : Nat), (∀ x ∈ l, (I64 x.low ∧ I64 x.high) ∧ x.name.length ≤ 100) → (showN i l).length ≤ 101 * l.length
  | [], _, _ => by simp [showN]
  | x :: l, i, h => by
    have a := piece_len i (h x (by simp)).1 (h x (by simp)).2
    have b := showN_len l (i + 1) (fun y hy => h y (by simp [hy]))
    simp only [showN, List.length_append, List.length_cons]; omega
theorem SB.others {W W' : World} {B b : Nat} {a c d e : Int} {s : ByteArray} (h : SB W B a c d e s) (k : Lib.OthersKept 5 (some b) W W') (hne : B ≠ b) : SB W' B a c d e s :=
  k B _ h (by simpa using hne) (fun c fz e => by injection e with _ e _; revert e; decide)

theorem write_blank (B b : Nat) (l : List UInt8) (w : World) (h : Bld B b w l) (hlen : l.length ≤ 100000) (hBw : B ≤ w.heap.size) :
    Calls Tryd.prog 52 #[.pointer (some ⟨b, 0, none⟩), .int .u8 32] w fun e w' => e = .returned .nilIface ∧ Bld B b w' (l ++ [32]) ∧ Below B w w' ∧ Lib.OthersKept 5 (some b) w w' := writeByte_any B b l 32 32 rfl w h hlen hBw
theorem told (B b : Nat) (l : List UInt8) (w : World) (h : Bld B b w l) (hBw : B ≤ w.heap.size) :
    Calls Tryd.prog 55 #[.pointer (some ⟨b, 0, none⟩)] w fun e w' => e = .returned (.string ⟨l.toArray⟩) ∧ Below B w w' := Tryd.Builder_String_any B b l w h hBw
set_option maxRecDepth 100000 in
set_option maxHeartbeats 4000000 in
theorem Show_any (A : Option Addr) (n c : Nat) (l : List Sg) (w : World) (hr : GRow w A n l) (hn : n ≤ 300) (hx : ∀ x ∈ l, (I64 x.low ∧ I64 x.high) ∧ x.name.length ≤ 100) (H : Held w) :
    Calls Tryd.prog 34 #[.slice A n c] w fun e w' => e = .returned (.string ⟨(showN 0 l).toArray⟩) ∧ Below w.heap.size w w' := by
  have HH := hide H
  have HR := Lib.hid hr
  have HX := hide hx
  clear H hr hx
  go_enter Tryd.func34, Tryd.ntmps34
  go_wp2_with fail
  go_loopw [8] (fun i wr => ∃ k : Nat, k ≤ n ∧ i = .int .i64 k ∧ Hid (Bld w.heap.size w.heap.size wr (showN 0 (l.take k))) ∧ Hid (Below w.heap.size w wr)) (fun i _ => n - (intOf i).toNat)
  case atStart => exact ⟨0, by omega, rfl, Bld.fresh w, (Below.refl _ _).alloc (Nat.le_refl _) _⟩
  case round =>
    obtain ⟨k, hk, rfl, hB, hW⟩ := hrel
    by_cases hlt : k < n
    · have hl : l.length = n := HR.out.1
      obtain ⟨b, off, hA, hb, hc⟩ := HR.out.2 (by omega)
      have hkl : k < l.length := by omega
      obtain ⟨a0, a1, a2, a3, a4⟩ := hc k hkl
      have hcc := fun o => hW.out.cell (p := ⟨b, o, none⟩) hb
      have b0 := (hcc _).trans a0
      have b1 := (hcc _).trans a1
      have b2 := (hcc _).trans a2
      have b3 := (hcc _).trans a3
      have b4 := (hcc _).trans a4
      have hnx := showN_take l k hkl
      have hxk := HX.out l[k] (List.getElem_mem hkl)
      have hlen := showN_len (l.take k) 0 (fun x h => HX.out x (List.mem_of_mem_take h))
      rw [List.length_take, Nat.min_eq_left (by omega)] at hlen
      have hpl := piece_len k hxk.1 hxk.2
      have hHr := HH.out.below hW.out
      obtain ⟨x, hxe⟩ : ∃ x, x = l[k] := ⟨_, rfl⟩
      rw [← hxe] at b0 b1 b2 b3 b4 hnx hxk hpl
      obtain ⟨kd, at_, lo, hi, nm⟩ := x
      dsimp only at b0 b1 b2 b3 b4 hxk
      obtain ⟨T, hT⟩ : ∃ T, T = showN 0 (l.take k) := ⟨_, rfl⟩
      rw [← hT] at hB hnx hlen
      have HN := Lib.hid hnx
      have HHR := hide hHr
      subst hA
      have HSB := Lib.hid (SB.new wr kd at_ lo hi ⟨nm.toArray⟩)
      have HBA := Lib.hid (hB.out.below ((Below.refl _ _).alloc (Nat.le_refl _) (.cells #[.int .i64 kd, .int .i64 at_, .int .i64 lo, .int .i64 hi, .string ⟨nm.toArray⟩] 58)))
      have hsz := hW.out.size
      have HW := Lib.hid hW.out
      have HNE : Hid (wr.heap.size ≠ w.heap.size) := by
        have h := hB.out
        show _ ≠ _
        rcases h with ⟨_, v, h2, _⟩ | ⟨_, v, h2, _⟩ <;> (have := lt_of_block' h2; omega)
      have l0 := hxk.1.1.1
      have l1 := hxk.1.1.2
      have h0' := hxk.1.2.1
      have h1' := hxk.1.2.2
      clear hnx hHr hxe hT hcc a0 a1 a2 a3 a4 hc hl
      by_cases hsp : 0 < k ∧ kd ≠ 5
      · have t1 : decide (0 < k) = true := by simpa using hsp.1
        have t2 : (kd != 5) = true := by simpa using hsp.2
        have HP : Hid (piece k ⟨kd, at_, lo, hi, nm⟩ = 32 :: show1 ⟨kd, at_, lo, hi, nm⟩) := by show _ = _; unfold piece; rw [if_pos hsp]; rfl
        clear hsp
        have hz1 : (show1 ⟨kd, at_, lo, hi, nm⟩).length ≤ 100 := show1_len hxk.1 hxk.2
        go_wp2_with (first
          | (go_at_call 52; (with_reducible refine (write_blank w.heap.size w.heap.size T _ HBA.out (by omega) (by simp; omega)).mono ?_); rintro e w2 ⟨rfl, hb2, hw2, hk2⟩; have HB2 := Lib.hid hb2; have HW2 := Lib.hid (((HW.out.alloc hsz (.cells #[.int .i64 kd, .int .i64 at_, .int .i64 lo, .int .i64 hi, .string ⟨nm.toArray⟩] 58))).trans hw2); have HS2 := Lib.hid (HSB.out.others hk2 HNE.out); have HH2 := Lib.hid (HH.out.below HW2.out); obtain ⟨m0, m1, m2, m3, m4⟩ := HS2.out.cells; clear hb2 hw2 hk2)
          | (go_at_call 54; (with_reducible refine (show_any kd at_ lo hi nm _ HH2.out l0 l1 h0' h1').mono ?_); rintro e w3 ⟨rfl, hb3⟩; have HB3 := Lib.hid (HB2.out.below hb3); have HW3 := Lib.hid (HW2.out.trans (hb3.mono HW2.out.size)); have hz3 := HW3.out.size; clear hb3)
          | (go_at_call 53; (with_reducible refine (writeString_any w.heap.size w.heap.size (T ++ [32]) _ _ HB3.out (by simp [ByteArray.size]; omega) hz3).mono ?_); rintro e w4 ⟨rfl, hb4, hw4, hk4⟩; have HB4 := Lib.hid hb4; have HW4 := Lib.hid (HW3.out.trans hw4); clear hb4 hw4 hk4))
        go_roundw
        case rel => exact ⟨k + 1, by omega, by go_num, by show Bld _ _ _ _; rw [HN.out, HP.out]; simpa using HB4.out, HW4⟩
        case measure => simp [intOf]; omega
      · have HP : Hid (piece k ⟨kd, at_, lo, hi, nm⟩ = show1 ⟨kd, at_, lo, hi, nm⟩) := by show _ = _; unfold piece; rw [if_neg hsp]; rfl
        have hz1 : (show1 ⟨kd, at_, lo, hi, nm⟩).length ≤ 100 := show1_len hxk.1 hxk.2
        have HB2 := HBA
        have HW2 := Lib.hid ((HW.out.alloc hsz (.cells #[.int .i64 kd, .int .i64 at_, .int .i64 lo, .int .i64 hi, .string ⟨nm.toArray⟩] 58)))
        have HH2 := Lib.hid (HH.out.below HW2.out)
        by_cases h0 : k = 0
        · have t1 : decide (0 < k) = false := by simp; omega
          have hk0 : k ≤ 0 := by omega
          clear hsp h0
          go_wp2_with (first
            | (go_at_call 54; (with_reducible refine (show_any kd at_ lo hi nm _ HH2.out l0 l1 h0' h1').mono ?_); rintro e w3 ⟨rfl, hb3⟩; have HB3 := Lib.hid (HB2.out.below hb3); have HW3 := Lib.hid (HW2.out.trans (hb3.mono HW2.out.size)); have hz3 := HW3.out.size; clear hb3)
            | (go_at_call 53; (with_reducible refine (writeString_any w.heap.size w.heap.size T _ _ HB3.out (by simp [ByteArray.size]; omega) hz3).mono ?_); rintro e w4 ⟨rfl, hb4, hw4, hk4⟩; have HB4 := Lib.hid hb4; have HW4 := Lib.hid (HW3.out.trans hw4); clear hb4 hw4 hk4))
          go_roundw
          case rel => exact ⟨k + 1, by omega, by go_num, by show Bld _ _ _ _; rw [HN.out, HP.out]; simpa using HB4.out, HW4⟩
          case measure => simp [intOf]; omega
        · have t1 : decide (0 < k) = true := by simp; omega
          have t2 : (kd != 5) = false := by
            simp only [not_and, Classical.not_not] at hsp
            simpa using hsp (by omega)
          clear hsp h0
          go_wp2_with (first
            | (go_at_call 54; (with_reducible refine (show_any kd at_ lo hi nm _ HH2.out l0 l1 h0' h1').mono ?_); rintro e w3 ⟨rfl, hb3⟩; have HB3 := Lib.hid (HB2.out.below hb3); have HW3 := Lib.hid (HW2.out.trans (hb3.mono HW2.out.size)); have hz3 := HW3.out.size; clear hb3)
            | (go_at_call 53; (with_reducible refine (writeString_any w.heap.size w.heap.size T _ _ HB3.out (by simp [ByteArray.size]; omega) hz3).mono ?_); rintro e w4 ⟨rfl, hb4, hw4, hk4⟩; have HB4 := Lib.hid hb4; have HW4 := Lib.hid (HW3.out.trans hw4); clear hb4 hw4 hk4))
          go_roundw
          case rel => exact ⟨k + 1, by omega, by go_num, by show Bld _ _ _ _; rw [HN.out, HP.out]; simpa using HB4.out, HW4⟩
          case measure => simp [intOf]; omega
    · obtain rfl : k = n := by omega
      have hz := hW.out.size
      have HL : Hid (l.take k = l) := by show _ = _; rw [← HR.out.1, List.take_length]
      go_wp2_with (go_at_call 55; (with_reducible refine (told w.heap.size w.heap.size _ _ hB.out hz).mono ?_); rintro e w5 ⟨rfl, hb5⟩)
      go_ret
      exact ⟨by rw [HL.out]; rfl, hW.out.trans hb5⟩
end Go.Proofs.YtegkimcfmdckbabDoor.Lx
