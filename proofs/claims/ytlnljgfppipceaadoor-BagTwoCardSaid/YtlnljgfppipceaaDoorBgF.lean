/- Walks of bag: OnesCount64, TrailingZeros64, Len. -/
import Derived.Test.YtlnljgfppipceaaDoorBgC
import Derived.Test.YtlnljgfppipceaaDoorBgPop
import Derived.Laws.Bits128
import Derived.Shelf.Spec.TrailingZeros
namespace Go.Proofs.YtlnljgfppipceaaDoor.Bg
open Go.RowKit Mem
set_option linter.unusedVariables false

theorem wrap_nat (n : Nat) (h : n < 18446744073709551616) : IntKind.u64.wrap (n : Int) = (n : Int) := by rw [IntKind.wrap_u64]; omega

theorem sum_step (m c r d : Nat) (hd : c / m = d) (hr : r = c + d) (hl : r < 18446744073709551616) : IntKind.u64.wrap ((c : Int) + (c : Int) / (m : Int)) = (r : Int) := by
  rw [show ((c : Int) + (c : Int) / (m : Int)) = ((c + c / m : Nat) : Int) from by simp, hd, ← hr, wrap_nat _ hl]

/-- the sums in halves, as the walk spells them -/
theorem ones_facts (x : Nat) (hx : x < 18446744073709551616) : ∃ A B C C1 C2 C3 : Nat,
    IntKind.u64.wrap (bits .and .u64 ((x : Int) / 2) 6148914691236517205 + bits .and .u64 (x : Int) 6148914691236517205) = (A : Int) ∧
    IntKind.u64.wrap (bits .and .u64 ((A : Int) / 4) 3689348814741910323 + bits .and .u64 (A : Int) 3689348814741910323) = (B : Int) ∧
    bits .and .u64 (IntKind.u64.wrap ((B : Int) / 16 + (B : Int))) 1085102592571150095 = (C : Int) ∧
    IntKind.u64.wrap ((C : Int) + (C : Int) / 256) = (C1 : Int) ∧
    IntKind.u64.wrap ((C1 : Int) + (C1 : Int) / 65536) = (C2 : Int) ∧
    IntKind.u64.wrap ((C2 : Int) + (C2 : Int) / 4294967296) = (C3 : Int) ∧ C3 < 9223372036854775808 ∧
    C3 % 128 = (bitsOf x).length := by
  obtain ⟨p0, p1, p2, p3, p4, p5, p6, p7, hC, hA, hB, q0, q1, q2, q3, q4, q5, q6, q7, hn⟩ := steps x hx
  refine ⟨(x / 2 &&& 6148914691236517205) + (x &&& 6148914691236517205), (((x / 2 &&& 6148914691236517205) + (x &&& 6148914691236517205)) / 4 &&& 3689348814741910323) + (((x / 2 &&& 6148914691236517205) + (x &&& 6148914691236517205)) &&& 3689348814741910323), p0 + 256 * p1 + 65536 * p2 + 16777216 * p3 + 4294967296 * p4 + 1099511627776 * p5 + 281474976710656 * p6 + 72057594037927936 * p7, p0 + p1 + 256 * (p1 + p2) + 65536 * (p2 + p3) + 16777216 * (p3 + p4) + 4294967296 * (p4 + p5) + 1099511627776 * (p5 + p6) + 281474976710656 * (p6 + p7) + 72057594037927936 * p7,
    p0 + p1 + p2 + p3 + 256 * (p1 + p2 + p3 + p4) + 65536 * (p2 + p3 + p4 + p5) + 16777216 * (p3 + p4 + p5 + p6) + 4294967296 * (p4 + p5 + p6 + p7) + 1099511627776 * (p5 + p6 + p7) + 281474976710656 * (p6 + p7) + 72057594037927936 * p7,
    p0 + p1 + p2 + p3 + p4 + p5 + p6 + p7 + 256 * (p1 + p2 + p3 + p4 + p5 + p6 + p7) + 65536 * (p2 + p3 + p4 + p5 + p6 + p7) + 16777216 * (p3 + p4 + p5 + p6 + p7) + 4294967296 * (p4 + p5 + p6 + p7) + 1099511627776 * (p5 + p6 + p7) + 281474976710656 * (p6 + p7) + 72057594037927936 * p7,
    ?_, ?_, ?_, ?_, ?_, ?_, ?_, ?_⟩
  · rw [show ((x : Int) / 2) = ((x / 2 : Nat) : Int) from by simp, show (6148914691236517205 : Int) = ((6148914691236517205 : Nat) : Int) from rfl, u64_and_nat _ _ (by omega) (by decide), u64_and_nat _ _ hx (by decide), ← Int.natCast_add, wrap_nat _ hA]
  · generalize (x / 2 &&& 6148914691236517205) + (x &&& 6148914691236517205) = A at *
    rw [show ((A : Int) / 4) = ((A / 4 : Nat) : Int) from by simp, show (3689348814741910323 : Int) = ((3689348814741910323 : Nat) : Int) from rfl, u64_and_nat _ _ (by omega) (by decide), u64_and_nat _ _ hA (by decide), ← Int.natCast_add, wrap_nat _ (by omega)]
  · generalize (x / 2 &&& 6148914691236517205) + (x &&& 6148914691236517205) = A at *
    generalize (A / 4 &&& 3689348814741910323) + (A &&& 3689348814741910323) = B at *
    rw [show ((B : Int) / 16 + (B : Int)) = ((B / 16 + B : Nat) : Int) from by simp, wrap_nat _ (by omega), show (1085102592571150095 : Int) = ((1085102592571150095 : Nat) : Int) from rfl, u64_and_nat _ _ (by omega) (by decide), hC]
  · clear hC hA hB hn hx
    rw [IntKind.wrap_u64]; omega
  · clear hC hA hB hn hx
    refine sum_step 65536 _ _ (p2 + p3 + 256 * (p3 + p4) + 65536 * (p4 + p5) + 16777216 * (p5 + p6) + 4294967296 * (p6 + p7) + 1099511627776 * p7) (by omega) (by omega) (by omega)
  · clear hC hA hB hn hx
    refine sum_step 4294967296 _ _ (p4 + p5 + p6 + p7 + 256 * (p5 + p6 + p7) + 65536 * (p6 + p7) + 16777216 * p7) (by omega) (by omega) (by omega)
  · clear hC hA hB hn hx
    omega
  · rw [bits_cnt, hn]
    clear hC hA hB hn hx
    omega

set_option maxRecDepth 100000 in
set_option maxHeartbeats 1000000 in
theorem ones_any (x : Nat) (hx : x < 18446744073709551616) (w : World) :
    Calls Tryd.prog 22 #[.int .u64 x] w fun e w' => e = .returned (.int .i64 (bitsOf x).length) ∧ w = w' := by
  obtain ⟨A, B, C, C1, C2, C3, h1, h2, h3, h4, h5, h6, h7, h8⟩ := ones_facts x hx
  have H7 := Lib.hid h7
  have H8 := Lib.hid h8
  clear hx h7 h8
  go_enter Tryd.func22, Tryd.ntmps22
  go_wp2
  go_ret
  refine ⟨ret_int ?_, rfl⟩
  have e7 := H7.out
  have e8 := H8.out
  rw [show wrap64 (C3 : Int) = C3 from by unfold wrap64; omega, i64_and127]
  omega

theorem tz_core (x k idx : Nat) (w : World) (hx0 : ((x : Int) == 0) = false)
    (key : IntKind.u64.wrap (bits BinOp.and IntKind.u64 (x : Int) (IntKind.u64.wrap (-(x : Int))) * 285870213051353865) / 288230376151711744 = (idx : Int))
    (hi : idx < 64) (hk : k < 64) (hcell : w.cell? ⟨0, idx, none⟩ = some (.int .u8 k)) :
    Calls Tryd.prog 25 #[.int .u64 x] w fun e w' => e = .returned (.int .i64 k) ∧ w = w' := by
  go_enter Tryd.func25, Tryd.ntmps25
  go_wp2_with (simp only [key])
  go_ret
  exact ⟨rfl, rfl⟩

/-- the table in its variable -/
def Tab (w : World) : Prop := TabAt 0 Lib.deBruijn64tab w ∧ 0 < w.heap.size
theorem Tab.below {n : Nat} {w w' : World} (h : Tab w) (hb : Below n w w') (hn : 0 < n) : Tab w' :=
  ⟨fun j hj => (hb.cell (p := ⟨0, j, none⟩) hn).trans (h.1 j hj), Nat.lt_of_lt_of_le h.2 hb.size⟩

theorem tz_any (x : Nat) (hx : x < 18446744073709551616) (h0 : x ≠ 0) (w : World) (hT : Tab w) :
    Calls Tryd.prog 25 #[.int .u64 x] w fun e w' => e = .returned (.int .i64 (Lib.ctz 64 x)) ∧ w = w' := by
  obtain ⟨hlow, hk⟩ := Lib.lowest_bit 64 x h0 hx
  obtain ⟨hi, htab⟩ := Lib.deBruijn64_at _ hk
  have hcell := hT.1 _ hi
  rw [htab] at hcell
  exact tz_core x _ _ w (by simp; omega) (tz64_key x _ hx h0 hlow) hi hk hcell
/-- the numbers in the words below k -/
def lenTo (x : Bag) (k : Nat) : Nat := (if 0 < k then (bitsOf x.a).length else 0) + (if 1 < k then (bitsOf x.b).length else 0) + (if 2 < k then (bitsOf x.c).length else 0) + (if 3 < k then (bitsOf x.d).length else 0)
theorem list_len (x : Bag) : x.list.length = lenTo x 4 := by
  rw [list_parts]
  simp [Bag.part, lenTo, Bag.word]; omega
theorem bits_len (x : Nat) : (bitsOf x).length ≤ 64 := by unfold bitsOf; exact Nat.le_trans (List.length_filter_le _ _) (by simp)

set_option maxRecDepth 100000 in
set_option maxHeartbeats 2000000 in
theorem len_any (x : Bag) (hx : x.ok) (w : World) :
    Calls Tryd.prog 10 #[bagV x] w fun e w' => e = .returned (.int .i64 x.list.length) ∧ Below w.heap.size w w' := by
  rw [list_len]
  obtain ⟨a, b, c, d⟩ := x
  have HX := Lib.hid hx
  have b1 := bits_len a; have b2 := bits_len b; have b3 := bits_len c; have b4 := bits_len d
  obtain ⟨p, hp⟩ : ∃ p, p = (bitsOf a).length := ⟨_, rfl⟩
  obtain ⟨q, hq⟩ : ∃ p, p = (bitsOf b).length := ⟨_, rfl⟩
  obtain ⟨r, hr⟩ : ∃ p, p = (bitsOf c).length := ⟨_, rfl⟩
  obtain ⟨s, hs⟩ : ∃ p, p = (bitsOf d).length := ⟨_, rfl⟩
  rw [← hp] at b1; rw [← hq] at b2; rw [← hr] at b3; rw [← hs] at b4
  have HP := Lib.hid hp; have HQ := Lib.hid hq; have HR := Lib.hid hr; have HS := Lib.hid hs
  have e : lenTo ⟨a, b, c, d⟩ 4 = p + q + r + s := by rw [hp, hq, hr, hs]; rfl
  rw [e]
  clear hx hp hq hr hs e
  unfold bagV
  have i0 := ix0 a b c d; have i1 := ix1 a b c d; have i2 := ix2 a b c d; have i3 := ix3 a b c d
  go_enter Tryd.func10, Tryd.ntmps10
  go_wp2
  refine wp_loop_rounds 5 ?_
  rw [rounds_succ]; go_wp2_with (go_at_call 22; refine (ones_any a HX.out.1 _).mono ?_; rw [← HP.out]; rintro e w' ⟨rfl, rfl⟩)
  rw [rounds_succ]; go_wp2_with (go_at_call 22; refine (ones_any b HX.out.2.1 _).mono ?_; rw [← HQ.out]; rintro e w' ⟨rfl, rfl⟩)
  rw [rounds_succ]; go_wp2_with (go_at_call 22; refine (ones_any c HX.out.2.2.1 _).mono ?_; rw [← HR.out]; rintro e w' ⟨rfl, rfl⟩)
  rw [rounds_succ]; go_wp2_with (go_at_call 22; refine (ones_any d HX.out.2.2.2 _).mono ?_; rw [← HS.out]; rintro e w' ⟨rfl, rfl⟩)
  rw [rounds_succ]; go_wp2
  go_ret
  exact ⟨ret_int (by omega), (Below.refl _ _).alloc (Nat.le_refl _) _⟩
end Go.Proofs.YtlnljgfppipceaaDoor.Bg
