/- Walks of utf and its reference: Encode. -/
import Derived.Test.YtdicjplekbjdpaaUtfI
namespace Go.Proofs.Ytdicjplekbjdpaa.Utf
open Go.RowKit Mem
set_option linter.unusedVariables false

/-- the bytes of letters, or the first one that is none -/
def Encoded (W : World) (ls : List Int) (e : Ending) (w' : World) : Prop :=
  Below W.heap.size W w' ∧ (((∀ r ∈ ls, rtB r = true) ∧ ∃ A c, e = .returned (.tuple #[.slice A (ls.flatMap bytes).length c, .int .i64 0, .int .i64 0]) ∧ (ls.flatMap bytes).length ≤ c ∧ Row .u8 w' A (ls.flatMap bytes).length (ls.flatMap bytes)) ∨
    (∃ i, i < ls.length ∧ (∀ j, j < i → rtB (ls.getD j 0) = true) ∧ rtB (ls.getD i 0) = false ∧ e = .returned (.tuple #[.slice none 0 0, .int .i64 i, .int .i64 11])))

theorem take_right {ls : List Int} {k : Nat} (hk : k ≤ ls.length) (h : ∀ j, j < k → rtB (ls.getD j 0) = true) : ∀ r ∈ ls.take k, rtB r = true := by
  intro r hr
  obtain ⟨j, hj, e⟩ := List.mem_iff_getElem.1 hr
  rw [List.length_take] at hj
  have := h j (by omega)
  rw [← e, List.getElem_take]
  simpa [List.getD, List.getElem?_eq_getElem (show j < ls.length by omega)] using this
theorem flat_byte {ls : List Int} (h : ∀ r ∈ ls, rtB r = true) : ∀ z ∈ ls.flatMap bytes, 0 ≤ z ∧ z ≤ 255 := by
  intro z hz
  obtain ⟨r, hr, hz⟩ := List.mem_flatMap.1 hz
  exact bytes_byte (h r hr) z hz
theorem flat_len : ∀ (ls : List Int), (ls.flatMap bytes).length ≤ 4 * ls.length
  | [] => by simp
  | r :: t => by rw [List.flatMap_cons, List.length_append, List.length_cons]; have := bytes_length r; have := flat_len t; omega
theorem take_next {ls : List Int} {k : Nat} (hk : k < ls.length) : (ls.take (k + 1)).flatMap bytes = (ls.take k).flatMap bytes ++ bytes (ls.getD k 0) := by
  rw [List.take_succ_eq_append_getElem hk, List.flatMap_append]
  simp [List.getD, List.getElem?_eq_getElem hk]

set_option maxHeartbeats 1000000 in
theorem encode_any (ls : List Int) (A : Option Addr) (n c : Nat) (w : World) (hr : Row .i32 w A n ls) (hn : n ≤ 50000) :
    Calls Try.prog 19 #[.slice A n c] w (Encoded w ls) := by
  have hlz := hr.1
  have HZ := Lib.hid hlz
  have HR := Lib.hid hr
  clear hlz hr
  go_enter Try.func19, Try.ntmps19
  go_wp2
  go_loopw [5, 10] (fun v i wr => ∃ k : Nat, k ≤ n ∧ i = .int .i64 k ∧ (∀ j, j < k → rtB (ls.getD j 0) = true) ∧ wr.ownsRow w.heap.size 5 1 v ((ls.take k).flatMap bytes).length (((ls.take k).flatMap bytes).map (Value.int .u8)) ∧ Below w.heap.size w wr) (fun _ i _ => n - (intOf i).toNat)
  case atStart => exact ⟨0, Nat.zero_le _, rfl, fun j h => absurd h (by omega), by simpa using World.ownsRow_nil w _ _ _, Below.refl _ _⟩
  case round =>
    obtain ⟨k, hk, rfl, hrt, ho, hbw⟩ := hrel
    have HRT := Lib.hid hrt
    have HO := Lib.hid ho
    have HB := Lib.hid hbw
    have hbs := hbw.size
    have hfl := flat_len (ls.take k)
    rw [List.length_take, HZ.out] at hfl
    obtain ⟨F, hF⟩ : ∃ F, F = (ls.take k).flatMap bytes := ⟨_, rfl⟩
    have HF := Lib.hid hF
    rw [← hF] at hfl
    clear hrt ho hbw hF
    by_cases hlt : k < n
    · obtain ⟨b, off, rfl, _, hx⟩ := (HR.out.below HB.out).at_ (by omega)
      have x0 := hx k hlt
      obtain ⟨r, hrr⟩ : ∃ r, r = ls.getD k 0 := ⟨_, rfl⟩
      rw [← hrr] at x0
      have HRR := Lib.hid hrr
      clear hx hrr
      cases hc : rtB r
      · have HC := Lib.hid hc
        clear hc
        go_wp2_with (go_at_call 10; refine (right_no r HC.out _).mono ?_; rintro e w1 ⟨rfl, rfl⟩)
        go_ret3
        exact ⟨HB.out, .inr ⟨k, by rw [HZ.out]; exact hlt, HRT.out, by rw [← HRR.out]; exact HC.out, rfl⟩⟩
      · have HC := Lib.hid hc
        clear hc
        have ho2 := HO.out
        rw [← HF.out] at ho2
        have hlay := lay_any w.heap.size _ F r wr HC.out ho2 hbs (by omega)
        have HL := hide hlay
        have HO2 := Lib.hid ho2
        clear ho2 hlay
        go_wp2_with (first
          | (go_at_call 10; refine (right_yes r HC.out _).mono ?_; rintro e w1 ⟨rfl, rfl⟩)
          | (go_at_call 21; refine (unhide HL).mono ?_; rintro e w1 ⟨v1, rfl, ho1, hg1⟩))
        have HW1 : Hid (Below w.heap.size w w1) := HB.out.grown hg1 hbs (fun j hj => (HO2.out.lt j hj).1)
        have HO1 := Lib.hid ho1
        clear ho1 hg1
        go_roundw
        case rel => exact ⟨k + 1, by omega, by go_num, fun j hj => by
          rcases Nat.lt_or_ge j k with h | h
          · exact HRT.out j h
          · obtain rfl : j = k := by omega
            rw [← HRR.out]; exact HC.out, by rw [take_next (by rw [HZ.out]; exact hlt), ← HF.out, ← HRR.out]; exact HO1.out, HW1.out⟩
        case measure => simp [intOf]; omega
    · obtain rfl : k = n := by omega
      have hall : ∀ r ∈ ls, rtB r = true := by
        have := take_right (ls := ls) (k := k) (by rw [HZ.out]; exact Nat.le_refl _) HRT.out
        rwa [List.take_of_length_le (by rw [HZ.out]; exact Nat.le_refl _)] at this
      have HA := Lib.hid hall
      clear hall
      have hFl : F = ls.flatMap bytes := by rw [HF.out, List.take_of_length_le (by rw [HZ.out]; exact Nat.le_refl _)]
      have ho2 := HO.out
      rw [← HF.out, hFl] at ho2
      have HO2 := Lib.hid ho2
      clear hFl ho2
      go_wp2
      go_ret3
      obtain ⟨A1, c1, rfl, hc1, hr1⟩ := Row.of_own HO2.out (wf_bytes (flat_byte HA.out))
      exact ⟨HB.out, .inl ⟨HA.out, A1, c1, rfl, hc1, hr1⟩⟩

set_option maxHeartbeats 1000000 in
theorem rencode_any (ls : List Int) (A : Option Addr) (n c : Nat) (w : World) (hr : Row .i32 w A n ls) (hn : n ≤ 50000) :
    Calls Try.prog 20 #[.slice A n c] w (Encoded w ls) := by
  obtain ⟨i0, hi, hz, hs1, hs2⟩ := info_parts info_u8
  have hlz := hr.1
  have HZ := Lib.hid hlz
  have HR := Lib.hid hr
  clear hlz hr
  go_enter Try.func20, Try.ntmps20
  go_wp2
  go_loopw [5, 6] (fun v i wr => ∃ k : Nat, k ≤ n ∧ i = .int .i64 k ∧ (∀ j, j < k → rtB (ls.getD j 0) = true) ∧ wr.ownsRow w.heap.size 5 1 v ((ls.take k).flatMap bytes).length (((ls.take k).flatMap bytes).map (Value.int .u8)) ∧ Below w.heap.size w wr) (fun _ i _ => n - (intOf i).toNat)
  case atStart => exact ⟨0, Nat.zero_le _, rfl, fun j h => absurd h (by omega), by simpa using World.ownsRow_nil w _ _ _, Below.refl _ _⟩
  case round =>
    obtain ⟨k, hk, rfl, hrt, ho, hbw⟩ := hrel
    have HRT := Lib.hid hrt
    have HO := Lib.hid ho
    have HB := Lib.hid hbw
    have hbs := hbw.size
    have hfl := flat_len (ls.take k)
    rw [List.length_take, HZ.out] at hfl
    obtain ⟨F, hF⟩ : ∃ F, F = (ls.take k).flatMap bytes := ⟨_, rfl⟩
    have HF := Lib.hid hF
    rw [← hF] at hfl
    clear hrt ho hbw hF
    by_cases hlt : k < n
    · obtain ⟨b, off, rfl, hbb, hx⟩ := (HR.out.below HB.out).at_ (by omega)
      have x0 := hx k hlt
      obtain ⟨r, hrr⟩ : ∃ r, r = ls.getD k 0 := ⟨_, rfl⟩
      rw [← hrr] at x0
      have HRR := Lib.hid hrr
      clear hx hrr
      cases hc : rtB r
      · have HC := Lib.hid hc
        clear hc
        go_wp2_with (go_at_call 9; refine (rright_no r HC.out _).mono ?_; rintro e w1 ⟨rfl, rfl⟩)
        go_ret3
        exact ⟨HB.out, .inr ⟨k, by rw [HZ.out]; exact hlt, HRT.out, by rw [← HRR.out]; exact HC.out, rfl⟩⟩
      · have HC := Lib.hid hc
        clear hc
        have ho2 := HO.out
        rw [← HF.out] at ho2
        have HO2 := Lib.hid ho2
        have hbl := bytes_length r
        clear ho2
        go_wp2_with (first
          | (go_at_call 9; refine (rright_yes r HC.out _).mono ?_; rintro e w1 ⟨rfl, rfl⟩)
          | fail)
        refine (bytes_any r _ HC.out).mono ?_
        rintro e w1 ⟨A1, c1, rfl, hc1, hr1, hb1⟩
        have HR1 := Lib.hid hr1
        have hb2 := HB.out.trans (hb1.mono hbs)
        have HB2 := Lib.hid hb2
        have hbs2 := hb2.size
        have ho3 := own_below HO2.out hb1
        have HO3 := Lib.hid ho3
        generalize hL : (bytes r).length = L at *
        have HL := Lib.hid hL
        clear hr1 hb1 hb2 ho3 hL
        go_wp2_with (at_builtin; refine wpList_app rfl (.tmp 20) (.tmp 25) _ rfl .u8 w.heap.size 5 i0 1 Try.underlying22 hi hz hs1 hs2 (by omega) _ F.length F rfl HO3.out _ L c1 (bytes r) rfl HR1.out (by omega) hbs2 ?_; intro v' w2 hown' hg hat)
        have HW1 : Hid (Below w.heap.size w w2) := HB2.out.grown hg hbs2 (fun j hj => (HO3.out.lt j hj).1)
        have HO1 := Lib.hid hown'
        clear hown' hg hat
        go_wp2
        go_roundw
        case rel => exact ⟨k + 1, by omega, by go_num, fun j hj => by
          rcases Nat.lt_or_ge j k with h | h
          · exact HRT.out j h
          · obtain rfl : j = k := by omega
            rw [← HRR.out]; exact HC.out, by rw [take_next (by rw [HZ.out]; exact hlt), ← HF.out, ← HRR.out, List.length_append, HL.out]; exact HO1.out, HW1.out⟩
        case measure => simp [intOf]; omega
    · obtain rfl : k = n := by omega
      have hall : ∀ r ∈ ls, rtB r = true := by
        have := take_right (ls := ls) (k := k) (by rw [HZ.out]; exact Nat.le_refl _) HRT.out
        rwa [List.take_of_length_le (by rw [HZ.out]; exact Nat.le_refl _)] at this
      have HA := Lib.hid hall
      clear hall
      have hFl : F = ls.flatMap bytes := by rw [HF.out, List.take_of_length_le (by rw [HZ.out]; exact Nat.le_refl _)]
      have ho2 := HO.out
      rw [← HF.out, hFl] at ho2
      have HO2 := Lib.hid ho2
      clear hFl ho2
      go_wp2
      go_ret3
      obtain ⟨A1, c1, rfl, hc1, hr1⟩ := Row.of_own HO2.out (wf_bytes (flat_byte HA.out))
      exact ⟨HB.out, .inl ⟨HA.out, A1, c1, rfl, hc1, hr1⟩⟩
end Go.Proofs.Ytdicjplekbjdpaa.Utf
