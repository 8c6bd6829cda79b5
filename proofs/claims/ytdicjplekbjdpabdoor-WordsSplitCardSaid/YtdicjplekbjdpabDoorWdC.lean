/- Walks of words: Hide, Num. -/
import Derived.Test.YtdicjplekbjdpabDoorWdB
import Derived.Lib.SmallJoins
namespace Go.Proofs.YtdicjplekbjdpabDoor.Wd
open Go.RowKit Go.Sort Mem
set_option linter.unusedVariables false

/-- a byte as a piece -/
def hide1 (c : Int) : List UInt8 := if escL c = [] then [UInt8.ofNat c.toNat] else escL c
def hideL (zs : List Int) : List UInt8 := zs.flatMap hide1

theorem escL_len (c : Int) : (escL c).length ≤ 4 := by
  unfold escL hid
  split
  · split
    · simp
    · split <;> simp
  · split
    · simp
    · split <;> simp
theorem hide1_len (c : Int) : 1 ≤ (hide1 c).length ∧ (hide1 c).length ≤ 4 := by
  unfold hide1
  have := escL_len c
  split
  · simp
  · rename_i h
    have : (escL c).length ≠ 0 := fun h0 => h (List.eq_nil_of_length_eq_zero h0)
    omega
theorem hideL_len : ∀ zs : List Int, (hideL zs).length ≤ 4 * zs.length
  | [] => by simp [hideL]
  | c :: t => by
    have h1 := hide1_len c
    have h2 := hideL_len t
    have : hideL (c :: t) = hide1 c ++ hideL t := by simp [hideL]
    rw [this, List.length_append, List.length_cons]; omega
theorem hideL_next {zs : List Int} {k : Nat} (hk : k < zs.length) : hideL (zs.take (k + 1)) = hideL (zs.take k) ++ hide1 (zs.getD k 0) := by
  unfold hideL
  rw [List.take_succ_eq_append_getElem hk, List.flatMap_append]
  simp [List.getD, List.getElem?_eq_getElem hk]

theorem esc_none (c : Int) (h0 : 0 ≤ c) (h1 : c ≤ 255) (hn : escL c = []) (w : World) (H : Held w) :
    Calls Tryd.prog 28 #[.int .u8 c] w fun e w' => e = .returned (.string ⟨#[]⟩) ∧ w = w' :=
  (esc_any c h0 h1 w H).mono fun _ _ ⟨he, hw⟩ => ⟨by rw [he, hn], hw⟩
theorem esc_some (c : Int) (h0 : 0 ≤ c) (h1 : c ≤ 255) (S : ByteArray) (hS : S = ⟨(escL c).toArray⟩) (w : World) (H : Held w) :
    Calls Tryd.prog 28 #[.int .u8 c] w fun e w' => e = .returned (.string S) ∧ w = w' :=
  (esc_any c h0 h1 w H).mono fun _ _ ⟨he, hw⟩ => ⟨by rw [he, hS], hw⟩

set_option maxHeartbeats 1000000 in
theorem hide_any (zs : List Int) (A : Option Addr) (n c : Nat) (w : World) (hr : Row .u8 w A n zs) (hn : n ≤ 20000) (H : Held w) :
    Calls Tryd.prog 18 #[.slice A n c] w fun e w' => e = .returned (.string ⟨(hideL zs).toArray⟩) ∧ Below w.heap.size w w' := by
  have hlz := hr.1
  have HZ := Lib.hid hlz
  have HR := Lib.hid hr
  have HH := hide H
  have hb0 : Below w.heap.size w (w.alloc (.cells #[.pointer none, .slice none 0 0] 53 (0, 0))) := (Below.refl _ _).alloc (Nat.le_refl _) _
  have HB0 := Lib.hid hb0
  have HF := Lib.hid (Bld.fresh w)
  clear hlz hr H hb0
  go_enter Tryd.func18, Tryd.ntmps18
  go_wp2
  go_loopw [8] (fun i wr => ∃ k : Nat, k ≤ n ∧ i = .int .i64 k ∧ Bld w.heap.size w.heap.size wr (hideL (zs.take k)) ∧ Below w.heap.size w wr) (fun i _ => n - (intOf i).toNat)
  case atStart => exact ⟨0, Nat.zero_le _, rfl, by simpa [hideL] using HF.out, HB0.out⟩
  case round =>
    obtain ⟨k, hk, rfl, hbl, hbw⟩ := hrel
    have HBL := Lib.hid hbl
    have HB := Lib.hid hbw
    have hbs := hbw.size
    have hll := hideL_len (zs.take k)
    rw [List.length_take, HZ.out] at hll
    have hll2 : (hideL (zs.take k)).length ≤ 4 * k := by omega
    have HLL := Lib.hid hll2
    have hheld := (unhide HH).below hbw
    have HD := hide hheld
    clear hbl hbw hll hll2 hheld
    by_cases hlt : k < n
    · obtain ⟨b, off, rfl, hbb, hx⟩ := (HR.out.below HB.out).at_ (by omega)
      have x0 := hx k hlt
      have y0 := HR.out.byte k
      obtain ⟨z, hz⟩ : ∃ z, z = zs.getD k 0 := ⟨_, rfl⟩
      rw [← hz] at x0 y0
      have HZZ := Lib.hid hz
      clear hx hz
      by_cases he : escL z = []
      · have HE := Lib.hid he
        clear he
        go_wp2_with (first
          | (go_at_call 28; refine (esc_none z y0.1 y0.2 HE.out _ (unhide HD)).mono ?_; rintro e w1 ⟨rfl, rfl⟩)
          | (go_at_call 30; refine (writeByte_any w.heap.size w.heap.size (hideL (zs.take k)) (UInt8.ofNat z.toNat) z (by simp only [UInt8.toNat_ofNat']; omega) _ HBL.out (by have := HLL.out; omega) hbs).mono ?_; rintro e w1 ⟨rfl, h1, hb1⟩; have HB1 := Lib.hid hb1; have HBL1 := Lib.hid h1; clear h1 hb1))
        go_roundw
        case rel => exact ⟨k + 1, by omega, by go_num, by rw [hideL_next (by rw [HZ.out]; exact hlt), ← HZZ.out]; unfold hide1; rw [if_pos HE.out]; exact HBL1.out, HB.out.trans HB1.out⟩
        case measure => simp [intOf]; omega
      · obtain ⟨S, hS⟩ : ∃ S : ByteArray, S = ⟨(escL z).toArray⟩ := ⟨_, rfl⟩
        have hSl : S.data.toList = escL z := by rw [hS]
        have hSs : S.size ≤ 4 := by have := escL_len z; rw [hS]; simpa [ByteArray.size] using this
        have t0 : (S.toList == []) = false := by rw [ByteArray.toList_eq, hSl]; simpa using he
        have t1 : S.toList.isEmpty = false := by rw [ByteArray.toList_eq, hSl]; simpa using he
        have HS := Lib.hid hS
        have HSL := Lib.hid hSl
        have HE := Lib.hid he
        clear hS hSl he
        go_wp2_with (first
          | (go_at_call 28; refine (esc_some z y0.1 y0.2 S HS.out _ (unhide HD)).mono ?_; rintro e w1 ⟨rfl, rfl⟩)
          | (go_at_call 29; refine (writeString_any w.heap.size w.heap.size (hideL (zs.take k)) S _ HBL.out (by have := HLL.out; omega) hbs).mono ?_; rintro e w1 ⟨rfl, h1, hb1⟩; have HB1 := Lib.hid hb1; have HBL1 := Lib.hid h1; clear h1 hb1))
        go_roundw
        case rel => exact ⟨k + 1, by omega, by go_num, by rw [hideL_next (by rw [HZ.out]; exact hlt), ← HZZ.out]; unfold hide1; rw [if_neg HE.out, ← HSL.out]; exact HBL1.out, HB.out.trans HB1.out⟩
        case measure => simp [intOf]; omega
    · obtain rfl : k = n := by omega
      have hfin : hideL (zs.take k) = hideL zs := by rw [List.take_of_length_le (by rw [HZ.out]; exact Nat.le_refl _)]
      have HFI := Lib.hid hfin
      clear hfin
      go_wp2_with (go_at_call 31; refine (Tryd.Builder_String_any w.heap.size w.heap.size (hideL (zs.take k)) _ HBL.out hbs).mono ?_; rintro e w1 ⟨rfl, hb1⟩)
      go_ret
      exact ⟨by rw [← HFI.out]; rfl, HB.out.trans hb1⟩

theorem atoi_bd {l : List UInt8} {v : Int} (h : Lib.atoiAll l = .ok v) : -9223372036854775808 ≤ v ∧ v ≤ 9223372036854775807 := by
  unfold Lib.atoiAll at h
  split at h
  · cases h
  · simp only at h
    split at h
    · cases h
    · cases h
    · split at h
      · cases h
      · split at h
        · cases h
        · rename_i h1 h2
          simp only [Lib.NumEnd.ok.injEq] at h
          subst h
          split <;> omega

/-- a word that is no number, or one that no int holds -/
theorem atoi_bad (s : ByteArray) (w : World) (hs : s.size ≤ 100000) (H : Held w) (h : ∀ v, Lib.atoiAll s.data.toList ≠ .ok v) :
    Calls Tryd.prog 25 #[.string s] w fun e w' => ∃ a N, e = .returned (.tuple #[.int .i64 a, .iface 68 (.pointer (some ⟨N, 0, none⟩))]) ∧ Below w.heap.size w w' := by
  cases hc : Lib.atoiAll s.data.toList
  · exact absurd hc (h _)
  · obtain ⟨tp, pp, hvar⟩ := H.synt
    exact (Any.strconv_Atoi_syntax_var Tryd.laysC172 s (by omega) hc tp pp w hvar).mono fun e w' ⟨N, he, _, _, hb⟩ => ⟨0, N, he, hb⟩
  · obtain ⟨tp, pp, hvar⟩ := H.range
    exact (Any.strconv_Atoi_range_var Tryd.laysC172 s (by omega) hc tp pp w hvar).mono fun e w' ⟨N, he, _, _, hb⟩ => ⟨_, N, he, hb⟩

/-- the number of a word: the one whose word it is; none, if there is none -/
def Numb (W : World) (l : List UInt8) (e : Ending) (w' : World) : Prop :=
  Below W.heap.size W w' ∧ ((∃ v, Lib.atoiAll l = .ok v ∧ Lib.itoa v = l ∧ e = .returned (.tuple #[.int .i64 v, .bool true])) ∨
    ((∀ v, Lib.atoiAll l = .ok v → Lib.itoa v ≠ l) ∧ e = .returned (.tuple #[.int .i64 0, .bool false])))

set_option maxHeartbeats 1000000 in
theorem num_any (s : ByteArray) (w : World) (hs : s.size ≤ 100000) (H : Held w) :
    Calls Tryd.prog 14 #[.string s] w (Numb w s.data.toList) := by
  have HH := hide H
  clear H
  by_cases hok : ∃ v, Lib.atoiAll s.data.toList = .ok v
  · obtain ⟨v, hc⟩ := hok
    have hv := atoi_bd hc
    have HC := Lib.hid hc
    obtain ⟨S, hS⟩ : ∃ S : ByteArray, S = ⟨(Lib.itoa v).toArray⟩ := ⟨_, rfl⟩
    have hq : (S.toList == s.toList) = decide (Lib.itoa v = s.data.toList) := by
      rw [hS, ByteArray.toList_eq, ByteArray.toList_eq]
      by_cases h : Lib.itoa v = s.data.toList
      · simp [h]
      · rw [decide_eq_false h]; simpa using h
    have HS := Lib.hid hS
    have HQ := Lib.hid hq
    clear hS hq hc
    by_cases he : Lib.itoa v = s.data.toList
    · have t0 : (S.toList == s.toList) = true := by rw [HQ.out]; exact decide_eq_true he
      have HE := Lib.hid he
      clear he
      go_enter Tryd.func14, Tryd.ntmps14
      go_wp2_with fail
      refine (Tryd.strconv_Atoi_ok s (by omega) v HC.out w).mono ?_
      rintro e w1 ⟨rfl, hw1⟩
      have hb1 : Below w.heap.size w w1 := by
        rcases hw1 with rfl | ⟨t, rfl⟩
        · exact Below.refl _ _
        · exact Joins.below_bytesWorld _ w _ t (Nat.le_refl _)
      have HB1 := Lib.hid hb1
      have hheld := (unhide HH).below hb1
      have HD := hide hheld
      clear hw1 hb1 hheld
      go_wp2_with (go_at_call 16; refine (show_any v hv.1 hv.2 _ (unhide HD)).mono ?_; rw [← HS.out]; rintro e w2 ⟨rfl, hb2⟩; have HB2 := Lib.hid hb2; clear hb2)
      go_ret2
      exact ⟨HB1.out.trans (HB2.out.mono HB1.out.size), .inl ⟨v, HC.out, HE.out, rfl⟩⟩
    · have t0 : (S.toList == s.toList) = false := by rw [HQ.out]; exact decide_eq_false he
      have HE := Lib.hid he
      clear he
      go_enter Tryd.func14, Tryd.ntmps14
      go_wp2_with fail
      refine (Tryd.strconv_Atoi_ok s (by omega) v HC.out w).mono ?_
      rintro e w1 ⟨rfl, hw1⟩
      have hb1 : Below w.heap.size w w1 := by
        rcases hw1 with rfl | ⟨t, rfl⟩
        · exact Below.refl _ _
        · exact Joins.below_bytesWorld _ w _ t (Nat.le_refl _)
      have HB1 := Lib.hid hb1
      have hheld := (unhide HH).below hb1
      have HD := hide hheld
      clear hw1 hb1 hheld
      go_wp2_with (go_at_call 16; refine (show_any v hv.1 hv.2 _ (unhide HD)).mono ?_; rw [← HS.out]; rintro e w2 ⟨rfl, hb2⟩; have HB2 := Lib.hid hb2; clear hb2)
      go_ret2
      refine ⟨HB1.out.trans (HB2.out.mono HB1.out.size), .inr ⟨fun v' h => ?_, rfl⟩⟩
      rw [HC.out] at h
      injection h with h
      rw [← h]; exact HE.out
  · have hno : ∀ v, Lib.atoiAll s.data.toList ≠ .ok v := fun v h => hok ⟨v, h⟩
    have HN := Lib.hid hno
    clear hno hok
    go_enter Tryd.func14, Tryd.ntmps14
    go_wp2_with fail
    refine (atoi_bad s w (by omega) (unhide HH) HN.out).mono ?_
    rintro e w1 ⟨a, N, rfl, hb1⟩
    have HB1 := Lib.hid hb1
    clear hb1
    go_wp2
    go_ret2
    exact ⟨HB1.out, .inr ⟨fun v' h => absurd h (HN.out v'), rfl⟩⟩
end Go.Proofs.YtdicjplekbjdpabDoor.Wd
