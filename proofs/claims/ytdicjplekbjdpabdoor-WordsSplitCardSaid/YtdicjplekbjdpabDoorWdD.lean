/- Walks of words: live; Lines of a text without an end of a line; the law WordsLong. -/
import Derived.Test.YtdicjplekbjdpabDoorWdC
import Derived.Laws.MakeOwn
import Derived.Lib.SlBytesConst
namespace Go.Proofs.YtdicjplekbjdpabDoor.Wd
open Go.RowKit Go.Sort Mem
set_option linter.unusedVariables false

theorem itoa0 : Lib.itoa 0 = [48] := by decide +kernel
theorem itoa5 : Lib.itoa (-5) = [45, 53] := by decide +kernel
theorem atoi_m0 : Lib.atoiAll [45, 48] = .ok 0 := by decide +kernel
theorem hide_ab : hideL [97, 32, 92] = [97, 92, 115, 92, 92] := by decide +kernel

theorem num_m0 (w : World) (H : Held w) : Calls Tryd.prog 14 #[.string ⟨#[45, 48]⟩] w fun e w' => e = .returned (.tuple #[.int .i64 0, .bool false]) ∧ Below w.heap.size w w' := by
  refine (num_any ⟨#[45, 48]⟩ w (by decide) H).mono fun e w' ⟨hb, h⟩ => ?_
  rcases h with ⟨v, h1, h2, _⟩ | ⟨_, h⟩
  · have h3 : Lib.atoiAll [45, 48] = .ok v := h1
    rw [atoi_m0] at h3
    injection h3 with h3
    subst h3
    have h4 : Lib.itoa 0 = [45, 48] := h2
    rw [itoa0] at h4; cases h4
  · exact ⟨h, hb⟩
theorem show_m5 (w : World) (H : Held w) : Calls Tryd.prog 16 #[.int .i64 (-5)] w fun e w' => e = .returned (.string ⟨#[45, 53]⟩) ∧ Below w.heap.size w w' := by
  have := show_any (-5) (by decide) (by decide) w H
  rw [itoa5] at this
  exact this
theorem hide_abc (g c : Nat) (w : World) (hr : Row .u8 w (some ⟨g, 0, none⟩) 3 [97, 32, 92]) (H : Held w) :
    Calls Tryd.prog 18 #[.slice (some ⟨g, 0, none⟩) 3 c] w fun e w' => e = .returned (.string ⟨#[97, 92, 115, 92, 92]⟩) ∧ Below w.heap.size w w' := by
  have := hide_any [97, 32, 92] (some ⟨g, 0, none⟩) 3 c w hr (by omega) H
  rw [hide_ab] at this
  exact this

set_option maxHeartbeats 400000 in
set_option maxRecDepth 100000 in
theorem live_any (w : World) (H : Held w) : Calls Tryd.prog 7 #[] w fun e w' => e = .returned (.bool true) ∧ Below w.heap.size w w' := by
  have HH := hide H
  clear H
  go_enter Tryd.func7, Tryd.ntmps7
  go_wp2_with fail
  refine (num_m0 _ (unhide HH)).mono ?_
  rintro e w1 ⟨rfl, hb1⟩
  have HB1 := Lib.hid hb1
  have hb1' : Below w.heap.size w (w1.alloc (.cells #[.int .u8 97, .int .u8 32, .int .u8 92] 5 (3, 4))) := hb1.alloc hb1.size _
  have HB1' := Lib.hid hb1'
  have hrow : Row .u8 (w1.alloc (.cells #[.int .u8 97, .int .u8 32, .int .u8 92] 5 (3, 4))) (some ⟨w1.heap.size, 0, none⟩) 3 [97, 32, 92] := row_block (heap_alloc_new w1 _) [97, 32, 92] rfl 3 rfl (wf_bytes (by simp))
  have HROW := Lib.hid hrow
  clear hb1 hb1' hrow
  have kc := fun (w : World) (C : Array Value) (n c : Nat) => Lib.run_convert_bytes_const (P := Tryd.prog) w 33 5 C n c Tryd.underlying33 Tryd.underlying5
  go_wp2_with fail
  refine (hide_abc _ _ _ HROW.out ((unhide HH).below HB1'.out)).mono ?_
  rintro e w2 ⟨rfl, hb2⟩
  have hbb : Below w.heap.size w w2 := HB1'.out.trans (hb2.mono HB1'.out.size)
  have HB2 := Lib.hid hbb
  clear hb2 hbb
  go_wp2_with (go_at_call 16; refine (show_m5 _ ((unhide HH).below HB2.out)).mono ?_; rintro e w3 ⟨rfl, hb3⟩)
  go_ret
  exact ⟨rfl, HB2.out.trans (hb3.mono HB2.out.size)⟩

/-- what Lines answers to a text of so many bytes that are all zero -/
def LinesZ (n : Nat) (w : World) (e : Ending) (w' : World) : Prop :=
  w = w' ∧ ((65536 < n ∧ e = .returned (.tuple #[.slice none 0 0, .int .i64 0, .int .i64 4])) ∨ (n = 0 ∧ e = .returned (.tuple #[.slice none 0 0, .int .i64 0, .int .i64 0])) ∨
    (0 < n ∧ n ≤ 65536 ∧ e = .returned (.tuple #[.slice none 0 0, .int .i64 1, .int .i64 2])))

set_option maxHeartbeats 1000000 in
theorem lines_none (s : ByteArray) (w : World) (hs : s.size ≤ 70000) (hz : ∀ i (h : i < s.size), s[i] = 0) :
    Calls Tryd.prog 10 #[.string s] w (LinesZ s.size w) := by
  by_cases hl : 65536 < s.size
  · clear hz
    go_enter Tryd.func10, Tryd.ntmps10
    go_wp2
    go_ret3
    exact ⟨rfl, .inl ⟨hl, rfl⟩⟩
  · have HZ := Lib.hid hz
    clear hz
    go_enter Tryd.func10, Tryd.ntmps10
    go_wp2
    go_loop [5, 6, 13] (fun l b i => l = .slice none 0 0 ∧ b = .int .i64 0 ∧ ∃ k : Nat, k ≤ s.size ∧ i = .int .i64 k) (fun _ _ i => s.size - (intOf i).toNat)
    case atStart => exact ⟨rfl, rfl, 0, Nat.zero_le _, rfl⟩
    case round =>
      obtain ⟨rfl, rfl, k, hk, rfl⟩ := hrel
      by_cases hlt : k < s.size
      · have hc := HZ.out k hlt
        have t0 : (((s[k]).toNat : Int) == 10) = false := by rw [hc]; decide
        clear hc
        go_wp2
        go_round
        case rel => exact ⟨rfl, rfl, k + 1, by omega, by go_num⟩
        case measure => simp [intOf]; omega
      · by_cases h0 : s.size = 0
        · have H0 := Lib.hid h0
          have t0 : ((0 : Int) != (s.size : Int)) = false := by simp; omega
          clear h0
          go_wp2
          go_ret3
          exact ⟨rfl, .inr (.inl ⟨H0.out, rfl⟩)⟩
        · have t0 : ((0 : Int) != (s.size : Int)) = true := by simp; omega
          go_wp2
          go_ret3
          exact ⟨rfl, .inr (.inr ⟨by omega, by omega, rfl⟩)⟩

theorem zero_str (n : Nat) : ∀ i (h : i < (strOfNums (List.replicate n 0)).size), (strOfNums (List.replicate n 0))[i] = 0 := by
  intro i h
  have : (strOfNums (List.replicate n 0)).data.toList[i]? = some 0 := by
    rw [strOfNums_data, List.getElem?_map, List.getElem?_replicate]
    rw [strOfNums_size, List.length_replicate] at h
    simp [h]
  exact Option.some.inj ((Array.getElem?_eq_getElem (show i < (strOfNums (List.replicate n 0)).data.size from h)).symm.trans (by simpa using this))

set_option maxHeartbeats 1000000 in
set_option maxRecDepth 100000 in
theorem long_law (a0 : Int) (h0 : (Lit.int .u32 a0).wf = true) (w : World) (H : Held w) :
    Calls Tryd.prog 4 #[.int .u32 a0] w fun e w' => e = .returned (.bool true) ∧ Below w.heap.size w w' := by
  obtain ⟨i0, hi, hz, hs1, hs2⟩ := info_parts info_u8
  have hbd : 0 ≤ a0 ∧ a0 ≤ 4294967295 := by
    have hmin : IntKind.u32.min = 0 := rfl
    have hmax : IntKind.u32.max = 4294967295 := rfl
    simp only [Lit.wf, Bool.and_eq_true, decide_eq_true_eq] at h0; omega
  obtain ⟨m, hm⟩ : ∃ m : Nat, a0 % 70000 = (m : Int) := ⟨(a0 % 70000).toNat, by omega⟩
  have hm7 : m < 70000 := by omega
  obtain ⟨C, hC⟩ : ∃ C : Array Value, C = madeCells (Value.int .u8 0).cells m := ⟨_, rfl⟩
  have hCr : C = ((List.replicate m (0 : Int)).map (Value.int .u8)).toArray := by
    rw [hC, ← Array.toList_inj]
    have := toList_madeCells_one (Value.int .u8 0) m
    rw [List.map_replicate]
    exact this
  have hmake : ∀ W : World, (Instr.makeSlice 33 (.int .i64 m) (.int .i64 m)).run Tryd.prog W = .ok (.slice (some ⟨W.heap.size, 0, none⟩) m m) (W.alloc (.cells C 5)) := fun W => by
    have := run_make (P := Tryd.prog) (w := W) 33 5 i0 (.int .u8 0) Tryd.underlying33 hi hz .i64 .i64 (m : Int) (m : Int) (by omega) (by omega) (by rw [hs2]; omega) (by omega)
    rw [hs1, Nat.mul_one] at this
    rw [this, hC]
    simp only [Int.toNat_natCast]
  have hrow : Row .u8 (w.alloc (.cells C 5 (0, 0))) (some ⟨w.heap.size, 0, none⟩) m (List.replicate m 0) :=
    row_block (heap_alloc_new w _) _ hCr m (by simp) (wf_bytes (fun z hz => by rw [List.mem_replicate] at hz; omega))
  have hstr := hrow.str m (P := Tryd.prog) Tryd.underlying33 Tryd.underlying5 Tryd.underlying9
  have hsz := strOfNums_size (List.replicate m 0)
  rw [List.length_replicate] at hsz
  have hzs := zero_str m
  generalize strOfNums (List.replicate m 0) = S at *
  have hlin := lines_none S (w.alloc (.cells C 5 (0, 0))) (by omega) hzs
  rw [hsz] at hlin
  have HL := hide hlin
  have HH := hide H
  have hb1 : Below w.heap.size w (w.alloc (.cells C 5 (0, 0))) := (Below.refl _ _).alloc (Nat.le_refl _) _
  have HB1 := Lib.hid hb1
  have HHD := hide ((unhide HH).below hb1)
  have ha0 : 0 ≤ a0 := hbd.1
  clear hC hCr hrow hsz hzs hlin H hb1 hbd h0
  go_enter Tryd.func4, Tryd.ntmps4
  go_wp2_with fail
  refine (unhide HL).mono ?_
  rintro e w1 ⟨rfl, h1⟩
  rcases h1 with ⟨hl, rfl⟩ | ⟨hl, rfl⟩ | ⟨hl1, hl2, rfl⟩
  · go_wp2_with (go_at_call 7; refine (live_any _ (unhide HHD)).mono ?_; rintro e w3 ⟨rfl, hb3⟩)
    go_ret
    exact ⟨rfl, HB1.out.trans (hb3.mono HB1.out.size)⟩
  · subst hl
    go_wp2_with (go_at_call 7; refine (live_any _ (unhide HHD)).mono ?_; rintro e w3 ⟨rfl, hb3⟩)
    go_ret
    exact ⟨rfl, HB1.out.trans (hb3.mono HB1.out.size)⟩
  · have t0 : ((m : Int) == 0) = false := by simp; omega
    go_wp2_with (go_at_call 7; refine (live_any _ (unhide HHD)).mono ?_; rintro e w3 ⟨rfl, hb3⟩)
    go_ret
    exact ⟨rfl, HB1.out.trans (hb3.mono HB1.out.size)⟩
end Go.Proofs.YtdicjplekbjdpabDoor.Wd
