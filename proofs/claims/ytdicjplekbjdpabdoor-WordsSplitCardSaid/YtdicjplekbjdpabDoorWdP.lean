/- Walks of words: Split, and its reference: the walks themselves. -/
import Derived.Test.YtdicjplekbjdpabDoorWdO
import Derived.Test.YtdicjplekbjdpabDoorWdI
namespace Go.Proofs.YtdicjplekbjdpabDoor.Wd
open Go.RowKit Go.Sort Mem
set_option linter.unusedVariables false

/-- what Split answers -/
def SplitIs (s : ByteArray) (w : World) (e : Ending) (w' : World) : Prop :=
  Below w.heap.size w w' ∧ ((fin s = none ∧ e = .returned (.tuple #[.slice none 0 0, .int .i64 2])) ∨
    (∃ ws A c, fin s = some ws ∧ e = .returned (.tuple #[.slice A ws.length c, .int .i64 0]) ∧ SRow w' A ws.length ws ∧ ws.length ≤ c ∧ ws.length ≤ s.size))
theorem fin_empty {s : ByteArray} (h : s.size = 0) : fin s = some [] := by unfold fin; rw [if_pos h]
theorem sp_plain {s : ByteArray} {k : Nat} {ws : List ByteArray} {b : Nat} (h : stS s k = some (ws, b)) (hp : plB ((s.data.toList.getD k 0).toNat : Int) = true) : stS s (k + 1) = some (ws, b) := by
  unfold stS; rw [h]; simp only; rw [if_pos hp]
theorem sp_bad {s : ByteArray} {k : Nat} {ws : List ByteArray} {b : Nat} (h : stS s k = some (ws, b)) (hp : plB ((s.data.toList.getD k 0).toNat : Int) = false) (hn : (s.data.toList.getD k 0).toNat ≠ 32 ∨ k = b) : stS s (k + 1) = none := by
  unfold stS; rw [h]; simp only; rw [if_neg (by rw [hp]; exact Bool.noConfusion), if_pos hn]
theorem sp_blank {s : ByteArray} {k : Nat} {ws : List ByteArray} {b : Nat} (h : stS s k = some (ws, b)) (hc : (s.data.toList.getD k 0).toNat = 32) (hn : k ≠ b) : stS s (k + 1) = some (ws ++ [s.extract b k], k + 1) := by
  have hp : plB ((s.data.toList.getD k 0).toNat : Int) = false := by rw [hc]; decide
  unfold stS; rw [h]; simp only; rw [if_neg (by rw [hp]; exact Bool.noConfusion), if_neg (by omega)]
theorem fin_some {s : ByteArray} {ws : List ByteArray} {b : Nat} (h0 : s.size ≠ 0) (h : stS s s.size = some (ws, b)) (hb : b ≠ s.size) : fin s = some (ws ++ [s.extract b s.size]) := by
  unfold fin; rw [if_neg h0, h]; simp only; rw [if_neg hb]
theorem fin_end {s : ByteArray} {ws : List ByteArray} (h0 : s.size ≠ 0) (h : stS s s.size = some (ws, s.size)) : fin s = none := by
  unfold fin; rw [if_neg h0, h]; simp only; rw [if_pos trivial]
theorem ne_empty {s : ByteArray} (h : s.size ≠ 0) : (s.toList == []) = false := by
  rw [ByteArray.toList_eq]
  have := slen s
  cases e : s.data.toList with
  | nil => rw [e] at this; simp at this; omega
  | cons a t => rfl
theorem ne_empty' {s : ByteArray} (h : s.size ≠ 0) : s.toList.isEmpty = false := by
  have := ne_empty h
  cases e : s.toList with
  | nil => rw [e] at this; cases this
  | cons a t => rfl
theorem is_empty {s : ByteArray} (h : s.size = 0) : s = ⟨#[]⟩ := ByteArray.ext (Array.eq_empty_of_size_eq_zero h)
theorem cut_size {s : ByteArray} {b k : Nat} (hk : k ≤ s.size) : (s.extract b k).size = k - b := by rw [ByteArray.size_extract, Nat.min_eq_left hk]
theorem cut_one (s : ByteArray) {b k : Nat} (hb : b ≤ k) : s.extract b k ++ s.extract k (k + 1) = s.extract b (k + 1) := by
  apply ByteArray.ext
  apply Array.toList_inj.1
  rw [ByteArray.data_append, Array.toList_append, Lib.extract_data, Lib.extract_data, Lib.extract_data]
  rw [show k + 1 - b = (k - b) + (k + 1 - k) from by omega, List.take_add, List.drop_drop, show b + (k - b) = k from by omega]
theorem split_empty (w : World) : Calls Tryd.prog 8 #[.string ⟨#[]⟩] w (SplitIs ⟨#[]⟩ w) := by
  have E : Hid (fin ⟨#[]⟩ = some []) := fin_empty rfl
  go_enter Tryd.func8, Tryd.ntmps8
  go_wp2
  go_ret2
  exact ⟨Below.refl _ _, .inr ⟨[], none, 0, E.out, rfl, SRow.nil, Nat.le_refl _, Nat.zero_le _⟩⟩

set_option maxHeartbeats 1000000 in
set_option maxRecDepth 100000 in
theorem split_any (s : ByteArray) (w : World) (hs : s.size ≤ 2000) : Calls Tryd.prog 8 #[.string s] w (SplitIs s w) := by
  by_cases h0 : s.size = 0
  · obtain rfl := is_empty h0
    exact split_empty w
  obtain ⟨i0, hi, hz, hs1, hs2⟩ := info_parts info_str
  have hget : ∀ k (h : k < s.size), s[k] = s.data.toList.getD k 0 := fun k h => sget s k h
  have HG := hide hget
  have H0 := Lib.hid h0
  have t0 := ne_empty h0
  have t1 := ne_empty' h0
  clear hget h0
  go_enter Tryd.func8, Tryd.ntmps8
  go_wp2
  go_loopw [4, 5, 11] (fun v b i wr => ∃ (k : Nat) (ws : List ByteArray) (bg : Nat), k ≤ s.size ∧ i = .int .i64 k ∧ b = .int .i64 bg ∧ stS s k = some (ws, bg) ∧ wr.ownsRow w.heap.size 9 1 v ws.length (ws.map Value.string) ∧ Below w.heap.size w wr) (fun _ _ i _ => s.size - (intOf i).toNat)
  case atStart => exact ⟨0, [], 0, Nat.zero_le _, rfl, rfl, rfl, World.ownsRow_nil _ _ _ _, Below.refl _ _⟩
  case round =>
    obtain ⟨k, ws, b, hk, rfl, rfl, hst, ho, hbw⟩ := hrel
    have hle := stS_le s k ws b hst
    have HST := Lib.hid hst
    have HO := Lib.hid ho
    have HB := Lib.hid hbw
    have hbs := hbw.size
    clear hst ho hbw
    by_cases hlt : k < s.size
    · have hg := (unhide HG) k hlt
      have hby := byte_rng s[k]
      cases hp : plB ((s[k]).toNat : Int)
      · have HP := Lib.hid hp
        have hp2 := hp
        rw [hg] at hp2
        have HP2 := Lib.hid hp2
        clear hp2
        by_cases h32 : (s[k]).toNat = 32
        · have u0 : (((s[k]).toNat : Int) != 32) = false := by rw [h32]; rfl
          have h32' := h32
          rw [hg] at h32'
          by_cases hkb : k = b
          · have u1 : ((k : Int) == (b : Int)) = true := by rw [hkb]; simp
            have hfin := fin_none (k := k + 1) hlt H0.out (sp_bad HST.out HP2.out (.inr hkb))
            have HF := Lib.hid hfin
            clear hfin hg h32 h32' hp hkb
            go_wp2_with (first | (go_at_call 22; refine (plain_is HP.out hby.1 hby.2 _).mono ?_; rintro e w1 ⟨rfl, rfl⟩))
            go_ret2
            exact ⟨HB.out, .inl ⟨HF.out, rfl⟩⟩
          · have u1 : ((k : Int) == (b : Int)) = false := by simp; omega
            have hnew := sp_blank HST.out h32' hkb
            have hc : (wr.alloc (.cells #[.string (s.extract b k)] 9 (0, 0))).cell? ⟨wr.heap.size, 0, none⟩ = some (.string (s.extract b k)) := by rw [World.cell?_alloc_mark]; rfl
            have HC := Lib.hid hc
            have HO2 := Lib.hid (HO.out.alloc (.cells #[.string (s.extract b k)] 9 (0, 0)))
            have HNEW := Lib.hid hnew
            clear hnew hc hg h32 h32' hp
            go_wp2_with fail
            refine (plain_is HP.out hby.1 hby.2 _).mono ?_
            rintro e w1 ⟨rfl, rfl⟩
            go_wp2_with (at_builtin; (refine wpList_app_str rfl (.tmp 27) (.tmp 32) _ rfl w.heap.size 9 i0 _ Tryd.underlying23 hi hz (by rfl) hs1 hs2 _ ws.length ws rfl HO2.out _ 1 (s.extract b k) rfl HC.out (by omega) (by simp; omega) ?_); intro v' w2 hown' hg hat)
            have HW2 : Hid (Below w.heap.size w w2) := (HB.out.alloc hbs _).grown hg (by simp; omega) (fun k hk => (HO.out.lt k hk).1)
            go_wp2
            go_roundw
            case rel => exact ⟨k + 1, _, k + 1, by omega, by go_num, by go_num, HNEW.out, by simpa using hown', HW2.out⟩
            case measure => simp [intOf]; omega
        · have u0 : (((s[k]).toNat : Int) != 32) = true := by simp; omega
          have hfin := fin_none (k := k + 1) hlt H0.out (sp_bad HST.out HP2.out (.inl (by rw [← hg]; exact h32)))
          have HF := Lib.hid hfin
          clear hfin hg h32 hp
          go_wp2_with (first | (go_at_call 22; refine (plain_is HP.out hby.1 hby.2 _).mono ?_; rintro e w1 ⟨rfl, rfl⟩))
          go_ret2
          exact ⟨HB.out, .inl ⟨HF.out, rfl⟩⟩
      · have hnew := sp_plain HST.out (by rw [← hg]; exact hp)
        have HNEW := Lib.hid hnew
        have HP := Lib.hid hp
        clear hg hp hnew
        go_wp2_with (first | (go_at_call 22; refine (plain_is HP.out hby.1 hby.2 _).mono ?_; rintro e w1 ⟨rfl, rfl⟩))
        go_roundw
        case rel => exact ⟨k + 1, ws, b, by omega, by go_num, rfl, HNEW.out, HO.out, HB.out⟩
        case measure => simp [intOf]; omega
    · obtain rfl : k = s.size := by omega
      by_cases hend : b = s.size
      · have u0 : ((b : Int) == (s.size : Int)) = true := by rw [hend]; simp
        have hfin := fin_end H0.out (hend ▸ HST.out)
        have HF := Lib.hid hfin
        clear hfin hend
        go_wp2
        go_ret2
        exact ⟨HB.out, .inl ⟨HF.out, rfl⟩⟩
      · have u0 : ((b : Int) == (s.size : Int)) = false := by simp; omega
        have hfin := fin_some H0.out HST.out hend
        have HF := Lib.hid hfin
        have hc : (wr.alloc (.cells #[.string (s.extract b s.size)] 9 (0, 0))).cell? ⟨wr.heap.size, 0, none⟩ = some (.string (s.extract b s.size)) := by rw [World.cell?_alloc_mark]; rfl
        have HC := Lib.hid hc
        have HO2 := Lib.hid (HO.out.alloc (.cells #[.string (s.extract b s.size)] 9 (0, 0)))
        clear hc hfin
        go_wp2_with (first
          | (at_builtin; (refine wpList_app_str rfl (.tmp 41) (.tmp 45) _ rfl w.heap.size 9 i0 _ Tryd.underlying23 hi hz (by rfl) hs1 hs2 _ ws.length ws rfl HO2.out _ 1 (s.extract b s.size) rfl HC.out (by omega) (by simp; omega) ?_); intro v' w2 hown' hg hat))
        have HW2 : Hid (Below w.heap.size w w2) := (HB.out.alloc hbs _).grown hg (by simp; omega) (fun k hk => (HO.out.lt k hk).1)
        obtain ⟨A1, c1, rfl, hc1, hr1⟩ := SRow.of_own hown'
        go_wp2
        go_ret2
        exact ⟨HW2.out, .inr ⟨_, A1, c1, HF.out, by simp, by simpa using hr1, by simpa using hc1, by simp; omega⟩⟩
end Go.Proofs.YtdicjplekbjdpabDoor.Wd
