/- Walks of words: the reference's Split. -/
import Derived.Test.YtdicjplekbjdpabDoorWdP
namespace Go.Proofs.YtdicjplekbjdpabDoor.Wd
open Go.RowKit Go.Sort Mem
set_option linter.unusedVariables false

theorem rsplit_empty (w : World) : Calls Tryd.prog 9 #[.string ⟨#[]⟩] w (SplitIs ⟨#[]⟩ w) := by
  have E : Hid (fin ⟨#[]⟩ = some []) := fin_empty rfl
  go_enter Tryd.func9, Tryd.ntmps9
  go_wp2
  go_loop [4, 5, 6] (fun v x i => v = .slice none 0 0 ∧ i = .int .i64 0) (fun _ _ _ => 0)
  case atStart => exact ⟨rfl, rfl⟩
  case round =>
    obtain ⟨rfl, rfl⟩ := hrel
    go_wp2
    go_ret2
    exact ⟨Below.refl _ _, .inr ⟨[], none, 0, E.out, rfl, SRow.nil, Nat.le_refl _, Nat.zero_le _⟩⟩

theorem plB32 : plB 32 = false := by decide

set_option maxHeartbeats 1000000 in
set_option maxRecDepth 100000 in
theorem rsplit_any (s : ByteArray) (w : World) (hs : s.size ≤ 2000) : Calls Tryd.prog 9 #[.string s] w (SplitIs s w) := by
  by_cases h0 : s.size = 0
  · obtain rfl := is_empty h0
    exact rsplit_empty w
  obtain ⟨i0, hi, hz, hs1, hs2⟩ := info_parts info_str
  have hget : ∀ k (h : k < s.size), s[k] = s.data.toList.getD k 0 := fun k h => sget s k h
  have HG := hide hget
  have H0 := Lib.hid h0
  have t0 := ne_empty h0
  have t1 := ne_empty' h0
  have he0 : s.extract 0 0 = ⟨#[]⟩ := is_empty (by rw [ByteArray.size_extract]; omega)
  have HE0 := Lib.hid he0
  clear hget h0 he0
  go_enter Tryd.func9, Tryd.ntmps9
  go_wp2
  go_loopw [4, 5, 6] (fun v x i wr => ∃ (k : Nat) (ws : List ByteArray) (bg : Nat) (W : ByteArray), k ≤ s.size ∧ i = .int .i64 k ∧ x = .string W ∧ W = s.extract bg k ∧ bg < s.size ∧ stS s k = some (ws, bg) ∧ wr.ownsRow w.heap.size 9 1 v ws.length (ws.map Value.string) ∧ Below w.heap.size w wr) (fun _ _ i _ => s.size - (intOf i).toNat)
  case atStart => exact ⟨0, [], 0, ⟨#[]⟩, Nat.zero_le _, rfl, rfl, HE0.out.symm, by have := H0.out; omega, rfl, World.ownsRow_nil _ _ _ _, Below.refl _ _⟩
  case round =>
    obtain ⟨k, ws, b, W, hk, rfl, rfl, hW, hbl, hst, ho, hbw⟩ := hrel
    have hle := stS_le s k ws b hst
    have hWs : W.size = k - b := by rw [hW]; exact cut_size hk
    have HST := Lib.hid hst
    have HO := Lib.hid ho
    have HB := Lib.hid hbw
    have HW := Lib.hid hW
    have hbs := hbw.size
    clear hst ho hbw hW
    by_cases hlt : k < s.size
    · have hg := (unhide HG) k hlt
      have hby := byte_rng s[k]
      by_cases h32 : (s[k]).toNat = 32
      · have u0 : (((s[k]).toNat : Int) == 32) = true := by rw [h32]; rfl
        have h32' := h32
        rw [hg] at h32'
        have hp2 : plB ((s.data.toList.getD k 0).toNat : Int) = false := by rw [h32']; exact plB32
        by_cases hkb : k = b
        · have hfin := fin_none (k := k + 1) hlt H0.out (sp_bad HST.out hp2 (.inr hkb))
          have HF := Lib.hid hfin
          obtain rfl := is_empty (s := W) (by omega)
          clear hfin hg h32 h32' hp2 hkb
          go_wp2
          go_ret2
          exact ⟨HB.out, .inl ⟨HF.out, rfl⟩⟩
        · have v0 := ne_empty (s := W) (by omega)
          have v1 := ne_empty' (s := W) (by omega)
          have hnew := sp_blank HST.out h32' hkb
          have HNEW := Lib.hid hnew
          by_cases hend : k = s.size - 1
          · have u1 : ((k : Int) == (s.size : Int) - 1) = true := by simp; omega
            have hfin := fin_end H0.out (show stS s s.size = some (ws ++ [s.extract b k], s.size) from by rw [show s.size = k + 1 from by omega]; exact HNEW.out)
            have HF := Lib.hid hfin
            clear hfin hg h32 h32' hp2 hnew hend
            go_wp2
            go_ret2
            exact ⟨HB.out, .inl ⟨HF.out, rfl⟩⟩
          · have u1 : ((k : Int) == (s.size : Int) - 1) = false := by simp; omega
            have hc : (wr.alloc (.cells #[.string W] 9 (0, 0))).cell? ⟨wr.heap.size, 0, none⟩ = some (.string W) := by rw [World.cell?_alloc_mark]; rfl
            have HC := Lib.hid hc
            have HO2 := Lib.hid (HO.out.alloc (.cells #[.string W] 9 (0, 0)))
            have hemp : s.extract (k + 1) (k + 1) = ⟨#[]⟩ := is_empty (by rw [cut_size (by omega)]; omega)
            have HEMP := Lib.hid hemp
            have hlast : k + 1 < s.size := by omega
            clear hc hg h32 h32' hp2 hnew hend hemp
            go_wp2_with (first
              | (at_builtin; (refine wpList_app_str rfl (.tmp 26) (.tmp 28) _ rfl w.heap.size 9 i0 _ Tryd.underlying23 hi hz (by rfl) hs1 hs2 _ ws.length ws rfl HO2.out _ 1 W rfl HC.out (by omega) (by simp; omega) ?_); intro v' w2 hown' hg hat))
            have HW2 : Hid (Below w.heap.size w w2) := (HB.out.alloc hbs _).grown hg (by simp; omega) (fun k hk => (HO.out.lt k hk).1)
            go_wp2
            go_roundw
            case rel => exact ⟨k + 1, _, k + 1, ⟨#[]⟩, by omega, by go_num, rfl, HEMP.out.symm, hlast, by rw [HNEW.out, ← HW.out], by simpa using hown', HW2.out⟩
            case measure => simp [intOf]; omega
      · have u0 : (((s[k]).toNat : Int) == 32) = false := by rw [beq_eq_false_iff_ne]; omega
        cases hp : plB ((s[k]).toNat : Int)
        · have hfin := fin_none (k := k + 1) hlt H0.out (sp_bad HST.out (by rw [← hg]; exact hp) (.inl (by rw [← hg]; exact h32)))
          have HF := Lib.hid hfin
          have HP := Lib.hid hp
          clear hfin hg h32 hp
          go_wp2_with (first | (go_at_call 23; refine (rplain_is HP.out hby.1 hby.2 _).mono ?_; rintro e w1 ⟨rfl, rfl⟩))
          go_ret2
          exact ⟨HB.out, .inl ⟨HF.out, rfl⟩⟩
        · have hnew := sp_plain HST.out (by rw [← hg]; exact hp)
          have HNEW := Lib.hid hnew
          have HP := Lib.hid hp
          have hone : W ++ s.extract k (k + 1) = s.extract b (k + 1) := by rw [HW.out]; exact cut_one s hle.1
          have HONE := Lib.hid hone
          have ha := fun (w : World) => add_run W (s.extract k (k + 1)) (by rw [hWs, cut_size (by omega)]; omega) w
          clear hg hp hnew hone h32
          go_wp2_with (first | (go_at_call 23; refine (rplain_is HP.out hby.1 hby.2 _).mono ?_; rintro e w1 ⟨rfl, rfl⟩))
          go_roundw
          case rel => exact ⟨k + 1, ws, b, _, by omega, by go_num, rfl, HONE.out, hbl, HNEW.out, HO.out, HB.out⟩
          case measure => simp [intOf]; omega
    · obtain rfl : k = s.size := by omega
      have hfin := fin_some H0.out HST.out (by omega)
      rw [← HW.out] at hfin
      have HF := Lib.hid hfin
      have hc : (wr.alloc (.cells #[.string W] 9 (0, 0))).cell? ⟨wr.heap.size, 0, none⟩ = some (.string W) := by rw [World.cell?_alloc_mark]; rfl
      have HC := Lib.hid hc
      have HO2 := Lib.hid (HO.out.alloc (.cells #[.string W] 9 (0, 0)))
      clear hc hfin
      go_wp2_with (first
        | (at_builtin; (refine wpList_app_str rfl (.tmp 44) (.tmp 46) _ rfl w.heap.size 9 i0 _ Tryd.underlying23 hi hz (by rfl) hs1 hs2 _ ws.length ws rfl HO2.out _ 1 W rfl HC.out (by omega) (by simp; omega) ?_); intro v' w2 hown' hg hat))
      have HW2 : Hid (Below w.heap.size w w2) := (HB.out.alloc hbs _).grown hg (by simp; omega) (fun k hk => (HO.out.lt k hk).1)
      obtain ⟨A1, c1, rfl, hc1, hr1⟩ := SRow.of_own hown'
      go_wp2
      go_ret2
      exact ⟨HW2.out, .inr ⟨_, A1, c1, HF.out, by simp, by simpa using hr1, by simpa using hc1, by simp; omega⟩⟩
end Go.Proofs.YtdicjplekbjdpabDoor.Wd
