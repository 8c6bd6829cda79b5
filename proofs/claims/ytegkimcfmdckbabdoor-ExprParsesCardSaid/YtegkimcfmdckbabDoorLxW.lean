/- Walks of the reference of the lexer: Lex. -/
import Derived.Test.YtegkimcfmdckbabDoorLxV
import Derived.Test.YtegkimcfmdckbabDoorLxEnds
namespace Go.Proofs.YtegkimcfmdckbabDoor.Lx
open Go.RowKit Mem
set_option linter.unusedVariables false

theorem info_rsg : (Tryd.prog.info? 63).map (fun i => (i.zero, i.size, i.bytes)) = some (some (.agg #[.int .i64 0, .int .i64 0, .int .i64 0, .int .i64 0, .string ⟨#[]⟩]), 5, 48) := by kernel_rfl
theorem rbg_of {s : ByteArray} {k : Nat} {b : Bool} (hk : k < s.size) (hd : begins s[k] = b) (w : World) : Calls Tryd.prog 46 #[.int .u8 (s[k].toNat : Int)] w fun e w' => e = .returned (.bool b) ∧ w' = w := by
  have hb := s[k].toNat_lt
  have := rbegins_any (s[k].toNat : Int) w (by omega) (by omega)
  rwa [bgI_nat, hd] at this
/-- where no sign begins none is read -/
theorem one_none {c : UInt8} {t : List UInt8} {k : Nat} (h : ¬ begins c = true) : one c t k = .bad k 2 := by
  obtain ⟨h1, h2, h3⟩ := not_begins h
  rw [one, h1, if_neg (by decide), if_neg h2, h3]
theorem below_none {w0 w w' : World} (h : Below w0.heap.size w0 w) (hg : w.grownBy w' none) : Below w0.heap.size w0 w' := h.grown hg h.size (by intro i hi; simp at hi)

set_option maxRecDepth 100000 in
set_option maxHeartbeats 4000000 in
theorem rlex_any (s : ByteArray) (w : World) (hs : s.size ≤ 100000) : Calls Tryd.prog 23 #[.string s] w (LexIs s w) := by
  obtain ⟨i0, hi, hz, hs1, hs2⟩ := info_parts info_rsg
  obtain ⟨Fin, hFin⟩ : ∃ Fin, Fin = Lex s.data.toList := ⟨_, rfl⟩
  have HFin := Lib.hid hFin
  clear hFin
  go_enter Tryd.func23, Tryd.ntmps23
  go_wp2_with fail
  go_loopw [5, 6] (fun v iv wr => ∃ (k : Nat) (acc : List Sg), iv = .int .i64 k ∧ k ≤ s.size ∧ acc.length ≤ 200 ∧ Hid (wr.ownsRow w.heap.size 63 5 v acc.length (cells5 acc)) ∧ Hid (Below w.heap.size w wr) ∧ Hid (From (s.data.toList.drop k) k acc = Fin)) (fun _ iv _ => s.size - (intOf iv).toNat)
  case atStart => exact ⟨0, [], rfl, by omega, by simp, Lib.hid (World.ownsRow_nil _ _ _ _), Lib.hid (Below.refl _ _), Lib.hid HFin.out.symm⟩
  case round =>
    obtain ⟨k, acc, rfl, hk, hacc, hO, hW, hF⟩ := hrel
    have hsz := hW.out.size
    by_cases hlt : k < s.size
    · have l1 : decide ((k : Int) < (s.size : Int)) = true := by simp; omega
      have l2 : decide (k < s.size) = true := by simp; omega
      have i1 : (0 : Int) ≤ (k : Int) := by omega
      have i2 : (k : Int) < (s.size : Int) := by omega
      have hb := s[k].toNat_lt
      have hF0 := hF.out
      rw [drop_cons s k hlt] at hF0
      by_cases h32 : s[k].toNat = 32
      · rw [from_blank _ _ _ h32] at hF0
        have HF2 := Lib.hid hF0
        have t1 : ((s[k].toNat : Int) == 32) = true := by rw [h32]; rfl
        clear hF hF0 h32
        go_wp2_with fail
        go_roundw
        case rel => exact ⟨k + 1, acc, by go_num, by omega, hacc, hO, hW, HF2⟩
        case measure => simp [intOf]; omega
      · have t1 : ((s[k].toNat : Int) == 32) = false := by simp; omega
        obtain ⟨A0, c0, hv⟩ := own_form5 hO.out
        subst hv
        by_cases hfull : acc.length = 200 ∧ begins s[k] = true
        · have HBG := hide (rbg_of hlt hfull.2)
          have HL : Hid (Lex s.data.toList = .bad k 4) := by show _ = _; rw [← HFin.out, ← hF0, from_full _ _ _ hfull.2 hfull.1]
          have t2 : ((acc.length : Int) == 200) = true := by simp; omega
          have t3 : (acc.length == 200) = true := by simp; omega
          clear hF hF0 h32 hfull
          go_wp2_with (go_at_call 46; (with_reducible refine (HBG.out _).mono ?_); rintro e w1 ⟨rfl, hw1⟩; replace hw1 := hw1.symm; subst hw1)
          exact bodyPost_ret (v := .tuple #[.slice none 0 0, .int .i64 k, .int .i64 4]) (by simp [results, Tryd.results23, go_sem]) rfl ⟨hW.out, by rw [HL.out]⟩
        · have HR := hide (fun W => rone_any s k W hlt hs)
          have hnf : ¬ (begins s[k] = true ∧ acc.length = 200) := fun h => hfull ⟨h.2, h.1⟩
          cases ho : one s[k] (s.data.toList.drop (k + 1)) k with
          | bad p c =>
            rw [ho] at HR
            have HL : Hid (Lex s.data.toList = .bad p c) := by show _ = _; rw [← HFin.out, ← hF0, from_bad _ _ _ h32 hnf ho]
            have hc0 : c ≠ 0 := by have := one_bad ho; omega
            have t4 : (c != 0) = true := by simp [hc0]
            have t5 : (c == 0) = false := by simp [hc0]
            by_cases h200 : acc.length = 200
            · have HBG := hide (rbg_of (b := false) hlt (by cases h : begins s[k] with | false => rfl | true => exact absurd ⟨h200, h⟩ hfull))
              have t2 : ((acc.length : Int) == 200) = true := by simp; omega
              have t3 : (acc.length == 200) = true := by simp; omega
              clear hF hF0 h32 hfull hnf ho hc0
              go_wp2_with (first
                | (go_at_call 46; (with_reducible refine (HBG.out _).mono ?_); rintro e w1 ⟨rfl, hw1⟩; replace hw1 := hw1.symm; subst hw1)
                | (go_at_call 47; (with_reducible refine (HR.out _).mono ?_); rintro e w2 h9; have hg2 := h9.1; obtain ⟨⟨kd, a_, lo, hi', nm⟩, rfl⟩ := h9.2; have HW2 := Lib.hid (below_none hW.out hg2); clear h9 hg2; try dsimp only [sgV]))
              exact bodyPost_ret (v := .tuple #[.slice none 0 0, .int .i64 p, .int .i64 c]) (by simp [results, Tryd.results23, go_sem]) rfl ⟨HW2.out.alloc HW2.out.size _, by rw [HL.out]⟩
            · have t2 : ((acc.length : Int) == 200) = false := by simp; omega
              have t3 : (acc.length == 200) = false := by simp; omega
              clear hF hF0 h32 hfull hnf ho hc0
              go_wp2_with (go_at_call 47; (with_reducible refine (HR.out _).mono ?_); rintro e w2 h9; have hg2 := h9.1; obtain ⟨⟨kd, a_, lo, hi', nm⟩, rfl⟩ := h9.2; have HW2 := Lib.hid (below_none hW.out hg2); clear h9 hg2; try dsimp only [sgV])
              exact bodyPost_ret (v := .tuple #[.slice none 0 0, .int .i64 p, .int .i64 c]) (by simp [results, Tryd.results23, go_sem]) rfl ⟨HW2.out.alloc HW2.out.size _, by rw [HL.out]⟩
          | ok x to =>
            rw [ho] at HR
            have h200 : acc.length < 200 := by
              have hbg : begins s[k] = true := by
                cases h : begins s[k] with
                | true => rfl
                | false => rw [one_none (by simp [h])] at ho; simp at ho
              have : acc.length ≠ 200 := fun h => hfull ⟨h, hbg⟩
              omega
            have t2 : ((acc.length : Int) == 200) = false := by simp; omega
            have t3 : (acc.length == 200) = false := by simp; omega
            have hto := one_to ho
            rw [List.length_drop, show s.data.toList.length = s.size from by rw [Array.length_toList]; rfl] at hto
            have hFn := from_ok (s.data.toList.drop (k + 1)) k acc h32 hnf ho
            rw [hF0, ← drop_cons s k hlt, drop_to s k to (by omega)] at hFn
            have HF2 := Lib.hid hFn.symm
            obtain ⟨kd, at_, lo, hi', nm⟩ := x
            have hto2 : to ≤ s.size ∧ k < to := by omega
            clear hF hF0 hFn hto h32 hfull hnf ho
            go_wp2_with (first
              | (go_at_call 47; (with_reducible refine (HR.out _).mono ?_); rintro e w2 h9; have hg2 := h9.1; obtain rfl := h9.2; have HW2 := Lib.hid (below_none hW.out hg2); have HO2 := Lib.hid (hO.out.kept hg2 (Classical.em _)); have hz2 := HW2.out.size; clear h9 hg2; try dsimp only [sgV])
              | (at_builtin; refine wpList_app_sg rfl (.tmp 41) (.tmp 43) 59 rfl w.heap.size 63 i0 _ Tryd.underlying59 hi hz rfl hs1 hs2 _ acc rfl ((HO2.out.alloc (.cells #[.int .i64 kd, .int .i64 at_, .int .i64 lo, .int .i64 hi', .string ⟨nm.toArray⟩] 63)).alloc (.cells #[.int .i64 kd, .int .i64 at_, .int .i64 lo, .int .i64 hi', .string ⟨nm.toArray⟩] 63)) (w2.heap.size + 1) 1 ⟨kd, at_, lo, hi', nm⟩ rfl (new_cells w2 (.cells #[.int .i64 kd, .int .i64 at_, .int .i64 lo, .int .i64 hi', .string ⟨nm.toArray⟩] 63) _ _ rfl) (by omega) (by simp; omega) ?_; intro v' w4 hown' hg4 hat4))
            have HO4 := Lib.hid hown'
            have HW4 : Hid (Below w.heap.size w w4) := ((HW2.out.alloc hz2 _).alloc (by simp; omega) _).grown hg4 (by simp; omega) (fun g hg => (HO2.out.lt g hg).1)
            clear hown' hg4 hat4
            go_wp2_with fail
            go_roundw
            case rel => exact ⟨to, acc ++ [⟨kd, at_, lo, hi', nm⟩], rfl, hto2.1, by simp; omega, HO4, HW4, HF2⟩
            case measure => simp [intOf]; omega
    · have l1 : decide ((k : Int) < (s.size : Int)) = false := by simp; omega
      have l2 : decide (k < s.size) = false := by simp; omega
      have hF0 := hF.out
      rw [drop_end s k (by omega), from_nil] at hF0
      have HL : Hid (Lex s.data.toList = .ok acc 0) := by show _ = _; rw [← HFin.out, ← hF0]
      obtain ⟨A0, c0, hv, hc0, hrow⟩ := GRow.of_own hO.out
      subst hv
      have HROW := Lib.hid hrow
      clear hF hF0 hrow
      go_wp2_with fail
      exact bodyPost_ret (v := .tuple #[.slice A0 acc.length c0, .int .i64 0, .int .i64 0]) (by simp [results, Tryd.results23, go_sem]) rfl ⟨hW.out, by rw [HL.out]; exact ⟨A0, c0, rfl, hc0, HROW.out⟩⟩
end Go.Proofs.YtegkimcfmdckbabDoor.Lx
