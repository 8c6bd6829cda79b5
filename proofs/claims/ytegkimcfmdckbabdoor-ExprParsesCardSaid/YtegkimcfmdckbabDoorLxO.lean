/- Walks of the reference of the lexer: the text of signs. -/
import Derived.Test.YtegkimcfmdckbabDoorLxN
namespace Go.Proofs.YtegkimcfmdckbabDoor.Lx
open Go.RowKit Mem
set_option linter.unusedVariables false

theorem put_str {T P S : List UInt8} {a : ByteArray} (hS : S = T ++ P) (ha : a = ⟨(T ++ P).toArray⟩) : Value.string a = .string ⟨S.toArray⟩ := by rw [ha, hS]
theorem cat2 (a b : List UInt8) : ((⟨a.toArray⟩ : ByteArray) ++ ⟨b.toArray⟩) = ⟨(a ++ b).toArray⟩ := str_app a b
theorem cat3 (a b c : List UInt8) : ((⟨a.toArray⟩ : ByteArray) ++ ⟨b.toArray⟩ ++ ⟨c.toArray⟩) = ⟨(a ++ (b ++ c)).toArray⟩ := by rw [str_app, str_app, List.append_assoc]
theorem piece_sp {i : Nat} {kd at_ lo hi : Int} {nm : List UInt8} (h : 0 < i ∧ kd ≠ 5) : piece i ⟨kd, at_, lo, hi, nm⟩ = [32] ++ show1 ⟨kd, at_, lo, hi, nm⟩ := by unfold piece; rw [if_pos h]
theorem piece_no {i : Nat} {kd at_ lo hi : Int} {nm : List UInt8} (h : ¬ (0 < i ∧ kd ≠ 5)) : piece i ⟨kd, at_, lo, hi, nm⟩ = show1 ⟨kd, at_, lo, hi, nm⟩ := by unfold piece; rw [if_neg h]; rfl

set_option maxRecDepth 100000 in
set_option maxHeartbeats 8000000 in
theorem rShow_any (A : Option Addr) (n c : Nat) (l : List Sg) (w : World) (hr : GRow w A n l) (hn : n ≤ 300) (hx : ∀ x ∈ l, (I64 x.low ∧ I64 x.high) ∧ x.name.length ≤ 100) :
    Calls Tryd.prog 30 #[.slice A n c] w fun e w' => e = .returned (.string ⟨(showN 0 l).toArray⟩) ∧ Below w.heap.size w w' := by
  have HR := Lib.hid hr
  have HX := hide hx
  clear hr hx
  go_enter Tryd.func30, Tryd.ntmps30
  go_wp2_with fail
  obtain ⟨W0, hW0⟩ : ∃ W0, W0 = w.alloc (.cells #[.string ⟨#[]⟩, .string ⟨#[]⟩, .string ⟨#[40]⟩, .string ⟨#[41]⟩, .string ⟨#[124]⟩] 9 (0, 0)) := ⟨_, rfl⟩
  have HN0 : Hid (W0.heap[w.heap.size]? = some (.cells #[.string ⟨#[]⟩, .string ⟨#[]⟩, .string ⟨#[40]⟩, .string ⟨#[41]⟩, .string ⟨#[124]⟩] 9 (0, 0))) := by
    show _ = _; rw [hW0]; exact World.alloc_heap_new w _
  have HB0 : Hid (Below w.heap.size w W0) := by show Below _ _ _; rw [hW0]; exact (Below.refl _ _).alloc (Nat.le_refl _) _
  have hz0 : w.heap.size < W0.heap.size := by rw [hW0, World.size_alloc]; omega
  rw [← hW0]
  clear hW0
  go_loopw [4, 5] (fun sv iv wr => ∃ k : Nat, k ≤ n ∧ iv = .int .i64 k ∧ sv = .string ⟨(showN 0 (l.take k)).toArray⟩ ∧ Hid (Below W0.heap.size W0 wr)) (fun _ i _ => n - (intOf i).toNat)
  case atStart => exact ⟨0, by omega, rfl, rfl, Lib.hid (Below.refl _ _)⟩
  case round =>
    obtain ⟨k, hk, rfl, rfl, hW⟩ := hrel
    by_cases hlt : k < n
    · have hl : l.length = n := HR.out.1
      obtain ⟨b, off, hA, hb, hc⟩ := HR.out.2 (by omega)
      have hkl : k < l.length := by omega
      obtain ⟨a0, a1, a2, a3, a4⟩ := hc k hkl
      have hcc := fun o => (hW.out.cell (p := ⟨b, o, none⟩) (by show b < _; omega)).trans (HB0.out.cell (p := ⟨b, o, none⟩) hb)
      have b0 := (hcc _).trans a0
      have b1 := (hcc _).trans a1
      have b2 := (hcc _).trans a2
      have b3 := (hcc _).trans a3
      have b4 := (hcc _).trans a4
      have hnb : wr.heap[w.heap.size]? = _ := (hW.out.block _ hz0).trans HN0.out
      have n2 : wr.cell? ⟨w.heap.size, 2, none⟩ = some (.string ⟨#[40]⟩) := by simp [World.cell?, hnb]
      have n3 : wr.cell? ⟨w.heap.size, 3, none⟩ = some (.string ⟨#[41]⟩) := by simp [World.cell?, hnb]
      have n4 : wr.cell? ⟨w.heap.size, 4, none⟩ = some (.string ⟨#[124]⟩) := by simp [World.cell?, hnb]
      have hnx := showN_take l k hkl
      have hxk := HX.out l[k] (List.getElem_mem hkl)
      have hlen := showN_len (l.take k) 0 (fun x h => HX.out x (List.mem_of_mem_take h))
      rw [List.length_take, Nat.min_eq_left (by omega)] at hlen
      obtain ⟨x, hxe⟩ : ∃ x, x = l[k] := ⟨_, rfl⟩
      rw [← hxe] at b0 b1 b2 b3 b4 hnx hxk
      obtain ⟨kd, at_, lo, hi, nm⟩ := x
      dsimp only at b0 b1 b2 b3 b4 hxk
      obtain ⟨T, hT⟩ : ∃ T, T = showN 0 (l.take k) := ⟨_, rfl⟩
      rw [← hT] at hnx hlen ⊢
      have HN := Lib.hid hnx
      subst hA
      have hsz := hW.out.size
      have hbz : b < wr.heap.size := by omega
      have hwz : w.heap.size < wr.heap.size := by omega
      have HA0 := Lib.hid (hW.out.alloc hsz (.cells #[.int .i64 kd, .int .i64 at_, .int .i64 lo, .int .i64 hi, .string ⟨nm.toArray⟩] 63))
      have l0 := hxk.1.1.1
      have l1 := hxk.1.1.2
      have h0 := hxk.1.2.1
      have h1 := hxk.1.2.2
      have z2 := hxk.2
      have z3 := times_len hxk.1.1 hxk.1.2
      have z4 : T.length ≤ 30300 := by omega
      have HT2 := hide (fun W => rtimes_any lo hi l0 l1 h0 h1 W)
      clear hnx hxe hT hcc a0 a1 a2 a3 a4 hc hl hnb hxk hlen
      by_cases k0 : 0 < k
      · have d0 : decide (0 < k) = true := by simpa using k0
        by_cases k5 : kd = 5
        · have e5 := k5
          subst e5
          have HS : Hid (show1 ⟨5, at_, lo, hi, nm⟩ = times lo hi) := rfl
          have HP : Hid (piece k ⟨5, at_, lo, hi, nm⟩ = times lo hi) := by show _ = _; rw [piece_no (by omega), HS.out]
          go_wp2_with (go_at_call 50; (with_reducible refine (HT2.out _).mono ?_); rintro e w5 ⟨rfl, hb5⟩)
          all_goals first | (exfalso; omega) | skip
          go_roundw
          case rel => exact ⟨k + 1, by omega, by go_num, put_str HN.out (by rw [HP.out]; exact cat2 T (times lo hi)), Lib.hid (HA0.out.trans (hb5.mono (by have := HA0.out.size; omega)))⟩
          case measure => simp [intOf]; omega
        · skip
          by_cases e1 : kd = 1
          · subst e1
            have HS : Hid (show1 ⟨1, at_, lo, hi, nm⟩ = nm) := rfl
            have HP : Hid (piece k ⟨1, at_, lo, hi, nm⟩ = [32] ++ nm) := by show _ = _; rw [piece_sp ⟨k0, by omega⟩, HS.out]
            go_wp2_with (go_at_call 50; (with_reducible refine (HT2.out _).mono ?_); rintro e w5 ⟨rfl, hb5⟩)
            all_goals first | (exfalso; omega) | skip
            go_roundw
            case rel => exact ⟨k + 1, by omega, by go_num, put_str HN.out (by rw [HP.out]; exact cat3 T [32] nm), HA0⟩
            case measure => simp [intOf]; omega
          · skip
            by_cases e2 : kd = 2
            · subst e2
              have HS : Hid (show1 ⟨2, at_, lo, hi, nm⟩ = [40]) := rfl
              have HP : Hid (piece k ⟨2, at_, lo, hi, nm⟩ = [32] ++ [40]) := by show _ = _; rw [piece_sp ⟨k0, by omega⟩, HS.out]
              go_wp2_with (go_at_call 50; (with_reducible refine (HT2.out _).mono ?_); rintro e w5 ⟨rfl, hb5⟩)
              all_goals first | (exfalso; omega) | skip
              go_roundw
              case rel => exact ⟨k + 1, by omega, by go_num, put_str HN.out (by rw [HP.out]; exact cat3 T [32] [40]), HA0⟩
              case measure => simp [intOf]; omega
            · skip
              by_cases e3 : kd = 3
              · subst e3
                have HS : Hid (show1 ⟨3, at_, lo, hi, nm⟩ = [41]) := rfl
                have HP : Hid (piece k ⟨3, at_, lo, hi, nm⟩ = [32] ++ [41]) := by show _ = _; rw [piece_sp ⟨k0, by omega⟩, HS.out]
                go_wp2_with (go_at_call 50; (with_reducible refine (HT2.out _).mono ?_); rintro e w5 ⟨rfl, hb5⟩)
                all_goals first | (exfalso; omega) | skip
                go_roundw
                case rel => exact ⟨k + 1, by omega, by go_num, put_str HN.out (by rw [HP.out]; exact cat3 T [32] [41]), HA0⟩
                case measure => simp [intOf]; omega
              · skip
                by_cases e4 : kd = 4
                · subst e4
                  have HS : Hid (show1 ⟨4, at_, lo, hi, nm⟩ = [124]) := rfl
                  have HP : Hid (piece k ⟨4, at_, lo, hi, nm⟩ = [32] ++ [124]) := by show _ = _; rw [piece_sp ⟨k0, by omega⟩, HS.out]
                  go_wp2_with (go_at_call 50; (with_reducible refine (HT2.out _).mono ?_); rintro e w5 ⟨rfl, hb5⟩)
                  all_goals first | (exfalso; omega) | skip
                  go_roundw
                  case rel => exact ⟨k + 1, by omega, by go_num, put_str HN.out (by rw [HP.out]; exact cat3 T [32] [124]), HA0⟩
                  case measure => simp [intOf]; omega
                · skip
                  have e5 : kd ≠ 5 := k5
                  have HS : Hid (show1 ⟨kd, at_, lo, hi, nm⟩ = []) := by show _ = _; simp [show1, e1, e2, e3, e4, e5]
                  have t1 : (kd == 1) = false := by simpa using e1
                  have t5 : (kd == 5) = false := by simpa using e5
                  have t5' : (kd != 5) = true := by simpa using e5
                  have HP : Hid (piece k ⟨kd, at_, lo, hi, nm⟩ = [32] ++ []) := by show _ = _; rw [piece_sp ⟨k0, by omega⟩, HS.out]
                  by_cases g1 : kd ≤ 1
                  · have u1 : decide (1 < kd) = false := by simp; omega
                    have g2 : kd < 1 := by omega
                    clear e1 e2 e3 e4 e5
                    go_wp2_with (go_at_call 50; (with_reducible refine (HT2.out _).mono ?_); rintro e w5 ⟨rfl, hb5⟩)
                    all_goals first | (exfalso; omega) | skip
                    go_roundw
                    case rel => exact ⟨k + 1, by omega, by go_num, put_str HN.out (by rw [HP.out]; rw [List.append_nil]; exact cat2 T [32]), HA0⟩
                    case measure => simp [intOf]; omega
                  · have u1 : decide (1 < kd) = true := by simp; omega
                    have u2 : decide (kd < 5) = false := by simp; omega
                    have g3 : 5 < kd := by omega
                    clear e1 e2 e3 e4 e5
                    go_wp2_with (go_at_call 50; (with_reducible refine (HT2.out _).mono ?_); rintro e w5 ⟨rfl, hb5⟩)
                    all_goals first | (exfalso; omega) | skip
                    go_roundw
                    case rel => exact ⟨k + 1, by omega, by go_num, put_str HN.out (by rw [HP.out]; rw [List.append_nil]; exact cat2 T [32]), HA0⟩
                    case measure => simp [intOf]; omega
      · have d0 : decide (0 < k) = false := by simpa using k0
        have hk0 : k ≤ 0 := by omega
        by_cases e1 : kd = 1
        · subst e1
          have HS : Hid (show1 ⟨1, at_, lo, hi, nm⟩ = nm) := rfl
          have HP : Hid (piece k ⟨1, at_, lo, hi, nm⟩ = nm) := by show _ = _; rw [piece_no (by omega), HS.out]
          go_wp2_with (go_at_call 50; (with_reducible refine (HT2.out _).mono ?_); rintro e w5 ⟨rfl, hb5⟩)
          all_goals first | (exfalso; omega) | skip
          go_roundw
          case rel => exact ⟨k + 1, by omega, by go_num, put_str HN.out (by rw [HP.out]; exact cat2 T nm), HA0⟩
          case measure => simp [intOf]; omega
        · skip
          by_cases e2 : kd = 2
          · subst e2
            have HS : Hid (show1 ⟨2, at_, lo, hi, nm⟩ = [40]) := rfl
            have HP : Hid (piece k ⟨2, at_, lo, hi, nm⟩ = [40]) := by show _ = _; rw [piece_no (by omega), HS.out]
            go_wp2_with (go_at_call 50; (with_reducible refine (HT2.out _).mono ?_); rintro e w5 ⟨rfl, hb5⟩)
            all_goals first | (exfalso; omega) | skip
            go_roundw
            case rel => exact ⟨k + 1, by omega, by go_num, put_str HN.out (by rw [HP.out]; exact cat2 T [40]), HA0⟩
            case measure => simp [intOf]; omega
          · skip
            by_cases e3 : kd = 3
            · subst e3
              have HS : Hid (show1 ⟨3, at_, lo, hi, nm⟩ = [41]) := rfl
              have HP : Hid (piece k ⟨3, at_, lo, hi, nm⟩ = [41]) := by show _ = _; rw [piece_no (by omega), HS.out]
              go_wp2_with (go_at_call 50; (with_reducible refine (HT2.out _).mono ?_); rintro e w5 ⟨rfl, hb5⟩)
              all_goals first | (exfalso; omega) | skip
              go_roundw
              case rel => exact ⟨k + 1, by omega, by go_num, put_str HN.out (by rw [HP.out]; exact cat2 T [41]), HA0⟩
              case measure => simp [intOf]; omega
            · skip
              by_cases e4 : kd = 4
              · subst e4
                have HS : Hid (show1 ⟨4, at_, lo, hi, nm⟩ = [124]) := rfl
                have HP : Hid (piece k ⟨4, at_, lo, hi, nm⟩ = [124]) := by show _ = _; rw [piece_no (by omega), HS.out]
                go_wp2_with (go_at_call 50; (with_reducible refine (HT2.out _).mono ?_); rintro e w5 ⟨rfl, hb5⟩)
                all_goals first | (exfalso; omega) | skip
                go_roundw
                case rel => exact ⟨k + 1, by omega, by go_num, put_str HN.out (by rw [HP.out]; exact cat2 T [124]), HA0⟩
                case measure => simp [intOf]; omega
              · skip
                by_cases e5 : kd = 5
                · subst e5
                  have HS : Hid (show1 ⟨5, at_, lo, hi, nm⟩ = times lo hi) := rfl
                  have HP : Hid (piece k ⟨5, at_, lo, hi, nm⟩ = times lo hi) := by show _ = _; rw [piece_no (by omega), HS.out]
                  go_wp2_with (go_at_call 50; (with_reducible refine (HT2.out _).mono ?_); rintro e w5 ⟨rfl, hb5⟩)
                  all_goals first | (exfalso; omega) | skip
                  go_roundw
                  case rel => exact ⟨k + 1, by omega, by go_num, put_str HN.out (by rw [HP.out]; exact cat2 T (times lo hi)), Lib.hid (HA0.out.trans (hb5.mono (by have := HA0.out.size; omega)))⟩
                  case measure => simp [intOf]; omega
                · have HS : Hid (show1 ⟨kd, at_, lo, hi, nm⟩ = []) := by show _ = _; simp [show1, e1, e2, e3, e4, e5]
                  have t1 : (kd == 1) = false := by simpa using e1
                  have t5 : (kd == 5) = false := by simpa using e5
                  have t5' : (kd != 5) = true := by simpa using e5
                  have HP : Hid (piece k ⟨kd, at_, lo, hi, nm⟩ = []) := by show _ = _; rw [piece_no (by omega), HS.out]
                  by_cases g1 : kd ≤ 1
                  · have u1 : decide (1 < kd) = false := by simp; omega
                    have g2 : kd < 1 := by omega
                    clear e1 e2 e3 e4 e5
                    go_wp2_with (go_at_call 50; (with_reducible refine (HT2.out _).mono ?_); rintro e w5 ⟨rfl, hb5⟩)
                    all_goals first | (exfalso; omega) | skip
                    go_roundw
                    case rel => exact ⟨k + 1, by omega, by go_num, put_str HN.out (by rw [HP.out]; rw [List.append_nil]), HA0⟩
                    case measure => simp [intOf]; omega
                  · have u1 : decide (1 < kd) = true := by simp; omega
                    have u2 : decide (kd < 5) = false := by simp; omega
                    have g3 : 5 < kd := by omega
                    clear e1 e2 e3 e4 e5
                    go_wp2_with (go_at_call 50; (with_reducible refine (HT2.out _).mono ?_); rintro e w5 ⟨rfl, hb5⟩)
                    all_goals first | (exfalso; omega) | skip
                    go_roundw
                    case rel => exact ⟨k + 1, by omega, by go_num, put_str HN.out (by rw [HP.out]; rw [List.append_nil]), HA0⟩
                    case measure => simp [intOf]; omega
    · obtain rfl : k = n := by omega
      have HL : Hid (l.take k = l) := by show _ = _; rw [← HR.out.1, List.take_length]
      go_wp2_with fail
      go_ret
      exact ⟨by rw [HL.out]; rfl, HB0.out.trans (hW.out.mono (by omega))⟩
end Go.Proofs.YtegkimcfmdckbabDoor.Lx
