/- Walks of the reference of expressions: shut, check. -/
import Derived.Test.YtegkimcfmdckbabDoorExCut
import Derived.Test.YtegkimcfmdckbabDoorLxMem
namespace Go.Proofs.YtegkimcfmdckbabDoor.Ex
open Go.RowKit Mem Lx
set_option linter.unusedVariables false

theorem drop_at (l : List Sg) (j : Nat) (h : j < l.length) : l.drop j = l[j] :: l.drop (j + 1) := List.drop_eq_getElem_cons h

set_option maxRecDepth 100000 in
set_option maxHeartbeats 2000000 in
theorem shut_any (A : Option Addr) (n c : Nat) (l : List Sg) (w : World) (hr : GRow w A n l) (hn : n ≤ 1000) (p : Nat) (hp : p < l.length) (h2 : l[p].kind = 2) :
    Calls Tryd.prog 68 #[.slice A n c, .int .i64 p] w fun e w' => e = .returned (.int .i64 ((p + 1 + jump 1 (l.drop (p + 1)) : Nat) : Int)) ∧ w' = w := by
  obtain ⟨J, hJ⟩ : ∃ J, J = p + 1 + jump 1 (l.drop (p + 1)) := ⟨_, rfl⟩
  rw [← hJ]
  have HJ := hide hJ
  have hln : l.length = n := hr.1
  have HLN := hide hln
  have HR := hide hr
  have HP := hide h2
  have hp2 : p < n := by omega
  clear hr hJ h2
  go_enter Tryd.func68, Tryd.ntmps68
  go_wp2_with fail
  go_loopw [5, 6] (fun dv iv wr => ∃ d j : Nat, dv = .int .i64 d ∧ iv = .int .i64 j ∧ j ≤ n ∧ d ≤ j ∧ Hid (wr = w) ∧ Hid ((j = p ∧ d = 0) ∨ (p < j ∧ 0 < d ∧ J = j + jump d (l.drop j)))) (fun _ iv _ => n - (intOf iv).toNat)
  case atStart => exact ⟨0, p, rfl, rfl, by omega, by omega, Lib.hid rfl, Lib.hid (.inl ⟨rfl, rfl⟩)⟩
  case round =>
    obtain ⟨d, j, rfl, rfl, hj, hdj, hW, hC⟩ := hrel
    by_cases hlt : j < n
    · have hjl : j < l.length := by rw [HLN.out]; exact hlt
      obtain ⟨b, off, hA, hb, hcell⟩ := HR.out.2 (by omega)
      have a0 := (hcell j hjl).1
      rw [← hW.out] at a0
      subst hA
      have l1 : decide ((j : Int) < (n : Int)) = true := by simp; omega
      have l2 : decide (j < n) = true := by simp; omega
      obtain ⟨x, hx⟩ : ∃ x, x = l[j] := ⟨_, rfl⟩
      rw [← hx] at a0
      have HC : Hid ((j = p ∧ d = 0 ∧ x.kind = 2) ∨ (p < j ∧ 0 < d ∧ J = j + jump d (x :: l.drop (j + 1)))) := by
        rcases hC.out with ⟨rfl, h⟩ | ⟨h3, h4, h5⟩
        · exact .inl ⟨rfl, h, by rw [hx]; exact HP.out⟩
        · exact .inr ⟨h3, h4, by rw [h5, drop_at l j hjl, hx]⟩
      obtain ⟨kd, at_, lo, hi, nm⟩ := x
      dsimp only at a0
      clear hx hcell hC
      by_cases k2 : kd = 2
      · have HC2 : Hid ((j + 1 = p ∧ d + 1 = 0) ∨ (p < j + 1 ∧ 0 < d + 1 ∧ J = (j + 1) + jump (d + 1) (l.drop (j + 1)))) := by
          refine .inr ⟨by rcases HC.out with h | h <;> omega, by omega, ?_⟩
          rcases HC.out with ⟨rfl, rfl, _⟩ | ⟨h3, h4, h5⟩
          · exact HJ.out
          · rw [h5]; simp [jump, k2]; omega
        have t1 : (kd == 2) = true := by simp [k2]
        have t2 : (kd == 3) = false := by simp [k2]
        have t3 : ((d : Int) + 1 == 0) = false := by simp; omega
        clear HC k2
        go_wp2_with fail
        go_roundw
        case rel => exact ⟨d + 1, j + 1, by go_num, by go_num, by omega, by omega, hW, HC2⟩
        case measure => simp [intOf]; omega
      · by_cases k3 : kd = 3
        · have hd : p < j ∧ 0 < d := by
              rcases HC.out with ⟨_, _, h⟩ | h
              · exact absurd h k2
              · exact ⟨h.1, h.2.1⟩
          have t1 : (kd == 2) = false := by simp [k2]
          have t2 : (kd == 3) = true := by simp [k3]
          by_cases d1 : d = 1
          · have HE : Hid (J = j) := by
              rcases HC.out with h | ⟨h3, h4, h5⟩
              · omega
              · show _ = _; rw [h5]; simp [jump, k3, d1]
            have t3 : ((d : Int) - 1 == 0) = true := by simp; omega
            clear HC k2 k3 d1
            go_wp2_with fail
            go_ret
            exact ⟨by rw [HE.out]; rfl, hW.out⟩
          · have t3 : ((d : Int) - 1 == 0) = false := by simp; omega
            have HC2 : Hid ((j + 1 = p ∧ d - 1 = 0) ∨ (p < j + 1 ∧ 0 < d - 1 ∧ J = (j + 1) + jump (d - 1) (l.drop (j + 1)))) := by
              refine .inr ⟨by omega, by omega, ?_⟩
              rcases HC.out with h | ⟨h3, h4, h5⟩
              · omega
              · rw [h5]; simp [jump, k3, d1]; omega
            have hd2 : ((d - 1 : Nat) : Int) = (d : Int) - 1 := by omega
            have HD := Lib.hid hd2
            have hd3 : d - 1 ≤ j + 1 := by omega
            clear HC k2 k3 d1 hd2
            go_wp2_with fail
            go_roundw
            case rel => exact ⟨d - 1, j + 1, by rw [HD.out], by go_num, by omega, hd3, hW, HC2⟩
            case measure => simp [intOf]; omega
        · have hd : p < j ∧ 0 < d := by
              rcases HC.out with ⟨_, _, h⟩ | h
              · exact absurd h k2
              · exact ⟨h.1, h.2.1⟩
          have t1 : (kd == 2) = false := by simp [k2]
          have t2 : (kd == 3) = false := by simp [k3]
          have t3 : ((d : Int) == 0) = false := by simp; omega
          have t4 : (d == 0) = false := by simp; omega
          have HC2 : Hid ((j + 1 = p ∧ d = 0) ∨ (p < j + 1 ∧ 0 < d ∧ J = (j + 1) + jump d (l.drop (j + 1)))) := by
            refine .inr ⟨by omega, by omega, ?_⟩
            rcases HC.out with h | ⟨h3, h4, h5⟩
            · omega
            · rw [h5]; simp [jump, k2, k3]; omega
          clear HC k2 k3
          go_wp2_with fail
          go_roundw
          case rel => exact ⟨d, j + 1, rfl, by go_num, by omega, by omega, hW, HC2⟩
          case measure => simp [intOf]; omega
    · have hjn : j = n := by omega
      have HE : Hid (J = n) := by
        rcases hC.out with h | ⟨h3, h4, h5⟩
        · omega
        · show _ = _
          rw [h5, List.drop_eq_nil_of_le (by rw [HLN.out]; omega)]; simp [jump]; omega
      have l1 : decide ((j : Int) < (n : Int)) = false := by simp; omega
      have l2 : decide (j < n) = false := by simp; omega
      clear hjn hC
      go_wp2_with fail
      go_ret
      exact ⟨by rw [HE.out]; rfl, hW.out⟩
/-- what a look at all signs answers -/
def ckR (n : Nat) : Ck → Int × Bool
  | .bad r => ((n : Int) - (r.length : Int), false)
  | .fin d it => (-1, decide (0 < n) && (it || decide (0 < d)))

set_option maxRecDepth 100000 in
set_option maxHeartbeats 8000000 in
theorem check_any (A : Option Addr) (n c : Nat) (l : List Sg) (w : World) (hr : GRow w A n l) (hn : n ≤ 1000) (hk : Kinds l) :
    Calls Tryd.prog 24 #[.slice A n c] w fun e w' => e = .returned (.tuple #[.int .i64 (ckR n (chk 0 true true l)).1, .bool (ckR n (chk 0 true true l)).2]) ∧ w' = w := by
  obtain ⟨F, hF⟩ : ∃ F, F = chk 0 true true l := ⟨_, rfl⟩
  rw [← hF]
  have HF := hide hF
  have hln : l.length = n := hr.1
  have HLN := hide hln
  have HR := hide hr
  have HK := hide hk
  clear hr hF hk hln
  go_enter Tryd.func24, Tryd.ntmps24
  go_wp2_with fail
  go_loopw [4, 5, 6, 7] (fun dv itv ctv iv wr => ∃ (d : Nat) (it ct : Bool) (j : Nat), dv = .int .i64 d ∧ itv = .bool it ∧ ctv = .bool ct ∧ iv = .int .i64 j ∧ j ≤ n ∧ d ≤ j ∧ Hid (wr = w) ∧ Hid (F = chk d it ct (l.drop j))) (fun _ _ _ iv _ => n - (intOf iv).toNat)
  case atStart => exact ⟨0, true, true, 0, rfl, rfl, rfl, rfl, by omega, by omega, Lib.hid rfl, Lib.hid HF.out⟩
  case round =>
    obtain ⟨d, it, ct, j, rfl, rfl, rfl, rfl, hj, hdj, hW, hC⟩ := hrel
    by_cases hlt : j < n
    · have hjl : j < l.length := by rw [HLN.out]; exact hlt
      obtain ⟨b, off, hA, hb, hcell⟩ := HR.out.2 (by omega)
      have a0 := (hcell j hjl).1
      rw [← hW.out] at a0
      subst hA
      have l1 : decide ((j : Int) < (n : Int)) = true := by simp; omega
      have l2 : decide (j < n) = true := by simp; omega
      have hkd := HK.out l[j] (List.getElem_mem hjl)
      obtain ⟨x, hx⟩ : ∃ x, x = l[j] := ⟨_, rfl⟩
      rw [← hx] at a0 hkd
      have HDR : Hid (l.drop j = x :: l.drop (j + 1)) := by show _ = _; rw [hx]; exact drop_at l j hjl
      have HC : Hid (F = chk d it ct (x :: l.drop (j + 1))) := by show _ = _; rw [hC.out, HDR.out]
      obtain ⟨kd, at_, lo, hi, nm⟩ := x
      dsimp only at a0 hkd
      have hkd2 : kd = 1 ∨ kd = 2 ∨ kd = 3 ∨ kd = 4 ∨ kd = 5 := by omega
      clear hx hcell hC hkd
      rcases hkd2 with rfl | rfl | rfl | rfl | rfl
      · cases it <;> cases ct
        all_goals first
          |
            (have HB : Hid (F = .bad (l.drop j)) := by show _ = _; rw [HC.out, HDR.out]; simp [chk, wrong]
             have HE : Hid (ckR n F = ((j : Int), false)) := by show _ = _; rw [HB.out, ckR, List.length_drop, HLN.out]; congr 1; omega
             clear HB HC HDR
             go_wp2_with fail
             go_ret2
             exact ⟨by rw [HE.out]; rfl, hW.out⟩)
          |
            (have HG : Hid (F = chk (d) false false (l.drop (j + 1))) := by show _ = _; rw [HC.out]; simp [chk, wrong]
             clear HC HDR
             go_wp2_with fail
             go_roundw
             case rel => exact ⟨d, false, false, j + 1, by go_num, rfl, rfl, by go_num, by omega, by omega, hW, HG⟩
             case measure => simp [intOf]; omega)
      · cases it <;> cases ct
        all_goals first
          |
            (have HB : Hid (F = .bad (l.drop j)) := by show _ = _; rw [HC.out, HDR.out]; simp [chk, wrong]
             have HE : Hid (ckR n F = ((j : Int), false)) := by show _ = _; rw [HB.out, ckR, List.length_drop, HLN.out]; congr 1; omega
             clear HB HC HDR
             go_wp2_with fail
             go_ret2
             exact ⟨by rw [HE.out]; rfl, hW.out⟩)
          |
            (have HG : Hid (F = chk (d + 1) true true (l.drop (j + 1))) := by show _ = _; rw [HC.out]; simp [chk, wrong]
             clear HC HDR
             go_wp2_with fail
             go_roundw
             case rel => exact ⟨d + 1, true, true, j + 1, by go_num, rfl, rfl, by go_num, by omega, by omega, hW, HG⟩
             case measure => simp [intOf]; omega)
      · by_cases d0 : d = 0
        · subst d0
          cases it <;> cases ct
          all_goals
            (have HB : Hid (F = .bad (l.drop j)) := by show _ = _; rw [HC.out, HDR.out]; simp [chk, wrong]
             have HE : Hid (ckR n F = ((j : Int), false)) := by show _ = _; rw [HB.out, ckR, List.length_drop, HLN.out]; congr 1; omega
             clear HB HC HDR
             go_wp2_with fail
             go_ret2
             exact ⟨by rw [HE.out]; rfl, hW.out⟩)
        · have t3 : ((d : Int) == 0) = false := by simp; omega
          have t4 : (d == 0) = false := by simp; omega
          have hd2 : ((d - 1 : Nat) : Int) = (d : Int) - 1 := by omega
          have HD := Lib.hid hd2
          have HD0 := hide d0
          have hd3 : 0 < d := by omega
          clear d0 hd2
          cases it <;> cases ct
          all_goals first
            |
              (have HB : Hid (F = .bad (l.drop j)) := by show _ = _; rw [HC.out, HDR.out]; simp [chk, wrong]
               have HE : Hid (ckR n F = ((j : Int), false)) := by show _ = _; rw [HB.out, ckR, List.length_drop, HLN.out]; congr 1; omega
               clear HB HC HDR
               go_wp2_with fail
               go_ret2
               exact ⟨by rw [HE.out]; rfl, hW.out⟩)
            |
              (have HG : Hid (F = chk (d - 1) false false (l.drop (j + 1))) := by show _ = _; rw [HC.out]; simp [chk, wrong, HD0.out]
               clear HC HDR
               go_wp2_with fail
               go_roundw
               case rel => exact ⟨d - 1, false, false, j + 1, by rw [HD.out], rfl, rfl, by go_num, by omega, by omega, hW, HG⟩
               case measure => simp [intOf]; omega)
      · cases it <;> cases ct
        all_goals first
          |
            (have HB : Hid (F = .bad (l.drop j)) := by show _ = _; rw [HC.out, HDR.out]; simp [chk, wrong]
             have HE : Hid (ckR n F = ((j : Int), false)) := by show _ = _; rw [HB.out, ckR, List.length_drop, HLN.out]; congr 1; omega
             clear HB HC HDR
             go_wp2_with fail
             go_ret2
             exact ⟨by rw [HE.out]; rfl, hW.out⟩)
          |
            (have HG : Hid (F = chk (d) true true (l.drop (j + 1))) := by show _ = _; rw [HC.out]; simp [chk, wrong]
             clear HC HDR
             go_wp2_with fail
             go_roundw
             case rel => exact ⟨d, true, true, j + 1, by go_num, rfl, rfl, by go_num, by omega, by omega, hW, HG⟩
             case measure => simp [intOf]; omega)
      · cases it <;> cases ct
        all_goals first
          |
            (have HB : Hid (F = .bad (l.drop j)) := by show _ = _; rw [HC.out, HDR.out]; simp [chk, wrong]
             have HE : Hid (ckR n F = ((j : Int), false)) := by show _ = _; rw [HB.out, ckR, List.length_drop, HLN.out]; congr 1; omega
             clear HB HC HDR
             go_wp2_with fail
             go_ret2
             exact ⟨by rw [HE.out]; rfl, hW.out⟩)
          |
            (have HG : Hid (F = chk (d) false true (l.drop (j + 1))) := by show _ = _; rw [HC.out]; simp [chk, wrong]
             clear HC HDR
             go_wp2_with fail
             go_roundw
             case rel => exact ⟨d, false, true, j + 1, by go_num, rfl, rfl, by go_num, by omega, by omega, hW, HG⟩
             case measure => simp [intOf]; omega)
    · have hjn : j = n := by omega
      have l1 : decide ((j : Int) < (n : Int)) = false := by simp; omega
      have l2 : decide (j < n) = false := by simp; omega
      have HE : Hid (F = .fin d it) := by
        show _ = _
        rw [hC.out, List.drop_eq_nil_of_le (by rw [HLN.out]; omega)]; rfl
      clear hC
      by_cases n0 : n = 0
      · have HV : Hid (ckR n F = (-1, false)) := by show _ = _; rw [HE.out, ckR, n0]; rfl
        have t1 : decide ((0 : Int) < (n : Int)) = false := by simp; omega
        have t2 : decide (0 < n) = false := by simp; omega
        clear n0 hjn
        go_wp2_with fail
        go_ret2
        exact ⟨by rw [HV.out]; rfl, hW.out⟩
      · have t1 : decide ((0 : Int) < (n : Int)) = true := by simp; omega
        have t2 : decide (0 < n) = true := by simp; omega
        have HV : Hid (ckR n F = (-1, it || decide (0 < d))) := by show _ = _; rw [HE.out, ckR, t2]; rfl
        clear n0 hjn
        cases it with
        | true =>
          go_wp2_with fail
          go_ret2
          exact ⟨by rw [HV.out]; rfl, hW.out⟩
        | false =>
          go_wp2_with fail
          go_ret2
          exact ⟨by rw [HV.out]; simp, hW.out⟩
end Go.Proofs.YtegkimcfmdckbabDoor.Ex
