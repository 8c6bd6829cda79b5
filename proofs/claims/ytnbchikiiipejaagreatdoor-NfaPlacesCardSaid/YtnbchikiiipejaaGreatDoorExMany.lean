/- Walks of the reference of expressions: shut, check. -/
import Derived.Test.YtnbchikiiipejaaGreatDoorNfRef
import Derived.Test.YtnbchikiiipejaaGreatDoorExPl
set_option linter.unusedVariables false
set_option maxRecDepth 100000
set_option maxHeartbeats 8000000
namespace Go.Proofs.YtnbchikiiipejaaGreatDoor.Ex
open Go.RowKit Mem Lx
theorem drop_at (l : List Sg) (j : Nat) (h : j < l.length) : l.drop j = l[j] :: l.drop (j + 1) := List.drop_eq_getElem_cons h
theorem shut_any (A : Option Addr) (n c : Nat) (l : List Sg) (w : World) (hr : GRow w A n l) (hn : n ≤ 1000) (p : Nat) (hp : p < l.length) (h2 : l[p].kind = 2) :
  Calls Tryz.prog 207 #[.slice A n c, .int .i64 p] w fun e w' => e = .returned (.int .i64 ((p + 1 + jump 1 (l.drop (p + 1)) : Nat) : Int)) ∧ w' = w := by
 obtain ⟨J, hJ⟩ : ∃ J, J = p + 1 + jump 1 (l.drop (p + 1)) := ⟨_, rfl⟩
 rw [← hJ]
 have HJ := hide hJ
 have hln : l.length = n := hr.1
 have HLN := hide hln
 have HR := hide hr
 have HP := hide h2
 have hp2 : p < n := by omega
 clear hr hJ h2
 go_enter Tryz.func207, Tryz.ntmps207
 go_wp2_with fail
 go_loopw [5, 6] (fun dv iv wr => ∃ d j : Nat, dv = .int .i64 d ∧ iv = .int .i64 j ∧ j ≤ n ∧ d ≤ j ∧ Hid (wr = w) ∧ Hid ((j = p ∧ d = 0) ∨ (p < j ∧ 0 < d ∧ J = j + jump d (l.drop j)))) (fun _ iv _ => n - (intOf iv).toNat)
 case atStart => exact ⟨0, p, rfl, rfl, by omega, by omega, Lib.hid rfl, Lib.hid (.inl ⟨rfl, rfl⟩)⟩
 case round =>
  obtain ⟨d, j, rfl, rfl, hj, hdj, hW, hC⟩ := hrel
  by_cases hlt : j < n
  ·have hjl : j < l.length := by rw [HLN.out]; exact hlt
   obtain ⟨b, off, hA, hb, hcell⟩ := HR.out.2 (by omega)
   have a0 := (hcell j hjl).1
   rw [← hW.out] at a0
   subst hA
   have l1 : decide ((j : Int) < (n : Int)) = true := by simp; omega
   have l2 : decide (j < n) = true := by simp; omega
   obtain ⟨x, hx⟩ : ∃ x, x = l[j] := ⟨_, rfl⟩
   rw [← hx] at a0
   have HC : Hid ((j = p ∧ d = 0 ∧ x.kind = 2) ∨ (p < j ∧ 0 < d ∧ J = j + jump d (x :: l.drop (j + 1)))) := by
    rcases hC.out with ⟨rfl, h⟩ | ⟨h3, h4, h5⟩
    ·exact .inl ⟨rfl, h, by rw [hx]; exact HP.out⟩
    ·exact .inr ⟨h3, h4, by rw [h5, drop_at l j hjl, hx]⟩
   obtain ⟨kd, at_, lo, hi, nm⟩ := x
   dsimp only at a0
   clear hx hcell hC
   by_cases k2 : kd = 2
   ·have HC2 : Hid ((j + 1 = p ∧ d + 1 = 0) ∨ (p < j + 1 ∧ 0 < d + 1 ∧ J = (j + 1) + jump (d + 1) (l.drop (j + 1)))) := by
     refine .inr ⟨by rcases HC.out with h | h <;> omega, by omega, ?_⟩
     rcases HC.out with ⟨rfl, rfl, _⟩ | ⟨h3, h4, h5⟩
     ·exact HJ.out
     ·rw [h5]; simp [jump, k2]; omega
    have t1 : (kd == 2) = true := by simp [k2]
    have t2 : (kd == 3) = false := by simp [k2]
    have t3 : ((d : Int) + 1 == 0) = false := by simp; omega
    clear HC k2
    go_wp2_with fail
    go_roundw
    case rel => exact ⟨d + 1, j + 1, by go_num, by go_num, by omega, by omega, hW, HC2⟩
    case measure => simp [intOf]; omega
   ·by_cases k3 : kd = 3
    ·have hd : p < j ∧ 0 < d := by
       rcases HC.out with ⟨_, _, h⟩ | h
       ·exact absurd h k2
       ·exact ⟨h.1, h.2.1⟩
     have t1 : (kd == 2) = false := by simp [k2]
     have t2 : (kd == 3) = true := by simp [k3]
     by_cases d1 : d = 1
     ·have HE : Hid (J = j) := by
       rcases HC.out with h | ⟨h3, h4, h5⟩
       ·omega
       ·show _ = _; rw [h5]; simp [jump, k3, d1]
      have t3 : ((d : Int) - 1 == 0) = true := by simp; omega
      clear HC k2 k3 d1
      go_wp2_with fail
      go_ret
      exact ⟨by rw [HE.out]; rfl, hW.out⟩
     ·have t3 : ((d : Int) - 1 == 0) = false := by simp; omega
      have HC2 : Hid ((j + 1 = p ∧ d - 1 = 0) ∨ (p < j + 1 ∧ 0 < d - 1 ∧ J = (j + 1) + jump (d - 1) (l.drop (j + 1)))) := by
       refine .inr ⟨by omega, by omega, ?_⟩
       rcases HC.out with h | ⟨h3, h4, h5⟩
       ·omega
       ·rw [h5]; simp [jump, k3, d1]; omega
      have hd2 : ((d - 1 : Nat) : Int) = (d : Int) - 1 := by omega
      have HD := Lib.hid hd2
      have hd3 : d - 1 ≤ j + 1 := by omega
      clear HC k2 k3 d1 hd2
      go_wp2_with fail
      go_roundw
      case rel => exact ⟨d - 1, j + 1, by rw [HD.out], by go_num, by omega, hd3, hW, HC2⟩
      case measure => simp [intOf]; omega
    ·have hd : p < j ∧ 0 < d := by
       rcases HC.out with ⟨_, _, h⟩ | h
       ·exact absurd h k2
       ·exact ⟨h.1, h.2.1⟩
     have t1 : (kd == 2) = false := by simp [k2]
     have t2 : (kd == 3) = false := by simp [k3]
     have t3 : ((d : Int) == 0) = false := by simp; omega
     have t4 : (d == 0) = false := by simp; omega
     have HC2 : Hid ((j + 1 = p ∧ d = 0) ∨ (p < j + 1 ∧ 0 < d ∧ J = (j + 1) + jump d (l.drop (j + 1)))) := by
      refine .inr ⟨by omega, by omega, ?_⟩
      rcases HC.out with h | ⟨h3, h4, h5⟩
      ·omega
      ·rw [h5]; simp [jump, k2, k3]; omega
     clear HC k2 k3
     go_wp2_with fail
     go_roundw
     case rel => exact ⟨d, j + 1, rfl, by go_num, by omega, by omega, hW, HC2⟩
     case measure => simp [intOf]; omega
  ·have hjn : j = n := by omega
   have HE : Hid (J = n) := by
    rcases hC.out with h | ⟨h3, h4, h5⟩
    ·omega
    ·show _ = _
     rw [h5, List.drop_eq_nil_of_le (by rw [HLN.out]; omega)]; simp [jump]; omega
   have l1 : decide ((j : Int) < (n : Int)) = false := by simp; omega
   have l2 : decide (j < n) = false := by simp; omega
   clear hjn hC
   go_wp2_with fail
   go_ret
   exact ⟨by rw [HE.out]; rfl, hW.out⟩
def ckR (n : Nat) : Ck → Int × Bool
 | .bad r => ((n : Int) - (r.length : Int), false)
 | .fin d it => (-1, decide (0 < n) && (it || decide (0 < d)))
theorem check_any (A : Option Addr) (n c : Nat) (l : List Sg) (w : World) (hr : GRow w A n l) (hn : n ≤ 1000) (hk : Kinds l) :
  Calls Tryz.prog 112 #[.slice A n c] w fun e w' => e = .returned (.tuple #[.int .i64 (ckR n (chk 0 true true l)).1, .bool (ckR n (chk 0 true true l)).2]) ∧ w' = w := by
 obtain ⟨F, hF⟩ : ∃ F, F = chk 0 true true l := ⟨_, rfl⟩
 rw [← hF]
 have HF := hide hF
 have hln : l.length = n := hr.1
 have HLN := hide hln
 have HR := hide hr
 have HK := hide hk
 clear hr hF hk hln
 go_enter Tryz.func112, Tryz.ntmps112
 go_wp2_with fail
 go_loopw [4, 5, 6, 7] (fun dv itv ctv iv wr => ∃ (d : Nat) (it ct : Bool) (j : Nat), dv = .int .i64 d ∧ itv = .bool it ∧ ctv = .bool ct ∧ iv = .int .i64 j ∧ j ≤ n ∧ d ≤ j ∧ Hid (wr = w) ∧ Hid (F = chk d it ct (l.drop j))) (fun _ _ _ iv _ => n - (intOf iv).toNat)
 case atStart => exact ⟨0, true, true, 0, rfl, rfl, rfl, rfl, by omega, by omega, Lib.hid rfl, Lib.hid HF.out⟩
 case round =>
  obtain ⟨d, it, ct, j, rfl, rfl, rfl, rfl, hj, hdj, hW, hC⟩ := hrel
  by_cases hlt : j < n
  ·have hjl : j < l.length := by rw [HLN.out]; exact hlt
   obtain ⟨b, off, hA, hb, hcell⟩ := HR.out.2 (by omega)
   have a0 := (hcell j hjl).1
   rw [← hW.out] at a0
   subst hA
   have l1 : decide ((j : Int) < (n : Int)) = true := by simp; omega
   have l2 : decide (j < n) = true := by simp; omega
   have hkd := HK.out l[j] (List.getElem_mem hjl)
   obtain ⟨x, hx⟩ : ∃ x, x = l[j] := ⟨_, rfl⟩
   rw [← hx] at a0 hkd
   have HDR : Hid (l.drop j = x :: l.drop (j + 1)) := by show _ = _; rw [hx]; exact drop_at l j hjl
   have HC : Hid (F = chk d it ct (x :: l.drop (j + 1))) := by show _ = _; rw [hC.out, HDR.out]
   obtain ⟨kd, at_, lo, hi, nm⟩ := x
   dsimp only at a0 hkd
   have hkd2 : kd = 1 ∨ kd = 2 ∨ kd = 3 ∨ kd = 4 ∨ kd = 5 := by omega
   clear hx hcell hC hkd
   rcases hkd2 with rfl | rfl | rfl | rfl | rfl
   ·cases it <;> cases ct
    all_goals first
     |
      (have HB : Hid (F = .bad (l.drop j)) := by show _ = _; rw [HC.out, HDR.out]; simp [chk, wrong]
       have HE : Hid (ckR n F = ((j : Int), false)) := by show _ = _; rw [HB.out, ckR, List.length_drop, HLN.out]; congr 1; omega
       clear HB HC HDR
       go_wp2_with fail
       go_ret2
       exact ⟨by rw [HE.out]; rfl, hW.out⟩)
     |
      (have HG : Hid (F = chk (d) false false (l.drop (j + 1))) := by show _ = _; rw [HC.out]; simp [chk, wrong]
       clear HC HDR
       go_wp2_with fail
       go_roundw
       case rel => exact ⟨d, false, false, j + 1, by go_num, rfl, rfl, by go_num, by omega, by omega, hW, HG⟩
       case measure => simp [intOf]; omega)
   ·cases it <;> cases ct
    all_goals first
     |
      (have HB : Hid (F = .bad (l.drop j)) := by show _ = _; rw [HC.out, HDR.out]; simp [chk, wrong]
       have HE : Hid (ckR n F = ((j : Int), false)) := by show _ = _; rw [HB.out, ckR, List.length_drop, HLN.out]; congr 1; omega
       clear HB HC HDR
       go_wp2_with fail
       go_ret2
       exact ⟨by rw [HE.out]; rfl, hW.out⟩)
     |
      (have HG : Hid (F = chk (d + 1) true true (l.drop (j + 1))) := by show _ = _; rw [HC.out]; simp [chk, wrong]
       clear HC HDR
       go_wp2_with fail
       go_roundw
       case rel => exact ⟨d + 1, true, true, j + 1, by go_num, rfl, rfl, by go_num, by omega, by omega, hW, HG⟩
       case measure => simp [intOf]; omega)
   ·by_cases d0 : d = 0
    ·subst d0
     cases it <;> cases ct
     all_goals
      (have HB : Hid (F = .bad (l.drop j)) := by show _ = _; rw [HC.out, HDR.out]; simp [chk, wrong]
       have HE : Hid (ckR n F = ((j : Int), false)) := by show _ = _; rw [HB.out, ckR, List.length_drop, HLN.out]; congr 1; omega
       clear HB HC HDR
       go_wp2_with fail
       go_ret2
       exact ⟨by rw [HE.out]; rfl, hW.out⟩)
    ·have t3 : ((d : Int) == 0) = false := by simp; omega
     have t4 : (d == 0) = false := by simp; omega
     have hd2 : ((d - 1 : Nat) : Int) = (d : Int) - 1 := by omega
     have HD := Lib.hid hd2
     have HD0 := hide d0
     have hd3 : 0 < d := by omega
     clear d0 hd2
     cases it <;> cases ct
     all_goals first
      |
       (have HB : Hid (F = .bad (l.drop j)) := by show _ = _; rw [HC.out, HDR.out]; simp [chk, wrong]
        have HE : Hid (ckR n F = ((j : Int), false)) := by show _ = _; rw [HB.out, ckR, List.length_drop, HLN.out]; congr 1; omega
        clear HB HC HDR
        go_wp2_with fail
        go_ret2
        exact ⟨by rw [HE.out]; rfl, hW.out⟩)
      |
       (have HG : Hid (F = chk (d - 1) false false (l.drop (j + 1))) := by show _ = _; rw [HC.out]; simp [chk, wrong, HD0.out]
        clear HC HDR
        go_wp2_with fail
        go_roundw
        case rel => exact ⟨d - 1, false, false, j + 1, by rw [HD.out], rfl, rfl, by go_num, by omega, by omega, hW, HG⟩
        case measure => simp [intOf]; omega)
   ·cases it <;> cases ct
    all_goals first
     |
      (have HB : Hid (F = .bad (l.drop j)) := by show _ = _; rw [HC.out, HDR.out]; simp [chk, wrong]
       have HE : Hid (ckR n F = ((j : Int), false)) := by show _ = _; rw [HB.out, ckR, List.length_drop, HLN.out]; congr 1; omega
       clear HB HC HDR
       go_wp2_with fail
       go_ret2
       exact ⟨by rw [HE.out]; rfl, hW.out⟩)
     |
      (have HG : Hid (F = chk (d) true true (l.drop (j + 1))) := by show _ = _; rw [HC.out]; simp [chk, wrong]
       clear HC HDR
       go_wp2_with fail
       go_roundw
       case rel => exact ⟨d, true, true, j + 1, by go_num, rfl, rfl, by go_num, by omega, by omega, hW, HG⟩
       case measure => simp [intOf]; omega)
   ·cases it <;> cases ct
    all_goals first
     |
      (have HB : Hid (F = .bad (l.drop j)) := by show _ = _; rw [HC.out, HDR.out]; simp [chk, wrong]
       have HE : Hid (ckR n F = ((j : Int), false)) := by show _ = _; rw [HB.out, ckR, List.length_drop, HLN.out]; congr 1; omega
       clear HB HC HDR
       go_wp2_with fail
       go_ret2
       exact ⟨by rw [HE.out]; rfl, hW.out⟩)
     |
      (have HG : Hid (F = chk (d) false true (l.drop (j + 1))) := by show _ = _; rw [HC.out]; simp [chk, wrong]
       clear HC HDR
       go_wp2_with fail
       go_roundw
       case rel => exact ⟨d, false, true, j + 1, by go_num, rfl, rfl, by go_num, by omega, by omega, hW, HG⟩
       case measure => simp [intOf]; omega)
  ·have hjn : j = n := by omega
   have l1 : decide ((j : Int) < (n : Int)) = false := by simp; omega
   have l2 : decide (j < n) = false := by simp; omega
   have HE : Hid (F = .fin d it) := by
    show _ = _
    rw [hC.out, List.drop_eq_nil_of_le (by rw [HLN.out]; omega)]; rfl
   clear hC
   by_cases n0 : n = 0
   ·have HV : Hid (ckR n F = (-1, false)) := by show _ = _; rw [HE.out, ckR, n0]; rfl
    have t1 : decide ((0 : Int) < (n : Int)) = false := by simp; omega
    have t2 : decide (0 < n) = false := by simp; omega
    clear n0 hjn
    go_wp2_with fail
    go_ret2
    exact ⟨by rw [HV.out]; rfl, hW.out⟩
   ·have t1 : decide ((0 : Int) < (n : Int)) = true := by simp; omega
    have t2 : decide (0 < n) = true := by simp; omega
    have HV : Hid (ckR n F = (-1, it || decide (0 < d))) := by show _ = _; rw [HE.out, ckR, t2]; rfl
    clear n0 hjn
    cases it with
    | true =>
     go_wp2_with fail
     go_ret2
     exact ⟨by rw [HV.out]; rfl, hW.out⟩
    | false =>
     go_wp2_with fail
     go_ret2
     exact ⟨by rw [HV.out]; simp, hW.out⟩
end Go.Proofs.YtnbchikiiipejaaGreatDoor.Ex
namespace Go.Proofs.YtnbchikiiipejaaGreatDoor.Ex
open Lx (Sg)
inductive Ok : List Sg → Prop where
 | nil : Ok []
 | one {x : Sg} {s : List Sg} : x.kind ≠ 2 → Ok s → Ok (x :: s)
 | br {x y : Sg} {s t : List Sg} : x.kind = 2 → (∀ r, jump 1 (s ++ y :: r) = s.length) → Ok t → Ok (x :: (s ++ y :: t))
theorem Sn.ok {v : Lv} {s : List Sg} {e e' : List Pt} {k : Nat} (h : Sn v s e k e') : ∀ t, Ok t → Ok (s ++ t) := by
 induction h with
 | name h1 => intro t ht; exact .one (by omega) ht
 | @shut x y s e e' k h2 hc h3 _ =>
  intro t ht
  have : x :: (s ++ [y]) ++ t = x :: (s ++ y :: t) := by simp
  rw [this]
  exact .br h2 (fun r => hc.shuts h3) ht
 | item _ ih => exact ih
 | times _ h5 ih =>
  intro t ht
  rw [List.append_assoc]
  exact ih _ (.one (by omega) ht)
 | rowMore _ _ ih1 ih2 =>
  intro t ht
  rw [List.append_assoc]
  exact ih1 _ (ih2 _ ht)
 | rowEnd _ ih => exact ih
 | chMore _ h4 _ ih1 ih2 =>
  intro t ht
  rw [List.append_assoc]
  exact ih1 _ (.one (by omega) (ih2 _ ht))
 | chEnd _ ih => exact ih
theorem Sn.ok' {v : Lv} {s : List Sg} {e e' : List Pt} {k : Nat} (h : Sn v s e k e') : Ok s := by
 have := h.ok [] .nil
 rwa [List.append_nil] at this
theorem cuts_plain {way i : Nat} {b : Bool} {x : Sg} {l : List Sg} (h2 : x.kind ≠ 2) :
  Cuts way i b (x :: l) = (if way = 2 ∧ b = false ∧ x.kind = 1 then [i] else if way = 3 ∧ x.kind = 4 then [i + 1] else []) ++ Cuts way (i + 1) false l := by
 rw [cuts_cons]; simp [h2]
theorem cuts_br {way i : Nat} {b : Bool} {x y : Sg} {s t : List Sg} (h2 : x.kind = 2) (hj : ∀ r, jump 1 (s ++ y :: r) = s.length) :
  Cuts way i b (x :: (s ++ y :: t)) = (if way = 2 ∧ b = false then [i] else []) ++ Cuts way (i + 1 + s.length + 1) false t := by
 rw [cuts_cons, hj t]
 have e2 : (s ++ y :: t).drop (s.length + 1) = t := by simp [List.drop_append]
 rw [e2]; simp [h2]
end Go.Proofs.YtnbchikiiipejaaGreatDoor.Ex
namespace Go.Proofs.YtnbchikiiipejaaGreatDoor.Ex
open Go.RowKit Mem Lx
theorem cuts_any (A : Option Addr) (n c : Nat) (l : List Sg) (w : World) (hr : GRow w A n l) (hn : n ≤ 1000) (p q way : Nat) (s0 r : List Sg) (hl : l.drop p = s0 ++ r) (hq : p + s0.length = q) (hqn : q ≤ n) (hok : Ok s0) (hw : way = 2 ∨ way = 3) :
  Calls Tryz.prog 160 #[.slice A n c, .int .i64 p, .int .i64 q, .int .i64 way] w fun e w' => ∃ v, e = .returned v ∧ w'.ownsRow w.heap.size 3 1 v (p :: (Cuts way p true s0 ++ [q])).length ((pl (p :: (Cuts way p true s0 ++ [q]))).map (Value.int .i64)) ∧ Below w.heap.size w w' := by
 obtain ⟨i0, hi, hz, hs1, hs2⟩ := info_parts info_i64
 obtain ⟨C, hC⟩ : ∃ C, C = p :: Cuts way p true s0 := ⟨_, rfl⟩
 have hC2 : p :: (Cuts way p true s0 ++ [q]) = C ++ [q] := by rw [hC]; rfl
 rw [hC2]
 have HC := hide hC
 have HR := hide hr
 have HLN := hide hr.1
 have HOK := hide hok
 have HL := hide hl
 have HQ := hide hq
 have hp : p ≤ q := by omega
 clear hr hC hC2 hok hl hq
 go_enter Tryz.func160, Tryz.ntmps160
 go_wp2_with fail
 go_loopw [9, 10] (fun v iv wr => ∃ (j : Nat) (s : List Sg) (pre : List Nat), iv = .int .i64 j ∧ p ≤ j ∧ j ≤ q ∧ Hid (l.drop j = s ++ r) ∧ Hid (j + s.length = q) ∧ Hid (Ok s) ∧ pre.length ≤ j - p + 1 ∧ Hid (wr.ownsRow w.heap.size 3 1 v pre.length ((pl pre).map (Value.int .i64))) ∧ Hid (Below w.heap.size w wr) ∧ Hid (C = pre ++ Cuts way j (decide (j = p)) s)) (fun _ iv _ => q - (intOf iv).toNat)
 case atStart => exact ⟨p, s0, [p], rfl, by omega, by omega, HL, HQ, HOK, by simp, Lib.hid (own_one w p), Lib.hid ((Below.refl _ _).alloc (Nat.le_refl _) _), Lib.hid (by rw [HC.out]; simp)⟩
 case round =>
  obtain ⟨j, s, pre, rfl, hpj, hjq, hD, hS, hO, hpl, hV, hB, hX⟩ := hrel
  have hsz := hB.out.size
  by_cases hlt : j < q
  ·have hjl : j < l.length := by rw [HLN.out]; omega
   obtain ⟨b, off, hA, hb, hcell⟩ := (HR.out.below hB.out).2 (by omega)
   have a0 := (hcell j hjl).1
   subst hA
   have l1 : decide ((j : Int) < (q : Int)) = true := by simp; omega
   have l2 : decide (j < q) = true := by simp; omega
   have hdj := hD.out
   rw [drop_at l j hjl] at hdj
   have hso := hO.out
   have hsl := hS.out
   have hxx := hX.out
   clear hcell hO hS hX hD
   cases hso with
   | nil => simp at hsl; omega
   | @one x s' h2 hs' =>
    simp only [List.cons_append, List.cons.injEq] at hdj
    obtain ⟨hx, hd2⟩ := hdj
    rw [hx] at a0
    have hX := Lib.hid hxx
    have HD2 := Lib.hid hd2
    have HK2 := Lib.hid hs'
    have HS2 : Hid (j + 1 + s'.length = q) := by simp only [List.length_cons] at hsl; show _ = _; omega
    clear hd2 hs' hsl hxx hx
    obtain ⟨kd, at_, lo, hi', nm⟩ := x
    dsimp only at a0 h2
    have k2 : (kd == 2) = false := by simpa using h2
    by_cases hwc : way = 2
    ·by_cases h1 : kd = 1
     ·by_cases hpj2 : p < j
      ·have w2 : ((way : Int) == 2) = true := by simp; omega
       have w2' : (way == 2) = true := by simp; omega
       have w3 : ((way : Int) == 3) = false := by simp; omega
       have w3' : (way == 3) = false := by simp; omega
       have pj : decide ((p : Int) < (j : Int)) = true := by simp; omega
       have pj' : decide (p < j) = true := by simp; omega
       have k1 : (kd == 1) = true := by simp; omega
       have HX2 : Hid (C = (pre ++ [j]) ++ Cuts way (j + 1) (decide (j + 1 = p)) s') := by
        show _ = _; rw [hX.out, cuts_plain h2, show decide (j + 1 = p) = false from by simp; omega]; simp [hwc, h1, show ¬ j = p from by omega]
       have HROW := Lib.hid (row_one wr (j : Int) (WalkArith.wf_i64 (by omega)))
       have HO2 := Lib.hid (hV.out.alloc (.cells #[.int .i64 (j : Int)] 3))
       clear hX h2 hwc
       go_wp2_with (first | (at_builtin; (refine wpList_app rfl (.tmp 40) (.tmp 42) _ rfl .i64 w.heap.size 3 i0 8 Tryz.underlying39 hi hz hs1 hs2 (by omega) _ pre.length (pl pre) rfl HO2.out _ 1 1 [(j : Int)] rfl HROW.out (by omega) (by simp; omega) ?_); intro v' w2 hown' hg hat; have HV2 : Hid (w2.ownsRow w.heap.size 3 1 v' (pre ++ [j]).length ((pl (pre ++ [j])).map (Value.int .i64))) := (by show World.ownsRow _ _ _ _ _ _ _; simpa [pl] using hown'); have HB2 : Hid (Below w.heap.size w w2) := (hB.out.alloc hsz _).grown hg (by simp; omega) (fun g hg => (hV.out.lt g hg).1); clear hown' hg hat))
       go_roundw
       case rel => exact ⟨j + 1, s', pre ++ [j], by go_num, by omega, by omega, HD2, HS2, HK2, by simp; omega, HV2, HB2, HX2⟩
       case measure => simp [intOf]; omega
      ·have w2 : ((way : Int) == 2) = true := by simp; omega
       have w2' : (way == 2) = true := by simp; omega
       have w3 : ((way : Int) == 3) = false := by simp; omega
       have w3' : (way == 3) = false := by simp; omega
       have pj : decide ((p : Int) < (j : Int)) = false := by simp; omega
       have pj' : decide (p < j) = false := by simp; omega
       have k1 : (kd == 1) = true := by simp; omega
       have HX2 : Hid (C = (pre) ++ Cuts way (j + 1) (decide (j + 1 = p)) s') := by
        show _ = _; rw [hX.out, cuts_plain h2, show decide (j + 1 = p) = false from by simp; omega]; simp [hwc, h1, show j = p from by omega]
       clear hX h2 hwc
       go_wp2_with fail
       go_roundw
       case rel => exact ⟨j + 1, s', pre, by go_num, by omega, by omega, HD2, HS2, HK2, by omega, hV, hB, HX2⟩
       case measure => simp [intOf]; omega
     ·by_cases hpj2 : p < j
      ·have w2 : ((way : Int) == 2) = true := by simp; omega
       have w2' : (way == 2) = true := by simp; omega
       have w3 : ((way : Int) == 3) = false := by simp; omega
       have w3' : (way == 3) = false := by simp; omega
       have pj : decide ((p : Int) < (j : Int)) = true := by simp; omega
       have pj' : decide (p < j) = true := by simp; omega
       have k1 : (kd == 1) = false := by simp; omega
       have HX2 : Hid (C = (pre) ++ Cuts way (j + 1) (decide (j + 1 = p)) s') := by
        show _ = _; rw [hX.out, cuts_plain h2, show decide (j + 1 = p) = false from by simp; omega]; simp [hwc, h1]
       clear hX h2 hwc
       go_wp2_with fail
       go_roundw
       case rel => exact ⟨j + 1, s', pre, by go_num, by omega, by omega, HD2, HS2, HK2, by omega, hV, hB, HX2⟩
       case measure => simp [intOf]; omega
      ·have w2 : ((way : Int) == 2) = true := by simp; omega
       have w2' : (way == 2) = true := by simp; omega
       have w3 : ((way : Int) == 3) = false := by simp; omega
       have w3' : (way == 3) = false := by simp; omega
       have pj : decide ((p : Int) < (j : Int)) = false := by simp; omega
       have pj' : decide (p < j) = false := by simp; omega
       have k1 : (kd == 1) = false := by simp; omega
       have HX2 : Hid (C = (pre) ++ Cuts way (j + 1) (decide (j + 1 = p)) s') := by
        show _ = _; rw [hX.out, cuts_plain h2, show decide (j + 1 = p) = false from by simp; omega]; simp [hwc, h1]
       clear hX h2 hwc
       go_wp2_with fail
       go_roundw
       case rel => exact ⟨j + 1, s', pre, by go_num, by omega, by omega, HD2, HS2, HK2, by omega, hV, hB, HX2⟩
       case measure => simp [intOf]; omega
    ·by_cases h4 : kd = 4
     ·have w2 : ((way : Int) == 2) = false := by simp; omega
      have w2' : (way == 2) = false := by simp; omega
      have w3 : ((way : Int) == 3) = true := by simp; omega
      have w3' : (way == 3) = true := by simp; omega
      have k4 : (kd == 4) = true := by simp; omega
      have HX2 : Hid (C = (pre ++ [j + 1]) ++ Cuts way (j + 1) (decide (j + 1 = p)) s') := by
       show _ = _; rw [hX.out, cuts_plain h2, show decide (j + 1 = p) = false from by simp; omega]; simp [h4, show way = 3 from by omega]
      have HROW := Lib.hid (row_one wr ((j : Int) + 1) (WalkArith.wf_i64 (by omega)))
      have HO2 := Lib.hid (hV.out.alloc (.cells #[.int .i64 ((j : Int) + 1)] 3))
      clear hX h2 hwc
      go_wp2_with (first | (at_builtin; (refine wpList_app rfl (.tmp 50) (.tmp 53) _ rfl .i64 w.heap.size 3 i0 8 Tryz.underlying39 hi hz hs1 hs2 (by omega) _ pre.length (pl pre) rfl HO2.out _ 1 1 [((j : Int) + 1)] rfl HROW.out (by omega) (by simp; omega) ?_); intro v' w2 hown' hg hat; have HV2 : Hid (w2.ownsRow w.heap.size 3 1 v' (pre ++ [j + 1]).length ((pl (pre ++ [j + 1])).map (Value.int .i64))) := (by show World.ownsRow _ _ _ _ _ _ _; simpa [pl] using hown'); have HB2 : Hid (Below w.heap.size w w2) := (hB.out.alloc hsz _).grown hg (by simp; omega) (fun g hg => (hV.out.lt g hg).1); clear hown' hg hat))
      go_roundw
      case rel => exact ⟨j + 1, s', pre ++ [j + 1], by go_num, by omega, by omega, HD2, HS2, HK2, by simp; omega, HV2, HB2, HX2⟩
      case measure => simp [intOf]; omega
     ·have w2 : ((way : Int) == 2) = false := by simp; omega
      have w2' : (way == 2) = false := by simp; omega
      have w3 : ((way : Int) == 3) = true := by simp; omega
      have w3' : (way == 3) = true := by simp; omega
      have k4 : (kd == 4) = false := by simp; omega
      have HX2 : Hid (C = (pre) ++ Cuts way (j + 1) (decide (j + 1 = p)) s') := by
       show _ = _; rw [hX.out, cuts_plain h2, show decide (j + 1 = p) = false from by simp; omega]; simp [hwc, h4]
      clear hX h2 hwc
      go_wp2_with fail
      go_roundw
      case rel => exact ⟨j + 1, s', pre, by go_num, by omega, by omega, HD2, HS2, HK2, by omega, hV, hB, HX2⟩
      case measure => simp [intOf]; omega
   | @br x y s1 t h2 hbr ht =>
    simp only [List.cons_append, List.append_assoc, List.cons.injEq] at hdj
    obtain ⟨hx, hd2⟩ := hdj
    have HSH0 := hide (fun W (hW : Below w.heap.size w W) => shut_any (some ⟨b, off, none⟩) n c l W (HR.out.below hW) hn j hjl (by rw [hx]; exact h2))
    rw [hd2, hbr] at HSH0
    have HSH := HSH0
    clear HSH0
    rw [hx] at a0
    have hX := Lib.hid hxx
    have HD2 : Hid (l.drop (j + 1 + s1.length + 1) = t ++ r) := by
     show _ = _
     rw [show j + 1 + s1.length + 1 = (j + 1) + (s1.length + 1) from by omega, ← List.drop_drop, hd2]
     simp [List.drop_append]
    have HK2 := Lib.hid ht
    have HS2 : Hid (j + 1 + s1.length + 1 + t.length = q) := by simp only [List.length_cons, List.length_append] at hsl; show _ = _; omega
    have hjq3 : j + 1 + s1.length + 1 ≤ q := by have := HS2.out; omega
    clear hd2 ht hsl hxx hx
    obtain ⟨kd, at_, lo, hi', nm⟩ := x
    dsimp only at a0 h2
    have k1 : (kd == 1) = false := by simp; omega
    have k2 : (kd == 2) = true := by simpa using h2
    have k4 : (kd == 4) = false := by simp; omega
    by_cases hwc : way = 2
    ·by_cases hpj2 : p < j
     ·have w2 : ((way : Int) == 2) = true := by simp; omega
      have w2' : (way == 2) = true := by simp; omega
      have w3 : ((way : Int) == 3) = false := by simp; omega
      have w3' : (way == 3) = false := by simp; omega
      have pj : decide ((p : Int) < (j : Int)) = true := by simp; omega
      have pj' : decide (p < j) = true := by simp; omega
      have HX2 : Hid (C = (pre ++ [j]) ++ Cuts way (j + 1 + s1.length + 1) (decide (j + 1 + s1.length + 1 = p)) t) := by
       show _ = _; rw [hX.out, cuts_br h2 hbr, show decide (j + 1 + s1.length + 1 = p) = false from by simp; omega]; simp [hwc, show ¬ j = p from by omega]
      have HROW := Lib.hid (row_one wr (j : Int) (WalkArith.wf_i64 (by omega)))
      have HO2 := Lib.hid (hV.out.alloc (.cells #[.int .i64 (j : Int)] 3))
      clear hX h2 hbr hwc
      go_wp2_with (first | (at_builtin; (refine wpList_app rfl (.tmp 40) (.tmp 42) _ rfl .i64 w.heap.size 3 i0 8 Tryz.underlying39 hi hz hs1 hs2 (by omega) _ pre.length (pl pre) rfl HO2.out _ 1 1 [(j : Int)] rfl HROW.out (by omega) (by simp; omega) ?_); intro v' w2 hown' hg hat; have HV2 : Hid (w2.ownsRow w.heap.size 3 1 v' (pre ++ [j]).length ((pl (pre ++ [j])).map (Value.int .i64))) := (by show World.ownsRow _ _ _ _ _ _ _; simpa [pl] using hown'); have HB2 : Hid (Below w.heap.size w w2) := (hB.out.alloc hsz _).grown hg (by simp; omega) (fun g hg => (hV.out.lt g hg).1); clear hown' hg hat) | (go_at_call 207; (with_reducible refine (HSH.out _ HB2.out).mono ?_); rintro e w9 ⟨rfl, hw9⟩; replace hw9 := hw9.symm; subst hw9))
      go_roundw
      case rel => exact ⟨j + 1 + s1.length + 1, t, pre ++ [j], by simp [Int.natCast_add], by omega, by omega, HD2, HS2, HK2, by simp; omega, HV2, HB2, HX2⟩
      case measure => simp [intOf]; omega
     ·have w2 : ((way : Int) == 2) = true := by simp; omega
      have w2' : (way == 2) = true := by simp; omega
      have w3 : ((way : Int) == 3) = false := by simp; omega
      have w3' : (way == 3) = false := by simp; omega
      have pj : decide ((p : Int) < (j : Int)) = false := by simp; omega
      have pj' : decide (p < j) = false := by simp; omega
      have HX2 : Hid (C = (pre) ++ Cuts way (j + 1 + s1.length + 1) (decide (j + 1 + s1.length + 1 = p)) t) := by
       show _ = _; rw [hX.out, cuts_br h2 hbr, show decide (j + 1 + s1.length + 1 = p) = false from by simp; omega]; simp [hwc, show j = p from by omega]
      clear hX h2 hbr hwc
      go_wp2_with (first | (go_at_call 207; (with_reducible refine (HSH.out _ hB.out).mono ?_); rintro e w9 ⟨rfl, hw9⟩; replace hw9 := hw9.symm; subst hw9))
      go_roundw
      case rel => exact ⟨j + 1 + s1.length + 1, t, pre, by simp [Int.natCast_add], by omega, by omega, HD2, HS2, HK2, by omega, hV, hB, HX2⟩
      case measure => simp [intOf]; omega
    ·have w2 : ((way : Int) == 2) = false := by simp; omega
     have w2' : (way == 2) = false := by simp; omega
     have w3 : ((way : Int) == 3) = true := by simp; omega
     have w3' : (way == 3) = true := by simp; omega
     have HX2 : Hid (C = (pre) ++ Cuts way (j + 1 + s1.length + 1) (decide (j + 1 + s1.length + 1 = p)) t) := by
      show _ = _; rw [hX.out, cuts_br h2 hbr, show decide (j + 1 + s1.length + 1 = p) = false from by simp; omega]; simp [hwc]
     clear hX h2 hbr hwc
     go_wp2_with (first | (go_at_call 207; (with_reducible refine (HSH.out _ hB.out).mono ?_); rintro e w9 ⟨rfl, hw9⟩; replace hw9 := hw9.symm; subst hw9))
     go_roundw
     case rel => exact ⟨j + 1 + s1.length + 1, t, pre, by simp [Int.natCast_add], by omega, by omega, HD2, HS2, HK2, by omega, hV, hB, HX2⟩
     case measure => simp [intOf]; omega
  ·have hjq2 : j = q := by omega
   have l1 : decide ((j : Int) < (q : Int)) = false := by simp; omega
   have l2 : decide (j < q) = false := by simp; omega
   have hs0 : s = [] := List.eq_nil_of_length_eq_zero (by have := hS.out; omega)
   have HE : Hid (C = pre) := by show _ = _; rw [hX.out, hs0, cuts_nil, List.append_nil]
   have HROW := Lib.hid (row_one wr (q : Int) (WalkArith.wf_i64 (by omega)))
   have HO2 := Lib.hid (hV.out.alloc (.cells #[.int .i64 (q : Int)] 3))
   clear hs0 hjq2 hlt hX
   go_wp2_with (at_builtin; (refine wpList_app rfl (.tmp 60) (.tmp 62) _ rfl .i64 w.heap.size 3 i0 8 Tryz.underlying39 hi hz hs1 hs2 (by omega) _ pre.length (pl pre) rfl HO2.out _ 1 1 [(q : Int)] rfl HROW.out (by omega) (by simp; omega) ?_); intro v' w2 hown' hg hat)
   have HW2 : Hid (Below w.heap.size w w2) := (hB.out.alloc hsz _).grown hg (by simp; omega) (fun g hg => (hV.out.lt g hg).1)
   go_ret
   refine ⟨_, rfl, ?_, HW2.out⟩
   rw [HE.out]
   simpa [pl] using hown'
end Go.Proofs.YtnbchikiiipejaaGreatDoor.Ex
namespace Go.Proofs.YtnbchikiiipejaaGreatDoor.Ex
open Lx (Sg)
def Pc (way : Nat) (s : List Sg) (e : List Pt) (k : Nat) (e' : List Pt) : Prop := (way = 2 ∧ Sn .item s e k e') ∨ (way = 3 ∧ Sn (.row []) s e k e')
inductive Many : Nat → List Nat → List Sg → List Pt → List Pt → Prop where
 | last {way k : Nat} {ks : List Nat} {s : List Sg} {e e' : List Pt} : Pc way s e k e' → ks ≠ [] → Many way ks s e (e' ++ [⟨way, 0, 0, [], ks ++ [k]⟩])
 | row {k : Nat} {ks : List Nat} {s t : List Sg} {e e' e'' : List Pt} : Pc 2 s e k e' → Many 2 (ks ++ [k]) t e' e'' → Many 2 ks (s ++ t) e e''
 | choice {k : Nat} {ks : List Nat} {x : Sg} {s t : List Sg} {e e' e'' : List Pt} : Pc 3 s e k e' → x.kind = 4 → Many 3 (ks ++ [k]) t e' e'' → Many 3 ks (s ++ x :: t) e e''
theorem whole_more {kd : Int} {e : List Pt} {ks : List Nat} {k : Nat} (h : ks ≠ []) : whole kd e (ks ++ [k]) = (e.length, e ++ [⟨kd, 0, 0, [], ks ++ [k]⟩]) := by
 cases ks with
 | nil => exact absurd rfl h
 | cons a ks => cases ks <;> rfl
theorem Sn.many2 {v : Lv} {s : List Sg} {e e' : List Pt} {k : Nat} (h : Sn v s e k e') : ∀ ks, v = .row ks → ks ≠ [] → Many 2 ks s e e' := by
 induction h with
 | name _ => intro ks h; cases h
 | shut _ _ _ _ => intro ks h; cases h
 | item _ _ => intro ks h; cases h
 | times _ _ _ => intro ks h; cases h
 | rowMore h1 _ _ ih2 =>
  intro ks h _
  cases h
  exact .row (.inl ⟨rfl, h1⟩) (ih2 _ rfl (by simp))
 | rowEnd h1 _ =>
  intro ks h hne
  cases h
  rw [whole_more hne]
  exact .last (.inl ⟨rfl, h1⟩) hne
 | chMore _ _ _ _ _ => intro ks h; cases h
 | chEnd _ _ => intro ks h; cases h
theorem Sn.many3 {v : Lv} {s : List Sg} {e e' : List Pt} {k : Nat} (h : Sn v s e k e') : ∀ ks, v = .choice ks → ks ≠ [] → Many 3 ks s e e' := by
 induction h with
 | name _ => intro ks h; cases h
 | shut _ _ _ _ => intro ks h; cases h
 | item _ _ => intro ks h; cases h
 | times _ _ _ => intro ks h; cases h
 | rowMore _ _ _ _ => intro ks h; cases h
 | rowEnd _ _ => intro ks h; cases h
 | chMore h1 h4 _ _ ih2 =>
  intro ks h _
  cases h
  exact .choice (.inr ⟨rfl, h1⟩) h4 (ih2 _ rfl (by simp))
 | chEnd h1 _ =>
  intro ks h hne
  cases h
  rw [whole_more hne]
  exact .last (.inr ⟨rfl, h1⟩) hne
inductive Shape : List Sg → List Pt → List Pt → Prop where
 | many {way : Nat} {s : List Sg} {e e' : List Pt} : (way = 2 ∨ way = 3) → Many way [] s e e' → (way = 2 → Sn (.row []) s e (e'.length - 1) e') → Shape s e e'
 | times {x : Sg} {k : Nat} {s : List Sg} {e e' : List Pt} : Sn .bare s e k e' → x.kind = 5 → Shape (s ++ [x]) e (e' ++ [⟨4, x.low, x.high, [], [k]⟩])
 | shut {x y : Sg} {k : Nat} {s : List Sg} {e e' : List Pt} : x.kind = 2 → Sn (.choice []) s e k e' → y.kind = 3 → Shape (x :: (s ++ [y])) e e'
 | name {x : Sg} {e : List Pt} : x.kind = 1 → Shape [x] e (e ++ [⟨1, 0, 0, x.name, []⟩])
theorem shape_bare {s : List Sg} {e e' : List Pt} {k : Nat} (h : Sn .bare s e k e') : Shape s e e' := by
 cases h with
 | name h1 => exact .name h1
 | shut h2 h h3 => exact .shut h2 h h3
theorem shape_item {s : List Sg} {e e' : List Pt} {k : Nat} (h : Sn .item s e k e') : Shape s e e' := by
 cases h with
 | item h => exact shape_bare h
 | times h h5 => exact .times h h5
theorem shape_row {s : List Sg} {e e' : List Pt} {k : Nat} (h : Sn (.row []) s e k e') : Shape s e e' := by
 have h0 := h
 have hk := h.last
 cases h with
 | rowMore h1 h2 =>
  refine .many (.inl rfl) (.row (.inl ⟨rfl, h1⟩) (h2.many2 _ rfl (by simp))) (fun _ => ?_)
  rw [show e'.length - 1 = k from by omega]
  exact h0
 | rowEnd h1 => exact shape_item h1
theorem shape_choice {s : List Sg} {e e' : List Pt} {k : Nat} (h : Sn (.choice []) s e k e') : Shape s e e' := by
 cases h with
 | chMore h1 h4 h2 => exact .many (.inr rfl) (.choice (.inr ⟨rfl, h1⟩) h4 (h2.many3 _ rfl (by simp))) (fun h => by omega)
 | chEnd h1 => exact shape_row h1
theorem Pc.shape {way : Nat} {s : List Sg} {e e' : List Pt} {k : Nat} (h : Pc way s e k e') : Shape s e e' := by
 rcases h with ⟨_, h⟩ | ⟨_, h⟩
 ·exact shape_item h
 ·exact shape_row h
theorem Pc.last {way : Nat} {s : List Sg} {e e' : List Pt} {k : Nat} (h : Pc way s e k e') : e'.length = k + 1 := by
 rcases h with ⟨_, h⟩ | ⟨_, h⟩ <;> exact h.last
theorem Pc.ne {way : Nat} {s : List Sg} {e e' : List Pt} {k : Nat} (h : Pc way s e k e') : 0 < s.length := by
 rcases h with ⟨_, h⟩ | ⟨_, h⟩ <;> exact h.ne
theorem Pc.ok {way : Nat} {s : List Sg} {e e' : List Pt} {k : Nat} (h : Pc way s e k e') : ∀ t, Ok t → Ok (s ++ t) := by
 rcases h with ⟨_, h⟩ | ⟨_, h⟩ <;> exact h.ok
theorem Many.ok {way : Nat} {ks : List Nat} {s : List Sg} {e e' : List Pt} (h : Many way ks s e e') : Ok s := by
 induction h with
 | last h _ => have := h.ok [] .nil; rwa [List.append_nil] at this
 | row h _ ih => exact h.ok _ ih
 | choice h h4 _ ih => exact h.ok _ (.one (by omega) ih)
theorem Many.ne {way : Nat} {ks : List Nat} {s : List Sg} {e e' : List Pt} (h : Many way ks s e e') : 0 < s.length := by
 induction h with
 | last h _ => exact h.ne
 | row h _ ih => simp; omega
 | choice h _ _ ih => simp only [List.length_append, List.length_cons]; omega
theorem Many.cuts2 {way : Nat} {ks : List Nat} {s : List Sg} {e e' : List Pt} (h : Many way ks s e e') : way = 2 → ∀ i, Cuts 2 i false s = i :: Cuts 2 i true s := by
 have one : ∀ {s t : List Sg} {e : List Pt} {k : Nat} {e' : List Pt}, Pc 2 s e k e' → ∀ i, Cuts 2 i false (s ++ t) = i :: Cuts 2 i true (s ++ t) := by
  intro s t e k e' h i
  rcases h with ⟨_, h⟩ | ⟨h, _⟩
  ·rw [h.cuts_item 2 i false, h.cuts_item 2 i true]; simp
  ·omega
 intro hw i
 cases h with
 | last h _ =>
  subst hw
  have := one (t := []) h i
  rwa [List.append_nil] at this
 | row h _ => exact one h i
 | choice _ _ _ => omega
theorem Many.step {way : Nat} {ks : List Nat} {t : List Sg} {e e' : List Pt} (h : Many way ks t e e') (f : Nat) :
  (∃ k e1, Pc way t e k e1 ∧ Cuts way f true t = [] ∧ ks ≠ [] ∧ e' = e1 ++ [⟨way, 0, 0, [], ks ++ [k]⟩]) ∨
  (∃ k e1 s t' d, Pc way s e k e1 ∧ Many way (ks ++ [k]) t' e1 e' ∧ d = (if way = 3 then 1 else 0) ∧ Cuts way f true t = (f + s.length + d) :: Cuts way (f + s.length + d) true t' ∧ t.length = s.length + d + t'.length ∧ (∃ m, t = s ++ m ∧ m.length = d + t'.length ∧ m.drop d = t')) := by
 cases h with
 | @last _ k _ _ _ e1 h hne =>
  refine .inl ⟨k, e1, h, ?_, hne, rfl⟩
  rcases h with ⟨rfl, h⟩ | ⟨rfl, h⟩
  ·exact h.cuts_one 2 f
  ·exact cuts3_one h f
 | @row k _ s t' _ e1 _ h h2 =>
  refine .inr ⟨k, e1, s, t', 0, h, h2, by simp, ?_, by simp, t', rfl, by simp, rfl⟩
  rcases h with ⟨_, h⟩ | ⟨h, _⟩
  ·rw [h.cuts_item 2 f true, h2.cuts2 rfl]; simp
  ·omega
 | @choice k _ x s t' _ e1 _ h h4 h2 =>
  refine .inr ⟨k, e1, s, t', 1, h, h2, by simp, ?_, by simp; omega, x :: t', rfl, by simp; omega, rfl⟩
  rcases h with ⟨h, _⟩ | ⟨_, h⟩
  ·omega
  ·exact cuts3_more h h4 f
def At (way : Nat) (l r : List Sg) (C : List Nat) (q S : Nat) (e' : List Pt) (i : Nat) (ks : List Nat) (e1 : List Pt) : Prop :=
 (∃ f t, C.drop i = f :: (Cuts way f true t ++ [q]) ∧ l.drop f = t ++ r ∧ f + t.length = q ∧ Many way ks t e1 e' ∧ t.length ≤ S ∧ (ks ≠ [] → t.length < S)) ∨ (i + 1 = C.length ∧ e' = e1 ++ [⟨way, 0, 0, [], ks⟩])
theorem drop_get {C : List Nat} {i a : Nat} {m : List Nat} (h : C.drop i = a :: m) : i < C.length ∧ C[i]? = some a ∧ C.drop (i + 1) = m := by
 have hl : i < C.length := by
  rcases Nat.lt_or_ge i C.length with h1 | h1
  ·exact h1
  ·rw [List.drop_eq_nil_of_le h1] at h; cases h
 rw [List.drop_eq_getElem_cons hl] at h
 simp only [List.cons.injEq] at h
 exact ⟨hl, by rw [List.getElem?_eq_getElem hl, h.1], h.2⟩
theorem drop_len {C : List Nat} {i : Nat} {m : List Nat} (h : C.drop i = m) (hi : i ≤ C.length) : C.length = i + m.length := by
 have := congrArg List.length h
 simp at this; omega
theorem At.step {way : Nat} {l r : List Sg} {C : List Nat} {q S : Nat} {e' : List Pt} {i : Nat} {ks : List Nat} {e1 : List Pt} (h : At way l r C q S e' i ks e1) (hi : i + 1 < C.length) (hw : way = 2 ∨ way = 3) :
  ∃ f c1 k e2 s r', C[i]? = some f ∧ C[i + 1]? = some c1 ∧ Pc way s e1 k e2 ∧ l.drop f = s ++ r' ∧ f + s.length = (if way = 3 ∧ i + 2 < C.length then c1 - 1 else c1) ∧ s.length < S ∧ c1 ≤ q ∧ 0 < c1 ∧ f + s.length ≤ q ∧ At way l r C q S e' (i + 1) (ks ++ [k]) e2 := by
 rcases h with ⟨f, t, h1, h2, h3, h4, h5, h6⟩ | ⟨h1, _⟩
 ·obtain ⟨_, g1, g2⟩ := drop_get h1
  have hlen := drop_len h1 (by omega)
  rcases h4.step f with ⟨k, e2, p1, p2, p3, p4⟩ | ⟨k, e2, s, t', d, p1, p2, p3, p4, p5, m, p6, p7, p8⟩
  ·rw [p2] at g2 hlen
   simp only [List.nil_append, List.length_cons, List.length_nil] at g2 hlen
   obtain ⟨_, g3, g4⟩ := drop_get g2
   refine ⟨f, q, k, e2, t, r, g1, g3, p1, h2, ?_, h6 p3, Nat.le_refl _, by have := p1.ne; omega, by omega, .inr ⟨by omega, p4⟩⟩
   rw [if_neg (by omega)]; exact h3
  ·rw [p4] at g2 hlen
   simp only [List.cons_append] at g2
   obtain ⟨_, g3, g4⟩ := drop_get g2
   have ht' := p2.ne
   have hs := p1.ne
   refine ⟨f, f + s.length + d, k, e2, s, m ++ r, g1, g3, p1, by rw [h2, p6, List.append_assoc], ?_, by omega, by omega, by omega, by omega, .inl ⟨f + s.length + d, t', g2, ?_, by omega, p2, by omega, fun _ => by omega⟩⟩
   ·rcases hw with rfl | rfl
    ·rw [if_neg (by omega)]; simp at p3; omega
    ·rw [if_pos ⟨rfl, by rw [hlen]; simp⟩]; simp at p3; omega
   ·have e1 : l.drop (f + s.length + d) = (l.drop f).drop (s.length + d) := by rw [List.drop_drop, Nat.add_assoc]
    rw [e1, h2, p6, List.append_assoc, ← List.drop_drop, List.drop_left, List.drop_append_of_le_length (by omega), p8]
 ·omega
theorem At.fin {way : Nat} {l r : List Sg} {C : List Nat} {q S : Nat} {e' : List Pt} {i : Nat} {ks : List Nat} {e1 : List Pt} (h : At way l r C q S e' i ks e1) (hi : ¬ i + 1 < C.length) : e' = e1 ++ [⟨way, 0, 0, [], ks⟩] := by
 rcases h with ⟨f, t, h1, h2, h3, h4, h5, h6⟩ | ⟨_, h1⟩
 ·have hlen := drop_len h1 (by
   have := (drop_get h1).1; omega)
  simp at hlen; omega
 ·exact h1
end Go.Proofs.YtnbchikiiipejaaGreatDoor.Ex
