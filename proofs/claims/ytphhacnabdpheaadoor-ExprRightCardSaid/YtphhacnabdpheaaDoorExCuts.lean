/- Walks of the reference of expressions: shut, check. Expressions: signs whose brackets fit, whatever stands behind them. Plain lists. Walks of the reference of expressions: cuts. -/
import Derived.Test.YtphhacnabdpheaaDoorExCut
import Derived.Test.YtphhacnabdpheaaDoorLxMem
namespace Go.Proofs.YtphhacnabdpheaaDoor.Ex
open Go.RowKit Mem Lx
set_option linter.unusedVariables false

theorem drop_at (l : List Sg) (j : Nat) (h : j < l.length) : l.drop j = l[j] :: l.drop (j + 1) := List.drop_eq_getElem_cons h

set_option maxRecDepth 100000 in
set_option maxHeartbeats 2000000 in
theorem shut_any (A : Option Addr) (n c : Nat) (l : List Sg) (w : World) (hr : GRow w A n l) (hn : n ≤ 1000) (p : Nat) (hp : p < l.length) (h2 : l[p].kind = 2) :
    Calls Tryd.prog 91 #[.slice A n c, .int .i64 p] w fun e w' => e = .returned (.int .i64 ((p + 1 + jump 1 (l.drop (p + 1)) : Nat) : Int)) ∧ w' = w := by
  obtain ⟨J, hJ⟩ : ∃ J, J = p + 1 + jump 1 (l.drop (p + 1)) := ⟨_, rfl⟩
  rw [← hJ]
  have HJ := hide hJ
  have hln : l.length = n := hr.1
  have HLN := hide hln
  have HR := hide hr
  have HP := hide h2
  have hp2 : p < n := by omega
  clear hr hJ h2
  go_enter Tryd.func91, Tryd.ntmps91
  go_wp2_with fail
  go_loopw [5, 6] (fun dv iv wr => ∃ d j : Nat, dv = .int .i64 d ∧ iv = .int .i64 j ∧ j ≤ n ∧ d ≤ j ∧ Hid (wr = w) ∧ Hid ((j = p ∧ d = 0) ∨ (p < j ∧ 0 < d ∧ J = j + jump d (l.drop j)))) (fun _ iv _ => n - (intOf iv).toNat)
  case atStart => exact ⟨0, p, rfl, rfl, by omega, by omega, Lib.hid rfl, Lib.hid (.inl ⟨rfl, rfl⟩)⟩
  case round =>
    obtain ⟨d, j, rfl, rfl, hj, hdj, hW, hC⟩ := hrel
    by_cases hlt : j < n
    · have hjl : j < l.length := by rw [HLN.out]; exact hlt
      obtain ⟨b, off, hA, hb, hcell⟩ := HR.out.2 (by omega)
      have a0 := (hcell j hjl).1
      rw [← hW.out] at a0
      subst hA
      have l1 : decide ((j : Int) < (n : Int)) = true := by simp; omega
      have l2 : decide (j < n) = true := by simp; omega
      obtain ⟨x, hx⟩ : ∃ x, x = l[j] := ⟨_, rfl⟩
      rw [← hx] at a0
      have HC : Hid ((j = p ∧ d = 0 ∧ x.kind = 2) ∨ (p < j ∧ 0 < d ∧ J = j + jump d (x :: l.drop (j + 1)))) := by
        rcases hC.out with ⟨rfl, h⟩ | ⟨h3, h4, h5⟩
        · exact .inl ⟨rfl, h, by rw [hx]; exact HP.out⟩
        · exact .inr ⟨h3, h4, by rw [h5, drop_at l j hjl, hx]⟩
      obtain ⟨kd, at_, lo, hi, nm⟩ := x
      dsimp only at a0
      clear hx hcell hC
      by_cases k2 : kd = 2
      · have HC2 : Hid ((j + 1 = p ∧ d + 1 = 0) ∨ (p < j + 1 ∧ 0 < d + 1 ∧ J = (j + 1) + jump (d + 1) (l.drop (j + 1)))) := by
          refine .inr ⟨by rcases HC.out with h | h <;> omega, by omega, ?_⟩
          rcases HC.out with ⟨rfl, rfl, _⟩ | ⟨h3, h4, h5⟩
          · exact HJ.out
          · rw [h5]; simp [jump, k2]; omega
        have t1 : (kd == 2) = true := by simp [k2]
        have t2 : (kd == 3) = false := by simp [k2]
        have t3 : ((d : Int) + 1 == 0) = false := by simp; omega
        clear HC k2
        go_wp2_with fail
        go_roundw
        case rel => exact ⟨d + 1, j + 1, by go_num, by go_num, by omega, by omega, hW, HC2⟩
        case measure => simp [intOf]; omega
      · by_cases k3 : kd = 3
        · have hd : p < j ∧ 0 < d := by
              rcases HC.out with ⟨_, _, h⟩ | h
              · exact absurd h k2
              · exact ⟨h.1, h.2.1⟩
          have t1 : (kd == 2) = false := by simp [k2]
          have t2 : (kd == 3) = true := by simp [k3]
          by_cases d1 : d = 1
          · have HE : Hid (J = j) := by
              rcases HC.out with h | ⟨h3, h4, h5⟩
              · omega
              · show _ = _; rw [h5]; simp [jump, k3, d1]
            have t3 : ((d : Int) - 1 == 0) = true := by simp; omega
            clear HC k2 k3 d1
            go_wp2_with fail
            go_ret
            exact ⟨by rw [HE.out]; rfl, hW.out⟩
          · have t3 : ((d : Int) - 1 == 0) = false := by simp; omega
            have HC2 : Hid ((j + 1 = p ∧ d - 1 = 0) ∨ (p < j + 1 ∧ 0 < d - 1 ∧ J = (j + 1) + jump (d - 1) (l.drop (j + 1)))) := by
              refine .inr ⟨by omega, by omega, ?_⟩
              rcases HC.out with h | ⟨h3, h4, h5⟩
              · omega
              · rw [h5]; simp [jump, k3, d1]; omega
            have hd2 : ((d - 1 : Nat) : Int) = (d : Int) - 1 := by omega
            have HD := Lib.hid hd2
            have hd3 : d - 1 ≤ j + 1 := by omega
            clear HC k2 k3 d1 hd2
            go_wp2_with fail
            go_roundw
            case rel => exact ⟨d - 1, j + 1, by rw [HD.out], by go_num, by omega, hd3, hW, HC2⟩
            case measure => simp [intOf]; omega
        · have hd : p < j ∧ 0 < d := by
              rcases HC.out with ⟨_, _, h⟩ | h
              · exact absurd h k2
              · exact ⟨h.1, h.2.1⟩
          have t1 : (kd == 2) = false := by simp [k2]
          have t2 : (kd == 3) = false := by simp [k3]
          have t3 : ((d : Int) == 0) = false := by simp; omega
          have t4 : (d == 0) = false := by simp; omega
          have HC2 : Hid ((j + 1 = p ∧ d = 0) ∨ (p < j + 1 ∧ 0 < d ∧ J = (j + 1) + jump d (l.drop (j + 1)))) := by
            refine .inr ⟨by omega, by omega, ?_⟩
            rcases HC.out with h | ⟨h3, h4, h5⟩
            · omega
            · rw [h5]; simp [jump, k2, k3]; omega
          clear HC k2 k3
          go_wp2_with fail
          go_roundw
          case rel => exact ⟨d, j + 1, rfl, by go_num, by omega, by omega, hW, HC2⟩
          case measure => simp [intOf]; omega
    · have hjn : j = n := by omega
      have HE : Hid (J = n) := by
        rcases hC.out with h | ⟨h3, h4, h5⟩
        · omega
        · show _ = _
          rw [h5, List.drop_eq_nil_of_le (by rw [HLN.out]; omega)]; simp [jump]; omega
      have l1 : decide ((j : Int) < (n : Int)) = false := by simp; omega
      have l2 : decide (j < n) = false := by simp; omega
      clear hjn hC
      go_wp2_with fail
      go_ret
      exact ⟨by rw [HE.out]; rfl, hW.out⟩
/-- what a look at all signs answers -/
def ckR (n : Nat) : Ck → Int × Bool
  | .bad r => ((n : Int) - (r.length : Int), false)
  | .fin d it => (-1, decide (0 < n) && (it || decide (0 < d)))

set_option maxRecDepth 100000 in
set_option maxHeartbeats 8000000 in
theorem check_any (A : Option Addr) (n c : Nat) (l : List Sg) (w : World) (hr : GRow w A n l) (hn : n ≤ 1000) (hk : Kinds l) :
    Calls Tryd.prog 30 #[.slice A n c] w fun e w' => e = .returned (.tuple #[.int .i64 (ckR n (chk 0 true true l)).1, .bool (ckR n (chk 0 true true l)).2]) ∧ w' = w := by
  obtain ⟨F, hF⟩ : ∃ F, F = chk 0 true true l := ⟨_, rfl⟩
  rw [← hF]
  have HF := hide hF
  have hln : l.length = n := hr.1
  have HLN := hide hln
  have HR := hide hr
  have HK := hide hk
  clear hr hF hk hln
  go_enter Tryd.func30, Tryd.ntmps30
  go_wp2_with fail
  go_loopw [4, 5, 6, 7] (fun dv itv ctv iv wr => ∃ (d : Nat) (it ct : Bool) (j : Nat), dv = .int .i64 d ∧ itv = .bool it ∧ ctv = .bool ct ∧ iv = .int .i64 j ∧ j ≤ n ∧ d ≤ j ∧ Hid (wr = w) ∧ Hid (F = chk d it ct (l.drop j))) (fun _ _ _ iv _ => n - (intOf iv).toNat)
  case atStart => exact ⟨0, true, true, 0, rfl, rfl, rfl, rfl, by omega, by omega, Lib.hid rfl, Lib.hid HF.out⟩
  case round =>
    obtain ⟨d, it, ct, j, rfl, rfl, rfl, rfl, hj, hdj, hW, hC⟩ := hrel
    by_cases hlt : j < n
    · have hjl : j < l.length := by rw [HLN.out]; exact hlt
      obtain ⟨b, off, hA, hb, hcell⟩ := HR.out.2 (by omega)
      have a0 := (hcell j hjl).1
      rw [← hW.out] at a0
      subst hA
      have l1 : decide ((j : Int) < (n : Int)) = true := by simp; omega
      have l2 : decide (j < n) = true := by simp; omega
      have hkd := HK.out l[j] (List.getElem_mem hjl)
      obtain ⟨x, hx⟩ : ∃ x, x = l[j] := ⟨_, rfl⟩
      rw [← hx] at a0 hkd
      have HDR : Hid (l.drop j = x :: l.drop (j + 1)) := by show _ = _; rw [hx]; exact drop_at l j hjl
      have HC : Hid (F = chk d it ct (x :: l.drop (j + 1))) := by show _ = _; rw [hC.out, HDR.out]
      obtain ⟨kd, at_, lo, hi, nm⟩ := x
      dsimp only at a0 hkd
      have hkd2 : kd = 1 ∨ kd = 2 ∨ kd = 3 ∨ kd = 4 ∨ kd = 5 := by omega
      clear hx hcell hC hkd
      rcases hkd2 with rfl | rfl | rfl | rfl | rfl
      · cases it <;> cases ct
        all_goals first
          |
            (have HB : Hid (F = .bad (l.drop j)) := by show _ = _; rw [HC.out, HDR.out]; simp [chk, wrong]
             have HE : Hid (ckR n F = ((j : Int), false)) := by show _ = _; rw [HB.out, ckR, List.length_drop, HLN.out]; congr 1; omega
             clear HB HC HDR
             go_wp2_with fail
             go_ret2
             exact ⟨by rw [HE.out]; rfl, hW.out⟩)
          |
            (have HG : Hid (F = chk (d) false false (l.drop (j + 1))) := by show _ = _; rw [HC.out]; simp [chk, wrong]
             clear HC HDR
             go_wp2_with fail
             go_roundw
             case rel => exact ⟨d, false, false, j + 1, by go_num, rfl, rfl, by go_num, by omega, by omega, hW, HG⟩
             case measure => simp [intOf]; omega)
      · cases it <;> cases ct
        all_goals first
          |
            (have HB : Hid (F = .bad (l.drop j)) := by show _ = _; rw [HC.out, HDR.out]; simp [chk, wrong]
             have HE : Hid (ckR n F = ((j : Int), false)) := by show _ = _; rw [HB.out, ckR, List.length_drop, HLN.out]; congr 1; omega
             clear HB HC HDR
             go_wp2_with fail
             go_ret2
             exact ⟨by rw [HE.out]; rfl, hW.out⟩)
          |
            (have HG : Hid (F = chk (d + 1) true true (l.drop (j + 1))) := by show _ = _; rw [HC.out]; simp [chk, wrong]
             clear HC HDR
             go_wp2_with fail
             go_roundw
             case rel => exact ⟨d + 1, true, true, j + 1, by go_num, rfl, rfl, by go_num, by omega, by omega, hW, HG⟩
             case measure => simp [intOf]; omega)
      · by_cases d0 : d = 0
        · subst d0
          cases it <;> cases ct
          all_goals
            (have HB : Hid (F = .bad (l.drop j)) := by show _ = _; rw [HC.out, HDR.out]; simp [chk, wrong]
             have HE : Hid (ckR n F = ((j : Int), false)) := by show _ = _; rw [HB.out, ckR, List.length_drop, HLN.out]; congr 1; omega
             clear HB HC HDR
             go_wp2_with fail
             go_ret2
             exact ⟨by rw [HE.out]; rfl, hW.out⟩)
        · have t3 : ((d : Int) == 0) = false := by simp; omega
          have t4 : (d == 0) = false := by simp; omega
          have hd2 : ((d - 1 : Nat) : Int) = (d : Int) - 1 := by omega
          have HD := Lib.hid hd2
          have HD0 := hide d0
          have hd3 : 0 < d := by omega
          clear d0 hd2
          cases it <;> cases ct
          all_goals first
            |
              (have HB : Hid (F = .bad (l.drop j)) := by show _ = _; rw [HC.out, HDR.out]; simp [chk, wrong]
               have HE : Hid (ckR n F = ((j : Int), false)) := by show _ = _; rw [HB.out, ckR, List.length_drop, HLN.out]; congr 1; omega
               clear HB HC HDR
               go_wp2_with fail
               go_ret2
               exact ⟨by rw [HE.out]; rfl, hW.out⟩)
            |
              (have HG : Hid (F = chk (d - 1) false false (l.drop (j + 1))) := by show _ = _; rw [HC.out]; simp [chk, wrong, HD0.out]
               clear HC HDR
               go_wp2_with fail
               go_roundw
               case rel => exact ⟨d - 1, false, false, j + 1, by rw [HD.out], rfl, rfl, by go_num, by omega, by omega, hW, HG⟩
               case measure => simp [intOf]; omega)
      · cases it <;> cases ct
        all_goals first
          |
            (have HB : Hid (F = .bad (l.drop j)) := by show _ = _; rw [HC.out, HDR.out]; simp [chk, wrong]
             have HE : Hid (ckR n F = ((j : Int), false)) := by show _ = _; rw [HB.out, ckR, List.length_drop, HLN.out]; congr 1; omega
             clear HB HC HDR
             go_wp2_with fail
             go_ret2
             exact ⟨by rw [HE.out]; rfl, hW.out⟩)
          |
            (have HG : Hid (F = chk (d) true true (l.drop (j + 1))) := by show _ = _; rw [HC.out]; simp [chk, wrong]
             clear HC HDR
             go_wp2_with fail
             go_roundw
             case rel => exact ⟨d, true, true, j + 1, by go_num, rfl, rfl, by go_num, by omega, by omega, hW, HG⟩
             case measure => simp [intOf]; omega)
      · cases it <;> cases ct
        all_goals first
          |
            (have HB : Hid (F = .bad (l.drop j)) := by show _ = _; rw [HC.out, HDR.out]; simp [chk, wrong]
             have HE : Hid (ckR n F = ((j : Int), false)) := by show _ = _; rw [HB.out, ckR, List.length_drop, HLN.out]; congr 1; omega
             clear HB HC HDR
             go_wp2_with fail
             go_ret2
             exact ⟨by rw [HE.out]; rfl, hW.out⟩)
          |
            (have HG : Hid (F = chk (d) false true (l.drop (j + 1))) := by show _ = _; rw [HC.out]; simp [chk, wrong]
             clear HC HDR
             go_wp2_with fail
             go_roundw
             case rel => exact ⟨d, false, true, j + 1, by go_num, rfl, rfl, by go_num, by omega, by omega, hW, HG⟩
             case measure => simp [intOf]; omega)
    · have hjn : j = n := by omega
      have l1 : decide ((j : Int) < (n : Int)) = false := by simp; omega
      have l2 : decide (j < n) = false := by simp; omega
      have HE : Hid (F = .fin d it) := by
        show _ = _
        rw [hC.out, List.drop_eq_nil_of_le (by rw [HLN.out]; omega)]; rfl
      clear hC
      by_cases n0 : n = 0
      · have HV : Hid (ckR n F = (-1, false)) := by show _ = _; rw [HE.out, ckR, n0]; rfl
        have t1 : decide ((0 : Int) < (n : Int)) = false := by simp; omega
        have t2 : decide (0 < n) = false := by simp; omega
        clear n0 hjn
        go_wp2_with fail
        go_ret2
        exact ⟨by rw [HV.out]; rfl, hW.out⟩
      · have t1 : decide ((0 : Int) < (n : Int)) = true := by simp; omega
        have t2 : decide (0 < n) = true := by simp; omega
        have HV : Hid (ckR n F = (-1, it || decide (0 < d))) := by show _ = _; rw [HE.out, ckR, t2]; rfl
        clear n0 hjn
        cases it with
        | true =>
          go_wp2_with fail
          go_ret2
          exact ⟨by rw [HV.out]; rfl, hW.out⟩
        | false =>
          go_wp2_with fail
          go_ret2
          exact ⟨by rw [HV.out]; simp, hW.out⟩
end Go.Proofs.YtphhacnabdpheaaDoor.Ex
namespace Go.Proofs.YtphhacnabdpheaaDoor.Ex
open Lx (Sg)

inductive Ok : List Sg → Prop where
  | nil : Ok []
  | one {x : Sg} {s : List Sg} : x.kind ≠ 2 → Ok s → Ok (x :: s)
  | br {x y : Sg} {s t : List Sg} : x.kind = 2 → (∀ r, jump 1 (s ++ y :: r) = s.length) → Ok t → Ok (x :: (s ++ y :: t))
theorem Sn.ok {v : Lv} {s : List Sg} {e e' : List Pt} {k : Nat} (h : Sn v s e k e') : ∀ t, Ok t → Ok (s ++ t) := by
  induction h with
  | name h1 => intro t ht; exact .one (by omega) ht
  | @shut x y s e e' k h2 hc h3 _ =>
    intro t ht
    have : x :: (s ++ [y]) ++ t = x :: (s ++ y :: t) := by simp
    rw [this]
    exact .br h2 (fun r => hc.shuts h3) ht
  | item _ ih => exact ih
  | times _ h5 ih =>
    intro t ht
    rw [List.append_assoc]
    exact ih _ (.one (by omega) ht)
  | rowMore _ _ ih1 ih2 =>
    intro t ht
    rw [List.append_assoc]
    exact ih1 _ (ih2 _ ht)
  | rowEnd _ ih => exact ih
  | chMore _ h4 _ ih1 ih2 =>
    intro t ht
    rw [List.append_assoc]
    exact ih1 _ (.one (by omega) (ih2 _ ht))
  | chEnd _ ih => exact ih
theorem Sn.ok' {v : Lv} {s : List Sg} {e e' : List Pt} {k : Nat} (h : Sn v s e k e') : Ok s := by
  have := h.ok [] .nil
  rwa [List.append_nil] at this

/-- one step of the cuts -/
theorem cuts_plain {way i : Nat} {b : Bool} {x : Sg} {l : List Sg} (h2 : x.kind ≠ 2) :
    Cuts way i b (x :: l) = (if way = 2 ∧ b = false ∧ x.kind = 1 then [i] else if way = 3 ∧ x.kind = 4 then [i + 1] else []) ++ Cuts way (i + 1) false l := by
  rw [cuts_cons]; simp [h2]
theorem cuts_br {way i : Nat} {b : Bool} {x y : Sg} {s t : List Sg} (h2 : x.kind = 2) (hj : ∀ r, jump 1 (s ++ y :: r) = s.length) :
    Cuts way i b (x :: (s ++ y :: t)) = (if way = 2 ∧ b = false then [i] else []) ++ Cuts way (i + 1 + s.length + 1) false t := by
  rw [cuts_cons, hj t]
  have e2 : (s ++ y :: t).drop (s.length + 1) = t := by simp [List.drop_append]
  rw [e2]; simp [h2]
end Go.Proofs.YtphhacnabdpheaaDoor.Ex
namespace Go.Proofs.YtphhacnabdpheaaDoor.Ex
open Go.RowKit Mem Lx
set_option linter.unusedVariables false

theorem info_i64 : (Tryd.prog.info? 3).map (fun i => (i.zero, i.size, i.bytes)) = some (some (.int .i64 0), 1, 8) := by kernel_rfl
theorem ex_alloc_new (w : World) (o : Obj) : (w.alloc o).heap[w.heap.size]? = some o := World.alloc_heap_new w o
/-- places as numbers -/
def pl (l : List Nat) : List Int := l.map fun (j : Nat) => (j : Int)
theorem pl_len (l : List Nat) : (pl l).length = l.length := by simp [pl]
/-- a slice of one number, new -/
theorem own_one (w : World) (z : Int) : (w.alloc (.cells #[.int .i64 z] 3)).ownsRow w.heap.size 3 1 (.slice (some ⟨w.heap.size, 0, none⟩) 1 1) 1 ([z].map (Value.int .i64)) :=
  ⟨rfl, .inr ⟨w.heap.size, 1, #[.int .i64 z], rfl, Nat.le_refl _, ex_alloc_new w _, Nat.le_refl _, by simp [maxLen], rfl, rfl⟩⟩
theorem row_one (w : World) (z : Int) (hz : (Lit.int .i64 z).wf = true) : Row .i64 (w.alloc (.cells #[.int .i64 z] 3)) (some ⟨w.heap.size, 0, none⟩) 1 [z] :=
  row_block (ex_alloc_new w _) [z] rfl 1 rfl (fun y hy => by simp at hy; subst hy; exact hz)

set_option maxRecDepth 100000 in
set_option maxHeartbeats 8000000 in
theorem cuts_any (A : Option Addr) (n c : Nat) (l : List Sg) (w : World) (hr : GRow w A n l) (hn : n ≤ 1000) (p q way : Nat) (s0 r : List Sg) (hl : l.drop p = s0 ++ r) (hq : p + s0.length = q) (hqn : q ≤ n) (hok : Ok s0) (hw : way = 2 ∨ way = 3) :
    Calls Tryd.prog 63 #[.slice A n c, .int .i64 p, .int .i64 q, .int .i64 way] w fun e w' => ∃ v, e = .returned v ∧ w'.ownsRow w.heap.size 3 1 v (p :: (Cuts way p true s0 ++ [q])).length ((pl (p :: (Cuts way p true s0 ++ [q]))).map (Value.int .i64)) ∧ Below w.heap.size w w' := by
  obtain ⟨i0, hi, hz, hs1, hs2⟩ := info_parts info_i64
  obtain ⟨C, hC⟩ : ∃ C, C = p :: Cuts way p true s0 := ⟨_, rfl⟩
  have hC2 : p :: (Cuts way p true s0 ++ [q]) = C ++ [q] := by rw [hC]; rfl
  rw [hC2]
  have HC := hide hC
  have HR := hide hr
  have HLN := hide hr.1
  have HOK := hide hok
  have HL := hide hl
  have HQ := hide hq
  have hp : p ≤ q := by omega
  clear hr hC hC2 hok hl hq
  go_enter Tryd.func63, Tryd.ntmps63
  go_wp2_with fail
  go_loopw [9, 10] (fun v iv wr => ∃ (j : Nat) (s : List Sg) (pre : List Nat), iv = .int .i64 j ∧ p ≤ j ∧ j ≤ q ∧ Hid (l.drop j = s ++ r) ∧ Hid (j + s.length = q) ∧ Hid (Ok s) ∧ pre.length ≤ j - p + 1 ∧ Hid (wr.ownsRow w.heap.size 3 1 v pre.length ((pl pre).map (Value.int .i64))) ∧ Hid (Below w.heap.size w wr) ∧ Hid (C = pre ++ Cuts way j (decide (j = p)) s)) (fun _ iv _ => q - (intOf iv).toNat)
  case atStart => exact ⟨p, s0, [p], rfl, by omega, by omega, HL, HQ, HOK, by simp, Lib.hid (own_one w p), Lib.hid ((Below.refl _ _).alloc (Nat.le_refl _) _), Lib.hid (by rw [HC.out]; simp)⟩
  case round =>
    obtain ⟨j, s, pre, rfl, hpj, hjq, hD, hS, hO, hpl, hV, hB, hX⟩ := hrel
    have hsz := hB.out.size
    by_cases hlt : j < q
    · have hjl : j < l.length := by rw [HLN.out]; omega
      obtain ⟨b, off, hA, hb, hcell⟩ := (HR.out.below hB.out).2 (by omega)
      have a0 := (hcell j hjl).1
      subst hA
      have l1 : decide ((j : Int) < (q : Int)) = true := by simp; omega
      have l2 : decide (j < q) = true := by simp; omega
      have hdj := hD.out
      rw [drop_at l j hjl] at hdj
      have hso := hO.out
      have hsl := hS.out
      have hxx := hX.out
      clear hcell hO hS hX hD
      cases hso with
      | nil => simp at hsl; omega
      | @one x s' h2 hs' =>
        simp only [List.cons_append, List.cons.injEq] at hdj
        obtain ⟨hx, hd2⟩ := hdj
        rw [hx] at a0
        have hX := Lib.hid hxx
        have HD2 := Lib.hid hd2
        have HK2 := Lib.hid hs'
        have HS2 : Hid (j + 1 + s'.length = q) := by simp only [List.length_cons] at hsl; show _ = _; omega
        clear hd2 hs' hsl hxx hx
        obtain ⟨kd, at_, lo, hi', nm⟩ := x
        dsimp only at a0 h2
        have k2 : (kd == 2) = false := by simpa using h2
        by_cases hwc : way = 2
        · by_cases h1 : kd = 1
          · by_cases hpj2 : p < j
            · have w2 : ((way : Int) == 2) = true := by simp; omega
              have w2' : (way == 2) = true := by simp; omega
              have w3 : ((way : Int) == 3) = false := by simp; omega
              have w3' : (way == 3) = false := by simp; omega
              have pj : decide ((p : Int) < (j : Int)) = true := by simp; omega
              have pj' : decide (p < j) = true := by simp; omega
              have k1 : (kd == 1) = true := by simp; omega
              have HX2 : Hid (C = (pre ++ [j]) ++ Cuts way (j + 1) (decide (j + 1 = p)) s') := by
                show _ = _; rw [hX.out, cuts_plain h2, show decide (j + 1 = p) = false from by simp; omega]; simp [hwc, h1, show ¬ j = p from by omega]
              have HROW := Lib.hid (row_one wr (j : Int) (WalkArith.wf_i64 (by omega)))
              have HO2 := Lib.hid (hV.out.alloc (.cells #[.int .i64 (j : Int)] 3))
              clear hX h2 hwc
              go_wp2_with (first | (at_builtin; (refine wpList_app rfl (.tmp 40) (.tmp 42) _ rfl .i64 w.heap.size 3 i0 8 Tryd.underlying38 hi hz hs1 hs2 (by omega) _ pre.length (pl pre) rfl HO2.out _ 1 1 [(j : Int)] rfl HROW.out (by omega) (by simp; omega) ?_); intro v' w2 hown' hg hat; have HV2 : Hid (w2.ownsRow w.heap.size 3 1 v' (pre ++ [j]).length ((pl (pre ++ [j])).map (Value.int .i64))) := (by show World.ownsRow _ _ _ _ _ _ _; simpa [pl] using hown'); have HB2 : Hid (Below w.heap.size w w2) := (hB.out.alloc hsz _).grown hg (by simp; omega) (fun g hg => (hV.out.lt g hg).1); clear hown' hg hat))
              go_roundw
              case rel => exact ⟨j + 1, s', pre ++ [j], by go_num, by omega, by omega, HD2, HS2, HK2, by simp; omega, HV2, HB2, HX2⟩
              case measure => simp [intOf]; omega
            · have w2 : ((way : Int) == 2) = true := by simp; omega
              have w2' : (way == 2) = true := by simp; omega
              have w3 : ((way : Int) == 3) = false := by simp; omega
              have w3' : (way == 3) = false := by simp; omega
              have pj : decide ((p : Int) < (j : Int)) = false := by simp; omega
              have pj' : decide (p < j) = false := by simp; omega
              have k1 : (kd == 1) = true := by simp; omega
              have HX2 : Hid (C = (pre) ++ Cuts way (j + 1) (decide (j + 1 = p)) s') := by
                show _ = _; rw [hX.out, cuts_plain h2, show decide (j + 1 = p) = false from by simp; omega]; simp [hwc, h1, show j = p from by omega]
              clear hX h2 hwc
              go_wp2_with fail
              go_roundw
              case rel => exact ⟨j + 1, s', pre, by go_num, by omega, by omega, HD2, HS2, HK2, by omega, hV, hB, HX2⟩
              case measure => simp [intOf]; omega
          · by_cases hpj2 : p < j
            · have w2 : ((way : Int) == 2) = true := by simp; omega
              have w2' : (way == 2) = true := by simp; omega
              have w3 : ((way : Int) == 3) = false := by simp; omega
              have w3' : (way == 3) = false := by simp; omega
              have pj : decide ((p : Int) < (j : Int)) = true := by simp; omega
              have pj' : decide (p < j) = true := by simp; omega
              have k1 : (kd == 1) = false := by simp; omega
              have HX2 : Hid (C = (pre) ++ Cuts way (j + 1) (decide (j + 1 = p)) s') := by
                show _ = _; rw [hX.out, cuts_plain h2, show decide (j + 1 = p) = false from by simp; omega]; simp [hwc, h1]
              clear hX h2 hwc
              go_wp2_with fail
              go_roundw
              case rel => exact ⟨j + 1, s', pre, by go_num, by omega, by omega, HD2, HS2, HK2, by omega, hV, hB, HX2⟩
              case measure => simp [intOf]; omega
            · have w2 : ((way : Int) == 2) = true := by simp; omega
              have w2' : (way == 2) = true := by simp; omega
              have w3 : ((way : Int) == 3) = false := by simp; omega
              have w3' : (way == 3) = false := by simp; omega
              have pj : decide ((p : Int) < (j : Int)) = false := by simp; omega
              have pj' : decide (p < j) = false := by simp; omega
              have k1 : (kd == 1) = false := by simp; omega
              have HX2 : Hid (C = (pre) ++ Cuts way (j + 1) (decide (j + 1 = p)) s') := by
                show _ = _; rw [hX.out, cuts_plain h2, show decide (j + 1 = p) = false from by simp; omega]; simp [hwc, h1]
              clear hX h2 hwc
              go_wp2_with fail
              go_roundw
              case rel => exact ⟨j + 1, s', pre, by go_num, by omega, by omega, HD2, HS2, HK2, by omega, hV, hB, HX2⟩
              case measure => simp [intOf]; omega
        · by_cases h4 : kd = 4
          · have w2 : ((way : Int) == 2) = false := by simp; omega
            have w2' : (way == 2) = false := by simp; omega
            have w3 : ((way : Int) == 3) = true := by simp; omega
            have w3' : (way == 3) = true := by simp; omega
            have k4 : (kd == 4) = true := by simp; omega
            have HX2 : Hid (C = (pre ++ [j + 1]) ++ Cuts way (j + 1) (decide (j + 1 = p)) s') := by
              show _ = _; rw [hX.out, cuts_plain h2, show decide (j + 1 = p) = false from by simp; omega]; simp [h4, show way = 3 from by omega]
            have HROW := Lib.hid (row_one wr ((j : Int) + 1) (WalkArith.wf_i64 (by omega)))
            have HO2 := Lib.hid (hV.out.alloc (.cells #[.int .i64 ((j : Int) + 1)] 3))
            clear hX h2 hwc
            go_wp2_with (first | (at_builtin; (refine wpList_app rfl (.tmp 50) (.tmp 53) _ rfl .i64 w.heap.size 3 i0 8 Tryd.underlying38 hi hz hs1 hs2 (by omega) _ pre.length (pl pre) rfl HO2.out _ 1 1 [((j : Int) + 1)] rfl HROW.out (by omega) (by simp; omega) ?_); intro v' w2 hown' hg hat; have HV2 : Hid (w2.ownsRow w.heap.size 3 1 v' (pre ++ [j + 1]).length ((pl (pre ++ [j + 1])).map (Value.int .i64))) := (by show World.ownsRow _ _ _ _ _ _ _; simpa [pl] using hown'); have HB2 : Hid (Below w.heap.size w w2) := (hB.out.alloc hsz _).grown hg (by simp; omega) (fun g hg => (hV.out.lt g hg).1); clear hown' hg hat))
            go_roundw
            case rel => exact ⟨j + 1, s', pre ++ [j + 1], by go_num, by omega, by omega, HD2, HS2, HK2, by simp; omega, HV2, HB2, HX2⟩
            case measure => simp [intOf]; omega
          · have w2 : ((way : Int) == 2) = false := by simp; omega
            have w2' : (way == 2) = false := by simp; omega
            have w3 : ((way : Int) == 3) = true := by simp; omega
            have w3' : (way == 3) = true := by simp; omega
            have k4 : (kd == 4) = false := by simp; omega
            have HX2 : Hid (C = (pre) ++ Cuts way (j + 1) (decide (j + 1 = p)) s') := by
              show _ = _; rw [hX.out, cuts_plain h2, show decide (j + 1 = p) = false from by simp; omega]; simp [hwc, h4]
            clear hX h2 hwc
            go_wp2_with fail
            go_roundw
            case rel => exact ⟨j + 1, s', pre, by go_num, by omega, by omega, HD2, HS2, HK2, by omega, hV, hB, HX2⟩
            case measure => simp [intOf]; omega
      | @br x y s1 t h2 hbr ht =>
        simp only [List.cons_append, List.append_assoc, List.cons.injEq] at hdj
        obtain ⟨hx, hd2⟩ := hdj
        have HSH0 := hide (fun W (hW : Below w.heap.size w W) => shut_any (some ⟨b, off, none⟩) n c l W (HR.out.below hW) hn j hjl (by rw [hx]; exact h2))
        rw [hd2, hbr] at HSH0
        have HSH := HSH0
        clear HSH0
        rw [hx] at a0
        have hX := Lib.hid hxx
        have HD2 : Hid (l.drop (j + 1 + s1.length + 1) = t ++ r) := by
          show _ = _
          rw [show j + 1 + s1.length + 1 = (j + 1) + (s1.length + 1) from by omega, ← List.drop_drop, hd2]
          simp [List.drop_append]
        have HK2 := Lib.hid ht
        have HS2 : Hid (j + 1 + s1.length + 1 + t.length = q) := by simp only [List.length_cons, List.length_append] at hsl; show _ = _; omega
        have hjq3 : j + 1 + s1.length + 1 ≤ q := by have := HS2.out; omega
        clear hd2 ht hsl hxx hx
        obtain ⟨kd, at_, lo, hi', nm⟩ := x
        dsimp only at a0 h2
        have k1 : (kd == 1) = false := by simp; omega
        have k2 : (kd == 2) = true := by simpa using h2
        have k4 : (kd == 4) = false := by simp; omega
        by_cases hwc : way = 2
        · by_cases hpj2 : p < j
          · have w2 : ((way : Int) == 2) = true := by simp; omega
            have w2' : (way == 2) = true := by simp; omega
            have w3 : ((way : Int) == 3) = false := by simp; omega
            have w3' : (way == 3) = false := by simp; omega
            have pj : decide ((p : Int) < (j : Int)) = true := by simp; omega
            have pj' : decide (p < j) = true := by simp; omega
            have HX2 : Hid (C = (pre ++ [j]) ++ Cuts way (j + 1 + s1.length + 1) (decide (j + 1 + s1.length + 1 = p)) t) := by
              show _ = _; rw [hX.out, cuts_br h2 hbr, show decide (j + 1 + s1.length + 1 = p) = false from by simp; omega]; simp [hwc, show ¬ j = p from by omega]
            have HROW := Lib.hid (row_one wr (j : Int) (WalkArith.wf_i64 (by omega)))
            have HO2 := Lib.hid (hV.out.alloc (.cells #[.int .i64 (j : Int)] 3))
            clear hX h2 hbr hwc
            go_wp2_with (first | (at_builtin; (refine wpList_app rfl (.tmp 40) (.tmp 42) _ rfl .i64 w.heap.size 3 i0 8 Tryd.underlying38 hi hz hs1 hs2 (by omega) _ pre.length (pl pre) rfl HO2.out _ 1 1 [(j : Int)] rfl HROW.out (by omega) (by simp; omega) ?_); intro v' w2 hown' hg hat; have HV2 : Hid (w2.ownsRow w.heap.size 3 1 v' (pre ++ [j]).length ((pl (pre ++ [j])).map (Value.int .i64))) := (by show World.ownsRow _ _ _ _ _ _ _; simpa [pl] using hown'); have HB2 : Hid (Below w.heap.size w w2) := (hB.out.alloc hsz _).grown hg (by simp; omega) (fun g hg => (hV.out.lt g hg).1); clear hown' hg hat) | (go_at_call 91; (with_reducible refine (HSH.out _ HB2.out).mono ?_); rintro e w9 ⟨rfl, hw9⟩; replace hw9 := hw9.symm; subst hw9))
            go_roundw
            case rel => exact ⟨j + 1 + s1.length + 1, t, pre ++ [j], by simp [Int.natCast_add], by omega, by omega, HD2, HS2, HK2, by simp; omega, HV2, HB2, HX2⟩
            case measure => simp [intOf]; omega
          · have w2 : ((way : Int) == 2) = true := by simp; omega
            have w2' : (way == 2) = true := by simp; omega
            have w3 : ((way : Int) == 3) = false := by simp; omega
            have w3' : (way == 3) = false := by simp; omega
            have pj : decide ((p : Int) < (j : Int)) = false := by simp; omega
            have pj' : decide (p < j) = false := by simp; omega
            have HX2 : Hid (C = (pre) ++ Cuts way (j + 1 + s1.length + 1) (decide (j + 1 + s1.length + 1 = p)) t) := by
              show _ = _; rw [hX.out, cuts_br h2 hbr, show decide (j + 1 + s1.length + 1 = p) = false from by simp; omega]; simp [hwc, show j = p from by omega]
            clear hX h2 hbr hwc
            go_wp2_with (first | (go_at_call 91; (with_reducible refine (HSH.out _ hB.out).mono ?_); rintro e w9 ⟨rfl, hw9⟩; replace hw9 := hw9.symm; subst hw9))
            go_roundw
            case rel => exact ⟨j + 1 + s1.length + 1, t, pre, by simp [Int.natCast_add], by omega, by omega, HD2, HS2, HK2, by omega, hV, hB, HX2⟩
            case measure => simp [intOf]; omega
        · have w2 : ((way : Int) == 2) = false := by simp; omega
          have w2' : (way == 2) = false := by simp; omega
          have w3 : ((way : Int) == 3) = true := by simp; omega
          have w3' : (way == 3) = true := by simp; omega
          have HX2 : Hid (C = (pre) ++ Cuts way (j + 1 + s1.length + 1) (decide (j + 1 + s1.length + 1 = p)) t) := by
            show _ = _; rw [hX.out, cuts_br h2 hbr, show decide (j + 1 + s1.length + 1 = p) = false from by simp; omega]; simp [hwc]
          clear hX h2 hbr hwc
          go_wp2_with (first | (go_at_call 91; (with_reducible refine (HSH.out _ hB.out).mono ?_); rintro e w9 ⟨rfl, hw9⟩; replace hw9 := hw9.symm; subst hw9))
          go_roundw
          case rel => exact ⟨j + 1 + s1.length + 1, t, pre, by simp [Int.natCast_add], by omega, by omega, HD2, HS2, HK2, by omega, hV, hB, HX2⟩
          case measure => simp [intOf]; omega
    · have hjq2 : j = q := by omega
      have l1 : decide ((j : Int) < (q : Int)) = false := by simp; omega
      have l2 : decide (j < q) = false := by simp; omega
      have hs0 : s = [] := List.eq_nil_of_length_eq_zero (by have := hS.out; omega)
      have HE : Hid (C = pre) := by show _ = _; rw [hX.out, hs0, cuts_nil, List.append_nil]
      have HROW := Lib.hid (row_one wr (q : Int) (WalkArith.wf_i64 (by omega)))
      have HO2 := Lib.hid (hV.out.alloc (.cells #[.int .i64 (q : Int)] 3))
      clear hs0 hjq2 hlt hX
      go_wp2_with (at_builtin; (refine wpList_app rfl (.tmp 60) (.tmp 62) _ rfl .i64 w.heap.size 3 i0 8 Tryd.underlying38 hi hz hs1 hs2 (by omega) _ pre.length (pl pre) rfl HO2.out _ 1 1 [(q : Int)] rfl HROW.out (by omega) (by simp; omega) ?_); intro v' w2 hown' hg hat)
      have HW2 : Hid (Below w.heap.size w w2) := (hB.out.alloc hsz _).grown hg (by simp; omega) (fun g hg => (hV.out.lt g hg).1)
      go_ret
      refine ⟨_, rfl, ?_, HW2.out⟩
      rw [HE.out]
      simpa [pl] using hown'
end Go.Proofs.YtphhacnabdpheaaDoor.Ex
