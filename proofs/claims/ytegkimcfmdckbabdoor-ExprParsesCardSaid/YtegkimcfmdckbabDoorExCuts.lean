/- Walks of the reference of expressions: cuts. -/
import Derived.Test.YtegkimcfmdckbabDoorExRef
import Derived.Test.YtegkimcfmdckbabDoorExOk
namespace Go.Proofs.YtegkimcfmdckbabDoor.Ex
open Go.RowKit Mem Lx
set_option linter.unusedVariables false

theorem info_i64 : (Tryd.prog.info? 3).map (fun i => (i.zero, i.size, i.bytes)) = some (some (.int .i64 0), 1, 8) := by kernel_rfl
theorem ex_alloc_new (w : World) (o : Obj) : (w.alloc o).heap[w.heap.size]? = some o := World.alloc_heap_new w o
/-- places as numbers -/
def pl (l : List Nat) : List Int := l.map fun (j : Nat) => (j : Int)
theorem pl_len (l : List Nat) : (pl l).length = l.length := by simp [pl]
/-- a slice of one number, new -/
theorem own_one (w : World) (z : Int) : (w.alloc (.cells #[.int .i64 z] 3)).ownsRow w.heap.size 3 1 (.slice (some ⟨w.heap.size, 0, none⟩) 1 1) 1 ([z].map (Value.int .i64)) :=
  ⟨rfl, .inr ⟨w.heap.size, 1, #[.int .i64 z], rfl, Nat.le_refl _, ex_alloc_new w _, Nat.le_refl _, by simp [maxLen], rfl, rfl⟩⟩
theorem row_one (w : World) (z : Int) (hz : (Lit.int .i64 z).wf = true) : Row .i64 (w.alloc (.cells #[.int .i64 z] 3)) (some ⟨w.heap.size, 0, none⟩) 1 [z] :=
  row_block (ex_alloc_new w _) [z] rfl 1 rfl (fun y hy => by simp at hy; subst hy; exact hz)

set_option maxRecDepth 100000 in
set_option maxHeartbeats 8000000 in
theorem cuts_any (A : Option Addr) (n c : Nat) (l : List Sg) (w : World) (hr : GRow w A n l) (hn : n ≤ 1000) (p q way : Nat) (s0 r : List Sg) (hl : l.drop p = s0 ++ r) (hq : p + s0.length = q) (hqn : q ≤ n) (hok : Ok s0) (hw : way = 2 ∨ way = 3) :
    Calls Tryd.prog 48 #[.slice A n c, .int .i64 p, .int .i64 q, .int .i64 way] w fun e w' => ∃ v, e = .returned v ∧ w'.ownsRow w.heap.size 3 1 v (p :: (Cuts way p true s0 ++ [q])).length ((pl (p :: (Cuts way p true s0 ++ [q]))).map (Value.int .i64)) ∧ Below w.heap.size w w' := by
  obtain ⟨i0, hi, hz, hs1, hs2⟩ := info_parts info_i64
  obtain ⟨C, hC⟩ : ∃ C, C = p :: Cuts way p true s0 := ⟨_, rfl⟩
  have hC2 : p :: (Cuts way p true s0 ++ [q]) = C ++ [q] := by rw [hC]; rfl
  rw [hC2]
  have HC := hide hC
  have HR := hide hr
  have HLN := hide hr.1
  have HOK := hide hok
  have HL := hide hl
  have HQ := hide hq
  have hp : p ≤ q := by omega
  clear hr hC hC2 hok hl hq
  go_enter Tryd.func48, Tryd.ntmps48
  go_wp2_with fail
  go_loopw [9, 10] (fun v iv wr => ∃ (j : Nat) (s : List Sg) (pre : List Nat), iv = .int .i64 j ∧ p ≤ j ∧ j ≤ q ∧ Hid (l.drop j = s ++ r) ∧ Hid (j + s.length = q) ∧ Hid (Ok s) ∧ pre.length ≤ j - p + 1 ∧ Hid (wr.ownsRow w.heap.size 3 1 v pre.length ((pl pre).map (Value.int .i64))) ∧ Hid (Below w.heap.size w wr) ∧ Hid (C = pre ++ Cuts way j (decide (j = p)) s)) (fun _ iv _ => q - (intOf iv).toNat)
  case atStart => exact ⟨p, s0, [p], rfl, by omega, by omega, HL, HQ, HOK, by simp, Lib.hid (own_one w p), Lib.hid ((Below.refl _ _).alloc (Nat.le_refl _) _), Lib.hid (by rw [HC.out]; simp)⟩
  case round =>
    obtain ⟨j, s, pre, rfl, hpj, hjq, hD, hS, hO, hpl, hV, hB, hX⟩ := hrel
    have hsz := hB.out.size
    by_cases hlt : j < q
    · have hjl : j < l.length := by rw [HLN.out]; omega
      obtain ⟨b, off, hA, hb, hcell⟩ := (HR.out.below hB.out).2 (by omega)
      have a0 := (hcell j hjl).1
      subst hA
      have l1 : decide ((j : Int) < (q : Int)) = true := by simp; omega
      have l2 : decide (j < q) = true := by simp; omega
      have hdj := hD.out
      rw [drop_at l j hjl] at hdj
      have hso := hO.out
      have hsl := hS.out
      have hxx := hX.out
      clear hcell hO hS hX hD
      cases hso with
      | nil => simp at hsl; omega
      | @one x s' h2 hs' =>
        simp only [List.cons_append, List.cons.injEq] at hdj
        obtain ⟨hx, hd2⟩ := hdj
        rw [hx] at a0
        have hX := Lib.hid hxx
        have HD2 := Lib.hid hd2
        have HK2 := Lib.hid hs'
        have HS2 : Hid (j + 1 + s'.length = q) := by simp only [List.length_cons] at hsl; show _ = _; omega
        clear hd2 hs' hsl hxx hx
        obtain ⟨kd, at_, lo, hi', nm⟩ := x
        dsimp only at a0 h2
        have k2 : (kd == 2) = false := by simpa using h2
        by_cases hwc : way = 2
        · by_cases h1 : kd = 1
          · by_cases hpj2 : p < j
            · have w2 : ((way : Int) == 2) = true := by simp; omega
              have w2' : (way == 2) = true := by simp; omega
              have w3 : ((way : Int) == 3) = false := by simp; omega
              have w3' : (way == 3) = false := by simp; omega
              have pj : decide ((p : Int) < (j : Int)) = true := by simp; omega
              have pj' : decide (p < j) = true := by simp; omega
              have k1 : (kd == 1) = true := by simp; omega
              have HX2 : Hid (C = (pre ++ [j]) ++ Cuts way (j + 1) (decide (j + 1 = p)) s') := by
                show _ = _; rw [hX.out, cuts_plain h2, show decide (j + 1 = p) = false from by simp; omega]; simp [hwc, h1, show ¬ j = p from by omega]
              have HROW := Lib.hid (row_one wr (j : Int) (WalkArith.wf_i64 (by omega)))
              have HO2 := Lib.hid (hV.out.alloc (.cells #[.int .i64 (j : Int)] 3))
              clear hX h2 hwc
              go_wp2_with (first | (at_builtin; (refine wpList_app rfl (.tmp 40) (.tmp 42) _ rfl .i64 w.heap.size 3 i0 8 Tryd.underlying38 hi hz hs1 hs2 (by omega) _ pre.length (pl pre) rfl HO2.out _ 1 1 [(j : Int)] rfl HROW.out (by omega) (by simp; omega) ?_); intro v' w2 hown' hg hat; have HV2 : Hid (w2.ownsRow w.heap.size 3 1 v' (pre ++ [j]).length ((pl (pre ++ [j])).map (Value.int .i64))) := (by show World.ownsRow _ _ _ _ _ _ _; simpa [pl] using hown'); have HB2 : Hid (Below w.heap.size w w2) := (hB.out.alloc hsz _).grown hg (by simp; omega) (fun g hg => (hV.out.lt g hg).1); clear hown' hg hat))
              go_roundw
              case rel => exact ⟨j + 1, s', pre ++ [j], by go_num, by omega, by omega, HD2, HS2, HK2, by simp; omega, HV2, HB2, HX2⟩
              case measure => simp [intOf]; omega
            · have w2 : ((way : Int) == 2) = true := by simp; omega
              have w2' : (way == 2) = true := by simp; omega
              have w3 : ((way : Int) == 3) = false := by simp; omega
              have w3' : (way == 3) = false := by simp; omega
              have pj : decide ((p : Int) < (j : Int)) = false := by simp; omega
              have pj' : decide (p < j) = false := by simp; omega
              have k1 : (kd == 1) = true := by simp; omega
              have HX2 : Hid (C = (pre) ++ Cuts way (j + 1) (decide (j + 1 = p)) s') := by
                show _ = _; rw [hX.out, cuts_plain h2, show decide (j + 1 = p) = false from by simp; omega]; simp [hwc, h1, show j = p from by omega]
              clear hX h2 hwc
              go_wp2_with fail
              go_roundw
              case rel => exact ⟨j + 1, s', pre, by go_num, by omega, by omega, HD2, HS2, HK2, by omega, hV, hB, HX2⟩
              case measure => simp [intOf]; omega
          · by_cases hpj2 : p < j
            · have w2 : ((way : Int) == 2) = true := by simp; omega
              have w2' : (way == 2) = true := by simp; omega
              have w3 : ((way : Int) == 3) = false := by simp; omega
              have w3' : (way == 3) = false := by simp; omega
              have pj : decide ((p : Int) < (j : Int)) = true := by simp; omega
              have pj' : decide (p < j) = true := by simp; omega
              have k1 : (kd == 1) = false := by simp; omega
              have HX2 : Hid (C = (pre) ++ Cuts way (j + 1) (decide (j + 1 = p)) s') := by
                show _ = _; rw [hX.out, cuts_plain h2, show decide (j + 1 = p) = false from by simp; omega]; simp [hwc, h1]
              clear hX h2 hwc
              go_wp2_with fail
              go_roundw
              case rel => exact ⟨j + 1, s', pre, by go_num, by omega, by omega, HD2, HS2, HK2, by omega, hV, hB, HX2⟩
              case measure => simp [intOf]; omega
            · have w2 : ((way : Int) == 2) = true := by simp; omega
              have w2' : (way == 2) = true := by simp; omega
              have w3 : ((way : Int) == 3) = false := by simp; omega
              have w3' : (way == 3) = false := by simp; omega
              have pj : decide ((p : Int) < (j : Int)) = false := by simp; omega
              have pj' : decide (p < j) = false := by simp; omega
              have k1 : (kd == 1) = false := by simp; omega
              have HX2 : Hid (C = (pre) ++ Cuts way (j + 1) (decide (j + 1 = p)) s') := by
                show _ = _; rw [hX.out, cuts_plain h2, show decide (j + 1 = p) = false from by simp; omega]; simp [hwc, h1]
              clear hX h2 hwc
              go_wp2_with fail
              go_roundw
              case rel => exact ⟨j + 1, s', pre, by go_num, by omega, by omega, HD2, HS2, HK2, by omega, hV, hB, HX2⟩
              case measure => simp [intOf]; omega
        · by_cases h4 : kd = 4
          · have w2 : ((way : Int) == 2) = false := by simp; omega
            have w2' : (way == 2) = false := by simp; omega
            have w3 : ((way : Int) == 3) = true := by simp; omega
            have w3' : (way == 3) = true := by simp; omega
            have k4 : (kd == 4) = true := by simp; omega
            have HX2 : Hid (C = (pre ++ [j + 1]) ++ Cuts way (j + 1) (decide (j + 1 = p)) s') := by
              show _ = _; rw [hX.out, cuts_plain h2, show decide (j + 1 = p) = false from by simp; omega]; simp [h4, show way = 3 from by omega]
            have HROW := Lib.hid (row_one wr ((j : Int) + 1) (WalkArith.wf_i64 (by omega)))
            have HO2 := Lib.hid (hV.out.alloc (.cells #[.int .i64 ((j : Int) + 1)] 3))
            clear hX h2 hwc
            go_wp2_with (first | (at_builtin; (refine wpList_app rfl (.tmp 50) (.tmp 53) _ rfl .i64 w.heap.size 3 i0 8 Tryd.underlying38 hi hz hs1 hs2 (by omega) _ pre.length (pl pre) rfl HO2.out _ 1 1 [((j : Int) + 1)] rfl HROW.out (by omega) (by simp; omega) ?_); intro v' w2 hown' hg hat; have HV2 : Hid (w2.ownsRow w.heap.size 3 1 v' (pre ++ [j + 1]).length ((pl (pre ++ [j + 1])).map (Value.int .i64))) := (by show World.ownsRow _ _ _ _ _ _ _; simpa [pl] using hown'); have HB2 : Hid (Below w.heap.size w w2) := (hB.out.alloc hsz _).grown hg (by simp; omega) (fun g hg => (hV.out.lt g hg).1); clear hown' hg hat))
            go_roundw
            case rel => exact ⟨j + 1, s', pre ++ [j + 1], by go_num, by omega, by omega, HD2, HS2, HK2, by simp; omega, HV2, HB2, HX2⟩
            case measure => simp [intOf]; omega
          · have w2 : ((way : Int) == 2) = false := by simp; omega
            have w2' : (way == 2) = false := by simp; omega
            have w3 : ((way : Int) == 3) = true := by simp; omega
            have w3' : (way == 3) = true := by simp; omega
            have k4 : (kd == 4) = false := by simp; omega
            have HX2 : Hid (C = (pre) ++ Cuts way (j + 1) (decide (j + 1 = p)) s') := by
              show _ = _; rw [hX.out, cuts_plain h2, show decide (j + 1 = p) = false from by simp; omega]; simp [hwc, h4]
            clear hX h2 hwc
            go_wp2_with fail
            go_roundw
            case rel => exact ⟨j + 1, s', pre, by go_num, by omega, by omega, HD2, HS2, HK2, by omega, hV, hB, HX2⟩
            case measure => simp [intOf]; omega
      | @br x y s1 t h2 hbr ht =>
        simp only [List.cons_append, List.append_assoc, List.cons.injEq] at hdj
        obtain ⟨hx, hd2⟩ := hdj
        have HSH0 := hide (fun W (hW : Below w.heap.size w W) => shut_any (some ⟨b, off, none⟩) n c l W (HR.out.below hW) hn j hjl (by rw [hx]; exact h2))
        rw [hd2, hbr] at HSH0
        have HSH := HSH0
        clear HSH0
        rw [hx] at a0
        have hX := Lib.hid hxx
        have HD2 : Hid (l.drop (j + 1 + s1.length + 1) = t ++ r) := by
          show _ = _
          rw [show j + 1 + s1.length + 1 = (j + 1) + (s1.length + 1) from by omega, ← List.drop_drop, hd2]
          simp [List.drop_append]
        have HK2 := Lib.hid ht
        have HS2 : Hid (j + 1 + s1.length + 1 + t.length = q) := by simp only [List.length_cons, List.length_append] at hsl; show _ = _; omega
        have hjq3 : j + 1 + s1.length + 1 ≤ q := by have := HS2.out; omega
        clear hd2 ht hsl hxx hx
        obtain ⟨kd, at_, lo, hi', nm⟩ := x
        dsimp only at a0 h2
        have k1 : (kd == 1) = false := by simp; omega
        have k2 : (kd == 2) = true := by simpa using h2
        have k4 : (kd == 4) = false := by simp; omega
        by_cases hwc : way = 2
        · by_cases hpj2 : p < j
          · have w2 : ((way : Int) == 2) = true := by simp; omega
            have w2' : (way == 2) = true := by simp; omega
            have w3 : ((way : Int) == 3) = false := by simp; omega
            have w3' : (way == 3) = false := by simp; omega
            have pj : decide ((p : Int) < (j : Int)) = true := by simp; omega
            have pj' : decide (p < j) = true := by simp; omega
            have HX2 : Hid (C = (pre ++ [j]) ++ Cuts way (j + 1 + s1.length + 1) (decide (j + 1 + s1.length + 1 = p)) t) := by
              show _ = _; rw [hX.out, cuts_br h2 hbr, show decide (j + 1 + s1.length + 1 = p) = false from by simp; omega]; simp [hwc, show ¬ j = p from by omega]
            have HROW := Lib.hid (row_one wr (j : Int) (WalkArith.wf_i64 (by omega)))
            have HO2 := Lib.hid (hV.out.alloc (.cells #[.int .i64 (j : Int)] 3))
            clear hX h2 hbr hwc
            go_wp2_with (first | (at_builtin; (refine wpList_app rfl (.tmp 40) (.tmp 42) _ rfl .i64 w.heap.size 3 i0 8 Tryd.underlying38 hi hz hs1 hs2 (by omega) _ pre.length (pl pre) rfl HO2.out _ 1 1 [(j : Int)] rfl HROW.out (by omega) (by simp; omega) ?_); intro v' w2 hown' hg hat; have HV2 : Hid (w2.ownsRow w.heap.size 3 1 v' (pre ++ [j]).length ((pl (pre ++ [j])).map (Value.int .i64))) := (by show World.ownsRow _ _ _ _ _ _ _; simpa [pl] using hown'); have HB2 : Hid (Below w.heap.size w w2) := (hB.out.alloc hsz _).grown hg (by simp; omega) (fun g hg => (hV.out.lt g hg).1); clear hown' hg hat) | (go_at_call 68; (with_reducible refine (HSH.out _ HB2.out).mono ?_); rintro e w9 ⟨rfl, hw9⟩; replace hw9 := hw9.symm; subst hw9))
            go_roundw
            case rel => exact ⟨j + 1 + s1.length + 1, t, pre ++ [j], by simp [Int.natCast_add], by omega, by omega, HD2, HS2, HK2, by simp; omega, HV2, HB2, HX2⟩
            case measure => simp [intOf]; omega
          · have w2 : ((way : Int) == 2) = true := by simp; omega
            have w2' : (way == 2) = true := by simp; omega
            have w3 : ((way : Int) == 3) = false := by simp; omega
            have w3' : (way == 3) = false := by simp; omega
            have pj : decide ((p : Int) < (j : Int)) = false := by simp; omega
            have pj' : decide (p < j) = false := by simp; omega
            have HX2 : Hid (C = (pre) ++ Cuts way (j + 1 + s1.length + 1) (decide (j + 1 + s1.length + 1 = p)) t) := by
              show _ = _; rw [hX.out, cuts_br h2 hbr, show decide (j + 1 + s1.length + 1 = p) = false from by simp; omega]; simp [hwc, show j = p from by omega]
            clear hX h2 hbr hwc
            go_wp2_with (first | (go_at_call 68; (with_reducible refine (HSH.out _ hB.out).mono ?_); rintro e w9 ⟨rfl, hw9⟩; replace hw9 := hw9.symm; subst hw9))
            go_roundw
            case rel => exact ⟨j + 1 + s1.length + 1, t, pre, by simp [Int.natCast_add], by omega, by omega, HD2, HS2, HK2, by omega, hV, hB, HX2⟩
            case measure => simp [intOf]; omega
        · have w2 : ((way : Int) == 2) = false := by simp; omega
          have w2' : (way == 2) = false := by simp; omega
          have w3 : ((way : Int) == 3) = true := by simp; omega
          have w3' : (way == 3) = true := by simp; omega
          have HX2 : Hid (C = (pre) ++ Cuts way (j + 1 + s1.length + 1) (decide (j + 1 + s1.length + 1 = p)) t) := by
            show _ = _; rw [hX.out, cuts_br h2 hbr, show decide (j + 1 + s1.length + 1 = p) = false from by simp; omega]; simp [hwc]
          clear hX h2 hbr hwc
          go_wp2_with (first | (go_at_call 68; (with_reducible refine (HSH.out _ hB.out).mono ?_); rintro e w9 ⟨rfl, hw9⟩; replace hw9 := hw9.symm; subst hw9))
          go_roundw
          case rel => exact ⟨j + 1 + s1.length + 1, t, pre, by simp [Int.natCast_add], by omega, by omega, HD2, HS2, HK2, by omega, hV, hB, HX2⟩
          case measure => simp [intOf]; omega
    · have hjq2 : j = q := by omega
      have l1 : decide ((j : Int) < (q : Int)) = false := by simp; omega
      have l2 : decide (j < q) = false := by simp; omega
      have hs0 : s = [] := List.eq_nil_of_length_eq_zero (by have := hS.out; omega)
      have HE : Hid (C = pre) := by show _ = _; rw [hX.out, hs0, cuts_nil, List.append_nil]
      have HROW := Lib.hid (row_one wr (q : Int) (WalkArith.wf_i64 (by omega)))
      have HO2 := Lib.hid (hV.out.alloc (.cells #[.int .i64 (q : Int)] 3))
      clear hs0 hjq2 hlt hX
      go_wp2_with (at_builtin; (refine wpList_app rfl (.tmp 60) (.tmp 62) _ rfl .i64 w.heap.size 3 i0 8 Tryd.underlying38 hi hz hs1 hs2 (by omega) _ pre.length (pl pre) rfl HO2.out _ 1 1 [(q : Int)] rfl HROW.out (by omega) (by simp; omega) ?_); intro v' w2 hown' hg hat)
      have HW2 : Hid (Below w.heap.size w w2) := (hB.out.alloc hsz _).grown hg (by simp; omega) (fun g hg => (hV.out.lt g hg).1)
      go_ret
      refine ⟨_, rfl, ?_, HW2.out⟩
      rw [HE.out]
      simpa [pl] using hown'
end Go.Proofs.YtegkimcfmdckbabDoor.Ex
