/- Walk of the law SliceJoins. -/
import Derived.Test.YtnmphoemiohgjaaSlG
namespace Go.Proofs.Ytnmphoemiohgjaa.Sl
open Go.RowKit Mem Tk
set_option linter.unusedVariables false

structure LS (w : World) (sa sb : Value) (a1 a2 b1 b2 : Int) (W : World) : Prop where
  below : Below w.heap.size w W
  h0 : W.heap[w.heap.size]? = some (.cells #[sa, .int .i64 a1, .int .i64 a2] 26 (0, 0))
  h1 : W.heap[w.heap.size + 1]? = some (.cells #[sb, .int .i64 b1, .int .i64 b2] 26 (0, 0))
section
variable {w W W' : World} {sa sb : Value} {a1 a2 b1 b2 : Int}
theorem LS.stepAt (h : LS w sa sb a1 a2 b1 b2 W) {B : Nat} (hb : Below B W W') (hB : w.heap.size + 1 + 1 ≤ B) : LS w sa sb a1 a2 b1 b2 W' :=
  ⟨h.below.trans (hb.mono (by omega)), by rw [hb.block _ (by omega)]; exact h.h0, by rw [hb.block _ (by omega)]; exact h.h1⟩
theorem LS.size (h : LS w sa sb a1 a2 b1 b2 W) : w.heap.size + 1 + 1 ≤ W.heap.size := by have := lt_some h.h1; omega
theorem LS.step (h : LS w sa sb a1 a2 b1 b2 W) (hb : Below W.heap.size W W') : LS w sa sb a1 a2 b1 b2 W' := h.stepAt hb h.size
theorem LS.cells (h : LS w sa sb a1 a2 b1 b2 W) : W.cell? ⟨w.heap.size, 0, none⟩ = some sa ∧ W.cell? ⟨w.heap.size, 1, none⟩ = some (.int .i64 a1) ∧ W.cell? ⟨w.heap.size, 2, none⟩ = some (.int .i64 a2) ∧
    W.cell? ⟨w.heap.size + 1, 0, none⟩ = some sb ∧ W.cell? ⟨w.heap.size + 1, 1, none⟩ = some (.int .i64 b1) ∧ W.cell? ⟨w.heap.size + 1, 2, none⟩ = some (.int .i64 b2) := by
  refine ⟨?_, ?_, ?_, ?_, ?_, ?_⟩
  all_goals first | (simp [World.cell?, h.h0]; done) | (simp [World.cell?, h.h1]; done)
theorem LS.made (w : World) (sa sb : Value) (a1 a2 b1 b2 : Int) : LS w sa sb a1 a2 b1 b2 ((w.alloc (.cells #[sa, .int .i64 a1, .int .i64 a2] 26)).alloc (.cells #[sb, .int .i64 b1, .int .i64 b2] 26)) := by
  have n2 := heap_alloc_new (w.alloc (.cells #[sa, .int .i64 a1, .int .i64 a2] 26)) (.cells #[sb, .int .i64 b1, .int .i64 b2] 26)
  rw [show (w.alloc (.cells #[sa, .int .i64 a1, .int .i64 a2] 26)).heap.size = w.heap.size + 1 by simp] at n2
  exact ⟨((Below.refl _ _).alloc (Nat.le_refl _) _).alloc (by simp) _, by rw [Below.heap_alloc _ _ _ (by simp), heap_alloc_new], n2⟩
end
/-- open tokens -/
def opens (l : List Tk) : Nat := (l.filter fun x => x.k == 1).length
theorem opens_le (l : List Tk) : opens l ≤ l.length := List.length_filter_le _ _
theorem opens_all (l : List Tk) : opens l = l.length ↔ others l = false := by
  unfold opens others
  rw [List.length_filter_eq_length_iff, List.any_eq_false]
  simp
theorem opens_snoc (l : List Tk) (x : Tk) : opens (l ++ [x]) = opens l + (if x.k = 1 then 1 else 0) := by
  unfold opens
  rw [List.filter_append, List.length_append]
  by_cases h : x.k = 1 <;> simp [h]
theorem comb_left (l k : List Tk) : (opn (kinds (l ++ k))).1 = (opn (kinds l)).1 + ((opn (kinds k)).1 - (opn (kinds l)).2) ∧ (opn (kinds (l ++ k))).2 = (opn (kinds k)).2 + ((opn (kinds l)).2 - (opn (kinds k)).1) := by
  rw [kinds_append, opn_append]; exact ⟨rfl, rfl⟩
theorem left_any (l : List Tk) (A : Option Addr) (n c : Nat) (W : World) (h : TRow W A n l) (hn : n ≤ 1000) :
    Calls Try.prog 5 #[.slice A n c, .int .i64 2] W fun e w' => e = .returned (.int .i64 (opn (kinds l)).1) ∧ W = w' := by
  refine (ropen_any l A n c 2 W (.inr rfl) h (by omega)).mono ?_
  rintro e w' ⟨rfl, rfl⟩
  have := (cnt_open (kinds l)).1
  rw [kinds_length] at this
  exact ⟨by rw [this], rfl⟩
theorem right_any (l : List Tk) (A : Option Addr) (n c : Nat) (W : World) (h : TRow W A n l) (hn : n ≤ 1000) :
    Calls Try.prog 5 #[.slice A n c, .int .i64 1] W fun e w' => e = .returned (.int .i64 (opn (kinds l)).2) ∧ W = w' := by
  refine (ropen_any l A n c 1 W (.inl rfl) h (by omega)).mono ?_
  rintro e w' ⟨rfl, rfl⟩
  have := (cnt_open (kinds l)).2
  rw [kinds_length] at this
  exact ⟨by rw [this], rfl⟩

set_option maxHeartbeats 1000000 in
theorem joins_long (A B D : Option Addr) (n c m c' p c'' : Nat) (w : World) (h : 150 < n ∨ 150 < m ∨ 50 < p) :
    Calls Try.prog 3 #[.slice A n c, .slice B m c', .slice D p c''] w fun e w' => e = .returned (.bool true) ∧ Below w.heap.size w w' := by
  by_cases h1 : (n : Int) > 150
  · clear h
    go_enter Try.func3, Try.ntmps3
    go_wp2_with (go_at_call 4; (refine (live_any _).mono ?_); rintro e w1 ⟨rfl, hb⟩)
    go_ret
    exact ⟨rfl, hb⟩
  · by_cases h2 : (m : Int) > 150
    · clear h
      go_enter Try.func3, Try.ntmps3
      go_wp2_with (go_at_call 4; (refine (live_any _).mono ?_); rintro e w1 ⟨rfl, hb⟩)
      go_ret
      exact ⟨rfl, hb⟩
    · have h3 : (p : Int) > 50 := by omega
      clear h
      go_enter Try.func3, Try.ntmps3
      go_wp2_with (go_at_call 4; (refine (live_any _).mono ?_); rintro e w1 ⟨rfl, hb⟩)
      go_ret
      exact ⟨rfl, hb⟩
set_option maxHeartbeats 4000000 in
theorem joins_walk (l k lead : List Tk) (A B D : Option Addr) (n c m c' p c'' : Nat) (w : World) (h1 : TRow w A n l) (h2 : TRow w B m k) (h3 : TRow w D p lead) :
    Calls Try.prog 3 #[.slice A n c, .slice B m c', .slice D p c''] w fun e w' => e = .returned (.bool true) ∧ Below w.heap.size w w' := by
  by_cases hlong : 150 < n ∨ 150 < m ∨ 50 < p
  · exact joins_long A B D n c m c' p c'' w hlong
  · have q1 : ¬ (n : Int) > 150 := by omega
    have q2 : ¬ (m : Int) > 150 := by omega
    have q3 : ¬ (p : Int) > 50 := by omega
    have n1 : n ≤ 150 := by omega
    have n2 : m ≤ 150 := by omega
    have n3 : p ≤ 50 := by omega
    clear hlong
    have L1 := Lib.hid h1.1
    have L2 := Lib.hid h2.1
    have L3 := Lib.hid h3.1
    have OL := opn_le (kinds l)
    have OK := opn_le (kinds k)
    rw [kinds_length, h1.1] at OL
    rw [kinds_length, h2.1] at OK
    have CL := comb_left l k
    have C1 := fun W h => left_any l A n c W h (by omega)
    have C2 := fun W h => right_any l A n c W h (by omega)
    have C3 := fun W h => left_any k B m c' W h (by omega)
    have C4 := fun W h => right_any k B m c' W h (by omega)
    generalize ha1 : (opn (kinds l)).1 = a1 at *
    generalize ha2 : (opn (kinds l)).2 = a2 at *
    generalize hb1 : (opn (kinds k)).1 = b1 at *
    generalize hb2 : (opn (kinds k)).2 = b2 at *
    obtain ⟨ol1, ol2⟩ := OL
    obtain ⟨ok1, ok2⟩ := OK
    have HCL := Lib.hid CL
    have H1 := Lib.hid h1
    have H2 := Lib.hid h2
    have H3 := Lib.hid h3
    clear ha1 ha2 hb1 hb2 CL h1 h2 h3
    obtain ⟨LL, hLL⟩ : ∃ x, x = a1 + (b1 - a2) := ⟨_, rfl⟩
    obtain ⟨RR, hRR⟩ : ∃ x, x = b2 + (a2 - b1) := ⟨_, rfl⟩
    obtain ⟨NN, hNN⟩ : ∃ x, x = (l ++ k).length := ⟨_, rfl⟩
    have hNNb : NN ≤ 300 := by rw [hNN, List.length_append, L1.out, L2.out]; omega
    have J1 := fun W h h' => join_any l k A B n m c c' a1 a2 b1 b2 W h h' (by omega) (by omega) (by omega) (by omega) (by omega) (by omega)
    rw [← hLL, ← hRR] at J1
    have HLR : Hid (LL = (opn (kinds (l ++ k))).1 ∧ RR = (opn (kinds (l ++ k))).2) := Lib.hid ⟨by rw [HCL.out.1, hLL], by rw [HCL.out.2, hRR]⟩
    have HNN := Lib.hid hNN
    clear hLL hRR hNN
    have HJ := Lib.hid J1
    clear J1 HCL
    have HLS := Lib.hid (LS.made w (.slice A n c) (.slice B m c') a1 a2 b1 b2)
    have T0 : Hid (Tks (w.heap.size + 1 + 1) (((w.alloc (.cells #[.slice A n c, .int .i64 a1, .int .i64 a2] 26)).alloc (.cells #[.slice B m c', .int .i64 b1, .int .i64 b2] 26)).alloc (.cells #[] 35)) (.slice (some ⟨w.heap.size + 1 + 1, 0, none⟩) 0 0) []) := Lib.hid (by
      have h := tks_empty ((w.alloc (.cells #[.slice A n c, .int .i64 a1, .int .i64 a2] 26)).alloc (.cells #[.slice B m c', .int .i64 b1, .int .i64 b2] 26)) (w.heap.size + 1 + 1) (by simp)
      rw [show ((w.alloc (.cells #[.slice A n c, .int .i64 a1, .int .i64 a2] 26)).alloc (.cells #[.slice B m c', .int .i64 b1, .int .i64 b2] 26)).heap.size = w.heap.size + 1 + 1 by simp] at h
      exact h)
    have HB0 : Hid (Below (w.heap.size + 1 + 1) ((w.alloc (.cells #[.slice A n c, .int .i64 a1, .int .i64 a2] 26)).alloc (.cells #[.slice B m c', .int .i64 b1, .int .i64 b2] 26)) (((w.alloc (.cells #[.slice A n c, .int .i64 a1, .int .i64 a2] 26)).alloc (.cells #[.slice B m c', .int .i64 b1, .int .i64 b2] 26)).alloc (.cells #[] 35))) := Lib.hid ((Below.refl _ _).alloc (by simp) _)
    have HR0 := Lib.hid (H1.out.below (HLS.out.step ((Below.refl _ _).alloc (Nat.le_refl _) (.cells #[] 35))).below)
    go_enter Try.func3, Try.ntmps3
    go_wp2_with fail
    refine (C1 _ H1.out).mono ?_
    rintro e w0 ⟨rfl, rfl⟩
    go_wp2_with fail
    refine (C2 _ H1.out).mono ?_
    rintro e w0 ⟨rfl, rfl⟩
    go_wp2_with fail
    refine (C3 _ (H2.out.alloc _)).mono ?_
    rintro e w0 ⟨rfl, rfl⟩
    go_wp2_with fail
    refine (C4 _ (H2.out.alloc _)).mono ?_
    rintro e w0 ⟨rfl, rfl⟩
    clear C1 C2 C3 C4
    go_wp2_with (first
      | (at_builtin; (refine wpList_app_tk rfl (.tmp 45) (.tmp 46) rfl (w.heap.size + 1 + 1) _ l rfl HO1.out B m c' k rfl HK1.out (by rw [L1.out]; omega) HS1.out ?_); intro v2 w2 ho2 hg2 hat2; have HB2 := Lib.hid (tks_of_grown HB1.out HO1.out hg2 HS1.out); have HLS2 := Lib.hid (HLS.out.stepAt HB2.out (Nat.le_refl _)); obtain ⟨e0, e1, e2, e3, e4, e5⟩ := HLS2.out.cells; have HO2 := Lib.hid ho2; clear ho2 hg2 hat2)
      | (at_builtin; (refine wpList_app_tk rfl (.tmp 43) (.tmp 44) rfl (w.heap.size + 1 + 1) _ [] rfl T0.out A n c l rfl HR0.out (by simp; omega) (by simp) ?_); intro v1 w1 ho1 hg1 hat1; have HB1 := Lib.hid (tks_of_grown HB0.out T0.out hg1 (by simp)); have HO1 := Lib.hid ho1; rw [List.nil_append] at HO1; have HS1 : Hid (w.heap.size + 1 + 1 ≤ w1.heap.size) := Lib.hid (HLS.out.stepAt HB1.out (Nat.le_refl _)).size; have HK1 := Lib.hid (H2.out.below (HLS.out.stepAt HB1.out (Nat.le_refl _)).below); clear ho1 hg1 hat1))
    refine (HJ.out _ (H1.out.below HLS2.out.below) (H2.out.below HLS2.out.below)).mono ?_
    rintro e w3 ⟨v3, rfl, ho3, hb3⟩
    obtain ⟨A2, c2, hv2, hc2, hr2⟩ := HO2.out.row
    obtain ⟨A3, c3, hv3, hc3, hr3⟩ := ho3.row
    rw [← HNN.out] at hv2 hr2 hv3 hr3
    subst hv2; subst hv3
    have HLS3 := Lib.hid (HLS2.out.step hb3)
    have HR2 := Lib.hid (hr2.below hb3)
    have HR3 := Lib.hid hr3
    clear ho3 hb3 hr2 hr3 hc2 hc3 T0 HB0 HR0 HB1 HS1 HK1 HO1 HO2 HB2 HLS HJ e0 e1 e2 e3 e4 e5
    have S1 := same_yes (l ++ k) A3 A2 NN c3 NN c2 LL RR _ (HR3.out.alloc (.cells #[.slice A3 NN c3, .int .i64 LL, .int .i64 RR] 26)) (HR2.out.alloc (.cells #[.slice A3 NN c3, .int .i64 LL, .int .i64 RR] 26)) (by omega) HLR.out.1 HLR.out.2
    have HLS4 := Lib.hid (HLS3.out.step ((Below.refl _ _).alloc (Nat.le_refl _) (.cells #[.slice A3 NN c3, .int .i64 LL, .int .i64 RR] 26)))
    go_wp2_with fail
    refine S1.mono ?_
    rintro e w5 ⟨rfl, hb5⟩
    have HLS5 := Lib.hid (HLS4.out.step hb5)
    obtain ⟨e0, e1, e2, e3, e4, e5⟩ := HLS5.out.cells
    have HR1 := Lib.hid (H1.out.below HLS5.out.below)
    have HRL := Lib.hid (H3.out.below HLS5.out.below)
    clear S1 hb5 HLS2 HLS3 HLS4 HR2 HR3 HLR H1 H2 H3 hNNb
    go_wp2_with fail
    by_cases hp : p = a1
    · cases ho : others lead with
      | true =>
        subst hp
        have CW := whole_no2 lead A D n c p c'' a2 _ HRL.out (by omega) ho
        have hne : opens lead ≠ p := fun h => by
          have := (opens_all lead).1 (by rw [h, L3.out])
          rw [this] at ho; cases ho
        have HNE := Lib.hid hne
        clear ho hne e0 e1 e2 e3 e4 e5
        refine CW.mono ?_
        rintro e w6 ⟨rfl, hb6⟩
        have HRL6 := Lib.hid (HRL.out.below hb6)
        have HLS6 := Lib.hid (HLS5.out.step hb6)
        have HB6 := Lib.hid HLS6.out.below
        obtain ⟨e0, e1, e2, e3, e4, e5⟩ := HLS6.out.cells
        clear hb6 CW HLS5 HR1 HRL
        go_wp2_with fail
        go_loop [13, 14] (fun s j => ∃ (i : Nat), i ≤ p ∧ j = .int .i64 i ∧ s = .int .i64 (opens (lead.take i))) (fun _ j => p - (intOf j).toNat)
        case atStart => exact ⟨0, by omega, by simp, by simp [opens]⟩
        case round =>
          obtain ⟨i, hi, rfl, rfl⟩ := hrel
          have hob := opens_le (lead.take i)
          have hob2 : opens (lead.take i) ≤ 50 := by rw [List.length_take] at hob; omega
          clear hob
          by_cases hlt : i < p
          · obtain ⟨bl, off, rfl, hbl, hcells⟩ := HRL6.out.2 (by omega)
            have hi' : i < lead.length := by have := L3.out; omega
            have d0 := (hcells i hi').cells.1
            have TS : Hid (opens (lead.take (i + 1)) = opens (lead.take i) + (if lead[i].k = 1 then 1 else 0)) := Lib.hid (by rw [List.take_succ_eq_append_getElem hi', opens_snoc])
            clear hcells hbl
            generalize hK : lead[i].k = kd at d0 TS
            generalize hO : opens (lead.take i) = O at hob2 TS ⊢
            clear hK hO
            by_cases hk : kd = 1
            · subst hk
              have N1 : Hid (opens (lead.take (i + 1)) = O + 1) := Lib.hid (by rw [TS.out]; rfl)
              clear TS
              go_wp2
              go_round
              case rel => exact ⟨i + 1, by omega, by go_num, by rw [N1.out]; go_num⟩
              case measure => simp [intOf]; omega
            · have N1 : Hid (opens (lead.take (i + 1)) = O) := Lib.hid (by rw [TS.out, if_neg hk]; rfl)
              have hk' : (kd == 1) = false := by simpa using hk
              clear TS
              go_wp2
              go_round
              case rel => exact ⟨i + 1, by omega, by go_num, by rw [N1.out]⟩
              case measure => simp [intOf]; omega
          · obtain rfl : i = p := by omega
            have hT : lead.take i = lead := by rw [List.take_of_length_le]; rw [L3.out]; exact Nat.le_refl _
            rw [hT] at hob2 ⊢
            clear hT
            have hne : ((opens lead : Int) != (i : Int)) = true := by have := HNE.out; simp; omega
            have hne2 : ((opens lead : Int) == (i : Int)) = false := by have := HNE.out; simp; omega
            go_wp2_with (go_at_call 4; (refine (live_any _).mono ?_); rintro e w7 ⟨rfl, hb7⟩)
            go_ret
            exact ⟨rfl, HB6.out.trans (hb7.mono HB6.out.size)⟩
      | false =>
        subst hp
        have CW := whole_yes l lead A D n c p c'' a2 _ HR1.out HRL.out (by omega) (by omega) (by omega) ho
        have heq : opens lead = p := by rw [(opens_all lead).2 ho, L3.out]
        have HEQ := Lib.hid heq
        clear ho heq e0 e1 e2 e3 e4 e5
        refine CW.mono ?_
        rintro e w6 ⟨v6, rfl, ho6, hb6⟩
        obtain ⟨A6, c6, hv6, hc6, hr6⟩ := ho6.row
        obtain ⟨ML, hML⟩ : ∃ x, x = (lead ++ l ++ List.replicate a2 closeTk).length := ⟨_, rfl⟩
        have hMb : ML ≤ 400 := by rw [hML, List.length_append, List.length_append, List.length_replicate, L1.out, L3.out]; omega
        rw [← hML] at hv6 hr6
        have HML := Lib.hid hML
        clear hML
        subst hv6
        have HRL6 := Lib.hid (HRL.out.below hb6)
        have HR6 := Lib.hid (HR1.out.below hb6)
        have HLS6 := Lib.hid (HLS5.out.step hb6)
        have HB6 := Lib.hid HLS6.out.below
        obtain ⟨e0, e1, e2, e3, e4, e5⟩ := HLS6.out.cells
        have HW6 := Lib.hid hr6
        clear hb6 CW HLS5 HR1 HRL ho6 hr6 hc6
        go_wp2_with fail
        go_loop [13, 14] (fun s j => ∃ (i : Nat), i ≤ p ∧ j = .int .i64 i ∧ s = .int .i64 (opens (lead.take i))) (fun _ j => p - (intOf j).toNat)
        case atStart => exact ⟨0, by omega, by simp, by simp [opens]⟩
        case round =>
          obtain ⟨i, hi, rfl, rfl⟩ := hrel
          have hob := opens_le (lead.take i)
          have hob2 : opens (lead.take i) ≤ 50 := by rw [List.length_take] at hob; omega
          clear hob
          by_cases hlt : i < p
          · obtain ⟨bl, off, rfl, hbl, hcells⟩ := HRL6.out.2 (by omega)
            have hi' : i < lead.length := by have := L3.out; omega
            have d0 := (hcells i hi').cells.1
            have TS : Hid (opens (lead.take (i + 1)) = opens (lead.take i) + (if lead[i].k = 1 then 1 else 0)) := Lib.hid (by rw [List.take_succ_eq_append_getElem hi', opens_snoc])
            clear hcells hbl
            generalize hK : lead[i].k = kd at d0 TS
            generalize hO : opens (lead.take i) = O at hob2 TS ⊢
            clear hK hO
            by_cases hk : kd = 1
            · subst hk
              have N1 : Hid (opens (lead.take (i + 1)) = O + 1) := Lib.hid (by rw [TS.out]; rfl)
              clear TS
              go_wp2
              go_round
              case rel => exact ⟨i + 1, by omega, by go_num, by rw [N1.out]; go_num⟩
              case measure => simp [intOf]; omega
            · have N1 : Hid (opens (lead.take (i + 1)) = O) := Lib.hid (by rw [TS.out, if_neg hk]; rfl)
              have hk' : (kd == 1) = false := by simpa using hk
              clear TS
              go_wp2
              go_round
              case rel => exact ⟨i + 1, by omega, by go_num, by rw [N1.out]⟩
              case measure => simp [intOf]; omega
          · obtain rfl : i = p := by omega
            have hT : lead.take i = lead := by rw [List.take_of_length_le]; rw [L3.out]; exact Nat.le_refl _
            rw [hT] at hob2 ⊢
            clear hT
            rw [HEQ.out] at hob2 ⊢
            have T6 := Lib.hid (tks_empty w6 w6.heap.size (Nat.le_refl _))
            have B60 := Lib.hid ((Below.refl w6.heap.size w6).alloc (Nat.le_refl _) (.cells #[] 35))
            have RL7 := Lib.hid (HRL6.out.alloc (.cells #[] 35))
            go_wp2_with (first
              | (at_builtin; (refine wpList_app_tk rfl (.tmp 97) (.tmp 98) rfl w6.heap.size _ lead rfl HO7.out A n c l rfl HR7.out (by rw [L3.out]; omega) HS7.out ?_); intro v8 w8 ho8 hg8 hat8; obtain ⟨A8, c8, hv8⟩ := ho8.form; have HB8 := Lib.hid (tks_of_grown HB7.out HO7.out hg8 HS7.out); have HO8 := Lib.hid ho8; subst hv8; clear ho8 hg8 hat8)
              | (at_builtin; (refine wpList_app_tk rfl (.tmp 95) (.tmp 96) rfl w6.heap.size _ [] rfl T6.out D i c'' lead rfl RL7.out (by simp; omega) (by simp) ?_); intro v7 w7 ho7 hg7 hat7; have HB7 := Lib.hid (tks_of_grown B60.out T6.out hg7 (by simp)); have HO7 := Lib.hid ho7; rw [List.nil_append] at HO7; have HS7 : Hid (w6.heap.size ≤ w7.heap.size) := Lib.hid HB7.out.size; have HR7 := Lib.hid (HR6.out.below HB7.out); clear ho7 hg7 hat7))
            obtain ⟨N8, hN8⟩ : ∃ x, x = (lead ++ l).length := ⟨_, rfl⟩
            have hN8b : N8 ≤ 200 := by rw [hN8, List.length_append, L1.out, L3.out]; omega
            have HN8 := Lib.hid hN8
            clear hN8 T6 B60 RL7 HO7 HR7 HS7 HB7 e0 e1 e2 e3 e4 e5
            go_loopw [15, 16] (fun v j wr => ∃ (q : Nat), q ≤ a2 ∧ j = .int .i64 q ∧ Hid (Tks w6.heap.size wr v (lead ++ l ++ List.replicate q closeTk)) ∧ Hid (Below w6.heap.size w6 wr)) (fun _ j _ => a2 - (intOf j).toNat)
            case atStart => exact ⟨0, by omega, by simp, Lib.hid (by simpa using HO8.out), HB8⟩
            case round =>
              clear HO8 HB8
              obtain ⟨q, hq, rfl, HO, HB⟩ := hrel
              obtain ⟨A1, c1, hv1, hc1, hr1⟩ := HO.out.row
              subst hv1
              have hs : w6.heap.size ≤ wr.heap.size := HB.out.size
              have HLSr := Lib.hid (HLS6.out.step HB.out)
              have e2 := HLSr.out.cells.2.2.1
              have HOA := Lib.hid (HO.out.alloc (.cells (tcells closeTk).toArray 35))
              have HROW := Lib.hid (trow_one wr closeTk 35)
              have HLK : Hid ((lead ++ l ++ List.replicate q closeTk).length = N8 + q) := Lib.hid (by rw [List.length_append, List.length_replicate, HN8.out])
              have HR1 := Lib.hid hr1
              clear hr1 hc1
              by_cases hlt : q < a2
              · go_wp2_with (at_builtin; (refine wpList_app_tk rfl (.tmp 106) (.tmp 108) rfl w6.heap.size _ _ rfl HOA.out _ 1 _ [closeTk] rfl HROW.out (by rw [HLK.out]; omega) (by simp; omega) ?_); intro v' w9 hown' hg hat)
                have N1 : Hid (Tks w6.heap.size w9 v' (lead ++ l ++ List.replicate (q + 1) closeTk)) := Lib.hid (by rw [List.replicate_succ', ← List.append_assoc]; exact hown')
                have N2 := Lib.hid (tks_of_grown (HB.out.alloc hs (.cells (tcells closeTk).toArray 35)) HOA.out hg (by simp; omega))
                clear hown' hg hat
                go_wp2
                go_roundw
                case rel => exact ⟨q + 1, by omega, by go_num, N1, N2⟩
                case measure => simp [intOf]; omega
              · obtain rfl : q = a2 := by omega
                clear HOA HROW HLK
                rw [← HML.out] at HR1 ⊢
                have SS := rsame_any (lead ++ l ++ List.replicate q closeTk) (lead ++ l ++ List.replicate q closeTk) A6 A1 ML ML c6 c1 wr (HW6.out.below HB.out) HR1.out (by omega) (by omega)
                rw [show decide (lead ++ l ++ List.replicate q closeTk = lead ++ l ++ List.replicate q closeTk) = true from by simp] at SS
                have HBr := Lib.hid HLSr.out.below
                clear HO HB HLSr HR1 HML HLS6
                go_wp2_with fail
                refine SS.mono ?_
                rintro e w10 ⟨rfl, q10, rfl⟩
                clear SS
                go_wp2_with (go_at_call 4; (refine (live_any _).mono ?_); rintro e w11 ⟨rfl, hb11⟩)
                go_ret
                exact ⟨rfl, (Mem.below_drewN HBr.out q10).trans (hb11.mono HBr.out.size)⟩
    · have CW := whole_no1 A D n c p c'' a1 a2 w5 hp
      clear e0 e1 e2 e3 e4 e5
      refine CW.mono ?_
      rintro e w6 ⟨rfl, hb6⟩
      have HRL6 := Lib.hid (HRL.out.below hb6)
      have HLS6 := Lib.hid (HLS5.out.step hb6)
      have HB6 := Lib.hid HLS6.out.below
      obtain ⟨e0, e1, e2, e3, e4, e5⟩ := HLS6.out.cells
      clear hb6 CW HLS5 HR1 HRL
      go_wp2_with fail
      go_loop [13, 14] (fun s j => ∃ (i : Nat), i ≤ p ∧ j = .int .i64 i ∧ s = .int .i64 (opens (lead.take i))) (fun _ j => p - (intOf j).toNat)
      case atStart => exact ⟨0, by omega, by simp, by simp [opens]⟩
      case round =>
        obtain ⟨i, hi, rfl, rfl⟩ := hrel
        have hob := opens_le (lead.take i)
        have hob2 : opens (lead.take i) ≤ 50 := by rw [List.length_take] at hob; omega
        clear hob
        by_cases hlt : i < p
        · obtain ⟨bl, off, rfl, hbl, hcells⟩ := HRL6.out.2 (by omega)
          have hi' : i < lead.length := by have := L3.out; omega
          have d0 := (hcells i hi').cells.1
          have TS : Hid (opens (lead.take (i + 1)) = opens (lead.take i) + (if lead[i].k = 1 then 1 else 0)) := Lib.hid (by rw [List.take_succ_eq_append_getElem hi', opens_snoc])
          clear hcells hbl
          generalize hK : lead[i].k = kd at d0 TS
          generalize hO : opens (lead.take i) = O at hob2 TS ⊢
          clear hK hO
          by_cases hk : kd = 1
          · subst hk
            have N1 : Hid (opens (lead.take (i + 1)) = O + 1) := Lib.hid (by rw [TS.out]; rfl)
            clear TS
            go_wp2
            go_round
            case rel => exact ⟨i + 1, by omega, by go_num, by rw [N1.out]; go_num⟩
            case measure => simp [intOf]; omega
          · have N1 : Hid (opens (lead.take (i + 1)) = O) := Lib.hid (by rw [TS.out, if_neg hk]; rfl)
            have hk' : (kd == 1) = false := by simpa using hk
            clear TS
            go_wp2
            go_round
            case rel => exact ⟨i + 1, by omega, by go_num, by rw [N1.out]⟩
            case measure => simp [intOf]; omega
        · obtain rfl : i = p := by omega
          have hT : lead.take i = lead := by rw [List.take_of_length_le]; rw [L3.out]; exact Nat.le_refl _
          rw [hT] at hob2 ⊢
          clear hT
          by_cases hne : opens lead = i
          · rw [hne]
            have hne2 : ((i : Int) != (a1 : Int)) = true := by simp; omega
            have hne3 : ((i : Int) == (a1 : Int)) = false := by simp; omega
            clear hne
            go_wp2_with (go_at_call 4; (refine (live_any _).mono ?_); rintro e w7 ⟨rfl, hb7⟩)
            go_ret
            exact ⟨rfl, HB6.out.trans (hb7.mono HB6.out.size)⟩
          · have hne1 : ((opens lead : Int) != (i : Int)) = true := by simp; omega
            have hne2 : ((opens lead : Int) == (i : Int)) = false := by simp; omega
            clear hne
            go_wp2_with (go_at_call 4; (refine (live_any _).mono ?_); rintro e w7 ⟨rfl, hb7⟩)
            go_ret
            exact ⟨rfl, HB6.out.trans (hb7.mono HB6.out.size)⟩
end Go.Proofs.Ytnmphoemiohgjaa.Sl
