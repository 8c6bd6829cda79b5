/- Walks of the reference of bag: Has, List; what a list of a bag is. -/
import Derived.Test.YtnbchikiiipejaaGreatDoorNrThen
import Derived.Test.YtnbchikiiipejaaGreatDoorNbList
import Derived.LoopTactic
import Derived.Test.YtnbchikiiipejaaGreatDoorExPR
import Derived.Test.YtnbchikiiipejaaGreatDoorExPl
import Derived.Test.YtnbchikiiipejaaGreatDoorLxEnds
import Derived.ProofKit
import Derived.OpenShut
import Derived.Deep.SlicePairs
import Derived.Deep.CutRange
set_option linter.unusedVariables false
set_option maxRecDepth 100000
set_option maxHeartbeats 1000000
namespace Go.Proofs.YtnbchikiiipejaaGreatDoor.Bg
open Go.RowKit Mem
theorem getD_of {zs : List Int} {k : Nat} (h : k < zs.length) : zs.getD k 0 = zs[k] := by simp [List.getD, List.getElem?_eq_getElem h]
theorem rhas_any (A : Option Addr) (n c : Nat) (zs : List Int) (m : Int) (w : World) (hr : Row .i64 w A n zs) (hn : n ≤ 1000000) :
  Calls Tryz.prog 77 #[.slice A n c, .int .i64 m] w fun e w' => e = .returned (.bool (decide (m ∈ zs))) ∧ w = w' := by
 go_enter Tryz.func77, Tryz.ntmps77
 go_wp2
 go_loop [5] (fun i => ∃ k : Nat, k ≤ n ∧ i = .int .i64 k ∧ Hid (∀ j, j < k → zs.getD j 0 ≠ m)) (fun i => n - (intOf i).toNat)
 case atStart => exact ⟨0, Nat.zero_le _, rfl, fun j hj => by omega⟩
 case round =>
  obtain ⟨k, hk, rfl, hno⟩ := hrel
  by_cases hlt : k < n
  ·obtain ⟨b, off, rfl, _, hc⟩ := hr.at_ (by omega)
   have hck := hc k hlt
   have hl : k < zs.length := by have := hr.1; omega
   obtain ⟨z, hz⟩ : ∃ z, z = zs.getD k 0 := ⟨_, rfl⟩
   rw [← hz] at hck
   have HZ := Lib.hid hz
   have HL := Lib.hid hl
   have HR := Lib.hid hr
   clear hz hc hl hr
   by_cases hm : z = m
   ·have hb : (z == m) = true := by simp [hm]
    have HM := Lib.hid hm
    clear hm
    go_wp2
    go_ret
    refine ⟨ret_bool ?_, rfl⟩
    symm
    rw [decide_eq_true_eq, ← HM.out, HZ.out, getD_of HL.out]
    exact List.getElem_mem HL.out
   ·have hb : (z == m) = false := by simpa using hm
    have HM := Lib.hid hm
    clear hm
    go_wp2
    go_round
    case rel => exact ⟨k + 1, by omega, by go_num, fun j hj => by
     by_cases e : j = k
     ·rw [e, ← HZ.out]; exact HM.out
     ·exact hno.out j (by omega)⟩
    case measure => simp [intOf]; omega
  ·obtain rfl : k = n := by omega
   have HR := Lib.hid hr
   clear hr
   go_wp2
   go_ret
   refine ⟨ret_bool ?_, rfl⟩
   symm
   rw [decide_eq_false_iff_not]
   intro hm
   obtain ⟨j, hj, e⟩ := List.getElem_of_mem hm
   exact hno.out j (by have := HR.out.1; omega) (by rw [getD_of hj, e])
def upL (p : Nat → Bool) (k : Nat) : List Int := ((List.range k).filter p).map Int.ofNat
theorem upL_yes {p : Nat → Bool} {k : Nat} (h : p k = true) : upL p (k + 1) = upL p k ++ [(k : Int)] := by
 unfold upL; rw [List.range_succ, List.filter_append]; simp [h]
theorem upL_no {p : Nat → Bool} {k : Nat} (h : p k = false) : upL p (k + 1) = upL p k := by
 unfold upL; rw [List.range_succ, List.filter_append]; simp [h]
theorem upL_len (p : Nat → Bool) (k : Nat) : (upL p k).length ≤ k := by
 unfold upL; rw [List.length_map]; exact Nat.le_trans (List.length_filter_le _ _) (by simp)
theorem upL_wf (p : Nat → Bool) (k : Nat) (hk : k ≤ 1000) : ∀ z ∈ upL p k, (Lit.int .i64 z).wf = true := by
 intro z hz
 obtain ⟨n, hn, rfl⟩ := List.mem_map.1 hz
 have := List.mem_range.1 (List.mem_filter.1 hn).1
 exact WalkArith.wf_i64 (by simp; omega)
theorem want_is (zs : List Int) : upL (fun j : Nat => decide ((j : Int) ∈ zs)) 256 = (ofL zs).list :=
 (list_of (ofL zs) _ fun n hn => by rw [ofL_hasN]; simp [hn]).symm
theorem rlist_any (A : Option Addr) (n c : Nat) (zs : List Int) (w : World) (hr : Row .i64 w A n zs) (hn : n ≤ 1000000) :
  Calls Tryz.prog 121 #[.slice A n c] w (Nf.IsSl' w (ofL zs).list) := by
 obtain ⟨i0, hi, hz, hs1, hs2⟩ := info_parts info_i64
 have HR := Lib.hid hr
 clear hr
 obtain ⟨p, hp⟩ : ∃ p : Nat → Bool, p = fun j : Nat => decide ((j : Int) ∈ zs) := ⟨_, rfl⟩
 have HP := Lib.hid hp
 clear hp
 go_enter Tryz.func121, Tryz.ntmps121
 go_wp2
 go_loopw [3, 4] (fun v i wr => ∃ (k : Nat), k ≤ 256 ∧ i = .int .i64 k ∧ wr.ownsRow w.heap.size 3 1 v (upL p k).length ((upL p k).map (Value.int .i64)) ∧ Below w.heap.size w wr) (fun _ i _ => 256 - (intOf i).toNat)
 case atStart => exact ⟨0, by omega, rfl, World.ownsRow_nil _ _ _ _, Below.refl _ _⟩
 case round =>
  obtain ⟨k, hk, rfl, ho, hb⟩ := hrel
  have hlen := upL_len p k
  have HO := Lib.hid ho
  have HB := Lib.hid hb
  have hbs := hb.size
  clear ho hb
  by_cases hlt : k < 256
  ·have hpk : decide ((k : Int) ∈ zs) = p k := by rw [HP.out]
   have HPK := Lib.hid hpk
   clear hpk
   by_cases hyes : p k = true
   ·have HY := Lib.hid hyes
    clear hyes
    have hrow : Row .i64 (wr.alloc (.cells #[.int .i64 k] 3 (0, 0))) (some ⟨wr.heap.size, 0, none⟩) 1 [(k : Int)] :=
     row_block (heap_alloc_new wr _) [(k : Int)] rfl 1 rfl (fun z hz => by simp at hz; subst hz; exact WalkArith.wf_i64 (by omega))
    have HROW := Lib.hid hrow
    have ho2 := HO.out.alloc (.cells #[.int .i64 k] 3 (0, 0))
    have HO2 := Lib.hid ho2
    clear hrow ho2
    obtain ⟨L, hL⟩ : ∃ L, L = upL p k := ⟨_, rfl⟩
    rw [← hL] at hlen HO HO2
    have HL := Lib.hid hL
    clear hL
    go_wp2_with (first
     | (go_at_call 77; refine (rhas_any A n c zs k _ (HR.out.below HB.out) hn).mono ?_; rw [HPK.out, HY.out]; rintro e w' ⟨rfl, rfl⟩)
     | (at_builtin; (refine wpList_app rfl (.tmp 12) (.tmp 14) _ rfl .i64 w.heap.size 3 i0 8 Tryz.underlying39 hi hz hs1 hs2 (by omega) _ L.length L rfl HO2.out _ 1 1 [(k : Int)] rfl HROW.out (by omega) (by simp; omega) ?_); intro v' w2 hown' hg hat))
    have HW2 : Hid (Below w.heap.size w w2) := (HB.out.alloc hbs _).grown hg (by simp; omega) (fun j hj => (HO.out.lt j hj).1)
    have HOW := Lib.hid hown'
    clear hown' hg hat
    go_wp2
    go_roundw
    case rel => exact ⟨k + 1, by omega, by go_num, by rw [upL_yes HY.out, ← HL.out]; simpa using HOW.out, HW2.out⟩
    case measure => simp [intOf]; omega
   ·have hno : p k = false := by simpa using hyes
    have HN := Lib.hid hno
    clear hyes hno
    go_wp2_with (go_at_call 77; refine (rhas_any A n c zs k _ (HR.out.below HB.out) hn).mono ?_; rw [HPK.out, HN.out]; rintro e w' ⟨rfl, rfl⟩)
    go_roundw
    case rel => exact ⟨k + 1, by omega, by go_num, by rw [upL_no HN.out]; exact HO.out, HB.out⟩
    case measure => simp [intOf]; omega
  ·obtain rfl : k = 256 := by omega
   go_wp2
   go_ret
   have e : upL p 256 = (ofL zs).list := by rw [HP.out]; exact want_is zs
   have ho := HO.out
   rw [e] at ho
   obtain ⟨A1, c1, rfl⟩ := Nf.Ent.form1 ho
   exact ⟨A1, c1, rfl, ho, (fun z hz => upL_wf p 256 (by omega) z (by rw [e]; exact hz)), HB.out⟩
end Go.Proofs.YtnbchikiiipejaaGreatDoor.Bg
namespace Go.Proofs.YtnbchikiiipejaaGreatDoor.Nf
open Go.RowKit Mem
open Bg (Bag)
structure MI where
 name : List UInt8
 on : List Int
def MR (w : World) (A : Option Addr) (n : Nat) (l : List MI) : Prop :=
 l.length = n ∧ (0 < n → ∃ b off, A = some ⟨b, off, none⟩ ∧ b < w.heap.size ∧ ∀ j (h : j < l.length), w.cell? ⟨b, off + j * 2, none⟩ = some (.string ⟨l[j].name.toArray⟩) ∧ ∃ kv, w.cell? ⟨b, off + j * 2 + 1, none⟩ = some kv ∧ Ex.KR w kv l[j].on)
theorem MR.below {w w' : World} {A : Option Addr} {n : Nat} {l : List MI} (h : MR w A n l) (hb : Below w.heap.size w w') : MR w' A n l :=
 ⟨h.1, fun hn => by
  obtain ⟨b, off, e, hl, hc⟩ := h.2 hn
  refine ⟨b, off, e, Nat.lt_of_lt_of_le hl hb.size, fun j hj => ?_⟩
  obtain ⟨a0, kv, a1, a2⟩ := hc j hj
  have k := fun o => hb.cell (p := ⟨b, o, none⟩) hl
  exact ⟨(k _).trans a0, kv, (k _).trans a1, a2.below hb⟩⟩
def onOf : List MI → List UInt8 → List Int
 | [], _ => []
 | x :: t, nm => if x.name = nm then x.on else onOf t nm
def mOf (l : List MI) (nm : List UInt8) : Bag := Bg.ofL (onOf l nm)
theorem mOf_ok (l : List MI) (nm : List UInt8) : (mOf l nm).ok := Bg.ofL_ok _
theorem onOf_at : ∀ (l : List MI) (nm : List UInt8) (i : Nat) (hi : i < l.length), (∀ j (hj : j < i), (l[j]'(by omega)).name ≠ nm) → l[i].name = nm → onOf l nm = l[i].on
 | x :: t, nm, 0, _, _, h => by
  simp only [List.getElem_cons_zero] at h
  simp only [onOf]; rw [if_pos h]; rfl
 | x :: t, nm, i + 1, hi, hno, h => by
  have h0 := hno 0 (by omega)
  simp only [List.getElem_cons_zero] at h0
  simp only [onOf]; rw [if_neg h0]
  exact onOf_at t nm i (by simpa using hi) (fun j hj => by have := hno (j + 1) (by omega); simpa using this) h
theorem onOf_none : ∀ (l : List MI) (nm : List UInt8), (∀ j (hj : j < l.length), l[j].name ≠ nm) → onOf l nm = []
 | [], _, _ => rfl
 | x :: t, nm, hno => by
  have h0 := hno 0 (by simp)
  simp only [List.getElem_cons_zero] at h0
  simp only [onOf]; rw [if_neg h0]
  exact onOf_none t nm (fun j hj => by have := hno (j + 1) (by simpa using hj); simpa using this)
theorem means_any (A : Option Addr) (n c : Nat) (l : List MI) (nm : List UInt8) (w : World) (h : MR w A n l) (hn : n ≤ 1000000) (hk : ∀ p ∈ l, p.on.length ≤ 1000000) :
  Calls Tryz.prog 71 #[.slice A n c, .string ⟨nm.toArray⟩] w fun e W' => ∃ A' n' c', e = .returned (.slice A' n' c') ∧ LRow W' (.slice A' n' c') (mOf l nm).list ∧ Below w.heap.size w W' := by
 have HM := Lib.hid h
 have HL := Lib.hid h.1
 have HK := Lib.hid hk
 clear h hk
 go_enter Tryz.func71, Tryz.ntmps71
 go_wp2
 go_loopw [5] (fun iv wr => ∃ i : Nat, iv = .int .i64 i ∧ i ≤ n ∧ Hid (Below w.heap.size w wr) ∧ Hid (∀ j (hj : j < l.length), j < i → l[j].name ≠ nm)) (fun iv _ => n - (intOf iv).toNat)
 case atStart => exact ⟨0, rfl, by omega, Lib.hid (Below.refl _ _), Lib.hid (fun j hj h => by omega)⟩
 case round =>
  obtain ⟨i, rfl, hi, hB, hN⟩ := hrel
  by_cases hlt : i < n
  ·have hil : i < l.length := by have := HL.out; omega
   obtain ⟨b, off, rfl, hb, hc⟩ := (HM.out.below hB.out).2 (by omega)
   obtain ⟨a0, kv, a1, a2⟩ := hc i hil
   have l1 : decide ((i : Int) < (n : Int)) = true := by simp; omega
   have HKI : Hid (l[i].on.length ≤ 1000000) := HK.out _ (List.getElem_mem hil)
   have HAT : Hid (l[i].name = nm → onOf l nm = l[i].on) := fun e => onOf_at l nm i hil (fun j hj => hN.out j (by omega) hj) e
   have HNX : Hid (l[i].name ≠ nm → ∀ j (hj : j < l.length), j < i + 1 → l[j].name ≠ nm) := fun e j hj h => by
    rcases Nat.lt_or_ge j i with g | g
    ·exact hN.out j hj g
    ·have : j = i := by omega
     subst this; exact e
   generalize l[i] = x at a0 a2 HKI HAT HNX
   obtain ⟨Ak, ck, rfl, hck, hrk⟩ := a2
   obtain ⟨xn, xo⟩ := x
   dsimp only at a0 a1 hck hrk
   have HRK := Lib.hid hrk
   have hkl : xo.length ≤ 1000000 := HKI.out
   clear hc hN hrk hil
   by_cases he : xn = nm
   ·have t1 : (xn == nm) = true := by simp [he]
    have HON : Hid (mOf l nm = Bg.ofL xo) := by show _ = _; unfold mOf; rw [HAT.out he]
    clear he HAT HNX
    go_wp2_with (go_at_call 121; refine (Bg.rlist_any Ak xo.length ck xo _ HRK.out hkl).mono ?_; rintro e w2 ⟨A2, c2, rfl, ho, hwf, hb2⟩; have HO := Lib.hid ho; have HW := Lib.hid hwf; have HB2 := Lib.hid (hB.out.trans (hb2.mono hB.out.size)); clear ho hwf hb2)
    go_ret
    exact ⟨_, _, _, rfl, by rw [HON.out]; exact LRow.of_own HO.out HW.out, HB2.out⟩
   ·have t1 : (xn == nm) = false := by simpa using he
    have HN2 := Lib.hid (HNX.out he)
    clear he HAT HNX
    go_wp2
    go_roundw
    case rel => exact ⟨i + 1, by go_num, by omega, hB, HN2⟩
    case measure => simp [intOf]; omega
  ·have hin : n = i := by omega
   subst hin
   have l1 : decide ((n : Int) < (n : Int)) = false := by simp
   have HON : Hid (mOf l nm = Bg.nil) := by
    show _ = _
    unfold mOf
    rw [onOf_none l nm (fun j hj => hN.out j hj (by have := HL.out; omega))]; rfl
   clear hN
   go_wp2
   go_ret
   refine ⟨none, 0, 0, rfl, ?_, hB.out⟩
   rw [HON.out]
   have e : Bg.nil.list = [] := by decide +kernel
   rw [e]; exact LRow.nil _ _
def fewM (l : List MI) : Bool := decide (l.length ≤ 20) && l.all fun x => decide (x.on.length ≤ 50 ∧ x.name.length ≤ 50)
theorem fewm_any (A : Option Addr) (n c : Nat) (l : List MI) (w : World) (h : MR w A n l) (hn : n ≤ maxLen) (hk : ∀ p ∈ l, p.name.length ≤ maxLen ∧ p.on.length ≤ maxLen) :
  Calls Tryz.prog 66 #[.slice A n c] w fun e w' => e = .returned (.bool (fewM l)) ∧ Below w.heap.size w w' := by
 unfold maxLen at hn hk
 have HM := Lib.hid h
 have HL := Lib.hid h.1
 have HK := Lib.hid hk
 clear h hk
 go_enter Tryz.func66, Tryz.ntmps66
 go_wp2
 go_loopw [3] (fun iv wr => ∃ i : Nat, iv = .int .i64 i ∧ i ≤ n ∧ i ≤ 21 ∧ Hid (Below w.heap.size w wr) ∧ Hid (∀ j (hj : j < l.length), j < i → l[j].on.length ≤ 50 ∧ l[j].name.length ≤ 50)) (fun iv _ => n - (intOf iv).toNat)
 case atStart => exact ⟨0, rfl, by omega, by omega, Lib.hid (Below.refl _ _), Lib.hid (fun j hj h => by omega)⟩
 case round =>
  obtain ⟨i, rfl, hi, hi21, hB, hN⟩ := hrel
  by_cases hlt : i < n ∧ i < 21
  ·obtain ⟨hlt, hlt2⟩ := hlt
   have hil : i < l.length := by have := HL.out; omega
   obtain ⟨b, off, rfl, hb, hc⟩ := (HM.out.below hB.out).2 (by omega)
   obtain ⟨a0, kv, a1, a2⟩ := hc i hil
   have l1 : decide ((i : Int) < (n : Int)) = true := by simp; omega
   have l2 : decide ((i : Int) < 21) = true := by simp; omega
   have HKI := Lib.hid (HK.out _ (List.getElem_mem hil))
   have HNO : Hid (¬ (l[i].on.length ≤ 50 ∧ l[i].name.length ≤ 50) → fewM l = false) := fun e => by
    unfold fewM
    rw [Bool.and_eq_false_iff]; right
    rw [← Bool.not_eq_true, List.all_eq_true]
    intro g
    exact e (of_decide_eq_true (g _ (List.getElem_mem hil)))
   have HNX : Hid (l[i].on.length ≤ 50 ∧ l[i].name.length ≤ 50 → ∀ j (hj : j < l.length), j < i + 1 → l[j].on.length ≤ 50 ∧ l[j].name.length ≤ 50) := fun e j hj h => by
    rcases Nat.lt_or_ge j i with g | g
    ·exact hN.out j hj g
    ·have : j = i := by omega
     subst this; exact e
   generalize l[i] = x at a0 a2 HKI HNO HNX
   obtain ⟨Ak, ck, rfl, hck, hrk⟩ := a2
   obtain ⟨xn, xo⟩ := x
   dsimp only at a0 a1 hck hrk
   have hsz : (⟨xn.toArray⟩ : ByteArray).size = xn.length := by simp [ByteArray.size]
   obtain ⟨nn, hnn⟩ : ∃ nn, xn.length = nn := ⟨_, rfl⟩
   obtain ⟨no, hno⟩ : ∃ no, xo.length = no := ⟨_, rfl⟩
   rw [hnn] at hsz
   rw [hno] at a1
   have HNN := Lib.hid hnn
   have HNOO := Lib.hid hno
   have hb1 : nn ≤ 9223372036854775807 := by have := HKI.out.1; dsimp only at this; omega
   have hb2 : no ≤ 9223372036854775807 := by have := HKI.out.2; dsimp only at this; omega
   clear hc hN hrk hil hnn hno hck
   by_cases h1 : 50 < no
   ·have t1 : decide ((50 : Int) < (no : Int)) = true := by simp; omega
    have HF := Lib.hid (HNO.out (by dsimp only; rw [HNOO.out]; omega))
    clear HNO HNX
    go_wp2
    go_ret
    exact ⟨by rw [HF.out]; rfl, hB.out⟩
   ·have t1 : decide ((50 : Int) < (no : Int)) = false := by simp; omega
    by_cases h2 : 50 < nn
    ·have t2 : decide ((50 : Int) < (nn : Int)) = true := by simp; omega
     have HF := Lib.hid (HNO.out (by dsimp only; rw [HNN.out]; omega))
     clear HNO HNX
     go_wp2
     go_ret
     exact ⟨by rw [HF.out]; rfl, hB.out⟩
    ·have t2 : decide ((50 : Int) < (nn : Int)) = false := by simp; omega
     have HN2 := Lib.hid (HNX.out (by dsimp only; rw [HNN.out, HNOO.out]; omega))
     clear HNO HNX
     go_wp2
     go_roundw
     case rel => exact ⟨i + 1, by go_num, by omega, by omega, hB, HN2⟩
     case measure => simp [intOf]; omega
  ·have HFE : Hid (fewM l = decide ((n : Int) ≤ 20)) := by
    show _ = _
    unfold fewM
    rw [HL.out]
    by_cases h20 : n ≤ 20
    ·have : (l.all fun x => decide (x.on.length ≤ 50 ∧ x.name.length ≤ 50)) = true := by
      rw [List.all_eq_true]
      intro x hx
      obtain ⟨j, hj, rfl⟩ := List.getElem_of_mem hx
      exact decide_eq_true (hN.out j hj (by have := HL.out; omega))
     rw [this, Bool.and_true]; simp; omega
    ·rw [show decide (n ≤ 20) = false from by simp; omega, Bool.false_and]; simp; omega
   have HBX := hB
   clear hN hB
   by_cases h3 : i < n
   ·have l1 : decide ((i : Int) < (n : Int)) = true := by simp; omega
    have l2 : decide ((i : Int) < 21) = false := by simp; omega
    go_wp2
    go_ret
    exact ⟨by rw [HFE.out]; rfl, HBX.out⟩
   ·have l1 : decide ((i : Int) < (n : Int)) = false := by simp; omega
    go_wp2
    go_ret
    exact ⟨by rw [HFE.out]; rfl, HBX.out⟩
end Go.Proofs.YtnbchikiiipejaaGreatDoor.Nf
namespace Go.Proofs.YtnbchikiiipejaaGreatDoor.Lx
open Go.ChangeShapes Go.WideShapes Go.Deep Go.RowKit
theorem choose_all {α : Type} {n : Nat} {R : Nat → α → Prop} (d : α) (h : ∀ i, i < n → ∃ x, R i x) : ∃ F : Nat → α, ∀ i, i < n → R i (F i) := by
 have h' : ∀ i, ∃ x, i < n → R i x := by
  intro i
  by_cases hi : i < n
  ·obtain ⟨x, hx⟩ := h i hi; exact ⟨x, fun _ => hx⟩
  ·exact ⟨d, fun h => absurd h hi⟩
 exact ⟨fun i => Classical.choose (h' i), fun i => Classical.choose_spec (h' i)⟩
end Go.Proofs.YtnbchikiiipejaaGreatDoor.Lx
namespace Go.Proofs.YtnbchikiiipejaaGreatDoor.Ex
open Go.ChangeShapes Go.WideShapes Go.Deep Go.RowKit Mem Lx
theorem open_ints {H : Type} {enc : TypeId × Value → H} {P : Program} {W : World} {spare : Nat → Bool} {held : Bool} {t e : TypeId} {fuel : Nat} {v : Value} {x : DataW H × List MemPlace}
  (ht : P.underlying t = some (.slice e)) (he : P.underlying e = some (.int .i64)) (ce : P.cellsOf e = 1)
  (h : DataW.trod enc P W 0 spare held fuel t [v] = some x) : ∃ ks : List Int, KR W v ks ∧ ks.length ≤ maxLen := by
 rcases open_slice1 ht ce h with ⟨hcs, _⟩ | ⟨a, len, cap, m, n, V, D, Pl, hcs, _, hl, hm, hmm, _, hx⟩
 ·simp only [List.cons.injEq, and_true] at hcs
  subst hcs
  exact ⟨[], ⟨none, 0, rfl, Nat.le_refl _, Row.nil⟩, Nat.zero_le _⟩
 ·simp only [List.cons.injEq, and_true] at hcs
  subst hcs
  have hlm : len ≤ m := by rw [hmm]; split <;> omega
  obtain ⟨F, hF⟩ := choose_all (n := len) (R := fun i (z : Int) => W.cell? (a.add i) = some (.int .i64 z) ∧ (Lit.int .i64 z).wf = true) 0 (fun i hi => by
   obtain ⟨h1, h2⟩ := hx i (by omega)
   obtain ⟨z, c0, _, w0⟩ := DataW.trod_int he h2
   simp only [List.cons.injEq, and_true] at c0
   rw [c0] at h1
   exact ⟨z, h1, w0⟩)
  refine ⟨(List.range len).map F, ⟨some a, cap, by simp, by simpa using hl, by simp, fun z hz => ?_, fun hp => ?_⟩, by simp; omega⟩
  ·obtain ⟨i, hi, rfl⟩ := List.mem_map.1 hz
   exact (hF i (List.mem_range.1 hi)).2
  ·simp only [List.length_map, List.length_range] at hp ⊢
   obtain ⟨b, off, spot⟩ := a
   have hspot : spot = none := by
    have hc := (hF 0 hp).1
    simpa [Addr.add] using World.cell?_spot hc
   subst hspot
   refine ⟨b, off, rfl, fun j hj => ?_⟩
   have := (hF j hj).1
   rw [add_plain] at this
   rw [this]
   simp [hj]
end Go.Proofs.YtnbchikiiipejaaGreatDoor.Ex
namespace Go.Proofs.YtnbchikiiipejaaGreatDoor.Nf
open Go.ChangeShapes Go.WideShapes Go.Deep Go.RowKit Mem
open Lx (choose_all)
open Ex (KR)
theorem open_means {H : Type} {enc : TypeId × Value → H} {P : Program} {W : World} {spare : Nat → Bool} {held : Bool} {t e ti ts tk : TypeId} {f0 f1 : Field} {fuel : Nat} {a0 : Option Addr} {len0 cap0 : Nat} {x : DataW H × List MemPlace}
  (ht : P.underlying t = some (.slice e)) (he : P.underlying e = some (.struct #[f0, f1])) (hce : P.cellsOf e = 2)
  (hi : P.underlying ti = some (.int .i64)) (hs : P.underlying ts = some .string) (hk : P.underlying tk = some (.slice ti))
  (k0 : f0.type = ts ∧ f0.offset = 0) (k1 : f1.type = tk ∧ f1.offset = 1)
  (ci : P.cellsOf ti = 1) (cst : P.cellsOf ts = 1) (ck : P.cellsOf tk = 1)
  (h : DataW.trod enc P W 0 spare held fuel t [.slice a0 len0 cap0] = some x) :
  ∃ l : List MI, MR W a0 len0 l ∧ len0 ≤ maxLen ∧ ∀ p ∈ l, p.name.length ≤ maxLen ∧ p.on.length ≤ maxLen := by
 rcases open_slice ht h with ⟨hcs, _⟩ | ⟨a, len, cap, m, n, D, Pl, hcs, _, hl, hm, hmm, _, hx⟩
 ·simp only [List.cons.injEq, and_true, Value.slice.injEq] at hcs
  obtain ⟨rfl, rfl, rfl⟩ := hcs
  exact ⟨[], ⟨rfl, fun h => absurd h (by omega)⟩, Nat.zero_le _, fun x hx => by simp at hx⟩
 ·simp only [List.cons.injEq, and_true, Value.slice.injEq] at hcs
  obtain ⟨rfl, rfl, rfl⟩ := hcs
  have hlm : len0 ≤ m := by rw [hmm]; split <;> omega
  have each : ∀ i, i < len0 → ∃ q : MI × Value, (q.1.name.length ≤ maxLen ∧ q.1.on.length ≤ maxLen) ∧ KR W q.2 q.1.on ∧ ∀ j v, ([Value.string ⟨q.1.name.toArray⟩, q.2] : List Value)[j]? = some v → W.cell? ((a.add (i * 2)).add j) = some v := by
   intro i hil
   obtain ⟨cs', h1, h2⟩ := hx i (by omega)
   rw [hce] at h1
   obtain ⟨_, hlen, hcell⟩ := World.cells?_some h1
   obtain ⟨ys, m2, _, hy, _, hyl, hyf⟩ := DataW.trod_struct he h2
   match ys, hyl, cs', hlen with
   | [y0, y1], _, [v0, v1], _ =>
    have g0 := hyf 0 f0 rfl
    have g1 := hyf 1 f1 rfl
    rw [k0.1, k0.2, cst] at g0
    rw [k1.1, k1.2, ck] at g1
    simp only [List.getElem?_cons_zero, List.getElem?_cons_succ, List.drop_zero, List.drop_succ_cons, List.take_succ_cons, List.take_zero] at g0 g1
    obtain ⟨s, c0, _, w0⟩ := DataW.trod_string hs g0
    obtain ⟨ks, hkr, hkl⟩ := Ex.open_ints hk hi ci g1
    simp only [List.cons.injEq, and_true] at c0
    subst c0
    refine ⟨⟨⟨s.data.toList, ks⟩, v1⟩, ⟨by simpa using w0, hkl⟩, hkr, fun j v hj => ?_⟩
    have hj' : ([Value.string s, v1] : List Value)[j]? = some v := by
     rw [← hj]
    have hjl : j < 2 := by
     have := (List.getElem?_eq_some_iff.1 hj').1
     simpa using this
    have := hcell j hjl
    rw [this]; exact hj'
  obtain ⟨F, hF⟩ := choose_all ⟨⟨[], []⟩, .slice none 0 0⟩ each
  refine ⟨(List.range len0).map (fun i => (F i).1), ⟨by simp, fun hp => ?_⟩, by omega, fun x hx => ?_⟩
  ·obtain ⟨b, off, spot⟩ := a
   have hspot : spot = none := by
    have hc := (hF 0 hp).2.2 0 _ rfl
    simpa [Addr.add] using World.cell?_spot hc
   subst hspot
   have ha : ∀ i j, ((⟨b, off, none⟩ : Addr).add i).add j = ⟨b, off + i + j, none⟩ := fun i j => by rw [add_plain, add_plain]
   have hlt : b < W.heap.size := by
    have hc := (hF 0 hp).2.2 0 _ rfl
    rw [ha] at hc
    exact World.block_lt_of_cell? W _ hc
   refine ⟨b, off, rfl, hlt, fun i hi => ?_⟩
   have hi' : i < len0 := by simpa using hi
   simp only [List.getElem_map, List.getElem_range]
   have c := fun j v hj => (hF i hi').2.2 j v hj
   have c0 := c 0 _ rfl
   have c1 := c 1 _ rfl
   rw [ha] at c0 c1
   exact ⟨c0, _, c1, (hF i hi').2.1⟩
  ·obtain ⟨i, hi, rfl⟩ := List.mem_map.1 hx
   exact (hF i (List.mem_range.1 hi)).1
end Go.Proofs.YtnbchikiiipejaaGreatDoor.Nf
