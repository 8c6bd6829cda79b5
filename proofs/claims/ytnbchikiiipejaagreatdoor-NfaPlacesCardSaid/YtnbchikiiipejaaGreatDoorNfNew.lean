/- Walk of nfa: New. -/
import Derived.Test.YtnbchikiiipejaaGreatDoorNfW
import Derived.Test.YtnbchikiiipejaaGreatDoorNfFew
import Derived.Test.YtnbchikiiipejaaGreatDoorExNmA
set_option linter.unusedVariables false
set_option maxRecDepth 100000
set_option maxHeartbeats 8000000
namespace Go.Proofs.YtnbchikiiipejaaGreatDoor.Nf
open Go.RowKit Mem
open Bg (Bag bagV Tab)
open Ex (Pt PI PR KR pl namesI rightI bs)
open Lx (Held)
theorem mem_addN {e : List PI} : ∀ (ns : List (List UInt8)) (x : List UInt8), x ∈ e.foldl Ex.addN ns ↔ (x ∈ ns ∨ ∃ p ∈ e, p.kind = 1 ∧ p.name = x) := by
 induction e with
 | nil => intro ns x; simp
 | cons p e ih =>
  intro ns x
  rw [List.foldl_cons, ih]
  unfold Ex.addN
  by_cases h : p.kind = 1 ∧ p.name ∉ ns
  ·rw [if_pos h]
   simp only [List.mem_append, List.mem_cons, List.not_mem_nil, or_false]
   constructor
   ·rintro ((g | g) | ⟨q, hq, h1, h2⟩)
    ·exact .inl g
    ·exact .inr ⟨p, .inl rfl, h.1, g.symm⟩
    ·exact .inr ⟨q, .inr hq, h1, h2⟩
   ·rintro (g | ⟨q, rfl | hq, h1, h2⟩)
    ·exact .inl (.inl g)
    ·exact .inl (.inr h2.symm)
    ·exact .inr ⟨q, hq, h1, h2⟩
  ·rw [if_neg h]
   simp only [List.mem_cons]
   constructor
   ·rintro (g | ⟨q, hq, h1, h2⟩)
    ·exact .inl g
    ·exact .inr ⟨q, .inr hq, h1, h2⟩
   ·rintro (g | ⟨q, rfl | hq, h1, h2⟩)
    ·exact .inl g
    ·left
     rw [← h2]
     exact Classical.byContradiction fun hn => h ⟨h1, hn⟩
    ·exact .inr ⟨q, hq, h1, h2⟩
theorem mem_names (e : List PI) (x : List UInt8) : x ∈ namesI e ↔ ∃ p ∈ e, p.kind = 1 ∧ p.name = x := by
 unfold namesI
 rw [mem_addN]; simp
def wholeN (E : List PI) (m : List UInt8 → Bag) : Pc × List En := if E.length = 0 then (emp, []) else write (E.map PI.toP) m E.length (E.length - 1) []
def idle (E : List PI) (m : List UInt8 → Bag) : Bool := (namesI E).any fun x => decide ((m x).list.length = 0)
def NewR (E : List PI) (m : List UInt8 → Bag) (w : World) (en : Ending) (w' : World) : Prop :=
 Below w.heap.size w w' ∧
  (if rightI E = false then en = .returned (.tuple #[.pointer none, .int .i64 1])
  else if idle E m = true then en = .returned (.tuple #[.pointer none, .int .i64 6])
  else if fewE E = false then en = .returned (.tuple #[.pointer none, .int .i64 7])
  else ∃ N, w.heap.size ≤ N ∧ en = .returned (.tuple #[.pointer (some ⟨N, 0, none⟩), .int .i64 0]) ∧ NS w.heap.size N w' (wholeN E m).2 (wholeN E m).1)
theorem fn_not (gf : Nat) (caps : Array Value) (w : World) : (binOp BinOp.eql 122 (Value.func (Fn.func gf) #[] caps) Value.nilFunc).run Tryz.prog w = .ok (.bool false) w := by kernel_rfl
theorem NBox.setP {W : World} {N : Nat} {v : Value} {p : Pc} (h : NBox W N v p) (q : Pc) : NBox (((((((((W.setCell ⟨N, 1, none⟩ (.bool q.em)).setCell ⟨N, 1 + 1, none⟩ (.int .u64 q.first.a)).setCell ⟨N, 1 + 2, none⟩ (.int .u64 q.first.b)).setCell ⟨N, 1 + 3, none⟩ (.int .u64 q.first.c)).setCell ⟨N, 1 + 4, none⟩ (.int .u64 q.first.d)).setCell ⟨N, 1 + 5, none⟩ (.int .u64 q.ends.a)).setCell ⟨N, 1 + 6, none⟩ (.int .u64 q.ends.b)).setCell ⟨N, 1 + 7, none⟩ (.int .u64 q.ends.c)).setCell ⟨N, 1 + 8, none⟩ (.int .u64 q.ends.d)) N v q := by
 unfold NBox at h ⊢
 simp [World.setCell, Array.getElem?_modify, h]
theorem few_places {E : List PI} (hX : Expr E) (h : fewE E = true) : E.length = 0 ∨ places (E.map PI.toP) E.length (E.length - 1) ≤ 256 := by
 unfold fewE at h
 rw [decide_eq_true_iff] at h
 by_cases h0 : E.length = 0
 ·exact .inl h0
 ·right
  rw [pl1_of hX.good _ _ (by omega)]
  exact h _ (by omega)
theorem new_any (A : Option Addr) (n c : Nat) (E : List PI) (m : List UInt8 → Bag) (gf : Nat) (caps : Array Value) (w : World) (hE : PR w A n E) (H : Held w) (hT : Tab w) (hn : n ≤ 100000)
  (hsm : ∀ p ∈ E, Ex.Small p ∧ p.kids.length ≤ 10000) (hM : Mns w gf caps m E) (hmk : ∀ p ∈ E, p.kind = 1 → (m p.name).ok)
  (hgf : ∀ args w, (callFunc gf args).run Tryz.prog w = .ok (.enter gf args) w) :
  Calls Tryz.prog 69 #[.slice A n c, .func (.func gf) #[] caps] w (NewR E m w) := by
 have HE := Lib.hid hE
 have HSM := Lib.hid hsm
 have HMM := Lib.hid hM
 have HMK := Lib.hid hmk
 have HT := Lib.hid hT
 have HLN := Lib.hid hE.1
 have HRC := hide (Ex.right_any A n c E w hE H hn (fun p hp => ⟨(hsm p hp).1, by have := (hsm p hp).2; omega⟩))
 have HWA := Lib.hid (fun (hX : Expr E) N p0 hN => write_any w N A n c p0 E m gf caps hE hX hsm hM hmk hT hN hn hgf)
 have HGF := Lib.hid hgf
 clear hE hsm hM hmk hT H hgf
 obtain ⟨r, hr⟩ : ∃ r, rightI E = r := ⟨_, rfl⟩
 rw [hr] at HRC
 have HR := Lib.hid hr
 clear hr
 have hfn := fn_not gf caps
 cases r
 ·go_enter Tryz.func69, Tryz.ntmps69
  go_wp2_with (go_at_call 117; (with_reducible refine (HRC.out).mono ?_); rintro en w1 ⟨rfl, hb1⟩; have HB1 := Lib.hid hb1; clear hb1)
  go_ret2
  refine ⟨HB1.out, ?_⟩
  rw [if_pos HR.out]
  rfl
 ·go_enter Tryz.func69, Tryz.ntmps69
  go_wp2_with (first
   | (go_at_call 117; (with_reducible refine (HRC.out).mono ?_); rintro en w1 ⟨rfl, hb1⟩; have HB1 := Lib.hid hb1; have HNM := hide (Ex.names_any A n c E w1 (HE.out.below hb1) hn); clear hb1)
   | (go_at_call 118; (with_reducible refine (HNM.out).mono ?_); rintro en w2 ⟨A2, c2, rfl, hs2, hb2⟩; have HB2 := Lib.hid (HB1.out.trans (hb2.mono HB1.out.size)); have HS2 := Lib.hid hs2; clear hb2 hs2))
  obtain ⟨ns, hns⟩ : ∃ ns, namesI E = ns := ⟨_, rfl⟩
  rw [hns] at HS2 ⊢
  have HNS := Lib.hid hns
  clear hns
  obtain ⟨cnt, hcnt⟩ : ∃ cnt, cnt = ns.length := ⟨_, rfl⟩
  rw [← hcnt] at HS2 ⊢
  have HCN := Lib.hid hcnt
  have hcb : cnt ≤ 100000 := by
   have h1 := Ex.names_len E []
   have h2 := HLN.out
   have h3 := HNS.out
   unfold namesI at h3
   rw [h3] at h1
   rw [hcnt]; simp at h1; omega
  clear hcnt
  go_loopw [19] (fun iv wr => ∃ k : Nat, k ≤ cnt ∧ iv = .int .i64 k ∧ Hid (Below w.heap.size w wr) ∧ Hid (SRow wr A2 cnt (bs ns)) ∧ Hid (∀ x ∈ ns.take k, (m x).list.length ≠ 0)) (fun iv _ => cnt - (intOf iv).toNat)
  case atStart => exact ⟨0, by omega, rfl, HB2, HS2, Lib.hid (by simp)⟩
  case round =>
   obtain ⟨k, hk, rfl, hB, hS, hQ⟩ := hrel
   by_cases hlt : k < cnt
   ·have hkn : k < ns.length := by have := HCN.out; omega
    have HLT := Lib.hid hlt
    obtain ⟨b, off, rfl, hb, hc⟩ := hS.out.2 (by omega)
    have c0 := hc k hlt
    have hgd : (bs ns).getD k ByteArray.empty = ⟨ns[k].toArray⟩ := by
     simp [bs, List.getD_eq_getElem?_getD, List.getElem?_map, List.getElem?_eq_getElem hkn]
    rw [hgd] at c0
    obtain ⟨p, hp, hpk, hpn⟩ := (mem_names E ns[k]).1 (by rw [HNS.out]; exact List.getElem_mem hkn)
    have hcall := HMM.out p hp hpk wr hB.out
    have hmok := HMK.out p hp hpk
    have htk : ns.take (k + 1) = ns.take k ++ [ns[k]] := by rw [List.take_succ_eq_append_getElem hkn]
    have hxm : ns[k] ∈ namesI E := by rw [HNS.out]; exact List.getElem_mem hkn
    rw [hpn] at hcall hmok
    generalize ns[k] = x at *
    obtain ⟨y, hy⟩ : ∃ y, m x = y := ⟨_, rfl⟩
    rw [hy] at hcall hmok
    have HCL := hide hcall
    have HYO := Lib.hid hmok
    have HTK := Lib.hid htk
    have HXM := Lib.hid hxm
    have HY := Lib.hid hy
    have hlen := Bg.list_length_le y
    have hl1 : decide ((k : Int) < (cnt : Int)) = true := by simp; omega
    obtain ⟨z, hz⟩ : ∃ z, y.list.length = z := ⟨_, rfl⟩
    have HZ := Lib.hid hz
    clear hc hgd hp hpk hpn hcall hmok htk hxm hy hz hlen
    by_cases hz0 : z = 0
    ·subst hz0
     have hgf := HGF.out
     go_wp2_with fail
     clear hgf
     refine (HCL.out).mono ?_
     rintro e w3 ⟨rfl, hb3⟩
     have HB3 := Lib.hid (hB.out.trans (hb3.mono hB.out.size))
     clear hb3
     unfold bagV
     go_wp2_with (go_at_call 64; refine (Bg.len_any y HYO.out _).mono ?_; rw [HZ.out]; rintro e w4 ⟨rfl, hb4⟩; have HB4 := Lib.hid (HB3.out.trans (hb4.mono HB3.out.size)); clear hb4)
     go_ret2
     refine ⟨HB4.out, ?_⟩
     rw [if_neg (by rw [HR.out]; simp), if_pos (by unfold idle; rw [List.any_eq_true]; exact ⟨x, HXM.out, by rw [HY.out, HZ.out]; rfl⟩)]
     rfl
    ·have hzt : ((z : Int) == 0) = false := by simpa using hz0
     have HQ2 : Hid (∀ x ∈ ns.take (k + 1), (m x).list.length ≠ 0) := by
      rw [HTK.out]
      intro u hu
      rcases List.mem_append.1 hu with hu | hu
      ·exact hQ.out u hu
      ·simp only [List.mem_singleton] at hu
       rw [hu, HY.out, HZ.out]; exact hz0
     have hgf := HGF.out
     go_wp2_with fail
     clear hgf
     refine (HCL.out).mono ?_
     rintro e w3 ⟨rfl, hb3⟩
     have HS3 := Lib.hid (hS.out.below hb3)
     have HB3 := Lib.hid (hB.out.trans (hb3.mono hB.out.size))
     clear hb3
     unfold bagV
     go_wp2_with (go_at_call 64; refine (Bg.len_any y HYO.out _).mono ?_; rw [HZ.out]; rintro e w4 ⟨rfl, hb4⟩; have HS4 := Lib.hid (HS3.out.below hb4); have HB4 := Lib.hid (HB3.out.trans (hb4.mono HB3.out.size)); clear hb4)
     go_roundw
     case rel => exact ⟨k + 1, HLT.out, by go_num, HB4, HS4, HQ2⟩
     case measure => have := HLT.out; simp [intOf]; omega
   ·obtain rfl : k = cnt := by omega
    have hl1 : decide ((k : Int) < (k : Int)) = false := by simp
    have HID : Hid (idle E m = false) := by
     show _ = _
     unfold idle
     rw [List.any_eq_false]
     intro u hu
     rw [HNS.out] at hu
     have h1 := hQ.out
     rw [List.take_of_length_le (by have := HCN.out; omega)] at h1
     simpa using h1 u hu
    have HFW := hide (few_any A n c E wr (HE.out.below hB.out) (right_expr HR.out) hn HSM.out)
    have HPLC := Lib.hid (few_places (right_expr HR.out))
    clear hQ hlt
    obtain ⟨rf, hrf⟩ : ∃ rf, fewE E = rf := ⟨_, rfl⟩
    rw [hrf] at HFW HPLC
    have HRF := Lib.hid hrf
    clear hrf
    cases rf
    ·go_wp2_with (go_at_call 119; (with_reducible refine (HFW.out).mono ?_); rintro en w3 ⟨rfl, hb3⟩; have HB3 := Lib.hid (hB.out.trans (hb3.mono hB.out.size)); clear hb3)
     go_ret2
     refine ⟨HB3.out, ?_⟩
     rw [if_neg (by rw [HR.out]; simp), if_neg (by rw [HID.out]; simp), if_pos HRF.out]
     rfl
    ·by_cases hn0 : n = 0
     ·subst hn0
      go_wp2_with (go_at_call 119; (with_reducible refine (HFW.out).mono ?_); rintro en w3 ⟨rfl, hb3⟩; have HB3 := Lib.hid (hB.out.trans (hb3.mono hB.out.size)); clear hb3)
      refine bodyPost_ret (v := .tuple #[.pointer (some ⟨w3.heap.size, 0, none⟩), .int .i64 0]) (by simp [results, Tryz.results69, go_sem]) rfl ⟨HB3.out.alloc HB3.out.size _, ?_⟩
      rw [if_neg (by rw [HR.out]; simp), if_neg (by rw [HID.out]; simp), if_neg (by rw [HRF.out]; simp)]
      refine ⟨w3.heap.size, HB3.out.size, rfl, ?_⟩
      have e : wholeN E m = (emp, []) := by unfold wholeN; rw [if_pos HLN.out]
      rw [e]
      exact ⟨_, heap_alloc_new _ _, Ent.nil, by simp [Value.ownBlock]⟩
     ·obtain ⟨n1, rfl⟩ : ∃ n1, n = n1 + 1 := ⟨n - 1, by omega⟩
      have hE0 : ¬ E.length = 0 := by rw [HLN.out]; omega
      have hw : wholeN E m = write (E.map PI.toP) m E.length (E.length - 1) [] := by unfold wholeN; rw [if_neg hE0]
      have HWN := Lib.hid hw
      have HPL := Lib.hid (HPLC.out rfl |>.resolve_left hE0)
      clear hw hE0 hn0
      have hn2 : n1 ≤ 100000 := by omega
      go_wp2_with (go_at_call 119; (with_reducible refine (HFW.out).mono ?_); rintro en w3 ⟨rfl, hb3⟩; have HB3 := Lib.hid (hB.out.trans (hb3.mono hB.out.size)); clear hb3)
      have hal := (Below.refl _ w3).alloc (Nat.le_refl _) (.cells #[.slice none 0 0, .bool true, .int .u64 0, .int .u64 0, .int .u64 0, .int .u64 0, .int .u64 0, .int .u64 0, .int .u64 0, .int .u64 0] 105)
      have hb4 := HB3.out.trans (hal.mono HB3.out.size)
      have hns0 : NS w.heap.size w3.heap.size (w3.alloc (.cells #[.slice none 0 0, .bool true, .int .u64 0, .int .u64 0, .int .u64 0, .int .u64 0, .int .u64 0, .int .u64 0, .int .u64 0, .int .u64 0] 105)) [] emp := ⟨_, heap_alloc_new _ _, Ent.nil, by simp [Value.ownBlock]⟩
      refine ((HWA.out (right_expr HR.out) w3.heap.size emp HB3.out.size) E.length n1 [] _ (by rw [HLN.out]; omega) (by omega) hb4 hns0 (by simp) (by have := HPL.out; rw [HLN.out] at this ⊢; simpa using this)).mono ?_
      rintro en w5 ⟨rfl, hn5, hf5⟩
      have HB5 := Lib.hid (hb4.trans (hf5.below (Nat.le_refl _) hb4.size))
      have hwn : wholeN E m = write (E.map PI.toP) m E.length n1 [] := by rw [HWN.out, HLN.out]; rfl
      obtain ⟨v, hx5, he5, hv5⟩ := hn5
      rw [← hwn] at he5 ⊢
      obtain ⟨P, hP⟩ : ∃ P, (wholeN E m).1 = P := ⟨_, rfl⟩
      rw [hP]
      have HP := Lib.hid hP
      have HX5 := Lib.hid hx5
      have HE5 := Lib.hid he5
      have HV5 := Lib.hid hv5
      obtain ⟨z0, z1, ⟨z2, z3, z4, z5⟩, z6, z7, z8, z9⟩ := hx5.cell; have f1 := hx5.free 1; have f2 := hx5.free 2; have f3 := hx5.free 3; have f4 := hx5.free 4; have f5 := hx5.free 5; have f6 := hx5.free 6; have f7 := hx5.free 7; have f8 := hx5.free 8; have f9 := hx5.free 9
      have hlt5 : w3.heap.size < w5.heap.size := hx5.lt
      clear hal hb4 hns0 hf5 hwn hP hx5 he5 hv5
      unfold pcV
      go_wp2
      have hs := HX5.out.setP P
      refine bodyPost_ret (v := .tuple #[.pointer (some ⟨w3.heap.size, 0, none⟩), .int .i64 0]) (by simp [results, Tryz.results69, go_sem]) rfl ⟨?_, ?_⟩
      ·have hz3 := HB3.out.size
       have s1 := fun {W1 : World} (h : Below w.heap.size w W1) (j : Nat) (u : Value) => h.setCell (p := ⟨w3.heap.size, j, none⟩) hz3 u
       exact s1 (s1 (s1 (s1 (s1 (s1 (s1 (s1 (s1 HB5.out _ _) _ _) _ _) _ _) _ _) _ _) _ _) _ _) _ _
      ·rw [if_neg (by rw [HR.out]; simp), if_neg (by rw [HID.out]; simp), if_neg (by rw [HRF.out]; simp)]
       refine ⟨w3.heap.size, HB3.out.size, rfl, v, ?_, ?_, HV5.out⟩
       ·rw [HP.out]; exact hs
       ·have o1 := fun {W1 : World} (h : Ent w.heap.size W1 v (wholeN E m).2) (j : Nat) (u : Value) => h.other (fun e => HV5.out e.symm) (b := w3.heap.size) j u
        exact o1 (o1 (o1 (o1 (o1 (o1 (o1 (o1 (o1 HE5.out _ _) _ _) _ _) _ _) _ _) _ _) _ _) _ _) _ _
end Go.Proofs.YtnbchikiiipejaaGreatDoor.Nf
