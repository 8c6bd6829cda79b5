/- Walk of nfa: write. -/
import Derived.Test.YtnbchikiiipejaaGreatDoorNfH
set_option linter.unusedVariables false
set_option maxRecDepth 100000
set_option maxHeartbeats 8000000
namespace Go.Proofs.YtnbchikiiipejaaGreatDoor.Nf
open Go.RowKit Mem
open Bg (Bag bagV Tab)
open Ex (Pt PI PR KR pl)
structure WS (w0 : World) (N : Nat) (w : World) (p0 : Pc) (e : List Pt) (m : List UInt8 → Bag) (f : Nat) (l : List En) (p : PI) (kv : Value) (pre : List Nat) (v : Value) (W : World) : Prop where
 net : NS w0.heap.size N W (sv e m f pre l).2 p0
 row : Pcs (w.heap.size + 2) W v (sv e m f pre l).1
 frame : NFrame w0.heap.size N w W
 part : PtAt W (w.heap.size + 1) p kv
 out : ∃ q, PAt W w.heap.size q
def WriteAt (w0 : World) (N : Nat) (A : Option Addr) (n c : Nat) (p0 : Pc) (e : List Pt) (m : List UInt8 → Bag) (mv : Value) (f : Nat) : Prop :=
 ∀ (k : Nat) (l : List En) (w : World), k < f → k < n → Below w0.heap.size w0 w → NS w0.heap.size N w l p0 → (∀ x ∈ l, x.ok) → l.length + places e f k ≤ 256 →
  Calls Tryz.prog 120 #[.pointer (some ⟨N, 0, none⟩), .slice A n c, .int .i64 k, mv] w fun en w' => en = .returned (pcV (write e m f k l).1) ∧ NS w0.heap.size N w' (write e m f k l).2 p0 ∧ NFrame w0.heap.size N w w'
def Mns (w0 : World) (gf : Nat) (caps : Array Value) (m : List UInt8 → Bag) (E : List PI) : Prop :=
 ∀ p ∈ E, p.kind = 1 → ∀ W, Below w0.heap.size w0 W → Calls Tryz.prog gf (#[.string ⟨p.name.toArray⟩] ++ caps) W fun e W' => e = .returned (bagV (m p.name)) ∧ Below W.heap.size W W'
theorem sum_le_sum {P : Nat → Nat} : ∀ {a b : List Nat}, a <+: b → (a.map P).sum ≤ (b.map P).sum := by
 rintro a _ ⟨t, rfl⟩
 rw [List.map_append, List.sum_append]; omega
theorem write_step (w0 : World) (N : Nat) (A : Option Addr) (n c : Nat) (p0 : Pc) (E : List PI) (m : List UInt8 → Bag) (gf : Nat) (caps : Array Value)
  (hE : Ex.PR w0 A n E) (hX : Expr E) (hsm : ∀ p ∈ E, Ex.Small p ∧ p.kids.length ≤ 10000) (hM : Mns w0 gf caps m E) (hmk : ∀ p ∈ E, p.kind = 1 → (m p.name).ok) (hT : Tab w0) (hN : w0.heap.size ≤ N) (hn : n ≤ 100000)
  (hgf : ∀ args w, (callFunc gf args).run Tryz.prog w = .ok (.enter gf args) w)
  (f : Nat) (IH : WriteAt w0 N A n c p0 (E.map PI.toP) m (.func (.func gf) #[] caps) f) : WriteAt w0 N A n c p0 (E.map PI.toP) m (.func (.func gf) #[] caps) (f + 1) := by
 intro k l w hkf hkn hbw hns hok hpl
 have hNs : N < w.heap.size := by obtain ⟨v, hx, _⟩ := hns; exact hx.lt
 have k1 : k < E.length := by have := hE.1; omega
 obtain ⟨b, off, rfl, hb0', hc⟩ := hE.2 (by omega)
 obtain ⟨a0, a1, a2, a3, kv, a4, ra⟩ := hc k k1
 have hb : b < w.heap.size := Nat.lt_of_lt_of_le hb0' hbw.size
 rw [← hbw.cell (p := ⟨b, off + k * 5, none⟩) hb0'] at a0
 rw [← hbw.cell (p := ⟨b, off + k * 5 + 1, none⟩) hb0'] at a1
 rw [← hbw.cell (p := ⟨b, off + k * 5 + 2, none⟩) hb0'] at a2
 rw [← hbw.cell (p := ⟨b, off + k * 5 + 3, none⟩) hb0'] at a3
 rw [← hbw.cell (p := ⟨b, off + k * 5 + 4, none⟩) hb0'] at a4
 have hpe : (E.map PI.toP)[k]? = some E[k].toP := by rw [List.getElem?_map, List.getElem?_eq_getElem k1]; rfl
 have hmem := List.getElem_mem k1
 have hpt : E[k].toP ∈ E.map PI.toP := List.mem_map.2 ⟨_, hmem, rfl⟩
 have hfour := hX.four _ hpt
 have hfit := hX.fit _ hpt
 have hoft := hX.often _ hpt
 have hgood := hX.good k _ hpe
 have hback : pl E[k].toP.kids = E[k].kids := by
  have h1 := congrArg (fun L : List PI => L[k]?) hX.back
  simp only [List.getElem?_map, List.getElem?_eq_getElem k1, Option.map_some, Option.some.injEq] at h1
  exact congrArg PI.kids h1
 have hwr : write (E.map PI.toP) m (f + 1) k l = close E[k].toP m (sv (E.map PI.toP) m f (kidsOf E[k].toP) l).1 (sv (E.map PI.toP) m f (kidsOf E[k].toP) l).2 := by
  simp only [write, hpe]
 have hpl2 : l.length + ((if E[k].toP.kind = 1 then 1 else 0) + ((kidsOf E[k].toP).map (places (E.map PI.toP) f)).sum) ≤ 256 := by
  have : places (E.map PI.toP) (f + 1) k = (if E[k].toP.kind = 1 then 1 else 0) + ((kidsOf E[k].toP).map (places (E.map PI.toP) f)).sum := by simp [places, hpe]
  rw [← this]; exact hpl
 have hsmk := hsm _ hmem
 have hMk := hM _ hmem
 have hmkk := hmk _ hmem
 generalize E[k] = p at *
 obtain ⟨kd, lo, hi, nm, kz⟩ := p
 obtain ⟨ks, hks⟩ : ∃ ks, ks = (PI.toP ⟨kd, lo, hi, nm, kz⟩).kids := ⟨_, rfl⟩
 rw [← hks] at hback hgood
 dsimp only at a0 a1 a2 a3 a4 ra hback hsmk hmkk
 obtain ⟨Ak, ck, rfl, hck, hrk⟩ := ra
 obtain ⟨q, hq⟩ : ∃ q, q = PI.toP ⟨kd, lo, hi, nm, kz⟩ := ⟨_, rfl⟩
 have hq1 : q.kind = kd ∧ q.low = lo ∧ q.high = hi ∧ q.name = nm ∧ q.kids = ks := by rw [hq, hks]; exact ⟨rfl, rfl, rfl, rfl, rfl⟩
 have hoi : Nf.often q = oftenI kd lo hi := by rw [hq]; rfl
 rw [← hq] at hfour hfit hoft hwr hpl2
 obtain ⟨r, hr⟩ : ∃ r, r = oftenI kd lo hi := ⟨_, rfl⟩
 have hW0 := (PAt.new w ⟨false, Bg.nil, Bg.nil⟩)
 have hb0 := ((Below.refl _ w).alloc (Nat.le_refl _) (.cells #[.bool false, .int .u64 0, .int .u64 0, .int .u64 0, .int .u64 0, .int .u64 0, .int .u64 0, .int .u64 0, .int .u64 0] 103)).alloc (by simp) (.cells #[.int .i64 kd, .int .i64 lo, .int .i64 hi, .string ⟨nm.toArray⟩, .slice Ak kz.length ck] 217)
 have hout := hW0.alloc (.cells #[.int .i64 kd, .int .i64 lo, .int .i64 hi, .string ⟨nm.toArray⟩, .slice Ak kz.length ck] 217)
 have hpart : PtAt ((w.alloc (.cells #[.bool false, .int .u64 0, .int .u64 0, .int .u64 0, .int .u64 0, .int .u64 0, .int .u64 0, .int .u64 0, .int .u64 0] 103)).alloc (.cells #[.int .i64 kd, .int .i64 lo, .int .i64 hi, .string ⟨nm.toArray⟩, .slice Ak kz.length ck] 217)) (w.heap.size + 1) ⟨kd, lo, hi, nm, kz⟩ (.slice Ak kz.length ck) := by
  have := heap_alloc_new (w.alloc (.cells #[.bool false, .int .u64 0, .int .u64 0, .int .u64 0, .int .u64 0, .int .u64 0, .int .u64 0, .int .u64 0, .int .u64 0] 103)) (.cells #[.int .i64 kd, .int .i64 lo, .int .i64 hi, .string ⟨nm.toArray⟩, .slice Ak kz.length ck] 217)
  rw [World.size_alloc] at this
  exact this
 have HB0 := Lib.hid hb0
 have HOUT := Lib.hid hout
 have HPART := Lib.hid hpart
 have HBW := Lib.hid hbw
 have HNS := Lib.hid hns
 have HOK := Lib.hid hok
 have HPL := Lib.hid hpl2
 have HWR := Lib.hid hwr
 have HQ := Lib.hid hq1
 have HR := Lib.hid (show Nf.often q = r by rw [hr]; exact hoi)
 have HFO := Lib.hid hfour
 have HFI := Lib.hid hfit
 have HOF := Lib.hid hoft
 have HKS := Lib.hid hback
 have HGD := Lib.hid hgood
 have HRK := Lib.hid hrk
 have HSM := Lib.hid hsmk
 have HMK := Lib.hid hMk
 have HMO := Lib.hid hmkk
 have HMA := Lib.hid (fun q (hq : q ∈ E.map PI.toP) (h1 : q.kind = 1) => show (m q.name).ok by
  obtain ⟨p', hp', rfl⟩ := List.mem_map.1 hq
  exact hmk p' hp' h1)
 have HIH := hide (fun (k : Nat) (l : List En) (w : World) (h1 : k < f) (h2 : k < n) (h3 : Below w0.heap.size w0 w) (h4 : NS w0.heap.size N w l p0) (h5 : ∀ x ∈ l, x.ok) (h6 : l.length + places (E.map PI.toP) f k ≤ 256) => IH k l w h1 h2 h3 h4 h5 h6)
 have HGF := Lib.hid hgf
 have HTB := Lib.hid hT
 have hkl : kz.length ≤ 10000 := hsmk.2
 have hr20 : r ≤ 20 := by rw [hr, ← hoi]; exact hoft.2
 clear hW0 hb0 hout hpart hbw hns hok hpl2 hwr hq1 hoi hfour hfit hoft hback hgood hrk hsmk hMk hmkk hmk hM IH hgf hc hpl hpt hmem hpe k1 hX hsm hE hq hks hT
 go_enter Tryz.func120, Tryz.ntmps120
 go_wp2_with (go_at_call 172; refine (often_ints kd lo hi ⟨nm.toArray⟩ (.slice Ak kz.length ck) _).mono ?_; rw [← hr]; rintro e w1 ⟨rfl, hb1⟩; have HB1 := Lib.hid hb1; clear hb1)
 have HS0 : Hid (WS w0 N w p0 (E.map PI.toP) m f l ⟨kd, lo, hi, nm, kz⟩ (.slice Ak kz.length ck) [] (.slice none 0 0) w1) := by
  have hbb := HB0.out.trans (HB1.out.mono (by simp; omega))
  exact ⟨HNS.out.belowAll hbb, Pcs.nil, NFrame.of_below hbb, HPART.out.below HB1.out (by simp), _, HOUT.out.below HB1.out (by simp; omega)⟩
 have hbase : w0.heap.size ≤ w.heap.size := HBW.out.size
 obtain ⟨i0, hi0, hz0, hs1, hs2⟩ := info_parts info_pc
 clear a0 a1 a2 a3 a4 hb0'
 go_loopw [10, 20] (fun v iv wr => ∃ (j : Nat) (A1 : Option Addr) (c1 : Nat), iv = .int .i64 j ∧ j ≤ r ∧ v = .slice A1 (j * ks.length) c1 ∧ Hid (WS w0 N w p0 (E.map PI.toP) m f l ⟨kd, lo, hi, nm, kz⟩ (.slice Ak kz.length ck) (List.replicate j ks).flatten (.slice A1 (j * ks.length) c1) wr)) (fun _ iv _ => r - (intOf iv).toNat)
 case atStart => exact ⟨0, none, 0, rfl, by omega, by simp, by simpa using HS0⟩
 case round =>
  obtain ⟨j, A1, c1, rfl, hj, rfl, hS⟩ := hrel
  by_cases hlt : j < r
  ·obtain ⟨_, _, _, _, a4⟩ := hS.out.part.cell
   have l1 : decide ((j : Int) < (r : Int)) = true := by simp; omega
   have HKL : Hid (kz.length = ks.length) := by show _ = _; rw [← HKS.out]; simp [pl]
   go_wp2_with fail
   go_loopw [10, 25] (fun v iv wr => ∃ (i : Nat) (A1 : Option Addr) (c1 n1 : Nat), iv = .int .i64 i ∧ i ≤ kz.length ∧ v = .slice A1 n1 c1 ∧ Hid (n1 = j * ks.length + i) ∧ Hid (WS w0 N w p0 (E.map PI.toP) m f l ⟨kd, lo, hi, nm, kz⟩ (.slice Ak kz.length ck) ((List.replicate j ks).flatten ++ ks.take i) (.slice A1 n1 c1) wr)) (fun _ iv _ => kz.length - (intOf iv).toNat)
   case atStart => exact ⟨0, A1, c1, _, rfl, by omega, rfl, Lib.hid rfl, by simpa using hS⟩
   case round =>
    obtain ⟨i, A2, c2, n1, rfl, hi1, rfl, hn1, hS2⟩ := hrel
    by_cases hlt2 : i < kz.length
    ·have hS2 := hS2
     have hiks : i < ks.length := by have := HKL.out; omega
     have hb2 : Below w0.heap.size w0 wr := HBW.out.trans (hS2.out.frame.below (Nat.le_refl _) hbase)
     obtain ⟨kb, ko, hAk, hkc⟩ := (HRK.out.below hb2).2.2 (by omega)
     subst hAk
     have hkc1 := hkc i hlt2
     have hzi : kz[i] = ((ks[i] : Nat) : Int) := by
      have := HKS.out
      have h2 : (pl ks)[i]? = kz[i]? := by rw [this]
      rw [List.getElem?_eq_getElem hlt2, List.getElem?_eq_getElem (by simp [pl]; omega)] at h2
      simp only [pl, List.getElem_map, Option.some.injEq] at h2
      exact h2.symm
     rw [List.getD_eq_getElem?_getD, List.getElem?_eq_getElem hlt2, Option.getD_some, hzi] at hkc1
     have hkk : ks[i] < k := HGD.out ks[i] (List.getElem_mem hiks)
     have hpre : ((List.replicate j ks).flatten ++ ks.take i) ++ [ks[i]] = (List.replicate j ks).flatten ++ ks.take (i + 1) := by
      rw [List.append_assoc, List.take_succ_eq_append_getElem hiks]
     have hpf : (List.replicate j ks).flatten ++ ks.take (i + 1) <+: kidsOf q := by
      unfold kidsOf
      rw [HR.out, HQ.out.2.2.2.2, show r = j + (1 + (r - j - 1)) by omega, ← List.replicate_append_replicate, ← List.replicate_append_replicate, List.flatten_append, List.flatten_append]
      refine (List.prefix_append_right_inj _).2 ?_
      simp only [List.replicate_one, List.flatten_cons, List.flatten_nil, List.append_nil]
      exact (List.take_prefix _ _).trans (List.prefix_append _ _)
     have hsum := sum_le_sum (P := places (E.map PI.toP) f) hpf
     rw [← hpre, List.map_append, List.sum_append] at hsum
     simp only [List.map_cons, List.map_nil, List.sum_cons, List.sum_nil, Nat.add_zero] at hsum
     have hplx := HPL.out
     have hfacts := sv_facts HMA.out f ((List.replicate j ks).flatten ++ ks.take i) l HOK.out (by omega)
     have hsn := sv_snoc (E.map PI.toP) m f ((List.replicate j ks).flatten ++ ks.take i) ks[i] l
     rw [hpre] at hsn
     have hnet := hS2.out.net
     have hrow := hS2.out.row
     generalize sv (E.map PI.toP) m f ((List.replicate j ks).flatten ++ ks.take i) l = SV at hfacts hsn hnet hrow
     obtain ⟨sp, sL⟩ := SV
     dsimp only at hfacts hsn hnet hrow
     obtain ⟨g1, g2, g3, g4⟩ := hfacts
     have hc1 := HIH.out ks[i] sL wr (by omega) (by omega) hb2 hnet g4 (by rw [g1]; omega)
     have HC := hide hc1
     have HSN := Lib.hid hsn
     have HNT := Lib.hid hnet
     have HRW := Lib.hid hrow
     have HFR := Lib.hid hS2.out.frame
     have HPT := Lib.hid hS2.out.part
     obtain ⟨q0, hq0⟩ := hS2.out.out
     have HQ0 := Lib.hid hq0
     have hlen1 : n1 = sp.length := by
      obtain ⟨_, _, hv⟩ := hrow.form
      simp only [Value.slice.injEq] at hv
      exact hv.2.1
     have HL1 := Lib.hid hlen1
     have hnb : n1 ≤ 200000 := by
      have h1 := hn1.out
      have : j * ks.length ≤ 19 * ks.length := Nat.mul_le_mul_right _ (by omega)
      have := HKL.out
      omega
     generalize ks[i] = kk at *
     obtain ⟨x, hx⟩ : ∃ x, (write (E.map PI.toP) m f kk sL).1 = x := ⟨_, rfl⟩
     obtain ⟨L2, hL2⟩ : ∃ L2, (write (E.map PI.toP) m f kk sL).2 = L2 := ⟨_, rfl⟩
     rw [hx, hL2] at HSN HC
     have hzz : w.heap.size + 1 < wr.heap.size := hS2.out.part.lt
     clear hc1 hsn hnet hrow hq0 hlen1 hx hL2 hkc hpre hpf hsum hplx g1 g2 g3 g4 hzi hS2 hb2 a4
     go_wp2_with (first
      | (go_at_call 120; refine (HC.out).mono ?_; rintro en w2 ⟨rfl, hn2, hf2⟩; have HN2 := Lib.hid hn2; have HR2 := Lib.hid (HRW.out.frame hf2 (HNT.out.notN HRW.out)); have HP2 := Lib.hid (HPT.out.frame hf2 (by omega)); have HQ2 := Lib.hid (HQ0.out.frame hf2 (by omega)); have HF2 := Lib.hid (HFR.out.trans hf2); have hz2 : w.heap.size + 1 < w2.heap.size := HP2.out.lt; unfold pcV; clear hn2 hf2)
      | (at_builtin; (refine wpList_app_pc rfl (.tmp 29) (.tmp 35) 277 rfl (w.heap.size + 2) 103 i0 _ Tryz.underlying277 hi0 hz0 (by rfl) hs1 hs2 _ sp.length (cells9 sp) (by rfl) (HR2.out.alloc _) w2.heap.size 1 x (by rfl) (pc_cells w2 x) (by have := HL1.out; omega) (by simp; omega) ?_); intro v' w5 hown hg5 hat; have HOWN := Lib.hid hown; have HG5 := Lib.hid hg5; clear hown hg5 hat))
     have hown5 : Pcs (w.heap.size + 2) w5 v' (sp ++ [x]) := by
      have h5 := HOWN.out
      unfold Pcs
      rw [cells9_append, List.length_append, show cells9 [x] = pccells x by simp [cells9]]
      exact h5
     obtain ⟨A5, c5, hv5⟩ := hown5.form
     have HO5 := Lib.hid hown5
     subst hv5
     have hlen5 : (sp ++ [x]).length = n1 + 1 := by rw [List.length_append, ← HL1.out]; rfl
     rw [hlen5] at HO5
     have HL5 := Lib.hid hlen5
     clear hown5 hlen5
     have hal := (Below.refl _ w2).alloc (Nat.le_refl _) (.cells #[.bool x.em, .int .u64 x.first.a, .int .u64 x.first.b, .int .u64 x.first.c, .int .u64 x.first.d, .int .u64 x.ends.a, .int .u64 x.ends.b, .int .u64 x.ends.c, .int .u64 x.ends.d] 103)
     have hra := HR2.out.alloc (.cells #[.bool x.em, .int .u64 x.first.a, .int .u64 x.first.b, .int .u64 x.first.c, .int .u64 x.first.d, .int .u64 x.ends.a, .int .u64 x.ends.b, .int .u64 x.ends.c, .int .u64 x.ends.d] 103)
     have HW5 : Hid (WS w0 N w p0 (E.map PI.toP) m f l ⟨kd, lo, hi, nm, kz⟩ (.slice (some ⟨kb, ko, none⟩) kz.length ck) ((List.replicate j ks).flatten ++ ks.take (i + 1)) (.slice A5 (n1 + 1) c5) w5) := by
      refine ⟨?_, ?_, ?_, ?_, q0, ?_⟩
      ·rw [HSN.out]; exact (HN2.out.belowAll hal).keptP hra HG5.out
      ·rw [HSN.out]; exact HO5.out
      ·exact (HF2.out.trans (NFrame.alloc _)).grown HG5.out (fun g hg => by have := (hra.block g hg).1; omega)
      ·exact (HP2.out.below hal hz2).kept HG5.out (hra.notB (by omega))
      ·exact (HQ2.out.alloc _).kept HG5.out (hra.notB (by omega))
     clear hal hra
     have hv5 : (Value.slice A5 (sp ++ [x]).length c5) = .slice A5 (n1 + 1) c5 := by rw [HL5.out]
     rw [hv5]
     clear hv5
     go_roundw
     case rel => exact ⟨i + 1, A5, c5, n1 + 1, by go_num, by omega, rfl, Lib.hid (by have := hn1.out; omega), HW5⟩
     case measure => simp [intOf]; omega
    ·obtain rfl : i = kz.length := by omega
     have HW5 : Hid (WS w0 N w p0 (E.map PI.toP) m f l ⟨kd, lo, hi, nm, kz⟩ (.slice Ak kz.length ck) (List.replicate (j + 1) ks).flatten (.slice A2 ((j + 1) * ks.length) c2) wr) := by
      have h1 := hS2.out
      have e : n1 = j * ks.length + ks.length := by rw [hn1.out, HKL.out]
      rw [List.take_of_length_le (by rw [HKL.out]; exact Nat.le_refl _), e] at h1
      rw [show List.replicate (j + 1) ks = List.replicate j ks ++ [ks] by rw [List.replicate_succ'], List.flatten_append, Nat.add_mul, Nat.one_mul]
      simp only [List.flatten_cons, List.flatten_nil, List.append_nil]
      exact h1
     have HN1 : Hid (n1 = (j + 1) * ks.length) := by show _ = _; rw [hn1.out, HKL.out, Nat.add_mul, Nat.one_mul]
     clear hS2 a4
     go_wp2_with fail
     go_roundw
     case rel => exact ⟨j + 1, A2, c2, by go_num, by omega, by rw [HN1.out], HW5⟩
     case measure => simp [intOf]; omega
  ·obtain rfl : j = r := by omega
   have hkq : (List.replicate j ks).flatten = kidsOf q := by unfold kidsOf; rw [HR.out, HQ.out.2.2.2.2]
   rw [hkq] at hS
   have hsl : (kidsOf q).length = j * ks.length := by rw [← hkq]; simp
   have hfacts := sv_facts HMA.out f (kidsOf q) l HOK.out (by have := HPL.out; omega)
   have hwr := HWR.out
   have hnet := hS.out.net
   have hrow := hS.out.row
   have hnil : q.kind = 1 → sv (E.map PI.toP) m f (kidsOf q) l = ([], l) := by
    intro h1
    rw [kidsOf_one (by omega), HFI.out.1 h1]; rfl
   have hsum := HPL.out
   have HSV := Lib.hid hnil
   generalize sv (E.map PI.toP) m f (kidsOf q) l = SV at hfacts hwr hnet hrow HSV
   obtain ⟨sp, sL⟩ := SV
   dsimp only at hfacts hwr hnet hrow
   obtain ⟨g1, g2, g3, g4⟩ := hfacts
   obtain ⟨hkd, hlo, hhi, hnm, hkk⟩ := HQ.out
   have hspl : j * ks.length = sp.length := by rw [g2, hsl]
   have hkl2 : ks.length = kz.length := by rw [← HKS.out]; simp [pl]
   have hspn : sp.length ≤ 200000 := by
    have : j * ks.length ≤ 20 * ks.length := Nat.mul_le_mul_right _ hr20
    omega
   rw [hspl] at hrow ⊢
   have hplen : sL.length + (if q.kind = 1 then 1 else 0) ≤ 256 := by omega
   have HG3 := Lib.hid g3
   have HG4 := Lib.hid g4
   have HNT := Lib.hid hnet
   have HRW := Lib.hid hrow
   have HFR := Lib.hid hS.out.frame
   have HPT := Lib.hid hS.out.part
   obtain ⟨q0, hq0⟩ := hS.out.out
   have HQ0 := Lib.hid hq0
   have HWC := Lib.hid hwr
   have hzz : w.heap.size + 1 < wr.heap.size := hS.out.part.lt
   have hb2 : Below w0.heap.size w0 wr := HBW.out.trans (hS.out.frame.below (Nat.le_refl _) hbase)
   have HB2 := Lib.hid hb2
   have hkind : kd = 1 ∨ kd = 2 ∨ kd = 3 ∨ kd = 4 := by rw [← hkd]; exact HFO.out
   have HKD := Lib.hid hkd
   have HPN := Lib.hid hplen
   have HSL := Lib.hid hspl
   obtain ⟨a0, a1, a2, a3, a4⟩ := hS.out.part.cell
   obtain ⟨z0, ⟨z1, z2, z3, z4⟩, z5, z6, z7, z8⟩ := hq0.cell
   have f0 := hq0.free 0; have f1 := hq0.free 1; have f2 := hq0.free 2; have f3 := hq0.free 3; have f4 := hq0.free 4; have f5 := hq0.free 5; have f6 := hq0.free 6; have f7 := hq0.free 7; have f8 := hq0.free 8
   dsimp only at a0 a1 a2 a3
   clear hkq hsl hnil hsum g1 g2 g3 g4 hnet hrow hq0 hwr hb2 hplen hspl hS hlo hhi hnm hkk hkd
   have l1 : decide ((j : Int) < (j : Int)) = false := by simp
   rcases hkind with rfl | rfl | rfl | rfl
   ·have HCL : Hid (write (E.map PI.toP) m (f + 1) k l = lay (m nm) sL) := by
     show _ = _
     rw [HWC.out]
     unfold close
     rw [if_pos HKD.out, HQ.out.2.2.2.1]
    have hlt256 : sL.length < 256 := by have := HPN.out; rw [if_pos HKD.out] at this; omega
    have hgf := HGF.out
    clear z0 z1 z2 z3 z4 z5 z6 z7 z8 f0 f1 f2 f3 f4 f5 f6 f7 f8
    go_wp2_with fail
    clear hgf
    refine (HMK.out (by trivial) _ HB2.out).mono ?_
    rintro en w2 ⟨rfl, hb3⟩
    have HN2 := Lib.hid (HNT.out.belowAll hb3)
    have HQ2 := Lib.hid (HQ0.out.below hb3 (by omega))
    have HF2 := Lib.hid (HFR.out.trans (NFrame.of_below hb3))
    have hz2 : w.heap.size + 1 < w2.heap.size := (HPT.out.below hb3 hzz).lt
    clear hb3
    unfold bagV
    go_wp2_with (go_at_call 173; refine (lay_any N sL p0 (m nm) _ HN2.out hN hlt256).mono ?_; rintro en w3 ⟨rfl, hn3, hf3⟩; obtain ⟨X, hX⟩ : ∃ X, (lay (m nm) sL).1 = X := ⟨_, rfl⟩; rw [hX]; have HX := Lib.hid hX; have HN3 := Lib.hid hn3; have HF3 := Lib.hid (HF2.out.trans hf3); have HQ3 := Lib.hid (HQ2.out.frame hf3 (by omega)); obtain ⟨z0, ⟨z1, z2, z3, z4⟩, z5, z6, z7, z8⟩ := HQ3.out.cell; have f0 := HQ3.out.free 0; have f1 := HQ3.out.free 1; have f2 := HQ3.out.free 2; have f3 := HQ3.out.free 3; have f4 := HQ3.out.free 4; have f5 := HQ3.out.free 5; have f6 := HQ3.out.free 6; have f7 := HQ3.out.free 7; have f8 := HQ3.out.free 8; unfold pcV; clear hX hn3 hf3)
    have hs := HQ3.out.store X
    obtain ⟨s0, ⟨s1, s2, s3, s4⟩, s5, s6, s7, s8⟩ := hs.cell
    refine bodyPost_ret (v := pcV X) ?_ rfl ⟨?_, ?_, ?_⟩
    ·simp [pcV, results, Tryz.results120, go_sem, s0, s1, s2, s3, s4, s5, s6, s7, s8]
    ·rw [HCL.out, ← HX.out]
    ·rw [HCL.out]; exact HN3.out.st9 HQ3.out.isP X
    ·exact HF3.out.st9 (Nat.le_refl _) X
   ·have HCL : Hid (write (E.map PI.toP) m (f + 1) k l = line (sp.length : Int) 0 sp sL) := by
     show _ = _
     rw [HWC.out]
     unfold close
     rw [if_neg (by have := HKD.out; omega), if_pos HKD.out]
    clear z0 z1 z2 z3 z4 z5 z6 z7 z8 f0 f1 f2 f3 f4 f5 f6 f7 f8
    have HTR := Lib.hid (HTB.out.below HB2.out HTB.out.2)
    go_wp2_with (go_at_call 174; refine (line_any N sL p0 A1 c1 sp (sp.length : Int) _ HNT.out hN HTR.out HTB.out.2 HRW.out HG3.out HG4.out (by omega)).mono ?_; rintro en w3 ⟨rfl, hn3, hf3⟩; obtain ⟨X, hX⟩ : ∃ X, (line (sp.length : Int) 0 sp sL).1 = X := ⟨_, rfl⟩; rw [hX]; have HX := Lib.hid hX; have HN3 := Lib.hid hn3; have HF3 := Lib.hid (HFR.out.trans hf3); have HQ3 := Lib.hid (HQ0.out.frame hf3 (by omega)); have hz3 : w.heap.size < w3.heap.size := HQ3.out.lt; obtain ⟨z0, ⟨z1, z2, z3, z4⟩, z5, z6, z7, z8⟩ := HQ3.out.cell; have f0 := HQ3.out.free 0; have f1 := HQ3.out.free 1; have f2 := HQ3.out.free 2; have f3 := HQ3.out.free 3; have f4 := HQ3.out.free 4; have f5 := HQ3.out.free 5; have f6 := HQ3.out.free 6; have f7 := HQ3.out.free 7; have f8 := HQ3.out.free 8; unfold pcV; clear hX hn3 hf3)
    have hs := HQ3.out.store X
    obtain ⟨s0, ⟨s1, s2, s3, s4⟩, s5, s6, s7, s8⟩ := hs.cell
    refine bodyPost_ret (v := pcV X) ?_ rfl ⟨?_, ?_, ?_⟩
    ·simp [pcV, results, Tryz.results120, go_sem, s0, s1, s2, s3, s4, s5, s6, s7, s8]
    ·rw [HCL.out, ← HX.out]
    ·rw [HCL.out]; exact HN3.out.st9 HQ3.out.isP X
    ·exact HF3.out.st9 (Nat.le_refl _) X
   ·have HCL : Hid (write (E.map PI.toP) m (f + 1) k l = (either sp, sL)) := by
     show _ = _
     rw [HWC.out]
     unfold close
     rw [if_neg (by have := HKD.out; omega), if_neg (by have := HKD.out; omega), if_pos HKD.out]
    clear z0 z1 z2 z3 z4 z5 z6 z7 z8 f0 f1 f2 f3 f4 f5 f6 f7 f8
    go_wp2_with (go_at_call 175; refine (either_any A1 c1 sp _ HRW.out (fun p hp => within_ok (HG3.out p hp)) (by omega)).mono ?_; rintro en w3 ⟨rfl, hb3⟩; obtain ⟨X, hX⟩ : ∃ X, either sp = X := ⟨_, rfl⟩; rw [hX]; have HX := Lib.hid hX; have HN3 := Lib.hid (HNT.out.belowAll hb3); have HF3 := Lib.hid (HFR.out.trans (NFrame.of_below hb3)); have HQ3 := Lib.hid (HQ0.out.below hb3 (by omega)); have hz3 : w.heap.size < w3.heap.size := HQ3.out.lt; obtain ⟨z0, ⟨z1, z2, z3, z4⟩, z5, z6, z7, z8⟩ := HQ3.out.cell; have f0 := HQ3.out.free 0; have f1 := HQ3.out.free 1; have f2 := HQ3.out.free 2; have f3 := HQ3.out.free 3; have f4 := HQ3.out.free 4; have f5 := HQ3.out.free 5; have f6 := HQ3.out.free 6; have f7 := HQ3.out.free 7; have f8 := HQ3.out.free 8; unfold pcV; clear hX hb3)
    have hs := HQ3.out.store X
    obtain ⟨s0, ⟨s1, s2, s3, s4⟩, s5, s6, s7, s8⟩ := hs.cell
    refine bodyPost_ret (v := pcV X) ?_ rfl ⟨?_, ?_, ?_⟩
    ·simp [pcV, results, Tryz.results120, go_sem, s0, s1, s2, s3, s4, s5, s6, s7, s8]
    ·rw [HCL.out, ← HX.out]
    ·rw [HCL.out]; exact HN3.out.st9 HQ3.out.isP X
    ·exact HF3.out.st9 (Nat.le_refl _) X
   ·obtain ⟨hk1, hlo0⟩ := HFI.out.2 (by have := HKD.out; omega) (by have := HKD.out; omega) (by have := HKD.out; omega)
    have hpos : 0 < sp.length := by
     have h1 := HSL.out
     have h2 := HOF.out.1
     rw [HR.out] at h2
     rw [HQ.out.2.2.2.2] at hk1
     rw [hk1] at h1
     omega
    have hcl : write (E.map PI.toP) m (f + 1) k l = if hi < 0 then line lo 0 sp (lead (sp.getLastD emp).ends (sp.getLastD emp).first sL) else line lo 0 sp sL := by
     rw [HWC.out]
     unfold close
     rw [if_neg (by have := HKD.out; omega), if_neg (by have := HKD.out; omega), if_neg (by have := HKD.out; omega), HQ.out.2.1, HQ.out.2.2.1]
    have HTR := Lib.hid (HTB.out.below HB2.out HTB.out.2)
    clear z0 z1 z2 z3 z4 z5 z6 z7 z8 f0 f1 f2 f3 f4 f5 f6 f7 f8 hk1 hlo0
    by_cases hh : hi < 0
    ·rw [if_pos hh] at hcl
     have ht : decide (hi < 0) = true := by simpa using hh
     obtain ⟨qs, la, hsp⟩ : ∃ qs la, sp = qs ++ [la] := ⟨sp.dropLast, sp.getLast (by intro h; rw [h] at hpos; simp at hpos), (List.dropLast_concat_getLast _).symm⟩
     have hgl : sp.getLastD emp = la := by rw [hsp]; simp
     rw [hgl] at hcl
     have HCL := Lib.hid hcl
     have hlen : sp.length = qs.length + 1 := by rw [hsp]; simp
     obtain ⟨g, cap, hA, _, hg, hcap, hcs⟩ := HRW.out.opn hpos
     simp only [Value.slice.injEq, true_and] at hA
     obtain ⟨rfl, rfl⟩ := hA
     have hcs1 := hcs qs.length (by omega)
     have hla : sp[qs.length]'(by omega) = la := by simp [hsp]
     rw [hla] at hcs1
     obtain ⟨b0, ⟨b1, b2, b3, b4⟩, b5, b6, b7, b8⟩ := hcs1
     have HLW := Lib.hid (HG3.out la (by rw [hsp]; simp))
     have HLN := Lib.hid hlen
     have hqn : qs.length ≤ 200000 := by omega
     have hbl := (Below.refl _ wr).alloc (Nat.le_refl _) (.cells #[.bool la.em, .int .u64 la.first.a, .int .u64 la.first.b, .int .u64 la.first.c, .int .u64 la.first.d, .int .u64 la.ends.a, .int .u64 la.ends.b, .int .u64 la.ends.c, .int .u64 la.ends.d] 103)
     have HBL := Lib.hid hbl
     clear hcs hsp hgl hcl hla hbl
     rw [hlen]
     clear hlen
     have HLD := Lib.hid (leadL_ok HLW.out.1.1 la.ends.list sL HG4.out)
     have HLL := Lib.hid (lead_length la.ends la.first sL)
     go_wp2_with fail
     refine (lead_any N sL p0 la.ends la.first _ (HNT.out.belowAll HBL.out) hN (HTR.out.below HBL.out HTR.out.2) HTB.out.2 HLW.out.2 HLW.out.1.1 HG4.out).mono ?_
     rintro en w2 ⟨⟨vv, rfl⟩, hn2, hf2⟩
     have HN2 := Lib.hid hn2
     have HR2 := Lib.hid ((HRW.out.belowAll HBL.out).frame hf2 (HNT.out.belowAll HBL.out |>.notN (HRW.out.belowAll HBL.out)))
     have HP2 := Lib.hid ((HPT.out.below HBL.out (by omega)).frame hf2 (by omega))
     have HQ2 := Lib.hid ((HQ0.out.below HBL.out (by omega)).frame hf2 (by omega))
     have HF2 := Lib.hid ((HFR.out.trans (NFrame.of_below HBL.out)).trans hf2)
     have HT2 := Lib.hid (Tab.frame (HTR.out.below HBL.out HTR.out.2) hf2 HTB.out.2 (Nat.le_trans hbase (Nat.le_trans (by omega) HBL.out.size)))
     have hz2 : w.heap.size + 1 < w2.heap.size := HP2.out.lt
     obtain ⟨_, e1, _⟩ := HP2.out.cell
     have hlc := line_any N (lead la.ends la.first sL) p0 (some ⟨g, 0, none⟩) c1 sp lo w2 HN2.out hN HT2.out HTB.out.2 HR2.out (fun p hp => by rw [HLL.out]; exact HG3.out p hp) HLD.out (by have := HLN.out; omega)
     rw [HLN.out] at hlc
     have HLC := hide hlc
     clear hn2 hf2 hlc
     dsimp only at e1 ⊢
     go_wp2_with (go_at_call 174; refine (HLC.out).mono ?_; rintro en w3 ⟨rfl, hn3, hf3⟩; obtain ⟨X, hX⟩ : ∃ X, (line lo 0 sp (lead la.ends la.first sL)).1 = X := ⟨_, rfl⟩; rw [hX]; have HX := Lib.hid hX; have HN3 := Lib.hid hn3; have HF3 := Lib.hid (HF2.out.trans hf3); have HQ3 := Lib.hid (HQ2.out.frame hf3 (by omega)); have hz3 : w.heap.size < w3.heap.size := HQ3.out.lt; obtain ⟨z0, ⟨z1, z2, z3, z4⟩, z5, z6, z7, z8⟩ := HQ3.out.cell; have f0 := HQ3.out.free 0; have f1 := HQ3.out.free 1; have f2 := HQ3.out.free 2; have f3 := HQ3.out.free 3; have f4 := HQ3.out.free 4; have f5 := HQ3.out.free 5; have f6 := HQ3.out.free 6; have f7 := HQ3.out.free 7; have f8 := HQ3.out.free 8; unfold pcV; clear hX hn3 hf3)
     have hs := HQ3.out.store X
     obtain ⟨s0, ⟨s1, s2, s3, s4⟩, s5, s6, s7, s8⟩ := hs.cell
     refine bodyPost_ret (v := pcV X) ?_ rfl ⟨?_, ?_, ?_⟩
     ·simp [pcV, results, Tryz.results120, go_sem, s0, s1, s2, s3, s4, s5, s6, s7, s8]
     ·rw [HCL.out, ← HX.out]
     ·rw [HCL.out]; exact HN3.out.st9 HQ3.out.isP X
     ·exact HF3.out.st9 (Nat.le_refl _) X
    ·rw [if_neg hh] at hcl
     have ht : decide (hi < 0) = false := by simpa using hh
     have HCL := Lib.hid hcl
     clear hcl
     go_wp2_with (go_at_call 174; refine (line_any N sL p0 A1 c1 sp lo _ HNT.out hN HTR.out HTB.out.2 HRW.out HG3.out HG4.out (by omega)).mono ?_; rintro en w3 ⟨rfl, hn3, hf3⟩; obtain ⟨X, hX⟩ : ∃ X, (line lo 0 sp sL).1 = X := ⟨_, rfl⟩; rw [hX]; have HX := Lib.hid hX; have HN3 := Lib.hid hn3; have HF3 := Lib.hid (HFR.out.trans hf3); have HQ3 := Lib.hid (HQ0.out.frame hf3 (by omega)); have hz3 : w.heap.size < w3.heap.size := HQ3.out.lt; obtain ⟨z0, ⟨z1, z2, z3, z4⟩, z5, z6, z7, z8⟩ := HQ3.out.cell; have f0 := HQ3.out.free 0; have f1 := HQ3.out.free 1; have f2 := HQ3.out.free 2; have f3 := HQ3.out.free 3; have f4 := HQ3.out.free 4; have f5 := HQ3.out.free 5; have f6 := HQ3.out.free 6; have f7 := HQ3.out.free 7; have f8 := HQ3.out.free 8; unfold pcV; clear hX hn3 hf3)
     have hs := HQ3.out.store X
     obtain ⟨s0, ⟨s1, s2, s3, s4⟩, s5, s6, s7, s8⟩ := hs.cell
     refine bodyPost_ret (v := pcV X) ?_ rfl ⟨?_, ?_, ?_⟩
     ·simp [pcV, results, Tryz.results120, go_sem, s0, s1, s2, s3, s4, s5, s6, s7, s8]
     ·rw [HCL.out, ← HX.out]
     ·rw [HCL.out]; exact HN3.out.st9 HQ3.out.isP X
     ·exact HF3.out.st9 (Nat.le_refl _) X
theorem write_any (w0 : World) (N : Nat) (A : Option Addr) (n c : Nat) (p0 : Pc) (E : List PI) (m : List UInt8 → Bag) (gf : Nat) (caps : Array Value)
  (hE : Ex.PR w0 A n E) (hX : Expr E) (hsm : ∀ p ∈ E, Ex.Small p ∧ p.kids.length ≤ 10000) (hM : Mns w0 gf caps m E) (hmk : ∀ p ∈ E, p.kind = 1 → (m p.name).ok) (hT : Tab w0) (hN : w0.heap.size ≤ N) (hn : n ≤ 100000)
  (hgf : ∀ args w, (callFunc gf args).run Tryz.prog w = .ok (.enter gf args) w) : ∀ f, WriteAt w0 N A n c p0 (E.map PI.toP) m (.func (.func gf) #[] caps) f
 | 0 => fun k l w h => by omega
 | f + 1 => write_step w0 N A n c p0 E m gf caps hE hX hsm hM hmk hT hN hn hgf f (write_any w0 N A n c p0 E m gf caps hE hX hsm hM hmk hT hN hn hgf f)
end Go.Proofs.YtnbchikiiipejaaGreatDoor.Nf
