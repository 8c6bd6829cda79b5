/- Walk of the reference of nfa: part, a row. -/
import Derived.Test.YtnbchikiiipejaaGreatDoorNrP0
set_option linter.unusedVariables false
set_option maxRecDepth 100000
set_option maxHeartbeats 8000000
namespace Go.Proofs.YtnbchikiiipejaaGreatDoor.Nf
open Go.RowKit Mem
open Bg (Bag)
open Ex (Pt PI PR KR pl)
theorem rowR_snoc (wr : Nat → List En → Pc × List En) : ∀ (a : List Nat) (k : Nat) (o : Pc) (l : List En), rowR wr (a ++ [k]) o l = (join (rowR wr a o l).1 (wr k (rowR wr a o l).2).1, lead (rowR wr a o l).1.ends (wr k (rowR wr a o l).2).1.first (wr k (rowR wr a o l).2).2)
 | [], _, _, _ => rfl
 | _ :: a, k, _, _ => rowR_snoc wr a k _ _
theorem part_k2 (w0 : World) (N : Nat) (A : Option Addr) (n c : Nat) (E : List PI) (m : List UInt8 → Bag) (AL : Option Addr) (nl cl : Nat) (hE : PR w0 A n E) (hX : Expr E) (hsm : ∀ p ∈ E, p.kids.length ≤ 10000) (hn : n ≤ 100000)
  (hM : MnR w0 (.slice AL nl cl) m E) (hN : w0.heap.size ≤ N) (f : Nat) (IH : PartAt w0 N A n c (E.map PI.toP) m (.slice AL nl cl) f) (k : Nat) (hkf : k < f + 1) (hkn : k < n) (hkd : ∀ p, (E.map PI.toP)[k]? = some p → p.kind = 2) : PartFor w0 N A n c (E.map PI.toP) m (.slice AL nl cl) (f + 1) k := by
 intro l w vo vb hbw hrs hpl
 have k1 : k < E.length := by have := hE.1; omega
 obtain ⟨b, off, rfl, hb0', hc⟩ := hE.2 (by omega)
 obtain ⟨a0, a1, a2, a3, kv, a4, ra⟩ := hc k k1
 have hb : b < w.heap.size := Nat.lt_of_lt_of_le hb0' hbw.size
 rw [← hbw.cell (p := ⟨b, off + k * 5, none⟩) hb0'] at a0
 rw [← hbw.cell (p := ⟨b, off + k * 5 + 1, none⟩) hb0'] at a1
 rw [← hbw.cell (p := ⟨b, off + k * 5 + 2, none⟩) hb0'] at a2
 rw [← hbw.cell (p := ⟨b, off + k * 5 + 3, none⟩) hb0'] at a3
 rw [← hbw.cell (p := ⟨b, off + k * 5 + 4, none⟩) hb0'] at a4
 have hpe : (E.map PI.toP)[k]? = some E[k].toP := by rw [List.getElem?_map, List.getElem?_eq_getElem k1]; rfl
 have hmem := List.getElem_mem k1
 have hpt : E[k].toP ∈ E.map PI.toP := List.mem_map.2 ⟨_, hmem, rfl⟩
 have hkd1 := hkd _ hpe
 have hfit := hX.fit _ hpt
 have hoft := hX.often _ hpt
 have hnum := hX.nums _ hpt
 have hgood := hX.good k _ hpe
 have hback : pl E[k].toP.kids = E[k].kids := by
  have h1 := congrArg (fun L : List PI => L[k]?) hX.back
  simp only [List.getElem?_map, List.getElem?_eq_getElem k1, Option.map_some, Option.some.injEq] at h1
  exact congrArg PI.kids h1
 have hrw : ∀ l, refw (E.map PI.toP) m (f + 1) k l = if E[k].toP.kind = 1 then lay (m E[k].toP.name) l
   else if E[k].toP.kind = 3 then chR (refw (E.map PI.toP) m f) E[k].toP.kids ⟨false, Bg.nil, Bg.nil⟩ l
   else if E[k].toP.kind = 2 then rowR (refw (E.map PI.toP) m f) E[k].toP.kids emp l
   else timesR E[k].toP (several (refw (E.map PI.toP) m f) (List.replicate (often E[k].toP) (E[k].toP.kids.headD 0)) [] l).1 (several (refw (E.map PI.toP) m f) (List.replicate (often E[k].toP) (E[k].toP.kids.headD 0)) [] l).2 := by
  intro l; simp only [refw, hpe]
 have hpl2 : l.length + ((if E[k].toP.kind = 1 then 1 else 0) + often E[k].toP * (E[k].toP.kids.map (places (E.map PI.toP) f)).sum) ≤ 256 := by
  have : places (E.map PI.toP) (f + 1) k = (if E[k].toP.kind = 1 then 1 else 0) + often E[k].toP * (E[k].toP.kids.map (places (E.map PI.toP) f)).sum := by simp [places, hpe, kidsOf_sum]
  rw [← this]; exact hpl
 have hsmk := hsm _ hmem
 have hMk := hM _ hmem
 have hff : ∀ k l, l.length + places (E.map PI.toP) f k ≤ 256 → (refw (E.map PI.toP) m f k l).2.length = l.length + places (E.map PI.toP) f k ∧ (refw (E.map PI.toP) m f k l).1.rng l.length (l.length + places (E.map PI.toP) f k) := fun k l h => refw_facts hX.fit hX.four f k l h
 generalize E[k] = p at *
 obtain ⟨kd, lo, hi, nm, kz⟩ := p
 obtain ⟨ks, hks⟩ : ∃ ks, ks = (PI.toP ⟨kd, lo, hi, nm, kz⟩).kids := ⟨_, rfl⟩
 have hoi : Nf.often (PI.toP ⟨kd, lo, hi, nm, kz⟩) = oftenI kd lo hi := rfl
 replace hfit : (kd = 1 → ks = []) ∧ (kd ≠ 1 → kd ≠ 2 → kd ≠ 3 → ks.length = 1 ∧ 0 ≤ lo) := by rw [hks]; exact hfit
 rw [← hks] at hback hgood hrw hpl2
 rw [hoi] at hpl2 hoft
 obtain rfl : kd = 2 := hkd1
 replace hrw : ∀ l, refw (E.map PI.toP) m (f + 1) k l = rowR (refw (E.map PI.toP) m f) ks emp l := hrw
 replace hnum : 0 ≤ lo ∧ lo ≤ 20 ∧ hi ≤ 20 := hnum
 dsimp only at a0 a1 a2 a3 a4 ra hback hsmk
 obtain ⟨Ak, ck, rfl, hck, hrk⟩ := ra
 obtain ⟨Ao, co, hvo⟩ := hrs.on.form
 obtain ⟨Ab, cb, hvb⟩ := hrs.be.form
 rw [List.length_map] at hvo hvb
 obtain ⟨ln, hln⟩ : ∃ ln, l.length = ln := ⟨_, rfl⟩
 rw [hln] at hvo hvb
 subst hvo
 subst hvb
 have hNw : N < w.heap.size := hrs.lt N (.inl rfl)
 have hpt0 : PT w0 N w (.slice Ao ln co) (.slice Ab ln cb) ⟨2, lo, hi, nm, kz⟩ (.slice Ak kz.length ck) l emp (.slice Ao ln co) (.slice Ab ln cb) (.slice none 0 0) (.slice none 0 0) (((w.alloc (.cells #[.slice none 0 0, .slice none 0 0, .slice none 0 0, .slice none 0 0, .bool false] 41)).alloc (.cells #[.int .i64 2, .int .i64 lo, .int .i64 hi, .string ⟨nm.toArray⟩, .slice Ak kz.length ck] 124)).alloc (.cells #[.slice none 0 0, .slice none 0 0, .slice none 0 0, .slice none 0 0, .bool true] 41)) := by
  have e1 : (w.alloc (.cells #[.slice none 0 0, .slice none 0 0, .slice none 0 0, .slice none 0 0, .bool false] 41)).heap.size = w.heap.size + 1 := by simp
  have r1 := RBox.new w (.slice none 0 0) (.slice none 0 0) (.slice none 0 0) (.slice none 0 0) false
  have r2 := r1.below ((Below.refl _ _).alloc (Nat.le_refl _) (.cells #[.int .i64 2, .int .i64 lo, .int .i64 hi, .string ⟨nm.toArray⟩, .slice Ak kz.length ck] 124))
  have r3 := r2.below ((Below.refl _ _).alloc (Nat.le_refl _) (.cells #[.slice none 0 0, .slice none 0 0, .slice none 0 0, .slice none 0 0, .bool true] 41))
  have q2 : RtAt ((w.alloc (.cells #[.slice none 0 0, .slice none 0 0, .slice none 0 0, .slice none 0 0, .bool false] 41)).alloc (.cells #[.int .i64 2, .int .i64 lo, .int .i64 hi, .string ⟨nm.toArray⟩, .slice Ak kz.length ck] 124)) (w.heap.size + 1) ⟨2, lo, hi, nm, kz⟩ (.slice Ak kz.length ck) := by
   rw [← e1]; exact heap_alloc_new _ _
  have q3 := q2.below ((Below.refl _ _).alloc (Nat.le_refl _) (.cells #[.slice none 0 0, .slice none 0 0, .slice none 0 0, .slice none 0 0, .bool true] 41)) q2.lt
  have s3 := RBox.new ((w.alloc (.cells #[.slice none 0 0, .slice none 0 0, .slice none 0 0, .slice none 0 0, .bool false] 41)).alloc (.cells #[.int .i64 2, .int .i64 lo, .int .i64 hi, .string ⟨nm.toArray⟩, .slice Ak kz.length ck] 124)) (.slice none 0 0) (.slice none 0 0) (.slice none 0 0) (.slice none 0 0) true
  rw [World.size_alloc, World.size_alloc] at s3
  have hb3 := (((Below.refl _ w).alloc (Nat.le_refl _) (.cells #[.slice none 0 0, .slice none 0 0, .slice none 0 0, .slice none 0 0, .bool false] 41)).alloc (by simp) (.cells #[.int .i64 2, .int .i64 lo, .int .i64 hi, .string ⟨nm.toArray⟩, .slice Ak kz.length ck] 124)).alloc (by simp; omega) (.cells #[.slice none 0 0, .slice none 0 0, .slice none 0 0, .slice none 0 0, .bool true] 41)
  exact ⟨hrs.below hb3, OldOr.refl _ _, OldOr.refl _ _, RFrame.of_below hb3, r3, q3, s3, ⟨by show LRow _ _ Bg.nil.list; rw [nil_list]; exact LRow.nil _ _, by show LRow _ _ Bg.nil.list; rw [nil_list]; exact LRow.nil _ _⟩, hNw⟩
 have HPT := Lib.hid hpt0
 have HBW := Lib.hid hbw
 have HRK := Lib.hid hrk
 have HKS := Lib.hid hback
 have HGD := Lib.hid hgood
 have HRW := Lib.hid hrw
 have HPL := Lib.hid hpl2
 have HOF := Lib.hid hoft
 have HFI := Lib.hid hfit
 have HFF := Lib.hid hff
 have HMK := Lib.hid hMk
 have HLN := Lib.hid hln
 have HIH := hide (fun (k : Nat) (l : List En) (w : World) (vo vb : Value) (h1 : k < f) (h2 : k < n) (h3 : Below w0.heap.size w0 w) (h4 : RS w0.heap.size N w l vo vb) (h5 : l.length + places (E.map PI.toP) f k ≤ 256) => IH k l w vo vb h1 h2 h3 h4 h5)
 have hbase : w0.heap.size ≤ w.heap.size := hbw.size
 have hlb : ln ≤ 256 := by omega
 obtain ⟨hn1, hn2, hn3⟩ := hnum
 clear hpt0 hbw hrk hback hgood hrw hpl2 hoft hfit hff hMk hln IH hpl hc hpt hmem hpe hoi hks hX hsm hE hM hrs hkd
 go_enter Tryz.func73, Tryz.ntmps73
 have hZ : Hid (0 = 0) := rfl
 have HXB : Hid (∀ k, XS N (.slice Ao ln co) (.slice Ab ln cb) k → w0.heap.size ≤ k) := fun k hk => HPT.out.net.base_le hN k hk
 go_wp2_with fail
 have HKL : Hid (kz.length = ks.length) := by show _ = _; rw [← HKS.out]; simp [pl]
 have hkl : kz.length ≤ 10000 := hsmk
 go_loopw [14] (fun iv wr => ∃ i : Nat, iv = .int .i64 i ∧ i ≤ kz.length ∧ Hid (∃ vo1 vb1 vf1 ve1, PT w0 N w (.slice Ao ln co) (.slice Ab ln cb) ⟨2, lo, hi, nm, kz⟩ (.slice Ak kz.length ck) (rowR (refw (E.map PI.toP) m f) (ks.take i) emp l).2 (rowR (refw (E.map PI.toP) m f) (ks.take i) emp l).1 vo1 vb1 vf1 ve1 wr) ∧ Hid ((rowR (refw (E.map PI.toP) m f) (ks.take i) emp l).2.length = l.length + ((ks.take i).map (places (E.map PI.toP) f)).sum ∧ (rowR (refw (E.map PI.toP) m f) (ks.take i) emp l).1.rng 0 (rowR (refw (E.map PI.toP) m f) (ks.take i) emp l).2.length)) (fun iv _ => kz.length - (intOf iv).toNat)
 case atStart => exact ⟨0, rfl, by omega, Lib.hid ⟨_, _, _, _, HPT.out⟩, Lib.hid ⟨by simp [rowR], by simpa [rowR] using emp_rng 0 _⟩⟩
 case round =>
  obtain ⟨i, rfl, hi1, hS, hL⟩ := hrel
  obtain ⟨vo1, vb1, vf1, ve1, hS⟩ := hS.out
  obtain ⟨p0, p1, p2, p3, p4⟩ := hS.part.cell
  dsimp only at p0 p1 p2 p3
  by_cases hlt : i < kz.length
  ·skip
   have hiks : i < ks.length := by have := HKL.out; omega
   have hb2 : Below w0.heap.size w0 wr := HBW.out.trans (hS.fr.below (fun k h => by
    rcases h with rfl | h | h
    ·exact hN
    ·exact HXB.out k (.inr (.inl h))
    ·exact HXB.out k (.inr (.inr h))) hbase)
   obtain ⟨kb, ko, hAk, hkc⟩ := (HRK.out.below hb2).2.2 (by omega)
   subst hAk
   have hkc1 := hkc i hlt
   have hzi : kz[i] = ((ks[i] : Nat) : Int) := by
    have h2 : (pl ks)[i]? = kz[i]? := by rw [HKS.out]
    rw [List.getElem?_eq_getElem hlt, List.getElem?_eq_getElem (by simp [pl]; omega)] at h2
    simp only [pl, List.getElem_map, Option.some.injEq] at h2
    exact h2.symm
   rw [List.getD_eq_getElem?_getD, List.getElem?_eq_getElem hlt, Option.getD_some, hzi] at hkc1
   have hkk : ks[i] < k := HGD.out ks[i] (List.getElem_mem hiks)
   have htk : ks.take (i + 1) = ks.take i ++ [ks[i]] := by rw [List.take_succ_eq_append_getElem hiks]
   have hsum := sum_le_sum (P := places (E.map PI.toP) f) (List.take_prefix (i + 1) ks)
   rw [htk, List.map_append, List.sum_append] at hsum
   simp only [List.map_cons, List.map_nil, List.sum_cons, List.sum_nil, Nat.add_zero] at hsum
   have hnx := rowR_snoc (refw (E.map PI.toP) m f) (ks.take i) ks[i] emp l
   rw [← htk] at hnx
   obtain ⟨hLo, hRg⟩ := hL.out
   generalize rowR (refw (E.map PI.toP) m f) (ks.take i) emp l = SL at hS hnx hLo hRg
   obtain ⟨so, sL⟩ := SL
   dsimp only at hS hnx hLo hRg
   have hfc := HFF.out ks[i] sL (by have := HPL.out; simp only [show oftenI 2 lo hi = 1 from rfl] at this; omega)
   have hcall := HIH.out ks[i] sL wr vo1 vb1 (by omega) (by omega) hb2 hS.net (by have := HPL.out; simp only [show oftenI 2 lo hi = 1 from rfl] at this; omega)
   have hln2 : sL.length + places (E.map PI.toP) f ks[i] = l.length + ((ks.take (i + 1)).map (places (E.map PI.toP) f)).sum := by
    rw [htk, List.map_append, List.sum_append, hLo]; simp; omega
   generalize ks[i] = kk at *
   obtain ⟨x, hx⟩ : ∃ x, (refw (E.map PI.toP) m f kk sL).1 = x := ⟨_, rfl⟩
   obtain ⟨L2, hL2⟩ : ∃ L2, (refw (E.map PI.toP) m f kk sL).2 = L2 := ⟨_, rfl⟩
   rw [hx, hL2] at hnx hfc hcall
   rw [← hfc.1] at hln2
   have hrg2 : (join so x).rng 0 (lead so.ends x.first L2).length := by
    rw [lead_length]
    exact join_rng (hRg.mono (Nat.le_refl _) (by omega)) (hfc.2.mono (by omega) (by omega))
   have hwe : ∀ j, so.ends.has j = true → j < L2.length := fun j hj => by have := (hRg.2 j hj).2; omega
   have HC := hide hcall
   have HNX := Lib.hid hnx
   have HLN2 := Lib.hid hln2
   have HRG2 := Lib.hid hrg2
   have HWE := Lib.hid hwe
   have HS := Lib.hid hS
   have hzz : w.heap.size + 1 + 1 < wr.heap.size := hS.box.lt
   have hl1 : decide ((i : Int) < (kz.length : Int)) = true := by simp; omega
   have hpb : w.heap.size + 1 < wr.heap.size := by omega
   clear hcall hnx hln2 hS hfc hx hL2 hkc htk hsum hzi hb2 hL hLo hRg hrg2 hwe hZ
   go_upto_region 25 with (go_at_call 73; refine (HC.out).mono ?_; rintro en w2 ⟨xf, xe, vo2, vb2, rfl, hpc, hrs, hfr, hoo, hob⟩; have HP2 := Lib.hid (HS.out.call hrs hfr hoo hob); have HX2 := Lib.hid hpc; obtain ⟨Ax, cx, hvx⟩ := hpc.1.form; obtain ⟨Ay, cy, hvy⟩ := hpc.2.form; obtain ⟨nx, hnx⟩ : ∃ nx, x.first.list.length = nx := ⟨_, rfl⟩; obtain ⟨ny, hny⟩ : ∃ ny, x.ends.list.length = ny := ⟨_, rfl⟩; rw [hnx] at hvx; rw [hny] at hvy; subst hvx; subst hvy; unfold rpV; clear hpc hrs hfr hoo hob hnx hny)
   clear p0 p1 p2 p3 p4 hkc1
   have hb3 := RBox.new w2 (.slice none 0 0) (.slice none 0 0) (.slice Ax nx cx) (.slice Ay ny cy) x.em
   have HP3 := Lib.hid (HP2.out.below ((Below.refl _ w2).alloc (Nat.le_refl _) (.cells #[.slice none 0 0, .slice none 0 0, .slice Ax nx cx, .slice Ay ny cy, .bool x.em] 41)))
   have HX3 := Lib.hid (HX2.out.below ((Below.refl _ w2).alloc (Nat.le_refl _) (.cells #[.slice none 0 0, .slice none 0 0, .slice Ax nx cx, .slice Ay ny cy, .bool x.em] 41)))
   have hz2 : w.heap.size + 1 + 1 < w2.heap.size := HP2.out.box.lt
   generalize w2.alloc (.cells #[.slice none 0 0, .slice none 0 0, .slice Ax nx cx, .slice Ay ny cy, .bool x.em] 41) = W3 at hb3 HP3 HX3 ⊢
   obtain ⟨X2, hX2⟩ : ∃ X2, X2 = w2.heap.size := ⟨_, rfl⟩
   rw [← hX2] at hb3 hz2 ⊢
   clear hX2 HP2 HX2
   obtain ⟨y0, y1, y2, y3, y4⟩ := hb3.cell
   clear hb3
   have HSQ := hide (seq_any N (w.heap.size + 1 + 1) L2 so x vo2 vb2 (.slice none 0 0) (.slice none 0 0) vf1 ve1 (.slice none 0 0) (.slice none 0 0) (.slice Ax nx cx) (.slice Ay ny cy) W3 HP3.out.net (by omega) HP3.out.box HP3.out.pc HX3.out HWE.out)
   have hle : i + 1 ≤ kz.length := by omega
   have hkl2 : i ≤ 10000 := by omega
   go_wp2_with (go_at_call 122; (with_reducible refine (HSQ.out).mono ?_); rintro en w4 ⟨⟨vv, rfl⟩, vf4, ve4, h1, h2, h3, h4⟩; have HF := Lib.hid (HP3.out.seq h1 h2 h3 h4); clear h1 h2 h3 h4)
   go_roundw
   case rel => exact ⟨i + 1, by go_num, hle, Lib.hid ⟨_, _, _, _, by rw [HNX.out]; exact HF.out⟩, Lib.hid ⟨by rw [HNX.out]; dsimp only; rw [lead_length]; exact HLN2.out, by rw [HNX.out]; exact HRG2.out⟩⟩
   case measure => simp [intOf]; omega
  ·skip
   obtain rfl : i = kz.length := by omega
   have hl1 : decide ((kz.length : Int) < (kz.length : Int)) = false := by simp
   have HRE : Hid (refw (E.map PI.toP) m (f + 1) k l = rowR (refw (E.map PI.toP) m f) (ks.take kz.length) emp l) := by
    show _ = _
    rw [List.take_of_length_le (by rw [HKL.out]; exact Nat.le_refl _)]
    exact HRW.out l
   clear hL
   generalize rowR (refw (E.map PI.toP) m f) (ks.take kz.length) emp l = SL at hS HRE
   obtain ⟨OUT, LL⟩ := SL
   dsimp only at hS
   have HPF := Lib.hid hS
   clear hS hlt p0 p1 p2 p3 hZ
   obtain ⟨Af, cf, hvf⟩ := HPF.out.pc.1.form
   obtain ⟨Ae, ce, hve⟩ := HPF.out.pc.2.form
   obtain ⟨nf, hnf⟩ : ∃ nf, OUT.first.list.length = nf := ⟨_, rfl⟩
   obtain ⟨ne, hne⟩ : ∃ ne, OUT.ends.list.length = ne := ⟨_, rfl⟩
   rw [hnf] at hvf
   rw [hne] at hve
   subst hvf
   subst hve
   clear hnf hne
   obtain ⟨o0, o1, o2, o3, o4⟩ := HPF.out.box.cell
   obtain ⟨r0, r1, r2, r3, r4⟩ := HPF.out.res.cell
   have e0 := HPF.out.res.free 0
   have e1 := HPF.out.res.free 1
   have e2 := HPF.out.res.free 2
   have e3 := HPF.out.res.free 3
   have e4 := HPF.out.res.free 4
   obtain ⟨em, hem⟩ : ∃ em, OUT.em = em := ⟨_, rfl⟩
   have HEM := Lib.hid hem
   rw [hem] at o4
   clear hem
   go_wp2
   have hs := ((((HPF.out.res.set0 (.slice none 0 0)).set1 (.slice none 0 0)).set2 (.slice Af nf cf)).set3 (.slice Ae ne ce)).set4 em
   have hf : RFrame (fun k => k = w.heap.size) wr (((((wr.setCell ⟨w.heap.size, 0, none⟩ (.slice none 0 0)).setCell ⟨w.heap.size, 1, none⟩ (.slice none 0 0)).setCell ⟨w.heap.size, 2, none⟩ (.slice Af nf cf)).setCell ⟨w.heap.size, 3, none⟩ (.slice Ae ne ce)).setCell ⟨w.heap.size, 4, none⟩ (.bool em)) :=
    (((((RFrame.refl (fun k => k = w.heap.size) wr).setCell (fun _ => rfl) _ _).setCell (fun _ => rfl) _ _).setCell (fun _ => rfl) _ _).setCell (fun _ => rfl) _ _).setCell (fun _ => rfl) _ _
   have hni : NoInts wr (fun k => k = w.heap.size) := noints_ty (T := 41) (by decide) HPF.out.res.ty
   obtain ⟨s0, s1, s2, s3, s4⟩ := hs.cell
   have hre := HRE.out
   refine bodyPost_ret (v := rpV (.slice Af nf cf) (.slice Ae ne ce) em) ?_ rfl ⟨.slice Af nf cf, .slice Ae ne ce, vo1, vb1, ?_, ?_, ?_, ?_, HPF.out.oo, HPF.out.ob⟩
   ·simp [rpV, results, Tryz.results73, go_sem, s0, s1, s2, s3, s4]
   ·rw [hre]; dsimp only; rw [HEM.out]
   ·rw [hre]; exact HPF.out.pc.frame hf hni
   ·rw [hre]; exact HPF.out.net.frame hf (fun k hk e => (HPF.out.off k hk).1 e) hni
   ·exact HPF.out.fr.trans hf (fun k hk e => by omega)
end Go.Proofs.YtnbchikiiipejaaGreatDoor.Nf
namespace Go.Proofs.YtnbchikiiipejaaGreatDoor.Nf
open Go.RowKit Mem
open Bg (Bag)
open Ex (Pt PI PR KR pl)
theorem chR_snoc (wr : Nat → List En → Pc × List En) : ∀ (a : List Nat) (k : Nat) (o : Pc) (l : List En), chR wr (a ++ [k]) o l = (or1 (chR wr a o l).1 (wr k (chR wr a o l).2).1, (wr k (chR wr a o l).2).2)
 | [], _, _, _ => rfl
 | _ :: a, k, _, _ => chR_snoc wr a k _ _
theorem part_k3 (w0 : World) (N : Nat) (A : Option Addr) (n c : Nat) (E : List PI) (m : List UInt8 → Bag) (AL : Option Addr) (nl cl : Nat) (hE : PR w0 A n E) (hX : Expr E) (hsm : ∀ p ∈ E, p.kids.length ≤ 10000) (hn : n ≤ 100000)
  (hM : MnR w0 (.slice AL nl cl) m E) (hN : w0.heap.size ≤ N) (f : Nat) (IH : PartAt w0 N A n c (E.map PI.toP) m (.slice AL nl cl) f) (k : Nat) (hkf : k < f + 1) (hkn : k < n) (hkd : ∀ p, (E.map PI.toP)[k]? = some p → p.kind = 3) : PartFor w0 N A n c (E.map PI.toP) m (.slice AL nl cl) (f + 1) k := by
 intro l w vo vb hbw hrs hpl
 have k1 : k < E.length := by have := hE.1; omega
 obtain ⟨b, off, rfl, hb0', hc⟩ := hE.2 (by omega)
 obtain ⟨a0, a1, a2, a3, kv, a4, ra⟩ := hc k k1
 have hb : b < w.heap.size := Nat.lt_of_lt_of_le hb0' hbw.size
 rw [← hbw.cell (p := ⟨b, off + k * 5, none⟩) hb0'] at a0
 rw [← hbw.cell (p := ⟨b, off + k * 5 + 1, none⟩) hb0'] at a1
 rw [← hbw.cell (p := ⟨b, off + k * 5 + 2, none⟩) hb0'] at a2
 rw [← hbw.cell (p := ⟨b, off + k * 5 + 3, none⟩) hb0'] at a3
 rw [← hbw.cell (p := ⟨b, off + k * 5 + 4, none⟩) hb0'] at a4
 have hpe : (E.map PI.toP)[k]? = some E[k].toP := by rw [List.getElem?_map, List.getElem?_eq_getElem k1]; rfl
 have hmem := List.getElem_mem k1
 have hpt : E[k].toP ∈ E.map PI.toP := List.mem_map.2 ⟨_, hmem, rfl⟩
 have hkd1 := hkd _ hpe
 have hfit := hX.fit _ hpt
 have hoft := hX.often _ hpt
 have hnum := hX.nums _ hpt
 have hgood := hX.good k _ hpe
 have hback : pl E[k].toP.kids = E[k].kids := by
  have h1 := congrArg (fun L : List PI => L[k]?) hX.back
  simp only [List.getElem?_map, List.getElem?_eq_getElem k1, Option.map_some, Option.some.injEq] at h1
  exact congrArg PI.kids h1
 have hrw : ∀ l, refw (E.map PI.toP) m (f + 1) k l = if E[k].toP.kind = 1 then lay (m E[k].toP.name) l
   else if E[k].toP.kind = 3 then chR (refw (E.map PI.toP) m f) E[k].toP.kids ⟨false, Bg.nil, Bg.nil⟩ l
   else if E[k].toP.kind = 2 then rowR (refw (E.map PI.toP) m f) E[k].toP.kids emp l
   else timesR E[k].toP (several (refw (E.map PI.toP) m f) (List.replicate (often E[k].toP) (E[k].toP.kids.headD 0)) [] l).1 (several (refw (E.map PI.toP) m f) (List.replicate (often E[k].toP) (E[k].toP.kids.headD 0)) [] l).2 := by
  intro l; simp only [refw, hpe]
 have hpl2 : l.length + ((if E[k].toP.kind = 1 then 1 else 0) + often E[k].toP * (E[k].toP.kids.map (places (E.map PI.toP) f)).sum) ≤ 256 := by
  have : places (E.map PI.toP) (f + 1) k = (if E[k].toP.kind = 1 then 1 else 0) + often E[k].toP * (E[k].toP.kids.map (places (E.map PI.toP) f)).sum := by simp [places, hpe, kidsOf_sum]
  rw [← this]; exact hpl
 have hsmk := hsm _ hmem
 have hMk := hM _ hmem
 have hff : ∀ k l, l.length + places (E.map PI.toP) f k ≤ 256 → (refw (E.map PI.toP) m f k l).2.length = l.length + places (E.map PI.toP) f k ∧ (refw (E.map PI.toP) m f k l).1.rng l.length (l.length + places (E.map PI.toP) f k) := fun k l h => refw_facts hX.fit hX.four f k l h
 generalize E[k] = p at *
 obtain ⟨kd, lo, hi, nm, kz⟩ := p
 obtain ⟨ks, hks⟩ : ∃ ks, ks = (PI.toP ⟨kd, lo, hi, nm, kz⟩).kids := ⟨_, rfl⟩
 have hoi : Nf.often (PI.toP ⟨kd, lo, hi, nm, kz⟩) = oftenI kd lo hi := rfl
 replace hfit : (kd = 1 → ks = []) ∧ (kd ≠ 1 → kd ≠ 2 → kd ≠ 3 → ks.length = 1 ∧ 0 ≤ lo) := by rw [hks]; exact hfit
 rw [← hks] at hback hgood hrw hpl2
 rw [hoi] at hpl2 hoft
 obtain rfl : kd = 3 := hkd1
 replace hrw : ∀ l, refw (E.map PI.toP) m (f + 1) k l = chR (refw (E.map PI.toP) m f) ks ⟨false, Bg.nil, Bg.nil⟩ l := hrw
 replace hnum : 0 ≤ lo ∧ lo ≤ 20 ∧ hi ≤ 20 := hnum
 dsimp only at a0 a1 a2 a3 a4 ra hback hsmk
 obtain ⟨Ak, ck, rfl, hck, hrk⟩ := ra
 obtain ⟨Ao, co, hvo⟩ := hrs.on.form
 obtain ⟨Ab, cb, hvb⟩ := hrs.be.form
 rw [List.length_map] at hvo hvb
 obtain ⟨ln, hln⟩ : ∃ ln, l.length = ln := ⟨_, rfl⟩
 rw [hln] at hvo hvb
 subst hvo
 subst hvb
 have hNw : N < w.heap.size := hrs.lt N (.inl rfl)
 have hpt0 : PT w0 N w (.slice Ao ln co) (.slice Ab ln cb) ⟨3, lo, hi, nm, kz⟩ (.slice Ak kz.length ck) l ⟨false, Bg.nil, Bg.nil⟩ (.slice Ao ln co) (.slice Ab ln cb) (.slice none 0 0) (.slice none 0 0) (((w.alloc (.cells #[.slice none 0 0, .slice none 0 0, .slice none 0 0, .slice none 0 0, .bool false] 41)).alloc (.cells #[.int .i64 3, .int .i64 lo, .int .i64 hi, .string ⟨nm.toArray⟩, .slice Ak kz.length ck] 124)).alloc (.cells #[.slice none 0 0, .slice none 0 0, .slice none 0 0, .slice none 0 0, .bool false] 41)) := by
  have e1 : (w.alloc (.cells #[.slice none 0 0, .slice none 0 0, .slice none 0 0, .slice none 0 0, .bool false] 41)).heap.size = w.heap.size + 1 := by simp
  have r1 := RBox.new w (.slice none 0 0) (.slice none 0 0) (.slice none 0 0) (.slice none 0 0) false
  have r2 := r1.below ((Below.refl _ _).alloc (Nat.le_refl _) (.cells #[.int .i64 3, .int .i64 lo, .int .i64 hi, .string ⟨nm.toArray⟩, .slice Ak kz.length ck] 124))
  have r3 := r2.below ((Below.refl _ _).alloc (Nat.le_refl _) (.cells #[.slice none 0 0, .slice none 0 0, .slice none 0 0, .slice none 0 0, .bool false] 41))
  have q2 : RtAt ((w.alloc (.cells #[.slice none 0 0, .slice none 0 0, .slice none 0 0, .slice none 0 0, .bool false] 41)).alloc (.cells #[.int .i64 3, .int .i64 lo, .int .i64 hi, .string ⟨nm.toArray⟩, .slice Ak kz.length ck] 124)) (w.heap.size + 1) ⟨3, lo, hi, nm, kz⟩ (.slice Ak kz.length ck) := by
   rw [← e1]; exact heap_alloc_new _ _
  have q3 := q2.below ((Below.refl _ _).alloc (Nat.le_refl _) (.cells #[.slice none 0 0, .slice none 0 0, .slice none 0 0, .slice none 0 0, .bool false] 41)) q2.lt
  have s3 := RBox.new ((w.alloc (.cells #[.slice none 0 0, .slice none 0 0, .slice none 0 0, .slice none 0 0, .bool false] 41)).alloc (.cells #[.int .i64 3, .int .i64 lo, .int .i64 hi, .string ⟨nm.toArray⟩, .slice Ak kz.length ck] 124)) (.slice none 0 0) (.slice none 0 0) (.slice none 0 0) (.slice none 0 0) false
  rw [World.size_alloc, World.size_alloc] at s3
  have hb3 := (((Below.refl _ w).alloc (Nat.le_refl _) (.cells #[.slice none 0 0, .slice none 0 0, .slice none 0 0, .slice none 0 0, .bool false] 41)).alloc (by simp) (.cells #[.int .i64 3, .int .i64 lo, .int .i64 hi, .string ⟨nm.toArray⟩, .slice Ak kz.length ck] 124)).alloc (by simp; omega) (.cells #[.slice none 0 0, .slice none 0 0, .slice none 0 0, .slice none 0 0, .bool false] 41)
  exact ⟨hrs.below hb3, OldOr.refl _ _, OldOr.refl _ _, RFrame.of_below hb3, r3, q3, s3, ⟨by show LRow _ _ Bg.nil.list; rw [nil_list]; exact LRow.nil _ _, by show LRow _ _ Bg.nil.list; rw [nil_list]; exact LRow.nil _ _⟩, hNw⟩
 have HPT := Lib.hid hpt0
 have HBW := Lib.hid hbw
 have HRK := Lib.hid hrk
 have HKS := Lib.hid hback
 have HGD := Lib.hid hgood
 have HRW := Lib.hid hrw
 have HPL := Lib.hid hpl2
 have HOF := Lib.hid hoft
 have HFI := Lib.hid hfit
 have HFF := Lib.hid hff
 have HMK := Lib.hid hMk
 have HLN := Lib.hid hln
 have HIH := hide (fun (k : Nat) (l : List En) (w : World) (vo vb : Value) (h1 : k < f) (h2 : k < n) (h3 : Below w0.heap.size w0 w) (h4 : RS w0.heap.size N w l vo vb) (h5 : l.length + places (E.map PI.toP) f k ≤ 256) => IH k l w vo vb h1 h2 h3 h4 h5)
 have hbase : w0.heap.size ≤ w.heap.size := hbw.size
 have hlb : ln ≤ 256 := by omega
 obtain ⟨hn1, hn2, hn3⟩ := hnum
 clear hpt0 hbw hrk hback hgood hrw hpl2 hoft hfit hff hMk hln IH hpl hc hpt hmem hpe hoi hks hX hsm hE hM hrs hkd
 go_enter Tryz.func73, Tryz.ntmps73
 have hZ : Hid (0 = 0) := rfl
 have HXB : Hid (∀ k, XS N (.slice Ao ln co) (.slice Ab ln cb) k → w0.heap.size ≤ k) := fun k hk => HPT.out.net.base_le hN k hk
 go_wp2_with fail
 have HKL : Hid (kz.length = ks.length) := by show _ = _; rw [← HKS.out]; simp [pl]
 have hkl : kz.length ≤ 10000 := hsmk
 go_loopw [12] (fun iv wr => ∃ i : Nat, iv = .int .i64 i ∧ i ≤ kz.length ∧ Hid (∃ vo1 vb1 vf1 ve1, PT w0 N w (.slice Ao ln co) (.slice Ab ln cb) ⟨3, lo, hi, nm, kz⟩ (.slice Ak kz.length ck) (chR (refw (E.map PI.toP) m f) (ks.take i) ⟨false, Bg.nil, Bg.nil⟩ l).2 (chR (refw (E.map PI.toP) m f) (ks.take i) ⟨false, Bg.nil, Bg.nil⟩ l).1 vo1 vb1 vf1 ve1 wr) ∧ Hid ((chR (refw (E.map PI.toP) m f) (ks.take i) ⟨false, Bg.nil, Bg.nil⟩ l).2.length = l.length + ((ks.take i).map (places (E.map PI.toP) f)).sum)) (fun iv _ => kz.length - (intOf iv).toNat)
 case atStart => exact ⟨0, rfl, by omega, Lib.hid ⟨_, _, _, _, HPT.out⟩, Lib.hid (by simp [chR])⟩
 case round =>
  obtain ⟨i, rfl, hi1, hS, hL⟩ := hrel
  obtain ⟨vo1, vb1, vf1, ve1, hS⟩ := hS.out
  obtain ⟨p0, p1, p2, p3, p4⟩ := hS.part.cell
  dsimp only at p0 p1 p2 p3
  by_cases hlt : i < kz.length
  ·skip
   have hiks : i < ks.length := by have := HKL.out; omega
   have hb2 : Below w0.heap.size w0 wr := HBW.out.trans (hS.fr.below (fun k h => by
    rcases h with rfl | h | h
    ·exact hN
    ·exact HXB.out k (.inr (.inl h))
    ·exact HXB.out k (.inr (.inr h))) hbase)
   obtain ⟨kb, ko, hAk, hkc⟩ := (HRK.out.below hb2).2.2 (by omega)
   subst hAk
   have hkc1 := hkc i hlt
   have hzi : kz[i] = ((ks[i] : Nat) : Int) := by
    have h2 : (pl ks)[i]? = kz[i]? := by rw [HKS.out]
    rw [List.getElem?_eq_getElem hlt, List.getElem?_eq_getElem (by simp [pl]; omega)] at h2
    simp only [pl, List.getElem_map, Option.some.injEq] at h2
    exact h2.symm
   rw [List.getD_eq_getElem?_getD, List.getElem?_eq_getElem hlt, Option.getD_some, hzi] at hkc1
   have hkk : ks[i] < k := HGD.out ks[i] (List.getElem_mem hiks)
   have htk : ks.take (i + 1) = ks.take i ++ [ks[i]] := by rw [List.take_succ_eq_append_getElem hiks]
   have hsum := sum_le_sum (P := places (E.map PI.toP) f) (List.take_prefix (i + 1) ks)
   rw [htk, List.map_append, List.sum_append] at hsum
   simp only [List.map_cons, List.map_nil, List.sum_cons, List.sum_nil, Nat.add_zero] at hsum
   have hnx := chR_snoc (refw (E.map PI.toP) m f) (ks.take i) ks[i] ⟨false, Bg.nil, Bg.nil⟩ l
   rw [← htk] at hnx
   have hLo := hL.out
   generalize chR (refw (E.map PI.toP) m f) (ks.take i) ⟨false, Bg.nil, Bg.nil⟩ l = SL at hS hnx hLo
   obtain ⟨so, sL⟩ := SL
   dsimp only at hS hnx hLo
   have hfc := HFF.out ks[i] sL (by have := HPL.out; simp only [show oftenI 3 lo hi = 1 from rfl] at this; omega)
   have hcall := HIH.out ks[i] sL wr vo1 vb1 (by omega) (by omega) hb2 hS.net (by have := HPL.out; simp only [show oftenI 3 lo hi = 1 from rfl] at this; omega)
   have hln2 : sL.length + places (E.map PI.toP) f ks[i] = l.length + ((ks.take (i + 1)).map (places (E.map PI.toP) f)).sum := by
    rw [htk, List.map_append, List.sum_append, hLo]; simp; omega
   generalize ks[i] = kk at *
   obtain ⟨x, hx⟩ : ∃ x, (refw (E.map PI.toP) m f kk sL).1 = x := ⟨_, rfl⟩
   obtain ⟨L2, hL2⟩ : ∃ L2, (refw (E.map PI.toP) m f kk sL).2 = L2 := ⟨_, rfl⟩
   rw [hx, hL2] at hnx hfc hcall
   rw [← hfc.1] at hln2
   have HC := hide hcall
   have HNX := Lib.hid hnx
   have HLN2 := Lib.hid hln2
   have HS := Lib.hid hS
   have hzz : w.heap.size + 1 + 1 < wr.heap.size := hS.box.lt
   have hl1 : decide ((i : Int) < (kz.length : Int)) = true := by simp; omega
   have hpb : w.heap.size + 1 < wr.heap.size := by omega
   clear hcall hnx hln2 hS hfc hx hL2 hkc htk hsum hzi hb2 hL hLo hZ
   go_upto_region 15 with (go_at_call 73; refine (HC.out).mono ?_; rintro en w2 ⟨xf, xe, vo2, vb2, rfl, hpc, hrs, hfr, hoo, hob⟩; have HP2 := Lib.hid (HS.out.call hrs hfr hoo hob); have HX2 := Lib.hid hpc; obtain ⟨Ax, cx, hvx⟩ := hpc.1.form; obtain ⟨Ay, cy, hvy⟩ := hpc.2.form; obtain ⟨nx, hnx⟩ : ∃ nx, x.first.list.length = nx := ⟨_, rfl⟩; obtain ⟨ny, hny⟩ : ∃ ny, x.ends.list.length = ny := ⟨_, rfl⟩; rw [hnx] at hvx; rw [hny] at hvy; subst hvx; subst hvy; unfold rpV; clear hpc hrs hfr hoo hob hnx hny)
   clear p0 p1 p2 p3 p4 hkc1
   have hb3 := RBox.new w2 (.slice none 0 0) (.slice none 0 0) (.slice Ax nx cx) (.slice Ay ny cy) x.em
   have HP3 := Lib.hid (HP2.out.below ((Below.refl _ w2).alloc (Nat.le_refl _) (.cells #[.slice none 0 0, .slice none 0 0, .slice Ax nx cx, .slice Ay ny cy, .bool x.em] 41)))
   have HX3 := Lib.hid (HX2.out.below ((Below.refl _ w2).alloc (Nat.le_refl _) (.cells #[.slice none 0 0, .slice none 0 0, .slice Ax nx cx, .slice Ay ny cy, .bool x.em] 41)))
   have hz2 : w.heap.size + 1 + 1 < w2.heap.size := HP2.out.box.lt
   generalize w2.alloc (.cells #[.slice none 0 0, .slice none 0 0, .slice Ax nx cx, .slice Ay ny cy, .bool x.em] 41) = W3 at hb3 HP3 HX3 ⊢
   obtain ⟨X2, hX2⟩ : ∃ X2, X2 = w2.heap.size := ⟨_, rfl⟩
   rw [← hX2] at hb3 hz2 ⊢
   clear hX2 HP2 HX2
   have HB3 := Lib.hid hb3
   clear hb3
   obtain ⟨y0, y1, y2, y3, y4⟩ := HB3.out.cell
   obtain ⟨o0, o1, o2, o3, o4⟩ := HP3.out.box.cell
   obtain ⟨Af, cf, hvf⟩ := HP3.out.pc.1.form
   obtain ⟨Ae, ce, hve⟩ := HP3.out.pc.2.form
   obtain ⟨nf, hnf⟩ : ∃ nf, so.first.list.length = nf := ⟨_, rfl⟩
   obtain ⟨ne, hne⟩ : ∃ ne, so.ends.list.length = ne := ⟨_, rfl⟩
   rw [hnf] at hvf
   rw [hne] at hve
   subst hvf
   subst hve
   clear hnf hne
   have hxb : X2 < W3.heap.size := HB3.out.lt
   go_upto_region 16 with (go_at_call 82; refine (or_bags so.first x.first _ _ _ HP3.out.pc.1 HX3.out.1).mono ?_; rintro en w4 ⟨A4, n4, c4, rfl, hr4, hb4⟩; have HP4 := Lib.hid (HP3.out.below hb4); have HX4 := Lib.hid (HX3.out.below hb4); have HB4 := Lib.hid (HB3.out.below hb4); have HR4 := Lib.hid hr4; have g2 := HP4.out.box.free 2; have hxc := hb4.size; have k2 := HP4.out.box.cell.2.2.1; clear hb4 hr4)
   clear y0 y1 y2 y3 y4 o0 o1 o2 o3 o4 g2 k2
   have HP5 := Lib.hid (HP4.out.setF HR4.out)
   have HX5 := Lib.hid (HX4.out.frame (X := fun k => k = w.heap.size + 1 + 1) ((RFrame.refl (fun k => k = w.heap.size + 1 + 1) w4).setCell (fun _ => rfl) 2 (.slice A4 n4 c4)) (noints_ty (T := 41) (by decide) HP4.out.box.ty))
   have HB5 := Lib.hid (HB4.out.other (b := w.heap.size + 1 + 1) (by omega) 2 (.slice A4 n4 c4))
   generalize w4.setCell ⟨w.heap.size + 1 + 1, 2, none⟩ (.slice A4 n4 c4) = W5 at HP5 HX5 HB5 ⊢
   obtain ⟨y0, y1, y2, y3, y4⟩ := HB5.out.cell
   obtain ⟨o0, o1, o2, o3, o4⟩ := HP5.out.box.cell
   have hxb5 : X2 < W5.heap.size := HB5.out.lt
   have hz5 : w.heap.size + 1 + 1 < W5.heap.size := HP5.out.box.lt
   go_upto_region 17 with (go_at_call 82; refine (or_bags so.ends x.ends _ _ _ HP5.out.pc.2 HX5.out.2).mono ?_; rintro en w6 ⟨A6, n6, c6, rfl, hr6, hb6⟩; have HP6 := Lib.hid (HP5.out.below hb6); have HX6 := Lib.hid (HX5.out.below hb6); have HB6 := Lib.hid (HB5.out.below hb6); have HR6 := Lib.hid hr6; have g3 := HP6.out.box.free 3; have hxd := hb6.size; have k3 := HP6.out.box.cell.2.2.2.1; clear hb6 hr6)
   clear y0 y1 y2 y3 y4 o0 o1 o2 o3 o4 g3 k3
   have HP7 := Lib.hid (HP6.out.setE HR6.out)
   have HB7 := Lib.hid (HB6.out.other (b := w.heap.size + 1 + 1) (by omega) 3 (.slice A6 n6 c6))
   generalize w6.setCell ⟨w.heap.size + 1 + 1, 3, none⟩ (.slice A6 n6 c6) = W7 at HP7 HB7 ⊢
   have y4 := HB7.out.cell.2.2.2.2
   have o4 := HP7.out.box.cell.2.2.2.2
   have g4 := HP7.out.box.free 4
   dsimp only at o4
   obtain ⟨em, hem⟩ : ∃ em, so.em = em := ⟨_, rfl⟩
   obtain ⟨xm, hxm⟩ : ∃ xm, x.em = xm := ⟨_, rfl⟩
   rw [hem] at o4
   rw [hxm] at y4
   have HEM := Lib.hid hem
   have HXM := Lib.hid hxm
   have hle : i + 1 ≤ kz.length := by omega
   have hkl2 : i ≤ 10000 := by omega
   clear hem hxm HP3 HX3 HB3 HP4 HX4 HB4 HP5 HX5 HB5 HP6 HX6 HB6
   cases em
   ·cases xm
    ·go_wp2_with fail
     have HF := Lib.hid (HP7.out.setM false)
     go_roundw
     case rel => exact ⟨i + 1, by go_num, hle, Lib.hid ⟨_, _, _, _, by rw [HNX.out]; have h := HF.out; unfold or1; rw [HEM.out, HXM.out]; exact h⟩, Lib.hid (by rw [HNX.out]; exact HLN2.out)⟩
     case measure => simp [intOf]; omega
    ·go_wp2_with fail
     have HF := Lib.hid (HP7.out.setM true)
     go_roundw
     case rel => exact ⟨i + 1, by go_num, hle, Lib.hid ⟨_, _, _, _, by rw [HNX.out]; have h := HF.out; unfold or1; rw [HEM.out, HXM.out]; exact h⟩, Lib.hid (by rw [HNX.out]; exact HLN2.out)⟩
     case measure => simp [intOf]; omega
   ·go_wp2_with fail
    have HF := Lib.hid (HP7.out.setM true)
    go_roundw
    case rel => exact ⟨i + 1, by go_num, hle, Lib.hid ⟨_, _, _, _, by rw [HNX.out]; have h := HF.out; unfold or1; rw [HEM.out]; exact h⟩, Lib.hid (by rw [HNX.out]; exact HLN2.out)⟩
    case measure => simp [intOf]; omega
  ·skip
   obtain rfl : i = kz.length := by omega
   have hl1 : decide ((kz.length : Int) < (kz.length : Int)) = false := by simp
   have HRE : Hid (refw (E.map PI.toP) m (f + 1) k l = chR (refw (E.map PI.toP) m f) (ks.take kz.length) ⟨false, Bg.nil, Bg.nil⟩ l) := by
    show _ = _
    rw [List.take_of_length_le (by rw [HKL.out]; exact Nat.le_refl _)]
    exact HRW.out l
   generalize chR (refw (E.map PI.toP) m f) (ks.take kz.length) ⟨false, Bg.nil, Bg.nil⟩ l = SL at hS HRE
   obtain ⟨OUT, LL⟩ := SL
   dsimp only at hS
   have HPF := Lib.hid hS
   clear hS hL hlt p0 p1 p2 p3 hZ
   obtain ⟨Af, cf, hvf⟩ := HPF.out.pc.1.form
   obtain ⟨Ae, ce, hve⟩ := HPF.out.pc.2.form
   obtain ⟨nf, hnf⟩ : ∃ nf, OUT.first.list.length = nf := ⟨_, rfl⟩
   obtain ⟨ne, hne⟩ : ∃ ne, OUT.ends.list.length = ne := ⟨_, rfl⟩
   rw [hnf] at hvf
   rw [hne] at hve
   subst hvf
   subst hve
   clear hnf hne
   obtain ⟨o0, o1, o2, o3, o4⟩ := HPF.out.box.cell
   obtain ⟨r0, r1, r2, r3, r4⟩ := HPF.out.res.cell
   have e0 := HPF.out.res.free 0
   have e1 := HPF.out.res.free 1
   have e2 := HPF.out.res.free 2
   have e3 := HPF.out.res.free 3
   have e4 := HPF.out.res.free 4
   obtain ⟨em, hem⟩ : ∃ em, OUT.em = em := ⟨_, rfl⟩
   have HEM := Lib.hid hem
   rw [hem] at o4
   clear hem
   go_wp2
   have hs := ((((HPF.out.res.set0 (.slice none 0 0)).set1 (.slice none 0 0)).set2 (.slice Af nf cf)).set3 (.slice Ae ne ce)).set4 em
   have hf : RFrame (fun k => k = w.heap.size) wr (((((wr.setCell ⟨w.heap.size, 0, none⟩ (.slice none 0 0)).setCell ⟨w.heap.size, 1, none⟩ (.slice none 0 0)).setCell ⟨w.heap.size, 2, none⟩ (.slice Af nf cf)).setCell ⟨w.heap.size, 3, none⟩ (.slice Ae ne ce)).setCell ⟨w.heap.size, 4, none⟩ (.bool em)) :=
    (((((RFrame.refl (fun k => k = w.heap.size) wr).setCell (fun _ => rfl) _ _).setCell (fun _ => rfl) _ _).setCell (fun _ => rfl) _ _).setCell (fun _ => rfl) _ _).setCell (fun _ => rfl) _ _
   have hni : NoInts wr (fun k => k = w.heap.size) := noints_ty (T := 41) (by decide) HPF.out.res.ty
   obtain ⟨s0, s1, s2, s3, s4⟩ := hs.cell
   have hre := HRE.out
   refine bodyPost_ret (v := rpV (.slice Af nf cf) (.slice Ae ne ce) em) ?_ rfl ⟨.slice Af nf cf, .slice Ae ne ce, vo1, vb1, ?_, ?_, ?_, ?_, HPF.out.oo, HPF.out.ob⟩
   ·simp [rpV, results, Tryz.results73, go_sem, s0, s1, s2, s3, s4]
   ·rw [hre]; dsimp only; rw [HEM.out]
   ·rw [hre]; exact HPF.out.pc.frame hf hni
   ·rw [hre]; exact HPF.out.net.frame hf (fun k hk e => (HPF.out.off k hk).1 e) hni
   ·exact HPF.out.fr.trans hf (fun k hk e => by omega)
end Go.Proofs.YtnbchikiiipejaaGreatDoor.Nf
