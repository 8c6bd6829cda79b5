/- Walk of the reference of nfa: part, counts. -/
import Derived.Test.YtnbchikiiipejaaGreatDoorNrK4
import Derived.Deep.CutRange
set_option linter.unusedVariables false
set_option maxRecDepth 100000
set_option maxHeartbeats 8000000
namespace Go.Proofs.YtnbchikiiipejaaGreatDoor.Nf
open Go.RowKit Mem
open Bg (Bag)
open Ex (Pt PI PR KR pl)
theorem part_k4 (w0 : World) (N : Nat) (A : Option Addr) (n c : Nat) (E : List PI) (m : List UInt8 → Bag) (AL : Option Addr) (nl cl : Nat) (hE : PR w0 A n E) (hX : Expr E) (hsm : ∀ p ∈ E, p.kids.length ≤ 10000) (hn : n ≤ 100000)
  (hM : MnR w0 (.slice AL nl cl) m E) (hN : w0.heap.size ≤ N) (f : Nat) (IH : PartAt w0 N A n c (E.map PI.toP) m (.slice AL nl cl) f) (k : Nat) (hkf : k < f + 1) (hkn : k < n) (hkd : ∀ p, (E.map PI.toP)[k]? = some p → p.kind = 4) : PartFor w0 N A n c (E.map PI.toP) m (.slice AL nl cl) (f + 1) k := by
 intro l w vo vb hbw hrs hpl
 have k1 : k < E.length := by have := hE.1; omega
 obtain ⟨b, off, rfl, hb0', hc⟩ := hE.2 (by omega)
 obtain ⟨a0, a1, a2, a3, kv, a4, ra⟩ := hc k k1
 have hb : b < w.heap.size := Nat.lt_of_lt_of_le hb0' hbw.size
 rw [← hbw.cell (p := ⟨b, off + k * 5, none⟩) hb0'] at a0
 rw [← hbw.cell (p := ⟨b, off + k * 5 + 1, none⟩) hb0'] at a1
 rw [← hbw.cell (p := ⟨b, off + k * 5 + 2, none⟩) hb0'] at a2
 rw [← hbw.cell (p := ⟨b, off + k * 5 + 3, none⟩) hb0'] at a3
 rw [← hbw.cell (p := ⟨b, off + k * 5 + 4, none⟩) hb0'] at a4
 have hpe : (E.map PI.toP)[k]? = some E[k].toP := by rw [List.getElem?_map, List.getElem?_eq_getElem k1]; rfl
 have hmem := List.getElem_mem k1
 have hpt : E[k].toP ∈ E.map PI.toP := List.mem_map.2 ⟨_, hmem, rfl⟩
 have hkd1 := hkd _ hpe
 have hfit := hX.fit _ hpt
 have hoft := hX.often _ hpt
 have hnum := hX.nums _ hpt
 have hgood := hX.good k _ hpe
 have hcnt := (hX.cnt _ hpt).2
 have hback : pl E[k].toP.kids = E[k].kids := by
  have h1 := congrArg (fun L : List PI => L[k]?) hX.back
  simp only [List.getElem?_map, List.getElem?_eq_getElem k1, Option.map_some, Option.some.injEq] at h1
  exact congrArg PI.kids h1
 have hrw : ∀ l, refw (E.map PI.toP) m (f + 1) k l = if E[k].toP.kind = 1 then lay (m E[k].toP.name) l
   else if E[k].toP.kind = 3 then chR (refw (E.map PI.toP) m f) E[k].toP.kids ⟨false, Bg.nil, Bg.nil⟩ l
   else if E[k].toP.kind = 2 then rowR (refw (E.map PI.toP) m f) E[k].toP.kids emp l
   else timesR E[k].toP (several (refw (E.map PI.toP) m f) (List.replicate (often E[k].toP) (E[k].toP.kids.headD 0)) [] l).1 (several (refw (E.map PI.toP) m f) (List.replicate (often E[k].toP) (E[k].toP.kids.headD 0)) [] l).2 := by
  intro l; simp only [refw, hpe]
 have hpl2 : l.length + ((if E[k].toP.kind = 1 then 1 else 0) + often E[k].toP * (E[k].toP.kids.map (places (E.map PI.toP) f)).sum) ≤ 256 := by
  have : places (E.map PI.toP) (f + 1) k = (if E[k].toP.kind = 1 then 1 else 0) + often E[k].toP * (E[k].toP.kids.map (places (E.map PI.toP) f)).sum := by simp [places, hpe, kidsOf_sum]
  rw [← this]; exact hpl
 have hsmk := hsm _ hmem
 have hMk := hM _ hmem
 have hff : ∀ k l, l.length + places (E.map PI.toP) f k ≤ 256 → (refw (E.map PI.toP) m f k l).2.length = l.length + places (E.map PI.toP) f k ∧ (refw (E.map PI.toP) m f k l).1.rng l.length (l.length + places (E.map PI.toP) f k) := fun k l h => refw_facts hX.fit hX.four f k l h
 generalize E[k] = p at *
 obtain ⟨kd, lo, hi, nm, kz⟩ := p
 obtain ⟨ks, hks⟩ : ∃ ks, ks = (PI.toP ⟨kd, lo, hi, nm, kz⟩).kids := ⟨_, rfl⟩
 have hoi : Nf.often (PI.toP ⟨kd, lo, hi, nm, kz⟩) = oftenI kd lo hi := rfl
 replace hfit : (kd = 1 → ks = []) ∧ (kd ≠ 1 → kd ≠ 2 → kd ≠ 3 → ks.length = 1 ∧ 0 ≤ lo) := by rw [hks]; exact hfit
 rw [← hks] at hback hgood hrw hpl2
 rw [hoi] at hpl2 hoft
 obtain rfl : kd = 4 := hkd1
 replace hrw : ∀ l, refw (E.map PI.toP) m (f + 1) k l = timesR (PI.toP ⟨4, lo, hi, nm, kz⟩) (several (refw (E.map PI.toP) m f) (List.replicate (oftenI 4 lo hi) (ks.headD 0)) [] l).1 (several (refw (E.map PI.toP) m f) (List.replicate (oftenI 4 lo hi) (ks.headD 0)) [] l).2 := hrw
 replace hnum : 0 ≤ lo ∧ lo ≤ 20 ∧ hi ≤ 20 := hnum
 replace hcnt : 0 ≤ hi → lo ≤ hi := (hcnt (by decide : (4 : Int) ≠ 1) (by decide : (4 : Int) ≠ 2) (by decide : (4 : Int) ≠ 3)).2
 obtain ⟨kk, hkk⟩ : ∃ kk, ks = [kk] := by
  have h1 := (hfit.2 (by decide) (by decide) (by decide)).1
  match ks, h1 with
  | [x], _ => exact ⟨x, rfl⟩
 subst hkk
 simp only [List.headD_cons] at hrw
 obtain ⟨M, hMM⟩ : ∃ M, oftenI 4 lo hi = M := ⟨_, rfl⟩
 rw [hMM] at hrw hpl2 hoft
 have hMv : (M : Int) = if hi < 0 then (if lo < 1 then 1 else lo) else hi := by
  rw [← hMM]
  simp only [oftenI, if_true]
  split <;> (try split) <;> omega
 have hlM : lo ≤ (M : Int) := by
  rw [hMv]
  split <;> (try split) <;> omega
 have hM1 : 1 ≤ M := hoft.1
 have hM20 : M ≤ 20 := by
  have : (M : Int) ≤ 20 := by
   rw [hMv]
   split <;> (try split) <;> omega
  omega
 dsimp only at a0 a1 a2 a3 a4 ra hback hsmk
 obtain ⟨Ak, ck, rfl, hck, hrk⟩ := ra
 obtain ⟨Ao, co, hvo⟩ := hrs.on.form
 obtain ⟨Ab, cb, hvb⟩ := hrs.be.form
 rw [List.length_map] at hvo hvb
 obtain ⟨ln, hln⟩ : ∃ ln, l.length = ln := ⟨_, rfl⟩
 rw [hln] at hvo hvb
 subst hvo
 subst hvb
 have hNw : N < w.heap.size := hrs.lt N (.inl rfl)
 have hpt0 : PT w0 N w (.slice Ao ln co) (.slice Ab ln cb) ⟨4, lo, hi, nm, kz⟩ (.slice Ak kz.length ck) l emp (.slice Ao ln co) (.slice Ab ln cb) (.slice none 0 0) (.slice none 0 0) (((w.alloc (.cells #[.slice none 0 0, .slice none 0 0, .slice none 0 0, .slice none 0 0, .bool false] 41)).alloc (.cells #[.int .i64 4, .int .i64 lo, .int .i64 hi, .string ⟨nm.toArray⟩, .slice Ak kz.length ck] 124)).alloc (.cells #[.slice none 0 0, .slice none 0 0, .slice none 0 0, .slice none 0 0, .bool true] 41)) := by
  have e1 : (w.alloc (.cells #[.slice none 0 0, .slice none 0 0, .slice none 0 0, .slice none 0 0, .bool false] 41)).heap.size = w.heap.size + 1 := by simp
  have r1 := RBox.new w (.slice none 0 0) (.slice none 0 0) (.slice none 0 0) (.slice none 0 0) false
  have r2 := r1.below ((Below.refl _ _).alloc (Nat.le_refl _) (.cells #[.int .i64 4, .int .i64 lo, .int .i64 hi, .string ⟨nm.toArray⟩, .slice Ak kz.length ck] 124))
  have r3 := r2.below ((Below.refl _ _).alloc (Nat.le_refl _) (.cells #[.slice none 0 0, .slice none 0 0, .slice none 0 0, .slice none 0 0, .bool true] 41))
  have q2 : RtAt ((w.alloc (.cells #[.slice none 0 0, .slice none 0 0, .slice none 0 0, .slice none 0 0, .bool false] 41)).alloc (.cells #[.int .i64 4, .int .i64 lo, .int .i64 hi, .string ⟨nm.toArray⟩, .slice Ak kz.length ck] 124)) (w.heap.size + 1) ⟨4, lo, hi, nm, kz⟩ (.slice Ak kz.length ck) := by
   rw [← e1]; exact heap_alloc_new _ _
  have q3 := q2.below ((Below.refl _ _).alloc (Nat.le_refl _) (.cells #[.slice none 0 0, .slice none 0 0, .slice none 0 0, .slice none 0 0, .bool true] 41)) q2.lt
  have s3 := RBox.new ((w.alloc (.cells #[.slice none 0 0, .slice none 0 0, .slice none 0 0, .slice none 0 0, .bool false] 41)).alloc (.cells #[.int .i64 4, .int .i64 lo, .int .i64 hi, .string ⟨nm.toArray⟩, .slice Ak kz.length ck] 124)) (.slice none 0 0) (.slice none 0 0) (.slice none 0 0) (.slice none 0 0) true
  rw [World.size_alloc, World.size_alloc] at s3
  have hb3 := (((Below.refl _ w).alloc (Nat.le_refl _) (.cells #[.slice none 0 0, .slice none 0 0, .slice none 0 0, .slice none 0 0, .bool false] 41)).alloc (by simp) (.cells #[.int .i64 4, .int .i64 lo, .int .i64 hi, .string ⟨nm.toArray⟩, .slice Ak kz.length ck] 124)).alloc (by simp; omega) (.cells #[.slice none 0 0, .slice none 0 0, .slice none 0 0, .slice none 0 0, .bool true] 41)
  exact ⟨hrs.below hb3, OldOr.refl _ _, OldOr.refl _ _, RFrame.of_below hb3, r3, q3, s3, ⟨by show LRow _ _ Bg.nil.list; rw [nil_list]; exact LRow.nil _ _, by show LRow _ _ Bg.nil.list; rw [nil_list]; exact LRow.nil _ _⟩, hNw⟩
 have hpl3 : l.length + M * places (E.map PI.toP) f kk ≤ 256 := by
  have h := hpl2
  rw [if_neg (by show ¬ ((4 : Int) = 1); omega)] at h
  simpa only [List.map_cons, List.map_nil, List.sum_cons, List.sum_nil, Nat.add_zero, Nat.zero_add] using h
 have hkkk : kk < k := hgood kk (by simp)
 have hz1 : kz.length = 1 := by rw [← hback]; rfl
 have hzc : kz.getD 0 0 = (kk : Int) := by rw [← hback]; rfl
 have HPL3 := Lib.hid hpl3
 have HKZ := Lib.hid hz1
 have HZC := Lib.hid hzc
 have HMV := Lib.hid hMv
 have HPT := Lib.hid hpt0
 have HBW := Lib.hid hbw
 have HRK := Lib.hid hrk
 have HKS := Lib.hid hback
 have HGD := Lib.hid hgood
 have HRW := Lib.hid hrw
 have HPL := Lib.hid hpl2
 have HOF := Lib.hid hoft
 have HFI := Lib.hid hfit
 have HFF := Lib.hid hff
 have HMK := Lib.hid hMk
 have HLN := Lib.hid hln
 have HIH := hide (fun (k : Nat) (l : List En) (w : World) (vo vb : Value) (h1 : k < f) (h2 : k < n) (h3 : Below w0.heap.size w0 w) (h4 : RS w0.heap.size N w l vo vb) (h5 : l.length + places (E.map PI.toP) f k ≤ 256) => IH k l w vo vb h1 h2 h3 h4 h5)
 have hbase : w0.heap.size ≤ w.heap.size := hbw.size
 have hlb : ln ≤ 256 := by omega
 obtain ⟨hn1, hn2, hn3⟩ := hnum
 clear hpt0 hbw hrk hback hgood hrw hpl2 hoft hfit hff hMk hln IH hpl hc hpt hmem hpe hoi hks hX hsm hE hM hrs hkd hpl3 hz1 hzc hcnt hMM hMv HPL HOF HFI HGD HKS HMK
 generalize refw (E.map PI.toP) m f = g at HIH HFF HRW
 generalize places (E.map PI.toP) f = P at HIH HFF HPL3
 have HSV : Hid (∀ i, i ≤ M → (svR g kk l i).1.length = i ∧ (svR g kk l i).2.length = l.length + i * P kk ∧ ∀ p ∈ (svR g kk l i).1, p.rng 0 (l.length + i * P kk)) := fun i hi => svR_facts HFF.out kk l M HPL3.out i hi
 go_enter Tryz.func73, Tryz.ntmps73
 have hZ : Hid (0 = 0) := rfl
 have HXB : Hid (∀ k, XS N (.slice Ao ln co) (.slice Ab ln cb) k → w0.heap.size ≤ k) := fun k hk => HPT.out.net.base_le hN k hk
 obtain ⟨p0, p1, p2, p3, p4⟩ := HPT.out.part.cell
 dsimp only at p0 p1 p2 p3
 go_upto_if 133 with fail
 generalize (((w.alloc (.cells #[.slice none 0 0, .slice none 0 0, .slice none 0 0, .slice none 0 0, .bool false] 41)).alloc (.cells #[.int .i64 4, .int .i64 lo, .int .i64 hi, .string ⟨nm.toArray⟩, .slice Ak kz.length ck] 124)).alloc (.cells #[.slice none 0 0, .slice none 0 0, .slice none 0 0, .slice none 0 0, .bool true] 41)) = W0 at HPT p0 p1 p2 p3 p4 ⊢
 go_cut [16] from 130 (fun v wx => v = .int .i64 (M : Int) ∧ wx = W0)
 case first =>
  by_cases hh : hi < 0
  ·have hd1 : decide (hi < 0) = true := by simp [hh]
   by_cases h1 : lo < 1
   ·go_wp2_with fail
    all_goals go_meet
    case rel => exact ⟨by congr 1; have := HMV.out; split at this <;> (try split at this) <;> omega, rfl⟩
   ·go_wp2_with fail
    all_goals go_meet
    case rel => exact ⟨by congr 1; have := HMV.out; split at this <;> (try split at this) <;> omega, rfl⟩
  ·have hd1 : decide (hi < 0) = false := by simp; omega
   go_wp2_with fail
   go_meet
   case rel => exact ⟨by congr 1; have := HMV.out; split at this <;> (try split at this) <;> omega, rfl⟩
 case rest =>
 obtain ⟨rfl, rfl⟩ := hcut
 clear p0 p1 p2 p3 p4
 obtain ⟨i0, hi0, hg0⟩ := Option.map_eq_some_iff.1 info_net
 obtain ⟨hz0, hs1, hs2⟩ : i0.zero = some (.agg #[.slice none 0 0, .slice none 0 0, .slice none 0 0, .slice none 0 0, .bool false]) ∧ i0.size = 5 ∧ i0.bytes = 104 := by simpa using hg0
 clear hg0
 go_wp2_with fail
 go_loopw [17, 18] (fun av kv wr => ∃ i : Nat, kv = .int .i64 i ∧ i ≤ M ∧ Hid (∃ vo1 vb1, KT w0 N w (.slice Ao ln co) (.slice Ab ln cb) ⟨4, lo, hi, nm, kz⟩ (.slice Ak kz.length ck) (ldR hi M (svR g kk l i) i) emp av (svR g kk l i).1 vo1 vb1 (.slice none 0 0) (.slice none 0 0) wr)) (fun _ kv _ => M - (intOf kv).toNat)
 case atStart =>
  refine ⟨0, rfl, by omega, Lib.hid ⟨.slice Ao ln co, .slice Ab ln cb, ⟨?_, NRow.nil _ _⟩⟩⟩
  have h0 := HPT.out
  by_cases hz : hi < 0 ∧ 0 = M
  ·exfalso; have := HMV.out; rw [if_pos hz.1] at this; split at this <;> omega
  ·rw [ldR_no _ hz]; exact h0
 case round =>
  obtain ⟨i, rfl, hi1, hS⟩ := hrel
  obtain ⟨vo1, vb1, hS⟩ := hS.out
  by_cases hlt : i < M
  ·skip
   rw [ldR_no _ (by omega)] at hS
   have hb2 : Below w0.heap.size w0 wr := HBW.out.trans (hS.pt.fr.below (fun k h => by
    rcases h with rfl | h | h
    ·exact hN
    ·exact HXB.out k (.inr (.inl h))
    ·exact HXB.out k (.inr (.inr h))) hbase)
   have hz1 := HKZ.out
   have hzpos : 0 < kz.length := by omega
   obtain ⟨kb, ko, hAk, hkc⟩ := (HRK.out.below hb2).2.2 hzpos
   subst hAk
   have hkc1 := hkc 0 hzpos
   rw [HZC.out, Nat.add_zero] at hkc1
   obtain ⟨p0, p1, p2, p3, p4⟩ := hS.pt.part.cell
   dsimp only at p0 p1 p2 p3
   have hpb : w.heap.size + 1 < wr.heap.size := by have := hS.pt.box.lt; omega
   obtain ⟨hv1, hv2, hv3⟩ := HSV.out i hi1
   have hPm : i * P kk + P kk ≤ M * P kk := by
    have := Nat.mul_le_mul_right (P kk) (show i + 1 ≤ M from hlt)
    rwa [Nat.succ_mul] at this
   have hp3 := HPL3.out
   have hcall := HIH.out kk (svR g kk l i).2 wr vo1 vb1 (by omega) (by omega) hb2 hS.pt.net (by omega)
   have hfc := HFF.out kk (svR g kk l i).2 (by omega)
   have HSU : Hid (svR g kk l (i + 1) = ((svR g kk l i).1 ++ [(g kk (svR g kk l i).2).1], (g kk (svR g kk l i).2).2)) := svR_succ g kk l i
   generalize svR g kk l i = SL at hS hv1 hv2 hv3 hcall hfc HSU
   obtain ⟨sp, sL⟩ := SL
   dsimp only at hS hv1 hv2 hv3 hcall hfc HSU
   obtain ⟨x, hx⟩ : ∃ x, (g kk sL).1 = x := ⟨_, rfl⟩
   obtain ⟨L2, hL2⟩ : ∃ L2, (g kk sL).2 = L2 := ⟨_, rfl⟩
   rw [hx, hL2] at HSU hfc hcall
   have HC := hide hcall
   have HS := Lib.hid hS
   have HXR : Hid (x.rng 0 L2.length) := hfc.2.mono (by omega) (by omega)
   have HSPL := Lib.hid hv1
   have hl1 : decide ((i : Int) < (M : Int)) = true := by simp; omega
   obtain ⟨Aa, ca, hva⟩ := hS.all.form
   rw [hv1] at hva
   subst hva
   clear hcall hS hfc hx hL2 hkc hb2 hv1 hv2 hv3 hPm hp3 hz1
   go_upto_region 35 with (go_at_call 73; refine (HC.out).mono ?_; rintro en w2 ⟨xf, xe, vo2, vb2, rfl, hpc, hrs, hfr, hoo, hob⟩; have HP2 := Lib.hid (HS.out.call hrs hfr hoo hob); have HX2 := Lib.hid hpc; obtain ⟨Ax, cx, hvx⟩ := hpc.1.form; obtain ⟨Ay, cy, hvy⟩ := hpc.2.form; obtain ⟨nx, hnx⟩ : ∃ nx, x.first.list.length = nx := ⟨_, rfl⟩; obtain ⟨ny, hny⟩ : ∃ ny, x.ends.list.length = ny := ⟨_, rfl⟩; have HNY := Lib.hid hny; rw [hnx] at hvx; rw [hny] at hvy; subst hvx; subst hvy; unfold rpV; clear hpc hrs hfr hoo hob hnx hny)
   clear p0 p1 p2 p3 p4 hkc1
   have hb3 := RBox.new w2 (.slice none 0 0) (.slice none 0 0) (.slice Ax nx cx) (.slice Ay ny cy) x.em
   have HP3 := Lib.hid (HP2.out.below ((Below.refl _ w2).alloc (Nat.le_refl _) (.cells #[.slice none 0 0, .slice none 0 0, .slice Ax nx cx, .slice Ay ny cy, .bool x.em] 41)))
   have HX3 := Lib.hid (HX2.out.below ((Below.refl _ w2).alloc (Nat.le_refl _) (.cells #[.slice none 0 0, .slice none 0 0, .slice Ax nx cx, .slice Ay ny cy, .bool x.em] 41)))
   have hz2 : w.heap.size + 1 + 1 + 1 ≤ w2.heap.size := HP2.out.pt.box.lt
   have HVA : Hid (∀ g, (Value.slice Aa i ca).ownBlock = some g → g ≠ w2.heap.size) := fun g hg => by have := (HP2.out.all.block g hg).2.1; omega
   generalize w2.alloc (.cells #[.slice none 0 0, .slice none 0 0, .slice Ax nx cx, .slice Ay ny cy, .bool x.em] 41) = W3 at hb3 HP3 HX3 ⊢
   obtain ⟨X2, hX2⟩ : ∃ X2, X2 = w2.heap.size := ⟨_, rfl⟩
   rw [← hX2] at hb3 hz2 HVA ⊢
   clear hX2 HP2 HX2
   have HB3 := Lib.hid hb3
   clear hb3
   obtain ⟨y0, y1, y2, y3, y4⟩ := HB3.out.cell
   obtain ⟨p0, p1, p2, p3, p4⟩ := HP3.out.pt.part.cell
   dsimp only at p0 p1 p2 p3
   have hpb3 : w.heap.size + 1 < W3.heap.size := by have := HP3.out.pt.box.lt; omega
   have hxb3 : X2 < W3.heap.size := HB3.out.lt
   have hle : i + 1 ≤ M := hlt
   have hi20 : i ≤ 20 := by omega
   by_cases hneg : hi < 0
   ·have hd1 : decide (hi < 0) = true := by simp [hneg]
    by_cases hlast : i + 1 = M
    ·have hd2 : ((i : Int) == (M : Int) - 1) = true := by simp; omega
     go_wp2_with fail
     go_loopw [20] (fun jv wr => ∃ j : Nat, jv = .int .i64 j ∧ j ≤ ny ∧ Hid (KT w0 N w (.slice Ao ln co) (.slice Ab ln cb) ⟨4, lo, hi, nm, kz⟩ (.slice (some ⟨kb, ko, none⟩) kz.length ck) (leadL (x.ends.list.take j) x.first L2) emp (.slice Aa i ca) sp vo2 vb2 (.slice none 0 0) (.slice none 0 0) wr ∧ RBox wr X2 (.slice none 0 0) (.slice none 0 0) (.slice Ax nx cx) (.slice Ay ny cy) x.em ∧ PcR wr (.slice Ax nx cx) (.slice Ay ny cy) x)) (fun jv _ => ny - (intOf jv).toNat)
     case atStart => exact ⟨0, rfl, by omega, Lib.hid ⟨HP3.out, HB3.out, HX3.out⟩⟩
     case round =>
      obtain ⟨j, rfl, hj1, hT⟩ := hrel
      obtain ⟨hKT, hBX, hPX⟩ := hT.out
      clear hT
      obtain ⟨y0, y1, y2, y3, y4⟩ := hBX.cell
      by_cases hjl : j < ny
      ·obtain ⟨hn1', hrow⟩ := hPX.2.row
       obtain ⟨ge, oe, hAy, hce⟩ := hrow.2.2 (by omega)
       subst hAy
       have ce1 := hce j (by omega)
       have hil : j < x.ends.list.length := by omega
       have hmem := List.getElem_mem hil
       obtain ⟨q, hq⟩ : ∃ q : Nat, x.ends.list[j] = (q : Int) := ⟨(x.ends.list[j]).toNat, by have := list_nonneg x.ends _ hmem; omega⟩
       have hql : q < L2.length := (HXR.out.2 q (by rw [Bg.has_hasI]; rw [hq] at hmem; exact (Bg.mem_list _ _).1 hmem)).2
       rw [List.getD_eq_getElem?_getD, List.getElem?_eq_getElem hil, Option.getD_some, hq] at ce1
       have htk : x.ends.list.take (j + 1) = x.ends.list.take j ++ [(q : Int)] := by rw [List.take_succ_eq_append_getElem hil, hq]
       obtain ⟨LL, hLL⟩ : ∃ LL, LL = leadL (x.ends.list.take j) x.first L2 := ⟨_, rfl⟩
       have hLl : LL.length = L2.length := by rw [hLL, leadL_length]
       have hnext : leadL (x.ends.list.take (j + 1)) x.first L2 = LL.modify q (lead1 x.first) := by rw [htk, leadL_append, ← hLL]; rfl
       rw [← hLL] at hKT
       have hqL : q < LL.length := by omega
       obtain ⟨mm, hm⟩ : ∃ mm, (LL.map fun x => x.behind.list).length = mm := ⟨_, rfl⟩
       have hmL : LL.length = mm := by rw [← hm, List.length_map]
       obtain ⟨gb, cap, hv, hgb, hg, hfz, hcs⟩ := hKT.pt.net.be.opn (by rw [hm]; omega)
       rw [hm] at hv
       subst hv
       obtain ⟨u, hu, hur⟩ := hcs q (by rw [hm]; omega)
       rw [List.getElem_map] at hur
       have HQL : Hid (q < LL.length) := hqL
       replace hur : LRow wr u (LL[q]'HQL.out).behind.list := hur
       have HNX := Lib.hid hnext
       have hqm : q < mm := by omega
       have HUR := Lib.hid hur
       obtain ⟨Au, cu, rfl⟩ := hur.form
       have HM := Lib.hid hmL
       obtain ⟨vf0, ve0, em0, hNx⟩ := hKT.pt.net.box
       have n1 := hNx.cell.2.1
       have hNlt := hNx.lt
       have htyg := (hKT.pt.net.be.block gb rfl).2.2
       have hNg : N ≠ gb := ty_ne (S := 41) (T := 39) (by decide) hNx.ty htyg
       have hXg : X2 ≠ gb := ty_ne (S := 41) (T := 39) (by decide) hBX.ty htyg
       have hge : ge ≠ gb := by
        obtain ⟨_, _, _, _, hty⟩ := hPX.2
        simp only [Value.slice.injEq] at *
        rename_i hh
        exact ty_ne (S := 3) (T := 39) (by decide) (hty ge oe none hh.1.symm) htyg
       obtain ⟨nb, hnb⟩ : ∃ nb, (LL[q]'HQL.out).behind.list.length = nb := ⟨_, rfl⟩
       rw [hnb] at hu HUR
       have hny256 : j < 256 := by have := len_list x.ends; omega
       have l1 : decide ((j : Int) < (ny : Int)) = true := by simp; omega
       have HKT := Lib.hid hKT
       have HBX := Lib.hid hBX
       have HPX := Lib.hid hPX
       have hX2l := hBX.lt
       clear hgb hLL hLl hnext hm hmL hqL hcs hur hfz hKT hnb hq hmem hil htk hn1' hrow hce hNx htyg hBX hPX y0 y1 y4 p0 p1 p2 p3 p4
       go_wp2_with fail
       refine wp_region_held_drew (S := fun W' => (W'.cell? ⟨N, 1, none⟩ = some (.slice (some ⟨gb, 0, none⟩) mm cap) ∧ W'.cell? ⟨X2, 3, none⟩ = some (.slice (some ⟨ge, oe, none⟩) ny cy)) ∧ W'.cell? ⟨ge, oe + j, none⟩ = some (.int .i64 q) ∧ W'.cell? ⟨X2, 2, none⟩ = some (.slice Ax nx cx)) (by kernel_rfl) ⟨⟨n1, y3⟩, ce1, y2⟩ (fun hHeld => ?_)
       refine tk 0 (v := ?_) rfl (by kernel_rfl) (fun _ _ _ h => h) ?_ hHeld ?_
       rotate_left
       ·(intro W hSw; (try dsimp only at hSw); go_simp; try with_reducible rfl)
       refine tk 1 (v := ?_) rfl (by kernel_rfl) (fun _ _ _ h => h) ?_ hHeld ?_
       rotate_left
       ·(intro W hSw; (try dsimp only at hSw); go_simp; try with_reducible rfl)
       refine tk 2 (v := ?_) rfl (by kernel_rfl) (fun _ _ _ h => h) ?_ hHeld ?_
       rotate_left
       ·(intro W hSw; (try dsimp only at hSw); go_simp; try with_reducible rfl)
       refine tk 3 (v := ?_) rfl (by kernel_rfl) (fun _ _ _ h => h) ?_ hHeld ?_
       rotate_left
       ·(intro W hSw; (try dsimp only at hSw); go_simp; try with_reducible rfl)
       refine tk 4 (v := ?_) rfl (by kernel_rfl) (fun _ _ _ h => h) ?_ hHeld ?_
       rotate_left
       ·(intro W hSw; (try dsimp only at hSw); go_simp; try with_reducible rfl)
       refine tk 5 (v := ?_) rfl (by kernel_rfl) (fun _ _ _ h => h) ?_ hHeld ?_
       rotate_left
       ·(intro W hSw; (try dsimp only at hSw); go_simp; try with_reducible rfl)
       refine tk 6 (v := ?_) rfl (by kernel_rfl) (fun _ _ _ h => h) ?_ hHeld ?_
       rotate_left
       ·(intro W hSw; (try dsimp only at hSw); go_simp; try with_reducible rfl)
       refine tk 7 (v := ?_) rfl (by kernel_rfl) (fun _ _ _ h => h) ?_ hHeld ?_
       rotate_left
       ·(intro W hSw; (try dsimp only at hSw); go_simp; try with_reducible rfl)
       refine tk 8 (v := ?_) rfl (by kernel_rfl) (fun _ _ _ h => h) ?_ hHeld ?_
       rotate_left
       ·(intro W hSw; (try dsimp only at hSw); go_simp; try with_reducible rfl)
       refine tk 9 (v := ?_) rfl (by kernel_rfl) (fun _ _ _ h => h) ?_ hHeld ?_
       rotate_left
       ·(intro W hSw; (try dsimp only at hSw); go_simp; try with_reducible rfl)
       refine tk 10 (v := ?_) rfl (by kernel_rfl) (fun _ _ _ h => h) ?_ hHeld ?_
       rotate_left
       ·(intro W hSw; (try dsimp only at hSw); go_simp; try with_reducible rfl)
       refine tk 11 (v := ?_) rfl (by kernel_rfl) (fun _ _ _ h => h) ?_ hHeld ?_
       rotate_left
       ·(intro W hSw; (try dsimp only at hSw); go_simp; try with_reducible rfl)
       refine tk 12 (v := ?_) rfl (by kernel_rfl) (fun _ _ _ h => h) ?_ hHeld ?_
       rotate_left
       ·(intro W hSw; (try dsimp only at hSw); go_simp; try with_reducible rfl)
       refine tk 13 (v := ?_) rfl (by kernel_rfl) (fun _ _ _ h => h) ?_ hHeld ?_
       rotate_left
       ·(intro W hSw; (try dsimp only at hSw); go_simp; try with_reducible rfl)
       refine tk 14 (v := ?_) rfl (by kernel_rfl) (fun _ _ _ h => h) ?_ hHeld ?_
       rotate_left
       ·(intro W hSw; (try dsimp only at hSw); go_simp; try with_reducible rfl)
       refine tk 15 (v := ?_) rfl (by kernel_rfl) (fun _ _ _ h => h) ?_ hHeld ?_
       rotate_left
       ·(intro W hSw; (try dsimp only at hSw); go_simp; try with_reducible rfl)
       refine tk 16 (v := ?_) rfl (by kernel_rfl) (fun _ _ _ h => h) ?_ hHeld ?_
       rotate_left
       ·(intro W hSw; (try dsimp only at hSw); go_simp; try with_reducible rfl)
       refine tk 17 (v := ?_) rfl (by kernel_rfl) (fun _ _ _ h => h) ?_ hHeld ?_
       rotate_left
       ·(intro W hSw; (try dsimp only at hSw); go_simp; try with_reducible rfl)
       refine tk 18 (v := ?_) rfl (by kernel_rfl) (fun _ _ _ h => h) ?_ hHeld ?_
       rotate_left
       ·(intro W hSw; (try dsimp only at hSw); go_simp; try with_reducible rfl)
       refine tk 20 (v := ?_) rfl (by kernel_rfl) (fun _ _ _ h => h) ?_ hHeld ?_
       rotate_left
       ·(intro W hSw; (try dsimp only at hSw); go_simp; try with_reducible rfl)
       refine tk 21 (v := ?_) rfl (by kernel_rfl) (fun _ _ _ h => h) ?_ hHeld ?_
       rotate_left
       ·(intro W hSw; (try dsimp only at hSw); go_simp; try with_reducible rfl)
       refine wpAnyH_ready (rs := [19]) (by kernel_rfl) (by simp) ?_
       refine AllReadyH.cons rfl (fun K hK => ?_) AllReadyH.nil
       go_simp
       refine hK.out _ _ hHeld (fun hH2 => ?_)
       clear hHeld hK K
       have hHeld := hH2
       clear hH2
       refine wpAnyH_ready (rs := [22]) (by kernel_rfl) (by simp) ?_
       refine AllReadyH.cons rfl (fun K hK => ?_) AllReadyH.nil
       go_simp
       go_at_call 82
       refine (or_bags (LL[q]'HQL.out).behind x.first _ _ _ (HUR.out.drew) (HPX.out.1.drew)).mono ?_
       rintro en w9 ⟨Ar, nr, cr, rfl, hr, hb9⟩
       have hb8 : Below wr.heap.size wr w9 := (below_drewN (Below.refl _ _) 1).trans hb9
       have HKT9 := Lib.hid (HKT.out.below hb8)
       have HBX9 := Lib.hid (HBX.out.below hb8)
       have HPX9 := Lib.hid (HPX.out.below hb8)
       obtain ⟨d0, d1, d2, d3, d4⟩ := HBX9.out.cell
       obtain ⟨vf9, ve9, em9, hNx9⟩ := HKT9.out.pt.net.box
       have n19 := hNx9.cell.2.1
       have ce9 : w9.cell? ⟨ge, oe + j, none⟩ = some (.int .i64 q) := by rw [← ce1]; exact hb8.cell (p := ⟨ge, oe + j, none⟩) (World.block_lt_of_cell? wr _ ce1)
       have HR := Lib.hid hr
       obtain ⟨g', cap', hv', hgb9, hg9, hfz9, hcs9⟩ := HKT9.out.pt.net.be.opn (by rw [List.length_map]; exact Nat.lt_of_le_of_lt (Nat.zero_le _) HQL.out)
       rw [List.length_map, HM.out] at hv'
       simp only [Value.slice.injEq, Option.some.injEq, Addr.mk.injEq, and_true, true_and] at hv'
       obtain ⟨rfl, rfl⟩ := hv'
       obtain ⟨u9, hu9, hu9r⟩ := hcs9 q (by rw [List.length_map]; exact HQL.out)
       have hf9 := hfz9 q
       have hNl9 := hNx9.lt
       have HNX9 := Lib.hid hNx9
       have HS9 := Lib.hid (show (w9.cell? ⟨N, 1, none⟩ = some (.slice (some ⟨gb, 0, none⟩) mm cap) ∧ w9.cell? ⟨X2, 3, none⟩ = some (.slice (some ⟨ge, oe, none⟩) ny cy)) ∧ w9.cell? ⟨ge, oe + j, none⟩ = some (.int .i64 q) ∧ w9.cell? ⟨X2, 2, none⟩ = some (.slice Ax nx cx) from ⟨⟨n19, d3⟩, ce9, d2⟩)
       clear hb9 hb8 hr hfz9 hcs9 hHeld hu9r hgb9 hNx9
       go_wp2_with fail
       refine hK.out _ _ HS9.out (fun hHeld => ?_)
       clear hK K
       refine tk 23 (v := ?_) rfl (by kernel_rfl) (fun _ _ _ h => h) ?_ hHeld ?_
       rotate_left
       ·(intro W hSw; (try dsimp only at hSw); go_simp; try with_reducible rfl)
       refine wpAnyH_ready (rs := [24]) (by kernel_rfl) (by simp) ?_
       refine AllReadyH.cons rfl (fun K hK => ?_) AllReadyH.nil
       go_simp
       have hT10 := HKT9.out.lead HM.out.symm q HQL.out x.first HR.out hf9
       have hB10 := HBX9.out.other (b := gb) (fun e => hXg e.symm) q (.slice Ar nr cr)
       have hP10 := HPX9.out.frame (X := fun k => k = gb) ((RFrame.refl (fun k => k = gb) w9).setCell (fun _ => rfl) q (.slice Ar nr cr)) (noints_ty (T := 39) (by decide) (HKT9.out.pt.net.be.block gb rfl).2.2)
       have hN10 := HNX9.out.other (b := gb) (fun e => hNg e.symm) q (.slice Ar nr cr)
       rw [← HNX.out] at hT10
       obtain ⟨e0, e1, e2, e3, e4⟩ := hN10.cell
       obtain ⟨z0, z1, z2, z3, z4⟩ := hB10.cell
       have ce10 : (w9.setCell ⟨gb, q, none⟩ (.slice Ar nr cr)).cell? ⟨ge, oe + j, none⟩ = some (.int .i64 q) := by
        rw [← ce9]; exact World.cell?_of_block (w := w9) (a := ⟨ge, oe + j, none⟩) (Below.heap_setCell w9 ⟨gb, q, none⟩ _ ge hge)
       have HT10 := Lib.hid hT10
       have HB10 := Lib.hid hB10
       have HP10 := Lib.hid hP10
       clear hT10 hB10 hP10 hN10
       refine hK.out _ _ ⟨⟨e1, z3⟩, ce10, z2⟩ (fun hHeld => ?_)
       clear hK K hHeld e0 e1 e2 e3 e4 z0 z1 z2 z3 z4
       refine wpAnyH_done (by kernel_rfl) ?_ _
       go_simp
       rename_i KK hKK
       refine hKK _ _ ?_
       clear hKK
       go_wp2_with fail
       go_roundw
       case rel => exact ⟨j + 1, by go_num, by omega, Lib.hid ⟨HT10.out, HB10.out, HP10.out⟩⟩
       case measure => simp [intOf]; omega
      ·have hjn : ny = j := by omega
       subst hjn
       have l1 : decide ((ny : Int) < (ny : Int)) = false := by simp
       rw [List.take_of_length_le (by rw [HNY.out]; exact Nat.le_refl _)] at hKT
       have HPQ := Lib.hid hKT
       have HXQ := Lib.hid hPX
       have hX2l := hBX.lt
       clear hKT hBX hPX p0 p1 p2 p3 p4
       have HP4 := Lib.hid (HPQ.out.below ((Below.refl _ wr).alloc (Nat.le_refl _) (.cells #[.slice none 0 0, .slice none 0 0, .slice Ax nx cx, .slice Ay ny cy, .bool x.em] 41)))
       have HX4 := Lib.hid (HXQ.out.below ((Below.refl _ wr).alloc (Nat.le_refl _) (.cells #[.slice none 0 0, .slice none 0 0, .slice Ax nx cx, .slice Ay ny cy, .bool x.em] 41)))
       have HC4 : Hid (∀ j u, (cr1 (.slice Ax nx cx, .slice Ay ny cy, x.em))[j]? = some u → (wr.alloc (.cells #[.slice none 0 0, .slice none 0 0, .slice Ax nx cx, .slice Ay ny cy, .bool x.em] 41)).cell? ⟨wr.heap.size, j, none⟩ = some u) := by
        intro j u hu
        have h := heap_alloc_new wr (.cells #[.slice none 0 0, .slice none 0 0, .slice Ax nx cx, .slice Ay ny cy, .bool x.em] 41)
        unfold World.cell?
        rw [h]
        rcases j with _ | _ | _ | _ | _ | j <;> simp [cr1] at hu ⊢ <;> exact hu
       obtain ⟨us, hus, hul, huv⟩ := HP4.out.all
       have hul2 : us.length = i := by rw [hul, HSPL.out]
       rw [← hul] at hus
       have HUS := Lib.hid hus
       have HUL := Lib.hid hul
       have HUI := Lib.hid hul2
       have HUV := Lib.hid huv
       clear hus hul huv hul2
       have hzz4 : w.heap.size + 1 + 1 + 1 ≤ wr.heap.size := HPQ.out.pt.box.lt
       go_wp2_with (at_builtin; (refine wpList_app_net rfl (.tmp 190) (.tmp 192) _ rfl (w.heap.size + 1 + 1 + 1) 41 i0 _ 104 Tryz.underlying229 hi0 hz0 (by rfl) hs1 hs2 (by omega) _ us rfl HUS.out wr.heap.size 1 (.slice Ax nx cx, .slice Ay ny cy, x.em) rfl rfl rfl HC4.out (by rw [HUI.out]; omega) (by simp; omega) ?_); intro v' w5 hown hg5 hat; have HP5 := Lib.hid (HP4.out.app HUL.out HUV.out hown hg5 HX4.out); clear hown hg5 hat)
       go_roundw
       case rel => exact ⟨i + 1, by go_num, hle, Lib.hid ⟨vo2, vb2, by
        have e : ldR hi M (sp ++ [x], L2) (i + 1) = lead x.ends x.first L2 := by rw [hlast]; exact ldR_yes _ _ _ hneg
        rw [HSU.out, e]
        exact HP5.out⟩⟩
       case measure => simp [intOf]; omega
    ·have hd2 : ((i : Int) == (M : Int) - 1) = false := by simp; omega
     have HP4 := Lib.hid (HP3.out.below ((Below.refl _ W3).alloc (Nat.le_refl _) (.cells #[.slice none 0 0, .slice none 0 0, .slice Ax nx cx, .slice Ay ny cy, .bool x.em] 41)))
     have HX4 := Lib.hid (HX3.out.below ((Below.refl _ W3).alloc (Nat.le_refl _) (.cells #[.slice none 0 0, .slice none 0 0, .slice Ax nx cx, .slice Ay ny cy, .bool x.em] 41)))
     have HC4 : Hid (∀ j u, (cr1 (.slice Ax nx cx, .slice Ay ny cy, x.em))[j]? = some u → (W3.alloc (.cells #[.slice none 0 0, .slice none 0 0, .slice Ax nx cx, .slice Ay ny cy, .bool x.em] 41)).cell? ⟨W3.heap.size, j, none⟩ = some u) := by
      intro j u hu
      have h := heap_alloc_new W3 (.cells #[.slice none 0 0, .slice none 0 0, .slice Ax nx cx, .slice Ay ny cy, .bool x.em] 41)
      unfold World.cell?
      rw [h]
      rcases j with _ | _ | _ | _ | _ | j <;> simp [cr1] at hu ⊢ <;> exact hu
     obtain ⟨us, hus, hul, huv⟩ := HP4.out.all
     have hul2 : us.length = i := by rw [hul, HSPL.out]
     rw [← hul] at hus
     have HUS := Lib.hid hus
     have HUL := Lib.hid hul
     have HUI := Lib.hid hul2
     have HUV := Lib.hid huv
     clear hus hul huv hul2
     have hzz4 : w.heap.size + 1 + 1 + 1 ≤ W3.heap.size := HP3.out.pt.box.lt
     go_wp2_with (at_builtin; (refine wpList_app_net rfl (.tmp 190) (.tmp 192) _ rfl (w.heap.size + 1 + 1 + 1) 41 i0 _ 104 Tryz.underlying229 hi0 hz0 (by rfl) hs1 hs2 (by omega) _ us rfl HUS.out W3.heap.size 1 (.slice Ax nx cx, .slice Ay ny cy, x.em) rfl rfl rfl HC4.out (by rw [HUI.out]; omega) (by simp; omega) ?_); intro v' w5 hown hg5 hat; have HP5 := Lib.hid (HP4.out.app HUL.out HUV.out hown hg5 HX4.out); clear hown hg5 hat)
     go_roundw
     case rel => exact ⟨i + 1, by go_num, hle, Lib.hid ⟨vo2, vb2, by
      rw [HSU.out, ldR_no _ (by omega)]
      exact HP5.out⟩⟩
     case measure => simp [intOf]; omega
   ·have hd1 : decide (hi < 0) = false := by simp; omega
    have HP4 := Lib.hid (HP3.out.below ((Below.refl _ W3).alloc (Nat.le_refl _) (.cells #[.slice none 0 0, .slice none 0 0, .slice Ax nx cx, .slice Ay ny cy, .bool x.em] 41)))
    have HX4 := Lib.hid (HX3.out.below ((Below.refl _ W3).alloc (Nat.le_refl _) (.cells #[.slice none 0 0, .slice none 0 0, .slice Ax nx cx, .slice Ay ny cy, .bool x.em] 41)))
    have HC4 : Hid (∀ j u, (cr1 (.slice Ax nx cx, .slice Ay ny cy, x.em))[j]? = some u → (W3.alloc (.cells #[.slice none 0 0, .slice none 0 0, .slice Ax nx cx, .slice Ay ny cy, .bool x.em] 41)).cell? ⟨W3.heap.size, j, none⟩ = some u) := by
     intro j u hu
     have h := heap_alloc_new W3 (.cells #[.slice none 0 0, .slice none 0 0, .slice Ax nx cx, .slice Ay ny cy, .bool x.em] 41)
     unfold World.cell?
     rw [h]
     rcases j with _ | _ | _ | _ | _ | j <;> simp [cr1] at hu ⊢ <;> exact hu
    obtain ⟨us, hus, hul, huv⟩ := HP4.out.all
    have hul2 : us.length = i := by rw [hul, HSPL.out]
    rw [← hul] at hus
    have HUS := Lib.hid hus
    have HUL := Lib.hid hul
    have HUI := Lib.hid hul2
    have HUV := Lib.hid huv
    clear hus hul huv hul2
    have hzz4 : w.heap.size + 1 + 1 + 1 ≤ W3.heap.size := HP3.out.pt.box.lt
    go_wp2_with (at_builtin; (refine wpList_app_net rfl (.tmp 190) (.tmp 192) _ rfl (w.heap.size + 1 + 1 + 1) 41 i0 _ 104 Tryz.underlying229 hi0 hz0 (by rfl) hs1 hs2 (by omega) _ us rfl HUS.out W3.heap.size 1 (.slice Ax nx cx, .slice Ay ny cy, x.em) rfl rfl rfl HC4.out (by rw [HUI.out]; omega) (by simp; omega) ?_); intro v' w5 hown hg5 hat; have HP5 := Lib.hid (HP4.out.app HUL.out HUV.out hown hg5 HX4.out); clear hown hg5 hat)
    go_roundw
    case rel => exact ⟨i + 1, by go_num, hle, Lib.hid ⟨vo2, vb2, by
     rw [HSU.out, ldR_no _ (by omega)]
     exact HP5.out⟩⟩
    case measure => simp [intOf]; omega
  ·skip
   have him : M = i := by omega
   subst him
   have hl1 : decide ((M : Int) < (M : Int)) = false := by simp
   obtain ⟨hv1, hv2, hv3⟩ := HSV.out M (Nat.le_refl _)
   have hre := (HRW.out l).trans (timesR_of (nm := nm) (kz := (PI.toP ⟨4, lo, hi, nm, kz⟩).kids) M (svR g kk l M) hn1)
   have hL1 := ldR_length hi M (svR g kk l M) M
   rw [hv2] at hL1
   generalize ldR hi M (svR g kk l M) M = L1 at hS hre hL1
   generalize (svR g kk l M).1 = ps at hS hre hv1 hv3
   generalize l.length + M * P kk = Z at hL1 hv3
   obtain ⟨ga, ca, hva, hga1, hga2, hga3, _⟩ := hS.all.opn (by omega)
   rw [hv1] at hva hga3
   subst hva
   have HPSL := Lib.hid hv1
   have HRNG := Lib.hid hv3
   have HLZ := Lib.hid hL1
   have HRE0 := Lib.hid hre
   have HS := Lib.hid hS
   have hlo20 : lo.toNat ≤ M := by omega
   clear hv1 hv2 hv3 hL1 hre hS hlt hZ hga1 hga2
   go_wp2_with fail
   go_loopw [21] (fun jv wr => ∃ j : Nat, jv = .int .i64 j ∧ j ≤ lo.toNat ∧ Hid (∃ vf1 ve1, KT w0 N w (.slice Ao ln co) (.slice Ab ln cb) ⟨4, lo, hi, nm, kz⟩ (.slice Ak kz.length ck) (seqR (ps.take j) emp L1).2 (seqR (ps.take j) emp L1).1 (.slice (some ⟨ga, 0, none⟩) M ca) ps vo1 vb1 vf1 ve1 wr)) (fun jv _ => lo.toNat - (intOf jv).toNat)
   case atStart => exact ⟨0, rfl, by omega, Lib.hid ⟨_, _, HS.out⟩⟩
   case round =>
    clear HS
    obtain ⟨j, rfl, hj1, hT⟩ := hrel
    obtain ⟨vf1, ve1, hT⟩ := hT.out
    obtain ⟨p0, p1, p2, p3, p4⟩ := hT.pt.part.cell
    dsimp only at p0 p1 p2 p3
    have hpb : w.heap.size + 1 < wr.heap.size := by have := hT.pt.box.lt; omega
    by_cases hjl : j < lo.toNat
    ·have l1 : decide ((j : Int) < (M : Int)) = true := by simp; omega
     have l2 : decide ((j : Int) < lo) = true := by simp; omega
     have hjp : j < ps.length := by rw [HPSL.out]; omega
     obtain ⟨hgl, xf, xe, c0, c1, c2, c3, c4, hpx⟩ := hT.all.cells j hjp
     have htk : ps.take (j + 1) = ps.take j ++ [ps[j]] := by rw [List.take_succ_eq_append_getElem hjp]
     have hnx := seqR_snoc (ps.take j) ps[j] emp L1
     rw [← htk] at hnx
     have hln := seqR_length (ps.take j) emp L1
     have hrg := seqR_rng (ps.take j) emp L1 (emp_rng 0 Z) (fun p hp => HRNG.out p (List.mem_of_mem_take hp))
     generalize seqR (ps.take j) emp L1 = SL at hT hnx hln hrg
     obtain ⟨so, sL⟩ := SL
     dsimp only at hT hnx hln hrg
     generalize ps[j] = x at hpx hnx c4
     have hwe : ∀ q, so.ends.has q = true → q < sL.length := fun q hq => by have := (hrg.2 q hq).2; rw [hln, HLZ.out]; exact this
     have HSQ := hide (seq_any N (w.heap.size + 1 + 1) sL so x vo1 vb1 (.slice none 0 0) (.slice none 0 0) vf1 ve1 (.slice none 0 0) (.slice none 0 0) xf xe wr hT.pt.net (by omega) hT.pt.box hT.pt.pc hpx hwe)
     have HT := Lib.hid hT
     have HNX := Lib.hid hnx
     have hj20 : j ≤ 20 := by omega
     have hjM : j < M := by omega
     clear hT hnx hln hrg hpx hwe htk hjp
     go_wp2_with (go_at_call 122; (with_reducible refine (HSQ.out).mono ?_); rintro en w4 ⟨⟨vv, rfl⟩, vf4, ve4, h1, h2, h3, h4⟩; have HF := Lib.hid (HT.out.seq h1 h2 h3 h4); clear h1 h2 h3 h4)
     go_roundw
     case rel => exact ⟨j + 1, by go_num, by omega, Lib.hid ⟨_, _, by rw [HNX.out]; exact HF.out⟩⟩
     case measure => simp [intOf]; omega
    ·have hjn : lo.toNat = j := by omega
     subst hjn
     have hlt2 : lo.toNat ≤ 20 := by omega
     obtain ⟨JL, hJL⟩ : ∃ JL, lo.toNat = JL := ⟨_, rfl⟩
     rw [hJL] at hT hlo20 hlt2 ⊢
     have HRE : Hid (refw (List.map PI.toP E) m (f + 1) k l = (join (seqR (ps.take JL) emp L1).1 (line 0 JL (ps.drop JL) (seqR (ps.take JL) emp L1).2).1, lead (seqR (ps.take JL) emp L1).1.ends (line 0 JL (ps.drop JL) (seqR (ps.take JL) emp L1).2).1.first (line 0 JL (ps.drop JL) (seqR (ps.take JL) emp L1).2).2)) := by
      have h := HRE0.out
      rw [hJL] at h
      exact h
     have hloJ : lo = (JL : Int) := by omega
     have hln := seqR_length (ps.take JL) emp L1
     have hrg := seqR_rng (ps.take JL) emp L1 (emp_rng 0 Z) (fun p hp => HRNG.out p (List.mem_of_mem_take hp))
     rw [HLZ.out] at hln
     generalize seqR (ps.take JL) emp L1 = SL at hT HRE hln hrg
     obtain ⟨O5, L5⟩ := SL
     dsimp only at hT HRE hln hrg
     have HT := Lib.hid hT
     have HL5 := Lib.hid hln
     have HR5 := Lib.hid hrg
     have HLJ := Lib.hid hloJ
     clear hln hrg hJL hjl hj1 HRE0 HRW hloJ
     go_upto_region 42 with fail
     go_cut [202] from 194 to 202 (fun v wx => v = .bool false ∧ wx = wr)
     case first =>
      have d2 : decide ((JL : Int) < lo) = false := by have := HLJ.out; simp; omega
      by_cases hq : JL < M
      ·have d1 : decide ((JL : Int) < (M : Int)) = true := by simp; omega
       go_wp2_with fail
       go_meet
       case rel => exact ⟨rfl, rfl⟩
      ·have d1 : decide ((JL : Int) < (M : Int)) = false := by simp; omega
       go_wp2_with fail
       go_meet
       case rel => exact ⟨rfl, rfl⟩
     case rest =>
     obtain ⟨rfl, rfl⟩ := hcut
     clear p0 p1 p2 p3 p4
     have HKT6 := Lib.hid (HT.out.below ((Below.refl _ wc).alloc (Nat.le_refl _) (.cells #[.slice none 0 0, .slice none 0 0, .slice none 0 0, .slice none 0 0, .bool true] 41)))
     have HTB6 := Lib.hid (RBox.new wc (.slice none 0 0) (.slice none 0 0) (.slice none 0 0) (.slice none 0 0) true)
     have HTP6 : Hid (PcR (wc.alloc (.cells #[.slice none 0 0, .slice none 0 0, .slice none 0 0, .slice none 0 0, .bool true] 41)) (.slice none 0 0) (.slice none 0 0) emp) := ⟨by show LRow _ _ Bg.nil.list; rw [nil_list]; exact LRow.nil _ _, by show LRow _ _ Bg.nil.list; rw [nil_list]; exact LRow.nil _ _⟩
     have hT5 : w.heap.size + 1 + 1 + 1 ≤ wc.heap.size := HT.out.pt.box.lt
     have hTa : ga < wc.heap.size := (HT.out.all.block ga rfl).2.1
     clear HT
     go_wp2_with fail
     generalize wc.alloc (.cells #[.slice none 0 0, .slice none 0 0, .slice none 0 0, .slice none 0 0, .bool true] 41) = W6 at HKT6 HTB6 HTP6 ⊢
     obtain ⟨T, hT⟩ : ∃ T, T = wc.heap.size := ⟨_, rfl⟩
     rw [← hT] at HTB6 hT5 hTa ⊢
     clear hT
     go_loopw [23] (fun jv wr => ∃ j : Nat, jv = .int .i64 ((j : Int) - 1) ∧ JL ≤ j ∧ j ≤ M ∧ Hid (∃ vf6 ve6, KT w0 N w (.slice Ao ln co) (.slice Ab ln cb) ⟨4, lo, hi, nm, kz⟩ (.slice Ak kz.length ck) (line 0 j (ps.drop j) L5).2 O5 (.slice (some ⟨ga, 0, none⟩) M ca) ps vo1 vb1 vf1 ve1 wr ∧ RBox wr T (.slice none 0 0) (.slice none 0 0) vf6 ve6 (line 0 j (ps.drop j) L5).1.em ∧ PcR wr vf6 ve6 (line 0 j (ps.drop j) L5).1)) (fun jv _ => (intOf jv + 1).toNat)
     case atStart =>
      have e : line 0 M (ps.drop M) L5 = (emp, L5) := by rw [List.drop_of_length_le (by rw [HPSL.out]; exact Nat.le_refl _)]; rfl
      exact ⟨M, by go_num, by omega, Nat.le_refl _, Lib.hid ⟨_, _, by rw [e]; exact ⟨HKT6.out, HTB6.out, HTP6.out⟩⟩⟩
     case round =>
      clear HKT6 HTB6 HTP6
      obtain ⟨j, rfl, hj1, hj2, hT⟩ := hrel
      obtain ⟨vf6, ve6, hKT, hTB, hTP⟩ := hT.out
      clear hT
      obtain ⟨p0, p1, p2, p3, p4⟩ := hKT.pt.part.cell
      dsimp only at p0 p1 p2 p3
      obtain ⟨t0, t1, t2, t3, t4⟩ := hTB.cell
      have hpb : w.heap.size + 1 < wr.heap.size := by have := hKT.pt.box.lt; omega
      have hTl := hTB.lt
      by_cases hjl : JL < j
      ·obtain ⟨q, rfl⟩ : ∃ q, j = q + 1 := ⟨j - 1, by omega⟩
       rw [show (((q + 1 : Nat) : Int) - 1) = (q : Int) from by omega]
       have l1 : decide (lo ≤ (q : Int)) = true := by have := HLJ.out; simp; omega
       have hqp : q < ps.length := by rw [HPSL.out]; omega
       obtain ⟨hgl, xf, xe, c0, c1, c2, c3, c4, hpx⟩ := hKT.all.cells q hqp
       have hst := line0_step q ps L5 hqp
       have hlen := line_len (q + 1) (ps.drop (q + 1)) L5
       have hxr := HRNG.out ps[q] (List.getElem_mem hqp)
       generalize ps[q] = x at hpx hst c4 hxr
       generalize line 0 (q + 1) (ps.drop (q + 1)) L5 = SL at hKT hTB hTP hst hlen t4
       obtain ⟨tl, Lr⟩ := SL
       dsimp only at hKT hTB hTP hst hlen t4
       have hwe : ∀ i, x.ends.has i = true → i < Lr.length := fun i hi => by rw [hlen, HL5.out]; exact (hxr.2 i hi).2
       have HST := Lib.hid hst
       have HWE := Lib.hid hwe
       have hqM : q < M := by omega
       have hq20 : q ≤ 20 := by omega
       have HKT := Lib.hid hKT
       have HTB := Lib.hid hTB
       have HTP := Lib.hid hTP
       have HPX := Lib.hid hpx
       clear hKT hTB hTP hst hlen hxr hpx hwe hqp
       obtain ⟨Ax, cx, hvx⟩ := HPX.out.1.form
       obtain ⟨Ay, cy, hvy⟩ := HPX.out.2.form
       obtain ⟨nx, hnx⟩ : ∃ nx, x.first.list.length = nx := ⟨_, rfl⟩
       obtain ⟨ny, hny⟩ : ∃ ny, x.ends.list.length = ny := ⟨_, rfl⟩
       rw [hnx] at hvx
       rw [hny] at hvy
       subst hvx
       subst hvy
       clear hnx hny
       go_upto_region 50 with fail
       have hb7 := (Below.refl _ wr).alloc (Nat.le_refl _) (.cells #[.slice none 0 0, .slice none 0 0, .slice Ax nx cx, .slice Ay ny cy, .bool x.em] 41)
       have HKT7 := Lib.hid (HKT.out.below hb7)
       have HTB7 := Lib.hid (HTB.out.below hb7)
       have HTP7 := Lib.hid (HTP.out.below hb7)
       have HPX7 := Lib.hid (HPX.out.below hb7)
       have hXB := RBox.new wr (.slice none 0 0) (.slice none 0 0) (.slice Ax nx cx) (.slice Ay ny cy) x.em
       have hgX : ga < wr.heap.size := hgl
       clear hb7 c0 c1 c2 c3 c4 t0 t1 t2 t3 t4 HKT HTB HTP HPX p0 p1 p2 p3 p4
       generalize wr.alloc (.cells #[.slice none 0 0, .slice none 0 0, .slice Ax nx cx, .slice Ay ny cy, .bool x.em] 41) = W7 at HKT7 HTB7 HTP7 HPX7 hXB ⊢
       obtain ⟨X, hX⟩ : ∃ X, X = wr.heap.size := ⟨_, rfl⟩
       rw [← hX] at hXB hTl hgX hpb ⊢
       clear hX hgl
       have HXB7 := Lib.hid hXB
       clear hXB
       obtain ⟨Af, cf, hvf⟩ := HTP7.out.1.form
       obtain ⟨Ae, ce, hve⟩ := HTP7.out.2.form
       obtain ⟨nf, hnf⟩ : ∃ nf, tl.first.list.length = nf := ⟨_, rfl⟩
       obtain ⟨ne, hne⟩ : ∃ ne, tl.ends.list.length = ne := ⟨_, rfl⟩
       rw [hnf] at hvf
       rw [hne] at hve
       subst hvf
       subst hve
       clear hnf hne
       obtain ⟨t0, t1, t2, t3, t4⟩ := HTB7.out.cell
       have hT7 : T < W7.heap.size := HTB7.out.lt
       have hX7 : X < W7.heap.size := HXB7.out.lt
       have hXs : w.heap.size + 1 + 1 + 1 ≤ X := by omega
       have HSQ := hide (seq_any N X Lr x tl vo1 vb1 (.slice none 0 0) (.slice none 0 0) (.slice Ax nx cx) (.slice Ay ny cy) (.slice none 0 0) (.slice none 0 0) (.slice Af nf cf) (.slice Ae ne ce) W7 HKT7.out.pt.net (by omega) HXB7.out HPX7.out HTP7.out HWE.out)
       go_upto_region 51 with (go_at_call 122; (with_reducible refine (HSQ.out).mono ?_); rintro en w8 ⟨⟨vv, rfl⟩, vf8, ve8, h1, h2, h3, h4⟩; have HX8 := Lib.hid h1; have HP8 := Lib.hid h2; have HK8 := Lib.hid (HKT7.out.seqX (b := X) hXs HXB7.out.ty (fun g hg => by simp only [Value.ownBlock, Option.some.injEq] at hg; omega) h3 h4); have HT8 := Lib.hid (HTB7.out.frame h4 (fun e => e.elim (fun e => by omega) (fun e => ty_ne (S := 39) (T := 41) (by decide) (HKT7.out.pt.net.be.block T e).2.2 HTB7.out.ty rfl))); clear h1 h2 h3 h4)
       clear t0 t1 t2 t3 t4 HKT7 HTB7 HTP7 HPX7 HXB7
       obtain ⟨x0, x1, x2, x3, x4⟩ := HX8.out.cell
       have fx := HX8.out.free 4
       have hX8 : X < w8.heap.size := HX8.out.lt
       go_upto_region 52 with fail
       have HX9 := Lib.hid (HX8.out.set4 true)
       have HK9 := Lib.hid (HK8.out.other (b := X) hXs HX8.out.ty (fun g hg => by simp only [Value.ownBlock, Option.some.injEq] at hg; omega) 4 (.bool true))
       have HT9 := Lib.hid (HT8.out.other (b := X) (by omega) 4 (.bool true))
       have HP9 := Lib.hid (HP8.out.frame (X := fun k => k = X) ((RFrame.refl (fun k => k = X) w8).setCell (fun _ => rfl) 4 (.bool true)) (noints_ty (T := 41) (by decide) HX8.out.ty))
       clear x0 x1 x2 x3 x4 fx HX8 HK8 HT8 HP8
       generalize w8.setCell ⟨X, 4, none⟩ (.bool true) = W9 at HX9 HK9 HT9 HP9 ⊢
       obtain ⟨Af, cf, hvf⟩ := HP9.out.1.form
       obtain ⟨Ae, ce, hve⟩ := HP9.out.2.form
       obtain ⟨nf, hnf⟩ : ∃ nf, (join x tl).first.list.length = nf := ⟨_, rfl⟩
       obtain ⟨ne, hne⟩ : ∃ ne, (join x tl).ends.list.length = ne := ⟨_, rfl⟩
       rw [hnf] at hvf
       rw [hne] at hve
       subst hvf
       subst hve
       clear hnf hne
       obtain ⟨x0, x1, x2, x3, x4⟩ := HX9.out.cell
       obtain ⟨t0, t1, t2, t3, t4⟩ := HT9.out.cell
       have e0 := HT9.out.free 0
       have e1 := HT9.out.free 1
       have e2 := HT9.out.free 2
       have e3 := HT9.out.free 3
       have e4 := HT9.out.free 4
       have hX9 : X < W9.heap.size := HX9.out.lt
       have hT9 : T < W9.heap.size := HT9.out.lt
       have hga9 : ∀ g, (Value.slice (some ⟨ga, 0, none⟩) M ca).ownBlock = some g → g ≠ T := fun g hg => by simp only [Value.ownBlock, Option.some.injEq] at hg; omega
       go_wp2_with fail
       have k1' := HK9.out.other (b := T) hT5 HT9.out.ty hga9 0 (.slice none 0 0)
       have b1 := HT9.out.set0 (.slice none 0 0)
       have k2' := k1'.other (b := T) hT5 b1.ty hga9 1 (.slice none 0 0)
       have b2 := b1.set1 (.slice none 0 0)
       have k3' := k2'.other (b := T) hT5 b2.ty hga9 2 (.slice Af nf cf)
       have b3 := b2.set2 (.slice Af nf cf)
       have k4' := k3'.other (b := T) hT5 b3.ty hga9 3 (.slice Ae ne ce)
       have b4 := b3.set3 (.slice Ae ne ce)
       have k5' := k4'.other (b := T) hT5 b4.ty hga9 4 (.bool true)
       have b5 := b4.set4 true
       have hfr : RFrame (fun k => k = T) W9 (((((W9.setCell ⟨T, 0, none⟩ (.slice none 0 0)).setCell ⟨T, 1, none⟩ (.slice none 0 0)).setCell ⟨T, 2, none⟩ (.slice Af nf cf)).setCell ⟨T, 3, none⟩ (.slice Ae ne ce)).setCell ⟨T, 4, none⟩ (.bool true)) :=
        (((((RFrame.refl (fun k => k = T) W9).setCell (fun _ => rfl) _ _).setCell (fun _ => rfl) _ _).setCell (fun _ => rfl) _ _).setCell (fun _ => rfl) _ _).setCell (fun _ => rfl) _ _
       have HK10 := Lib.hid k5'
       have HT10 := Lib.hid b5
       have HP10 := Lib.hid (HP9.out.frame hfr (noints_ty (T := 41) (by decide) HT9.out.ty))
       clear k1' k2' k3' k4' k5' b1 b2 b3 b4 b5 hfr HK9 HT9 HP9 HX9 t0 t1 t2 t3 t4 x0 x1 x2 x3 x4 e0 e1 e2 e3 e4
       go_roundw
       case rel => exact ⟨q, by go_num, by omega, by omega, Lib.hid ⟨_, _, by rw [HST.out]; exact ⟨HK10.out, HT10.out, HP10.out⟩⟩⟩
       case measure => first | (simp [intOf]; done) | (simp [intOf]; omega)
      ·have hjn : JL = j := by omega
       subst hjn
       have l1 : decide (lo ≤ ((JL : Nat) : Int) - 1) = false := by have := HLJ.out; simp; omega
       have hl6 := line_len JL (ps.drop JL) L5
       rw [HL5.out] at hl6
       generalize line 0 JL (ps.drop JL) L5 = SL at hKT hTB hTP HRE t4 hl6
       obtain ⟨tl, L6⟩ := SL
       dsimp only at hKT hTB hTP HRE t4 hl6
       obtain ⟨Af, cf, hvf⟩ := hTP.1.form
       obtain ⟨Ae, ce, hve⟩ := hTP.2.form
       obtain ⟨nf, hnf⟩ : ∃ nf, tl.first.list.length = nf := ⟨_, rfl⟩
       obtain ⟨ne, hne⟩ : ∃ ne, tl.ends.list.length = ne := ⟨_, rfl⟩
       rw [hnf] at hvf
       rw [hne] at hve
       subst hvf
       subst hve
       clear hnf hne
       have hwe : ∀ i, O5.ends.has i = true → i < L6.length := fun i hi => by rw [hl6]; exact (HR5.out.2 i hi).2
       have HSQ := hide (seq_any N (w.heap.size + 1 + 1) L6 O5 tl vo1 vb1 (.slice none 0 0) (.slice none 0 0) vf1 ve1 (.slice none 0 0) (.slice none 0 0) (.slice Af nf cf) (.slice Ae ne ce) wr hKT.pt.net (by omega) hKT.pt.box hKT.pt.pc hTP hwe)
       have HKT := Lib.hid hKT
       have hob := hKT.pt.box.lt
       have hrb := hKT.pt.res.lt
       clear hKT hTB hTP hwe hl6
       go_upto_region 54 with (go_at_call 122; (with_reducible refine (HSQ.out).mono ?_); rintro en w9 ⟨⟨vv, rfl⟩, vf8, ve8, h1, h2, h3, h4⟩; have HPF := Lib.hid (HKT.out.pt.seq h1 h2 h3 h4); clear h1 h2 h3 h4)
       clear p0 p1 p2 p3 p4 t0 t1 t2 t3 t4 HKT HSQ
       have HRE1 : Hid (refw (List.map PI.toP E) m (f + 1) k l = (join O5 tl, lead O5.ends tl.first L6)) := HRE.out
       clear HRE
       have HRE := HRE1
       clear HRE1
       generalize join O5 tl = OUT at HPF HRE
       generalize lead O5.ends tl.first L6 = LL at HPF HRE
       obtain ⟨Af, cf, hvf⟩ := HPF.out.pc.1.form
       obtain ⟨Ae, ce, hve⟩ := HPF.out.pc.2.form
       obtain ⟨nf, hnf⟩ : ∃ nf, OUT.first.list.length = nf := ⟨_, rfl⟩
       obtain ⟨ne, hne⟩ : ∃ ne, OUT.ends.list.length = ne := ⟨_, rfl⟩
       rw [hnf] at hvf
       rw [hne] at hve
       subst hvf
       subst hve
       clear hnf hne
       obtain ⟨o0, o1, o2, o3, o4⟩ := HPF.out.box.cell
       obtain ⟨r0, r1, r2, r3, r4⟩ := HPF.out.res.cell
       have e0 := HPF.out.res.free 0
       have e1 := HPF.out.res.free 1
       have e2 := HPF.out.res.free 2
       have e3 := HPF.out.res.free 3
       have e4 := HPF.out.res.free 4
       obtain ⟨em, hem⟩ : ∃ em, OUT.em = em := ⟨_, rfl⟩
       have HEM := Lib.hid hem
       rw [hem] at o4
       clear hem
       go_wp2
       have hs := ((((HPF.out.res.set0 (.slice none 0 0)).set1 (.slice none 0 0)).set2 (.slice Af nf cf)).set3 (.slice Ae ne ce)).set4 em
       have hf : RFrame (fun k => k = w.heap.size) w9 (((((w9.setCell ⟨w.heap.size, 0, none⟩ (.slice none 0 0)).setCell ⟨w.heap.size, 1, none⟩ (.slice none 0 0)).setCell ⟨w.heap.size, 2, none⟩ (.slice Af nf cf)).setCell ⟨w.heap.size, 3, none⟩ (.slice Ae ne ce)).setCell ⟨w.heap.size, 4, none⟩ (.bool em)) :=
        (((((RFrame.refl (fun k => k = w.heap.size) w9).setCell (fun _ => rfl) _ _).setCell (fun _ => rfl) _ _).setCell (fun _ => rfl) _ _).setCell (fun _ => rfl) _ _).setCell (fun _ => rfl) _ _
       have hni : NoInts w9 (fun k => k = w.heap.size) := noints_ty (T := 41) (by decide) HPF.out.res.ty
       obtain ⟨s0, s1, s2, s3, s4⟩ := hs.cell
       have hre := HRE.out
       refine bodyPost_ret (v := rpV (.slice Af nf cf) (.slice Ae ne ce) em) ?_ rfl ⟨.slice Af nf cf, .slice Ae ne ce, vo1, vb1, ?_, ?_, ?_, ?_, HPF.out.oo, HPF.out.ob⟩
       ·simp [rpV, results, Tryz.results73, go_sem, s0, s1, s2, s3, s4]
       ·rw [hre]; dsimp only; rw [HEM.out]
       ·rw [hre]; exact HPF.out.pc.frame hf hni
       ·rw [hre]; exact HPF.out.net.frame hf (fun k hk e => (HPF.out.off k hk).1 e) hni
       ·exact HPF.out.fr.trans hf (fun k hk e => by omega)
end Go.Proofs.YtnbchikiiipejaaGreatDoor.Nf
