/- Walk of the reference of nfa: part, a name. -/
import Derived.Test.YtnbchikiiipejaaGreatDoorNrP0
set_option linter.unusedVariables false
set_option maxRecDepth 100000
set_option maxHeartbeats 8000000
namespace Go.Proofs.YtnbchikiiipejaaGreatDoor.Nf
open Go.RowKit Mem
open Bg (Bag)
open Ex (Pt PI PR KR pl)
theorem part_k1 (w0 : World) (N : Nat) (A : Option Addr) (n c : Nat) (E : List PI) (m : List UInt8 → Bag) (AL : Option Addr) (nl cl : Nat) (hE : PR w0 A n E) (hX : Expr E) (hsm : ∀ p ∈ E, p.kids.length ≤ 10000) (hn : n ≤ 100000)
  (hM : MnR w0 (.slice AL nl cl) m E) (hN : w0.heap.size ≤ N) (f : Nat) (IH : PartAt w0 N A n c (E.map PI.toP) m (.slice AL nl cl) f) (k : Nat) (hkf : k < f + 1) (hkn : k < n) (hkd : ∀ p, (E.map PI.toP)[k]? = some p → p.kind = 1) : PartFor w0 N A n c (E.map PI.toP) m (.slice AL nl cl) (f + 1) k := by
 intro l w vo vb hbw hrs hpl
 have k1 : k < E.length := by have := hE.1; omega
 obtain ⟨b, off, rfl, hb0', hc⟩ := hE.2 (by omega)
 obtain ⟨a0, a1, a2, a3, kv, a4, ra⟩ := hc k k1
 have hb : b < w.heap.size := Nat.lt_of_lt_of_le hb0' hbw.size
 rw [← hbw.cell (p := ⟨b, off + k * 5, none⟩) hb0'] at a0
 rw [← hbw.cell (p := ⟨b, off + k * 5 + 1, none⟩) hb0'] at a1
 rw [← hbw.cell (p := ⟨b, off + k * 5 + 2, none⟩) hb0'] at a2
 rw [← hbw.cell (p := ⟨b, off + k * 5 + 3, none⟩) hb0'] at a3
 rw [← hbw.cell (p := ⟨b, off + k * 5 + 4, none⟩) hb0'] at a4
 have hpe : (E.map PI.toP)[k]? = some E[k].toP := by rw [List.getElem?_map, List.getElem?_eq_getElem k1]; rfl
 have hmem := List.getElem_mem k1
 have hpt : E[k].toP ∈ E.map PI.toP := List.mem_map.2 ⟨_, hmem, rfl⟩
 have hkd1 := hkd _ hpe
 have hfit := hX.fit _ hpt
 have hoft := hX.often _ hpt
 have hnum := hX.nums _ hpt
 have hgood := hX.good k _ hpe
 have hback : pl E[k].toP.kids = E[k].kids := by
  have h1 := congrArg (fun L : List PI => L[k]?) hX.back
  simp only [List.getElem?_map, List.getElem?_eq_getElem k1, Option.map_some, Option.some.injEq] at h1
  exact congrArg PI.kids h1
 have hrw : ∀ l, refw (E.map PI.toP) m (f + 1) k l = if E[k].toP.kind = 1 then lay (m E[k].toP.name) l
   else if E[k].toP.kind = 3 then chR (refw (E.map PI.toP) m f) E[k].toP.kids ⟨false, Bg.nil, Bg.nil⟩ l
   else if E[k].toP.kind = 2 then rowR (refw (E.map PI.toP) m f) E[k].toP.kids emp l
   else timesR E[k].toP (several (refw (E.map PI.toP) m f) (List.replicate (often E[k].toP) (E[k].toP.kids.headD 0)) [] l).1 (several (refw (E.map PI.toP) m f) (List.replicate (often E[k].toP) (E[k].toP.kids.headD 0)) [] l).2 := by
  intro l; simp only [refw, hpe]
 have hpl2 : l.length + ((if E[k].toP.kind = 1 then 1 else 0) + often E[k].toP * (E[k].toP.kids.map (places (E.map PI.toP) f)).sum) ≤ 256 := by
  have : places (E.map PI.toP) (f + 1) k = (if E[k].toP.kind = 1 then 1 else 0) + often E[k].toP * (E[k].toP.kids.map (places (E.map PI.toP) f)).sum := by simp [places, hpe, kidsOf_sum]
  rw [← this]; exact hpl
 have hsmk := hsm _ hmem
 have hMk := hM _ hmem
 have hff : ∀ k l, l.length + places (E.map PI.toP) f k ≤ 256 → (refw (E.map PI.toP) m f k l).2.length = l.length + places (E.map PI.toP) f k ∧ (refw (E.map PI.toP) m f k l).1.rng l.length (l.length + places (E.map PI.toP) f k) := fun k l h => refw_facts hX.fit hX.four f k l h
 generalize E[k] = p at *
 obtain ⟨kd, lo, hi, nm, kz⟩ := p
 obtain ⟨ks, hks⟩ : ∃ ks, ks = (PI.toP ⟨kd, lo, hi, nm, kz⟩).kids := ⟨_, rfl⟩
 have hoi : Nf.often (PI.toP ⟨kd, lo, hi, nm, kz⟩) = oftenI kd lo hi := rfl
 replace hfit : (kd = 1 → ks = []) ∧ (kd ≠ 1 → kd ≠ 2 → kd ≠ 3 → ks.length = 1 ∧ 0 ≤ lo) := by rw [hks]; exact hfit
 rw [← hks] at hback hgood hrw hpl2
 rw [hoi] at hpl2 hoft
 obtain rfl : kd = 1 := hkd1
 replace hrw : ∀ l, refw (E.map PI.toP) m (f + 1) k l = lay (m nm) l := hrw
 replace hnum : 0 ≤ lo ∧ lo ≤ 20 ∧ hi ≤ 20 := hnum
 dsimp only at a0 a1 a2 a3 a4 ra hback hsmk
 obtain ⟨Ak, ck, rfl, hck, hrk⟩ := ra
 obtain ⟨Ao, co, hvo⟩ := hrs.on.form
 obtain ⟨Ab, cb, hvb⟩ := hrs.be.form
 rw [List.length_map] at hvo hvb
 obtain ⟨ln, hln⟩ : ∃ ln, l.length = ln := ⟨_, rfl⟩
 rw [hln] at hvo hvb
 subst hvo
 subst hvb
 have hNw : N < w.heap.size := hrs.lt N (.inl rfl)
 have hpt0 : PT w0 N w (.slice Ao ln co) (.slice Ab ln cb) ⟨1, lo, hi, nm, kz⟩ (.slice Ak kz.length ck) l ⟨false, Bg.nil, Bg.nil⟩ (.slice Ao ln co) (.slice Ab ln cb) (.slice none 0 0) (.slice none 0 0) (((w.alloc (.cells #[.slice none 0 0, .slice none 0 0, .slice none 0 0, .slice none 0 0, .bool false] 41)).alloc (.cells #[.int .i64 1, .int .i64 lo, .int .i64 hi, .string ⟨nm.toArray⟩, .slice Ak kz.length ck] 124)).alloc (.cells #[.slice none 0 0, .slice none 0 0, .slice none 0 0, .slice none 0 0, .bool false] 41)) := by
  have e1 : (w.alloc (.cells #[.slice none 0 0, .slice none 0 0, .slice none 0 0, .slice none 0 0, .bool false] 41)).heap.size = w.heap.size + 1 := by simp
  have r1 := RBox.new w (.slice none 0 0) (.slice none 0 0) (.slice none 0 0) (.slice none 0 0) false
  have r2 := r1.below ((Below.refl _ _).alloc (Nat.le_refl _) (.cells #[.int .i64 1, .int .i64 lo, .int .i64 hi, .string ⟨nm.toArray⟩, .slice Ak kz.length ck] 124))
  have r3 := r2.below ((Below.refl _ _).alloc (Nat.le_refl _) (.cells #[.slice none 0 0, .slice none 0 0, .slice none 0 0, .slice none 0 0, .bool false] 41))
  have q2 : RtAt ((w.alloc (.cells #[.slice none 0 0, .slice none 0 0, .slice none 0 0, .slice none 0 0, .bool false] 41)).alloc (.cells #[.int .i64 1, .int .i64 lo, .int .i64 hi, .string ⟨nm.toArray⟩, .slice Ak kz.length ck] 124)) (w.heap.size + 1) ⟨1, lo, hi, nm, kz⟩ (.slice Ak kz.length ck) := by
   rw [← e1]; exact heap_alloc_new _ _
  have q3 := q2.below ((Below.refl _ _).alloc (Nat.le_refl _) (.cells #[.slice none 0 0, .slice none 0 0, .slice none 0 0, .slice none 0 0, .bool false] 41)) q2.lt
  have s3 := RBox.new ((w.alloc (.cells #[.slice none 0 0, .slice none 0 0, .slice none 0 0, .slice none 0 0, .bool false] 41)).alloc (.cells #[.int .i64 1, .int .i64 lo, .int .i64 hi, .string ⟨nm.toArray⟩, .slice Ak kz.length ck] 124)) (.slice none 0 0) (.slice none 0 0) (.slice none 0 0) (.slice none 0 0) false
  rw [World.size_alloc, World.size_alloc] at s3
  have hb3 := (((Below.refl _ w).alloc (Nat.le_refl _) (.cells #[.slice none 0 0, .slice none 0 0, .slice none 0 0, .slice none 0 0, .bool false] 41)).alloc (by simp) (.cells #[.int .i64 1, .int .i64 lo, .int .i64 hi, .string ⟨nm.toArray⟩, .slice Ak kz.length ck] 124)).alloc (by simp; omega) (.cells #[.slice none 0 0, .slice none 0 0, .slice none 0 0, .slice none 0 0, .bool false] 41)
  exact ⟨hrs.below hb3, OldOr.refl _ _, OldOr.refl _ _, RFrame.of_below hb3, r3, q3, s3, ⟨by show LRow _ _ Bg.nil.list; rw [nil_list]; exact LRow.nil _ _, by show LRow _ _ Bg.nil.list; rw [nil_list]; exact LRow.nil _ _⟩, hNw⟩
 have HPT := Lib.hid hpt0
 have HBW := Lib.hid hbw
 have HRK := Lib.hid hrk
 have HKS := Lib.hid hback
 have HGD := Lib.hid hgood
 have HRW := Lib.hid hrw
 have HPL := Lib.hid hpl2
 have HOF := Lib.hid hoft
 have HFI := Lib.hid hfit
 have HFF := Lib.hid hff
 have HMK := Lib.hid hMk
 have HLN := Lib.hid hln
 have HIH := hide (fun (k : Nat) (l : List En) (w : World) (vo vb : Value) (h1 : k < f) (h2 : k < n) (h3 : Below w0.heap.size w0 w) (h4 : RS w0.heap.size N w l vo vb) (h5 : l.length + places (E.map PI.toP) f k ≤ 256) => IH k l w vo vb h1 h2 h3 h4 h5)
 have hbase : w0.heap.size ≤ w.heap.size := hbw.size
 have hlb : ln ≤ 256 := by omega
 obtain ⟨hn1, hn2, hn3⟩ := hnum
 clear hpt0 hbw hrk hback hgood hrw hpl2 hoft hfit hff hMk hln IH hpl hc hpt hmem hpe hoi hks hX hsm hE hM hrs hkd
 go_enter Tryz.func73, Tryz.ntmps73
 obtain ⟨i0, hi0, hz0, hs1, hs2⟩ := info_parts info_sl
 obtain ⟨vfA, veA, emA, hNx⟩ := HPT.out.net.box
 have n0w := hNx.cell.1
 have hnm := HPT.out.part.cell.2.2.2.1
 dsimp only at hnm
 clear hNx
 go_wp2_with fail
 have HP1 : Hid (PL w0 N w (.slice Ao ln co) (.slice Ab ln cb) (l.map fun x => x.on.list) (l.map fun x => x.behind.list) (.slice Ao ln co) (.slice Ab ln cb) (.slice none 0 0) (.slice none 0 0) (((((w.alloc (.cells #[.slice none 0 0, .slice none 0 0, .slice none 0 0, .slice none 0 0, .bool false] 41)).alloc (.cells #[.int .i64 1, .int .i64 lo, .int .i64 hi, .string ⟨nm.toArray⟩, .slice Ak kz.length ck] 124)).alloc (.cells #[.slice none 0 0, .slice none 0 0, .slice none 0 0, .slice none 0 0, .bool false] 41)).drew))) := by
  have h := HPT.out.below (below_drewN (Below.refl _ _) 1)
  exact ⟨h.net.box, h.net.on, h.net.be, h.net.apart, h.oo, h.ob, h.fr, h.res, h.box, h.nlt⟩
 have HPT2 : Hid (RtAt (((((w.alloc (.cells #[.slice none 0 0, .slice none 0 0, .slice none 0 0, .slice none 0 0, .bool false] 41)).alloc (.cells #[.int .i64 1, .int .i64 lo, .int .i64 hi, .string ⟨nm.toArray⟩, .slice Ak kz.length ck] 124)).alloc (.cells #[.slice none 0 0, .slice none 0 0, .slice none 0 0, .slice none 0 0, .bool false] 41)).drew)) (w.heap.size + 1) ⟨1, lo, hi, nm, kz⟩ (.slice Ak kz.length ck)) := (HPT.out.below (below_drewN (Below.refl _ _) 1)).part
 refine wp_region_held_drew (S := fun W' => W'.cell? ⟨w.heap.size + 1, 3, none⟩ = some (.string ⟨nm.toArray⟩)) (by kernel_rfl) (by exact hnm) (fun hHeld => ?_)
 refine tk 0 (v := ?_) rfl (by kernel_rfl) (fun _ _ _ h => h) ?_ hHeld ?_
 rotate_left
 ·(intro W hSw; (try dsimp only at hSw); go_simp; try with_reducible rfl)
 refine tk 1 (v := ?_) rfl (by kernel_rfl) (fun _ _ _ h => h) ?_ hHeld ?_
 rotate_left
 ·(intro W hSw; (try dsimp only at hSw); go_simp; try with_reducible rfl)
 refine tk 2 (v := ?_) rfl (by kernel_rfl) (fun _ _ _ h => h) ?_ hHeld ?_
 rotate_left
 ·(intro W hSw; (try dsimp only at hSw); go_simp; try with_reducible rfl)
 refine tk 3 (v := ?_) rfl (by kernel_rfl) (fun _ _ _ h => h) ?_ hHeld ?_
 rotate_left
 ·(intro W hSw; (try dsimp only at hSw); go_simp; try with_reducible rfl)
 refine tk 5 (v := ?_) rfl (by kernel_rfl) (fun _ _ _ h => h) ?_ hHeld ?_
 rotate_left
 ·(intro W hSw; (try dsimp only at hSw); go_simp; try with_reducible rfl)
 refine tk 6 (v := ?_) rfl (by kernel_rfl) (fun _ _ _ h => h) ?_ hHeld ?_
 rotate_left
 ·(intro W hSw; (try dsimp only at hSw); go_simp; try with_reducible rfl)
 refine tk 7 (v := ?_) rfl (by kernel_rfl) (fun _ _ _ h => h) ?_ hHeld ?_
 rotate_left
 ·(intro W hSw; (try dsimp only at hSw); go_simp; try with_reducible rfl)
 generalize (((((w.alloc (.cells #[.slice none 0 0, .slice none 0 0, .slice none 0 0, .slice none 0 0, .bool false] 41)).alloc (.cells #[.int .i64 1, .int .i64 lo, .int .i64 hi, .string ⟨nm.toArray⟩, .slice Ak kz.length ck] 124)).alloc (.cells #[.slice none 0 0, .slice none 0 0, .slice none 0 0, .slice none 0 0, .bool false] 41)).drew)) = w1 at HP1 HPT2 hHeld ⊢
 have HBW1 : Hid (Below w0.heap.size w0 w1) := HBW.out.trans (HP1.out.fr.below (fun k h => by
  rcases h with rfl | h | h
  ·exact hN
  ·exact (HP1.out.on.block k h).1
  ·exact (HP1.out.be.block k h).1) hbase)
 have hsz1 : w.heap.size + 1 + 1 < w1.heap.size := HP1.out.out.lt
 obtain ⟨vfB, veB, emB, hNx⟩ := HP1.out.box
 obtain ⟨m0, m1, m2, m3, m4⟩ := hNx.cell
 clear hNx hnm n0w m2 m3 m4
 refine wpAnyH_ready (rs := [4, 8]) (by kernel_rfl) (by simp) ?_
 refine AllReadyH.cons rfl (fun K hK => ?_) (AllReadyH.cons rfl (fun K hK => ?_) AllReadyH.nil)
 ·skip
  go_simp
  refine hK.out _ _ hHeld (fun hH2 => ?_)
  clear hHeld hK K
  have hHeld := hH2
  clear hH2
  refine wpAnyH_ready (rs := [8]) (by kernel_rfl) (by simp) ?_
  refine AllReadyH.cons rfl (fun K hK => ?_) AllReadyH.nil
  go_simp
  go_at_call 71
  refine (HMK.out (by trivial) _ HBW1.out).mono ?_
  rintro en w2 ⟨Am, nm2, cm, rfl, hm2, hb2⟩
  have HM2 := Lib.hid hm2
  have HP2 := Lib.hid (HP1.out.below hb2)
  have hsz2 : w.heap.size + 1 + 1 < w2.heap.size := HP2.out.out.lt
  have d3 := (HPT2.out.below hb2 HPT2.out.lt).cell.2.2.2.1
  obtain ⟨vfC, veC, emC, hNx⟩ := HP2.out.box
  obtain ⟨n0, n1, n2, n3, n4⟩ := hNx.cell
  have f0 := hNx.free 0
  have f1 := hNx.free 1
  have hN2 := hNx.lt
  have HPT3 := Lib.hid (HPT2.out.below hb2 HPT2.out.lt)
  clear hb2 hm2 hNx hHeld n2 n3 n4
  go_wp2_with fail
  refine hK.out _ _ d3 (fun hHeld => ?_)
  clear hK K
  refine wpAnyH_ready (rs := [9]) (by kernel_rfl) (by simp) ?_
  refine AllReadyH.cons rfl (fun K hK => ?_) AllReadyH.nil
  go_simp
  refine hK.out _ _ (HPT3.out.below ((Below.refl _ w2).alloc (Nat.le_refl _) _) HPT3.out.lt).cell.2.2.2.1 (fun hH2 => ?_)
  clear hHeld hK K
  have hHeld := hH2
  clear hH2
  have HP3 := Lib.hid (HP2.out.below ((Below.refl _ w2).alloc (Nat.le_refl _) (.cells #[.slice Am nm2 cm] 39)))
  have HC3 : Hid ((w2.alloc (.cells #[.slice Am nm2 cm] 39)).cell? ⟨w2.heap.size, 0, none⟩ = some (.slice Am nm2 cm)) := by
   have h := heap_alloc_new w2 (.cells #[.slice Am nm2 cm] 39)
   show World.cell? _ _ = _
   unfold World.cell?
   rw [h]; rfl
  have HM3 := Lib.hid (HM2.out.alloc (.cells #[.slice Am nm2 cm] 39))
  refine wpAnyH_ready (rs := [10]) (by kernel_rfl) (by simp) ?_
  refine AllReadyH.cons rfl (fun K hK => ?_) AllReadyH.nil
  obtain ⟨vs, hvs, hvv⟩ := HP3.out.on
  rw [List.length_map, HLN.out] at hvs
  have hvl : vs.length = ln := by have := hvs.1; omega
  refine step_app_one (by rfl) (.tmp 42) (.tmp 47) _ (by rfl) w0.heap.size 39 i0 _ 24 Tryz.underlying38 hi0 hz0 (by rfl) hs1 hs2 (by omega) (.slice Ao ln co) ln vs (by rfl) hvs w2.heap.size 1 (.slice Am nm2 cm) (by rfl) HC3.out rfl (by omega) (by simp; omega) ?_
  intro v' w5 hown hg hat
  obtain ⟨A5, c5, rfl⟩ := Ent.form1 hown
  have hP5 := HP3.out.appOn hvv (by rw [hvl, List.length_map, HLN.out]) (by rw [List.length_map, HLN.out]; exact hown) hg hat HM3.out
  have HP5 := Lib.hid hP5
  have HPT5 := Lib.hid ((HPT3.out.below ((Below.refl _ w2).alloc (Nat.le_refl _) (.cells #[.slice Am nm2 cm] 39)) HPT3.out.lt).frame ((RFrame.refl (fun k => (Value.slice Ao ln co).ownBlock = some k) _).grown hg (fun r e _ => e)) (fun e => ty_ne (S := 39) (T := 124) (by decide) (HP3.out.on.block _ e).2.2 (HPT3.out.below ((Below.refl _ w2).alloc (Nat.le_refl _) (.cells #[.slice Am nm2 cm] 39)) HPT3.out.lt).ty rfl))
  obtain ⟨vf5, ve5, em5, hx5⟩ := HP3.out.box
  have hx5' := hx5.frame ((RFrame.refl (fun k => (Value.slice Ao ln co).ownBlock = some k) _).grown hg (fun r e _ => e)) (fun e => (HP3.out.on_out.1 _ e).1 rfl)
  have hf5 := hx5'.free 0
  have hc5 := hx5'.cell.1
  clear hvs hvv hvl hown hg hat hP5 hx5 hx5'
  refine hK.out _ _ HPT5.out.cell.2.2.2.1 (fun hH2 => ?_)
  clear hHeld hK K
  have hHeld := hH2
  clear hH2
  refine tk 11 (v := ?_) rfl (by kernel_rfl) (fun _ _ _ h => h) ?_ hHeld ?_
  rotate_left
  ·(intro W hSw; (try dsimp only at hSw); go_simp; try with_reducible rfl)
  refine tk 12 (v := ?_) rfl (by kernel_rfl) (fun _ _ _ h => h) ?_ hHeld ?_
  rotate_left
  ·(intro W hSw; (try dsimp only at hSw); go_simp; try with_reducible rfl)
  refine wpAnyH_ready (rs := [13]) (by kernel_rfl) (by simp) ?_
  refine AllReadyH.cons rfl (fun K hK => ?_) AllReadyH.nil
  go_simp
  have HPT6 := Lib.hid (HPT5.out.frame ((RFrame.refl (fun k => k = N) w5).setCell (b := N) (fun _ => rfl) 0 (.slice A5 (ln + 1) c5)) (fun e => by omega))
  refine hK.out _ _ HPT6.out.cell.2.2.2.1 (fun hH2 => ?_)
  clear hHeld hK K hH2
  refine wpAnyH_done (by kernel_rfl) ?_ _
  go_simp
  rename_i KK hKK
  refine hKK _ _ ?_
  clear hKK
  clear hf5 hc5
  generalize w5.setCell ⟨N, 0, none⟩ (.slice A5 (ln + 1) c5) = W6 at HP5 HPT6 ⊢
  obtain ⟨vf6, ve6, em6, hx6⟩ := HP5.out.box
  obtain ⟨q0, q1, q2, q3, q4⟩ := hx6.cell
  have g1 := hx6.free 1
  have hlt6 := hx6.lt
  have hsz6 : w.heap.size + 1 + 1 < W6.heap.size := HP5.out.out.lt
  clear hx6 q0 q2 q3 q4
  have HP6 := Lib.hid (HP5.out.below ((Below.refl _ W6).alloc (Nat.le_refl _) (.cells #[.slice none 0 0] 39)))
  obtain ⟨us, hus, huv⟩ := HP6.out.be
  rw [List.length_map, HLN.out] at hus
  have hul : us.length = ln := by have := hus.1; omega
  have HUS := Lib.hid hus
  have HUV := Lib.hid huv
  have HUL := Lib.hid hul
  clear hus huv hul
  have HC6 : Hid ((W6.alloc (.cells #[.slice none 0 0] 39)).cell? ⟨W6.heap.size, 0, none⟩ = some (.slice none 0 0)) := by
   have h := heap_alloc_new W6 (.cells #[.slice none 0 0] 39)
   show World.cell? _ _ = _
   unfold World.cell?
   rw [h]; rfl
  go_upto_region 7 with (at_builtin; (refine wpList_app_one rfl (.tmp 55) (.tmp 56) _ rfl w0.heap.size 39 i0 _ 24 Tryz.underlying38 hi0 hz0 (by rfl) hs1 hs2 (by omega) (.slice Ab ln cb) ln us (by rfl) HUS.out W6.heap.size 1 (.slice none 0 0) (by rfl) HC6.out rfl (by omega) (by simp; omega) ?_); intro v' w7 hown hg hat; obtain ⟨A7, c7, hv7⟩ := Ent.form1 hown; subst hv7; have HP7 := Lib.hid (HP6.out.appBe HUV.out (by rw [HUL.out, List.length_map, HLN.out]) (by rw [List.length_map, HLN.out]; exact hown) hg hat (LRow.nil _ 0)); have hx7 := (HP6.out.box.choose_spec.choose_spec.choose_spec).frame ((RFrame.refl (fun k => (Value.slice Ab ln cb).ownBlock = some k) _).grown hg (fun r e _ => e)) (fun e => (HP6.out.on_out.2 _ e).1 rfl); have h71 := hx7.free 1; have h7c := hx7.cell.2.1; clear hown hg hat hx7)
  clear h71 h7c q1 g1
  generalize w7.setCell ⟨N, 1, none⟩ (.slice A7 (ln + 1) c7) = W7 at HP7 ⊢
  obtain ⟨o0, o1, o2, o3, o4⟩ := HP7.out.out.cell
  have o5 := HP7.out.out.free 2
  have hsz7 : w.heap.size + 1 + 1 < W7.heap.size := HP7.out.out.lt
  go_upto_region 8 with fail
  have HP8 := Lib.hid ((HP7.out.setO (.slice (some ⟨W7.heap.size, 0, none⟩) 1 1)).below ((Below.refl _ _).alloc (Nat.le_refl _) (.cells #[.int .i64 ln] 3)))
  have HX8 : Hid (LRow ((W7.setCell ⟨w.heap.size + 1 + 1, 2, none⟩ (.slice (some ⟨W7.heap.size, 0, none⟩) 1 1)).alloc (.cells #[.int .i64 ln] 3)) (.slice (some ⟨W7.heap.size, 0, none⟩) 1 1) [(ln : Int)]) := by
   have h := lrow_one (W7.setCell ⟨w.heap.size + 1 + 1, 2, none⟩ (.slice (some ⟨W7.heap.size, 0, none⟩) 1 1)) ln (by omega)
   rwa [show (W7.setCell ⟨w.heap.size + 1 + 1, 2, none⟩ (.slice (some ⟨W7.heap.size, 0, none⟩) 1 1)).heap.size = W7.heap.size by simp [World.setCell]] at h
  generalize (W7.setCell ⟨w.heap.size + 1 + 1, 2, none⟩ (.slice (some ⟨W7.heap.size, 0, none⟩) 1 1)).alloc (.cells #[.int .i64 ln] 3) = W8 at HP8 HX8 ⊢
  obtain ⟨X8, hX8⟩ : ∃ X8, X8 = W7.heap.size := ⟨_, rfl⟩
  rw [← hX8] at HP8 HX8 ⊢
  clear hX8 o0 o1 o2 o3 o4 o5
  obtain ⟨o0, o1, o2, o3, o4⟩ := HP8.out.out.cell
  have o5 := HP8.out.out.free 3
  have hsz8 : w.heap.size + 1 + 1 < W8.heap.size := HP8.out.out.lt
  go_upto_region 9 with fail
  have HP9 := Lib.hid ((HP8.out.setE (.slice (some ⟨W8.heap.size, 0, none⟩) 1 1)).below ((Below.refl _ _).alloc (Nat.le_refl _) (.cells #[.int .i64 ln] 3)))
  have HX9 : Hid (LRow ((W8.setCell ⟨w.heap.size + 1 + 1, 3, none⟩ (.slice (some ⟨W8.heap.size, 0, none⟩) 1 1)).alloc (.cells #[.int .i64 ln] 3)) (.slice (some ⟨W8.heap.size, 0, none⟩) 1 1) [(ln : Int)]) := by
   have h := lrow_one (W8.setCell ⟨w.heap.size + 1 + 1, 3, none⟩ (.slice (some ⟨W8.heap.size, 0, none⟩) 1 1)) ln (by omega)
   rwa [show (W8.setCell ⟨w.heap.size + 1 + 1, 3, none⟩ (.slice (some ⟨W8.heap.size, 0, none⟩) 1 1)).heap.size = W8.heap.size by simp [World.setCell]] at h
  have HY9 := Lib.hid ((HX8.out.setCell (T := 41) (by decide) HP8.out.out.ty 3 (.slice (some ⟨W8.heap.size, 0, none⟩) 1 1)).alloc (.cells #[.int .i64 ln] 3))
  generalize (W8.setCell ⟨w.heap.size + 1 + 1, 3, none⟩ (.slice (some ⟨W8.heap.size, 0, none⟩) 1 1)).alloc (.cells #[.int .i64 ln] 3) = W9 at HP9 HX9 HY9 ⊢
  obtain ⟨X9, hX9⟩ : ∃ X9, X9 = W8.heap.size := ⟨_, rfl⟩
  rw [← hX9] at HP9 HX9 ⊢
  clear hX9 o0 o1 o2 o3 o4 o5
  obtain ⟨o0, o1, o2, o3, o4⟩ := HP9.out.out.cell
  obtain ⟨r0, r1, r2, r3, r4⟩ := HP9.out.res.cell
  have e0 := HP9.out.res.free 0
  have e1 := HP9.out.res.free 1
  have e2 := HP9.out.res.free 2
  have e3 := HP9.out.res.free 3
  have e4 := HP9.out.res.free 4
  have hsz9 : w.heap.size + 1 + 1 < W9.heap.size := HP9.out.out.lt
  go_wp2
  have hs := ((((HP9.out.res.set0 (.slice none 0 0)).set1 (.slice none 0 0)).set2 (.slice (some ⟨X8, 0, none⟩) 1 1)).set3 (.slice (some ⟨X9, 0, none⟩) 1 1)).set4 false
  have hf : RFrame (fun k => k = w.heap.size) W9 (((((W9.setCell ⟨w.heap.size, 0, none⟩ (.slice none 0 0)).setCell ⟨w.heap.size, 1, none⟩ (.slice none 0 0)).setCell ⟨w.heap.size, 2, none⟩ (.slice (some ⟨X8, 0, none⟩) 1 1)).setCell ⟨w.heap.size, 3, none⟩ (.slice (some ⟨X9, 0, none⟩) 1 1)).setCell ⟨w.heap.size, 4, none⟩ (.bool false)) :=
   (((((RFrame.refl (fun k => k = w.heap.size) W9).setCell (fun _ => rfl) _ _).setCell (fun _ => rfl) _ _).setCell (fun _ => rfl) _ _).setCell (fun _ => rfl) _ _).setCell (fun _ => rfl) _ _
  have hni : NoInts W9 (fun k => k = w.heap.size) := noints_ty (T := 41) (by decide) HP9.out.res.ty
  obtain ⟨s0, s1, s2, s3, s4⟩ := hs.cell
  have hlb2 : ln < 256 := by
   have h := HPL.out
   have := HLN.out
   first | omega | (rw [if_pos (by first | rfl | trivial)] at h; omega)
  have hre : refw (E.map PI.toP) m (f + 1) k l = lay (m nm) l := HRW.out l
  refine bodyPost_ret (v := rpV (.slice (some ⟨X8, 0, none⟩) 1 1) (.slice (some ⟨X9, 0, none⟩) 1 1) false) ?_ rfl ⟨.slice (some ⟨X8, 0, none⟩) 1 1, .slice (some ⟨X9, 0, none⟩) 1 1, .slice A5 (ln + 1) c5, .slice A7 (ln + 1) c7, ?_, ?_, ?_, ?_, HP9.out.oo, HP9.out.ob⟩
  ·simp [rpV, results, Tryz.results73, go_sem, s0, s1, s2, s3, s4]
  ·rw [hre]; rfl
  ·rw [hre]
   have e : (lay (m nm) l).1 = ⟨false, Bg.nil.withN ln, Bg.nil.withN ln⟩ := by unfold lay; rw [HLN.out]
   rw [e]
   unfold PcR
   dsimp only
   rw [withN_list _ hlb2]
   exact ⟨HY9.out.frame hf hni, HX9.out.frame hf hni⟩
  ·rw [hre]
   have e : (lay (m nm) l).2 = l ++ [⟨m nm, Bg.nil⟩] := rfl
   rw [e]
   obtain ⟨a, b, c, hx⟩ := HP9.out.box
   have nl := HP9.out.nlt
   have hon := HP9.out.on.frame hf hni (fun g hg e => (HP9.out.on_out.1 g hg).2.1 e)
   have hbe := HP9.out.be.frame hf hni (fun g hg e => (HP9.out.on_out.2 g hg).2.1 e)
   refine ⟨⟨a, b, c, hx.frame hf (fun e => by omega)⟩, ?_, ?_, HP9.out.apart⟩
   ·rw [List.map_append]; exact hon
   ·rw [List.map_append]; simp only [List.map_cons, List.map_nil, nil_list]; exact hbe
  ·exact HP9.out.fr.trans hf (fun k hk e => by omega)
 ·skip
  go_simp
  go_at_call 71
  refine (HMK.out (by trivial) _ HBW1.out).mono ?_
  rintro en w2 ⟨Am, nm2, cm, rfl, hm2, hb2⟩
  have HM2 := Lib.hid hm2
  have HP2 := Lib.hid (HP1.out.below hb2)
  have hsz2 : w.heap.size + 1 + 1 < w2.heap.size := HP2.out.out.lt
  have d3 := (HPT2.out.below hb2 HPT2.out.lt).cell.2.2.2.1
  obtain ⟨vfC, veC, emC, hNx⟩ := HP2.out.box
  obtain ⟨n0, n1, n2, n3, n4⟩ := hNx.cell
  have f0 := hNx.free 0
  have f1 := hNx.free 1
  have hN2 := hNx.lt
  have HPT3 := Lib.hid (HPT2.out.below hb2 HPT2.out.lt)
  clear hb2 hm2 hNx hHeld n2 n3 n4
  go_wp2_with fail
  refine hK.out _ _ d3 (fun hHeld => ?_)
  clear hK K
  refine wpAnyH_ready (rs := [4, 9]) (by kernel_rfl) (by simp) ?_
  refine AllReadyH.cons rfl (fun K hK => ?_) (AllReadyH.cons rfl (fun K hK => ?_) AllReadyH.nil)
  ·skip
   go_simp
   refine hK.out _ _ hHeld (fun hH2 => ?_)
   clear hHeld hK K
   have hHeld := hH2
   clear hH2
   refine wpAnyH_ready (rs := [9]) (by kernel_rfl) (by simp) ?_
   refine AllReadyH.cons rfl (fun K hK => ?_) AllReadyH.nil
   go_simp
   refine hK.out _ _ (HPT3.out.below ((Below.refl _ w2).alloc (Nat.le_refl _) _) HPT3.out.lt).cell.2.2.2.1 (fun hH2 => ?_)
   clear hHeld hK K
   have hHeld := hH2
   clear hH2
   have HP3 := Lib.hid (HP2.out.below ((Below.refl _ w2).alloc (Nat.le_refl _) (.cells #[.slice Am nm2 cm] 39)))
   have HC3 : Hid ((w2.alloc (.cells #[.slice Am nm2 cm] 39)).cell? ⟨w2.heap.size, 0, none⟩ = some (.slice Am nm2 cm)) := by
    have h := heap_alloc_new w2 (.cells #[.slice Am nm2 cm] 39)
    show World.cell? _ _ = _
    unfold World.cell?
    rw [h]; rfl
   have HM3 := Lib.hid (HM2.out.alloc (.cells #[.slice Am nm2 cm] 39))
   refine wpAnyH_ready (rs := [10]) (by kernel_rfl) (by simp) ?_
   refine AllReadyH.cons rfl (fun K hK => ?_) AllReadyH.nil
   obtain ⟨vs, hvs, hvv⟩ := HP3.out.on
   rw [List.length_map, HLN.out] at hvs
   have hvl : vs.length = ln := by have := hvs.1; omega
   refine step_app_one (by rfl) (.tmp 42) (.tmp 47) _ (by rfl) w0.heap.size 39 i0 _ 24 Tryz.underlying38 hi0 hz0 (by rfl) hs1 hs2 (by omega) (.slice Ao ln co) ln vs (by rfl) hvs w2.heap.size 1 (.slice Am nm2 cm) (by rfl) HC3.out rfl (by omega) (by simp; omega) ?_
   intro v' w5 hown hg hat
   obtain ⟨A5, c5, rfl⟩ := Ent.form1 hown
   have hP5 := HP3.out.appOn hvv (by rw [hvl, List.length_map, HLN.out]) (by rw [List.length_map, HLN.out]; exact hown) hg hat HM3.out
   have HP5 := Lib.hid hP5
   have HPT5 := Lib.hid ((HPT3.out.below ((Below.refl _ w2).alloc (Nat.le_refl _) (.cells #[.slice Am nm2 cm] 39)) HPT3.out.lt).frame ((RFrame.refl (fun k => (Value.slice Ao ln co).ownBlock = some k) _).grown hg (fun r e _ => e)) (fun e => ty_ne (S := 39) (T := 124) (by decide) (HP3.out.on.block _ e).2.2 (HPT3.out.below ((Below.refl _ w2).alloc (Nat.le_refl _) (.cells #[.slice Am nm2 cm] 39)) HPT3.out.lt).ty rfl))
   obtain ⟨vf5, ve5, em5, hx5⟩ := HP3.out.box
   have hx5' := hx5.frame ((RFrame.refl (fun k => (Value.slice Ao ln co).ownBlock = some k) _).grown hg (fun r e _ => e)) (fun e => (HP3.out.on_out.1 _ e).1 rfl)
   have hf5 := hx5'.free 0
   have hc5 := hx5'.cell.1
   clear hvs hvv hvl hown hg hat hP5 hx5 hx5'
   refine hK.out _ _ HPT5.out.cell.2.2.2.1 (fun hH2 => ?_)
   clear hHeld hK K
   have hHeld := hH2
   clear hH2
   refine tk 11 (v := ?_) rfl (by kernel_rfl) (fun _ _ _ h => h) ?_ hHeld ?_
   rotate_left
   ·(intro W hSw; (try dsimp only at hSw); go_simp; try with_reducible rfl)
   refine tk 12 (v := ?_) rfl (by kernel_rfl) (fun _ _ _ h => h) ?_ hHeld ?_
   rotate_left
   ·(intro W hSw; (try dsimp only at hSw); go_simp; try with_reducible rfl)
   refine wpAnyH_ready (rs := [13]) (by kernel_rfl) (by simp) ?_
   refine AllReadyH.cons rfl (fun K hK => ?_) AllReadyH.nil
   go_simp
   have HPT6 := Lib.hid (HPT5.out.frame ((RFrame.refl (fun k => k = N) w5).setCell (b := N) (fun _ => rfl) 0 (.slice A5 (ln + 1) c5)) (fun e => by omega))
   refine hK.out _ _ HPT6.out.cell.2.2.2.1 (fun hH2 => ?_)
   clear hHeld hK K hH2
   refine wpAnyH_done (by kernel_rfl) ?_ _
   go_simp
   rename_i KK hKK
   refine hKK _ _ ?_
   clear hKK
   clear hf5 hc5
   generalize w5.setCell ⟨N, 0, none⟩ (.slice A5 (ln + 1) c5) = W6 at HP5 HPT6 ⊢
   obtain ⟨vf6, ve6, em6, hx6⟩ := HP5.out.box
   obtain ⟨q0, q1, q2, q3, q4⟩ := hx6.cell
   have g1 := hx6.free 1
   have hlt6 := hx6.lt
   have hsz6 : w.heap.size + 1 + 1 < W6.heap.size := HP5.out.out.lt
   clear hx6 q0 q2 q3 q4
   have HP6 := Lib.hid (HP5.out.below ((Below.refl _ W6).alloc (Nat.le_refl _) (.cells #[.slice none 0 0] 39)))
   obtain ⟨us, hus, huv⟩ := HP6.out.be
   rw [List.length_map, HLN.out] at hus
   have hul : us.length = ln := by have := hus.1; omega
   have HUS := Lib.hid hus
   have HUV := Lib.hid huv
   have HUL := Lib.hid hul
   clear hus huv hul
   have HC6 : Hid ((W6.alloc (.cells #[.slice none 0 0] 39)).cell? ⟨W6.heap.size, 0, none⟩ = some (.slice none 0 0)) := by
    have h := heap_alloc_new W6 (.cells #[.slice none 0 0] 39)
    show World.cell? _ _ = _
    unfold World.cell?
    rw [h]; rfl
   go_upto_region 7 with (at_builtin; (refine wpList_app_one rfl (.tmp 55) (.tmp 56) _ rfl w0.heap.size 39 i0 _ 24 Tryz.underlying38 hi0 hz0 (by rfl) hs1 hs2 (by omega) (.slice Ab ln cb) ln us (by rfl) HUS.out W6.heap.size 1 (.slice none 0 0) (by rfl) HC6.out rfl (by omega) (by simp; omega) ?_); intro v' w7 hown hg hat; obtain ⟨A7, c7, hv7⟩ := Ent.form1 hown; subst hv7; have HP7 := Lib.hid (HP6.out.appBe HUV.out (by rw [HUL.out, List.length_map, HLN.out]) (by rw [List.length_map, HLN.out]; exact hown) hg hat (LRow.nil _ 0)); have hx7 := (HP6.out.box.choose_spec.choose_spec.choose_spec).frame ((RFrame.refl (fun k => (Value.slice Ab ln cb).ownBlock = some k) _).grown hg (fun r e _ => e)) (fun e => (HP6.out.on_out.2 _ e).1 rfl); have h71 := hx7.free 1; have h7c := hx7.cell.2.1; clear hown hg hat hx7)
   clear h71 h7c q1 g1
   generalize w7.setCell ⟨N, 1, none⟩ (.slice A7 (ln + 1) c7) = W7 at HP7 ⊢
   obtain ⟨o0, o1, o2, o3, o4⟩ := HP7.out.out.cell
   have o5 := HP7.out.out.free 2
   have hsz7 : w.heap.size + 1 + 1 < W7.heap.size := HP7.out.out.lt
   go_upto_region 8 with fail
   have HP8 := Lib.hid ((HP7.out.setO (.slice (some ⟨W7.heap.size, 0, none⟩) 1 1)).below ((Below.refl _ _).alloc (Nat.le_refl _) (.cells #[.int .i64 ln] 3)))
   have HX8 : Hid (LRow ((W7.setCell ⟨w.heap.size + 1 + 1, 2, none⟩ (.slice (some ⟨W7.heap.size, 0, none⟩) 1 1)).alloc (.cells #[.int .i64 ln] 3)) (.slice (some ⟨W7.heap.size, 0, none⟩) 1 1) [(ln : Int)]) := by
    have h := lrow_one (W7.setCell ⟨w.heap.size + 1 + 1, 2, none⟩ (.slice (some ⟨W7.heap.size, 0, none⟩) 1 1)) ln (by omega)
    rwa [show (W7.setCell ⟨w.heap.size + 1 + 1, 2, none⟩ (.slice (some ⟨W7.heap.size, 0, none⟩) 1 1)).heap.size = W7.heap.size by simp [World.setCell]] at h
   generalize (W7.setCell ⟨w.heap.size + 1 + 1, 2, none⟩ (.slice (some ⟨W7.heap.size, 0, none⟩) 1 1)).alloc (.cells #[.int .i64 ln] 3) = W8 at HP8 HX8 ⊢
   obtain ⟨X8, hX8⟩ : ∃ X8, X8 = W7.heap.size := ⟨_, rfl⟩
   rw [← hX8] at HP8 HX8 ⊢
   clear hX8 o0 o1 o2 o3 o4 o5
   obtain ⟨o0, o1, o2, o3, o4⟩ := HP8.out.out.cell
   have o5 := HP8.out.out.free 3
   have hsz8 : w.heap.size + 1 + 1 < W8.heap.size := HP8.out.out.lt
   go_upto_region 9 with fail
   have HP9 := Lib.hid ((HP8.out.setE (.slice (some ⟨W8.heap.size, 0, none⟩) 1 1)).below ((Below.refl _ _).alloc (Nat.le_refl _) (.cells #[.int .i64 ln] 3)))
   have HX9 : Hid (LRow ((W8.setCell ⟨w.heap.size + 1 + 1, 3, none⟩ (.slice (some ⟨W8.heap.size, 0, none⟩) 1 1)).alloc (.cells #[.int .i64 ln] 3)) (.slice (some ⟨W8.heap.size, 0, none⟩) 1 1) [(ln : Int)]) := by
    have h := lrow_one (W8.setCell ⟨w.heap.size + 1 + 1, 3, none⟩ (.slice (some ⟨W8.heap.size, 0, none⟩) 1 1)) ln (by omega)
    rwa [show (W8.setCell ⟨w.heap.size + 1 + 1, 3, none⟩ (.slice (some ⟨W8.heap.size, 0, none⟩) 1 1)).heap.size = W8.heap.size by simp [World.setCell]] at h
   have HY9 := Lib.hid ((HX8.out.setCell (T := 41) (by decide) HP8.out.out.ty 3 (.slice (some ⟨W8.heap.size, 0, none⟩) 1 1)).alloc (.cells #[.int .i64 ln] 3))
   generalize (W8.setCell ⟨w.heap.size + 1 + 1, 3, none⟩ (.slice (some ⟨W8.heap.size, 0, none⟩) 1 1)).alloc (.cells #[.int .i64 ln] 3) = W9 at HP9 HX9 HY9 ⊢
   obtain ⟨X9, hX9⟩ : ∃ X9, X9 = W8.heap.size := ⟨_, rfl⟩
   rw [← hX9] at HP9 HX9 ⊢
   clear hX9 o0 o1 o2 o3 o4 o5
   obtain ⟨o0, o1, o2, o3, o4⟩ := HP9.out.out.cell
   obtain ⟨r0, r1, r2, r3, r4⟩ := HP9.out.res.cell
   have e0 := HP9.out.res.free 0
   have e1 := HP9.out.res.free 1
   have e2 := HP9.out.res.free 2
   have e3 := HP9.out.res.free 3
   have e4 := HP9.out.res.free 4
   have hsz9 : w.heap.size + 1 + 1 < W9.heap.size := HP9.out.out.lt
   go_wp2
   have hs := ((((HP9.out.res.set0 (.slice none 0 0)).set1 (.slice none 0 0)).set2 (.slice (some ⟨X8, 0, none⟩) 1 1)).set3 (.slice (some ⟨X9, 0, none⟩) 1 1)).set4 false
   have hf : RFrame (fun k => k = w.heap.size) W9 (((((W9.setCell ⟨w.heap.size, 0, none⟩ (.slice none 0 0)).setCell ⟨w.heap.size, 1, none⟩ (.slice none 0 0)).setCell ⟨w.heap.size, 2, none⟩ (.slice (some ⟨X8, 0, none⟩) 1 1)).setCell ⟨w.heap.size, 3, none⟩ (.slice (some ⟨X9, 0, none⟩) 1 1)).setCell ⟨w.heap.size, 4, none⟩ (.bool false)) :=
    (((((RFrame.refl (fun k => k = w.heap.size) W9).setCell (fun _ => rfl) _ _).setCell (fun _ => rfl) _ _).setCell (fun _ => rfl) _ _).setCell (fun _ => rfl) _ _).setCell (fun _ => rfl) _ _
   have hni : NoInts W9 (fun k => k = w.heap.size) := noints_ty (T := 41) (by decide) HP9.out.res.ty
   obtain ⟨s0, s1, s2, s3, s4⟩ := hs.cell
   have hlb2 : ln < 256 := by
    have h := HPL.out
    have := HLN.out
    first | omega | (rw [if_pos (by first | rfl | trivial)] at h; omega)
   have hre : refw (E.map PI.toP) m (f + 1) k l = lay (m nm) l := HRW.out l
   refine bodyPost_ret (v := rpV (.slice (some ⟨X8, 0, none⟩) 1 1) (.slice (some ⟨X9, 0, none⟩) 1 1) false) ?_ rfl ⟨.slice (some ⟨X8, 0, none⟩) 1 1, .slice (some ⟨X9, 0, none⟩) 1 1, .slice A5 (ln + 1) c5, .slice A7 (ln + 1) c7, ?_, ?_, ?_, ?_, HP9.out.oo, HP9.out.ob⟩
   ·simp [rpV, results, Tryz.results73, go_sem, s0, s1, s2, s3, s4]
   ·rw [hre]; rfl
   ·rw [hre]
    have e : (lay (m nm) l).1 = ⟨false, Bg.nil.withN ln, Bg.nil.withN ln⟩ := by unfold lay; rw [HLN.out]
    rw [e]
    unfold PcR
    dsimp only
    rw [withN_list _ hlb2]
    exact ⟨HY9.out.frame hf hni, HX9.out.frame hf hni⟩
   ·rw [hre]
    have e : (lay (m nm) l).2 = l ++ [⟨m nm, Bg.nil⟩] := rfl
    rw [e]
    obtain ⟨a, b, c, hx⟩ := HP9.out.box
    have nl := HP9.out.nlt
    have hon := HP9.out.on.frame hf hni (fun g hg e => (HP9.out.on_out.1 g hg).2.1 e)
    have hbe := HP9.out.be.frame hf hni (fun g hg e => (HP9.out.on_out.2 g hg).2.1 e)
    refine ⟨⟨a, b, c, hx.frame hf (fun e => by omega)⟩, ?_, ?_, HP9.out.apart⟩
    ·rw [List.map_append]; exact hon
    ·rw [List.map_append]; simp only [List.map_cons, List.map_nil, nil_list]; exact hbe
   ·exact HP9.out.fr.trans hf (fun k hk e => by omega)
  ·skip
   go_simp
   refine hK.out _ _ (HPT3.out.below ((Below.refl _ w2).alloc (Nat.le_refl _) _) HPT3.out.lt).cell.2.2.2.1 (fun hH2 => ?_)
   clear hHeld hK K
   have hHeld := hH2
   clear hH2
   have n0' : (w2.alloc (.cells #[.slice Am nm2 cm] 39)).cell? ⟨N, 0, none⟩ = some (.slice Ao ln co) := by
    rw [World.cell?_alloc_lt _ _ _ hN2]; exact n0
   refine wpAnyH_ready (rs := [4]) (by kernel_rfl) (by simp) ?_
   refine AllReadyH.cons rfl (fun K hK => ?_) AllReadyH.nil
   go_simp
   refine hK.out _ _ hHeld (fun hH2 => ?_)
   clear hHeld hK K
   have hHeld := hH2
   clear hH2
   have HP3 := Lib.hid (HP2.out.below ((Below.refl _ w2).alloc (Nat.le_refl _) (.cells #[.slice Am nm2 cm] 39)))
   have HC3 : Hid ((w2.alloc (.cells #[.slice Am nm2 cm] 39)).cell? ⟨w2.heap.size, 0, none⟩ = some (.slice Am nm2 cm)) := by
    have h := heap_alloc_new w2 (.cells #[.slice Am nm2 cm] 39)
    show World.cell? _ _ = _
    unfold World.cell?
    rw [h]; rfl
   have HM3 := Lib.hid (HM2.out.alloc (.cells #[.slice Am nm2 cm] 39))
   refine wpAnyH_ready (rs := [10]) (by kernel_rfl) (by simp) ?_
   refine AllReadyH.cons rfl (fun K hK => ?_) AllReadyH.nil
   obtain ⟨vs, hvs, hvv⟩ := HP3.out.on
   rw [List.length_map, HLN.out] at hvs
   have hvl : vs.length = ln := by have := hvs.1; omega
   refine step_app_one (by rfl) (.tmp 42) (.tmp 47) _ (by rfl) w0.heap.size 39 i0 _ 24 Tryz.underlying38 hi0 hz0 (by rfl) hs1 hs2 (by omega) (.slice Ao ln co) ln vs (by rfl) hvs w2.heap.size 1 (.slice Am nm2 cm) (by rfl) HC3.out rfl (by omega) (by simp; omega) ?_
   intro v' w5 hown hg hat
   obtain ⟨A5, c5, rfl⟩ := Ent.form1 hown
   have hP5 := HP3.out.appOn hvv (by rw [hvl, List.length_map, HLN.out]) (by rw [List.length_map, HLN.out]; exact hown) hg hat HM3.out
   have HP5 := Lib.hid hP5
   have HPT5 := Lib.hid ((HPT3.out.below ((Below.refl _ w2).alloc (Nat.le_refl _) (.cells #[.slice Am nm2 cm] 39)) HPT3.out.lt).frame ((RFrame.refl (fun k => (Value.slice Ao ln co).ownBlock = some k) _).grown hg (fun r e _ => e)) (fun e => ty_ne (S := 39) (T := 124) (by decide) (HP3.out.on.block _ e).2.2 (HPT3.out.below ((Below.refl _ w2).alloc (Nat.le_refl _) (.cells #[.slice Am nm2 cm] 39)) HPT3.out.lt).ty rfl))
   obtain ⟨vf5, ve5, em5, hx5⟩ := HP3.out.box
   have hx5' := hx5.frame ((RFrame.refl (fun k => (Value.slice Ao ln co).ownBlock = some k) _).grown hg (fun r e _ => e)) (fun e => (HP3.out.on_out.1 _ e).1 rfl)
   have hf5 := hx5'.free 0
   have hc5 := hx5'.cell.1
   clear hvs hvv hvl hown hg hat hP5 hx5 hx5'
   refine hK.out _ _ HPT5.out.cell.2.2.2.1 (fun hH2 => ?_)
   clear hHeld hK K
   have hHeld := hH2
   clear hH2
   refine tk 11 (v := ?_) rfl (by kernel_rfl) (fun _ _ _ h => h) ?_ hHeld ?_
   rotate_left
   ·(intro W hSw; (try dsimp only at hSw); go_simp; try with_reducible rfl)
   refine tk 12 (v := ?_) rfl (by kernel_rfl) (fun _ _ _ h => h) ?_ hHeld ?_
   rotate_left
   ·(intro W hSw; (try dsimp only at hSw); go_simp; try with_reducible rfl)
   refine wpAnyH_ready (rs := [13]) (by kernel_rfl) (by simp) ?_
   refine AllReadyH.cons rfl (fun K hK => ?_) AllReadyH.nil
   go_simp
   have HPT6 := Lib.hid (HPT5.out.frame ((RFrame.refl (fun k => k = N) w5).setCell (b := N) (fun _ => rfl) 0 (.slice A5 (ln + 1) c5)) (fun e => by omega))
   refine hK.out _ _ HPT6.out.cell.2.2.2.1 (fun hH2 => ?_)
   clear hHeld hK K hH2
   refine wpAnyH_done (by kernel_rfl) ?_ _
   go_simp
   rename_i KK hKK
   refine hKK _ _ ?_
   clear hKK
   clear hf5 hc5
   generalize w5.setCell ⟨N, 0, none⟩ (.slice A5 (ln + 1) c5) = W6 at HP5 HPT6 ⊢
   obtain ⟨vf6, ve6, em6, hx6⟩ := HP5.out.box
   obtain ⟨q0, q1, q2, q3, q4⟩ := hx6.cell
   have g1 := hx6.free 1
   have hlt6 := hx6.lt
   have hsz6 : w.heap.size + 1 + 1 < W6.heap.size := HP5.out.out.lt
   clear hx6 q0 q2 q3 q4
   have HP6 := Lib.hid (HP5.out.below ((Below.refl _ W6).alloc (Nat.le_refl _) (.cells #[.slice none 0 0] 39)))
   obtain ⟨us, hus, huv⟩ := HP6.out.be
   rw [List.length_map, HLN.out] at hus
   have hul : us.length = ln := by have := hus.1; omega
   have HUS := Lib.hid hus
   have HUV := Lib.hid huv
   have HUL := Lib.hid hul
   clear hus huv hul
   have HC6 : Hid ((W6.alloc (.cells #[.slice none 0 0] 39)).cell? ⟨W6.heap.size, 0, none⟩ = some (.slice none 0 0)) := by
    have h := heap_alloc_new W6 (.cells #[.slice none 0 0] 39)
    show World.cell? _ _ = _
    unfold World.cell?
    rw [h]; rfl
   go_upto_region 7 with (at_builtin; (refine wpList_app_one rfl (.tmp 55) (.tmp 56) _ rfl w0.heap.size 39 i0 _ 24 Tryz.underlying38 hi0 hz0 (by rfl) hs1 hs2 (by omega) (.slice Ab ln cb) ln us (by rfl) HUS.out W6.heap.size 1 (.slice none 0 0) (by rfl) HC6.out rfl (by omega) (by simp; omega) ?_); intro v' w7 hown hg hat; obtain ⟨A7, c7, hv7⟩ := Ent.form1 hown; subst hv7; have HP7 := Lib.hid (HP6.out.appBe HUV.out (by rw [HUL.out, List.length_map, HLN.out]) (by rw [List.length_map, HLN.out]; exact hown) hg hat (LRow.nil _ 0)); have hx7 := (HP6.out.box.choose_spec.choose_spec.choose_spec).frame ((RFrame.refl (fun k => (Value.slice Ab ln cb).ownBlock = some k) _).grown hg (fun r e _ => e)) (fun e => (HP6.out.on_out.2 _ e).1 rfl); have h71 := hx7.free 1; have h7c := hx7.cell.2.1; clear hown hg hat hx7)
   clear h71 h7c q1 g1
   generalize w7.setCell ⟨N, 1, none⟩ (.slice A7 (ln + 1) c7) = W7 at HP7 ⊢
   obtain ⟨o0, o1, o2, o3, o4⟩ := HP7.out.out.cell
   have o5 := HP7.out.out.free 2
   have hsz7 : w.heap.size + 1 + 1 < W7.heap.size := HP7.out.out.lt
   go_upto_region 8 with fail
   have HP8 := Lib.hid ((HP7.out.setO (.slice (some ⟨W7.heap.size, 0, none⟩) 1 1)).below ((Below.refl _ _).alloc (Nat.le_refl _) (.cells #[.int .i64 ln] 3)))
   have HX8 : Hid (LRow ((W7.setCell ⟨w.heap.size + 1 + 1, 2, none⟩ (.slice (some ⟨W7.heap.size, 0, none⟩) 1 1)).alloc (.cells #[.int .i64 ln] 3)) (.slice (some ⟨W7.heap.size, 0, none⟩) 1 1) [(ln : Int)]) := by
    have h := lrow_one (W7.setCell ⟨w.heap.size + 1 + 1, 2, none⟩ (.slice (some ⟨W7.heap.size, 0, none⟩) 1 1)) ln (by omega)
    rwa [show (W7.setCell ⟨w.heap.size + 1 + 1, 2, none⟩ (.slice (some ⟨W7.heap.size, 0, none⟩) 1 1)).heap.size = W7.heap.size by simp [World.setCell]] at h
   generalize (W7.setCell ⟨w.heap.size + 1 + 1, 2, none⟩ (.slice (some ⟨W7.heap.size, 0, none⟩) 1 1)).alloc (.cells #[.int .i64 ln] 3) = W8 at HP8 HX8 ⊢
   obtain ⟨X8, hX8⟩ : ∃ X8, X8 = W7.heap.size := ⟨_, rfl⟩
   rw [← hX8] at HP8 HX8 ⊢
   clear hX8 o0 o1 o2 o3 o4 o5
   obtain ⟨o0, o1, o2, o3, o4⟩ := HP8.out.out.cell
   have o5 := HP8.out.out.free 3
   have hsz8 : w.heap.size + 1 + 1 < W8.heap.size := HP8.out.out.lt
   go_upto_region 9 with fail
   have HP9 := Lib.hid ((HP8.out.setE (.slice (some ⟨W8.heap.size, 0, none⟩) 1 1)).below ((Below.refl _ _).alloc (Nat.le_refl _) (.cells #[.int .i64 ln] 3)))
   have HX9 : Hid (LRow ((W8.setCell ⟨w.heap.size + 1 + 1, 3, none⟩ (.slice (some ⟨W8.heap.size, 0, none⟩) 1 1)).alloc (.cells #[.int .i64 ln] 3)) (.slice (some ⟨W8.heap.size, 0, none⟩) 1 1) [(ln : Int)]) := by
    have h := lrow_one (W8.setCell ⟨w.heap.size + 1 + 1, 3, none⟩ (.slice (some ⟨W8.heap.size, 0, none⟩) 1 1)) ln (by omega)
    rwa [show (W8.setCell ⟨w.heap.size + 1 + 1, 3, none⟩ (.slice (some ⟨W8.heap.size, 0, none⟩) 1 1)).heap.size = W8.heap.size by simp [World.setCell]] at h
   have HY9 := Lib.hid ((HX8.out.setCell (T := 41) (by decide) HP8.out.out.ty 3 (.slice (some ⟨W8.heap.size, 0, none⟩) 1 1)).alloc (.cells #[.int .i64 ln] 3))
   generalize (W8.setCell ⟨w.heap.size + 1 + 1, 3, none⟩ (.slice (some ⟨W8.heap.size, 0, none⟩) 1 1)).alloc (.cells #[.int .i64 ln] 3) = W9 at HP9 HX9 HY9 ⊢
   obtain ⟨X9, hX9⟩ : ∃ X9, X9 = W8.heap.size := ⟨_, rfl⟩
   rw [← hX9] at HP9 HX9 ⊢
   clear hX9 o0 o1 o2 o3 o4 o5
   obtain ⟨o0, o1, o2, o3, o4⟩ := HP9.out.out.cell
   obtain ⟨r0, r1, r2, r3, r4⟩ := HP9.out.res.cell
   have e0 := HP9.out.res.free 0
   have e1 := HP9.out.res.free 1
   have e2 := HP9.out.res.free 2
   have e3 := HP9.out.res.free 3
   have e4 := HP9.out.res.free 4
   have hsz9 : w.heap.size + 1 + 1 < W9.heap.size := HP9.out.out.lt
   go_wp2
   have hs := ((((HP9.out.res.set0 (.slice none 0 0)).set1 (.slice none 0 0)).set2 (.slice (some ⟨X8, 0, none⟩) 1 1)).set3 (.slice (some ⟨X9, 0, none⟩) 1 1)).set4 false
   have hf : RFrame (fun k => k = w.heap.size) W9 (((((W9.setCell ⟨w.heap.size, 0, none⟩ (.slice none 0 0)).setCell ⟨w.heap.size, 1, none⟩ (.slice none 0 0)).setCell ⟨w.heap.size, 2, none⟩ (.slice (some ⟨X8, 0, none⟩) 1 1)).setCell ⟨w.heap.size, 3, none⟩ (.slice (some ⟨X9, 0, none⟩) 1 1)).setCell ⟨w.heap.size, 4, none⟩ (.bool false)) :=
    (((((RFrame.refl (fun k => k = w.heap.size) W9).setCell (fun _ => rfl) _ _).setCell (fun _ => rfl) _ _).setCell (fun _ => rfl) _ _).setCell (fun _ => rfl) _ _).setCell (fun _ => rfl) _ _
   have hni : NoInts W9 (fun k => k = w.heap.size) := noints_ty (T := 41) (by decide) HP9.out.res.ty
   obtain ⟨s0, s1, s2, s3, s4⟩ := hs.cell
   have hlb2 : ln < 256 := by
    have h := HPL.out
    have := HLN.out
    first | omega | (rw [if_pos (by first | rfl | trivial)] at h; omega)
   have hre : refw (E.map PI.toP) m (f + 1) k l = lay (m nm) l := HRW.out l
   refine bodyPost_ret (v := rpV (.slice (some ⟨X8, 0, none⟩) 1 1) (.slice (some ⟨X9, 0, none⟩) 1 1) false) ?_ rfl ⟨.slice (some ⟨X8, 0, none⟩) 1 1, .slice (some ⟨X9, 0, none⟩) 1 1, .slice A5 (ln + 1) c5, .slice A7 (ln + 1) c7, ?_, ?_, ?_, ?_, HP9.out.oo, HP9.out.ob⟩
   ·simp [rpV, results, Tryz.results73, go_sem, s0, s1, s2, s3, s4]
   ·rw [hre]; rfl
   ·rw [hre]
    have e : (lay (m nm) l).1 = ⟨false, Bg.nil.withN ln, Bg.nil.withN ln⟩ := by unfold lay; rw [HLN.out]
    rw [e]
    unfold PcR
    dsimp only
    rw [withN_list _ hlb2]
    exact ⟨HY9.out.frame hf hni, HX9.out.frame hf hni⟩
   ·rw [hre]
    have e : (lay (m nm) l).2 = l ++ [⟨m nm, Bg.nil⟩] := rfl
    rw [e]
    obtain ⟨a, b, c, hx⟩ := HP9.out.box
    have nl := HP9.out.nlt
    have hon := HP9.out.on.frame hf hni (fun g hg e => (HP9.out.on_out.1 g hg).2.1 e)
    have hbe := HP9.out.be.frame hf hni (fun g hg e => (HP9.out.on_out.2 g hg).2.1 e)
    refine ⟨⟨a, b, c, hx.frame hf (fun e => by omega)⟩, ?_, ?_, HP9.out.apart⟩
    ·rw [List.map_append]; exact hon
    ·rw [List.map_append]; simp only [List.map_cons, List.map_nil, nil_list]; exact hbe
   ·exact HP9.out.fr.trans hf (fun k hk e => by omega)
end Go.Proofs.YtnbchikiiipejaaGreatDoor.Nf
