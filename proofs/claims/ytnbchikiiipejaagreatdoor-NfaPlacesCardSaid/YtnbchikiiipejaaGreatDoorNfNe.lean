/- Walk of the reference of nfa: part at every depth; Of. -/
import Derived.Test.YtnbchikiiipejaaGreatDoorNrP1
import Derived.Test.YtnbchikiiipejaaGreatDoorNrP3
import Derived.Test.YtnbchikiiipejaaGreatDoorNrP4
import Derived.Test.YtnbchikiiipejaaGreatDoorNfNew
import Derived.Test.YtnbchikiiipejaaGreatDoorExPw
import Derived.Test.YtnbchikiiipejaaGreatDoorNfOpn
import Derived.Test.YtnbchikiiipejaaGreatDoorNfLive
set_option linter.unusedVariables false
set_option maxRecDepth 100000
set_option maxHeartbeats 4000000
namespace Go.Proofs.YtnbchikiiipejaaGreatDoor.Nf
open Go.RowKit Mem
open Bg (Bag)
open Ex (Pt PI PR KR pl)
theorem part_all (w0 : World) (N : Nat) (A : Option Addr) (n c : Nat) (E : List PI) (m : List UInt8 → Bag) (AL : Option Addr) (nl cl : Nat) (hE : PR w0 A n E) (hX : Expr E) (hsm : ∀ p ∈ E, p.kids.length ≤ 10000) (hn : n ≤ 100000)
  (hM : MnR w0 (.slice AL nl cl) m E) (hN : w0.heap.size ≤ N) : ∀ f, PartAt w0 N A n c (E.map PI.toP) m (.slice AL nl cl) f
 | 0 => fun k l w vo vb h => by omega
 | f + 1 => fun k l w vo vb hkf hkn hb hrs hpl => by
  have IH := part_all w0 N A n c E m AL nl cl hE hX hsm hn hM hN f
  have hk : k < E.length := by have := hE.1; omega
  have hkd : ∀ v, E[k].toP.kind = v → ∀ p, (E.map PI.toP)[k]? = some p → p.kind = v := by
   intro v hv p hp
   rw [List.getElem?_map, List.getElem?_eq_getElem hk] at hp
   simp only [Option.map_some, Option.some.injEq] at hp
   rw [← hp]; exact hv
  rcases hX.four _ (List.mem_map.2 ⟨_, List.getElem_mem hk, rfl⟩) with h | h | h | h
  ·exact part_k1 w0 N A n c E m AL nl cl hE hX hsm hn hM hN f IH k hkf hkn (hkd _ h) l w vo vb hb hrs hpl
  ·exact part_k2 w0 N A n c E m AL nl cl hE hX hsm hn hM hN f IH k hkf hkn (hkd _ h) l w vo vb hb hrs hpl
  ·exact part_k3 w0 N A n c E m AL nl cl hE hX hsm hn hM hN f IH k hkf hkn (hkd _ h) l w vo vb hb hrs hpl
  ·exact part_k4 w0 N A n c E m AL nl cl hE hX hsm hn hM hN f IH k hkf hkn (hkd _ h) l w vo vb hb hrs hpl
def OfR (E : List PI) (m : List UInt8 → Bag) (w : World) (en : Ending) (w' : World) : Prop :=
 Below w.heap.size w w' ∧ ∃ vo vb vf ve, en = .returned (.agg #[vo, vb, vf, ve, .bool (wholeN E m).1.em]) ∧ LRows w.heap.size w' vo ((wholeN E m).2.map fun x => x.on.list) ∧ LRows w.heap.size w' vb ((wholeN E m).2.map fun x => x.behind.list) ∧ PcR w' vf ve (wholeN E m).1
theorem of_any' (A : Option Addr) (n c : Nat) (E : List PI) (m : List UInt8 → Bag) (AL : Option Addr) (nl cl : Nat) (w : World) (hE : PR w A n E) (hX : Expr E) (hf : fewE E = true) (hsm : ∀ p ∈ E, p.kids.length ≤ 10000) (hn : n ≤ 100000)
  (hM : MnR w (.slice AL nl cl) m E) : Calls Tryz.prog 23 #[.slice A n c, .slice AL nl cl] w (OfR E m w) := by
 have hEl := hE.1
 by_cases h0 : n = 0
 ·subst h0
  have HW : Hid (wholeN E m = (emp, [])) := by show _ = _; unfold wholeN; rw [if_pos hEl]
  clear hE hX hf hsm hM hEl
  go_enter Tryz.func23, Tryz.ntmps23
  go_wp2
  have hb2 := ((Below.refl _ w).alloc (Nat.le_refl _) (.cells #[.slice none 0 0, .slice none 0 0, .slice none 0 0, .slice none 0 0, .bool true] 41)).alloc (by simp) (.cells #[.slice none 0 0, .slice none 0 0, .slice none 0 0, .slice none 0 0, .bool true] 41)
  have r1 := (RBox.new w (.slice none 0 0) (.slice none 0 0) (.slice none 0 0) (.slice none 0 0) true).below ((Below.refl _ _).alloc (Nat.le_refl _) (.cells #[.slice none 0 0, .slice none 0 0, .slice none 0 0, .slice none 0 0, .bool true] 41))
  obtain ⟨s0, s1, s2, s3, s4⟩ := r1.cell
  refine bodyPost_ret (v := .agg #[.slice none 0 0, .slice none 0 0, .slice none 0 0, .slice none 0 0, .bool true]) ?_ rfl ⟨hb2, .slice none 0 0, .slice none 0 0, .slice none 0 0, .slice none 0 0, ?_, ?_, ?_, ?_⟩
  ·simp [results, Tryz.results23, go_sem, s0, s1, s2, s3, s4]
  ·rw [HW.out]; rfl
  ·rw [HW.out]; exact LRows.nil _ _
  ·rw [HW.out]; exact LRows.nil _ _
  ·rw [HW.out]; exact ⟨by show LRow _ _ Bg.nil.list; rw [nil_list]; exact LRow.nil _ _, by show LRow _ _ Bg.nil.list; rw [nil_list]; exact LRow.nil _ _⟩
 ·have hpl : places (E.map PI.toP) n (n - 1) ≤ 256 := by
   rcases few_places hX hf with h | h
   ·omega
   ·rw [hEl] at h; exact h
  have hb2 := ((Below.refl _ w).alloc (Nat.le_refl _) (.cells #[.slice none 0 0, .slice none 0 0, .slice none 0 0, .slice none 0 0, .bool false] 41)).alloc (by simp) (.cells #[.slice none 0 0, .slice none 0 0, .slice none 0 0, .slice none 0 0, .bool true] 41)
  have r1 := RBox.new w (.slice none 0 0) (.slice none 0 0) (.slice none 0 0) (.slice none 0 0) false
  have r1' := r1.below ((Below.refl _ _).alloc (Nat.le_refl _) (.cells #[.slice none 0 0, .slice none 0 0, .slice none 0 0, .slice none 0 0, .bool true] 41))
  have r2 := RBox.new (w.alloc (.cells #[.slice none 0 0, .slice none 0 0, .slice none 0 0, .slice none 0 0, .bool false] 41)) (.slice none 0 0) (.slice none 0 0) (.slice none 0 0) (.slice none 0 0) true
  rw [World.size_alloc] at r2
  have hrs : RS w.heap.size (w.heap.size + 1) ((w.alloc (.cells #[.slice none 0 0, .slice none 0 0, .slice none 0 0, .slice none 0 0, .bool false] 41)).alloc (.cells #[.slice none 0 0, .slice none 0 0, .slice none 0 0, .slice none 0 0, .bool true] 41)) [] (.slice none 0 0) (.slice none 0 0) :=
   ⟨⟨_, _, _, r2⟩, LRows.nil _ _, LRows.nil _ _, fun g h => by cases h⟩
  have HP := hide (part_all w (w.heap.size + 1) A n c E m AL nl cl hE hX hsm hn hM (by omega) n (n - 1) [] _ _ _ (by omega) (by omega) hb2 hrs (by simpa using hpl))
  have HW : Hid (refw (E.map PI.toP) m n (n - 1) [] = wholeN E m) := by
   show _ = _
   unfold wholeN
   rw [if_neg (by omega), ← hEl, refw_write _ m hX.fit hX.four]
   rw [hEl]; simpa using hpl
  have HB2 := Lib.hid hb2
  have HR1 := Lib.hid r1'
  have HR2 := Lib.hid r2
  have h1 : ((n : Int) == 0) = false := by simp; omega
  have hn1 : ((n : Int) - 1) = ((n - 1 : Nat) : Int) := by omega
  have hnp : 0 < n := by omega
  clear hE hX hf hsm hM hpl hb2 r1 r1' r2 hrs
  go_enter Tryz.func23, Tryz.ntmps23
  rw [HW.out] at HP
  go_upto_region 5 with (go_at_call 73; refine (HP.out).mono ?_; rintro en w2 ⟨vf, ve, vo, vb, rfl, hpc, hrs2, hfr, hoo, hob⟩; obtain ⟨Af, cf, hvf⟩ := hpc.1.form; obtain ⟨Ae, ce, hve⟩ := hpc.2.form; obtain ⟨Ao, co, hvo⟩ := hrs2.on.form; obtain ⟨Ab, cb, hvb⟩ := hrs2.be.form; have HPC := Lib.hid hpc; have HRS := Lib.hid hrs2; have HFR := Lib.hid hfr; have HRES := Lib.hid (HR1.out.frame hfr (fun e => e.elim (fun e => by omega) (fun e => e.elim (fun e => by cases e) (fun e => by cases e)))); clear hpc hrs2 hfr hoo hob; obtain ⟨nf, hnf⟩ : ∃ nf, (wholeN E m).1.first.list.length = nf := ⟨_, rfl⟩; obtain ⟨ne, hne⟩ : ∃ ne, (wholeN E m).1.ends.list.length = ne := ⟨_, rfl⟩; obtain ⟨no, hno⟩ : ∃ no, ((wholeN E m).2.map fun x => x.on.list).length = no := ⟨_, rfl⟩; obtain ⟨nb, hnb⟩ : ∃ nb, ((wholeN E m).2.map fun x => x.behind.list).length = nb := ⟨_, rfl⟩; rw [hnf] at hvf; rw [hne] at hve; rw [hno] at hvo; rw [hnb] at hvb; subst hvf; subst hve; subst hvo; subst hvb; clear hnf hne hno hnb; unfold rpV)
  clear HR1 HR2 HP
  obtain ⟨em, hem⟩ : ∃ em, (wholeN E m).1.em = em := ⟨_, rfl⟩
  rw [hem]
  have HEM := Lib.hid hem
  clear hem
  have hb3 := (Below.refl _ w2).alloc (Nat.le_refl _) (.cells #[.slice none 0 0, .slice none 0 0, .slice Af nf cf, .slice Ae ne ce, .bool em] 41)
  have HX3 := Lib.hid (RBox.new w2 (.slice none 0 0) (.slice none 0 0) (.slice Af nf cf) (.slice Ae ne ce) em)
  have HPC3 := Lib.hid (HPC.out.below hb3)
  have HRS3 := Lib.hid (HRS.out.below hb3)
  have HRES3 := Lib.hid (HRES.out.below hb3)
  have HFR3 := Lib.hid (HFR.out.then hb3)
  have hsz : w.heap.size + 1 < w2.heap.size := by have := HRS.out.lt _ (.inl rfl); omega
  clear hb3 HPC HRS HRES HFR
  generalize w2.alloc (.cells #[.slice none 0 0, .slice none 0 0, .slice Af nf cf, .slice Ae ne ce, .bool em] 41) = W3 at HX3 HPC3 HRS3 HRES3 HFR3 ⊢
  obtain ⟨X, hX⟩ : ∃ X, X = w2.heap.size := ⟨_, rfl⟩
  rw [← hX] at HX3 hsz ⊢
  clear hX
  obtain ⟨x0, x1, x2, x3, x4⟩ := HX3.out.cell
  obtain ⟨vf0, ve0, em0, hN⟩ := HRS3.out.box
  have hF1 := hN.set2 (.slice Af nf cf)
  have hF2 := hF1.set3 (.slice Ae ne ce)
  have hF3 := hF2.set4 em
  have g2 := hN.free 2
  have g3 := hN.free 3
  have g4 := hN.free 4
  obtain ⟨n0, n1, n2, n3, n4⟩ := hN.cell
  obtain ⟨q0, q1, q2, q3, q4⟩ := HRES3.out.cell
  have f0 := HRES3.out.free 0
  have f1 := HRES3.out.free 1
  have f2 := HRES3.out.free 2
  have f3 := HRES3.out.free 3
  have f4 := HRES3.out.free 4
  have hXl := HX3.out.lt
  have hNl := hN.lt
  have hRl := HRES3.out.lt
  have HN := Lib.hid hN
  clear hN hF1 hF2 hF3
  go_wp2
  have z1 := (((HRES3.out.other (b := w.heap.size + 1) (by omega) 2 (.slice Af nf cf)).other (b := w.heap.size + 1) (by omega) 3 (.slice Ae ne ce)).other (b := w.heap.size + 1) (by omega) 4 (.bool em))
  have z2 := ((((z1.set0 (.slice Ao no co)).set1 (.slice Ab nb cb)).set2 (.slice Af nf cf)).set3 (.slice Ae ne ce)).set4 em
  obtain ⟨s0, s1, s2, s3, s4⟩ := z2.cell
  have hfr : RFrame (fun k => k = w.heap.size + 1 ∨ k = w.heap.size) W3 ((((((((W3.setCell ⟨w.heap.size + 1, 2, none⟩ (.slice Af nf cf)).setCell ⟨w.heap.size + 1, 3, none⟩ (.slice Ae ne ce)).setCell ⟨w.heap.size + 1, 4, none⟩ (.bool em)).setCell ⟨w.heap.size, 0, none⟩ (.slice Ao no co)).setCell ⟨w.heap.size, 1, none⟩ (.slice Ab nb cb)).setCell ⟨w.heap.size, 2, none⟩ (.slice Af nf cf)).setCell ⟨w.heap.size, 3, none⟩ (.slice Ae ne ce)).setCell ⟨w.heap.size, 4, none⟩ (.bool em)) := by
   have s : ∀ {w : World} {b : Nat} {X : Nat → Prop} {W : World}, RFrame X w W → X b → ∀ (j : Nat) (u : Value), RFrame X w (W.setCell ⟨b, j, none⟩ u) := fun h hb j u => h.setCell (fun _ => hb) j u
   exact s (s (s (s (s (s (s (s (RFrame.refl _ W3) (.inl rfl) _ _) (.inl rfl) _ _) (.inl rfl) _ _) (.inr rfl) _ _) (.inr rfl) _ _) (.inr rfl) _ _) (.inr rfl) _ _) (.inr rfl) _ _
  have hni : NoInts W3 (fun k => k = w.heap.size + 1 ∨ k = w.heap.size) := by
   rintro k (rfl | rfl) cs fr h
   ·exact noints_ty (T := 41) (by decide) HN.out.ty _ rfl cs fr h
   ·exact noints_ty (T := 41) (by decide) HRES3.out.ty _ rfl cs fr h
  have hrow : ∀ {v : Value} {ls : List (List Int)}, LRows w.heap.size W3 v ls → ∀ g, v.ownBlock = some g → ¬ (g = w.heap.size + 1 ∨ g = w.heap.size) := by
   rintro v ls h g hg (rfl | rfl)
   ·exact ty_ne (S := 39) (T := 41) (by decide) (h.block _ hg).2.2 HN.out.ty rfl
   ·exact ty_ne (S := 39) (T := 41) (by decide) (h.block _ hg).2.2 HRES3.out.ty rfl
  have hbel : Below w.heap.size w W3 := HB2.out.trans (HFR3.out.below (fun k e => e.elim (fun e => by omega) (fun e => e.elim (fun e => by cases e) (fun e => by cases e))) (by simp; omega))
  refine bodyPost_ret (v := .agg #[.slice Ao no co, .slice Ab nb cb, .slice Af nf cf, .slice Ae ne ce, .bool em]) ?_ rfl ⟨hbel.trans (hfr.below (fun k e => by omega) (by omega)), .slice Ao no co, .slice Ab nb cb, .slice Af nf cf, .slice Ae ne ce, ?_, HRS3.out.on.frame hfr hni (hrow HRS3.out.on), HRS3.out.be.frame hfr hni (hrow HRS3.out.be), HPC3.out.frame hfr hni⟩
  ·simp [results, Tryz.results23, go_sem, s0, s1, s2, s3, s4]
  ·rw [HEM.out]
end Go.Proofs.YtnbchikiiipejaaGreatDoor.Nf
namespace Go.Proofs.YtnbchikiiipejaaGreatDoor.Nf
open Go.RowKit Mem
open Bg (Bag bagV Tab)
open Lx (Held)
open Ex (Pt PI PR KR pl Good rightI)
theorem mns_any (w0 : World) (g : Nat) (A : Option Addr) (n c : Nat) (l : List MI) (E : List PI) (hc : w0.cell? ⟨g, 0, none⟩ = some (.slice A n c)) (hg : g < w0.heap.size) (h : MR w0 A n l) (hn : n ≤ 1000000) (hk : ∀ p ∈ l, p.on.length ≤ 1000000) :
  Mns w0 70 #[.pointer (some ⟨g, 0, none⟩)] (mOf l) E := by
 intro p hp hkd W hW
 obtain ⟨kd, lo, hi, nm, kz⟩ := p
 dsimp only
 have hcW : W.cell? ⟨g, 0, none⟩ = some (.slice A n c) := by rw [← hc]; exact hW.cell (p := ⟨g, 0, none⟩) hg
 have hgW : g < W.heap.size := Nat.lt_of_lt_of_le hg hW.size
 have hA := Bg.At.new W Bg.nil
 have hB := (Below.refl _ W).alloc (Nat.le_refl _) (.cells #[.int .u64 0, .int .u64 0, .int .u64 0, .int .u64 0] 29)
 have HMA := hide (means_any A n c l nm (W.alloc (.cells #[.int .u64 0, .int .u64 0, .int .u64 0, .int .u64 0] 29)) ((h.below hW).below hB) hn hk)
 have HA := Lib.hid hA
 have HB := Lib.hid hB
 clear hA hB h hk hc hg hW hp hkd
 show Calls _ _ #[.string ⟨nm.toArray⟩, .pointer (some ⟨g, 0, none⟩)] _ _
 go_enter Tryz.func70, Tryz.ntmps70
 go_wp2_with (first
  | (go_at_call 71; refine (HMA.out).mono ?_; rintro en w1 ⟨A1, n1, c1, rfl, hr1, hb1⟩; have hn1 := hr1.row.1; subst hn1; have HO := hide (Bg.of_any A1 _ c1 _ w1 hr1.row.2 (Nat.le_trans (len_list _) (by decide))); have HA1 := Lib.hid (HA.out.below hb1 (by simp)); have HB1 := Lib.hid (HB.out.trans (hb1.mono (by simp))); clear hr1 hb1)
  | (go_at_call 63; refine (HO.out).mono ?_; rw [Bg.ofL_list (mOf_ok l nm)]; rintro en w2 ⟨rfl, hb2⟩; have HA2 := Lib.hid (HA1.out.below hb2 HA1.out.lt); have HB2 := Lib.hid (HB1.out.trans (hb2.mono HB1.out.size)); clear hb2; obtain ⟨x, hx⟩ : ∃ x, mOf l nm = x := ⟨_, rfl⟩; rw [hx]; have HXX := Lib.hid hx; clear hx; obtain ⟨c0, c1, c2, c3, cf⟩ := HA2.out.cell; have f0 := cf 0; have f1 := cf 1; have f2 := cf 2; have f3 := cf 3; have hlt : W.heap.size < w2.heap.size := HA2.out.lt; clear cf; unfold bagV))
 have hs := HA2.out.store x
 obtain ⟨s0, s1, s2, s3, _⟩ := hs.cell
 refine bodyPost_ret (v := bagV x) ?_ rfl ⟨by rw [HXX.out], ?_⟩
 ·simp [bagV, results, Tryz.results70, go_sem, s0, s1, s2, s3]
 ·exact ((((HB2.out).setCell (Nat.le_refl _) _).setCell (Nat.le_refl _) _).setCell (Nat.le_refl _) _).setCell (Nat.le_refl _) _
theorem mnr_any (w0 : World) (A : Option Addr) (n c : Nat) (l : List MI) (E : List PI) (h : MR w0 A n l) (hn : n ≤ 1000000) (hk : ∀ p ∈ l, p.on.length ≤ 1000000) : MnR w0 (.slice A n c) (mOf l) E :=
 fun p _ _ W hW => means_any A n c l p.name W (h.below hW) hn hk
def noneB (E : List PI) (m : List UInt8 → Bag) : Bool := E.any fun p => decide (p.kind = 1) && decide ((m p.name).list.length = 0)
theorem idle_none (E : List PI) (m : List UInt8 → Bag) : idle E m = noneB E m := by
 rw [Bool.eq_iff_iff]
 unfold idle noneB
 simp only [List.any_eq_true, Bool.and_eq_true, decide_eq_true_eq]
 constructor
 ·rintro ⟨x, hx, h0⟩
  obtain ⟨p, hp, hk, rfl⟩ := (mem_names E x).1 hx
  exact ⟨p, hp, hk, h0⟩
 ·rintro ⟨p, hp, hk, h0⟩
  exact ⟨p.name, (mem_names E _).2 ⟨p, hp, hk, rfl⟩, h0⟩
theorem none_any (A : Option Addr) (n c : Nat) (E : List PI) (m : List UInt8 → Bag) (AL : Option Addr) (nl cl : Nat) (w : World) (hE : PR w A n E) (hn : n ≤ 100000) (hM : MnR w (.slice AL nl cl) m E) :
  Calls Tryz.prog 22 #[.slice A n c, .slice AL nl cl] w fun en w' => en = .returned (.bool (noneB E m)) ∧ Below w.heap.size w w' := by
 have HE := Lib.hid hE
 have HM := Lib.hid hM
 have HL := Lib.hid hE.1
 clear hE hM
 go_enter Tryz.func22, Tryz.ntmps22
 go_wp2
 go_loopw [5] (fun iv wr => ∃ i : Nat, iv = .int .i64 i ∧ i ≤ n ∧ Hid (Below w.heap.size w wr) ∧ Hid (∀ j (hj : j < E.length), j < i → ¬ (E[j].kind = 1 ∧ (m E[j].name).list.length = 0))) (fun iv _ => n - (intOf iv).toNat)
 case atStart => exact ⟨0, rfl, by omega, Lib.hid (Below.refl _ _), Lib.hid (fun j hj h => by omega)⟩
 case round =>
  obtain ⟨i, rfl, hi, hB, hN⟩ := hrel
  by_cases hlt : i < n
  ·have hil : i < E.length := by have := HL.out; omega
   obtain ⟨b, off, rfl, hb, hc⟩ := (HE.out.below hB.out).2 (by omega)
   obtain ⟨a0, a1, a2, a3, kv, a4, ra⟩ := hc i hil
   have l1 : decide ((i : Int) < (n : Int)) = true := by simp; omega
   have HMI : Hid (E[i].kind = 1 → ∀ W, Below w.heap.size w W → Calls Tryz.prog 71 #[.slice AL nl cl, .string ⟨E[i].name.toArray⟩] W fun e W' => ∃ A n c, e = .returned (.slice A n c) ∧ LRow W' (.slice A n c) (m E[i].name).list ∧ Below W.heap.size W W') := fun hk => HM.out _ (List.getElem_mem hil) hk
   have HYE : Hid (E[i].kind = 1 ∧ (m E[i].name).list.length = 0 → noneB E m = true) := fun e => by
    unfold noneB
    rw [List.any_eq_true]
    exact ⟨_, List.getElem_mem hil, by simp [e.1, e.2]⟩
   have HNX : Hid (¬ (E[i].kind = 1 ∧ (m E[i].name).list.length = 0) → ∀ j (hj : j < E.length), j < i + 1 → ¬ (E[j].kind = 1 ∧ (m E[j].name).list.length = 0)) := fun e j hj h => by
    rcases Nat.lt_or_ge j i with g | g
    ·exact hN.out j hj g
    ·have : j = i := by omega
     subst this; exact e
   generalize E[i] = p at a0 a3 HMI HYE HNX
   obtain ⟨kd, lo, hi', nm, kz⟩ := p
   dsimp only at a0 a3 HMI HYE HNX
   clear hc hN hil a1 a2 a4 ra
   by_cases hk : kd = 1
   ·subst hk
    have HC := hide (HMI.out rfl _ hB.out)
    obtain ⟨z, hz⟩ : ∃ z, (m nm).list.length = z := ⟨_, rfl⟩
    rw [hz] at HYE HNX
    have hz2 : z ≤ 256 := by rw [← hz]; exact len_list _
    have HZ := Lib.hid hz
    clear hz
    by_cases h0 : z = 0
    ·have t2 : ((z : Int) == 0) = true := by simp [h0]
     have HT := Lib.hid (HYE.out ⟨rfl, h0⟩)
     clear h0 HYE HNX HMI
     go_wp2_with (go_at_call 71; refine (HC.out).mono ?_; rintro en w2 ⟨A2, n2, c2, rfl, hr2, hb2⟩; have hn2 := hr2.row.1; rw [HZ.out] at hn2; subst hn2; have HB2 := Lib.hid (hB.out.trans (hb2.mono hB.out.size)); clear hr2 hb2)
     go_ret
     exact ⟨by rw [HT.out]; rfl, HB2.out⟩
    ·have t2 : ((z : Int) == 0) = false := by simp; omega
     have HN2 := Lib.hid (HNX.out (fun e => h0 e.2))
     clear h0 HYE HNX HMI
     go_wp2_with (go_at_call 71; refine (HC.out).mono ?_; rintro en w2 ⟨A2, n2, c2, rfl, hr2, hb2⟩; have hn2 := hr2.row.1; rw [HZ.out] at hn2; subst hn2; have HB2 := Lib.hid (hB.out.trans (hb2.mono hB.out.size)); clear hr2 hb2)
     go_roundw
     case rel => exact ⟨i + 1, by go_num, by omega, HB2, HN2⟩
     case measure => simp [intOf]; omega
   ·have t1 : (kd == 1) = false := by simpa using hk
    have HN2 := Lib.hid (HNX.out (fun e => hk e.1))
    clear hk HYE HNX HMI
    go_wp2
    go_roundw
    case rel => exact ⟨i + 1, by go_num, by omega, hB, HN2⟩
    case measure => simp [intOf]; omega
  ·have hin : n = i := by omega
   subst hin
   have l1 : decide ((n : Int) < (n : Int)) = false := by simp
   have HF : Hid (noneB E m = false) := by
    show _ = _
    unfold noneB
    rw [← Bool.not_eq_true, List.any_eq_true]
    rintro ⟨p, hp, hx⟩
    obtain ⟨j, hj, rfl⟩ := List.getElem_of_mem hp
    simp only [Bool.and_eq_true, decide_eq_true_eq] at hx
    exact hN.out j hj (by have := HL.out; omega) hx
   clear hN
   go_wp2
   go_ret
   exact ⟨by rw [HF.out]; rfl, hB.out⟩
end Go.Proofs.YtnbchikiiipejaaGreatDoor.Nf
namespace Go.Proofs.YtnbchikiiipejaaGreatDoor.Nf
open Go.RowKit Mem
open Bg (Bag bagV Tab)
open Lx (Held)
open Ex (Pt PI PR KR pl Good rightI)
theorem few_cap {E : List PI} (hX : Expr E) (h0 : 0 < E.length) : (fewE E = true ∧ cap257 (pl1 (E.map PI.toP) (E.length - 1)) ≤ 256) ∨ (fewE E = false ∧ 256 < cap257 (pl1 (E.map PI.toP) (E.length - 1))) := by
 have hm := hX.most
 by_cases h : pl1 (E.map PI.toP) (E.length - 1) ≤ 256
 ·left
  refine ⟨?_, by unfold cap257; split <;> omega⟩
  unfold fewE
  rw [decide_eq_true_iff]
  intro i hi
  have := hm i hi; omega
 ·right
  refine ⟨?_, by unfold cap257; split <;> omega⟩
  unfold fewE
  rw [decide_eq_false_iff_not]
  intro g
  exact h (g _ (by omega))
def NetR (s : ByteArray) (l : List MI) (w : World) (en : Ending) (w' : World) : Prop :=
 Below w.heap.size w w' ∧
 ((∃ f, en = .returned (.tuple #[.pointer none, .slice none 0 0, .int .i64 f, .bool false])) ∨
  ∃ (e : List Pt) (A : Option Addr) (c : Nat), fewM l = true ∧ s.size ≤ 500 ∧ Ex.Good e ∧ rightI (e.map Pt.toI) = true ∧ e.length ≤ 1000 ∧ fewE (e.map Pt.toI) = true ∧ PR w' A e.length (e.map Pt.toI) ∧
   ((noneB (e.map Pt.toI) (mOf l) = true ∧ en = .returned (.tuple #[.pointer none, .slice A e.length c, .int .i64 6, .bool true])) ∨
    (noneB (e.map Pt.toI) (mOf l) = false ∧ ∃ N b, en = .returned (.tuple #[.pointer (some ⟨N, 0, none⟩), .slice A e.length c, .int .i64 0, .bool true]) ∧ w.heap.size ≤ b ∧ b ≤ N ∧ NS b N w' (wholeN (e.map Pt.toI) (mOf l)).2 (wholeN (e.map Pt.toI) (mOf l)).1)))
theorem few_nil : fewE [] = true := by decide +kernel
theorem net_any (s : ByteArray) (A : Option Addr) (n c : Nat) (l : List MI) (w : World) (hs : s.size ≤ maxLen) (h : MR w A n l) (hn : n ≤ maxLen) (hk : ∀ p ∈ l, p.name.length ≤ maxLen ∧ p.on.length ≤ maxLen) (H : Held w) (hT : Tab w) :
  Calls Tryz.prog 20 #[.string s, .slice A n c] w (NetR s l w) := by
 unfold maxLen at hs
 have hbA := (Below.refl _ w).alloc (Nat.le_refl _) (.cells #[.slice A n c] 22)
 have HBA := Lib.hid hbA
 have hbx : (w.alloc (.cells #[.slice A n c] 22)).cell? ⟨w.heap.size, 0, none⟩ = some (.slice A n c) := by
  unfold World.cell?; rw [heap_alloc_new]; rfl
 have HM := Lib.hid (h.below hbA)
 have HHD := Lib.hid (H.below hbA)
 have hTlt : 0 < w.heap.size := hT.2
 have HTB := Lib.hid (hT.below hbA hTlt)
 have HK := Lib.hid hk
 have HLL := Lib.hid h.1
 have hwx : w.heap.size < (w.alloc (.cells #[.slice A n c] 22)).heap.size := by simp
 have HWS : Hid (w.heap.size ≤ (w.alloc (.cells #[.slice A n c] 22)).heap.size) := by show _ ≤ _; simp
 have hfalse : ∀ f w1, Below (w.alloc (.cells #[.slice A n c] 22)).heap.size (w.alloc (.cells #[.slice A n c] 22)) w1 → NetR s l w (.returned (.tuple #[.pointer none, .slice none 0 0, .int .i64 f, .bool false])) w1 := fun f w1 hb => ⟨hbA.trans (hb.mono HWS.out), .inl ⟨f, rfl⟩⟩
 have HFL := hide hfalse
 clear hbA h H hk hfalse
 by_cases h500 : 500 < s.size
 ·have HP := hide (Ex.rparse_ends s (w.alloc (.cells #[.slice A n c] 22)) hs)
  have t5 : decide ((500 : Int) < (s.size : Int)) = true := by simp; omega
  go_enter Tryz.func20, Tryz.ntmps20
  go_upto_region 2 with (go_at_call 65; refine (HP.out).mono ?_; rintro en w1 ⟨hb1, A1, n1, c1, i1, f1, rfl⟩; have HB1 := Lib.hid hb1; clear hb1)
  by_cases hf : f1 = 0
  ·subst hf
   go_wp2_with fail
   exact bodyPost_ret (v := .tuple #[.pointer none, .slice none 0 0, .int .i64 0, .bool false]) (by simp [results, Tryz.results20, go_sem]) rfl (HFL.out _ _ HB1.out)
  ·have t0 : (f1 != 0) = true := by simpa using hf
   clear hf
   go_wp2_with fail
   exact bodyPost_ret (v := .tuple #[.pointer none, .slice none 0 0, .int .i64 f1, .bool false]) (by simp [results, Tryz.results20, go_sem]) rfl (HFL.out _ _ HB1.out)
 ·have t5 : decide ((500 : Int) < (s.size : Int)) = false := by simp; omega
  have hs5 : s.size ≤ 500 := by omega
  rcases Ex.parse_two s (by omega) with ⟨i1, f1, hf, hp⟩ | ⟨e, hgood, hright, hlen, hpr, hpp⟩
  ·have HP := hide (hp (w.alloc (.cells #[.slice A n c] 22)))
   have t0 : (f1 != 0) = true := by simpa using hf
   clear hp hf
   go_enter Tryz.func20, Tryz.ntmps20
   go_upto_region 2 with (go_at_call 65; refine (HP.out).mono ?_; rintro en w1 ⟨rfl, hb1⟩; have HB1 := Lib.hid hb1; clear hb1)
   go_wp2_with fail
   exact bodyPost_ret (v := .tuple #[.pointer none, .slice none 0 0, .int .i64 f1, .bool false]) (by simp [results, Tryz.results20, go_sem]) rfl (HFL.out _ _ HB1.out)
  ·have HP := hide (hpr (w.alloc (.cells #[.slice A n c] 22)))
   have HPP := hide hpp
   have hsm : ∀ p ∈ e.map Pt.toI, Ex.Small p ∧ p.kids.length ≤ 10000 := fun p hp => ⟨(hgood.small p hp).1, Nat.le_trans (hgood.small p hp).2 (by omega)⟩
   have HSM := Lib.hid hsm
   have HGD := Lib.hid hgood
   have HRT := Lib.hid hright
   have hX : Expr (e.map Pt.toI) := right_expr hright
   have HX := Lib.hid hX
   obtain ⟨ne, hne⟩ : ∃ ne, e.length = ne := ⟨_, rfl⟩
   have HNE := Lib.hid hne
   rw [hne] at hlen HP HPP
   clear hpr hpp hsm hgood hright hX hne
   have hbx1 := hbx
   go_enter Tryz.func20, Tryz.ntmps20
   go_upto_region 2 with (go_at_call 65; refine (HP.out).mono ?_; rintro en w1 ⟨A1, c1, rfl, hpr1, hb1⟩; have HB1 := Lib.hid hb1; have HPR1 := Lib.hid hpr1; rw [← hb1.cell (p := ⟨w.heap.size, 0, none⟩) hwx] at hbx1; have hwx1 : w.heap.size < w1.heap.size := Nat.lt_of_lt_of_le hwx hb1.size; clear hb1 hpr1)
   by_cases hfm : fewM l = true
   ·have hl20 : l.length ≤ 20 ∧ ∀ p ∈ l, p.on.length ≤ 50 := by
     unfold fewM at hfm
     simp only [Bool.and_eq_true, decide_eq_true_eq, List.all_eq_true] at hfm
     exact ⟨hfm.1, fun p hp => (hfm.2 p hp).1⟩
    have HFW := hide (fewm_any A n c l w1 (HM.out.below HB1.out) hn HK.out)
    rw [hfm] at HFW
    have HFM := Lib.hid hfm
    have HL20 := Lib.hid hl20
    have hn20 : n ≤ 20 := by rw [← HLL.out]; exact hl20.1
    clear hfm hl20
    by_cases h0 : ne = 0
    ·subst h0
     have HFE : Hid (fewE (e.map Pt.toI) = true) := by
      show _ = _
      rw [show e = [] from List.eq_nil_of_length_eq_zero HNE.out]; exact few_nil
     go_upto_region 4 with (go_at_call 66; (with_reducible refine (HFW.out).mono ?_); rintro en w2 ⟨rfl, hb2⟩; have HB2 := Lib.hid (HB1.out.trans (hb2.mono HB1.out.size)); have HPR2 := Lib.hid (HPR1.out.below hb2); clear hb2)
     have HPC := hide (HPP.out w2 (HHD.out.below HB2.out))
     have hbx2 : w2.cell? ⟨w.heap.size, 0, none⟩ = some (.slice A n c) := by rw [← hbx]; exact HB2.out.cell (p := ⟨w.heap.size, 0, none⟩) hwx
     go_upto_region 5 with (go_at_call 68; refine (HPC.out).mono ?_; rintro en w4 ⟨A4, c4, rfl, hpr4, hb4⟩; have HB4 : Hid (Below (w.alloc (.cells #[.slice A n c] 22)).heap.size (w.alloc (.cells #[.slice A n c] 22)) w4) := HB2.out.trans (hb4.mono HB2.out.size); have HPR4 := Lib.hid hpr4; have HPR5 := Lib.hid (HPR2.out.below hb4); rw [← hb4.cell (p := ⟨w.heap.size, 0, none⟩) (World.block_lt_of_cell? w2 _ hbx2)] at hbx2; clear hb4 hpr4)
     have hw4 : w.heap.size < w4.heap.size := World.block_lt_of_cell? w4 _ hbx2
     have HNW := hide (new_any A4 0 c4 (e.map Pt.toI) (mOf l) 70 #[.pointer (some ⟨w.heap.size, 0, none⟩)] w4 HPR4.out (HHD.out.below HB4.out) (HTB.out.below HB4.out (Nat.lt_trans hTlt hwx)) (by omega) HSM.out
      (mns_any w4 w.heap.size A n c l (e.map Pt.toI) hbx2 hw4 (HM.out.below HB4.out) (by omega) (fun p hp => Nat.le_trans (HL20.out.2 p hp) (by decide))) (fun p _ _ => mOf_ok l p.name) (fun args w => by first | kernel_rfl | rfl))
     by_cases hid : noneB (e.map Pt.toI) (mOf l) = true
     ·have HI := Lib.hid hid
      have HNW2 : Hid (Calls Tryz.prog 69 #[.slice A4 0 c4, .func (.func 70) #[] #[.pointer (some ⟨w.heap.size, 0, none⟩)]] w4 fun en w' => en = .returned (.tuple #[.pointer none, .int .i64 6]) ∧ Below w4.heap.size w4 w') := HNW.out.mono fun en w' ⟨hb, h⟩ => by
       rw [if_neg (by rw [HRT.out]; simp), if_pos (by rw [idle_none]; exact HI.out)] at h
       exact ⟨h, hb⟩
      clear hid HNW
      go_wp2_with (go_at_call 69; refine (HNW2.out).mono ?_; rintro en w5 ⟨rfl, hb5⟩; have HB5 : Hid (Below (w.alloc (.cells #[.slice A n c] 22)).heap.size (w.alloc (.cells #[.slice A n c] 22)) w5) := HB4.out.trans (hb5.mono HB4.out.size); have HPR6 := Lib.hid (HPR5.out.below hb5); clear hb5)
      refine bodyPost_ret (v := .tuple #[.pointer none, .slice A1 0 c1, .int .i64 6, .bool true]) (by simp [results, Tryz.results20, go_sem]) rfl ⟨HBA.out.trans (HB5.out.mono HWS.out), .inr ⟨e, A1, c1, HFM.out, hs5, HGD.out, HRT.out, by rw [HNE.out]; omega, HFE.out, by rw [HNE.out]; exact HPR6.out, .inl ⟨HI.out, by rw [HNE.out]⟩⟩⟩
     ·have hid2 : noneB (e.map Pt.toI) (mOf l) = false := by simpa using hid
      have HI := Lib.hid hid2
      have HNW2 : Hid (Calls Tryz.prog 69 #[.slice A4 0 c4, .func (.func 70) #[] #[.pointer (some ⟨w.heap.size, 0, none⟩)]] w4 fun en w' => ∃ N, w4.heap.size ≤ N ∧ en = .returned (.tuple #[.pointer (some ⟨N, 0, none⟩), .int .i64 0]) ∧ NS w4.heap.size N w' (wholeN (e.map Pt.toI) (mOf l)).2 (wholeN (e.map Pt.toI) (mOf l)).1 ∧ Below w4.heap.size w4 w') := HNW.out.mono fun en w' ⟨hb, h⟩ => by
       rw [if_neg (by rw [HRT.out]; simp), if_neg (by rw [idle_none, HI.out]; simp), if_neg (by rw [HFE.out]; simp)] at h
       obtain ⟨N, h1, h2, h3⟩ := h
       exact ⟨N, h1, h2, h3, hb⟩
      clear hid hid2 HNW
      go_wp2_with (go_at_call 69; refine (HNW2.out).mono ?_; rintro en w5 ⟨N, hN, rfl, hns, hb5⟩; have HB5 : Hid (Below (w.alloc (.cells #[.slice A n c] 22)).heap.size (w.alloc (.cells #[.slice A n c] 22)) w5) := HB4.out.trans (hb5.mono HB4.out.size); have HPR6 := Lib.hid (HPR5.out.below hb5); have HNS := Lib.hid hns; clear hb5 hns)
      refine bodyPost_ret (v := .tuple #[.pointer (some ⟨N, 0, none⟩), .slice A1 0 c1, .int .i64 0, .bool true]) (by simp [results, Tryz.results20, go_sem]) rfl ⟨HBA.out.trans (HB5.out.mono HWS.out), .inr ⟨e, A1, c1, HFM.out, hs5, HGD.out, HRT.out, by rw [HNE.out]; omega, HFE.out, by rw [HNE.out]; exact HPR6.out, .inr ⟨HI.out, N, w4.heap.size, by rw [HNE.out], by omega, hN, HNS.out⟩⟩⟩
    ·have h0p : 0 < ne := by omega
     have HMC := Lib.hid (few_cap HX.out (by rw [List.length_map, HNE.out]; omega))
     have h1 : decide ((0 : Int) < (ne : Int)) = true := by simp; omega
     have hn1 : ((ne : Int) - 1) = ((ne - 1 : Nat) : Int) := by omega
     have hMany : Hid (∀ W, Below w1.heap.size w1 W → Calls Tryz.prog 67 #[.slice A1 ne c1, .int .i64 ((ne - 1 : Nat) : Int)] W fun en w' => en = .returned (.int .i64 (cap257 (pl1 ((e.map Pt.toI).map PI.toP) ((e.map Pt.toI).length - 1)) : Nat)) ∧ Below W.heap.size W w') := fun W hW => by
      have hl : (e.map Pt.toI).length - 1 = ne - 1 := by rw [List.length_map, HNE.out]
      rw [hl]
      exact many_any w1 A1 ne c1 (e.map Pt.toI) HPR1.out HX.out (fun p hp => (HSM.out p hp).2) (by omega) ne (ne - 1) W (by omega) (by omega) hW
     obtain ⟨M, hM⟩ : ∃ M, cap257 (pl1 ((e.map Pt.toI).map PI.toP) ((e.map Pt.toI).length - 1)) = M := ⟨_, rfl⟩
     rw [hM] at hMany HMC
     clear hM
     by_cases h60 : 60 < M
     ·have t6 : decide ((60 : Int) < (M : Int)) = true := by simp; omega
      go_wp2_with (first
       | (go_at_call 66; (with_reducible refine (HFW.out).mono ?_); rintro en w2 ⟨rfl, hb2⟩; have HB12 := Lib.hid hb2; have HB2 := Lib.hid (HB1.out.trans (hb2.mono HB1.out.size)); clear hb2)
       | (go_at_call 67; refine (hMany.out _ HB12.out).mono ?_; rintro en w3 ⟨rfl, hb3⟩; have HB3 := Lib.hid (HB2.out.trans (hb3.mono HB2.out.size)); clear hb3))
      exact bodyPost_ret (v := .tuple #[.pointer none, .slice none 0 0, .int .i64 0, .bool false]) (by simp [results, Tryz.results20, go_sem]) rfl (HFL.out _ _ HB3.out)
     ·have t6 : decide ((60 : Int) < (M : Int)) = false := by simp; omega
      have HFE : Hid (fewE (e.map Pt.toI) = true) := by
       rcases HMC.out with g | g
       ·exact g.1
       ·have := g.2; omega
      go_upto_region 4 with (first
       | (go_at_call 66; (with_reducible refine (HFW.out).mono ?_); rintro en w2 ⟨rfl, hb2⟩; have HB12 := Lib.hid hb2; clear hb2)
       | (go_at_call 67; refine (hMany.out _ HB12.out).mono ?_; rintro en w3 ⟨rfl, hb3⟩; have HB13 : Hid (Below w1.heap.size w1 w3) := HB12.out.trans (hb3.mono HB12.out.size); have HB2 : Hid (Below (w.alloc (.cells #[.slice A n c] 22)).heap.size (w.alloc (.cells #[.slice A n c] 22)) w3) := HB1.out.trans (HB13.out.mono HB1.out.size); have HPR2 := Lib.hid (HPR1.out.below HB13.out); clear hb3))
      have HPC := hide (HPP.out w3 (HHD.out.below HB2.out))
      have hbx2 : w3.cell? ⟨w.heap.size, 0, none⟩ = some (.slice A n c) := by rw [← hbx]; exact HB2.out.cell (p := ⟨w.heap.size, 0, none⟩) hwx
      go_upto_region 5 with (go_at_call 68; refine (HPC.out).mono ?_; rintro en w4 ⟨A4, c4, rfl, hpr4, hb4⟩; have HB4 : Hid (Below (w.alloc (.cells #[.slice A n c] 22)).heap.size (w.alloc (.cells #[.slice A n c] 22)) w4) := HB2.out.trans (hb4.mono HB2.out.size); have HPR4 := Lib.hid hpr4; have HPR5 := Lib.hid (HPR2.out.below hb4); rw [← hb4.cell (p := ⟨w.heap.size, 0, none⟩) (World.block_lt_of_cell? w3 _ hbx2)] at hbx2; clear hb4 hpr4)
      have hw4 : w.heap.size < w4.heap.size := World.block_lt_of_cell? w4 _ hbx2
      have HNW := hide (new_any A4 ne c4 (e.map Pt.toI) (mOf l) 70 #[.pointer (some ⟨w.heap.size, 0, none⟩)] w4 HPR4.out (HHD.out.below HB4.out) (HTB.out.below HB4.out (Nat.lt_trans hTlt hwx)) (by omega) HSM.out
       (mns_any w4 w.heap.size A n c l (e.map Pt.toI) hbx2 hw4 (HM.out.below HB4.out) (by omega) (fun p hp => Nat.le_trans (HL20.out.2 p hp) (by decide))) (fun p _ _ => mOf_ok l p.name) (fun args w => by first | kernel_rfl | rfl))
      by_cases hid : noneB (e.map Pt.toI) (mOf l) = true
      ·have HI := Lib.hid hid
       have HNW2 : Hid (Calls Tryz.prog 69 #[.slice A4 ne c4, .func (.func 70) #[] #[.pointer (some ⟨w.heap.size, 0, none⟩)]] w4 fun en w' => en = .returned (.tuple #[.pointer none, .int .i64 6]) ∧ Below w4.heap.size w4 w') := HNW.out.mono fun en w' ⟨hb, h⟩ => by
        rw [if_neg (by rw [HRT.out]; simp), if_pos (by rw [idle_none]; exact HI.out)] at h
        exact ⟨h, hb⟩
       clear hid HNW
       go_wp2_with (go_at_call 69; refine (HNW2.out).mono ?_; rintro en w5 ⟨rfl, hb5⟩; have HB5 : Hid (Below (w.alloc (.cells #[.slice A n c] 22)).heap.size (w.alloc (.cells #[.slice A n c] 22)) w5) := HB4.out.trans (hb5.mono HB4.out.size); have HPR6 := Lib.hid (HPR5.out.below hb5); clear hb5)
       refine bodyPost_ret (v := .tuple #[.pointer none, .slice A1 ne c1, .int .i64 6, .bool true]) (by simp [results, Tryz.results20, go_sem]) rfl ⟨HBA.out.trans (HB5.out.mono HWS.out), .inr ⟨e, A1, c1, HFM.out, hs5, HGD.out, HRT.out, by rw [HNE.out]; omega, HFE.out, by rw [HNE.out]; exact HPR6.out, .inl ⟨HI.out, by rw [HNE.out]⟩⟩⟩
      ·have hid2 : noneB (e.map Pt.toI) (mOf l) = false := by simpa using hid
       have HI := Lib.hid hid2
       have HNW2 : Hid (Calls Tryz.prog 69 #[.slice A4 ne c4, .func (.func 70) #[] #[.pointer (some ⟨w.heap.size, 0, none⟩)]] w4 fun en w' => ∃ N, w4.heap.size ≤ N ∧ en = .returned (.tuple #[.pointer (some ⟨N, 0, none⟩), .int .i64 0]) ∧ NS w4.heap.size N w' (wholeN (e.map Pt.toI) (mOf l)).2 (wholeN (e.map Pt.toI) (mOf l)).1 ∧ Below w4.heap.size w4 w') := HNW.out.mono fun en w' ⟨hb, h⟩ => by
        rw [if_neg (by rw [HRT.out]; simp), if_neg (by rw [idle_none, HI.out]; simp), if_neg (by rw [HFE.out]; simp)] at h
        obtain ⟨N, h1, h2, h3⟩ := h
        exact ⟨N, h1, h2, h3, hb⟩
       clear hid hid2 HNW
       go_wp2_with (go_at_call 69; refine (HNW2.out).mono ?_; rintro en w5 ⟨N, hN, rfl, hns, hb5⟩; have HB5 : Hid (Below (w.alloc (.cells #[.slice A n c] 22)).heap.size (w.alloc (.cells #[.slice A n c] 22)) w5) := HB4.out.trans (hb5.mono HB4.out.size); have HPR6 := Lib.hid (HPR5.out.below hb5); have HNS := Lib.hid hns; clear hb5 hns)
       refine bodyPost_ret (v := .tuple #[.pointer (some ⟨N, 0, none⟩), .slice A1 ne c1, .int .i64 0, .bool true]) (by simp [results, Tryz.results20, go_sem]) rfl ⟨HBA.out.trans (HB5.out.mono HWS.out), .inr ⟨e, A1, c1, HFM.out, hs5, HGD.out, HRT.out, by rw [HNE.out]; omega, HFE.out, by rw [HNE.out]; exact HPR6.out, .inr ⟨HI.out, N, w4.heap.size, by rw [HNE.out], by omega, hN, HNS.out⟩⟩⟩
   ·have hfm2 : fewM l = false := by simpa using hfm
    have HFW := hide (fewm_any A n c l w1 (HM.out.below HB1.out) hn HK.out)
    rw [hfm2] at HFW
    clear hfm hfm2
    go_wp2_with (go_at_call 66; (with_reducible refine (HFW.out).mono ?_); rintro en w2 ⟨rfl, hb2⟩; have HB2 := Lib.hid (HB1.out.trans (hb2.mono HB1.out.size)); clear hb2)
    exact bodyPost_ret (v := .tuple #[.pointer none, .slice none 0 0, .int .i64 0, .bool false]) (by simp [results, Tryz.results20, go_sem]) rfl (HFL.out _ _ HB2.out)
end Go.Proofs.YtnbchikiiipejaaGreatDoor.Nf
