/- Walks of the reference of expressions: build. -/
import Derived.Test.YtnbchikiiipejaaGreatDoorExMany
import Derived.Test.YtnbchikiiipejaaGreatDoorExParse
import Derived.Deep.RegionLaw
import Derived.Deep.CutRange
set_option linter.unusedVariables false
set_option maxRecDepth 100000
set_option maxHeartbeats 8000000
namespace Go.Proofs.YtnbchikiiipejaaGreatDoor.Ex
open Go.RowKit Mem Lx
theorem grown_after {a b c : World} {row : Option Nat} (h : a.grownBy b none) (g : b.grownBy c row) : a.grownBy c row :=
 ⟨g.os.trans h.os, g.tape.trans h.tape, g.output.trans h.output, Nat.le_trans h.size g.size, fun i hi hne => (g.block i (Nat.lt_of_lt_of_le hi h.size) hne).trans (h.block i hi (by simp))⟩
structure QS (w : World) (B : Nat) (F : Nat → Prop) (v : Value) (e : List Pt) : Prop where
 row : ∃ vs, w.ownsRow B 124 5 v e.length vs ∧ PVs w B e vs ∧ Av F vs
 bw : B ≤ w.heap.size
 fw : ∀ g, F g → g < w.heap.size
def BuildP (B : Nat) (F : Nat → Prop) (w : World) (v : Value) (e' : List Pt) (en : Ending) (w' : World) : Prop :=
 ∃ v', en = .returned v' ∧ QS w' B F v' e' ∧ w.grownBy w' v.ownBlock ∧ ∀ g, v'.ownBlock = some g → v.ownBlock = some g ∨ w.heap.size ≤ g
theorem QS.below {w w' : World} {B : Nat} {F : Nat → Prop} {v : Value} {e : List Pt} (h : QS w B F v e) (hb : Below w.heap.size w w') : QS w' B F v e := by
 obtain ⟨⟨vs, g2, g3, g4⟩, d3, d4⟩ := h
 exact ⟨⟨vs, g2.kept (below_grown' hb) (Classical.em _), PVs.kept (below_grown' hb) (by intro g hg; cases hg) g3, g4⟩, Nat.le_trans d3 hb.size, fun g hg => Nat.lt_of_lt_of_le (d4 g hg) hb.size⟩
theorem QS.form {w : World} {B : Nat} {F : Nat → Prop} {v : Value} {e : List Pt} (h : QS w B F v e) : ∃ A c, v = .slice A e.length c := by
 obtain ⟨vs, h, _⟩ := h.row
 exact own_form5 h
theorem QS.own {w : World} {B : Nat} {F : Nat → Prop} {v : Value} {e : List Pt} (h : QS w B F v e) : ∀ g, v.ownBlock = some g → B ≤ g ∧ g < w.heap.size ∧ ∃ cs fr, w.heap[g]? = some (.cells cs 124 fr) := by
 obtain ⟨vs, h, _⟩ := h.row
 exact fun g hg => ⟨(h.lt g hg).1, (h.lt g hg).2, (ownsRow_row h g hg).2⟩
theorem QS.more {w w' : World} {B : Nat} {F : Nat → Prop} {v v' : Value} {e : List Pt} {vs : List Value} (h : QS w B F v e) (hr : w.ownsRow B 124 5 v e.length vs) (hp : PVs w B e vs) (hav : Av F vs) (p : Pt) (kv : Value) (hk : Kd w B kv p.kids) (hkf : ∀ g, kv.ownBlock = some g → ¬ F g)
  (hg : w.grownBy w' v.ownBlock) (ho : w'.ownsRow B 124 5 v' (e.length + 1) (vs ++ pcells p kv)) : QS w' B F v' (e ++ [p]) := by
 have hown := ownsRow_row hr
 refine ⟨⟨vs ++ pcells p kv, by rw [List.length_append]; exact ho, PVs.more (hk.kept hg ?_) (PVs.kept hg ?_ hp), ?_⟩, Nat.le_trans h.bw hg.size, fun g hf => Nat.lt_of_lt_of_le (h.fw g hf) hg.size⟩
 ·intro g hg3 cur fr hk2
  obtain ⟨_, cs, fr2, h5⟩ := hown g hg3
  rw [h5] at hk2
  simp at hk2
 ·intro g hg3 cur fr hk2
  obtain ⟨_, cs, fr2, h5⟩ := hown g hg3
  rw [h5] at hk2
  simp at hk2
 ·intro u hu g hg3
  rcases List.mem_append.1 hu with hu | hu
  ·exact hav u hu g hg3
  ·simp only [pcells, List.mem_cons, List.not_mem_nil, or_false] at hu
   rcases hu with rfl | rfl | rfl | rfl | rfl
   ·simp [Value.ownBlock] at hg3
   ·simp [Value.ownBlock] at hg3
   ·simp [Value.ownBlock] at hg3
   ·simp [Value.ownBlock] at hg3
   ·exact hkf g hg3
theorem cells_one (W : World) (cs : Array Value) (l : List Value) (h : cs = l.toArray) {t : TypeId} : ∀ (j : Nat) (u : Value), l[j]? = some u → (W.alloc (.cells cs t)).cell? ⟨W.heap.size, j, none⟩ = some u := by
 intro j u hu
 have := World.alloc_heap_new W (.cells cs t)
 subst h
 unfold World.cell?
 simp only [this]
 simpa using hu
theorem BuildP.more {w W w' : World} {B : Nat} {F : Nat → Prop} {v v' : Value} {e : List Pt} {vs : List Value} (hW : Below w.heap.size w W) (h : QS W B F v e) (hr : W.ownsRow B 124 5 v e.length vs) (hp : PVs W B e vs) (hav : Av F vs) (p : Pt) (kv : Value) (hk : Kd W B kv p.kids) (hkf : ∀ g, kv.ownBlock = some g → ¬ F g)
  (hg : W.grownBy w' v.ownBlock) (ho : w'.ownsRow B 124 5 v' (e.length + 1) (vs ++ pcells p kv)) (hat : v'.ownBlock = v.ownBlock ∨ v'.ownBlock = some W.heap.size) : BuildP B F w v (e ++ [p]) (.returned v') w' := by
 refine ⟨v', rfl, h.more hr hp hav p kv hk hkf hg ho, grown_after (below_grown' hW) hg, fun g hg2 => ?_⟩
 rcases hat with hat | hat
 ·exact .inl (by rw [← hat]; exact hg2)
 ·rw [hat] at hg2
  injection hg2 with hg2
  have := hW.size
  exact .inr (by omega)
theorem BuildP.after {w W w' : World} {B : Nat} {F : Nat → Prop} {v : Value} {e : List Pt} {en : Ending} (hW : Below w.heap.size w W) (h : BuildP B F W v e en w') : BuildP B F w v e en w' := by
 obtain ⟨v', h1, h2, h3, h4⟩ := h
 refine ⟨v', h1, h2, grown_after (below_grown' hW) h3, fun g hg => ?_⟩
 rcases h4 g hg with h5 | h5
 ·exact .inl h5
 ·exact .inr (Nat.le_trans hW.size h5)
theorem BuildP.chain {w W w' : World} {B : Nat} {F : Nat → Prop} {v v2 : Value} {e : List Pt} {en : Ending} (hg : w.grownBy W v.ownBlock) (hf : ∀ g, v2.ownBlock = some g → v.ownBlock = some g ∨ w.heap.size ≤ g) (h : BuildP B F W v2 e en w') : BuildP B F w v e en w' := by
 obtain ⟨v', h1, h2, h3, h4⟩ := h
 refine ⟨v', h1, h2, ⟨h3.os.trans hg.os, h3.tape.trans hg.tape, h3.output.trans hg.output, Nat.le_trans hg.size h3.size, fun i hi hne => ?_⟩, fun g hg2 => ?_⟩
 ·refine (h3.block i (Nat.lt_of_lt_of_le hi hg.size) (fun e => ?_)).trans (hg.block i hi hne)
  rcases hf i e.symm with h5 | h5
  ·exact hne h5.symm
  ·omega
 ·rcases h4 g hg2 with h5 | h5
  ·exact hf g h5
  ·exact .inr (Nat.le_trans hg.size h5)
theorem nth_drop {l s r : List Sg} {p : Nat} (h : l.drop p = s ++ r) (j : Nat) (x : Sg) (hx : (s ++ r)[j]? = some x) : l[p + j]? = some x := by
 rw [← h, List.getElem?_drop] at hx
 exact hx
section
variable {P : Program}
theorem step_app_pt {w : World} {ops : Array Oper} {o : Oper} {a : Act} {K : Act → World → Prop} {Q : Exit → Act → World → Prop} {E : Prop} (hgd : o.guard = none) (s x : Operand) (t : TypeId)
  (ho : o.op = .call { callee := .builtin .append, args := #[s, x], argTypes := #[t, t] })
  (base : Nat) (e : TypeId) (i : TypeInfo) (z : Value) (ht : P.underlying t = some (.slice e)) (hi : P.info? e = some i) (hz : i.zero = some z) (hz1 : z.cells.size = 5)
  (hsize : i.size = 5) (hby : i.bytes = 64) (v : Value) (n : Nat) (vs : List Value) (hs : a.eval s = v) (hown : w.ownsRow base e 5 v n vs)
  (g c : Nat) (y : Pt) (kv : Value) (hkv : kv.oneCell' = true) (hx : a.eval x = .slice (some ⟨g, 0, none⟩) 1 c) (hc : ∀ j u, (pcells y kv)[j]? = some u → w.cell? ⟨g, j, none⟩ = some u) (hbig : n ≤ 1000000) (hbase : base ≤ w.heap.size)
  (h : ∀ v' w', w'.ownsRow base e 5 v' (n + 1) (vs ++ pcells y kv) → w.grownBy w' v.ownBlock → (v'.ownBlock = v.ownBlock ∨ v'.ownBlock = some w.heap.size) → K (a.put o.dst v') w') :
  if Region.wanted o (yielded ops a.tmps) = true then Oper.wp P o a w K Q else E := by
 have hw : Region.wanted o (yielded ops a.tmps) = true := by simp [Region.wanted, hgd]
 rw [if_pos hw]
 obtain ⟨v', w', hrun, h2, h3, h4⟩ := run_app_pt (P := P) base t o.type e i z ht hi hz hz1 hsize hby hown g c y kv hkv hc hbig hbase
 unfold Oper.wp
 simp [execOp, ho, resolve, invoke, builtin, hs, hx, hrun, Result.andThen]
 exact h v' w' h2 h3 h4
end
def GB (w : World) (B : Nat) (A : Option Addr) (n : Nat) (l : List Sg) : Prop := GRow w A n l ∧ (0 < n → ∃ b off, A = some ⟨b, off, none⟩ ∧ b < B)
theorem GB.grown {w w' : World} {B : Nat} {A : Option Addr} {n : Nat} {l : List Sg} {row : Option Nat} (h : GB w B A n l) (hg : w.grownBy w' row) (hr : ∀ g, row = some g → B ≤ g) : GB w' B A n l := by
 refine ⟨⟨h.1.1, fun hn => ?_⟩, h.2⟩
 obtain ⟨b, off, e1, e2, e3⟩ := h.1.2 hn
 obtain ⟨b', off', e4, e5⟩ := h.2 hn
 have hbb : b < B := by rw [e1] at e4; simp at e4; omega
 refine ⟨b, off, e1, Nat.lt_of_lt_of_le e2 hg.size, fun j hj => ?_⟩
 obtain ⟨a0, a1, a2, a3, a4⟩ := e3 j hj
 have hb : ∀ o, some (⟨b, o, none⟩ : Addr).block ≠ row := by intro o e; have := hr b e.symm; omega
 exact ⟨hg.cell a0 (hb _), hg.cell a1 (hb _), hg.cell a2 (hb _), hg.cell a3 (hb _), hg.cell a4 (hb _)⟩
theorem GB.below {w w' : World} {B : Nat} {A : Option Addr} {n : Nat} {l : List Sg} (h : GB w B A n l) (hb : Below w.heap.size w w') : GB w' B A n l := ⟨h.1.below hb, h.2⟩
theorem GB.at_ {w : World} {B : Nat} {A : Option Addr} {n : Nat} {l : List Sg} (h : GB w B A n l) (j : Nat) (hj : j < n) : ∃ b off x, A = some ⟨b, off, none⟩ ∧ l[j]? = some x ∧ w.cell? ⟨b, off + j * 5, none⟩ = some (.int .i64 x.kind) ∧ w.cell? ⟨b, off + j * 5 + 2, none⟩ = some (.int .i64 x.low) ∧ w.cell? ⟨b, off + j * 5 + 3, none⟩ = some (.int .i64 x.high) ∧ w.cell? ⟨b, off + j * 5 + 4, none⟩ = some (.string ⟨x.name.toArray⟩) := by
 obtain ⟨b, off, e1, e2, e3⟩ := h.1.2 (by omega)
 have hl : j < l.length := by rw [h.1.1]; exact hj
 obtain ⟨a0, a1, a2, a3, a4⟩ := e3 j hl
 exact ⟨b, off, l[j], e1, List.getElem?_eq_getElem hl, a0, a2, a3, a4⟩
theorem Many.le {way : Nat} {ks : List Nat} {s : List Sg} {e e' : List Pt} (h : Many way ks s e e') : e.length ≤ e'.length := by
 have one : ∀ {way : Nat} {s : List Sg} {e e' : List Pt} {k : Nat}, Pc way s e k e' → e.length ≤ e'.length := by
  intro way s e e' k h
  rcases h with ⟨_, h⟩ | ⟨_, h⟩ <;> (obtain ⟨n, h1, rfl, _⟩ := h.grown; simp)
 induction h with
 | last h _ => have := one h; simp; omega
 | row h _ ih => have := one h; omega
 | choice h _ _ ih => have := one h; omega
theorem At.le {way : Nat} {l r : List Sg} {C : List Nat} {q S : Nat} {e' : List Pt} {i : Nat} {ks : List Nat} {e1 : List Pt} (h : At way l r C q S e' i ks e1) : e1.length ≤ e'.length := by
 rcases h with ⟨f, t, _, _, _, h, _⟩ | ⟨_, rfl⟩
 ·exact h.le
 ·simp
theorem two_cuts {w : World} {B : Nat} {v : Value} {p q : Nat} (h : w.ownsRow B 3 1 v (p :: ([] ++ [q])).length ((pl (p :: ([] ++ [q]))).map (Value.int .i64))) : ∃ A c, v = .slice A 2 c := own_form5 h
theorem PVs.alloc {w : World} {B : Nat} {ps : List Pt} {vs : List Value} (h : PVs w B ps vs) (o : Obj) : PVs (w.alloc o) B ps vs := PVs.kept (World.grownBy_alloc w o none) (by intro g hg; cases hg) h
theorem PVs.drew {w : World} {B : Nat} {ps : List Pt} {vs : List Value} (h : PVs w B ps vs) : PVs w.drew B ps vs := PVs.kept (w := w) (w' := w.drew) (row := none) ⟨rfl, rfl, rfl, Nat.le_refl _, fun _ _ _ => rfl⟩ (by intro g hg; cases hg) h
theorem times_end {w2 W w3 : World} {B : Nat} {F : Nat → Prop} {A2 : Option Addr} {c2 k : Nat} {e1 : List Pt} {v3 : Value} {vs : List Value} {lo hi : Int} (hk1 : e1.length = k + 1) (hq : QS w2 B F (.slice A2 e1.length c2) e1) (hb : Below w2.heap.size w2 W) (hr : W.ownsRow B 124 5 (.slice A2 (k + 1) c2) (k + 1) vs) (hp : PVs W B e1 vs) (hav : Av F vs)
  (hk : Kd W B (.slice (some ⟨w2.heap.size, 0, none⟩) 1 1) [k]) (hg : W.grownBy w3 (Value.slice A2 (k + 1) c2).ownBlock) (ho : w3.ownsRow B 124 5 v3 (k + 1 + 1) (vs ++ pcells ⟨4, lo, hi, [], [k]⟩ (.slice (some ⟨w2.heap.size, 0, none⟩) 1 1))) (hat : v3.ownBlock = (Value.slice A2 (k + 1) c2).ownBlock ∨ v3.ownBlock = some W.heap.size) :
  BuildP B F w2 (.slice A2 e1.length c2) (e1 ++ [⟨4, lo, hi, [], [k]⟩]) (.returned v3) w3 := by
 rw [← hk1] at hr hg ho hat
 exact BuildP.more hb (hq.below hb) hr hp hav ⟨4, lo, hi, [], [k]⟩ _ hk (by intro g hg2 hf; have := hq.fw g hf; simp [Value.ownBlock] at hg2; omega) hg ho hat
theorem build_name (B : Nat) (F : Nat → Prop) (A : Option Addr) (n c : Nat) (l : List Sg) (hn : n ≤ 1000) (p q : Nat) (x : Sg) (e : List Pt) (r : List Sg) (w : World) (v : Value) (hq : QS w B F v e) (hg : GB w B A n l) (hx : x.kind = 1) (hl : l.drop p = [x] ++ r) (hpq : p + ([x]).length = q) (he : e.length < 1000) :
  Calls Tryz.prog 113 #[v, .slice A n c, .int .i64 p, .int .i64 q] w (BuildP B F w v (e ++ [⟨1, 0, 0, x.name, []⟩])) := by
 obtain ⟨A0, c0, rfl⟩ := hq.form
 have hqn : q ≤ n := by
  have := congrArg List.length hl
  rw [List.length_drop, hg.1.1, List.length_append] at this
  have h0 : 0 < ([x]).length := by simp
  omega
 have HQ := hide hq
 have HG := hide hg
 have HL := hide hl
 obtain ⟨s, hs⟩ : ∃ s, s = [x] := ⟨_, rfl⟩
 have HSS := Lib.hid hs
 have hpq0 := hpq
 rw [← hs] at HL hpq
 have HOK : Hid (Ok s) := by show Ok _; rw [hs]; exact (Sn.item (.name (e := []) hx)).ok'
 have HCUT : Hid (∀ m : Nat, m = 2 ∨ m = 3 → Cuts m p true s = []) := fun m hm => by rw [hs]; exact (Sn.item (.name (e := []) hx)).cuts_one m p
 have hbw : B ≤ w.heap.size := hq.bw
 have hel : e.length ≤ 1000 := by omega
 clear hq hg hl hs
 go_enter Tryz.func113, Tryz.ntmps113
 go_wp2_with fail
 go_loopw [0, 9] (fun vv wv wr => ∃ m : Nat, vv = .slice A0 e.length c0 ∧ wv = .int .i64 m ∧ 1 ≤ m ∧ m ≤ 3 ∧ Hid (QS wr B F (.slice A0 e.length c0) e) ∧ Hid (GB wr B A n l) ∧ Hid (Below w.heap.size w wr)) (fun _ wv _ => (intOf wv).toNat)
 case atStart => exact ⟨3, rfl, rfl, by omega, by omega, HQ, HG, Lib.hid (Below.refl _ _)⟩
 case round =>
  obtain ⟨m, rfl, rfl, hm1, hm3, hQ, hG, hB⟩ := hrel
  by_cases h2 : 2 ≤ m
  ·have l1 : decide ((2 : Int) ≤ (m : Int)) = true := by simp; omega
   have l2 : decide (2 ≤ m) = true := by simp; omega
   have HC0 := cuts_any A n c l wr hG.out.1 hn p q m s r HL.out hpq hqn HOK.out (by omega)
   rw [HCUT.out m (by omega)] at HC0
   have HC := Lib.hid HC0
   clear HC0
   go_wp2_with (go_at_call 160; (with_reducible refine (HC.out).mono ?_); rintro en w1 ⟨v1, rfl, ho1, hb1⟩; obtain ⟨A1, c1, hv1⟩ := two_cuts ho1; subst hv1; have HB1 := Lib.hid hb1; clear ho1 hb1)
   go_roundw
   case rel => exact ⟨m - 1, rfl, by rw [Int.natCast_sub (by omega)]; rfl, by omega, by omega, hQ.out.below HB1.out, hG.out.below HB1.out, hB.out.trans (HB1.out.mono hB.out.size)⟩
   case measure => simp [intOf]; omega
  ·have l1 : decide ((2 : Int) ≤ (m : Int)) = false := by simp; omega
   have l2 : decide (2 ≤ m) = false := by simp; omega
   have hz := hB.out.size
   obtain rfl : q = p + 1 := by simpa using hpq0.symm
   obtain ⟨b, off, x', rfl, hx1, a0, a2, a3, a4⟩ := hG.out.at_ p (by omega)
   have hx2 : l[p]? = some x := by
    have := congrArg (fun m => m[0]?) HL.out
    rw [HSS.out] at this
    simpa using this
   rw [hx1] at hx2
   injection hx2 with hx2
   subst hx2
   obtain ⟨kd, at_, lo, hi, nm⟩ := x'
   dsimp only at a0 a2 a3 a4 hx
   subst hx
   have hpn : p < n := by omega
   have hpn' : (p : Int) < (n : Int) := by omega
   obtain ⟨vs, hrow, hpv, hav⟩ := hQ.out.row
   have HROW := Lib.hid hrow
   have HPV := Lib.hid hpv
   have HAV := Lib.hid hav
   obtain ⟨i0, hi0, hz0, hs1, hs2⟩ := info_parts info_rpt
   clear hx1 hrow hpv hav a2 a3
   go_wp2_with (at_builtin; (refine wpList_app_pt rfl (.tmp 117) (.tmp 124) 33 rfl B 124 i0 _ Tryz.underlying33 hi0 hz0 rfl hs1 hs2 _ e.length vs rfl (HROW.out.alloc _) wr.heap.size 1 ⟨1, 0, 0, nm, []⟩ (.slice none 0 0) rfl rfl (cells_one wr _ _ rfl) (by omega) (by simp; omega) ?_); intro v' w2 hown hg hat; obtain ⟨A2, c2, hv2⟩ := own_form5 hown; subst hv2; have HOWN := Lib.hid hown; have HGR := Lib.hid hg; have HAT := Lib.hid hat; clear hown hg hat)
   exact bodyPost_ret (v := .slice A2 (e.length + 1) c2) (by simp [results, Tryz.results113, go_sem]) rfl (BuildP.more (hB.out.alloc hz _) (hQ.out.below ((Below.refl _ _).alloc (Nat.le_refl _) _)) (HROW.out.alloc _) (PVs.kept (World.grownBy_alloc _ _ none) (by intro g hg; cases hg) HPV.out) HAV.out ⟨1, 0, 0, nm, []⟩ (.slice none 0 0) (Kd.nil _ _) (by simp [Value.ownBlock]) HGR.out HOWN.out HAT.out)
theorem build_shut (B : Nat) (F : Nat → Prop) (A : Option Addr) (n c : Nat) (l : List Sg) (hn : n ≤ 1000) (p q : Nat) (x y : Sg) (s1 : List Sg) (k : Nat) (e e' : List Pt) (r : List Sg) (w : World) (v : Value) (hq : QS w B F v e) (hg : GB w B A n l) (hx : x.kind = 2) (hy : y.kind = 3) (hs1 : Sn (.choice []) s1 e k e') (HIH : ∀ W, QS W B F v e → GB W B A n l → Calls Tryz.prog 113 #[v, .slice A n c, .int .i64 ((p : Int) + 1), .int .i64 ((q : Int) - 1)] W (BuildP B F W v e')) (hl : l.drop p = (x :: (s1 ++ [y])) ++ r) (hpq : p + ((x :: (s1 ++ [y]))).length = q) (he : e'.length ≤ 1000) :
  Calls Tryz.prog 113 #[v, .slice A n c, .int .i64 p, .int .i64 q] w (BuildP B F w v (e')) := by
 obtain ⟨A0, c0, rfl⟩ := hq.form
 have hqn : q ≤ n := by
  have := congrArg List.length hl
  rw [List.length_drop, hg.1.1, List.length_append] at this
  have h0 : 0 < ((x :: (s1 ++ [y]))).length := by simp
  omega
 have HQ := hide hq
 have HG := hide hg
 have HL := hide hl
 obtain ⟨s, hs⟩ : ∃ s, s = (x :: (s1 ++ [y])) := ⟨_, rfl⟩
 have HSS := Lib.hid hs
 have hpq0 := hpq
 rw [← hs] at HL hpq
 have HOK : Hid (Ok s) := by show Ok _; rw [hs]; exact (Sn.item (.shut hx hs1 hy)).ok'
 have HCUT : Hid (∀ m : Nat, m = 2 ∨ m = 3 → Cuts m p true s = []) := fun m hm => by rw [hs]; exact (Sn.item (.shut hx hs1 hy)).cuts_one m p
 have hbw : B ≤ w.heap.size := hq.bw
 have hel : e.length ≤ 1000 := by (obtain ⟨_, _, h2, _⟩ := hs1.grown; rw [h2] at he; simp at he; omega)
 clear hq hg hl hs
 go_enter Tryz.func113, Tryz.ntmps113
 go_wp2_with fail
 go_loopw [0, 9] (fun vv wv wr => ∃ m : Nat, vv = .slice A0 e.length c0 ∧ wv = .int .i64 m ∧ 1 ≤ m ∧ m ≤ 3 ∧ Hid (QS wr B F (.slice A0 e.length c0) e) ∧ Hid (GB wr B A n l) ∧ Hid (Below w.heap.size w wr)) (fun _ wv _ => (intOf wv).toNat)
 case atStart => exact ⟨3, rfl, rfl, by omega, by omega, HQ, HG, Lib.hid (Below.refl _ _)⟩
 case round =>
  obtain ⟨m, rfl, rfl, hm1, hm3, hQ, hG, hB⟩ := hrel
  by_cases h2 : 2 ≤ m
  ·have l1 : decide ((2 : Int) ≤ (m : Int)) = true := by simp; omega
   have l2 : decide (2 ≤ m) = true := by simp; omega
   have HC0 := cuts_any A n c l wr hG.out.1 hn p q m s r HL.out hpq hqn HOK.out (by omega)
   rw [HCUT.out m (by omega)] at HC0
   have HC := Lib.hid HC0
   clear HC0
   go_wp2_with (go_at_call 160; (with_reducible refine (HC.out).mono ?_); rintro en w1 ⟨v1, rfl, ho1, hb1⟩; obtain ⟨A1, c1, hv1⟩ := two_cuts ho1; subst hv1; have HB1 := Lib.hid hb1; clear ho1 hb1)
   go_roundw
   case rel => exact ⟨m - 1, rfl, by rw [Int.natCast_sub (by omega)]; rfl, by omega, by omega, hQ.out.below HB1.out, hG.out.below HB1.out, hB.out.trans (HB1.out.mono hB.out.size)⟩
   case measure => simp [intOf]; omega
  ·have l1 : decide ((2 : Int) ≤ (m : Int)) = false := by simp; omega
   have l2 : decide (2 ≤ m) = false := by simp; omega
   have hz := hB.out.size
   have hlen : s.length = s1.length + 2 := by rw [HSS.out]; simp
   have HIH2 := hide HIH
   obtain ⟨b, off, x', hA1, hx1, a0, a2, a3, a4⟩ := hG.out.at_ p (by omega)
   obtain ⟨b', off', y', hA2, hy1, b0, b2, b3, b4⟩ := hG.out.at_ (q - 1) (by omega)
   have hx2 : l[p]? = some x := by
    have := nth_drop HL.out 0 x (by rw [HSS.out]; simp)
    simpa using this
   have hy2 : l[q - 1]? = some y := by
    have := nth_drop HL.out (s1.length + 1) y (by rw [HSS.out]; simp)
    rwa [show p + (s1.length + 1) = q - 1 from by omega] at this
   rw [hx1] at hx2
   rw [hy1] at hy2
   injection hx2 with hx2
   injection hy2 with hy2
   subst hx2
   subst hy2
   rw [hA1] at hA2
   simp only [Option.some.injEq, Addr.mk.injEq] at hA2
   obtain ⟨rfl, rfl, -⟩ := hA2
   subst hA1
   have hyx : y'.kind = 3 := hy
   have hxx : x'.kind = 2 := hx
   rw [hxx] at a0
   rw [hyx] at b0
   have hq1 : ((q - 1 : Nat) : Int) = (q : Int) - 1 := by omega
   have hqb : (q : Int) - 1 < (n : Int) := by omega
   have hqb0 : 0 ≤ (q : Int) - 1 := by omega
   have hqt : ((q : Int) - 1).toNat = q - 1 := by omega
   have hpn : p < n := by omega
   have hpn' : (p : Int) < (n : Int) := by omega
   clear a2 a3 a4 b2 b3 b4 hx1 hy1 hx hy hyx hxx hs1 HIH HCUT HOK hq1
   have HCC := Lib.hid (HIH2.out wr hQ.out hG.out)
   go_wp2_with (go_at_call 113; (with_reducible refine (HCC.out).mono ?_); rintro en w2 ⟨v2, rfl, hq2, hg2, hf2⟩; obtain ⟨A2, c2, hv2⟩ := hq2.form; subst hv2; have HQ2 := Lib.hid hq2; have HG2 := Lib.hid hg2; have HF2 := Lib.hid hf2; clear hq2 hg2 hf2)
   exact bodyPost_ret (v := .slice A2 e'.length c2) (by simp [results, Tryz.results113, go_sem]) rfl (BuildP.after hB.out ⟨_, rfl, HQ2.out, HG2.out, HF2.out⟩)
theorem build_times (B : Nat) (F : Nat → Prop) (A : Option Addr) (n c : Nat) (l : List Sg) (hn : n ≤ 1000) (p q : Nat) (x : Sg) (s1 : List Sg) (k : Nat) (e e1 : List Pt) (r : List Sg) (w : World) (v : Value) (hq : QS w B F v e) (hg : GB w B A n l) (hx : x.kind = 5) (hs1 : Sn .bare s1 e k e1) (HIH : ∀ W, QS W B F v e → GB W B A n l → Calls Tryz.prog 113 #[v, .slice A n c, .int .i64 (p : Int), .int .i64 ((q : Int) - 1)] W (BuildP B F W v e1)) (hl : l.drop p = (s1 ++ [x]) ++ r) (hpq : p + ((s1 ++ [x])).length = q) (he : e1.length ≤ 1000) :
  Calls Tryz.prog 113 #[v, .slice A n c, .int .i64 p, .int .i64 q] w (BuildP B F w v (e1 ++ [⟨4, x.low, x.high, [], [k]⟩])) := by
 obtain ⟨A0, c0, rfl⟩ := hq.form
 have hqn : q ≤ n := by
  have := congrArg List.length hl
  rw [List.length_drop, hg.1.1, List.length_append] at this
  have h0 : 0 < ((s1 ++ [x])).length := by simp
  omega
 have HQ := hide hq
 have HG := hide hg
 have HL := hide hl
 obtain ⟨s, hs⟩ : ∃ s, s = (s1 ++ [x]) := ⟨_, rfl⟩
 have HSS := Lib.hid hs
 have hpq0 := hpq
 rw [← hs] at HL hpq
 have HOK : Hid (Ok s) := by show Ok _; rw [hs]; exact (Sn.times hs1 hx).ok'
 have HCUT : Hid (∀ m : Nat, m = 2 ∨ m = 3 → Cuts m p true s = []) := fun m hm => by rw [hs]; exact (Sn.times hs1 hx).cuts_one m p
 have hbw : B ≤ w.heap.size := hq.bw
 have hel : e.length ≤ 1000 := by (obtain ⟨_, _, h2, _⟩ := hs1.grown; rw [h2] at he; simp at he; omega)
 clear hq hg hl hs
 go_enter Tryz.func113, Tryz.ntmps113
 go_wp2_with fail
 go_loopw [0, 9] (fun vv wv wr => ∃ m : Nat, vv = .slice A0 e.length c0 ∧ wv = .int .i64 m ∧ 1 ≤ m ∧ m ≤ 3 ∧ Hid (QS wr B F (.slice A0 e.length c0) e) ∧ Hid (GB wr B A n l) ∧ Hid (Below w.heap.size w wr)) (fun _ wv _ => (intOf wv).toNat)
 case atStart => exact ⟨3, rfl, rfl, by omega, by omega, HQ, HG, Lib.hid (Below.refl _ _)⟩
 case round =>
  obtain ⟨m, rfl, rfl, hm1, hm3, hQ, hG, hB⟩ := hrel
  by_cases h2 : 2 ≤ m
  ·have l1 : decide ((2 : Int) ≤ (m : Int)) = true := by simp; omega
   have l2 : decide (2 ≤ m) = true := by simp; omega
   have HC0 := cuts_any A n c l wr hG.out.1 hn p q m s r HL.out hpq hqn HOK.out (by omega)
   rw [HCUT.out m (by omega)] at HC0
   have HC := Lib.hid HC0
   clear HC0
   go_wp2_with (go_at_call 160; (with_reducible refine (HC.out).mono ?_); rintro en w1 ⟨v1, rfl, ho1, hb1⟩; obtain ⟨A1, c1, hv1⟩ := two_cuts ho1; subst hv1; have HB1 := Lib.hid hb1; clear ho1 hb1)
   go_roundw
   case rel => exact ⟨m - 1, rfl, by rw [Int.natCast_sub (by omega)]; rfl, by omega, by omega, hQ.out.below HB1.out, hG.out.below HB1.out, hB.out.trans (HB1.out.mono hB.out.size)⟩
   case measure => simp [intOf]; omega
  ·have l1 : decide ((2 : Int) ≤ (m : Int)) = false := by simp; omega
   have l2 : decide (2 ≤ m) = false := by simp; omega
   have hz := hB.out.size
   have hlen : s.length = s1.length + 1 := by rw [HSS.out]; simp
   have hs1n : 0 < s1.length := hs1.ne
   have hk1 : e1.length = k + 1 := hs1.last
   have HIH2 := hide HIH
   obtain ⟨b', off', y', hA2, hy1, b0, b2, b3, b4⟩ := hG.out.at_ (q - 1) (by omega)
   have hy2 : l[q - 1]? = some x := by
    have := nth_drop HL.out s1.length x (by rw [HSS.out]; simp)
    rwa [show p + s1.length = q - 1 from by omega] at this
   rw [hy1] at hy2
   injection hy2 with hy2
   subst hy2
   subst hA2
   have hyx : y'.kind = 5 := hx
   rw [hyx] at b0
   obtain ⟨kd, at_, lo, hi, nm⟩ := y'
   dsimp only at b2 b3
   have hqb : (q : Int) - 1 < (n : Int) := by omega
   have hqb0 : 0 ≤ (q : Int) - 1 := by omega
   have hqt : ((q : Int) - 1).toNat = q - 1 := by omega
   clear b4 hy1 hx hyx hs1 HIH HCUT HOK
   have HCC := Lib.hid (HIH2.out wr hQ.out hG.out)
   go_upto_region 18 with (go_at_call 113; (with_reducible refine (HCC.out).mono ?_); rintro en w2 ⟨v2, rfl, hq2, hg2, hf2⟩; obtain ⟨A2, c2, hv2⟩ := hq2.form; subst hv2; have HQ2 := Lib.hid hq2; have HG2 := Lib.hid hg2; have HF2 := Lib.hid hf2; clear hq2 hg2 hf2)
   obtain ⟨b2', off2', y2, hA3, hy3, d0, d2, d3, d4⟩ := (hG.out.grown HG2.out (fun g hg => (hQ.out.own g hg).1)).at_ (q - 1) (by omega)
   have hk2 : (e1.length : Int) - 1 = (k : Int) := by omega
   simp only [Option.some.injEq, Addr.mk.injEq] at hA3
   obtain ⟨rfl, rfl, -⟩ := hA3
   have hy4 : l[q - 1]? = some ⟨kd, at_, lo, hi, nm⟩ := by
    have := nth_drop HL.out s1.length ⟨kd, at_, lo, hi, nm⟩ (by rw [HSS.out]; simp)
    rwa [show p + s1.length = q - 1 from by omega] at this
   rw [hy3] at hy4
   injection hy4 with hy4
   subst hy4
   dsimp only at d0 d2 d3
   obtain ⟨i0, hi0, hz0, hs1, hs2⟩ := info_parts info_rpt
   clear d0 d4 b0 b2 b3 hy3
   have hw1 : IntKind.i64.wrap ((q : Int) - 1) = (q : Int) - 1 := IntWalk.i64_in _ (by omega)
   have hw2 : IntKind.i64.wrap ((k : Int) + 1 - 1) = (k : Int) := by rw [IntWalk.i64_in _ (by omega)]; omega
   have hkk : k < 1000 := by omega
   have hq1c : (1 : Int) ≤ (q : Int) := by omega
   have hw3 : IntKind.i64.wrap (k : Int) = (k : Int) := IntWalk.i64_in _ (by omega)
   obtain ⟨vs, hrow, hpv, hav⟩ := HQ2.out.row
   have HW : Hid (Below w.heap.size w wr ∧ wr.grownBy w2 (Value.slice A0 e.length c0).ownBlock ∧ ∀ g, (Value.slice A2 e1.length c2).ownBlock = some g → (Value.slice A0 e.length c0).ownBlock = some g ∨ wr.heap.size ≤ g) := ⟨hB.out, HG2.out, HF2.out⟩
   have HROW : Hid (((w2.alloc (.cells #[.int .i64 (k : Int)] 3)).alloc (.cells #[.int .i64 4, .int .i64 lo, .int .i64 hi, .string ⟨#[]⟩, .slice (some ⟨w2.heap.size, 0, none⟩) 1 1] 124)).drew.ownsRow B 124 5 (.slice A2 (k + 1) c2) (k + 1) vs) := by
    have h := (((hrow.alloc (.cells #[.int .i64 (k : Int)] 3)).alloc (.cells #[.int .i64 4, .int .i64 lo, .int .i64 hi, .string ⟨#[]⟩, .slice (some ⟨w2.heap.size, 0, none⟩) 1 1] 124)).drew)
    rw [hk1] at h
    exact h
   have HCE := Lib.hid (new_cells w2 (.cells #[.int .i64 (k : Int)] 3) #[.int .i64 4, .int .i64 lo, .int .i64 hi, .string ⟨#[]⟩, .slice (some ⟨w2.heap.size, 0, none⟩) 1 1] (pcells ⟨4, lo, hi, [], [k]⟩ (.slice (some ⟨w2.heap.size, 0, none⟩) 1 1)) rfl (t := 124))
   have HKD : Hid (Kd ((w2.alloc (.cells #[.int .i64 (k : Int)] 3)).alloc (.cells #[.int .i64 4, .int .i64 lo, .int .i64 hi, .string ⟨#[]⟩, .slice (some ⟨w2.heap.size, 0, none⟩) 1 1] 124)).drew B (.slice (some ⟨w2.heap.size, 0, none⟩) 1 1) [k]) := World.ownsRow.drew (World.ownsRow.alloc (one_kid w2 B k HQ2.out.bw) _)
   have HPV : Hid (PVs ((w2.alloc (.cells #[.int .i64 (k : Int)] 3)).alloc (.cells #[.int .i64 4, .int .i64 lo, .int .i64 hi, .string ⟨#[]⟩, .slice (some ⟨w2.heap.size, 0, none⟩) 1 1] 124)).drew B e1 vs) := ((hpv.alloc _).alloc _).drew
   have hbb : b' < w2.heap.size := World.block_lt_of_cell? w2 _ d2
   have HAV := Lib.hid hav
   have hbw2 : B ≤ w2.heap.size := HQ2.out.bw
   clear hrow hpv hav
   go_region_law (refine step_app_pt (by rfl) (.tmp 84) (.tmp 102) 33 (by rfl) B 124 i0 _ Tryz.underlying33 hi0 hz0 rfl hs1 hs2 (.slice A2 (k + 1) c2) (k + 1) vs (by simp [Act.eval]) HROW.out (w2.heap.size + 1) 1 ⟨4, lo, hi, [], [k]⟩ (.slice (some ⟨w2.heap.size, 0, none⟩) 1 1) rfl (by simp [Act.eval]) HCE.out (by omega) (by simp; omega) ?_; intro v' w3 hown hg hat; obtain ⟨A3, c3, hv3⟩ := own_form5 hown; subst hv3; have HOWN := Lib.hid hown; have HGR := Lib.hid hg; have HAT := Lib.hid hat; clear hown hg hat)
   all_goals (go_wp2_with fail; exact bodyPost_ret (v := .slice A3 (k + 1 + 1) c3) (by simp [results, Tryz.results113, go_sem]) rfl (BuildP.after HW.out.1 (BuildP.chain HW.out.2.1 HW.out.2.2 (times_end hk1 HQ2.out (below_drew1 (((Below.refl _ _).alloc (Nat.le_refl _) _).alloc (by simp) _)) HROW.out HPV.out HAV.out HKD.out HGR.out HOWN.out HAT.out))))
end Go.Proofs.YtnbchikiiipejaaGreatDoor.Ex
namespace Go.Proofs.YtnbchikiiipejaaGreatDoor.Ex
open Go.RowKit Mem Lx
theorem grown_more {w a b : World} {row0 row : Option Nat} (h : w.grownBy a row0) (g : a.grownBy b row) (hr : ∀ i, row = some i → row0 = some i ∨ w.heap.size ≤ i) : w.grownBy b row0 :=
 ⟨g.os.trans h.os, g.tape.trans h.tape, g.output.trans h.output, Nat.le_trans h.size g.size, fun i hi hne => (g.block i (Nat.lt_of_lt_of_le hi h.size) (fun e => by
  rcases hr i e.symm with h5 | h5
  ·exact hne h5.symm
  ·omega)).trans (h.block i hi hne)⟩
theorem QS.weaken {w : World} {B : Nat} {F G : Nat → Prop} {v : Value} {e : List Pt} (h : QS w B F v e) (hg : ∀ g, G g → F g) : QS w B G v e := by
 obtain ⟨⟨vs, g2, g3, g4⟩, d3, d4⟩ := h
 exact ⟨⟨vs, g2, g3, fun u hu g hg2 hf => g4 u hu g hg2 (hg g hf)⟩, d3, fun g hf => d4 g (hg g hf)⟩
theorem QS.kept {w w' : World} {B : Nat} {F : Nat → Prop} {v : Value} {e : List Pt} {row : Option Nat} (h : QS w B F v e) (hg : w.grownBy w' row) (hv : ∀ i, row = some i → v.ownBlock ≠ some i) (hk : ∀ i, row = some i → ∀ cur fr, w.heap[i]? ≠ some (.cells cur 3 fr)) : QS w' B F v e := by
 obtain ⟨⟨vs, g2, g3, g4⟩, d3, d4⟩ := h
 refine ⟨⟨vs, g2.kept hg ?_, PVs.kept hg hk g3, g4⟩, Nat.le_trans d3 hg.size, fun g hf => Nat.lt_of_lt_of_le (d4 g hf) hg.size⟩
 rcases hx : v.ownBlock with _ | i
 ·exact .inl rfl
 ·exact .inr fun e => hv i e.symm hx
theorem QS.kids {w w' : World} {B b : Nat} {F : Nat → Prop} {vo v v' : Value} {e : List Pt} {ks ks' : List Nat} (h : QS w B (And1 F v) vo e) (hk : Kd w b v ks) (hg : w.grownBy w' v.ownBlock) (hk' : Kd w' b v' ks') (ha : v'.ownBlock = v.ownBlock ∨ v'.ownBlock = some w.heap.size) : QS w' B (And1 F v') vo e := by
 obtain ⟨⟨vs, g2, g3, g4⟩, d3, d4⟩ := h
 have hint : ∀ i, v.ownBlock = some i → ∃ cs fr, w.heap[i]? = some (.cells cs 3 fr) := fun i hi => (ownsRow_row hk i hi).2
 refine ⟨⟨vs, g2.kept hg ?_, ?_, ?_⟩, Nat.le_trans d3 hg.size, ?_⟩
 ·rcases hx : vo.ownBlock with _ | i
  ·exact .inl rfl
  ·refine .inr fun e => ?_
   obtain ⟨_, cs, fr, e1⟩ := ownsRow_row g2 i hx
   obtain ⟨cs', fr', e2⟩ := hint i e.symm
   rw [e1] at e2; simp at e2
 ·have key : ∀ {ps : List Pt} {vs : List Value}, PVs w B ps vs → Av (And1 F v) vs → PVs w' B ps vs := by
   intro ps
   induction ps with
   | nil => intro vs h _; exact h
   | cons p ps ih =>
    rintro _ ⟨kv, rest, rfl, q1, q2⟩ hav
    refine ⟨kv, rest, rfl, World.ownsRow.kept q1 hg ?_, ih q2 (fun u hu => hav u (List.mem_append_right _ hu))⟩
    rcases hkv : kv.ownBlock with _ | i
    ·exact .inl rfl
    ·refine .inr fun e => ?_
     exact hav kv (List.mem_append_left _ (by simp [pcells])) i hkv (.inr e.symm)
  exact key g3 g4
 ·intro u hu g hg2 hf
  rcases hf with hf | hf
  ·exact g4 u hu g hg2 (.inl hf)
  ·rcases ha with ha | ha
   ·exact g4 u hu g hg2 (.inr (by rw [← ha]; exact hf))
   ·rw [ha] at hf
    injection hf with hf
    have := PVs.av_new g3 u hu g hg2
    omega
 ·intro g hf
  rcases hf with hf | hf
  ·exact Nat.lt_of_lt_of_le (d4 g (.inl hf)) hg.size
  ·exact (World.ownsRow.lt hk' g hf).2
theorem QS.alloc {w : World} {B : Nat} {F : Nat → Prop} {v : Value} {e : List Pt} (h : QS w B F v e) (o : Obj) : QS (w.alloc o) B F v e := h.below ((Below.refl _ _).alloc (Nat.le_refl _) o)
def PB (w : World) (pb way : Nat) (kv : Value) : Prop := w.heap[pb]? = some (.cells #[.int .i64 way, .int .i64 0, .int .i64 0, .string ⟨#[]⟩, kv] 124 (0, 0))
theorem PB.lt {w : World} {pb way : Nat} {kv : Value} (h : PB w pb way kv) : pb < w.heap.size := (Array.getElem?_eq_some_iff.1 h).1
theorem PB.cells {w : World} {pb way : Nat} {kv : Value} (h : PB w pb way kv) : w.cell? ⟨pb, 0, none⟩ = some (.int .i64 way) ∧ w.cell? ⟨pb, 1, none⟩ = some (.int .i64 0) ∧ w.cell? ⟨pb, 2, none⟩ = some (.int .i64 0) ∧ w.cell? ⟨pb, 3, none⟩ = some (.string ⟨#[]⟩) ∧ w.cell? ⟨pb, 4, none⟩ = some kv := by
 unfold PB at h; simp [World.cell?, h]
theorem PB.free {w : World} {pb way : Nat} {kv : Value} (h : PB w pb way kv) (j : Nat) : w.frozen? ⟨pb, j, none⟩ = false := by unfold PB at h; simp [World.frozen?, h]
theorem PB.kept {w w' : World} {pb way : Nat} {kv : Value} {row : Option Nat} (h : PB w pb way kv) (hg : w.grownBy w' row) (hne : some pb ≠ row) : PB w' pb way kv := (hg.block pb h.lt hne).trans h
theorem PB.set {w : World} {pb way : Nat} {kv : Value} (h : PB w pb way kv) (kv' : Value) : PB (w.setCell ⟨pb, 4, none⟩ kv') pb way kv' := by
 unfold PB at h ⊢; simp [World.setCell, Array.getElem?_modify, h]
theorem PB.not_int {w : World} {pb way : Nat} {kv : Value} (h : PB w pb way kv) : ∀ i, some pb = some i → ∀ cur fr, w.heap[i]? ≠ some (.cells cur 3 fr) := by
 intro i hi cur fr hk
 injection hi with hi
 subst hi
 unfold PB at h
 rw [h] at hk
 simp at hk
def CR (w : World) (v : Value) (C : List Nat) : Prop := w.ownsRow 0 3 1 v C.length ((pl C).map (Value.int .i64))
theorem CR.kept {w w' : World} {v : Value} {C : List Nat} {row : Option Nat} (h : CR w v C) (hg : w.grownBy w' row) (hr : ∀ i, row = some i → v.ownBlock ≠ some i) : CR w' v C := by
 refine World.ownsRow.kept h hg ?_
 rcases hx : v.ownBlock with _ | i
 ·exact .inl rfl
 ·exact .inr fun e => hr i e.symm hx
theorem CR.form {w : World} {v : Value} {C : List Nat} (h : CR w v C) (hC : 0 < C.length) : ∃ g c, v = .slice (some ⟨g, 0, none⟩) C.length c ∧ C.length ≤ c := by
 rcases h.2 with ⟨_, h0⟩ | ⟨g, cap, cur, hv, hb, hg, hnc, _⟩
 ·omega
 ·exact ⟨g, cap, hv, hnc⟩
theorem CR.at_ {w : World} {g c : Nat} {C : List Nat} (h : CR w (.slice (some ⟨g, 0, none⟩) C.length c) C) (j a : Nat) (hj : C[j]? = some a) : w.cell? ⟨g, j, none⟩ = some (.int .i64 (a : Int)) := by
 have := World.ownsRow.cells h (g := g) rfl j (.int .i64 (a : Int)) (by simp [pl, hj])
 have hp : (⟨g, 0, none⟩ : Addr).add j = ⟨g, j, none⟩ := by unfold Addr.add; split <;> simp_all
 rwa [hp] at this
theorem cuts_len' (way : Nat) : ∀ (f i : Nat) (b : Bool) (l : List Sg), l.length ≤ f → (cuts way f i b l).length ≤ l.length
 | 0, _, _, _, _ => by simp [cuts]
 | f + 1, _, _, [], _ => by simp [cuts]
 | f + 1, i, b, x :: l, h => by
  simp only [List.length_cons] at h
  have e1 := cuts_len' way f (i + 1) false l (by omega)
  have e2 := cuts_len' way f (i + 1 + Ex.jump 1 l + 1) false (l.drop (Ex.jump 1 l + 1)) (by simp; omega)
  simp only [List.length_drop] at e2
  have e3 : (if way = 2 ∧ b = false ∧ (x.kind = 1 ∨ x.kind = 2) then [i] else if way = 3 ∧ x.kind = 4 then [i + 1] else []).length ≤ 1 := by split; simp; split <;> simp
  simp only [cuts]
  rw [List.length_append, List.length_cons]
  refine Nat.le_trans (Nat.add_le_add e3 (?_ : _ ≤ l.length)) (by omega)
  split <;> omega
theorem cuts_len (way i : Nat) (b : Bool) (l : List Sg) : (Cuts way i b l).length ≤ l.length := cuts_len' way _ i b l (Nat.le_refl _)
theorem base0 {w : World} {base : Nat} {e : TypeId} {size n : Nat} {v : Value} {xs : List Value} (h : w.ownsRow base e size v n xs) : w.ownsRow 0 e size v n xs := ownsRow_base h (Nat.zero_le _)
theorem Many.cuts_ne {way : Nat} {s : List Sg} {e e' : List Pt} (h : Many way [] s e e') (p : Nat) : 0 < (Cuts way p true s).length := by
 rcases h.step p with ⟨_, _, _, _, h, _⟩ | ⟨_, _, _, _, _, _, _, _, h, _⟩
 ·exact absurd rfl h
 ·rw [h]; simp
theorem build_many3 (B : Nat) (F : Nat → Prop) (A : Option Addr) (n c : Nat) (l : List Sg) (hn : n ≤ 1000) (p q : Nat) (s : List Sg) (e e' : List Pt) (r : List Sg) (w : World) (v : Value) (hq : QS w B F v e) (hg : GB w B A n l) (hm : Many 3 [] s e e')  (hl : l.drop p = s ++ r) (hpq : p + s.length = q) (he : e'.length ≤ 1000)
  (HIH : ∀ (F' : Nat → Prop) (f t k : Nat) (s' r' : List Sg) (e1 e2 : List Pt) (W : World) (v' : Value), Pc 3 s' e1 k e2 → s'.length < s.length → QS W B F' v' e1 → GB W B A n l → l.drop f = s' ++ r' → f + s'.length = t → e2.length ≤ 1000 → Calls Tryz.prog 113 #[v', .slice A n c, .int .i64 (f : Int), .int .i64 (t : Int)] W (BuildP B F' W v' e2)) :
  Calls Tryz.prog 113 #[v, .slice A n c, .int .i64 p, .int .i64 q] w (BuildP B F w v e') := by
 obtain ⟨A0, c0, rfl⟩ := hq.form
 have hqn : q ≤ n := by
  have := congrArg List.length hl
  rw [List.length_drop, hg.1.1, List.length_append] at this
  have h0 : 0 < s.length := hm.ne
  omega
 have HQ := hide hq
 have HG := hide hg
 have HL := hide hl
 have HM := hide hm
 have HI := hide HIH
 have HOK := Lib.hid hm.ok
 have hcn : 0 < (Cuts 3 p true s).length := hm.cuts_ne p
 have hbw : B ≤ w.heap.size := hq.bw
 have hel : e.length ≤ 1000 := by have := hm.le; omega
 obtain ⟨C, hC⟩ : ∃ C, C = p :: (Cuts 3 p true s ++ [q]) := ⟨_, rfl⟩
 have HC0 := Lib.hid hC
 have hCl : 3 ≤ C.length := by rw [hC]; simp; omega
 have hv0 : Hid (∀ g, (Value.slice A0 e.length c0).ownBlock = some g → g < w.heap.size) := fun g hg => (hq.own g hg).2.1
 have HFW : Hid (∀ g, F g → g < w.heap.size) := hq.fw
 have HFB : Hid (B ≤ w.heap.size) := hbw
 have hCb : Hid (C.length ≤ 2000) := by show _ ≤ _; rw [hC]; have := cuts_len 3 p true s; simp; omega
 clear hq hg hl hm HIH hC hcn
 obtain ⟨i0, hi0, hz0, hsz1, hsz2⟩ := info_parts info_rpt
 obtain ⟨j0, hj0, hzj, hsj1, hsj2⟩ := info_parts info_i64
 go_enter Tryz.func113, Tryz.ntmps113
 go_wp2_with fail
 go_loopw [0, 9] (fun vv wv wr => ∃ m : Nat, vv = .slice A0 e.length c0 ∧ wv = .int .i64 m ∧ 3 ≤ m ∧ m ≤ 3 ∧ Hid (QS wr B F (.slice A0 e.length c0) e) ∧ Hid (GB wr B A n l) ∧ Hid (Below w.heap.size w wr)) (fun _ wv _ => (intOf wv).toNat)
 case atStart => exact ⟨3, rfl, rfl, by omega, by omega, HQ, HG, Lib.hid (Below.refl _ _)⟩
 case round =>
  obtain ⟨m, rfl, rfl, hm1, hm3, hQ, hG, hB⟩ := hrel
  have l1 : decide ((2 : Int) ≤ (m : Int)) = true := by simp; omega
  have l2 : decide (2 ≤ m) = true := by simp; omega
  by_cases hmw : m = 3
  ·subst hmw
   have HCC0 := cuts_any A n c l wr hG.out.1 hn p q 3 s r HL.out hpq hqn HOK.out (by omega)
   rw [← HC0.out] at HCC0
   have HCC : Hid (Calls Tryz.prog 160 #[.slice A n c, .int .i64 p, .int .i64 q, .int .i64 3] wr fun e w' => ∃ v, e = .returned v ∧ w'.ownsRow wr.heap.size 3 1 v C.length ((pl C).map (Value.int .i64)) ∧ Below wr.heap.size wr w') := HCC0
   clear HCC0 l1 l2
   go_upto_region 7 with (go_at_call 160; (with_reducible refine (HCC.out).mono ?_); rintro en w1 ⟨v1, rfl, ho1, hb1⟩; obtain ⟨g1, c1, hv1, hnc1⟩ := CR.form (base0 ho1) (by omega); subst hv1; have HR1 := Lib.hid (base0 ho1); have HB1 := Lib.hid hb1; have hg1 : g1 < w1.heap.size := (World.ownsRow.lt ho1 g1 rfl).2; have hclb : ((C.length : Int) == 2) = false := (by simp; omega); have hclb2 : (C.length == 2) = false := (by simp; omega); clear ho1 hb1)
   have HP2 : Hid (PB (w1.alloc (.cells #[.int .i64 3, .int .i64 0, .int .i64 0, .string ⟨#[]⟩, .slice none 0 0] 124)) w1.heap.size 3 (.slice none 0 0)) := World.alloc_heap_new w1 _
   have HQ2 : Hid (QS (w1.alloc (.cells #[.int .i64 3, .int .i64 0, .int .i64 0, .string ⟨#[]⟩, .slice none 0 0] 124)) B (And1 F (.slice none 0 0)) (.slice A0 e.length c0) e) := ((hQ.out.below HB1.out).alloc _).weaken (fun g hg => by rcases hg with hg | hg; exact hg; simp [Value.ownBlock] at hg)
   have HG2 : Hid (GB (w1.alloc (.cells #[.int .i64 3, .int .i64 0, .int .i64 0, .string ⟨#[]⟩, .slice none 0 0] 124)) B A n l) := (hG.out.below HB1.out).below ((Below.refl _ _).alloc (Nat.le_refl _) _)
   have HR2 : Hid (CR (w1.alloc (.cells #[.int .i64 3, .int .i64 0, .int .i64 0, .string ⟨#[]⟩, .slice none 0 0] 124)) (.slice (some ⟨g1, 0, none⟩) C.length c1) C) := World.ownsRow.alloc HR1.out _
   have HW1 : Hid (Below w.heap.size w w1) := hB.out.trans (HB1.out.mono hB.out.size)
   have HW2 : Hid (w.grownBy (w1.alloc (.cells #[.int .i64 3, .int .i64 0, .int .i64 0, .string ⟨#[]⟩, .slice none 0 0] 124)) (Value.slice A0 e.length c0).ownBlock) := grown_after (below_grown' HW1.out) (World.grownBy_alloc _ _ _)
   have hz1 : w.heap.size ≤ w1.heap.size := HW1.out.size
   have HAT : Hid (At 3 l r C q s.length e' 0 [] e) := .inl ⟨p, s, by rw [HC0.out]; rfl, HL.out, hpq, HM.out, Nat.le_refl _, fun h => absurd rfl h⟩
   obtain ⟨pb, hpb⟩ : ∃ pb, pb = w1.heap.size := ⟨_, rfl⟩
   generalize w1.alloc (.cells #[.int .i64 3, .int .i64 0, .int .i64 0, .string ⟨#[]⟩, .slice none 0 0] 124) = W2 at HP2 HQ2 HG2 HR2 HW2 ⊢
   rw [← hpb] at HP2 hz1 hg1 ⊢
   clear hpb HW1 HR1 HB1 hQ hG hB HCC
   go_wp2_with fail
   go_loopw [0, 12] (fun vv iv wx => ∃ (i : Nat) (ks : List Nat) (e1 : List Pt) (A2 : Option Addr) (c2 : Nat) (Ak : Option Addr) (ck : Nat), vv = .slice A2 e1.length c2 ∧ iv = .int .i64 i ∧ i + 1 ≤ C.length ∧ ks.length = i ∧ Hid (At 3 l r C q s.length e' i ks e1) ∧ Hid (PB wx pb 3 (.slice Ak ks.length ck)) ∧ Hid (Kd wx (pb + 1) (.slice Ak ks.length ck) ks) ∧ Hid (QS wx B (And1 F (.slice Ak ks.length ck)) (.slice A2 e1.length c2) e1) ∧ Hid (GB wx B A n l) ∧ Hid (CR wx (.slice (some ⟨g1, 0, none⟩) C.length c1) C) ∧ Hid (w.grownBy wx (Value.slice A0 e.length c0).ownBlock) ∧ Hid (∀ g, (Value.slice A2 e1.length c2).ownBlock = some g → (Value.slice A0 e.length c0).ownBlock = some g ∨ pb < g)) (fun _ iv _ => C.length - (intOf iv).toNat)
   case atStart => exact ⟨0, [], e, A0, c0, none, 0, rfl, rfl, by omega, rfl, HAT, HP2, Lib.hid (Kd.nil _ _), HQ2, HG2, HR2, HW2, Lib.hid (fun g h => .inl h)⟩
   case round =>
    obtain ⟨i, ks, e1, A2, c2, Ak, ck, rfl, rfl, hi1, hks, hAt, hP, hK, hQ, hG, hR, hW, hV⟩ := hrel
    have hCn : Hid (C.length ≤ 2000) := hCb
    have HKS : Hid (ks.length = i) := hks
    clear hks
    have hiw : IntKind.i64.wrap ((i : Int) + 1) = (i : Int) + 1 := IntWalk.i64_in _ (by have := hCn.out; omega)
    have hiw2 : IntKind.i64.wrap ((i : Int) + 2) = (i : Int) + 2 := IntWalk.i64_in _ (by have := hCn.out; omega)
    by_cases hlt : i + 1 < C.length
    ·obtain ⟨f, t1, k, e2, s', r', hf, ht1, hpc, hdl, hft, hsl, htq, ht0, hfq, hat'⟩ := hAt.out.step hlt (by omega)
     have HAT' := Lib.hid hat'
     have he2 : e2.length ≤ 1000 := by have := hat'.le; omega
     have hk2 : Hid (e2.length = k + 1) := hpc.last
     have hkk : k < 1000 := by have := hk2.out; omega
     have hw6 : IntKind.i64.wrap ((e2.length : Int) - 1) = (k : Int) := by rw [IntWalk.i64_in _ (by omega)]; have := hk2.out; omega
     have cf := hR.out.at_ i f hf
     have ct := hR.out.at_ (i + 1) t1 ht1
     have hHI := hide (fun (T : Nat) (hT : f + s'.length = T) W h1 h2 => HI.out (And1 F (.slice Ak ks.length ck)) f T k s' r' e1 e2 W (.slice A2 e1.length c2) hpc hsl h1 h2 hdl hT he2)
     have g0 : (i : Int) < (C.length : Int) := by omega
     have g0' : i < C.length := by omega
     have g1' : (i : Int) + 1 < (C.length : Int) := by omega
     clear hf ht1 hpc hdl hsl hat'
     by_cases h2 : i + 2 < C.length
     ·have ht : f + s'.length = t1 - 1 := by rw [if_pos ⟨rfl, h2⟩] at hft; exact hft
      have hE0 := hHI.out (t1 - 1) ht wr hQ.out hG.out
      rw [show ((t1 - 1 : Nat) : Int) = (t1 : Int) - 1 from by omega] at hE0
      have hE := hide hE0
      have l3 : decide ((i : Int) + 2 < (C.length : Int)) = true := by simp; omega
      have l3' : decide (i + 2 < C.length) = true := by simp; omega
      clear hE0 h2 hft
      go_upto_region 14 with (go_at_call 113; (with_reducible refine (hE.out).mono ?_); rintro en w5 ⟨v5, rfl, hq5, hg5, hf5⟩; obtain ⟨A5, c5, hv5⟩ := hq5.form; subst hv5; have HQ5 := Lib.hid hq5; have HG5 := Lib.hid hg5; have HF5 := Lib.hid hf5; clear hq5 hg5 hf5)
      have hown2 := hQ.out.own
      have hv5 : ∀ g, (Value.slice A2 e1.length c2).ownBlock = some g → g ≠ pb ∧ B ≤ g ∧ ((Value.slice A0 e.length c0).ownBlock = some g ∨ w.heap.size ≤ g) := fun g hg => by
       have h1 := (hown2 g hg).1
       rcases hV.out g hg with h2 | h2
       ·exact ⟨by have := hv0.out g h2; omega, h1, .inl h2⟩
       ·exact ⟨by omega, h1, .inr (by omega)⟩
      have hint2 : ∀ g, (Value.slice A2 e1.length c2).ownBlock = some g → ∀ cur fr, wr.heap[g]? ≠ some (.cells cur 3 fr) := fun g hg cur fr hk => by
       obtain ⟨_, _, cs, fr2, h5⟩ := hown2 g hg
       rw [h5] at hk
       simp at hk
      have HP5 := Lib.hid (hP.out.kept HG5.out (fun e => (hv5 pb e.symm).1 rfl))
      have HK5 := Lib.hid (Kd.kept hK.out HG5.out hint2)
      have HGB5 := Lib.hid (hG.out.grown HG5.out (fun g hg => (hv5 g hg).2.1))
      have HR5 := Lib.hid (hR.out.kept HG5.out (fun g hg e => by
       obtain ⟨_, cs, fr, h6⟩ := ownsRow_row hR.out g e
       exact hint2 g hg cs fr h6))
      have HW5 := Lib.hid (grown_more hW.out HG5.out (fun g hg => (hv5 g hg).2.2))
      have HV5 : Hid (∀ g, (Value.slice A5 e2.length c5).ownBlock = some g → (Value.slice A0 e.length c0).ownBlock = some g ∨ pb < g) := fun g hg => by
       rcases HF5.out g hg with h | h
       ·exact hV.out g h
       ·exact .inr (by have := hP.out.lt; omega)
      have hpb5 : pb < w5.heap.size := HP5.out.lt
      have HROW := Lib.hid (row_one w5 (k : Int) (WalkArith.wf_i64 (by omega)))
      have HKA := Lib.hid (World.ownsRow.alloc HK5.out (.cells #[.int .i64 (k : Int)] 3))
      have HPA : Hid (PB (w5.alloc (.cells #[.int .i64 (k : Int)] 3)) pb 3 (.slice Ak ks.length ck)) := HP5.out.kept (World.grownBy_alloc _ _ none) (by simp)
      have HQA := Lib.hid (HQ5.out.alloc (.cells #[.int .i64 (k : Int)] 3))
      obtain ⟨_, _, _, _, p4⟩ := HP5.out.cells
      have hkw : IntKind.i64.wrap (k : Int) = (k : Int) := IntWalk.i64_in _ (by omega)
      have hkl : Hid (ks.length ≤ 2000) := by have := hCn.out; have := HKS.out; show _ ≤ _; omega
      clear hown2 hv5 hint2 hE hHI
      go_wp2_with (at_builtin; (refine wpList_app rfl (.tmp 60) (.tmp 64) _ rfl .i64 (pb + 1) 3 j0 8 Tryz.underlying39 hj0 hzj hsj1 hsj2 (by omega) _ ks.length (pl ks) rfl HKA.out _ 1 1 [(k : Int)] rfl HROW.out (by have := hkl.out; omega) (by simp; omega) ?_); intro v' w6 hown hg hat; have HK6 : Hid (Kd w6 (pb + 1) v' (ks ++ [k])) := (by show World.ownsRow _ _ _ _ _ _ _; simpa [pl] using hown); have HQ6 := Lib.hid (QS.kids HQA.out HKA.out hg HK6.out hat); have hkb : ∀ g, (Value.slice Ak ks.length ck).ownBlock = some g → pb + 1 ≤ g := (fun g hg => (World.ownsRow.lt HK5.out g hg).1); have HP6 := Lib.hid (HPA.out.kept hg (fun e => by have := hkb pb e.symm; omega)); have HGB6 := Lib.hid ((HGB5.out.below ((Below.refl _ _).alloc (Nat.le_refl _) _)).grown hg (fun g hg => by have := hkb g hg; omega)); have HR6 := Lib.hid (CR.kept (World.ownsRow.alloc HR5.out (.cells #[.int .i64 (k : Int)] 3)) hg (fun g hg e => by have := hkb g hg; simp [Value.ownBlock] at e; omega)); have HW6 := Lib.hid (grown_more (grown_more HW5.out (World.grownBy_alloc _ (.cells #[.int .i64 (k : Int)] 3) none) (fun g e => by cases e)) hg (fun g hg => .inr (by have := hkb g hg; omega))); obtain ⟨A6, c6, hv6⟩ := HK6.out.one; subst hv6; obtain ⟨_, _, _, _, q4⟩ := HP6.out.cells; have f4 := HP6.out.free 4; clear hown hg hat hkb)
      have hset := grown_set w6 pb 4 (.slice A6 (ks ++ [k]).length c6)
      have HP7 := Lib.hid (HP6.out.set (.slice A6 (ks ++ [k]).length c6))
      have HK7 := Lib.hid (Kd.kept HK6.out hset (HP6.out.not_int))
      have HQ7 := Lib.hid (HQ6.out.kept hset (fun g hg e => by
       injection hg with hg
       rcases HV5.out g e with h | h
       ·have := hv0.out g h; omega
       ·omega) (HP6.out.not_int))
      have HGB7 := Lib.hid (HGB6.out.grown hset (fun g hg => by injection hg with hg; omega))
      have HR7 := Lib.hid (HR6.out.kept hset (fun g hg e => by injection hg with hg; simp [Value.ownBlock] at e; omega))
      have HW7 := Lib.hid (grown_more HW6.out hset (fun g hg => .inr (by injection hg with hg; omega)))
      go_roundw
      case rel =>
       rw [show ks.length + 1 = (ks ++ [k]).length from by simp]
       exact ⟨i + 1, ks ++ [k], e2, A5, c5, A6, c6, rfl, by go_num, by omega, by simp [HKS.out], HAT', HP7, HK7, HQ7, HGB7, HR7, HW7, HV5⟩
      case measure => simp [intOf]; omega
     ·have ht : f + s'.length = t1 := by rw [if_neg (by omega)] at hft; exact hft
      have hE := hide (hHI.out t1 ht wr hQ.out hG.out)
      have l3 : decide ((i : Int) + 2 < (C.length : Int)) = false := by simp; omega
      have l3' : decide (i + 2 < C.length) = false := by simp; omega
      clear h2 hft
      go_upto_region 14 with (go_at_call 113; (with_reducible refine (hE.out).mono ?_); rintro en w5 ⟨v5, rfl, hq5, hg5, hf5⟩; obtain ⟨A5, c5, hv5⟩ := hq5.form; subst hv5; have HQ5 := Lib.hid hq5; have HG5 := Lib.hid hg5; have HF5 := Lib.hid hf5; clear hq5 hg5 hf5)
      have hown2 := hQ.out.own
      have hv5 : ∀ g, (Value.slice A2 e1.length c2).ownBlock = some g → g ≠ pb ∧ B ≤ g ∧ ((Value.slice A0 e.length c0).ownBlock = some g ∨ w.heap.size ≤ g) := fun g hg => by
       have h1 := (hown2 g hg).1
       rcases hV.out g hg with h2 | h2
       ·exact ⟨by have := hv0.out g h2; omega, h1, .inl h2⟩
       ·exact ⟨by omega, h1, .inr (by omega)⟩
      have hint2 : ∀ g, (Value.slice A2 e1.length c2).ownBlock = some g → ∀ cur fr, wr.heap[g]? ≠ some (.cells cur 3 fr) := fun g hg cur fr hk => by
       obtain ⟨_, _, cs, fr2, h5⟩ := hown2 g hg
       rw [h5] at hk
       simp at hk
      have HP5 := Lib.hid (hP.out.kept HG5.out (fun e => (hv5 pb e.symm).1 rfl))
      have HK5 := Lib.hid (Kd.kept hK.out HG5.out hint2)
      have HGB5 := Lib.hid (hG.out.grown HG5.out (fun g hg => (hv5 g hg).2.1))
      have HR5 := Lib.hid (hR.out.kept HG5.out (fun g hg e => by
       obtain ⟨_, cs, fr, h6⟩ := ownsRow_row hR.out g e
       exact hint2 g hg cs fr h6))
      have HW5 := Lib.hid (grown_more hW.out HG5.out (fun g hg => (hv5 g hg).2.2))
      have HV5 : Hid (∀ g, (Value.slice A5 e2.length c5).ownBlock = some g → (Value.slice A0 e.length c0).ownBlock = some g ∨ pb < g) := fun g hg => by
       rcases HF5.out g hg with h | h
       ·exact hV.out g h
       ·exact .inr (by have := hP.out.lt; omega)
      have hpb5 : pb < w5.heap.size := HP5.out.lt
      have HROW := Lib.hid (row_one w5 (k : Int) (WalkArith.wf_i64 (by omega)))
      have HKA := Lib.hid (World.ownsRow.alloc HK5.out (.cells #[.int .i64 (k : Int)] 3))
      have HPA : Hid (PB (w5.alloc (.cells #[.int .i64 (k : Int)] 3)) pb 3 (.slice Ak ks.length ck)) := HP5.out.kept (World.grownBy_alloc _ _ none) (by simp)
      have HQA := Lib.hid (HQ5.out.alloc (.cells #[.int .i64 (k : Int)] 3))
      obtain ⟨_, _, _, _, p4⟩ := HP5.out.cells
      have hkw : IntKind.i64.wrap (k : Int) = (k : Int) := IntWalk.i64_in _ (by omega)
      have hkl : Hid (ks.length ≤ 2000) := by have := hCn.out; have := HKS.out; show _ ≤ _; omega
      clear hown2 hv5 hint2 hE hHI
      go_wp2_with (at_builtin; (refine wpList_app rfl (.tmp 60) (.tmp 64) _ rfl .i64 (pb + 1) 3 j0 8 Tryz.underlying39 hj0 hzj hsj1 hsj2 (by omega) _ ks.length (pl ks) rfl HKA.out _ 1 1 [(k : Int)] rfl HROW.out (by have := hkl.out; omega) (by simp; omega) ?_); intro v' w6 hown hg hat; have HK6 : Hid (Kd w6 (pb + 1) v' (ks ++ [k])) := (by show World.ownsRow _ _ _ _ _ _ _; simpa [pl] using hown); have HQ6 := Lib.hid (QS.kids HQA.out HKA.out hg HK6.out hat); have hkb : ∀ g, (Value.slice Ak ks.length ck).ownBlock = some g → pb + 1 ≤ g := (fun g hg => (World.ownsRow.lt HK5.out g hg).1); have HP6 := Lib.hid (HPA.out.kept hg (fun e => by have := hkb pb e.symm; omega)); have HGB6 := Lib.hid ((HGB5.out.below ((Below.refl _ _).alloc (Nat.le_refl _) _)).grown hg (fun g hg => by have := hkb g hg; omega)); have HR6 := Lib.hid (CR.kept (World.ownsRow.alloc HR5.out (.cells #[.int .i64 (k : Int)] 3)) hg (fun g hg e => by have := hkb g hg; simp [Value.ownBlock] at e; omega)); have HW6 := Lib.hid (grown_more (grown_more HW5.out (World.grownBy_alloc _ (.cells #[.int .i64 (k : Int)] 3) none) (fun g e => by cases e)) hg (fun g hg => .inr (by have := hkb g hg; omega))); obtain ⟨A6, c6, hv6⟩ := HK6.out.one; subst hv6; obtain ⟨_, _, _, _, q4⟩ := HP6.out.cells; have f4 := HP6.out.free 4; clear hown hg hat hkb)
      have hset := grown_set w6 pb 4 (.slice A6 (ks ++ [k]).length c6)
      have HP7 := Lib.hid (HP6.out.set (.slice A6 (ks ++ [k]).length c6))
      have HK7 := Lib.hid (Kd.kept HK6.out hset (HP6.out.not_int))
      have HQ7 := Lib.hid (HQ6.out.kept hset (fun g hg e => by
       injection hg with hg
       rcases HV5.out g e with h | h
       ·have := hv0.out g h; omega
       ·omega) (HP6.out.not_int))
      have HGB7 := Lib.hid (HGB6.out.grown hset (fun g hg => by injection hg with hg; omega))
      have HR7 := Lib.hid (HR6.out.kept hset (fun g hg e => by injection hg with hg; simp [Value.ownBlock] at e; omega))
      have HW7 := Lib.hid (grown_more HW6.out hset (fun g hg => .inr (by injection hg with hg; omega)))
      go_roundw
      case rel =>
       rw [show ks.length + 1 = (ks ++ [k]).length from by simp]
       exact ⟨i + 1, ks ++ [k], e2, A5, c5, A6, c6, rfl, by go_num, by omega, by simp [HKS.out], HAT', HP7, HK7, HQ7, HGB7, HR7, HW7, HV5⟩
      case measure => simp [intOf]; omega
    ·have hfin := hAt.out.fin hlt
     have HFIN := Lib.hid hfin
     have l5 : decide ((i : Int) + 1 < (C.length : Int)) = false := by simp; omega
     have l5' : decide (i + 1 < C.length) = false := by simp; omega
     have hle : e1.length ≤ 1000 := by rw [hfin] at he; simp at he; omega
     have hV2 : Hid (∀ g, (Value.slice A2 e1.length c2).ownBlock = some g → (Value.slice A0 e.length c0).ownBlock = some g ∨ w.heap.size ≤ g) := fun g hg => by
      rcases hV.out g hg with h | h
      ·exact .inl h
      ·exact .inr (by omega)
     obtain ⟨vs, hrow, hpv, hav⟩ := hQ.out.row
     have hav2 : Av F vs := fun u hu g hg hf => hav u hu g hg (.inl hf)
     have HROW := Lib.hid hrow
     have HPV := Lib.hid hpv
     have HAV := Lib.hid hav2
     have HQF := Lib.hid (hQ.out.weaken (G := F) (fun g h => .inl h))
     have HKF : Hid (∀ g, (Value.slice Ak ks.length ck).ownBlock = some g → ¬ F g) := fun g hg hf => by
      have h1 := (World.ownsRow.lt hK.out g hg).1
      have h2 := HFW.out g hf
      omega
     have hbr : B ≤ wr.heap.size := hQ.out.bw
     obtain ⟨p0, p1, p2, p3, p4⟩ := hP.out.cells
     have HCE := Lib.hid (cells_one wr #[.int .i64 3, .int .i64 0, .int .i64 0, .string ⟨#[]⟩, .slice Ak ks.length ck] (pcells ⟨3, 0, 0, [], ks⟩ (.slice Ak ks.length ck)) rfl (t := 124))
     clear hlt hfin hrow hpv hav hav2
     go_wp2_with (at_builtin; (refine wpList_app_pt rfl (.tmp 67) (.tmp 69) 33 rfl B 124 i0 _ Tryz.underlying33 hi0 hz0 rfl hsz1 hsz2 _ e1.length vs rfl (HROW.out.alloc _) wr.heap.size 1 ⟨3, 0, 0, [], ks⟩ (.slice Ak ks.length ck) rfl rfl HCE.out (by omega) (by simp; omega) ?_); intro v' w2 hown hg hat; obtain ⟨A9, c9, hv9⟩ := own_form5 hown; subst hv9; have HOWN := Lib.hid hown; have HGR := Lib.hid hg; have HAT9 := Lib.hid hat; clear hown hg hat)
     have HB9 := BuildP.chain hW.out hV2.out (BuildP.more ((Below.refl _ _).alloc (Nat.le_refl _) _) (HQF.out.below ((Below.refl _ _).alloc (Nat.le_refl _) _)) (HROW.out.alloc _) (HPV.out.alloc _) HAV.out ⟨3, 0, 0, [], ks⟩ (.slice Ak ks.length ck) (World.ownsRow.alloc (Kd.base hK.out (by have := HFB.out; omega)) _) HKF.out HGR.out HOWN.out HAT9.out)
     have HB10 : BuildP B F w (.slice A0 e.length c0) e' (.returned (.slice A9 (e1.length + 1) c9)) w2 := by rw [HFIN.out]; exact HB9
     exact bodyPost_ret (v := .slice A9 (e1.length + 1) c9) (by simp [results, Tryz.results113, go_sem]) rfl HB10
  ·omega
theorem build_many2 (B : Nat) (F : Nat → Prop) (A : Option Addr) (n c : Nat) (l : List Sg) (hn : n ≤ 1000) (p q : Nat) (s : List Sg) (e e' : List Pt) (r : List Sg) (w : World) (v : Value) (hq : QS w B F v e) (hg : GB w B A n l) (hm : Many 2 [] s e e') (hnc : Cuts 3 p true s = []) (hl : l.drop p = s ++ r) (hpq : p + s.length = q) (he : e'.length ≤ 1000)
  (HIH : ∀ (F' : Nat → Prop) (f t k : Nat) (s' r' : List Sg) (e1 e2 : List Pt) (W : World) (v' : Value), Pc 2 s' e1 k e2 → s'.length < s.length → QS W B F' v' e1 → GB W B A n l → l.drop f = s' ++ r' → f + s'.length = t → e2.length ≤ 1000 → Calls Tryz.prog 113 #[v', .slice A n c, .int .i64 (f : Int), .int .i64 (t : Int)] W (BuildP B F' W v' e2)) :
  Calls Tryz.prog 113 #[v, .slice A n c, .int .i64 p, .int .i64 q] w (BuildP B F w v e') := by
 obtain ⟨A0, c0, rfl⟩ := hq.form
 have hqn : q ≤ n := by
  have := congrArg List.length hl
  rw [List.length_drop, hg.1.1, List.length_append] at this
  have h0 : 0 < s.length := hm.ne
  omega
 have HQ := hide hq
 have HG := hide hg
 have HL := hide hl
 have HM := hide hm
 have HI := hide HIH
 have HOK := Lib.hid hm.ok
 have hcn : 0 < (Cuts 2 p true s).length := hm.cuts_ne p
 have hbw : B ≤ w.heap.size := hq.bw
 have hel : e.length ≤ 1000 := by have := hm.le; omega
 obtain ⟨C, hC⟩ : ∃ C, C = p :: (Cuts 2 p true s ++ [q]) := ⟨_, rfl⟩
 have HC0 := Lib.hid hC
 have hCl : 3 ≤ C.length := by rw [hC]; simp; omega
 have hv0 : Hid (∀ g, (Value.slice A0 e.length c0).ownBlock = some g → g < w.heap.size) := fun g hg => (hq.own g hg).2.1
 have HN3 := hide hnc
 have HFW : Hid (∀ g, F g → g < w.heap.size) := hq.fw
 have HFB : Hid (B ≤ w.heap.size) := hbw
 have hCb : Hid (C.length ≤ 2000) := by show _ ≤ _; rw [hC]; have := cuts_len 2 p true s; simp; omega
 clear hq hg hl hm HIH hC hcn hnc
 obtain ⟨i0, hi0, hz0, hsz1, hsz2⟩ := info_parts info_rpt
 obtain ⟨j0, hj0, hzj, hsj1, hsj2⟩ := info_parts info_i64
 go_enter Tryz.func113, Tryz.ntmps113
 go_wp2_with fail
 go_loopw [0, 9] (fun vv wv wr => ∃ m : Nat, vv = .slice A0 e.length c0 ∧ wv = .int .i64 m ∧ 2 ≤ m ∧ m ≤ 3 ∧ Hid (QS wr B F (.slice A0 e.length c0) e) ∧ Hid (GB wr B A n l) ∧ Hid (Below w.heap.size w wr)) (fun _ wv _ => (intOf wv).toNat)
 case atStart => exact ⟨3, rfl, rfl, by omega, by omega, HQ, HG, Lib.hid (Below.refl _ _)⟩
 case round =>
  obtain ⟨m, rfl, rfl, hm1, hm3, hQ, hG, hB⟩ := hrel
  have l1 : decide ((2 : Int) ≤ (m : Int)) = true := by simp; omega
  have l2 : decide (2 ≤ m) = true := by simp; omega
  by_cases hmw : m = 2
  ·subst hmw
   have HCC0 := cuts_any A n c l wr hG.out.1 hn p q 2 s r HL.out hpq hqn HOK.out (by omega)
   rw [← HC0.out] at HCC0
   have HCC : Hid (Calls Tryz.prog 160 #[.slice A n c, .int .i64 p, .int .i64 q, .int .i64 2] wr fun e w' => ∃ v, e = .returned v ∧ w'.ownsRow wr.heap.size 3 1 v C.length ((pl C).map (Value.int .i64)) ∧ Below wr.heap.size wr w') := HCC0
   clear HCC0 l1 l2
   go_upto_region 7 with (go_at_call 160; (with_reducible refine (HCC.out).mono ?_); rintro en w1 ⟨v1, rfl, ho1, hb1⟩; obtain ⟨g1, c1, hv1, hnc1⟩ := CR.form (base0 ho1) (by omega); subst hv1; have HR1 := Lib.hid (base0 ho1); have HB1 := Lib.hid hb1; have hg1 : g1 < w1.heap.size := (World.ownsRow.lt ho1 g1 rfl).2; have hclb : ((C.length : Int) == 2) = false := (by simp; omega); have hclb2 : (C.length == 2) = false := (by simp; omega); clear ho1 hb1)
   have HP2 : Hid (PB (w1.alloc (.cells #[.int .i64 2, .int .i64 0, .int .i64 0, .string ⟨#[]⟩, .slice none 0 0] 124)) w1.heap.size 2 (.slice none 0 0)) := World.alloc_heap_new w1 _
   have HQ2 : Hid (QS (w1.alloc (.cells #[.int .i64 2, .int .i64 0, .int .i64 0, .string ⟨#[]⟩, .slice none 0 0] 124)) B (And1 F (.slice none 0 0)) (.slice A0 e.length c0) e) := ((hQ.out.below HB1.out).alloc _).weaken (fun g hg => by rcases hg with hg | hg; exact hg; simp [Value.ownBlock] at hg)
   have HG2 : Hid (GB (w1.alloc (.cells #[.int .i64 2, .int .i64 0, .int .i64 0, .string ⟨#[]⟩, .slice none 0 0] 124)) B A n l) := (hG.out.below HB1.out).below ((Below.refl _ _).alloc (Nat.le_refl _) _)
   have HR2 : Hid (CR (w1.alloc (.cells #[.int .i64 2, .int .i64 0, .int .i64 0, .string ⟨#[]⟩, .slice none 0 0] 124)) (.slice (some ⟨g1, 0, none⟩) C.length c1) C) := World.ownsRow.alloc HR1.out _
   have HW1 : Hid (Below w.heap.size w w1) := hB.out.trans (HB1.out.mono hB.out.size)
   have HW2 : Hid (w.grownBy (w1.alloc (.cells #[.int .i64 2, .int .i64 0, .int .i64 0, .string ⟨#[]⟩, .slice none 0 0] 124)) (Value.slice A0 e.length c0).ownBlock) := grown_after (below_grown' HW1.out) (World.grownBy_alloc _ _ _)
   have hz1 : w.heap.size ≤ w1.heap.size := HW1.out.size
   have HAT : Hid (At 2 l r C q s.length e' 0 [] e) := .inl ⟨p, s, by rw [HC0.out]; rfl, HL.out, hpq, HM.out, Nat.le_refl _, fun h => absurd rfl h⟩
   obtain ⟨pb, hpb⟩ : ∃ pb, pb = w1.heap.size := ⟨_, rfl⟩
   generalize w1.alloc (.cells #[.int .i64 2, .int .i64 0, .int .i64 0, .string ⟨#[]⟩, .slice none 0 0] 124) = W2 at HP2 HQ2 HG2 HR2 HW2 ⊢
   rw [← hpb] at HP2 hz1 hg1 ⊢
   clear hpb HW1 HR1 HB1 hQ hG hB HCC
   go_wp2_with fail
   go_loopw [0, 12] (fun vv iv wx => ∃ (i : Nat) (ks : List Nat) (e1 : List Pt) (A2 : Option Addr) (c2 : Nat) (Ak : Option Addr) (ck : Nat), vv = .slice A2 e1.length c2 ∧ iv = .int .i64 i ∧ i + 1 ≤ C.length ∧ ks.length = i ∧ Hid (At 2 l r C q s.length e' i ks e1) ∧ Hid (PB wx pb 2 (.slice Ak ks.length ck)) ∧ Hid (Kd wx (pb + 1) (.slice Ak ks.length ck) ks) ∧ Hid (QS wx B (And1 F (.slice Ak ks.length ck)) (.slice A2 e1.length c2) e1) ∧ Hid (GB wx B A n l) ∧ Hid (CR wx (.slice (some ⟨g1, 0, none⟩) C.length c1) C) ∧ Hid (w.grownBy wx (Value.slice A0 e.length c0).ownBlock) ∧ Hid (∀ g, (Value.slice A2 e1.length c2).ownBlock = some g → (Value.slice A0 e.length c0).ownBlock = some g ∨ pb < g)) (fun _ iv _ => C.length - (intOf iv).toNat)
   case atStart => exact ⟨0, [], e, A0, c0, none, 0, rfl, rfl, by omega, rfl, HAT, HP2, Lib.hid (Kd.nil _ _), HQ2, HG2, HR2, HW2, Lib.hid (fun g h => .inl h)⟩
   case round =>
    obtain ⟨i, ks, e1, A2, c2, Ak, ck, rfl, rfl, hi1, hks, hAt, hP, hK, hQ, hG, hR, hW, hV⟩ := hrel
    have hCn : Hid (C.length ≤ 2000) := hCb
    have HKS : Hid (ks.length = i) := hks
    clear hks
    have hiw : IntKind.i64.wrap ((i : Int) + 1) = (i : Int) + 1 := IntWalk.i64_in _ (by have := hCn.out; omega)
    have hiw2 : IntKind.i64.wrap ((i : Int) + 2) = (i : Int) + 2 := IntWalk.i64_in _ (by have := hCn.out; omega)
    by_cases hlt : i + 1 < C.length
    ·obtain ⟨f, t1, k, e2, s', r', hf, ht1, hpc, hdl, hft, hsl, htq, ht0, hfq, hat'⟩ := hAt.out.step hlt (by omega)
     have HAT' := Lib.hid hat'
     have he2 : e2.length ≤ 1000 := by have := hat'.le; omega
     have hk2 : Hid (e2.length = k + 1) := hpc.last
     have hkk : k < 1000 := by have := hk2.out; omega
     have hw6 : IntKind.i64.wrap ((e2.length : Int) - 1) = (k : Int) := by rw [IntWalk.i64_in _ (by omega)]; have := hk2.out; omega
     have cf := hR.out.at_ i f hf
     have ct := hR.out.at_ (i + 1) t1 ht1
     have hHI := hide (fun (T : Nat) (hT : f + s'.length = T) W h1 h2 => HI.out (And1 F (.slice Ak ks.length ck)) f T k s' r' e1 e2 W (.slice A2 e1.length c2) hpc hsl h1 h2 hdl hT he2)
     have g0 : (i : Int) < (C.length : Int) := by omega
     have g0' : i < C.length := by omega
     have g1' : (i : Int) + 1 < (C.length : Int) := by omega
     clear hf ht1 hpc hdl hsl hat'
     have ht : f + s'.length = t1 := by rw [if_neg (by omega)] at hft; exact hft
     have hE := hide (hHI.out t1 ht wr hQ.out hG.out)
     clear hft
     go_upto_region 14 with (go_at_call 113; (with_reducible refine (hE.out).mono ?_); rintro en w5 ⟨v5, rfl, hq5, hg5, hf5⟩; obtain ⟨A5, c5, hv5⟩ := hq5.form; subst hv5; have HQ5 := Lib.hid hq5; have HG5 := Lib.hid hg5; have HF5 := Lib.hid hf5; clear hq5 hg5 hf5)
     have hown2 := hQ.out.own
     have hv5 : ∀ g, (Value.slice A2 e1.length c2).ownBlock = some g → g ≠ pb ∧ B ≤ g ∧ ((Value.slice A0 e.length c0).ownBlock = some g ∨ w.heap.size ≤ g) := fun g hg => by
      have h1 := (hown2 g hg).1
      rcases hV.out g hg with h2 | h2
      ·exact ⟨by have := hv0.out g h2; omega, h1, .inl h2⟩
      ·exact ⟨by omega, h1, .inr (by omega)⟩
     have hint2 : ∀ g, (Value.slice A2 e1.length c2).ownBlock = some g → ∀ cur fr, wr.heap[g]? ≠ some (.cells cur 3 fr) := fun g hg cur fr hk => by
      obtain ⟨_, _, cs, fr2, h5⟩ := hown2 g hg
      rw [h5] at hk
      simp at hk
     have HP5 := Lib.hid (hP.out.kept HG5.out (fun e => (hv5 pb e.symm).1 rfl))
     have HK5 := Lib.hid (Kd.kept hK.out HG5.out hint2)
     have HGB5 := Lib.hid (hG.out.grown HG5.out (fun g hg => (hv5 g hg).2.1))
     have HR5 := Lib.hid (hR.out.kept HG5.out (fun g hg e => by
      obtain ⟨_, cs, fr, h6⟩ := ownsRow_row hR.out g e
      exact hint2 g hg cs fr h6))
     have HW5 := Lib.hid (grown_more hW.out HG5.out (fun g hg => (hv5 g hg).2.2))
     have HV5 : Hid (∀ g, (Value.slice A5 e2.length c5).ownBlock = some g → (Value.slice A0 e.length c0).ownBlock = some g ∨ pb < g) := fun g hg => by
      rcases HF5.out g hg with h | h
      ·exact hV.out g h
      ·exact .inr (by have := hP.out.lt; omega)
     have hpb5 : pb < w5.heap.size := HP5.out.lt
     have HROW := Lib.hid (row_one w5 (k : Int) (WalkArith.wf_i64 (by omega)))
     have HKA := Lib.hid (World.ownsRow.alloc HK5.out (.cells #[.int .i64 (k : Int)] 3))
     have HPA : Hid (PB (w5.alloc (.cells #[.int .i64 (k : Int)] 3)) pb 2 (.slice Ak ks.length ck)) := HP5.out.kept (World.grownBy_alloc _ _ none) (by simp)
     have HQA := Lib.hid (HQ5.out.alloc (.cells #[.int .i64 (k : Int)] 3))
     obtain ⟨_, _, _, _, p4⟩ := HP5.out.cells
     have hkw : IntKind.i64.wrap (k : Int) = (k : Int) := IntWalk.i64_in _ (by omega)
     have hkl : Hid (ks.length ≤ 2000) := by have := hCn.out; have := HKS.out; show _ ≤ _; omega
     clear hown2 hv5 hint2 hE hHI
     go_wp2_with (at_builtin; (refine wpList_app rfl (.tmp 60) (.tmp 64) _ rfl .i64 (pb + 1) 3 j0 8 Tryz.underlying39 hj0 hzj hsj1 hsj2 (by omega) _ ks.length (pl ks) rfl HKA.out _ 1 1 [(k : Int)] rfl HROW.out (by have := hkl.out; omega) (by simp; omega) ?_); intro v' w6 hown hg hat; have HK6 : Hid (Kd w6 (pb + 1) v' (ks ++ [k])) := (by show World.ownsRow _ _ _ _ _ _ _; simpa [pl] using hown); have HQ6 := Lib.hid (QS.kids HQA.out HKA.out hg HK6.out hat); have hkb : ∀ g, (Value.slice Ak ks.length ck).ownBlock = some g → pb + 1 ≤ g := (fun g hg => (World.ownsRow.lt HK5.out g hg).1); have HP6 := Lib.hid (HPA.out.kept hg (fun e => by have := hkb pb e.symm; omega)); have HGB6 := Lib.hid ((HGB5.out.below ((Below.refl _ _).alloc (Nat.le_refl _) _)).grown hg (fun g hg => by have := hkb g hg; omega)); have HR6 := Lib.hid (CR.kept (World.ownsRow.alloc HR5.out (.cells #[.int .i64 (k : Int)] 3)) hg (fun g hg e => by have := hkb g hg; simp [Value.ownBlock] at e; omega)); have HW6 := Lib.hid (grown_more (grown_more HW5.out (World.grownBy_alloc _ (.cells #[.int .i64 (k : Int)] 3) none) (fun g e => by cases e)) hg (fun g hg => .inr (by have := hkb g hg; omega))); obtain ⟨A6, c6, hv6⟩ := HK6.out.one; subst hv6; obtain ⟨_, _, _, _, q4⟩ := HP6.out.cells; have f4 := HP6.out.free 4; clear hown hg hat hkb)
     have hset := grown_set w6 pb 4 (.slice A6 (ks ++ [k]).length c6)
     have HP7 := Lib.hid (HP6.out.set (.slice A6 (ks ++ [k]).length c6))
     have HK7 := Lib.hid (Kd.kept HK6.out hset (HP6.out.not_int))
     have HQ7 := Lib.hid (HQ6.out.kept hset (fun g hg e => by
      injection hg with hg
      rcases HV5.out g e with h | h
      ·have := hv0.out g h; omega
      ·omega) (HP6.out.not_int))
     have HGB7 := Lib.hid (HGB6.out.grown hset (fun g hg => by injection hg with hg; omega))
     have HR7 := Lib.hid (HR6.out.kept hset (fun g hg e => by injection hg with hg; simp [Value.ownBlock] at e; omega))
     have HW7 := Lib.hid (grown_more HW6.out hset (fun g hg => .inr (by injection hg with hg; omega)))
     go_roundw
     case rel =>
      rw [show ks.length + 1 = (ks ++ [k]).length from by simp]
      exact ⟨i + 1, ks ++ [k], e2, A5, c5, A6, c6, rfl, by go_num, by omega, by simp [HKS.out], HAT', HP7, HK7, HQ7, HGB7, HR7, HW7, HV5⟩
     case measure => simp [intOf]; omega
    ·have hfin := hAt.out.fin hlt
     have HFIN := Lib.hid hfin
     have l5 : decide ((i : Int) + 1 < (C.length : Int)) = false := by simp; omega
     have l5' : decide (i + 1 < C.length) = false := by simp; omega
     have hle : e1.length ≤ 1000 := by rw [hfin] at he; simp at he; omega
     have hV2 : Hid (∀ g, (Value.slice A2 e1.length c2).ownBlock = some g → (Value.slice A0 e.length c0).ownBlock = some g ∨ w.heap.size ≤ g) := fun g hg => by
      rcases hV.out g hg with h | h
      ·exact .inl h
      ·exact .inr (by omega)
     obtain ⟨vs, hrow, hpv, hav⟩ := hQ.out.row
     have hav2 : Av F vs := fun u hu g hg hf => hav u hu g hg (.inl hf)
     have HROW := Lib.hid hrow
     have HPV := Lib.hid hpv
     have HAV := Lib.hid hav2
     have HQF := Lib.hid (hQ.out.weaken (G := F) (fun g h => .inl h))
     have HKF : Hid (∀ g, (Value.slice Ak ks.length ck).ownBlock = some g → ¬ F g) := fun g hg hf => by
      have h1 := (World.ownsRow.lt hK.out g hg).1
      have h2 := HFW.out g hf
      omega
     have hbr : B ≤ wr.heap.size := hQ.out.bw
     obtain ⟨p0, p1, p2, p3, p4⟩ := hP.out.cells
     have HCE := Lib.hid (cells_one wr #[.int .i64 2, .int .i64 0, .int .i64 0, .string ⟨#[]⟩, .slice Ak ks.length ck] (pcells ⟨2, 0, 0, [], ks⟩ (.slice Ak ks.length ck)) rfl (t := 124))
     clear hlt hfin hrow hpv hav hav2
     go_wp2_with (at_builtin; (refine wpList_app_pt rfl (.tmp 67) (.tmp 69) 33 rfl B 124 i0 _ Tryz.underlying33 hi0 hz0 rfl hsz1 hsz2 _ e1.length vs rfl (HROW.out.alloc _) wr.heap.size 1 ⟨2, 0, 0, [], ks⟩ (.slice Ak ks.length ck) rfl rfl HCE.out (by omega) (by simp; omega) ?_); intro v' w2 hown hg hat; obtain ⟨A9, c9, hv9⟩ := own_form5 hown; subst hv9; have HOWN := Lib.hid hown; have HGR := Lib.hid hg; have HAT9 := Lib.hid hat; clear hown hg hat)
     have HB9 := BuildP.chain hW.out hV2.out (BuildP.more ((Below.refl _ _).alloc (Nat.le_refl _) _) (HQF.out.below ((Below.refl _ _).alloc (Nat.le_refl _) _)) (HROW.out.alloc _) (HPV.out.alloc _) HAV.out ⟨2, 0, 0, [], ks⟩ (.slice Ak ks.length ck) (World.ownsRow.alloc (Kd.base hK.out (by have := HFB.out; omega)) _) HKF.out HGR.out HOWN.out HAT9.out)
     have HB10 : BuildP B F w (.slice A0 e.length c0) e' (.returned (.slice A9 (e1.length + 1) c9)) w2 := by rw [HFIN.out]; exact HB9
     exact bodyPost_ret (v := .slice A9 (e1.length + 1) c9) (by simp [results, Tryz.results113, go_sem]) rfl HB10
  ·have hm33 : m = 3 := by omega
   subst hm33
   have HCC0 := cuts_any A n c l wr hG.out.1 hn p q 3 s r HL.out hpq hqn HOK.out (by omega)
   rw [HN3.out] at HCC0
   have HCC : Hid (Calls Tryz.prog 160 #[.slice A n c, .int .i64 p, .int .i64 q, .int .i64 3] wr fun e w' => ∃ v, e = .returned v ∧ w'.ownsRow wr.heap.size 3 1 v (p :: ([] ++ [q])).length ((pl (p :: ([] ++ [q]))).map (Value.int .i64)) ∧ Below wr.heap.size wr w') := HCC0
   clear HCC0 hmw
   go_wp2_with (go_at_call 160; (with_reducible refine (HCC.out).mono ?_); rintro en w1 ⟨v1, rfl, ho1, hb1⟩; obtain ⟨A1, c1, hv1⟩ := two_cuts ho1; subst hv1; have HB1 := Lib.hid hb1; clear ho1 hb1)
   go_roundw
   case rel => exact ⟨2, rfl, rfl, by omega, by omega, hQ.out.below HB1.out, hG.out.below HB1.out, hB.out.trans (HB1.out.mono hB.out.size)⟩
   case measure => simp [intOf]
theorem build_all (B : Nat) (A : Option Addr) (n c : Nat) (l : List Sg) (hn : n ≤ 1000) : ∀ (N : Nat) (F : Nat → Prop) (p q : Nat) (s r : List Sg) (e e' : List Pt) (w : World) (v : Value), s.length < N → Shape s e e' → QS w B F v e → GB w B A n l → l.drop p = s ++ r → p + s.length = q → e'.length ≤ 1000 →
  Calls Tryz.prog 113 #[v, .slice A n c, .int .i64 p, .int .i64 q] w (BuildP B F w v e')
 | 0, _, _, _, _, _, _, _, _, _, h, _, _, _, _, _, _ => by omega
 | N + 1, F, p, q, s, r, e, e', w, v, hN, hs, hq, hg, hl, hpq, he => by
  cases hs with
  | @many way _ _ _ hw hm h2 =>
   rcases hw with rfl | rfl
   ·exact build_many2 B F A n c l hn p q s e e' r w v hq hg hm (cuts3_one (h2 rfl) p) hl hpq he (fun F' f t k s' r' e1 e2 W v' hpc hsl hq' hg' hl' ht he2 => build_all B A n c l hn N F' f t s' r' e1 e2 W v' (by omega) hpc.shape hq' hg' hl' ht he2)
   ·exact build_many3 B F A n c l hn p q s e e' r w v hq hg hm hl hpq he (fun F' f t k s' r' e1 e2 W v' hpc hsl hq' hg' hl' ht he2 => build_all B A n c l hn N F' f t s' r' e1 e2 W v' (by omega) hpc.shape hq' hg' hl' ht he2)
  | @times x k s1 _ e1 hb h5 =>
   simp only [List.length_append, List.length_cons, List.length_nil] at hN hpq he
   refine build_times B F A n c l hn p q x s1 k e e1 r w v hq hg h5 hb (fun W hq' hg' => ?_) hl (by simp; omega) (by omega)
   have h := build_all B A n c l hn N F p (q - 1) s1 (x :: r) e e1 W v (by omega) (shape_bare hb) hq' hg' (by rw [hl]; simp) (by omega) (by omega)
   rwa [show ((q - 1 : Nat) : Int) = (q : Int) - 1 from by omega] at h
  | @shut x y k s1 _ _ h2 hc h3 =>
   simp only [List.length_append, List.length_cons, List.length_nil] at hN hpq
   refine build_shut B F A n c l hn p q x y s1 k e e' r w v hq hg h2 h3 hc (fun W hq' hg' => ?_) hl (by simp; omega) he
   have h := build_all B A n c l hn N F (p + 1) (q - 1) s1 (y :: r) e e' W v (by omega) (shape_choice hc) hq' hg' (by rw [← List.drop_drop, hl]; simp) (by omega) he
   rwa [show ((q - 1 : Nat) : Int) = (q : Int) - 1 from by omega, Int.natCast_add] at h
  | @name x _ h1 =>
   exact build_name B F A n c l hn p q x e r w v hq hg h1 hl hpq (by simp at he; omega)
end Go.Proofs.YtnbchikiiipejaaGreatDoor.Ex
