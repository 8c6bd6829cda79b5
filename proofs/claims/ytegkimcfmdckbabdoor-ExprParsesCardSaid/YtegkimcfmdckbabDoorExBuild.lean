/- Walks of the reference of expressions: build. -/
import Derived.Test.YtegkimcfmdckbabDoorExMany
import Derived.Test.YtegkimcfmdckbabDoorExSev
import Derived.Deep.RegionLaw
namespace Go.Proofs.YtegkimcfmdckbabDoor.Ex
open Go.RowKit Mem Lx
set_option linter.unusedVariables false

theorem grown_after {a b c : World} {row : Option Nat} (h : a.grownBy b none) (g : b.grownBy c row) : a.grownBy c row :=
  ⟨g.os.trans h.os, g.tape.trans h.tape, g.output.trans h.output, Nat.le_trans h.size g.size, fun i hi hne => (g.block i (Nat.lt_of_lt_of_le hi h.size) hne).trans (h.block i hi (by simp))⟩
/-- parts in a row of one's own; no part's kids lie in a block of F -/
structure QS (w : World) (B : Nat) (F : Nat → Prop) (v : Value) (e : List Pt) : Prop where
  row : ∃ vs, w.ownsRow B 40 5 v e.length vs ∧ PVs w B e vs ∧ Av F vs
  bw : B ≤ w.heap.size
  fw : ∀ g, F g → g < w.heap.size
/-- what build answers: these parts, in the row that came, grown, or in a new one -/
def BuildP (B : Nat) (F : Nat → Prop) (w : World) (v : Value) (e' : List Pt) (en : Ending) (w' : World) : Prop :=
  ∃ v', en = .returned v' ∧ QS w' B F v' e' ∧ w.grownBy w' v.ownBlock ∧ ∀ g, v'.ownBlock = some g → v.ownBlock = some g ∨ w.heap.size ≤ g
theorem QS.below {w w' : World} {B : Nat} {F : Nat → Prop} {v : Value} {e : List Pt} (h : QS w B F v e) (hb : Below w.heap.size w w') : QS w' B F v e := by
  obtain ⟨⟨vs, g2, g3, g4⟩, d3, d4⟩ := h
  exact ⟨⟨vs, g2.kept (below_grown' hb) (Classical.em _), PVs.kept (below_grown' hb) (by intro g hg; cases hg) g3, g4⟩, Nat.le_trans d3 hb.size, fun g hg => Nat.lt_of_lt_of_le (d4 g hg) hb.size⟩
theorem QS.form {w : World} {B : Nat} {F : Nat → Prop} {v : Value} {e : List Pt} (h : QS w B F v e) : ∃ A c, v = .slice A e.length c := by
  obtain ⟨vs, h, _⟩ := h.row
  exact own_form5 h
theorem QS.own {w : World} {B : Nat} {F : Nat → Prop} {v : Value} {e : List Pt} (h : QS w B F v e) : ∀ g, v.ownBlock = some g → B ≤ g ∧ g < w.heap.size ∧ ∃ cs fr, w.heap[g]? = some (.cells cs 40 fr) := by
  obtain ⟨vs, h, _⟩ := h.row
  exact fun g hg => ⟨(h.lt g hg).1, (h.lt g hg).2, (ownsRow_row h g hg).2⟩
/-- one part more -/
theorem QS.more {w w' : World} {B : Nat} {F : Nat → Prop} {v v' : Value} {e : List Pt} {vs : List Value} (h : QS w B F v e) (hr : w.ownsRow B 40 5 v e.length vs) (hp : PVs w B e vs) (hav : Av F vs) (p : Pt) (kv : Value) (hk : Kd w B kv p.kids) (hkf : ∀ g, kv.ownBlock = some g → ¬ F g)
    (hg : w.grownBy w' v.ownBlock) (ho : w'.ownsRow B 40 5 v' (e.length + 1) (vs ++ pcells p kv)) : QS w' B F v' (e ++ [p]) := by
  have hown := ownsRow_row hr
  refine ⟨⟨vs ++ pcells p kv, by rw [List.length_append]; exact ho, PVs.more (hk.kept hg ?_) (PVs.kept hg ?_ hp), ?_⟩, Nat.le_trans h.bw hg.size, fun g hf => Nat.lt_of_lt_of_le (h.fw g hf) hg.size⟩
  · intro g hg3 cur fr hk2
    obtain ⟨_, cs, fr2, h5⟩ := hown g hg3
    rw [h5] at hk2
    simp at hk2
  · intro g hg3 cur fr hk2
    obtain ⟨_, cs, fr2, h5⟩ := hown g hg3
    rw [h5] at hk2
    simp at hk2
  · intro u hu g hg3
    rcases List.mem_append.1 hu with hu | hu
    · exact hav u hu g hg3
    · simp only [pcells, List.mem_cons, List.not_mem_nil, or_false] at hu
      rcases hu with rfl | rfl | rfl | rfl | rfl
      · simp [Value.ownBlock] at hg3
      · simp [Value.ownBlock] at hg3
      · simp [Value.ownBlock] at hg3
      · simp [Value.ownBlock] at hg3
      · exact hkf g hg3
theorem cells_one (W : World) (cs : Array Value) (l : List Value) (h : cs = l.toArray) {t : TypeId} : ∀ (j : Nat) (u : Value), l[j]? = some u → (W.alloc (.cells cs t)).cell? ⟨W.heap.size, j, none⟩ = some u := by
  intro j u hu
  have := World.alloc_heap_new W (.cells cs t)
  subst h
  unfold World.cell?
  simp only [this]
  simpa using hu
/-- a part laid at the end -/
theorem BuildP.more {w W w' : World} {B : Nat} {F : Nat → Prop} {v v' : Value} {e : List Pt} {vs : List Value} (hW : Below w.heap.size w W) (h : QS W B F v e) (hr : W.ownsRow B 40 5 v e.length vs) (hp : PVs W B e vs) (hav : Av F vs) (p : Pt) (kv : Value) (hk : Kd W B kv p.kids) (hkf : ∀ g, kv.ownBlock = some g → ¬ F g)
    (hg : W.grownBy w' v.ownBlock) (ho : w'.ownsRow B 40 5 v' (e.length + 1) (vs ++ pcells p kv)) (hat : v'.ownBlock = v.ownBlock ∨ v'.ownBlock = some W.heap.size) : BuildP B F w v (e ++ [p]) (.returned v') w' := by
  refine ⟨v', rfl, h.more hr hp hav p kv hk hkf hg ho, grown_after (below_grown' hW) hg, fun g hg2 => ?_⟩
  rcases hat with hat | hat
  · exact .inl (by rw [← hat]; exact hg2)
  · rw [hat] at hg2
    injection hg2 with hg2
    have := hW.size
    exact .inr (by omega)
theorem BuildP.after {w W w' : World} {B : Nat} {F : Nat → Prop} {v : Value} {e : List Pt} {en : Ending} (hW : Below w.heap.size w W) (h : BuildP B F W v e en w') : BuildP B F w v e en w' := by
  obtain ⟨v', h1, h2, h3, h4⟩ := h
  refine ⟨v', h1, h2, grown_after (below_grown' hW) h3, fun g hg => ?_⟩
  rcases h4 g hg with h5 | h5
  · exact .inl h5
  · exact .inr (Nat.le_trans hW.size h5)
theorem BuildP.chain {w W w' : World} {B : Nat} {F : Nat → Prop} {v v2 : Value} {e : List Pt} {en : Ending} (hg : w.grownBy W v.ownBlock) (hf : ∀ g, v2.ownBlock = some g → v.ownBlock = some g ∨ w.heap.size ≤ g) (h : BuildP B F W v2 e en w') : BuildP B F w v e en w' := by
  obtain ⟨v', h1, h2, h3, h4⟩ := h
  refine ⟨v', h1, h2, ⟨h3.os.trans hg.os, h3.tape.trans hg.tape, h3.output.trans hg.output, Nat.le_trans hg.size h3.size, fun i hi hne => ?_⟩, fun g hg2 => ?_⟩
  · refine (h3.block i (Nat.lt_of_lt_of_le hi hg.size) (fun e => ?_)).trans (hg.block i hi hne)
    rcases hf i e.symm with h5 | h5
    · exact hne h5.symm
    · omega
  · rcases h4 g hg2 with h5 | h5
    · exact hf g h5
    · exact .inr (Nat.le_trans hg.size h5)
theorem nth_drop {l s r : List Sg} {p : Nat} (h : l.drop p = s ++ r) (j : Nat) (x : Sg) (hx : (s ++ r)[j]? = some x) : l[p + j]? = some x := by
  rw [← h, List.getElem?_drop] at hx
  exact hx
section
variable {P : Program}
/-- 'append(e, p)' in a region that draws its order -/
theorem step_app_pt {w : World} {ops : Array Oper} {o : Oper} {a : Act} {K : Act → World → Prop} {Q : Exit → Act → World → Prop} {E : Prop} (hgd : o.guard = none) (s x : Operand) (t : TypeId)
    (ho : o.op = .call { callee := .builtin .append, args := #[s, x], argTypes := #[t, t] })
    (base : Nat) (e : TypeId) (i : TypeInfo) (z : Value) (ht : P.underlying t = some (.slice e)) (hi : P.info? e = some i) (hz : i.zero = some z) (hz1 : z.cells.size = 5)
    (hsize : i.size = 5) (hby : i.bytes = 64) (v : Value) (n : Nat) (vs : List Value) (hs : a.eval s = v) (hown : w.ownsRow base e 5 v n vs)
    (g c : Nat) (y : Pt) (kv : Value) (hkv : kv.oneCell' = true) (hx : a.eval x = .slice (some ⟨g, 0, none⟩) 1 c) (hc : ∀ j u, (pcells y kv)[j]? = some u → w.cell? ⟨g, j, none⟩ = some u) (hbig : n ≤ 1000000) (hbase : base ≤ w.heap.size)
    (h : ∀ v' w', w'.ownsRow base e 5 v' (n + 1) (vs ++ pcells y kv) → w.grownBy w' v.ownBlock → (v'.ownBlock = v.ownBlock ∨ v'.ownBlock = some w.heap.size) → K (a.put o.dst v') w') :
    if Region.wanted o (yielded ops a.tmps) = true then Oper.wp P o a w K Q else E := by
  have hw : Region.wanted o (yielded ops a.tmps) = true := by simp [Region.wanted, hgd]
  rw [if_pos hw]
  obtain ⟨v', w', hrun, h2, h3, h4⟩ := run_app_pt (P := P) base t o.type e i z ht hi hz hz1 hsize hby hown g c y kv hkv hc hbig hbase
  unfold Oper.wp
  simp [execOp, ho, resolve, invoke, builtin, hs, hx, hrun, Result.andThen]
  exact h v' w' h2 h3 h4
end
/-- signs that lie below a block -/
def GB (w : World) (B : Nat) (A : Option Addr) (n : Nat) (l : List Sg) : Prop := GRow w A n l ∧ (0 < n → ∃ b off, A = some ⟨b, off, none⟩ ∧ b < B)
theorem GB.grown {w w' : World} {B : Nat} {A : Option Addr} {n : Nat} {l : List Sg} {row : Option Nat} (h : GB w B A n l) (hg : w.grownBy w' row) (hr : ∀ g, row = some g → B ≤ g) : GB w' B A n l := by
  refine ⟨⟨h.1.1, fun hn => ?_⟩, h.2⟩
  obtain ⟨b, off, e1, e2, e3⟩ := h.1.2 hn
  obtain ⟨b', off', e4, e5⟩ := h.2 hn
  have hbb : b < B := by rw [e1] at e4; simp at e4; omega
  refine ⟨b, off, e1, Nat.lt_of_lt_of_le e2 hg.size, fun j hj => ?_⟩
  obtain ⟨a0, a1, a2, a3, a4⟩ := e3 j hj
  have hb : ∀ o, some (⟨b, o, none⟩ : Addr).block ≠ row := by intro o e; have := hr b e.symm; omega
  exact ⟨hg.cell a0 (hb _), hg.cell a1 (hb _), hg.cell a2 (hb _), hg.cell a3 (hb _), hg.cell a4 (hb _)⟩
theorem GB.below {w w' : World} {B : Nat} {A : Option Addr} {n : Nat} {l : List Sg} (h : GB w B A n l) (hb : Below w.heap.size w w') : GB w' B A n l := ⟨h.1.below hb, h.2⟩
/-- the sign at a place -/
theorem GB.at_ {w : World} {B : Nat} {A : Option Addr} {n : Nat} {l : List Sg} (h : GB w B A n l) (j : Nat) (hj : j < n) : ∃ b off x, A = some ⟨b, off, none⟩ ∧ l[j]? = some x ∧ w.cell? ⟨b, off + j * 5, none⟩ = some (.int .i64 x.kind) ∧ w.cell? ⟨b, off + j * 5 + 2, none⟩ = some (.int .i64 x.low) ∧ w.cell? ⟨b, off + j * 5 + 3, none⟩ = some (.int .i64 x.high) ∧ w.cell? ⟨b, off + j * 5 + 4, none⟩ = some (.string ⟨x.name.toArray⟩) := by
  obtain ⟨b, off, e1, e2, e3⟩ := h.1.2 (by omega)
  have hl : j < l.length := by rw [h.1.1]; exact hj
  obtain ⟨a0, a1, a2, a3, a4⟩ := e3 j hl
  exact ⟨b, off, l[j], e1, List.getElem?_eq_getElem hl, a0, a2, a3, a4⟩
theorem Many.le {way : Nat} {ks : List Nat} {s : List Sg} {e e' : List Pt} (h : Many way ks s e e') : e.length ≤ e'.length := by
  have one : ∀ {way : Nat} {s : List Sg} {e e' : List Pt} {k : Nat}, Pc way s e k e' → e.length ≤ e'.length := by
    intro way s e e' k h
    rcases h with ⟨_, h⟩ | ⟨_, h⟩ <;> (obtain ⟨n, h1, rfl, _⟩ := h.grown; simp)
  induction h with
  | last h _ => have := one h; simp; omega
  | row h _ ih => have := one h; omega
  | choice h _ _ ih => have := one h; omega
theorem At.le {way : Nat} {l r : List Sg} {C : List Nat} {q S : Nat} {e' : List Pt} {i : Nat} {ks : List Nat} {e1 : List Pt} (h : At way l r C q S e' i ks e1) : e1.length ≤ e'.length := by
  rcases h with ⟨f, t, _, _, _, h, _⟩ | ⟨_, rfl⟩
  · exact h.le
  · simp
/-- a cut row's two numbers -/
theorem two_cuts {w : World} {B : Nat} {v : Value} {p q : Nat} (h : w.ownsRow B 3 1 v (p :: ([] ++ [q])).length ((pl (p :: ([] ++ [q]))).map (Value.int .i64))) : ∃ A c, v = .slice A 2 c := own_form5 h
theorem PVs.alloc {w : World} {B : Nat} {ps : List Pt} {vs : List Value} (h : PVs w B ps vs) (o : Obj) : PVs (w.alloc o) B ps vs := PVs.kept (World.grownBy_alloc w o none) (by intro g hg; cases hg) h
theorem PVs.drew {w : World} {B : Nat} {ps : List Pt} {vs : List Value} (h : PVs w B ps vs) : PVs w.drew B ps vs := PVs.kept (w := w) (w' := w.drew) (row := none) ⟨rfl, rfl, rfl, Nat.le_refl _, fun _ _ _ => rfl⟩ (by intro g hg; cases hg) h
theorem times_end {w2 W w3 : World} {B : Nat} {F : Nat → Prop} {A2 : Option Addr} {c2 k : Nat} {e1 : List Pt} {v3 : Value} {vs : List Value} {lo hi : Int} (hk1 : e1.length = k + 1) (hq : QS w2 B F (.slice A2 e1.length c2) e1) (hb : Below w2.heap.size w2 W) (hr : W.ownsRow B 40 5 (.slice A2 (k + 1) c2) (k + 1) vs) (hp : PVs W B e1 vs) (hav : Av F vs)
    (hk : Kd W B (.slice (some ⟨w2.heap.size, 0, none⟩) 1 1) [k]) (hg : W.grownBy w3 (Value.slice A2 (k + 1) c2).ownBlock) (ho : w3.ownsRow B 40 5 v3 (k + 1 + 1) (vs ++ pcells ⟨4, lo, hi, [], [k]⟩ (.slice (some ⟨w2.heap.size, 0, none⟩) 1 1))) (hat : v3.ownBlock = (Value.slice A2 (k + 1) c2).ownBlock ∨ v3.ownBlock = some W.heap.size) :
    BuildP B F w2 (.slice A2 e1.length c2) (e1 ++ [⟨4, lo, hi, [], [k]⟩]) (.returned v3) w3 := by
  rw [← hk1] at hr hg ho hat
  exact BuildP.more hb (hq.below hb) hr hp hav ⟨4, lo, hi, [], [k]⟩ _ hk (by intro g hg2 hf; have := hq.fw g hf; simp [Value.ownBlock] at hg2; omega) hg ho hat
def Cut (w : World) (way p q : Nat) (s : List Sg) (A : Option Addr) (n c : Nat) : Prop :=
  Calls Tryd.prog 48 #[.slice A n c, .int .i64 p, .int .i64 q, .int .i64 way] w fun e w' => ∃ v, e = .returned v ∧ w'.ownsRow w.heap.size 3 1 v (p :: (Cuts way p true s ++ [q])).length ((pl (p :: (Cuts way p true s ++ [q]))).map (Value.int .i64)) ∧ Below w.heap.size w w'

set_option maxRecDepth 100000 in
set_option maxHeartbeats 4000000 in
theorem build_name (B : Nat) (F : Nat → Prop) (A : Option Addr) (n c : Nat) (l : List Sg) (hn : n ≤ 1000) (p q : Nat) (x : Sg) (e : List Pt) (r : List Sg) (w : World) (v : Value) (hq : QS w B F v e) (hg : GB w B A n l) (hx : x.kind = 1) (hl : l.drop p = [x] ++ r) (hpq : p + ([x]).length = q) (he : e.length < 1000) :
    Calls Tryd.prog 25 #[v, .slice A n c, .int .i64 p, .int .i64 q] w (BuildP B F w v (e ++ [⟨1, 0, 0, x.name, []⟩])) := by
  obtain ⟨A0, c0, rfl⟩ := hq.form
  have hqn : q ≤ n := by
    have := congrArg List.length hl
    rw [List.length_drop, hg.1.1, List.length_append] at this
    have h0 : 0 < ([x]).length := by simp
    omega
  have HQ := hide hq
  have HG := hide hg
  have HL := hide hl
  obtain ⟨s, hs⟩ : ∃ s, s = [x] := ⟨_, rfl⟩
  have HSS := Lib.hid hs
  have hpq0 := hpq
  rw [← hs] at HL hpq
  have HOK : Hid (Ok s) := by show Ok _; rw [hs]; exact (Sn.item (.name (e := []) hx)).ok'
  have HCUT : Hid (∀ m : Nat, m = 2 ∨ m = 3 → Cuts m p true s = []) := fun m hm => by rw [hs]; exact (Sn.item (.name (e := []) hx)).cuts_one m p
  have hbw : B ≤ w.heap.size := hq.bw
  have hel : e.length ≤ 1000 := by omega
  clear hq hg hl hs
  go_enter Tryd.func25, Tryd.ntmps25
  go_wp2_with fail
  go_loopw [0, 9] (fun vv wv wr => ∃ m : Nat, vv = .slice A0 e.length c0 ∧ wv = .int .i64 m ∧ 1 ≤ m ∧ m ≤ 3 ∧ Hid (QS wr B F (.slice A0 e.length c0) e) ∧ Hid (GB wr B A n l) ∧ Hid (Below w.heap.size w wr)) (fun _ wv _ => (intOf wv).toNat)
  case atStart => exact ⟨3, rfl, rfl, by omega, by omega, HQ, HG, Lib.hid (Below.refl _ _)⟩
  case round =>
    obtain ⟨m, rfl, rfl, hm1, hm3, hQ, hG, hB⟩ := hrel
    by_cases h2 : 2 ≤ m
    · have l1 : decide ((2 : Int) ≤ (m : Int)) = true := by simp; omega
      have l2 : decide (2 ≤ m) = true := by simp; omega
      have HC0 := cuts_any A n c l wr hG.out.1 hn p q m s r HL.out hpq hqn HOK.out (by omega)
      rw [HCUT.out m (by omega)] at HC0
      have HC := Lib.hid HC0
      clear HC0
      go_wp2_with (go_at_call 48; (with_reducible refine (HC.out).mono ?_); rintro en w1 ⟨v1, rfl, ho1, hb1⟩; obtain ⟨A1, c1, hv1⟩ := two_cuts ho1; subst hv1; have HB1 := Lib.hid hb1; clear ho1 hb1)
      go_roundw
      case rel => exact ⟨m - 1, rfl, by rw [Int.natCast_sub (by omega)]; rfl, by omega, by omega, hQ.out.below HB1.out, hG.out.below HB1.out, hB.out.trans (HB1.out.mono hB.out.size)⟩
      case measure => simp [intOf]; omega
    · have l1 : decide ((2 : Int) ≤ (m : Int)) = false := by simp; omega
      have l2 : decide (2 ≤ m) = false := by simp; omega
      have hz := hB.out.size
      obtain rfl : q = p + 1 := by simpa using hpq0.symm
      obtain ⟨b, off, x', rfl, hx1, a0, a2, a3, a4⟩ := hG.out.at_ p (by omega)
      have hx2 : l[p]? = some x := by
        have := congrArg (fun m => m[0]?) HL.out
        rw [HSS.out] at this
        simpa using this
      rw [hx1] at hx2
      injection hx2 with hx2
      subst hx2
      obtain ⟨kd, at_, lo, hi, nm⟩ := x'
      dsimp only at a0 a2 a3 a4 hx
      subst hx
      have hpn : p < n := by omega
      have hpn' : (p : Int) < (n : Int) := by omega
      obtain ⟨vs, hrow, hpv, hav⟩ := hQ.out.row
      have HROW := Lib.hid hrow
      have HPV := Lib.hid hpv
      have HAV := Lib.hid hav
      obtain ⟨i0, hi0, hz0, hs1, hs2⟩ := info_parts info_rpt
      clear hx1 hrow hpv hav a2 a3
      go_wp2_with (at_builtin; (refine wpList_app_pt rfl (.tmp 117) (.tmp 124) 28 rfl B 40 i0 _ Tryd.underlying28 hi0 hz0 rfl hs1 hs2 _ e.length vs rfl (HROW.out.alloc _) wr.heap.size 1 ⟨1, 0, 0, nm, []⟩ (.slice none 0 0) rfl rfl (cells_one wr _ _ rfl) (by omega) (by simp; omega) ?_); intro v' w2 hown hg hat; obtain ⟨A2, c2, hv2⟩ := own_form5 hown; subst hv2; have HOWN := Lib.hid hown; have HGR := Lib.hid hg; have HAT := Lib.hid hat; clear hown hg hat)
      exact bodyPost_ret (v := .slice A2 (e.length + 1) c2) (by simp [results, Tryd.results25, go_sem]) rfl (BuildP.more (hB.out.alloc hz _) (hQ.out.below ((Below.refl _ _).alloc (Nat.le_refl _) _)) (HROW.out.alloc _) (PVs.kept (World.grownBy_alloc _ _ none) (by intro g hg; cases hg) HPV.out) HAV.out ⟨1, 0, 0, nm, []⟩ (.slice none 0 0) (Kd.nil _ _) (by simp [Value.ownBlock]) HGR.out HOWN.out HAT.out)
set_option maxRecDepth 100000 in
set_option maxHeartbeats 4000000 in
theorem build_shut (B : Nat) (F : Nat → Prop) (A : Option Addr) (n c : Nat) (l : List Sg) (hn : n ≤ 1000) (p q : Nat) (x y : Sg) (s1 : List Sg) (k : Nat) (e e' : List Pt) (r : List Sg) (w : World) (v : Value) (hq : QS w B F v e) (hg : GB w B A n l) (hx : x.kind = 2) (hy : y.kind = 3) (hs1 : Sn (.choice []) s1 e k e') (HIH : ∀ W, QS W B F v e → GB W B A n l → Calls Tryd.prog 25 #[v, .slice A n c, .int .i64 ((p : Int) + 1), .int .i64 ((q : Int) - 1)] W (BuildP B F W v e')) (hl : l.drop p = (x :: (s1 ++ [y])) ++ r) (hpq : p + ((x :: (s1 ++ [y]))).length = q) (he : e'.length ≤ 1000) :
    Calls Tryd.prog 25 #[v, .slice A n c, .int .i64 p, .int .i64 q] w (BuildP B F w v (e')) := by
  obtain ⟨A0, c0, rfl⟩ := hq.form
  have hqn : q ≤ n := by
    have := congrArg List.length hl
    rw [List.length_drop, hg.1.1, List.length_append] at this
    have h0 : 0 < ((x :: (s1 ++ [y]))).length := by simp
    omega
  have HQ := hide hq
  have HG := hide hg
  have HL := hide hl
  obtain ⟨s, hs⟩ : ∃ s, s = (x :: (s1 ++ [y])) := ⟨_, rfl⟩
  have HSS := Lib.hid hs
  have hpq0 := hpq
  rw [← hs] at HL hpq
  have HOK : Hid (Ok s) := by show Ok _; rw [hs]; exact (Sn.item (.shut hx hs1 hy)).ok'
  have HCUT : Hid (∀ m : Nat, m = 2 ∨ m = 3 → Cuts m p true s = []) := fun m hm => by rw [hs]; exact (Sn.item (.shut hx hs1 hy)).cuts_one m p
  have hbw : B ≤ w.heap.size := hq.bw
  have hel : e.length ≤ 1000 := by (obtain ⟨_, _, h2, _⟩ := hs1.grown; rw [h2] at he; simp at he; omega)
  clear hq hg hl hs
  go_enter Tryd.func25, Tryd.ntmps25
  go_wp2_with fail
  go_loopw [0, 9] (fun vv wv wr => ∃ m : Nat, vv = .slice A0 e.length c0 ∧ wv = .int .i64 m ∧ 1 ≤ m ∧ m ≤ 3 ∧ Hid (QS wr B F (.slice A0 e.length c0) e) ∧ Hid (GB wr B A n l) ∧ Hid (Below w.heap.size w wr)) (fun _ wv _ => (intOf wv).toNat)
  case atStart => exact ⟨3, rfl, rfl, by omega, by omega, HQ, HG, Lib.hid (Below.refl _ _)⟩
  case round =>
    obtain ⟨m, rfl, rfl, hm1, hm3, hQ, hG, hB⟩ := hrel
    by_cases h2 : 2 ≤ m
    · have l1 : decide ((2 : Int) ≤ (m : Int)) = true := by simp; omega
      have l2 : decide (2 ≤ m) = true := by simp; omega
      have HC0 := cuts_any A n c l wr hG.out.1 hn p q m s r HL.out hpq hqn HOK.out (by omega)
      rw [HCUT.out m (by omega)] at HC0
      have HC := Lib.hid HC0
      clear HC0
      go_wp2_with (go_at_call 48; (with_reducible refine (HC.out).mono ?_); rintro en w1 ⟨v1, rfl, ho1, hb1⟩; obtain ⟨A1, c1, hv1⟩ := two_cuts ho1; subst hv1; have HB1 := Lib.hid hb1; clear ho1 hb1)
      go_roundw
      case rel => exact ⟨m - 1, rfl, by rw [Int.natCast_sub (by omega)]; rfl, by omega, by omega, hQ.out.below HB1.out, hG.out.below HB1.out, hB.out.trans (HB1.out.mono hB.out.size)⟩
      case measure => simp [intOf]; omega
    · have l1 : decide ((2 : Int) ≤ (m : Int)) = false := by simp; omega
      have l2 : decide (2 ≤ m) = false := by simp; omega
      have hz := hB.out.size
      have hlen : s.length = s1.length + 2 := by rw [HSS.out]; simp
      have HIH2 := hide HIH
      obtain ⟨b, off, x', hA1, hx1, a0, a2, a3, a4⟩ := hG.out.at_ p (by omega)
      obtain ⟨b', off', y', hA2, hy1, b0, b2, b3, b4⟩ := hG.out.at_ (q - 1) (by omega)
      have hx2 : l[p]? = some x := by
        have := nth_drop HL.out 0 x (by rw [HSS.out]; simp)
        simpa using this
      have hy2 : l[q - 1]? = some y := by
        have := nth_drop HL.out (s1.length + 1) y (by rw [HSS.out]; simp)
        rwa [show p + (s1.length + 1) = q - 1 from by omega] at this
      rw [hx1] at hx2
      rw [hy1] at hy2
      injection hx2 with hx2
      injection hy2 with hy2
      subst hx2
      subst hy2
      rw [hA1] at hA2
      simp only [Option.some.injEq, Addr.mk.injEq] at hA2
      obtain ⟨rfl, rfl, -⟩ := hA2
      subst hA1
      have hyx : y'.kind = 3 := hy
      have hxx : x'.kind = 2 := hx
      rw [hxx] at a0
      rw [hyx] at b0
      have hq1 : ((q - 1 : Nat) : Int) = (q : Int) - 1 := by omega
      have hqb : (q : Int) - 1 < (n : Int) := by omega
      have hqb0 : 0 ≤ (q : Int) - 1 := by omega
      have hqt : ((q : Int) - 1).toNat = q - 1 := by omega
      have hpn : p < n := by omega
      have hpn' : (p : Int) < (n : Int) := by omega
      clear a2 a3 a4 b2 b3 b4 hx1 hy1 hx hy hyx hxx hs1 HIH HCUT HOK hq1
      have HCC := Lib.hid (HIH2.out wr hQ.out hG.out)
      go_wp2_with (go_at_call 25; (with_reducible refine (HCC.out).mono ?_); rintro en w2 ⟨v2, rfl, hq2, hg2, hf2⟩; obtain ⟨A2, c2, hv2⟩ := hq2.form; subst hv2; have HQ2 := Lib.hid hq2; have HG2 := Lib.hid hg2; have HF2 := Lib.hid hf2; clear hq2 hg2 hf2)
      exact bodyPost_ret (v := .slice A2 e'.length c2) (by simp [results, Tryd.results25, go_sem]) rfl (BuildP.after hB.out ⟨_, rfl, HQ2.out, HG2.out, HF2.out⟩)
set_option maxRecDepth 100000 in
set_option maxHeartbeats 4000000 in
theorem build_times (B : Nat) (F : Nat → Prop) (A : Option Addr) (n c : Nat) (l : List Sg) (hn : n ≤ 1000) (p q : Nat) (x : Sg) (s1 : List Sg) (k : Nat) (e e1 : List Pt) (r : List Sg) (w : World) (v : Value) (hq : QS w B F v e) (hg : GB w B A n l) (hx : x.kind = 5) (hs1 : Sn .bare s1 e k e1) (HIH : ∀ W, QS W B F v e → GB W B A n l → Calls Tryd.prog 25 #[v, .slice A n c, .int .i64 (p : Int), .int .i64 ((q : Int) - 1)] W (BuildP B F W v e1)) (hl : l.drop p = (s1 ++ [x]) ++ r) (hpq : p + ((s1 ++ [x])).length = q) (he : e1.length ≤ 1000) :
    Calls Tryd.prog 25 #[v, .slice A n c, .int .i64 p, .int .i64 q] w (BuildP B F w v (e1 ++ [⟨4, x.low, x.high, [], [k]⟩])) := by
  obtain ⟨A0, c0, rfl⟩ := hq.form
  have hqn : q ≤ n := by
    have := congrArg List.length hl
    rw [List.length_drop, hg.1.1, List.length_append] at this
    have h0 : 0 < ((s1 ++ [x])).length := by simp
    omega
  have HQ := hide hq
  have HG := hide hg
  have HL := hide hl
  obtain ⟨s, hs⟩ : ∃ s, s = (s1 ++ [x]) := ⟨_, rfl⟩
  have HSS := Lib.hid hs
  have hpq0 := hpq
  rw [← hs] at HL hpq
  have HOK : Hid (Ok s) := by show Ok _; rw [hs]; exact (Sn.times hs1 hx).ok'
  have HCUT : Hid (∀ m : Nat, m = 2 ∨ m = 3 → Cuts m p true s = []) := fun m hm => by rw [hs]; exact (Sn.times hs1 hx).cuts_one m p
  have hbw : B ≤ w.heap.size := hq.bw
  have hel : e.length ≤ 1000 := by (obtain ⟨_, _, h2, _⟩ := hs1.grown; rw [h2] at he; simp at he; omega)
  clear hq hg hl hs
  go_enter Tryd.func25, Tryd.ntmps25
  go_wp2_with fail
  go_loopw [0, 9] (fun vv wv wr => ∃ m : Nat, vv = .slice A0 e.length c0 ∧ wv = .int .i64 m ∧ 1 ≤ m ∧ m ≤ 3 ∧ Hid (QS wr B F (.slice A0 e.length c0) e) ∧ Hid (GB wr B A n l) ∧ Hid (Below w.heap.size w wr)) (fun _ wv _ => (intOf wv).toNat)
  case atStart => exact ⟨3, rfl, rfl, by omega, by omega, HQ, HG, Lib.hid (Below.refl _ _)⟩
  case round =>
    obtain ⟨m, rfl, rfl, hm1, hm3, hQ, hG, hB⟩ := hrel
    by_cases h2 : 2 ≤ m
    · have l1 : decide ((2 : Int) ≤ (m : Int)) = true := by simp; omega
      have l2 : decide (2 ≤ m) = true := by simp; omega
      have HC0 := cuts_any A n c l wr hG.out.1 hn p q m s r HL.out hpq hqn HOK.out (by omega)
      rw [HCUT.out m (by omega)] at HC0
      have HC := Lib.hid HC0
      clear HC0
      go_wp2_with (go_at_call 48; (with_reducible refine (HC.out).mono ?_); rintro en w1 ⟨v1, rfl, ho1, hb1⟩; obtain ⟨A1, c1, hv1⟩ := two_cuts ho1; subst hv1; have HB1 := Lib.hid hb1; clear ho1 hb1)
      go_roundw
      case rel => exact ⟨m - 1, rfl, by rw [Int.natCast_sub (by omega)]; rfl, by omega, by omega, hQ.out.below HB1.out, hG.out.below HB1.out, hB.out.trans (HB1.out.mono hB.out.size)⟩
      case measure => simp [intOf]; omega
    · have l1 : decide ((2 : Int) ≤ (m : Int)) = false := by simp; omega
      have l2 : decide (2 ≤ m) = false := by simp; omega
      have hz := hB.out.size
      have hlen : s.length = s1.length + 1 := by rw [HSS.out]; simp
      have hs1n : 0 < s1.length := hs1.ne
      have hk1 : e1.length = k + 1 := hs1.last
      have HIH2 := hide HIH
      obtain ⟨b', off', y', hA2, hy1, b0, b2, b3, b4⟩ := hG.out.at_ (q - 1) (by omega)
      have hy2 : l[q - 1]? = some x := by
        have := nth_drop HL.out s1.length x (by rw [HSS.out]; simp)
        rwa [show p + s1.length = q - 1 from by omega] at this
      rw [hy1] at hy2
      injection hy2 with hy2
      subst hy2
      subst hA2
      have hyx : y'.kind = 5 := hx
      rw [hyx] at b0
      obtain ⟨kd, at_, lo, hi, nm⟩ := y'
      dsimp only at b2 b3
      have hqb : (q : Int) - 1 < (n : Int) := by omega
      have hqb0 : 0 ≤ (q : Int) - 1 := by omega
      have hqt : ((q : Int) - 1).toNat = q - 1 := by omega
      clear b4 hy1 hx hyx hs1 HIH HCUT HOK
      have HCC := Lib.hid (HIH2.out wr hQ.out hG.out)
      go_upto_region 18 with (go_at_call 25; (with_reducible refine (HCC.out).mono ?_); rintro en w2 ⟨v2, rfl, hq2, hg2, hf2⟩; obtain ⟨A2, c2, hv2⟩ := hq2.form; subst hv2; have HQ2 := Lib.hid hq2; have HG2 := Lib.hid hg2; have HF2 := Lib.hid hf2; clear hq2 hg2 hf2)
      obtain ⟨b2', off2', y2, hA3, hy3, d0, d2, d3, d4⟩ := (hG.out.grown HG2.out (fun g hg => (hQ.out.own g hg).1)).at_ (q - 1) (by omega)
      have hk2 : (e1.length : Int) - 1 = (k : Int) := by omega
      simp only [Option.some.injEq, Addr.mk.injEq] at hA3
      obtain ⟨rfl, rfl, -⟩ := hA3
      have hy4 : l[q - 1]? = some ⟨kd, at_, lo, hi, nm⟩ := by
        have := nth_drop HL.out s1.length ⟨kd, at_, lo, hi, nm⟩ (by rw [HSS.out]; simp)
        rwa [show p + s1.length = q - 1 from by omega] at this
      rw [hy3] at hy4
      injection hy4 with hy4
      subst hy4
      dsimp only at d0 d2 d3
      obtain ⟨i0, hi0, hz0, hs1, hs2⟩ := info_parts info_rpt
      clear d0 d4 b0 b2 b3 hy3
      have hw1 : IntKind.i64.wrap ((q : Int) - 1) = (q : Int) - 1 := IntWalk.i64_in _ (by omega)
      have hw2 : IntKind.i64.wrap ((k : Int) + 1 - 1) = (k : Int) := by rw [IntWalk.i64_in _ (by omega)]; omega
      have hkk : k < 1000 := by omega
      have hq1c : (1 : Int) ≤ (q : Int) := by omega
      have hw3 : IntKind.i64.wrap (k : Int) = (k : Int) := IntWalk.i64_in _ (by omega)
      obtain ⟨vs, hrow, hpv, hav⟩ := HQ2.out.row
      have HW : Hid (Below w.heap.size w wr ∧ wr.grownBy w2 (Value.slice A0 e.length c0).ownBlock ∧ ∀ g, (Value.slice A2 e1.length c2).ownBlock = some g → (Value.slice A0 e.length c0).ownBlock = some g ∨ wr.heap.size ≤ g) := ⟨hB.out, HG2.out, HF2.out⟩
      have HROW : Hid (((w2.alloc (.cells #[.int .i64 (k : Int)] 3)).alloc (.cells #[.int .i64 4, .int .i64 lo, .int .i64 hi, .string ⟨#[]⟩, .slice (some ⟨w2.heap.size, 0, none⟩) 1 1] 40)).drew.ownsRow B 40 5 (.slice A2 (k + 1) c2) (k + 1) vs) := by
        have h := (((hrow.alloc (.cells #[.int .i64 (k : Int)] 3)).alloc (.cells #[.int .i64 4, .int .i64 lo, .int .i64 hi, .string ⟨#[]⟩, .slice (some ⟨w2.heap.size, 0, none⟩) 1 1] 40)).drew)
        rw [hk1] at h
        exact h
      have HCE := Lib.hid (new_cells w2 (.cells #[.int .i64 (k : Int)] 3) #[.int .i64 4, .int .i64 lo, .int .i64 hi, .string ⟨#[]⟩, .slice (some ⟨w2.heap.size, 0, none⟩) 1 1] (pcells ⟨4, lo, hi, [], [k]⟩ (.slice (some ⟨w2.heap.size, 0, none⟩) 1 1)) rfl (t := 40))
      have HKD : Hid (Kd ((w2.alloc (.cells #[.int .i64 (k : Int)] 3)).alloc (.cells #[.int .i64 4, .int .i64 lo, .int .i64 hi, .string ⟨#[]⟩, .slice (some ⟨w2.heap.size, 0, none⟩) 1 1] 40)).drew B (.slice (some ⟨w2.heap.size, 0, none⟩) 1 1) [k]) := World.ownsRow.drew (World.ownsRow.alloc (one_kid w2 B k HQ2.out.bw) _)
      have HPV : Hid (PVs ((w2.alloc (.cells #[.int .i64 (k : Int)] 3)).alloc (.cells #[.int .i64 4, .int .i64 lo, .int .i64 hi, .string ⟨#[]⟩, .slice (some ⟨w2.heap.size, 0, none⟩) 1 1] 40)).drew B e1 vs) := ((hpv.alloc _).alloc _).drew
      have hbb : b' < w2.heap.size := World.block_lt_of_cell? w2 _ d2
      have HAV := Lib.hid hav
      have hbw2 : B ≤ w2.heap.size := HQ2.out.bw
      clear hrow hpv hav
      go_region_law (refine step_app_pt (by rfl) (.tmp 84) (.tmp 102) 28 (by rfl) B 40 i0 _ Tryd.underlying28 hi0 hz0 rfl hs1 hs2 (.slice A2 (k + 1) c2) (k + 1) vs (by simp [Act.eval]) HROW.out (w2.heap.size + 1) 1 ⟨4, lo, hi, [], [k]⟩ (.slice (some ⟨w2.heap.size, 0, none⟩) 1 1) rfl (by simp [Act.eval]) HCE.out (by omega) (by simp; omega) ?_; intro v' w3 hown hg hat; obtain ⟨A3, c3, hv3⟩ := own_form5 hown; subst hv3; have HOWN := Lib.hid hown; have HGR := Lib.hid hg; have HAT := Lib.hid hat; clear hown hg hat)
      all_goals (go_wp2_with fail; exact bodyPost_ret (v := .slice A3 (k + 1 + 1) c3) (by simp [results, Tryd.results25, go_sem]) rfl (BuildP.after HW.out.1 (BuildP.chain HW.out.2.1 HW.out.2.2 (times_end hk1 HQ2.out (below_drew1 (((Below.refl _ _).alloc (Nat.le_refl _) _).alloc (by simp) _)) HROW.out HPV.out HAV.out HKD.out HGR.out HOWN.out HAT.out))))
end Go.Proofs.YtegkimcfmdckbabDoor.Ex
