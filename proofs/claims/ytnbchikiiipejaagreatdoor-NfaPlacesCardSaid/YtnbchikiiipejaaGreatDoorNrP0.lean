/- Walk of the reference of nfa: seq. -/
import Derived.Test.YtnbchikiiipejaaGreatDoorNrThen
import Derived.Test.YtnbchikiiipejaaGreatDoorNfMany
import Derived.Test.YtnbchikiiipejaaGreatDoorNfW
set_option linter.unusedVariables false
set_option maxRecDepth 100000
set_option maxHeartbeats 8000000
namespace Go.Proofs.YtnbchikiiipejaaGreatDoor.Nf
open Go.RowKit Mem
open Bg (Bag)
open Ex (Pt PI PR KR pl)
theorem seq_any {base : Nat} (N b : Nat) (l : List En) (out x : Pc) (vo vb v0 v1 vf ve xo xb xf xe : Value) (w : World) (hN : RS base N w l vo vb) (hNb : N ≠ b) (hbox : RBox w b v0 v1 vf ve out.em) (hp : PcR w vf ve out) (hx : PcR w xf xe x) (hw : ∀ j, out.ends.has j = true → j < l.length) :
  Calls Tryz.prog 122 #[.pointer (some ⟨N, 0, none⟩), .pointer (some ⟨b, 0, none⟩), .agg #[xo, xb, xf, xe, .bool x.em]] w fun en w' => (∃ v, en = .returned v) ∧ ∃ vf' ve', RBox w' b v0 (.slice none 0 0) vf' ve' (join out x).em ∧ PcR w' vf' ve' (join out x) ∧ RS base N w' (lead out.ends x.first l) vo vb ∧ RFrame (fun k => k = b ∨ vb.ownBlock = some k) w w' := by
 have hNs : ∀ k, XS N vo vb k → k < w.heap.size := hN.lt
 obtain ⟨vf0, ve0, em0, hNx⟩ := hN.box
 have ne : (41 : TypeId) ≠ 3 := by decide
 have ne2 : (41 : TypeId) ≠ 39 := by decide
 have hnob : NoInts w (fun k => k = b) := noints_ty ne hbox.ty
 have hvob : ∀ {v : Value} {ls : List (List Int)}, LRows base w v ls → v.ownBlock ≠ some b := by
  intro v ls h e
  obtain ⟨_, _, cs, fr, hh⟩ := h.block b e
  obtain ⟨cs', fr', h2⟩ := hbox.ty
  rw [hh] at h2
  simp only [Option.some.injEq, Obj.cells.injEq] at h2
  exact ne2 h2.2.1.symm
 have hvbN : vb.ownBlock ≠ some N := by
  intro e
  obtain ⟨_, _, cs, fr, hh⟩ := hN.be.block N e
  obtain ⟨cs', fr', h2⟩ := hNx.ty
  rw [hh] at h2
  simp only [Option.some.injEq, Obj.cells.injEq] at h2
  exact ne2 h2.2.1.symm
 obtain ⟨Ab, cb, rfl⟩ := hN.be.form
 obtain ⟨m, hm⟩ : ∃ m, (l.map fun x => x.behind.list).length = m := ⟨_, rfl⟩
 rw [hm] at hN hNx hNs hvbN ⊢
 have hf0 : RFrame (fun k => k = b) w ((w.setCell ⟨b, 1, none⟩ (.slice Ab m cb)).alloc (.cells #[xo, xb, xf, xe, .bool x.em] 41)) := ((RFrame.refl (fun k => k = b) w).setCell (fun _ => rfl) 1 _).alloc _
 have hb1 : RBox ((w.setCell ⟨b, 1, none⟩ (.slice Ab m cb)).alloc (.cells #[xo, xb, xf, xe, .bool x.em] 41)) b v0 (.slice Ab m cb) vf ve out.em := (hbox.set1 _).below ((Below.refl _ _).alloc (Nat.le_refl _) _)
 have HTH := hide (then_any (base := base) b l out x v0 (.slice Ab m cb) vf ve xo xb xf xe _ hb1 (hp.frame hf0 hnob) (hx.frame hf0 hnob) (hN.be.frame hf0 hnob (fun g hg e => hvob hN.be (by rw [hg, e]))) hw)
 have HN := Lib.hid hN
 have HF0 := Lib.hid hf0
 have HNX := Lib.hid hNx
 have HVO := Lib.hid (hvob hN.on)
 have HVB := Lib.hid (hvob hN.be)
 have HNO := Lib.hid hnob
 have HBN := Lib.hid hvbN
 have HTY := Lib.hid hbox.ty
 have HON := Lib.hid (ons_leadL x.first out.ends.list l)
 obtain ⟨n0, n1, _, _, _⟩ := hNx.cell
 obtain ⟨c0, c1, c2, c3, c4⟩ := hbox.cell
 have f1 := hbox.free 1
 have hbl := hbox.lt
 have hNl := hNx.lt
 clear hN hf0 hNx hvob hnob hvbN hNs hm hb1 hbox hp hx hw
 go_enter Tryz.func122, Tryz.ntmps122
 go_wp2_with (go_at_call 177; (with_reducible refine (HTH.out).mono ?_); rintro en w1 ⟨⟨vv, rfl⟩, vf', ve', h1, h2, h3, h4⟩; have H1 := Lib.hid h1; have H2 := Lib.hid h2; have H3 := Lib.hid h3; have H4 := Lib.hid h4; obtain ⟨d0, d1, d2, d3, d4⟩ := h1.cell; have g1 := h1.free 1; clear h1 h2 h3 h4)
 go_end0
 have hz : RFrame (fun k => k = b) w1 (w1.setCell ⟨b, 1, none⟩ (.slice none 0 0)) := (RFrame.refl (fun k => k = b) w1).setCell (fun _ => rfl) 1 _
 have hnz : NoInts w1 (fun k => k = b) := noints_ty ne H1.out.ty
 have hF : RFrame (fun k => k = b ∨ (Value.slice Ab m cb).ownBlock = some k) w (w1.setCell ⟨b, 1, none⟩ (.slice none 0 0)) :=
  ((HF0.out.mono (fun k _ e => Or.inl e)).trans H4.out (fun k _ e => e)).trans hz (fun k _ e => .inl e)
 have hni : NoInts w (fun k => k = b ∨ (Value.slice Ab m cb).ownBlock = some k) := by
  rintro k (rfl | e) cs fr h
  ·exact HNO.out k rfl cs fr h
  ·exact HN.out.noints k (.inr (.inr e)) cs fr h
 refine ⟨⟨_, rfl⟩, vf', ve', H1.out.set1 _, H2.out.frame hz hnz, ⟨⟨vf0, ve0, em0, HNX.out.frame hF (fun e => e.elim (fun e => hNb e) (fun e => HBN.out e))⟩, ?_, ?_, HN.out.apart⟩, hF⟩
 ·unfold lead
  rw [HON.out]
  refine HN.out.on.frame hF hni ?_
  rintro g hg (e | e)
  ·exact HVO.out (by rw [hg, e])
  ·exact HN.out.apart g hg e
 ·exact H3.out.frame hz hnz (fun g hg e => HVB.out (by rw [hg, e]))
theorem refw_facts {e : List Pt} {m : List UInt8 → Bag} (he : ∀ p ∈ e, Fit p) (h4 : ∀ p ∈ e, p.kind = 1 ∨ p.kind = 2 ∨ p.kind = 3 ∨ p.kind = 4) (f k : Nat) (l : List En) (h : l.length + places e f k ≤ 256) :
  (refw e m f k l).2.length = l.length + places e f k ∧ (refw e m f k l).1.rng l.length (l.length + places e f k) := by
 rw [refw_write e m he h4 f k l h]
 obtain ⟨pc, ext, hx, hr, hw⟩ := write_adds e m f k l.length h
 rw [hw l rfl]
 exact ⟨by simp [hx], hr⟩
def OldOr (w : World) (v v' : Value) : Prop := ∀ g, v'.ownBlock = some g → v.ownBlock = some g ∨ w.heap.size ≤ g
theorem OldOr.refl (w : World) (v : Value) : OldOr w v v := fun g h => .inl h
theorem OldOr.trans {w W : World} {v v' v'' : Value} (h : OldOr w v v') (g : OldOr W v' v'') (hs : w.heap.size ≤ W.heap.size) : OldOr w v v'' := fun k hk => by
 rcases g k hk with e | e
 ·exact h k e
 ·exact .inr (by omega)
structure PT (w0 : World) (N : Nat) (w : World) (vo0 vb0 : Value) (p : Ex.PI) (kv : Value) (l : List En) (out : Pc) (vo vb vf ve : Value) (W : World) : Prop where
 net : RS w0.heap.size N W l vo vb
 oo : OldOr w vo0 vo
 ob : OldOr w vb0 vb
 fr : RFrame (XS N vo0 vb0) w W
 res : RBox W w.heap.size (.slice none 0 0) (.slice none 0 0) (.slice none 0 0) (.slice none 0 0) false
 part : RtAt W (w.heap.size + 1) p kv
 box : RBox W (w.heap.size + 1 + 1) (.slice none 0 0) (.slice none 0 0) vf ve out.em
 pc : PcR W vf ve out
 nlt : N < w.heap.size
section
variable {w0 w W W' : World} {N : Nat} {vo0 vb0 : Value} {p : Ex.PI} {kv : Value} {l l' : List En} {out : Pc} {vo vb vo' vb' vf ve : Value}
theorem RtAt.ty {W : World} {b : Nat} {p : Ex.PI} {kv : Value} (h : RtAt W b p kv) : ∃ cs fr, W.heap[b]? = some (.cells cs 124 fr) := ⟨_, _, h⟩
theorem ty_ne {W : World} {a b : Nat} {S T : TypeId} (hST : S ≠ T) (ha : ∃ cs fr, W.heap[a]? = some (.cells cs S fr)) (hb : ∃ cs fr, W.heap[b]? = some (.cells cs T fr)) : a ≠ b := by
 rintro rfl
 obtain ⟨c, f, h⟩ := ha
 obtain ⟨c', f', h'⟩ := hb
 rw [h] at h'
 simp only [Option.some.injEq, Obj.cells.injEq] at h'
 exact hST h'.2.1
theorem PT.off (h : PT w0 N w vo0 vb0 p kv l out vo vb vf ve W) : ∀ k, XS N vo vb k → k ≠ w.heap.size ∧ k ≠ w.heap.size + 1 ∧ k ≠ w.heap.size + 1 + 1 := by
 have h0 := h.nlt
 rintro k (rfl | hk | hk)
 ·omega
 ·have ty := (h.net.on.block k hk).2.2
  exact ⟨ty_ne (T := 41) (by decide) ty h.res.ty, ty_ne (T := 124) (by decide) ty h.part.ty, ty_ne (T := 41) (by decide) ty h.box.ty⟩
 ·have ty := (h.net.be.block k hk).2.2
  exact ⟨ty_ne (T := 41) (by decide) ty h.res.ty, ty_ne (T := 124) (by decide) ty h.part.ty, ty_ne (T := 41) (by decide) ty h.box.ty⟩
theorem RtAt.frame {X : Nat → Prop} {b : Nat} (h : RtAt W b p kv) (f : RFrame X W W') (hx : ¬ X b) : RtAt W' b p kv := by
 unfold RtAt; rw [f.block b h.lt hx]; exact h
theorem PT.below (h : PT w0 N w vo0 vb0 p kv l out vo vb vf ve W) (f : Below W.heap.size W W') : PT w0 N w vo0 vb0 p kv l out vo vb vf ve W' :=
 ⟨h.net.below f, h.oo, h.ob, h.fr.then f, h.res.below f, h.part.below f h.part.lt, h.box.below f, h.pc.below f, h.nlt⟩
theorem PT.old (h : PT w0 N w vo0 vb0 p kv l out vo vb vf ve W) : ∀ k, k < w.heap.size → XS N vo vb k → XS N vo0 vb0 k := by
 rintro k hk (rfl | e | e)
 ·exact .inl rfl
 ·rcases h.oo k e with g | g
  ·exact .inr (.inl g)
  ·omega
 ·rcases h.ob k e with g | g
  ·exact .inr (.inr g)
  ·omega
theorem PT.call (h : PT w0 N w vo0 vb0 p kv l out vo vb vf ve W) (hn : RS w0.heap.size N W' l' vo' vb') (f : RFrame (XS N vo vb) W W') (ho : OldOr W vo vo') (hb : OldOr W vb vb') : PT w0 N w vo0 vb0 p kv l' out vo' vb' vf ve W' :=
 have hs := h.fr.size
 ⟨hn, h.oo.trans ho hs, h.ob.trans hb hs, h.fr.trans f h.old, h.res.frame f (fun e => (h.off _ e).1 rfl), h.part.frame f (fun e => (h.off _ e).2.1 rfl), h.box.frame f (fun e => (h.off _ e).2.2 rfl), h.pc.frame f h.net.noints, h.nlt⟩
theorem PT.seq {out' : Pc} {vf' ve' : Value} (h : PT w0 N w vo0 vb0 p kv l out vo vb vf ve W) (hbox : RBox W' (w.heap.size + 1 + 1) (.slice none 0 0) (.slice none 0 0) vf' ve' out'.em) (hpc : PcR W' vf' ve' out') (hn : RS w0.heap.size N W' l' vo vb)
  (f : RFrame (fun k => k = w.heap.size + 1 + 1 ∨ vb.ownBlock = some k) W W') : PT w0 N w vo0 vb0 p kv l' out' vo vb vf' ve' W' :=
 ⟨hn, h.oo, h.ob, h.fr.trans f (by
   rintro k hk (e | e)
   ·omega
   ·exact h.old k hk (.inr (.inr e))), h.res.frame f (by
   rintro (e | e)
   ·omega
   ·exact (h.off _ (.inr (.inr e))).1 rfl), h.part.frame f (by
   rintro (e | e)
   ·omega
   ·exact (h.off _ (.inr (.inr e))).2.1 rfl), hbox, hpc, h.nlt⟩
end
def PartAt (w0 : World) (N : Nat) (A : Option Addr) (n c : Nat) (e : List Pt) (m : List UInt8 → Bag) (L : Value) (f : Nat) : Prop :=
 ∀ (k : Nat) (l : List En) (w : World) (vo vb : Value), k < f → k < n → Below w0.heap.size w0 w → RS w0.heap.size N w l vo vb → l.length + places e f k ≤ 256 →
  Calls Tryz.prog 73 #[.pointer (some ⟨N, 0, none⟩), .slice A n c, .int .i64 k, L] w fun en w' => ∃ vf ve vo' vb', en = .returned (rpV vf ve (refw e m f k l).1.em) ∧ PcR w' vf ve (refw e m f k l).1 ∧ RS w0.heap.size N w' (refw e m f k l).2 vo' vb' ∧ RFrame (XS N vo vb) w w' ∧ OldOr w vo vo' ∧ OldOr w vb vb'
end Go.Proofs.YtnbchikiiipejaaGreatDoor.Nf
namespace Go.Proofs.YtnbchikiiipejaaGreatDoor.Nf
open Go.RowKit Mem
open Bg (Bag)
open Ex (Pt PI PR KR pl)
def PartFor (w0 : World) (N : Nat) (A : Option Addr) (n c : Nat) (e : List Pt) (m : List UInt8 → Bag) (L : Value) (f k : Nat) : Prop :=
 ∀ (l : List En) (w : World) (vo vb : Value), Below w0.heap.size w0 w → RS w0.heap.size N w l vo vb → l.length + places e f k ≤ 256 →
  Calls Tryz.prog 73 #[.pointer (some ⟨N, 0, none⟩), .slice A n c, .int .i64 k, L] w fun en w' => ∃ vf ve vo' vb', en = .returned (rpV vf ve (refw e m f k l).1.em) ∧ PcR w' vf ve (refw e m f k l).1 ∧ RS w0.heap.size N w' (refw e m f k l).2 vo' vb' ∧ RFrame (XS N vo vb) w w' ∧ OldOr w vo vo' ∧ OldOr w vb vb'
def MnR (w0 : World) (Lv : Value) (m : List UInt8 → Bag) (E : List PI) : Prop :=
 ∀ p ∈ E, p.kind = 1 → ∀ W, Below w0.heap.size w0 W → Calls Tryz.prog 71 #[Lv, .string ⟨p.name.toArray⟩] W fun e W' => ∃ A n c, e = .returned (.slice A n c) ∧ LRow W' (.slice A n c) (m p.name).list ∧ Below W.heap.size W W'
section
variable {P : Program}
theorem step_app_one {w : World} {ops : Array Oper} {o : Oper} {a : Act} {K : Act → World → Prop} {Q : Exit → Act → World → Prop} {E : Prop} (hgd : o.guard = none) (s x : Operand) (t : TypeId)
  (ho : o.op = .call { callee := .builtin .append, args := #[s, x], argTypes := #[t, t] })
  (base : Nat) (e : TypeId) (i : TypeInfo) (z : Value) (bytes : Nat) (ht : P.underlying t = some (.slice e)) (hi : P.info? e = some i) (hz : i.zero = some z) (hz1 : z.cells.size = 1)
  (hsize : i.size = 1) (hby : i.bytes = bytes) (hb8 : bytes ≤ 64) (v : Value) (n : Nat) (xs : List Value) (hs : a.eval s = v) (hown : w.ownsRow base e 1 v n xs)
  (g c : Nat) (y : Value) (hx : a.eval x = .slice (some ⟨g, 0, none⟩) 1 c) (hc : w.cell? ⟨g, 0, none⟩ = some y) (hy : y.oneCell' = true) (hbig : n ≤ 1000000) (hbase : base ≤ w.heap.size)
  (h : ∀ v' w', w'.ownsRow base e 1 v' (n + 1) (xs ++ [y]) → w.grownBy w' v.ownBlock → (v'.ownBlock = v.ownBlock ∨ v'.ownBlock = some w.heap.size) → K (a.put o.dst v') w') :
  if Region.wanted o (yielded ops a.tmps) = true then Oper.wp P o a w K Q else E := by
 have hw : Region.wanted o (yielded ops a.tmps) = true := by simp [Region.wanted, hgd]
 rw [if_pos hw]
 have hsum : (n + 1) * bytes ≤ 140737488355328 := by
  have := Nat.mul_le_mul (show n + 1 ≤ 1000001 by omega) hb8
  omega
 obtain ⟨v', w', hrun, h2, h3, _, h5⟩ := run_append_own_at (P := P) w base t o.type e i z 1 bytes ht hi hz hsize hby hz1 (by omega) v n xs hown ⟨g, 0, none⟩ 1 c [y]
  (by simp) (fun j u hu => by
    match j with
    | 0 =>
     simp at hu; subst hu
     have hp : (⟨g, 0, none⟩ : Addr).add 0 = ⟨g, 0, none⟩ := by unfold Addr.add; split <;> simp_all
     rw [hp]; exact hc
    | j + 1 => simp at hu) (by intro u hu; simp at hu; subst hu; exact hy) (by simp only [maxLen]; omega) hsum hbase
 unfold Oper.wp
 simp [execOp, ho, resolve, invoke, builtin, hs, hx, hrun, Result.andThen]
 exact h v' w' h2 h3 h5
end
theorem info_sl : (Tryz.prog.info? 39).map (fun i => (i.zero, i.size, i.bytes)) = some (some (.slice none 0 0), 1, 24) := by kernel_rfl
theorem withN_list (n : Nat) (h : n < 256) : (Bg.nil.withN n).list = [(n : Int)] := by
 refine rise_ext (list_rise _) (by simp) fun z => ?_
 rw [Bg.mem_list]
 simp only [List.mem_cons, List.not_mem_nil, or_false]
 constructor
 ·intro hz
  have h0 : 0 ≤ z := list_nonneg _ z ((Bg.mem_list _ _).2 hz)
  obtain ⟨j, rfl⟩ := Int.eq_ofNat_of_zero_le h0
  rw [← Bg.has_hasI, Bg.has_withN _ _ _ h, Bg.has_nil, Bool.false_or] at hz
  have := of_decide_eq_true hz
  omega
 ·rintro rfl
  rw [← Bg.has_hasI, Bg.has_withN _ _ _ h, Bg.has_nil, Bool.false_or]
  exact decide_eq_true rfl
theorem nil_list : Bg.nil.list = [] := by
 refine rise_ext (list_rise _) (by simp) fun z => ?_
 rw [Bg.mem_list]
 constructor
 ·intro hz
  have h0 : 0 ≤ z := list_nonneg _ z ((Bg.mem_list _ _).2 hz)
  obtain ⟨j, rfl⟩ := Int.eq_ofNat_of_zero_le h0
  rw [← Bg.has_hasI, Bg.has_nil] at hz; cases hz
 ·intro h; simp at h
theorem lrow_one (W : World) (n : Nat) (h : n ≤ 1000) : LRow (W.alloc (.cells #[.int .i64 (n : Int)] 3)) (.slice (some ⟨W.heap.size, 0, none⟩) 1 1) [(n : Int)] := by
 refine ⟨_, _, rfl, one_row W n (WalkArith.wf_i64 (by omega)), fun b off s e => ?_⟩
 simp only [Option.some.injEq, Addr.mk.injEq] at e
 rw [← e.1]
 exact ⟨_, _, heap_alloc_new W _⟩
section
variable {w0 w W : World} {N : Nat} {vo0 vb0 : Value} {p : PI} {kv : Value} {l : List En} {out : Pc} {vo vb vf ve : Value}
theorem PT.set {out' : Pc} {vf' ve' u : Value} {j : Nat} (h : PT w0 N w vo0 vb0 p kv l out vo vb vf ve W) (hbox : RBox (W.setCell ⟨w.heap.size + 1 + 1, j, none⟩ u) (w.heap.size + 1 + 1) (.slice none 0 0) (.slice none 0 0) vf' ve' out'.em)
  (hpc : PcR W vf' ve' out') : PT w0 N w vo0 vb0 p kv l out' vo vb vf' ve' (W.setCell ⟨w.heap.size + 1 + 1, j, none⟩ u) := by
 have f : RFrame (fun k => k = w.heap.size + 1 + 1) W (W.setCell ⟨w.heap.size + 1 + 1, j, none⟩ u) := (RFrame.refl (fun k => k = w.heap.size + 1 + 1) W).setCell (fun _ => rfl) j u
 have n : NoInts W (fun k => k = w.heap.size + 1 + 1) := noints_ty (T := 41) (by decide) h.box.ty
 exact ⟨h.net.frame f (fun k hk e => (h.off k hk).2.2 e) n, h.oo, h.ob, h.fr.trans f (fun k hk e => by omega), h.res.other (by omega) _ _, h.part.frame f (fun e => by omega), hbox, hpc.frame f n, h.nlt⟩
theorem PT.setF {zf : Bag} {u : Value} (h : PT w0 N w vo0 vb0 p kv l out vo vb vf ve W) (hu : LRow W u zf.list) : PT w0 N w vo0 vb0 p kv l ⟨out.em, zf, out.ends⟩ vo vb u ve (W.setCell ⟨w.heap.size + 1 + 1, 2, none⟩ u) :=
 h.set (h.box.set2 u) ⟨hu, h.pc.2⟩
theorem PT.setE {zf : Bag} {u : Value} (h : PT w0 N w vo0 vb0 p kv l out vo vb vf ve W) (hu : LRow W u zf.list) : PT w0 N w vo0 vb0 p kv l ⟨out.em, out.first, zf⟩ vo vb vf u (W.setCell ⟨w.heap.size + 1 + 1, 3, none⟩ u) :=
 h.set (h.box.set3 u) ⟨h.pc.1, hu⟩
theorem PT.setM (h : PT w0 N w vo0 vb0 p kv l out vo vb vf ve W) (em : Bool) : PT w0 N w vo0 vb0 p kv l ⟨em, out.first, out.ends⟩ vo vb vf ve (W.setCell ⟨w.heap.size + 1 + 1, 4, none⟩ (.bool em)) :=
 h.set (h.box.set4 em) h.pc
end
structure PL (w0 : World) (N : Nat) (w : World) (vo0 vb0 : Value) (lo lb : List (List Int)) (vo vb vf ve : Value) (W : World) : Prop where
 box : ∃ vf ve em, RBox W N vo vb vf ve em
 on : LRows w0.heap.size W vo lo
 be : LRows w0.heap.size W vb lb
 apart : ∀ g, vo.ownBlock = some g → vb.ownBlock ≠ some g
 oo : OldOr w vo0 vo
 ob : OldOr w vb0 vb
 fr : RFrame (XS N vo0 vb0) w W
 res : RBox W w.heap.size (.slice none 0 0) (.slice none 0 0) (.slice none 0 0) (.slice none 0 0) false
 out : RBox W (w.heap.size + 1 + 1) (.slice none 0 0) (.slice none 0 0) vf ve false
 nlt : N < w.heap.size
section
variable {w0 w W W' W5 : World} {N : Nat} {vo0 vb0 : Value} {lo lb : List (List Int)} {vo vb vf ve v' u : Value} {z : List Int} {vs : List Value}
theorem PL.below (h : PL w0 N w vo0 vb0 lo lb vo vb vf ve W) (f : Below W.heap.size W W') : PL w0 N w vo0 vb0 lo lb vo vb vf ve W' := by
 obtain ⟨a, b, c, hx⟩ := h.box
 exact ⟨⟨a, b, c, hx.below f⟩, h.on.below f, h.be.below f, h.apart, h.oo, h.ob, h.fr.then f, h.res.below f, h.out.below f, h.nlt⟩
theorem PL.on_out (h : PL w0 N w vo0 vb0 lo lb vo vb vf ve W) : (∀ g, vo.ownBlock = some g → g ≠ N ∧ g ≠ w.heap.size ∧ g ≠ w.heap.size + 1 + 1) ∧ (∀ g, vb.ownBlock = some g → g ≠ N ∧ g ≠ w.heap.size ∧ g ≠ w.heap.size + 1 + 1) := by
 obtain ⟨a, b, c, hx⟩ := h.box
 have ne : (39 : TypeId) ≠ 41 := by decide
 exact ⟨fun g hg => ⟨ty_ne ne (h.on.block g hg).2.2 hx.ty, ty_ne ne (h.on.block g hg).2.2 h.res.ty, ty_ne ne (h.on.block g hg).2.2 h.out.ty⟩,
  fun g hg => ⟨ty_ne ne (h.be.block g hg).2.2 hx.ty, ty_ne ne (h.be.block g hg).2.2 h.res.ty, ty_ne ne (h.be.block g hg).2.2 h.out.ty⟩⟩
theorem PL.appOn (h : PL w0 N w vo0 vb0 lo lb vo vb vf ve W) (hv : ∀ (i : Nat) (l : List Int), lo[i]? = some l → ∃ u, vs[i]? = some u ∧ LRow W u l) (hl : vs.length = lo.length)
  (ho : W5.ownsRow w0.heap.size 39 1 v' (lo.length + 1) (vs ++ [u])) (hg : W.grownBy W5 vo.ownBlock) (hat : v'.ownBlock = vo.ownBlock ∨ v'.ownBlock = some W.heap.size) (hu : LRow W u z) :
  PL w0 N w vo0 vb0 (lo ++ [z]) lb v' vb vf ve (W5.setCell ⟨N, 0, none⟩ v') := by
 have f1 : RFrame (fun k => vo.ownBlock = some k) W W5 := (RFrame.refl _ W).grown hg (fun r e _ => e)
 have n1 : NoInts W (fun k => vo.ownBlock = some k) := fun k e => noints_ty (T := 39) (by decide) (h.on.block k e).2.2 k rfl
 have hon := LRows.snoc hv hl ho hu f1 n1
 have ho1 := h.on_out.1
 have hb1 := h.on_out.2
 have hbe := h.be.frame f1 n1 (fun g e e2 => h.apart g e2 e)
 obtain ⟨a, b, c, hx⟩ := h.box
 have hx1 := hx.frame f1 (fun e => (ho1 _ e).1 rfl)
 have hr1 := h.res.frame f1 (fun e => (ho1 _ e).2.1 rfl)
 have hq1 := h.out.frame f1 (fun e => (ho1 _ e).2.2 rfl)
 have nl := h.nlt
 have hv'N : v'.ownBlock ≠ some N := by
  intro e
  exact ty_ne (S := 39) (T := 41) (by decide) (hon.block N e).2.2 hx1.ty rfl
 have hvbN : vb.ownBlock ≠ some N := fun e => (hb1 N e).1 rfl
 have ne : (41 : TypeId) ≠ 3 := by decide
 have hs := h.fr.size
 refine ⟨⟨a, b, c, hx1.set0 v'⟩, hon.setCell ne hx1.ty hv'N _ _, hbe.setCell ne hx1.ty hvbN _ _, ?_, ?_, h.ob, (h.fr.trans f1 ?_).setCell (fun _ => .inl rfl) _ _, hr1.other (by omega) _ _, hq1.other (by omega) _ _, h.nlt⟩
 ·intro g e e2
  rcases hat with q | q
  ·exact h.apart g (q ▸ e) e2
  ·rw [q] at e
   have := (h.be.block g e2).2.1
   simp only [Option.some.injEq] at e
   omega
 ·intro g e
  rcases hat with q | q
  ·exact h.oo g (q ▸ e)
  ·rw [q] at e
   simp only [Option.some.injEq] at e
   exact .inr (by omega)
 ·intro k hk e
  rcases h.oo k e with q | q
  ·exact .inr (.inl q)
  ·omega
theorem PL.appBe (h : PL w0 N w vo0 vb0 lo lb vo vb vf ve W) (hv : ∀ (i : Nat) (l : List Int), lb[i]? = some l → ∃ u, vs[i]? = some u ∧ LRow W u l) (hl : vs.length = lb.length)
  (ho : W5.ownsRow w0.heap.size 39 1 v' (lb.length + 1) (vs ++ [u])) (hg : W.grownBy W5 vb.ownBlock) (hat : v'.ownBlock = vb.ownBlock ∨ v'.ownBlock = some W.heap.size) (hu : LRow W u z) :
  PL w0 N w vo0 vb0 lo (lb ++ [z]) vo v' vf ve (W5.setCell ⟨N, 1, none⟩ v') := by
 have f1 : RFrame (fun k => vb.ownBlock = some k) W W5 := (RFrame.refl _ W).grown hg (fun r e _ => e)
 have n1 : NoInts W (fun k => vb.ownBlock = some k) := fun k e => noints_ty (T := 39) (by decide) (h.be.block k e).2.2 k rfl
 have hbe := LRows.snoc hv hl ho hu f1 n1
 have ho1 := h.on_out.1
 have hb1 := h.on_out.2
 have hon := h.on.frame f1 n1 (fun g e e2 => h.apart g e e2)
 obtain ⟨a, b, c, hx⟩ := h.box
 have hx1 := hx.frame f1 (fun e => (hb1 _ e).1 rfl)
 have hr1 := h.res.frame f1 (fun e => (hb1 _ e).2.1 rfl)
 have hq1 := h.out.frame f1 (fun e => (hb1 _ e).2.2 rfl)
 have nl := h.nlt
 have hv'N : v'.ownBlock ≠ some N := by
  intro e
  exact ty_ne (S := 39) (T := 41) (by decide) (hbe.block N e).2.2 hx1.ty rfl
 have hvbN : vo.ownBlock ≠ some N := fun e => (ho1 N e).1 rfl
 have ne : (41 : TypeId) ≠ 3 := by decide
 have hs := h.fr.size
 refine ⟨⟨a, b, c, hx1.set1 v'⟩, hon.setCell ne hx1.ty hvbN _ _, hbe.setCell ne hx1.ty hv'N _ _, ?_, h.oo, ?_, (h.fr.trans f1 ?_).setCell (fun _ => .inl rfl) _ _, hr1.other (by omega) _ _, hq1.other (by omega) _ _, h.nlt⟩
 ·intro g e e2
  rcases hat with q | q
  ·exact h.apart g e (q ▸ e2)
  ·rw [q] at e2
   have := (h.on.block g e).2.1
   simp only [Option.some.injEq] at e2
   omega
 ·intro g e
  rcases hat with q | q
  ·exact h.ob g (q ▸ e)
  ·rw [q] at e
   simp only [Option.some.injEq] at e
   exact .inr (by omega)
 ·intro k hk e
  rcases h.ob k e with q | q
  ·exact .inr (.inr q)
  ·omega
theorem PL.setO (h : PL w0 N w vo0 vb0 lo lb vo vb vf ve W) (x : Value) : PL w0 N w vo0 vb0 lo lb vo vb x ve (W.setCell ⟨w.heap.size + 1 + 1, 2, none⟩ x) := by
 have ne : (41 : TypeId) ≠ 3 := by decide
 obtain ⟨a, b, c, hx⟩ := h.box
 have nl := h.nlt
 exact ⟨⟨a, b, c, hx.other (by omega) _ _⟩, h.on.setCell ne h.out.ty (fun e => (h.on_out.1 _ e).2.2 rfl) _ _, h.be.setCell ne h.out.ty (fun e => (h.on_out.2 _ e).2.2 rfl) _ _, h.apart, h.oo, h.ob, h.fr.setCell (fun e => by omega) _ _, h.res.other (by omega) _ _, h.out.set2 x, h.nlt⟩
theorem PL.setE (h : PL w0 N w vo0 vb0 lo lb vo vb vf ve W) (x : Value) : PL w0 N w vo0 vb0 lo lb vo vb vf x (W.setCell ⟨w.heap.size + 1 + 1, 3, none⟩ x) := by
 have ne : (41 : TypeId) ≠ 3 := by decide
 obtain ⟨a, b, c, hx⟩ := h.box
 have nl := h.nlt
 exact ⟨⟨a, b, c, hx.other (by omega) _ _⟩, h.on.setCell ne h.out.ty (fun e => (h.on_out.1 _ e).2.2 rfl) _ _, h.be.setCell ne h.out.ty (fun e => (h.on_out.2 _ e).2.2 rfl) _ _, h.apart, h.oo, h.ob, h.fr.setCell (fun e => by omega) _ _, h.res.other (by omega) _ _, h.out.set3 x, h.nlt⟩
end
end Go.Proofs.YtnbchikiiipejaaGreatDoor.Nf
