/- Rows of the reference's pieces in memory, five cells each: the call's own, appended to; read. -/
import Derived.Test.YtnbchikiiipejaaGreatDoorNrP0
set_option linter.unusedVariables false
namespace Go.Proofs.YtnbchikiiipejaaGreatDoor.Nf
open Go.RowKit Mem
open Bg (Bag)
open Ex (Pt PI PR KR pl)
def cr1 (u : Value × Value × Bool) : List Value := [.slice none 0 0, .slice none 0 0, u.1, u.2.1, .bool u.2.2]
def cr5 (l : List (Value × Value × Bool)) : List Value := l.flatMap cr1
theorem cr5_cons (a : Value × Value × Bool) (l : List (Value × Value × Bool)) : cr5 (a :: l) = .slice none 0 0 :: .slice none 0 0 :: a.1 :: a.2.1 :: .bool a.2.2 :: cr5 l := rfl
theorem cr5_append (h k : List (Value × Value × Bool)) : cr5 (h ++ k) = cr5 h ++ cr5 k := by simp [cr5]
theorem cr5_at (l : List (Value × Value × Bool)) : ∀ i (h : i < l.length), (cr5 l)[i * 5]? = some (.slice none 0 0) ∧ (cr5 l)[i * 5 + 1]? = some (.slice none 0 0) ∧ (cr5 l)[i * 5 + 2]? = some l[i].1 ∧ (cr5 l)[i * 5 + 3]? = some l[i].2.1 ∧ (cr5 l)[i * 5 + 4]? = some (.bool l[i].2.2) := by
 induction l with
 | nil => intro i hi; simp at hi
 | cons a l ih =>
  intro i hi
  cases i with
  | zero => exact ⟨rfl, rfl, rfl, rfl, rfl⟩
  | succ i =>
   have := ih i (by simpa using hi)
   rw [cr5_cons, show (i + 1) * 5 = i * 5 + 1 + 1 + 1 + 1 + 1 from by omega]
   simpa using this
def NRow (base : Nat) (W : World) (v : Value) (ps : List Pc) : Prop :=
 ∃ us : List (Value × Value × Bool), W.ownsRow base 41 5 v ps.length (cr5 us) ∧ us.length = ps.length ∧ ∀ (i : Nat) (p : Pc), ps[i]? = some p → ∃ vf ve, us[i]? = some (vf, ve, p.em) ∧ PcR W vf ve p
section
variable {X : Nat → Prop} {base : Nat} {W W' : World} {v : Value} {ps : List Pc}
theorem NRow.nil (base : Nat) (W : World) : NRow base W (.slice none 0 0) [] := ⟨[], World.ownsRow_nil _ _ _ _, rfl, fun i l h => by simp at h⟩
theorem NRow.form (h : NRow base W v ps) : ∃ A c, v = .slice A ps.length c := by obtain ⟨vs, ho, _⟩ := h; exact Lx.own_form5 ho
theorem NRow.block (h : NRow base W v ps) : ∀ g, v.ownBlock = some g → base ≤ g ∧ g < W.heap.size ∧ ∃ cs fr, W.heap[g]? = some (.cells cs 41 fr) := by
 obtain ⟨vs, ho, _⟩ := h
 intro g hg
 rcases ho.2 with ⟨hv, _⟩ | ⟨g', cap, cur, hv, hb, hh, _⟩
 ·subst hv; cases hg
 ·subst hv
  simp only [Value.ownBlock, Option.some.injEq] at hg
  subst hg
  exact ⟨hb, lt_of_some hh, _, _, hh⟩
theorem NRow.frame (h : NRow base W v ps) (f : RFrame X W W') (hx : NoInts W X) (hb : ∀ g, v.ownBlock = some g → ¬ X g) : NRow base W' v ps := by
 obtain ⟨vs, ho, hl, hv⟩ := h
 refine ⟨vs, ⟨ho.1, ?_⟩, hl, fun i l hl => ?_⟩
 ·rcases ho.2 with hn | ⟨g, cap, cur, rfl, h1, h2, r⟩
  ·exact .inl hn
  ·exact .inr ⟨g, cap, cur, rfl, h1, by rw [f.block g (lt_of_some h2) (hb g rfl)]; exact h2, r⟩
 ·obtain ⟨a, b, hu, hr⟩ := hv i l hl
  exact ⟨a, b, hu, hr.frame f hx⟩
theorem NRow.below (h : NRow base W v ps) (f : Below W.heap.size W W') : NRow base W' v ps := h.frame (RFrame.of_below (X := fun _ => False) f) (fun _ e => e.elim) (fun _ _ e => e.elim)
theorem NRow.opn (h : NRow base W v ps) (hp : 0 < ps.length) : ∃ g cap, v = .slice (some ⟨g, 0, none⟩) ps.length cap ∧ base ≤ g ∧ g < W.heap.size ∧ ps.length ≤ cap ∧
  ∀ i (hi : i < ps.length), ∃ vf ve, W.cell? ⟨g, i * 5, none⟩ = some (.slice none 0 0) ∧ W.cell? ⟨g, i * 5 + 1, none⟩ = some (.slice none 0 0) ∧ W.cell? ⟨g, i * 5 + 2, none⟩ = some vf ∧ W.cell? ⟨g, i * 5 + 3, none⟩ = some ve ∧ W.cell? ⟨g, i * 5 + 4, none⟩ = some (.bool ps[i].em) ∧ PcR W vf ve ps[i] := by
 obtain ⟨vs, ho, hl, hv⟩ := h
 have ho' := ho
 rcases ho.2 with ⟨_, h0⟩ | ⟨g, cap, cur, rfl, hb, hg, hnc, hcm, hs, ht⟩
 ·omega
 ·refine ⟨g, cap, rfl, hb, lt_of_some hg, hnc, fun i hi => ?_⟩
  obtain ⟨a, b, hu, hr⟩ := hv i ps[i] (List.getElem?_eq_getElem hi)
  obtain ⟨e0, e1, e2, e3, e4⟩ := cr5_at vs i (by omega)
  have hvi : vs[i] = (a, b, ps[i].em) := by rw [List.getElem?_eq_getElem (by omega)] at hu; simpa using hu
  rw [hvi] at e2 e3 e4
  refine ⟨a, b, ?_, ?_, ?_, ?_, ?_, hr⟩
  all_goals rw [World.ownsRow.cellAt ho' _ (by omega)]; assumption
theorem NRow.snoc {us : List (Value × Value × Bool)} {v' vf ve : Value} {p : Pc} (hl : us.length = ps.length) (hv : ∀ (i : Nat) (p : Pc), ps[i]? = some p → ∃ vf ve, us[i]? = some (vf, ve, p.em) ∧ PcR W vf ve p)
  (ho : W'.ownsRow base 41 5 v' (us ++ [(vf, ve, p.em)]).length (cr5 (us ++ [(vf, ve, p.em)]))) (hu : PcR W vf ve p) (f : RFrame X W W') (hx : NoInts W X) : NRow base W' v' (ps ++ [p]) := by
 refine ⟨us ++ [(vf, ve, p.em)], by simpa [hl] using ho, by simp [hl], fun i k hk => ?_⟩
 by_cases hi : i < ps.length
 ·rw [List.getElem?_append_left hi] at hk
  obtain ⟨a, b, hy, hr⟩ := hv i k hk
  exact ⟨a, b, by rw [List.getElem?_append_left (by omega)]; exact hy, hr.frame f hx⟩
 ·rw [List.getElem?_append_right (by omega)] at hk
  have h0 : i - ps.length = 0 := by
   rcases Nat.eq_zero_or_pos (i - ps.length) with h | h
   ·exact h
   ·rw [List.getElem?_eq_none (by simp; omega)] at hk; cases hk
  rw [h0] at hk
  simp only [List.getElem?_cons_zero, Option.some.injEq] at hk
  subst hk
  exact ⟨vf, ve, by rw [List.getElem?_append_right (by omega), hl, h0]; rfl, hu.frame f hx⟩
end
section
variable {P : Program}
theorem run_app_net {w : World} (base : Nat) (t ty e : TypeId) (i : TypeInfo) (z : Value) (bytes : Nat) (ht : P.underlying t = some (.slice e)) (hi : P.info? e = some i) (hz : i.zero = some z) (hz1 : z.cells.size = 5)
  (hsize : i.size = 5) (hby : i.bytes = bytes) (hb8 : bytes ≤ 128) {v : Value} {l : List (Value × Value × Bool)} (hown : w.ownsRow base e 5 v l.length (cr5 l))
  (g c : Nat) (x : Value × Value × Bool) (h1 : x.1.oneCell' = true) (h2 : x.2.1.oneCell' = true) (hc : ∀ j u, (cr1 x)[j]? = some u → w.cell? ⟨g, j, none⟩ = some u) (hbig : l.length ≤ 1000000) (hbase : base ≤ w.heap.size) :
  ∃ v' w', (Builtin.append_ #[t, t] ty #[v, .slice (some ⟨g, 0, none⟩) 1 c]).run P w = .ok v' w' ∧ w'.ownsRow base e 5 v' (l ++ [x]).length (cr5 (l ++ [x])) ∧ w.grownBy w' v.ownBlock ∧ (v'.ownBlock = v.ownBlock ∨ v'.ownBlock = some w.heap.size) := by
 have hsum : (l.length + 1) * bytes ≤ 140737488355328 := by
  have := Nat.mul_le_mul (show l.length + 1 ≤ 1000001 by omega) hb8
  omega
 obtain ⟨v', w', h1, h2, h3, _, h5⟩ := run_append_own_at (P := P) w base t ty e i z 5 bytes ht hi hz hsize hby hz1 (by omega) v l.length (cr5 l) hown ⟨g, 0, none⟩ 1 c (cr1 x)
  (by simp [cr1]) (fun j u hu => by
    have hp : (⟨g, 0, none⟩ : Addr).add j = ⟨g, j, none⟩ := by unfold Addr.add; split <;> simp_all
    rw [hp]; exact hc j u hu) (by intro u hu; simp [cr1] at hu; rcases hu with rfl | rfl | rfl | rfl | rfl <;> first | rfl | assumption) (by simp only [maxLen]; omega) hsum hbase
 exact ⟨v', w', h1, by rw [cr5_append, List.length_append]; simpa [cr5] using h2, h3, h5⟩
theorem wpList_app_net {w : World} {ops : Array Oper} {rest : List Oper} {o : Oper} {a : Act} {Q : Exit → Act → World → Prop} (hgd : o.guard = none) (s x : Operand) (t : TypeId)
  (ho : o.op = .call { callee := .builtin .append, args := #[s, x], argTypes := #[t, t] })
  (base : Nat) (e : TypeId) (i : TypeInfo) (z : Value) (bytes : Nat) (ht : P.underlying t = some (.slice e)) (hi : P.info? e = some i) (hz : i.zero = some z) (hz1 : z.cells.size = 5)
  (hsize : i.size = 5) (hby : i.bytes = bytes) (hb8 : bytes ≤ 128) (v : Value) (l : List (Value × Value × Bool)) (hs : a.eval s = v) (hown : w.ownsRow base e 5 v l.length (cr5 l))
  (g c : Nat) (y : Value × Value × Bool) (h1 : y.1.oneCell' = true) (h2 : y.2.1.oneCell' = true) (hx : a.eval x = .slice (some ⟨g, 0, none⟩) 1 c) (hc : ∀ j u, (cr1 y)[j]? = some u → w.cell? ⟨g, j, none⟩ = some u) (hbig : l.length ≤ 1000000) (hbase : base ≤ w.heap.size)
  (h : ∀ v' w', w'.ownsRow base e 5 v' (l ++ [y]).length (cr5 (l ++ [y])) → w.grownBy w' v.ownBlock → (v'.ownBlock = v.ownBlock ∨ v'.ownBlock = some w.heap.size) → wpList P ops Q rest (a.put o.dst v') w') :
  wpList P ops Q (o :: rest) a w := by
 refine wpList_plain hgd fun K hK => ?_
 obtain ⟨v', w', hrun, h2, h3, h4⟩ := run_app_net (P := P) base t o.type e i z bytes ht hi hz hz1 hsize hby hb8 hown g c y h1 h2 hc hbig hbase
 unfold Oper.wp
 simp [execOp, ho, resolve, invoke, builtin, hs, hx, hrun, Result.andThen]
 exact hK _ _ (h v' w' h2 h3 h4)
end
theorem info_net : (Tryz.prog.info? 41).map (fun i => (i.zero, i.size, i.bytes)) = some (some (.agg #[.slice none 0 0, .slice none 0 0, .slice none 0 0, .slice none 0 0, .bool false]), 5, 104) := by kernel_rfl
end Go.Proofs.YtnbchikiiipejaaGreatDoor.Nf
namespace Go.Proofs.YtnbchikiiipejaaGreatDoor.Nf
open Go.RowKit Mem
open Bg (Bag)
open Ex (Pt PI PR KR pl)
theorem several_snoc (wr : Nat → List En → Pc × List En) (ks : List Nat) (k : Nat) (acc : List Pc) (l : List En) :
  several wr (ks ++ [k]) acc l = ((several wr ks acc l).1 ++ [(wr k (several wr ks acc l).2).1], (wr k (several wr ks acc l).2).2) := by
 rw [several_append]; rfl
theorem seqR_snoc : ∀ (a : List Pc) (p : Pc) (o : Pc) (l : List En), seqR (a ++ [p]) o l = (join (seqR a o l).1 p, lead (seqR a o l).1.ends p.first (seqR a o l).2)
 | [], _, _, _ => rfl
 | _ :: a, p, _, _ => seqR_snoc a p _ _
theorem seqR_length : ∀ (a : List Pc) (o : Pc) (l : List En), (seqR a o l).2.length = l.length
 | [], _, _ => rfl
 | p :: a, o, l => by simp only [seqR]; rw [seqR_length a, lead_length]
theorem seqR_rng {b c : Nat} : ∀ (a : List Pc) (o : Pc) (l : List En), o.rng b c → (∀ p ∈ a, p.rng b c) → (seqR a o l).1.rng b c
 | [], _, _, h, _ => h
 | p :: a, o, l, h, hp => by
  simp only [seqR]
  exact seqR_rng a _ _ (join_rng h (hp p List.mem_cons_self)) (fun q hq => hp q (List.mem_cons_of_mem _ hq))
theorem line0_step (j : Nat) (s : List Pc) (l : List En) (h : j < s.length) : line 0 j (s.drop j) l =
  (⟨true, (join s[j] (line 0 (j + 1) (s.drop (j + 1)) l).1).first, (join s[j] (line 0 (j + 1) (s.drop (j + 1)) l).1).ends⟩, lead s[j].ends (line 0 (j + 1) (s.drop (j + 1)) l).1.first (line 0 (j + 1) (s.drop (j + 1)) l).2) := by
 rw [List.drop_eq_getElem_cons h]
 simp only [line, ahead]
 rw [show decide ((0 : Int) ≤ (j : Int)) = true from by simp, Bool.or_true]
theorem line0_any (j : Nat) (s : List Pc) (l : List En) : line 0 j s l = line 0 0 s l := by
 rw [line_lineS, line_lineS, lineS_tail 0 s j (by omega)]
theorem line_len (j : Nat) (s : List Pc) (l : List En) : (line 0 j s l).2.length = l.length := line_length 0 j s l
def svR (g : Nat → List En → Pc × List En) (kk : Nat) (l : List En) (i : Nat) : List Pc × List En := several g (List.replicate i kk) [] l
def ldR (hi : Int) (M : Nat) (s : List Pc × List En) (i : Nat) : List En := if hi < 0 ∧ i = M then lead (s.1.getLastD emp).ends (s.1.getLastD emp).first s.2 else s.2
theorem svR_succ (g : Nat → List En → Pc × List En) (kk : Nat) (l : List En) (i : Nat) : svR g kk l (i + 1) = ((svR g kk l i).1 ++ [(g kk (svR g kk l i).2).1], (g kk (svR g kk l i).2).2) := by
 unfold svR; rw [List.replicate_succ', several_snoc]
theorem svR_facts {g : Nat → List En → Pc × List En} {P : Nat → Nat} (hff : ∀ k l, l.length + P k ≤ 256 → (g k l).2.length = l.length + P k ∧ (g k l).1.rng l.length (l.length + P k)) (kk : Nat) (l : List En) (M : Nat) (hM : l.length + M * P kk ≤ 256) :
  ∀ i, i ≤ M → (svR g kk l i).1.length = i ∧ (svR g kk l i).2.length = l.length + i * P kk ∧ ∀ p ∈ (svR g kk l i).1, p.rng 0 (l.length + i * P kk)
 | 0, _ => ⟨rfl, by simp [svR, several], by simp [svR, several]⟩
 | i + 1, hi => by
  obtain ⟨h1, h2, h3⟩ := svR_facts hff kk l M hM i (by omega)
  have hm : i * P kk + P kk ≤ M * P kk := by
   have := Nat.mul_le_mul_right (P kk) hi
   rwa [Nat.succ_mul] at this
  obtain ⟨h4, h5⟩ := hff kk (svR g kk l i).2 (by omega)
  rw [svR_succ]
  refine ⟨by simp [h1], by dsimp only; rw [h4, h2, Nat.succ_mul]; omega, fun p hp => ?_⟩
  rw [Nat.succ_mul]
  rcases List.mem_append.1 hp with hp | hp
  ·exact (h3 p hp).mono (Nat.le_refl _) (by omega)
  ·simp only [List.mem_singleton] at hp
   subst hp
   exact h5.mono (by omega) (by omega)
theorem ldR_no {hi : Int} {M i : Nat} (s : List Pc × List En) (h : ¬ (hi < 0 ∧ i = M)) : ldR hi M s i = s.2 := by unfold ldR; rw [if_neg h]
theorem ldR_yes {hi : Int} {M : Nat} (ps : List Pc) (x : Pc) (L : List En) (h : hi < 0) : ldR hi M (ps ++ [x], L) M = lead x.ends x.first L := by
 unfold ldR; rw [if_pos ⟨h, rfl⟩]; simp
theorem timesR_of {lo hi : Int} {nm : List UInt8} {kz : List Nat} (M : Nat) (s : List Pc × List En) (h0 : 0 ≤ lo) : timesR ⟨4, lo, hi, nm, kz⟩ s.1 s.2 =
  (join (seqR (s.1.take lo.toNat) emp (ldR hi M s M)).1 (line 0 lo.toNat (s.1.drop lo.toNat) (seqR (s.1.take lo.toNat) emp (ldR hi M s M)).2).1, lead (seqR (s.1.take lo.toNat) emp (ldR hi M s M)).1.ends (line 0 lo.toNat (s.1.drop lo.toNat) (seqR (s.1.take lo.toNat) emp (ldR hi M s M)).2).1.first (line 0 lo.toNat (s.1.drop lo.toNat) (seqR (s.1.take lo.toNat) emp (ldR hi M s M)).2).2) := by
 simp only [line0_any lo.toNat]
 unfold timesR ldR ahead
 by_cases h : hi < 0
 ·simp only [h, and_self, if_true]
 ·simp only [h, false_and, if_false]
theorem NRow.cells {base g cap n : Nat} {W : World} {ps : List Pc} (h : NRow base W (.slice (some ⟨g, 0, none⟩) n cap) ps) (i : Nat) (hi : i < ps.length) : g < W.heap.size ∧
  ∃ vf ve, W.cell? ⟨g, i * 5, none⟩ = some (.slice none 0 0) ∧ W.cell? ⟨g, i * 5 + 1, none⟩ = some (.slice none 0 0) ∧ W.cell? ⟨g, i * 5 + 2, none⟩ = some vf ∧ W.cell? ⟨g, i * 5 + 3, none⟩ = some ve ∧ W.cell? ⟨g, i * 5 + 4, none⟩ = some (.bool ps[i].em) ∧ PcR W vf ve ps[i] := by
 obtain ⟨g', cap', e, _, hl, _, hc⟩ := h.opn (by omega)
 simp only [Value.slice.injEq, Option.some.injEq, Addr.mk.injEq, and_true] at e
 obtain ⟨rfl, _⟩ := e
 exact ⟨hl, hc i hi⟩
theorem ldR_length (hi : Int) (M : Nat) (s : List Pc × List En) (i : Nat) : (ldR hi M s i).length = s.2.length := by
 unfold ldR; split
 ·exact lead_length _ _ _
 ·rfl
section
variable {X : Nat → Prop} {w0 w W W' : World} {N : Nat} {vo0 vb0 : Value} {p : PI} {kv : Value} {l l' : List En} {out : Pc} {vo vb vo' vb' vf ve va : Value} {ps : List Pc}
theorem PT.move (h : PT w0 N w vo0 vb0 p kv l out vo vb vf ve W) (hn : RS w0.heap.size N W' l' vo' vb') (f : RFrame X W W') (hX : ∀ k, X k → XS N vo vb k ∨ w.heap.size + 1 + 1 + 1 ≤ k) (hi : NoInts W X)
  (ho : OldOr W vo vo') (hb : OldOr W vb vb') : PT w0 N w vo0 vb0 p kv l' out vo' vb' vf ve W' := by
 have hs := h.fr.size
 have nX : ∀ b, (b = w.heap.size ∨ b = w.heap.size + 1 ∨ b = w.heap.size + 1 + 1) → ¬ X b := by
  intro b hb e
  rcases hX b e with g | g
  ·have := h.off b g; omega
  ·omega
 refine ⟨hn, h.oo.trans ho hs, h.ob.trans hb hs, h.fr.trans f (fun k hk e => ?_), h.res.frame f (nX _ (.inl rfl)), h.part.frame f (nX _ (.inr (.inl rfl))), h.box.frame f (nX _ (.inr (.inr rfl))), h.pc.frame f hi, h.nlt⟩
 rcases hX k e with g | g
 ·exact h.old k hk g
 ·omega
structure KT (w0 : World) (N : Nat) (w : World) (vo0 vb0 : Value) (p : PI) (kv : Value) (l : List En) (out : Pc) (va : Value) (ps : List Pc) (vo vb vf ve : Value) (W : World) : Prop where
 pt : PT w0 N w vo0 vb0 p kv l out vo vb vf ve W
 all : NRow (w.heap.size + 1 + 1 + 1) W va ps
theorem KT.apart (h : KT w0 N w vo0 vb0 p kv l out va ps vo vb vf ve W) : ∀ g, va.ownBlock = some g → ¬ XS N vo vb g := by
 intro g hg e
 obtain ⟨h1, _, ty⟩ := h.all.block g hg
 have nl := h.pt.nlt
 rcases e with e | e | e
 ·omega
 ·exact ty_ne (by decide) ty (h.pt.net.on.block g e).2.2 rfl
 ·exact ty_ne (by decide) ty (h.pt.net.be.block g e).2.2 rfl
theorem KT.below (h : KT w0 N w vo0 vb0 p kv l out va ps vo vb vf ve W) (f : Below W.heap.size W W') : KT w0 N w vo0 vb0 p kv l out va ps vo vb vf ve W' := ⟨h.pt.below f, h.all.below f⟩
theorem KT.call (h : KT w0 N w vo0 vb0 p kv l out va ps vo vb vf ve W) (hn : RS w0.heap.size N W' l' vo' vb') (f : RFrame (XS N vo vb) W W') (ho : OldOr W vo vo') (hb : OldOr W vb vb') : KT w0 N w vo0 vb0 p kv l' out va ps vo' vb' vf ve W' :=
 ⟨h.pt.call hn f ho hb, h.all.frame f h.pt.net.noints h.apart⟩
theorem KT.move (h : KT w0 N w vo0 vb0 p kv l out va ps vo vb vf ve W) (hn : RS w0.heap.size N W' l' vo' vb') (f : RFrame X W W') (hX : ∀ k, X k → XS N vo vb k ∨ w.heap.size + 1 + 1 + 1 ≤ k) (hi : NoInts W X) (ha : ∀ g, va.ownBlock = some g → ¬ X g)
  (ho : OldOr W vo vo') (hb : OldOr W vb vb') : KT w0 N w vo0 vb0 p kv l' out va ps vo' vb' vf ve W' :=
 ⟨h.pt.move hn f hX hi ho hb, h.all.frame f hi ha⟩
theorem KT.other (h : KT w0 N w vo0 vb0 p kv l out va ps vo vb vf ve W) {b : Nat} (hb : w.heap.size + 1 + 1 + 1 ≤ b) (hty : ∃ cs fr, W.heap[b]? = some (.cells cs 41 fr)) (ha : ∀ g, va.ownBlock = some g → g ≠ b) (j : Nat) (u : Value) :
  KT w0 N w vo0 vb0 p kv l out va ps vo vb vf ve (W.setCell ⟨b, j, none⟩ u) := by
 have f : RFrame (fun k => k = b) W (W.setCell ⟨b, j, none⟩ u) := (RFrame.refl (fun k => k = b) W).setCell (fun _ => rfl) j u
 have n : NoInts W (fun k => k = b) := noints_ty (T := 41) (by decide) hty
 have nl := h.pt.nlt
 refine h.move (h.pt.net.frame f ?_ n) f (fun k e => .inr (by omega)) n ha (OldOr.refl _ _) (OldOr.refl _ _)
 rintro k (e | e | e) e2
 ·omega
 ·subst e2; exact ty_ne (by decide) hty (h.pt.net.on.block k e).2.2 rfl
 ·subst e2; exact ty_ne (by decide) hty (h.pt.net.be.block k e).2.2 rfl
theorem KT.seqX (h : KT w0 N w vo0 vb0 p kv l out va ps vo vb vf ve W) {b : Nat} (hb : w.heap.size + 1 + 1 + 1 ≤ b) (hty : ∃ cs fr, W.heap[b]? = some (.cells cs 41 fr)) (ha : ∀ g, va.ownBlock = some g → g ≠ b)
  (hn : RS w0.heap.size N W' l' vo vb) (f : RFrame (fun k => k = b ∨ vb.ownBlock = some k) W W') : KT w0 N w vo0 vb0 p kv l' out va ps vo vb vf ve W' := by
 refine h.move hn f (fun k e => e.elim (fun e => .inr (by omega)) (fun e => .inl (.inr (.inr e)))) ?_ ?_ (OldOr.refl _ _) (OldOr.refl _ _)
 ·rintro k (e | e) cs fr hh
  ·exact noints_ty (T := 41) (by decide) hty k e cs fr hh
  ·exact h.pt.net.noints k (.inr (.inr e)) cs fr hh
 ·rintro g hg (e | e)
  ·exact ha g hg e
  ·exact h.apart g hg (.inr (.inr e))
theorem KT.seq {out' : Pc} {vf' ve' : Value} (h : KT w0 N w vo0 vb0 p kv l out va ps vo vb vf ve W) (hbox : RBox W' (w.heap.size + 1 + 1) (.slice none 0 0) (.slice none 0 0) vf' ve' out'.em) (hpc : PcR W' vf' ve' out') (hn : RS w0.heap.size N W' l' vo vb)
  (f : RFrame (fun k => k = w.heap.size + 1 + 1 ∨ vb.ownBlock = some k) W W') : KT w0 N w vo0 vb0 p kv l' out' va ps vo vb vf' ve' W' := by
 refine ⟨h.pt.seq hbox hpc hn f, h.all.frame f ?_ ?_⟩
 ·rintro k (e | e) cs fr hh
  ·exact noints_ty (T := 41) (by decide) h.pt.box.ty k e cs fr hh
  ·exact h.pt.net.noints k (.inr (.inr e)) cs fr hh
 ·rintro g hg (e | e)
  ·have := (h.all.block g hg).1; omega
  ·exact h.apart g hg (.inr (.inr e))
theorem KT.lead {g cap n : Nat} (h : KT w0 N w vo0 vb0 p kv l out va ps vo (.slice (some ⟨g, 0, none⟩) n cap) vf ve W) (hn : n = l.length) (k : Nat) (hk : k < l.length) (to : Bag) {u : Value} (hu : LRow W u (l[k].behind.orB to).list) (hfz : W.frozen? ⟨g, k, none⟩ = false) :
  KT w0 N w vo0 vb0 p kv (l.modify k (lead1 to)) out va ps vo (.slice (some ⟨g, 0, none⟩) n cap) vf ve (W.setCell ⟨g, k, none⟩ u) := by
 have ty := (h.pt.net.be.block g rfl).2.2
 have f : RFrame (fun j => j = g) W (W.setCell ⟨g, k, none⟩ u) := (RFrame.refl (fun j => j = g) W).setCell (fun _ => rfl) k u
 have ni : NoInts W (fun j => j = g) := noints_ty (T := 39) (by decide) ty
 obtain ⟨vf0, ve0, em0, hNx⟩ := h.pt.net.box
 have hons : (l.modify k (lead1 to)).map (fun x => x.on.list) = l.map (fun x => x.on.list) := by
  apply List.ext_getElem?
  intro j
  rw [List.getElem?_map, List.getElem?_modify, List.getElem?_map]
  by_cases hj : k = j
  ·subst hj; cases l[k]? <;> simp [lead1]
  ·simp [hj]
 refine h.move ⟨⟨vf0, ve0, em0, hNx.frame f (fun e => ?_)⟩, ?_, ?_, h.pt.net.apart⟩ f (fun j e => .inl (.inr (.inr (by rw [e]; rfl)))) ni ?_ (OldOr.refl _ _) (OldOr.refl _ _)
 ·subst e; exact ty_ne (by decide) ty hNx.ty rfl
 ·rw [hons]
  exact h.pt.net.on.frame f ni (fun j hj e => h.pt.net.apart j hj (by rw [e]; rfl))
 ·rw [behinds_lead to l k hk]
  exact h.pt.net.be.store (by simpa using hn) k u _ hu hfz
 ·intro j hj e
  exact h.apart j hj (.inr (.inr (by rw [e]; rfl)))
theorem KT.app {us : List (Value × Value × Bool)} {v' xf xe : Value} {x : Pc} (h : KT w0 N w vo0 vb0 p kv l out va ps vo vb vf ve W) (hl : us.length = ps.length) (hv : ∀ (i : Nat) (p : Pc), ps[i]? = some p → ∃ vf ve, us[i]? = some (vf, ve, p.em) ∧ PcR W vf ve p)
  (ho : W'.ownsRow (w.heap.size + 1 + 1 + 1) 41 5 v' (us ++ [(xf, xe, x.em)]).length (cr5 (us ++ [(xf, xe, x.em)]))) (hg : W.grownBy W' va.ownBlock) (hu : PcR W xf xe x) : KT w0 N w vo0 vb0 p kv l out v' (ps ++ [x]) vo vb vf ve W' := by
 have f : RFrame (fun k => va.ownBlock = some k) W W' := (RFrame.refl _ W).grown hg (fun r e _ => e)
 have n : NoInts W (fun k => va.ownBlock = some k) := fun k e => noints_ty (T := 41) (by decide) (h.all.block k e).2.2 k rfl
 refine ⟨h.pt.move (h.pt.net.frame f (fun k hk e => h.apart k e hk) n) f (fun k e => .inr (h.all.block k e).1) n (OldOr.refl _ _) (OldOr.refl _ _), NRow.snoc hl hv ho hu f n⟩
end
end Go.Proofs.YtnbchikiiipejaaGreatDoor.Nf
