/- Nets: how many places the parts of an expression have; no part has more than the whole. -/
import Derived.Test.YtnbchikiiipejaaGreatDoorNfRef
import Derived.Test.YtnbchikiiipejaaGreatDoorExBk
import Derived.Test.YtnbchikiiipejaaGreatDoorNfQ
set_option linter.unusedVariables false
namespace Go.Proofs.YtnbchikiiipejaaGreatDoor.Nf
open Bg (Bag)
open Ex (Pt PI pl wholeK wholeI rightI fitsI)
theorem kidsOf_sum (P : Nat → Nat) (p : Pt) : ((kidsOf p).map P).sum = often p * (p.kids.map P).sum := by
 unfold kidsOf
 generalize p.kids = ks
 induction often p with
 | zero => simp
 | succ n ih =>
  rw [List.replicate_succ, List.flatten_cons, List.map_append, List.sum_append, ih, Nat.add_mul, Nat.one_mul, Nat.add_comm]
def GoodK (e : List Pt) : Prop := ∀ (i : Nat) (p : Pt), e[i]? = some p → ∀ k ∈ p.kids, k < i
theorem places_fuel {e : List Pt} (hg : GoodK e) : ∀ f g i, i < f → i < g → places e f i = places e g i
 | 0, _, _, h, _ => by omega
 | _ + 1, 0, _, _, h => by omega
 | f + 1, g + 1, i, h1, h2 => by
  cases hp : e[i]? with
  | none => simp [places, hp]
  | some p =>
   simp only [places, hp, kidsOf_sum]
   have e1 : p.kids.map (places e f) = p.kids.map (places e g) := List.map_congr_left fun k hk => by
    have := hg i p hp k hk
    exact places_fuel hg f g k (by omega) (by omega)
   rw [e1]
def pl1 (e : List Pt) (i : Nat) : Nat := places e (i + 1) i
theorem pl1_of {e : List Pt} (hg : GoodK e) (f i : Nat) (h : i < f) : places e f i = pl1 e i := places_fuel hg f (i + 1) i h (by omega)
theorem pl1_eq {e : List Pt} (hg : GoodK e) {i : Nat} {p : Pt} (hp : e[i]? = some p) : pl1 e i = (if p.kind = 1 then 1 else 0) + often p * (p.kids.map (pl1 e)).sum := by
 have e1 : p.kids.map (places e i) = p.kids.map (pl1 e) := List.map_congr_left fun k hk => pl1_of hg i k (hg i p hp k hk)
 show places e (i + 1) i = _
 simp only [places, hp, kidsOf_sum, e1]
theorem mem_le_sum {P : Nat → Nat} {k : Nat} : ∀ {l : List Nat}, k ∈ l → P k ≤ (l.map P).sum
 | [], h => by simp at h
 | x :: l, h => by
  simp only [List.map_cons, List.sum_cons]
  rcases List.mem_cons.1 h with rfl | h
  ·omega
  ·have := mem_le_sum (P := P) h; omega
theorem whole_in {E : List PI} (P : Nat → Nat) (hP : ∀ k p, E[k]? = some p → ∀ z ∈ p.kids, P z.toNat ≤ P k) : ∀ f k s, wholeI E f k = some s → s ≤ k ∧ ∀ j, s ≤ j → j ≤ k → P j ≤ P k ∧ ∃ p, E[j]? = some p ∧ ∀ z ∈ p.kids, 0 ≤ z ∧ z < (j : Int)
 | 0, k, s, h => by simp [wholeI] at h
 | f + 1, k, s, h => by
  have ih := whole_in P hP f
  have aux : ∀ (zs : List Int) (a s : Nat), wholeK (wholeI E f) a zs = some s → s ≤ a ∧ (∀ z ∈ zs, 0 ≤ z ∧ z < (a : Int)) ∧ ∀ j, s ≤ j → j < a → (∃ z ∈ zs, P j ≤ P z.toNat) ∧ ∃ p, E[j]? = some p ∧ ∀ z ∈ p.kids, 0 ≤ z ∧ z < (j : Int) := by
   intro zs
   induction zs with
   | nil =>
    intro a s hs
    simp only [wholeK, Option.some.injEq] at hs
    subst hs
    exact ⟨Nat.le_refl _, fun z hz => by simp at hz, fun j h1 h2 => by omega⟩
   | cons z zs ihz =>
    intro a s hs
    simp only [wholeK] at hs
    split at hs
    ·cases hs
    ·rename_i hc
     have hc1 : 1 ≤ a ∧ z = (a : Int) - 1 := by
      constructor
      ·exact Nat.le_of_not_lt fun h => hc (.inl h)
      ·exact Classical.byContradiction fun h => hc (.inr h)
     cases hT : wholeI E f (a - 1) with
     | none => rw [hT] at hs; cases hs
     | some b =>
      rw [hT] at hs
      obtain ⟨b1, b2⟩ := ih _ _ hT
      obtain ⟨c1, c2, c3⟩ := ihz b s hs
      refine ⟨by omega, fun y hy => ?_, fun j h1 h2 => ?_⟩
      ·rcases List.mem_cons.1 hy with rfl | hy
       ·omega
       ·have := c2 y hy; omega
      ·by_cases hj : b ≤ j
       ·obtain ⟨d1, d2⟩ := b2 j hj (by omega)
        refine ⟨⟨z, List.mem_cons_self, ?_⟩, d2⟩
        rw [hc1.2, show ((a : Int) - 1).toNat = a - 1 by omega]; exact d1
       ·obtain ⟨⟨y, hy, d1⟩, d2⟩ := c3 j h1 (by omega)
        exact ⟨⟨y, List.mem_cons_of_mem _ hy, d1⟩, d2⟩
  simp only [wholeI] at h
  cases hp : E[k]? with
  | none => rw [hp] at h; cases h
  | some p =>
   rw [hp] at h
   obtain ⟨a1, a2, a3⟩ := aux _ _ _ h
   refine ⟨a1, fun j h1 h2 => ?_⟩
   by_cases hj : j = k
   ·subst hj
    exact ⟨Nat.le_refl _, p, hp, fun z hz => a2 z (List.mem_reverse.2 hz)⟩
   ·obtain ⟨⟨z, hz, d1⟩, d2⟩ := a3 j h1 (by omega)
    exact ⟨Nat.le_trans d1 (hP k p hp z (List.mem_reverse.1 hz)), d2⟩
def Cnt (p : Pt) : Prop := Fit p ∧ (p.kind ≠ 1 → p.kind ≠ 2 → p.kind ≠ 3 → p.kind = 4 ∧ (0 ≤ p.high → p.low ≤ p.high))
structure Expr (E : List PI) : Prop where
 back : (E.map PI.toP).map Pt.toI = E
 good : GoodK (E.map PI.toP)
 cnt : ∀ p ∈ E.map PI.toP, Cnt p
 fit : ∀ p ∈ E.map PI.toP, Fit p
 four : ∀ p ∈ E.map PI.toP, p.kind = 1 ∨ p.kind = 2 ∨ p.kind = 3 ∨ p.kind = 4
 often : ∀ p ∈ E.map PI.toP, 1 ≤ often p ∧ often p ≤ 20
 nums : ∀ p ∈ E.map PI.toP, 0 ≤ p.low ∧ p.low ≤ 20 ∧ p.high ≤ 20
 most : ∀ j, j < E.length → pl1 (E.map PI.toP) j ≤ pl1 (E.map PI.toP) (E.length - 1)
theorem right_expr {E : List PI} (h : rightI E = true) : Expr E := by
 have hf := Ex.right_fits h
 have hw : E.length = 0 ∨ wholeI E E.length (E.length - 1) = some 0 := by
  have := h
  rw [Ex.right_iff] at this
  rw [Bool.and_eq_true] at this
  simpa using this.2
 have hk : ∀ j, j < E.length → ∃ p, E[j]? = some p ∧ ∀ z ∈ p.kids, 0 ≤ z ∧ z < (j : Int) := by
  intro j hj
  rcases hw with h0 | hw
  ·omega
  ·exact ((whole_in (fun _ => 0) (fun _ _ _ _ _ => Nat.le_refl _) _ _ _ hw).2 j (by omega) (by omega)).2
 have hmem : ∀ p ∈ E, ∀ z ∈ p.kids, 0 ≤ z := by
  intro p hp z hz
  obtain ⟨j, hj, rfl⟩ := List.mem_iff_getElem.1 hp
  obtain ⟨p, hp, hk⟩ := hk j hj
  rw [List.getElem?_eq_getElem hj] at hp
  cases hp
  exact (hk z hz).1
 have hback : ∀ p ∈ E, p.toP.toI = p := by
  intro p hp
  obtain ⟨kd, lo, hi, nm, ks⟩ := p
  simp only [PI.toP, Pt.toI, pl, List.map_map, PI.mk.injEq, true_and]
  refine (List.map_congr_left fun z hz => ?_).trans (List.map_id ks)
  have := hmem _ hp z hz
  simp only [Function.comp, id]
  omega
 have hget : ∀ (i : Nat) (p : Pt), (E.map PI.toP)[i]? = some p → ∃ q, E[i]? = some q ∧ p = q.toP := by
  intro i p hp
  rw [List.getElem?_map] at hp
  cases hq : E[i]? with
  | none => rw [hq] at hp; cases hp
  | some q => rw [hq] at hp; exact ⟨q, rfl, (Option.some.inj hp).symm⟩
 have hg : GoodK (E.map PI.toP) := by
  intro i p hp k hk'
  obtain ⟨q, hq, rfl⟩ := hget i p hp
  have hi : i < E.length := (List.getElem?_eq_some_iff.1 hq).1
  obtain ⟨q', hq', hkk⟩ := hk i hi
  rw [hq] at hq'
  cases hq'
  obtain ⟨z, hz, rfl⟩ := List.mem_map.1 hk'
  have := hkk z hz
  omega
 have hall : ∀ p ∈ E.map PI.toP, (Cnt p ∧ (p.kind = 1 ∨ p.kind = 2 ∨ p.kind = 3 ∨ p.kind = 4)) ∧ (1 ≤ often p ∧ often p ≤ 20) ∧ 0 ≤ p.low ∧ p.low ≤ 20 ∧ p.high ≤ 20 := by
  intro p hp
  obtain ⟨q, hq, rfl⟩ := List.mem_map.1 hp
  obtain ⟨kd, lo, hi, nm, ks⟩ := q
  rcases Ex.fits_kind (hf _ hq) with ⟨a, b, c, d, _⟩ | ⟨a, b, c, _, _⟩ | ⟨a, _, b, c⟩
  ·simp only at a b c d
   subst a; subst b; subst c; subst d
   simp [PI.toP, Cnt, Fit, often]
  ·simp only at a b c
   subst b; subst c
   rcases a with a | a <;> subst a <;> simp [PI.toP, Cnt, Fit, often]
  ·simp only at a b c
   subst a
   have hs : (0 ≤ lo ∧ lo ≤ 20) ∧ (hi = -1 ∨ (1 ≤ hi ∧ hi ≤ 20 ∧ lo ≤ hi)) := by
    rcases c with ⟨c, _⟩ | ⟨c, _⟩ | ⟨_, _, c1, c2, c3⟩
    ·simp at c
    ·simp at c
    ·exact ⟨⟨c1, c2⟩, c3⟩
   refine ⟨⟨⟨⟨fun h => by simp [PI.toP] at h, fun _ _ _ => ⟨by simpa [PI.toP] using b, hs.1.1⟩⟩, fun _ _ _ => ⟨rfl, fun g => ?_⟩⟩, .inr (.inr (.inr rfl))⟩, ?_, hs.1.1, hs.1.2, ?_⟩
   ·simp only [PI.toP] at g ⊢; omega
   ·have ho : Nf.often (PI.toP ⟨4, lo, hi, nm, ks⟩) = if hi < 0 then max lo.toNat 1 else hi.toNat := rfl
    rw [ho]
    by_cases hh : hi < 0
    ·rw [if_pos hh]; omega
    ·rw [if_neg hh]; omega
   ·simp only [PI.toP]; omega
 refine ⟨?_, hg, fun p hp => (hall p hp).1.1, fun p hp => (hall p hp).1.1.1, fun p hp => (hall p hp).1.2, fun p hp => (hall p hp).2.1, fun p hp => (hall p hp).2.2, fun j hj => ?_⟩
 ·rw [List.map_map]
  exact (List.map_congr_left fun p hp => hback p hp).trans (List.map_id E)
 ·rcases hw with h0 | hw
  ·omega
  ·refine ((whole_in (pl1 (E.map PI.toP)) ?_ _ _ _ hw).2 j (by omega) (by omega)).1
   intro k p hp z hz
   have hp' : (E.map PI.toP)[k]? = some p.toP := by rw [List.getElem?_map, hp]; rfl
   rw [pl1_eq hg hp']
   have hm : z.toNat ∈ p.toP.kids := List.mem_map.2 ⟨z, hz, rfl⟩
   have h1 := mem_le_sum (P := pl1 (E.map PI.toP)) hm
   have h2 := (hall _ (List.mem_of_getElem? hp')).2.1.1
   have h3 : (p.toP.kids.map (pl1 (E.map PI.toP))).sum ≤ Nf.often p.toP * (p.toP.kids.map (pl1 (E.map PI.toP))).sum := Nat.le_mul_of_pos_left _ (by omega)
   omega
end Go.Proofs.YtnbchikiiipejaaGreatDoor.Nf
namespace Go.Proofs.YtnbchikiiipejaaGreatDoor.Nf
open Go.RowKit Mem
open Bg (Bag bagV Tab)
open Ex (Pt PI PR KR pl)
theorem join_ok {a b : Pc} (ha : a.ok) (hb : b.ok) : (join a b).ok := by
 constructor
 ·show (if a.em = true then a.first.orB b.first else a.first).ok
  split
  ·exact Bg.or_ok ha.1 hb.1
  ·exact ha.1
 ·show (if b.em = true then b.ends.orB a.ends else b.ends).ok
  split
  ·exact Bg.or_ok hb.2 ha.2
  ·exact hb.2
theorem emp_ok : emp.ok := ⟨Bg.nil_ok, Bg.nil_ok⟩
theorem line_okp (must : Int) : ∀ (i : Nat) (s : List Pc) (l : List En), (∀ p ∈ s, p.ok) → (∀ x ∈ l, x.ok) → (line must i s l).1.ok ∧ ∀ x ∈ (line must i s l).2, x.ok
 | _, [], l, _, h => ⟨emp_ok, h⟩
 | i, p :: t, l, hs, h => by
  obtain ⟨h1, h2⟩ := line_okp must (i + 1) t l (fun q hq => hs q (List.mem_cons_of_mem _ hq)) h
  have hp := hs p List.mem_cons_self
  have hj := join_ok hp h1
  exact ⟨⟨hj.1, hj.2⟩, leadL_ok h1.1 _ _ h2⟩
theorem several_ok {wr : Nat → List En → Pc × List En} : ∀ (ks : List Nat), (∀ k ∈ ks, ∀ l : List En, (∀ x ∈ l, x.ok) → (wr k l).1.ok ∧ ∀ x ∈ (wr k l).2, x.ok) → ∀ (acc : List Pc) (l : List En), (∀ p ∈ acc, p.ok) → (∀ x ∈ l, x.ok) →
  (∀ p ∈ (several wr ks acc l).1, p.ok) ∧ ∀ x ∈ (several wr ks acc l).2, x.ok
 | [], _, acc, l, ha, hl => ⟨ha, hl⟩
 | k :: ks, h, acc, l, ha, hl => by
  obtain ⟨h1, h2⟩ := h k List.mem_cons_self l hl
  refine several_ok ks (fun j hj => h j (List.mem_cons_of_mem _ hj)) _ _ ?_ h2
  intro p hp
  rcases List.mem_append.1 hp with hp | hp
  ·exact ha p hp
  ·simp only [List.mem_singleton] at hp; subst hp; exact h1
theorem write_ok {e : List Pt} {m : List UInt8 → Bag} (hm : ∀ p ∈ e, p.kind = 1 → (m p.name).ok) : ∀ f k (l : List En), (∀ x ∈ l, x.ok) → (write e m f k l).1.ok ∧ ∀ x ∈ (write e m f k l).2, x.ok
 | 0, _, l, hl => ⟨emp_ok, hl⟩
 | f + 1, k, l, hl => by
  cases hp : e[k]? with
  | none => simp only [write, hp]; exact ⟨emp_ok, hl⟩
  | some p =>
   simp only [write, hp]
   obtain ⟨h1, h2⟩ := several_ok (wr := write e m f) (kidsOf p) (fun j _ l hl => write_ok hm f j l hl) [] l (fun p hp => by simp at hp) hl
   generalize several (write e m f) (kidsOf p) [] l = s at h1 h2
   unfold close
   split
   ·rename_i hk
    refine ⟨⟨Bg.withN_ok Bg.nil_ok _, Bg.withN_ok Bg.nil_ok _⟩, fun x hx => ?_⟩
    rcases List.mem_append.1 hx with hx | hx
    ·exact h2 x hx
    ·simp only [List.mem_singleton] at hx; subst hx
     exact ⟨hm p (List.mem_of_getElem? hp) hk, Bg.nil_ok⟩
   ·split
    ·exact line_okp _ _ _ _ h1 h2
    ·split
     ·exact ⟨either_ok _ h1, h2⟩
     ·split
      ·refine line_okp _ _ _ _ h1 (leadL_ok ?_ _ _ h2)
       cases hs : s.1 with
       | nil => exact Bg.nil_ok
       | cons a t => rw [List.getLastD_cons]; exact (h1 _ (by rw [hs]; exact List.getLastD_mem_cons)).1
      ·exact line_okp _ _ _ _ h1 h2
abbrev sv (e : List Pt) (m : List UInt8 → Bag) (f : Nat) (pre : List Nat) (l : List En) : List Pc × List En := several (write e m f) pre [] l
theorem sv_snoc (e : List Pt) (m : List UInt8 → Bag) (f : Nat) (pre : List Nat) (k : Nat) (l : List En) : sv e m f (pre ++ [k]) l = ((sv e m f pre l).1 ++ [(write e m f k (sv e m f pre l).2).1], (write e m f k (sv e m f pre l).2).2) := by
 unfold sv; rw [several_append]; rfl
theorem sv_facts {e : List Pt} {m : List UInt8 → Bag} (hm : ∀ p ∈ e, p.kind = 1 → (m p.name).ok) (f : Nat) (pre : List Nat) (l : List En) (hl : ∀ x ∈ l, x.ok) (h : l.length + (pre.map (places e f)).sum ≤ 256) :
  (sv e m f pre l).2.length = l.length + (pre.map (places e f)).sum ∧ (sv e m f pre l).1.length = pre.length ∧ (∀ p ∈ (sv e m f pre l).1, p.within (sv e m f pre l).2.length) ∧ ∀ x ∈ (sv e m f pre l).2, x.ok := by
 obtain ⟨ps, ext, hx, hlen, hr, hw⟩ := several_adds (wr := write e m f) (c := places e f) pre (fun j _ => write_adds e m f j) l.length h
 have h1 := hw [] l rfl
 obtain ⟨g1, g2⟩ := several_ok (wr := write e m f) pre (fun j _ l hl => write_ok hm f j l hl) [] l (fun p hp => by simp at hp) hl
 unfold sv
 rw [h1] at g1 g2 ⊢
 refine ⟨by simp [hx], by simpa using hlen, fun p hp => ?_, g2⟩
 have := hr p (by simpa using hp)
 have h2 := g1 p hp
 exact ⟨⟨h2.1, fun j hj => by have := this.1 j hj; simp [hx]; omega⟩, ⟨h2.2, fun j hj => by have := this.2 j hj; simp [hx]; omega⟩⟩
theorem info_pc : (Tryz.prog.info? 103).map (fun i => (i.zero, i.size, i.bytes)) = some (some (.agg #[.bool false, .int .u64 0, .int .u64 0, .int .u64 0, .int .u64 0, .int .u64 0, .int .u64 0, .int .u64 0, .int .u64 0]), 9, 72) := by kernel_rfl
section
variable {P : Program}
theorem wpList_app_pc {w : World} {ops : Array Oper} {rest : List Oper} {o : Oper} {a : Act} {Q : Exit → Act → World → Prop} (hgd : o.guard = none) (s x : Operand) (t : TypeId)
  (ho : o.op = .call { callee := .builtin .append, args := #[s, x], argTypes := #[t, t] })
  (base : Nat) (e : TypeId) (i : TypeInfo) (z : Value) (ht : P.underlying t = some (.slice e)) (hi : P.info? e = some i) (hz : i.zero = some z) (hz1 : z.cells.size = 9)
  (hsize : i.size = 9) (hby : i.bytes = 72) (v : Value) (n : Nat) (vs : List Value) (hs : a.eval s = v) (hown : w.ownsRow base e 9 v n vs)
  (g c : Nat) (y : Pc) (hx : a.eval x = .slice (some ⟨g, 0, none⟩) 1 c) (hc : ∀ j u, (pccells y)[j]? = some u → w.cell? ⟨g, j, none⟩ = some u) (hbig : n ≤ 100000000) (hbase : base ≤ w.heap.size)
  (h : ∀ v' w', w'.ownsRow base e 9 v' (n + 1) (vs ++ pccells y) → w.grownBy w' v.ownBlock → (v'.ownBlock = v.ownBlock ∨ v'.ownBlock = some w.heap.size) → wpList P ops Q rest (a.put o.dst v') w') :
  wpList P ops Q (o :: rest) a w := by
 refine wpList_plain hgd fun K hK => ?_
 obtain ⟨v', w', hrun, h2, h3, _, h4⟩ := run_append_own_at (P := P) w base t o.type e i z 9 72 ht hi hz hsize hby hz1 (by omega) v n vs hown ⟨g, 0, none⟩ 1 c (pccells y)
  (by simp [pccells]) (fun j u hu => by
    have hp : (⟨g, 0, none⟩ : Addr).add j = ⟨g, j, none⟩ := by unfold Addr.add; split <;> simp_all
    rw [hp]; exact hc j u hu) (by intro u hu; simp [pccells] at hu; rcases hu with rfl | rfl | rfl | rfl | rfl | rfl | rfl | rfl | rfl <;> rfl) (by simp only [maxLen]; omega) (by omega) hbase
 unfold Oper.wp
 simp [execOp, ho, resolve, invoke, builtin, hs, hx, hrun, Result.andThen]
 exact hK _ _ (h v' w' h2 h3 h4)
end
theorem pc_cells (W : World) (y : Pc) : ∀ j u, (pccells y)[j]? = some u → (W.alloc (.cells #[.bool y.em, .int .u64 y.first.a, .int .u64 y.first.b, .int .u64 y.first.c, .int .u64 y.first.d, .int .u64 y.ends.a, .int .u64 y.ends.b, .int .u64 y.ends.c, .int .u64 y.ends.d] 103)).cell? ⟨W.heap.size, j, none⟩ = some u := by
 intro j u hu
 obtain ⟨c0, ⟨c1, c2, c3, c4⟩, c5, c6, c7, c8⟩ := (PAt.new W y).cell
 rcases j with _ | _ | _ | _ | _ | _ | _ | _ | _ | j
 all_goals first
  | (simp only [pccells, List.getElem?_cons_zero, List.getElem?_cons_succ, Option.some.injEq] at hu; subst hu; assumption)
  | (simp [pccells] at hu)
def PtAt (W : World) (b : Nat) (p : PI) (kv : Value) : Prop := W.heap[b]? = some (.cells #[.int .i64 p.kind, .int .i64 p.low, .int .i64 p.high, .string ⟨p.name.toArray⟩, kv] 217 (0, 0))
theorem PtAt.frame {base N : Nat} {W W' : World} {g : Nat} {p : PI} {kv : Value} (h : PtAt W g p kv) (hf : NFrame base N W W') (hg : g ≠ N) : PtAt W' g p kv :=
 hf.other g _ h hg (fun cs fr e => by injection e with _ e _; exact absurd e (by decide))
theorem PtAt.cell {W : World} {g : Nat} {p : PI} {kv : Value} (h : PtAt W g p kv) : W.cell? ⟨g, 0, none⟩ = some (.int .i64 p.kind) ∧ W.cell? ⟨g, 1, none⟩ = some (.int .i64 p.low) ∧ W.cell? ⟨g, 2, none⟩ = some (.int .i64 p.high) ∧ W.cell? ⟨g, 3, none⟩ = some (.string ⟨p.name.toArray⟩) ∧ W.cell? ⟨g, 4, none⟩ = some kv := by
 unfold PtAt at h
 refine ⟨?_, ?_, ?_, ?_, ?_⟩
 all_goals simp [World.cell?, h]
theorem PtAt.kept {W W' : World} {g : Nat} {p : PI} {kv : Value} {row : Option Nat} (h : PtAt W g p kv) (hg : W.grownBy W' row) (hne : some g ≠ row) : PtAt W' g p kv := by
 unfold PtAt; rw [hg.block g (lt_of_some h) (fun e => hne e)]; exact h
theorem PtAt.below {W W' : World} {g n : Nat} {p : PI} {kv : Value} (h : PtAt W g p kv) (hb : Below n W W') (hg : g < n) : PtAt W' g p kv := by
 unfold PtAt; rw [hb.block g hg]; exact h
theorem PtAt.lt {W : World} {g : Nat} {p : PI} {kv : Value} (h : PtAt W g p kv) : g < W.heap.size := lt_of_some h
theorem NS.keptP {base bp N : Nat} {W W' : World} {l : List En} {p : Pc} {v : Value} {s : List Pc} (h : NS base N W l p) (hp : Pcs bp W v s) (hg : W.grownBy W' v.ownBlock) : NS base N W' l p := by
 obtain ⟨u, h1, h2, h3⟩ := h
 refine ⟨u, h1.kept hg (fun e => hp.notN h1 N e.symm rfl), World.ownsRow.kept h2 hg ?_, h3⟩
 rcases h2.2 with ⟨rfl, _⟩ | ⟨g, cap, cur, rfl, _, hgb, _⟩
 ·exact .inl rfl
 ·refine .inr fun e' => ?_
  obtain ⟨_, _, cs, fr, hh⟩ := hp.block g (by simpa [Value.ownBlock] using e'.symm)
  rw [hgb] at hh
  injection hh with hh
  injection hh with _ e _; exact absurd e (by decide)
theorem Pcs.notB {bp : Nat} {W : World} {v : Value} {s : List Pc} (hp : Pcs bp W v s) {b : Nat} (hb : b < bp) : some b ≠ v.ownBlock := by
 intro e
 have := (hp.block b e.symm).1
 omega
end Go.Proofs.YtnbchikiiipejaaGreatDoor.Nf
