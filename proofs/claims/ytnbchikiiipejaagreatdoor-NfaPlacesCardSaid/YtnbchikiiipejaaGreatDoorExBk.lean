/- Right parts are pieces beside each other, and read as those parts. -/
import Derived.Test.YtnbchikiiipejaaGreatDoorExPu
set_option linter.unusedVariables false
namespace Go.Proofs.YtnbchikiiipejaaGreatDoor.Ex
open Lx
theorem fine_of {x : Sg} (h : lexedI x = true) : Fine x := by
 unfold lexedI at h
 split at h
 ·rename_i y n he
  have h1 := (lex_fine _ (show1 x) 0 [] [y] n (by simp) (by simp) he).1 y (by simp)
  rw [of_decide_eq_true h] at h1
  exact h1
 ·cases h
theorem fits_kind {p : PI} (h : fitsI p = true) : (p.kind = 1 ∧ p.low = 0 ∧ p.high = 0 ∧ p.kids = [] ∧ Fine ⟨1, 0, 0, 0, p.name⟩) ∨ ((p.kind = 2 ∨ p.kind = 3) ∧ p.low = 0 ∧ p.high = 0 ∧ p.name = [] ∧ 2 ≤ p.kids.length) ∨ (p.kind = 4 ∧ p.name = [] ∧ p.kids.length = 1 ∧ Fine ⟨5, 0, p.low, p.high, []⟩) := by
 obtain ⟨kd, lo, hi, nm, ks⟩ := p
 unfold fitsI at h
 dsimp only at h ⊢
 split at h
 ·rename_i h1
  simp only [Bool.and_eq_true, beq_iff_eq, List.length_eq_zero_iff] at h
  have hf := fine_of h.2
  have hz : lo = 0 ∧ hi = 0 := by
   rcases hf with ⟨_, a, b, _⟩ | ⟨a, _⟩ | ⟨a, _⟩
   ·exact ⟨a, b⟩
   ·simp at a
   ·simp at a
  obtain ⟨rfl, rfl⟩ := hz
  exact .inl ⟨h1, rfl, rfl, h.1, hf⟩
 ·split at h
  ·rename_i h1
   simp only [Bool.and_eq_true, decide_eq_true_eq, Sg.mk.injEq, true_and] at h
   exact .inr (.inl ⟨h1, h.2.1, h.2.2.1, h.2.2.2, h.1⟩)
  ·split at h
   ·rename_i h1
    simp only [Bool.and_eq_true, beq_iff_eq] at h
    have hf := fine_of h.2
    have hz : nm = [] := by
     rcases hf with ⟨a, _⟩ | ⟨a, _⟩ | ⟨_, a, _⟩
     ·simp at a
     ·simp at a
     ·exact a
    subst hz
    exact .inr (.inr ⟨h1, rfl, h.1, hf⟩)
   ·cases h
def wholeK (T : Nat → Option Nat) : Nat → List Int → Option Nat
 | a, [] => some a
 | a, z :: zs => if a < 1 ∨ z ≠ (a : Int) - 1 then none else match T (a - 1) with
  | none => none
  | some b => wholeK T b zs
def wholeI (E : List PI) : Nat → Nat → Option Nat
 | 0, _ => none
 | f + 1, k => match E[k]? with
  | none => none
  | some p => wholeK (wholeI E f) k p.kids.reverse
def PI.toP (p : PI) : Pt := ⟨p.kind, p.low, p.high, p.name, p.kids.map Int.toNat⟩
def lvl (k : Int) : Lv := if k = 1 then .bare else if k = 4 then .item else if k = 2 then .row [] else .choice []
def cost (k : Int) : Nat := if k = 1 then 2 else 3
structure Blk (E : List PI) (s k : Nat) (kd : Int) : Prop where
 le : s ≤ k
 kind : E[k]?.map PI.kind = some kd
 four : kd = 1 ∨ kd = 2 ∨ kd = 3 ∨ kd = 4
 wh : ∀ f, k < f → wholeI E f k = some s
 sn : ∀ f, k < f → Sn (lvl kd) (tellI E f k) ((E.map PI.toP).take s) k ((E.map PI.toP).take (k + 1)) ∧ (∀ x ∈ tellI E f k, Fine x) ∧ (tellI E f k).length + cost kd ≤ 3 * (k + 1 - s)
def br (E : List PI) (T : Nat → List Sg) (kd : Int) (k : Nat) : List Sg := if brk ((E[k]?.map PI.kind).getD 0) kd then (⟨2, 0, 0, 0, []⟩ :: T k) ++ [⟨3, 0, 0, 0, []⟩] else T k
theorem tellK_br (E : List PI) (T : Nat → List Sg) (kd : Int) (idx k : Nat) (ks : List Nat) : tellK T E kd idx (pl (k :: ks)) = ((if 0 < idx ∧ kd = 3 then [⟨4, 0, 0, 0, []⟩] else []) ++ br E T kd k) ++ tellK T E kd (idx + 1) (pl ks) := by
 simp [pl, tellK, br]
theorem fine2 : Fine ⟨2, 0, 0, 0, []⟩ := .inr (.inl ⟨.inl rfl, rfl, rfl, rfl⟩)
theorem fine3 : Fine ⟨3, 0, 0, 0, []⟩ := .inr (.inl ⟨.inr (.inl rfl), rfl, rfl, rfl⟩)
theorem fine4 : Fine ⟨4, 0, 0, 0, []⟩ := .inr (.inl ⟨.inr (.inr rfl), rfl, rfl, rfl⟩)
theorem Sn.row1 {s : List Sg} {e e' : List Pt} {k : Nat} (h : Sn .item s e k e') : Sn (.row []) s e k e' := Sn.rowEnd (ks := []) h
theorem Sn.ch1 {s : List Sg} {e e' : List Pt} {k : Nat} (h : Sn (.row []) s e k e') : Sn (.choice []) s e k e' := Sn.chEnd (ks := []) h
theorem Sn.top {kd : Int} {s : List Sg} {e e' : List Pt} {k : Nat} (h : Sn (lvl kd) s e k e') : Sn (.choice []) s e k e' := by
 unfold lvl at h
 split at h
 ·exact h.item.row1.ch1
 ·split at h
  ·exact h.row1.ch1
  ·split at h
   ·exact h.ch1
   ·exact h
theorem Sn.inBr {kd : Int} {s : List Sg} {e e' : List Pt} {k : Nat} (h : Sn (lvl kd) s e k e') : Sn .bare ((⟨2, 0, 0, 0, []⟩ :: s) ++ [⟨3, 0, 0, 0, []⟩]) e k e' := .shut rfl h.top rfl
theorem Blk.br_fine {E : List PI} {s k : Nat} {kd : Int} (h : Blk E s k kd) (w : Int) (f : Nat) (hf : k < f) : ∀ x ∈ br E (tellI E f) w k, Fine x := by
 intro x hx
 unfold br at hx
 have g := (h.sn f hf).2.1
 split at hx
 ·simp only [List.cons_append, List.mem_cons, List.mem_append, List.not_mem_nil, or_false] at hx
  rcases hx with rfl | hx | rfl
  ·exact fine2
  ·exact g x hx
  ·exact fine3
 ·exact g x hx
theorem Blk.br_len {E : List PI} {s k : Nat} {kd : Int} (h : Blk E s k kd) (w : Int) (hw : w = 2 ∨ w = 3 ∨ w = 4) (f : Nat) (hf : k < f) : (br E (tellI E f) w k).length + 1 ≤ 3 * (k + 1 - s) := by
 unfold br
 have g := (h.sn f hf).2.2
 rw [h.kind, Option.getD_some]
 unfold cost at g
 split
 ·rename_i hb
  have : kd ≠ 1 := by rintro rfl; rcases hw with rfl | rfl | rfl <;> simp [brk] at hb
  rw [if_neg this] at g
  simp; omega
 ·split at g <;> omega
theorem Blk.bare4 {E : List PI} {s k : Nat} {kd : Int} (h : Blk E s k kd) (f : Nat) (hf : k < f) : Sn .bare (br E (tellI E f) 4 k) ((E.map PI.toP).take s) k ((E.map PI.toP).take (k + 1)) := by
 unfold br
 have g := (h.sn f hf).1
 rw [h.kind, Option.getD_some]
 split
 ·exact g.inBr
 ·rename_i hb
  have : kd = 1 := by simpa [brk] using hb
  subst this
  exact g
theorem Blk.item2 {E : List PI} {s k : Nat} {kd : Int} (h : Blk E s k kd) (f : Nat) (hf : k < f) : Sn .item (br E (tellI E f) 2 k) ((E.map PI.toP).take s) k ((E.map PI.toP).take (k + 1)) := by
 unfold br
 have g := (h.sn f hf).1
 rw [h.kind, Option.getD_some]
 split
 ·exact g.inBr.item
 ·rename_i hb
  rcases h.four with rfl | rfl | rfl | rfl
  ·exact g.item
  ·simp [brk] at hb
  ·simp [brk] at hb
  ·exact g
theorem Blk.row3 {E : List PI} {s k : Nat} {kd : Int} (h : Blk E s k kd) (f : Nat) (hf : k < f) : Sn (.row []) (br E (tellI E f) 3 k) ((E.map PI.toP).take s) k ((E.map PI.toP).take (k + 1)) := by
 unfold br
 have g := (h.sn f hf).1
 rw [h.kind, Option.getD_some]
 split
 ·exact g.inBr.item.row1
 ·rename_i hb
  rcases h.four with rfl | rfl | rfl | rfl
  ·exact g.item.row1
  ·exact g
  ·simp [brk] at hb
  ·exact g.row1
inductive Ch (E : List PI) : Nat → List Nat → Nat → Prop where
 | nil (s : Nat) : Ch E s [] s
 | cons {s k t : Nat} {kd : Int} {ks : List Nat} : Blk E s k kd → Ch E (k + 1) ks t → Ch E s (k :: ks) t
theorem Ch.le {E : List PI} {s t : Nat} {ks : List Nat} (h : Ch E s ks t) : s + ks.length ≤ t := by
 induction h with
 | nil _ => simp
 | cons hb _ ih => have := hb.le; simp; omega
theorem Ch.split {E : List PI} : ∀ {a b : List Nat} {s t : Nat}, Ch E s (a ++ b) t → ∃ m, Ch E s a m ∧ Ch E m b t
 | [], b, s, t, h => ⟨s, .nil s, h⟩
 | k :: a, b, s, t, h => by
  cases h with
  | cons hb g =>
   obtain ⟨m, g1, g2⟩ := Ch.split g
   exact ⟨m, .cons hb g1, g2⟩
theorem Ch.snoc {E : List PI} : ∀ {a : List Nat} {s m k : Nat} {kd : Int}, Ch E s a m → Blk E m k kd → Ch E s (a ++ [k]) (k + 1)
 | [], s, m, k, kd, h, hb => by cases h; exact .cons hb (.nil _)
 | x :: a, s, m, k, kd, h, hb => by
  cases h with
  | cons h1 g => exact .cons h1 (Ch.snoc g hb)
theorem Ch.wh {E : List PI} {f : Nat} : ∀ (n : Nat) {b : List Nat} {s t : Nat}, b.length = n → Ch E s b t → t ≤ f → wholeK (wholeI E f) t (pl b).reverse = some s
 | 0, b, s, t, hn, h, ht => by
  have hb : b = [] := List.length_eq_zero_iff.1 hn
  subst hb
  cases h
  rfl
 | n + 1, b, s, t, hn, h, ht => by
  rcases List.eq_nil_or_concat b with rfl | ⟨L, k, rfl⟩
  ·simp at hn
  ·rw [List.concat_eq_append] at h hn ⊢
   obtain ⟨m, g1, g2⟩ := h.split
   cases g2 with
   | cons hb g =>
    cases g
    have e1 : (pl (L ++ [k])).reverse = (k : Int) :: (pl L).reverse := by simp [pl]
    rw [e1, wholeK, if_neg (by omega), Nat.add_sub_cancel, hb.wh f (by omega)]
    exact Ch.wh n (by simpa using hn) g1 (by have := hb.le; omega)
theorem rowK {E : List PI} {f : Nat} : ∀ {ks : List Nat} {s t : Nat} (pre : List Nat) (idx : Nat), Ch E s ks t → ks ≠ [] → t ≤ f →
  Sn (.row pre) (tellK (tellI E f) E 2 idx (pl ks)) ((E.map PI.toP).take s) (whole 2 ((E.map PI.toP).take t) (pre ++ ks)).1 (whole 2 ((E.map PI.toP).take t) (pre ++ ks)).2 ∧ (∀ x ∈ tellK (tellI E f) E 2 idx (pl ks), Fine x) ∧ (tellK (tellI E f) E 2 idx (pl ks)).length + ks.length ≤ 3 * (t - s)
 | [], s, t, pre, idx, h, h0, ht => absurd rfl h0
 | [k], s, t, pre, idx, h, h0, ht => by
  cases h with
  | cons hb g =>
   cases g
   rw [tellK_br]
   have hl := hb.br_len 2 (.inl rfl) f (by omega)
   simp only [show ¬ (0 < idx ∧ (2 : Int) = 3) from by omega, if_false, List.nil_append, pl, List.map_nil, tellK, List.append_nil]
   exact ⟨.rowEnd (hb.item2 f (by omega)), hb.br_fine 2 f (by omega), by simpa using hl⟩
 | k :: k2 :: ks, s, t, pre, idx, h, h0, ht => by
  cases h with
  | cons hb g =>
   have hle := g.le
   simp at hle
   have hle2 := hb.le
   have hl := hb.br_len 2 (.inl rfl) f (by omega)
   obtain ⟨a, b, c⟩ := rowK (pre ++ [k]) (idx + 1) g (by simp) ht
   rw [tellK_br]
   simp only [show ¬ (0 < idx ∧ (2 : Int) = 3) from by omega, if_false, List.nil_append]
   refine ⟨?_, ?_, ?_⟩
   ·have := Sn.rowMore (ks := pre) (hb.item2 f (by omega)) a
    simpa using this
   ·intro x hx
    rcases List.mem_append.1 hx with hx | hx
    ·exact hb.br_fine 2 f (by omega) x hx
    ·exact b x hx
   ·simp at c ⊢; omega
theorem chK {E : List PI} {f : Nat} : ∀ {ks : List Nat} {k s t : Nat} {kd : Int} (pre : List Nat) (idx : Nat), Blk E s k kd → Ch E (k + 1) ks t → t ≤ f →
  Sn (.choice pre) (br E (tellI E f) 3 k ++ tellK (tellI E f) E 3 (idx + 1) (pl ks)) ((E.map PI.toP).take s) (whole 3 ((E.map PI.toP).take t) (pre ++ k :: ks)).1 (whole 3 ((E.map PI.toP).take t) (pre ++ k :: ks)).2 ∧ (∀ x ∈ br E (tellI E f) 3 k ++ tellK (tellI E f) E 3 (idx + 1) (pl ks), Fine x) ∧ (br E (tellI E f) 3 k ++ tellK (tellI E f) E 3 (idx + 1) (pl ks)).length + 1 ≤ 3 * (t - s)
 | [], k, s, t, kd, pre, idx, hb, g, ht => by
  cases g
  have hl := hb.br_len 3 (.inr (.inl rfl)) f (by omega)
  simp only [pl, List.map_nil, tellK, List.append_nil]
  exact ⟨.chEnd (hb.row3 f (by omega)), hb.br_fine 3 f (by omega), by simpa using hl⟩
 | k2 :: ks, k, s, t, kd, pre, idx, hb, g, ht => by
  cases g with
  | cons hb2 g =>
   have hle := g.le
   have hle2 := hb.le
   have hle3 := hb2.le
   have hl := hb.br_len 3 (.inr (.inl rfl)) f (by omega)
   obtain ⟨a, b, c⟩ := chK (pre ++ [k]) (idx + 1) hb2 g ht
   rw [tellK_br]
   simp only [show (0 < idx + 1 ∧ (3 : Int) = 3) from by omega, and_self, if_true]
   refine ⟨?_, ?_, ?_⟩
   ·have := Sn.chMore (ks := pre) (x := ⟨4, 0, 0, 0, []⟩) (hb.row3 f (by omega)) rfl a
    simpa using this
   ·intro x hx
    rcases List.mem_append.1 hx with hx | hx
    ·exact hb.br_fine 3 f (by omega) x hx
    ·rw [List.append_assoc] at hx
     rcases List.mem_append.1 hx with hx | hx
     ·simp at hx; subst hx; exact fine4
     ·exact b x hx
   ·simp at c ⊢; omega
theorem toP_pl (p : PI) {b : List Nat} (h : p.kids = pl b) : p.toP = ⟨p.kind, p.low, p.high, p.name, b⟩ ∧ p.toP.toI = p := by
 obtain ⟨kd, lo, hi, nm, ks⟩ := p
 dsimp only at h
 subst h
 have : (pl b).map Int.toNat = b := by
  rw [pl, List.map_map]
  conv => rhs; rw [← List.map_id b]
  exact List.map_congr_left (fun j _ => Int.toNat_natCast j)
 simp [PI.toP, Pt.toI, this]
theorem whole_two (kd : Int) (e : List Pt) (ks : List Nat) (h : 2 ≤ ks.length) : whole kd e ks = (e.length, e ++ [⟨kd, 0, 0, [], ks⟩]) := by
 rcases ks with _ | ⟨a, _ | ⟨b, ks⟩⟩
 ·simp at h
 ·simp at h
 ·rfl
theorem blk_new {E : List PI} {i s : Nat} {p : PI} {b : List Nat} (hp : E[i]? = some p) (hfit : fitsI p = true) (hk : p.kids = pl b) (hc : Ch E s b i) : Blk E s i p.kind := by
 obtain ⟨hP, -⟩ := toP_pl p hk
 have hi : i < E.length := (List.getElem?_eq_some_iff.1 hp).1
 have htake : (E.map PI.toP).take (i + 1) = (E.map PI.toP).take i ++ [p.toP] := by
  rw [List.take_add_one, List.getElem?_map, hp]; rfl
 have hlen : ((E.map PI.toP).take i).length = i := by simp; omega
 have hle := hc.le
 have hwh : ∀ f, i < f → wholeI E f i = some s := by
  intro f hf
  obtain ⟨g, rfl⟩ : ∃ g, f = g + 1 := ⟨f - 1, by omega⟩
  rw [wholeI, hp]
  dsimp only
  rw [hk]
  exact hc.wh _ rfl (by omega)
 have tell : ∀ f, tellI E (f + 1) i = ((if p.kind = 1 then [⟨1, 0, 0, 0, p.name⟩] else []) ++ tellK (tellI E f) E p.kind 0 p.kids) ++ (if p.kind = 4 then [⟨5, 0, p.low, p.high, []⟩] else []) := by
  intro f; rw [tellI, hp]
 rcases fits_kind hfit with ⟨h1, hlo, hhi, hks, hfine⟩ | ⟨h23, hlo, hhi, hnm, h2⟩ | ⟨h4, hnm, h1, hfine⟩
 ·have hb : b = [] := by rw [hks] at hk; simpa [pl] using hk.symm
  subst hb
  cases hc
  refine ⟨Nat.le_refl _, by rw [hp]; rfl, .inl h1, hwh, fun f hf => ?_⟩
  obtain ⟨g, rfl⟩ : ∃ g, f = g + 1 := ⟨f - 1, by omega⟩
  rw [tell, h1, hks, htake, hP, h1, hlo, hhi]
  simp only [if_true, tellK, List.append_nil, show ¬ ((1 : Int) = 4) from by decide, if_false, cost]
  refine ⟨?_, ?_, ?_⟩
  ·have := Sn.name (x := ⟨1, 0, 0, 0, p.name⟩) (e := (E.map PI.toP).take i) rfl
   rw [hlen] at this
   exact this
  ·intro x hx; simp at hx; subst hx; exact hfine
  ·simp
 ·have hbl : 2 ≤ b.length := by rw [hk] at h2; simpa [pl] using h2
  have h14 : p.kind ≠ 1 ∧ p.kind ≠ 4 := by omega
  refine ⟨by omega, by rw [hp]; rfl, by omega, hwh, fun f hf => ?_⟩
  obtain ⟨g, rfl⟩ : ∃ g, f = g + 1 := ⟨f - 1, by omega⟩
  rw [tell, if_neg h14.1, if_neg h14.2, hk, htake, hP, hlo, hhi, hnm, List.nil_append, List.append_nil]
  have hcost : cost p.kind = 3 := by unfold cost; rw [if_neg h14.1]
  rw [hcost]
  rcases h23 with h | h
  ·rw [h]
   obtain ⟨x1, x2, x3⟩ := rowK (f := g) [] 0 hc (by intro e; rw [e] at hbl; simp at hbl) (by omega)
   rw [List.nil_append, whole_two 2 _ _ hbl, hlen] at x1
   exact ⟨x1, x2, by omega⟩
  ·rw [h]
   cases hc with
   | nil => simp at hbl
   | @cons _ k _ kd ks hb hc =>
    obtain ⟨x1, x2, x3⟩ := chK (f := g) [] 0 hb hc (by omega)
    rw [List.nil_append, whole_two 3 _ _ hbl, hlen] at x1
    rw [tellK_br, if_neg (by omega), List.nil_append]
    exact ⟨x1, x2, by omega⟩
 ·have hbl : b.length = 1 := by rw [hk] at h1; simpa [pl] using h1
  obtain ⟨k, rfl⟩ := List.length_eq_one_iff.1 hbl
  cases hc with
  | @cons _ _ _ kd _ hb g =>
   cases g
   refine ⟨by have := hb.le; omega, by rw [hp]; rfl, .inr (.inr (.inr h4)), hwh, fun f hf => ?_⟩
   obtain ⟨g, rfl⟩ : ∃ g, f = g + 1 := ⟨f - 1, by omega⟩
   rw [tell, h4, hk, htake, hP, h4, hnm, tellK_br]
   have hl := hb.br_len 4 (.inr (.inr rfl)) g (by omega)
   have hle2 := hb.le
   simp only [show ¬ ((4 : Int) = 1) from by decide, if_false, if_true, List.nil_append, pl, List.map_nil, tellK, List.append_nil, cost, show ¬ (0 < 0 ∧ (4 : Int) = 3) from by decide]
   refine ⟨?_, ?_, ?_⟩
   ·have := Sn.times (hb.bare4 g (by omega)) (x := ⟨5, 0, p.low, p.high, []⟩) rfl
    rw [hlen] at this
    exact this
   ·intro x hx
    rcases List.mem_append.1 hx with hx | hx
    ·exact hb.br_fine 4 g (by omega) x hx
    ·simp at hx; subst hx; exact hfine
   ·simp; omega
theorem pl_drop (b : List Nat) (m : Nat) : (pl b).drop m = pl (b.drop m) := by simp [pl, List.map_drop]
theorem pl_take (b : List Nat) (m : Nat) : (pl b).take m = pl (b.take m) := by simp [pl, List.map_take]
theorem run_blocks {E : List PI} : ∀ (i : Nat), i ≤ E.length → ∀ st, runR 0 [] (E.take i) = some st → (∃ ks, st = pl ks ∧ Ch E 0 ks i) ∧ (∀ p ∈ E.take i, p.toP.toI = p ∧ fitsI p = true)
 | 0, _, st, h => by
  simp [runR] at h
  subst h
  exact ⟨⟨[], rfl, .nil 0⟩, by simp⟩
 | i + 1, hi, st, h => by
  have hp : E[i]? = some E[i] := List.getElem?_eq_getElem (by omega)
  have ht : E.take (i + 1) = E.take i ++ [E[i]] := by rw [List.take_add_one, hp]; rfl
  rw [ht, run_append] at h
  cases h0 : runR 0 [] (E.take i) with
  | none => rw [h0] at h; simp at h
  | some st0 =>
   obtain ⟨⟨ks, rfl, hc⟩, hall⟩ := run_blocks i (by omega) st0 h0
   rw [h0] at h
   have hlen : (E.take i).length = i := by simp; omega
   simp only [Option.bind_some, hlen, Nat.zero_add, runR] at h
   cases hs : stepR (pl ks) i E[i] with
   | none => rw [hs] at h; simp at h
   | some f =>
    rw [hs] at h
    simp at h
    subst h
    unfold stepR at hs
    split at hs
    ·rename_i hc3
     obtain ⟨c1, c2, c3⟩ := hc3
     injection hs with hs
     subst hs
     generalize hm : (pl ks).length - E[i].kids.length = m at c2
     rw [pl_drop] at c2
     rw [← List.take_append_drop m ks] at hc
     obtain ⟨s, g1, g2⟩ := hc.split
     have hb := blk_new hp c3 c2.symm g2
     refine ⟨⟨ks.take m ++ [i], by rw [pl_take, pl_append]; rfl, g1.snoc hb⟩, ?_⟩
     rw [ht]
     intro p hpm
     rcases List.mem_append.1 hpm with hpm | hpm
     ·exact hall p hpm
     ·simp at hpm; subst hpm; exact ⟨(toP_pl _ c2.symm).2, c3⟩
    ·cases hs
theorem right_sn {E : List PI} (h : rightI E = true) (hne : 0 < E.length) : ∃ e : List Pt, E = e.map Pt.toI ∧ Sn (.choice []) (tellI E E.length (E.length - 1)) [] (E.length - 1) e ∧ (∀ x ∈ tellI E E.length (E.length - 1), Fine x) ∧ (tellI E E.length (E.length - 1)).length ≤ 3 * E.length := by
 unfold rightI at h
 split at h
 ·rename_i st hst
  obtain ⟨⟨ks, rfl, hc⟩, hall⟩ := run_blocks E.length (Nat.le_refl _) st (by rw [List.take_length]; exact hst)
  rw [List.take_length] at hall
  have hk1 : ks.length = 1 := by
   simp [pl] at h
   rcases h with h | h
   ·exact h
   ·rw [h] at hne; simp at hne
  obtain ⟨k, rfl⟩ := List.length_eq_one_iff.1 hk1
  generalize hn : E.length = n at hc hne
  cases hc with
  | @cons _ _ _ kd _ hb g =>
   cases g
   obtain ⟨x1, x2, x3⟩ := hb.sn (k + 1) (by omega)
   rw [Nat.add_sub_cancel]
   have e2 : (E.map PI.toP).take (k + 1) = E.map PI.toP := by rw [← hn, List.take_of_length_le (by simp)]
   rw [e2] at x1
   refine ⟨E.map PI.toP, ?_, x1.top, x2, by omega⟩
   rw [List.map_map]
   conv => lhs; rw [← List.map_id E]
   exact List.map_congr_left (fun p hp => ((hall p hp).1).symm)
 ·cases h
theorem right_whole {E : List PI} (h : rightI E = true) (hne : 0 < E.length) : wholeI E E.length (E.length - 1) = some 0 := by
 unfold rightI at h
 split at h
 ·rename_i st hst
  obtain ⟨⟨ks, rfl, hc⟩, hall⟩ := run_blocks E.length (Nat.le_refl _) st (by rw [List.take_length]; exact hst)
  have hk1 : ks.length = 1 := by
   simp [pl] at h
   rcases h with h | h
   ·exact h
   ·rw [h] at hne; simp at hne
  obtain ⟨k, rfl⟩ := List.length_eq_one_iff.1 hk1
  generalize hn : E.length = n at hc hne
  cases hc with
  | cons hb g =>
   cases g
   exact hb.wh (k + 1) (by omega)
 ·cases h
theorem right_fits {E : List PI} (h : rightI E = true) : ∀ p ∈ E, fitsI p = true := by
 unfold rightI at h
 split at h
 ·rename_i st hst
  obtain ⟨_, hall⟩ := run_blocks E.length (Nat.le_refl _) st (by rw [List.take_length]; exact hst)
  rw [List.take_length] at hall
  exact fun p hp => (hall p hp).2
 ·cases h
theorem seg_cut (E : List PI) (a b c : Nat) (h1 : a ≤ b) (h2 : b ≤ c) : (E.drop a).take (c - a) = (E.drop a).take (b - a) ++ (E.drop b).take (c - b) := by
 have e : c - a = (b - a) + (c - b) := by omega
 rw [e, List.take_add, List.drop_drop, show a + (b - a) = b from by omega]
theorem wholeK_runs {E : List PI} {T : Nat → Option Nat} (hT : ∀ k s, T k = some s → s ≤ k ∧ k < E.length ∧ ∀ st : List Int, runR s st ((E.drop s).take (k + 1 - s)) = some (st ++ [(k : Int)])) :
  ∀ (zs : List Int) (a s : Nat), a ≤ E.length → wholeK T a zs = some s → s ≤ a ∧ ∀ st : List Int, runR s st ((E.drop s).take (a - s)) = some (st ++ zs.reverse)
 | [], a, s, ha, h => by
  simp [wholeK] at h
  subst h
  exact ⟨Nat.le_refl _, fun st => by simp [runR]⟩
 | z :: zs, a, s, ha, h => by
  rw [wholeK] at h
  split at h
  ·cases h
  ·rename_i hz
   cases hb : T (a - 1) with
   | none => rw [hb] at h; cases h
   | some b =>
    rw [hb] at h
    obtain ⟨b1, b2, b3⟩ := hT _ _ hb
    obtain ⟨c1, c2⟩ := wholeK_runs hT zs b s (by omega) h
    refine ⟨by omega, fun st => ?_⟩
    rw [seg_cut E s b a c1 (by omega), run_append, c2 st, Option.bind_some]
    have hl : ((E.drop s).take (b - s)).length = b - s := by simp; omega
    have b4 := b3 (st ++ zs.reverse)
    rw [show a - 1 + 1 - b = a - b from by omega] at b4
    rw [hl, show s + (b - s) = b from by omega, b4]
    have hz2 : z = ((a - 1 : Nat) : Int) := by omega
    simp [hz2]
theorem whole_runs {E : List PI} (hf : ∀ p ∈ E, fitsI p = true) : ∀ (f k s : Nat), wholeI E f k = some s → s ≤ k ∧ k < E.length ∧ ∀ st : List Int, runR s st ((E.drop s).take (k + 1 - s)) = some (st ++ [(k : Int)])
 | 0, k, s, h => by cases h
 | f + 1, k, s, h => by
  rw [wholeI] at h
  cases hp : E[k]? with
  | none => rw [hp] at h; cases h
  | some p =>
   rw [hp] at h
   obtain ⟨hk, hpe⟩ := List.getElem?_eq_some_iff.1 hp
   obtain ⟨c1, c2⟩ := wholeK_runs (fun k s g => whole_runs hf f k s g) p.kids.reverse k s (by omega) h
   refine ⟨c1, hk, fun st => ?_⟩
   rw [seg_cut E s k (k + 1) c1 (by omega), run_append, c2 st, Option.bind_some, List.reverse_reverse]
   have hl : ((E.drop s).take (k - s)).length = k - s := by simp; omega
   have h1 : (E.drop k).take (k + 1 - k) = [p] := by
    rw [show k + 1 - k = 1 from by omega, List.drop_eq_getElem_cons hk, hpe]
    rfl
   rw [hl, show s + (k - s) = k from by omega, h1]
   exact run_one st k p (hf p (by rw [← hpe]; exact List.getElem_mem hk))
theorem right_iff (E : List PI) : rightI E = (E.all fitsI && (E.length == 0 || wholeI E E.length (E.length - 1) == some 0)) := by
 rw [Bool.eq_iff_iff]
 simp only [Bool.and_eq_true, List.all_eq_true, Bool.or_eq_true, beq_iff_eq]
 constructor
 ·intro h
  refine ⟨right_fits h, ?_⟩
  by_cases h0 : E.length = 0
  ·exact .inl h0
  ·exact .inr (right_whole h (by omega))
 ·rintro ⟨hf, h⟩
  by_cases h0 : E.length = 0
  ·have : E = [] := List.length_eq_zero_iff.1 h0
   subst this
   rfl
  ·obtain ⟨_, _, g⟩ := whole_runs hf _ _ _ (h.resolve_left h0)
   have := g []
   rw [Nat.sub_zero, List.drop_zero, show E.length - 1 + 1 = E.length from by omega, List.take_length] at this
   unfold rightI
   rw [this]
   rfl
end Go.Proofs.YtnbchikiiipejaaGreatDoor.Ex
