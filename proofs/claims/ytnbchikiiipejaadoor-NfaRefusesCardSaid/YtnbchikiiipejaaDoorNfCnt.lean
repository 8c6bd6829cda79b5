/- Nets: how many places the parts of an expression have; no part has more than the whole. Nothing of the program. -/
import Derived.Test.YtnbchikiiipejaaDoorNfGlu
import Derived.Test.YtnbchikiiipejaaDoorExBk
namespace Go.Proofs.YtnbchikiiipejaaDoor.Nf
open Bg (Bag)
open Ex (Pt PI pl wholeK wholeI rightI fitsI)

theorem often_pos {p : Pt} (h : p.kind = 4 → p.high < 0 ∨ 1 ≤ p.high) : 1 ≤ often p := by
  unfold often
  by_cases h4 : p.kind = 4
  · rw [if_pos h4]
    rcases h h4 with g | g
    · rw [if_pos g]; omega
    · rw [if_neg (by omega)]; omega
  · rw [if_neg h4]; omega
theorem kidsOf_sum (P : Nat → Nat) (p : Pt) : ((kidsOf p).map P).sum = often p * (p.kids.map P).sum := by
  unfold kidsOf
  generalize p.kids = ks
  induction often p with
  | zero => simp
  | succ n ih =>
    rw [List.replicate_succ, List.flatten_cons, List.map_append, List.sum_append, ih, Nat.add_mul, Nat.one_mul, Nat.add_comm]
/-- each part's own ones are ahead of it -/
def GoodK (e : List Pt) : Prop := ∀ (i : Nat) (p : Pt), e[i]? = some p → ∀ k ∈ p.kids, k < i
theorem places_fuel {e : List Pt} (hg : GoodK e) : ∀ f g i, i < f → i < g → places e f i = places e g i
  | 0, _, _, h, _ => by omega
  | _ + 1, 0, _, _, h => by omega
  | f + 1, g + 1, i, h1, h2 => by
    cases hp : e[i]? with
    | none => simp [places, hp]
    | some p =>
      simp only [places, hp, kidsOf_sum]
      have e1 : p.kids.map (places e f) = p.kids.map (places e g) := List.map_congr_left fun k hk => by
        have := hg i p hp k hk
        exact places_fuel hg f g k (by omega) (by omega)
      rw [e1]
def pl1 (e : List Pt) (i : Nat) : Nat := places e (i + 1) i
theorem pl1_of {e : List Pt} (hg : GoodK e) (f i : Nat) (h : i < f) : places e f i = pl1 e i := places_fuel hg f (i + 1) i h (by omega)
theorem pl1_eq {e : List Pt} (hg : GoodK e) {i : Nat} {p : Pt} (hp : e[i]? = some p) : pl1 e i = (if p.kind = 1 then 1 else 0) + often p * (p.kids.map (pl1 e)).sum := by
  have e1 : p.kids.map (places e i) = p.kids.map (pl1 e) := List.map_congr_left fun k hk => pl1_of hg i k (hg i p hp k hk)
  show places e (i + 1) i = _
  simp only [places, hp, kidsOf_sum, e1]
theorem mem_le_sum {P : Nat → Nat} {k : Nat} : ∀ {l : List Nat}, k ∈ l → P k ≤ (l.map P).sum
  | [], h => by simp at h
  | x :: l, h => by
    simp only [List.map_cons, List.sum_cons]
    rcases List.mem_cons.1 h with rfl | h
    · omega
    · have := mem_le_sum (P := P) h; omega
theorem whole_in {E : List PI} (P : Nat → Nat) (hP : ∀ k p, E[k]? = some p → ∀ z ∈ p.kids, P z.toNat ≤ P k) : ∀ f k s, wholeI E f k = some s → s ≤ k ∧ ∀ j, s ≤ j → j ≤ k → P j ≤ P k ∧ ∃ p, E[j]? = some p ∧ ∀ z ∈ p.kids, 0 ≤ z ∧ z < (j : Int)
  | 0, k, s, h => by simp [wholeI] at h
  | f + 1, k, s, h => by
    have ih := whole_in P hP f
    have aux : ∀ (zs : List Int) (a s : Nat), wholeK (wholeI E f) a zs = some s → s ≤ a ∧ (∀ z ∈ zs, 0 ≤ z ∧ z < (a : Int)) ∧ ∀ j, s ≤ j → j < a → (∃ z ∈ zs, P j ≤ P z.toNat) ∧ ∃ p, E[j]? = some p ∧ ∀ z ∈ p.kids, 0 ≤ z ∧ z < (j : Int) := by
      intro zs
      induction zs with
      | nil =>
        intro a s hs
        simp only [wholeK, Option.some.injEq] at hs
        subst hs
        exact ⟨Nat.le_refl _, fun z hz => by simp at hz, fun j h1 h2 => by omega⟩
      | cons z zs ihz =>
        intro a s hs
        simp only [wholeK] at hs
        split at hs
        · cases hs
        · rename_i hc
          have hc1 : 1 ≤ a ∧ z = (a : Int) - 1 := by
            constructor
            · exact Nat.le_of_not_lt fun h => hc (.inl h)
            · exact Classical.byContradiction fun h => hc (.inr h)
          cases hT : wholeI E f (a - 1) with
          | none => rw [hT] at hs; cases hs
          | some b =>
            rw [hT] at hs
            obtain ⟨b1, b2⟩ := ih _ _ hT
            obtain ⟨c1, c2, c3⟩ := ihz b s hs
            refine ⟨by omega, fun y hy => ?_, fun j h1 h2 => ?_⟩
            · rcases List.mem_cons.1 hy with rfl | hy
              · omega
              · have := c2 y hy; omega
            · by_cases hj : b ≤ j
              · obtain ⟨d1, d2⟩ := b2 j hj (by omega)
                refine ⟨⟨z, List.mem_cons_self, ?_⟩, d2⟩
                rw [hc1.2, show ((a : Int) - 1).toNat = a - 1 by omega]; exact d1
              · obtain ⟨⟨y, hy, d1⟩, d2⟩ := c3 j h1 (by omega)
                exact ⟨⟨y, List.mem_cons_of_mem _ hy, d1⟩, d2⟩
    simp only [wholeI] at h
    cases hp : E[k]? with
    | none => rw [hp] at h; cases h
    | some p =>
      rw [hp] at h
      obtain ⟨a1, a2, a3⟩ := aux _ _ _ h
      refine ⟨a1, fun j h1 h2 => ?_⟩
      by_cases hj : j = k
      · subst hj
        exact ⟨Nat.le_refl _, p, hp, fun z hz => a2 z (List.mem_reverse.2 hz)⟩
      · obtain ⟨⟨z, hz, d1⟩, d2⟩ := a3 j h1 (by omega)
        exact ⟨Nat.le_trans d1 (hP k p hp z (List.mem_reverse.1 hz)), d2⟩
/-- what an expression's parts are -/
structure Expr (E : List PI) : Prop where
  back : (E.map PI.toP).map Pt.toI = E
  good : GoodK (E.map PI.toP)
  cnt : ∀ p ∈ E.map PI.toP, Cnt p
  fit : ∀ p ∈ E.map PI.toP, Fit p
  four : ∀ p ∈ E.map PI.toP, p.kind = 1 ∨ p.kind = 2 ∨ p.kind = 3 ∨ p.kind = 4
  often : ∀ p ∈ E.map PI.toP, 1 ≤ often p ∧ often p ≤ 20
  nums : ∀ p ∈ E.map PI.toP, 0 ≤ p.low ∧ p.low ≤ 20 ∧ p.high ≤ 20
  most : ∀ j, j < E.length → pl1 (E.map PI.toP) j ≤ pl1 (E.map PI.toP) (E.length - 1)
theorem right_expr {E : List PI} (h : rightI E = true) : Expr E := by
  have hf := Ex.right_fits h
  have hw : E.length = 0 ∨ wholeI E E.length (E.length - 1) = some 0 := by
    have := h
    rw [Ex.right_iff] at this
    rw [Bool.and_eq_true] at this
    simpa using this.2
  have hk : ∀ j, j < E.length → ∃ p, E[j]? = some p ∧ ∀ z ∈ p.kids, 0 ≤ z ∧ z < (j : Int) := by
    intro j hj
    rcases hw with h0 | hw
    · omega
    · exact ((whole_in (fun _ => 0) (fun _ _ _ _ _ => Nat.le_refl _) _ _ _ hw).2 j (by omega) (by omega)).2
  have hmem : ∀ p ∈ E, ∀ z ∈ p.kids, 0 ≤ z := by
    intro p hp z hz
    obtain ⟨j, hj, rfl⟩ := List.mem_iff_getElem.1 hp
    obtain ⟨p, hp, hk⟩ := hk j hj
    rw [List.getElem?_eq_getElem hj] at hp
    cases hp
    exact (hk z hz).1
  have hback : ∀ p ∈ E, p.toP.toI = p := by
    intro p hp
    obtain ⟨kd, lo, hi, nm, ks⟩ := p
    simp only [PI.toP, Pt.toI, pl, List.map_map, PI.mk.injEq, true_and]
    refine (List.map_congr_left fun z hz => ?_).trans (List.map_id ks)
    have := hmem _ hp z hz
    simp only [Function.comp, id]
    omega
  have hget : ∀ (i : Nat) (p : Pt), (E.map PI.toP)[i]? = some p → ∃ q, E[i]? = some q ∧ p = q.toP := by
    intro i p hp
    rw [List.getElem?_map] at hp
    cases hq : E[i]? with
    | none => rw [hq] at hp; cases hp
    | some q => rw [hq] at hp; exact ⟨q, rfl, (Option.some.inj hp).symm⟩
  have hg : GoodK (E.map PI.toP) := by
    intro i p hp k hk'
    obtain ⟨q, hq, rfl⟩ := hget i p hp
    have hi : i < E.length := (List.getElem?_eq_some_iff.1 hq).1
    obtain ⟨q', hq', hkk⟩ := hk i hi
    rw [hq] at hq'
    cases hq'
    obtain ⟨z, hz, rfl⟩ := List.mem_map.1 hk'
    have := hkk z hz
    omega
  have hall : ∀ p ∈ E.map PI.toP, (Cnt p ∧ (p.kind = 1 ∨ p.kind = 2 ∨ p.kind = 3 ∨ p.kind = 4)) ∧ (1 ≤ often p ∧ often p ≤ 20) ∧ 0 ≤ p.low ∧ p.low ≤ 20 ∧ p.high ≤ 20 := by
    intro p hp
    obtain ⟨q, hq, rfl⟩ := List.mem_map.1 hp
    obtain ⟨kd, lo, hi, nm, ks⟩ := q
    rcases Ex.fits_kind (hf _ hq) with ⟨a, b, c, d, _⟩ | ⟨a, b, c, _, _⟩ | ⟨a, _, b, c⟩
    · simp only at a b c d
      subst a; subst b; subst c; subst d
      simp [PI.toP, Cnt, Fit, often]
    · simp only at a b c
      subst b; subst c
      rcases a with a | a <;> subst a <;> simp [PI.toP, Cnt, Fit, often]
    · simp only at a b c
      subst a
      have hs : (0 ≤ lo ∧ lo ≤ 20) ∧ (hi = -1 ∨ (1 ≤ hi ∧ hi ≤ 20 ∧ lo ≤ hi)) := by
        rcases c with ⟨c, _⟩ | ⟨c, _⟩ | ⟨_, _, c1, c2, c3⟩
        · simp at c
        · simp at c
        · exact ⟨⟨c1, c2⟩, c3⟩
      refine ⟨⟨⟨⟨fun h => by simp [PI.toP] at h, fun _ _ _ => ⟨by simpa [PI.toP] using b, hs.1.1⟩⟩, fun _ _ _ => ⟨rfl, fun g => ?_⟩⟩, .inr (.inr (.inr rfl))⟩, ?_, hs.1.1, hs.1.2, ?_⟩
      · simp only [PI.toP] at g ⊢; omega
      · have ho : Nf.often (PI.toP ⟨4, lo, hi, nm, ks⟩) = if hi < 0 then max lo.toNat 1 else hi.toNat := rfl
        rw [ho]
        by_cases hh : hi < 0
        · rw [if_pos hh]; omega
        · rw [if_neg hh]; omega
      · simp only [PI.toP]; omega
  refine ⟨?_, hg, fun p hp => (hall p hp).1.1, fun p hp => (hall p hp).1.1.1, fun p hp => (hall p hp).1.2, fun p hp => (hall p hp).2.1, fun p hp => (hall p hp).2.2, fun j hj => ?_⟩
  · rw [List.map_map]
    exact (List.map_congr_left fun p hp => hback p hp).trans (List.map_id E)
  · rcases hw with h0 | hw
    · omega
    · refine ((whole_in (pl1 (E.map PI.toP)) ?_ _ _ _ hw).2 j (by omega) (by omega)).1
      intro k p hp z hz
      have hp' : (E.map PI.toP)[k]? = some p.toP := by rw [List.getElem?_map, hp]; rfl
      rw [pl1_eq hg hp']
      have hm : z.toNat ∈ p.toP.kids := List.mem_map.2 ⟨z, hz, rfl⟩
      have h1 := mem_le_sum (P := pl1 (E.map PI.toP)) hm
      have h2 := (hall _ (List.mem_of_getElem? hp')).2.1.1
      have h3 : (p.toP.kids.map (pl1 (E.map PI.toP))).sum ≤ Nf.often p.toP * (p.toP.kids.map (pl1 (E.map PI.toP))).sum := Nat.le_mul_of_pos_left _ (by omega)
      omega
end Go.Proofs.YtnbchikiiipejaaDoor.Nf
