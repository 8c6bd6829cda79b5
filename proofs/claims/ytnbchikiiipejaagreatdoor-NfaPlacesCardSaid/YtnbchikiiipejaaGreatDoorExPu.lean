/- The signs of parts, as plain lists. -/
import Derived.Test.YtnbchikiiipejaaGreatDoorExPR
import Derived.Test.YtnbchikiiipejaaGreatDoorNfRef
import Derived.Test.YtnbchikiiipejaaGreatDoorExRight
set_option linter.unusedVariables false
namespace Go.Proofs.YtnbchikiiipejaaGreatDoor.Ex
open Go.RowKit Mem Lx
def brk (k within : Int) : Bool := if within = 2 then k == 2 || k == 3 else if within = 3 then k == 3 else k != 1
def tellK (T : Nat → List Sg) (e : List PI) (kind : Int) : Nat → List Int → List Sg
 | _, [] => []
 | idx, k :: ks => ((if 0 < idx ∧ kind = 3 then [⟨4, 0, 0, 0, []⟩] else []) ++ (if brk ((e[k.toNat]?.map PI.kind).getD 0) kind then (⟨2, 0, 0, 0, []⟩ :: T k.toNat) ++ [⟨3, 0, 0, 0, []⟩] else T k.toNat)) ++ tellK T e kind (idx + 1) ks
def tellI (e : List PI) : Nat → Nat → List Sg
 | 0, _ => []
 | f + 1, i => match e[i]? with
  | none => []
  | some p => ((if p.kind = 1 then [⟨1, 0, 0, 0, p.name⟩] else []) ++ tellK (tellI e f) e p.kind 0 p.kids) ++ (if p.kind = 4 then [⟨5, 0, p.low, p.high, []⟩] else [])
end Go.Proofs.YtnbchikiiipejaaGreatDoor.Ex
namespace Go.Proofs.YtnbchikiiipejaaGreatDoor.Ex
open Lx (Sg)
theorem Rd.det {v : Lv} {l l' : List Sg} {e e' : List Pt} {ok : Bool} {k : Nat} (h : Rd v l e ok k l' e') : ∀ {ok2 : Bool} {k2 : Nat} {l2 : List Sg} {e2 : List Pt}, Rd v l e ok2 k2 l2 e2 → ok2 = ok ∧ k2 = k ∧ l2 = l' ∧ e2 = e' := by
 induction h with
 | @name x l e h1 =>
  intro ok2 k2 l2 e2 g
  cases g with
  | name _ => exact ⟨rfl, rfl, rfl, rfl⟩
  | none g1 _ => exact absurd h1 g1
  | inBad g1 _ => omega
  | noShut g1 _ _ => omega
  | shut g1 _ _ => omega
 | @none l e h1 h2 =>
  intro ok2 k2 l2 e2 g
  cases g with
  | name g1 => exact absurd g1 h1
  | none _ _ => exact ⟨rfl, rfl, rfl, rfl⟩
  | inBad g1 _ => exact absurd g1 h2
  | noShut g1 _ _ => exact absurd g1 h2
  | shut g1 _ _ => exact absurd g1 h2
 | @inBad x l l' e e' k h2 _ ih =>
  intro ok2 k2 l2 e2 g
  cases g with
  | name g1 => omega
  | none _ g2 => exact absurd h2 g2
  | inBad _ g => obtain ⟨_, _, rfl, rfl⟩ := ih g; exact ⟨rfl, rfl, rfl, rfl⟩
  | noShut _ g _ => obtain ⟨h, _⟩ := ih g; cases h
  | shut _ g _ => obtain ⟨h, _⟩ := ih g; cases h
 | @noShut x l l' e e' k h2 _ h3 ih =>
  intro ok2 k2 l2 e2 g
  cases g with
  | name g1 => omega
  | none _ g2 => exact absurd h2 g2
  | inBad _ g => obtain ⟨h, _⟩ := ih g; cases h
  | noShut _ g _ => obtain ⟨_, _, rfl, rfl⟩ := ih g; exact ⟨rfl, rfl, rfl, rfl⟩
  | shut _ g g3 => obtain ⟨_, _, rfl, rfl⟩ := ih g; exact absurd g3 h3
 | @shut x y l l' e e' k h2 _ h3 ih =>
  intro ok2 k2 l2 e2 g
  cases g with
  | name g1 => omega
  | none _ g2 => exact absurd h2 g2
  | inBad _ g => obtain ⟨h, _⟩ := ih g; cases h
  | noShut _ g g3 => obtain ⟨_, _, rfl, rfl⟩ := ih g; exact absurd h3 g3
  | shut _ g _ =>
   obtain ⟨_, rfl, h, rfl⟩ := ih g
   simp only [List.cons.injEq] at h
   obtain ⟨rfl, rfl⟩ := h
   exact ⟨rfl, rfl, rfl, rfl⟩
 | itemBad _ ih =>
  intro ok2 k2 l2 e2 g
  cases g with
  | itemBad g => obtain ⟨_, _, rfl, rfl⟩ := ih g; exact ⟨rfl, rfl, rfl, rfl⟩
  | item g _ => obtain ⟨h, _⟩ := ih g; cases h
  | times g _ => obtain ⟨h, _⟩ := ih g; cases h
 | @item l l' e e' k _ h5 ih =>
  intro ok2 k2 l2 e2 g
  cases g with
  | itemBad g => obtain ⟨h, _⟩ := ih g; cases h
  | item g _ => obtain ⟨_, rfl, rfl, rfl⟩ := ih g; exact ⟨rfl, rfl, rfl, rfl⟩
  | times g g5 => obtain ⟨_, _, rfl, _⟩ := ih g; exact absurd g5 h5
 | @times x l l' e e' k _ h5 ih =>
  intro ok2 k2 l2 e2 g
  cases g with
  | itemBad g => obtain ⟨h, _⟩ := ih g; cases h
  | item g g5 => obtain ⟨_, _, rfl, _⟩ := ih g; exact absurd h5 g5
  | times g _ =>
   obtain ⟨_, rfl, h, rfl⟩ := ih g
   simp only [List.cons.injEq] at h
   obtain ⟨rfl, rfl⟩ := h
   exact ⟨rfl, rfl, rfl, rfl⟩
 | rowBad _ ih =>
  intro ok2 k2 l2 e2 g
  cases g with
  | rowBad g => obtain ⟨_, _, rfl, rfl⟩ := ih g; exact ⟨rfl, rfl, rfl, rfl⟩
  | rowMore g _ _ => obtain ⟨h, _⟩ := ih g; cases h
  | rowEnd g _ _ => obtain ⟨h, _⟩ := ih g; cases h
 | @rowMore ks l l' l'' e e' e'' k k' ok _ h1 _ ih1 ih2 =>
  intro ok2 k2 l2 e2 g
  cases g with
  | rowBad g => obtain ⟨h, _⟩ := ih1 g; cases h
  | rowMore g _ gg => obtain ⟨_, rfl, rfl, rfl⟩ := ih1 g; exact ih2 gg
  | rowEnd g g1 g2 => obtain ⟨_, rfl, rfl, rfl⟩ := ih1 g; omega
 | @rowEnd ks l l' e e' k _ h1 h2 ih =>
  intro ok2 k2 l2 e2 g
  cases g with
  | rowBad g => obtain ⟨h, _⟩ := ih g; cases h
  | rowMore g g1 _ => obtain ⟨_, rfl, rfl, rfl⟩ := ih g; omega
  | rowEnd g _ _ => obtain ⟨_, rfl, rfl, rfl⟩ := ih g; exact ⟨rfl, rfl, rfl, rfl⟩
 | chBad _ ih =>
  intro ok2 k2 l2 e2 g
  cases g with
  | chBad g => obtain ⟨_, _, rfl, rfl⟩ := ih g; exact ⟨rfl, rfl, rfl, rfl⟩
  | chMore g _ _ => obtain ⟨h, _⟩ := ih g; cases h
  | chEnd g _ => obtain ⟨h, _⟩ := ih g; cases h
 | @chMore ks x l l' l'' e e' e'' k k' ok _ h4 _ ih1 ih2 =>
  intro ok2 k2 l2 e2 g
  cases g with
  | chBad g => obtain ⟨h, _⟩ := ih1 g; cases h
  | chMore g _ gg =>
   obtain ⟨_, rfl, h, rfl⟩ := ih1 g
   simp only [List.cons.injEq] at h
   obtain ⟨rfl, rfl⟩ := h
   exact ih2 gg
  | chEnd g g4 => obtain ⟨_, _, rfl, _⟩ := ih1 g; exact absurd h4 g4
 | @chEnd ks l l' e e' k _ h4 ih =>
  intro ok2 k2 l2 e2 g
  cases g with
  | chBad g => obtain ⟨h, _⟩ := ih g; cases h
  | chMore g g4 _ => obtain ⟨_, _, rfl, _⟩ := ih g; exact absurd g4 h4
  | chEnd g _ => obtain ⟨_, rfl, rfl, rfl⟩ := ih g; exact ⟨rfl, rfl, rfl, rfl⟩
end Go.Proofs.YtnbchikiiipejaaGreatDoor.Ex
namespace Go.Proofs.YtnbchikiiipejaaGreatDoor.Ex
open Lx
theorem lexed_fine {x : Sg} (hx : Fine x) (h0 : x.at_ = 0) : lexedI x = true := by
 obtain ⟨c, u, y, h1, h2, h3, h4⟩ := one_shown x hx [] (by simp) 0
 rw [List.append_nil] at h1
 have hy := (one_fine h3).2
 have h5 : Lex (show1 x) = .ok [y] 0 := by
  show From (show1 x) 0 [] = _
  rw [h1, from_one (t := []) h2 (by simp) h3 (by rw [← h1]; simp), from_nil]
  rfl
 unfold lexedI
 rw [h5]
 obtain ⟨a1, a2, a3, a4⟩ := h4
 obtain ⟨k, a, lo, hi, nm⟩ := x
 obtain ⟨k', a', lo', hi', nm'⟩ := y
 dsimp only at h0 hy a1 a2 a3 a4
 subst h0 a1 a2 a3 a4
 simp only [decide_eq_true_eq]
 rw [show a' = 0 from by simpa using hy]
theorem fits_name {x : Sg} (hx : Fine x) (h1 : x.kind = 1) : fitsI ⟨1, 0, 0, x.name, []⟩ = true := by
 rcases hx with ⟨_, h2, h3, h4, h5, h6⟩ | ⟨h, _⟩ | ⟨h, _⟩
 ·have : lexedI ⟨1, 0, 0, 0, x.name⟩ = true := lexed_fine (.inl ⟨rfl, rfl, rfl, h4, h5, h6⟩) rfl
  simp [fitsI, this]
 ·omega
 ·omega
theorem fits_times {x : Sg} (hx : Fine x) (h5 : x.kind = 5) (k : Int) : fitsI ⟨4, x.low, x.high, [], [k]⟩ = true := by
 rcases hx with ⟨h, _⟩ | ⟨h, _⟩ | ⟨_, h2, h3⟩
 ·omega
 ·omega
 ·have : lexedI ⟨5, 0, x.low, x.high, []⟩ = true := lexed_fine (.inr (.inr ⟨rfl, rfl, h3⟩)) rfl
  simp [fitsI, this]
theorem fits_many {kd : Int} (h : kd = 2 ∨ kd = 3) (ks : List Int) (hk : 2 ≤ ks.length) : fitsI ⟨kd, 0, 0, [], ks⟩ = true := by
 unfold fitsI
 dsimp only
 rw [if_neg (by omega), if_pos h]
 simp [hk]
theorem run_append : ∀ (a b : List PI) (i : Nat) (st : List Int), runR i st (a ++ b) = (runR i st a).bind (fun s => runR (i + a.length) s b)
 | [], b, i, st => by simp [runR]
 | p :: a, b, i, st => by
  simp only [List.cons_append, runR]
  cases stepR st i p with
  | none => rfl
  | some f =>
   simp only [List.length_cons]
   rw [run_append a b (i + 1) f, show i + 1 + a.length = i + (a.length + 1) from by omega]
theorem step_yes (st : List Int) (i : Nat) (p : PI) (h : fitsI p = true) : stepR (st ++ p.kids) i p = some (st ++ [(i : Int)]) := by
 unfold stepR
 rw [if_pos ⟨by simp, by simp, h⟩]
 simp
theorem run_one (st : List Int) (i : Nat) (p : PI) (h : fitsI p = true) : runR i (st ++ p.kids) [p] = some (st ++ [(i : Int)]) := by
 simp [runR, step_yes st i p h]
def kidsOf : Lv → List Nat
 | .row ks => ks
 | .choice ks => ks
 | _ => []
theorem pl_append (a b : List Nat) : pl (a ++ b) = pl a ++ pl b := by simp [pl]
theorem Sn.runs {v : Lv} {s : List Sg} {e e' : List Pt} {k : Nat} (h : Sn v s e k e') (hf : ∀ x ∈ s, Fine x) : ∃ n, e' = e ++ n ∧ ∀ st : List Int, runR e.length (st ++ pl (kidsOf v)) (n.map Pt.toI) = some (st ++ [(k : Int)]) := by
 have wh : ∀ (kd : Int) (hkd : kd = 2 ∨ kd = 3) (ks : List Nat) (k : Nat) (e n : List Pt), (e ++ n).length = k + 1 → (∀ st : List Int, runR e.length st (n.map Pt.toI) = some (st ++ [(k : Int)])) →
   ∃ n', (whole kd (e ++ n) (ks ++ [k])).2 = e ++ n' ∧ ∀ st : List Int, runR e.length (st ++ pl ks) (n'.map Pt.toI) = some (st ++ [((whole kd (e ++ n) (ks ++ [k])).1 : Int)]) := by
  intro kd hkd ks k e n hl hr
  by_cases h0 : ks = []
  ·subst h0
   exact ⟨n, rfl, fun st => by simpa [pl, whole] using hr st⟩
  ·have hw : whole kd (e ++ n) (ks ++ [k]) = ((e ++ n).length, (e ++ n) ++ [⟨kd, 0, 0, [], ks ++ [k]⟩]) := by
    cases ks with
    | nil => exact absurd rfl h0
    | cons a ks => cases ks <;> rfl
   rw [hw]
   refine ⟨n ++ [⟨kd, 0, 0, [], ks ++ [k]⟩], by simp, fun st => ?_⟩
   rw [List.map_append, run_append, hr (st ++ pl ks)]
   show runR _ (st ++ pl ks ++ [(k : Int)]) [_] = _
   have hp := run_one st (e.length + (n.map Pt.toI).length) (Pt.toI ⟨kd, 0, 0, [], ks ++ [k]⟩) (fits_many hkd _ (by
    have : 0 < ks.length := List.length_pos_iff.2 h0
    simp [pl]; omega))
   have e1 : st ++ (Pt.toI ⟨kd, 0, 0, [], ks ++ [k]⟩).kids = st ++ pl ks ++ [(k : Int)] := by simp [Pt.toI, pl]
   rw [e1] at hp
   rw [hp]
   simp
 induction h with
 | @name x e h1 =>
  refine ⟨[⟨1, 0, 0, x.name, []⟩], rfl, fun st => ?_⟩
  have := run_one st e.length (Pt.toI ⟨1, 0, 0, x.name, []⟩) (fits_name (hf x (by simp)) h1)
  simpa [Pt.toI, pl, kidsOf] using this
 | shut _ _ _ ih =>
  obtain ⟨n, h1, h2⟩ := ih (fun x hx => hf x (by simp [hx]))
  exact ⟨n, h1, fun st => by simpa [kidsOf] using h2 st⟩
 | item _ ih => exact ih hf
 | @times x s e e' k hb h5 ih =>
  obtain ⟨n, h1, h2⟩ := ih (fun y hy => hf y (by simp [hy]))
  have hl := hb.last
  subst h1
  refine ⟨n ++ [⟨4, x.low, x.high, [], [k]⟩], by simp, fun st => ?_⟩
  rw [List.map_append, run_append]
  have h3 := h2 st
  simp only [kidsOf, pl, List.map_nil, List.append_nil] at h3 ⊢
  rw [h3]
  have hp := run_one st (e.length + (n.map Pt.toI).length) (Pt.toI ⟨4, x.low, x.high, [], [k]⟩) (fits_times (hf x (by simp)) h5 _)
  have e1 : st ++ (Pt.toI ⟨4, x.low, x.high, [], [k]⟩).kids = st ++ [(k : Int)] := by simp [Pt.toI, pl]
  rw [e1] at hp
  show runR _ (st ++ [(k : Int)]) [_] = _
  rw [hp]
  simp
 | @rowMore ks s t e e' e'' k k' h1 h2 ih1 ih2 =>
  obtain ⟨n, rfl, g1⟩ := ih1 (fun x hx => hf x (by simp [hx]))
  obtain ⟨m, rfl, g2⟩ := ih2 (fun x hx => hf x (by simp [hx]))
  refine ⟨n ++ m, by simp, fun st => ?_⟩
  have a1 := g1 (st ++ pl ks)
  have a2 := g2 st
  simp only [kidsOf, pl_append] at a1 a2 ⊢
  rw [List.map_append, run_append]
  simp only [pl, List.map_nil, List.append_nil] at a1
  rw [show List.map (fun (j : Nat) => (j : Int)) ks = pl ks from rfl] at a1
  rw [a1]
  show runR _ _ _ = _
  rw [List.length_map, ← List.length_append, ← a2]
  simp [pl]
 | @rowEnd ks s e e' k h1 ih =>
  obtain ⟨n, rfl, g1⟩ := ih hf
  exact wh 2 (.inl rfl) ks k e n h1.last (fun st => by have := g1 st; simpa [kidsOf, pl] using this)
 | @chMore ks x s t e e' e'' k k' h1 h4 h2 ih1 ih2 =>
  obtain ⟨n, rfl, g1⟩ := ih1 (fun x hx => hf x (by simp [hx]))
  obtain ⟨m, rfl, g2⟩ := ih2 (fun x hx => hf x (by simp [hx]))
  refine ⟨n ++ m, by simp, fun st => ?_⟩
  have a1 := g1 (st ++ pl ks)
  have a2 := g2 st
  simp only [kidsOf, pl_append] at a1 a2 ⊢
  rw [List.map_append, run_append]
  simp only [pl, List.map_nil, List.append_nil] at a1
  rw [show List.map (fun (j : Nat) => (j : Int)) ks = pl ks from rfl] at a1
  rw [a1]
  show runR _ _ _ = _
  rw [List.length_map, ← List.length_append, ← a2]
  simp [pl]
 | @chEnd ks s e e' k h1 ih =>
  obtain ⟨n, rfl, g1⟩ := ih hf
  exact wh 3 (.inr rfl) ks k e n h1.last (fun st => by have := g1 st; simpa [kidsOf, pl] using this)
theorem Sn.right {s : List Sg} {e : List Pt} {k : Nat} (h : Sn (.choice []) s [] k e) (hf : ∀ x ∈ s, Fine x) : rightI (e.map Pt.toI) = true := by
 obtain ⟨n, rfl, h1⟩ := h.runs hf
 have := h1 []
 simp only [kidsOf, pl, List.map_nil, List.append_nil, List.nil_append, List.length_nil] at this ⊢
 unfold rightI
 rw [this]
 rfl
end Go.Proofs.YtnbchikiiipejaaGreatDoor.Ex
namespace Go.Proofs.YtnbchikiiipejaaGreatDoor.Ex
open Lx
def Good (e : List Pt) : Prop := ∀ i (h : i < e.length), Small e[i].toI ∧ (∀ k ∈ e[i].kids, k < i) ∧ e[i].kids.length ≤ i
theorem Good.nil : Good [] := fun i h => by simp at h
theorem Good.more {e : List Pt} {p : Pt} (h : Good e) (h1 : Small p.toI) (h2 : ∀ k ∈ p.kids, k < e.length) (h3 : p.kids.length ≤ e.length) : Good (e ++ [p]) := by
 intro i hi
 by_cases hlt : i < e.length
 ·rw [List.getElem_append_left hlt]
  exact h i hlt
 ·have hie : i = e.length := by simp at hi; omega
  subst hie
  rw [List.getElem_append_right (Nat.le_refl _)]
  simp only [Nat.sub_self, List.getElem_cons_zero]
  exact ⟨h1, h2, h3⟩
theorem small_many (kd : Int) (ks : List Nat) : Small (Pt.toI ⟨kd, 0, 0, [], ks⟩) := by
 unfold Small I64 Pt.toI
 simp
theorem small_fine {x : Sg} (hx : Fine x) : (I64 x.low ∧ I64 x.high) ∧ x.name.length ≤ 100 := fine_64 hx
theorem Sn.good {v : Lv} {s : List Sg} {e e' : List Pt} {k : Nat} (h : Sn v s e k e') (hf : ∀ x ∈ s, Fine x) : Good e → (∀ j ∈ kidsOf v, j < e.length) → (kidsOf v).length ≤ e.length → Good e' := by
 have wh : ∀ (kd : Int) (ks : List Nat) (k : Nat) (e : List Pt), e.length = k + 1 → Good e → (∀ j ∈ ks, j < k + 1) → ks.length ≤ k → Good (whole kd e (ks ++ [k])).2 := by
  intro kd ks k e hl hg hk hkl
  by_cases h0 : ks = []
  ·subst h0; exact hg
  ·have hw : whole kd e (ks ++ [k]) = (e.length, e ++ [⟨kd, 0, 0, [], ks ++ [k]⟩]) := by
    cases ks with
    | nil => exact absurd rfl h0
    | cons a ks => cases ks <;> rfl
   rw [hw]
   refine hg.more (small_many _ _) (fun j hj => ?_) (by simp; omega)
   rcases List.mem_append.1 hj with hj | hj
   ·have := hk j hj; omega
   ·simp at hj; omega
 induction h with
 | @name x e h1 =>
  intro hg _ _
  refine hg.more ?_ (by simp) (by simp)
  have := small_fine (hf x (by simp))
  refine ⟨⟨?_, ?_⟩, this.2⟩ <;> (unfold I64 Pt.toI; simp)
 | shut _ _ _ ih =>
  intro hg _ _
  exact ih (fun x hx => hf x (by simp [hx])) hg (by simp [kidsOf]) (by simp [kidsOf])
 | item _ ih => exact ih hf
 | @times x s e e' k hb h5 ih =>
  intro hg _ _
  have hl := hb.last
  refine (ih (fun y hy => hf y (by simp [hy])) hg (by simp [kidsOf]) (by simp [kidsOf])).more ?_ (by simp; omega) (by simp; omega)
  have := small_fine (hf x (by simp))
  exact ⟨this.1, by simp [Pt.toI]⟩
 | @rowMore ks s t e e' e'' k k' h1 h2 ih1 ih2 =>
  intro hg hk hkl
  obtain ⟨n, hn, rfl, _⟩ := h1.grown
  have hl := h1.last
  simp only [List.length_append] at hl
  simp only [kidsOf] at hk hkl
  refine ih2 (fun x hx => hf x (by simp [hx])) (ih1 (fun x hx => hf x (by simp [hx])) hg (by simp [kidsOf]) (by simp [kidsOf])) (fun j hj => ?_) (by simp [kidsOf]; omega)
  rcases List.mem_append.1 hj with hj | hj
  ·have := hk j hj; simp; omega
  ·simp at hj; simp; omega
 | @rowEnd ks s e e' k h1 ih =>
  intro hg hk hkl
  obtain ⟨n, hn, rfl, _⟩ := h1.grown
  have hl := h1.last
  have hl2 := hl
  simp only [List.length_append] at hl2
  simp only [kidsOf] at hk hkl
  exact wh 2 ks k _ hl (ih hf hg (by simp [kidsOf]) (by simp [kidsOf])) (fun j hj => by have := hk j hj; omega) (by omega)
 | @chMore ks x s t e e' e'' k k' h1 h4 h2 ih1 ih2 =>
  intro hg hk hkl
  obtain ⟨n, hn, rfl, _⟩ := h1.grown
  have hl := h1.last
  simp only [List.length_append] at hl
  simp only [kidsOf] at hk hkl
  refine ih2 (fun x hx => hf x (by simp [hx])) (ih1 (fun x hx => hf x (by simp [hx])) hg (by simp [kidsOf]) (by simp [kidsOf])) (fun j hj => ?_) (by simp [kidsOf]; omega)
  rcases List.mem_append.1 hj with hj | hj
  ·have := hk j hj; simp; omega
  ·simp at hj; simp; omega
 | @chEnd ks s e e' k h1 ih =>
  intro hg hk hkl
  obtain ⟨n, hn, rfl, _⟩ := h1.grown
  have hl := h1.last
  have hl2 := hl
  simp only [List.length_append] at hl2
  simp only [kidsOf] at hk hkl
  exact wh 3 ks k _ hl (ih hf hg (by simp [kidsOf]) (by simp [kidsOf])) (fun j hj => by have := hk j hj; omega) (by omega)
theorem Sn.good' {s : List Sg} {e : List Pt} {k : Nat} (h : Sn (.choice []) s [] k e) (hf : ∀ x ∈ s, Fine x) : Good e := h.good hf Good.nil (by simp [kidsOf]) (by simp [kidsOf])
theorem Good.kids {e : List Pt} (h : Good e) (hl : e.length ≤ 1000000) : ∀ p ∈ e, ∀ k ∈ p.kids, k < 1000000 := by
 intro p hp k hk
 obtain ⟨i, hi, rfl⟩ := List.getElem_of_mem hp
 have := (h i hi).2.1 k hk
 omega
theorem Good.small {e : List Pt} (h : Good e) : ∀ p ∈ e.map Pt.toI, Small p ∧ p.kids.length ≤ e.length := by
 intro p hp
 obtain ⟨q, hq, rfl⟩ := List.mem_map.1 hp
 obtain ⟨i, hi, rfl⟩ := List.getElem_of_mem hq
 obtain ⟨h1, _, h3⟩ := h i hi
 exact ⟨h1, by simp [Pt.toI, pl]; omega⟩
end Go.Proofs.YtnbchikiiipejaaGreatDoor.Ex
