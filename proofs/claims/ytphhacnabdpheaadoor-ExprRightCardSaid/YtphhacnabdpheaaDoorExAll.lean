/- Expressions: the law ExprParses: what is parsed is right; the reference of Parse; Show; the example; both answers side by side; copies; the law. -/
import Derived.Test.YtphhacnabdpheaaDoorExCut
import Derived.Test.YtphhacnabdpheaaDoorExRight
import Derived.Test.YtphhacnabdpheaaDoorExTell
import Derived.Test.YtphhacnabdpheaaDoorExBuildM
import Derived.Test.YtphhacnabdpheaaDoorLxW
import Derived.Test.YtphhacnabdpheaaDoorExTellW
import Derived.Test.YtphhacnabdpheaaDoorExParse
import Derived.Test.YtphhacnabdpheaaDoorExPR
namespace Go.Proofs.YtphhacnabdpheaaDoor.Ex
open Lx (Sg)

/-- one reading alone -/
theorem Rd.det {v : Lv} {l l' : List Sg} {e e' : List Pt} {ok : Bool} {k : Nat} (h : Rd v l e ok k l' e') : ∀ {ok2 : Bool} {k2 : Nat} {l2 : List Sg} {e2 : List Pt}, Rd v l e ok2 k2 l2 e2 → ok2 = ok ∧ k2 = k ∧ l2 = l' ∧ e2 = e' := by
  induction h with
  | @name x l e h1 =>
    intro ok2 k2 l2 e2 g
    cases g with
    | name _ => exact ⟨rfl, rfl, rfl, rfl⟩
    | none g1 _ => exact absurd h1 g1
    | inBad g1 _ => omega
    | noShut g1 _ _ => omega
    | shut g1 _ _ => omega
  | @none l e h1 h2 =>
    intro ok2 k2 l2 e2 g
    cases g with
    | name g1 => exact absurd g1 h1
    | none _ _ => exact ⟨rfl, rfl, rfl, rfl⟩
    | inBad g1 _ => exact absurd g1 h2
    | noShut g1 _ _ => exact absurd g1 h2
    | shut g1 _ _ => exact absurd g1 h2
  | @inBad x l l' e e' k h2 _ ih =>
    intro ok2 k2 l2 e2 g
    cases g with
    | name g1 => omega
    | none _ g2 => exact absurd h2 g2
    | inBad _ g => obtain ⟨_, _, rfl, rfl⟩ := ih g; exact ⟨rfl, rfl, rfl, rfl⟩
    | noShut _ g _ => obtain ⟨h, _⟩ := ih g; cases h
    | shut _ g _ => obtain ⟨h, _⟩ := ih g; cases h
  | @noShut x l l' e e' k h2 _ h3 ih =>
    intro ok2 k2 l2 e2 g
    cases g with
    | name g1 => omega
    | none _ g2 => exact absurd h2 g2
    | inBad _ g => obtain ⟨h, _⟩ := ih g; cases h
    | noShut _ g _ => obtain ⟨_, _, rfl, rfl⟩ := ih g; exact ⟨rfl, rfl, rfl, rfl⟩
    | shut _ g g3 => obtain ⟨_, _, rfl, rfl⟩ := ih g; exact absurd g3 h3
  | @shut x y l l' e e' k h2 _ h3 ih =>
    intro ok2 k2 l2 e2 g
    cases g with
    | name g1 => omega
    | none _ g2 => exact absurd h2 g2
    | inBad _ g => obtain ⟨h, _⟩ := ih g; cases h
    | noShut _ g g3 => obtain ⟨_, _, rfl, rfl⟩ := ih g; exact absurd h3 g3
    | shut _ g _ =>
      obtain ⟨_, rfl, h, rfl⟩ := ih g
      simp only [List.cons.injEq] at h
      obtain ⟨rfl, rfl⟩ := h
      exact ⟨rfl, rfl, rfl, rfl⟩
  | itemBad _ ih =>
    intro ok2 k2 l2 e2 g
    cases g with
    | itemBad g => obtain ⟨_, _, rfl, rfl⟩ := ih g; exact ⟨rfl, rfl, rfl, rfl⟩
    | item g _ => obtain ⟨h, _⟩ := ih g; cases h
    | times g _ => obtain ⟨h, _⟩ := ih g; cases h
  | @item l l' e e' k _ h5 ih =>
    intro ok2 k2 l2 e2 g
    cases g with
    | itemBad g => obtain ⟨h, _⟩ := ih g; cases h
    | item g _ => obtain ⟨_, rfl, rfl, rfl⟩ := ih g; exact ⟨rfl, rfl, rfl, rfl⟩
    | times g g5 => obtain ⟨_, _, rfl, _⟩ := ih g; exact absurd g5 h5
  | @times x l l' e e' k _ h5 ih =>
    intro ok2 k2 l2 e2 g
    cases g with
    | itemBad g => obtain ⟨h, _⟩ := ih g; cases h
    | item g g5 => obtain ⟨_, _, rfl, _⟩ := ih g; exact absurd h5 g5
    | times g _ =>
      obtain ⟨_, rfl, h, rfl⟩ := ih g
      simp only [List.cons.injEq] at h
      obtain ⟨rfl, rfl⟩ := h
      exact ⟨rfl, rfl, rfl, rfl⟩
  | rowBad _ ih =>
    intro ok2 k2 l2 e2 g
    cases g with
    | rowBad g => obtain ⟨_, _, rfl, rfl⟩ := ih g; exact ⟨rfl, rfl, rfl, rfl⟩
    | rowMore g _ _ => obtain ⟨h, _⟩ := ih g; cases h
    | rowEnd g _ _ => obtain ⟨h, _⟩ := ih g; cases h
  | @rowMore ks l l' l'' e e' e'' k k' ok _ h1 _ ih1 ih2 =>
    intro ok2 k2 l2 e2 g
    cases g with
    | rowBad g => obtain ⟨h, _⟩ := ih1 g; cases h
    | rowMore g _ gg => obtain ⟨_, rfl, rfl, rfl⟩ := ih1 g; exact ih2 gg
    | rowEnd g g1 g2 => obtain ⟨_, rfl, rfl, rfl⟩ := ih1 g; omega
  | @rowEnd ks l l' e e' k _ h1 h2 ih =>
    intro ok2 k2 l2 e2 g
    cases g with
    | rowBad g => obtain ⟨h, _⟩ := ih g; cases h
    | rowMore g g1 _ => obtain ⟨_, rfl, rfl, rfl⟩ := ih g; omega
    | rowEnd g _ _ => obtain ⟨_, rfl, rfl, rfl⟩ := ih g; exact ⟨rfl, rfl, rfl, rfl⟩
  | chBad _ ih =>
    intro ok2 k2 l2 e2 g
    cases g with
    | chBad g => obtain ⟨_, _, rfl, rfl⟩ := ih g; exact ⟨rfl, rfl, rfl, rfl⟩
    | chMore g _ _ => obtain ⟨h, _⟩ := ih g; cases h
    | chEnd g _ => obtain ⟨h, _⟩ := ih g; cases h
  | @chMore ks x l l' l'' e e' e'' k k' ok _ h4 _ ih1 ih2 =>
    intro ok2 k2 l2 e2 g
    cases g with
    | chBad g => obtain ⟨h, _⟩ := ih1 g; cases h
    | chMore g _ gg =>
      obtain ⟨_, rfl, h, rfl⟩ := ih1 g
      simp only [List.cons.injEq] at h
      obtain ⟨rfl, rfl⟩ := h
      exact ih2 gg
    | chEnd g g4 => obtain ⟨_, _, rfl, _⟩ := ih1 g; exact absurd h4 g4
  | @chEnd ks l l' e e' k _ h4 ih =>
    intro ok2 k2 l2 e2 g
    cases g with
    | chBad g => obtain ⟨h, _⟩ := ih g; cases h
    | chMore g g4 _ => obtain ⟨_, _, rfl, _⟩ := ih g; exact absurd g4 h4
    | chEnd g _ => obtain ⟨_, rfl, rfl, rfl⟩ := ih g; exact ⟨rfl, rfl, rfl, rfl⟩
end Go.Proofs.YtphhacnabdpheaaDoor.Ex
namespace Go.Proofs.YtphhacnabdpheaaDoor.Ex
open Lx
set_option linter.unusedVariables false

theorem lexed_fine {x : Sg} (hx : Fine x) (h0 : x.at_ = 0) : lexedI x = true := by
  obtain ⟨c, u, y, h1, h2, h3, h4⟩ := one_shown x hx [] (by simp) 0
  rw [List.append_nil] at h1
  have hy := (one_fine h3).2
  have h5 : Lex (show1 x) = .ok [y] 0 := by
    show From (show1 x) 0 [] = _
    rw [h1, from_one (t := []) h2 (by simp) h3 (by rw [← h1]; simp), from_nil]
    rfl
  unfold lexedI
  rw [h5]
  obtain ⟨a1, a2, a3, a4⟩ := h4
  obtain ⟨k, a, lo, hi, nm⟩ := x
  obtain ⟨k', a', lo', hi', nm'⟩ := y
  dsimp only at h0 hy a1 a2 a3 a4
  subst h0 a1 a2 a3 a4
  simp only [decide_eq_true_eq]
  rw [show a' = 0 from by simpa using hy]
theorem fits_name {x : Sg} (hx : Fine x) (h1 : x.kind = 1) : fitsI ⟨1, 0, 0, x.name, []⟩ = true := by
  rcases hx with ⟨_, h2, h3, h4, h5, h6⟩ | ⟨h, _⟩ | ⟨h, _⟩
  · have : lexedI ⟨1, 0, 0, 0, x.name⟩ = true := lexed_fine (.inl ⟨rfl, rfl, rfl, h4, h5, h6⟩) rfl
    simp [fitsI, this]
  · omega
  · omega
theorem fits_times {x : Sg} (hx : Fine x) (h5 : x.kind = 5) (k : Int) : fitsI ⟨4, x.low, x.high, [], [k]⟩ = true := by
  rcases hx with ⟨h, _⟩ | ⟨h, _⟩ | ⟨_, h2, h3⟩
  · omega
  · omega
  · have : lexedI ⟨5, 0, x.low, x.high, []⟩ = true := lexed_fine (.inr (.inr ⟨rfl, rfl, h3⟩)) rfl
    simp [fitsI, this]
theorem fits_many {kd : Int} (h : kd = 2 ∨ kd = 3) (ks : List Int) (hk : 2 ≤ ks.length) : fitsI ⟨kd, 0, 0, [], ks⟩ = true := by
  unfold fitsI
  dsimp only
  rw [if_neg (by omega), if_pos h]
  simp [hk]
theorem run_append : ∀ (a b : List PI) (i : Nat) (st : List Int), runR i st (a ++ b) = (runR i st a).bind (fun s => runR (i + a.length) s b)
  | [], b, i, st => by simp [runR]
  | p :: a, b, i, st => by
    simp only [List.cons_append, runR]
    cases stepR st i p with
    | none => rfl
    | some f =>
      simp only [List.length_cons]
      rw [run_append a b (i + 1) f, show i + 1 + a.length = i + (a.length + 1) from by omega]
/-- a part whose kids are the last ones that are nobody's -/
theorem step_yes (st : List Int) (i : Nat) (p : PI) (h : fitsI p = true) : stepR (st ++ p.kids) i p = some (st ++ [(i : Int)]) := by
  unfold stepR
  rw [if_pos ⟨by simp, by simp, h⟩]
  simp
theorem run_one (st : List Int) (i : Nat) (p : PI) (h : fitsI p = true) : runR i (st ++ p.kids) [p] = some (st ++ [(i : Int)]) := by
  simp [runR, step_yes st i p h]
def kidsOf : Lv → List Nat
  | .row ks => ks
  | .choice ks => ks
  | _ => []
theorem pl_append (a b : List Nat) : pl (a ++ b) = pl a ++ pl b := by simp [pl]
/-- what a piece lays leaves its whole, and nothing else, to be somebody's kid -/
theorem Sn.runs {v : Lv} {s : List Sg} {e e' : List Pt} {k : Nat} (h : Sn v s e k e') (hf : ∀ x ∈ s, Fine x) : ∃ n, e' = e ++ n ∧ ∀ st : List Int, runR e.length (st ++ pl (kidsOf v)) (n.map Pt.toI) = some (st ++ [(k : Int)]) := by
  have wh : ∀ (kd : Int) (hkd : kd = 2 ∨ kd = 3) (ks : List Nat) (k : Nat) (e n : List Pt), (e ++ n).length = k + 1 → (∀ st : List Int, runR e.length st (n.map Pt.toI) = some (st ++ [(k : Int)])) →
      ∃ n', (whole kd (e ++ n) (ks ++ [k])).2 = e ++ n' ∧ ∀ st : List Int, runR e.length (st ++ pl ks) (n'.map Pt.toI) = some (st ++ [((whole kd (e ++ n) (ks ++ [k])).1 : Int)]) := by
    intro kd hkd ks k e n hl hr
    by_cases h0 : ks = []
    · subst h0
      exact ⟨n, rfl, fun st => by simpa [pl, whole] using hr st⟩
    · have hw : whole kd (e ++ n) (ks ++ [k]) = ((e ++ n).length, (e ++ n) ++ [⟨kd, 0, 0, [], ks ++ [k]⟩]) := by
        cases ks with
        | nil => exact absurd rfl h0
        | cons a ks => cases ks <;> rfl
      rw [hw]
      refine ⟨n ++ [⟨kd, 0, 0, [], ks ++ [k]⟩], by simp, fun st => ?_⟩
      rw [List.map_append, run_append, hr (st ++ pl ks)]
      show runR _ (st ++ pl ks ++ [(k : Int)]) [_] = _
      have hp := run_one st (e.length + (n.map Pt.toI).length) (Pt.toI ⟨kd, 0, 0, [], ks ++ [k]⟩) (fits_many hkd _ (by
        have : 0 < ks.length := List.length_pos_iff.2 h0
        simp [pl]; omega))
      have e1 : st ++ (Pt.toI ⟨kd, 0, 0, [], ks ++ [k]⟩).kids = st ++ pl ks ++ [(k : Int)] := by simp [Pt.toI, pl]
      rw [e1] at hp
      rw [hp]
      simp
  induction h with
  | @name x e h1 =>
    refine ⟨[⟨1, 0, 0, x.name, []⟩], rfl, fun st => ?_⟩
    have := run_one st e.length (Pt.toI ⟨1, 0, 0, x.name, []⟩) (fits_name (hf x (by simp)) h1)
    simpa [Pt.toI, pl, kidsOf] using this
  | shut _ _ _ ih =>
    obtain ⟨n, h1, h2⟩ := ih (fun x hx => hf x (by simp [hx]))
    exact ⟨n, h1, fun st => by simpa [kidsOf] using h2 st⟩
  | item _ ih => exact ih hf
  | @times x s e e' k hb h5 ih =>
    obtain ⟨n, h1, h2⟩ := ih (fun y hy => hf y (by simp [hy]))
    have hl := hb.last
    subst h1
    refine ⟨n ++ [⟨4, x.low, x.high, [], [k]⟩], by simp, fun st => ?_⟩
    rw [List.map_append, run_append]
    have h3 := h2 st
    simp only [kidsOf, pl, List.map_nil, List.append_nil] at h3 ⊢
    rw [h3]
    have hp := run_one st (e.length + (n.map Pt.toI).length) (Pt.toI ⟨4, x.low, x.high, [], [k]⟩) (fits_times (hf x (by simp)) h5 _)
    have e1 : st ++ (Pt.toI ⟨4, x.low, x.high, [], [k]⟩).kids = st ++ [(k : Int)] := by simp [Pt.toI, pl]
    rw [e1] at hp
    show runR _ (st ++ [(k : Int)]) [_] = _
    rw [hp]
    simp
  | @rowMore ks s t e e' e'' k k' h1 h2 ih1 ih2 =>
    obtain ⟨n, rfl, g1⟩ := ih1 (fun x hx => hf x (by simp [hx]))
    obtain ⟨m, rfl, g2⟩ := ih2 (fun x hx => hf x (by simp [hx]))
    refine ⟨n ++ m, by simp, fun st => ?_⟩
    have a1 := g1 (st ++ pl ks)
    have a2 := g2 st
    simp only [kidsOf, pl_append] at a1 a2 ⊢
    rw [List.map_append, run_append]
    simp only [pl, List.map_nil, List.append_nil] at a1
    rw [show List.map (fun (j : Nat) => (j : Int)) ks = pl ks from rfl] at a1
    rw [a1]
    show runR _ _ _ = _
    rw [List.length_map, ← List.length_append, ← a2]
    simp [pl]
  | @rowEnd ks s e e' k h1 ih =>
    obtain ⟨n, rfl, g1⟩ := ih hf
    exact wh 2 (.inl rfl) ks k e n h1.last (fun st => by have := g1 st; simpa [kidsOf, pl] using this)
  | @chMore ks x s t e e' e'' k k' h1 h4 h2 ih1 ih2 =>
    obtain ⟨n, rfl, g1⟩ := ih1 (fun x hx => hf x (by simp [hx]))
    obtain ⟨m, rfl, g2⟩ := ih2 (fun x hx => hf x (by simp [hx]))
    refine ⟨n ++ m, by simp, fun st => ?_⟩
    have a1 := g1 (st ++ pl ks)
    have a2 := g2 st
    simp only [kidsOf, pl_append] at a1 a2 ⊢
    rw [List.map_append, run_append]
    simp only [pl, List.map_nil, List.append_nil] at a1
    rw [show List.map (fun (j : Nat) => (j : Int)) ks = pl ks from rfl] at a1
    rw [a1]
    show runR _ _ _ = _
    rw [List.length_map, ← List.length_append, ← a2]
    simp [pl]
  | @chEnd ks s e e' k h1 ih =>
    obtain ⟨n, rfl, g1⟩ := ih hf
    exact wh 3 (.inr rfl) ks k e n h1.last (fun st => by have := g1 st; simpa [kidsOf, pl] using this)
/-- what is parsed is right -/
theorem Sn.right {s : List Sg} {e : List Pt} {k : Nat} (h : Sn (.choice []) s [] k e) (hf : ∀ x ∈ s, Fine x) : rightI (e.map Pt.toI) = true := by
  obtain ⟨n, rfl, h1⟩ := h.runs hf
  have := h1 []
  simp only [kidsOf, pl, List.map_nil, List.append_nil, List.nil_append, List.length_nil] at this ⊢
  unfold rightI
  rw [this]
  rfl
end Go.Proofs.YtphhacnabdpheaaDoor.Ex
namespace Go.Proofs.YtphhacnabdpheaaDoor.Ex
open Lx
set_option linter.unusedVariables false

/-- small numbers and names, each kid ahead of its part, no more of them than there are parts ahead -/
def Good (e : List Pt) : Prop := ∀ i (h : i < e.length), Small e[i].toI ∧ (∀ k ∈ e[i].kids, k < i) ∧ e[i].kids.length ≤ i
theorem Good.nil : Good [] := fun i h => by simp at h
theorem Good.more {e : List Pt} {p : Pt} (h : Good e) (h1 : Small p.toI) (h2 : ∀ k ∈ p.kids, k < e.length) (h3 : p.kids.length ≤ e.length) : Good (e ++ [p]) := by
  intro i hi
  by_cases hlt : i < e.length
  · rw [List.getElem_append_left hlt]
    exact h i hlt
  · have hie : i = e.length := by simp at hi; omega
    subst hie
    rw [List.getElem_append_right (Nat.le_refl _)]
    simp only [Nat.sub_self, List.getElem_cons_zero]
    exact ⟨h1, h2, h3⟩
theorem small_many (kd : Int) (ks : List Nat) : Small (Pt.toI ⟨kd, 0, 0, [], ks⟩) := by
  unfold Small I64 Pt.toI
  simp
theorem small_fine {x : Sg} (hx : Fine x) : (I64 x.low ∧ I64 x.high) ∧ x.name.length ≤ 100 := fine_64 hx
theorem Sn.good {v : Lv} {s : List Sg} {e e' : List Pt} {k : Nat} (h : Sn v s e k e') (hf : ∀ x ∈ s, Fine x) : Good e → (∀ j ∈ kidsOf v, j < e.length) → (kidsOf v).length ≤ e.length → Good e' := by
  have wh : ∀ (kd : Int) (ks : List Nat) (k : Nat) (e : List Pt), e.length = k + 1 → Good e → (∀ j ∈ ks, j < k + 1) → ks.length ≤ k → Good (whole kd e (ks ++ [k])).2 := by
    intro kd ks k e hl hg hk hkl
    by_cases h0 : ks = []
    · subst h0; exact hg
    · have hw : whole kd e (ks ++ [k]) = (e.length, e ++ [⟨kd, 0, 0, [], ks ++ [k]⟩]) := by
        cases ks with
        | nil => exact absurd rfl h0
        | cons a ks => cases ks <;> rfl
      rw [hw]
      refine hg.more (small_many _ _) (fun j hj => ?_) (by simp; omega)
      rcases List.mem_append.1 hj with hj | hj
      · have := hk j hj; omega
      · simp at hj; omega
  induction h with
  | @name x e h1 =>
    intro hg _ _
    refine hg.more ?_ (by simp) (by simp)
    have := small_fine (hf x (by simp))
    refine ⟨⟨?_, ?_⟩, this.2⟩ <;> (unfold I64 Pt.toI; simp)
  | shut _ _ _ ih =>
    intro hg _ _
    exact ih (fun x hx => hf x (by simp [hx])) hg (by simp [kidsOf]) (by simp [kidsOf])
  | item _ ih => exact ih hf
  | @times x s e e' k hb h5 ih =>
    intro hg _ _
    have hl := hb.last
    refine (ih (fun y hy => hf y (by simp [hy])) hg (by simp [kidsOf]) (by simp [kidsOf])).more ?_ (by simp; omega) (by simp; omega)
    have := small_fine (hf x (by simp))
    exact ⟨this.1, by simp [Pt.toI]⟩
  | @rowMore ks s t e e' e'' k k' h1 h2 ih1 ih2 =>
    intro hg hk hkl
    obtain ⟨n, hn, rfl, _⟩ := h1.grown
    have hl := h1.last
    simp only [List.length_append] at hl
    simp only [kidsOf] at hk hkl
    refine ih2 (fun x hx => hf x (by simp [hx])) (ih1 (fun x hx => hf x (by simp [hx])) hg (by simp [kidsOf]) (by simp [kidsOf])) (fun j hj => ?_) (by simp [kidsOf]; omega)
    rcases List.mem_append.1 hj with hj | hj
    · have := hk j hj; simp; omega
    · simp at hj; simp; omega
  | @rowEnd ks s e e' k h1 ih =>
    intro hg hk hkl
    obtain ⟨n, hn, rfl, _⟩ := h1.grown
    have hl := h1.last
    have hl2 := hl
    simp only [List.length_append] at hl2
    simp only [kidsOf] at hk hkl
    exact wh 2 ks k _ hl (ih hf hg (by simp [kidsOf]) (by simp [kidsOf])) (fun j hj => by have := hk j hj; omega) (by omega)
  | @chMore ks x s t e e' e'' k k' h1 h4 h2 ih1 ih2 =>
    intro hg hk hkl
    obtain ⟨n, hn, rfl, _⟩ := h1.grown
    have hl := h1.last
    simp only [List.length_append] at hl
    simp only [kidsOf] at hk hkl
    refine ih2 (fun x hx => hf x (by simp [hx])) (ih1 (fun x hx => hf x (by simp [hx])) hg (by simp [kidsOf]) (by simp [kidsOf])) (fun j hj => ?_) (by simp [kidsOf]; omega)
    rcases List.mem_append.1 hj with hj | hj
    · have := hk j hj; simp; omega
    · simp at hj; simp; omega
  | @chEnd ks s e e' k h1 ih =>
    intro hg hk hkl
    obtain ⟨n, hn, rfl, _⟩ := h1.grown
    have hl := h1.last
    have hl2 := hl
    simp only [List.length_append] at hl2
    simp only [kidsOf] at hk hkl
    exact wh 3 ks k _ hl (ih hf hg (by simp [kidsOf]) (by simp [kidsOf])) (fun j hj => by have := hk j hj; omega) (by omega)
theorem Sn.good' {s : List Sg} {e : List Pt} {k : Nat} (h : Sn (.choice []) s [] k e) (hf : ∀ x ∈ s, Fine x) : Good e := h.good hf Good.nil (by simp [kidsOf]) (by simp [kidsOf])
/-- parts whose kids stand ahead of them are as deep as they may be -/
theorem Good.deep {e : List Pt} (h : Good e) : ∀ (f i : Nat), i < f → i < e.length → Deep (e.map Pt.toI) f i
  | 0, i, h1, _ => by omega
  | f + 1, i, h1, h2 => by
    refine ⟨e[i].toI, by simp [List.getElem?_eq_getElem h2], fun k hk => ?_⟩
    obtain ⟨j, hj, rfl⟩ := List.mem_map.1 hk
    have := (h i h2).2.1 j hj
    exact ⟨by omega, by rw [Int.toNat_natCast]; exact Good.deep h f j (by omega) (by omega)⟩
theorem Good.kids {e : List Pt} (h : Good e) (hl : e.length ≤ 1000000) : ∀ p ∈ e, ∀ k ∈ p.kids, k < 1000000 := by
  intro p hp k hk
  obtain ⟨i, hi, rfl⟩ := List.getElem_of_mem hp
  have := (h i hi).2.1 k hk
  omega
theorem Good.small {e : List Pt} (h : Good e) : ∀ p ∈ e.map Pt.toI, Small p ∧ p.kids.length ≤ e.length := by
  intro p hp
  obtain ⟨q, hq, rfl⟩ := List.mem_map.1 hp
  obtain ⟨i, hi, rfl⟩ := List.getElem_of_mem hq
  obtain ⟨h1, _, h3⟩ := h i hi
  exact ⟨h1, by simp [Pt.toI, pl]; omega⟩
end Go.Proofs.YtphhacnabdpheaaDoor.Ex
namespace Go.Proofs.YtphhacnabdpheaaDoor.Ex
open Lx
set_option linter.unusedVariables false

def liveT : List UInt8 := [97, 32, 40, 98, 32, 124, 32, 99, 41, 43]
def liveS : List Sg := [⟨1, 0, 0, 0, [97]⟩, ⟨2, 2, 0, 0, []⟩, ⟨1, 3, 0, 0, [98]⟩, ⟨4, 5, 0, 0, []⟩, ⟨1, 7, 0, 0, [99]⟩, ⟨3, 8, 0, 0, []⟩, ⟨5, 9, 1, -1, []⟩]
def liveE : List Pt := [⟨1, 0, 0, [97], []⟩, ⟨1, 0, 0, [98], []⟩, ⟨1, 0, 0, [99], []⟩, ⟨3, 0, 0, [], [1, 2]⟩, ⟨4, 1, -1, [], [3]⟩, ⟨2, 0, 0, [], [0, 4]⟩]
theorem live_lex : Lex liveT = .ok liveS 0 := by decide
theorem live_rd : Rd (.choice []) liveS [] true 5 [] liveE := by
  have ra : Rd .item liveS [] true 0 (liveS.drop 1) (liveE.take 1) := .item (.name rfl) (by decide)
  have rb : Rd (.row []) (liveS.drop 2) (liveE.take 1) true 1 (liveS.drop 3) (liveE.take 2) := .rowEnd (ks := []) (.item (.name rfl) (by decide)) (by decide) (by decide)
  have rc : Rd (.row []) (liveS.drop 4) (liveE.take 2) true 2 (liveS.drop 5) (liveE.take 3) := .rowEnd (ks := []) (.item (.name rfl) (by decide)) (by decide) (by decide)
  have rch : Rd (.choice []) (liveS.drop 2) (liveE.take 1) true 3 (liveS.drop 5) (liveE.take 4) := .chMore (x := ⟨4, 5, 0, 0, []⟩) rb rfl (.chEnd (ks := [1]) rc (by decide))
  have rt : Rd .item (liveS.drop 1) (liveE.take 1) true 4 [] (liveE.take 5) := .times (x := ⟨5, 9, 1, -1, []⟩) (.shut (x := ⟨2, 2, 0, 0, []⟩) (y := ⟨3, 8, 0, 0, []⟩) rfl rch rfl) rfl
  have rr : Rd (.row []) liveS [] true 5 [] liveE := .rowMore ra (by decide) (.rowEnd (ks := [0]) rt (by decide) (by decide))
  exact .chEnd (ks := []) rr (by decide)
theorem live_shown : showN 0 (tellI (liveE.map Pt.toI) 6 5) = [97, 32, 40, 32, 98, 32, 124, 32, 99, 32, 41, 43] := by decide
theorem live_right : rightI (liveE.map Pt.toI) = true := by
  obtain ⟨s, hs, hsn⟩ := live_rd.seg rfl
  rw [List.append_nil] at hs
  subst hs
  refine hsn.right (fun x hx => ?_)
  rcases lex_ends liveT with ⟨l, hl, hf, _⟩ | ⟨p, e, hl, _⟩
  · rw [live_lex] at hl
    injection hl with h1
    subst h1
    exact hf x hx
  · rw [live_lex] at hl; cases hl
end Go.Proofs.YtphhacnabdpheaaDoor.Ex
namespace Go.Proofs.YtphhacnabdpheaaDoor.Ex
open Go.RowKit Mem Lx
set_option linter.unusedVariables false

theorem fine_kinds {l : List Sg} (h : ∀ x ∈ l, Fine x) : Kinds l := by
  intro x hx
  rcases h x hx with h | h | h <;> omega
/-- what the look at all signs answers, of a reading -/
theorem ck_bad {l r : List Sg} {x : Sg} {e' : List Pt} {ok : Bool} {k : Nat} (h : Rd (.choice []) l [] ok k (x :: r) e') (hk : Kinds l) : chk 0 true true l = .bad (x :: r) := by
  have ha := agrees h hk 0
  cases ok with
  | false => exact ha
  | true =>
    obtain ⟨ct, h1, h2⟩ := ha
    rw [h1]
    have hx := hk x (h.left.mem (by simp))
    simp only [Stops, hd] at h2
    by_cases h5 : x.kind = 5
    · obtain rfl := h2.1 h5
      simp [chk, wrong, h5]
    · have h3 : x.kind = 3 := by omega
      simp [chk, wrong, h3]
theorem ck_yes {l : List Sg} {e' : List Pt} {k : Nat} (h : Rd (.choice []) l [] true k [] e') (hk : Kinds l) : chk 0 true true l = .fin 0 false := by
  obtain ⟨ct, h1, _⟩ := agrees h hk 0
  rw [h1]; rfl
theorem ck_no {l : List Sg} {e' : List Pt} {k : Nat} (h : Rd (.choice []) l [] false k [] e') (hk : Kinds l) : ∃ d it, chk 0 true true l = .fin d it ∧ (it = true ∨ 0 < d) := agrees h hk 0
/-- what the reference's Parse answers, of a reading -/
def RParseOut (n : Nat) (w : World) (en : Ending) (w' : World) (ok : Bool) (l' : List Sg) (e' : List Pt) : Prop :=
  match l' with
  | x :: _ => en = .returned (.tuple #[.slice none 0 0, .int .i64 x.at_, .int .i64 2])
  | [] => if ok then ∃ v vs, en = .returned (.tuple #[v, .int .i64 0, .int .i64 0]) ∧ w'.ownsRow w.heap.size 40 5 v e'.length vs ∧ PVs w' w.heap.size e' vs
    else en = .returned (.tuple #[.slice none 0 0, .int .i64 n, .int .i64 5])
def RParseIs (s : ByteArray) (w : World) (en : Ending) (w' : World) : Prop :=
  Below w.heap.size w w' ∧ match Lex s.data.toList with
    | .bad p c => en = .returned (.tuple #[.slice none 0 0, .int .i64 p, .int .i64 c])
    | .ok [] _ => en = .returned (.tuple #[.slice none 0 0, .int .i64 0, .int .i64 0])
    | .ok l _ => ∀ ok k l' e', Rd (.choice []) l [] ok k l' e' → RParseOut s.size w en w' ok l' e'

set_option maxRecDepth 100000 in
set_option maxHeartbeats 4000000 in
theorem rparse_any (s : ByteArray) (w : World) (hs : s.size ≤ 100000) (hrd : ∀ l, Lex s.data.toList = .ok l 0 → l ≠ [] → ∃ ok k l' e', Rd (.choice []) l [] ok k l' e' ∧ ∀ ok2 k2 l2 e2, Rd (.choice []) l [] ok2 k2 l2 e2 → ok2 = ok ∧ l2 = l' ∧ e2 = e') : Calls Tryd.prog 9 #[.string s] w (RParseIs s w) := by
  have HL := hide (rlex_any s w hs)
  obtain ⟨L, hL⟩ : ∃ L, L = Lex s.data.toList := ⟨_, rfl⟩
  have HE := lex_ends s.data.toList
  rw [← hL] at HE hrd
  have HLL := Lib.hid hL
  rcases HE with ⟨l, rfl, hfine, h200⟩ | ⟨p, c, rfl, hc⟩
  · have hHL : Hid (Calls Tryd.prog 29 #[.string s] w fun e w' => Below w.heap.size w w' ∧ ∃ A c, e = .returned (.tuple #[.slice A l.length c, .int .i64 0, .int .i64 0]) ∧ l.length ≤ c ∧ GRow w' A l.length l) := by
      show Calls _ _ _ _ _
      refine HL.out.mono fun e w' ⟨h1, h2⟩ => ⟨h1, ?_⟩
      rw [← HLL.out] at h2
      exact h2
    have hkinds := fine_kinds hfine
    clear HL
    by_cases hne : l = []
    · subst hne
      have hck : Hid (∀ A c W, GRow W A 0 [] → Calls Tryd.prog 30 #[.slice A 0 c] W fun e w' => e = .returned (.tuple #[.int .i64 (-1), .bool false]) ∧ w' = W) := fun A c W h => check_any A 0 c [] W h (by omega) hkinds
      have hHL2 : Hid (Calls Tryd.prog 29 #[.string s] w fun e w' => Below w.heap.size w w' ∧ ∃ A c, e = .returned (.tuple #[.slice A 0 c, .int .i64 0, .int .i64 0]) ∧ GRow w' A 0 []) := hHL.out.mono fun e w' ⟨h1, A, c, h2, _, h3⟩ => ⟨h1, A, c, h2, h3⟩
      clear hrd hHL
      go_enter Tryd.func9, Tryd.ntmps9
      go_wp2_with (first
        | (go_at_call 29; (with_reducible refine (hHL2.out).mono ?_); rintro en w1 ⟨hb1, A, c, rfl, hgr⟩; have HB1 := Lib.hid hb1; have HGR := Lib.hid hgr; clear hb1 hgr)
        | (go_at_call 30; (with_reducible refine (hck.out A c w1 HGR.out).mono ?_); rintro en w2 ⟨rfl, hw2⟩; replace hw2 := hw2.symm; subst hw2))
      exact bodyPost_ret (v := .tuple #[.slice none 0 0, .int .i64 0, .int .i64 0]) (by simp [results, Tryd.results9, go_sem]) rfl ⟨HB1.out, by rw [← HLL.out]⟩
    · obtain ⟨ok, k, l', e', hR, huniq⟩ := hrd l rfl hne
      obtain ⟨CK, hCK⟩ : ∃ CK, CK = chk 0 true true l := ⟨_, rfl⟩
      have hck : Hid (∀ A c W, GRow W A l.length l → Calls Tryd.prog 30 #[.slice A l.length c] W fun e w' => e = .returned (.tuple #[.int .i64 (ckR l.length CK).1, .bool (ckR l.length CK).2]) ∧ w' = W) := fun A c W h => by
        rw [hCK]; exact check_any A l.length c l W h (by omega) hkinds
      have fin : ∀ en w', RParseOut s.size w en w' ok l' e' → Below w.heap.size w w' → RParseIs s w en w' := by
        intro en w' h hb
        refine ⟨hb, ?_⟩
        rw [← HLL.out]
        cases l with
        | nil => exact absurd rfl hne
        | cons x l =>
          intro ok2 k2 l2 e2 h2
          obtain ⟨rfl, rfl, rfl⟩ := huniq _ _ _ _ h2
          exact h
      have FIN := hide fin
      have hpot := hR.pot
      have hpos : 0 < l.length := List.length_pos_iff.2 hne
      have hln0 : ((l.length : Int) == 0) = false := by simp; exact hne
      have hln0' : (l.length == 0) = false := by simp; exact hne
      clear fin hrd huniq
      cases l' with
      | nil =>
        cases ok with
        | false =>
          obtain ⟨d, it, h1, h2⟩ := ck_no hR hkinds
          rw [h1] at hCK
          have h3 : ckR l.length CK = (-1, true) := by
            rw [hCK]; simp only [ckR, Prod.mk.injEq, true_and, Bool.and_eq_true, decide_eq_true_eq, Bool.or_eq_true]; exact ⟨hpos, h2⟩
          rw [h3] at hck
          clear hCK h1 h2 h3 hR hne
          go_enter Tryd.func9, Tryd.ntmps9
          go_wp2_with (first
            | (go_at_call 29; (with_reducible refine (hHL.out).mono ?_); rintro en w1 ⟨hb1, A, c, rfl, hlc, hgr⟩; have HB1 := Lib.hid hb1; have HGR := Lib.hid hgr; clear hb1 hgr)
            | (go_at_call 30; (with_reducible refine (hck.out A c w1 HGR.out).mono ?_); rintro en w2 ⟨rfl, hw2⟩; replace hw2 := hw2.symm; subst hw2))
          exact bodyPost_ret (v := .tuple #[.slice none 0 0, .int .i64 s.size, .int .i64 5]) (by simp [results, Tryd.results9, go_sem]) rfl (FIN.out _ _ rfl HB1.out)
        | true =>
          rw [ck_yes hR hkinds] at hCK
          have h3 : ckR l.length CK = (-1, false) := by rw [hCK]; simp [ckR]
          rw [h3] at hck
          obtain ⟨sg, hsg, hsn⟩ := hR.seg rfl
          simp only [List.append_nil] at hsg
          rw [← hsg] at hsn
          clear hsg
          have hel : e'.length ≤ 1000 := by simp at hpot; omega
          have hSh := hide (shape_choice hsn)
          have HN := Lib.hid (⟨h200, hel⟩ : l.length ≤ 200 ∧ e'.length ≤ 1000)
          clear hCK h3 hR hne hsn
          go_enter Tryd.func9, Tryd.ntmps9
          go_wp2_with (first
            | (go_at_call 29; (with_reducible refine (hHL.out).mono ?_); rintro en w1 ⟨hb1, A, c, rfl, hlc, hgr⟩; have HB1 := Lib.hid hb1; have HGR := Lib.hid hgr; have hBA : Hid (Calls Tryd.prog 31 #[.slice none 0 0, .slice A l.length c, .int .i64 0, .int .i64 (l.length : Int)] w1 (BuildP w1.heap.size (fun _ => False) w1 (.slice none 0 0) e')) := (build_all w1.heap.size A l.length c l (by have := HN.out; omega) (l.length + 1) (fun _ => False) 0 l.length l [] [] e' w1 (.slice none 0 0) (by omega) hSh.out ⟨⟨[], World.ownsRow_nil _ _ _ _, rfl, by intro u hu; simp at hu⟩, Nat.le_refl _, fun g h => h.elim⟩ ⟨HGR.out, fun hn => by obtain ⟨b, off, e, hb2, _⟩ := HGR.out.2 hn; exact ⟨b, off, e, hb2⟩⟩ (by simp) (by simp) HN.out.2); clear hb1 hgr)
            | (go_at_call 30; (with_reducible refine (hck.out A c w1 HGR.out).mono ?_); rintro en w2 ⟨rfl, hw2⟩; replace hw2 := hw2.symm; subst hw2)
            | (go_at_call 31; (with_reducible refine (hBA.out).mono ?_); rintro en w3 ⟨v3, rfl, hq3, hg3, hf3⟩; obtain ⟨A3, c3, hv3⟩ := hq3.form; subst hv3; have HQ3 := Lib.hid hq3; have HG3 := Lib.hid hg3; clear hq3 hg3 hf3))
          obtain ⟨vs, hrow, hpv, _⟩ := HQ3.out.row
          have hz : w.heap.size ≤ w1.heap.size := HB1.out.size
          exact bodyPost_ret (v := .tuple #[.slice A3 e'.length c3, .int .i64 0, .int .i64 0]) (by simp [results, Tryd.results9, go_sem]) rfl (FIN.out _ _ ⟨_, vs, rfl, ownsRow_base hrow hz, PVs.base hz hpv⟩ (HB1.out.trans ((below_of_none HG3.out).mono hz)))
      | cons x r =>
        rw [ck_bad hR hkinds] at hCK
        obtain ⟨pre, hpre⟩ := hR.left
        have hlen : l.length = pre.length + (r.length + 1) := by rw [← hpre]; simp
        have h3 : ckR l.length CK = ((pre.length : Int), false) := by rw [hCK]; simp [ckR, hlen]
        have HLEN := Lib.hid hlen
        have hpl : (pre.length : Int) < (l.length : Int) := by omega
        have hpl' : pre.length < l.length := by omega
        rw [h3] at hck
        have hx : l[pre.length]? = some x := by rw [← hpre]; simp
        clear hCK h3 hR hlen hpre hpot
        go_enter Tryd.func9, Tryd.ntmps9
        go_upto_region 6 with (first
            | (go_at_call 29; (with_reducible refine (hHL.out).mono ?_); rintro en w1 ⟨hb1, A, c, rfl, hlc, hgr⟩; have HB1 := Lib.hid hb1; have HGR := Lib.hid hgr; clear hb1 hgr)
            | (go_at_call 30; (with_reducible refine (hck.out A c w1 HGR.out).mono ?_); rintro en w2 ⟨rfl, hw2⟩; replace hw2 := hw2.symm; subst hw2))
        obtain ⟨b, off, hA, hb, hcell⟩ := HGR.out.2 hpos
        have a1 := (hcell pre.length hpl').2.1
        have hxe : l[pre.length] = x := by
          rw [List.getElem?_eq_getElem hpl'] at hx
          injection hx
        rw [hxe] at a1
        subst hA
        clear hcell hx hxe
        go_quiet (fail)
        go_wp2_with fail
        exact bodyPost_ret (v := .tuple #[.slice none 0 0, .int .i64 x.at_, .int .i64 2]) (by simp [results, Tryd.results9, go_sem]) rfl (FIN.out _ _ rfl (below_drewN HB1.out nq))
  · have hHL : Hid (Calls Tryd.prog 29 #[.string s] w fun e w' => Below w.heap.size w w' ∧ e = .returned (.tuple #[.slice none 0 0, .int .i64 p, .int .i64 c])) := by
      show Calls _ _ _ _ _
      refine HL.out.mono fun e w' ⟨h1, h2⟩ => ⟨h1, ?_⟩
      rw [← HLL.out] at h2
      exact h2
    have t1 : (c != 0) = true := by simpa using hc
    clear HL hc hrd
    go_enter Tryd.func9, Tryd.ntmps9
    go_wp2_with (go_at_call 29; (with_reducible refine (hHL.out).mono ?_); rintro en w1 ⟨hb1, rfl⟩; have HB1 := Lib.hid hb1; clear hb1)
    exact bodyPost_ret (v := .tuple #[.slice none 0 0, .int .i64 p, .int .i64 c]) (by simp [results, Tryd.results9, go_sem]) rfl ⟨HB1.out, by rw [← HLL.out]⟩
end Go.Proofs.YtphhacnabdpheaaDoor.Ex
namespace Go.Proofs.YtphhacnabdpheaaDoor.Ex
open Go.RowKit Mem Lx
set_option linter.unusedVariables false

set_option maxRecDepth 100000 in
set_option maxHeartbeats 4000000 in
theorem eshow_yes (A : Option Addr) (n c : Nat) (e : List PI) (w : World) (h : PR w A n e) (H : Held w) (hn : n ≤ 100000) (hs : ∀ p ∈ e, Small p ∧ p.kids.length ≤ 100000) (h0 : 0 < n) (hr : rightI e = true) (f : Nat) (hd : Deep e f (n - 1)) (hl : (tellI e f (n - 1)).length ≤ 300) (hx : ∀ x ∈ tellI e f (n - 1), (I64 x.low ∧ I64 x.high) ∧ x.name.length ≤ 100) :
    Calls Tryd.prog 17 #[.slice A n c] w fun en w' => en = .returned (.string ⟨(showN 0 (tellI e f (n - 1))).toArray⟩) ∧ Below w.heap.size w w' := by
  have HRI0 := right_any A n c e w h H hn (fun p hp => ⟨(hs p hp).1, by have := (hs p hp).2; omega⟩)
  rw [hr] at HRI0
  have HRI := hide HRI0
  clear HRI0
  have HTA : Hid (∀ w0 X W, PR w0 A n e → SS w0 X W [] → X < W.heap.size → Calls Tryd.prog 38 #[.slice A n c, .int .i64 ((n : Int) - 1), .func (.func 39) #[] #[.pointer (some ⟨X, 0, none⟩)]] W fun en w' => en = .returned (.tuple #[]) ∧ SS w0 X w' (tellI e f (n - 1)) ∧ Gs X W w') := fun w0 X W hp hss hX => by
    have := tell_any w0 X A n c e hp hn (fun p hp => (hs p hp).2) f (n - 1) [] W hd hss hX (by simp; omega)
    rwa [show ((n - 1 : Nat) : Int) = (n : Int) - 1 from by omega, List.nil_append] at this
  generalize tellI e f (n - 1) = L at hl hx HTA
  have HSH := hide (fun A' c' W (g : GRow W A' L.length L) (HW : Held W) => Show_any A' L.length c' L W g hl hx HW)
  have HH := hide H
  have HP := hide h
  have t0 : ((n : Int) == 0) = false := by simp; omega
  have t0' : (n == 0) = false := by simp; omega
  have hw1 : IntKind.i64.wrap ((n : Int) - 1) = (n : Int) - 1 := IntWalk.i64_in _ (by omega)
  clear h H hs hr hd hx
  go_enter Tryd.func17, Tryd.ntmps17
  go_upto_region 4 with (go_at_call 12; (with_reducible refine (HRI.out).mono ?_); rintro en w1 ⟨rfl, hb1⟩; have HB1 := Lib.hid hb1; clear hb1)
  have HS1 : Hid (SS w w1.heap.size (w1.alloc (.cells #[.slice none 0 0] 57)) []) := ⟨HB1.out.alloc HB1.out.size _, HB1.out.size, .slice none 0 0, Boxed.new w1 _ _, World.ownsRow_nil _ _ _ _⟩
  have HT := hide (HTA.out w w1.heap.size _ HP.out HS1.out (by simp))
  go_upto_region 5 with (go_at_call 38; (with_reducible refine (HT.out).mono ?_); rintro en w2 ⟨rfl, hs2, hg2⟩; have HS2 := Lib.hid hs2; clear hs2 hg2)
  obtain ⟨v, hbx, hrow⟩ := HS2.out.row
  obtain ⟨A3, c3, rfl, _, hgr⟩ := GRow.of_own hrow
  have e0 := hbx.cell
  have HS9 := hide (HSH.out A3 c3 w2 hgr (HH.out.below HS2.out.bel))
  clear hgr hrow hbx
  go_wp2_with (go_at_call 40; (with_reducible refine (HS9.out).mono ?_); rintro en w3 ⟨rfl, hb3⟩; have HB3 : Hid (Below w.heap.size w w3) := HS2.out.bel.trans (hb3.mono HS2.out.bel.size); clear hb3)
  go_ret
  exact ⟨rfl, HB3.out⟩
set_option maxRecDepth 100000 in
set_option maxHeartbeats 4000000 in
theorem eshow_no (A : Option Addr) (n c : Nat) (e : List PI) (w : World) (h : PR w A n e) (H : Held w) (hn : n ≤ 100000) (hs : ∀ p ∈ e, Small p ∧ p.kids.length ≤ 100000) (hr : n = 0 ∨ rightI e = false) :
    Calls Tryd.prog 17 #[.slice A n c] w fun en w' => en = .returned (.string ⟨#[]⟩) ∧ Below w.heap.size w w' := by
  by_cases h0 : n = 0
  · subst h0
    clear h H hs hr
    go_enter Tryd.func17, Tryd.ntmps17
    go_wp2_with fail
    go_ret
    exact ⟨rfl, Below.refl _ _⟩
  · have hr' : rightI e = false := hr.resolve_left h0
    have HRI0 := right_any A n c e w h H hn (fun p hp => ⟨(hs p hp).1, by have := (hs p hp).2; omega⟩)
    rw [hr'] at HRI0
    have HRI := hide HRI0
    have t0 : ((n : Int) == 0) = false := by simp; omega
    have t0' : (n == 0) = false := by simp; omega
    clear HRI0 h H hs hr hr' h0
    go_enter Tryd.func17, Tryd.ntmps17
    go_wp2_with (go_at_call 12; (with_reducible refine (HRI.out).mono ?_); rintro en w1 ⟨rfl, hb1⟩; have HB1 := Lib.hid hb1; clear hb1)
    go_ret
    exact ⟨rfl, HB1.out⟩
end Go.Proofs.YtphhacnabdpheaaDoor.Ex
namespace Go.Proofs.YtphhacnabdpheaaDoor.Ex
open Go.RowKit Mem Lx
set_option linter.unusedVariables false

theorem live_good : Good liveE := by
  obtain ⟨s, hs, hsn⟩ := live_rd.seg rfl
  rw [List.append_nil] at hs
  subst hs
  refine hsn.good' (fun x hx => ?_)
  rcases lex_ends liveT with ⟨l, hl, hf, _⟩ | ⟨p, e, hl, _⟩
  · rw [live_lex] at hl
    injection hl with h1
    subst h1
    exact hf x hx
  · rw [live_lex] at hl; cases hl
theorem live_fit : ∀ x ∈ tellI (liveE.map Pt.toI) 6 (6 - 1), (I64 x.low ∧ I64 x.high) ∧ x.name.length ≤ 100 := by unfold I64; decide
theorem live_parse (w : World) (H : Held w) : Calls Tryd.prog 8 #[.string ⟨#[97, 32, 40, 98, 32, 124, 32, 99, 41, 43]⟩] w fun en w' => Below w.heap.size w w' ∧ ∃ A c, en = .returned (.tuple #[.slice A 6 c, .int .i64 0, .int .i64 0]) ∧ PR w' A 6 (liveE.map Pt.toI) := by
  refine (parse_any ⟨#[97, 32, 40, 98, 32, 124, 32, 99, 41, 43]⟩ w (by decide) H).mono fun en w' ⟨hb, h⟩ => ⟨hb, ?_⟩
  rw [show Lex (⟨#[97, 32, 40, 98, 32, 124, 32, 99, 41, 43]⟩ : ByteArray).data.toList = .ok liveS 0 from live_lex] at h
  obtain ⟨ok, k, l', e', hr, ho⟩ := h
  obtain ⟨rfl, rfl, rfl, rfl⟩ := live_rd.det hr
  obtain ⟨v, vs, rfl, hrow, hpv⟩ := ho
  have hpw := hpv.pw (live_good.kids (by decide))
  have hl : (liveE.map Pt.toI).length = liveE.length := by simp
  rw [← hl] at hrow
  obtain ⟨A, c, rfl, _, hpr⟩ := PR.of_own hrow hpw
  exact ⟨A, c, rfl, hpr⟩
set_option maxRecDepth 100000 in
set_option maxHeartbeats 4000000 in
theorem live_any (w : World) (H : Held w) : Calls Tryd.prog 7 #[] w fun en w' => en = .returned (.bool true) ∧ Below w.heap.size w w' := by
  have HP := hide (live_parse w H)
  have HH := hide H
  have HSH := hide (fun A c W (g : PR W A 6 (liveE.map Pt.toI)) (HW : Held W) => eshow_yes A 6 c (liveE.map Pt.toI) W g HW (by omega) (fun p hp => ⟨(live_good.small p hp).1, Nat.le_trans (live_good.small p hp).2 (by decide)⟩) (by omega) live_right 6 (live_good.deep 6 5 (by omega) (by decide)) (by decide) live_fit)
  simp only [Nat.reduceSub, live_shown] at HSH
  clear H
  go_enter Tryd.func7, Tryd.ntmps7
  go_upto_region 2 with (go_at_call 8; (with_reducible refine (HP.out).mono ?_); rintro en w1 ⟨hb1, A, c, rfl, hpr⟩; have HB1 := Lib.hid hb1; have HPR := Lib.hid hpr; clear hb1 hpr)
  obtain ⟨b, off, rfl, hb, hc⟩ := HPR.out.2 (by omega)
  have a3 := (hc 3 (by decide)).1
  have a4 := (hc 4 (by decide)).1
  have a4' := (hc 4 (by decide)).2.1
  have a5 := (hc 5 (by decide)).1
  replace a3 : w1.cell? ⟨b, off + 15, none⟩ = some (.int .i64 3) := a3
  replace a4 : w1.cell? ⟨b, off + 20, none⟩ = some (.int .i64 4) := a4
  replace a4' : w1.cell? ⟨b, off + 21, none⟩ = some (.int .i64 1) := a4'
  replace a5 : w1.cell? ⟨b, off + 25, none⟩ = some (.int .i64 2) := a5
  clear hc
  have HS9 := hide (HSH.out (some ⟨b, off, none⟩) c w1 HPR.out (HH.out.below HB1.out))
  go_wp2_with (go_at_call 17; (with_reducible refine (HS9.out).mono ?_); rintro en w2 ⟨rfl, hb2⟩; have HB2 : Hid (Below w.heap.size w w2) := HB1.out.trans (hb2.mono HB1.out.size); clear hb2)
  go_ret
  exact ⟨rfl, HB2.out⟩
end Go.Proofs.YtphhacnabdpheaaDoor.Ex
namespace Go.Proofs.YtphhacnabdpheaaDoor.Ex
open Go.RowKit Mem Lx
set_option linter.unusedVariables false

/-- an error, the same of both; or the same parts of both, and right -/
def Sum (s : ByteArray) (w1 : World) (v : Value) (i f : Int) : Prop :=
  (f ≠ 0 ∧ v = .slice none 0 0 ∧ ∀ W, Calls Tryd.prog 9 #[.string s] W fun en w' => en = .returned (.tuple #[.slice none 0 0, .int .i64 i, .int .i64 f]) ∧ Below W.heap.size W w') ∨
  (f = 0 ∧ i = 0 ∧ ∃ (e : List Pt) (A : Option Addr) (c : Nat), Good e ∧ rightI (e.map Pt.toI) = true ∧ e.length ≤ 1000 ∧ v = .slice A e.length c ∧ PR w1 A e.length (e.map Pt.toI) ∧
    ∀ W, Calls Tryd.prog 9 #[.string s] W fun en w' => ∃ A' c', en = .returned (.tuple #[.slice A' e.length c', .int .i64 0, .int .i64 0]) ∧ PR w' A' e.length (e.map Pt.toI) ∧ Below W.heap.size W w')
theorem pr_none (w : World) : PR w none 0 [] := ⟨rfl, fun h => absurd h (by omega)⟩
theorem parse_sum (s : ByteArray) (w : World) (hs : s.size ≤ 100000) (H : Held w) : Calls Tryd.prog 8 #[.string s] w fun en w' => Below w.heap.size w w' ∧ ∃ v i f, en = .returned (.tuple #[v, .int .i64 i, .int .i64 f]) ∧ Sum s w' v i f := by
  refine (parse_any s w hs H).mono fun en w' ⟨hb, h⟩ => ⟨hb, ?_⟩
  rcases lex_ends s.data.toList with ⟨l, hl, hf, h200⟩ | ⟨p, c, hl, hc⟩
  · rw [hl] at h
    cases l with
    | nil =>
      refine ⟨_, _, _, h, .inr ⟨rfl, rfl, [], none, 0, Good.nil, rfl, by simp, rfl, pr_none _, fun W => ?_⟩⟩
      refine (rparse_any s W hs (fun l2 h2 hne => ?_)).mono fun en w2 ⟨hb2, g⟩ => ?_
      · rw [hl] at h2; injection h2 with h2; exact absurd h2.symm hne
      · rw [hl] at g
        exact ⟨none, 0, g, pr_none _, hb2⟩
    | cons x l =>
      obtain ⟨ok, k, l', e', hr, ho⟩ := h
      have hrd : ∀ l2, Lex s.data.toList = .ok l2 0 → l2 ≠ [] → ∃ ok k l' e', Rd (.choice []) l2 [] ok k l' e' ∧ ∀ ok2 k2 l3 e2, Rd (.choice []) l2 [] ok2 k2 l3 e2 → ok2 = ok ∧ l3 = l' ∧ e2 = e' := by
        intro l2 h2 _
        rw [hl] at h2
        injection h2 with h2
        subst h2
        refine ⟨ok, k, l', e', hr, fun ok2 k2 l3 e2 g => ?_⟩
        obtain ⟨a, _, b, c⟩ := hr.det g
        exact ⟨a, b, c⟩
      have hR : ∀ W, Calls Tryd.prog 9 #[.string s] W fun en w' => Below W.heap.size W w' ∧ RParseOut s.size W en w' ok l' e' := fun W => (rparse_any s W hs hrd).mono fun en w2 ⟨hb2, g⟩ => by
        rw [hl] at g
        exact ⟨hb2, g _ _ _ _ hr⟩
      cases l' with
      | cons y r => exact ⟨_, _, _, ho, .inl ⟨by omega, rfl, fun W => (hR W).mono fun en w2 ⟨hb2, g⟩ => ⟨g, hb2⟩⟩⟩
      | nil =>
        cases ok with
        | false => exact ⟨_, _, _, ho, .inl ⟨by omega, rfl, fun W => (hR W).mono fun en w2 ⟨hb2, g⟩ => ⟨g, hb2⟩⟩⟩
        | true =>
          obtain ⟨sg, hsg, hsn⟩ := hr.seg rfl
          rw [List.append_nil] at hsg
          have hfs : ∀ x ∈ sg, Fine x := by rw [← hsg]; exact hf
          have hgood := hsn.good' hfs
          have hright := hsn.right hfs
          have hpot := hr.pot
          have hlen : e'.length ≤ 1000 := by simp at hpot h200; omega
          have hle : (e'.map Pt.toI).length = e'.length := by simp
          obtain ⟨v, vs, rfl, hrow, hpv⟩ := ho
          have hpw := hpv.pw (hgood.kids (by omega))
          rw [← hle] at hrow
          obtain ⟨A, c, rfl, _, hpr⟩ := PR.of_own hrow hpw
          rw [hle] at hpr
          refine ⟨_, _, _, rfl, .inr ⟨rfl, rfl, e', A, c, hgood, hright, hlen, by rw [hle], hpr, fun W => (hR W).mono fun en w2 ⟨hb2, g⟩ => ?_⟩⟩
          obtain ⟨v2, vs2, rfl, hrow2, hpv2⟩ := g
          have hpw2 := hpv2.pw (hgood.kids (by omega))
          rw [← hle] at hrow2
          obtain ⟨A2, c2, rfl, _, hpr2⟩ := PR.of_own hrow2 hpw2
          rw [hle] at hpr2
          exact ⟨A2, c2, by rw [hle], hpr2, hb2⟩
  · rw [hl] at h
    refine ⟨_, _, _, h, .inl ⟨hc, rfl, fun W => (rparse_any s W hs (fun l2 h2 _ => ?_)).mono fun en w2 ⟨hb2, g⟩ => ?_⟩⟩
    · rw [hl] at h2; cases h2
    · rw [hl] at g
      exact ⟨g, hb2⟩
end Go.Proofs.YtphhacnabdpheaaDoor.Ex
namespace Go.Proofs.YtphhacnabdpheaaDoor.Ex
open Go.RowKit Mem Lx
set_option linter.unusedVariables false

theorem pi_ne {e o : List PI} {j : Nat} (h1 : j < e.length) (h2 : j < o.length) (h : e[j] ≠ o[j]) : decide (e = o) = false := by
  simp only [decide_eq_false_iff_not]
  rintro rfl
  exact h rfl
theorem pi_more {e o : List PI} {j : Nat} (h : e.take j = o.take j) (h1 : j < e.length) (h2 : j < o.length) (he : e[j] = o[j]) : e.take (j + 1) = o.take (j + 1) := by
  rw [List.take_add_one, List.take_add_one, h, List.getElem?_eq_getElem h1, List.getElem?_eq_getElem h2, he]
set_option maxRecDepth 100000 in
set_option maxHeartbeats 8000000 in
theorem rsame_any (A A' : Option Addr) (n m c c' : Nat) (e o : List PI) (w : World) (h1 : PR w A n e) (h2 : PR w A' m o) (hn : n ≤ 1000000) (hks : ∀ p ∈ e, p.kids.length ≤ 1000000) :
    Calls Tryd.prog 10 #[.slice A n c, .slice A' m c'] w fun en w' => en = .returned (.bool (decide (e = o))) ∧ Drawn w w' := by
  have hl1 := h1.1
  have hl2 := h2.1
  by_cases hnm : n = m
  · subst hnm
    have H1 := hide h1
    have H2 := hide h2
    have HK := hide hks
    have HL := Lib.hid (⟨hl1, hl2⟩ : e.length = n ∧ o.length = n)
    clear h1 h2 hl1 hl2 hks
    go_enter Tryd.func10, Tryd.ntmps10
    go_wp2_with fail
    go_loopw [5] (fun iv wr => ∃ j : Nat, iv = .int .i64 j ∧ j ≤ n ∧ Hid (Drawn w wr) ∧ Hid (e.take j = o.take j)) (fun iv _ => n - (intOf iv).toNat)
    case atStart => exact ⟨0, rfl, by omega, Lib.hid (drawn_refl w), Lib.hid rfl⟩
    case round =>
      obtain ⟨j, rfl, hj, hD, hE⟩ := hrel
      by_cases hlt : j < n
      · obtain ⟨b, off, rfl, hb, hc⟩ := (H1.out.below (drawn_below hD.out)).2 (by omega)
        obtain ⟨b', off', rfl, hb', hc'⟩ := (H2.out.below (drawn_below hD.out)).2 (by omega)
        have j1 : j < e.length := by have := HL.out.1; omega
        have j2 : j < o.length := by have := HL.out.2; omega
        obtain ⟨a0, a1, a2, a3, ka, a4, ra⟩ := hc j j1
        obtain ⟨b0, b1, b2, b3, kb, b4, rb⟩ := hc' j j2
        have l1 : decide ((j : Int) < (n : Int)) = true := by simp; omega
        have l2 : decide (j < n) = true := by simp; omega
        have g0 : (j : Int) < (n : Int) := by omega
        have HKJ : Hid (e[j].kids.length ≤ 1000000) := HK.out _ (List.getElem_mem j1)
        have HNE : Hid (e[j] ≠ o[j] → decide (e = o) = false) := pi_ne j1 j2
        have HEE : Hid (e[j] = o[j] → e.take (j + 1) = o.take (j + 1)) := pi_more hE.out j1 j2
        generalize e[j] = x at a0 a1 a2 a3 ra HNE HEE HKJ
        generalize o[j] = y at b0 b1 b2 b3 rb HNE HEE
        obtain ⟨k1, lo1, hi1, nm1, ks1⟩ := x
        obtain ⟨k2, lo2, hi2, nm2, ks2⟩ := y
        dsimp only at a0 a1 a2 a3 b0 b1 b2 b3
        clear hc hc' hE
        by_cases q1 : k1 = k2
        · by_cases q2 : lo1 = lo2
          · by_cases q3 : hi1 = hi2
            · by_cases q4 : nm1 = nm2
              · subst q1 q2 q3 q4
                obtain ⟨Aa, ca, rfl, _, ra⟩ := ra
                obtain ⟨Ab, cb, rfl, _, rb⟩ := rb
                have HRA := Lib.hid ra
                have HRB := Lib.hid rb
                have t1 : (k1 != k1) = false := by simp
                have t2 : (lo1 != lo1) = false := by simp
                have t3 : (hi1 != hi1) = false := by simp
                have t4 : (nm1 == nm1) = true := by simp
                have HS := hide (fun q => ints_any Aa Ab ks1.length ks2.length ca cb ks1 ks2 (wr.drewN q) (HRA.out.drewN q) (HRB.out.drewN q) HKJ.out)
                clear ra rb
                by_cases q5 : ks1 = ks2
                · have t5 : decide (ks1 = ks2) = true := by simpa using q5
                  rw [t5] at HS
                  have HE2 := Lib.hid (HEE.out (by rw [q5]))
                  clear q5 t5 HNE HEE
                  go_wp2_with fail
                  go_quiet ((go_at_call 32; exact Calls.quiet_of (HS.out _)))
                  go_wp2_with fail
                  go_roundw
                  case rel => exact ⟨j + 1, by go_num, by omega, Lib.hid (Drawn.trans hD.out ⟨_, rfl⟩), HE2⟩
                  case measure => simp [intOf]; omega
                · have t5 : decide (ks1 = ks2) = false := by simpa using q5
                  rw [t5] at HS
                  have HF2 := Lib.hid (HNE.out (by simpa using q5))
                  clear q5 t5 HNE HEE
                  go_wp2_with fail
                  go_quiet ((go_at_call 32; exact Calls.quiet_of (HS.out _)))
                  go_wp2_with fail
                  go_ret
                  exact ⟨by rw [HF2.out]; rfl, Drawn.trans hD.out ⟨_, rfl⟩⟩
              · have HF2 := Lib.hid (HNE.out (by simp; intros; first | exact q4 | (simp_all)))
                subst q1
                subst q2
                subst q3
                have t1 : (k1 != k1) = false := by simp
                have t2 : (lo1 != lo1) = false := by simp
                have t3 : (hi1 != hi1) = false := by simp
                have t4 : (nm1 == nm2) = false := by simpa using q4
                clear q4 HNE HEE ra rb
                go_wp2_with fail
                go_quiet (fail)
                go_wp2_with fail
                go_ret
                exact ⟨by rw [HF2.out]; rfl, Drawn.trans hD.out ⟨_, rfl⟩⟩
            · have HF2 := Lib.hid (HNE.out (by simp; intros; first | exact q3 | (simp_all)))
              subst q1
              subst q2
              have t1 : (k1 != k1) = false := by simp
              have t2 : (lo1 != lo1) = false := by simp
              have t3 : (hi1 != hi2) = true := by simpa using q3
              clear q3 HNE HEE ra rb
              go_wp2_with fail
              go_quiet (fail)
              go_wp2_with fail
              go_ret
              exact ⟨by rw [HF2.out]; rfl, Drawn.trans hD.out ⟨_, rfl⟩⟩
          · have HF2 := Lib.hid (HNE.out (by simp; intros; first | exact q2 | (simp_all)))
            subst q1
            have t1 : (k1 != k1) = false := by simp
            have t2 : (lo1 != lo2) = true := by simpa using q2
            clear q2 HNE HEE ra rb
            go_wp2_with fail
            go_quiet (fail)
            go_wp2_with fail
            go_ret
            exact ⟨by rw [HF2.out]; rfl, Drawn.trans hD.out ⟨_, rfl⟩⟩
        · have HF2 := Lib.hid (HNE.out (by simp; intros; first | exact q1 | (simp_all)))
          have t1 : (k1 != k2) = true := by simpa using q1
          clear q1 HNE HEE ra rb
          go_wp2_with fail
          go_quiet (fail)
          go_wp2_with fail
          go_ret
          exact ⟨by rw [HF2.out]; rfl, Drawn.trans hD.out ⟨_, rfl⟩⟩
      · have l1 : decide ((j : Int) < (n : Int)) = false := by simp; omega
        have l2 : decide (j < n) = false := by simp; omega
        have HEQ : Hid (decide (e = o) = true) := by
          show _ = _
          simp only [decide_eq_true_eq]
          have h := hE.out
          rwa [List.take_of_length_le (by have := HL.out.1; omega), List.take_of_length_le (by have := HL.out.2; omega)] at h
        clear hlt
        go_wp2_with fail
        go_ret
        exact ⟨by rw [HEQ.out]; rfl, hD.out⟩
  · have HNE : Hid (decide (e = o) = false) := by
      show _ = _
      simp only [decide_eq_false_iff_not]
      rintro rfl
      omega
    have t1 : ((n : Int) != (m : Int)) = true := by simp; omega
    have t2 : (n != m) = true := by simpa using hnm
    clear hnm hl1 hl2 h1 h2
    go_enter Tryd.func10, Tryd.ntmps10
    go_wp2_with fail
    go_ret
    exact ⟨by rw [HNE.out]; rfl, drawn_refl w⟩
end Go.Proofs.YtphhacnabdpheaaDoor.Ex
namespace Go.Proofs.YtphhacnabdpheaaDoor.Ex
open Go.RowKit Mem Lx
set_option linter.unusedVariables false

theorem one_cells (W : World) (cs : Array Value) (l : List Value) (h : cs = l.toArray) {t : TypeId} : ∀ (j : Nat) (u : Value), l[j]? = some u → (W.alloc (.cells cs t)).cell? ⟨W.heap.size, j, none⟩ = some u := by
  intro j u hu
  have := World.alloc_heap_new W (.cells cs t)
  subst h
  unfold World.cell?
  simp only [this]
  simpa using hu
theorem own_row {w : World} {base : Nat} {e : TypeId} {size n : Nat} {v : Value} {xs : List Value} (h : w.ownsRow base e size v n xs) : ∀ g, v.ownBlock = some g → base ≤ g ∧ ∃ cs fr, w.heap[g]? = some (.cells cs e fr) := by
  intro g hg
  rcases h.2 with ⟨rfl, _⟩ | ⟨g', cap, cur, rfl, hb, hc, _⟩
  · simp [Value.ownBlock] at hg
  · simp [Value.ownBlock] at hg
    subst hg
    exact ⟨hb, _, _, hc⟩
set_option maxRecDepth 100000 in
set_option maxHeartbeats 4000000 in
theorem ours_any (A : Option Addr) (n c : Nat) (e : List PI) (w : World) (h : PR w A n e) (hn : n ≤ 100000) :
    Calls Tryd.prog 11 #[.slice A n c] w fun en w' => ∃ A' c', en = .returned (.slice A' n c') ∧ n ≤ c' ∧ PR w' A' n e ∧ Below w.heap.size w w' := by
  obtain ⟨i0, hi, hz, hs1, hs2⟩ := info_parts info_rpt
  have H := hide h
  have HL := Lib.hid h.1
  clear h
  go_enter Tryd.func11, Tryd.ntmps11
  go_wp2_with fail
  go_loopw [3, 4] (fun v iv wr => ∃ (j : Nat) (A1 : Option Addr) (c1 : Nat) (vs : List Value), v = .slice A1 j c1 ∧ iv = .int .i64 j ∧ j ≤ n ∧ Hid (wr.ownsRow w.heap.size 40 5 (.slice A1 j c1) j vs) ∧ Hid (PW w (e.take j) vs) ∧ Hid (Below w.heap.size w wr)) (fun _ iv _ => n - (intOf iv).toNat)
  case atStart => exact ⟨0, none, 0, [], rfl, rfl, by omega, Lib.hid (World.ownsRow_nil _ _ _ _), Lib.hid rfl, Lib.hid (Below.refl _ _)⟩
  case round =>
    obtain ⟨j, A1, c1, vs, rfl, rfl, hj, hO, hP, hB⟩ := hrel
    by_cases hlt : j < n
    · have j1 : j < e.length := by have := HL.out; omega
      obtain ⟨b, off, rfl, hb, hc⟩ := H.out.2 (by omega)
      obtain ⟨a0, a1, a2, a3, kv, a4, ra⟩ := hc j j1
      have hbk := fun o => hB.out.cell (p := ⟨b, o, none⟩) hb
      replace a0 := (hbk _).trans a0
      replace a1 := (hbk _).trans a1
      replace a2 := (hbk _).trans a2
      replace a3 := (hbk _).trans a3
      replace a4 := (hbk _).trans a4
      have hbw : b < wr.heap.size := Nat.lt_of_lt_of_le hb hB.out.size
      clear hbk
      have l1 : decide ((j : Int) < (n : Int)) = true := by simp; omega
      have l2 : decide (j < n) = true := by simp; omega
      have g0 : (j : Int) < (n : Int) := by omega
      have HT : Hid (e.take (j + 1) = e.take j ++ [e[j]]) := by show _ = _; rw [List.take_add_one, List.getElem?_eq_getElem j1]; rfl
      have HKR := Lib.hid ra
      obtain ⟨Ak, ck, rfl, hck, hrk⟩ := ra
      generalize e[j] = x at a0 a1 a2 a3 a4 HT HKR hck hrk
      obtain ⟨k1, lo, hi1, nm, ks⟩ := x
      dsimp only at a0 a1 a2 a3 a4
      have hz2 := hB.out.size
      have HO2 := Lib.hid (World.ownsRow.alloc hO.out (.cells #[.int .i64 k1, .int .i64 lo, .int .i64 hi1, .string ⟨nm.toArray⟩, .slice Ak ks.length ck] 40))
      have HCE := Lib.hid (one_cells wr #[.int .i64 k1, .int .i64 lo, .int .i64 hi1, .string ⟨nm.toArray⟩, .slice Ak ks.length ck] (pcells ⟨k1, lo, hi1, nm, []⟩ (.slice Ak ks.length ck)) rfl (t := 40))
      clear hc hck hrk
      go_wp2_with (at_builtin; (refine wpList_app_pt rfl (.tmp 11) (.tmp 16) 28 rfl w.heap.size 40 i0 _ Tryd.underlying28 hi hz rfl hs1 hs2 _ j vs rfl HO2.out wr.heap.size 1 ⟨k1, lo, hi1, nm, []⟩ (.slice Ak ks.length ck) rfl rfl HCE.out (by omega) (by simp; omega) ?_); intro v' w2 hown hg hat; obtain ⟨A2, c2, hv2⟩ := own_form5 hown; subst hv2; have HOWN := Lib.hid hown; have HB2 : Hid (Below w.heap.size w w2) := (hB.out.alloc hz2 _).grown hg (by simp; omega) (fun g hg => (hO.out.lt g hg).1); clear hown hg hat)
      have HP2 : Hid (PW w (e.take (j + 1)) (vs ++ icells ⟨k1, lo, hi1, nm, ks⟩ (.slice Ak ks.length ck))) := by
        show PW _ _ _
        rw [HT.out]
        exact PW.more (HKR.out) (hP.out)
      go_roundw
      case rel => exact ⟨j + 1, A2, c2, _, rfl, by go_num, by omega, HOWN, HP2, HB2⟩
      case measure => simp [intOf]; omega
    · obtain rfl : j = n := by omega
      have l1 : decide ((j : Int) < (j : Int)) = false := by simp
      have HTA : Hid (e.take j = e) := by show _ = _; rw [List.take_of_length_le (by have := HL.out; omega)]
      have hO2 := hO.out
      have hP2 := PW.below hB.out hP.out
      rw [HTA.out] at hP2
      have hlen : e.length = j := HL.out
      rw [← hlen] at hO2
      obtain ⟨A', c', hv, hc', hPR⟩ := PR.of_own hO2 hP2
      rw [hlen] at hv hc' hPR
      simp only [Value.slice.injEq] at hv
      obtain ⟨rfl, -, rfl⟩ := hv
      have HPR := Lib.hid hPR
      have HC := Lib.hid hc'
      clear hlt hO2 hP2 hPR hc' hlen
      go_wp2_with fail
      go_ret
      exact ⟨_, _, rfl, HC.out, HPR.out, hB.out⟩
set_option maxRecDepth 100000 in
set_option maxHeartbeats 4000000 in
theorem theirs_any (A : Option Addr) (n c : Nat) (e : List PI) (w : World) (h : PR w A n e) (hn : n ≤ 100000) :
    Calls Tryd.prog 16 #[.slice A n c] w fun en w' => ∃ A' c', en = .returned (.slice A' n c') ∧ n ≤ c' ∧ PR w' A' n e ∧ Below w.heap.size w w' := by
  obtain ⟨i0, hi, hz, hs1, hs2⟩ := info_parts info_pt
  have H := hide h
  have HL := Lib.hid h.1
  clear h
  go_enter Tryd.func16, Tryd.ntmps16
  go_wp2_with fail
  go_loopw [3, 4] (fun v iv wr => ∃ (j : Nat) (A1 : Option Addr) (c1 : Nat) (vs : List Value), v = .slice A1 j c1 ∧ iv = .int .i64 j ∧ j ≤ n ∧ Hid (wr.ownsRow w.heap.size 46 5 (.slice A1 j c1) j vs) ∧ Hid (PW w (e.take j) vs) ∧ Hid (Below w.heap.size w wr)) (fun _ iv _ => n - (intOf iv).toNat)
  case atStart => exact ⟨0, none, 0, [], rfl, rfl, by omega, Lib.hid (World.ownsRow_nil _ _ _ _), Lib.hid rfl, Lib.hid (Below.refl _ _)⟩
  case round =>
    obtain ⟨j, A1, c1, vs, rfl, rfl, hj, hO, hP, hB⟩ := hrel
    by_cases hlt : j < n
    · have j1 : j < e.length := by have := HL.out; omega
      obtain ⟨b, off, rfl, hb, hc⟩ := H.out.2 (by omega)
      obtain ⟨a0, a1, a2, a3, kv, a4, ra⟩ := hc j j1
      have hbk := fun o => hB.out.cell (p := ⟨b, o, none⟩) hb
      replace a0 := (hbk _).trans a0
      replace a1 := (hbk _).trans a1
      replace a2 := (hbk _).trans a2
      replace a3 := (hbk _).trans a3
      replace a4 := (hbk _).trans a4
      have hbw : b < wr.heap.size := Nat.lt_of_lt_of_le hb hB.out.size
      clear hbk
      have l1 : decide ((j : Int) < (n : Int)) = true := by simp; omega
      have l2 : decide (j < n) = true := by simp; omega
      have g0 : (j : Int) < (n : Int) := by omega
      have HT : Hid (e.take (j + 1) = e.take j ++ [e[j]]) := by show _ = _; rw [List.take_add_one, List.getElem?_eq_getElem j1]; rfl
      have HKR := Lib.hid ra
      obtain ⟨Ak, ck, rfl, hck, hrk⟩ := ra
      generalize e[j] = x at a0 a1 a2 a3 a4 HT HKR hck hrk
      obtain ⟨k1, lo, hi1, nm, ks⟩ := x
      dsimp only at a0 a1 a2 a3 a4
      have hz2 := hB.out.size
      have HO2 := Lib.hid (World.ownsRow.alloc hO.out (.cells #[.int .i64 k1, .int .i64 lo, .int .i64 hi1, .string ⟨nm.toArray⟩, .slice Ak ks.length ck] 46))
      have HCE := Lib.hid (one_cells wr #[.int .i64 k1, .int .i64 lo, .int .i64 hi1, .string ⟨nm.toArray⟩, .slice Ak ks.length ck] (pcells ⟨k1, lo, hi1, nm, []⟩ (.slice Ak ks.length ck)) rfl (t := 46))
      clear hc hck hrk
      go_wp2_with (at_builtin; (refine wpList_app_pt rfl (.tmp 11) (.tmp 16) 24 rfl w.heap.size 46 i0 _ Tryd.underlying24 hi hz rfl hs1 hs2 _ j vs rfl HO2.out wr.heap.size 1 ⟨k1, lo, hi1, nm, []⟩ (.slice Ak ks.length ck) rfl rfl HCE.out (by omega) (by simp; omega) ?_); intro v' w2 hown hg hat; obtain ⟨A2, c2, hv2⟩ := own_form5 hown; subst hv2; have HOWN := Lib.hid hown; have HB2 : Hid (Below w.heap.size w w2) := (hB.out.alloc hz2 _).grown hg (by simp; omega) (fun g hg => (hO.out.lt g hg).1); clear hown hg hat)
      have HP2 : Hid (PW w (e.take (j + 1)) (vs ++ icells ⟨k1, lo, hi1, nm, ks⟩ (.slice Ak ks.length ck))) := by
        show PW _ _ _
        rw [HT.out]
        exact PW.more (HKR.out) (hP.out)
      go_roundw
      case rel => exact ⟨j + 1, A2, c2, _, rfl, by go_num, by omega, HOWN, HP2, HB2⟩
      case measure => simp [intOf]; omega
    · obtain rfl : j = n := by omega
      have l1 : decide ((j : Int) < (j : Int)) = false := by simp
      have HTA : Hid (e.take j = e) := by show _ = _; rw [List.take_of_length_le (by have := HL.out; omega)]
      have hO2 := hO.out
      have hP2 := PW.below hB.out hP.out
      rw [HTA.out] at hP2
      have hlen : e.length = j := HL.out
      rw [← hlen] at hO2
      obtain ⟨A', c', hv, hc', hPR⟩ := PR.of_own hO2 hP2
      rw [hlen] at hv hc' hPR
      simp only [Value.slice.injEq] at hv
      obtain ⟨rfl, -, rfl⟩ := hv
      have HPR := Lib.hid hPR
      have HC := Lib.hid hc'
      clear hlt hO2 hP2 hPR hc' hlen
      go_wp2_with fail
      go_ret
      exact ⟨_, _, rfl, HC.out, HPR.out, hB.out⟩
end Go.Proofs.YtphhacnabdpheaaDoor.Ex
namespace Go.Proofs.YtphhacnabdpheaaDoor.Ex
open Go.RowKit Mem Lx
set_option linter.unusedVariables false

set_option maxRecDepth 100000 in
set_option maxHeartbeats 8000000 in
theorem parses_any (s : ByteArray) (w : World) (H : Held w) : Calls Tryd.prog 3 #[.string s] w fun en w' => en = .returned (.bool true) ∧ Below w.heap.size w w' := by
  have HLV := hide (fun W (HW : Held W) => live_any W HW)
  have HH := hide H
  by_cases hs : s.size ≤ 2000
  · have HP := hide (parse_sum s w (by omega) H)
    have t1 : decide ((2000 : Int) < (s.size : Int)) = false := by simp; omega
    have t1' : decide (2000 < s.size) = false := by simp; omega
    clear H hs
    go_enter Tryd.func3, Tryd.ntmps3
    go_upto_region 4 with (go_at_call 8; (with_reducible refine (HP.out).mono ?_); rintro en w1 ⟨hb1, v, i, f, rfl, hsum⟩; have HB1 := Lib.hid hb1; clear hb1)
    rcases hsum with ⟨hf, rfl, hr⟩ | ⟨rfl, rfl, e, A, c, hg, hri, hel, rfl, hpr, hr⟩
    · have HR := hide (hr w1)
      have HO := hide (fun W => ours_any none 0 0 [] W (pr_none W) (by omega))
      have HSM := hide (fun A c W (g : PR W A 0 []) => rsame_any A none 0 0 c 0 [] [] W g (pr_none W) (by omega) (by simp))
      have t2 : (f == f) = true := by simp
      have t3 : (f != 0) = true := by simpa using hf
      have t4 : (i == i) = true := by simp
      simp only [decide_true] at HSM
      clear hr hf
      go_wp2_with (first
        | (go_at_call 9; (with_reducible refine (HR.out).mono ?_); rintro en w2 ⟨rfl, hb2⟩; have HB2 : Hid (Below w.heap.size w w2) := HB1.out.trans (hb2.mono HB1.out.size); clear hb2)
        | (go_at_call 11; (with_reducible refine (HO.out w2).mono ?_); rintro en w3 ⟨A3, c3, rfl, _, hp3, hb3⟩; have HP3 := Lib.hid hp3; have HB3 : Hid (Below w.heap.size w w3) := HB2.out.trans (hb3.mono HB2.out.size); clear hb3 hp3)
        | (go_at_call 10; (with_reducible refine (HSM.out A3 c3 w3 HP3.out).mono ?_); rintro en w4 ⟨rfl, hd4⟩; have HB4 : Hid (Below w.heap.size w w4) := HB3.out.trans ((drawn_below hd4).mono HB3.out.size); clear hd4)
        | (go_at_call 7; (with_reducible refine (HLV.out _ (HH.out.below HB4.out)).mono ?_); rintro en w5 ⟨rfl, hb5⟩; have HB5 : Hid (Below w.heap.size w w5) := HB4.out.trans (hb5.mono HB4.out.size); clear hb5))
      go_ret
      exact ⟨rfl, HB5.out⟩
    · have hlen : e.length ≤ 1000 := hel
      have HPR1 := Lib.hid hpr
      have HR := hide (hr w1)
      have HO := hide (fun W (g : PR W A e.length (e.map Pt.toI)) => ours_any A e.length c (e.map Pt.toI) W g (by omega))
      have hsml : ∀ p ∈ e.map Pt.toI, Small p ∧ p.kids.length ≤ 1000000 := fun p hp => ⟨(hg.small p hp).1, by have := (hg.small p hp).2; omega⟩
      have HSM := hide (fun A1 A2 c1 c2 W (g1 : PR W A1 e.length (e.map Pt.toI)) (g2 : PR W A2 e.length (e.map Pt.toI)) => rsame_any A1 A2 e.length e.length c1 c2 (e.map Pt.toI) (e.map Pt.toI) W g1 g2 (by omega) (fun p hp => (hsml p hp).2))
      simp only [decide_true] at HSM
      have HRI := hide (fun W (g : PR W A e.length (e.map Pt.toI)) (HW : Held W) => right_any A e.length c (e.map Pt.toI) W g HW (by omega) hsml)
      rw [hri] at HRI
      generalize e.map Pt.toI = E at HPR1 HR HO HSM HRI
      generalize e.length = n at HPR1 HR HO HSM HRI hlen
      clear hr hg hri hsml hpr hel
      go_wp2_with (first
        | (go_at_call 9; (with_reducible refine (HR.out).mono ?_); rintro en w2 ⟨A2, c2, rfl, hp2, hb2⟩; have HPR2 := Lib.hid (HPR1.out.below hb2); have HPB2 := Lib.hid hp2; have HB2 : Hid (Below w.heap.size w w2) := HB1.out.trans (hb2.mono HB1.out.size); clear hb2 hp2)
        | (go_at_call 11; (with_reducible refine (HO.out w2 HPR2.out).mono ?_); rintro en w3 ⟨A3, c3, rfl, _, hp3, hb3⟩; have HP3 := Lib.hid hp3; have HPB3 := Lib.hid (HPB2.out.below hb3); have HPR3 := Lib.hid (HPR2.out.below hb3); have HB3 : Hid (Below w.heap.size w w3) := HB2.out.trans (hb3.mono HB2.out.size); clear hb3 hp3)
        | (go_at_call 10; (with_reducible refine (HSM.out A3 A2 c3 c2 w3 HP3.out HPB3.out).mono ?_); rintro en w4 ⟨rfl, hd4⟩; have HPR4 := Lib.hid (HPR3.out.below (drawn_below hd4)); have HB4 : Hid (Below w.heap.size w w4) := HB3.out.trans ((drawn_below hd4).mono HB3.out.size); clear hd4)
        | (go_at_call 12; (with_reducible refine (HRI.out w4 HPR4.out (HH.out.below HB4.out)).mono ?_); rintro en w6 ⟨rfl, hb6⟩; have HB6 : Hid (Below w.heap.size w w6) := HB4.out.trans (hb6.mono HB4.out.size); clear hb6)
        | (go_at_call 7; (with_reducible refine (HLV.out _ (HH.out.below HB6.out)).mono ?_); rintro en w5 ⟨rfl, hb5⟩; have HB5 : Hid (Below w.heap.size w w5) := HB6.out.trans (hb5.mono HB6.out.size); clear hb5))
      go_ret
      exact ⟨rfl, HB5.out⟩
  · have t1 : decide ((2000 : Int) < (s.size : Int)) = true := by simp; omega
    have t1' : decide (2000 < s.size) = true := by simp; omega
    clear H hs
    go_enter Tryd.func3, Tryd.ntmps3
    go_wp2_with (go_at_call 7; (with_reducible refine (HLV.out _ HH.out).mono ?_); rintro en w5 ⟨rfl, hb5⟩; have HB5 := Lib.hid hb5; clear hb5)
    go_ret
    exact ⟨rfl, HB5.out⟩
theorem parses_walk (s : ByteArray) (w : World) (hs : s.size ≤ maxLen) (H : Held w) : Calls Tryd.prog 3 #[.string s] w fun e w' => e = .returned (.bool true) ∧ Below w.heap.size w w' := parses_any s w H
end Go.Proofs.YtphhacnabdpheaaDoor.Ex
