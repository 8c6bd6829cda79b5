/- Expressions: how their signs are read, going down; which sign may not stand where it does. Plain lists, nothing of the program. -/
import Derived.Test.YtegkimcfmdckbabDoorLxMath
namespace Go.Proofs.YtegkimcfmdckbabDoor.Ex
open Lx (Sg)

/-- a part -/
structure Pt where
  kind : Int
  low : Int
  high : Int
  name : List UInt8
  kids : List Nat
deriving DecidableEq

/-- what is read: an item without its count, one with it, the rest of a row behind some items, the rest of a choice behind some rows -/
inductive Lv where
  | bare
  | item
  | row (ks : List Nat)
  | choice (ks : List Nat)

/-- the kind of the sign ahead; 0: there is none -/
def hd : List Sg → Int
  | [] => 0
  | x :: _ => x.kind
/-- the part of several ones: one stands for itself -/
def whole (kind : Int) (e : List Pt) (ks : List Nat) : Nat × List Pt :=
  match ks with
  | [k] => (k, e)
  | ks => (e.length, e ++ [⟨kind, 0, 0, [], ks⟩])

/-- 'Rd v l e ok k l' e'': of signs l, behind parts e, a reading of v comes to signs l' and parts e', and k is what it read's place -/
inductive Rd : Lv → List Sg → List Pt → Bool → Nat → List Sg → List Pt → Prop where
  | name {x : Sg} {l : List Sg} {e : List Pt} : x.kind = 1 → Rd .bare (x :: l) e true e.length l (e ++ [⟨1, 0, 0, x.name, []⟩])
  | none {l : List Sg} {e : List Pt} : hd l ≠ 1 → hd l ≠ 2 → Rd .bare l e false 0 l e
  | inBad {x : Sg} {l l' : List Sg} {e e' : List Pt} {k : Nat} : x.kind = 2 → Rd (.choice []) l e false k l' e' → Rd .bare (x :: l) e false 0 l' e'
  | noShut {x : Sg} {l l' : List Sg} {e e' : List Pt} {k : Nat} : x.kind = 2 → Rd (.choice []) l e true k l' e' → hd l' ≠ 3 → Rd .bare (x :: l) e false 0 l' e'
  | shut {x y : Sg} {l l' : List Sg} {e e' : List Pt} {k : Nat} : x.kind = 2 → Rd (.choice []) l e true k (y :: l') e' → y.kind = 3 → Rd .bare (x :: l) e true k l' e'
  | itemBad {l l' : List Sg} {e e' : List Pt} {k : Nat} : Rd .bare l e false k l' e' → Rd .item l e false 0 l' e'
  | item {l l' : List Sg} {e e' : List Pt} {k : Nat} : Rd .bare l e true k l' e' → hd l' ≠ 5 → Rd .item l e true k l' e'
  | times {x : Sg} {l l' : List Sg} {e e' : List Pt} {k : Nat} : Rd .bare l e true k (x :: l') e' → x.kind = 5 → Rd .item l e true e'.length l' (e' ++ [⟨4, x.low, x.high, [], [k]⟩])
  | rowBad {ks : List Nat} {l l' : List Sg} {e e' : List Pt} {k : Nat} : Rd .item l e false k l' e' → Rd (.row ks) l e false 0 l' e'
  | rowMore {ks : List Nat} {l l' l'' : List Sg} {e e' e'' : List Pt} {k k' : Nat} {ok : Bool} : Rd .item l e true k l' e' → (hd l' = 1 ∨ hd l' = 2) → Rd (.row (ks ++ [k])) l' e' ok k' l'' e'' → Rd (.row ks) l e ok k' l'' e''
  | rowEnd {ks : List Nat} {l l' : List Sg} {e e' : List Pt} {k : Nat} : Rd .item l e true k l' e' → hd l' ≠ 1 → hd l' ≠ 2 → Rd (.row ks) l e true (whole 2 e' (ks ++ [k])).1 l' (whole 2 e' (ks ++ [k])).2
  | chBad {ks : List Nat} {l l' : List Sg} {e e' : List Pt} {k : Nat} : Rd (.row []) l e false k l' e' → Rd (.choice ks) l e false 0 l' e'
  | chMore {ks : List Nat} {x : Sg} {l l' l'' : List Sg} {e e' e'' : List Pt} {k k' : Nat} {ok : Bool} : Rd (.row []) l e true k (x :: l') e' → x.kind = 4 → Rd (.choice (ks ++ [k])) l' e' ok k' l'' e'' → Rd (.choice ks) l e ok k' l'' e''
  | chEnd {ks : List Nat} {l l' : List Sg} {e e' : List Pt} {k : Nat} : Rd (.row []) l e true k l' e' → hd l' ≠ 4 → Rd (.choice ks) l e true (whole 3 e' (ks ++ [k])).1 l' (whole 3 e' (ks ++ [k])).2

/-- what a look at all signs says: the first one that may not stand where it does; or how deep it ends, and whether an item is missing -/
inductive Ck where
  | bad (l : List Sg)
  | fin (d : Nat) (it : Bool)
def wrong (d : Nat) (it ct : Bool) (k : Int) : Bool := (it && k != 1 && k != 2) || (k == 3 && d == 0) || (k == 5 && ct)
def chk : Nat → Bool → Bool → List Sg → Ck
  | d, it, _, [] => .fin d it
  | d, it, ct, x :: l => if wrong d it ct x.kind then .bad (x :: l) else
      chk (if x.kind = 2 then d + 1 else if x.kind = 3 then d - 1 else d) (x.kind == 2 || x.kind == 4) (x.kind != 1 && x.kind != 3) l

def Kinds (l : List Sg) : Prop := ∀ x ∈ l, 1 ≤ x.kind ∧ x.kind ≤ 5
/-- the signs left are the end of those that were there -/
theorem Rd.left {v : Lv} {l l' : List Sg} {e e' : List Pt} {ok : Bool} {k : Nat} (h : Rd v l e ok k l' e') : l' <:+ l := by
  induction h with
  | name _ => exact List.suffix_cons _ _
  | none _ _ => exact List.suffix_refl _
  | inBad _ _ ih => exact ih.trans (List.suffix_cons _ _)
  | noShut _ _ _ ih => exact ih.trans (List.suffix_cons _ _)
  | shut _ _ _ ih => exact ((List.suffix_cons _ _).trans ih).trans (List.suffix_cons _ _)
  | itemBad _ ih => exact ih
  | item _ _ ih => exact ih
  | times _ _ ih => exact (List.suffix_cons _ _).trans ih
  | rowBad _ ih => exact ih
  | rowMore _ _ _ ih1 ih2 => exact ih2.trans ih1
  | rowEnd _ _ _ ih => exact ih
  | chBad _ ih => exact ih
  | chMore _ _ _ ih1 ih2 => exact (ih2.trans (List.suffix_cons _ _)).trans ih1
  | chEnd _ _ ih => exact ih
theorem Kinds.left {l l' : List Sg} (h : Kinds l) (s : l' <:+ l) : Kinds l' := fun x hx => h x (s.mem hx)

/-- what is ahead behind a reading that came to its end -/
def Stops (v : Lv) (ct : Bool) (l : List Sg) : Prop :=
  match v with
  | .bare => ct = false
  | .item => hd l = 5 → ct = true
  | .row _ => (hd l = 5 → ct = true) ∧ hd l ≠ 1 ∧ hd l ≠ 2
  | .choice _ => (hd l = 5 → ct = true) ∧ hd l ≠ 1 ∧ hd l ≠ 2 ∧ hd l ≠ 4
def Agrees (v : Lv) (l : List Sg) (ok : Bool) (l' : List Sg) : Prop :=
  ∀ d : Nat, match ok with
    | true => ∃ ct, chk d true true l = chk d false ct l' ∧ Stops v ct l'
    | false => match l' with
      | [] => ∃ d' it, chk d true true l = .fin d' it ∧ (it = true ∨ 0 < d')
      | x :: r => chk d true true l = .bad (x :: r)
/-- of a look and a reading: they come to the same place -/
theorem agrees {v : Lv} {l l' : List Sg} {e e' : List Pt} {ok : Bool} {k : Nat} (h : Rd v l e ok k l' e') (hk : Kinds l) : Agrees v l ok l' := by
  induction h with
  | @name x l e h1 =>
    intro d
    exact ⟨false, by simp [chk, wrong, h1], rfl⟩
  | @none l e h1 h2 =>
    intro d
    cases l with
    | nil => exact ⟨d, true, rfl, .inl rfl⟩
    | cons x r =>
      simp only [hd] at h1 h2
      simp [chk, wrong, h1, h2]
  | @inBad x l l' e e' k h2 _ ih =>
    intro d
    have := ih (fun y hy => hk y (by simp [hy])) (d + 1)
    have e1 : chk d true true (x :: l) = chk (d + 1) true true l := by simp [chk, wrong, h2]
    rw [e1]
    exact this
  | @noShut x l l' e e' k h2 hr h3 ih =>
    intro d
    have hk2 : Kinds l := fun y hy => hk y (by simp [hy])
    obtain ⟨ct, h4, h5⟩ := ih hk2 (d + 1)
    have e1 : chk d true true (x :: l) = chk (d + 1) true true l := by simp [chk, wrong, h2]
    rw [e1, h4]
    cases l' with
    | nil => exact ⟨d + 1, false, rfl, .inr (by omega)⟩
    | cons y r =>
      have hy := hk2 y (hr.left.mem (by simp))
      simp only [Stops, hd] at h5 h3
      have h6 : y.kind = 5 := by omega
      obtain rfl := h5.1 h6
      simp [chk, wrong, h6]
  | @shut x y l l' e e' k h2 hr h3 ih =>
    intro d
    obtain ⟨ct, h4, h5⟩ := ih (fun y hy => hk y (by simp [hy])) (d + 1)
    have e1 : chk d true true (x :: l) = chk (d + 1) true true l := by simp [chk, wrong, h2]
    refine ⟨false, ?_, rfl⟩
    rw [e1, h4]
    simp [chk, wrong, h3]
  | itemBad _ ih => intro d; exact ih hk d
  | @item l l' e e' k _ h5 ih =>
    intro d
    obtain ⟨ct, h6, h7⟩ := ih hk d
    exact ⟨ct, h6, fun h => absurd h h5⟩
  | @times x l l' e e' k _ h5 ih =>
    intro d
    obtain ⟨ct, h6, h7⟩ := ih hk d
    simp only [Stops] at h7
    subst h7
    refine ⟨true, ?_, fun _ => rfl⟩
    rw [h6]
    simp [chk, wrong, h5]
  | rowBad _ ih => intro d; exact ih hk d
  | @rowMore ks l l' l'' e e' e'' k k' ok hr h1 hr2 ih1 ih2 =>
    intro d
    obtain ⟨ct, h6, h7⟩ := ih1 hk d
    have e1 : chk d false ct l' = chk d true true l' := by
      cases l' with
      | nil => simp [hd] at h1
      | cons x r =>
        simp only [hd] at h1
        rcases h1 with h1 | h1 <;> simp [chk, wrong, h1]
    have h8 := ih2 (hk.left hr.left) d
    rw [← e1, ← h6] at h8
    exact h8
  | @rowEnd ks l l' e e' k _ h1 h2 ih =>
    intro d
    obtain ⟨ct, h6, h7⟩ := ih hk d
    exact ⟨ct, h6, h7, h1, h2⟩
  | chBad _ ih => intro d; exact ih hk d
  | @chMore ks x l l' l'' e e' e'' k k' ok hr h4 hr2 ih1 ih2 =>
    intro d
    obtain ⟨ct, h6, h7⟩ := ih1 hk d
    have e1 : chk d false ct (x :: l') = chk d true true l' := by simp [chk, wrong, h4]
    have h8 := ih2 ((hk.left hr.left).left (List.suffix_cons _ _)) d
    rw [← e1, ← h6] at h8
    exact h8
  | @chEnd ks l l' e e' k _ h4 ih =>
    intro d
    obtain ⟨ct, h6, h7⟩ := ih hk d
    exact ⟨ct, h6, h7.1, h7.2.1, h7.2.2, h4⟩
end Go.Proofs.YtegkimcfmdckbabDoor.Ex
