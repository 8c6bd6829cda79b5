/- Expressions: how their signs are read, going down; which sign may not stand where it does. Plain lists, nothing of the program. Expressions: the signs of a part, as they were read; brackets and cuts in them. Plain lists. Expressions: where rows and choices are cut; how many parts there are. Plain lists. -/
import Derived.Test.YtnbchikiiipejaaDoorLxShow
namespace Go.Proofs.YtnbchikiiipejaaDoor.Ex
open Lx (Sg)

/-- a part -/
structure Pt where
  kind : Int
  low : Int
  high : Int
  name : List UInt8
  kids : List Nat
deriving DecidableEq

/-- what is read: an item without its count, one with it, the rest of a row behind some items, the rest of a choice behind some rows -/
inductive Lv where
  | bare
  | item
  | row (ks : List Nat)
  | choice (ks : List Nat)

/-- the kind of the sign ahead; 0: there is none -/
def hd : List Sg → Int
  | [] => 0
  | x :: _ => x.kind
/-- the part of several ones: one stands for itself -/
def whole (kind : Int) (e : List Pt) (ks : List Nat) : Nat × List Pt :=
  match ks with
  | [k] => (k, e)
  | ks => (e.length, e ++ [⟨kind, 0, 0, [], ks⟩])

/-- 'Rd v l e ok k l' e'': of signs l, behind parts e, a reading of v comes to signs l' and parts e', and k is what it read's place -/
inductive Rd : Lv → List Sg → List Pt → Bool → Nat → List Sg → List Pt → Prop where
  | name {x : Sg} {l : List Sg} {e : List Pt} : x.kind = 1 → Rd .bare (x :: l) e true e.length l (e ++ [⟨1, 0, 0, x.name, []⟩])
  | none {l : List Sg} {e : List Pt} : hd l ≠ 1 → hd l ≠ 2 → Rd .bare l e false 0 l e
  | inBad {x : Sg} {l l' : List Sg} {e e' : List Pt} {k : Nat} : x.kind = 2 → Rd (.choice []) l e false k l' e' → Rd .bare (x :: l) e false 0 l' e'
  | noShut {x : Sg} {l l' : List Sg} {e e' : List Pt} {k : Nat} : x.kind = 2 → Rd (.choice []) l e true k l' e' → hd l' ≠ 3 → Rd .bare (x :: l) e false 0 l' e'
  | shut {x y : Sg} {l l' : List Sg} {e e' : List Pt} {k : Nat} : x.kind = 2 → Rd (.choice []) l e true k (y :: l') e' → y.kind = 3 → Rd .bare (x :: l) e true k l' e'
  | itemBad {l l' : List Sg} {e e' : List Pt} {k : Nat} : Rd .bare l e false k l' e' → Rd .item l e false 0 l' e'
  | item {l l' : List Sg} {e e' : List Pt} {k : Nat} : Rd .bare l e true k l' e' → hd l' ≠ 5 → Rd .item l e true k l' e'
  | times {x : Sg} {l l' : List Sg} {e e' : List Pt} {k : Nat} : Rd .bare l e true k (x :: l') e' → x.kind = 5 → Rd .item l e true e'.length l' (e' ++ [⟨4, x.low, x.high, [], [k]⟩])
  | rowBad {ks : List Nat} {l l' : List Sg} {e e' : List Pt} {k : Nat} : Rd .item l e false k l' e' → Rd (.row ks) l e false 0 l' e'
  | rowMore {ks : List Nat} {l l' l'' : List Sg} {e e' e'' : List Pt} {k k' : Nat} {ok : Bool} : Rd .item l e true k l' e' → (hd l' = 1 ∨ hd l' = 2) → Rd (.row (ks ++ [k])) l' e' ok k' l'' e'' → Rd (.row ks) l e ok k' l'' e''
  | rowEnd {ks : List Nat} {l l' : List Sg} {e e' : List Pt} {k : Nat} : Rd .item l e true k l' e' → hd l' ≠ 1 → hd l' ≠ 2 → Rd (.row ks) l e true (whole 2 e' (ks ++ [k])).1 l' (whole 2 e' (ks ++ [k])).2
  | chBad {ks : List Nat} {l l' : List Sg} {e e' : List Pt} {k : Nat} : Rd (.row []) l e false k l' e' → Rd (.choice ks) l e false 0 l' e'
  | chMore {ks : List Nat} {x : Sg} {l l' l'' : List Sg} {e e' e'' : List Pt} {k k' : Nat} {ok : Bool} : Rd (.row []) l e true k (x :: l') e' → x.kind = 4 → Rd (.choice (ks ++ [k])) l' e' ok k' l'' e'' → Rd (.choice ks) l e ok k' l'' e''
  | chEnd {ks : List Nat} {l l' : List Sg} {e e' : List Pt} {k : Nat} : Rd (.row []) l e true k l' e' → hd l' ≠ 4 → Rd (.choice ks) l e true (whole 3 e' (ks ++ [k])).1 l' (whole 3 e' (ks ++ [k])).2

/-- what a look at all signs says: the first one that may not stand where it does; or how deep it ends, and whether an item is missing -/
inductive Ck where
  | bad (l : List Sg)
  | fin (d : Nat) (it : Bool)
def wrong (d : Nat) (it ct : Bool) (k : Int) : Bool := (it && k != 1 && k != 2) || (k == 3 && d == 0) || (k == 5 && ct)
def chk : Nat → Bool → Bool → List Sg → Ck
  | d, it, _, [] => .fin d it
  | d, it, ct, x :: l => if wrong d it ct x.kind then .bad (x :: l) else
      chk (if x.kind = 2 then d + 1 else if x.kind = 3 then d - 1 else d) (x.kind == 2 || x.kind == 4) (x.kind != 1 && x.kind != 3) l

def Kinds (l : List Sg) : Prop := ∀ x ∈ l, 1 ≤ x.kind ∧ x.kind ≤ 5
/-- the signs left are the end of those that were there -/
theorem Rd.left {v : Lv} {l l' : List Sg} {e e' : List Pt} {ok : Bool} {k : Nat} (h : Rd v l e ok k l' e') : l' <:+ l := by
  induction h with
  | name _ => exact List.suffix_cons _ _
  | none _ _ => exact List.suffix_refl _
  | inBad _ _ ih => exact ih.trans (List.suffix_cons _ _)
  | noShut _ _ _ ih => exact ih.trans (List.suffix_cons _ _)
  | shut _ _ _ ih => exact ((List.suffix_cons _ _).trans ih).trans (List.suffix_cons _ _)
  | itemBad _ ih => exact ih
  | item _ _ ih => exact ih
  | times _ _ ih => exact (List.suffix_cons _ _).trans ih
  | rowBad _ ih => exact ih
  | rowMore _ _ _ ih1 ih2 => exact ih2.trans ih1
  | rowEnd _ _ _ ih => exact ih
  | chBad _ ih => exact ih
  | chMore _ _ _ ih1 ih2 => exact (ih2.trans (List.suffix_cons _ _)).trans ih1
  | chEnd _ _ ih => exact ih
theorem Kinds.left {l l' : List Sg} (h : Kinds l) (s : l' <:+ l) : Kinds l' := fun x hx => h x (s.mem hx)

/-- what is ahead behind a reading that came to its end -/
def Stops (v : Lv) (ct : Bool) (l : List Sg) : Prop :=
  match v with
  | .bare => ct = false
  | .item => hd l = 5 → ct = true
  | .row _ => (hd l = 5 → ct = true) ∧ hd l ≠ 1 ∧ hd l ≠ 2
  | .choice _ => (hd l = 5 → ct = true) ∧ hd l ≠ 1 ∧ hd l ≠ 2 ∧ hd l ≠ 4
def Agrees (v : Lv) (l : List Sg) (ok : Bool) (l' : List Sg) : Prop :=
  ∀ d : Nat, match ok with
    | true => ∃ ct, chk d true true l = chk d false ct l' ∧ Stops v ct l'
    | false => match l' with
      | [] => ∃ d' it, chk d true true l = .fin d' it ∧ (it = true ∨ 0 < d')
      | x :: r => chk d true true l = .bad (x :: r)
/-- of a look and a reading: they come to the same place -/
theorem agrees {v : Lv} {l l' : List Sg} {e e' : List Pt} {ok : Bool} {k : Nat} (h : Rd v l e ok k l' e') (hk : Kinds l) : Agrees v l ok l' := by
  induction h with
  | @name x l e h1 =>
    intro d
    exact ⟨false, by simp [chk, wrong, h1], rfl⟩
  | @none l e h1 h2 =>
    intro d
    cases l with
    | nil => exact ⟨d, true, rfl, .inl rfl⟩
    | cons x r =>
      simp only [hd] at h1 h2
      simp [chk, wrong, h1, h2]
  | @inBad x l l' e e' k h2 _ ih =>
    intro d
    have := ih (fun y hy => hk y (by simp [hy])) (d + 1)
    have e1 : chk d true true (x :: l) = chk (d + 1) true true l := by simp [chk, wrong, h2]
    rw [e1]
    exact this
  | @noShut x l l' e e' k h2 hr h3 ih =>
    intro d
    have hk2 : Kinds l := fun y hy => hk y (by simp [hy])
    obtain ⟨ct, h4, h5⟩ := ih hk2 (d + 1)
    have e1 : chk d true true (x :: l) = chk (d + 1) true true l := by simp [chk, wrong, h2]
    rw [e1, h4]
    cases l' with
    | nil => exact ⟨d + 1, false, rfl, .inr (by omega)⟩
    | cons y r =>
      have hy := hk2 y (hr.left.mem (by simp))
      simp only [Stops, hd] at h5 h3
      have h6 : y.kind = 5 := by omega
      obtain rfl := h5.1 h6
      simp [chk, wrong, h6]
  | @shut x y l l' e e' k h2 hr h3 ih =>
    intro d
    obtain ⟨ct, h4, h5⟩ := ih (fun y hy => hk y (by simp [hy])) (d + 1)
    have e1 : chk d true true (x :: l) = chk (d + 1) true true l := by simp [chk, wrong, h2]
    refine ⟨false, ?_, rfl⟩
    rw [e1, h4]
    simp [chk, wrong, h3]
  | itemBad _ ih => intro d; exact ih hk d
  | @item l l' e e' k _ h5 ih =>
    intro d
    obtain ⟨ct, h6, h7⟩ := ih hk d
    exact ⟨ct, h6, fun h => absurd h h5⟩
  | @times x l l' e e' k _ h5 ih =>
    intro d
    obtain ⟨ct, h6, h7⟩ := ih hk d
    simp only [Stops] at h7
    subst h7
    refine ⟨true, ?_, fun _ => rfl⟩
    rw [h6]
    simp [chk, wrong, h5]
  | rowBad _ ih => intro d; exact ih hk d
  | @rowMore ks l l' l'' e e' e'' k k' ok hr h1 hr2 ih1 ih2 =>
    intro d
    obtain ⟨ct, h6, h7⟩ := ih1 hk d
    have e1 : chk d false ct l' = chk d true true l' := by
      cases l' with
      | nil => simp [hd] at h1
      | cons x r =>
        simp only [hd] at h1
        rcases h1 with h1 | h1 <;> simp [chk, wrong, h1]
    have h8 := ih2 (hk.left hr.left) d
    rw [← e1, ← h6] at h8
    exact h8
  | @rowEnd ks l l' e e' k _ h1 h2 ih =>
    intro d
    obtain ⟨ct, h6, h7⟩ := ih hk d
    exact ⟨ct, h6, h7, h1, h2⟩
  | chBad _ ih => intro d; exact ih hk d
  | @chMore ks x l l' l'' e e' e'' k k' ok hr h4 hr2 ih1 ih2 =>
    intro d
    obtain ⟨ct, h6, h7⟩ := ih1 hk d
    have e1 : chk d false ct (x :: l') = chk d true true l' := by simp [chk, wrong, h4]
    have h8 := ih2 ((hk.left hr.left).left (List.suffix_cons _ _)) d
    rw [← e1, ← h6] at h8
    exact h8
  | @chEnd ks l l' e e' k _ h4 ih =>
    intro d
    obtain ⟨ct, h6, h7⟩ := ih hk d
    exact ⟨ct, h6, h7.1, h7.2.1, h7.2.2, h4⟩
end Go.Proofs.YtnbchikiiipejaaDoor.Ex
namespace Go.Proofs.YtnbchikiiipejaaDoor.Ex
open Lx (Sg)

/-- 'Sn v s e k e'': the signs s are those of a v, whose parts laid behind e are e', and whose place is k -/
inductive Sn : Lv → List Sg → List Pt → Nat → List Pt → Prop where
  | name {x : Sg} {e : List Pt} : x.kind = 1 → Sn .bare [x] e e.length (e ++ [⟨1, 0, 0, x.name, []⟩])
  | shut {x y : Sg} {s : List Sg} {e e' : List Pt} {k : Nat} : x.kind = 2 → Sn (.choice []) s e k e' → y.kind = 3 → Sn .bare (x :: (s ++ [y])) e k e'
  | item {s : List Sg} {e e' : List Pt} {k : Nat} : Sn .bare s e k e' → Sn .item s e k e'
  | times {x : Sg} {s : List Sg} {e e' : List Pt} {k : Nat} : Sn .bare s e k e' → x.kind = 5 → Sn .item (s ++ [x]) e e'.length (e' ++ [⟨4, x.low, x.high, [], [k]⟩])
  | rowMore {ks : List Nat} {s t : List Sg} {e e' e'' : List Pt} {k k' : Nat} : Sn .item s e k e' → Sn (.row (ks ++ [k])) t e' k' e'' → Sn (.row ks) (s ++ t) e k' e''
  | rowEnd {ks : List Nat} {s : List Sg} {e e' : List Pt} {k : Nat} : Sn .item s e k e' → Sn (.row ks) s e (whole 2 e' (ks ++ [k])).1 (whole 2 e' (ks ++ [k])).2
  | chMore {ks : List Nat} {x : Sg} {s t : List Sg} {e e' e'' : List Pt} {k k' : Nat} : Sn (.row []) s e k e' → x.kind = 4 → Sn (.choice (ks ++ [k])) t e' k' e'' → Sn (.choice ks) (s ++ x :: t) e k' e''
  | chEnd {ks : List Nat} {s : List Sg} {e e' : List Pt} {k : Nat} : Sn (.row []) s e k e' → Sn (.choice ks) s e (whole 3 e' (ks ++ [k])).1 (whole 3 e' (ks ++ [k])).2
/-- what was read are the signs ahead of those that are left -/
theorem Rd.seg {v : Lv} {l l' : List Sg} {e e' : List Pt} {ok : Bool} {k : Nat} (h : Rd v l e ok k l' e') (ho : ok = true) : ∃ s, l = s ++ l' ∧ Sn v s e k e' := by
  induction h with
  | name h1 => exact ⟨[_], rfl, .name h1⟩
  | none _ _ => simp at ho
  | inBad _ _ _ => simp at ho
  | noShut _ _ _ _ => simp at ho
  | shut h2 _ h3 ih =>
    obtain ⟨s, rfl, h⟩ := ih ho
    exact ⟨_, by simp, .shut h2 h h3⟩
  | itemBad _ _ => simp at ho
  | item _ _ ih =>
    obtain ⟨s, rfl, h⟩ := ih ho
    exact ⟨s, rfl, .item h⟩
  | times _ h5 ih =>
    obtain ⟨s, rfl, h⟩ := ih ho
    exact ⟨_, by simp, .times h h5⟩
  | rowBad _ _ => simp at ho
  | rowMore _ _ _ ih1 ih2 =>
    obtain ⟨s, rfl, h⟩ := ih1 rfl
    obtain ⟨t, rfl, g⟩ := ih2 ho
    exact ⟨_, by simp, .rowMore h g⟩
  | rowEnd _ _ _ ih =>
    obtain ⟨s, rfl, h⟩ := ih rfl
    exact ⟨s, rfl, .rowEnd h⟩
  | chBad _ _ => simp at ho
  | chMore _ h4 _ ih1 ih2 =>
    obtain ⟨s, rfl, h⟩ := ih1 rfl
    obtain ⟨t, rfl, g⟩ := ih2 ho
    exact ⟨_, by simp, .chMore h h4 g⟩
  | chEnd _ _ ih =>
    obtain ⟨s, rfl, h⟩ := ih rfl
    exact ⟨s, rfl, .chEnd h⟩

/-- how many signs stand ahead of the bracket that shuts, from a depth on -/
def jump : Nat → List Sg → Nat
  | _, [] => 0
  | d, x :: l => if x.kind = 2 then jump (d + 1) l + 1 else if x.kind = 3 then (if d = 1 then 0 else jump (d - 1) l + 1) else jump d l + 1
/-- signs whose brackets fit leave the depth as it is -/
theorem Sn.jump {v : Lv} {s : List Sg} {e e' : List Pt} {k : Nat} (h : Sn v s e k e') : ∀ (d : Nat) (r : List Sg), 0 < d → jump d (s ++ r) = jump d r + s.length := by
  induction h with
  | name h1 => intro d r hd; simp [Ex.jump, h1]
  | @shut x y s e e' k h2 _ h3 ih =>
    intro d r hd
    have h := ih (d + 1) (y :: r) (by omega)
    have e1 : Ex.jump d (x :: (s ++ [y]) ++ r) = Ex.jump (d + 1) (s ++ (y :: r)) + 1 := by simp [Ex.jump, h2]
    rw [e1, h]
    have e2 : Ex.jump (d + 1) (y :: r) = Ex.jump d r + 1 := by simp [Ex.jump, h3]; omega
    rw [e2]; simp; omega
  | item _ ih => exact ih
  | @times x s e e' k _ h5 ih =>
    intro d r hd
    rw [List.append_assoc, ih d _ hd]
    simp [Ex.jump, h5]; omega
  | @rowMore ks s t e e' e'' k k' _ _ ih1 ih2 =>
    intro d r hd
    rw [List.append_assoc, ih1 d _ hd, ih2 d _ hd]; simp; omega
  | rowEnd _ ih => exact ih
  | @chMore ks x s t e e' e'' k k' _ h4 _ ih1 ih2 =>
    intro d r hd
    rw [List.append_assoc, ih1 d _ hd]
    have e1 : Ex.jump d (x :: t ++ r) = Ex.jump d (t ++ r) + 1 := by simp [Ex.jump, h4]
    rw [e1, ih2 d _ hd]; simp; omega
  | chEnd _ ih => exact ih
/-- the bracket that shuts one that opens -/
theorem Sn.shuts {y : Sg} {s r : List Sg} {e e' : List Pt} {k : Nat} {v : Lv} (h : Sn v s e k e') (hy : y.kind = 3) : Ex.jump 1 (s ++ y :: r) = s.length := by
  rw [h.jump 1 _ (by omega)]; simp [Ex.jump, hy]

/-- where signs are cut, from place i on: ahead of items (way 2), behind each | (way 3); fuel: how many signs there are -/
def cuts (way : Nat) : Nat → Nat → Bool → List Sg → List Nat
  | 0, _, _, _ => []
  | _, _, _, [] => []
  | f + 1, i, first, x :: l =>
    (if way = 2 ∧ first = false ∧ (x.kind = 1 ∨ x.kind = 2) then [i] else if way = 3 ∧ x.kind = 4 then [i + 1] else []) ++
    (if x.kind = 2 then cuts way f (i + 1 + Ex.jump 1 l + 1) false (l.drop (Ex.jump 1 l + 1)) else cuts way f (i + 1) false l)
theorem cuts_fuel (way : Nat) : ∀ (f g i : Nat) (b : Bool) (l : List Sg), l.length ≤ f → l.length ≤ g → cuts way f i b l = cuts way g i b l
  | 0, 0, _, _, _, _, _ => rfl
  | 0, g + 1, _, _, [], _, _ => by simp [cuts]
  | 0, g + 1, _, _, _ :: _, h, _ => by simp at h
  | f + 1, 0, _, _, [], _, _ => by simp [cuts]
  | f + 1, 0, _, _, _ :: _, _, h => by simp at h
  | f + 1, g + 1, _, _, [], _, _ => by simp [cuts]
  | f + 1, g + 1, i, b, x :: l, h1, h2 => by
    simp only [List.length_cons] at h1 h2
    have e1 := cuts_fuel way f g (i + 1) false l (by omega) (by omega)
    have e2 := cuts_fuel way f g (i + 1 + Ex.jump 1 l + 1) false (l.drop (Ex.jump 1 l + 1)) (by simp; omega) (by simp; omega)
    simp only [cuts, e1, e2]
def Cuts (way i : Nat) (b : Bool) (l : List Sg) : List Nat := cuts way l.length i b l
theorem cuts_nil (way i : Nat) (b : Bool) : Cuts way i b [] = [] := rfl
theorem cuts_cons (way i : Nat) (b : Bool) (x : Sg) (l : List Sg) : Cuts way i b (x :: l) =
    (if way = 2 ∧ b = false ∧ (x.kind = 1 ∨ x.kind = 2) then [i] else if way = 3 ∧ x.kind = 4 then [i + 1] else []) ++
    (if x.kind = 2 then Cuts way (i + 1 + Ex.jump 1 l + 1) false (l.drop (Ex.jump 1 l + 1)) else Cuts way (i + 1) false l) := by
  have e2 := cuts_fuel way l.length (l.drop (Ex.jump 1 l + 1)).length (i + 1 + Ex.jump 1 l + 1) false (l.drop (Ex.jump 1 l + 1)) (by simp) (Nat.le_refl _)
  simp only [Cuts, List.length_cons, cuts, e2]
/-- over an item, or its bare part: a cut ahead of it, if it isn't the first one -/
theorem Sn.cuts_bare {s : List Sg} {e e' : List Pt} {k : Nat} (h : Sn .bare s e k e') (way i : Nat) (b : Bool) (r : List Sg) :
    Cuts way i b (s ++ r) = (if way = 2 ∧ b = false then [i] else []) ++ Cuts way (i + s.length) false r := by
  cases h with
  | @name x e h1 =>
    rw [List.singleton_append, cuts_cons]
    simp [h1]
  | @shut x y s e e' k h2 hc h3 =>
    have hj : Ex.jump 1 (s ++ (y :: r)) = s.length := hc.shuts h3
    have e1 : x :: (s ++ [y]) ++ r = x :: (s ++ (y :: r)) := by simp
    rw [e1, cuts_cons, hj]
    have e2 : (s ++ y :: r).drop (s.length + 1) = r := by simp [List.drop_append]
    rw [e2]
    simp [h2]
    rw [show i + 1 + s.length + 1 = i + (s.length + 1 + 1) from by omega]
theorem Sn.cuts_item {s : List Sg} {e e' : List Pt} {k : Nat} (h : Sn .item s e k e') (way i : Nat) (b : Bool) (r : List Sg) :
    Cuts way i b (s ++ r) = (if way = 2 ∧ b = false then [i] else []) ++ Cuts way (i + s.length) false r := by
  cases h with
  | item h => exact h.cuts_bare way i b r
  | @times x s e e' k h h5 =>
    rw [List.append_assoc, h.cuts_bare way i b]
    congr 1
    rw [List.singleton_append, cuts_cons]
    simp [h5]
    rw [show i + s.length + 1 = i + (s.length + 1) from by omega]
end Go.Proofs.YtnbchikiiipejaaDoor.Ex
namespace Go.Proofs.YtnbchikiiipejaaDoor.Ex
open Lx (Sg)

/-- the whole is the last part -/
theorem Sn.last {v : Lv} {s : List Sg} {e e' : List Pt} {k : Nat} (h : Sn v s e k e') : e'.length = k + 1 := by
  have wh : ∀ (kd : Int) (ks : List Nat) (k : Nat) (e' : List Pt), e'.length = k + 1 → (whole kd e' (ks ++ [k])).2.length = (whole kd e' (ks ++ [k])).1 + 1 := by
    intro kd ks k e' h
    cases ks with
    | nil => exact h
    | cons a ks =>
      cases ks with
      | nil => simp [whole]
      | cons b ks => simp [whole]
  induction h with
  | name _ => simp
  | shut _ _ _ ih => exact ih
  | item _ ih => exact ih
  | times _ _ _ => simp
  | rowMore _ _ _ ih2 => exact ih2
  | rowEnd _ ih => exact wh 2 _ _ _ ih
  | chMore _ _ _ _ ih2 => exact ih2
  | chEnd _ ih => exact wh 3 _ _ _ ih
theorem Sn.ne {v : Lv} {s : List Sg} {e e' : List Pt} {k : Nat} (h : Sn v s e k e') : 0 < s.length := by
  induction h with
  | name _ => simp
  | shut _ _ _ _ => simp
  | item _ ih => exact ih
  | times _ _ _ => simp
  | rowMore _ _ ih1 _ => simp; omega
  | rowEnd _ ih => exact ih
  | chMore _ _ _ _ _ => simp only [List.length_append, List.length_cons]; omega
  | chEnd _ ih => exact ih
def slack : Lv → Nat
  | .row (_ :: _) => 0
  | .choice (_ :: _) => 0
  | _ => 1
theorem slack_le (v : Lv) : slack v ≤ 1 := by unfold slack; split <;> omega
/-- more parts, the earlier ones as they were -/
theorem Sn.grown' {v : Lv} {s : List Sg} {e e' : List Pt} {k : Nat} (h : Sn v s e k e') : ∃ n, 0 < n.length ∧ e' = e ++ n ∧ n.length + slack v ≤ 2 * s.length := by
  have wh : ∀ (kd : Int) (ks : List Nat) (k m : Nat) (e n : List Pt), 0 < n.length → n.length + 1 ≤ m → ∃ n', 0 < n'.length ∧ (whole kd (e ++ n) (ks ++ [k])).2 = e ++ n' ∧ n'.length + (match ks with | [] => 1 | _ => 0) ≤ m := by
    intro kd ks k m e n h1 h2
    cases ks with
    | nil => exact ⟨n, h1, rfl, by simpa using h2⟩
    | cons a ks =>
      cases ks with
      | nil => exact ⟨n ++ [⟨kd, 0, 0, [], [a, k]⟩], by simp, by simp [whole], by simp; omega⟩
      | cons b ks => exact ⟨n ++ [⟨kd, 0, 0, [], a :: b :: (ks ++ [k])⟩], by simp, by simp [whole], by simp; omega⟩
  have sr : ∀ ks, slack (.row ks) = (match ks with | [] => 1 | _ => 0) := by intro ks; cases ks <;> rfl
  have sc : ∀ ks, slack (.choice ks) = (match ks with | [] => 1 | _ => 0) := by intro ks; cases ks <;> rfl
  have s0 : ∀ (ks : List Nat) (k : Nat), slack (.row (ks ++ [k])) = 0 := by intro ks k; cases ks <;> rfl
  have c0 : ∀ (ks : List Nat) (k : Nat), slack (.choice (ks ++ [k])) = 0 := by intro ks k; cases ks <;> rfl
  induction h with
  | name _ => exact ⟨[_], by simp, rfl, by simp [slack]⟩
  | shut _ _ _ ih =>
    obtain ⟨n, h1, h2, h3⟩ := ih
    refine ⟨n, h1, h2, ?_⟩
    simp only [slack, List.length_cons, List.length_append, List.length_nil] at h3 ⊢
    omega
  | item _ ih => exact ih
  | times _ _ ih =>
    obtain ⟨n, h1, rfl, h3⟩ := ih
    refine ⟨n ++ [_], by simp, List.append_assoc _ _ _, ?_⟩
    simp only [slack, List.length_cons, List.length_append, List.length_nil] at h3 ⊢
    omega
  | @rowMore ks s t e e' e'' k k' _ _ ih1 ih2 =>
    obtain ⟨n, h1, rfl, h3⟩ := ih1
    obtain ⟨m, g1, rfl, g3⟩ := ih2
    refine ⟨n ++ m, by simp; omega, by simp, ?_⟩
    have := slack_le (.row ks)
    rw [s0] at g3
    simp only [slack] at h3
    simp only [List.length_append]
    omega
  | @rowEnd ks s e e' k _ ih =>
    obtain ⟨n, h1, rfl, h3⟩ := ih
    obtain ⟨m, g1, g2, g3⟩ := wh 2 ks k (2 * s.length) e n h1 (by simpa [slack] using h3)
    exact ⟨m, g1, g2, by rw [sr]; exact g3⟩
  | @chMore ks x s t e e' e'' k k' _ _ _ ih1 ih2 =>
    obtain ⟨n, h1, rfl, h3⟩ := ih1
    obtain ⟨m, g1, rfl, g3⟩ := ih2
    refine ⟨n ++ m, by simp; omega, by simp, ?_⟩
    have := slack_le (.choice ks)
    rw [c0] at g3
    simp only [slack] at h3
    simp only [List.length_append, List.length_cons]
    omega
  | @chEnd ks s e e' k _ ih =>
    obtain ⟨n, h1, rfl, h3⟩ := ih
    obtain ⟨m, g1, g2, g3⟩ := wh 3 ks k (2 * s.length) e n h1 (by simpa [slack] using h3)
    exact ⟨m, g1, g2, by rw [sc]; exact g3⟩
theorem Sn.grown {v : Lv} {s : List Sg} {e e' : List Pt} {k : Nat} (h : Sn v s e k e') : ∃ n, 0 < n.length ∧ e' = e ++ n ∧ n.length ≤ 2 * s.length := by
  obtain ⟨n, h1, h2, h3⟩ := h.grown'
  exact ⟨n, h1, h2, by omega⟩

/-- way 3 cares not where it begins -/
theorem cuts3_flag (i : Nat) (b c : Bool) : ∀ l : List Sg, Cuts 3 i b l = Cuts 3 i c l
  | [] => rfl
  | x :: l => by rw [cuts_cons, cuts_cons]; simp
/-- a row begins with an item -/
theorem Sn.cuts2_row {ks : List Nat} {s : List Sg} {e e' : List Pt} {k : Nat} (h : Sn (.row ks) s e k e') (i : Nat) (r : List Sg) : Cuts 2 i false (s ++ r) = i :: Cuts 2 i true (s ++ r) := by
  cases h with
  | rowMore h1 h2 => rw [List.append_assoc, h1.cuts_item 2 i false, h1.cuts_item 2 i true]; simp
  | rowEnd h1 => rw [h1.cuts_item 2 i false, h1.cuts_item 2 i true]; simp
/-- over an item: nothing to cut -/
theorem Sn.cuts_one {s : List Sg} {e e' : List Pt} {k : Nat} (h : Sn .item s e k e') (way i : Nat) : Cuts way i true s = [] := by
  have := h.cuts_item way i true []
  rw [List.append_nil] at this
  rw [this, cuts_nil]; simp
/-- over a row: no | to cut behind -/
theorem Sn.cuts3_row {v : Lv} {s : List Sg} {e e' : List Pt} {k : Nat} (h : Sn v s e k e') : ∀ ks, v = .row ks → ∀ (i : Nat) (b : Bool) (r : List Sg), Cuts 3 i b (s ++ r) = Cuts 3 (i + s.length) false r := by
  induction h with
  | name _ => intro ks h; cases h
  | shut _ _ _ _ => intro ks h; cases h
  | item _ _ => intro ks h; cases h
  | times _ _ _ => intro ks h; cases h
  | rowMore h1 h2 _ ih2 =>
    intro ks hk i b r
    rw [List.append_assoc, h1.cuts_item 3 i b, ih2 _ rfl]
    simp [Nat.add_assoc]
  | rowEnd h1 _ =>
    intro ks hk i b r
    rw [h1.cuts_item 3 i b]; simp
  | chMore _ _ _ _ _ => intro ks h; cases h
  | chEnd _ _ => intro ks h; cases h
/-- a row of more items: ahead of the next one -/
theorem cuts2_more {ks : List Nat} {s t : List Sg} {e e' e1 e2 : List Pt} {k k' : Nat} (h1 : Sn .item s e k e') (h2 : Sn (.row ks) t e1 k' e2) (i : Nat) : Cuts 2 i true (s ++ t) = (i + s.length) :: Cuts 2 (i + s.length) true t := by
  have := h2.cuts2_row (i + s.length) []
  rw [List.append_nil] at this
  rw [h1.cuts_item 2 i true, this]; simp
/-- a choice of more rows: behind the | -/
theorem cuts3_more {x : Sg} {s t : List Sg} {e e' : List Pt} {k : Nat} (h1 : Sn (.row []) s e k e') (h4 : x.kind = 4) (i : Nat) : Cuts 3 i true (s ++ x :: t) = (i + s.length + 1) :: Cuts 3 (i + s.length + 1) true t := by
  rw [h1.cuts3_row [] rfl i true, cuts_cons, cuts3_flag _ true false]
  simp [h4]
theorem cuts3_one {s : List Sg} {e e' : List Pt} {k : Nat} (h1 : Sn (.row []) s e k e') (i : Nat) : Cuts 3 i true s = [] := by
  have := h1.cuts3_row [] rfl i true []
  rw [List.append_nil] at this
  rw [this, cuts_nil]
end Go.Proofs.YtnbchikiiipejaaDoor.Ex
