/- Expressions: the signs of a part, as they were read; brackets and cuts in them. Plain lists. -/
import Derived.Test.YtegkimcfmdckbabDoorExMath
namespace Go.Proofs.YtegkimcfmdckbabDoor.Ex
open Lx (Sg)

/-- 'Sn v s e k e'': the signs s are those of a v, whose parts laid behind e are e', and whose place is k -/
inductive Sn : Lv → List Sg → List Pt → Nat → List Pt → Prop where
  | name {x : Sg} {e : List Pt} : x.kind = 1 → Sn .bare [x] e e.length (e ++ [⟨1, 0, 0, x.name, []⟩])
  | shut {x y : Sg} {s : List Sg} {e e' : List Pt} {k : Nat} : x.kind = 2 → Sn (.choice []) s e k e' → y.kind = 3 → Sn .bare (x :: (s ++ [y])) e k e'
  | item {s : List Sg} {e e' : List Pt} {k : Nat} : Sn .bare s e k e' → Sn .item s e k e'
  | times {x : Sg} {s : List Sg} {e e' : List Pt} {k : Nat} : Sn .bare s e k e' → x.kind = 5 → Sn .item (s ++ [x]) e e'.length (e' ++ [⟨4, x.low, x.high, [], [k]⟩])
  | rowMore {ks : List Nat} {s t : List Sg} {e e' e'' : List Pt} {k k' : Nat} : Sn .item s e k e' → Sn (.row (ks ++ [k])) t e' k' e'' → Sn (.row ks) (s ++ t) e k' e''
  | rowEnd {ks : List Nat} {s : List Sg} {e e' : List Pt} {k : Nat} : Sn .item s e k e' → Sn (.row ks) s e (whole 2 e' (ks ++ [k])).1 (whole 2 e' (ks ++ [k])).2
  | chMore {ks : List Nat} {x : Sg} {s t : List Sg} {e e' e'' : List Pt} {k k' : Nat} : Sn (.row []) s e k e' → x.kind = 4 → Sn (.choice (ks ++ [k])) t e' k' e'' → Sn (.choice ks) (s ++ x :: t) e k' e''
  | chEnd {ks : List Nat} {s : List Sg} {e e' : List Pt} {k : Nat} : Sn (.row []) s e k e' → Sn (.choice ks) s e (whole 3 e' (ks ++ [k])).1 (whole 3 e' (ks ++ [k])).2
/-- what was read are the signs ahead of those that are left -/
theorem Rd.seg {v : Lv} {l l' : List Sg} {e e' : List Pt} {ok : Bool} {k : Nat} (h : Rd v l e ok k l' e') (ho : ok = true) : ∃ s, l = s ++ l' ∧ Sn v s e k e' := by
  induction h with
  | name h1 => exact ⟨[_], rfl, .name h1⟩
  | none _ _ => simp at ho
  | inBad _ _ _ => simp at ho
  | noShut _ _ _ _ => simp at ho
  | shut h2 _ h3 ih =>
    obtain ⟨s, rfl, h⟩ := ih ho
    exact ⟨_, by simp, .shut h2 h h3⟩
  | itemBad _ _ => simp at ho
  | item _ _ ih =>
    obtain ⟨s, rfl, h⟩ := ih ho
    exact ⟨s, rfl, .item h⟩
  | times _ h5 ih =>
    obtain ⟨s, rfl, h⟩ := ih ho
    exact ⟨_, by simp, .times h h5⟩
  | rowBad _ _ => simp at ho
  | rowMore _ _ _ ih1 ih2 =>
    obtain ⟨s, rfl, h⟩ := ih1 rfl
    obtain ⟨t, rfl, g⟩ := ih2 ho
    exact ⟨_, by simp, .rowMore h g⟩
  | rowEnd _ _ _ ih =>
    obtain ⟨s, rfl, h⟩ := ih rfl
    exact ⟨s, rfl, .rowEnd h⟩
  | chBad _ _ => simp at ho
  | chMore _ h4 _ ih1 ih2 =>
    obtain ⟨s, rfl, h⟩ := ih1 rfl
    obtain ⟨t, rfl, g⟩ := ih2 ho
    exact ⟨_, by simp, .chMore h h4 g⟩
  | chEnd _ _ ih =>
    obtain ⟨s, rfl, h⟩ := ih rfl
    exact ⟨s, rfl, .chEnd h⟩

/-- how many signs stand ahead of the bracket that shuts, from a depth on -/
def jump : Nat → List Sg → Nat
  | _, [] => 0
  | d, x :: l => if x.kind = 2 then jump (d + 1) l + 1 else if x.kind = 3 then (if d = 1 then 0 else jump (d - 1) l + 1) else jump d l + 1
/-- signs whose brackets fit leave the depth as it is -/
theorem Sn.jump {v : Lv} {s : List Sg} {e e' : List Pt} {k : Nat} (h : Sn v s e k e') : ∀ (d : Nat) (r : List Sg), 0 < d → jump d (s ++ r) = jump d r + s.length := by
  induction h with
  | name h1 => intro d r hd; simp [Ex.jump, h1]
  | @shut x y s e e' k h2 _ h3 ih =>
    intro d r hd
    have h := ih (d + 1) (y :: r) (by omega)
    have e1 : Ex.jump d (x :: (s ++ [y]) ++ r) = Ex.jump (d + 1) (s ++ (y :: r)) + 1 := by simp [Ex.jump, h2]
    rw [e1, h]
    have e2 : Ex.jump (d + 1) (y :: r) = Ex.jump d r + 1 := by simp [Ex.jump, h3]; omega
    rw [e2]; simp; omega
  | item _ ih => exact ih
  | @times x s e e' k _ h5 ih =>
    intro d r hd
    rw [List.append_assoc, ih d _ hd]
    simp [Ex.jump, h5]; omega
  | @rowMore ks s t e e' e'' k k' _ _ ih1 ih2 =>
    intro d r hd
    rw [List.append_assoc, ih1 d _ hd, ih2 d _ hd]; simp; omega
  | rowEnd _ ih => exact ih
  | @chMore ks x s t e e' e'' k k' _ h4 _ ih1 ih2 =>
    intro d r hd
    rw [List.append_assoc, ih1 d _ hd]
    have e1 : Ex.jump d (x :: t ++ r) = Ex.jump d (t ++ r) + 1 := by simp [Ex.jump, h4]
    rw [e1, ih2 d _ hd]; simp; omega
  | chEnd _ ih => exact ih
/-- the bracket that shuts one that opens -/
theorem Sn.shuts {y : Sg} {s r : List Sg} {e e' : List Pt} {k : Nat} {v : Lv} (h : Sn v s e k e') (hy : y.kind = 3) : Ex.jump 1 (s ++ y :: r) = s.length := by
  rw [h.jump 1 _ (by omega)]; simp [Ex.jump, hy]

/-- where signs are cut, from place i on: ahead of items (way 2), behind each | (way 3); fuel: how many signs there are -/
def cuts (way : Nat) : Nat → Nat → Bool → List Sg → List Nat
  | 0, _, _, _ => []
  | _, _, _, [] => []
  | f + 1, i, first, x :: l =>
    (if way = 2 ∧ first = false ∧ (x.kind = 1 ∨ x.kind = 2) then [i] else if way = 3 ∧ x.kind = 4 then [i + 1] else []) ++
    (if x.kind = 2 then cuts way f (i + 1 + Ex.jump 1 l + 1) false (l.drop (Ex.jump 1 l + 1)) else cuts way f (i + 1) false l)
theorem cuts_fuel (way : Nat) : ∀ (f g i : Nat) (b : Bool) (l : List Sg), l.length ≤ f → l.length ≤ g → cuts way f i b l = cuts way g i b l
  | 0, 0, _, _, _, _, _ => rfl
  | 0, g + 1, _, _, [], _, _ => by simp [cuts]
  | 0, g + 1, _, _, _ :: _, h, _ => by simp at h
  | f + 1, 0, _, _, [], _, _ => by simp [cuts]
  | f + 1, 0, _, _, _ :: _, _, h => by simp at h
  | f + 1, g + 1, _, _, [], _, _ => by simp [cuts]
  | f + 1, g + 1, i, b, x :: l, h1, h2 => by
    simp only [List.length_cons] at h1 h2
    have e1 := cuts_fuel way f g (i + 1) false l (by omega) (by omega)
    have e2 := cuts_fuel way f g (i + 1 + Ex.jump 1 l + 1) false (l.drop (Ex.jump 1 l + 1)) (by simp; omega) (by simp; omega)
    simp only [cuts, e1, e2]
def Cuts (way i : Nat) (b : Bool) (l : List Sg) : List Nat := cuts way l.length i b l
theorem cuts_nil (way i : Nat) (b : Bool) : Cuts way i b [] = [] := rfl
theorem cuts_cons (way i : Nat) (b : Bool) (x : Sg) (l : List Sg) : Cuts way i b (x :: l) =
    (if way = 2 ∧ b = false ∧ (x.kind = 1 ∨ x.kind = 2) then [i] else if way = 3 ∧ x.kind = 4 then [i + 1] else []) ++
    (if x.kind = 2 then Cuts way (i + 1 + Ex.jump 1 l + 1) false (l.drop (Ex.jump 1 l + 1)) else Cuts way (i + 1) false l) := by
  have e2 := cuts_fuel way l.length (l.drop (Ex.jump 1 l + 1)).length (i + 1 + Ex.jump 1 l + 1) false (l.drop (Ex.jump 1 l + 1)) (by simp) (Nat.le_refl _)
  simp only [Cuts, List.length_cons, cuts, e2]
/-- over an item, or its bare part: a cut ahead of it, if it isn't the first one -/
theorem Sn.cuts_bare {s : List Sg} {e e' : List Pt} {k : Nat} (h : Sn .bare s e k e') (way i : Nat) (b : Bool) (r : List Sg) :
    Cuts way i b (s ++ r) = (if way = 2 ∧ b = false then [i] else []) ++ Cuts way (i + s.length) false r := by
  cases h with
  | @name x e h1 =>
    rw [List.singleton_append, cuts_cons]
    simp [h1]
  | @shut x y s e e' k h2 hc h3 =>
    have hj : Ex.jump 1 (s ++ (y :: r)) = s.length := hc.shuts h3
    have e1 : x :: (s ++ [y]) ++ r = x :: (s ++ (y :: r)) := by simp
    rw [e1, cuts_cons, hj]
    have e2 : (s ++ y :: r).drop (s.length + 1) = r := by simp [List.drop_append]
    rw [e2]
    simp [h2]
    rw [show i + 1 + s.length + 1 = i + (s.length + 1 + 1) from by omega]
theorem Sn.cuts_item {s : List Sg} {e e' : List Pt} {k : Nat} (h : Sn .item s e k e') (way i : Nat) (b : Bool) (r : List Sg) :
    Cuts way i b (s ++ r) = (if way = 2 ∧ b = false then [i] else []) ++ Cuts way (i + s.length) false r := by
  cases h with
  | item h => exact h.cuts_bare way i b r
  | @times x s e e' k h h5 =>
    rw [List.append_assoc, h.cuts_bare way i b]
    congr 1
    rw [List.singleton_append, cuts_cons]
    simp [h5]
    rw [show i + s.length + 1 = i + (s.length + 1) from by omega]
end Go.Proofs.YtegkimcfmdckbabDoor.Ex
