/- Nets as plain mathematics: places, pieces, and what writing out makes of parts. Nothing of the program. Nets: leading on, place by place; pieces one behind the other are a monoid; writing out adds behind what there is. Nothing of the program. Nets: writing out adds places behind what there is, as many as are counted; the reference's way, by which pieces are joined as they are written, comes to the same. Nothing of the program. Words through places: going one behind the other, and again and again. Plain relations, nothing of the program. Nets: a word goes through what was written out just if it fits. Nothing of the program. -/
import Derived.Test.YtnbchikiiipejaaDoorBgPop
import Derived.Test.YtnbchikiiipejaaDoorExCut
namespace Go.Proofs.YtnbchikiiipejaaDoor.Nf
open Bg (Bag)
open Ex (Pt)

/-- what is told of a place -/
structure En where
  on : Bag
  behind : Bag
/-- what is told of a piece -/
structure Pc where
  em : Bool
  first : Bag
  ends : Bag
def En.ok (x : En) : Prop := x.on.ok ∧ x.behind.ok
/-- a bag of places, of which there are n -/
def Within (n : Nat) (b : Bag) : Prop := b.ok ∧ ∀ j, b.has j = true → j < n
def Pc.within (n : Nat) (p : Pc) : Prop := Within n p.first ∧ Within n p.ends
def emp : Pc := ⟨true, Bg.nil, Bg.nil⟩

def lead1 (to : Bag) (e : En) : En := { e with behind := e.behind.orB to }
/-- places, one after the other, lead on -/
def leadL (is : List Int) (to : Bag) (l : List En) : List En := is.foldl (fun l i => l.modify i.toNat (lead1 to)) l
def lead (frm to : Bag) (l : List En) : List En := leadL frm.list to l
def often (p : Pt) : Nat := if p.kind = 4 then (if p.high < 0 then max p.low.toNat 1 else p.high.toNat) else 1
def lay (on : Bag) (l : List En) : Pc × List En := (⟨false, Bg.nil.withN l.length, Bg.nil.withN l.length⟩, l ++ [⟨on, Bg.nil⟩])
def join (one rest : Pc) : Pc := ⟨one.em && rest.em, if one.em then one.first.orB rest.first else one.first, if rest.em then rest.ends.orB one.ends else rest.ends⟩
def ahead (one rest : Pc) (l : List En) : Pc × List En := (join one rest, lead one.ends rest.first l)
/-- pieces one behind the other, the first of which is the i-th; those from must on may be missing -/
def line (must : Int) : Nat → List Pc → List En → Pc × List En
  | _, [], l => (emp, l)
  | i, one :: t, l =>
    let r := line must (i + 1) t l
    let a := ahead one r.1 r.2
    (⟨a.1.em || decide (must ≤ (i : Int)), a.1.first, a.1.ends⟩, a.2)
def or1 (all one : Pc) : Pc := ⟨all.em || one.em, all.first.orB one.first, all.ends.orB one.ends⟩
def either (l : List Pc) : Pc := l.foldl or1 ⟨false, Bg.nil, Bg.nil⟩
/-- pieces in the order in which their kids stand, each written behind the ones ahead -/
def several (wr : Nat → List En → Pc × List En) : List Nat → List Pc → List En → List Pc × List En
  | [], acc, l => (acc, l)
  | k :: ks, acc, l => several wr ks (acc ++ [(wr k l).1]) (wr k l).2
/-- what a part comes to, of its written pieces -/
def close (p : Pt) (m : List UInt8 → Bag) (s : List Pc) (l : List En) : Pc × List En :=
  if p.kind = 1 then lay (m p.name) l
  else if p.kind = 2 then line s.length 0 s l
  else if p.kind = 3 then (either s, l)
  else if p.high < 0 then line p.low 0 s (lead (s.getLastD emp).ends (s.getLastD emp).first l)
  else line p.low 0 s l
/-- all kids that are written of a part, in their order -/
def kidsOf (p : Pt) : List Nat := (List.replicate (often p) p.kids).flatten
def write (e : List Pt) (m : List UInt8 → Bag) : Nat → Nat → List En → Pc × List En
  | 0, _, l => (emp, l)
  | f + 1, k, l =>
    match e[k]? with
    | none => (emp, l)
    | some p =>
      let s := several (write e m f) (kidsOf p) [] l
      close p m s.1 s.2

-- what writing keeps
theorem leadL_length (to : Bag) : ∀ (is : List Int) (l : List En), (leadL is to l).length = l.length
  | [], _ => rfl
  | i :: is, l => by
    have := leadL_length to is (l.modify i.toNat (lead1 to))
    simp only [leadL, List.foldl_cons] at this ⊢
    rw [this, List.length_modify]
theorem lead_length (frm to : Bag) (l : List En) : (lead frm to l).length = l.length := leadL_length _ _ _
theorem leadL_append (to : Bag) (a b : List Int) (l : List En) : leadL (a ++ b) to l = leadL b to (leadL a to l) := by simp [leadL]
theorem lead1_ok {to : Bag} (ht : to.ok) {e : En} (h : e.ok) : (lead1 to e).ok := ⟨h.1, Bg.or_ok h.2 ht⟩
theorem leadL_ok {to : Bag} (ht : to.ok) : ∀ (is : List Int) (l : List En), (∀ x ∈ l, x.ok) → ∀ x ∈ leadL is to l, x.ok
  | [], _, h => h
  | i :: is, l, h => by
    refine leadL_ok ht is (l.modify i.toNat (lead1 to)) ?_
    intro x hx
    obtain ⟨j, hj, rfl⟩ := List.mem_iff_getElem.1 hx
    rw [List.getElem_modify]
    have hj' : j < l.length := by simpa using hj
    split
    · exact lead1_ok ht (h _ (List.getElem_mem hj'))
    · exact h _ (List.getElem_mem hj')
theorem within_nil (n : Nat) : Within n Bg.nil := ⟨Bg.nil_ok, fun j h => by simp [Bag.has, Bag.word, Bg.nil] at h⟩
theorem Within.mono {n m : Nat} {b : Bag} (h : Within n b) (hm : n ≤ m) : Within m b := ⟨h.1, fun j hj => Nat.lt_of_lt_of_le (h.2 j hj) hm⟩
theorem word_or (x y : Bag) (k : Nat) : (x.orB y).word k = x.word k ||| y.word k := by
  unfold Bag.word Bag.orB Bag.map2
  split
  · rfl
  · split
    · rfl
    · split <;> rfl
theorem has_or' (x y : Bag) (j : Nat) : (x.orB y).has j = (x.has j || y.has j) := by
  unfold Bag.has
  rw [word_or, Nat.testBit_or]
  cases decide (j < 256) <;> simp
theorem Within.or {n : Nat} {x y : Bag} (h : Within n x) (g : Within n y) : Within n (x.orB y) :=
  ⟨Bg.or_ok h.1 g.1, fun j hj => by
    rw [has_or'] at hj
    rcases Bool.or_eq_true _ _ ▸ hj with a | a
    · exact h.2 j a
    · exact g.2 j a⟩
theorem within_one (n : Nat) (hn : n < 256) : Within (n + 1) (Bg.nil.withN n) :=
  ⟨Bg.withN_ok Bg.nil_ok n, fun j hj => by
    rw [Bg.has_withN _ _ _ hn] at hj
    have : Bg.nil.has j = false := by simp [Bag.has, Bag.word, Bg.nil]
    rw [this, Bool.false_or] at hj
    have := of_decide_eq_true hj
    omega⟩
theorem within_emp (n : Nat) : emp.within n := ⟨within_nil n, within_nil n⟩
theorem Pc.within.mono {n m : Nat} {p : Pc} (h : p.within n) (hm : n ≤ m) : p.within m := ⟨h.1.mono hm, h.2.mono hm⟩
theorem join_within {n : Nat} {a b : Pc} (ha : a.within n) (hb : b.within n) : (join a b).within n := by
  unfold join Pc.within
  constructor
  · dsimp only; split
    · exact ha.1.or hb.1
    · exact ha.1
  · dsimp only; split
    · exact hb.2.or ha.2
    · exact hb.2
theorem line_length (must : Int) : ∀ (i : Nat) (s : List Pc) (l : List En), (line must i s l).2.length = l.length
  | _, [], _ => rfl
  | i, one :: t, l => by simp only [line, ahead, lead_length]; exact line_length must (i + 1) t l
theorem line_within {n : Nat} (must : Int) : ∀ (i : Nat) (s : List Pc) (l : List En), (∀ p ∈ s, p.within n) → (line must i s l).1.within n
  | _, [], _, _ => within_emp n
  | i, one :: t, l, h => by
    have h1 := line_within must (i + 1) t l (fun p hp => h p (List.mem_cons_of_mem _ hp))
    exact join_within (h one List.mem_cons_self) h1
theorem line_ok {n : Nat} (must : Int) : ∀ (i : Nat) (s : List Pc) (l : List En), (∀ p ∈ s, p.within n) → (∀ x ∈ l, x.ok) → ∀ x ∈ (line must i s l).2, x.ok
  | _, [], _, _, h => h
  | i, one :: t, l, hs, h => by
    have h1 := line_ok must (i + 1) t l (fun p hp => hs p (List.mem_cons_of_mem _ hp)) h
    have h2 := line_within (n := n) must (i + 1) t l (fun p hp => hs p (List.mem_cons_of_mem _ hp))
    exact leadL_ok h2.1.1 _ _ h1
theorem either_within {n : Nat} (s : List Pc) (h : ∀ p ∈ s, p.within n) : (either s).within n := by
  unfold either
  generalize hz : (⟨false, Bg.nil, Bg.nil⟩ : Pc) = z
  have h0 : z.within n := by rw [← hz]; exact ⟨within_nil n, within_nil n⟩
  clear hz
  induction s generalizing z with
  | nil => exact h0
  | cons p s ih =>
    refine ih (fun q hq => h q (List.mem_cons_of_mem _ hq)) (or1 z p) ?_
    have hp := h p List.mem_cons_self
    exact ⟨h0.1.or hp.1, h0.2.or hp.2⟩
theorem several_append (wr : Nat → List En → Pc × List En) : ∀ (a b : List Nat) (acc : List Pc) (l : List En), several wr (a ++ b) acc l = several wr b (several wr a acc l).1 (several wr a acc l).2
  | [], _, _, _ => rfl
  | _ :: a, b, _, _ => several_append wr a b _ _
end Go.Proofs.YtnbchikiiipejaaDoor.Nf
namespace Go.Proofs.YtnbchikiiipejaaDoor.Nf
open Bg (Bag)
open Ex (Pt)

theorem orB_comm (x y : Bag) : x.orB y = y.orB x := by simp [Bag.orB, Bag.map2, Nat.or_comm]
theorem orB_assoc (x y z : Bag) : (x.orB y).orB z = x.orB (y.orB z) := by simp [Bag.orB, Bag.map2, Nat.or_assoc]
theorem orB_self (x : Bag) : x.orB x = x := by cases x; simp [Bag.orB, Bag.map2]
theorem orB_nil (x : Bag) : x.orB Bg.nil = x := by cases x; simp [Bag.orB, Bag.map2, Bg.nil]
theorem nil_orB (x : Bag) : Bg.nil.orB x = x := by cases x; simp [Bag.orB, Bag.map2, Bg.nil]
theorem orB_twice (x y : Bag) : (x.orB y).orB y = x.orB y := by rw [orB_assoc, orB_self]
theorem orB_left (x y z : Bag) : x.orB (y.orB z) = y.orB (x.orB z) := by rw [← orB_assoc, orB_comm x y, orB_assoc]
theorem lead1_twice (to : Bag) (e : En) : lead1 to (lead1 to e) = lead1 to e := by simp [lead1, orB_twice]

theorem leadL_get (to : Bag) : ∀ (is : List Int) (l : List En), (∀ i ∈ is, 0 ≤ i) → ∀ j : Nat, (leadL is to l)[j]? = (l[j]?).map (fun e => if (j : Int) ∈ is then lead1 to e else e)
  | [], l, _, j => by simp [leadL]
  | i :: is, l, h, j => by
    have h0 := h i List.mem_cons_self
    have ih := leadL_get to is (l.modify i.toNat (lead1 to)) (fun x hx => h x (List.mem_cons_of_mem _ hx)) j
    have e : leadL (i :: is) to l = leadL is to (l.modify i.toNat (lead1 to)) := rfl
    rw [e, ih, List.getElem?_modify]
    cases hl : l[j]? with
    | none => simp
    | some x =>
      simp only [Option.map_some, List.mem_cons, Option.map_eq_map]
      by_cases h1 : i.toNat = j
      · have hj : (j : Int) = i := by omega
        rw [if_pos h1, if_pos (Or.inl hj)]
        by_cases h2 : (j : Int) ∈ is
        · rw [if_pos h2, lead1_twice]
        · rw [if_neg h2]
      · have hj : ¬ (j : Int) = i := by omega
        rw [if_neg h1]
        by_cases h2 : (j : Int) ∈ is
        · rw [if_pos h2, if_pos (Or.inr h2)]
        · rw [if_neg h2, if_neg (by rintro (h | h) <;> contradiction)]
theorem list_nonneg (x : Bag) : ∀ i ∈ x.list, 0 ≤ i := by
  intro i hi
  obtain ⟨n, _, rfl⟩ := List.mem_map.1 hi
  exact Int.natCast_nonneg n
/-- what is led to from each place -/
def sendU (frm to : Bag) (j : Nat) : Bag := if frm.has j then to else Bg.nil
/-- places, each with so much more behind it -/
def addU (u : Nat → Bag) (l : List En) : List En := l.mapIdx fun j e => { e with behind := e.behind.orB (u j) }
theorem addU_get (u : Nat → Bag) (l : List En) (j : Nat) : (addU u l)[j]? = (l[j]?).map fun e => { e with behind := e.behind.orB (u j) } := by simp [addU]
theorem addU_length (u : Nat → Bag) (l : List En) : (addU u l).length = l.length := by simp [addU]
theorem lead_addU (frm to : Bag) (l : List En) : lead frm to l = addU (sendU frm to) l := by
  apply List.ext_getElem?
  intro j
  rw [addU_get]
  unfold lead
  rw [leadL_get _ _ _ (list_nonneg frm)]
  congr 1
  funext e
  have : (j : Int) ∈ frm.list ↔ frm.has j = true := by rw [Bg.mem_list, Bg.has_hasI]
  unfold sendU
  by_cases h : frm.has j = true
  · rw [if_pos (this.2 h), if_pos h]; rfl
  · rw [if_neg (fun g => h (this.1 g)), if_neg h, orB_nil]
theorem addU_addU (u v : Nat → Bag) (l : List En) : addU v (addU u l) = addU (fun j => (u j).orB (v j)) l := by
  apply List.ext_getElem?
  intro j
  simp only [addU_get, Option.map_map]
  congr 1
  funext e
  simp [Function.comp, orB_assoc]
theorem addU_none (l : List En) : addU (fun _ => Bg.nil) l = l := by
  apply List.ext_getElem?
  intro j
  rw [addU_get]
  cases l[j]? <;> simp [orB_nil]
theorem addU_congr {u v : Nat → Bag} {l : List En} (h : ∀ j, j < l.length → u j = v j) : addU u l = addU v l := by
  apply List.ext_getElem?
  intro j
  rw [addU_get, addU_get]
  by_cases hj : j < l.length
  · rw [h j hj]
  · rw [List.getElem?_eq_none (by omega)]; rfl
theorem addU_append (u : Nat → Bag) (l x : List En) : addU u (l ++ x) = addU u l ++ addU (fun j => u (l.length + j)) x := by
  apply List.ext_getElem?
  intro j
  rw [addU_get]
  by_cases hj : j < l.length
  · rw [List.getElem?_append_left hj, List.getElem?_append_left (by rw [addU_length]; exact hj), addU_get]
  · rw [List.getElem?_append_right (by omega), List.getElem?_append_right (by rw [addU_length]; omega), addU_length, addU_get, show l.length + (j - l.length) = j by omega]

/-- a piece, and what its writing led to -/
structure Sq where
  p : Pc
  u : Nat → Bag
def Sq.one : Sq := ⟨emp, fun _ => Bg.nil⟩
def Sq.mul (a b : Sq) : Sq := ⟨join a.p b.p, fun j => (a.u j).orB ((b.u j).orB (sendU a.p.ends b.p.first j))⟩
def Sq.of (p : Pc) : Sq := ⟨p, fun _ => Bg.nil⟩
theorem Sq.one_mul (a : Sq) : Sq.one.mul a = a := by
  obtain ⟨⟨em, fi, en⟩, u⟩ := a
  simp only [Sq.mul, Sq.one, emp, join, Sq.mk.injEq, Pc.mk.injEq, Bool.true_and, if_true, nil_orB, true_and]
  refine ⟨?_, ?_⟩
  · cases em <;> simp [orB_nil]
  · funext j
    have : sendU Bg.nil fi j = Bg.nil := by simp [sendU, Bg.has_nil]
    rw [this, orB_nil]
theorem Sq.mul_one (a : Sq) : a.mul Sq.one = a := by
  obtain ⟨⟨em, fi, en⟩, u⟩ := a
  simp only [Sq.mul, Sq.one, emp, join, Sq.mk.injEq, Pc.mk.injEq, Bool.and_true, if_true, nil_orB, and_true, true_and]
  refine ⟨?_, ?_⟩
  · cases em <;> simp [orB_nil]
  · funext j
    have : sendU en Bg.nil j = Bg.nil := by simp [sendU]
    rw [this, orB_nil]
theorem has_or (x y : Bag) (j : Nat) : (x.orB y).has j = (x.has j || y.has j) := has_or' x y j
theorem Sq.mul_assoc (a b c : Sq) : (a.mul b).mul c = a.mul (b.mul c) := by
  obtain ⟨⟨e1, f1, n1⟩, u1⟩ := a
  obtain ⟨⟨e2, f2, n2⟩, u2⟩ := b
  obtain ⟨⟨e3, f3, n3⟩, u3⟩ := c
  simp only [Sq.mul, join, Sq.mk.injEq, Pc.mk.injEq, Bool.and_assoc, true_and]
  refine ⟨⟨?_, ?_⟩, ?_⟩
  · cases e1 <;> cases e2 <;> simp [orB_assoc]
  · cases e2 <;> cases e3 <;> simp [orB_assoc]
  · funext j
    have hs : ∀ x y z : Bag, sendU (x.orB y) z j = (sendU x z j).orB (sendU y z j) := by
      intro x y z
      unfold sendU
      rw [has_or]
      cases x.has j <;> cases y.has j <;> simp [orB_self, orB_nil, nil_orB]
    have ht : ∀ x y z : Bag, sendU x (y.orB z) j = (sendU x y j).orB (sendU x z j) := by
      intro x y z
      unfold sendU
      split <;> simp [orB_nil]
    have hi : ∀ (b : Bool) (x y : Bag), (if b = true then x.orB y else x) = x.orB (if b = true then y else Bg.nil) := by
      intro b x y; cases b <;> simp [orB_nil]
    have h0 : ∀ x : Bag, sendU x Bg.nil j = Bg.nil := by intro x; simp [sendU]
    have h1 : ∀ x : Bag, sendU Bg.nil x j = Bg.nil := by intro x; simp [sendU, Bg.has_nil]
    cases e2
    · simp only [Bool.false_eq_true, if_false]
      cases e1 <;> cases e3 <;> simp [orB_comm, orB_left]
    · simp only [if_true]
      rw [hs, ht]
      cases e1 <;> cases e3 <;> simp [orB_comm, orB_left]
def optE (b : Bool) (x : Sq) : Sq := ⟨⟨x.p.em || b, x.p.first, x.p.ends⟩, x.u⟩
def lineS (must : Int) : Nat → List Pc → Sq
  | _, [] => Sq.one
  | i, one :: t => optE (decide (must ≤ (i : Int))) ((Sq.of one).mul (lineS must (i + 1) t))
theorem line_lineS (must : Int) : ∀ (i : Nat) (s : List Pc) (l : List En), line must i s l = ((lineS must i s).p, addU (lineS must i s).u l)
  | _, [], l => by simp [line, lineS, Sq.one, addU_none]
  | i, one :: t, l => by
    have ih := line_lineS must (i + 1) t l
    simp only [line, ahead, ih, lead_addU, addU_addU, lineS, optE, Sq.mul, Sq.of, nil_orB]
/-- pieces taken one behind the other, from the left -/
def foldS (ps : List Pc) : Sq := ps.foldl (fun x p => x.mul (Sq.of p)) Sq.one
theorem foldS_snoc (ps : List Pc) (p : Pc) : foldS (ps ++ [p]) = (foldS ps).mul (Sq.of p) := by simp [foldS]
theorem lineS_head (must : Int) : ∀ (a b : List Pc) (i : Nat), (i : Int) + a.length ≤ must → lineS must i (a ++ b) = (foldS a).mul (lineS must (i + a.length) b) := by
  have key : ∀ (a b : List Pc) (i : Nat) (x : Sq), (i : Int) + a.length ≤ must → x.mul (lineS must i (a ++ b)) = (a.foldl (fun x p => x.mul (Sq.of p)) x).mul (lineS must (i + a.length) b) := by
    intro a
    induction a with
    | nil => intro b i x _; rfl
    | cons p a ih =>
      intro b i x h
      simp only [List.length_cons] at h
      have h1 := ih b (i + 1) (x.mul (Sq.of p)) (by push_cast at h ⊢; omega)
      have hd : decide (must ≤ (i : Int)) = false := by simp; omega
      simp only [List.cons_append, lineS, hd, List.foldl_cons, List.length_cons]
      rw [show i + (a.length + 1) = i + 1 + a.length by omega, ← h1]
      have : ∀ y : Sq, optE false y = y := by intro ⟨⟨e, f, n⟩, u⟩; simp [optE]
      rw [this, Sq.mul_assoc]
  intro a b i h
  rw [← Sq.one_mul (lineS must i (a ++ b)), key a b i _ h]; rfl
theorem lineS_tail (must : Int) : ∀ (b : List Pc) (i : Nat), must ≤ (i : Int) → lineS must i b = lineS 0 0 b := by
  have key : ∀ (b : List Pc) (i : Nat) (k : Int) (m : Nat), must ≤ (i : Int) → k ≤ (m : Int) → lineS must i b = lineS k m b := by
    intro b
    induction b with
    | nil => intro i k m _ _; rfl
    | cons p b ih =>
      intro i k m h g
      simp only [lineS]
      rw [ih (i + 1) k (m + 1) (by push_cast; omega) (by push_cast; omega), decide_eq_true h, decide_eq_true g]
  intro b i h
  exact key b i 0 0 h (by simp)
/-- all must be -/
theorem lineS_all (s : List Pc) : lineS s.length 0 s = foldS s := by
  have := lineS_head s.length s [] 0 (by simp)
  rw [List.append_nil] at this
  rw [this]; simp [lineS, Sq.mul_one]
/-- those up to low must be, the others may be missing -/
theorem lineS_low (low : Nat) (s : List Pc) : lineS low 0 s = (foldS (s.take low)).mul (lineS 0 0 (s.drop low)) := by
  by_cases h : low ≤ s.length
  · have := lineS_head low (s.take low) (s.drop low) 0 (by simp; omega)
    rw [List.take_append_drop] at this
    rw [this, List.length_take, Nat.min_eq_left h, lineS_tail _ _ _ (by simp)]
  · have := lineS_head low s [] 0 (by simp; omega)
    rw [List.append_nil] at this
    rw [this, List.take_of_length_le (by omega), List.drop_eq_nil_of_le (by omega)]; rfl
end Go.Proofs.YtnbchikiiipejaaDoor.Nf
namespace Go.Proofs.YtnbchikiiipejaaDoor.Nf
open Bg (Bag)
open Ex (Pt)

/-- how many places a part has, written out -/
def places (e : List Pt) : Nat → Nat → Nat
  | 0, _ => 0
  | f + 1, k => match e[k]? with
    | none => 0
    | some p => (if p.kind = 1 then 1 else 0) + ((kidsOf p).map (places e f)).sum
/-- a piece whose places are from a on, below b -/
def Pc.rng (a b : Nat) (p : Pc) : Prop := (∀ j, p.first.has j = true → a ≤ j ∧ j < b) ∧ (∀ j, p.ends.has j = true → a ≤ j ∧ j < b)
theorem Pc.rng.mono {a b a' b' : Nat} {p : Pc} (h : p.rng a b) (ha : a' ≤ a) (hb : b ≤ b') : p.rng a' b' :=
  ⟨fun j hj => by have := h.1 j hj; omega, fun j hj => by have := h.2 j hj; omega⟩
theorem emp_rng (a b : Nat) : emp.rng a b := ⟨fun j h => by simp [emp, Bg.has_nil] at h, fun j h => by simp [emp, Bg.has_nil] at h⟩
theorem no_rng (a b : Nat) : (⟨false, Bg.nil, Bg.nil⟩ : Pc).rng a b := ⟨fun j h => by simp [Bg.has_nil] at h, fun j h => by simp [Bg.has_nil] at h⟩
theorem join_rng {a b : Nat} {p q : Pc} (hp : p.rng a b) (hq : q.rng a b) : (join p q).rng a b := by
  constructor
  · intro j h
    simp only [join] at h
    split at h
    · rw [has_or] at h
      rcases Bool.or_eq_true _ _ ▸ h with g | g
      · exact hp.1 j g
      · exact hq.1 j g
    · exact hp.1 j h
  · intro j h
    simp only [join] at h
    split at h
    · rw [has_or] at h
      rcases Bool.or_eq_true _ _ ▸ h with g | g
      · exact hq.2 j g
      · exact hp.2 j g
    · exact hq.2 j h
theorem or1_rng {a b : Nat} {p q : Pc} (hp : p.rng a b) (hq : q.rng a b) : (or1 p q).rng a b := by
  constructor
  · intro j h
    simp only [or1, has_or] at h
    rcases Bool.or_eq_true _ _ ▸ h with g | g
    · exact hp.1 j g
    · exact hq.1 j g
  · intro j h
    simp only [or1, has_or] at h
    rcases Bool.or_eq_true _ _ ▸ h with g | g
    · exact hp.2 j g
    · exact hq.2 j g
theorem either_rng {a b : Nat} (s : List Pc) (h : ∀ p ∈ s, p.rng a b) : (either s).rng a b := by
  unfold either
  generalize hz : (⟨false, Bg.nil, Bg.nil⟩ : Pc) = z
  have h0 : z.rng a b := by rw [← hz]; exact no_rng a b
  clear hz
  induction s generalizing z with
  | nil => exact h0
  | cons p s ih => exact ih (fun q hq => h q (List.mem_cons_of_mem _ hq)) (or1 z p) (or1_rng h0 (h p List.mem_cons_self))
def Sq.rng (a b : Nat) (x : Sq) : Prop := x.p.rng a b ∧ ∀ j, ¬ (a ≤ j ∧ j < b) → x.u j = Bg.nil
theorem one_rng (a b : Nat) : Sq.one.rng a b := ⟨emp_rng a b, fun _ _ => rfl⟩
theorem of_rng {a b : Nat} {p : Pc} (h : p.rng a b) : (Sq.of p).rng a b := ⟨h, fun _ _ => rfl⟩
theorem send_rng {a b : Nat} {p : Pc} (h : p.rng a b) (to : Bag) : ∀ j, ¬ (a ≤ j ∧ j < b) → sendU p.ends to j = Bg.nil := by
  intro j hj
  unfold sendU
  rw [if_neg (fun g => hj (h.2 j g))]
theorem Sq.rng.mul {a b : Nat} {x y : Sq} (hx : x.rng a b) (hy : y.rng a b) : (x.mul y).rng a b :=
  ⟨join_rng hx.1 hy.1, fun j hj => by
    show (x.u j).orB ((y.u j).orB (sendU x.p.ends y.p.first j)) = Bg.nil
    rw [hx.2 j hj, hy.2 j hj, send_rng hx.1 _ j hj, orB_nil, orB_nil]⟩
theorem lineS_rng {a b : Nat} (must : Int) : ∀ (i : Nat) (s : List Pc), (∀ p ∈ s, p.rng a b) → (lineS must i s).rng a b
  | _, [], _ => one_rng a b
  | i, p :: t, h => by
    have h1 := lineS_rng must (i + 1) t (fun q hq => h q (List.mem_cons_of_mem _ hq))
    exact (of_rng (h p List.mem_cons_self)).mul h1
theorem foldS_rng {a b : Nat} (s : List Pc) (h : ∀ p ∈ s, p.rng a b) : (foldS s).rng a b := by
  rw [← lineS_all]; exact lineS_rng _ _ _ h
/-- what is led to from new places alone leaves the others -/
theorem addU_new {u : Nat → Bag} (l x : List En) (h : ∀ j, j < l.length → u j = Bg.nil) : addU u (l ++ x) = l ++ addU (fun j => u (l.length + j)) x := by
  rw [addU_append]
  congr 1
  rw [addU_congr (v := fun _ => Bg.nil) h, addU_none]
theorem addU_old {u : Nat → Bag} (l x : List En) (h : ∀ j, l.length ≤ j → u j = Bg.nil) : addU u (l ++ x) = addU u l ++ x := by
  rw [addU_append]
  congr 1
  rw [addU_congr (v := fun _ => Bg.nil) (fun j _ => h _ (by omega)), addU_none]

/-- writing adds so many places behind what there is, the same ones behind whatever is as long -/
def Adds (g : List En → Pc × List En) (c : Nat) : Prop := ∀ n, n + c ≤ 256 → ∃ pc ext, ext.length = c ∧ pc.rng n (n + c) ∧ ∀ l : List En, l.length = n → g l = (pc, l ++ ext)
theorem several_adds {wr : Nat → List En → Pc × List En} {c : Nat → Nat} : ∀ (ks : List Nat), (∀ k ∈ ks, Adds (wr k) (c k)) → ∀ n, n + (ks.map c).sum ≤ 256 →
    ∃ ps ext, ext.length = (ks.map c).sum ∧ ps.length = ks.length ∧ (∀ p ∈ ps, p.rng n (n + (ks.map c).sum)) ∧ ∀ acc l, l.length = n → several wr ks acc l = (acc ++ ps, l ++ ext)
  | [], _, n, _ => ⟨[], [], rfl, rfl, fun p hp => by simp at hp, fun acc l _ => by simp [several]⟩
  | k :: ks, h, n, hn => by
    simp only [List.map_cons, List.sum_cons] at hn
    obtain ⟨pc, x1, hx1, hr1, hw1⟩ := h k List.mem_cons_self n (by omega)
    obtain ⟨ps, x2, hx2, hl2, hr2, hw2⟩ := several_adds ks (fun j hj => h j (List.mem_cons_of_mem _ hj)) (n + c k) (by omega)
    refine ⟨pc :: ps, x1 ++ x2, by simp [hx1, hx2], by simp [hl2], ?_, ?_⟩
    · intro p hp
      simp only [List.map_cons, List.sum_cons]
      rcases List.mem_cons.1 hp with rfl | hp
      · exact hr1.mono (Nat.le_refl _) (by omega)
      · exact (hr2 p hp).mono (by omega) (by omega)
    · intro acc l hl
      simp only [several, hw1 l hl]
      rw [hw2 _ _ (by simp [hl, hx1])]
      simp
theorem write_adds (e : List Pt) (m : List UInt8 → Bag) : ∀ f k, Adds (write e m f k) (places e f k)
  | 0, k => fun n _ => ⟨emp, [], rfl, emp_rng _ _, fun l _ => by simp [write]⟩
  | f + 1, k => by
    intro n hn
    cases hp : e[k]? with
    | none => exact ⟨emp, [], by simp [places, hp], emp_rng _ _, fun l _ => by simp [write, hp]⟩
    | some p =>
      have hpl : places e (f + 1) k = (if p.kind = 1 then 1 else 0) + ((kidsOf p).map (places e f)).sum := by simp [places, hp]
      rw [hpl] at hn ⊢
      obtain ⟨ps, ext, hx, hlen, hr, hw⟩ := several_adds (wr := write e m f) (c := places e f) (kidsOf p) (fun j _ => write_adds e m f j) n (by omega)
      generalize hS : ((kidsOf p).map (places e f)).sum = S at hn hx hr ⊢
      have hwr : ∀ l : List En, l.length = n → write e m (f + 1) k l = close p m ps (l ++ ext) := by
        intro l hl
        simp only [write, hp]
        rw [hw [] l hl]; rfl
      by_cases h1 : p.kind = 1
      · rw [if_pos h1] at hn ⊢
        have hlt : n + S < 256 := by omega
        have hh : ∀ j, (Bg.nil.withN (n + S)).has j = true → j = n + S := by
          intro j hj
          rw [Bg.has_withN _ _ _ hlt, Bg.has_nil, Bool.false_or] at hj
          exact of_decide_eq_true hj
        refine ⟨⟨false, Bg.nil.withN (n + S), Bg.nil.withN (n + S)⟩, ext ++ [⟨m p.name, Bg.nil⟩], by simp [hx]; omega, ⟨fun j hj => ?_, fun j hj => ?_⟩, fun l hl => ?_⟩
        · have := hh j hj; omega
        · have := hh j hj; omega
        · rw [hwr l hl]
          simp only [close, if_pos h1, lay, List.length_append, hl, hx, List.append_assoc]
      · rw [if_neg h1] at hn ⊢
        simp only [Nat.zero_add] at hn ⊢
        by_cases h2 : p.kind = 2
        · have hq := lineS_rng (ps.length : Int) 0 ps hr
          refine ⟨_, addU (fun j => (lineS (ps.length : Int) 0 ps).u (n + j)) ext, by rw [addU_length, hx], hq.1, fun l hl => ?_⟩
          rw [hwr l hl]
          simp only [close, if_neg h1, if_pos h2, line_lineS]
          rw [addU_new l ext (fun j hj => hq.2 j (by omega)), hl]
        · by_cases h3 : p.kind = 3
          · refine ⟨either ps, ext, hx, either_rng ps hr, fun l hl => ?_⟩
            rw [hwr l hl]
            simp only [close, if_neg h1, if_neg h2, if_pos h3]
          · have hq := lineS_rng p.low 0 ps hr
            have hlast : (ps.getLastD emp).rng n (n + S) := by
              cases ps with
              | nil => exact emp_rng _ _
              | cons a t => rw [List.getLastD_cons]; exact hr _ List.getLastD_mem_cons
            by_cases h4 : p.high < 0
            · refine ⟨_, addU (fun j => (lineS p.low 0 ps).u (n + j)) (addU (fun j => sendU (ps.getLastD emp).ends (ps.getLastD emp).first (n + j)) ext), by rw [addU_length, addU_length, hx], hq.1, fun l hl => ?_⟩
              rw [hwr l hl]
              simp only [close, if_neg h1, if_neg h2, if_neg h3, if_pos h4, line_lineS, lead_addU]
              rw [addU_new l ext (fun j hj => send_rng hlast _ j (by omega)), addU_new l _ (fun j hj => hq.2 j (by omega)), hl]
            · refine ⟨_, addU (fun j => (lineS p.low 0 ps).u (n + j)) ext, by rw [addU_length, hx], hq.1, fun l hl => ?_⟩
              rw [hwr l hl]
              simp only [close, if_neg h1, if_neg h2, if_neg h3, if_neg h4, line_lineS]
              rw [addU_new l ext (fun j hj => hq.2 j (by omega)), hl]
theorem write_length (e : List Pt) (m : List UInt8 → Bag) (f k : Nat) (l : List En) (h : l.length + places e f k ≤ 256) : (write e m f k l).2.length = l.length + places e f k := by
  obtain ⟨pc, ext, hx, _, hw⟩ := write_adds e m f k l.length h
  rw [hw l rfl]; simp [hx]

/-- the reference: a row's pieces are joined as they are written -/
def rowR (wr : Nat → List En → Pc × List En) : List Nat → Pc → List En → Pc × List En
  | [], out, l => (out, l)
  | k :: ks, out, l => rowR wr ks (join out (wr k l).1) (lead out.ends (wr k l).1.first (wr k l).2)
def chR (wr : Nat → List En → Pc × List En) : List Nat → Pc → List En → Pc × List En
  | [], out, l => (out, l)
  | k :: ks, out, l => chR wr ks (or1 out (wr k l).1) (wr k l).2
def seqR : List Pc → Pc → List En → Pc × List En
  | [], out, l => (out, l)
  | p :: ps, out, l => seqR ps (join out p) (lead out.ends p.first l)
def timesR (p : Pt) (s : List Pc) (l : List En) : Pc × List En :=
  let a := seqR (s.take p.low.toNat) emp (if p.high < 0 then lead (s.getLastD emp).ends (s.getLastD emp).first l else l)
  let t := line 0 0 (s.drop p.low.toNat) a.2
  ahead a.1 t.1 t.2
def refw (e : List Pt) (m : List UInt8 → Bag) : Nat → Nat → List En → Pc × List En
  | 0, _, l => (emp, l)
  | f + 1, k, l =>
    match e[k]? with
    | none => (emp, l)
    | some p =>
      if p.kind = 1 then lay (m p.name) l
      else if p.kind = 3 then chR (refw e m f) p.kids ⟨false, Bg.nil, Bg.nil⟩ l
      else if p.kind = 2 then rowR (refw e m f) p.kids emp l
      else timesR p (several (refw e m f) (List.replicate (often p) (p.kids.headD 0)) [] l).1 (several (refw e m f) (List.replicate (often p) (p.kids.headD 0)) [] l).2
theorem seqR_foldS : ∀ (ps : List Pc) (x : Sq) (l : List En), seqR ps x.p (addU x.u l) = ((ps.foldl (fun x p => x.mul (Sq.of p)) x).p, addU (ps.foldl (fun x p => x.mul (Sq.of p)) x).u l)
  | [], x, l => rfl
  | p :: ps, x, l => by
    have ih := seqR_foldS ps (x.mul (Sq.of p)) l
    rw [List.foldl_cons, ← ih]
    simp only [seqR, Sq.mul, Sq.of, lead_addU, addU_addU, nil_orB]
theorem timesR_line (p : Pt) (h0 : 0 ≤ p.low) (s : List Pc) (l : List En) : timesR p s l = line p.low 0 s (if p.high < 0 then lead (s.getLastD emp).ends (s.getLastD emp).first l else l) := by
  unfold timesR
  generalize (if p.high < 0 then lead (s.getLastD emp).ends (s.getLastD emp).first l else l) = l1
  have hs : seqR (s.take p.low.toNat) emp l1 = ((foldS (s.take p.low.toNat)).p, addU (foldS (s.take p.low.toNat)).u l1) := by
    have := seqR_foldS (s.take p.low.toNat) Sq.one l1
    rw [show addU Sq.one.u l1 = l1 from addU_none l1] at this
    exact this
  rw [line_lineS]
  have hlow := lineS_low p.low.toNat s
  rw [Int.toNat_of_nonneg h0] at hlow
  simp only [hs, line_lineS, ahead, lead_addU, addU_addU]
  rw [hlow]
  simp only [Sq.mul, orB_assoc]
theorem several_congr {wr wr' : Nat → List En → Pc × List En} {c : Nat → Nat} : ∀ (ks : List Nat), (∀ k ∈ ks, Adds (wr k) (c k)) → (∀ k ∈ ks, ∀ l : List En, l.length + c k ≤ 256 → wr' k l = wr k l) →
    ∀ (acc : List Pc) (l : List En), l.length + (ks.map c).sum ≤ 256 → several wr' ks acc l = several wr ks acc l
  | [], _, _, _, _, _ => rfl
  | k :: ks, ha, h, acc, l, hl => by
    simp only [List.map_cons, List.sum_cons] at hl
    have e := h k List.mem_cons_self l (by omega)
    obtain ⟨pc, ext, hx, _, hw⟩ := ha k List.mem_cons_self l.length (by omega)
    simp only [several, e]
    exact several_congr ks (fun j hj => ha j (List.mem_cons_of_mem _ hj)) (fun j hj => h j (List.mem_cons_of_mem _ hj)) _ _ (by rw [hw l rfl]; simp [hx]; omega)
theorem chR_either {wr wr' : Nat → List En → Pc × List En} {c : Nat → Nat} : ∀ (ks : List Nat), (∀ k ∈ ks, Adds (wr k) (c k)) → (∀ k ∈ ks, ∀ l : List En, l.length + c k ≤ 256 → wr' k l = wr k l) →
    ∀ (acc : List Pc) (l : List En), l.length + (ks.map c).sum ≤ 256 → chR wr' ks (either acc) l = (either (several wr ks acc l).1, (several wr ks acc l).2)
  | [], _, _, _, _, _ => rfl
  | k :: ks, ha, h, acc, l, hl => by
    simp only [List.map_cons, List.sum_cons] at hl
    have e := h k List.mem_cons_self l (by omega)
    obtain ⟨pc, ext, hx, _, hw⟩ := ha k List.mem_cons_self l.length (by omega)
    have ih := chR_either ks (fun j hj => ha j (List.mem_cons_of_mem _ hj)) (fun j hj => h j (List.mem_cons_of_mem _ hj)) (acc ++ [(wr k l).1]) (wr k l).2 (by rw [hw l rfl]; simp [hx]; omega)
    have es : either (acc ++ [(wr k l).1]) = or1 (either acc) (wr k l).1 := by simp [either]
    simp only [chR, several, e]
    rw [← ih, es]
theorem rowR_foldS {wr wr' : Nat → List En → Pc × List En} {c : Nat → Nat} : ∀ (ks : List Nat), (∀ k ∈ ks, Adds (wr k) (c k)) → (∀ k ∈ ks, ∀ l : List En, l.length + c k ≤ 256 → wr' k l = wr k l) →
    ∀ (acc : List Pc) (l : List En), l.length + (ks.map c).sum ≤ 256 → (∀ p ∈ acc, p.rng 0 l.length) →
    rowR wr' ks (foldS acc).p (addU (foldS acc).u l) = ((foldS (several wr ks acc l).1).p, addU (foldS (several wr ks acc l).1).u (several wr ks acc l).2)
  | [], _, _, _, _, _, _ => rfl
  | k :: ks, ha, h, acc, l, hl, hr => by
    simp only [List.map_cons, List.sum_cons] at hl
    have hq := foldS_rng acc hr
    have e := h k List.mem_cons_self (addU (foldS acc).u l) (by rw [addU_length]; omega)
    obtain ⟨pc, ext, hx, hpc, hw⟩ := ha k List.mem_cons_self l.length (by omega)
    have e1 := hw (addU (foldS acc).u l) (addU_length _ _)
    have e2 := hw l rfl
    have ih := rowR_foldS ks (fun j hj => ha j (List.mem_cons_of_mem _ hj)) (fun j hj => h j (List.mem_cons_of_mem _ hj)) (acc ++ [pc]) (l ++ ext) (by simp [hx]; omega) (by
      intro p hp
      rcases List.mem_append.1 hp with hp | hp
      · exact (hr p hp).mono (Nat.le_refl _) (by simp)
      · simp only [List.mem_singleton] at hp
        subst hp
        exact hpc.mono (by omega) (by simp [hx]))
    simp only [rowR, several, e, e1, e2]
    rw [← ih, foldS_snoc]
    congr 1
    rw [← addU_old l ext (fun j hj => hq.2 j (by omega)), lead_addU, addU_addU]
    congr 1
    funext j
    simp [Sq.mul, Sq.of, nil_orB]

/-- parts as they are in an expression -/
def Fit (p : Pt) : Prop := (p.kind = 1 → p.kids = []) ∧ (p.kind ≠ 1 → p.kind ≠ 2 → p.kind ≠ 3 → p.kids.length = 1 ∧ 0 ≤ p.low)
theorem kidsOf_one {p : Pt} (h : p.kind ≠ 4) : kidsOf p = p.kids := by
  unfold kidsOf often
  rw [if_neg h]; simp
theorem refw_write (e : List Pt) (m : List UInt8 → Bag) (he : ∀ p ∈ e, Fit p) (h4 : ∀ p ∈ e, p.kind = 1 ∨ p.kind = 2 ∨ p.kind = 3 ∨ p.kind = 4) : ∀ f k (l : List En), l.length + places e f k ≤ 256 → refw e m f k l = write e m f k l
  | 0, _, _, _ => rfl
  | f + 1, k, l, hl => by
    cases hp : e[k]? with
    | none => simp [refw, write, hp]
    | some p =>
      have hm : p ∈ e := List.mem_of_getElem? hp
      have hpl : places e (f + 1) k = (if p.kind = 1 then 1 else 0) + ((kidsOf p).map (places e f)).sum := by simp [places, hp]
      rw [hpl] at hl
      have ha : ∀ j ∈ kidsOf p, Adds (write e m f j) (places e f j) := fun j _ => write_adds e m f j
      have hc : ∀ j ∈ kidsOf p, ∀ l : List En, l.length + places e f j ≤ 256 → refw e m f j l = write e m f j l := fun j _ l hj => refw_write e m he h4 f j l hj
      simp only [refw, write, hp]
      rcases h4 p hm with h1 | h1 | h1 | h1
      · rw [if_pos h1]
        have hk : kidsOf p = [] := by rw [kidsOf_one (by omega), (he p hm).1 h1]
        rw [hk]
        simp only [several, close, if_pos h1]
      · rw [if_neg (by omega), if_neg (by omega), if_pos h1]
        rw [if_neg (by omega)] at hl
        have hk : kidsOf p = p.kids := kidsOf_one (by omega)
        rw [hk] at ha hc hl ⊢
        have := rowR_foldS p.kids ha hc [] l (by omega) (fun p hp => by simp at hp)
        rw [show addU (foldS ([] : List Pc)).u l = l from addU_none l] at this
        simp only [close, if_neg (show ¬ p.kind = 1 by omega), if_pos h1, line_lineS, lineS_all]
        exact this
      · rw [if_neg (by omega), if_pos h1]
        rw [if_neg (by omega)] at hl
        have hk : kidsOf p = p.kids := kidsOf_one (by omega)
        rw [hk] at ha hc hl ⊢
        simp only [close, if_neg (show ¬ p.kind = 1 by omega), if_neg (show ¬ p.kind = 2 by omega), if_pos h1]
        exact chR_either p.kids ha hc [] l (by omega)
      · rw [if_neg (by omega), if_neg (by omega), if_neg (by omega)]
        rw [if_neg (by omega)] at hl
        obtain ⟨hk1, h0⟩ := (he p hm).2 (by omega) (by omega) (by omega)
        have hk : kidsOf p = List.replicate (often p) (p.kids.headD 0) := by
          unfold kidsOf
          match hks : p.kids, hk1 with
          | [x], _ => simp [List.flatten_replicate_singleton]
        rw [hk] at ha hc hl ⊢
        rw [several_congr _ ha hc [] l (by omega), timesR_line p h0]
        simp only [close, if_neg (show ¬ p.kind = 1 by omega), if_neg (show ¬ p.kind = 2 by omega), if_neg (show ¬ p.kind = 3 by omega)]
        split <;> rfl
end Go.Proofs.YtnbchikiiipejaaDoor.Nf
namespace Go.Proofs.YtnbchikiiipejaaDoor.Nf

section
variable (on : Nat → Int → Prop)
/-- a word goes through places from q on, and ends where it may -/
def Pth (E : Nat → Nat → Prop) (F : Nat → Prop) : Nat → List Int → Prop
  | _, [] => False
  | q, [s] => on q s ∧ F q
  | q, s :: s2 :: t => on q s ∧ ∃ q', E q q' ∧ Pth E F q' (s2 :: t)
def Acc (E : Nat → Nat → Prop) (em : Prop) (I F : Nat → Prop) (w : List Int) : Prop := (w = [] ∧ em) ∨ ∃ q, I q ∧ Pth on E F q w
/-- one language behind another one -/
def Cat (L M : List Int → Prop) (w : List Int) : Prop := ∃ u v, w = u ++ v ∧ L u ∧ M v
/-- so many times -/
def Pow (L : List Int → Prop) : Nat → List Int → Prop
  | 0, w => w = []
  | c + 1, w => Cat L (Pow L c) w
variable {on}
theorem Pth.ne {E : Nat → Nat → Prop} {F : Nat → Prop} {q : Nat} {w : List Int} (h : Pth on E F q w) : w ≠ [] := by
  rintro rfl; exact h
/-- what stays among places that keep among themselves goes by their edges alone -/
theorem Pth.same {E E' : Nat → Nat → Prop} {F F' : Nat → Prop} {A : Nat → Prop} (hA : ∀ q q', A q → E q q' → A q') (hE : ∀ q q', A q → (E' q q' ↔ E q q')) (hF : ∀ q, A q → (F' q ↔ F q)) :
    ∀ (w : List Int) (q : Nat), A q → (Pth on E' F' q w ↔ Pth on E F q w)
  | [], _, _ => Iff.rfl
  | [s], q, h => by simp only [Pth, hF q h]
  | s :: s2 :: t, q, h => by
    simp only [Pth]
    constructor
    · rintro ⟨a, q', e, p⟩
      have e' := (hE q q' h).1 e
      exact ⟨a, q', e', (Pth.same hA hE hF (s2 :: t) q' (hA q q' h e')).1 p⟩
    · rintro ⟨a, q', e, p⟩
      exact ⟨a, q', (hE q q' h).2 e, (Pth.same hA hE hF (s2 :: t) q' (hA q q' h e)).2 p⟩
theorem Pth.at {on' : Nat → Int → Prop} {E E' : Nat → Nat → Prop} {F F' : Nat → Prop} {A : Nat → Prop} (hO : ∀ q s, A q → (on' q s ↔ on q s)) (hA : ∀ q q', A q → E q q' → A q') (hE : ∀ q q', A q → (E' q q' ↔ E q q')) (hF : ∀ q, A q → (F' q ↔ F q)) :
    ∀ (w : List Int) (q : Nat), A q → (Pth on' E' F' q w ↔ Pth on E F q w)
  | [], _, _ => Iff.rfl
  | [s], q, h => by simp only [Pth, hF q h, hO q s h]
  | s :: s2 :: t, q, h => by
    simp only [Pth, hO q s h]
    constructor
    · rintro ⟨a, q', e, p⟩
      have e' := (hE q q' h).1 e
      exact ⟨a, q', e', (Pth.at hO hA hE hF (s2 :: t) q' (hA q q' h e')).1 p⟩
    · rintro ⟨a, q', e, p⟩
      exact ⟨a, q', (hE q q' h).2 e, (Pth.at hO hA hE hF (s2 :: t) q' (hA q q' h e)).2 p⟩
theorem Pth.mono {E E' : Nat → Nat → Prop} {F F' : Nat → Prop} (hE : ∀ q q', E q q' → E' q q') (hF : ∀ q, F q → F' q) : ∀ (w : List Int) (q : Nat), Pth on E F q w → Pth on E' F' q w
  | [], _, h => h
  | [_], _, h => ⟨h.1, hF _ h.2⟩
  | _ :: s2 :: t, _, h => by
    obtain ⟨a, q', e, p⟩ := h
    exact ⟨a, q', hE _ _ e, Pth.mono hE hF (s2 :: t) q' p⟩
/-- two ways, the second of which begins behind where the first one ends -/
theorem Pth.append {E : Nat → Nat → Prop} {F G : Nat → Prop} (hj : ∀ q q', F q → G q' → E q q') {F2 : Nat → Prop} : ∀ (u v : List Int) (q q' : Nat), Pth on E F q u → G q' → Pth on E F2 q' v → Pth on E F2 q (u ++ v)
  | [], _, _, _, h, _, _ => h.elim
  | [s], v, q, q', h, hg, hv => by
    cases v with
    | nil => exact hv.elim
    | cons x t => exact ⟨h.1, q', hj q q' h.2 hg, hv⟩
  | s :: s2 :: t, v, q, q', h, hg, hv => by
    obtain ⟨a, r, e, p⟩ := h
    exact ⟨a, r, e, Pth.append hj (s2 :: t) v r q' p hg hv⟩

section join
variable {E E' : Nat → Nat → Prop} {A B Ia Fa Ib Fb F : Nat → Prop} {ea eb : Prop}
  (hA : ∀ q q', A q → E q q' → A q') (hB : ∀ q q', B q → E q q' → B q') (hd : ∀ q, A q → ¬ B q)
  (hE : ∀ q q', (A q ∨ B q) → (E' q q' ↔ (E q q' ∨ (Fa q ∧ Ib q'))))
  (hIa : ∀ q, Ia q → A q) (hFa : ∀ q, Fa q → A q) (hIb : ∀ q, Ib q → B q) (hFb : ∀ q, Fb q → B q)
  (hF : ∀ q, F q ↔ (Fb q ∨ (eb ∧ Fa q)))
include hA hB hd hE hFa hIb hFb hF
omit hA hIb hFb in
theorem pth_b (w : List Int) (q : Nat) (hq : B q) : Pth on E' F q w ↔ Pth on E Fb q w :=
  Pth.same (A := B) hB (fun q q' h => by
    rw [hE q q' (.inr h)]
    exact ⟨fun g => g.elim id (fun g => absurd h (hd q (hFa q g.1))), Or.inl⟩) (fun q h => by
    rw [hF]
    exact ⟨fun g => g.elim id (fun g => absurd h (hd q (hFa q g.2))), Or.inl⟩) w q hq
theorem pth_a : ∀ (w : List Int) (q : Nat), A q → (Pth on E' F q w ↔ ((∃ u v, w = u ++ v ∧ Pth on E Fa q u ∧ ∃ q', Ib q' ∧ Pth on E Fb q' v) ∨ (eb ∧ Pth on E Fa q w)))
  | [], q, hq => by
    constructor
    · intro h; exact h.elim
    · rintro (⟨u, v, e, hu, _⟩ | ⟨_, h⟩)
      · have : u = [] := by cases u <;> simp_all
        exact absurd this hu.ne
      · exact h.elim
  | [s], q, hq => by
    simp only [Pth]
    constructor
    · rintro ⟨a, f⟩
      rcases (hF q).1 f with g | ⟨g1, g2⟩
      · exact absurd (hFb q g) (hd q hq)
      · exact .inr ⟨g1, a, g2⟩
    · rintro (⟨u, v, e, hu, q', hi, hv⟩ | ⟨h1, a, h2⟩)
      · have hlen := congrArg List.length e
        have h1 : 0 < u.length := List.length_pos_iff.2 hu.ne
        have h2 : 0 < v.length := List.length_pos_iff.2 hv.ne
        simp at hlen; omega
      · exact ⟨a, (hF q).2 (.inr ⟨h1, h2⟩)⟩
  | s :: s2 :: t, q, hq => by
    simp only [Pth]
    constructor
    · rintro ⟨a, q', e, p⟩
      rcases (hE q q' (.inl hq)).1 e with g | ⟨g1, g2⟩
      · rcases (pth_a (s2 :: t) q' (hA q q' hq g)).1 p with ⟨u, v, eq, hu, hv⟩ | ⟨h1, h2⟩
        · refine .inl ⟨s :: u, v, by rw [eq]; rfl, ?_, hv⟩
          cases u with
          | nil => exact hu.elim
          | cons x u => exact ⟨a, q', g, hu⟩
        · exact .inr ⟨h1, a, q', g, h2⟩
      · exact .inl ⟨[s], s2 :: t, rfl, ⟨a, g1⟩, q', g2, (pth_b hB hd hE hFa hF (s2 :: t) q' (hIb q' g2)).1 p⟩
    · rintro (⟨u, v, e, hu, q', hi, hv⟩ | ⟨h1, a, q', g, h2⟩)
      · cases u with
        | nil => exact hu.elim
        | cons x u =>
          simp only [List.cons_append, List.cons.injEq] at e
          obtain ⟨rfl, e⟩ := e
          cases u with
          | nil =>
            simp only [List.nil_append] at e
            subst e
            exact ⟨hu.1, q', (hE q q' (.inl hq)).2 (.inr ⟨hu.2, hi⟩), (pth_b hB hd hE hFa hF _ q' (hIb q' hi)).2 hv⟩
          | cons y u =>
            obtain ⟨a, r, er, hr⟩ := hu
            exact ⟨a, r, (hE q r (.inl hq)).2 (.inl er), (pth_a (s2 :: t) r (hA q r hq er)).2 (.inl ⟨y :: u, v, e, hr, q', hi, hv⟩)⟩
      · exact ⟨a, q', (hE q q' (.inl hq)).2 (.inl g), (pth_a (s2 :: t) q' (hA q q' hq g)).2 (.inr ⟨h1, h2⟩)⟩
include hIa
theorem acc_join {I : Nat → Prop} (hI : ∀ q, I q ↔ (Ia q ∨ (ea ∧ Ib q))) (w : List Int) :
    Acc on E' (ea ∧ eb) I F w ↔ Cat (Acc on E ea Ia Fa) (Acc on E eb Ib Fb) w := by
  constructor
  · rintro (⟨rfl, h1, h2⟩ | ⟨q, hq, hp⟩)
    · exact ⟨[], [], rfl, .inl ⟨rfl, h1⟩, .inl ⟨rfl, h2⟩⟩
    · rcases (hI q).1 hq with g | ⟨g1, g2⟩
      · rcases (pth_a hA hB hd hE hFa hIb hFb hF w q (hIa q g)).1 hp with ⟨u, v, e, hu, q', hi, hv⟩ | ⟨h1, h2⟩
        · exact ⟨u, v, e, .inr ⟨q, g, hu⟩, .inr ⟨q', hi, hv⟩⟩
        · exact ⟨w, [], (List.append_nil w).symm, .inr ⟨q, g, h2⟩, .inl ⟨rfl, h1⟩⟩
      · exact ⟨[], w, rfl, .inl ⟨rfl, g1⟩, .inr ⟨q, g2, (pth_b hB hd hE hFa hF w q (hIb q g2)).1 hp⟩⟩
  · rintro ⟨u, v, rfl, hu, hv⟩
    rcases hu with ⟨rfl, h1⟩ | ⟨q, hq, hp⟩
    · rcases hv with ⟨rfl, h2⟩ | ⟨q', hq', hp'⟩
      · exact .inl ⟨rfl, h1, h2⟩
      · exact .inr ⟨q', (hI q').2 (.inr ⟨h1, hq'⟩), (pth_b hB hd hE hFa hF v q' (hIb q' hq')).2 hp'⟩
    · rcases hv with ⟨rfl, h2⟩ | ⟨q', hq', hp'⟩
      · refine .inr ⟨q, (hI q).2 (.inl hq), ?_⟩
        rw [List.append_nil]
        exact (pth_a hA hB hd hE hFa hIb hFb hF u q (hIa q hq)).2 (.inr ⟨h2, hp⟩)
      · exact .inr ⟨q, (hI q).2 (.inl hq), (pth_a hA hB hd hE hFa hIb hFb hF (u ++ v) q (hIa q hq)).2 (.inl ⟨u, v, rfl, hp, q', hq', hp'⟩)⟩
end join

section loop
variable {E E' : Nat → Nat → Prop} {I F : Nat → Prop} {em : Prop} (hE : ∀ q q', E' q q' ↔ (E q q' ∨ (F q ∧ I q')))
include hE
theorem pth_loop : ∀ (w : List Int) (q : Nat), Pth on E' F q w → ∃ u v c, w = u ++ v ∧ Pth on E F q u ∧ Pow (Acc on E em I F) c v
  | [], _, h => h.elim
  | [s], q, h => ⟨[s], [], 0, rfl, h, rfl⟩
  | s :: s2 :: t, q, h => by
    obtain ⟨a, q', e, p⟩ := h
    obtain ⟨u, v, c, eq, hu, hv⟩ := pth_loop (s2 :: t) q' p
    rcases (hE q q').1 e with g | ⟨g1, g2⟩
    · refine ⟨s :: u, v, c, by rw [eq]; rfl, ?_, hv⟩
      cases u with
      | nil => exact hu.elim
      | cons x u => exact ⟨a, q', g, hu⟩
    · exact ⟨[s], s2 :: t, c + 1, rfl, ⟨a, g1⟩, u, v, eq, .inr ⟨q', g2, hu⟩, hv⟩
theorem pow_loop : ∀ (c : Nat) (w : List Int), Pow (Acc on E em I F) c w → w = [] ∨ ∃ q, I q ∧ Pth on E' F q w
  | 0, w, h => .inl h
  | c + 1, w, h => by
    obtain ⟨u, v, rfl, hu, hv⟩ := h
    have ih := pow_loop c v hv
    rcases hu with ⟨rfl, _⟩ | ⟨q, hq, hp⟩
    · exact ih
    · right
      refine ⟨q, hq, ?_⟩
      have hp' : Pth on E' F q u := Pth.mono (fun q q' h => (hE q q').2 (.inl h)) (fun _ h => h) u q hp
      rcases ih with rfl | ⟨q', hq', hp2⟩
      · rw [List.append_nil]; exact hp'
      · exact Pth.append (G := I) (fun a b ha hb => (hE a b).2 (.inr ⟨ha, hb⟩)) u v q q' hp' hq' hp2
/-- again and again, once at least -/
theorem acc_loop (w : List Int) : Acc on E' em I F w ↔ ∃ c, Pow (Acc on E em I F) (c + 1) w := by
  constructor
  · rintro (⟨rfl, h⟩ | ⟨q, hq, hp⟩)
    · exact ⟨0, [], [], rfl, .inl ⟨rfl, h⟩, rfl⟩
    · obtain ⟨u, v, c, e, hu, hv⟩ := pth_loop hE (em := em) w q hp
      exact ⟨c, u, v, e, .inr ⟨q, hq, hu⟩, hv⟩
  · rintro ⟨c, h⟩
    rcases pow_loop hE (c + 1) w h with rfl | h
    · left
      refine ⟨rfl, ?_⟩
      obtain ⟨u, v, e, hu, _⟩ := h
      have : u = [] := by cases u <;> simp_all
      subst this
      rcases hu with ⟨_, h⟩ | ⟨q, _, hp⟩
      · exact h
      · exact hp.elim
    · exact .inr h
end loop
end
theorem Cat.congr {L L' M M' : List Int → Prop} (h : ∀ w, L w ↔ L' w) (g : ∀ w, M w ↔ M' w) (w : List Int) : Cat L M w ↔ Cat L' M' w := by
  constructor
  · rintro ⟨u, v, e, a, b⟩; exact ⟨u, v, e, (h u).1 a, (g v).1 b⟩
  · rintro ⟨u, v, e, a, b⟩; exact ⟨u, v, e, (h u).2 a, (g v).2 b⟩
theorem Pow.congr {L L' : List Int → Prop} (h : ∀ w, L w ↔ L' w) : ∀ c w, Pow L c w ↔ Pow L' c w
  | 0, _ => Iff.rfl
  | c + 1, w => Cat.congr h (Pow.congr h c) w
theorem Cat.assoc {L M N : List Int → Prop} (w : List Int) : Cat (Cat L M) N w ↔ Cat L (Cat M N) w := by
  constructor
  · rintro ⟨_, v, rfl, ⟨a, b, rfl, ha, hb⟩, hv⟩; exact ⟨a, b ++ v, by simp, ha, b, v, rfl, hb, hv⟩
  · rintro ⟨a, _, rfl, ha, b, v, rfl, hb, hv⟩; exact ⟨a ++ b, v, by simp, ⟨a, b, rfl, ha, hb⟩, hv⟩
theorem Pow.add {L : List Int → Prop} : ∀ (a b : Nat) (w : List Int), Pow L (a + b) w ↔ Cat (Pow L a) (Pow L b) w
  | 0, b, w => by
    rw [Nat.zero_add]
    constructor
    · intro h; exact ⟨[], w, rfl, rfl, h⟩
    · rintro ⟨_, v, rfl, rfl, h⟩; exact h
  | a + 1, b, w => by
    rw [show a + 1 + b = (a + b) + 1 by omega]
    show Cat L (Pow L (a + b)) w ↔ Cat (Cat L (Pow L a)) (Pow L b) w
    rw [Cat.assoc]
    exact Cat.congr (fun _ => Iff.rfl) (Pow.add a b) w
end Go.Proofs.YtnbchikiiipejaaDoor.Nf
namespace Go.Proofs.YtnbchikiiipejaaDoor.Nf
open Bg (Bag)
open Ex (Pt)

def onL (l : List En) (q : Nat) (s : Int) : Prop := ∃ x, l[q]? = some x ∧ x.on.hasI s = true
def Ed (l : List En) (q q' : Nat) : Prop := ∃ x, l[q]? = some x ∧ x.behind.has q' = true
def accP (l : List En) (p : Pc) (w : List Int) : Prop := Acc (onL l) (Ed l) (p.em = true) (fun q => p.first.has q = true) (fun q => p.ends.has q = true) w
/-- a piece among the places from a to b, which keep among themselves, and the words that go through it -/
structure Loc (L : List En) (a b : Nat) (p : Pc) (Lg : List Int → Prop) : Prop where
  rng : p.rng a b
  shut : ∀ q q', a ≤ q ∧ q < b → Ed L q q' → a ≤ q' ∧ q' < b
  acc : ∀ w, accP L p w ↔ Lg w
theorem Loc.lang {L : List En} {a b : Nat} {p : Pc} {Lg Lg' : List Int → Prop} (h : Loc L a b p Lg) (g : ∀ w, Lg w ↔ Lg' w) : Loc L a b p Lg' := ⟨h.rng, h.shut, fun w => (h.acc w).trans (g w)⟩
theorem Loc.congr {L L' : List En} {a b : Nat} {p : Pc} {Lg : List Int → Prop} (h : Loc L a b p Lg) (hl : ∀ q, a ≤ q ∧ q < b → L'[q]? = L[q]?) : Loc L' a b p Lg := by
  have hE : ∀ q q', (a ≤ q ∧ q < b) → (Ed L' q q' ↔ Ed L q q') := fun q q' hq => by unfold Ed; rw [hl q hq]
  refine ⟨h.rng, fun q q' hq e => h.shut q q' hq ((hE q q' hq).1 e), fun w => Iff.trans ?_ (h.acc w)⟩
  have key := Pth.at (on := onL L) (on' := onL L') (E := Ed L) (E' := Ed L') (F := fun q => p.ends.has q = true) (F' := fun q => p.ends.has q = true) (A := fun q => a ≤ q ∧ q < b) (fun q s hq => by unfold onL; rw [hl q hq]) h.shut hE (fun _ _ => Iff.rfl)
  unfold accP Acc
  constructor
  · rintro (g | ⟨q, hq, hp⟩)
    · exact .inl g
    · exact .inr ⟨q, hq, (key w q (h.rng.1 q hq)).1 hp⟩
  · rintro (g | ⟨q, hq, hp⟩)
    · exact .inl g
    · exact .inr ⟨q, hq, (key w q (h.rng.1 q hq)).2 hp⟩
theorem Loc.append {L : List En} {a b : Nat} {p : Pc} {Lg : List Int → Prop} (h : Loc L a b p Lg) (x : List En) (hb : b ≤ L.length) : Loc (L ++ x) a b p Lg :=
  h.congr fun q hq => List.getElem?_append_left (by omega)
theorem Loc.addU {L : List En} {a b : Nat} {p : Pc} {Lg : List Int → Prop} (h : Loc L a b p Lg) (u : Nat → Bag) (hu : ∀ j, a ≤ j ∧ j < b → u j = Bg.nil) : Loc (addU u L) a b p Lg :=
  h.congr fun q hq => by
    rw [addU_get, hu q hq]
    cases L[q]? <;> simp [orB_nil]
theorem onL_addU (u : Nat → Bag) (L : List En) : onL (addU u L) = onL L := by
  funext q s
  unfold onL
  rw [addU_get]
  cases L[q]? <;> simp
theorem Ed_send {L : List En} {frm to : Bag} {q q' : Nat} (hq : q < L.length) : Ed (addU (sendU frm to) L) q q' ↔ (Ed L q q' ∨ (frm.has q = true ∧ to.has q' = true)) := by
  unfold Ed
  rw [addU_get, List.getElem?_eq_getElem hq]
  simp only [Option.map_some, Option.some.injEq, exists_eq_left', has_or, Bool.or_eq_true]
  unfold sendU
  by_cases h : frm.has q = true
  · rw [if_pos h]; simp [h]
  · rw [if_neg h]; simp [h, Bg.has_nil]
theorem Loc.join {L : List En} {a b c : Nat} {p q : Pc} {Lp Lq : List Int → Prop} (hp : Loc L a b p Lp) (hq : Loc L b c q Lq) (hab : a ≤ b) (hbc : b ≤ c) (hc : c ≤ L.length) :
    Loc (Nf.addU (sendU p.ends q.first) L) a c (Nf.join p q) (Cat Lp Lq) := by
  have hE : ∀ r r', ((a ≤ r ∧ r < b) ∨ (b ≤ r ∧ r < c)) → (Ed (Nf.addU (sendU p.ends q.first) L) r r' ↔ (Ed L r r' ∨ (p.ends.has r = true ∧ q.first.has r' = true))) := fun r r' h => Ed_send (by omega)
  refine ⟨join_rng (hp.rng.mono (Nat.le_refl _) hbc) (hq.rng.mono hab (Nat.le_refl _)), fun r r' hr e => ?_, fun w => ?_⟩
  · by_cases hrb : r < b
    · rcases (hE r r' (by omega)).1 e with g | ⟨_, g⟩
      · have := hp.shut r r' (by omega) g; omega
      · have := hq.rng.1 r' g; omega
    · rcases (hE r r' (by omega)).1 e with g | ⟨g, _⟩
      · have := hq.shut r r' (by omega) g; omega
      · have := hp.rng.2 r g; omega
  · have := acc_join (on := onL L) (E := Ed L) (E' := Ed (Nf.addU (sendU p.ends q.first) L)) (A := fun r => a ≤ r ∧ r < b) (B := fun r => b ≤ r ∧ r < c) (Ia := fun r => p.first.has r = true) (Fa := fun r => p.ends.has r = true) (Ib := fun r => q.first.has r = true) (Fb := fun r => q.ends.has r = true) (F := fun r => (Nf.join p q).ends.has r = true) (ea := p.em = true) (eb := q.em = true) (I := fun r => (Nf.join p q).first.has r = true)
      (fun r r' h e => hp.shut r r' h e) (fun r r' h e => hq.shut r r' h e) (fun r h g => by omega) hE (fun r h => hp.rng.1 r h) (fun r h => hp.rng.2 r h) (fun r h => hq.rng.1 r h) (fun r h => hq.rng.2 r h)
      (fun r => by
        simp only [Nf.join]
        cases q.em <;> simp [has_or]) (fun r => by
        simp only [Nf.join]
        cases p.em <;> simp [has_or]) w
    unfold accP
    rw [onL_addU, show ((Nf.join p q).em = true) = (p.em = true ∧ q.em = true) by simp [Nf.join]]
    exact this.trans (Cat.congr hp.acc hq.acc w)
theorem Loc.loop {L : List En} {a b : Nat} {p : Pc} {Lp : List Int → Prop} (hp : Loc L a b p Lp) (hb : b ≤ L.length) :
    Loc (Nf.addU (sendU p.ends p.first) L) a b p (fun w => ∃ c, Pow Lp (c + 1) w) := by
  refine ⟨hp.rng, fun r r' hr e => ?_, fun w => ?_⟩
  · rcases (Ed_send (by omega)).1 e with g | ⟨_, g⟩
    · exact hp.shut r r' hr g
    · exact hp.rng.1 r' g
  · unfold accP
    rw [onL_addU]
    have h0 := acc_loop (on := onL L) (E := Ed L) (E' := fun r r' => Ed L r r' ∨ (p.ends.has r = true ∧ p.first.has r' = true)) (I := fun r => p.first.has r = true) (F := fun r => p.ends.has r = true) (em := p.em = true) (fun _ _ => Iff.rfl) w
    have key := Pth.same (on := onL L) (E := fun r r' => Ed L r r' ∨ (p.ends.has r = true ∧ p.first.has r' = true)) (E' := Ed (Nf.addU (sendU p.ends p.first) L)) (F := fun r => p.ends.has r = true) (F' := fun r => p.ends.has r = true) (A := fun r => a ≤ r ∧ r < b)
      (fun r r' hr e => e.elim (hp.shut r r' hr) (fun g => hp.rng.1 r' g.2)) (fun r r' hr => Ed_send (by omega)) (fun _ _ => Iff.rfl)
    have h1 : Acc (onL L) (Ed (Nf.addU (sendU p.ends p.first) L)) (p.em = true) (fun r => p.first.has r = true) (fun r => p.ends.has r = true) w ↔ Acc (onL L) (fun r r' => Ed L r r' ∨ (p.ends.has r = true ∧ p.first.has r' = true)) (p.em = true) (fun r => p.first.has r = true) (fun r => p.ends.has r = true) w := by
      unfold Acc
      constructor
      · rintro (g | ⟨q, hq, h⟩)
        · exact .inl g
        · exact .inr ⟨q, hq, (key w q (hp.rng.1 q hq)).1 h⟩
      · rintro (g | ⟨q, hq, h⟩)
        · exact .inl g
        · exact .inr ⟨q, hq, (key w q (hp.rng.1 q hq)).2 h⟩
    refine h1.trans (h0.trans ?_)
    constructor
    · rintro ⟨c, h⟩; exact ⟨c, (Pow.congr hp.acc _ w).1 h⟩
    · rintro ⟨c, h⟩; exact ⟨c, (Pow.congr hp.acc _ w).2 h⟩
theorem Loc.opt {L : List En} {a b : Nat} {p : Pc} {Lp : List Int → Prop} (hp : Loc L a b p Lp) (o : Bool) : Loc L a b ⟨p.em || o, p.first, p.ends⟩ (fun w => Lp w ∨ (o = true ∧ w = [])) := by
  refine ⟨hp.rng, hp.shut, fun w => ?_⟩
  rw [← hp.acc w]
  unfold accP Acc
  simp only [Bool.or_eq_true]
  constructor
  · rintro (⟨h, g | g⟩ | h)
    · exact .inl (.inl ⟨h, g⟩)
    · exact .inr ⟨g, h⟩
    · exact .inl (.inr h)
  · rintro ((⟨h, g⟩ | h) | ⟨g, h⟩)
    · exact .inl ⟨h, .inl g⟩
    · exact .inr h
    · exact .inl ⟨h, .inr g⟩
theorem Loc.or1 {L : List En} {a b c : Nat} {p q : Pc} {Lp Lq : List Int → Prop} (hp : Loc L a b p Lp) (hq : Loc L b c q Lq) (hab : a ≤ b) (hbc : b ≤ c) : Loc L a c (Nf.or1 p q) (fun w => Lp w ∨ Lq w) := by
  refine ⟨or1_rng (hp.rng.mono (Nat.le_refl _) hbc) (hq.rng.mono hab (Nat.le_refl _)), fun r r' hr e => ?_, fun w => ?_⟩
  · by_cases hrb : r < b
    · have := hp.shut r r' (by omega) e; omega
    · have := hq.shut r r' (by omega) e; omega
  · rw [← hp.acc w, ← hq.acc w]
    have k1 := Pth.same (on := onL L) (E := Ed L) (E' := Ed L) (F := fun r => p.ends.has r = true) (F' := fun r => (Nf.or1 p q).ends.has r = true) (A := fun r => a ≤ r ∧ r < b) hp.shut (fun _ _ _ => Iff.rfl)
      (fun r hr => by simp only [Nf.or1, has_or, Bool.or_eq_true]; exact ⟨fun g => g.elim id (fun g => by have := hq.rng.2 r g; omega), .inl⟩)
    have k2 := Pth.same (on := onL L) (E := Ed L) (E' := Ed L) (F := fun r => q.ends.has r = true) (F' := fun r => (Nf.or1 p q).ends.has r = true) (A := fun r => b ≤ r ∧ r < c) hq.shut (fun _ _ _ => Iff.rfl)
      (fun r hr => by simp only [Nf.or1, has_or, Bool.or_eq_true]; exact ⟨fun g => g.elim (fun g => by have := hp.rng.2 r g; omega) id, .inr⟩)
    unfold accP Acc
    constructor
    · rintro (⟨h, g⟩ | ⟨r, hr, h⟩)
      · simp only [Nf.or1, Bool.or_eq_true] at g
        exact g.elim (fun g => .inl (.inl ⟨h, g⟩)) (fun g => .inr (.inl ⟨h, g⟩))
      · simp only [Nf.or1, has_or, Bool.or_eq_true] at hr
        rcases hr with g | g
        · exact .inl (.inr ⟨r, g, (k1 w r (hp.rng.1 r g)).1 h⟩)
        · exact .inr (.inr ⟨r, g, (k2 w r (hq.rng.1 r g)).1 h⟩)
    · rintro ((⟨h, g⟩ | ⟨r, hr, h⟩) | (⟨h, g⟩ | ⟨r, hr, h⟩))
      · exact .inl ⟨h, by simp [Nf.or1, g]⟩
      · exact .inr ⟨r, by simp [Nf.or1, has_or, hr], (k1 w r (hp.rng.1 r hr)).2 h⟩
      · exact .inl ⟨h, by simp [Nf.or1, g]⟩
      · exact .inr ⟨r, by simp [Nf.or1, has_or, hr], (k2 w r (hq.rng.1 r hr)).2 h⟩
theorem Loc.emp (L : List En) (a b : Nat) (h : a = b) : Loc L a b Nf.emp (fun w => w = []) :=
  ⟨emp_rng _ _, fun q q' hq _ => by omega, fun w => by
    unfold accP Acc
    constructor
    · rintro (⟨h, _⟩ | ⟨q, hq, _⟩)
      · exact h
      · simp [Nf.emp, Bg.has_nil] at hq
    · intro h; exact .inl ⟨h, rfl⟩⟩
theorem Loc.none (L : List En) (a b : Nat) (h : a = b) : Loc L a b ⟨false, Bg.nil, Bg.nil⟩ (fun _ => False) :=
  ⟨no_rng _ _, fun q q' hq _ => by omega, fun w => by
    unfold accP Acc
    constructor
    · rintro (⟨_, h⟩ | ⟨q, hq, _⟩)
      · simp at h
      · simp [Bg.has_nil] at hq
    · intro h; exact h.elim⟩
/-- pieces beside each other -/
inductive Locs (L : List En) : Nat → Nat → List Pc → List (List Int → Prop) → Prop where
  | nil (a : Nat) : Locs L a a [] []
  | cons {a k b : Nat} {p : Pc} {Lp : List Int → Prop} {ps : List Pc} {Ls : List (List Int → Prop)} : Loc L a k p Lp → a ≤ k → Locs L k b ps Ls → Locs L a b (p :: ps) (Lp :: Ls)
theorem Locs.le {L : List En} {a b : Nat} {ps : List Pc} {Ls : List (List Int → Prop)} (h : Locs L a b ps Ls) : a ≤ b := by
  induction h with
  | nil _ => exact Nat.le_refl _
  | cons _ h _ ih => omega
theorem Locs.rng {L : List En} {a b : Nat} {ps : List Pc} {Ls : List (List Int → Prop)} (h : Locs L a b ps Ls) : ∀ p ∈ ps, p.rng a b := by
  induction h with
  | nil _ => intro p hp; simp at hp
  | cons h1 h2 h3 ih =>
    intro p hp
    rcases List.mem_cons.1 hp with rfl | hp
    · exact h1.rng.mono (Nat.le_refl _) h3.le
    · exact (ih p hp).mono h2 (Nat.le_refl _)
theorem Locs.congr {L L' : List En} {a b : Nat} {ps : List Pc} {Ls : List (List Int → Prop)} (h : Locs L a b ps Ls) : (∀ q, a ≤ q ∧ q < b → L'[q]? = L[q]?) → Locs L' a b ps Ls := by
  induction h with
  | nil a => intro _; exact .nil a
  | cons h1 h2 h3 ih =>
    intro hl
    have := h3.le
    exact .cons (h1.congr fun q hq => hl q (by omega)) h2 (ih fun q hq => hl q (by omega))
theorem Locs.snoc {L : List En} {a k b : Nat} {ps : List Pc} {Ls : List (List Int → Prop)} {p : Pc} {Lp : List Int → Prop} (h : Locs L a k ps Ls) (hp : Loc L k b p Lp) (hk : k ≤ b) : Locs L a b (ps ++ [p]) (Ls ++ [Lp]) := by
  induction h with
  | nil a => exact .cons hp hk (.nil b)
  | cons h1 h2 h3 ih => exact .cons h1 h2 (ih hp hk)
theorem Locs.split {L : List En} {p : Pc} {Lp : List Int → Prop} : ∀ {ps : List Pc} {Ls : List (List Int → Prop)} {a b : Nat}, ps.length = Ls.length → Locs L a b (ps ++ [p]) (Ls ++ [Lp]) → ∃ k, Locs L a k ps Ls ∧ Loc L k b p Lp ∧ k ≤ b
  | [], [], a, b, _, h => by
    cases h with
    | cons h1 h2 h3 => cases h3; exact ⟨a, .nil a, h1, h2⟩
  | q :: ps, M :: Ls, a, b, hl, h => by
    cases h with
    | cons h1 h2 h3 =>
      obtain ⟨k, g1, g2, g3⟩ := Locs.split (by simpa using hl) h3
      exact ⟨k, .cons h1 h2 g1, g2, g3⟩
def LineL (must : Int) : Nat → List (List Int → Prop) → List Int → Prop
  | _, [], w => w = []
  | i, M :: Ls, w => Cat M (LineL must (i + 1) Ls) w ∨ (decide (must ≤ (i : Int)) = true ∧ w = [])
theorem line_loc (must : Int) {L : List En} {a b : Nat} {ps : List Pc} {Ls : List (List Int → Prop)} (h : Locs L a b ps Ls) : ∀ i, b ≤ L.length → Loc (addU (lineS must i ps).u L) a b (lineS must i ps).p (LineL must i Ls) := by
  induction h with
  | nil a => intro i _; rw [show addU (lineS must i []).u L = L from addU_none L]; exact Loc.emp L a a rfl
  | @cons a k b p Lp ps Ls h1 h2 h3 ih =>
    intro i hb
    have hr := lineS_rng must (i + 1) ps h3.rng
    have g := ih (i + 1) hb
    have hj := Loc.join (h1.addU (lineS must (i + 1) ps).u (fun j hj => hr.2 j (by omega))) g h2 h3.le (by rw [addU_length]; exact hb)
    rw [addU_addU] at hj
    have ho := hj.opt (decide (must ≤ (i : Int)))
    have e : (lineS must i (p :: ps)).u = fun j => ((lineS must (i + 1) ps).u j).orB (sendU p.ends (lineS must (i + 1) ps).p.first j) := by
      funext j
      simp [lineS, optE, Sq.mul, Sq.of, nil_orB]
    rw [e]
    exact ho
theorem either_loc {L : List En} {a b : Nat} {ps : List Pc} {Ls : List (List Int → Prop)} (h : Locs L a b ps Ls) : Loc L a b (either ps) (fun w => ∃ M ∈ Ls, M w) := by
  have key : ∀ {k b : Nat} {ps : List Pc} {Ls : List (List Int → Prop)}, Locs L k b ps Ls → ∀ (a : Nat) (z : Pc) (Lz : List Int → Prop), a ≤ k → Loc L a k z Lz → Loc L a b (ps.foldl Nf.or1 z) (fun w => Lz w ∨ ∃ M ∈ Ls, M w) := by
    intro k b ps Ls h
    induction h with
    | nil k => intro a z Lz _ hz; exact hz.lang (fun w => by simp)
    | @cons c k b p Lp ps Ls h1 h2 h3 ih =>
      intro a z Lz ha hz
      exact (ih a (Nf.or1 z p) _ (by omega) (hz.or1 h1 ha h2)).lang (fun w => by simp [or_assoc])
  exact (key h a _ _ (Nat.le_refl _) (Loc.none L a a rfl)).lang (fun w => by simp)

def CatL : List (List Int → Prop) → List Int → Prop
  | [], w => w = []
  | M :: Ls, w => Cat M (CatL Ls) w
/-- the words that fit a part -/
def Lang (e : List Pt) (m : List UInt8 → Bag) : Nat → Nat → List Int → Prop
  | 0, _, w => w = []
  | f + 1, k, w => match e[k]? with
    | none => w = []
    | some p =>
      if p.kind = 1 then ∃ s, w = [s] ∧ (m p.name).hasI s = true
      else if p.kind = 2 then CatL (p.kids.map (Lang e m f)) w
      else if p.kind = 3 then ∃ k ∈ p.kids, Lang e m f k w
      else ∃ c : Nat, p.low ≤ (c : Int) ∧ (p.high < 0 ∨ (c : Int) ≤ p.high) ∧ Pow (Lang e m f (p.kids.headD 0)) c w
theorem LineL_all : ∀ (Ls : List (List Int → Prop)) (must : Int) (i : Nat), (i : Int) + Ls.length ≤ must → ∀ w, LineL must i Ls w ↔ CatL Ls w
  | [], _, _, _, _ => Iff.rfl
  | M :: Ls, must, i, h, w => by
    simp only [List.length_cons] at h
    have hd : decide (must ≤ (i : Int)) = false := by simp; omega
    simp only [LineL, CatL, hd, Bool.false_eq_true, false_and, or_false]
    exact Cat.congr (fun _ => Iff.rfl) (LineL_all Ls must (i + 1) (by push_cast; omega)) w
theorem LineL_rep (M : List Int → Prop) (must : Int) : ∀ (n i : Nat), must ≤ (i : Int) + n → ∀ w, LineL must i (List.replicate n M) w ↔ ∃ c : Nat, c ≤ n ∧ must ≤ (i : Int) + c ∧ Pow M c w
  | 0, i, h, w => by
    simp only [List.replicate_zero, LineL]
    constructor
    · rintro rfl; exact ⟨0, Nat.le_refl _, h, rfl⟩
    · rintro ⟨c, hc, _, hp⟩
      obtain rfl : c = 0 := by omega
      exact hp
  | n + 1, i, h, w => by
    simp only [List.replicate_succ, LineL, decide_eq_true_eq]
    have ih := LineL_rep M must n (i + 1) (by push_cast at h ⊢; omega)
    constructor
    · rintro (⟨u, v, e, hu, hv⟩ | ⟨h1, rfl⟩)
      · obtain ⟨c, hc, hm, hp⟩ := (ih v).1 hv
        exact ⟨c + 1, by omega, by push_cast at hm ⊢; omega, u, v, e, hu, hp⟩
      · exact ⟨0, by omega, by simpa using h1, rfl⟩
    · rintro ⟨c, hc, hm, hp⟩
      cases c with
      | zero => exact .inr ⟨by simpa using hm, hp⟩
      | succ c =>
        obtain ⟨u, v, e, hu, hv⟩ := hp
        exact .inl ⟨u, v, e, hu, (ih v).2 ⟨c, by omega, by push_cast at hm ⊢; omega, hv⟩⟩
theorem LineL_loop (M : List Int → Prop) (must : Int) : ∀ (n i : Nat), must ≤ (i : Int) + n + 1 → ∀ w, LineL must i (List.replicate n M ++ [fun w => ∃ c, Pow M (c + 1) w]) w ↔ ∃ c : Nat, must ≤ (i : Int) + c ∧ Pow M c w
  | 0, i, h, w => by
    simp only [List.replicate_zero, List.nil_append, LineL, decide_eq_true_eq]
    constructor
    · rintro (⟨u, v, rfl, ⟨c, hc⟩, rfl⟩ | ⟨h1, rfl⟩)
      · exact ⟨c + 1, by push_cast at h ⊢; omega, by rw [List.append_nil]; exact hc⟩
      · exact ⟨0, by simpa using h1, rfl⟩
    · rintro ⟨c, hm, hp⟩
      cases c with
      | zero => exact .inr ⟨by simpa using hm, hp⟩
      | succ c => exact .inl ⟨w, [], (List.append_nil w).symm, ⟨c, hp⟩, rfl⟩
  | n + 1, i, h, w => by
    simp only [List.replicate_succ, List.cons_append, LineL, decide_eq_true_eq]
    have ih := LineL_loop M must n (i + 1) (by push_cast at h ⊢; omega)
    constructor
    · rintro (⟨u, v, e, hu, hv⟩ | ⟨h1, rfl⟩)
      · obtain ⟨c, hm, hp⟩ := (ih v).1 hv
        exact ⟨c + 1, by push_cast at hm ⊢; omega, u, v, e, hu, hp⟩
      · exact ⟨0, by simpa using h1, rfl⟩
    · rintro ⟨c, hm, hp⟩
      cases c with
      | zero => exact .inr ⟨by simpa using hm, hp⟩
      | succ c =>
        obtain ⟨u, v, e, hu, hv⟩ := hp
        exact .inl ⟨u, v, e, hu, (ih v).2 ⟨c, by push_cast at hm ⊢; omega, hv⟩⟩
theorem several_locs {wr : Nat → List En → Pc × List En} {c : Nat → Nat} {Lg : Nat → List Int → Prop} : ∀ (ks : List Nat), (∀ k ∈ ks, Adds (wr k) (c k)) →
    (∀ k ∈ ks, ∀ l : List En, l.length + c k ≤ 256 → Loc (wr k l).2 l.length (l.length + c k) (wr k l).1 (Lg k)) →
    ∀ (l : List En), l.length + (ks.map c).sum ≤ 256 → Locs (several wr ks [] l).2 l.length (l.length + (ks.map c).sum) (several wr ks [] l).1 (ks.map Lg)
  | [], _, _, l, _ => by simpa [several] using Locs.nil l.length
  | k :: ks, ha, h, l, hl => by
    simp only [List.map_cons, List.sum_cons] at hl ⊢
    obtain ⟨pc, x1, hx1, _, hw1⟩ := ha k List.mem_cons_self l.length (by omega)
    have h1 := h k List.mem_cons_self l (by omega)
    have ha' : ∀ j ∈ ks, Adds (wr j) (c j) := fun j hj => ha j (List.mem_cons_of_mem _ hj)
    have ih := several_locs ks ha' (fun j hj => h j (List.mem_cons_of_mem _ hj)) (l ++ x1) (by simp [hx1]; omega)
    obtain ⟨ps, x2, hx2, _, _, hw2⟩ := several_adds ks ha' (l.length + c k) (by omega)
    rw [hw1 l rfl] at h1
    have e2 := hw2 [] (l ++ x1) (by simp [hx1])
    have e3 := hw2 [pc] (l ++ x1) (by simp [hx1])
    have e : several wr (k :: ks) [] l = ([pc] ++ ps, l ++ x1 ++ x2) := by
      simp only [several, hw1 l rfl, List.nil_append, e3]
    rw [e2] at ih
    rw [e]
    simp only [List.nil_append, List.length_append, hx1] at ih
    refine .cons (k := l.length + c k) (h1.append x2 (by simp [hx1])) (by omega) ?_
    rw [show l.length + (c k + (ks.map c).sum) = l.length + c k + (ks.map c).sum by omega]
    exact ih
/-- parts whose counts are such -/
def Cnt (p : Pt) : Prop := Fit p ∧ (p.kind ≠ 1 → p.kind ≠ 2 → p.kind ≠ 3 → p.kind = 4 ∧ (0 ≤ p.high → p.low ≤ p.high))
theorem write_loc (e : List Pt) (m : List UInt8 → Bag) (he : ∀ p ∈ e, Cnt p) : ∀ f k (l : List En), l.length + places e f k ≤ 256 → Loc (write e m f k l).2 l.length (l.length + places e f k) (write e m f k l).1 (Lang e m f k)
  | 0, k, l, _ => by simp only [write, places, Lang]; exact Loc.emp _ _ _ rfl
  | f + 1, k, l, hl => by
    cases hp : e[k]? with
    | none => simp only [write, places, hp]; exact (Loc.emp _ _ _ rfl).lang (fun w => by simp [Lang, hp])
    | some p =>
      have hm : p ∈ e := List.mem_of_getElem? hp
      have hpl : places e (f + 1) k = (if p.kind = 1 then 1 else 0) + ((kidsOf p).map (places e f)).sum := by simp [places, hp]
      rw [hpl] at hl ⊢
      have hs := several_locs (wr := write e m f) (c := places e f) (Lg := Lang e m f) (kidsOf p) (fun j _ => write_adds e m f j) (fun j _ l hj => write_loc e m he f j l hj) l (by omega)
      obtain ⟨ps, ext, hx, hlen, hr, hw⟩ := several_adds (wr := write e m f) (c := places e f) (kidsOf p) (fun j _ => write_adds e m f j) l.length (by omega)
      have ew := hw [] l rfl
      rw [ew] at hs
      have e1 : write e m (f + 1) k l = close p m ps (l ++ ext) := by simp only [write, hp, ew]; rfl
      rw [e1]
      simp only [List.nil_append] at hs
      generalize hS : ((kidsOf p).map (places e f)).sum = S at *
      have hLL : (l ++ ext).length = l.length + S := by simp [hx]
      by_cases h1 : p.kind = 1
      · rw [if_pos h1] at hl ⊢
        have hk : kidsOf p = [] := by rw [kidsOf_one (by omega), (he p hm).1.1 h1]
        have hS0 : S = 0 := by rw [← hS, hk]; rfl
        have hext : ext = [] := List.eq_nil_of_length_eq_zero (by omega)
        subst hext
        simp only [close, if_pos h1, lay, List.append_nil]
        subst hS0
        have hlt : l.length < 256 := by omega
        have hh : ∀ j, (Bg.nil.withN l.length).has j = true ↔ j = l.length := by
          intro j
          rw [Bg.has_withN _ _ _ hlt, Bg.has_nil, Bool.false_or]
          exact decide_eq_true_iff
        refine ⟨⟨fun j hj => ?_, fun j hj => ?_⟩, fun q q' hq hE => ?_, fun w => ?_⟩
        · have := (hh j).1 hj; omega
        · have := (hh j).1 hj; omega
        · obtain ⟨x, hx1, hx2⟩ := hE
          obtain rfl : q = l.length := by omega
          rw [List.getElem?_append_right (Nat.le_refl _)] at hx1
          simp at hx1
          subst hx1
          simp [Bg.has_nil] at hx2
        · have hL : Lang e m (f + 1) k w ↔ ∃ s, w = [s] ∧ (m p.name).hasI s = true := by simp [Lang, hp, h1]
          rw [hL]
          have hon : ∀ s, onL (l ++ [⟨m p.name, Bg.nil⟩]) l.length s ↔ (m p.name).hasI s = true := by
            intro s
            unfold onL
            rw [List.getElem?_append_right (Nat.le_refl _)]
            simp
          unfold accP Acc
          simp only [hh]
          constructor
          · rintro (⟨_, h⟩ | ⟨q, rfl, hpp⟩)
            · simp at h
            · match w, hpp with
              | [s], hpp => exact ⟨s, rfl, (hon s).1 hpp.1⟩
              | s :: s2 :: t, hpp =>
                obtain ⟨_, q', ⟨x, hx1, hx2⟩, _⟩ := hpp
                rw [List.getElem?_append_right (Nat.le_refl _)] at hx1
                simp at hx1
                subst hx1
                simp [Bg.has_nil] at hx2
          · rintro ⟨s, rfl, h⟩
            exact .inr ⟨_, rfl, (hon s).2 h, rfl⟩
      · rw [if_neg h1] at hl ⊢
        rw [Nat.zero_add] at hl ⊢
        by_cases h2 : p.kind = 2
        · have hk : kidsOf p = p.kids := kidsOf_one (by omega)
          have := line_loc (ps.length : Int) hs 0 (by omega)
          simp only [close, if_neg h1, if_pos h2, line_lineS]
          refine this.lang (fun w => ?_)
          rw [LineL_all _ _ _ (by simp [hlen])]
          simp [Lang, hp, h2, hk]
        · by_cases h3 : p.kind = 3
          · have hk : kidsOf p = p.kids := kidsOf_one (by omega)
            have := either_loc hs
            simp only [close, if_neg h1, if_neg h2, if_pos h3]
            refine this.lang (fun w => ?_)
            simp only [Lang, hp, h3, hk, List.mem_map]
            rw [if_neg (by decide), if_neg (by decide), if_pos trivial]
            exact ⟨fun ⟨M, ⟨a, ha, e⟩, h⟩ => ⟨a, ha, e ▸ h⟩, fun ⟨k, hk, h⟩ => ⟨_, ⟨k, hk, rfl⟩, h⟩⟩
          · obtain ⟨h4, hhi⟩ := (he p hm).2 h1 h2 h3
            obtain ⟨hk1, h0⟩ := (he p hm).1.2 h1 h2 h3
            have hk : kidsOf p = List.replicate (often p) (p.kids.headD 0) := by
              unfold kidsOf
              match hks : p.kids, hk1 with
              | [x], _ => simp [List.flatten_replicate_singleton]
            have hL : ∀ w, Lang e m (f + 1) k w ↔ ∃ c : Nat, p.low ≤ (c : Int) ∧ (p.high < 0 ∨ (c : Int) ≤ p.high) ∧ Pow (Lang e m f (p.kids.headD 0)) c w := by
              intro w
              simp only [Lang, hp]
              rw [if_neg h1, if_neg h2, if_neg h3]
            rw [hk, List.map_replicate] at hs
            simp only [close, if_neg h1, if_neg h2, if_neg h3]
            by_cases hi : p.high < 0
            · simp only [if_pos hi, line_lineS, lead_addU]
              have ho : often p = max p.low.toNat 1 := by unfold often; rw [if_pos h4, if_pos hi]
              obtain ⟨n, hn⟩ : ∃ n, often p = n + 1 := ⟨often p - 1, by omega⟩
              rw [hn, List.replicate_succ'] at hs
              have hpl : ps.length = n + 1 := by rw [hlen, hk, List.length_replicate, hn]
              obtain ⟨qs, q, rfl⟩ : ∃ qs q, ps = qs ++ [q] := ⟨ps.dropLast, ps.getLast (by intro h; rw [h] at hpl; simp at hpl), (List.dropLast_concat_getLast _).symm⟩
              obtain ⟨k1, g1, g2, g3⟩ := Locs.split (by simp at hpl ⊢; exact hpl) hs
              have hq : (qs ++ [q]).getLastD emp = q := by simp
              rw [hq]
              have g4 := g2.loop (by omega)
              have g5 : Locs (addU (sendU q.ends q.first) (l ++ ext)) l.length k1 qs (List.replicate n (Lang e m f (p.kids.headD 0))) := g1.congr fun j hj => by
                rw [addU_get, send_rng g2.rng _ j (by omega)]
                cases (l ++ ext)[j]? <;> simp [orB_nil]
              have g6 := g5.snoc g4 g3
              have := line_loc p.low g6 0 (by rw [addU_length]; omega)
              refine this.lang (fun w => ?_)
              rw [LineL_loop _ _ _ _ (by omega), hL]
              constructor
              · rintro ⟨c, a, b⟩; exact ⟨c, by omega, .inl hi, b⟩
              · rintro ⟨c, a, _, b⟩; exact ⟨c, by omega, b⟩
            · simp only [if_neg hi, line_lineS]
              have ho : often p = p.high.toNat := by unfold often; rw [if_pos h4, if_neg hi]
              have hlo := hhi (by omega)
              have := line_loc p.low hs 0 (by omega)
              refine this.lang (fun w => ?_)
              rw [LineL_rep _ _ _ _ (by omega), hL]
              constructor
              · rintro ⟨c, a, b, d⟩; exact ⟨c, by omega, .inr (by omega), d⟩
              · rintro ⟨c, a, b, d⟩; exact ⟨c, by omega, by omega, d⟩
end Go.Proofs.YtnbchikiiipejaaDoor.Nf
