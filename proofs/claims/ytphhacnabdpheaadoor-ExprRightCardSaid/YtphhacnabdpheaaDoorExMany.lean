/- Expressions: what a piece of signs is, as the reference takes it apart: several parts, one counted, one in brackets, a name. Plain lists. -/
import Derived.Test.YtphhacnabdpheaaDoorExCuts
namespace Go.Proofs.YtphhacnabdpheaaDoor.Ex
open Lx (Sg)

/-- a piece of several ones: of a row (2) an item, of a choice (3) a row -/
def Pc (way : Nat) (s : List Sg) (e : List Pt) (k : Nat) (e' : List Pt) : Prop := (way = 2 ∧ Sn .item s e k e') ∨ (way = 3 ∧ Sn (.row []) s e k e')
/-- the rest of several ones, behind the kids ks: what it lays -/
inductive Many : Nat → List Nat → List Sg → List Pt → List Pt → Prop where
  | last {way k : Nat} {ks : List Nat} {s : List Sg} {e e' : List Pt} : Pc way s e k e' → ks ≠ [] → Many way ks s e (e' ++ [⟨way, 0, 0, [], ks ++ [k]⟩])
  | row {k : Nat} {ks : List Nat} {s t : List Sg} {e e' e'' : List Pt} : Pc 2 s e k e' → Many 2 (ks ++ [k]) t e' e'' → Many 2 ks (s ++ t) e e''
  | choice {k : Nat} {ks : List Nat} {x : Sg} {s t : List Sg} {e e' e'' : List Pt} : Pc 3 s e k e' → x.kind = 4 → Many 3 (ks ++ [k]) t e' e'' → Many 3 ks (s ++ x :: t) e e''
theorem whole_more {kd : Int} {e : List Pt} {ks : List Nat} {k : Nat} (h : ks ≠ []) : whole kd e (ks ++ [k]) = (e.length, e ++ [⟨kd, 0, 0, [], ks ++ [k]⟩]) := by
  cases ks with
  | nil => exact absurd rfl h
  | cons a ks => cases ks <;> rfl
theorem Sn.many2 {v : Lv} {s : List Sg} {e e' : List Pt} {k : Nat} (h : Sn v s e k e') : ∀ ks, v = .row ks → ks ≠ [] → Many 2 ks s e e' := by
  induction h with
  | name _ => intro ks h; cases h
  | shut _ _ _ _ => intro ks h; cases h
  | item _ _ => intro ks h; cases h
  | times _ _ _ => intro ks h; cases h
  | rowMore h1 _ _ ih2 =>
    intro ks h _
    cases h
    exact .row (.inl ⟨rfl, h1⟩) (ih2 _ rfl (by simp))
  | rowEnd h1 _ =>
    intro ks h hne
    cases h
    rw [whole_more hne]
    exact .last (.inl ⟨rfl, h1⟩) hne
  | chMore _ _ _ _ _ => intro ks h; cases h
  | chEnd _ _ => intro ks h; cases h
theorem Sn.many3 {v : Lv} {s : List Sg} {e e' : List Pt} {k : Nat} (h : Sn v s e k e') : ∀ ks, v = .choice ks → ks ≠ [] → Many 3 ks s e e' := by
  induction h with
  | name _ => intro ks h; cases h
  | shut _ _ _ _ => intro ks h; cases h
  | item _ _ => intro ks h; cases h
  | times _ _ _ => intro ks h; cases h
  | rowMore _ _ _ _ => intro ks h; cases h
  | rowEnd _ _ => intro ks h; cases h
  | chMore h1 h4 _ _ ih2 =>
    intro ks h _
    cases h
    exact .choice (.inr ⟨rfl, h1⟩) h4 (ih2 _ rfl (by simp))
  | chEnd h1 _ =>
    intro ks h hne
    cases h
    rw [whole_more hne]
    exact .last (.inr ⟨rfl, h1⟩) hne
/-- what a piece may be -/
inductive Shape : List Sg → List Pt → List Pt → Prop where
  | many {way : Nat} {s : List Sg} {e e' : List Pt} : (way = 2 ∨ way = 3) → Many way [] s e e' → (way = 2 → Sn (.row []) s e (e'.length - 1) e') → Shape s e e'
  | times {x : Sg} {k : Nat} {s : List Sg} {e e' : List Pt} : Sn .bare s e k e' → x.kind = 5 → Shape (s ++ [x]) e (e' ++ [⟨4, x.low, x.high, [], [k]⟩])
  | shut {x y : Sg} {k : Nat} {s : List Sg} {e e' : List Pt} : x.kind = 2 → Sn (.choice []) s e k e' → y.kind = 3 → Shape (x :: (s ++ [y])) e e'
  | name {x : Sg} {e : List Pt} : x.kind = 1 → Shape [x] e (e ++ [⟨1, 0, 0, x.name, []⟩])
theorem shape_bare {s : List Sg} {e e' : List Pt} {k : Nat} (h : Sn .bare s e k e') : Shape s e e' := by
  cases h with
  | name h1 => exact .name h1
  | shut h2 h h3 => exact .shut h2 h h3
theorem shape_item {s : List Sg} {e e' : List Pt} {k : Nat} (h : Sn .item s e k e') : Shape s e e' := by
  cases h with
  | item h => exact shape_bare h
  | times h h5 => exact .times h h5
theorem shape_row {s : List Sg} {e e' : List Pt} {k : Nat} (h : Sn (.row []) s e k e') : Shape s e e' := by
  have h0 := h
  have hk := h.last
  cases h with
  | rowMore h1 h2 =>
    refine .many (.inl rfl) (.row (.inl ⟨rfl, h1⟩) (h2.many2 _ rfl (by simp))) (fun _ => ?_)
    rw [show e'.length - 1 = k from by omega]
    exact h0
  | rowEnd h1 => exact shape_item h1
theorem shape_choice {s : List Sg} {e e' : List Pt} {k : Nat} (h : Sn (.choice []) s e k e') : Shape s e e' := by
  cases h with
  | chMore h1 h4 h2 => exact .many (.inr rfl) (.choice (.inr ⟨rfl, h1⟩) h4 (h2.many3 _ rfl (by simp))) (fun h => by omega)
  | chEnd h1 => exact shape_row h1
theorem Pc.shape {way : Nat} {s : List Sg} {e e' : List Pt} {k : Nat} (h : Pc way s e k e') : Shape s e e' := by
  rcases h with ⟨_, h⟩ | ⟨_, h⟩
  · exact shape_item h
  · exact shape_row h
theorem Pc.last {way : Nat} {s : List Sg} {e e' : List Pt} {k : Nat} (h : Pc way s e k e') : e'.length = k + 1 := by
  rcases h with ⟨_, h⟩ | ⟨_, h⟩ <;> exact h.last
theorem Pc.ne {way : Nat} {s : List Sg} {e e' : List Pt} {k : Nat} (h : Pc way s e k e') : 0 < s.length := by
  rcases h with ⟨_, h⟩ | ⟨_, h⟩ <;> exact h.ne
theorem Pc.ok {way : Nat} {s : List Sg} {e e' : List Pt} {k : Nat} (h : Pc way s e k e') : ∀ t, Ok t → Ok (s ++ t) := by
  rcases h with ⟨_, h⟩ | ⟨_, h⟩ <;> exact h.ok
theorem Many.ok {way : Nat} {ks : List Nat} {s : List Sg} {e e' : List Pt} (h : Many way ks s e e') : Ok s := by
  induction h with
  | last h _ => have := h.ok [] .nil; rwa [List.append_nil] at this
  | row h _ ih => exact h.ok _ ih
  | choice h h4 _ ih => exact h.ok _ (.one (by omega) ih)
theorem Many.ne {way : Nat} {ks : List Nat} {s : List Sg} {e e' : List Pt} (h : Many way ks s e e') : 0 < s.length := by
  induction h with
  | last h _ => exact h.ne
  | row h _ ih => simp; omega
  | choice h _ _ ih => simp only [List.length_append, List.length_cons]; omega
/-- a row's first piece, whatever stands behind: it is cut ahead of it -/
theorem Many.cuts2 {way : Nat} {ks : List Nat} {s : List Sg} {e e' : List Pt} (h : Many way ks s e e') : way = 2 → ∀ i, Cuts 2 i false s = i :: Cuts 2 i true s := by
  have one : ∀ {s t : List Sg} {e : List Pt} {k : Nat} {e' : List Pt}, Pc 2 s e k e' → ∀ i, Cuts 2 i false (s ++ t) = i :: Cuts 2 i true (s ++ t) := by
    intro s t e k e' h i
    rcases h with ⟨_, h⟩ | ⟨h, _⟩
    · rw [h.cuts_item 2 i false, h.cuts_item 2 i true]; simp
    · omega
  intro hw i
  cases h with
  | last h _ =>
    subst hw
    have := one (t := []) h i
    rwa [List.append_nil] at this
  | row h _ => exact one h i
  | choice _ _ _ => omega
/-- one piece more, or the last one: where the next cut is -/
theorem Many.step {way : Nat} {ks : List Nat} {t : List Sg} {e e' : List Pt} (h : Many way ks t e e') (f : Nat) :
    (∃ k e1, Pc way t e k e1 ∧ Cuts way f true t = [] ∧ ks ≠ [] ∧ e' = e1 ++ [⟨way, 0, 0, [], ks ++ [k]⟩]) ∨
    (∃ k e1 s t' d, Pc way s e k e1 ∧ Many way (ks ++ [k]) t' e1 e' ∧ d = (if way = 3 then 1 else 0) ∧ Cuts way f true t = (f + s.length + d) :: Cuts way (f + s.length + d) true t' ∧ t.length = s.length + d + t'.length ∧ (∃ m, t = s ++ m ∧ m.length = d + t'.length ∧ m.drop d = t')) := by
  cases h with
  | @last _ k _ _ _ e1 h hne =>
    refine .inl ⟨k, e1, h, ?_, hne, rfl⟩
    rcases h with ⟨rfl, h⟩ | ⟨rfl, h⟩
    · exact h.cuts_one 2 f
    · exact cuts3_one h f
  | @row k _ s t' _ e1 _ h h2 =>
    refine .inr ⟨k, e1, s, t', 0, h, h2, by simp, ?_, by simp, t', rfl, by simp, rfl⟩
    rcases h with ⟨_, h⟩ | ⟨h, _⟩
    · rw [h.cuts_item 2 f true, h2.cuts2 rfl]; simp
    · omega
  | @choice k _ x s t' _ e1 _ h h4 h2 =>
    refine .inr ⟨k, e1, s, t', 1, h, h2, by simp, ?_, by simp; omega, x :: t', rfl, by simp; omega, rfl⟩
    rcases h with ⟨h, _⟩ | ⟨_, h⟩
    · omega
    · exact cuts3_more h h4 f
/-- where several ones are, one by one, in a text of signs that is cut at C -/
def At (way : Nat) (l r : List Sg) (C : List Nat) (q S : Nat) (e' : List Pt) (i : Nat) (ks : List Nat) (e1 : List Pt) : Prop :=
  (∃ f t, C.drop i = f :: (Cuts way f true t ++ [q]) ∧ l.drop f = t ++ r ∧ f + t.length = q ∧ Many way ks t e1 e' ∧ t.length ≤ S ∧ (ks ≠ [] → t.length < S)) ∨ (i + 1 = C.length ∧ e' = e1 ++ [⟨way, 0, 0, [], ks⟩])
theorem drop_get {C : List Nat} {i a : Nat} {m : List Nat} (h : C.drop i = a :: m) : i < C.length ∧ C[i]? = some a ∧ C.drop (i + 1) = m := by
  have hl : i < C.length := by
    rcases Nat.lt_or_ge i C.length with h1 | h1
    · exact h1
    · rw [List.drop_eq_nil_of_le h1] at h; cases h
  rw [List.drop_eq_getElem_cons hl] at h
  simp only [List.cons.injEq] at h
  exact ⟨hl, by rw [List.getElem?_eq_getElem hl, h.1], h.2⟩
theorem drop_len {C : List Nat} {i : Nat} {m : List Nat} (h : C.drop i = m) (hi : i ≤ C.length) : C.length = i + m.length := by
  have := congrArg List.length h
  simp at this; omega
theorem At.step {way : Nat} {l r : List Sg} {C : List Nat} {q S : Nat} {e' : List Pt} {i : Nat} {ks : List Nat} {e1 : List Pt} (h : At way l r C q S e' i ks e1) (hi : i + 1 < C.length) (hw : way = 2 ∨ way = 3) :
    ∃ f c1 k e2 s r', C[i]? = some f ∧ C[i + 1]? = some c1 ∧ Pc way s e1 k e2 ∧ l.drop f = s ++ r' ∧ f + s.length = (if way = 3 ∧ i + 2 < C.length then c1 - 1 else c1) ∧ s.length < S ∧ c1 ≤ q ∧ 0 < c1 ∧ f + s.length ≤ q ∧ At way l r C q S e' (i + 1) (ks ++ [k]) e2 := by
  rcases h with ⟨f, t, h1, h2, h3, h4, h5, h6⟩ | ⟨h1, _⟩
  · obtain ⟨_, g1, g2⟩ := drop_get h1
    have hlen := drop_len h1 (by omega)
    rcases h4.step f with ⟨k, e2, p1, p2, p3, p4⟩ | ⟨k, e2, s, t', d, p1, p2, p3, p4, p5, m, p6, p7, p8⟩
    · rw [p2] at g2 hlen
      simp only [List.nil_append, List.length_cons, List.length_nil] at g2 hlen
      obtain ⟨_, g3, g4⟩ := drop_get g2
      refine ⟨f, q, k, e2, t, r, g1, g3, p1, h2, ?_, h6 p3, Nat.le_refl _, by have := p1.ne; omega, by omega, .inr ⟨by omega, p4⟩⟩
      rw [if_neg (by omega)]; exact h3
    · rw [p4] at g2 hlen
      simp only [List.cons_append] at g2
      obtain ⟨_, g3, g4⟩ := drop_get g2
      have ht' := p2.ne
      have hs := p1.ne
      refine ⟨f, f + s.length + d, k, e2, s, m ++ r, g1, g3, p1, by rw [h2, p6, List.append_assoc], ?_, by omega, by omega, by omega, by omega, .inl ⟨f + s.length + d, t', g2, ?_, by omega, p2, by omega, fun _ => by omega⟩⟩
      · rcases hw with rfl | rfl
        · rw [if_neg (by omega)]; simp at p3; omega
        · rw [if_pos ⟨rfl, by rw [hlen]; simp⟩]; simp at p3; omega
      · have e1 : l.drop (f + s.length + d) = (l.drop f).drop (s.length + d) := by rw [List.drop_drop, Nat.add_assoc]
        rw [e1, h2, p6, List.append_assoc, ← List.drop_drop, List.drop_left, List.drop_append_of_le_length (by omega), p8]
  · omega
theorem At.fin {way : Nat} {l r : List Sg} {C : List Nat} {q S : Nat} {e' : List Pt} {i : Nat} {ks : List Nat} {e1 : List Pt} (h : At way l r C q S e' i ks e1) (hi : ¬ i + 1 < C.length) : e' = e1 ++ [⟨way, 0, 0, [], ks⟩] := by
  rcases h with ⟨f, t, h1, h2, h3, h4, h5, h6⟩ | ⟨_, h1⟩
  · have hlen := drop_len h1 (by
      have := (drop_get h1).1; omega)
    simp at hlen; omega
  · exact h1
end Go.Proofs.YtphhacnabdpheaaDoor.Ex
