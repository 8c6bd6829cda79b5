/- Pieces that stand one behind the other, of a code of which no piece begins another; nothing of the program. -/
import Init
namespace Go.Proofs.YtdicjplekbjdpabDoor.Code

/-- a code: what may be a letter, its piece (not empty), and one letter's piece alone stands at the head of anything -/
structure Good {α : Type} (ok : Int → Prop) (pc : Int → List α) : Prop where
  pos : ∀ r, 1 ≤ (pc r).length
  one : ∀ r r' X, ok r → ok r' → pc r <+: X → pc r' <+: X → r = r'

section
variable {α : Type} {ok : Int → Prop} {pc : Int → List α}
/-- the letter r stands at place p -/
def At (ok : Int → Prop) (pc : Int → List α) (l : List α) (p : Nat) (r : Int) : Prop := ok r ∧ pc r <+: l.drop p
/-- up to p stand the letters rs -/
def Dec (ok : Int → Prop) (pc : Int → List α) (l : List α) (rs : List Int) (p : Nat) : Prop := (∀ r ∈ rs, ok r) ∧ rs.flatMap pc = l.take p ∧ p ≤ l.length
/-- nothing stands there -/
def Ends (ok : Int → Prop) (pc : Int → List α) (l : List α) (p : Nat) : Prop := ∀ r, ¬ At ok pc l p r

theorem Dec.nil (l : List α) : Dec ok pc l [] 0 := ⟨fun _ h => by simp at h, by simp, Nat.zero_le _⟩
theorem Dec.step {l : List α} {rs : List Int} {p : Nat} {r : Int} (h : Dec ok pc l rs p) (ha : At ok pc l p r) : Dec ok pc l (rs ++ [r]) (p + (pc r).length) ∧ (pc r).length + p ≤ l.length := by
  have hl : (pc r).length + p ≤ l.length := by
    have h1 := ha.2.length_le
    have h2 := h.2.2
    rw [List.length_drop] at h1; omega
  refine ⟨⟨fun x hx => ?_, ?_, by omega⟩, hl⟩
  · rcases List.mem_append.1 hx with h1 | h1
    · exact h.1 x h1
    · simp at h1; subst h1; exact ha.1
  · rw [List.flatMap_append, h.2.1, List.take_add]
    congr 1
    have := List.prefix_iff_eq_take.mp ha.2
    simpa using this
theorem Dec.len (g : Good ok pc) {l : List α} {rs : List Int} {p : Nat} (h : Dec ok pc l rs p) : rs.length ≤ p := by
  have h1 : (rs.flatMap pc).length = p := by rw [h.2.1, List.length_take]; have := h.2.2; omega
  rw [← h1]
  clear h h1
  induction rs with
  | nil => simp
  | cons r t ih => rw [List.flatMap_cons, List.length_append, List.length_cons]; have := g.pos r; omega
theorem Dec.all {l : List α} {rs : List Int} (h : ∀ r ∈ rs, ok r) (e : rs.flatMap pc = l) : Dec ok pc l rs l.length := ⟨h, by rw [e, List.take_of_length_le (Nat.le_refl _)], Nat.le_refl _⟩
theorem ends_len (g : Good ok pc) (l : List α) : Ends ok pc l l.length := fun r h => by
  have h1 := h.2.length_le
  have h2 := g.pos r
  rw [List.length_drop] at h1; omega

theorem one_way (g : Good ok pc) : ∀ (rs rs' : List Int) (l : List α) (p p' : Nat), Dec ok pc l rs p → Dec ok pc l rs' p' → Ends ok pc l p → Ends ok pc l p' → rs = rs' ∧ p = p'
  | [], [], l, p, p', h, h', _, _ => by
    have h1 := h.2.1
    have h2 := h'.2.1
    have a := h.2.2
    have b := h'.2.2
    have e1 : (l.take p).length = 0 := by rw [← h1]; rfl
    have e2 : (l.take p').length = 0 := by rw [← h2]; rfl
    rw [List.length_take] at e1 e2
    exact ⟨rfl, by omega⟩
  | r :: t, [], l, p, p', h, h', he, he' => by
    exfalso
    have h2 := h'.2.1
    have b := h'.2.2
    have e2 : (l.take p').length = 0 := by rw [← h2]; rfl
    rw [List.length_take] at e2
    have h1 := h.2.1
    rw [List.flatMap_cons] at h1
    have hpre : pc r <+: l := by
      have : pc r <+: l.take p := ⟨_, h1⟩
      exact this.trans (List.take_prefix _ _)
    have hlen := hpre.length_le
    have := g.pos r
    obtain rfl : p' = 0 := by omega
    exact he' r ⟨h.1 r List.mem_cons_self, by simpa using hpre⟩
  | [], r :: t, l, p, p', h, h', he, he' => by
    exfalso
    have h2 := h.2.1
    have b := h.2.2
    have e2 : (l.take p).length = 0 := by rw [← h2]; rfl
    rw [List.length_take] at e2
    have h1 := h'.2.1
    rw [List.flatMap_cons] at h1
    have hpre : pc r <+: l := by
      have : pc r <+: l.take p' := ⟨_, h1⟩
      exact this.trans (List.take_prefix _ _)
    have hlen := hpre.length_le
    have := g.pos r
    obtain rfl : p = 0 := by omega
    exact he r ⟨h'.1 r List.mem_cons_self, by simpa using hpre⟩
  | r :: t, r' :: t', l, p, p', h, h', he, he' => by
    have h1 := h.2.1
    have h2 := h'.2.1
    rw [List.flatMap_cons] at h1 h2
    have a1 : pc r <+: l := by have : pc r <+: l.take p := ⟨_, h1⟩; exact this.trans (List.take_prefix _ _)
    have a2 : pc r' <+: l := by have : pc r' <+: l.take p' := ⟨_, h2⟩; exact this.trans (List.take_prefix _ _)
    obtain rfl := g.one r r' l (h.1 r List.mem_cons_self) (h'.1 r' List.mem_cons_self) a1 a2
    obtain ⟨u, hu⟩ := a1
    have hb := g.pos r
    have l1 : (pc r).length ≤ p := by
      have := congrArg List.length h1
      rw [List.length_append, List.length_take] at this; omega
    have l2 : (pc r).length ≤ p' := by
      have := congrArg List.length h2
      rw [List.length_append, List.length_take] at this; omega
    have hz : l.length = (pc r).length + u.length := by rw [← hu, List.length_append]
    have d1 : Dec ok pc u t (p - (pc r).length) := by
      refine ⟨fun x hx => h.1 x (List.mem_cons_of_mem _ hx), ?_, by have := h.2.2; omega⟩
      rw [← hu, List.take_append] at h1
      rw [List.take_of_length_le l1] at h1
      exact List.append_cancel_left h1
    have d2 : Dec ok pc u t' (p' - (pc r).length) := by
      refine ⟨fun x hx => h'.1 x (List.mem_cons_of_mem _ hx), ?_, by have := h'.2.2; omega⟩
      rw [← hu, List.take_append] at h2
      rw [List.take_of_length_le l2] at h2
      exact List.append_cancel_left h2
    have e1 : Ends ok pc u (p - (pc r).length) := fun x hx => he x (by
      refine ⟨hx.1, ?_⟩
      rw [← hu, List.drop_append, List.drop_of_length_le l1]; simpa using hx.2)
    have e2 : Ends ok pc u (p' - (pc r).length) := fun x hx => he' x (by
      refine ⟨hx.1, ?_⟩
      rw [← hu, List.drop_append, List.drop_of_length_le l2]; simpa using hx.2)
    obtain ⟨e3, e4⟩ := one_way g t t' u _ _ d1 d2 e1 e2
    exact ⟨by rw [e3], by omega⟩
theorem same (g : Good ok pc) {l : List α} {rs rs' : List Int} (h : Dec ok pc l rs l.length) (h' : Dec ok pc l rs' l.length) : rs = rs' := (one_way g rs rs' l _ _ h h' (ends_len g l) (ends_len g l)).1
theorem dec_not (g : Good ok pc) {l : List α} {rs rs' : List Int} {p : Nat} (h : Dec ok pc l rs l.length) (h' : Dec ok pc l rs' p) (he : Ends ok pc l p) (hp : p < l.length) : False := by
  have := (one_way g rs rs' l _ _ h h' (ends_len g l) he).2
  omega
end
end Go.Proofs.YtdicjplekbjdpabDoor.Code
