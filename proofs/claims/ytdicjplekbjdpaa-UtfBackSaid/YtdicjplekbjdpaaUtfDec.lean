/- Letters that stand one behind the other; nothing of the program. -/
import Derived.Test.YtdicjplekbjdpaaUtfMath
namespace Go.Proofs.Ytdicjplekbjdpaa.Utf

/-- up to p stand the letters rs -/
def Dec (zs rs : List Int) (p : Nat) : Prop := (∀ r ∈ rs, rtB r = true) ∧ rs.flatMap bytes = zs.take p ∧ p ≤ zs.length

theorem Dec.nil (zs : List Int) : Dec zs [] 0 := ⟨fun _ h => by simp at h, by simp, Nat.zero_le _⟩
theorem Dec.step {zs rs : List Int} {p : Nat} {r : Int} (h : Dec zs rs p) (ha : At zs p r) : Dec zs (rs ++ [r]) (p + (bytes r).length) ∧ (bytes r).length + p ≤ zs.length := by
  have hl : (bytes r).length + p ≤ zs.length := by
    have := ha.2.length_le
    have := bytes_length r
    rw [List.length_drop] at *; omega
  refine ⟨⟨fun x hx => ?_, ?_, by omega⟩, hl⟩
  · rcases List.mem_append.1 hx with h1 | h1
    · exact h.1 x h1
    · simp at h1; subst h1; exact ha.1
  · rw [List.flatMap_append, h.2.1, List.take_add]
    congr 1
    have := List.prefix_iff_eq_take.mp ha.2
    simpa using this
theorem Dec.len {zs rs : List Int} {p : Nat} (h : Dec zs rs p) : rs.length ≤ p := by
  have h1 : (rs.flatMap bytes).length = p := by rw [h.2.1, List.length_take]; have := h.2.2; omega
  rw [← h1]
  clear h h1
  induction rs with
  | nil => simp
  | cons r t ih => rw [List.flatMap_cons, List.length_append, List.length_cons]; have := bytes_length r; omega

/-- nothing more stands there -/
def Ends (zs : List Int) (p : Nat) : Prop := ∀ r, ¬ At zs p r

theorem at_drop {zs : List Int} {p : Nat} {r : Int} : At zs p r ↔ At (zs.drop p) 0 r := by simp [At]
theorem ends_len (zs : List Int) : Ends zs zs.length := fun r h => by
  have h1 := h.2.length_le
  have h2 := bytes_length r
  rw [List.length_drop] at h1; omega

/-- the letters at the head of bytes, as far as any stand there, are one way alone -/
theorem one_way : ∀ (rs rs' zs : List Int) (p p' : Nat), Dec zs rs p → Dec zs rs' p' → Ends zs p → Ends zs p' → rs = rs' ∧ p = p'
  | [], [], zs, p, p', h, h', _, _ => by
    have h1 := h.2.1
    have h2 := h'.2.1
    simp at h1 h2
    refine ⟨rfl, ?_⟩
    have a := h.2.2
    have b := h'.2.2
    rcases h1 with h1 | h1 <;> rcases h2 with h2 | h2 <;> first | omega | (subst h2; simp at *; omega) | (subst h1; simp at *; omega)
  | r :: t, [], zs, p, p', h, h', he, he' => by
    exfalso
    have h2 := h'.2.1
    have hp : p' = 0 ∨ zs = [] := by simpa using h2
    have h1 := h.2.1
    rw [List.flatMap_cons] at h1
    have hpre : bytes r <+: zs := by
      have : bytes r <+: zs.take p := ⟨_, h1⟩
      exact this.trans (List.take_prefix _ _)
    have hlen := hpre.length_le
    have := bytes_length r
    rcases hp with rfl | rfl
    · exact he' r ⟨h.1 r List.mem_cons_self, by simpa using hpre⟩
    · rw [List.length_nil] at hlen; omega
  | [], r :: t, zs, p, p', h, h', he, he' => by
    exfalso
    have h2 := h.2.1
    have hp : p = 0 ∨ zs = [] := by simpa using h2
    have h1 := h'.2.1
    rw [List.flatMap_cons] at h1
    have hpre : bytes r <+: zs := by
      have : bytes r <+: zs.take p' := ⟨_, h1⟩
      exact this.trans (List.take_prefix _ _)
    have hlen := hpre.length_le
    have := bytes_length r
    rcases hp with rfl | rfl
    · exact he r ⟨h'.1 r List.mem_cons_self, by simpa using hpre⟩
    · rw [List.length_nil] at hlen; omega
  | r :: t, r' :: t', zs, p, p', h, h', he, he' => by
    have h1 := h.2.1
    have h2 := h'.2.1
    rw [List.flatMap_cons] at h1 h2
    have a1 : At zs 0 r := ⟨h.1 r List.mem_cons_self, by have : bytes r <+: zs.take p := ⟨_, h1⟩; simpa using this.trans (List.take_prefix _ _)⟩
    have a2 : At zs 0 r' := ⟨h'.1 r' List.mem_cons_self, by have : bytes r' <+: zs.take p' := ⟨_, h2⟩; simpa using this.trans (List.take_prefix _ _)⟩
    obtain rfl := a1.one a2
    obtain ⟨u, hu⟩ := a1.2
    simp only [List.drop_zero] at hu
    have hb := bytes_length r
    have l1 : (bytes r).length ≤ p := by
      have := congrArg List.length h1
      rw [List.length_append, List.length_take] at this; omega
    have l2 : (bytes r).length ≤ p' := by
      have := congrArg List.length h2
      rw [List.length_append, List.length_take] at this; omega
    have hz : zs.length = (bytes r).length + u.length := by rw [← hu, List.length_append]
    have d1 : Dec u t (p - (bytes r).length) := by
      refine ⟨fun x hx => h.1 x (List.mem_cons_of_mem _ hx), ?_, by have := h.2.2; omega⟩
      rw [← hu, List.take_append] at h1
      rw [List.take_of_length_le l1] at h1
      exact List.append_cancel_left h1
    have d2 : Dec u t' (p' - (bytes r).length) := by
      refine ⟨fun x hx => h'.1 x (List.mem_cons_of_mem _ hx), ?_, by have := h'.2.2; omega⟩
      rw [← hu, List.take_append] at h2
      rw [List.take_of_length_le l2] at h2
      exact List.append_cancel_left h2
    have e1 : Ends u (p - (bytes r).length) := fun x hx => he x (by
      refine ⟨hx.1, ?_⟩
      rw [← hu, List.drop_append, List.drop_of_length_le l1]; simpa using hx.2)
    have e2 : Ends u (p' - (bytes r).length) := fun x hx => he' x (by
      refine ⟨hx.1, ?_⟩
      rw [← hu, List.drop_append, List.drop_of_length_le l2]; simpa using hx.2)
    obtain ⟨e3, e4⟩ := one_way t t' u _ _ d1 d2 e1 e2
    exact ⟨by rw [e3], by omega⟩
end Go.Proofs.Ytdicjplekbjdpaa.Utf
