/- The queue over what waits, in the order in which it was put in. -/
import Derived.Test.YtlnljgfppipceabQuG
namespace Go.Proofs.Ytlnljgfppipceab.Qu
open Go.RowKit Mem
set_option linter.unusedVariables false

/-- i is the place of the one ahead of all others -/
def IsFirst (g : List It) (i : Nat) : Prop := i < g.length ∧ (∀ c, c < g.length → (at_ g i).key ≤ (at_ g c).key) ∧ ∀ c, c < i → (at_ g i).key < (at_ g c).key
def Turns (g : List It) (puts : Nat) : Prop := (∀ i j, i < j → j < g.length → (at_ g i).turn < (at_ g j).turn) ∧ ∀ i, i < g.length → (at_ g i).turn < puts

theorem mem_at {g : List It} {a : It} (h : a ∈ g) : ∃ c, c < g.length ∧ at_ g c = a := by
  obtain ⟨c, hc, e⟩ := List.getElem_of_mem h
  exact ⟨c, hc, by rw [at_eq hc, e]⟩
theorem at_mem {g : List It} {c : Nat} (h : c < g.length) : at_ g c ∈ g := by rw [at_eq h]; exact List.getElem_mem h
theorem root_is {h g : List It} {i p : Nat} (hp : h.Perm g) (hh : IsHeap h.length h) (ht : Turns g p) (hi : IsFirst g i) : at_ h 0 = at_ g i := by
  have hlen := hp.length_eq
  have hpos : 0 < h.length := by have := hi.1; omega
  obtain ⟨c, hc, e⟩ := mem_at (hp.mem_iff.1 (at_mem hpos))
  obtain ⟨k, hk, e2⟩ := mem_at (hp.mem_iff.2 (at_mem hi.1))
  have hle := heap_min hh k hk
  rw [e2, ← e] at hle
  have h1 := hi.2.1 c hc
  rcases Nat.lt_trichotomy c i with hlt | heq | hgt
  · have := hi.2.2 c hlt
    unfold le at hle; omega
  · rw [← e, heq]
  · have := ht.1 i c hgt hc
    unfold le at hle; omega
theorem perm_erase {g : List It} {i : Nat} (hi : i < g.length) : (g.eraseIdx i ++ [at_ g i]).Perm g := by
  have e : g.take i ++ at_ g i :: g.drop (i + 1) = g := by
    rw [at_eq hi, ← List.drop_eq_getElem_cons hi]; exact List.take_append_drop i g
  rw [List.eraseIdx_eq_take_drop_succ, List.append_assoc]
  refine ((List.perm_append_singleton (at_ g i) (g.drop (i + 1))).append_left (g.take i)).trans ?_
  rw [e]
theorem at_erase (g : List It) (i c : Nat) : at_ (g.eraseIdx i) c = if c < i then at_ g c else at_ g (c + 1) := by
  unfold at_
  simp only [List.getD, List.getElem?_eraseIdx]
  split <;> rfl
theorem turns_erase {g : List It} {p i : Nat} (h : Turns g p) (hi : i < g.length) : Turns (g.eraseIdx i) p := by
  have hl : (g.eraseIdx i).length = g.length - 1 := by rw [List.length_eraseIdx, if_pos hi]
  refine ⟨fun a b hab hb => ?_, fun a ha => ?_⟩
  · rw [hl] at hb
    rw [at_erase, at_erase]
    split <;> split
    · exact h.1 _ _ hab (by omega)
    · exact h.1 _ _ (by omega) (by omega)
    · omega
    · exact h.1 _ _ (by omega) (by omega)
  · rw [hl] at ha
    rw [at_erase]
    split
    · exact h.2 _ (by omega)
    · exact h.2 _ (by omega)
theorem turns_snoc {g : List It} {p : Nat} (h : Turns g p) (k x : Int) : Turns (g ++ [⟨k, p, x⟩]) (p + 1) := by
  have e : ∀ c, c < g.length → at_ (g ++ [⟨k, p, x⟩]) c = at_ g c := fun c hc => by simp [at_, List.getD, List.getElem?_append_left hc]
  have e2 : at_ (g ++ [⟨k, p, x⟩]) g.length = ⟨k, p, x⟩ := by simp [at_]
  refine ⟨fun a b hab hb => ?_, fun a ha => ?_⟩
  · simp at hb
    by_cases hbg : b < g.length
    · rw [e a (by omega), e b hbg]; exact h.1 a b hab hbg
    · obtain rfl : b = g.length := by omega
      rw [e a hab, e2]; exact h.2 a hab
  · simp at ha
    by_cases hag : a < g.length
    · rw [e a hag]; have := h.2 a hag; omega
    · obtain rfl : a = g.length := by omega
      rw [e2]; show (p : Int) < ((p + 1 : Nat) : Int); omega
theorem turns_nil (p : Nat) : Turns [] p := ⟨fun _ _ _ h => by simp at h, fun _ h => by simp at h⟩

/-- a queue in which just these wait -/
def G (base : Nat) (W : World) (qb : Nat) (g : List It) (puts : Nat) : Prop := ∃ h, Q base W qb h puts ∧ h.Perm g ∧ Turns g puts
section
variable {base : Nat} {W W' : World} {qb : Nat} {g : List It} {puts : Nat}
theorem G.below (q : G base W qb g puts) (hb : Below W.heap.size W W') : G base W' qb g puts := by
  obtain ⟨h, h1, h2, h3⟩ := q; exact ⟨h, h1.below hb, h2, h3⟩
theorem G.drewN (q : G base W qb g puts) (m : Nat) : G base (W.drewN m) qb g puts := q
theorem G.lt (q : G base W qb g puts) : qb < W.heap.size := by obtain ⟨h, h1, _⟩ := q; exact h1.lt
theorem G.new (W : World) (hb : base ≤ W.heap.size) : G base (W.alloc (.cells #[.slice none 0 0, .int .i64 0] 32)) W.heap.size [] 0 :=
  ⟨[], ⟨.slice none 0 0, heap_alloc_new W _, Line.nil, by simp [Value.ownBlock], fun _ _ h => by simp at h, hb⟩, List.Perm.refl _, turns_nil 0⟩
end
theorem gput {base : Nat} (qb : Nat) (g : List It) (puts : Nat) (k x : Int) (w : World) (hq : G base w qb g puts) (hn : g.length ≤ 900) (hp : puts ≤ 100000) :
    Calls Try.prog 5 #[.pointer (some ⟨qb, 0, none⟩), .int .i64 k, .int .i64 x] w fun e w' => (∃ u, e = .returned u) ∧
      G base w' qb (g ++ [⟨k, puts, x⟩]) (puts + 1) ∧ QFrame base qb w w' := by
  obtain ⟨h, h1, h2, h3⟩ := hq
  refine (put_any qb h puts k x w h1 (by rw [h2.length_eq]; exact hn) hp).mono fun e w' ⟨he, h', hq', hp', hf⟩ => ⟨he, ⟨h', hq', hp'.trans (h2.append_right _), turns_snoc h3 k x⟩, hf⟩
theorem gtake {base : Nat} (qb : Nat) (g : List It) (puts i : Nat) (w : World) (hq : G base w qb g puts) (hn : g.length ≤ 900) (hi : IsFirst g i) :
    Calls Try.prog 6 #[.pointer (some ⟨qb, 0, none⟩)] w fun e w' => e = .returned (.tuple #[.int .i64 (at_ g i).thing, .int .i64 (at_ g i).key, .bool true]) ∧
      G base w' qb (g.eraseIdx i) puts ∧ QFrame base qb w w' := by
  obtain ⟨h, h1, h2, h3⟩ := hq
  have hl := h2.length_eq
  have hil := hi.1
  have hr : at_ h 0 = at_ g i := by
    obtain ⟨_, _, _, _, hh, _⟩ := h1
    exact root_is h2 hh h3 hi
  have := take_some qb h puts (h.length - 1) w h1 (by omega) (by omega)
  rw [hr] at this
  refine this.mono fun e w' ⟨he, h', hq', hp', hf⟩ => ⟨he, ⟨h', hq', ?_, turns_erase h3 hil⟩, hf⟩
  exact (List.perm_append_right_iff [at_ g i]).1 ((hp'.trans h2).trans (perm_erase hil).symm)
theorem gtake_none {base : Nat} (qb : Nat) (puts : Nat) (w : World) (hq : G base w qb [] puts) :
    Calls Try.prog 6 #[.pointer (some ⟨qb, 0, none⟩)] w fun e w' => e = .returned (.tuple #[.int .i64 0, .int .i64 0, .bool false]) ∧ ∃ m, w' = w.drewN m := by
  obtain ⟨h, h1, h2, h3⟩ := hq
  obtain rfl := h2.eq_nil
  exact take_none qb puts w h1
theorem gpeek {base : Nat} (qb : Nat) (g : List It) (puts i : Nat) (w : World) (hq : G base w qb g puts) (hn : g.length ≤ 900) (hi : IsFirst g i) :
    Calls Try.prog 7 #[.pointer (some ⟨qb, 0, none⟩)] w fun e w' => e = .returned (.tuple #[.int .i64 (at_ g i).thing, .int .i64 (at_ g i).key, .bool true]) ∧ ∃ m, w' = w.drewN m := by
  obtain ⟨h, h1, h2, h3⟩ := hq
  have hl := h2.length_eq
  have hil := hi.1
  have hr : at_ h 0 = at_ g i := by
    obtain ⟨_, _, _, _, hh, _⟩ := h1
    exact root_is h2 hh h3 hi
  have := peek_some qb h puts (h.length - 1) w h1 (by omega) (by omega)
  rw [hr] at this
  exact this
theorem gpeek_none {base : Nat} (qb : Nat) (puts : Nat) (w : World) (hq : G base w qb [] puts) :
    Calls Try.prog 7 #[.pointer (some ⟨qb, 0, none⟩)] w fun e w' => e = .returned (.tuple #[.int .i64 0, .int .i64 0, .bool false]) ∧ ∃ m, w' = w.drewN m := by
  obtain ⟨h, h1, h2, h3⟩ := hq
  obtain rfl := h2.eq_nil
  exact peek_none qb puts w h1
theorem glen {base : Nat} (qb : Nat) (g : List It) (puts : Nat) (w : World) (hq : G base w qb g puts) :
    Calls Try.prog 8 #[.pointer (some ⟨qb, 0, none⟩)] w fun e w' => e = .returned (.int .i64 g.length) ∧ w = w' := by
  obtain ⟨h, h1, h2, h3⟩ := hq
  rw [← h2.length_eq]
  exact qlen_any qb h puts w h1
end Go.Proofs.Ytlnljgfppipceab.Qu
