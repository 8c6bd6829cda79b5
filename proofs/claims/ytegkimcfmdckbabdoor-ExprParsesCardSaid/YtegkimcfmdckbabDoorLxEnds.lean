/- The lexer's errors; how it ends. Plain. -/
import Derived.Test.YtegkimcfmdckbabDoorLxK
namespace Go.Proofs.YtegkimcfmdckbabDoor.Lx
open Go.RowKit Mem
set_option linter.unusedVariables false

theorem num_bad {t : List UInt8} {k p : Nat} {c : Int} (h : num t k = .bad p c) : c = 2 ∨ c = 5 := by
  unfold num at h
  repeat' split at h
  all_goals first
    | (simp only [Res.bad.injEq] at h; omega)
    | simp at h
theorem numP_bad {t : List UInt8} {k l p : Nat} {c : Int} (h : numP t k l = .bad p c) : c = 2 ∨ c = 3 ∨ c = 5 := by
  unfold numP at h
  cases hn : num t k with
  | ok n to => rw [hn] at h; simp only at h; split at h <;> simp at h; omega
  | bad q d => rw [hn] at h; simp only [Res.bad.injEq] at h; have := num_bad hn; omega
theorem cnt_bad {t : List UInt8} {k p : Nat} {c : Int} (h : cnt t k = .bad p c) : c = 2 ∨ c = 3 ∨ c = 5 := by
  unfold cnt at h
  cases hn : numP t k 0 with
  | bad q d => rw [hn] at h; simp only [Res.bad.injEq] at h; have := numP_bad hn; omega
  | ok low to =>
    rw [hn] at h
    simp only at h
    split at h
    · simp at h; omega
    · split at h
      · unfold highP at h
        split at h
        · simp at h; omega
        · split at h
          · simp at h
          · split at h
            · rename_i hn2
              simp only [Res.bad.injEq] at h
              have := numP_bad hn2; omega
            · unfold shutP at h
              split at h
              · simp at h; omega
              · split at h
                · simp at h
                · simp at h; omega
      · split at h
        · split at h
          · simp at h; omega
          · simp at h
        · simp at h; omega
theorem one_bad {c : UInt8} {t : List UInt8} {k p : Nat} {e : Int} (h : one c t k = .bad p e) : e = 2 ∨ e = 3 ∨ e = 5 := by
  unfold one at h
  split at h
  · simp only at h
    split at h
    · simp at h
    · simp at h; omega
  · split at h
    · split at h
      · rename_i hc
        simp only [Res.bad.injEq] at h
        have := cnt_bad hc; omega
      · simp at h
    · split at h
      · simp at h
      · simp at h; omega
theorem lex_bad : ∀ (f : Nat) (t : List UInt8) (k : Nat) (acc : List Sg) (p : Nat) (e : Int), lex f t k acc = .bad p e → e = 2 ∨ e = 3 ∨ e = 4 ∨ e = 5
  | 0, _, _, _, _, _, h => by simp [lex] at h
  | f + 1, [], _, _, _, _, h => by simp [lex] at h
  | f + 1, c :: u, k, acc, p, e, h => by
    unfold lex at h
    simp only at h
    split at h
    · exact lex_bad f _ _ _ _ _ h
    · split at h
      · simp at h; omega
      · split at h
        · rename_i ho
          simp only [Res.bad.injEq] at h
          have := one_bad ho; omega
        · exact lex_bad f _ _ _ _ _ h
theorem lex_ends (s : List UInt8) : (∃ l, Lex s = .ok l 0 ∧ (∀ x ∈ l, Fine x) ∧ l.length ≤ 200) ∨ ∃ p e, Lex s = .bad p e ∧ e ≠ 0 := by
  cases h : Lex s with
  | ok l n =>
    obtain ⟨h1, h2, rfl⟩ := lex_fine _ s 0 [] l n (by simp) (by simp) h
    exact .inl ⟨l, rfl, h1, h2⟩
  | bad p e => exact .inr ⟨p, e, rfl, by have := lex_bad _ _ _ _ _ _ h; omega⟩
theorem fine_64 {x : Sg} (h : Fine x) : (I64 x.low ∧ I64 x.high) ∧ x.name.length ≤ 100 := by
  unfold I64
  rcases h with ⟨_, h2, h3, _, _, h5⟩ | ⟨_, h2, h3, h4⟩ | ⟨_, h2, h3, h4, h5⟩
  · exact ⟨by omega, by omega⟩
  · exact ⟨by omega, by rw [h4]; simp⟩
  · exact ⟨by omega, by rw [h2]; simp⟩

end Go.Proofs.YtegkimcfmdckbabDoor.Lx
