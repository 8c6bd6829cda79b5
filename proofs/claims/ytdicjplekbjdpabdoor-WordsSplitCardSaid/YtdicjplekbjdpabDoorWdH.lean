/- Pieces of bytes: how they are told apart. -/
import Derived.Test.YtdicjplekbjdpabDoorWdG
import Derived.Test.YtdicjplekbjdpabDoorCode
namespace Go.Proofs.YtdicjplekbjdpabDoor.Wd

def okc (c : Int) : Prop := 0 ≤ c ∧ c ≤ 255
def dgI (c : Int) : Int := if 97 ≤ c then (c - 97 + 10) % 16 else (c - 48) % 16
/-- the byte that may be hidden where a piece begins with a backslash -/
def nmI (w : List UInt8) : Int :=
  if w.length < 2 then 0
  else if (w.getD 1 0).toNat = 115 then 32 else if (w.getD 1 0).toNat = 110 then 10
  else if (w.getD 1 0).toNat = 120 then (if w.length < 4 then 0 else 16 * dgI (w.getD 2 0).toNat + dgI (w.getD 3 0).toNat)
  else (w.getD 1 0).toNat

theorem nm_small : ∀ C : Nat, C < 33 → escL C ≠ [] ∧ hide1 C = escL C ∧ (hide1 C).getD 0 0 = 92 ∧ nmI (hide1 C) = C ∧ ((hide1 C).length = 4 ∧ ((hide1 C).getD 1 0).toNat = 120 ∨ (hide1 C).length = 2 ∧ ((hide1 C).getD 1 0).toNat ≠ 120) := by decide +kernel
theorem nm_92 : escL 92 ≠ [] ∧ hide1 92 = escL 92 ∧ (hide1 92).getD 0 0 = 92 ∧ nmI (hide1 92) = 92 ∧ ((hide1 92).length = 4 ∧ ((hide1 92).getD 1 0).toNat = 120 ∨ (hide1 92).length = 2 ∧ ((hide1 92).getD 1 0).toNat ≠ 120) := by decide +kernel
theorem nm_127 : escL 127 ≠ [] ∧ hide1 127 = escL 127 ∧ (hide1 127).getD 0 0 = 92 ∧ nmI (hide1 127) = 127 ∧ ((hide1 127).length = 4 ∧ ((hide1 127).getD 1 0).toNat = 120 ∨ (hide1 127).length = 2 ∧ ((hide1 127).getD 1 0).toNat ≠ 120) := by decide +kernel

theorem esc_facts {c : Int} (h : okc c) : (escL c = [] ∧ hide1 c = [UInt8.ofNat c.toNat] ∧ plB c = true ∧ c ≠ 92) ∨
    (escL c ≠ [] ∧ hide1 c = escL c ∧ (hide1 c).getD 0 0 = 92 ∧ nmI (hide1 c) = c ∧ ((hide1 c).length = 4 ∧ ((hide1 c).getD 1 0).toNat = 120 ∨ (hide1 c).length = 2 ∧ ((hide1 c).getD 1 0).toNat ≠ 120)) := by
  obtain ⟨h0, h1⟩ := h
  by_cases a : c < 33
  · right
    obtain ⟨C, rfl⟩ := Int.eq_ofNat_of_zero_le h0
    exact nm_small C (by omega)
  · by_cases b : c = 92
    · right; subst b; exact nm_92
    · by_cases d : c = 127
      · right; subst d; exact nm_127
      · left
        have e : escL c = [] := by simp [escL, a, b, d]
        refine ⟨e, by simp [hide1, e], decide_eq_true (by omega), b⟩

theorem pre_getD {a w : List UInt8} (h : a <+: w) {i : Nat} (hi : i < a.length) : w.getD i 0 = a.getD i 0 := by
  obtain ⟨t, rfl⟩ := h
  simp [List.getD, List.getElem?_append_left hi]

/-- at the head of w stands the piece of the byte that it names -/
theorem nm_pre {c : Int} (hc : okc c) (he : escL c ≠ []) {w : List UInt8} (h : hide1 c <+: w) : w.getD 0 0 = 92 ∧ nmI w = c := by
  rcases esc_facts hc with ⟨h1, _⟩ | ⟨_, _, h3, h4, h5⟩
  · exact absurd h1 he
  · have hl := h.length_le
    rcases h5 with ⟨h6, h7⟩ | ⟨h6, h7⟩
    · have g0 := pre_getD h (i := 0) (by omega)
      have g1 := pre_getD h (i := 1) (by omega)
      have g2 := pre_getD h (i := 2) (by omega)
      have g3 := pre_getD h (i := 3) (by omega)
      refine ⟨by rw [g0, h3], ?_⟩
      unfold nmI at h4 ⊢
      rw [g1, g2, g3, if_neg (by omega)]
      rw [if_neg (by omega)] at h4
      rw [if_neg (by omega), if_neg (by omega), if_pos h7, if_neg (by omega)] at h4 ⊢
      exact h4
    · have g0 := pre_getD h (i := 0) (by omega)
      have g1 := pre_getD h (i := 1) (by omega)
      refine ⟨by rw [g0, h3], ?_⟩
      unfold nmI at h4 ⊢
      rw [g1, if_neg (by omega)]
      rw [if_neg (by omega)] at h4
      split
      · rename_i h8; rw [if_pos h8] at h4; exact h4
      · rename_i h8
        rw [if_neg h8] at h4
        split
        · rename_i h9; rw [if_pos h9] at h4; exact h4
        · rename_i h9
          rw [if_neg h9, if_neg h7] at h4
          exact h4

theorem plain_pre {c : Int} (hc : okc c) (he : escL c = []) {w : List UInt8} (h : hide1 c <+: w) : ((w.getD 0 0).toNat : Int) = c ∧ plB c = true ∧ c ≠ 92 := by
  rcases esc_facts hc with ⟨_, h2, h3, h4⟩ | ⟨h1, _⟩
  · have g0 := pre_getD h (i := 0) (by rw [h2]; simp)
    rw [h2] at g0
    refine ⟨?_, h3, h4⟩
    rw [g0]
    have := hc.1
    have := hc.2
    simp only [List.getD_cons_zero, UInt8.toNat_ofNat']; omega
  · exact absurd he h1

theorem good : Code.Good okc hide1 where
  pos := fun r => (hide1_len r).1
  one := fun r r' X h h' p p' => by
    by_cases e : escL r = []
    · have a := plain_pre h e p
      by_cases e' : escL r' = []
      · have b := plain_pre h' e' p'
        omega
      · have b := nm_pre h' e' p'
        have : ((X.getD 0 0).toNat : Int) = 92 := by rw [b.1]; rfl
        exact absurd (by omega) a.2.2
    · have a := nm_pre h e p
      by_cases e' : escL r' = []
      · have b := plain_pre h' e' p'
        have : ((X.getD 0 0).toNat : Int) = 92 := by rw [a.1]; rfl
        exact absurd (by omega) b.2.2
      · have b := nm_pre h' e' p'
        rw [← a.2, ← b.2]
end Go.Proofs.YtdicjplekbjdpabDoor.Wd
