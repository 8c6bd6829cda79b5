/- Walks of words: Split, and its reference. -/
import Derived.Test.YtdicjplekbjdpabDoorWdM
import Derived.Test.YtdicjplekbjdpabDoorWdG
import Derived.Lib.Join
import Derived.Lib.Strings
namespace Go.Proofs.YtdicjplekbjdpabDoor.Wd
open Go.RowKit Go.Sort Mem
set_option linter.unusedVariables false

/-- the words that end ahead of place k, and where the next one begins; none, if a byte ahead of k is wrong -/
def stS (s : ByteArray) : Nat → Option (List ByteArray × Nat)
  | 0 => some ([], 0)
  | k + 1 => match stS s k with
    | none => none
    | some (ws, b) => if plB ((s.data.toList.getD k 0).toNat : Int) = true then some (ws, b) else if (s.data.toList.getD k 0).toNat ≠ 32 ∨ k = b then none else some (ws ++ [s.extract b k], k + 1)
/-- a line's words; none, if it is wrong -/
def fin (s : ByteArray) : Option (List ByteArray) :=
  if s.size = 0 then some [] else match stS s s.size with
    | none => none
    | some (ws, b) => if b = s.size then none else some (ws ++ [s.extract b s.size])
theorem stS_none {s : ByteArray} {k : Nat} (h : stS s k = none) : ∀ m, stS s (k + m) = none
  | 0 => h
  | m + 1 => by
    show stS s ((k + m) + 1) = none
    unfold stS
    rw [stS_none h m]
theorem fin_none {s : ByteArray} {k : Nat} (hk : k ≤ s.size) (h0 : s.size ≠ 0) (h : stS s k = none) : fin s = none := by
  have := stS_none h (s.size - k)
  rw [show k + (s.size - k) = s.size from by omega] at this
  unfold fin
  rw [if_neg h0, this]
theorem stS_le (s : ByteArray) : ∀ k ws b, stS s k = some (ws, b) → b ≤ k ∧ ws.length ≤ b
  | 0, ws, b, h => by simp [stS] at h; obtain ⟨rfl, rfl⟩ := h; exact ⟨Nat.le_refl _, Nat.le_refl _⟩
  | k + 1, ws, b, h => by
    unfold stS at h
    split at h
    · cases h
    · rename_i ws' b' he
      have := stS_le s k ws' b' he
      split at h
      · injection h with h; injection h with h1 h2; subst h1; subst h2; omega
      · split at h
        · cases h
        · injection h with h; injection h with h1 h2; subst h1; subst h2; simp; omega
/-- the words, each with the blank behind it, are the line up to where the next word begins -/
theorem stS_flat (s : ByteArray) : ∀ k, k ≤ s.size → ∀ ws b, stS s k = some (ws, b) → (ws.map (fun w => w.data.toList ++ [32])).flatten = s.data.toList.take b
  | 0, _, ws, b, h => by simp [stS] at h; obtain ⟨rfl, rfl⟩ := h; simp
  | k + 1, hk, ws, b, h => by
    unfold stS at h
    split at h
    · cases h
    · rename_i ws' b' he
      have ih := stS_flat s k (by omega) ws' b' he
      have hle := stS_le s k ws' b' he
      split at h
      · injection h with h; injection h with h1 h2; subst h1; subst h2; exact ih
      · split at h
        · cases h
        · rename_i hn
          injection h with h; injection h with h1 h2; subst h1; subst h2
          have h32 : (s.data.toList.getD k 0).toNat = 32 := by omega
          have hc : s.data.toList.getD k 0 = 32 := UInt8.toNat_inj.1 h32
          have hlen := slen s
          rw [List.map_append, List.flatten_append, ih]
          simp only [List.map_cons, List.map_nil, List.flatten_cons, List.flatten_nil, List.append_nil]
          have hk' : k < s.data.toList.length := by omega
          have hcc : s.data.toList[k] = 32 := by rw [← hc]; simp [List.getD, List.getElem?_eq_getElem hk']
          rw [Lib.extract_data, ← List.append_assoc, ← List.take_add, show b' + (k - b') = k from by omega, List.take_succ_eq_append_getElem hk', hcc]
theorem join_snoc (x : List UInt8) : ∀ ws : List (List UInt8), Lib.join (ws ++ [x]) [32] = (ws.map (· ++ [32])).flatten ++ x
  | [] => by simp [Lib.join_one]
  | y :: ws => by
    have ih := join_snoc x ws
    rw [List.cons_append, Lib.join_cons]
    have : ∀ r : List (List UInt8), r ≠ [] → Lib.joinTail [32] r = [32] ++ Lib.join r [32] := fun r hr => by
      cases r with
      | nil => exact absurd rfl hr
      | cons z r => rw [Lib.join_cons]; simp [Lib.joinTail]
    rw [this _ (by simp), ih]
    simp
theorem fin_join {s : ByteArray} {ws : List ByteArray} (h : fin s = some ws) : Lib.join (ws.map (·.data.toList)) [32] = s.data.toList := by
  unfold fin at h
  split at h
  · rename_i h0
    injection h with h; subst h
    have := slen s
    rw [List.eq_nil_of_length_eq_zero (by omega : s.data.toList.length = 0)]; rfl
  · split at h
    · cases h
    · rename_i ws' b he
      split at h
      · cases h
      · injection h with h; subst h
        have h1 := stS_flat s s.size (Nat.le_refl _) ws' b he
        rw [List.map_append, List.map_cons, List.map_nil, join_snoc, List.map_map]
        rw [show (fun x => x ++ [32]) ∘ (fun x : ByteArray => x.data.toList) = fun w : ByteArray => w.data.toList ++ [32] from rfl, h1, Lib.extract_data, List.take_of_length_le (l := s.data.toList.drop b) (by rw [List.length_drop, slen]; omega), List.take_append_drop]
end Go.Proofs.YtdicjplekbjdpabDoor.Wd
