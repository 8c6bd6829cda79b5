/- Walks of the lexer: which reading function serves where the reader stands. -/
import Derived.Test.YtegkimcfmdckbabDoorLxF
import Derived.Lib.IndexLaws
namespace Go.Proofs.YtegkimcfmdckbabDoor.Lx
open Go.RowKit Mem
set_option linter.unusedVariables false

theorem chr_single (c : UInt8) (kd lo hi : Int) (h : single c = some (kd, lo, hi)) : ∃ q, q < 6 ∧ c.toNat = chr q ∧ singles[q]? = some (kd, lo, hi) ∧ smB c = false ∧ c.toNat ≠ 123 := by
  unfold single at h
  repeat' split at h
  all_goals first
    | (simp only [Option.some.injEq, Prod.mk.injEq] at h
       obtain ⟨rfl, rfl, rfl⟩ := h
       rename_i hc
       first
         | exact ⟨0, by omega, hc, rfl, by simp [smB, hc], by omega⟩
         | exact ⟨1, by omega, hc, rfl, by simp [smB, hc], by omega⟩
         | exact ⟨2, by omega, hc, rfl, by simp [smB, hc], by omega⟩
         | exact ⟨3, by omega, hc, rfl, by simp [smB, hc], by omega⟩
         | exact ⟨4, by omega, hc, rfl, by simp [smB, hc], by omega⟩
         | exact ⟨5, by omega, hc, rfl, by simp [smB, hc], by omega⟩)
    | simp at h
theorem idx_some (c : UInt8) (q : Nat) (hq : q < 6) (h : c.toNat = chr q) : 0 ≤ Lib.indexByte [40, 41, 124, 42, 43, 63] c := by
  have h1 := Lib.indexByte_ge [40, 41, 124, 42, 43, 63] c
  rcases Int.lt_or_le (Lib.indexByte [40, 41, 124, 42, 43, 63] c) 0 with h2 | h2
  · exfalso
    have h0 : Lib.indexByte [40, 41, 124, 42, 43, 63] c = -1 := by omega
    have hn := Lib.indexByte_none h0 q
    have hp' : q = 0 ∨ q = 1 ∨ q = 2 ∨ q = 3 ∨ q = 4 ∨ q = 5 := by omega
    rcases hp' with rfl | rfl | rfl | rfl | rfl | rfl
    · exact hn (congrArg some (UInt8.toNat_inj.1 h.symm))
    · exact hn (congrArg some (UInt8.toNat_inj.1 h.symm))
    · exact hn (congrArg some (UInt8.toNat_inj.1 h.symm))
    · exact hn (congrArg some (UInt8.toNat_inj.1 h.symm))
    · exact hn (congrArg some (UInt8.toNat_inj.1 h.symm))
    · exact hn (congrArg some (UInt8.toNat_inj.1 h.symm))
  · exact h2
theorem idx_none (c : UInt8) (h : single c = none) : Lib.indexByte [40, 41, 124, 42, 43, 63] c = -1 := by
  have h1 := Lib.indexByte_ge [40, 41, 124, 42, 43, 63] c
  rcases Int.lt_or_le (Lib.indexByte [40, 41, 124, 42, 43, 63] c) 0 with h2 | h2
  · omega
  · exfalso
    obtain ⟨o, ho⟩ : ∃ o : Nat, Lib.indexByte [40, 41, 124, 42, 43, 63] c = o := ⟨_, (Int.toNat_of_nonneg h2).symm⟩
    have hs := (Lib.indexByte_some ho).1
    have h5 : o < 6 := by
      rcases Nat.lt_or_ge o 6 with h3 | h3
      · exact h3
      · rw [List.getElem?_eq_none (by simpa using h3)] at hs; cases hs
    have hp' : o = 0 ∨ o = 1 ∨ o = 2 ∨ o = 3 ∨ o = 4 ∨ o = 5 := by omega
    rcases hp' with rfl | rfl | rfl | rfl | rfl | rfl <;> (simp at hs; subst hs; revert h; decide)

set_option maxHeartbeats 1000000 in
theorem begun_any (b : Nat) (s : ByteArray) (k : Nat) (w : World) (r : Rd w b s k) (hk : k < s.size) (hs : s.size ≤ 100000) (v : Value)
    (hv : (smB s[k] = true ∧ v = .func (.func 58) #[.pointer (some ⟨b, 0, none⟩)] #[]) ∨ (smB s[k] = false ∧ s[k].toNat = 123 ∧ v = .func (.func 59) #[.pointer (some ⟨b, 0, none⟩)] #[])
      ∨ (smB s[k] = false ∧ s[k].toNat ≠ 123 ∧ (∃ q, q < 6 ∧ s[k].toNat = chr q) ∧ v = .func (.func 61) #[.pointer (some ⟨b, 0, none⟩)] #[]) ∨ (smB s[k] = false ∧ s[k].toNat ≠ 123 ∧ single s[k] = none ∧ v = .nilFunc)) :
    Calls Tryd.prog 40 #[.pointer (some ⟨b, 0, none⟩)] w fun e w' => e = .returned v ∧ ∃ n, w' = w.drewN n := by
  have hmf : ∀ (fn : Fn) (first cap : Array Value) (w : World), (Instr.makeFunc fn first cap).run Tryd.prog w = .ok (.func fn first cap) w := fun _ _ _ _ => rfl
  have c0 := r.c0
  have c1 := r.c1
  have i0 : (0 : Int) ≤ (k : Int) := by omega
  have i1 : (k : Int) < (s.size : Int) := by omega
  have hb := s[k].toNat_lt
  have HL0 := fun W => letter_any (s[k].toNat : Int) W (by omega) (by omega)
  rw [smI_nat] at HL0
  have hcu : ((s[k].toNat : Int)).toNat.toUInt8 = s[k] := by simp
  have HI := hide (fun W => (Tryd.strings_IndexByte ⟨#[40, 41, 124, 42, 43, 63]⟩ (s[k].toNat : Int) W))
  rw [hcu] at HI
  clear r hcu
  rcases hv with ⟨h1, rfl⟩ | ⟨h1, h2, rfl⟩ | ⟨h1, h2, ⟨q, hq, h3⟩, rfl⟩ | ⟨h1, h2, h3, rfl⟩
  · rw [h1] at HL0
    have HL := Lib.hid HL0
    clear HL0 h1
    go_enter Tryd.func40, Tryd.ntmps40
    go_wp2_with fail
    go_quiet (fail)
    go_wp2_with (first | (go_at_call 57; refine (HL.out _).mono ?_; rintro e w2 ⟨rfl, rfl⟩))
    go_ret
    exact ⟨rfl, _, rfl⟩
  · rw [h1] at HL0
    have HL := Lib.hid HL0
    clear HL0 h1
    have t1 : ((s[k].toNat : Int) == 123) = true := by simp; omega
    clear h2
    go_enter Tryd.func40, Tryd.ntmps40
    go_wp2_with fail
    go_quiet (fail)
    go_wp2_with (first | (go_at_call 57; refine (HL.out _).mono ?_; rintro e w2 ⟨rfl, rfl⟩))
    go_ret
    exact ⟨rfl, _, rfl⟩
  · rw [h1] at HL0
    have HL := Lib.hid HL0
    clear HL0 h1
    have t1 : ((s[k].toNat : Int) == 123) = false := by simp; omega
    have h4 := idx_some s[k] q hq h3
    obtain ⟨I, hI⟩ : ∃ I, I = Lib.indexByte [40, 41, 124, 42, 43, 63] s[k] := ⟨_, rfl⟩
    have e3 : Lib.indexByte (ByteArray.mk #[40, 41, 124, 42, 43, 63]).data.toList s[k] = I := hI.symm
    simp only [e3] at HI
    rw [← hI] at h4
    have t2 : decide (0 ≤ I) = true := by simpa using h4
    clear h2 h3 hI e3
    go_enter Tryd.func40, Tryd.ntmps40
    go_wp2_with fail
    go_quiet (fail)
    go_wp2_with (first | (go_at_call 57; refine (HL.out _).mono ?_; rintro e w2 ⟨rfl, rfl⟩) | (go_at_call 60; refine (HI.out _).mono ?_; rintro e w3 ⟨rfl, rfl⟩))
    go_ret
    exact ⟨rfl, _, rfl⟩
  · rw [h1] at HL0
    have HL := Lib.hid HL0
    clear HL0 h1
    have t1 : ((s[k].toNat : Int) == 123) = false := by simp; omega
    have h4 := idx_none s[k] h3
    have e3 : Lib.indexByte (ByteArray.mk #[40, 41, 124, 42, 43, 63]).data.toList s[k] = -1 := h4
    simp only [e3] at HI
    clear h2 h3 h4 e3
    go_enter Tryd.func40, Tryd.ntmps40
    go_wp2_with fail
    go_quiet (fail)
    go_wp2_with (first | (go_at_call 57; refine (HL.out _).mono ?_; rintro e w2 ⟨rfl, rfl⟩) | (go_at_call 60; refine (HI.out _).mono ?_; rintro e w3 ⟨rfl, rfl⟩))
    go_ret
    exact ⟨rfl, _, rfl⟩
end Go.Proofs.YtegkimcfmdckbabDoor.Lx
