/- Walks of words: digit, named, first. -/
import Derived.Test.YtdicjplekbjdpabDoorWdH
import Derived.Test.YtdicjplekbjdpabDoorWdF
import Derived.BigQuiet
namespace Go.Proofs.YtdicjplekbjdpabDoor.Wd
open Go.RowKit Go.Sort Mem
set_option linter.unusedVariables false

theorem and15N : ∀ X : Nat, X < 256 → bits .and .u8 (X : Int) 15 = (X : Int) % 16 := by decide +kernel
theorem and15 (x : Int) (h0 : 0 ≤ x) (h1 : x < 256) : bits .and .u8 x 15 = x % 16 := by
  obtain ⟨X, rfl⟩ := Int.eq_ofNat_of_zero_le h0
  exact and15N X (by omega)
theorem or16N : ∀ X : Nat, X < 16 → ∀ Y : Nat, Y < 16 → bits .or .u8 ((X : Int) * 16) (Y : Int) = 16 * (X : Int) + (Y : Int) := by decide +kernel
theorem or16 (x y : Int) (h0 : 0 ≤ x) (h1 : x < 16) (h2 : 0 ≤ y) (h3 : y < 16) : bits .or .u8 (x * 16) y = 16 * x + y := by
  obtain ⟨X, rfl⟩ := Int.eq_ofNat_of_zero_le h0
  obtain ⟨Y, rfl⟩ := Int.eq_ofNat_of_zero_le h2
  exact or16N X (by omega) Y (by omega)
theorem dgI_rng (c : Int) : 0 ≤ dgI c ∧ dgI c < 16 := by unfold dgI; split <;> omega

theorem digit_any (c : Int) (h0 : 0 ≤ c) (h1 : c ≤ 255) (w : World) : Calls Tryd.prog 48 #[.int .u8 c] w fun e w' => e = .returned (.int .u8 (dgI c)) ∧ w = w' := by
  by_cases a : 97 ≤ c
  · have hb := and15 (c - 97 + 10) (by omega) (by omega)
    have E : Hid (dgI c = (c - 97 + 10) % 16) := by show _ = _; unfold dgI; rw [if_pos a]
    go_enter Tryd.func48, Tryd.ntmps48
    go_wp2
    go_ret
    exact ⟨by rw [E.out]; rfl, rfl⟩
  · have hx' : IntKind.u8.wrap (c - 48) = (c - 48) % 256 := by rw [IntKind.wrap_u8']
    have hb := and15 ((c - 48) % 256) (by omega) (by omega)
    have E : Hid (dgI c = (c - 48) % 16) := by show _ = _; unfold dgI; rw [if_neg a]
    go_enter Tryd.func48, Tryd.ntmps48
    go_wp2
    go_ret
    exact ⟨by rw [E.out]; rfl, rfl⟩
theorem byte_rng (c : UInt8) : 0 ≤ (c.toNat : Int) ∧ (c.toNat : Int) ≤ 255 := by have := c.toNat_lt; omega
theorem digit_q (c : UInt8) (w : World) : Calls Tryd.prog 48 #[.int .u8 (c.toNat : Int)] w fun e w' => e = .returned (.int .u8 (dgI (c.toNat : Int))) ∧ w' = w :=
  (digit_any _ (byte_rng c).1 (byte_rng c).2 w).mono fun _ _ ⟨he, hw⟩ => ⟨he, hw.symm⟩

def NmdIs (l : List UInt8) (w : World) (e : Ending) (w' : World) : Prop := e = .returned (.int .u8 (nmI l)) ∧ ∃ m, w' = w.drewN m

set_option maxHeartbeats 1000000 in
theorem named_any (s : ByteArray) (w : World) :
    Calls Tryd.prog 38 #[.string s] w (NmdIs s.data.toList w) := by
  obtain ⟨l, hl⟩ : ∃ l, l = s.data.toList := ⟨_, rfl⟩
  have hlen : l.length = s.size := by rw [hl]; exact slen s
  have hget : ∀ k (h : k < s.size), s[k] = l.getD k 0 := fun k h => by rw [hl]; exact sget s k h
  rw [← hl]
  have HG := hide hget
  have HL := Lib.hid hlen
  clear hl hlen hget
  by_cases h2 : s.size < 2
  · have E : Hid (nmI l = 0) := by show _ = _; unfold nmI; rw [if_pos (by have := HL.out; omega)]
    go_enter Tryd.func38, Tryd.ntmps38
    go_wp2
    go_ret
    exact ⟨by rw [E.out]; rfl, 0, rfl⟩
  have g1 := (unhide HG) 1 (by omega)
  have hb1 := byte_rng s[1]
  have E0 : Hid (¬ l.length < 2) := by show ¬ _; rw [HL.out]; exact h2
  by_cases h115 : (s[1]).toNat = 115
  · have E : Hid (nmI l = 32) := by show _ = _; unfold nmI; rw [if_neg E0.out, ← g1, if_pos h115]
    have t0 : (((s[1]).toNat : Int) == 115) = true := by rw [h115]; rfl
    clear g1 h115
    go_enter Tryd.func38, Tryd.ntmps38
    go_wp2
    go_ret
    exact ⟨by rw [E.out]; rfl, 0, rfl⟩
  have t0 : (((s[1]).toNat : Int) == 115) = false := by rw [beq_eq_false_iff_ne]; omega
  by_cases h110 : (s[1]).toNat = 110
  · have E : Hid (nmI l = 10) := by show _ = _; unfold nmI; rw [if_neg E0.out, ← g1, if_neg h115, if_pos h110]
    have t1 : (((s[1]).toNat : Int) == 110) = true := by rw [h110]; rfl
    clear g1 h115 h110
    go_enter Tryd.func38, Tryd.ntmps38
    go_wp2
    go_ret
    exact ⟨by rw [E.out]; rfl, 0, rfl⟩
  have t1 : (((s[1]).toNat : Int) == 110) = false := by rw [beq_eq_false_iff_ne]; omega
  by_cases h120 : (s[1]).toNat = 120
  · have t2 : (((s[1]).toNat : Int) == 120) = true := by rw [h120]; rfl
    by_cases h4 : s.size < 4
    · have E : Hid (nmI l = 0) := by show _ = _; unfold nmI; rw [if_neg E0.out, ← g1, if_neg h115, if_neg h110, if_pos h120, if_pos (by rw [HL.out]; exact h4)]
      clear g1 h115 h110 h120
      go_enter Tryd.func38, Tryd.ntmps38
      go_wp2
      go_ret
      exact ⟨by rw [E.out]; rfl, 0, rfl⟩
    · have g2 := (unhide HG) 2 (by omega)
      have g3 := (unhide HG) 3 (by omega)
      have hb2 := byte_rng s[2]
      have hb3 := byte_rng s[3]
      have hxr := dgI_rng (s[2]).toNat
      have hyr := dgI_rng (s[3]).toNat
      have E : Hid (nmI l = (16 : Int) * dgI ((s[2]).toNat : Int) + dgI ((s[3]).toNat : Int)) := by show _ = _; unfold nmI; rw [if_neg E0.out, ← g1, if_neg h115, if_neg h110, if_pos h120, if_neg (by rw [HL.out]; exact h4), ← g2, ← g3]
      have q2 : (2 : Int) < s.size := by omega
      have q2' : 2 < s.size := by omega
      have q3 : (3 : Int) < s.size := by omega
      have q3' : 3 < s.size := by omega
      have hor := or16 (dgI (s[2]).toNat) (dgI (s[3]).toNat) (by omega) (by omega) (by omega) (by omega)
      clear g1 g2 g3 h115 h110 h120
      go_enter Tryd.func38, Tryd.ntmps38
      go_wp2_with fail
      go_quiet (first | (go_at_call 48; refine Calls.quiet_of_same (digit_q _ _)))
      go_wp2
      go_ret
      exact ⟨by rw [E.out, ← hor]; rfl, _, rfl⟩
  have t2 : (((s[1]).toNat : Int) == 120) = false := by rw [beq_eq_false_iff_ne]; omega
  have E : Hid (nmI l = (s[1]).toNat) := by show _ = _; unfold nmI; rw [if_neg E0.out, ← g1, if_neg h115, if_neg h110, if_neg h120]
  clear g1 h115 h110 h120
  go_enter Tryd.func38, Tryd.ntmps38
  go_wp2
  go_ret
  exact ⟨by rw [E.out]; rfl, 0, rfl⟩

theorem nmI_rng (l : List UInt8) : 0 ≤ nmI l ∧ nmI l ≤ 255 := by
  have a := dgI_rng (l.getD 2 0).toNat
  have b := dgI_rng (l.getD 3 0).toNat
  have c := byte_rng (l.getD 1 0)
  unfold nmI
  split
  · omega
  split
  · omega
  split
  · omega
  split
  · split <;> omega
  · omega

theorem first_a {l : List UInt8} (hl : 0 < l.length) (h92 : (l.getD 0 0).toNat ≠ 92) (hp : plB ((l.getD 0 0).toNat : Int) = true) :
    okc ((l.getD 0 0).toNat : Int) ∧ hide1 ((l.getD 0 0).toNat : Int) <+: l ∧ (hide1 ((l.getD 0 0).toNat : Int)).length = 1 := by
  have h := of_decide_eq_true (show decide (32 < ((l.getD 0 0).toNat : Int) ∧ ((l.getD 0 0).toNat : Int) ≠ 127) = true from hp)
  have e : escL ((l.getD 0 0).toNat : Int) = [] := by unfold escL; rw [if_neg (by omega), if_neg (by omega), if_neg h.2]
  have e2 : hide1 ((l.getD 0 0).toNat : Int) = [l.getD 0 0] := by unfold hide1; rw [if_pos e, Int.toNat_natCast, UInt8.ofNat_toNat]
  refine ⟨byte_rng _, ?_, by rw [e2]; rfl⟩
  rw [e2]
  cases l with
  | nil => simp at hl
  | cons a t => exact ⟨t, rfl⟩
theorem first_a' {l : List UInt8} (h92 : (l.getD 0 0).toNat ≠ 92) (hp : plB ((l.getD 0 0).toNat : Int) = false) : ∀ c, okc c → ¬ hide1 c <+: l := fun c hc h => by
  by_cases e : escL c = []
  · have a := plain_pre hc e h
    rw [a.1] at hp
    rw [hp] at a
    exact absurd a.2.1 (by decide)
  · have a := nm_pre hc e h
    exact h92 (by rw [a.1]; rfl)
theorem first_b {l : List UInt8} (he : escL (nmI l) ≠ []) (hp : escL (nmI l) <+: l) : okc (nmI l) ∧ hide1 (nmI l) <+: l ∧ hide1 (nmI l) = escL (nmI l) := by
  have e : hide1 (nmI l) = escL (nmI l) := by unfold hide1; rw [if_neg he]
  exact ⟨nmI_rng l, by rw [e]; exact hp, e⟩
theorem first_b' {l : List UInt8} (h92 : (l.getD 0 0).toNat = 92) (hn : escL (nmI l) = [] ∨ ¬ escL (nmI l) <+: l) : ∀ c, okc c → ¬ hide1 c <+: l := fun c hc h => by
  by_cases e : escL c = []
  · have a := plain_pre hc e h
    rw [h92] at a
    exact a.2.2 (by rw [← a.1]; rfl)
  · have a := nm_pre hc e h
    rcases hn with h1 | h1
    · rw [a.2] at h1; exact e h1
    · rw [a.2] at h1
      have : hide1 c = escL c := by unfold hide1; rw [if_neg e]
      rw [this] at h; exact h1 h

/-- the byte whose piece stands at the head, and the piece's length; none, and 0 -/
def FstIs (l : List UInt8) (w : World) (e : Ending) (w' : World) : Prop :=
  (∃ m, w' = w.drewN m) ∧ ((∃ c, okc c ∧ hide1 c <+: l ∧ e = .returned (.tuple #[.int .u8 c, .int .i64 (hide1 c).length])) ∨
    ((∀ c, okc c → ¬ hide1 c <+: l) ∧ e = .returned (.tuple #[.int .u8 0, .int .i64 0])))

theorem named_at {l : List UInt8} (s : ByteArray) (hl : l = s.data.toList) (w : World) : Calls Tryd.prog 38 #[.string s] w (NmdIs l w) := hl ▸ named_any s w
theorem drew_zero (w : World) : ∃ m, w = w.drewN m := ⟨0, rfl⟩

set_option maxHeartbeats 1000000 in
theorem first_any (s : ByteArray) (w : World) (hs : 0 < s.size) (H : Held w) : Calls Tryd.prog 32 #[.string s] w (FstIs s.data.toList w) := by
  obtain ⟨l, hl⟩ : ∃ l, l = s.data.toList := ⟨_, rfl⟩
  have hlen : l.length = s.size := by rw [hl]; exact slen s
  have g0 : s[0] = l.getD 0 0 := by rw [hl]; exact sget s 0 hs
  rw [← hl]
  have HH := hide H
  have HL := Lib.hid hlen
  have hs' : (0 : Int) < s.size := by omega
  have HLS := Lib.hid hl
  have G0 := Lib.hid g0
  have hb0 := byte_rng s[0]
  clear H hl hlen g0
  by_cases h92 : (s[0]).toNat = 92
  · have t0 : (((s[0]).toNat : Int) != 92) = false := by rw [h92]; rfl
    have E92 : Hid ((l.getD 0 0).toNat = 92) := by show _ = _; rw [← G0.out]; exact h92
    obtain ⟨c, hc⟩ : ∃ c, c = nmI l := ⟨_, rfl⟩
    obtain ⟨S, hS⟩ : ∃ S : ByteArray, S = ⟨(escL c).toArray⟩ := ⟨_, rfl⟩
    have HC := Lib.hid hc
    have HS := Lib.hid hS
    have hcr := nmI_rng l
    rw [← hc] at hcr
    have hSl : S.data.toList = escL c := by rw [hS]
    have HSL := Lib.hid hSl
    by_cases he : escL c = []
    · have HE := Lib.hid he
      have hno := first_b' E92.out (.inl (by rw [← HC.out]; exact HE.out))
      have HN := hide hno
      clear h92 hc hS hSl he hno
      go_enter Tryd.func32, Tryd.ntmps32
      go_wp2_with (first
        | (go_at_call 38; refine (named_at s HLS.out _).mono ?_; intro e w1 hnm; obtain ⟨hnm, m1, rfl⟩ := hnm; rw [← HC.out] at hnm; subst hnm)
        | (go_at_call 28; refine (esc_none c hcr.1 hcr.2 HE.out _ ((unhide HH).below (Mem.below_drewN (Below.refl _ _) _))).mono ?_; rintro e w1 ⟨rfl, rfl⟩))
      go_ret2
      exact ⟨⟨_, rfl⟩, .inr ⟨unhide HN, rfl⟩⟩
    · have t1 : (S.toList == []) = false := by rw [ByteArray.toList_eq, hSl]; simpa using he
      have t2 : S.toList.isEmpty = false := by rw [ByteArray.toList_eq, hSl]; simpa using he
      have hlenS : (S.size : Int) = ((escL c).length : Int) := by rw [hS]; simp [ByteArray.size]
      have HE := Lib.hid he
      have HLE := Lib.hid hlenS
      cases hq : Lib.hasPrefix l (escL c)
      · have hno := first_b' E92.out (.inr (by rw [← HC.out]; intro h; rw [Lib.hasPrefix, List.isPrefixOf_iff_prefix.2 h] at hq; cases hq))
        have HN := hide hno
        have HQ := Lib.hid hq
        clear h92 hc hS hSl he hno hq hlenS
        go_enter Tryd.func32, Tryd.ntmps32
        go_wp2_with (first
          | (go_at_call 38; refine (named_at s HLS.out _).mono ?_; intro e w1 hnm; obtain ⟨hnm, m1, rfl⟩ := hnm; rw [← HC.out] at hnm; subst hnm)
          | (go_at_call 28; refine (esc_some c hcr.1 hcr.2 S HS.out _ ((unhide HH).below (Mem.below_drewN (Below.refl _ _) _))).mono ?_; rintro e w1 ⟨rfl, rfl⟩)
          | (go_at_call 39; refine (Tryd.strings_HasPrefix s S _).mono ?_; rw [HSL.out, ← HLS.out, HQ.out]; rintro e w1 ⟨rfl, rfl⟩))
        go_ret2
        exact ⟨⟨_, rfl⟩, .inr ⟨unhide HN, rfl⟩⟩
      · have hb := first_b (l := l) (by rw [← HC.out]; exact HE.out) (by rw [← HC.out]; exact List.isPrefixOf_iff_prefix.1 hq)
        rw [← hc] at hb
        have HB := hide hb
        have HQ := Lib.hid hq
        clear h92 hc hS hSl he hb hq hlenS
        go_enter Tryd.func32, Tryd.ntmps32
        go_wp2_with (first
          | (go_at_call 38; refine (named_at s HLS.out _).mono ?_; intro e w1 hnm; obtain ⟨hnm, m1, rfl⟩ := hnm; rw [← HC.out] at hnm; subst hnm)
          | (go_at_call 28; refine (esc_some c hcr.1 hcr.2 S HS.out _ ((unhide HH).below (Mem.below_drewN (Below.refl _ _) _))).mono ?_; rintro e w1 ⟨rfl, rfl⟩)
          | (go_at_call 39; refine (Tryd.strings_HasPrefix s S _).mono ?_; rw [HSL.out, ← HLS.out, HQ.out]; rintro e w1 ⟨rfl, rfl⟩))
        go_ret2
        exact ⟨⟨_, rfl⟩, .inl ⟨c, (unhide HB).1, (unhide HB).2.1, by rw [(unhide HB).2.2, ← HLE.out]; rfl⟩⟩
  · have t0 : (((s[0]).toNat : Int) != 92) = true := by simp; omega
    have E92 : Hid ((l.getD 0 0).toNat ≠ 92) := by show _ ≠ _; rw [← G0.out]; exact h92
    cases hp : plB ((s[0]).toNat : Int)
    · have hno := first_a' E92.out (by rw [← G0.out]; exact hp)
      have HN := hide hno
      have HP := Lib.hid hp
      clear h92 hno hp
      go_enter Tryd.func32, Tryd.ntmps32
      go_wp2_with (first
        | (go_at_call 22; refine (plain_is HP.out hb0.1 hb0.2 _).mono ?_; rintro e w1 ⟨rfl, rfl⟩))
      go_ret2
      exact ⟨drew_zero _, .inr ⟨unhide HN, rfl⟩⟩
    · have hb := first_a (l := l) (by rw [HL.out]; exact hs) E92.out (by rw [← G0.out]; exact hp)
      rw [← G0.out] at hb
      have HB := hide hb
      have HP := Lib.hid hp
      clear h92 hb hp
      go_enter Tryd.func32, Tryd.ntmps32
      go_wp2_with (first
        | (go_at_call 22; refine (plain_is HP.out hb0.1 hb0.2 _).mono ?_; rintro e w1 ⟨rfl, rfl⟩))
      go_ret2
      exact ⟨drew_zero _, .inl ⟨_, (unhide HB).1, (unhide HB).2.1, by rw [(unhide HB).2.2]; rfl⟩⟩
end Go.Proofs.YtdicjplekbjdpabDoor.Wd
