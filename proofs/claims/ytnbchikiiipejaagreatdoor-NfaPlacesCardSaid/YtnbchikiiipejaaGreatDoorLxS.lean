/- Walks of the reference of the lexer: what bytes are; a number. -/
import Derived.Test.YtnbchikiiipejaaGreatDoorLxEnds
import Derived.Deep.Cut
set_option linter.unusedVariables false
set_option maxRecDepth 100000
set_option maxHeartbeats 2000000
namespace Go.Proofs.YtnbchikiiipejaaGreatDoor.Lx
open Go.RowKit Mem
theorem rsmall_any : Tells 204 smI := by
 intro c w h0 h1
 by_cases a : 97 ≤ c
 ·by_cases b : c ≤ 122
  ·have E : Hid (smI c = true) := by show _ = _; simp [smI, a, b]
   go_enter Tryz.func204, Tryz.ntmps204
   go_wp2
   go_ret
   exact ⟨by rw [E.out]; rfl, rfl⟩
  ·have E : Hid (smI c = false) := by show _ = _; simp [smI, b]
   have d : decide (c ≤ 122) = false := by simpa using b
   clear b
   go_enter Tryz.func204, Tryz.ntmps204
   go_wp2
   go_ret
   exact ⟨by rw [E.out]; rfl, rfl⟩
 ·have E : Hid (smI c = false) := by show _ = _; simp [smI, a]
  have d : decide (97 ≤ c) = false := by simpa using a
  clear a
  go_enter Tryz.func204, Tryz.ntmps204
  go_wp2
  go_ret
  exact ⟨by rw [E.out]; rfl, rfl⟩
theorem rdigit_any : Tells 205 dgI := by
 intro c w h0 h1
 by_cases a : 48 ≤ c
 ·by_cases b : c ≤ 57
  ·have E : Hid (dgI c = true) := by show _ = _; simp [dgI, a, b]
   go_enter Tryz.func205, Tryz.ntmps205
   go_wp2
   go_ret
   exact ⟨by rw [E.out]; rfl, rfl⟩
  ·have E : Hid (dgI c = false) := by show _ = _; simp [dgI, b]
   have d : decide (c ≤ 57) = false := by simpa using b
   clear b
   go_enter Tryz.func205, Tryz.ntmps205
   go_wp2
   go_ret
   exact ⟨by rw [E.out]; rfl, rfl⟩
 ·have E : Hid (dgI c = false) := by show _ = _; simp [dgI, a]
  have d : decide (48 ≤ c) = false := by simpa using a
  clear a
  go_enter Tryz.func205, Tryz.ntmps205
  go_wp2
  go_ret
  exact ⟨by rw [E.out]; rfl, rfl⟩
theorem rwrong_end (s : ByteArray) (k : Nat) (hk : s.size ≤ k) (hs : s.size ≤ 9223372036854775807) (hk2 : k ≤ 9223372036854775807) (w : World) :
  Calls Tryz.prog 241 #[.string s, .int .i64 k] w fun e w' => e = .returned (.tuple #[.int .i64 s.size, .int .i64 5]) ∧ w' = w := by
 have d : decide (s.size ≤ k) = true := by simpa using hk
 go_enter Tryz.func241, Tryz.ntmps241
 go_wp2
 go_ret2
 exact ⟨rfl, rfl⟩
theorem rwrong_in (s : ByteArray) (k : Nat) (hk : k < s.size) (hs : s.size ≤ 9223372036854775807) (w : World) :
  Calls Tryz.prog 241 #[.string s, .int .i64 k] w fun e w' => e = .returned (.tuple #[.int .i64 k, .int .i64 2]) ∧ w' = w := by
 have d : decide (s.size ≤ k) = false := by simpa using hk
 go_enter Tryz.func241, Tryz.ntmps241
 go_wp2
 go_ret2
 exact ⟨rfl, rfl⟩
def numR (r : Res Nat) : Value :=
 match r with
 | .ok n to => .tuple #[.int .i64 n, .int .i64 to]
 | .bad p _ => .tuple #[.int .i64 (-1), .int .i64 p]
theorem dg_of {s : ByteArray} {k : Nat} {b : Bool} (hk : k < s.size) (hd : dgI (s[k].toNat : Int) = b) (w : World) : Calls Tryz.prog 205 #[.int .u8 (s[k].toNat : Int)] w fun e w' => e = .returned (.bool b) ∧ w' = w := by
 have hb := s[k].toNat_lt
 have := rdigit_any (s[k].toNat : Int) w (by omega) (by omega)
 rwa [hd] at this
theorem rnum_any (s : ByteArray) (k : Nat) (hk : k ≤ s.size) (hs : s.size ≤ 9223372036854775807) (w : World) :
  Calls Tryz.prog 240 #[.string s, .int .i64 k] w fun e w' => e = .returned (numR (num (s.data.toList.drop k) k)) ∧ w' = w := by
 obtain ⟨R, hR⟩ : ∃ R, R = numR (num (s.data.toList.drop k) k) := ⟨_, rfl⟩
 rw [← hR]
 by_cases hlt : k < s.size
 ·have d0 : decide (s.size ≤ k) = false := by simpa using hlt
  have i0 : (0 : Int) ≤ (k : Int) := by omega
  have i1 : (k : Int) < (s.size : Int) := by omega
  have hb := s[k].toNat_lt
  rw [drop_cons s k hlt] at hR
  cases hd : dgI (s[k].toNat : Int) with
  | false =>
   have HD := hide (dg_of hlt hd)
   have HE : Hid (R = .tuple #[.int .i64 (-1), .int .i64 k]) := by
    show _ = _; rw [dgI_nat] at hd; rw [hR]; simp [num, hd, numR]
   clear hR hd
   go_enter Tryz.func240, Tryz.ntmps240
   go_wp2_with (go_at_call 205; (with_reducible refine (HD.out _).mono ?_); rintro e w1 ⟨rfl, rfl⟩)
   go_ret2
   exact ⟨by rw [HE.out]; rfl, rfl⟩
  | true =>
   have HD := hide (dg_of hlt hd)
   have hdg : 48 ≤ s[k].toNat ∧ s[k].toNat ≤ 57 := by simp only [dgI, Bool.and_eq_true, decide_eq_true_eq] at hd; omega
   have a1 : IntKind.u8.wrap ((s[k].toNat : Int) - 48) = (s[k].toNat : Int) - 48 := IntWalk.u8_in _ (by omega)
   have a2 : ((k : Int) + 1).toNat = k + 1 := by omega
   by_cases hlt1 : k + 1 < s.size
   ·have d1 : decide ((k : Int) + 1 < (s.size : Int)) = true := by simp; omega
    have i2 : (0 : Int) ≤ (k : Int) + 1 := by omega
    have i3 : (k : Int) + 1 < (s.size : Int) := by omega
    have hb1 := s[k + 1].toNat_lt
    cases hd1 : dgI (s[k + 1].toNat : Int) with
    | false =>
     have HD1 := hide (dg_of hlt1 hd1)
     have HE : Hid (R = .tuple #[.int .i64 ((s[k].toNat : Int) - 48), .int .i64 ((k : Int) + 1)]) := by
      show _ = _; rw [dgI_nat] at hd hd1; rw [hR, drop_cons s (k + 1) hlt1]; simp [num, hd, hd1, numR]; omega
     clear hR hd hd1
     go_enter Tryz.func240, Tryz.ntmps240
     go_wp2_with (first
      | (go_at_call 205; (with_reducible refine (HD.out _).mono ?_); rintro e w1 ⟨rfl, rfl⟩)
      | (go_at_call 205; (with_reducible refine (HD1.out _).mono ?_); rintro e w1 ⟨rfl, rfl⟩))
     go_ret2
     exact ⟨by rw [HE.out]; rfl, rfl⟩
    | true =>
     have HD1 := hide (dg_of hlt1 hd1)
     have hdg1 : 48 ≤ s[k + 1].toNat ∧ s[k + 1].toNat ≤ 57 := by simp only [dgI, Bool.and_eq_true, decide_eq_true_eq] at hd1; omega
     by_cases hz : s[k].toNat = 48
     ·have HE : Hid (R = .tuple #[.int .i64 (-1), .int .i64 ((k : Int) + 1)]) := by
       show _ = _; rw [dgI_nat] at hd hd1; rw [hR, drop_cons s (k + 1) hlt1]; simp [num, hd, hd1, hz, numR]
      have hz2 : ((s[k].toNat : Int) - 48 == 0) = true := by rw [hz]; rfl
      clear hR hd hd1 hz
      go_enter Tryz.func240, Tryz.ntmps240
      go_wp2_with (first
       | (go_at_call 205; (with_reducible refine (HD.out _).mono ?_); rintro e w1 ⟨rfl, rfl⟩)
       | (go_at_call 205; (with_reducible refine (HD1.out _).mono ?_); rintro e w1 ⟨rfl, rfl⟩))
      go_ret2
      exact ⟨by rw [HE.out]; rfl, rfl⟩
     ·have hz2 : ((s[k].toNat : Int) - 48 == 0) = false := by simp; omega
      have m1 : IntKind.u8.wrap ((s[k + 1].toNat : Int) - 48) = (s[k + 1].toNat : Int) - 48 := IntWalk.u8_in _ (by omega)
      have m2 : ((k : Int) + 1 + 1).toNat = k + 1 + 1 := by omega
      by_cases hlt2 : k + 1 + 1 < s.size
      ·have d2 : decide ((k : Int) + 1 + 1 < (s.size : Int)) = true := by simp; omega
       have i4 : (0 : Int) ≤ (k : Int) + 1 + 1 := by omega
       have i5 : (k : Int) + 1 + 1 < (s.size : Int) := by omega
       have hb2 := s[k + 1 + 1].toNat_lt
       cases hd2 : dgI (s[k + 1 + 1].toNat : Int) with
       | false =>
        have HD2 := hide (dg_of hlt2 hd2)
        have HE : Hid (R = .tuple #[.int .i64 (10 * ((s[k].toNat : Int) - 48) + ((s[k + 1].toNat : Int) - 48)), .int .i64 ((k : Int) + 1 + 1)]) := by
         show _ = _; rw [dgI_nat] at hd hd1 hd2; rw [hR, drop_cons s (k + 1) hlt1, drop_cons s (k + 1 + 1) hlt2]; simp [num, hd, hd1, hd2, hz, numR]; omega
        clear hR hd hd1 hd2 hz
        go_enter Tryz.func240, Tryz.ntmps240
        go_wp2_with (first
         | (go_at_call 205; (with_reducible refine (HD.out _).mono ?_); rintro e w1 ⟨rfl, rfl⟩)
         | (go_at_call 205; (with_reducible refine (HD1.out _).mono ?_); rintro e w1 ⟨rfl, rfl⟩)
         | (go_at_call 205; (with_reducible refine (HD2.out _).mono ?_); rintro e w1 ⟨rfl, rfl⟩))
        go_ret2
        exact ⟨by rw [HE.out]; rfl, rfl⟩
       | true =>
        have HD2 := hide (dg_of hlt2 hd2)
        have HE : Hid (R = .tuple #[.int .i64 (-1), .int .i64 ((k : Int) + 1 + 1)]) := by
         show _ = _; rw [dgI_nat] at hd hd1 hd2; rw [hR, drop_cons s (k + 1) hlt1, drop_cons s (k + 1 + 1) hlt2]; simp [num, hd, hd1, hd2, hz, numR]; omega
        clear hR hd hd1 hd2 hz
        go_enter Tryz.func240, Tryz.ntmps240
        go_wp2_with (first
         | (go_at_call 205; (with_reducible refine (HD.out _).mono ?_); rintro e w1 ⟨rfl, rfl⟩)
         | (go_at_call 205; (with_reducible refine (HD1.out _).mono ?_); rintro e w1 ⟨rfl, rfl⟩)
         | (go_at_call 205; (with_reducible refine (HD2.out _).mono ?_); rintro e w1 ⟨rfl, rfl⟩))
        go_ret2
        exact ⟨by rw [HE.out]; rfl, rfl⟩
      ·have d2 : decide ((k : Int) + 1 + 1 < (s.size : Int)) = false := by simp; omega
       have HE : Hid (R = .tuple #[.int .i64 (10 * ((s[k].toNat : Int) - 48) + ((s[k + 1].toNat : Int) - 48)), .int .i64 ((k : Int) + 1 + 1)]) := by
        show _ = _; rw [dgI_nat] at hd hd1; rw [hR, drop_cons s (k + 1) hlt1, drop_end s (k + 1 + 1) (by omega)]; simp [num, hd, hd1, hz, numR]; omega
       clear hR hd hd1 hz
       go_enter Tryz.func240, Tryz.ntmps240
       go_wp2_with (first
        | (go_at_call 205; (with_reducible refine (HD.out _).mono ?_); rintro e w1 ⟨rfl, rfl⟩)
        | (go_at_call 205; (with_reducible refine (HD1.out _).mono ?_); rintro e w1 ⟨rfl, rfl⟩))
       go_ret2
       exact ⟨by rw [HE.out]; rfl, rfl⟩
   ·have d1 : decide ((k : Int) + 1 < (s.size : Int)) = false := by simp; omega
    have HE : Hid (R = .tuple #[.int .i64 ((s[k].toNat : Int) - 48), .int .i64 ((k : Int) + 1)]) := by
     show _ = _; rw [dgI_nat] at hd; rw [hR, drop_end s (k + 1) (by omega)]; simp [num, hd, numR]; omega
    clear hR hd
    go_enter Tryz.func240, Tryz.ntmps240
    go_wp2_with (first
     | (go_at_call 205; (with_reducible refine (HD.out _).mono ?_); rintro e w1 ⟨rfl, rfl⟩))
    go_ret2
    exact ⟨by rw [HE.out]; rfl, rfl⟩
 ·have d0 : decide (s.size ≤ k) = true := by simp; omega
  have HE : Hid (R = .tuple #[.int .i64 (-1), .int .i64 k]) := by
   show _ = _; rw [hR, drop_end s k (by omega)]; rfl
  clear hR
  go_enter Tryz.func240, Tryz.ntmps240
  go_wp2_with fail
  go_ret2
  exact ⟨by rw [HE.out]; rfl, rfl⟩
end Go.Proofs.YtnbchikiiipejaaGreatDoor.Lx
namespace Go.Proofs.YtnbchikiiipejaaGreatDoor.Lx
open Go.RowKit Mem
def SC (W : World) (B : Nat) (a b c d : Int) (s : ByteArray) : Prop := W.heap[B]? = some (.cells #[.int .i64 a, .int .i64 b, .int .i64 c, .int .i64 d, .string s] 208 (0, 0))
section
variable {W W' : World} {B : Nat} {a b c d : Int} {s : ByteArray}
theorem SC.lt (h : SC W B a b c d s) : B < W.heap.size := (Array.getElem?_eq_some_iff.1 h).1
theorem SC.kept {row : Option Nat} (h : SC W B a b c d s) (hg : W.grownBy W' row) (hne : some B ≠ row) : SC W' B a b c d s := (hg.block B h.lt hne).trans h
theorem SC.cells (h : SC W B a b c d s) : W.cell? ⟨B, 0, none⟩ = some (.int .i64 a) ∧ W.cell? ⟨B, 1, none⟩ = some (.int .i64 b) ∧ W.cell? ⟨B, 2, none⟩ = some (.int .i64 c) ∧ W.cell? ⟨B, 3, none⟩ = some (.int .i64 d) ∧ W.cell? ⟨B, 4, none⟩ = some (.string s) := by
 unfold SC at h; simp [World.cell?, h]
theorem SC.free (h : SC W B a b c d s) (j : Nat) : W.frozen? ⟨B, j, none⟩ = false := by unfold SC at h; simp [World.frozen?, h]
theorem SC.all (h : SC W B a b c d s) : (W.cell? ⟨B, 0, none⟩ = some (.int .i64 a) ∧ W.cell? ⟨B, 1, none⟩ = some (.int .i64 b) ∧ W.cell? ⟨B, 2, none⟩ = some (.int .i64 c) ∧ W.cell? ⟨B, 3, none⟩ = some (.int .i64 d) ∧ W.cell? ⟨B, 4, none⟩ = some (.string s)) ∧ W.frozen? ⟨B, 0, none⟩ = false ∧ W.frozen? ⟨B, 1, none⟩ = false ∧ W.frozen? ⟨B, 2, none⟩ = false ∧ W.frozen? ⟨B, 3, none⟩ = false ∧ W.frozen? ⟨B, 4, none⟩ = false := ⟨h.cells, h.free 0, h.free 1, h.free 2, h.free 3, h.free 4⟩
theorem SC.new (W : World) (a b c d : Int) (s : ByteArray) : SC (W.alloc (.cells #[.int .i64 a, .int .i64 b, .int .i64 c, .int .i64 d, .string s] 208)) W.heap.size a b c d s := World.alloc_heap_new W _
theorem SC.st5 (h : SC W B a b c d s) (a' b' c' d' : Int) (s' : ByteArray) : SC (st5 W B a' b' c' d' s') B a' b' c' d' s' := by
 unfold SC at h ⊢; simp [Lx.st5, World.setCell, Array.getElem?_modify, h]
theorem SC.set2 (h : SC W B a b c d s) (c' : Int) : SC (W.setCell ⟨B, 2, none⟩ (.int .i64 c')) B a b c' d s := by
 unfold SC at h ⊢; simp [World.setCell, Array.getElem?_modify, h]
theorem SC.set3 (h : SC W B a b c d s) (d' : Int) : SC (W.setCell ⟨B, 3, none⟩ (.int .i64 d')) B a b c d' s := by
 unfold SC at h ⊢; simp [World.setCell, Array.getElem?_modify, h]
end
abbrev cw (w : World) (k : Int) : World := (w.alloc (.cells #[.int .i64 0, .int .i64 0, .int .i64 0, .int .i64 0, .string ⟨#[]⟩] 208)).alloc (.cells #[.int .i64 5, .int .i64 k, .int .i64 0, .int .i64 0, .string ⟨#[]⟩] 208)
theorem cw_x (w : World) (k : Int) : SC (cw w k) (w.heap.size + 1) 5 k 0 0 ⟨#[]⟩ := by
 have h := SC.new (w.alloc (.cells #[.int .i64 0, .int .i64 0, .int .i64 0, .int .i64 0, .string ⟨#[]⟩] 208)) 5 k 0 0 ⟨#[]⟩
 rwa [World.size_alloc] at h
theorem cw_r (w : World) (k : Int) : SC (cw w k) w.heap.size 0 0 0 0 ⟨#[]⟩ :=
 (SC.new w 0 0 0 0 ⟨#[]⟩).kept (World.grownBy_alloc _ _ none) (by simp)
theorem cw_g (w : World) (k : Int) : w.grownBy (cw w k) none := (World.grownBy_alloc _ _ none).trans (World.grownBy_alloc _ _ none)
def Gives (w : World) (r : Res Sg) (e : Ending) (w' : World) : Prop :=
 w.grownBy w' none ∧ match r with
  | .ok x to => e = .returned (.tuple #[sgV x, .int .i64 to, .int .i64 0])
  | .bad p c => ∃ x : Sg, e = .returned (.tuple #[sgV x, .int .i64 p, .int .i64 c])
theorem num_wrong {t : List UInt8} {k p : Nat} {c : Int} (h : num t k = .bad p c) : (c = 5 ∧ p = k + t.length) ∨ (c = 2 ∧ p < k + t.length) := by
 unfold num at h
 cases t with
 | nil => simp at h; simp; omega
 | cons a t =>
  simp only at h
  split at h
  ·cases t with
   | nil => simp at h
   | cons b u =>
    simp only at h
    split at h
    ·split at h
     ·simp at h; simp; omega
     ·cases u with
      | nil => simp at h
      | cons c u =>
       simp only at h
       split at h
       ·simp at h; simp; omega
       ·simp at h
    ·simp at h
  ·simp at h; simp; omega
theorem rwrong_num {s : ByteArray} {k p : Nat} {c : Int} (hk : k ≤ s.size) (hs : s.size ≤ 9223372036854775807) (h : num (s.data.toList.drop k) k = .bad p c) (w : World) :
  Calls Tryz.prog 241 #[.string s, .int .i64 p] w fun e w' => e = .returned (.tuple #[.int .i64 p, .int .i64 c]) ∧ w' = w := by
 have hl : (s.data.toList.drop k).length = s.size - k := by rw [List.length_drop, show s.data.toList.length = s.size from by rw [Array.length_toList]; rfl]
 rcases num_wrong h with ⟨rfl, hp⟩ | ⟨rfl, hp⟩ <;> rw [hl] at hp
 ·obtain rfl : p = s.size := by omega
  exact rwrong_end s s.size (Nat.le_refl _) hs hs w
 ·exact rwrong_in s p (by omega) hs w
theorem num_len {s : ByteArray} {k n to : Nat} (hN : num (s.data.toList.drop k) k = .ok n to) : k < to ∧ (k ≤ s.size → to ≤ s.size) ∧ n ≤ 3000 := by
 have hto := num_to hN
 rw [List.length_drop, show s.data.toList.length = s.size from by rw [Array.length_toList]; rfl] at hto
 exact ⟨hto.1, by omega, hto.2.2.2⟩
theorem rnum_i (s : ByteArray) (i : Int) (k : Nat) (hi : i = (k : Int)) (hk : k ≤ s.size) (hs : s.size ≤ 9223372036854775807) {r : Res Nat} (hr : num (s.data.toList.drop k) k = r) (w : World) :
  Calls Tryz.prog 240 #[.string s, .int .i64 i] w fun e w' => e = .returned (numR r) ∧ w' = w := by
 subst hi; subst hr; exact rnum_any s k hk hs w
theorem rwrong_at (s : ByteArray) (k : Nat) (hk : k = s.size) (hs : s.size ≤ 9223372036854775807) (w : World) :
  Calls Tryz.prog 241 #[.string s, .int .i64 k] w fun e w' => e = .returned (.tuple #[.int .i64 k, .int .i64 5]) ∧ w' = w := by
 subst hk; exact rwrong_end s s.size (Nat.le_refl _) hs hs w
theorem cw_all (w : World) (k : Nat) : ∀ w1, w1 = cw w k → SC w1 (w.heap.size + 1) 5 k 0 0 ⟨#[]⟩ ∧ SC w1 w.heap.size 0 0 0 0 ⟨#[]⟩ ∧ w.grownBy w1 none := by
 rintro _ rfl; exact ⟨cw_x w k, cw_r w k, cw_g w k⟩
theorem zero_bool (n : Nat) : ∃ B : Bool, (n == 0) = B ∧ ((n : Int) == 0) = B := by
 by_cases h : n = 0
 ·exact ⟨true, by simp [h], by simp [h]⟩
 ·exact ⟨false, by simp [h], by simp; omega⟩
theorem rc_num (s : ByteArray) (k : Nat) (w : World) (hk : k < s.size) (hs : s.size ≤ 9223372036854775807) {p : Nat} {c : Int} (hN : num (s.data.toList.drop (k + 1)) (k + 1) = .bad p c) :
  Calls Tryz.prog 206 #[.string s, .int .i64 k] w (Gives w (.bad p c)) := by
 have HN1 := hide (rnum_i s ((k : Int) + 1) (k + 1) (by omega) (by omega) hs hN)
 have HW := hide (rwrong_num (by omega) hs hN)
 clear hN
 have tok1 : True := trivial
 go_enter Tryz.func206, Tryz.ntmps206
 go_wp2_with (first
  | (go_at_call 240; have _t := tok1; (with_reducible refine (HN1.out _).mono ?_); rintro e w1 ⟨rfl, hw0⟩; have hw1 := cw_all w k w1 hw0; clear hw0 tok1; have HX1 := Lib.hid hw1.1; have HZ1 := Lib.hid hw1.2.1; have HG1 := Lib.hid hw1.2.2; clear hw1; obtain ⟨⟨x0, x1, x2, x3, x4⟩, xf0, xf1, xf2, xf3, xf4⟩ := HX1.out.all; obtain ⟨⟨z0, z1, z2, z3, z4⟩, zf0, zf1, zf2, zf3, zf4⟩ := HZ1.out.all; try dsimp only [numR])
  | (go_at_call 241; (with_reducible refine (HW.out _).mono ?_); rintro e w9 ⟨rfl, hw9⟩; replace hw9 := hw9.symm; subst hw9))
 have HZ9 := Lib.hid (SC.st5 (W := w1) (HZ1.out) 5 k 0 0 ⟨#[]⟩)
 have HG9 := Lib.hid (grown_new (W := w1) (HG1.out) (st5_grown _ w.heap.size 5 k 0 0 ⟨#[]⟩) (Nat.le_refl _))
 clear x0 x1 x2 x3 x4 z0 z1 z2 z3 z4 xf0 xf1 xf2 xf3 xf4 zf0 zf1 zf2 zf3 zf4
 change bodyPost _ _ _ _ _ (st5 (w1) w.heap.size 5 k 0 0 ⟨#[]⟩)
 generalize st5 (w1) w.heap.size 5 k 0 0 ⟨#[]⟩ = W9 at HZ9 HG9 ⊢
 obtain ⟨b0, b1, b2, b3, b4⟩ := HZ9.out.cells
 exact bodyPost_ret (v := .tuple #[.agg #[.int .i64 5, .int .i64 k, .int .i64 0, .int .i64 0, .string ⟨#[]⟩], .int .i64 p, .int .i64 c]) (by simp [results, Tryz.results206, go_sem, b0, b1, b2, b3, b4]) rfl ⟨HG9.out, ⟨⟨5, k, 0, 0, []⟩, rfl⟩⟩
theorem rc_big (s : ByteArray) (k : Nat) (w : World) (hk : k < s.size) (hs : s.size ≤ 9223372036854775807) {n to : Nat} (hN : num (s.data.toList.drop (k + 1)) (k + 1) = .ok n to) (h20 : 20 < n) :
  Calls Tryz.prog 206 #[.string s, .int .i64 k] w (Gives w (.bad (k + 1) 3)) := by
 have HN1 := hide (rnum_i s ((k : Int) + 1) (k + 1) (by omega) (by omega) hs hN)
 obtain ⟨hto1, hto2, hn⟩ := num_len hN
 have hto3 : to ≤ s.size := hto2 (by omega)
 clear hto2 hN
 have t0 : decide ((n : Int) < 0) = false := by simp
 have t1 : decide ((20 : Int) < (n : Int)) = true := by simp; omega
 clear h20
 have tok1 : True := trivial
 go_enter Tryz.func206, Tryz.ntmps206
 go_wp2_with (first
  | (go_at_call 240; have _t := tok1; (with_reducible refine (HN1.out _).mono ?_); rintro e w1 ⟨rfl, hw0⟩; have hw1 := cw_all w k w1 hw0; clear hw0 tok1; have HX1 := Lib.hid hw1.1; have HZ1 := Lib.hid hw1.2.1; have HG1 := Lib.hid hw1.2.2; clear hw1; obtain ⟨⟨x0, x1, x2, x3, x4⟩, xf0, xf1, xf2, xf3, xf4⟩ := HX1.out.all; obtain ⟨⟨z0, z1, z2, z3, z4⟩, zf0, zf1, zf2, zf3, zf4⟩ := HZ1.out.all; try dsimp only [numR]))
 have HZ9 := Lib.hid (SC.st5 (W := w1) (HZ1.out) 5 k 0 0 ⟨#[]⟩)
 have HG9 := Lib.hid (grown_new (W := w1) (HG1.out) (st5_grown _ w.heap.size 5 k 0 0 ⟨#[]⟩) (Nat.le_refl _))
 clear x0 x1 x2 x3 x4 z0 z1 z2 z3 z4 xf0 xf1 xf2 xf3 xf4 zf0 zf1 zf2 zf3 zf4
 change bodyPost _ _ _ _ _ (st5 (w1) w.heap.size 5 k 0 0 ⟨#[]⟩)
 generalize st5 (w1) w.heap.size 5 k 0 0 ⟨#[]⟩ = W9 at HZ9 HG9 ⊢
 obtain ⟨b0, b1, b2, b3, b4⟩ := HZ9.out.cells
 exact bodyPost_ret (v := .tuple #[.agg #[.int .i64 5, .int .i64 k, .int .i64 0, .int .i64 0, .string ⟨#[]⟩], .int .i64 ((k : Int) + 1), .int .i64 3]) (by simp [results, Tryz.results206, go_sem, b0, b1, b2, b3, b4]) rfl ⟨HG9.out, ⟨⟨5, k, 0, 0, []⟩, rfl⟩⟩
theorem rc_zero (s : ByteArray) (k : Nat) (w : World) (hk : k < s.size) (hs : s.size ≤ 9223372036854775807) {n to : Nat} (hN : num (s.data.toList.drop (k + 1)) (k + 1) = .ok n to) (h20 : n ≤ 20) (hlt : to < s.size) (h125 : s[to].toNat = 125) (hz : n = 0) :
  Calls Tryz.prog 206 #[.string s, .int .i64 k] w (Gives w (.bad (k + 1) 3)) := by
 have HN1 := hide (rnum_i s ((k : Int) + 1) (k + 1) (by omega) (by omega) hs hN)
 obtain ⟨hto1, hto2, hn⟩ := num_len hN
 have hto3 : to ≤ s.size := hto2 (by omega)
 clear hto2 hN
 have t0 : decide ((n : Int) < 0) = false := by simp
 have t1 : decide ((20 : Int) < (n : Int)) = false := by simp; omega
 have t2 : (n == 0) = true := by simp; omega
 have t2' : ((n : Int) == 0) = true := by simp; omega
 have l1_to : decide ((to : Int) < (s.size : Int)) = true := by simp; omega
 have l2_to : decide ((s.size : Int) ≤ (to : Int)) = false := by simp; omega
 have l3_to : decide (to < s.size) = true := by simp; omega
 have l4_to : decide (s.size ≤ to) = false := by simp; omega
 have c125_to : ((s[to].toNat : Int) == 125) = true := by simp; omega
 have d125_to : ((s[to].toNat : Int) != 125) = false := by simp; omega
 clear h125 hz h20
 have tok1 : True := trivial
 go_enter Tryz.func206, Tryz.ntmps206
 go_wp2_with (first
  | (go_at_call 240; have _t := tok1; (with_reducible refine (HN1.out _).mono ?_); rintro e w1 ⟨rfl, hw0⟩; have hw1 := cw_all w k w1 hw0; clear hw0 tok1; have HX1 := Lib.hid hw1.1; have HZ1 := Lib.hid hw1.2.1; have HG1 := Lib.hid hw1.2.2; clear hw1; obtain ⟨⟨x0, x1, x2, x3, x4⟩, xf0, xf1, xf2, xf3, xf4⟩ := HX1.out.all; obtain ⟨⟨z0, z1, z2, z3, z4⟩, zf0, zf1, zf2, zf3, zf4⟩ := HZ1.out.all; try dsimp only [numR]))
 have HZ9 := Lib.hid (SC.st5 (W := w1) (HZ1.out) 5 k 0 0 ⟨#[]⟩)
 have HG9 := Lib.hid (grown_new (W := w1) (HG1.out) (st5_grown _ w.heap.size 5 k 0 0 ⟨#[]⟩) (Nat.le_refl _))
 clear x0 x1 x2 x3 x4 z0 z1 z2 z3 z4 xf0 xf1 xf2 xf3 xf4 zf0 zf1 zf2 zf3 zf4
 change bodyPost _ _ _ _ _ (st5 (w1) w.heap.size 5 k 0 0 ⟨#[]⟩)
 generalize st5 (w1) w.heap.size 5 k 0 0 ⟨#[]⟩ = W9 at HZ9 HG9 ⊢
 obtain ⟨b0, b1, b2, b3, b4⟩ := HZ9.out.cells
 exact bodyPost_ret (v := .tuple #[.agg #[.int .i64 5, .int .i64 k, .int .i64 0, .int .i64 0, .string ⟨#[]⟩], .int .i64 ((k : Int) + 1), .int .i64 3]) (by simp [results, Tryz.results206, go_sem, b0, b1, b2, b3, b4]) rfl ⟨HG9.out, ⟨⟨5, k, 0, 0, []⟩, rfl⟩⟩
theorem rc_same (s : ByteArray) (k : Nat) (w : World) (hk : k < s.size) (hs : s.size ≤ 9223372036854775807) {n to : Nat} (hN : num (s.data.toList.drop (k + 1)) (k + 1) = .ok n to) (h20 : n ≤ 20) (hlt : to < s.size) (h125 : s[to].toNat = 125) (hz : n ≠ 0) :
  Calls Tryz.prog 206 #[.string s, .int .i64 k] w (Gives w (.ok ⟨5, k, n, n, []⟩ (to + 1))) := by
 have HN1 := hide (rnum_i s ((k : Int) + 1) (k + 1) (by omega) (by omega) hs hN)
 obtain ⟨hto1, hto2, hn⟩ := num_len hN
 have hto3 : to ≤ s.size := hto2 (by omega)
 clear hto2 hN
 have t0 : decide ((n : Int) < 0) = false := by simp
 have t1 : decide ((20 : Int) < (n : Int)) = false := by simp; omega
 have t2 : (n == 0) = false := by simp; omega
 have t2' : ((n : Int) == 0) = false := by simp; omega
 have l1_to : decide ((to : Int) < (s.size : Int)) = true := by simp; omega
 have l2_to : decide ((s.size : Int) ≤ (to : Int)) = false := by simp; omega
 have l3_to : decide (to < s.size) = true := by simp; omega
 have l4_to : decide (s.size ≤ to) = false := by simp; omega
 have c125_to : ((s[to].toNat : Int) == 125) = true := by simp; omega
 have d125_to : ((s[to].toNat : Int) != 125) = false := by simp; omega
 have c44_to : ((s[to].toNat : Int) == 44) = false := by simp; omega
 clear h125 hz h20
 have tok1 : True := trivial
 go_enter Tryz.func206, Tryz.ntmps206
 go_wp2_with (first
  | (go_at_call 240; have _t := tok1; (with_reducible refine (HN1.out _).mono ?_); rintro e w1 ⟨rfl, hw0⟩; have hw1 := cw_all w k w1 hw0; clear hw0 tok1; have HX1 := Lib.hid hw1.1; have HZ1 := Lib.hid hw1.2.1; have HG1 := Lib.hid hw1.2.2; clear hw1; obtain ⟨⟨x0, x1, x2, x3, x4⟩, xf0, xf1, xf2, xf3, xf4⟩ := HX1.out.all; obtain ⟨⟨z0, z1, z2, z3, z4⟩, zf0, zf1, zf2, zf3, zf4⟩ := HZ1.out.all; try dsimp only [numR]))
 have HZ9 := Lib.hid (SC.st5 (W := ((w1).setCell ⟨w.heap.size + 1, 2, none⟩ (.int .i64 n)).setCell ⟨w.heap.size + 1, 3, none⟩ (.int .i64 n)) (HZ1.out.kept (World.grownBy.trans (grown_set w1 (w.heap.size + 1) 2 (.int .i64 n)) (grown_set _ (w.heap.size + 1) 3 (.int .i64 n))) (by simp)) 5 k n n ⟨#[]⟩)
 have HG9 := Lib.hid (grown_new (W := ((w1).setCell ⟨w.heap.size + 1, 2, none⟩ (.int .i64 n)).setCell ⟨w.heap.size + 1, 3, none⟩ (.int .i64 n)) (grown_new HG1.out (World.grownBy.trans (grown_set w1 (w.heap.size + 1) 2 (.int .i64 n)) (grown_set _ (w.heap.size + 1) 3 (.int .i64 n))) (by omega)) (st5_grown _ w.heap.size 5 k n n ⟨#[]⟩) (Nat.le_refl _))
 clear x0 x1 x2 x3 x4 z0 z1 z2 z3 z4 xf0 xf1 xf2 xf3 xf4 zf0 zf1 zf2 zf3 zf4
 change bodyPost _ _ _ _ _ (st5 (((w1).setCell ⟨w.heap.size + 1, 2, none⟩ (.int .i64 n)).setCell ⟨w.heap.size + 1, 3, none⟩ (.int .i64 n)) w.heap.size 5 k n n ⟨#[]⟩)
 generalize st5 (((w1).setCell ⟨w.heap.size + 1, 2, none⟩ (.int .i64 n)).setCell ⟨w.heap.size + 1, 3, none⟩ (.int .i64 n)) w.heap.size 5 k n n ⟨#[]⟩ = W9 at HZ9 HG9 ⊢
 obtain ⟨b0, b1, b2, b3, b4⟩ := HZ9.out.cells
 exact bodyPost_ret (v := .tuple #[.agg #[.int .i64 5, .int .i64 k, .int .i64 n, .int .i64 n, .string ⟨#[]⟩], .int .i64 ((to : Int) + 1), .int .i64 0]) (by simp [results, Tryz.results206, go_sem, b0, b1, b2, b3, b4]) rfl ⟨HG9.out, rfl⟩
theorem rc_end (s : ByteArray) (k : Nat) (w : World) (hk : k < s.size) (hs : s.size ≤ 9223372036854775807) {n to : Nat} (hN : num (s.data.toList.drop (k + 1)) (k + 1) = .ok n to) (h20 : n ≤ 20) {Z : Prop} (_hz : Z) (hle : s.size ≤ to) :
  Calls Tryz.prog 206 #[.string s, .int .i64 k] w (Gives w (.bad to 5)) := by
 have HN1 := hide (rnum_i s ((k : Int) + 1) (k + 1) (by omega) (by omega) hs hN)
 obtain ⟨hto1, hto2, hn⟩ := num_len hN
 have hto3 : to ≤ s.size := hto2 (by omega)
 clear hto2 hN
 have t0 : decide ((n : Int) < 0) = false := by simp
 have t1 : decide ((20 : Int) < (n : Int)) = false := by simp; omega
 obtain ⟨B, t2, t2'⟩ := zero_bool n
 have l1_to : decide ((to : Int) < (s.size : Int)) = false := by simp; omega
 have l2_to : decide ((s.size : Int) ≤ (to : Int)) = true := by simp; omega
 have l3_to : decide (to < s.size) = false := by simp; omega
 have l4_to : decide (s.size ≤ to) = true := by simp; omega
 have HW := hide (rwrong_at s to (by omega) hs)
 clear h20
 have tok1 : True := trivial
 cases B
 all_goals
  go_enter Tryz.func206, Tryz.ntmps206
  go_wp2_with (first
   | (go_at_call 240; have _t := tok1; (with_reducible refine (HN1.out _).mono ?_); rintro e w1 ⟨rfl, hw0⟩; have hw1 := cw_all w k w1 hw0; clear hw0 tok1; have HX1 := Lib.hid hw1.1; have HZ1 := Lib.hid hw1.2.1; have HG1 := Lib.hid hw1.2.2; clear hw1; obtain ⟨⟨x0, x1, x2, x3, x4⟩, xf0, xf1, xf2, xf3, xf4⟩ := HX1.out.all; obtain ⟨⟨z0, z1, z2, z3, z4⟩, zf0, zf1, zf2, zf3, zf4⟩ := HZ1.out.all; try dsimp only [numR])
   | (go_at_call 241; (with_reducible refine (HW.out _).mono ?_); rintro e w9 ⟨rfl, hw9⟩; replace hw9 := hw9.symm; subst hw9))
  have HZ9 := Lib.hid (SC.st5 (W := ((w1).setCell ⟨w.heap.size + 1, 2, none⟩ (.int .i64 n)).setCell ⟨w.heap.size + 1, 3, none⟩ (.int .i64 n)) (HZ1.out.kept (World.grownBy.trans (grown_set w1 (w.heap.size + 1) 2 (.int .i64 n)) (grown_set _ (w.heap.size + 1) 3 (.int .i64 n))) (by simp)) 5 k n n ⟨#[]⟩)
  have HG9 := Lib.hid (grown_new (W := ((w1).setCell ⟨w.heap.size + 1, 2, none⟩ (.int .i64 n)).setCell ⟨w.heap.size + 1, 3, none⟩ (.int .i64 n)) (grown_new HG1.out (World.grownBy.trans (grown_set w1 (w.heap.size + 1) 2 (.int .i64 n)) (grown_set _ (w.heap.size + 1) 3 (.int .i64 n))) (by omega)) (st5_grown _ w.heap.size 5 k n n ⟨#[]⟩) (Nat.le_refl _))
  clear x0 x1 x2 x3 x4 z0 z1 z2 z3 z4 xf0 xf1 xf2 xf3 xf4 zf0 zf1 zf2 zf3 zf4
  change bodyPost _ _ _ _ _ (st5 (((w1).setCell ⟨w.heap.size + 1, 2, none⟩ (.int .i64 n)).setCell ⟨w.heap.size + 1, 3, none⟩ (.int .i64 n)) w.heap.size 5 k n n ⟨#[]⟩)
  generalize st5 (((w1).setCell ⟨w.heap.size + 1, 2, none⟩ (.int .i64 n)).setCell ⟨w.heap.size + 1, 3, none⟩ (.int .i64 n)) w.heap.size 5 k n n ⟨#[]⟩ = W9 at HZ9 HG9 ⊢
  obtain ⟨b0, b1, b2, b3, b4⟩ := HZ9.out.cells
  exact bodyPost_ret (v := .tuple #[.agg #[.int .i64 5, .int .i64 k, .int .i64 n, .int .i64 n, .string ⟨#[]⟩], .int .i64 to, .int .i64 5]) (by simp [results, Tryz.results206, go_sem, b0, b1, b2, b3, b4]) rfl ⟨HG9.out, ⟨⟨5, k, n, n, []⟩, rfl⟩⟩
theorem rc_other (s : ByteArray) (k : Nat) (w : World) (hk : k < s.size) (hs : s.size ≤ 9223372036854775807) {n to : Nat} (hN : num (s.data.toList.drop (k + 1)) (k + 1) = .ok n to) (h20 : n ≤ 20) {Z : Prop} (_hz : Z) (hlt : to < s.size) (h44 : s[to].toNat ≠ 44) (h125 : s[to].toNat ≠ 125) :
  Calls Tryz.prog 206 #[.string s, .int .i64 k] w (Gives w (.bad to 2)) := by
 have HN1 := hide (rnum_i s ((k : Int) + 1) (k + 1) (by omega) (by omega) hs hN)
 obtain ⟨hto1, hto2, hn⟩ := num_len hN
 have hto3 : to ≤ s.size := hto2 (by omega)
 clear hto2 hN
 have t0 : decide ((n : Int) < 0) = false := by simp
 have t1 : decide ((20 : Int) < (n : Int)) = false := by simp; omega
 obtain ⟨B, t2, t2'⟩ := zero_bool n
 have l1_to : decide ((to : Int) < (s.size : Int)) = true := by simp; omega
 have l2_to : decide ((s.size : Int) ≤ (to : Int)) = false := by simp; omega
 have l3_to : decide (to < s.size) = true := by simp; omega
 have l4_to : decide (s.size ≤ to) = false := by simp; omega
 have c125_to : ((s[to].toNat : Int) == 125) = false := by simp; omega
 have d125_to : ((s[to].toNat : Int) != 125) = true := by simp; omega
 have c44_to : ((s[to].toNat : Int) == 44) = false := by simp; omega
 have HW := hide (rwrong_in s to hlt hs)
 clear h20 h44 h125
 have tok1 : True := trivial
 cases B
 all_goals
  go_enter Tryz.func206, Tryz.ntmps206
  go_wp2_with (first
   | (go_at_call 240; have _t := tok1; (with_reducible refine (HN1.out _).mono ?_); rintro e w1 ⟨rfl, hw0⟩; have hw1 := cw_all w k w1 hw0; clear hw0 tok1; have HX1 := Lib.hid hw1.1; have HZ1 := Lib.hid hw1.2.1; have HG1 := Lib.hid hw1.2.2; clear hw1; obtain ⟨⟨x0, x1, x2, x3, x4⟩, xf0, xf1, xf2, xf3, xf4⟩ := HX1.out.all; obtain ⟨⟨z0, z1, z2, z3, z4⟩, zf0, zf1, zf2, zf3, zf4⟩ := HZ1.out.all; try dsimp only [numR])
   | (go_at_call 241; (with_reducible refine (HW.out _).mono ?_); rintro e w9 ⟨rfl, hw9⟩; replace hw9 := hw9.symm; subst hw9))
  have HZ9 := Lib.hid (SC.st5 (W := ((w1).setCell ⟨w.heap.size + 1, 2, none⟩ (.int .i64 n)).setCell ⟨w.heap.size + 1, 3, none⟩ (.int .i64 n)) (HZ1.out.kept (World.grownBy.trans (grown_set w1 (w.heap.size + 1) 2 (.int .i64 n)) (grown_set _ (w.heap.size + 1) 3 (.int .i64 n))) (by simp)) 5 k n n ⟨#[]⟩)
  have HG9 := Lib.hid (grown_new (W := ((w1).setCell ⟨w.heap.size + 1, 2, none⟩ (.int .i64 n)).setCell ⟨w.heap.size + 1, 3, none⟩ (.int .i64 n)) (grown_new HG1.out (World.grownBy.trans (grown_set w1 (w.heap.size + 1) 2 (.int .i64 n)) (grown_set _ (w.heap.size + 1) 3 (.int .i64 n))) (by omega)) (st5_grown _ w.heap.size 5 k n n ⟨#[]⟩) (Nat.le_refl _))
  clear x0 x1 x2 x3 x4 z0 z1 z2 z3 z4 xf0 xf1 xf2 xf3 xf4 zf0 zf1 zf2 zf3 zf4
  change bodyPost _ _ _ _ _ (st5 (((w1).setCell ⟨w.heap.size + 1, 2, none⟩ (.int .i64 n)).setCell ⟨w.heap.size + 1, 3, none⟩ (.int .i64 n)) w.heap.size 5 k n n ⟨#[]⟩)
  generalize st5 (((w1).setCell ⟨w.heap.size + 1, 2, none⟩ (.int .i64 n)).setCell ⟨w.heap.size + 1, 3, none⟩ (.int .i64 n)) w.heap.size 5 k n n ⟨#[]⟩ = W9 at HZ9 HG9 ⊢
  obtain ⟨b0, b1, b2, b3, b4⟩ := HZ9.out.cells
  exact bodyPost_ret (v := .tuple #[.agg #[.int .i64 5, .int .i64 k, .int .i64 n, .int .i64 n, .string ⟨#[]⟩], .int .i64 to, .int .i64 2]) (by simp [results, Tryz.results206, go_sem, b0, b1, b2, b3, b4]) rfl ⟨HG9.out, ⟨⟨5, k, n, n, []⟩, rfl⟩⟩
theorem rc_more (s : ByteArray) (k : Nat) (w : World) (hk : k < s.size) (hs : s.size ≤ 9223372036854775807) {n to : Nat} (hN : num (s.data.toList.drop (k + 1)) (k + 1) = .ok n to) (h20 : n ≤ 20) {Z : Prop} (_hz : Z) (hlt : to < s.size) (h44 : s[to].toNat = 44) (hlt2 : to + 1 < s.size) (h6 : s[to + 1].toNat = 125) :
  Calls Tryz.prog 206 #[.string s, .int .i64 k] w (Gives w (.ok ⟨5, k, n, -1, []⟩ (to + 1 + 1))) := by
 have HN1 := hide (rnum_i s ((k : Int) + 1) (k + 1) (by omega) (by omega) hs hN)
 obtain ⟨hto1, hto2, hn⟩ := num_len hN
 have hto3 : to ≤ s.size := hto2 (by omega)
 clear hto2 hN
 have t0 : decide ((n : Int) < 0) = false := by simp
 have t1 : decide ((20 : Int) < (n : Int)) = false := by simp; omega
 obtain ⟨B, t2, t2'⟩ := zero_bool n
 have l1_to : decide ((to : Int) < (s.size : Int)) = true := by simp; omega
 have l2_to : decide ((s.size : Int) ≤ (to : Int)) = false := by simp; omega
 have l3_to : decide (to < s.size) = true := by simp; omega
 have l4_to : decide (s.size ≤ to) = false := by simp; omega
 have c44_to : ((s[to].toNat : Int) == 44) = true := by simp; omega
 have c125_to : ((s[to].toNat : Int) == 125) = false := by simp; omega
 have d125_to : ((s[to].toNat : Int) != 125) = true := by simp; omega
 have a2 : ((to : Int) + 1).toNat = to + 1 := by omega
 have i2 : (0 : Int) ≤ (to : Int) + 1 := by omega
 have l1_j : decide (((to : Int) + 1 : Int) < (s.size : Int)) = true := by simp; omega
 have l2_j : decide ((s.size : Int) ≤ ((to : Int) + 1 : Int)) = false := by simp; omega
 have l3_j : decide (to + 1 < s.size) = true := by simp; omega
 have l4_j : decide (s.size ≤ to + 1) = false := by simp; omega
 have i3 : (to : Int) + 1 < (s.size : Int) := by omega
 have c125_j : ((s[to + 1].toNat : Int) == 125) = true := by simp; omega
 have d125_j : ((s[to + 1].toNat : Int) != 125) = false := by simp; omega
 clear h20 h44 h6
 have tok1 : True := trivial
 cases B
 all_goals
  go_enter Tryz.func206, Tryz.ntmps206
  go_upto_region 12 with (first
   | (go_at_call 240; have _t := tok1; (with_reducible refine (HN1.out _).mono ?_); rintro e w1 ⟨rfl, hw0⟩; have hw1 := cw_all w k w1 hw0; clear hw0 tok1; have HX1 := Lib.hid hw1.1; have HZ1 := Lib.hid hw1.2.1; have HG1 := Lib.hid hw1.2.2; clear hw1; obtain ⟨⟨x0, x1, x2, x3, x4⟩, xf0, xf1, xf2, xf3, xf4⟩ := HX1.out.all; obtain ⟨⟨z0, z1, z2, z3, z4⟩, zf0, zf1, zf2, zf3, zf4⟩ := HZ1.out.all; try dsimp only [numR]))
  have HX2 := Lib.hid (((HX1.out).set2 n).set3 n)
  have HZ2 := Lib.hid (HZ1.out.kept (World.grownBy.trans (grown_set w1 (w.heap.size + 1) 2 (.int .i64 n)) (grown_set _ (w.heap.size + 1) 3 (.int .i64 n))) (by simp))
  have HG2 := Lib.hid (grown_new HG1.out (World.grownBy.trans (grown_set w1 (w.heap.size + 1) 2 (.int .i64 n)) (grown_set _ (w.heap.size + 1) 3 (.int .i64 n))) (by omega))
  clear x0 x1 x2 x3 x4 z0 z1 z2 z3 z4 xf0 xf1 xf2 xf3 xf4 zf0 zf1 zf2 zf3 zf4
  change Code.wp _ _ _ _ (((w1).setCell ⟨w.heap.size + 1, 2, none⟩ (.int .i64 n)).setCell ⟨w.heap.size + 1, 3, none⟩ (.int .i64 n))
  generalize ((w1).setCell ⟨w.heap.size + 1, 2, none⟩ (.int .i64 n)).setCell ⟨w.heap.size + 1, 3, none⟩ (.int .i64 n) = w2 at HX2 HZ2 HG2 ⊢
  obtain ⟨⟨x0, x1, x2, x3, x4⟩, xf0, xf1, xf2, xf3, xf4⟩ := HX2.out.all; obtain ⟨⟨z0, z1, z2, z3, z4⟩, zf0, zf1, zf2, zf3, zf4⟩ := HZ2.out.all
  go_wp2_with fail
  have HZ9 := Lib.hid (SC.st5 (W := (w2).setCell ⟨w.heap.size + 1, 3, none⟩ (.int .i64 (-1))) (HZ2.out.kept (grown_set w2 (w.heap.size + 1) 3 (.int .i64 (-1))) (by simp)) 5 k n (-1) ⟨#[]⟩)
  have HG9 := Lib.hid (grown_new (W := (w2).setCell ⟨w.heap.size + 1, 3, none⟩ (.int .i64 (-1))) (grown_new HG2.out (grown_set w2 (w.heap.size + 1) 3 (.int .i64 (-1))) (by omega)) (st5_grown _ w.heap.size 5 k n (-1) ⟨#[]⟩) (Nat.le_refl _))
  clear x0 x1 x2 x3 x4 z0 z1 z2 z3 z4 xf0 xf1 xf2 xf3 xf4 zf0 zf1 zf2 zf3 zf4
  change bodyPost _ _ _ _ _ (st5 ((w2).setCell ⟨w.heap.size + 1, 3, none⟩ (.int .i64 (-1))) w.heap.size 5 k n (-1) ⟨#[]⟩)
  generalize st5 ((w2).setCell ⟨w.heap.size + 1, 3, none⟩ (.int .i64 (-1))) w.heap.size 5 k n (-1) ⟨#[]⟩ = W9 at HZ9 HG9 ⊢
  obtain ⟨b0, b1, b2, b3, b4⟩ := HZ9.out.cells
  exact bodyPost_ret (v := .tuple #[.agg #[.int .i64 5, .int .i64 k, .int .i64 n, .int .i64 (-1), .string ⟨#[]⟩], .int .i64 ((to : Int) + 1 + 1), .int .i64 0]) (by simp [results, Tryz.results206, go_sem, b0, b1, b2, b3, b4]) rfl ⟨HG9.out, rfl⟩
theorem rc_nobad (s : ByteArray) (k : Nat) (w : World) (hk : k < s.size) (hs : s.size ≤ 9223372036854775807) {n to : Nat} (hN : num (s.data.toList.drop (k + 1)) (k + 1) = .ok n to) (h20 : n ≤ 20) {Z : Prop} (_hz : Z) (hlt : to < s.size) (h44 : s[to].toNat = 44) (hle : s.size ≤ to + 1) {p : Nat} {c : Int} (hN2 : num (s.data.toList.drop (to + 1)) (to + 1) = .bad p c) :
  Calls Tryz.prog 206 #[.string s, .int .i64 k] w (Gives w (.bad p c)) := by
 have HN1 := hide (rnum_i s ((k : Int) + 1) (k + 1) (by omega) (by omega) hs hN)
 obtain ⟨hto1, hto2, hn⟩ := num_len hN
 have hto3 : to ≤ s.size := hto2 (by omega)
 clear hto2 hN
 have t0 : decide ((n : Int) < 0) = false := by simp
 have t1 : decide ((20 : Int) < (n : Int)) = false := by simp; omega
 obtain ⟨B, t2, t2'⟩ := zero_bool n
 have l1_to : decide ((to : Int) < (s.size : Int)) = true := by simp; omega
 have l2_to : decide ((s.size : Int) ≤ (to : Int)) = false := by simp; omega
 have l3_to : decide (to < s.size) = true := by simp; omega
 have l4_to : decide (s.size ≤ to) = false := by simp; omega
 have c44_to : ((s[to].toNat : Int) == 44) = true := by simp; omega
 have c125_to : ((s[to].toNat : Int) == 125) = false := by simp; omega
 have d125_to : ((s[to].toNat : Int) != 125) = true := by simp; omega
 have a2 : ((to : Int) + 1).toNat = to + 1 := by omega
 have i2 : (0 : Int) ≤ (to : Int) + 1 := by omega
 have l1_j : decide (((to : Int) + 1 : Int) < (s.size : Int)) = false := by simp; omega
 have l2_j : decide ((s.size : Int) ≤ ((to : Int) + 1 : Int)) = true := by simp; omega
 have l3_j : decide (to + 1 < s.size) = false := by simp; omega
 have l4_j : decide (s.size ≤ to + 1) = true := by simp; omega
 have HN2 := hide (rnum_i s ((to : Int) + 1) (to + 1) (by omega) (by omega) hs hN2)
 have HW := hide (rwrong_num (by omega) hs hN2)
 clear h20 h44 hN2
 have tok1 : True := trivial
 cases B
 all_goals
  go_enter Tryz.func206, Tryz.ntmps206
  go_upto_region 12 with (first
   | (go_at_call 240; have _t := tok1; (with_reducible refine (HN1.out _).mono ?_); rintro e w1 ⟨rfl, hw0⟩; have hw1 := cw_all w k w1 hw0; clear hw0 tok1; have HX1 := Lib.hid hw1.1; have HZ1 := Lib.hid hw1.2.1; have HG1 := Lib.hid hw1.2.2; clear hw1; obtain ⟨⟨x0, x1, x2, x3, x4⟩, xf0, xf1, xf2, xf3, xf4⟩ := HX1.out.all; obtain ⟨⟨z0, z1, z2, z3, z4⟩, zf0, zf1, zf2, zf3, zf4⟩ := HZ1.out.all; try dsimp only [numR]))
  have HX2 := Lib.hid (((HX1.out).set2 n).set3 n)
  have HZ2 := Lib.hid (HZ1.out.kept (World.grownBy.trans (grown_set w1 (w.heap.size + 1) 2 (.int .i64 n)) (grown_set _ (w.heap.size + 1) 3 (.int .i64 n))) (by simp))
  have HG2 := Lib.hid (grown_new HG1.out (World.grownBy.trans (grown_set w1 (w.heap.size + 1) 2 (.int .i64 n)) (grown_set _ (w.heap.size + 1) 3 (.int .i64 n))) (by omega))
  clear x0 x1 x2 x3 x4 z0 z1 z2 z3 z4 xf0 xf1 xf2 xf3 xf4 zf0 zf1 zf2 zf3 zf4
  change Code.wp _ _ _ _ (((w1).setCell ⟨w.heap.size + 1, 2, none⟩ (.int .i64 n)).setCell ⟨w.heap.size + 1, 3, none⟩ (.int .i64 n))
  generalize ((w1).setCell ⟨w.heap.size + 1, 2, none⟩ (.int .i64 n)).setCell ⟨w.heap.size + 1, 3, none⟩ (.int .i64 n) = w2 at HX2 HZ2 HG2 ⊢
  obtain ⟨⟨x0, x1, x2, x3, x4⟩, xf0, xf1, xf2, xf3, xf4⟩ := HX2.out.all; obtain ⟨⟨z0, z1, z2, z3, z4⟩, zf0, zf1, zf2, zf3, zf4⟩ := HZ2.out.all
  go_wp2_with (first
   | (go_at_call 240; (with_reducible refine (HN2.out _).mono ?_); rintro e w9 ⟨rfl, hw9⟩; replace hw9 := hw9.symm; subst hw9; try dsimp only [numR])
   | (go_at_call 241; (with_reducible refine (HW.out _).mono ?_); rintro e w9 ⟨rfl, hw9⟩; replace hw9 := hw9.symm; subst hw9))
  have HZ9 := Lib.hid (SC.st5 (W := (w2).setCell ⟨w.heap.size + 1, 3, none⟩ (.int .i64 (-1))) (HZ2.out.kept (grown_set w2 (w.heap.size + 1) 3 (.int .i64 (-1))) (by simp)) 5 k n (-1) ⟨#[]⟩)
  have HG9 := Lib.hid (grown_new (W := (w2).setCell ⟨w.heap.size + 1, 3, none⟩ (.int .i64 (-1))) (grown_new HG2.out (grown_set w2 (w.heap.size + 1) 3 (.int .i64 (-1))) (by omega)) (st5_grown _ w.heap.size 5 k n (-1) ⟨#[]⟩) (Nat.le_refl _))
  clear x0 x1 x2 x3 x4 z0 z1 z2 z3 z4 xf0 xf1 xf2 xf3 xf4 zf0 zf1 zf2 zf3 zf4
  change bodyPost _ _ _ _ _ (st5 ((w2).setCell ⟨w.heap.size + 1, 3, none⟩ (.int .i64 (-1))) w.heap.size 5 k n (-1) ⟨#[]⟩)
  generalize st5 ((w2).setCell ⟨w.heap.size + 1, 3, none⟩ (.int .i64 (-1))) w.heap.size 5 k n (-1) ⟨#[]⟩ = W9 at HZ9 HG9 ⊢
  obtain ⟨b0, b1, b2, b3, b4⟩ := HZ9.out.cells
  exact bodyPost_ret (v := .tuple #[.agg #[.int .i64 5, .int .i64 k, .int .i64 n, .int .i64 (-1), .string ⟨#[]⟩], .int .i64 p, .int .i64 c]) (by simp [results, Tryz.results206, go_sem, b0, b1, b2, b3, b4]) rfl ⟨HG9.out, ⟨⟨5, k, n, (-1), []⟩, rfl⟩⟩
theorem rc_hibad (s : ByteArray) (k : Nat) (w : World) (hk : k < s.size) (hs : s.size ≤ 9223372036854775807) {n to : Nat} (hN : num (s.data.toList.drop (k + 1)) (k + 1) = .ok n to) (h20 : n ≤ 20) {Z : Prop} (_hz : Z) (hlt : to < s.size) (h44 : s[to].toNat = 44) (hlt2 : to + 1 < s.size) (h6 : s[to + 1].toNat ≠ 125) {p : Nat} {c : Int} (hN2 : num (s.data.toList.drop (to + 1)) (to + 1) = .bad p c) :
  Calls Tryz.prog 206 #[.string s, .int .i64 k] w (Gives w (.bad p c)) := by
 have HN1 := hide (rnum_i s ((k : Int) + 1) (k + 1) (by omega) (by omega) hs hN)
 obtain ⟨hto1, hto2, hn⟩ := num_len hN
 have hto3 : to ≤ s.size := hto2 (by omega)
 clear hto2 hN
 have t0 : decide ((n : Int) < 0) = false := by simp
 have t1 : decide ((20 : Int) < (n : Int)) = false := by simp; omega
 obtain ⟨B, t2, t2'⟩ := zero_bool n
 have l1_to : decide ((to : Int) < (s.size : Int)) = true := by simp; omega
 have l2_to : decide ((s.size : Int) ≤ (to : Int)) = false := by simp; omega
 have l3_to : decide (to < s.size) = true := by simp; omega
 have l4_to : decide (s.size ≤ to) = false := by simp; omega
 have c44_to : ((s[to].toNat : Int) == 44) = true := by simp; omega
 have c125_to : ((s[to].toNat : Int) == 125) = false := by simp; omega
 have d125_to : ((s[to].toNat : Int) != 125) = true := by simp; omega
 have a2 : ((to : Int) + 1).toNat = to + 1 := by omega
 have i2 : (0 : Int) ≤ (to : Int) + 1 := by omega
 have l1_j : decide (((to : Int) + 1 : Int) < (s.size : Int)) = true := by simp; omega
 have l2_j : decide ((s.size : Int) ≤ ((to : Int) + 1 : Int)) = false := by simp; omega
 have l3_j : decide (to + 1 < s.size) = true := by simp; omega
 have l4_j : decide (s.size ≤ to + 1) = false := by simp; omega
 have i3 : (to : Int) + 1 < (s.size : Int) := by omega
 have c125_j : ((s[to + 1].toNat : Int) == 125) = false := by simp; omega
 have d125_j : ((s[to + 1].toNat : Int) != 125) = true := by simp; omega
 have HN2 := hide (rnum_i s ((to : Int) + 1) (to + 1) (by omega) (by omega) hs hN2)
 have HW := hide (rwrong_num (by omega) hs hN2)
 clear h20 h44 h6 hN2
 have tok1 : True := trivial
 cases B
 all_goals
  go_enter Tryz.func206, Tryz.ntmps206
  go_upto_region 12 with (first
   | (go_at_call 240; have _t := tok1; (with_reducible refine (HN1.out _).mono ?_); rintro e w1 ⟨rfl, hw0⟩; have hw1 := cw_all w k w1 hw0; clear hw0 tok1; have HX1 := Lib.hid hw1.1; have HZ1 := Lib.hid hw1.2.1; have HG1 := Lib.hid hw1.2.2; clear hw1; obtain ⟨⟨x0, x1, x2, x3, x4⟩, xf0, xf1, xf2, xf3, xf4⟩ := HX1.out.all; obtain ⟨⟨z0, z1, z2, z3, z4⟩, zf0, zf1, zf2, zf3, zf4⟩ := HZ1.out.all; try dsimp only [numR]))
  have HX2 := Lib.hid (((HX1.out).set2 n).set3 n)
  have HZ2 := Lib.hid (HZ1.out.kept (World.grownBy.trans (grown_set w1 (w.heap.size + 1) 2 (.int .i64 n)) (grown_set _ (w.heap.size + 1) 3 (.int .i64 n))) (by simp))
  have HG2 := Lib.hid (grown_new HG1.out (World.grownBy.trans (grown_set w1 (w.heap.size + 1) 2 (.int .i64 n)) (grown_set _ (w.heap.size + 1) 3 (.int .i64 n))) (by omega))
  clear x0 x1 x2 x3 x4 z0 z1 z2 z3 z4 xf0 xf1 xf2 xf3 xf4 zf0 zf1 zf2 zf3 zf4
  change Code.wp _ _ _ _ (((w1).setCell ⟨w.heap.size + 1, 2, none⟩ (.int .i64 n)).setCell ⟨w.heap.size + 1, 3, none⟩ (.int .i64 n))
  generalize ((w1).setCell ⟨w.heap.size + 1, 2, none⟩ (.int .i64 n)).setCell ⟨w.heap.size + 1, 3, none⟩ (.int .i64 n) = w2 at HX2 HZ2 HG2 ⊢
  obtain ⟨⟨x0, x1, x2, x3, x4⟩, xf0, xf1, xf2, xf3, xf4⟩ := HX2.out.all; obtain ⟨⟨z0, z1, z2, z3, z4⟩, zf0, zf1, zf2, zf3, zf4⟩ := HZ2.out.all
  go_wp2_with (first
   | (go_at_call 240; (with_reducible refine (HN2.out _).mono ?_); rintro e w9 ⟨rfl, hw9⟩; replace hw9 := hw9.symm; subst hw9; try dsimp only [numR])
   | (go_at_call 241; (with_reducible refine (HW.out _).mono ?_); rintro e w9 ⟨rfl, hw9⟩; replace hw9 := hw9.symm; subst hw9))
  have HZ9 := Lib.hid (SC.st5 (W := (w2).setCell ⟨w.heap.size + 1, 3, none⟩ (.int .i64 (-1))) (HZ2.out.kept (grown_set w2 (w.heap.size + 1) 3 (.int .i64 (-1))) (by simp)) 5 k n (-1) ⟨#[]⟩)
  have HG9 := Lib.hid (grown_new (W := (w2).setCell ⟨w.heap.size + 1, 3, none⟩ (.int .i64 (-1))) (grown_new HG2.out (grown_set w2 (w.heap.size + 1) 3 (.int .i64 (-1))) (by omega)) (st5_grown _ w.heap.size 5 k n (-1) ⟨#[]⟩) (Nat.le_refl _))
  clear x0 x1 x2 x3 x4 z0 z1 z2 z3 z4 xf0 xf1 xf2 xf3 xf4 zf0 zf1 zf2 zf3 zf4
  change bodyPost _ _ _ _ _ (st5 ((w2).setCell ⟨w.heap.size + 1, 3, none⟩ (.int .i64 (-1))) w.heap.size 5 k n (-1) ⟨#[]⟩)
  generalize st5 ((w2).setCell ⟨w.heap.size + 1, 3, none⟩ (.int .i64 (-1))) w.heap.size 5 k n (-1) ⟨#[]⟩ = W9 at HZ9 HG9 ⊢
  obtain ⟨b0, b1, b2, b3, b4⟩ := HZ9.out.cells
  exact bodyPost_ret (v := .tuple #[.agg #[.int .i64 5, .int .i64 k, .int .i64 n, .int .i64 (-1), .string ⟨#[]⟩], .int .i64 p, .int .i64 c]) (by simp [results, Tryz.results206, go_sem, b0, b1, b2, b3, b4]) rfl ⟨HG9.out, ⟨⟨5, k, n, (-1), []⟩, rfl⟩⟩
theorem rc_low (s : ByteArray) (k : Nat) (w : World) (hk : k < s.size) (hs : s.size ≤ 9223372036854775807) {n to : Nat} (hN : num (s.data.toList.drop (k + 1)) (k + 1) = .ok n to) (h20 : n ≤ 20) {Z : Prop} (_hz : Z) (hlt : to < s.size) (h44 : s[to].toNat = 44) (hlt2 : to + 1 < s.size) (h6 : s[to + 1].toNat ≠ 125) {m to2 : Nat} (hN2 : num (s.data.toList.drop (to + 1)) (to + 1) = .ok m to2) (hm1 : m < 1) :
  Calls Tryz.prog 206 #[.string s, .int .i64 k] w (Gives w (.bad (to + 1) 3)) := by
 have HN1 := hide (rnum_i s ((k : Int) + 1) (k + 1) (by omega) (by omega) hs hN)
 obtain ⟨hto1, hto2, hn⟩ := num_len hN
 have hto3 : to ≤ s.size := hto2 (by omega)
 clear hto2 hN
 have t0 : decide ((n : Int) < 0) = false := by simp
 have t1 : decide ((20 : Int) < (n : Int)) = false := by simp; omega
 obtain ⟨B, t2, t2'⟩ := zero_bool n
 have l1_to : decide ((to : Int) < (s.size : Int)) = true := by simp; omega
 have l2_to : decide ((s.size : Int) ≤ (to : Int)) = false := by simp; omega
 have l3_to : decide (to < s.size) = true := by simp; omega
 have l4_to : decide (s.size ≤ to) = false := by simp; omega
 have c44_to : ((s[to].toNat : Int) == 44) = true := by simp; omega
 have c125_to : ((s[to].toNat : Int) == 125) = false := by simp; omega
 have d125_to : ((s[to].toNat : Int) != 125) = true := by simp; omega
 have a2 : ((to : Int) + 1).toNat = to + 1 := by omega
 have i2 : (0 : Int) ≤ (to : Int) + 1 := by omega
 have l1_j : decide (((to : Int) + 1 : Int) < (s.size : Int)) = true := by simp; omega
 have l2_j : decide ((s.size : Int) ≤ ((to : Int) + 1 : Int)) = false := by simp; omega
 have l3_j : decide (to + 1 < s.size) = true := by simp; omega
 have l4_j : decide (s.size ≤ to + 1) = false := by simp; omega
 have i3 : (to : Int) + 1 < (s.size : Int) := by omega
 have c125_j : ((s[to + 1].toNat : Int) == 125) = false := by simp; omega
 have d125_j : ((s[to + 1].toNat : Int) != 125) = true := by simp; omega
 have HN2 := hide (rnum_i s ((to : Int) + 1) (to + 1) (by omega) (by omega) hs hN2)
 obtain ⟨hto4, hto5, hm⟩ := num_len hN2
 have hto6 : to2 ≤ s.size := hto5 (by omega)
 clear hto5 hN2
 have m0 : decide ((m : Int) < 0) = false := by simp
 have m1 : decide ((m : Int) < 1) = true := by simp; omega
 clear h20 h44 h6 hm1
 have tok1 : True := trivial
 cases B
 all_goals
  go_enter Tryz.func206, Tryz.ntmps206
  go_upto_region 12 with (first
   | (go_at_call 240; have _t := tok1; (with_reducible refine (HN1.out _).mono ?_); rintro e w1 ⟨rfl, hw0⟩; have hw1 := cw_all w k w1 hw0; clear hw0 tok1; have HX1 := Lib.hid hw1.1; have HZ1 := Lib.hid hw1.2.1; have HG1 := Lib.hid hw1.2.2; clear hw1; obtain ⟨⟨x0, x1, x2, x3, x4⟩, xf0, xf1, xf2, xf3, xf4⟩ := HX1.out.all; obtain ⟨⟨z0, z1, z2, z3, z4⟩, zf0, zf1, zf2, zf3, zf4⟩ := HZ1.out.all; try dsimp only [numR]))
  have HX2 := Lib.hid (((HX1.out).set2 n).set3 n)
  have HZ2 := Lib.hid (HZ1.out.kept (World.grownBy.trans (grown_set w1 (w.heap.size + 1) 2 (.int .i64 n)) (grown_set _ (w.heap.size + 1) 3 (.int .i64 n))) (by simp))
  have HG2 := Lib.hid (grown_new HG1.out (World.grownBy.trans (grown_set w1 (w.heap.size + 1) 2 (.int .i64 n)) (grown_set _ (w.heap.size + 1) 3 (.int .i64 n))) (by omega))
  clear x0 x1 x2 x3 x4 z0 z1 z2 z3 z4 xf0 xf1 xf2 xf3 xf4 zf0 zf1 zf2 zf3 zf4
  change Code.wp _ _ _ _ (((w1).setCell ⟨w.heap.size + 1, 2, none⟩ (.int .i64 n)).setCell ⟨w.heap.size + 1, 3, none⟩ (.int .i64 n))
  generalize ((w1).setCell ⟨w.heap.size + 1, 2, none⟩ (.int .i64 n)).setCell ⟨w.heap.size + 1, 3, none⟩ (.int .i64 n) = w2 at HX2 HZ2 HG2 ⊢
  obtain ⟨⟨x0, x1, x2, x3, x4⟩, xf0, xf1, xf2, xf3, xf4⟩ := HX2.out.all; obtain ⟨⟨z0, z1, z2, z3, z4⟩, zf0, zf1, zf2, zf3, zf4⟩ := HZ2.out.all
  go_wp2_with (first
   | (go_at_call 240; (with_reducible refine (HN2.out _).mono ?_); rintro e w9 ⟨rfl, hw9⟩; replace hw9 := hw9.symm; subst hw9; try dsimp only [numR]))
  have HZ9 := Lib.hid (SC.st5 (W := (w2).setCell ⟨w.heap.size + 1, 3, none⟩ (.int .i64 (-1))) (HZ2.out.kept (grown_set w2 (w.heap.size + 1) 3 (.int .i64 (-1))) (by simp)) 5 k n (-1) ⟨#[]⟩)
  have HG9 := Lib.hid (grown_new (W := (w2).setCell ⟨w.heap.size + 1, 3, none⟩ (.int .i64 (-1))) (grown_new HG2.out (grown_set w2 (w.heap.size + 1) 3 (.int .i64 (-1))) (by omega)) (st5_grown _ w.heap.size 5 k n (-1) ⟨#[]⟩) (Nat.le_refl _))
  clear x0 x1 x2 x3 x4 z0 z1 z2 z3 z4 xf0 xf1 xf2 xf3 xf4 zf0 zf1 zf2 zf3 zf4
  change bodyPost _ _ _ _ _ (st5 ((w2).setCell ⟨w.heap.size + 1, 3, none⟩ (.int .i64 (-1))) w.heap.size 5 k n (-1) ⟨#[]⟩)
  generalize st5 ((w2).setCell ⟨w.heap.size + 1, 3, none⟩ (.int .i64 (-1))) w.heap.size 5 k n (-1) ⟨#[]⟩ = W9 at HZ9 HG9 ⊢
  obtain ⟨b0, b1, b2, b3, b4⟩ := HZ9.out.cells
  exact bodyPost_ret (v := .tuple #[.agg #[.int .i64 5, .int .i64 k, .int .i64 n, .int .i64 (-1), .string ⟨#[]⟩], .int .i64 ((to : Int) + 1), .int .i64 3]) (by simp [results, Tryz.results206, go_sem, b0, b1, b2, b3, b4]) rfl ⟨HG9.out, ⟨⟨5, k, n, (-1), []⟩, rfl⟩⟩
theorem rc_high (s : ByteArray) (k : Nat) (w : World) (hk : k < s.size) (hs : s.size ≤ 9223372036854775807) {n to : Nat} (hN : num (s.data.toList.drop (k + 1)) (k + 1) = .ok n to) (h20 : n ≤ 20) {Z : Prop} (_hz : Z) (hlt : to < s.size) (h44 : s[to].toNat = 44) (hlt2 : to + 1 < s.size) (h6 : s[to + 1].toNat ≠ 125) {m to2 : Nat} (hN2 : num (s.data.toList.drop (to + 1)) (to + 1) = .ok m to2) (hm1 : 20 < m) :
  Calls Tryz.prog 206 #[.string s, .int .i64 k] w (Gives w (.bad (to + 1) 3)) := by
 have HN1 := hide (rnum_i s ((k : Int) + 1) (k + 1) (by omega) (by omega) hs hN)
 obtain ⟨hto1, hto2, hn⟩ := num_len hN
 have hto3 : to ≤ s.size := hto2 (by omega)
 clear hto2 hN
 have t0 : decide ((n : Int) < 0) = false := by simp
 have t1 : decide ((20 : Int) < (n : Int)) = false := by simp; omega
 obtain ⟨B, t2, t2'⟩ := zero_bool n
 have l1_to : decide ((to : Int) < (s.size : Int)) = true := by simp; omega
 have l2_to : decide ((s.size : Int) ≤ (to : Int)) = false := by simp; omega
 have l3_to : decide (to < s.size) = true := by simp; omega
 have l4_to : decide (s.size ≤ to) = false := by simp; omega
 have c44_to : ((s[to].toNat : Int) == 44) = true := by simp; omega
 have c125_to : ((s[to].toNat : Int) == 125) = false := by simp; omega
 have d125_to : ((s[to].toNat : Int) != 125) = true := by simp; omega
 have a2 : ((to : Int) + 1).toNat = to + 1 := by omega
 have i2 : (0 : Int) ≤ (to : Int) + 1 := by omega
 have l1_j : decide (((to : Int) + 1 : Int) < (s.size : Int)) = true := by simp; omega
 have l2_j : decide ((s.size : Int) ≤ ((to : Int) + 1 : Int)) = false := by simp; omega
 have l3_j : decide (to + 1 < s.size) = true := by simp; omega
 have l4_j : decide (s.size ≤ to + 1) = false := by simp; omega
 have i3 : (to : Int) + 1 < (s.size : Int) := by omega
 have c125_j : ((s[to + 1].toNat : Int) == 125) = false := by simp; omega
 have d125_j : ((s[to + 1].toNat : Int) != 125) = true := by simp; omega
 have HN2 := hide (rnum_i s ((to : Int) + 1) (to + 1) (by omega) (by omega) hs hN2)
 obtain ⟨hto4, hto5, hm⟩ := num_len hN2
 have hto6 : to2 ≤ s.size := hto5 (by omega)
 clear hto5 hN2
 have m0 : decide ((m : Int) < 0) = false := by simp
 have m1 : decide ((m : Int) < 1) = false := by simp; omega
 have m2 : decide ((20 : Int) < (m : Int)) = true := by simp; omega
 clear h20 h44 h6 hm1
 have tok1 : True := trivial
 cases B
 all_goals
  go_enter Tryz.func206, Tryz.ntmps206
  go_upto_region 12 with (first
   | (go_at_call 240; have _t := tok1; (with_reducible refine (HN1.out _).mono ?_); rintro e w1 ⟨rfl, hw0⟩; have hw1 := cw_all w k w1 hw0; clear hw0 tok1; have HX1 := Lib.hid hw1.1; have HZ1 := Lib.hid hw1.2.1; have HG1 := Lib.hid hw1.2.2; clear hw1; obtain ⟨⟨x0, x1, x2, x3, x4⟩, xf0, xf1, xf2, xf3, xf4⟩ := HX1.out.all; obtain ⟨⟨z0, z1, z2, z3, z4⟩, zf0, zf1, zf2, zf3, zf4⟩ := HZ1.out.all; try dsimp only [numR]))
  have HX2 := Lib.hid (((HX1.out).set2 n).set3 n)
  have HZ2 := Lib.hid (HZ1.out.kept (World.grownBy.trans (grown_set w1 (w.heap.size + 1) 2 (.int .i64 n)) (grown_set _ (w.heap.size + 1) 3 (.int .i64 n))) (by simp))
  have HG2 := Lib.hid (grown_new HG1.out (World.grownBy.trans (grown_set w1 (w.heap.size + 1) 2 (.int .i64 n)) (grown_set _ (w.heap.size + 1) 3 (.int .i64 n))) (by omega))
  clear x0 x1 x2 x3 x4 z0 z1 z2 z3 z4 xf0 xf1 xf2 xf3 xf4 zf0 zf1 zf2 zf3 zf4
  change Code.wp _ _ _ _ (((w1).setCell ⟨w.heap.size + 1, 2, none⟩ (.int .i64 n)).setCell ⟨w.heap.size + 1, 3, none⟩ (.int .i64 n))
  generalize ((w1).setCell ⟨w.heap.size + 1, 2, none⟩ (.int .i64 n)).setCell ⟨w.heap.size + 1, 3, none⟩ (.int .i64 n) = w2 at HX2 HZ2 HG2 ⊢
  obtain ⟨⟨x0, x1, x2, x3, x4⟩, xf0, xf1, xf2, xf3, xf4⟩ := HX2.out.all; obtain ⟨⟨z0, z1, z2, z3, z4⟩, zf0, zf1, zf2, zf3, zf4⟩ := HZ2.out.all
  go_wp2_with (first
   | (go_at_call 240; (with_reducible refine (HN2.out _).mono ?_); rintro e w9 ⟨rfl, hw9⟩; replace hw9 := hw9.symm; subst hw9; try dsimp only [numR]))
  have HZ9 := Lib.hid (SC.st5 (W := (w2).setCell ⟨w.heap.size + 1, 3, none⟩ (.int .i64 (-1))) (HZ2.out.kept (grown_set w2 (w.heap.size + 1) 3 (.int .i64 (-1))) (by simp)) 5 k n (-1) ⟨#[]⟩)
  have HG9 := Lib.hid (grown_new (W := (w2).setCell ⟨w.heap.size + 1, 3, none⟩ (.int .i64 (-1))) (grown_new HG2.out (grown_set w2 (w.heap.size + 1) 3 (.int .i64 (-1))) (by omega)) (st5_grown _ w.heap.size 5 k n (-1) ⟨#[]⟩) (Nat.le_refl _))
  clear x0 x1 x2 x3 x4 z0 z1 z2 z3 z4 xf0 xf1 xf2 xf3 xf4 zf0 zf1 zf2 zf3 zf4
  change bodyPost _ _ _ _ _ (st5 ((w2).setCell ⟨w.heap.size + 1, 3, none⟩ (.int .i64 (-1))) w.heap.size 5 k n (-1) ⟨#[]⟩)
  generalize st5 ((w2).setCell ⟨w.heap.size + 1, 3, none⟩ (.int .i64 (-1))) w.heap.size 5 k n (-1) ⟨#[]⟩ = W9 at HZ9 HG9 ⊢
  obtain ⟨b0, b1, b2, b3, b4⟩ := HZ9.out.cells
  exact bodyPost_ret (v := .tuple #[.agg #[.int .i64 5, .int .i64 k, .int .i64 n, .int .i64 (-1), .string ⟨#[]⟩], .int .i64 ((to : Int) + 1), .int .i64 3]) (by simp [results, Tryz.results206, go_sem, b0, b1, b2, b3, b4]) rfl ⟨HG9.out, ⟨⟨5, k, n, (-1), []⟩, rfl⟩⟩
theorem rc_less (s : ByteArray) (k : Nat) (w : World) (hk : k < s.size) (hs : s.size ≤ 9223372036854775807) {n to : Nat} (hN : num (s.data.toList.drop (k + 1)) (k + 1) = .ok n to) (h20 : n ≤ 20) {Z : Prop} (_hz : Z) (hlt : to < s.size) (h44 : s[to].toNat = 44) (hlt2 : to + 1 < s.size) (h6 : s[to + 1].toNat ≠ 125) {m to2 : Nat} (hN2 : num (s.data.toList.drop (to + 1)) (to + 1) = .ok m to2) (hm1 : 1 ≤ m) (hm2 : m ≤ 20) (hm3 : m < n) :
  Calls Tryz.prog 206 #[.string s, .int .i64 k] w (Gives w (.bad (to + 1) 3)) := by
 have HN1 := hide (rnum_i s ((k : Int) + 1) (k + 1) (by omega) (by omega) hs hN)
 obtain ⟨hto1, hto2, hn⟩ := num_len hN
 have hto3 : to ≤ s.size := hto2 (by omega)
 clear hto2 hN
 have t0 : decide ((n : Int) < 0) = false := by simp
 have t1 : decide ((20 : Int) < (n : Int)) = false := by simp; omega
 obtain ⟨B, t2, t2'⟩ := zero_bool n
 have l1_to : decide ((to : Int) < (s.size : Int)) = true := by simp; omega
 have l2_to : decide ((s.size : Int) ≤ (to : Int)) = false := by simp; omega
 have l3_to : decide (to < s.size) = true := by simp; omega
 have l4_to : decide (s.size ≤ to) = false := by simp; omega
 have c44_to : ((s[to].toNat : Int) == 44) = true := by simp; omega
 have c125_to : ((s[to].toNat : Int) == 125) = false := by simp; omega
 have d125_to : ((s[to].toNat : Int) != 125) = true := by simp; omega
 have a2 : ((to : Int) + 1).toNat = to + 1 := by omega
 have i2 : (0 : Int) ≤ (to : Int) + 1 := by omega
 have l1_j : decide (((to : Int) + 1 : Int) < (s.size : Int)) = true := by simp; omega
 have l2_j : decide ((s.size : Int) ≤ ((to : Int) + 1 : Int)) = false := by simp; omega
 have l3_j : decide (to + 1 < s.size) = true := by simp; omega
 have l4_j : decide (s.size ≤ to + 1) = false := by simp; omega
 have i3 : (to : Int) + 1 < (s.size : Int) := by omega
 have c125_j : ((s[to + 1].toNat : Int) == 125) = false := by simp; omega
 have d125_j : ((s[to + 1].toNat : Int) != 125) = true := by simp; omega
 have HN2 := hide (rnum_i s ((to : Int) + 1) (to + 1) (by omega) (by omega) hs hN2)
 obtain ⟨hto4, hto5, hm⟩ := num_len hN2
 have hto6 : to2 ≤ s.size := hto5 (by omega)
 clear hto5 hN2
 have m0 : decide ((m : Int) < 0) = false := by simp
 have m1 : decide ((m : Int) < 1) = false := by simp; omega
 have m2 : decide ((20 : Int) < (m : Int)) = false := by simp; omega
 have m3 : decide ((m : Int) < (n : Int)) = true := by simp; omega
 have m4 : decide (m < n) = true := by simp; omega
 clear h20 h44 h6 hm1 hm2 hm3
 have tok1 : True := trivial
 cases B
 all_goals
  go_enter Tryz.func206, Tryz.ntmps206
  go_upto_region 12 with (first
   | (go_at_call 240; have _t := tok1; (with_reducible refine (HN1.out _).mono ?_); rintro e w1 ⟨rfl, hw0⟩; have hw1 := cw_all w k w1 hw0; clear hw0 tok1; have HX1 := Lib.hid hw1.1; have HZ1 := Lib.hid hw1.2.1; have HG1 := Lib.hid hw1.2.2; clear hw1; obtain ⟨⟨x0, x1, x2, x3, x4⟩, xf0, xf1, xf2, xf3, xf4⟩ := HX1.out.all; obtain ⟨⟨z0, z1, z2, z3, z4⟩, zf0, zf1, zf2, zf3, zf4⟩ := HZ1.out.all; try dsimp only [numR]))
  have HX2 := Lib.hid (((HX1.out).set2 n).set3 n)
  have HZ2 := Lib.hid (HZ1.out.kept (World.grownBy.trans (grown_set w1 (w.heap.size + 1) 2 (.int .i64 n)) (grown_set _ (w.heap.size + 1) 3 (.int .i64 n))) (by simp))
  have HG2 := Lib.hid (grown_new HG1.out (World.grownBy.trans (grown_set w1 (w.heap.size + 1) 2 (.int .i64 n)) (grown_set _ (w.heap.size + 1) 3 (.int .i64 n))) (by omega))
  clear x0 x1 x2 x3 x4 z0 z1 z2 z3 z4 xf0 xf1 xf2 xf3 xf4 zf0 zf1 zf2 zf3 zf4
  change Code.wp _ _ _ _ (((w1).setCell ⟨w.heap.size + 1, 2, none⟩ (.int .i64 n)).setCell ⟨w.heap.size + 1, 3, none⟩ (.int .i64 n))
  generalize ((w1).setCell ⟨w.heap.size + 1, 2, none⟩ (.int .i64 n)).setCell ⟨w.heap.size + 1, 3, none⟩ (.int .i64 n) = w2 at HX2 HZ2 HG2 ⊢
  obtain ⟨⟨x0, x1, x2, x3, x4⟩, xf0, xf1, xf2, xf3, xf4⟩ := HX2.out.all; obtain ⟨⟨z0, z1, z2, z3, z4⟩, zf0, zf1, zf2, zf3, zf4⟩ := HZ2.out.all
  go_wp2_with (first
   | (go_at_call 240; (with_reducible refine (HN2.out _).mono ?_); rintro e w9 ⟨rfl, hw9⟩; replace hw9 := hw9.symm; subst hw9; try dsimp only [numR]))
  have HZ9 := Lib.hid (SC.st5 (W := (w2).setCell ⟨w.heap.size + 1, 3, none⟩ (.int .i64 (-1))) (HZ2.out.kept (grown_set w2 (w.heap.size + 1) 3 (.int .i64 (-1))) (by simp)) 5 k n (-1) ⟨#[]⟩)
  have HG9 := Lib.hid (grown_new (W := (w2).setCell ⟨w.heap.size + 1, 3, none⟩ (.int .i64 (-1))) (grown_new HG2.out (grown_set w2 (w.heap.size + 1) 3 (.int .i64 (-1))) (by omega)) (st5_grown _ w.heap.size 5 k n (-1) ⟨#[]⟩) (Nat.le_refl _))
  clear x0 x1 x2 x3 x4 z0 z1 z2 z3 z4 xf0 xf1 xf2 xf3 xf4 zf0 zf1 zf2 zf3 zf4
  change bodyPost _ _ _ _ _ (st5 ((w2).setCell ⟨w.heap.size + 1, 3, none⟩ (.int .i64 (-1))) w.heap.size 5 k n (-1) ⟨#[]⟩)
  generalize st5 ((w2).setCell ⟨w.heap.size + 1, 3, none⟩ (.int .i64 (-1))) w.heap.size 5 k n (-1) ⟨#[]⟩ = W9 at HZ9 HG9 ⊢
  obtain ⟨b0, b1, b2, b3, b4⟩ := HZ9.out.cells
  exact bodyPost_ret (v := .tuple #[.agg #[.int .i64 5, .int .i64 k, .int .i64 n, .int .i64 (-1), .string ⟨#[]⟩], .int .i64 ((to : Int) + 1), .int .i64 3]) (by simp [results, Tryz.results206, go_sem, b0, b1, b2, b3, b4]) rfl ⟨HG9.out, ⟨⟨5, k, n, (-1), []⟩, rfl⟩⟩
theorem rc_hiend (s : ByteArray) (k : Nat) (w : World) (hk : k < s.size) (hs : s.size ≤ 9223372036854775807) {n to : Nat} (hN : num (s.data.toList.drop (k + 1)) (k + 1) = .ok n to) (h20 : n ≤ 20) {Z : Prop} (_hz : Z) (hlt : to < s.size) (h44 : s[to].toNat = 44) (hlt2 : to + 1 < s.size) (h6 : s[to + 1].toNat ≠ 125) {m to2 : Nat} (hN2 : num (s.data.toList.drop (to + 1)) (to + 1) = .ok m to2) (hm1 : 1 ≤ m) (hm2 : m ≤ 20) (hm3 : n ≤ m) (hle : s.size ≤ to2) :
  Calls Tryz.prog 206 #[.string s, .int .i64 k] w (Gives w (.bad to2 5)) := by
 have HN1 := hide (rnum_i s ((k : Int) + 1) (k + 1) (by omega) (by omega) hs hN)
 obtain ⟨hto1, hto2, hn⟩ := num_len hN
 have hto3 : to ≤ s.size := hto2 (by omega)
 clear hto2 hN
 have t0 : decide ((n : Int) < 0) = false := by simp
 have t1 : decide ((20 : Int) < (n : Int)) = false := by simp; omega
 obtain ⟨B, t2, t2'⟩ := zero_bool n
 have l1_to : decide ((to : Int) < (s.size : Int)) = true := by simp; omega
 have l2_to : decide ((s.size : Int) ≤ (to : Int)) = false := by simp; omega
 have l3_to : decide (to < s.size) = true := by simp; omega
 have l4_to : decide (s.size ≤ to) = false := by simp; omega
 have c44_to : ((s[to].toNat : Int) == 44) = true := by simp; omega
 have c125_to : ((s[to].toNat : Int) == 125) = false := by simp; omega
 have d125_to : ((s[to].toNat : Int) != 125) = true := by simp; omega
 have a2 : ((to : Int) + 1).toNat = to + 1 := by omega
 have i2 : (0 : Int) ≤ (to : Int) + 1 := by omega
 have l1_j : decide (((to : Int) + 1 : Int) < (s.size : Int)) = true := by simp; omega
 have l2_j : decide ((s.size : Int) ≤ ((to : Int) + 1 : Int)) = false := by simp; omega
 have l3_j : decide (to + 1 < s.size) = true := by simp; omega
 have l4_j : decide (s.size ≤ to + 1) = false := by simp; omega
 have i3 : (to : Int) + 1 < (s.size : Int) := by omega
 have c125_j : ((s[to + 1].toNat : Int) == 125) = false := by simp; omega
 have d125_j : ((s[to + 1].toNat : Int) != 125) = true := by simp; omega
 have HN2 := hide (rnum_i s ((to : Int) + 1) (to + 1) (by omega) (by omega) hs hN2)
 obtain ⟨hto4, hto5, hm⟩ := num_len hN2
 have hto6 : to2 ≤ s.size := hto5 (by omega)
 clear hto5 hN2
 have m0 : decide ((m : Int) < 0) = false := by simp
 have m1 : decide ((m : Int) < 1) = false := by simp; omega
 have m2 : decide ((20 : Int) < (m : Int)) = false := by simp; omega
 have m3 : decide ((m : Int) < (n : Int)) = false := by simp; omega
 have m4 : decide (m < n) = false := by simp; omega
 have l1_to2 : decide ((to2 : Int) < (s.size : Int)) = false := by simp; omega
 have l2_to2 : decide ((s.size : Int) ≤ (to2 : Int)) = true := by simp; omega
 have l3_to2 : decide (to2 < s.size) = false := by simp; omega
 have l4_to2 : decide (s.size ≤ to2) = true := by simp; omega
 have HW := hide (rwrong_at s to2 (by omega) hs)
 clear h20 h44 h6 hm1 hm2 hm3
 have tok1 : True := trivial
 cases B
 all_goals
  go_enter Tryz.func206, Tryz.ntmps206
  go_upto_region 12 with (first
   | (go_at_call 240; have _t := tok1; (with_reducible refine (HN1.out _).mono ?_); rintro e w1 ⟨rfl, hw0⟩; have hw1 := cw_all w k w1 hw0; clear hw0 tok1; have HX1 := Lib.hid hw1.1; have HZ1 := Lib.hid hw1.2.1; have HG1 := Lib.hid hw1.2.2; clear hw1; obtain ⟨⟨x0, x1, x2, x3, x4⟩, xf0, xf1, xf2, xf3, xf4⟩ := HX1.out.all; obtain ⟨⟨z0, z1, z2, z3, z4⟩, zf0, zf1, zf2, zf3, zf4⟩ := HZ1.out.all; try dsimp only [numR]))
  have HX2 := Lib.hid (((HX1.out).set2 n).set3 n)
  have HZ2 := Lib.hid (HZ1.out.kept (World.grownBy.trans (grown_set w1 (w.heap.size + 1) 2 (.int .i64 n)) (grown_set _ (w.heap.size + 1) 3 (.int .i64 n))) (by simp))
  have HG2 := Lib.hid (grown_new HG1.out (World.grownBy.trans (grown_set w1 (w.heap.size + 1) 2 (.int .i64 n)) (grown_set _ (w.heap.size + 1) 3 (.int .i64 n))) (by omega))
  clear x0 x1 x2 x3 x4 z0 z1 z2 z3 z4 xf0 xf1 xf2 xf3 xf4 zf0 zf1 zf2 zf3 zf4
  change Code.wp _ _ _ _ (((w1).setCell ⟨w.heap.size + 1, 2, none⟩ (.int .i64 n)).setCell ⟨w.heap.size + 1, 3, none⟩ (.int .i64 n))
  generalize ((w1).setCell ⟨w.heap.size + 1, 2, none⟩ (.int .i64 n)).setCell ⟨w.heap.size + 1, 3, none⟩ (.int .i64 n) = w2 at HX2 HZ2 HG2 ⊢
  obtain ⟨⟨x0, x1, x2, x3, x4⟩, xf0, xf1, xf2, xf3, xf4⟩ := HX2.out.all; obtain ⟨⟨z0, z1, z2, z3, z4⟩, zf0, zf1, zf2, zf3, zf4⟩ := HZ2.out.all
  go_upto_region 21 with (first
   | (go_at_call 240; (with_reducible refine (HN2.out _).mono ?_); rintro e w9 ⟨rfl, hw9⟩; replace hw9 := hw9.symm; subst hw9; try dsimp only [numR]))
  have HX3 := Lib.hid ((HX2.out).set3 (-1))
  have HZ3 := Lib.hid (HZ2.out.kept (grown_set w2 (w.heap.size + 1) 3 (.int .i64 (-1))) (by simp))
  have HG3 := Lib.hid (grown_new HG2.out (grown_set w2 (w.heap.size + 1) 3 (.int .i64 (-1))) (by omega))
  clear x0 x1 x2 x3 x4 z0 z1 z2 z3 z4 xf0 xf1 xf2 xf3 xf4 zf0 zf1 zf2 zf3 zf4
  change Code.wp _ _ _ _ ((w2).setCell ⟨w.heap.size + 1, 3, none⟩ (.int .i64 (-1)))
  generalize (w2).setCell ⟨w.heap.size + 1, 3, none⟩ (.int .i64 (-1)) = w3 at HX3 HZ3 HG3 ⊢
  obtain ⟨⟨x0, x1, x2, x3, x4⟩, xf0, xf1, xf2, xf3, xf4⟩ := HX3.out.all; obtain ⟨⟨z0, z1, z2, z3, z4⟩, zf0, zf1, zf2, zf3, zf4⟩ := HZ3.out.all
  go_wp2_with (first
   | (go_at_call 241; (with_reducible refine (HW.out _).mono ?_); rintro e w9 ⟨rfl, hw9⟩; replace hw9 := hw9.symm; subst hw9))
  have HZ9 := Lib.hid (SC.st5 (W := (w3).setCell ⟨w.heap.size + 1, 3, none⟩ (.int .i64 m)) (HZ3.out.kept (grown_set w3 (w.heap.size + 1) 3 (.int .i64 m)) (by simp)) 5 k n m ⟨#[]⟩)
  have HG9 := Lib.hid (grown_new (W := (w3).setCell ⟨w.heap.size + 1, 3, none⟩ (.int .i64 m)) (grown_new HG3.out (grown_set w3 (w.heap.size + 1) 3 (.int .i64 m)) (by omega)) (st5_grown _ w.heap.size 5 k n m ⟨#[]⟩) (Nat.le_refl _))
  clear x0 x1 x2 x3 x4 z0 z1 z2 z3 z4 xf0 xf1 xf2 xf3 xf4 zf0 zf1 zf2 zf3 zf4
  change bodyPost _ _ _ _ _ (st5 ((w3).setCell ⟨w.heap.size + 1, 3, none⟩ (.int .i64 m)) w.heap.size 5 k n m ⟨#[]⟩)
  generalize st5 ((w3).setCell ⟨w.heap.size + 1, 3, none⟩ (.int .i64 m)) w.heap.size 5 k n m ⟨#[]⟩ = W9 at HZ9 HG9 ⊢
  obtain ⟨b0, b1, b2, b3, b4⟩ := HZ9.out.cells
  exact bodyPost_ret (v := .tuple #[.agg #[.int .i64 5, .int .i64 k, .int .i64 n, .int .i64 m, .string ⟨#[]⟩], .int .i64 to2, .int .i64 5]) (by simp [results, Tryz.results206, go_sem, b0, b1, b2, b3, b4]) rfl ⟨HG9.out, ⟨⟨5, k, n, m, []⟩, rfl⟩⟩
theorem rc_hioth (s : ByteArray) (k : Nat) (w : World) (hk : k < s.size) (hs : s.size ≤ 9223372036854775807) {n to : Nat} (hN : num (s.data.toList.drop (k + 1)) (k + 1) = .ok n to) (h20 : n ≤ 20) {Z : Prop} (_hz : Z) (hlt : to < s.size) (h44 : s[to].toNat = 44) (hlt2 : to + 1 < s.size) (h6 : s[to + 1].toNat ≠ 125) {m to2 : Nat} (hN2 : num (s.data.toList.drop (to + 1)) (to + 1) = .ok m to2) (hm1 : 1 ≤ m) (hm2 : m ≤ 20) (hm3 : n ≤ m) (hlt3 : to2 < s.size) (h7 : s[to2].toNat ≠ 125) :
  Calls Tryz.prog 206 #[.string s, .int .i64 k] w (Gives w (.bad to2 2)) := by
 have HN1 := hide (rnum_i s ((k : Int) + 1) (k + 1) (by omega) (by omega) hs hN)
 obtain ⟨hto1, hto2, hn⟩ := num_len hN
 have hto3 : to ≤ s.size := hto2 (by omega)
 clear hto2 hN
 have t0 : decide ((n : Int) < 0) = false := by simp
 have t1 : decide ((20 : Int) < (n : Int)) = false := by simp; omega
 obtain ⟨B, t2, t2'⟩ := zero_bool n
 have l1_to : decide ((to : Int) < (s.size : Int)) = true := by simp; omega
 have l2_to : decide ((s.size : Int) ≤ (to : Int)) = false := by simp; omega
 have l3_to : decide (to < s.size) = true := by simp; omega
 have l4_to : decide (s.size ≤ to) = false := by simp; omega
 have c44_to : ((s[to].toNat : Int) == 44) = true := by simp; omega
 have c125_to : ((s[to].toNat : Int) == 125) = false := by simp; omega
 have d125_to : ((s[to].toNat : Int) != 125) = true := by simp; omega
 have a2 : ((to : Int) + 1).toNat = to + 1 := by omega
 have i2 : (0 : Int) ≤ (to : Int) + 1 := by omega
 have l1_j : decide (((to : Int) + 1 : Int) < (s.size : Int)) = true := by simp; omega
 have l2_j : decide ((s.size : Int) ≤ ((to : Int) + 1 : Int)) = false := by simp; omega
 have l3_j : decide (to + 1 < s.size) = true := by simp; omega
 have l4_j : decide (s.size ≤ to + 1) = false := by simp; omega
 have i3 : (to : Int) + 1 < (s.size : Int) := by omega
 have c125_j : ((s[to + 1].toNat : Int) == 125) = false := by simp; omega
 have d125_j : ((s[to + 1].toNat : Int) != 125) = true := by simp; omega
 have HN2 := hide (rnum_i s ((to : Int) + 1) (to + 1) (by omega) (by omega) hs hN2)
 obtain ⟨hto4, hto5, hm⟩ := num_len hN2
 have hto6 : to2 ≤ s.size := hto5 (by omega)
 clear hto5 hN2
 have m0 : decide ((m : Int) < 0) = false := by simp
 have m1 : decide ((m : Int) < 1) = false := by simp; omega
 have m2 : decide ((20 : Int) < (m : Int)) = false := by simp; omega
 have m3 : decide ((m : Int) < (n : Int)) = false := by simp; omega
 have m4 : decide (m < n) = false := by simp; omega
 have l1_to2 : decide ((to2 : Int) < (s.size : Int)) = true := by simp; omega
 have l2_to2 : decide ((s.size : Int) ≤ (to2 : Int)) = false := by simp; omega
 have l3_to2 : decide (to2 < s.size) = true := by simp; omega
 have l4_to2 : decide (s.size ≤ to2) = false := by simp; omega
 have c125_to2 : ((s[to2].toNat : Int) == 125) = false := by simp; omega
 have d125_to2 : ((s[to2].toNat : Int) != 125) = true := by simp; omega
 have HW := hide (rwrong_in s to2 hlt3 hs)
 clear h7
 clear h20 h44 h6 hm1 hm2 hm3
 have tok1 : True := trivial
 cases B
 all_goals
  go_enter Tryz.func206, Tryz.ntmps206
  go_upto_region 12 with (first
   | (go_at_call 240; have _t := tok1; (with_reducible refine (HN1.out _).mono ?_); rintro e w1 ⟨rfl, hw0⟩; have hw1 := cw_all w k w1 hw0; clear hw0 tok1; have HX1 := Lib.hid hw1.1; have HZ1 := Lib.hid hw1.2.1; have HG1 := Lib.hid hw1.2.2; clear hw1; obtain ⟨⟨x0, x1, x2, x3, x4⟩, xf0, xf1, xf2, xf3, xf4⟩ := HX1.out.all; obtain ⟨⟨z0, z1, z2, z3, z4⟩, zf0, zf1, zf2, zf3, zf4⟩ := HZ1.out.all; try dsimp only [numR]))
  have HX2 := Lib.hid (((HX1.out).set2 n).set3 n)
  have HZ2 := Lib.hid (HZ1.out.kept (World.grownBy.trans (grown_set w1 (w.heap.size + 1) 2 (.int .i64 n)) (grown_set _ (w.heap.size + 1) 3 (.int .i64 n))) (by simp))
  have HG2 := Lib.hid (grown_new HG1.out (World.grownBy.trans (grown_set w1 (w.heap.size + 1) 2 (.int .i64 n)) (grown_set _ (w.heap.size + 1) 3 (.int .i64 n))) (by omega))
  clear x0 x1 x2 x3 x4 z0 z1 z2 z3 z4 xf0 xf1 xf2 xf3 xf4 zf0 zf1 zf2 zf3 zf4
  change Code.wp _ _ _ _ (((w1).setCell ⟨w.heap.size + 1, 2, none⟩ (.int .i64 n)).setCell ⟨w.heap.size + 1, 3, none⟩ (.int .i64 n))
  generalize ((w1).setCell ⟨w.heap.size + 1, 2, none⟩ (.int .i64 n)).setCell ⟨w.heap.size + 1, 3, none⟩ (.int .i64 n) = w2 at HX2 HZ2 HG2 ⊢
  obtain ⟨⟨x0, x1, x2, x3, x4⟩, xf0, xf1, xf2, xf3, xf4⟩ := HX2.out.all; obtain ⟨⟨z0, z1, z2, z3, z4⟩, zf0, zf1, zf2, zf3, zf4⟩ := HZ2.out.all
  go_upto_region 21 with (first
   | (go_at_call 240; (with_reducible refine (HN2.out _).mono ?_); rintro e w9 ⟨rfl, hw9⟩; replace hw9 := hw9.symm; subst hw9; try dsimp only [numR]))
  have HX3 := Lib.hid ((HX2.out).set3 (-1))
  have HZ3 := Lib.hid (HZ2.out.kept (grown_set w2 (w.heap.size + 1) 3 (.int .i64 (-1))) (by simp))
  have HG3 := Lib.hid (grown_new HG2.out (grown_set w2 (w.heap.size + 1) 3 (.int .i64 (-1))) (by omega))
  clear x0 x1 x2 x3 x4 z0 z1 z2 z3 z4 xf0 xf1 xf2 xf3 xf4 zf0 zf1 zf2 zf3 zf4
  change Code.wp _ _ _ _ ((w2).setCell ⟨w.heap.size + 1, 3, none⟩ (.int .i64 (-1)))
  generalize (w2).setCell ⟨w.heap.size + 1, 3, none⟩ (.int .i64 (-1)) = w3 at HX3 HZ3 HG3 ⊢
  obtain ⟨⟨x0, x1, x2, x3, x4⟩, xf0, xf1, xf2, xf3, xf4⟩ := HX3.out.all; obtain ⟨⟨z0, z1, z2, z3, z4⟩, zf0, zf1, zf2, zf3, zf4⟩ := HZ3.out.all
  go_wp2_with (first
   | (go_at_call 241; (with_reducible refine (HW.out _).mono ?_); rintro e w9 ⟨rfl, hw9⟩; replace hw9 := hw9.symm; subst hw9))
  have HZ9 := Lib.hid (SC.st5 (W := (w3).setCell ⟨w.heap.size + 1, 3, none⟩ (.int .i64 m)) (HZ3.out.kept (grown_set w3 (w.heap.size + 1) 3 (.int .i64 m)) (by simp)) 5 k n m ⟨#[]⟩)
  have HG9 := Lib.hid (grown_new (W := (w3).setCell ⟨w.heap.size + 1, 3, none⟩ (.int .i64 m)) (grown_new HG3.out (grown_set w3 (w.heap.size + 1) 3 (.int .i64 m)) (by omega)) (st5_grown _ w.heap.size 5 k n m ⟨#[]⟩) (Nat.le_refl _))
  clear x0 x1 x2 x3 x4 z0 z1 z2 z3 z4 xf0 xf1 xf2 xf3 xf4 zf0 zf1 zf2 zf3 zf4
  change bodyPost _ _ _ _ _ (st5 ((w3).setCell ⟨w.heap.size + 1, 3, none⟩ (.int .i64 m)) w.heap.size 5 k n m ⟨#[]⟩)
  generalize st5 ((w3).setCell ⟨w.heap.size + 1, 3, none⟩ (.int .i64 m)) w.heap.size 5 k n m ⟨#[]⟩ = W9 at HZ9 HG9 ⊢
  obtain ⟨b0, b1, b2, b3, b4⟩ := HZ9.out.cells
  exact bodyPost_ret (v := .tuple #[.agg #[.int .i64 5, .int .i64 k, .int .i64 n, .int .i64 m, .string ⟨#[]⟩], .int .i64 to2, .int .i64 2]) (by simp [results, Tryz.results206, go_sem, b0, b1, b2, b3, b4]) rfl ⟨HG9.out, ⟨⟨5, k, n, m, []⟩, rfl⟩⟩
theorem rc_hiok (s : ByteArray) (k : Nat) (w : World) (hk : k < s.size) (hs : s.size ≤ 9223372036854775807) {n to : Nat} (hN : num (s.data.toList.drop (k + 1)) (k + 1) = .ok n to) (h20 : n ≤ 20) {Z : Prop} (_hz : Z) (hlt : to < s.size) (h44 : s[to].toNat = 44) (hlt2 : to + 1 < s.size) (h6 : s[to + 1].toNat ≠ 125) {m to2 : Nat} (hN2 : num (s.data.toList.drop (to + 1)) (to + 1) = .ok m to2) (hm1 : 1 ≤ m) (hm2 : m ≤ 20) (hm3 : n ≤ m) (hlt3 : to2 < s.size) (h7 : s[to2].toNat = 125) :
  Calls Tryz.prog 206 #[.string s, .int .i64 k] w (Gives w (.ok ⟨5, k, n, m, []⟩ (to2 + 1))) := by
 have HN1 := hide (rnum_i s ((k : Int) + 1) (k + 1) (by omega) (by omega) hs hN)
 obtain ⟨hto1, hto2, hn⟩ := num_len hN
 have hto3 : to ≤ s.size := hto2 (by omega)
 clear hto2 hN
 have t0 : decide ((n : Int) < 0) = false := by simp
 have t1 : decide ((20 : Int) < (n : Int)) = false := by simp; omega
 obtain ⟨B, t2, t2'⟩ := zero_bool n
 have l1_to : decide ((to : Int) < (s.size : Int)) = true := by simp; omega
 have l2_to : decide ((s.size : Int) ≤ (to : Int)) = false := by simp; omega
 have l3_to : decide (to < s.size) = true := by simp; omega
 have l4_to : decide (s.size ≤ to) = false := by simp; omega
 have c44_to : ((s[to].toNat : Int) == 44) = true := by simp; omega
 have c125_to : ((s[to].toNat : Int) == 125) = false := by simp; omega
 have d125_to : ((s[to].toNat : Int) != 125) = true := by simp; omega
 have a2 : ((to : Int) + 1).toNat = to + 1 := by omega
 have i2 : (0 : Int) ≤ (to : Int) + 1 := by omega
 have l1_j : decide (((to : Int) + 1 : Int) < (s.size : Int)) = true := by simp; omega
 have l2_j : decide ((s.size : Int) ≤ ((to : Int) + 1 : Int)) = false := by simp; omega
 have l3_j : decide (to + 1 < s.size) = true := by simp; omega
 have l4_j : decide (s.size ≤ to + 1) = false := by simp; omega
 have i3 : (to : Int) + 1 < (s.size : Int) := by omega
 have c125_j : ((s[to + 1].toNat : Int) == 125) = false := by simp; omega
 have d125_j : ((s[to + 1].toNat : Int) != 125) = true := by simp; omega
 have HN2 := hide (rnum_i s ((to : Int) + 1) (to + 1) (by omega) (by omega) hs hN2)
 obtain ⟨hto4, hto5, hm⟩ := num_len hN2
 have hto6 : to2 ≤ s.size := hto5 (by omega)
 clear hto5 hN2
 have m0 : decide ((m : Int) < 0) = false := by simp
 have m1 : decide ((m : Int) < 1) = false := by simp; omega
 have m2 : decide ((20 : Int) < (m : Int)) = false := by simp; omega
 have m3 : decide ((m : Int) < (n : Int)) = false := by simp; omega
 have m4 : decide (m < n) = false := by simp; omega
 have l1_to2 : decide ((to2 : Int) < (s.size : Int)) = true := by simp; omega
 have l2_to2 : decide ((s.size : Int) ≤ (to2 : Int)) = false := by simp; omega
 have l3_to2 : decide (to2 < s.size) = true := by simp; omega
 have l4_to2 : decide (s.size ≤ to2) = false := by simp; omega
 have c125_to2 : ((s[to2].toNat : Int) == 125) = true := by simp; omega
 have d125_to2 : ((s[to2].toNat : Int) != 125) = false := by simp; omega
 clear h7
 clear h20 h44 h6 hm1 hm2 hm3
 have tok1 : True := trivial
 cases B
 all_goals
  go_enter Tryz.func206, Tryz.ntmps206
  go_upto_region 12 with (first
   | (go_at_call 240; have _t := tok1; (with_reducible refine (HN1.out _).mono ?_); rintro e w1 ⟨rfl, hw0⟩; have hw1 := cw_all w k w1 hw0; clear hw0 tok1; have HX1 := Lib.hid hw1.1; have HZ1 := Lib.hid hw1.2.1; have HG1 := Lib.hid hw1.2.2; clear hw1; obtain ⟨⟨x0, x1, x2, x3, x4⟩, xf0, xf1, xf2, xf3, xf4⟩ := HX1.out.all; obtain ⟨⟨z0, z1, z2, z3, z4⟩, zf0, zf1, zf2, zf3, zf4⟩ := HZ1.out.all; try dsimp only [numR]))
  have HX2 := Lib.hid (((HX1.out).set2 n).set3 n)
  have HZ2 := Lib.hid (HZ1.out.kept (World.grownBy.trans (grown_set w1 (w.heap.size + 1) 2 (.int .i64 n)) (grown_set _ (w.heap.size + 1) 3 (.int .i64 n))) (by simp))
  have HG2 := Lib.hid (grown_new HG1.out (World.grownBy.trans (grown_set w1 (w.heap.size + 1) 2 (.int .i64 n)) (grown_set _ (w.heap.size + 1) 3 (.int .i64 n))) (by omega))
  clear x0 x1 x2 x3 x4 z0 z1 z2 z3 z4 xf0 xf1 xf2 xf3 xf4 zf0 zf1 zf2 zf3 zf4
  change Code.wp _ _ _ _ (((w1).setCell ⟨w.heap.size + 1, 2, none⟩ (.int .i64 n)).setCell ⟨w.heap.size + 1, 3, none⟩ (.int .i64 n))
  generalize ((w1).setCell ⟨w.heap.size + 1, 2, none⟩ (.int .i64 n)).setCell ⟨w.heap.size + 1, 3, none⟩ (.int .i64 n) = w2 at HX2 HZ2 HG2 ⊢
  obtain ⟨⟨x0, x1, x2, x3, x4⟩, xf0, xf1, xf2, xf3, xf4⟩ := HX2.out.all; obtain ⟨⟨z0, z1, z2, z3, z4⟩, zf0, zf1, zf2, zf3, zf4⟩ := HZ2.out.all
  go_upto_region 21 with (first
   | (go_at_call 240; (with_reducible refine (HN2.out _).mono ?_); rintro e w9 ⟨rfl, hw9⟩; replace hw9 := hw9.symm; subst hw9; try dsimp only [numR]))
  have HX3 := Lib.hid ((HX2.out).set3 (-1))
  have HZ3 := Lib.hid (HZ2.out.kept (grown_set w2 (w.heap.size + 1) 3 (.int .i64 (-1))) (by simp))
  have HG3 := Lib.hid (grown_new HG2.out (grown_set w2 (w.heap.size + 1) 3 (.int .i64 (-1))) (by omega))
  clear x0 x1 x2 x3 x4 z0 z1 z2 z3 z4 xf0 xf1 xf2 xf3 xf4 zf0 zf1 zf2 zf3 zf4
  change Code.wp _ _ _ _ ((w2).setCell ⟨w.heap.size + 1, 3, none⟩ (.int .i64 (-1)))
  generalize (w2).setCell ⟨w.heap.size + 1, 3, none⟩ (.int .i64 (-1)) = w3 at HX3 HZ3 HG3 ⊢
  obtain ⟨⟨x0, x1, x2, x3, x4⟩, xf0, xf1, xf2, xf3, xf4⟩ := HX3.out.all; obtain ⟨⟨z0, z1, z2, z3, z4⟩, zf0, zf1, zf2, zf3, zf4⟩ := HZ3.out.all
  go_wp2_with fail
  have HZ9 := Lib.hid (SC.st5 (W := (w3).setCell ⟨w.heap.size + 1, 3, none⟩ (.int .i64 m)) (HZ3.out.kept (grown_set w3 (w.heap.size + 1) 3 (.int .i64 m)) (by simp)) 5 k n m ⟨#[]⟩)
  have HG9 := Lib.hid (grown_new (W := (w3).setCell ⟨w.heap.size + 1, 3, none⟩ (.int .i64 m)) (grown_new HG3.out (grown_set w3 (w.heap.size + 1) 3 (.int .i64 m)) (by omega)) (st5_grown _ w.heap.size 5 k n m ⟨#[]⟩) (Nat.le_refl _))
  clear x0 x1 x2 x3 x4 z0 z1 z2 z3 z4 xf0 xf1 xf2 xf3 xf4 zf0 zf1 zf2 zf3 zf4
  change bodyPost _ _ _ _ _ (st5 ((w3).setCell ⟨w.heap.size + 1, 3, none⟩ (.int .i64 m)) w.heap.size 5 k n m ⟨#[]⟩)
  generalize st5 ((w3).setCell ⟨w.heap.size + 1, 3, none⟩ (.int .i64 m)) w.heap.size 5 k n m ⟨#[]⟩ = W9 at HZ9 HG9 ⊢
  obtain ⟨b0, b1, b2, b3, b4⟩ := HZ9.out.cells
  exact bodyPost_ret (v := .tuple #[.agg #[.int .i64 5, .int .i64 k, .int .i64 n, .int .i64 m, .string ⟨#[]⟩], .int .i64 ((to2 : Int) + 1), .int .i64 0]) (by simp [results, Tryz.results206, go_sem, b0, b1, b2, b3, b4]) rfl ⟨HG9.out, rfl⟩
end Go.Proofs.YtnbchikiiipejaaGreatDoor.Lx
