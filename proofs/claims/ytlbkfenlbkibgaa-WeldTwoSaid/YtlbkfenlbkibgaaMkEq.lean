/- Rows of sets of marks, eight cells each: read; held against each other. -/
import Derived.Test.YtlbkfenlbkibgaaTkEq
set_option linter.unusedVariables false
set_option maxRecDepth 100000
set_option maxHeartbeats 1000000
namespace Go.Proofs.Ytlbkfenlbkibgaa.Tk
open Go.RowKit Mem
structure Mk where
 a : Int
 b : Int
 c : Int
 d : Int
 e : Int
 f : Int
 g : Int
 h : Int
 deriving DecidableEq
def mcells (x : Mk) : List Value := [.int .u16 x.a, .int .u16 x.b, .int .u16 x.c, .int .u16 x.d, .int .u16 x.e, .int .u16 x.f, .int .u16 x.g, .int .u16 x.h]
def mkV (x : Mk) : Value := .agg #[.int .u16 x.a, .int .u16 x.b, .int .u16 x.c, .int .u16 x.d, .int .u16 x.e, .int .u16 x.f, .int .u16 x.g, .int .u16 x.h]
def At8 (w : World) (b o : Nat) (x : Mk) : Prop := ∀ j v, (mcells x)[j]? = some v → w.cell? ⟨b, o + j, none⟩ = some v
theorem At8.cells {w : World} {b o : Nat} {x : Mk} (h : At8 w b o x) :
  w.cell? ⟨b, o, none⟩ = some (.int .u16 x.a) ∧ w.cell? ⟨b, o + 1, none⟩ = some (.int .u16 x.b) ∧ w.cell? ⟨b, o + 2, none⟩ = some (.int .u16 x.c) ∧ w.cell? ⟨b, o + 3, none⟩ = some (.int .u16 x.d) ∧ w.cell? ⟨b, o + 4, none⟩ = some (.int .u16 x.e) ∧ w.cell? ⟨b, o + 5, none⟩ = some (.int .u16 x.f) ∧ w.cell? ⟨b, o + 6, none⟩ = some (.int .u16 x.g) ∧ w.cell? ⟨b, o + 7, none⟩ = some (.int .u16 x.h) :=
 ⟨h 0 _ rfl, h 1 _ rfl, h 2 _ rfl, h 3 _ rfl, h 4 _ rfl, h 5 _ rfl, h 6 _ rfl, h 7 _ rfl⟩
theorem At8.keep {w w' : World} {b o : Nat} {x : Mk} (h : At8 w b o x) (hk : ∀ p, w'.cell? ⟨b, p, none⟩ = w.cell? ⟨b, p, none⟩) : At8 w' b o x := fun j v hv => (hk _).trans (h j v hv)
def MkRow (w : World) (A : Option Addr) (n : Nat) (l : List Mk) : Prop :=
 l.length = n ∧ (0 < n → ∃ b off, A = some ⟨b, off, none⟩ ∧ b < w.heap.size ∧ ∀ j (h : j < l.length), At8 w b (off + j * 8) l[j])
section
variable {w w' : World} {A : Option Addr} {n : Nat} {l : List Mk}
theorem MkRow.nil : MkRow w A 0 [] := ⟨rfl, fun h => absurd h (by omega)⟩
theorem MkRow.below (h : MkRow w A n l) (hb : Below w.heap.size w w') : MkRow w' A n l :=
 ⟨h.1, fun hn => by
  obtain ⟨b, off, e, hl, hc⟩ := h.2 hn
  exact ⟨b, off, e, Nat.lt_of_lt_of_le hl hb.size, fun j hj => (hc j hj).keep fun p => hb.cell (p := ⟨b, p, none⟩) hl⟩⟩
end
theorem eq_mk (d : Nat) (x y : Mk) (w : World) : (Op.equalIn (d + 1 + 1) 99 (mkV x) (mkV y)).run Try.prog w = .ok (decide (x = y)) w := by
 unfold mkV
 rw [eq_marks]
 congr 1
 obtain ⟨a, b, c, e, f, g, h, i⟩ := x
 obtain ⟨a', b', c', e', f', g', h', i'⟩ := y
 rw [Bool.eq_iff_iff]
 simp
theorem equal_mk (l m : List Mk) (A B : Option Addr) (n n' cap cap' : Nat) (w : World) (hr : MkRow w A n l) (hr' : MkRow w B n' m) (hn : n ≤ 9223372036854775807) (hn' : n' ≤ 9223372036854775807) :
  Calls Try.prog 106 #[.slice A n cap, .slice B n' cap'] w fun e w' => e = .returned (.bool (decide (l = m))) ∧ ∃ q, w' = w.drewN q := by
 have HR := Lib.hid hr
 have HR' := Lib.hid hr'
 have HL := Lib.hid hr.1
 have HL' := Lib.hid hr'.1
 obtain ⟨s, hs⟩ : ∃ x, x = decide (l = m) := ⟨_, rfl⟩
 rw [← hs]
 have HS := Lib.hid hs
 clear hr hr' hs
 by_cases hnn : n = n'
 ·subst hnn
  go_enter Try.func106, Try.ntmps106
  go_wp2
  go_loopw [13] (fun j wr => ∃ (i : Nat), i ≤ n ∧ j = .int .i64 i ∧ Hid (l.take i = m.take i) ∧ ∃ q, wr = w.drewN q) (fun j _ => n - (intOf j).toNat)
  case atStart => exact ⟨0, by omega, by simp, Lib.hid rfl, 0, rfl⟩
  case round =>
   obtain ⟨i, hi, rfl, HO, q, rfl⟩ := hrel
   by_cases hlt : i < n
   ·obtain ⟨bl, off, rfl, hbl, hcells⟩ := HR.out.2 (by omega)
    obtain ⟨bl', off', rfl, hbl', hcells'⟩ := HR'.out.2 (by omega)
    have hi' : i < l.length := by have := HL.out; omega
    have hi2 : i < m.length := by have := HL'.out; omega
    obtain ⟨c0, c1, c2, c3, c4, c5, c6, c7⟩ := (hcells i hi').cells
    obtain ⟨d0, d1, d2, d3, d4, d5, d6, d7⟩ := (hcells' i hi2).cells
    have TS : Hid (l.take (i + 1) = l.take i ++ [l[i]]) := Lib.hid (by rw [List.take_succ_eq_append_getElem hi'])
    have TS' : Hid (m.take (i + 1) = m.take i ++ [m[i]]) := Lib.hid (by rw [List.take_succ_eq_append_getElem hi2])
    have NE : Hid (l[i] ≠ m[i] → l ≠ m) := Lib.hid (fun h e => h (by subst e; rfl))
    clear hcells hcells'
    have EQ : ∀ W : World, (Op.equalIn 10000 99 (mkV l[i]) (mkV m[i])).run Try.prog W = .ok (decide (l[i] = m[i])) W := fun W => eq_mk 9998 _ _ W
    by_cases he : l[i] = m[i]
    ·have N1 : Hid (l.take (i + 1) = m.take (i + 1)) := Lib.hid (by rw [TS.out, TS'.out, HO.out, he])
     have EQ' : ∀ W : World, (Op.equalIn 10000 99 (mkV l[i]) (mkV m[i])).run Try.prog W = .ok true W := fun W => by rw [EQ W]; simp [he]
     clear EQ NE TS TS' he
     generalize hK : l[i] = x at *
     generalize hK' : m[i] = y at *
     obtain ⟨ma, mb, mc, md, me, mf, mg, mh⟩ := x
     obtain ⟨ya, yb, yc, yd, ye, yf, yg, yh⟩ := y
     unfold mkV at EQ'
     simp only at c0 c1 c2 c3 c4 c5 c6 c7 d0 d1 d2 d3 d4 d5 d6 d7 EQ'
     clear hK hK' hbl hbl'
     go_wp2_with fail
     go_quiet (fail)
     go_wp2
     go_roundw
     case rel => exact ⟨i + 1, by omega, by go_num, N1, _, rfl⟩
     case measure => simp [intOf]; omega
    ·have N1 : Hid (s = false) := Lib.hid (by rw [HS.out]; simpa using NE.out he)
     have EQ' : ∀ W : World, (Op.equalIn 10000 99 (mkV l[i]) (mkV m[i])).run Try.prog W = .ok false W := fun W => by rw [EQ W]; simp [he]
     clear EQ NE TS TS' he
     generalize hK : l[i] = x at *
     generalize hK' : m[i] = y at *
     obtain ⟨ma, mb, mc, md, me, mf, mg, mh⟩ := x
     obtain ⟨ya, yb, yc, yd, ye, yf, yg, yh⟩ := y
     unfold mkV at EQ'
     simp only at c0 c1 c2 c3 c4 c5 c6 c7 d0 d1 d2 d3 d4 d5 d6 d7 EQ'
     clear hK hK' hbl hbl'
     go_wp2_with fail
     go_quiet (fail)
     go_wp2
     go_ret
     exact ⟨by rw [N1.out]; rfl, q + nq, by rw [World.drewN_drewN]⟩
   ·obtain rfl : i = n := by omega
    go_wp2
    go_ret
    have hT : l.take i = l := by rw [List.take_of_length_le]; rw [HL.out]; exact Nat.le_refl _
    have hT' : m.take i = m := by rw [List.take_of_length_le]; rw [HL'.out]; exact Nat.le_refl _
    have h := HO.out
    rw [hT, hT'] at h
    exact ⟨by rw [HS.out, h]; simp, _, rfl⟩
 ·have N1 : Hid (s = false) := Lib.hid (by rw [HS.out]; simp; intro e; exact hnn (by rw [← HL.out, ← HL'.out, e]))
  have hne : ((n : Int) == (n' : Int)) = false := by rw [beq_eq_false_iff_ne]; omega
  go_enter Try.func106, Try.ntmps106
  go_wp2
  go_ret
  exact ⟨by rw [N1.out]; rfl, 0, rfl⟩
theorem rsets_any (l m : List Mk) (A B : Option Addr) (n n' cap cap' : Nat) (w : World) (hr : MkRow w A n l) (hr' : MkRow w B n' m) (hn : n ≤ 9223372036854775807) (hn' : n' ≤ 9223372036854775807) :
  Calls Try.prog 50 #[.slice A n cap, .slice B n' cap'] w fun e w' => e = .returned (.bool (decide (l = m))) ∧ ∃ q, w' = w.drewN q := by
 have HR := Lib.hid hr
 have HR' := Lib.hid hr'
 have HL := Lib.hid hr.1
 have HL' := Lib.hid hr'.1
 obtain ⟨s, hs⟩ : ∃ x, x = decide (l = m) := ⟨_, rfl⟩
 rw [← hs]
 have HS := Lib.hid hs
 clear hr hr' hs
 by_cases hnn : n = n'
 ·subst hnn
  go_enter Try.func50, Try.ntmps50
  go_wp2
  go_loopw [5] (fun j wr => ∃ (i : Nat), i ≤ n ∧ j = .int .i64 i ∧ Hid (l.take i = m.take i) ∧ ∃ q, wr = w.drewN q) (fun j _ => n - (intOf j).toNat)
  case atStart => exact ⟨0, by omega, by simp, Lib.hid rfl, 0, rfl⟩
  case round =>
   obtain ⟨i, hi, rfl, HO, q, rfl⟩ := hrel
   by_cases hlt : i < n
   ·obtain ⟨bl, off, rfl, hbl, hcells⟩ := HR.out.2 (by omega)
    obtain ⟨bl', off', rfl, hbl', hcells'⟩ := HR'.out.2 (by omega)
    have hi' : i < l.length := by have := HL.out; omega
    have hi2 : i < m.length := by have := HL'.out; omega
    obtain ⟨c0, c1, c2, c3, c4, c5, c6, c7⟩ := (hcells i hi').cells
    obtain ⟨d0, d1, d2, d3, d4, d5, d6, d7⟩ := (hcells' i hi2).cells
    have TS : Hid (l.take (i + 1) = l.take i ++ [l[i]]) := Lib.hid (by rw [List.take_succ_eq_append_getElem hi'])
    have TS' : Hid (m.take (i + 1) = m.take i ++ [m[i]]) := Lib.hid (by rw [List.take_succ_eq_append_getElem hi2])
    have NE : Hid (l[i] ≠ m[i] → l ≠ m) := Lib.hid (fun h e => h (by subst e; rfl))
    clear hcells hcells'
    have EQ : ∀ W : World, (Op.equalIn 10000 99 (mkV l[i]) (mkV m[i])).run Try.prog W = .ok (decide (l[i] = m[i])) W := fun W => eq_mk 9998 _ _ W
    by_cases he : l[i] = m[i]
    ·have N1 : Hid (l.take (i + 1) = m.take (i + 1)) := Lib.hid (by rw [TS.out, TS'.out, HO.out, he])
     have EQ' : ∀ W : World, (Op.equalIn 10000 99 (mkV l[i]) (mkV m[i])).run Try.prog W = .ok true W := fun W => by rw [EQ W]; simp [he]
     clear EQ NE TS TS' he
     generalize hK : l[i] = x at *
     generalize hK' : m[i] = y at *
     obtain ⟨ma, mb, mc, md, me, mf, mg, mh⟩ := x
     obtain ⟨ya, yb, yc, yd, ye, yf, yg, yh⟩ := y
     unfold mkV at EQ'
     simp only at c0 c1 c2 c3 c4 c5 c6 c7 d0 d1 d2 d3 d4 d5 d6 d7 EQ'
     clear hK hK' hbl hbl'
     go_wp2_with fail
     go_quiet (fail)
     go_wp2
     go_roundw
     case rel => exact ⟨i + 1, by omega, by go_num, N1, _, rfl⟩
     case measure => simp [intOf]; omega
    ·have N1 : Hid (s = false) := Lib.hid (by rw [HS.out]; simpa using NE.out he)
     have EQ' : ∀ W : World, (Op.equalIn 10000 99 (mkV l[i]) (mkV m[i])).run Try.prog W = .ok false W := fun W => by rw [EQ W]; simp [he]
     clear EQ NE TS TS' he
     generalize hK : l[i] = x at *
     generalize hK' : m[i] = y at *
     obtain ⟨ma, mb, mc, md, me, mf, mg, mh⟩ := x
     obtain ⟨ya, yb, yc, yd, ye, yf, yg, yh⟩ := y
     unfold mkV at EQ'
     simp only at c0 c1 c2 c3 c4 c5 c6 c7 d0 d1 d2 d3 d4 d5 d6 d7 EQ'
     clear hK hK' hbl hbl'
     go_wp2_with fail
     go_quiet (fail)
     go_wp2
     go_ret
     exact ⟨by rw [N1.out]; rfl, q + nq, by rw [World.drewN_drewN]⟩
   ·obtain rfl : i = n := by omega
    go_wp2
    go_ret
    have hT : l.take i = l := by rw [List.take_of_length_le]; rw [HL.out]; exact Nat.le_refl _
    have hT' : m.take i = m := by rw [List.take_of_length_le]; rw [HL'.out]; exact Nat.le_refl _
    have h := HO.out
    rw [hT, hT'] at h
    exact ⟨by rw [HS.out, h]; simp, _, rfl⟩
 ·have N1 : Hid (s = false) := Lib.hid (by rw [HS.out]; simp; intro e; exact hnn (by rw [← HL.out, ← HL'.out, e]))
  have hne : ((n : Int) == (n' : Int)) = false := by rw [beq_eq_false_iff_ne]; omega
  go_enter Try.func50, Try.ntmps50
  go_wp2
  go_ret
  exact ⟨by rw [N1.out]; rfl, 0, rfl⟩
end Go.Proofs.Ytlbkfenlbkibgaa.Tk
