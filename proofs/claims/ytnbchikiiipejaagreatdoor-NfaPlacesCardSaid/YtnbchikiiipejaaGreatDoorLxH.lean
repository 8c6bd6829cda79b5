/- Walks of the lexer: a sign of one byte; what begins where the reader stands. -/
import Derived.Test.YtnbchikiiipejaaGreatDoorLxE
import Derived.Test.YtnbchikiiipejaaGreatDoorLxLaid
import Derived.Test.YtnbchikiiipejaaGreatDoorShelf
import Derived.Lib.OthersKept
import Derived.Lib.IndexLaws
import Derived.Tactics
import Derived.Tactics2
import Derived.Defers
import Derived.Recover
import Derived.RegionTactic
import Derived.BigRegion
import Derived.Outline
set_option linter.unusedVariables false
set_option maxRecDepth 100000
set_option maxHeartbeats 2000000
namespace Go.Proofs.YtnbchikiiipejaaGreatDoor.Lx
open Go.RowKit Mem
def chr (p : Nat) : Nat := [40, 41, 124, 42, 43, 63].getD p 0
theorem chr_inj {p q : Nat} (hp : p < 6) (hq : q < 6) (h : chr p = chr q) : p = q := by
 have hp' : p = 0 ∨ p = 1 ∨ p = 2 ∨ p = 3 ∨ p = 4 ∨ p = 5 := by omega
 have hq' : q = 0 ∨ q = 1 ∨ q = 2 ∨ q = 3 ∨ q = 4 ∨ q = 5 := by omega
 rcases hp' with rfl | rfl | rfl | rfl | rfl | rfl <;> rcases hq' with rfl | rfl | rfl | rfl | rfl | rfl <;> first | rfl | (exfalso; revert h; decide)
theorem chr_le (p : Nat) (hp : p < 6) : chr p < 128 := by
 have hp' : p = 0 ∨ p = 1 ∨ p = 2 ∨ p = 3 ∨ p = 4 ∨ p = 5 := by omega
 rcases hp' with rfl | rfl | rfl | rfl | rfl | rfl <;> decide
def SS : ByteArray := ⟨#[40, 41, 124, 42, 43, 63]⟩
theorem SS_size : SS.size = 6 := rfl
theorem SS_at (p : Nat) (hp : p < SS.size) : (SS[p]'hp).toNat = chr p := by
 have hp' : p = 0 ∨ p = 1 ∨ p = 2 ∨ p = 3 ∨ p = 4 ∨ p = 5 := by rw [SS_size] at hp; omega
 rcases hp' with rfl | rfl | rfl | rfl | rfl | rfl <;> rfl
def It (W : World) (B p : Nat) : Prop := W.heap[B]? = some (.stringIter SS p)
theorem It.lt {W : World} {B p : Nat} (h : It W B p) : B < W.heap.size := (Array.getElem?_eq_some_iff.1 h).1
theorem It.kept {W W' : World} {B p : Nat} {row : Option Nat} (h : It W B p) (hg : W.grownBy W' row) (hne : some B ≠ row) : It W' B p := (hg.block B h.lt hne).trans h
theorem It.next {W : World} {B p : Nat} (h : It W B p) (hp : p < 6) (P : Program) : ∀ ty, (Instr.next (.pointer (some ⟨B, 0, none⟩)) true ty).run P W = .ok (.tuple #[.bool true, .int .i64 p, .int .i32 (chr p : Int)]) (W.iterAt B SS (p + 1)) := by
 intro ty
 have := Lib.run_next_ascii_at (P := P) W B SS p ty h (by rw [SS_size]; exact hp) (by rw [SS_at]; exact chr_le p hp)
 rwa [SS_at] at this
theorem It.last {W : World} {B : Nat} (h : It W B 6) (P : Program) : ∀ ty, (Instr.next (.pointer (some ⟨B, 0, none⟩)) true ty).run P W = .ok (.tuple #[.bool false]) W :=
 fun ty => Lib.run_next_end_at (P := P) W B SS 6 ty h (by rw [SS_size]; omega)
theorem It.move {W : World} {B p : Nat} (h : It W B p) (p' : Nat) : It (W.iterAt B SS p') B p' := Lib.iterAt_heap W B SS p p' h
theorem grown_iter (W : World) (B p : Nat) : W.grownBy (W.iterAt B SS p) (some B) :=
 ⟨rfl, rfl, rfl, by rw [Lib.iterAt_size]; exact Nat.le_refl _, fun k _ hk => Lib.iterAt_other W B k SS p (fun e => hk (by rw [e]))⟩
theorem It.new (W : World) : It (W.alloc (.stringIter SS 0)) W.heap.size 0 := World.alloc_heap_new W _
theorem It.pos {W : World} {B p : Nat} (h : It W B p) : W.iterPos B = p := by unfold It at h; simp [World.iterPos, h]
theorem Held.sing_of {w W : World} {row : Option Nat} (H : Held w) (hg : w.grownBy W row) (hne : some 1 ≠ row) (i : Nat) (l : Int × Int × Int) (hl : singles[i]? = some l) :
  W.cell? ⟨1, i * 5, none⟩ = some (.int .i64 l.1) ∧ W.cell? ⟨1, i * 5 + 1, none⟩ = some (.int .i64 0) ∧ W.cell? ⟨1, i * 5 + 2, none⟩ = some (.int .i64 l.2.1) ∧ W.cell? ⟨1, i * 5 + 3, none⟩ = some (.int .i64 l.2.2) ∧ W.cell? ⟨1, i * 5 + 4, none⟩ = some (.string ⟨#[]⟩) := by
 obtain ⟨a0, a1, a2, a3, a4⟩ := H.sing i l hl
 exact ⟨hg.cell a0 hne, hg.cell a1 hne, hg.cell a2 hne, hg.cell a3 hne, hg.cell a4 hne⟩
theorem short_any (b : Nat) (s : ByteArray) (k : Nat) (w : World) (r : Rd w b s k) (hk : k < s.size) (hs : s.size ≤ 100000) (H : Held w) (hgb : 1 ≠ b) (q : Nat) (hq : q < 6) (hc : s[k].toNat = chr q) (kd lo hi : Int) (hl : singles[q]? = some (kd, lo, hi)) :
  Calls Tryz.prog 213 #[.pointer (some ⟨b, 0, none⟩)] w fun e w' => e = .returned (.agg #[.int .i64 kd, .int .i64 0, .int .i64 lo, .int .i64 hi, .string ⟨#[]⟩]) ∧ Rd w' b s (k + 1) ∧ w.grownBy w' (some b) := by
 have c0 := r.c0
 have c1 := r.c1
 have hbw := r.lt
 have HH := hide H
 have HR := hide r
 clear r H
 go_enter Tryz.func213, Tryz.ntmps213
 go_wp2
 obtain ⟨W0, hW0⟩ : ∃ W0, W0 = ((w.alloc (.cells #[.int .i64 0, .int .i64 0, .int .i64 0, .int .i64 0, .string ⟨#[]⟩] 222)).alloc (.cells #[.int .i64 0, .int .i64 0, .int .i64 0, .int .i64 0, .string ⟨#[]⟩] 222)).iter SS 0 := ⟨_, rfl⟩
 have e0 : W0 = ((w.alloc (.cells #[.int .i64 0, .int .i64 0, .int .i64 0, .int .i64 0, .string ⟨#[]⟩] 222)).alloc (.cells #[.int .i64 0, .int .i64 0, .int .i64 0, .int .i64 0, .string ⟨#[]⟩] 222)).alloc (.stringIter SS 0) := hW0
 have HB0 : Hid (SB W0 w.heap.size 0 0 0 0 ⟨#[]⟩) := by
  show SB _ _ _ _ _ _ _
  rw [e0]
  exact ((SB.new w 0 0 0 0 ⟨#[]⟩).kept (World.grownBy_alloc _ (.cells #[.int .i64 0, .int .i64 0, .int .i64 0, .int .i64 0, .string ⟨#[]⟩] 222) none) (by simp)).kept (World.grownBy_alloc _ _ none) (by simp)
 have HB1 : Hid (SB W0 (w.heap.size + 1) 0 0 0 0 ⟨#[]⟩) := by
  show SB _ _ _ _ _ _ _
  rw [e0]
  have h := SB.new (w.alloc (.cells #[.int .i64 0, .int .i64 0, .int .i64 0, .int .i64 0, .string ⟨#[]⟩] 222)) 0 0 0 0 ⟨#[]⟩
  rw [World.size_alloc] at h
  exact h.kept (World.grownBy_alloc _ _ none) (by simp)
 have HI0 : Hid (It W0 (w.heap.size + 1 + 1) 0) := by
  show It _ _ _
  rw [e0]
  have h := It.new ((w.alloc (.cells #[.int .i64 0, .int .i64 0, .int .i64 0, .int .i64 0, .string ⟨#[]⟩] 222)).alloc (.cells #[.int .i64 0, .int .i64 0, .int .i64 0, .int .i64 0, .string ⟨#[]⟩] 222))
  rw [World.size_alloc, World.size_alloc] at h
  exact h
 have HR0 : Hid (Rd W0 b s k) := by
  show Rd _ _ _ _
  rw [e0]
  exact ((HR.out.alloc _).alloc _).alloc _
 have HG0 : Hid (w.grownBy W0 (some b)) := by
  show w.grownBy _ _
  rw [e0]
  exact ((World.grownBy_alloc w _ _).trans (World.grownBy_alloc _ _ _)).trans (World.grownBy_alloc _ _ _)
 have hn : Hid (some w.heap.size ≠ some b ∧ some (w.heap.size + 1) ≠ some b ∧ some (w.heap.size + 1 + 1) ≠ some b) := ⟨by intro e; injection e; omega, by intro e; injection e; omega, by intro e; injection e; omega⟩
 change Code.wp _ _ _ _ (World.iter _ SS 0)
 rw [← hW0]
 clear hW0 e0 c0 c1
 go_loopw [] (fun wr => ∃ p : Nat, p ≤ 6 ∧ Hid (Rd wr b s k) ∧ Hid (SB wr w.heap.size 0 0 0 0 ⟨#[]⟩) ∧ Hid (if q < p then SB wr (w.heap.size + 1) kd 0 lo hi ⟨#[]⟩ else SB wr (w.heap.size + 1) 0 0 0 0 ⟨#[]⟩) ∧ Hid (It wr (w.heap.size + 1 + 1) p) ∧ Hid (w.grownBy wr (some b))) (fun wr => 6 - wr.iterPos (w.heap.size + 1 + 1))
 case atStart => exact ⟨0, by omega, HR0, HB0, by show ite _ _ _; rw [if_neg (by omega)]; exact HB1.out, HI0, HG0⟩
 case round =>
  obtain ⟨p, hp, hr, hB, hS, hI, hg⟩ := hrel
  by_cases h6 : p < 6
  ·have hnx0 := hI.out.next h6 Tryz.prog
   obtain ⟨W1, hW1⟩ : ∃ W1, W1 = wr.iterAt (w.heap.size + 1 + 1) SS (p + 1) := ⟨_, rfl⟩
   rw [← hW1] at hnx0
   have gi : wr.grownBy W1 (some (w.heap.size + 1 + 1)) := by rw [hW1]; exact grown_iter _ _ _
   have HI1 : Hid (It W1 (w.heap.size + 1 + 1) (p + 1)) := by show It _ _ _; rw [hW1]; exact hI.out.move _
   have HR1 := Lib.hid (hr.out.kept gi (Ne.symm hn.out.2.2))
   have HB2 := Lib.hid (hB.out.kept gi (by simp; omega))
   have HG1 := Lib.hid (grown_new hg.out gi (by omega))
   have hpos := Lib.hid hI.out.pos
   have HS1 : Hid (if q < p then SB W1 (w.heap.size + 1) kd 0 lo hi ⟨#[]⟩ else SB W1 (w.heap.size + 1) 0 0 0 0 ⟨#[]⟩) := by
    have h := hS.out
    show ite _ _ _
    split at h
    ·rw [if_pos ‹_›]; exact h.kept gi (by simp)
    ·rw [if_neg ‹_›]; exact h.kept gi (by simp)
   clear hW1 gi hS
   have c0 := HR1.out.c0
   have c1 := HR1.out.c1
   have i0 : (0 : Int) ≤ (k : Int) := by omega
   have i1 : (k : Int) < (s.size : Int) := by omega
   have hb := s[k].toNat_lt
   by_cases hpq : p = q
   ·have t1 : ((chr p : Int) == (s[k].toNat : Int)) = true := by rw [hc, hpq]; simp
    have hS2 : SB W1 (w.heap.size + 1) 0 0 0 0 ⟨#[]⟩ := by have h := HS1.out; rwa [if_neg (by omega)] at h
    have HS2 := Lib.hid hS2
    obtain ⟨g0, g1, g2, g3, g4⟩ := HH.out.sing_of HG1.out (by intro e; injection e with e; exact hgb e) p (kd, lo, hi) (by rw [hpq]; exact hl)
    obtain ⟨b0, b1, b2, b3, b4⟩ := HS2.out.cells
    have f0 := HS2.out.free 0
    have f1 := HS2.out.free 1
    have f2 := HS2.out.free 2
    have f3 := HS2.out.free 3
    have f4 := HS2.out.free 4
    have j0 : (0 : Int) ≤ (p : Int) := by omega
    have j1 : (p : Int) < 6 := by omega
    have HPQ := Lib.hid hpq
    clear hc hS2 hpq HS1 hl
    go_wp2_with fail
    go_quiet (fail)
    go_wp2_with fail
    go_roundw
    case rel =>
     have g5 := st5_grown (W1.drewN nq) (w.heap.size + 1) kd 0 lo hi ⟨#[]⟩
     refine ⟨p + 1, by omega, Rd.kept (W := W1.drewN nq) HR1.out g5 (Ne.symm hn.out.2.1), SB.kept (W := W1.drewN nq) HB2.out g5 (by simp), ?_, It.kept (W := W1.drewN nq) HI1.out g5 (by simp), grown_new (only_drewN HG1.out nq) g5 (by omega)⟩
     show ite _ _ _
     rw [if_pos (by have := HPQ.out; omega)]
     exact SB.st5 (W := W1.drewN nq) HS2.out kd 0 lo hi ⟨#[]⟩
    case measure =>
     have hi2 : It (st5 (W1.drewN nq) (w.heap.size + 1) kd 0 lo hi ⟨#[]⟩) (w.heap.size + 1 + 1) (p + 1) := It.kept (W := W1.drewN nq) HI1.out (st5_grown (W1.drewN nq) (w.heap.size + 1) kd 0 lo hi ⟨#[]⟩) (by simp)
     rw [hpos.out]
     have h3 := hi2.pos
     show 6 - World.iterPos (st5 (W1.drewN nq) (w.heap.size + 1) kd 0 lo hi ⟨#[]⟩) _ < _
     rw [h3]; omega
   ·have t1 : ((chr p : Int) == (s[k].toNat : Int)) = false := by
     rw [hc]; simp only [beq_eq_false_iff_ne, ne_eq]; intro e; exact hpq (chr_inj h6 hq (by omega))
    have HC := Lib.hid (⟨hc, hpq⟩ : s[k].toNat = chr q ∧ ¬ p = q)
    clear hc hpq
    go_wp2_with fail
    go_quiet (fail)
    go_wp2_with fail
    go_roundw
    case rel =>
     refine ⟨p + 1, by omega, HR1.out.drewN nq, HB2.out, ?_, HI1.out, only_drewN HG1.out nq⟩
     have h := HS1.out
     have h2 := HC.out.2
     show ite _ _ _
     split at h
     ·rw [if_pos (by omega)]; exact h
     ·rw [if_neg (by omega)]; exact h
    case measure => rw [hpos.out, show (W1.drewN nq).iterPos (w.heap.size + 1 + 1) = p + 1 from HI1.out.pos]; omega
  ·obtain rfl : p = 6 := by omega
   have hnx0 := hI.out.last Tryz.prog
   have hS2 : SB wr (w.heap.size + 1) kd 0 lo hi ⟨#[]⟩ := by have h := hS.out; rwa [if_pos hq] at h
   have c1 := hr.out.c1
   have cf := hr.out.free 1
   obtain ⟨s0, s1, s2, s3, s4⟩ := hS2.cells
   obtain ⟨b0, b1, b2, b3, b4⟩ := hB.out.cells
   have f0 := hB.out.free 0
   have f1 := hB.out.free 1
   have f2 := hB.out.free 2
   have f3 := hB.out.free 3
   have f4 := hB.out.free 4
   clear hS hS2 hc hl h6
   go_wp2_with fail
   have g1 := grown_set wr b 1 (.int .i64 ((k : Int) + 1))
   have HB3 : Hid (SB (wr.setCell ⟨b, 1, none⟩ (.int .i64 ((k : Int) + 1))) w.heap.size 0 0 0 0 ⟨#[]⟩) := hB.out.kept g1 hn.out.1
   have HR3 := Lib.hid (hr.out.set1 k)
   have HG3 := Lib.hid (hg.out.trans g1)
   have g5 := st5_grown (wr.setCell ⟨b, 1, none⟩ (.int .i64 ((k : Int) + 1))) w.heap.size kd 0 lo hi ⟨#[]⟩
   have HB5 := Lib.hid (HB3.out.st5 kd 0 lo hi ⟨#[]⟩)
   have HR5 := Lib.hid (HR3.out.kept g5 (Ne.symm hn.out.1))
   have HG5 := Lib.hid (grown_new HG3.out g5 (Nat.le_refl _))
   clear s0 s1 s2 s3 s4 b0 b1 b2 b3 b4 f0 f1 f2 f3 f4 c1 cf g1 g5 hnx0
   change bodyPost _ _ _ _ _ (st5 (wr.setCell ⟨b, 1, none⟩ (.int .i64 ((k : Int) + 1))) w.heap.size kd 0 lo hi ⟨#[]⟩)
   generalize st5 (wr.setCell ⟨b, 1, none⟩ (.int .i64 ((k : Int) + 1))) w.heap.size kd 0 lo hi ⟨#[]⟩ = W9 at HB5 HR5 HG5 ⊢
   obtain ⟨b0, b1, b2, b3, b4⟩ := HB5.out.cells
   exact bodyPost_ret (v := .agg #[.int .i64 kd, .int .i64 0, .int .i64 lo, .int .i64 hi, .string ⟨#[]⟩]) (by simp [results, Tryz.results213, go_sem, b0, b1, b2, b3, b4]) rfl ⟨rfl, HR5.out, HG5.out⟩
end Go.Proofs.YtnbchikiiipejaaGreatDoor.Lx
namespace Go.Proofs.YtnbchikiiipejaaGreatDoor.Lx
open Go.RowKit Mem
theorem chr_single (c : UInt8) (kd lo hi : Int) (h : single c = some (kd, lo, hi)) : ∃ q, q < 6 ∧ c.toNat = chr q ∧ singles[q]? = some (kd, lo, hi) ∧ smB c = false ∧ c.toNat ≠ 123 := by
 unfold single at h
 repeat' split at h
 all_goals first
  | (simp only [Option.some.injEq, Prod.mk.injEq] at h
     obtain ⟨rfl, rfl, rfl⟩ := h
     rename_i hc
     first
      | exact ⟨0, by omega, hc, rfl, by simp [smB, hc], by omega⟩
      | exact ⟨1, by omega, hc, rfl, by simp [smB, hc], by omega⟩
      | exact ⟨2, by omega, hc, rfl, by simp [smB, hc], by omega⟩
      | exact ⟨3, by omega, hc, rfl, by simp [smB, hc], by omega⟩
      | exact ⟨4, by omega, hc, rfl, by simp [smB, hc], by omega⟩
      | exact ⟨5, by omega, hc, rfl, by simp [smB, hc], by omega⟩)
  | simp at h
theorem idx_some (c : UInt8) (q : Nat) (hq : q < 6) (h : c.toNat = chr q) : 0 ≤ Lib.indexByte [40, 41, 124, 42, 43, 63] c := by
 have h1 := Lib.indexByte_ge [40, 41, 124, 42, 43, 63] c
 rcases Int.lt_or_le (Lib.indexByte [40, 41, 124, 42, 43, 63] c) 0 with h2 | h2
 ·exfalso
  have h0 : Lib.indexByte [40, 41, 124, 42, 43, 63] c = -1 := by omega
  have hn := Lib.indexByte_none h0 q
  have hp' : q = 0 ∨ q = 1 ∨ q = 2 ∨ q = 3 ∨ q = 4 ∨ q = 5 := by omega
  rcases hp' with rfl | rfl | rfl | rfl | rfl | rfl
  ·exact hn (congrArg some (UInt8.toNat_inj.1 h.symm))
  ·exact hn (congrArg some (UInt8.toNat_inj.1 h.symm))
  ·exact hn (congrArg some (UInt8.toNat_inj.1 h.symm))
  ·exact hn (congrArg some (UInt8.toNat_inj.1 h.symm))
  ·exact hn (congrArg some (UInt8.toNat_inj.1 h.symm))
  ·exact hn (congrArg some (UInt8.toNat_inj.1 h.symm))
 ·exact h2
theorem idx_none (c : UInt8) (h : single c = none) : Lib.indexByte [40, 41, 124, 42, 43, 63] c = -1 := by
 have h1 := Lib.indexByte_ge [40, 41, 124, 42, 43, 63] c
 rcases Int.lt_or_le (Lib.indexByte [40, 41, 124, 42, 43, 63] c) 0 with h2 | h2
 ·omega
 ·exfalso
  obtain ⟨o, ho⟩ : ∃ o : Nat, Lib.indexByte [40, 41, 124, 42, 43, 63] c = o := ⟨_, (Int.toNat_of_nonneg h2).symm⟩
  have hs := (Lib.indexByte_some ho).1
  have h5 : o < 6 := by
   rcases Nat.lt_or_ge o 6 with h3 | h3
   ·exact h3
   ·rw [List.getElem?_eq_none (by simpa using h3)] at hs; cases hs
  have hp' : o = 0 ∨ o = 1 ∨ o = 2 ∨ o = 3 ∨ o = 4 ∨ o = 5 := by omega
  rcases hp' with rfl | rfl | rfl | rfl | rfl | rfl <;> (simp at hs; subst hs; revert h; decide)
theorem begun_any (b : Nat) (s : ByteArray) (k : Nat) (w : World) (r : Rd w b s k) (hk : k < s.size) (hs : s.size ≤ 100000) (v : Value)
  (hv : (smB s[k] = true ∧ v = .func (.func 210) #[.pointer (some ⟨b, 0, none⟩)] #[]) ∨ (smB s[k] = false ∧ s[k].toNat = 123 ∧ v = .func (.func 211) #[.pointer (some ⟨b, 0, none⟩)] #[])
    ∨ (smB s[k] = false ∧ s[k].toNat ≠ 123 ∧ (∃ q, q < 6 ∧ s[k].toNat = chr q) ∧ v = .func (.func 213) #[.pointer (some ⟨b, 0, none⟩)] #[]) ∨ (smB s[k] = false ∧ s[k].toNat ≠ 123 ∧ single s[k] = none ∧ v = .nilFunc)) :
  Calls Tryz.prog 164 #[.pointer (some ⟨b, 0, none⟩)] w fun e w' => e = .returned v ∧ ∃ n, w' = w.drewN n := by
 have hmf : ∀ (fn : Fn) (first cap : Array Value) (w : World), (Instr.makeFunc fn first cap).run Tryz.prog w = .ok (.func fn first cap) w := fun _ _ _ _ => rfl
 have c0 := r.c0
 have c1 := r.c1
 have i0 : (0 : Int) ≤ (k : Int) := by omega
 have i1 : (k : Int) < (s.size : Int) := by omega
 have hb := s[k].toNat_lt
 have HL0 := fun W => letter_any (s[k].toNat : Int) W (by omega) (by omega)
 rw [smI_nat] at HL0
 have hcu : ((s[k].toNat : Int)).toNat.toUInt8 = s[k] := by simp
 have HI := hide (fun W => (Tryz.strings_IndexByte ⟨#[40, 41, 124, 42, 43, 63]⟩ (s[k].toNat : Int) W))
 rw [hcu] at HI
 clear r hcu
 rcases hv with ⟨h1, rfl⟩ | ⟨h1, h2, rfl⟩ | ⟨h1, h2, ⟨q, hq, h3⟩, rfl⟩ | ⟨h1, h2, h3, rfl⟩
 ·rw [h1] at HL0
  have HL := Lib.hid HL0
  clear HL0 h1
  go_enter Tryz.func164, Tryz.ntmps164
  go_wp2_with fail
  go_quiet (fail)
  go_wp2_with (first | (go_at_call 209; refine (HL.out _).mono ?_; rintro e w2 ⟨rfl, rfl⟩))
  go_ret
  exact ⟨rfl, _, rfl⟩
 ·rw [h1] at HL0
  have HL := Lib.hid HL0
  clear HL0 h1
  have t1 : ((s[k].toNat : Int) == 123) = true := by simp; omega
  clear h2
  go_enter Tryz.func164, Tryz.ntmps164
  go_wp2_with fail
  go_quiet (fail)
  go_wp2_with (first | (go_at_call 209; refine (HL.out _).mono ?_; rintro e w2 ⟨rfl, rfl⟩))
  go_ret
  exact ⟨rfl, _, rfl⟩
 ·rw [h1] at HL0
  have HL := Lib.hid HL0
  clear HL0 h1
  have t1 : ((s[k].toNat : Int) == 123) = false := by simp; omega
  have h4 := idx_some s[k] q hq h3
  obtain ⟨I, hI⟩ : ∃ I, I = Lib.indexByte [40, 41, 124, 42, 43, 63] s[k] := ⟨_, rfl⟩
  have e3 : Lib.indexByte (ByteArray.mk #[40, 41, 124, 42, 43, 63]).data.toList s[k] = I := hI.symm
  simp only [e3] at HI
  rw [← hI] at h4
  have t2 : decide (0 ≤ I) = true := by simpa using h4
  clear h2 h3 hI e3
  go_enter Tryz.func164, Tryz.ntmps164
  go_wp2_with fail
  go_quiet (fail)
  go_wp2_with (first | (go_at_call 209; refine (HL.out _).mono ?_; rintro e w2 ⟨rfl, rfl⟩) | (go_at_call 212; refine (HI.out _).mono ?_; rintro e w3 ⟨rfl, rfl⟩))
  go_ret
  exact ⟨rfl, _, rfl⟩
 ·rw [h1] at HL0
  have HL := Lib.hid HL0
  clear HL0 h1
  have t1 : ((s[k].toNat : Int) == 123) = false := by simp; omega
  have h4 := idx_none s[k] h3
  have e3 : Lib.indexByte (ByteArray.mk #[40, 41, 124, 42, 43, 63]).data.toList s[k] = -1 := h4
  simp only [e3] at HI
  clear h2 h3 h4 e3
  go_enter Tryz.func164, Tryz.ntmps164
  go_wp2_with fail
  go_quiet (fail)
  go_wp2_with (first | (go_at_call 209; refine (HL.out _).mono ?_; rintro e w2 ⟨rfl, rfl⟩) | (go_at_call 212; refine (HI.out _).mono ?_; rintro e w3 ⟨rfl, rfl⟩))
  go_ret
  exact ⟨rfl, _, rfl⟩
end Go.Proofs.YtnbchikiiipejaaGreatDoor.Lx
namespace Go.Proofs.YtnbchikiiipejaaGreatDoor.Lx
open Go.RowKit Mem
theorem assert_fault (a c : Int) (w : World) : (Instr.typeAssert (.iface 263 (.agg #[.int .i64 a, .int .i64 c])) 20 263 true).run Tryz.prog w = .ok (.tuple #[.agg #[.int .i64 a, .int .i64 c], .bool true]) w := by kernel_rfl
theorem assert_none (w : World) : (Instr.typeAssert .nilIface 20 263 true).run Tryz.prog w = .ok (.tuple #[.agg #[.int .i64 0, .int .i64 0], .bool false]) w := by kernel_rfl
theorem boxed_other {W : World} {B B' : Nat} {t : TypeId} {v : Value} (h : Boxed W B t v) (hne : ¬ B = B') (u : Value) : Boxed (W.setCell ⟨B', 0, none⟩ u) B t v :=
 h.kept (grownBy_setCell' W B' u) (by simpa using hne)
theorem below_drew1 {B : Nat} {a w : World} (h : Below B a w) : Below B a w.drew := ⟨h.os, h.tape, h.output, h.size, h.block⟩
theorem catch_idle (l a e : Nat) (w : World) :
  CallsD Tryz.prog 161 #[.pointer (some ⟨l, 0, none⟩), .pointer (some ⟨a, 0, none⟩), .pointer (some ⟨e, 0, none⟩)] .returning w fun en u' w' => en = .returned (.tuple #[]) ∧ u' = .returning ∧ ∃ o, w' = w.alloc o := by
 refine callsD_of_wpS Tryz.func161 rfl fun c₀ cs hu => ?_
 simp only [Tryz.ntmps161, List.size_toArray, List.length_cons, List.length_nil, Nat.reduceAdd, Nat.reduceSub, Array.replicate_succ, Array.replicate_zero, List.push_toArray, List.append_toArray, List.nil_append, List.cons_append]
 apply wpS_seq
 apply wpS_region
 simp [wpOpsS, go_sem, recoverD, hu, Exit.thenS, assert_none]
 apply wpS_seq
 apply wpS_region
 simp [wpOpsS, go_sem, Exit.thenS]
 refine wpS_cond (t := false) (by simp [Act.eval]) ?_
 simp only [Bool.false_eq_true, if_false]
 refine wpS_of_wp (wp_skip ?_)
 refine ⟨rfl, .returning, ?_, .tuple #[], ?_, rfl, rfl, _, rfl⟩
 ·cases c₀; simp_all
 ·simp [results, Tryz.results161]
theorem catch_fault {v1 v2 v3 : Value} (l a e : Nat) (p c : Int) (older : List PanicEntry) (w : World) (hl : Boxed w l 212 v1) (ha : Boxed w a 3 v2) (he : Boxed w e 34 v3) (hd : l ≠ a ∧ l ≠ e ∧ a ≠ e) :
  CallsD Tryz.prog 161 #[.pointer (some ⟨l, 0, none⟩), .pointer (some ⟨a, 0, none⟩), .pointer (some ⟨e, 0, none⟩)] (.panicking ({ v := .iface 263 (.agg #[.int .i64 p, .int .i64 c]), recovered := false } :: older)) w fun en u' w' =>
   en = .returned (.tuple #[]) ∧ u' = .panicking ({ v := .iface 263 (.agg #[.int .i64 p, .int .i64 c]), recovered := true } :: older) ∧ Boxed w' l 212 (.slice none 0 0) ∧ Boxed w' a 3 (.int .i64 p) ∧ Boxed w' e 34 (.int .i64 c) ∧ ∀ B, B ≤ l → B ≤ a → B ≤ e → Below B w w' := by
 refine callsD_of_wpS Tryz.func161 rfl fun c₀ cs hu => ?_
 simp only [Tryz.ntmps161, List.size_toArray, List.length_cons, List.length_nil, Nat.reduceAdd, Nat.reduceSub, Array.replicate_succ, Array.replicate_zero, List.push_toArray, List.append_toArray, List.nil_append, List.cons_append]
 apply wpS_seq
 apply wpS_region
 simp [wpOpsS, go_sem, recoverD, hu, Exit.thenS, assert_fault]
 apply wpS_seq
 apply wpS_region
 simp [wpOpsS, go_sem, Exit.thenS]
 refine wpS_cond (t := true) (by simp [Act.eval]) ?_
 simp only [if_true]
 refine wpS_of_wp ?_
 obtain ⟨f, hf⟩ : ∃ f, f = w.heap.size := ⟨_, rfl⟩
 obtain ⟨W1, hW⟩ : ∃ W1, W1 = w.alloc (.cells #[.int .i64 p, .int .i64 c] 263) := ⟨_, rfl⟩
 have hfb : W1.heap[f]? = some (.cells #[.int .i64 p, .int .i64 c] 263 (0, 0)) := by rw [hW, hf]; exact World.alloc_heap_new w _
 have hl1 : Boxed W1 l 212 v1 := by rw [hW]; exact hl.alloc _
 have ha1 : Boxed W1 a 3 v2 := by rw [hW]; exact ha.alloc _
 have he1 : Boxed W1 e 34 v3 := by rw [hW]; exact he.alloc _
 have hb1 : ∀ B, B ≤ l → Below B w W1 := fun B hB => by rw [hW]; exact (Below.refl _ _).alloc (by have := hl.lt; omega) _
 rw [← hf, ← hW]
 have n1 : ¬ l = f := by have := hl.lt; omega
 have n2 : ¬ a = f := by have := ha.lt; omega
 have n3 : ¬ e = f := by have := he.lt; omega
 have n1' : ¬ f = l := fun h => n1 h.symm
 have n2' : ¬ f = a := fun h => n2 h.symm
 have n3' : ¬ f = e := fun h => n3 h.symm
 obtain ⟨d1, d2, d3⟩ := hd
 have d1' : ¬ a = l := fun h => d1 h.symm
 have d2' : ¬ e = l := fun h => d2 h.symm
 have d3' : ¬ e = a := fun h => d3 h.symm
 have k0 : W1.cell? ⟨f, 0, none⟩ = some (.int .i64 p) := by simp [World.cell?, hfb]
 have k1 : W1.cell? ⟨f, 1, none⟩ = some (.int .i64 c) := by simp [World.cell?, hfb]
 have cl := hl1.cell
 have ca := ha1.cell
 have ce := he1.cell
 have fl := hl1.frozen
 have fa := ha1.frozen
 have fe := he1.frozen
 have HL := Lib.hid hl1
 have HA := Lib.hid ha1
 have HE := Lib.hid he1
 have HB := hide hb1
 have HU := Lib.hid hu
 clear hu hl1 ha1 he1 hb1 hfb hW hf hl ha he
 go_region
 have HL2 := boxed_other (boxed_other (Boxed.set (.slice none 0 0) HL.out) d1 (.int .i64 p)) d2 (.int .i64 c)
 have HA2 := boxed_other (Boxed.set (.int .i64 p) (boxed_other HA.out d1' (.slice none 0 0))) d3 (.int .i64 c)
 have HE2 := Boxed.set (.int .i64 c) (boxed_other (boxed_other HE.out d2' (.slice none 0 0)) d3' (.int .i64 p))
 refine ⟨rfl, .panicking ({ v := .iface 263 (.agg #[.int .i64 p, .int .i64 c]), recovered := true } :: older), rfl, .tuple #[], by simp [results, Tryz.results161], rfl, rfl, HL2, HA2, HE2, fun B b1 b2 b3 => ?_⟩
 exact below_drew1 ((((HB.out B b1).setCell b1 _).setCell b2 _).setCell b3 _)
end Go.Proofs.YtnbchikiiipejaaGreatDoor.Lx
