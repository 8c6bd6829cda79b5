/- Walks of the lexer: a sign's text. -/
import Derived.Test.YtnbchikiiipejaaGreatDoorLxI
import Derived.Deep.RegionHeld3
import Derived.Test.YtnbchikiiipejaaGreatDoorStr
import Derived.Lib.Builder
import Derived.Lib.OthersKept
import Derived.Laws.Pointers
import Derived.Laws.Externs
set_option linter.unusedVariables false
set_option maxRecDepth 100000
set_option maxHeartbeats 4000000
namespace Go.Proofs.YtnbchikiiipejaaGreatDoor.Lx
open Go.RowKit Mem
def mat (l : Int × Int × Int) (kd lo hi : Int) : Prop := l.1 = kd ∧ (kd ≠ 5 ∨ (l.2.1 = lo ∧ l.2.2 = hi))
theorem six {p : Nat} (hp : p < 6) : p = 0 ∨ p = 1 ∨ p = 2 ∨ p = 3 ∨ p = 4 ∨ p = 5 := by omega
theorem show1_match {p : Nat} (hp : p < 6) {l : Int × Int × Int} (hl : singles[p]? = some l) {kd lo hi : Int} (h : mat l kd lo hi) (at_ : Int) (nm : List UInt8) : show1 ⟨kd, at_, lo, hi, nm⟩ = [UInt8.ofNat (chr p)] := by
 obtain ⟨rfl, h2⟩ := h
 rcases six hp with rfl | rfl | rfl | rfl | rfl | rfl <;> (simp [singles] at hl; subst hl)
 ·rfl
 ·rfl
 ·rfl
 all_goals
  rcases h2 with h2 | ⟨rfl, rfl⟩
  ·exact absurd rfl h2
  ·rfl
theorem show1_none {kd lo hi : Int} (h : ∀ p, p < 6 → ∀ l, singles[p]? = some l → ¬ mat l kd lo hi) (at_ : Int) (nm : List UInt8) :
  show1 ⟨kd, at_, lo, hi, nm⟩ = if kd = 1 then nm else if kd ≠ 5 then [] else 123 :: Lib.itoa lo ++ (if lo = hi then [125] else if hi = -1 then [44, 125] else 44 :: Lib.itoa hi ++ [125]) := by
 have h2 : kd ≠ 2 := fun e => h 0 (by omega) (2, 0, 0) rfl ⟨e.symm, .inl (by omega)⟩
 have h3 : kd ≠ 3 := fun e => h 1 (by omega) (3, 0, 0) rfl ⟨e.symm, .inl (by omega)⟩
 have h4 : kd ≠ 4 := fun e => h 2 (by omega) (4, 0, 0) rfl ⟨e.symm, .inl (by omega)⟩
 unfold show1
 by_cases h1 : kd = 1
 ·simp [h1]
 ·by_cases h5 : kd = 5
  ·have a : ¬ (lo = 0 ∧ hi = -1) := fun e => h 3 (by omega) (5, 0, -1) rfl ⟨h5.symm, .inr ⟨e.1.symm, e.2.symm⟩⟩
   have b : ¬ (lo = 1 ∧ hi = -1) := fun e => h 4 (by omega) (5, 1, -1) rfl ⟨h5.symm, .inr ⟨e.1.symm, e.2.symm⟩⟩
   have c : ¬ (lo = 0 ∧ hi = 1) := fun e => h 5 (by omega) (5, 0, 1) rfl ⟨h5.symm, .inr ⟨e.1.symm, e.2.symm⟩⟩
   simp [h5, times, a, b, c]
  ·simp [h1, h2, h3, h4, h5]
theorem itoa_len (n : Int) (h0 : -9223372036854775808 ≤ n) (h1 : n ≤ 9223372036854775807) : (Lib.itoa n).length ≤ 20 := by
 unfold Lib.itoa
 split
 ·have := Wd.dec_len19 n.natAbs (by omega)
  simp only [List.length_cons]; omega
 ·exact Wd.dec_len20 n.toNat (by omega)
theorem conv_chr (p : Nat) (hp : p < 6) (w : World) : (convert 21 9 (.int .i32 (chr p : Int))).run Tryz.prog w = .ok (.string ⟨#[UInt8.ofNat (chr p)]⟩) w := by
 rcases six hp with rfl | rfl | rfl | rfl | rfl | rfl <;> kernel_rfl
theorem below_grow {w : World} (k : Nat) (os : Array Obj) : Below w.heap.size w (Go.Sort.grow (w.drewN k) os) :=
 ⟨rfl, rfl, rfl, by simp [Go.Sort.grow], fun i hi => by show (w.heap ++ os)[i]? = w.heap[i]?; rw [Array.getElem?_append_left hi]⟩
theorem itoa_any (n : Int) (h0 : -9223372036854775808 ≤ n) (h1 : n ≤ 9223372036854775807) (w : World) (H : Held w) :
  Calls Tryz.prog 260 #[.int .i64 n] w fun e w' => e = .returned (.string ⟨(Lib.itoa n).toArray⟩) ∧ Below w.heap.size w w' :=
 (Tryz.strconv_Itoa n h0 h1 w H.tab).mono fun e w' ⟨he, k, os, hw⟩ => ⟨he, by rw [hw]; exact below_grow k os⟩
structure SE (w : World) (B : Nat) (kd at_ lo hi : Int) (nm : ByteArray) (W : World) : Prop where
 sb : SB W B kd at_ lo hi nm
 held : Held W
 bel : Below w.heap.size w W
section
variable {w W W' : World} {B : Nat} {kd at_ lo hi : Int} {nm : ByteArray}
theorem SE.step (h : SE w B kd at_ lo hi nm W) (hb : Below W.heap.size W W') : SE w B kd at_ lo hi nm W' :=
 ⟨(hb.block _ h.sb.lt).trans h.sb, h.held.below hb, h.bel.trans (hb.mono h.bel.size)⟩
theorem SE.drew (h : SE w B kd at_ lo hi nm W) : SE w B kd at_ lo hi nm W.drew := h.step (below_drew1 (Below.refl _ _))
theorem show_of (h : SE w B kd at_ lo hi nm W) : W.cell? ⟨B, 2, none⟩ = some (.int .i64 lo) ∧ W.cell? ⟨B, 3, none⟩ = some (.int .i64 hi) ∧ SE w B kd at_ lo hi nm W := ⟨h.sb.cells.2.2.1, h.sb.cells.2.2.2.1, h⟩
theorem show_step (h : W.cell? ⟨B, 2, none⟩ = some (.int .i64 lo) ∧ W.cell? ⟨B, 3, none⟩ = some (.int .i64 hi) ∧ SE w B kd at_ lo hi nm W) (hb : Below W.heap.size W W') :
  W'.cell? ⟨B, 2, none⟩ = some (.int .i64 lo) ∧ W'.cell? ⟨B, 3, none⟩ = some (.int .i64 hi) ∧ SE w B kd at_ lo hi nm W' := show_of (h.2.2.step hb)
theorem show_keep (h : W.cell? ⟨B, 2, none⟩ = some (.int .i64 lo) ∧ W.cell? ⟨B, 3, none⟩ = some (.int .i64 hi) ∧ SE w B kd at_ lo hi nm W) : SE w B kd at_ lo hi nm W := h.2.2
theorem itoa_lo (h0 : -9223372036854775808 ≤ lo) (h1 : lo ≤ 9223372036854775807) (h : W.cell? ⟨B, 2, none⟩ = some (.int .i64 lo) ∧ W.cell? ⟨B, 3, none⟩ = some (.int .i64 hi) ∧ SE w B kd at_ lo hi nm W) :
  Calls Tryz.prog 260 #[.int .i64 lo] W fun e w' => e = .returned (.string ⟨(Lib.itoa lo).toArray⟩) ∧ Below W.heap.size W w' := itoa_any lo h0 h1 W h.2.2.held
theorem itoa_hi (h0 : -9223372036854775808 ≤ hi) (h1 : hi ≤ 9223372036854775807) (h : W.cell? ⟨B, 2, none⟩ = some (.int .i64 lo) ∧ W.cell? ⟨B, 3, none⟩ = some (.int .i64 hi) ∧ SE w B kd at_ lo hi nm W) :
  Calls Tryz.prog 260 #[.int .i64 hi] W fun e w' => e = .returned (.string ⟨(Lib.itoa hi).toArray⟩) ∧ Below W.heap.size W w' := itoa_any hi h0 h1 W h.2.2.held
end
theorem ret_str {a b : ByteArray} (h : a = b) : Ending.returned (.string a) = .returned (.string b) := by rw [h]
theorem text1 (lo : Int) : Ending.returned (.string ((⟨#[123]⟩ : ByteArray) ++ ⟨(Lib.itoa lo).toArray⟩ ++ ⟨#[125]⟩)) = .returned (.string ⟨(123 :: Lib.itoa lo ++ [125]).toArray⟩) := by
 apply ret_str; apply ByteArray.ext; simp
theorem text2 (lo : Int) : Ending.returned (.string ((⟨#[123]⟩ : ByteArray) ++ ⟨(Lib.itoa lo).toArray⟩ ++ ⟨#[44, 125]⟩)) = .returned (.string ⟨(123 :: Lib.itoa lo ++ [44, 125]).toArray⟩) := by
 apply ret_str; apply ByteArray.ext; simp
theorem text3 (lo hi : Int) : Ending.returned (.string ((⟨#[123]⟩ : ByteArray) ++ ⟨(Lib.itoa lo).toArray⟩ ++ ⟨#[44]⟩ ++ ⟨(Lib.itoa hi).toArray⟩ ++ ⟨#[125]⟩)) = .returned (.string ⟨(123 :: Lib.itoa lo ++ (44 :: Lib.itoa hi ++ [125])).toArray⟩) := by
 apply ret_str; apply ByteArray.ext; simp
theorem single_at (p : Nat) (hp : p < 6) : ∃ l, singles[p]? = some l := by
 rcases six hp with rfl | rfl | rfl | rfl | rfl | rfl <;> exact ⟨_, rfl⟩
theorem below_drewN {B : Nat} {a w : World} (h : Below B a w) (n : Nat) : Below B a (w.drewN n) := ⟨h.os, h.tape, h.output, h.size, h.block⟩
theorem more_none {p : Nat} {kd lo hi : Int} (hno : Hid (∀ q, q < p → ∀ l, singles[q]? = some l → ¬ mat l kd lo hi)) {l : Int × Int × Int} (hl : singles[p]? = some l) (hn : ¬ mat l kd lo hi) : Hid (∀ q, q < p + 1 → ∀ l, singles[q]? = some l → ¬ mat l kd lo hi) := by
 refine fun q hq l' hl' => ?_
 by_cases h : q < p
 ·exact hno.out q h l' hl'
 ·obtain rfl : q = p := by omega
  rw [hl] at hl'; injection hl' with e; subst e; exact hn
theorem show_any (kd at_ lo hi : Int) (nm : List UInt8) (w : World) (H : Held w) (l0 : -9223372036854775808 ≤ lo) (l1 : lo ≤ 9223372036854775807) (h0 : -9223372036854775808 ≤ hi) (h1 : hi ≤ 9223372036854775807) :
  Calls Tryz.prog 265 #[.agg #[.int .i64 kd, .int .i64 at_, .int .i64 lo, .int .i64 hi, .string ⟨nm.toArray⟩]] w fun e w' => e = .returned (.string ⟨(show1 ⟨kd, at_, lo, hi, nm⟩).toArray⟩) ∧ Below w.heap.size w w' := by
 have HH := hide H
 clear H
 obtain ⟨X, hX⟩ : ∃ X, X = show1 ⟨kd, at_, lo, hi, nm⟩ := ⟨_, rfl⟩
 rw [← hX]
 have HXd := Lib.hid hX
 clear hX
 go_enter Tryz.func265, Tryz.ntmps265
 go_wp2_with fail
 obtain ⟨W0, hW0⟩ : ∃ W0, W0 = (w.alloc (.cells #[.int .i64 kd, .int .i64 at_, .int .i64 lo, .int .i64 hi, .string ⟨nm.toArray⟩] 222)).iter SS 0 := ⟨_, rfl⟩
 have e0 : W0 = (w.alloc (.cells #[.int .i64 kd, .int .i64 at_, .int .i64 lo, .int .i64 hi, .string ⟨nm.toArray⟩] 222)).alloc (.stringIter SS 0) := hW0
 have HB0 : Hid (SB W0 w.heap.size kd at_ lo hi ⟨nm.toArray⟩) := by
  show SB _ _ _ _ _ _ _
  rw [e0]
  exact (SB.new w kd at_ lo hi ⟨nm.toArray⟩).kept (World.grownBy_alloc _ _ none) (by simp)
 have HI0 : Hid (It W0 (w.heap.size + 1) 0) := by
  show It _ _ _
  rw [e0]
  have h := It.new (w.alloc (.cells #[.int .i64 kd, .int .i64 at_, .int .i64 lo, .int .i64 hi, .string ⟨nm.toArray⟩] 222))
  rw [World.size_alloc] at h
  exact h
 have HW0 : Hid (Below w.heap.size w W0) := by
  show Below _ _ _
  rw [e0]
  exact ((Below.refl _ _).alloc (Nat.le_refl _) _).alloc (by simp) _
 change Code.wp _ _ _ _ (World.iter _ SS 0)
 rw [← hW0]
 clear hW0 e0
 go_loopw [] (fun wr => ∃ p : Nat, p ≤ 6 ∧ Hid (SB wr w.heap.size kd at_ lo hi ⟨nm.toArray⟩) ∧ Hid (It wr (w.heap.size + 1) p) ∧ Hid (Below w.heap.size w wr) ∧ Hid (∀ q, q < p → ∀ l, singles[q]? = some l → ¬ mat l kd lo hi)) (fun wr => 6 - wr.iterPos (w.heap.size + 1))
 case atStart => exact ⟨0, by omega, HB0, HI0, HW0, Lib.hid (fun q hq => absurd hq (by omega))⟩
 case round =>
  obtain ⟨p, hp, hB, hI, hW, hno⟩ := hrel
  by_cases h6 : p < 6
  ·have hnx0 := hI.out.next h6 Tryz.prog
   obtain ⟨W1, hW1⟩ : ∃ W1, W1 = wr.iterAt (w.heap.size + 1) SS (p + 1) := ⟨_, rfl⟩
   rw [← hW1] at hnx0
   have gi : wr.grownBy W1 (some (w.heap.size + 1)) := by rw [hW1]; exact grown_iter _ _ _
   have HI1 : Hid (It W1 (w.heap.size + 1) (p + 1)) := by show It _ _ _; rw [hW1]; exact hI.out.move _
   have HB1 := Lib.hid (hB.out.kept gi (by simp))
   have HW1 := Lib.hid (hW.out.grown gi hW.out.size (by intro i hi; injection hi; omega))
   have hpos := Lib.hid hI.out.pos
   have HH1 := Lib.hid (HH.out.below HW1.out)
   obtain ⟨⟨k1, lo1, hi1⟩, hl0⟩ := single_at p h6
   have HL0 := Lib.hid hl0
   obtain ⟨g0, g1, g2, g3, g4⟩ := HH1.out.sing p _ hl0
   dsimp only at g0 g2 g3
   clear hW1 gi g1 g4
   obtain ⟨b0, b1, b2, b3, b4⟩ := HB1.out.cells
   clear b1 b4
   have j0 : (0 : Int) ≤ (p : Int) := by omega
   have j1 : (p : Int) < 6 := by omega
   by_cases e1 : k1 = kd
   ·subst e1
    by_cases e2 : k1 = 5
    ·subst e2
     by_cases e3 : lo1 = lo
     ·subst e3
      by_cases e4 : hi1 = hi
      ·subst e4
       have HM : Hid (mat (5, lo1, hi1) 5 lo1 hi1) := ⟨rfl, .inr ⟨rfl, rfl⟩⟩
       clear hl0
       have kc := fun (W : World) => conv_chr p h6 W
       have HE := Lib.hid (show1_match h6 HL0.out HM.out at_ nm)
       go_wp2_with fail
       go_quiet (fail)
       go_wp2_with fail
       go_ret
       exact ⟨by rw [HXd.out, HE.out]; rfl, below_drewN HW1.out nq⟩
      ·have HNM : Hid (¬ mat (5, lo1, hi1) 5 lo1 hi) := fun h => by rcases h.2 with h2 | h2; exact h2 rfl; exact e4 h2.2
       have t4 : (hi1 == hi) = false := by simpa using e4
       clear e4
       go_wp2_with fail
       go_quiet (fail)
       go_wp2_with fail
       go_roundw
       case rel => exact ⟨p + 1, by omega, Drawn.sb ⟨nq, rfl⟩ HB1.out, HI1.out, below_drewN HW1.out nq, more_none hno HL0.out HNM.out⟩
       case measure => rw [hpos.out, show (W1.drewN nq).iterPos (w.heap.size + 1) = p + 1 from HI1.out.pos]; omega
     ·have HNM : Hid (¬ mat (5, lo1, hi1) 5 lo hi) := fun h => by rcases h.2 with h2 | h2; exact h2 rfl; exact e3 h2.1
      have t3 : (lo1 == lo) = false := by simpa using e3
      clear e3
      go_wp2_with fail
      go_quiet (fail)
      go_wp2_with fail
      go_roundw
      case rel => exact ⟨p + 1, by omega, Drawn.sb ⟨nq, rfl⟩ HB1.out, HI1.out, below_drewN HW1.out nq, more_none hno HL0.out HNM.out⟩
      case measure => rw [hpos.out, show (W1.drewN nq).iterPos (w.heap.size + 1) = p + 1 from HI1.out.pos]; omega
    ·have HM : Hid (mat (k1, lo1, hi1) k1 lo hi) := ⟨rfl, .inl e2⟩
     have t2 : (k1 != 5) = true := by simpa using e2
     clear e2 hl0
     have kc := fun (W : World) => conv_chr p h6 W
     have HE := Lib.hid (show1_match h6 HL0.out HM.out at_ nm)
     go_wp2_with fail
     go_quiet (fail)
     go_wp2_with fail
     go_ret
     exact ⟨by rw [HXd.out, HE.out]; rfl, below_drewN HW1.out nq⟩
   ·have HNM : Hid (¬ mat (k1, lo1, hi1) kd lo hi) := fun h => e1 h.1
    have t1 : (k1 == kd) = false := by simpa using e1
    clear e1
    go_wp2_with fail
    go_quiet (fail)
    go_wp2_with fail
    go_roundw
    case rel => exact ⟨p + 1, by omega, Drawn.sb ⟨nq, rfl⟩ HB1.out, HI1.out, below_drewN HW1.out nq, more_none hno HL0.out HNM.out⟩
    case measure => rw [hpos.out, show (W1.drewN nq).iterPos (w.heap.size + 1) = p + 1 from HI1.out.pos]; omega
  ·obtain rfl : p = 6 := by omega
   have hnx0 := hI.out.last Tryz.prog
   have HX0 := show1_none hno.out at_ nm
   rw [← HXd.out] at HX0
   have HS0 := Lib.hid (show_of (SE.drew ⟨hB.out, HH.out.below hW.out, hW.out⟩))
   obtain ⟨c0, c1, c2, c3, c4⟩ := hB.out.cells
   clear h6 c0 c1 c4 hno
   by_cases k1 : kd = 1
   ·have HX : Hid (X = nm) := by show _ = _; rw [HX0, if_pos k1]
    have t1 : (kd == 1) = true := by simpa using k1
    clear HX0 k1
    go_wp2_with fail
    go_region_held3 (fun W => W.cell? ⟨w.heap.size, 2, none⟩ = some (.int .i64 lo) ∧ W.cell? ⟨w.heap.size, 3, none⟩ = some (.int .i64 hi) ∧ SE w w.heap.size kd at_ lo hi ⟨nm.toArray⟩ W)
     (first
       | exact HS0.out
       | exact show_step (by assumption) (by assumption))
     (first
       | (go_at_call 260; (with_reducible refine (itoa_lo l0 l1 (by assumption)).mono ?_); rintro e w18 ⟨rfl, hb18⟩)
       | (go_at_call 260; (with_reducible refine (itoa_hi h0 h1 (by assumption)).mono ?_); rintro e w21 ⟨rfl, hb21⟩))
    have hE := show_keep (W := w21) (by assumption)
    have HE := Lib.hid hE
    obtain ⟨d0, d1, d2, d3, d4⟩ := hE.sb.cells
    clear hE d1
    go_wp2_with fail
    go_ret
    exact ⟨by rw [HX.out]; rfl, HE.out.bel⟩
   ·have t1 : (kd == 1) = false := by simpa using k1
    by_cases k5 : kd = 5
    ·subst k5
     have z0 := itoa_len lo l0 l1
     have z1 := itoa_len hi h0 h1
     by_cases q1 : lo = hi
     ·have HX : Hid (X = 123 :: Lib.itoa lo ++ [125]) := by show _ = _; rw [HX0, if_neg k1, if_neg (by simp), if_pos q1]
      have t2 : (lo == hi) = true := by simpa using q1
      clear HX0 k1 q1
      go_wp2_with fail
      go_region_held3 (fun W => W.cell? ⟨w.heap.size, 2, none⟩ = some (.int .i64 lo) ∧ W.cell? ⟨w.heap.size, 3, none⟩ = some (.int .i64 hi) ∧ SE w w.heap.size 5 at_ lo hi ⟨nm.toArray⟩ W)
       (first
         | exact HS0.out
         | exact show_step (by assumption) (by assumption))
       (first
         | (go_at_call 260; (with_reducible refine (itoa_lo l0 l1 (by assumption)).mono ?_); rintro e w18 ⟨rfl, hb18⟩)
         | (go_at_call 260; (with_reducible refine (itoa_hi h0 h1 (by assumption)).mono ?_); rintro e w21 ⟨rfl, hb21⟩))
      have hE := show_keep (W := w21) (by assumption)
      have HE := Lib.hid hE
      obtain ⟨d0, d1, d2, d3, d4⟩ := hE.sb.cells
      clear hE d1
      go_wp2_with fail
      all_goals first | (exfalso; omega) | skip
      go_ret
      exact ⟨by rw [HX.out]; exact text1 lo, HE.out.bel⟩
     ·have t2 : (lo == hi) = false := by simpa using q1
      by_cases q2 : hi = -1
      ·have HX : Hid (X = 123 :: Lib.itoa lo ++ [44, 125]) := by show _ = _; rw [HX0, if_neg k1, if_neg (by simp), if_neg q1, if_pos q2]
       subst q2
       clear HX0 k1 q1
       go_wp2_with fail
       go_region_held3 (fun W => W.cell? ⟨w.heap.size, 2, none⟩ = some (.int .i64 lo) ∧ W.cell? ⟨w.heap.size, 3, none⟩ = some (.int .i64 (-1)) ∧ SE w w.heap.size 5 at_ lo (-1) ⟨nm.toArray⟩ W)
        (first
          | exact HS0.out
          | exact show_step (by assumption) (by assumption))
        (first
          | (go_at_call 260; (with_reducible refine (itoa_lo l0 l1 (by assumption)).mono ?_); rintro e w18 ⟨rfl, hb18⟩)
          | (go_at_call 260; (with_reducible refine (itoa_hi h0 h1 (by assumption)).mono ?_); rintro e w21 ⟨rfl, hb21⟩))
       have hE := show_keep (W := w21) (by assumption)
       have HE := Lib.hid hE
       obtain ⟨d0, d1, d2, d3, d4⟩ := hE.sb.cells
       clear hE d1
       go_wp2_with fail
       all_goals first | (exfalso; omega) | skip
       go_ret
       exact ⟨by rw [HX.out]; exact text2 lo, HE.out.bel⟩
      ·have HX : Hid (X = 123 :: Lib.itoa lo ++ (44 :: Lib.itoa hi ++ [125])) := by show _ = _; rw [HX0, if_neg k1, if_neg (by simp), if_neg q1, if_neg q2]
       have t3 : (hi == -1) = false := by simpa using q2
       clear HX0 k1 q1 q2
       go_wp2_with fail
       go_region_held3 (fun W => W.cell? ⟨w.heap.size, 2, none⟩ = some (.int .i64 lo) ∧ W.cell? ⟨w.heap.size, 3, none⟩ = some (.int .i64 hi) ∧ SE w w.heap.size 5 at_ lo hi ⟨nm.toArray⟩ W)
        (first
          | exact HS0.out
          | exact show_step (by assumption) (by assumption))
        (first
          | (go_at_call 260; (with_reducible refine (itoa_lo l0 l1 (by assumption)).mono ?_); rintro e w18 ⟨rfl, hb18⟩)
          | (go_at_call 260; (with_reducible refine (itoa_hi h0 h1 (by assumption)).mono ?_); rintro e w21 ⟨rfl, hb21⟩))
       have hE := show_keep (W := w21) (by assumption)
       have HE := Lib.hid hE
       obtain ⟨d0, d1, d2, d3, d4⟩ := hE.sb.cells
       clear hE d1
       go_wp2_with fail
       all_goals first | (exfalso; omega) | skip
       go_ret
       exact ⟨by rw [HX.out]; exact text3 lo hi, HE.out.bel⟩
    ·have HX : Hid (X = []) := by show _ = _; rw [HX0, if_neg k1, if_pos k5]
     have t2 : (kd != 5) = true := by simpa using k5
     clear HX0 k1 k5
     go_wp2_with fail
     go_region_held3 (fun W => W.cell? ⟨w.heap.size, 2, none⟩ = some (.int .i64 lo) ∧ W.cell? ⟨w.heap.size, 3, none⟩ = some (.int .i64 hi) ∧ SE w w.heap.size kd at_ lo hi ⟨nm.toArray⟩ W)
      (first
        | exact HS0.out
        | exact show_step (by assumption) (by assumption))
      (first
        | (go_at_call 260; (with_reducible refine (itoa_lo l0 l1 (by assumption)).mono ?_); rintro e w18 ⟨rfl, hb18⟩)
        | (go_at_call 260; (with_reducible refine (itoa_hi h0 h1 (by assumption)).mono ?_); rintro e w21 ⟨rfl, hb21⟩))
     have hE := show_keep (W := w21) (by assumption)
     have HE := Lib.hid hE
     obtain ⟨d0, d1, d2, d3, d4⟩ := hE.sb.cells
     clear hE d1
     go_wp2_with fail
     go_ret
     exact ⟨by rw [HX.out]; rfl, HE.out.bel⟩
end Go.Proofs.YtnbchikiiipejaaGreatDoor.Lx
namespace Go.Proofs.YtnbchikiiipejaaGreatDoor.Lx
open Go.RowKit Go.Sort Mem
theorem own_below {w w' : World} {base : Nat} {e : TypeId} {size n : Nat} {v : Value} {xs : List Value} (h : w.ownsRow base e size v n xs) (hb : Below w.heap.size w w') : w'.ownsRow base e size v n xs :=
 h.kept (row := none) ⟨hb.os, hb.tape, hb.output, hb.size, fun k hk _ => hb.block k hk⟩ (by
  cases e : v.ownBlock
  ·exact .inl rfl
  ·exact .inr (by simp))
theorem lt_of_block' {w : World} {b : Nat} {o : Obj} (h : w.heap[b]? = some o) : b < w.heap.size := by
 rcases Nat.lt_or_ge b w.heap.size with h' | h'
 ·exact h'
 ·simp [Array.getElem?_eq_none h'] at h
def Bld (B b : Nat) (w : World) (l : List UInt8) : Prop := Lib.IsBuilder 340 5 B b (Lib.byteCells l) w
theorem Bld.below {B b : Nat} {w w' : World} {l : List UInt8} (h : Bld B b w l) (hb : Below w.heap.size w w') : Bld B b w' l := by
 rcases h with ⟨h1, v, h2, h3, h4⟩ | ⟨h1, v, h2, h3, h4⟩
 ·exact .inl ⟨h1, v, (hb.block b (lt_of_block' h2)).trans h2, own_below h3 hb, h4⟩
 ·exact .inr ⟨h1, v, (hb.block b (lt_of_block' h2)).trans h2, own_below h3 hb, h4⟩
theorem Bld.fresh (w : World) : Bld w.heap.size w.heap.size (w.alloc (.cells #[.pointer none, .slice none 0 0] 340 (0, 0))) [] :=
 .inl ⟨Nat.le_refl _, .slice none 0 0, heap_alloc_new w _, World.ownsRow_nil _ _ _ _, by simp [Value.ownBlock]⟩
theorem size_b : (Tryz.prog.info? 340).map (·.size) = some 2 := by kernel_rfl
theorem lies_b : liesAt Tryz.prog Tryz.prog.depth 340 (2 / Tryz.prog.cellsOf 340) 0 340 1 = true := by kernel_rfl
theorem info_u8 : (Tryz.prog.info? 5).map (fun i => (i.zero, i.size, i.bytes)) = some (some (.int .u8 0), 1, 1) := by kernel_rfl
theorem check_used (b : Nat) (w : World) (h0 : w.cell? ⟨b, 0, none⟩ = some (.pointer (some ⟨b, 0, none⟩))) :
  Calls Tryz.prog 257 #[.pointer (some ⟨b, 0, none⟩)] w fun e w' => e = .returned (.tuple #[]) ∧ w' = w := by
 obtain ⟨j, hj, _⟩ := Option.map_eq_some_iff.1 size_b
 go_enter Tryz.func257, Tryz.ntmps257
 go_wp2
 rw [Lib.run_neq_ptr_same w _ Tryz.underlying338 hj]
 go_wp2
 go_end0
 exact ⟨rfl, rfl⟩
theorem check_fresh (b : Nat) (w : World) (h0 : w.cell? ⟨b, 0, none⟩ = some (.pointer none)) (hsh : w.shape? b = some (340, 2)) (hfz : w.frozen? ⟨b, 0, none⟩ = false) :
  Calls Tryz.prog 257 #[.pointer (some ⟨b, 0, none⟩)] w fun e w' => e = .returned (.tuple #[]) ∧ w' = w.setCell ⟨b, 0, none⟩ (.pointer (some ⟨b, 0, none⟩)) := by
 obtain ⟨j, hj, hjs⟩ := Option.map_eq_some_iff.1 size_b
 go_enter Tryz.func257, Tryz.ntmps257
 go_wp2
 rw [Lib.run_to_unsafe w ⟨b, 0, none⟩ Tryz.underlying338 Tryz.underlying374 hj (by rw [hjs]; decide) hsh (Nat.zero_lt_succ 1)]
 simp only [Result.andThen]
 rw [Oper.upon_value]
 go_wp2
 rw [run_callFunc_extern Tryz.func267 (by kernel_rfl) (by kernel_rfl) (by kernel_rfl) (e := Extern.AbiNoEscape.same) (by kernel_rfl)]
 rw [Lib.run_noEscape]
 simp only [Result.andThen]
 rw [Oper.upon_value]
 go_wp2
 rw [Lib.run_from_unsafe w ⟨b, 0, none⟩ Tryz.underlying374 Tryz.underlying338 hj hsh lies_b]
 simp only [Result.andThen]
 rw [Oper.upon_value]
 go_wp2
 go_end0
 exact ⟨rfl, rfl⟩
theorem check_any (B b : Nat) (l : List UInt8) (w : World) (h : Bld B b w l) :
  Calls Tryz.prog 257 #[.pointer (some ⟨b, 0, none⟩)] w fun e w' => e = .returned (.tuple #[]) ∧ Lib.BuilderAt 340 5 B b (.pointer (some ⟨b, 0, none⟩)) (Lib.byteCells l) w' ∧ Below B w w' ∧ Lib.OthersKept 5 (some b) w w' := by
 rcases h with h | h
 ·refine (check_fresh b w h.cell0 h.shape h.frozen0).mono ?_
  rintro e w' ⟨rfl, rfl⟩
  exact ⟨rfl, h.used _, (Below.refl B w).setCell (p := ⟨b, 0, none⟩) h.1 _, (Lib.OthersKept.refl _ _ w).setCell ⟨b, 0, none⟩ rfl _⟩
 ·refine (check_used b w h.cell0).mono ?_
  rintro e w' ⟨rfl, rfl⟩
  exact ⟨rfl, h, Below.refl B _, Lib.OthersKept.refl _ _ _⟩
theorem put_b {B b : Nat} {w : World} {p v : Value} {bs : List Value} (hB : B ≤ b) (hh : w.heap[b]? = some (.cells #[.pointer (some ⟨b, 0, none⟩), p] 340 (0, 0))) (ho : w.ownsRow B 5 1 v bs.length bs) :
  Lib.BuilderAt 340 5 B b (.pointer (some ⟨b, 0, none⟩)) bs (w.setCell ⟨b, 1, none⟩ v) := Lib.BuilderAt.put hB hh ho (by decide)
theorem writeByte_any (B b : Nat) (l : List UInt8) (u : UInt8) (c : Int) (hu : c = (u.toNat : Int)) (w : World) (h : Bld B b w l) (hlen : l.length ≤ 100000) (hBw : B ≤ w.heap.size) :
  Calls Tryz.prog 264 #[.pointer (some ⟨b, 0, none⟩), .int .u8 c] w fun e w' => e = .returned .nilIface ∧ Bld B b w' (l ++ [u]) ∧ Below B w w' ∧ Lib.OthersKept 5 (some b) w w' := by
 obtain ⟨i0, hi, hz0, hz1, hz2⟩ := info_parts info_u8
 have hll := Lib.byteCells_length l
 have HU := Lib.hid hu
 have hck := check_any B b l w h
 have HC := hide hck
 have HBS := Lib.hid (Lib.byteCells_append l [u])
 obtain ⟨bs, hbs⟩ : ∃ bs, bs = Lib.byteCells l := ⟨_, rfl⟩
 have HB := Lib.hid hbs
 rw [← hbs] at hll
 have hbl : bs.length ≤ 100000 := by omega
 clear hu hck h hbs hll hlen
 go_enter Tryz.func264, Tryz.ntmps264
 go_wp2_with (go_at_call 257; refine (unhide HC).mono ?_)
 rintro e w1 ⟨rfl, h1, hb1, hk1⟩
 have HK := Lib.hid hk1
 clear hk1
 rw [← HB.out] at h1
 obtain ⟨hB, v, hbk, hown, hne⟩ := h1
 have c0 : w1.cell? ⟨b, 0, none⟩ = some (.pointer (some ⟨b, 0, none⟩)) := by rw [Lib.cell_of_heap hbk]; rfl
 have c1 : w1.cell? ⟨b, 1, none⟩ = some v := by rw [Lib.cell_of_heap hbk]; rfl
 go_wp2_with (at_builtin; refine wpList_append_own _ rfl _ _ 186 rfl B 5 i0 (.int .u8 0) 1 1 Tryz.underlying186 hi hz0 hz1 hz2 rfl (by decide) _ _ _ rfl (hown.alloc _) ⟨w1.heap.size, 0, none⟩ 1 1 [.int .u8 c] rfl rfl ?c1 ?c2 ?c3 ?c4 ?c5 ?_)
 case c1 =>
  intro j u hj
  match j, hj with
  | 0, hj => simp at hj; subst hj; simp [Addr.add]
 case c2 => intro u hu; simp at hu; subst hu; rfl
 case c3 => unfold maxLen; omega
 case c4 => omega
 case c5 => have := hb1.size; simp; omega
 intro v' w2 hown' hgrow _
 have hlt := lt_of_block' hbk
 have hb2 : w2.heap[b]? = some (.cells #[.pointer (some ⟨b, 0, none⟩), v] 340 (0, 0)) := by
  rw [hgrow.block b (by simp; omega) (fun e => hne e.symm), Lib.alloc_old w1 _ b hlt]
  exact hbk
 have d0 : w2.cell? ⟨b, 0, none⟩ = some (.pointer (some ⟨b, 0, none⟩)) := by rw [Lib.cell_of_heap hb2]; rfl
 have d1 : w2.cell? ⟨b, 1, none⟩ = some v := by rw [Lib.cell_of_heap hb2]; rfl
 have f1 : w2.frozen? ⟨b, 1, none⟩ = false := Lib.frozen_of_heap hb2 1
 obtain ⟨g, cap, rfl⟩ : ∃ g cap, v' = .slice (some ⟨g, 0, none⟩) (bs.length + 1) cap := by
  rcases hown'.2 with ⟨_, h0⟩ | ⟨g, cap, cur, hv, _⟩
  ·omega
  ·exact ⟨g, cap, hv⟩
 go_wp2
 go_ret
 refine ⟨rfl, .inr ?_, ?_, ?_⟩
 ·have e1 : Lib.byteCells (l ++ [u]) = bs ++ [.int .u8 c] := by rw [HBS.out, HB.out, HU.out]; rfl
  rw [e1]
  exact put_b hB hb2 (bs := bs ++ [.int .u8 c]) (by simpa using hown')
 ·exact ((hb1.alloc (by have := hb1.size; omega) _).grown hgrow (by have := hb1.size; simp; omega) (fun k hk => (hown.lt k hk).1)).setCell (p := ⟨b, 1, none⟩) hB _
 ·exact ((HK.out.alloc _).grown hgrow (fun g hg => by
   rcases hown.2 with ⟨hv, _⟩ | ⟨g', cap', cur, hv, _, hgb, _⟩
   ·rw [hv] at hg; simp [Value.ownBlock] at hg
   ·rw [hv] at hg
    obtain rfl : g' = g := by simpa [Value.ownBlock] using hg
    exact ⟨_, _, (Lib.alloc_old w1 _ g' (lt_of_block' hgb)).trans hgb⟩)).setCell ⟨b, 1, none⟩ rfl _
theorem writeString_any (B b : Nat) (l : List UInt8) (s : ByteArray) (w : World) (h : Bld B b w l) (hlen : l.length + s.size ≤ 100000) (hBw : B ≤ w.heap.size) :
  Calls Tryz.prog 235 #[.pointer (some ⟨b, 0, none⟩), .string s] w fun e w' => e = .returned (.tuple #[.int .i64 s.size, .nilIface]) ∧ Bld B b w' (l ++ s.data.toList) ∧ Below B w w' ∧ Lib.OthersKept 5 (some b) w w' := by
 obtain ⟨i0, hi, hz0, hz1, hz2⟩ := info_parts info_u8
 have hll := Lib.byteCells_length l
 have hck := check_any B b l w h
 have HC := hide hck
 have HBS := Lib.hid (Lib.byteCells_append l s.data.toList)
 obtain ⟨bs, hbs⟩ : ∃ bs, bs = Lib.byteCells l := ⟨_, rfl⟩
 have HB := Lib.hid hbs
 rw [← hbs] at hll
 have hbl : bs.length + s.size ≤ 100000 := by omega
 clear hck h hbs hll hlen
 go_enter Tryz.func235, Tryz.ntmps235
 go_wp2_with (go_at_call 257; refine (unhide HC).mono ?_)
 rintro e w1 ⟨rfl, h1, hb1, hk1⟩
 have HK := Lib.hid hk1
 clear hk1
 rw [← HB.out] at h1
 obtain ⟨hB, v, hbk, hown, hne⟩ := h1
 have c0 : w1.cell? ⟨b, 0, none⟩ = some (.pointer (some ⟨b, 0, none⟩)) := by rw [Lib.cell_of_heap hbk]; rfl
 have c1 : w1.cell? ⟨b, 1, none⟩ = some v := by rw [Lib.cell_of_heap hbk]; rfl
 go_wp2_with (at_builtin; refine Lib.wpList_append_own_string _ rfl _ _ 186 9 rfl B 5 i0 Tryz.underlying186 Tryz.underlying9 hi hz0 hz1 hz2 _ _ _ rfl hown s rfl ?c3 ?c4 ?c5 ?_)
 case c3 => unfold maxLen; omega
 case c4 => omega
 case c5 => have := hb1.size; omega
 intro v' w2 hown' hgrow _
 have hlt := lt_of_block' hbk
 have hb2 : w2.heap[b]? = some (.cells #[.pointer (some ⟨b, 0, none⟩), v] 340 (0, 0)) := by
  rw [hgrow.block b hlt (fun e => hne e.symm)]
  exact hbk
 have d0 : w2.cell? ⟨b, 0, none⟩ = some (.pointer (some ⟨b, 0, none⟩)) := by rw [Lib.cell_of_heap hb2]; rfl
 have d1 : w2.cell? ⟨b, 1, none⟩ = some v := by rw [Lib.cell_of_heap hb2]; rfl
 have f1 : w2.frozen? ⟨b, 1, none⟩ = false := Lib.frozen_of_heap hb2 1
 obtain ⟨ao, n', cap, rfl⟩ : ∃ ao n' cap, v' = .slice ao n' cap := by
  rcases hown'.2 with ⟨hv, _⟩ | ⟨g, cap, cur, hv, _⟩
  ·exact ⟨_, _, _, hv⟩
  ·exact ⟨_, _, _, hv⟩
 go_wp2
 go_ret2
 refine ⟨rfl, .inr ?_, ?_, ?_⟩
 ·have e1 : Lib.byteCells (l ++ s.data.toList) = bs ++ Lib.strCells s := by rw [HBS.out, HB.out, Lib.strCells_eq]
  rw [e1]
  exact put_b hB hb2 (bs := bs ++ Lib.strCells s) (by simpa [Lib.strCells_length] using hown')
 ·exact (hb1.grown hgrow (by have := hb1.size; omega) (fun k hk => (hown.lt k hk).1)).setCell (p := ⟨b, 1, none⟩) hB _
 ·exact (HK.out.grown hgrow (fun g hg => by
   rcases hown.2 with ⟨hv, _⟩ | ⟨g', cap', cur, hv, _, hgb, _⟩
   ·rw [hv] at hg; simp [Value.ownBlock] at hg
   ·rw [hv] at hg
    obtain rfl : g' = g := by simpa [Value.ownBlock] using hg
    exact ⟨_, _, hgb⟩)).setCell ⟨b, 1, none⟩ rfl _
end Go.Proofs.YtnbchikiiipejaaGreatDoor.Lx
namespace Go.Proofs.YtnbchikiiipejaaGreatDoor.Lx
open Go.RowKit Mem
def I64 (v : Int) : Prop := -9223372036854775808 ≤ v ∧ v ≤ 9223372036854775807
theorem times_len {lo hi : Int} (h : I64 lo) (h' : I64 hi) : (times lo hi).length ≤ 43 := by
 have a := itoa_len lo h.1 h.2
 have b := itoa_len hi h'.1 h'.2
 unfold times
 repeat' split
 all_goals simp <;> omega
theorem show1_len {x : Sg} (h : I64 x.low ∧ I64 x.high) (hn : x.name.length ≤ 100) : (show1 x).length ≤ 100 := by
 have a := times_len h.1 h.2
 unfold show1
 repeat' split
 all_goals simp <;> omega
theorem piece_len {x : Sg} (i : Nat) (h : I64 x.low ∧ I64 x.high) (hn : x.name.length ≤ 100) : (piece i x).length ≤ 101 := by
 have a := show1_len h hn
 unfold piece
 split <;> simp <;> omega
theorem showN_len : ∀ (l : List Sg) (i : Nat), (∀ x ∈ l, (I64 x.low ∧ I64 x.high) ∧ x.name.length ≤ 100) → (showN i l).length ≤ 101 * l.length
 | [], _, _ => by simp [showN]
 | x :: l, i, h => by
  have a := piece_len i (h x (by simp)).1 (h x (by simp)).2
  have b := showN_len l (i + 1) (fun y hy => h y (by simp [hy]))
  simp only [showN, List.length_append, List.length_cons]; omega
theorem SB.others {W W' : World} {B b : Nat} {a c d e : Int} {s : ByteArray} (h : SB W B a c d e s) (k : Lib.OthersKept 5 (some b) W W') (hne : B ≠ b) : SB W' B a c d e s :=
 k B _ h (by simpa using hne) (fun c fz e => by injection e with _ e _; revert e; decide)
theorem write_blank (B b : Nat) (l : List UInt8) (w : World) (h : Bld B b w l) (hlen : l.length ≤ 100000) (hBw : B ≤ w.heap.size) :
  Calls Tryz.prog 264 #[.pointer (some ⟨b, 0, none⟩), .int .u8 32] w fun e w' => e = .returned .nilIface ∧ Bld B b w' (l ++ [32]) ∧ Below B w w' ∧ Lib.OthersKept 5 (some b) w w' := writeByte_any B b l 32 32 rfl w h hlen hBw
theorem told (B b : Nat) (l : List UInt8) (w : World) (h : Bld B b w l) (hBw : B ≤ w.heap.size) :
  Calls Tryz.prog 236 #[.pointer (some ⟨b, 0, none⟩)] w fun e w' => e = .returned (.string ⟨l.toArray⟩) ∧ Below B w w' := Tryz.Builder_String_any B b l w h hBw
theorem Show_any (A : Option Addr) (n c : Nat) (l : List Sg) (w : World) (hr : GRow w A n l) (hn : n ≤ 300) (hx : ∀ x ∈ l, (I64 x.low ∧ I64 x.high) ∧ x.name.length ≤ 100) (H : Held w) :
  Calls Tryz.prog 247 #[.slice A n c] w fun e w' => e = .returned (.string ⟨(showN 0 l).toArray⟩) ∧ Below w.heap.size w w' := by
 have HH := hide H
 have HR := Lib.hid hr
 have HX := hide hx
 clear H hr hx
 go_enter Tryz.func247, Tryz.ntmps247
 go_wp2_with fail
 go_loopw [8] (fun i wr => ∃ k : Nat, k ≤ n ∧ i = .int .i64 k ∧ Hid (Bld w.heap.size w.heap.size wr (showN 0 (l.take k))) ∧ Hid (Below w.heap.size w wr)) (fun i _ => n - (intOf i).toNat)
 case atStart => exact ⟨0, by omega, rfl, Bld.fresh w, (Below.refl _ _).alloc (Nat.le_refl _) _⟩
 case round =>
  obtain ⟨k, hk, rfl, hB, hW⟩ := hrel
  by_cases hlt : k < n
  ·have hl : l.length = n := HR.out.1
   obtain ⟨b, off, hA, hb, hc⟩ := HR.out.2 (by omega)
   have hkl : k < l.length := by omega
   obtain ⟨a0, a1, a2, a3, a4⟩ := hc k hkl
   have hcc := fun o => hW.out.cell (p := ⟨b, o, none⟩) hb
   have b0 := (hcc _).trans a0
   have b1 := (hcc _).trans a1
   have b2 := (hcc _).trans a2
   have b3 := (hcc _).trans a3
   have b4 := (hcc _).trans a4
   have hnx := showN_take l k hkl
   have hxk := HX.out l[k] (List.getElem_mem hkl)
   have hlen := showN_len (l.take k) 0 (fun x h => HX.out x (List.mem_of_mem_take h))
   rw [List.length_take, Nat.min_eq_left (by omega)] at hlen
   have hpl := piece_len k hxk.1 hxk.2
   have hHr := HH.out.below hW.out
   obtain ⟨x, hxe⟩ : ∃ x, x = l[k] := ⟨_, rfl⟩
   rw [← hxe] at b0 b1 b2 b3 b4 hnx hxk hpl
   obtain ⟨kd, at_, lo, hi, nm⟩ := x
   dsimp only at b0 b1 b2 b3 b4 hxk
   obtain ⟨T, hT⟩ : ∃ T, T = showN 0 (l.take k) := ⟨_, rfl⟩
   rw [← hT] at hB hnx hlen
   have HN := Lib.hid hnx
   have HHR := hide hHr
   subst hA
   have HSB := Lib.hid (SB.new wr kd at_ lo hi ⟨nm.toArray⟩)
   have HBA := Lib.hid (hB.out.below ((Below.refl _ _).alloc (Nat.le_refl _) (.cells #[.int .i64 kd, .int .i64 at_, .int .i64 lo, .int .i64 hi, .string ⟨nm.toArray⟩] 222)))
   have hsz := hW.out.size
   have HW := Lib.hid hW.out
   have HNE : Hid (wr.heap.size ≠ w.heap.size) := by
    have h := hB.out
    show _ ≠ _
    rcases h with ⟨_, v, h2, _⟩ | ⟨_, v, h2, _⟩ <;> (have := lt_of_block' h2; omega)
   have l0 := hxk.1.1.1
   have l1 := hxk.1.1.2
   have h0' := hxk.1.2.1
   have h1' := hxk.1.2.2
   clear hnx hHr hxe hT hcc a0 a1 a2 a3 a4 hc hl
   by_cases hsp : 0 < k ∧ kd ≠ 5
   ·have t1 : decide (0 < k) = true := by simpa using hsp.1
    have t2 : (kd != 5) = true := by simpa using hsp.2
    have HP : Hid (piece k ⟨kd, at_, lo, hi, nm⟩ = 32 :: show1 ⟨kd, at_, lo, hi, nm⟩) := by show _ = _; unfold piece; rw [if_pos hsp]; rfl
    clear hsp
    have hz1 : (show1 ⟨kd, at_, lo, hi, nm⟩).length ≤ 100 := show1_len hxk.1 hxk.2
    go_wp2_with (first
     | (go_at_call 264; (with_reducible refine (write_blank w.heap.size w.heap.size T _ HBA.out (by omega) (by simp; omega)).mono ?_); rintro e w2 ⟨rfl, hb2, hw2, hk2⟩; have HB2 := Lib.hid hb2; have HW2 := Lib.hid (((HW.out.alloc hsz (.cells #[.int .i64 kd, .int .i64 at_, .int .i64 lo, .int .i64 hi, .string ⟨nm.toArray⟩] 222))).trans hw2); have HS2 := Lib.hid (HSB.out.others hk2 HNE.out); have HH2 := Lib.hid (HH.out.below HW2.out); obtain ⟨m0, m1, m2, m3, m4⟩ := HS2.out.cells; clear hb2 hw2 hk2)
     | (go_at_call 265; (with_reducible refine (show_any kd at_ lo hi nm _ HH2.out l0 l1 h0' h1').mono ?_); rintro e w3 ⟨rfl, hb3⟩; have HB3 := Lib.hid (HB2.out.below hb3); have HW3 := Lib.hid (HW2.out.trans (hb3.mono HW2.out.size)); have hz3 := HW3.out.size; clear hb3)
     | (go_at_call 235; (with_reducible refine (writeString_any w.heap.size w.heap.size (T ++ [32]) _ _ HB3.out (by simp [ByteArray.size]; omega) hz3).mono ?_); rintro e w4 ⟨rfl, hb4, hw4, hk4⟩; have HB4 := Lib.hid hb4; have HW4 := Lib.hid (HW3.out.trans hw4); clear hb4 hw4 hk4))
    go_roundw
    case rel => exact ⟨k + 1, by omega, by go_num, by show Bld _ _ _ _; rw [HN.out, HP.out]; simpa using HB4.out, HW4⟩
    case measure => simp [intOf]; omega
   ·have HP : Hid (piece k ⟨kd, at_, lo, hi, nm⟩ = show1 ⟨kd, at_, lo, hi, nm⟩) := by show _ = _; unfold piece; rw [if_neg hsp]; rfl
    have hz1 : (show1 ⟨kd, at_, lo, hi, nm⟩).length ≤ 100 := show1_len hxk.1 hxk.2
    have HB2 := HBA
    have HW2 := Lib.hid ((HW.out.alloc hsz (.cells #[.int .i64 kd, .int .i64 at_, .int .i64 lo, .int .i64 hi, .string ⟨nm.toArray⟩] 222)))
    have HH2 := Lib.hid (HH.out.below HW2.out)
    by_cases h0 : k = 0
    ·have t1 : decide (0 < k) = false := by simp; omega
     have hk0 : k ≤ 0 := by omega
     clear hsp h0
     go_wp2_with (first
      | (go_at_call 265; (with_reducible refine (show_any kd at_ lo hi nm _ HH2.out l0 l1 h0' h1').mono ?_); rintro e w3 ⟨rfl, hb3⟩; have HB3 := Lib.hid (HB2.out.below hb3); have HW3 := Lib.hid (HW2.out.trans (hb3.mono HW2.out.size)); have hz3 := HW3.out.size; clear hb3)
      | (go_at_call 235; (with_reducible refine (writeString_any w.heap.size w.heap.size T _ _ HB3.out (by simp [ByteArray.size]; omega) hz3).mono ?_); rintro e w4 ⟨rfl, hb4, hw4, hk4⟩; have HB4 := Lib.hid hb4; have HW4 := Lib.hid (HW3.out.trans hw4); clear hb4 hw4 hk4))
     go_roundw
     case rel => exact ⟨k + 1, by omega, by go_num, by show Bld _ _ _ _; rw [HN.out, HP.out]; simpa using HB4.out, HW4⟩
     case measure => simp [intOf]; omega
    ·have t1 : decide (0 < k) = true := by simp; omega
     have t2 : (kd != 5) = false := by
      simp only [not_and, Classical.not_not] at hsp
      simpa using hsp (by omega)
     clear hsp h0
     go_wp2_with (first
      | (go_at_call 265; (with_reducible refine (show_any kd at_ lo hi nm _ HH2.out l0 l1 h0' h1').mono ?_); rintro e w3 ⟨rfl, hb3⟩; have HB3 := Lib.hid (HB2.out.below hb3); have HW3 := Lib.hid (HW2.out.trans (hb3.mono HW2.out.size)); have hz3 := HW3.out.size; clear hb3)
      | (go_at_call 235; (with_reducible refine (writeString_any w.heap.size w.heap.size T _ _ HB3.out (by simp [ByteArray.size]; omega) hz3).mono ?_); rintro e w4 ⟨rfl, hb4, hw4, hk4⟩; have HB4 := Lib.hid hb4; have HW4 := Lib.hid (HW3.out.trans hw4); clear hb4 hw4 hk4))
     go_roundw
     case rel => exact ⟨k + 1, by omega, by go_num, by show Bld _ _ _ _; rw [HN.out, HP.out]; simpa using HB4.out, HW4⟩
     case measure => simp [intOf]; omega
  ·obtain rfl : k = n := by omega
   have hz := hW.out.size
   have HL : Hid (l.take k = l) := by show _ = _; rw [← HR.out.1, List.take_length]
   go_wp2_with (go_at_call 236; (with_reducible refine (told w.heap.size w.heap.size _ _ hB.out hz).mono ?_); rintro e w5 ⟨rfl, hb5⟩)
   go_ret
   exact ⟨by rw [HL.out]; rfl, hW.out.trans hb5⟩
end Go.Proofs.YtnbchikiiipejaaGreatDoor.Lx
namespace Go.Proofs.YtnbchikiiipejaaGreatDoor.Lx
open Go.RowKit Mem
theorem num_bad {t : List UInt8} {k p : Nat} {c : Int} (h : num t k = .bad p c) : c = 2 ∨ c = 5 := by
 unfold num at h
 repeat' split at h
 all_goals first
  | (simp only [Res.bad.injEq] at h; omega)
  | simp at h
theorem numP_bad {t : List UInt8} {k l p : Nat} {c : Int} (h : numP t k l = .bad p c) : c = 2 ∨ c = 3 ∨ c = 5 := by
 unfold numP at h
 cases hn : num t k with
 | ok n to => rw [hn] at h; simp only at h; split at h <;> simp at h; omega
 | bad q d => rw [hn] at h; simp only [Res.bad.injEq] at h; have := num_bad hn; omega
theorem cnt_bad {t : List UInt8} {k p : Nat} {c : Int} (h : cnt t k = .bad p c) : c = 2 ∨ c = 3 ∨ c = 5 := by
 unfold cnt at h
 cases hn : numP t k 0 with
 | bad q d => rw [hn] at h; simp only [Res.bad.injEq] at h; have := numP_bad hn; omega
 | ok low to =>
  rw [hn] at h
  simp only at h
  split at h
  ·simp at h; omega
  ·split at h
   ·unfold highP at h
    split at h
    ·simp at h; omega
    ·split at h
     ·simp at h
     ·split at h
      ·rename_i hn2
       simp only [Res.bad.injEq] at h
       have := numP_bad hn2; omega
      ·unfold shutP at h
       split at h
       ·simp at h; omega
       ·split at h
        ·simp at h
        ·simp at h; omega
   ·split at h
    ·split at h
     ·simp at h; omega
     ·simp at h
    ·simp at h; omega
theorem one_bad {c : UInt8} {t : List UInt8} {k p : Nat} {e : Int} (h : one c t k = .bad p e) : e = 2 ∨ e = 3 ∨ e = 5 := by
 unfold one at h
 split at h
 ·simp only at h
  split at h
  ·simp at h
  ·simp at h; omega
 ·split at h
  ·split at h
   ·rename_i hc
    simp only [Res.bad.injEq] at h
    have := cnt_bad hc; omega
   ·simp at h
  ·split at h
   ·simp at h
   ·simp at h; omega
theorem lex_bad : ∀ (f : Nat) (t : List UInt8) (k : Nat) (acc : List Sg) (p : Nat) (e : Int), lex f t k acc = .bad p e → e = 2 ∨ e = 3 ∨ e = 4 ∨ e = 5
 | 0, _, _, _, _, _, h => by simp [lex] at h
 | f + 1, [], _, _, _, _, h => by simp [lex] at h
 | f + 1, c :: u, k, acc, p, e, h => by
  unfold lex at h
  simp only at h
  split at h
  ·exact lex_bad f _ _ _ _ _ h
  ·split at h
   ·simp at h; omega
   ·split at h
    ·rename_i ho
     simp only [Res.bad.injEq] at h
     have := one_bad ho; omega
    ·exact lex_bad f _ _ _ _ _ h
theorem lex_ends (s : List UInt8) : (∃ l, Lex s = .ok l 0 ∧ (∀ x ∈ l, Fine x) ∧ l.length ≤ 200) ∨ ∃ p e, Lex s = .bad p e ∧ e ≠ 0 := by
 cases h : Lex s with
 | ok l n =>
  obtain ⟨h1, h2, rfl⟩ := lex_fine _ s 0 [] l n (by simp) (by simp) h
  exact .inl ⟨l, rfl, h1, h2⟩
 | bad p e => exact .inr ⟨p, e, rfl, by have := lex_bad _ _ _ _ _ _ h; omega⟩
theorem fine_64 {x : Sg} (h : Fine x) : (I64 x.low ∧ I64 x.high) ∧ x.name.length ≤ 100 := by
 unfold I64
 rcases h with ⟨_, h2, h3, _, _, h5⟩ | ⟨_, h2, h3, h4⟩ | ⟨_, h2, h3, h4, h5⟩
 ·exact ⟨by omega, by omega⟩
 ·exact ⟨by omega, by rw [h4]; simp⟩
 ·exact ⟨by omega, by rw [h2]; simp⟩
end Go.Proofs.YtnbchikiiipejaaGreatDoor.Lx
