/- Walks of the lexer: a sign's text. -/
import Derived.Test.YtegkimcfmdckbabDoorLxI
import Derived.Deep.RegionHeld3
import Derived.Test.YtegkimcfmdckbabDoorNumMath
namespace Go.Proofs.YtegkimcfmdckbabDoor.Lx
open Go.RowKit Mem
set_option linter.unusedVariables false

/-- is a sign the one of one byte? -/
def mat (l : Int × Int × Int) (kd lo hi : Int) : Prop := l.1 = kd ∧ (kd ≠ 5 ∨ (l.2.1 = lo ∧ l.2.2 = hi))
theorem six {p : Nat} (hp : p < 6) : p = 0 ∨ p = 1 ∨ p = 2 ∨ p = 3 ∨ p = 4 ∨ p = 5 := by omega
theorem show1_match {p : Nat} (hp : p < 6) {l : Int × Int × Int} (hl : singles[p]? = some l) {kd lo hi : Int} (h : mat l kd lo hi) (at_ : Int) (nm : List UInt8) : show1 ⟨kd, at_, lo, hi, nm⟩ = [UInt8.ofNat (chr p)] := by
  obtain ⟨rfl, h2⟩ := h
  rcases six hp with rfl | rfl | rfl | rfl | rfl | rfl <;> (simp [singles] at hl; subst hl)
  · rfl
  · rfl
  · rfl
  all_goals
    rcases h2 with h2 | ⟨rfl, rfl⟩
    · exact absurd rfl h2
    · rfl
theorem show1_none {kd lo hi : Int} (h : ∀ p, p < 6 → ∀ l, singles[p]? = some l → ¬ mat l kd lo hi) (at_ : Int) (nm : List UInt8) :
    show1 ⟨kd, at_, lo, hi, nm⟩ = if kd = 1 then nm else if kd ≠ 5 then [] else 123 :: Lib.itoa lo ++ (if lo = hi then [125] else if hi = -1 then [44, 125] else 44 :: Lib.itoa hi ++ [125]) := by
  have h2 : kd ≠ 2 := fun e => h 0 (by omega) (2, 0, 0) rfl ⟨e.symm, .inl (by omega)⟩
  have h3 : kd ≠ 3 := fun e => h 1 (by omega) (3, 0, 0) rfl ⟨e.symm, .inl (by omega)⟩
  have h4 : kd ≠ 4 := fun e => h 2 (by omega) (4, 0, 0) rfl ⟨e.symm, .inl (by omega)⟩
  unfold show1
  by_cases h1 : kd = 1
  · simp [h1]
  · by_cases h5 : kd = 5
    · have a : ¬ (lo = 0 ∧ hi = -1) := fun e => h 3 (by omega) (5, 0, -1) rfl ⟨h5.symm, .inr ⟨e.1.symm, e.2.symm⟩⟩
      have b : ¬ (lo = 1 ∧ hi = -1) := fun e => h 4 (by omega) (5, 1, -1) rfl ⟨h5.symm, .inr ⟨e.1.symm, e.2.symm⟩⟩
      have c : ¬ (lo = 0 ∧ hi = 1) := fun e => h 5 (by omega) (5, 0, 1) rfl ⟨h5.symm, .inr ⟨e.1.symm, e.2.symm⟩⟩
      simp [h5, times, a, b, c]
    · simp [h1, h2, h3, h4, h5]

theorem itoa_len (n : Int) (h0 : -9223372036854775808 ≤ n) (h1 : n ≤ 9223372036854775807) : (Lib.itoa n).length ≤ 20 := by
  unfold Lib.itoa
  split
  · have := Wd.dec_len19 n.natAbs (by omega)
    simp only [List.length_cons]; omega
  · exact Wd.dec_len20 n.toNat (by omega)
theorem conv_chr (p : Nat) (hp : p < 6) (w : World) : (convert 21 9 (.int .i32 (chr p : Int))).run Tryd.prog w = .ok (.string ⟨#[UInt8.ofNat (chr p)]⟩) w := by
  rcases six hp with rfl | rfl | rfl | rfl | rfl | rfl <;> kernel_rfl
theorem below_grow {w : World} (k : Nat) (os : Array Obj) : Below w.heap.size w (Go.Sort.grow (w.drewN k) os) :=
  ⟨rfl, rfl, rfl, by simp [Go.Sort.grow], fun i hi => by show (w.heap ++ os)[i]? = w.heap[i]?; rw [Array.getElem?_append_left hi]⟩
theorem itoa_any (n : Int) (h0 : -9223372036854775808 ≤ n) (h1 : n ≤ 9223372036854775807) (w : World) (H : Held w) :
    Calls Tryd.prog 71 #[.int .i64 n] w fun e w' => e = .returned (.string ⟨(Lib.itoa n).toArray⟩) ∧ Below w.heap.size w w' :=
  (Tryd.strconv_Itoa n h0 h1 w H.tab).mono fun e w' ⟨he, k, os, hw⟩ => ⟨he, by rw [hw]; exact below_grow k os⟩

/-- what holds of the world while a count's numbers are told -/
structure SE (w : World) (B : Nat) (kd at_ lo hi : Int) (nm : ByteArray) (W : World) : Prop where
  sb : SB W B kd at_ lo hi nm
  held : Held W
  bel : Below w.heap.size w W
section
variable {w W W' : World} {B : Nat} {kd at_ lo hi : Int} {nm : ByteArray}
theorem SE.step (h : SE w B kd at_ lo hi nm W) (hb : Below W.heap.size W W') : SE w B kd at_ lo hi nm W' :=
  ⟨(hb.block _ h.sb.lt).trans h.sb, h.held.below hb, h.bel.trans (hb.mono h.bel.size)⟩
theorem SE.drew (h : SE w B kd at_ lo hi nm W) : SE w B kd at_ lo hi nm W.drew := h.step (below_drew1 (Below.refl _ _))
theorem show_of (h : SE w B kd at_ lo hi nm W) : W.cell? ⟨B, 2, none⟩ = some (.int .i64 lo) ∧ W.cell? ⟨B, 3, none⟩ = some (.int .i64 hi) ∧ SE w B kd at_ lo hi nm W := ⟨h.sb.cells.2.2.1, h.sb.cells.2.2.2.1, h⟩
theorem show_step (h : W.cell? ⟨B, 2, none⟩ = some (.int .i64 lo) ∧ W.cell? ⟨B, 3, none⟩ = some (.int .i64 hi) ∧ SE w B kd at_ lo hi nm W) (hb : Below W.heap.size W W') :
    W'.cell? ⟨B, 2, none⟩ = some (.int .i64 lo) ∧ W'.cell? ⟨B, 3, none⟩ = some (.int .i64 hi) ∧ SE w B kd at_ lo hi nm W' := show_of (h.2.2.step hb)
theorem show_keep (h : W.cell? ⟨B, 2, none⟩ = some (.int .i64 lo) ∧ W.cell? ⟨B, 3, none⟩ = some (.int .i64 hi) ∧ SE w B kd at_ lo hi nm W) : SE w B kd at_ lo hi nm W := h.2.2
theorem itoa_lo (h0 : -9223372036854775808 ≤ lo) (h1 : lo ≤ 9223372036854775807) (h : W.cell? ⟨B, 2, none⟩ = some (.int .i64 lo) ∧ W.cell? ⟨B, 3, none⟩ = some (.int .i64 hi) ∧ SE w B kd at_ lo hi nm W) :
    Calls Tryd.prog 71 #[.int .i64 lo] W fun e w' => e = .returned (.string ⟨(Lib.itoa lo).toArray⟩) ∧ Below W.heap.size W w' := itoa_any lo h0 h1 W h.2.2.held
theorem itoa_hi (h0 : -9223372036854775808 ≤ hi) (h1 : hi ≤ 9223372036854775807) (h : W.cell? ⟨B, 2, none⟩ = some (.int .i64 lo) ∧ W.cell? ⟨B, 3, none⟩ = some (.int .i64 hi) ∧ SE w B kd at_ lo hi nm W) :
    Calls Tryd.prog 71 #[.int .i64 hi] W fun e w' => e = .returned (.string ⟨(Lib.itoa hi).toArray⟩) ∧ Below W.heap.size W w' := itoa_any hi h0 h1 W h.2.2.held
end

theorem str_app (a b : List UInt8) : ((⟨a.toArray⟩ : ByteArray) ++ (⟨b.toArray⟩ : ByteArray)) = ⟨(a ++ b).toArray⟩ := by
  apply ByteArray.ext
  simp

theorem ret_str {a b : ByteArray} (h : a = b) : Ending.returned (.string a) = .returned (.string b) := by rw [h]
theorem text1 (lo : Int) : Ending.returned (.string ((⟨#[123]⟩ : ByteArray) ++ ⟨(Lib.itoa lo).toArray⟩ ++ ⟨#[125]⟩)) = .returned (.string ⟨(123 :: Lib.itoa lo ++ [125]).toArray⟩) := by
  apply ret_str; apply ByteArray.ext; simp
theorem text2 (lo : Int) : Ending.returned (.string ((⟨#[123]⟩ : ByteArray) ++ ⟨(Lib.itoa lo).toArray⟩ ++ ⟨#[44, 125]⟩)) = .returned (.string ⟨(123 :: Lib.itoa lo ++ [44, 125]).toArray⟩) := by
  apply ret_str; apply ByteArray.ext; simp
theorem text3 (lo hi : Int) : Ending.returned (.string ((⟨#[123]⟩ : ByteArray) ++ ⟨(Lib.itoa lo).toArray⟩ ++ ⟨#[44]⟩ ++ ⟨(Lib.itoa hi).toArray⟩ ++ ⟨#[125]⟩)) = .returned (.string ⟨(123 :: Lib.itoa lo ++ (44 :: Lib.itoa hi ++ [125])).toArray⟩) := by
  apply ret_str; apply ByteArray.ext; simp
theorem single_at (p : Nat) (hp : p < 6) : ∃ l, singles[p]? = some l := by
  rcases six hp with rfl | rfl | rfl | rfl | rfl | rfl <;> exact ⟨_, rfl⟩
theorem below_drewN {B : Nat} {a w : World} (h : Below B a w) (n : Nat) : Below B a (w.drewN n) := ⟨h.os, h.tape, h.output, h.size, h.block⟩
theorem more_none {p : Nat} {kd lo hi : Int} (hno : Hid (∀ q, q < p → ∀ l, singles[q]? = some l → ¬ mat l kd lo hi)) {l : Int × Int × Int} (hl : singles[p]? = some l) (hn : ¬ mat l kd lo hi) : Hid (∀ q, q < p + 1 → ∀ l, singles[q]? = some l → ¬ mat l kd lo hi) := by
  refine fun q hq l' hl' => ?_
  by_cases h : q < p
  · exact hno.out q h l' hl'
  · obtain rfl : q = p := by omega
    rw [hl] at hl'; injection hl' with e; subst e; exact hn
set_option maxRecDepth 100000 in
set_option maxHeartbeats 2000000 in
theorem show_any (kd at_ lo hi : Int) (nm : List UInt8) (w : World) (H : Held w) (l0 : -9223372036854775808 ≤ lo) (l1 : lo ≤ 9223372036854775807) (h0 : -9223372036854775808 ≤ hi) (h1 : hi ≤ 9223372036854775807) :
    Calls Tryd.prog 54 #[.agg #[.int .i64 kd, .int .i64 at_, .int .i64 lo, .int .i64 hi, .string ⟨nm.toArray⟩]] w fun e w' => e = .returned (.string ⟨(show1 ⟨kd, at_, lo, hi, nm⟩).toArray⟩) ∧ Below w.heap.size w w' := by
  have HH := hide H
  clear H
  obtain ⟨X, hX⟩ : ∃ X, X = show1 ⟨kd, at_, lo, hi, nm⟩ := ⟨_, rfl⟩
  rw [← hX]
  have HXd := Lib.hid hX
  clear hX
  go_enter Tryd.func54, Tryd.ntmps54
  go_wp2_with fail
  obtain ⟨W0, hW0⟩ : ∃ W0, W0 = (w.alloc (.cells #[.int .i64 kd, .int .i64 at_, .int .i64 lo, .int .i64 hi, .string ⟨nm.toArray⟩] 58)).iter SS 0 := ⟨_, rfl⟩
  have e0 : W0 = (w.alloc (.cells #[.int .i64 kd, .int .i64 at_, .int .i64 lo, .int .i64 hi, .string ⟨nm.toArray⟩] 58)).alloc (.stringIter SS 0) := hW0
  have HB0 : Hid (SB W0 w.heap.size kd at_ lo hi ⟨nm.toArray⟩) := by
    show SB _ _ _ _ _ _ _
    rw [e0]
    exact (SB.new w kd at_ lo hi ⟨nm.toArray⟩).kept (World.grownBy_alloc _ _ none) (by simp)
  have HI0 : Hid (It W0 (w.heap.size + 1) 0) := by
    show It _ _ _
    rw [e0]
    have h := It.new (w.alloc (.cells #[.int .i64 kd, .int .i64 at_, .int .i64 lo, .int .i64 hi, .string ⟨nm.toArray⟩] 58))
    rw [World.size_alloc] at h
    exact h
  have HW0 : Hid (Below w.heap.size w W0) := by
    show Below _ _ _
    rw [e0]
    exact ((Below.refl _ _).alloc (Nat.le_refl _) _).alloc (by simp) _
  change Code.wp _ _ _ _ (World.iter _ SS 0)
  rw [← hW0]
  clear hW0 e0
  go_loopw [] (fun wr => ∃ p : Nat, p ≤ 6 ∧ Hid (SB wr w.heap.size kd at_ lo hi ⟨nm.toArray⟩) ∧ Hid (It wr (w.heap.size + 1) p) ∧ Hid (Below w.heap.size w wr) ∧ Hid (∀ q, q < p → ∀ l, singles[q]? = some l → ¬ mat l kd lo hi)) (fun wr => 6 - wr.iterPos (w.heap.size + 1))
  case atStart => exact ⟨0, by omega, HB0, HI0, HW0, Lib.hid (fun q hq => absurd hq (by omega))⟩
  case round =>
    obtain ⟨p, hp, hB, hI, hW, hno⟩ := hrel
    by_cases h6 : p < 6
    · have hnx0 := hI.out.next h6 Tryd.prog
      obtain ⟨W1, hW1⟩ : ∃ W1, W1 = wr.iterAt (w.heap.size + 1) SS (p + 1) := ⟨_, rfl⟩
      rw [← hW1] at hnx0
      have gi : wr.grownBy W1 (some (w.heap.size + 1)) := by rw [hW1]; exact grown_iter _ _ _
      have HI1 : Hid (It W1 (w.heap.size + 1) (p + 1)) := by show It _ _ _; rw [hW1]; exact hI.out.move _
      have HB1 := Lib.hid (hB.out.kept gi (by simp))
      have HW1 := Lib.hid (hW.out.grown gi hW.out.size (by intro i hi; injection hi; omega))
      have hpos := Lib.hid hI.out.pos
      have HH1 := Lib.hid (HH.out.below HW1.out)
      obtain ⟨⟨k1, lo1, hi1⟩, hl0⟩ := single_at p h6
      have HL0 := Lib.hid hl0
      obtain ⟨g0, g1, g2, g3, g4⟩ := HH1.out.sing p _ hl0
      dsimp only at g0 g2 g3
      clear hW1 gi g1 g4
      obtain ⟨b0, b1, b2, b3, b4⟩ := HB1.out.cells
      clear b1 b4
      have j0 : (0 : Int) ≤ (p : Int) := by omega
      have j1 : (p : Int) < 6 := by omega
      by_cases e1 : k1 = kd
      · subst e1
        by_cases e2 : k1 = 5
        · subst e2
          by_cases e3 : lo1 = lo
          · subst e3
            by_cases e4 : hi1 = hi
            · subst e4
              have HM : Hid (mat (5, lo1, hi1) 5 lo1 hi1) := ⟨rfl, .inr ⟨rfl, rfl⟩⟩
              clear hl0
              have kc := fun (W : World) => conv_chr p h6 W
              have HE := Lib.hid (show1_match h6 HL0.out HM.out at_ nm)
              go_wp2_with fail
              go_quiet (fail)
              go_wp2_with fail
              go_ret
              exact ⟨by rw [HXd.out, HE.out]; rfl, below_drewN HW1.out nq⟩
            · have HNM : Hid (¬ mat (5, lo1, hi1) 5 lo1 hi) := fun h => by rcases h.2 with h2 | h2; exact h2 rfl; exact e4 h2.2
              have t4 : (hi1 == hi) = false := by simpa using e4
              clear e4
              go_wp2_with fail
              go_quiet (fail)
              go_wp2_with fail
              go_roundw
              case rel => exact ⟨p + 1, by omega, Drawn.sb ⟨nq, rfl⟩ HB1.out, HI1.out, below_drewN HW1.out nq, more_none hno HL0.out HNM.out⟩
              case measure => rw [hpos.out, show (W1.drewN nq).iterPos (w.heap.size + 1) = p + 1 from HI1.out.pos]; omega
          · have HNM : Hid (¬ mat (5, lo1, hi1) 5 lo hi) := fun h => by rcases h.2 with h2 | h2; exact h2 rfl; exact e3 h2.1
            have t3 : (lo1 == lo) = false := by simpa using e3
            clear e3
            go_wp2_with fail
            go_quiet (fail)
            go_wp2_with fail
            go_roundw
            case rel => exact ⟨p + 1, by omega, Drawn.sb ⟨nq, rfl⟩ HB1.out, HI1.out, below_drewN HW1.out nq, more_none hno HL0.out HNM.out⟩
            case measure => rw [hpos.out, show (W1.drewN nq).iterPos (w.heap.size + 1) = p + 1 from HI1.out.pos]; omega
        · have HM : Hid (mat (k1, lo1, hi1) k1 lo hi) := ⟨rfl, .inl e2⟩
          have t2 : (k1 != 5) = true := by simpa using e2
          clear e2 hl0
          have kc := fun (W : World) => conv_chr p h6 W
          have HE := Lib.hid (show1_match h6 HL0.out HM.out at_ nm)
          go_wp2_with fail
          go_quiet (fail)
          go_wp2_with fail
          go_ret
          exact ⟨by rw [HXd.out, HE.out]; rfl, below_drewN HW1.out nq⟩
      · have HNM : Hid (¬ mat (k1, lo1, hi1) kd lo hi) := fun h => e1 h.1
        have t1 : (k1 == kd) = false := by simpa using e1
        clear e1
        go_wp2_with fail
        go_quiet (fail)
        go_wp2_with fail
        go_roundw
        case rel => exact ⟨p + 1, by omega, Drawn.sb ⟨nq, rfl⟩ HB1.out, HI1.out, below_drewN HW1.out nq, more_none hno HL0.out HNM.out⟩
        case measure => rw [hpos.out, show (W1.drewN nq).iterPos (w.heap.size + 1) = p + 1 from HI1.out.pos]; omega
    · obtain rfl : p = 6 := by omega
      have hnx0 := hI.out.last Tryd.prog
      have HX0 := show1_none hno.out at_ nm
      rw [← HXd.out] at HX0
      have HS0 := Lib.hid (show_of (SE.drew ⟨hB.out, HH.out.below hW.out, hW.out⟩))
      obtain ⟨c0, c1, c2, c3, c4⟩ := hB.out.cells
      clear h6 c0 c1 c4 hno
      by_cases k1 : kd = 1
      · have HX : Hid (X = nm) := by show _ = _; rw [HX0, if_pos k1]
        have t1 : (kd == 1) = true := by simpa using k1
        clear HX0 k1
        go_wp2_with fail
        go_region_held3 (fun W => W.cell? ⟨w.heap.size, 2, none⟩ = some (.int .i64 lo) ∧ W.cell? ⟨w.heap.size, 3, none⟩ = some (.int .i64 hi) ∧ SE w w.heap.size kd at_ lo hi ⟨nm.toArray⟩ W)
          (first
            | exact HS0.out
            | exact show_step (by assumption) (by assumption))
          (first
            | (go_at_call 71; (with_reducible refine (itoa_lo l0 l1 (by assumption)).mono ?_); rintro e w18 ⟨rfl, hb18⟩)
            | (go_at_call 71; (with_reducible refine (itoa_hi h0 h1 (by assumption)).mono ?_); rintro e w21 ⟨rfl, hb21⟩))
        have hE := show_keep (W := w21) (by assumption)
        have HE := Lib.hid hE
        obtain ⟨d0, d1, d2, d3, d4⟩ := hE.sb.cells
        clear hE d1
        go_wp2_with fail
        go_ret
        exact ⟨by rw [HX.out]; rfl, HE.out.bel⟩
      · have t1 : (kd == 1) = false := by simpa using k1
        by_cases k5 : kd = 5
        · subst k5
          have z0 := itoa_len lo l0 l1
          have z1 := itoa_len hi h0 h1
          by_cases q1 : lo = hi
          · have HX : Hid (X = 123 :: Lib.itoa lo ++ [125]) := by show _ = _; rw [HX0, if_neg k1, if_neg (by simp), if_pos q1]
            have t2 : (lo == hi) = true := by simpa using q1
            clear HX0 k1 q1
            go_wp2_with fail
            go_region_held3 (fun W => W.cell? ⟨w.heap.size, 2, none⟩ = some (.int .i64 lo) ∧ W.cell? ⟨w.heap.size, 3, none⟩ = some (.int .i64 hi) ∧ SE w w.heap.size 5 at_ lo hi ⟨nm.toArray⟩ W)
              (first
                | exact HS0.out
                | exact show_step (by assumption) (by assumption))
              (first
                | (go_at_call 71; (with_reducible refine (itoa_lo l0 l1 (by assumption)).mono ?_); rintro e w18 ⟨rfl, hb18⟩)
                | (go_at_call 71; (with_reducible refine (itoa_hi h0 h1 (by assumption)).mono ?_); rintro e w21 ⟨rfl, hb21⟩))
            have hE := show_keep (W := w21) (by assumption)
            have HE := Lib.hid hE
            obtain ⟨d0, d1, d2, d3, d4⟩ := hE.sb.cells
            clear hE d1
            go_wp2_with fail
            all_goals first | (exfalso; omega) | skip
            go_ret
            exact ⟨by rw [HX.out]; exact text1 lo, HE.out.bel⟩
          · have t2 : (lo == hi) = false := by simpa using q1
            by_cases q2 : hi = -1
            · have HX : Hid (X = 123 :: Lib.itoa lo ++ [44, 125]) := by show _ = _; rw [HX0, if_neg k1, if_neg (by simp), if_neg q1, if_pos q2]
              subst q2
              clear HX0 k1 q1
              go_wp2_with fail
              go_region_held3 (fun W => W.cell? ⟨w.heap.size, 2, none⟩ = some (.int .i64 lo) ∧ W.cell? ⟨w.heap.size, 3, none⟩ = some (.int .i64 (-1)) ∧ SE w w.heap.size 5 at_ lo (-1) ⟨nm.toArray⟩ W)
                (first
                  | exact HS0.out
                  | exact show_step (by assumption) (by assumption))
                (first
                  | (go_at_call 71; (with_reducible refine (itoa_lo l0 l1 (by assumption)).mono ?_); rintro e w18 ⟨rfl, hb18⟩)
                  | (go_at_call 71; (with_reducible refine (itoa_hi h0 h1 (by assumption)).mono ?_); rintro e w21 ⟨rfl, hb21⟩))
              have hE := show_keep (W := w21) (by assumption)
              have HE := Lib.hid hE
              obtain ⟨d0, d1, d2, d3, d4⟩ := hE.sb.cells
              clear hE d1
              go_wp2_with fail
              all_goals first | (exfalso; omega) | skip
              go_ret
              exact ⟨by rw [HX.out]; exact text2 lo, HE.out.bel⟩
            · have HX : Hid (X = 123 :: Lib.itoa lo ++ (44 :: Lib.itoa hi ++ [125])) := by show _ = _; rw [HX0, if_neg k1, if_neg (by simp), if_neg q1, if_neg q2]
              have t3 : (hi == -1) = false := by simpa using q2
              clear HX0 k1 q1 q2
              go_wp2_with fail
              go_region_held3 (fun W => W.cell? ⟨w.heap.size, 2, none⟩ = some (.int .i64 lo) ∧ W.cell? ⟨w.heap.size, 3, none⟩ = some (.int .i64 hi) ∧ SE w w.heap.size 5 at_ lo hi ⟨nm.toArray⟩ W)
                (first
                  | exact HS0.out
                  | exact show_step (by assumption) (by assumption))
                (first
                  | (go_at_call 71; (with_reducible refine (itoa_lo l0 l1 (by assumption)).mono ?_); rintro e w18 ⟨rfl, hb18⟩)
                  | (go_at_call 71; (with_reducible refine (itoa_hi h0 h1 (by assumption)).mono ?_); rintro e w21 ⟨rfl, hb21⟩))
              have hE := show_keep (W := w21) (by assumption)
              have HE := Lib.hid hE
              obtain ⟨d0, d1, d2, d3, d4⟩ := hE.sb.cells
              clear hE d1
              go_wp2_with fail
              all_goals first | (exfalso; omega) | skip
              go_ret
              exact ⟨by rw [HX.out]; exact text3 lo hi, HE.out.bel⟩
        · have HX : Hid (X = []) := by show _ = _; rw [HX0, if_neg k1, if_pos k5]
          have t2 : (kd != 5) = true := by simpa using k5
          clear HX0 k1 k5
          go_wp2_with fail
          go_region_held3 (fun W => W.cell? ⟨w.heap.size, 2, none⟩ = some (.int .i64 lo) ∧ W.cell? ⟨w.heap.size, 3, none⟩ = some (.int .i64 hi) ∧ SE w w.heap.size kd at_ lo hi ⟨nm.toArray⟩ W)
            (first
              | exact HS0.out
              | exact show_step (by assumption) (by assumption))
            (first
              | (go_at_call 71; (with_reducible refine (itoa_lo l0 l1 (by assumption)).mono ?_); rintro e w18 ⟨rfl, hb18⟩)
              | (go_at_call 71; (with_reducible refine (itoa_hi h0 h1 (by assumption)).mono ?_); rintro e w21 ⟨rfl, hb21⟩))
          have hE := show_keep (W := w21) (by assumption)
          have HE := Lib.hid hE
          obtain ⟨d0, d1, d2, d3, d4⟩ := hE.sb.cells
          clear hE d1
          go_wp2_with fail
          go_ret
          exact ⟨by rw [HX.out]; rfl, HE.out.bel⟩
end Go.Proofs.YtegkimcfmdckbabDoor.Lx
