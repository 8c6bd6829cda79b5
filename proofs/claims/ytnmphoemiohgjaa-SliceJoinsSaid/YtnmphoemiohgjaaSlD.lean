/- Walks: slices.Grow of nil, slices.Concat of two rows of tokens. -/
import Derived.Test.YtnmphoemiohgjaaSlC
import Derived.Lib.Walk
import Derived.Lib.SliceRun
import Derived.Lib.AppendZerosOnto
namespace Go.Proofs.Ytnmphoemiohgjaa.Sl
open Go.RowKit Mem Tk
set_option linter.unusedVariables false

/-- a row of the call's own is answered -/
def TksIs (w : World) (l : List Tk) (e : Ending) (w' : World) : Prop := ∃ v, e = .returned v ∧ Tks w.heap.size w' v l ∧ Below w.heap.size w w'
theorem tks_zeros (w : World) (n G : Nat) (hg : n ≤ G) (hm : G ≤ maxLen) :
    Tks w.heap.size (w.alloc (.cells (#[] ++ Builtin.zeroCells (tokV zeroTk).cells n ++ Builtin.zeroCells (tokV zeroTk).cells (G - n)) 35)) (.slice (some ⟨w.heap.size, 0, none⟩) 0 G) [] := by
  have hz : (tokV zeroTk).cells.size = 12 := rfl
  refine ⟨rfl, .inr ⟨w.heap.size, G, _, rfl, Nat.le_refl _, heap_alloc_new w _, Nat.zero_le _, hm, ?_, by simp [cells12]⟩⟩
  simp only [Array.size_append, size_zeroCells, hz, Array.size_empty]
  omega
set_option maxHeartbeats 1000000 in
theorem grow_any (n : Nat) (w : World) (hn : n ≤ 1000000) :
    Calls Try.prog 16 #[.slice none 0 0, .int .i64 n] w (TksIs w []) := by
  rcases Nat.eq_zero_or_pos n with h0 | h0
  · subst h0
    go_enter Try.func16, Try.ntmps16
    go_wp2
    go_ret
    exact ⟨_, rfl, Tks.nil, Below.refl _ _⟩
  · obtain ⟨i, hi, hiz, his, hib⟩ := info_parts tzero
    have hold : (Builtin.firstCells i.size 0 (.slice none 0 0)).run Try.prog w.drew = .ok ([] : List Value).toArray w.drew := run_firstCells_none w.drew i.size 0 0 0
    have hrz : ∀ ty, (Builtin.append_ #[22, 3] ty #[.slice none 0 0, .int .i64 n]).run Try.prog w =
        .ok (.slice (some ⟨w.heap.size, 0, none⟩) n (grownCap w n 0 35)) (w.drew.alloc (.cells (#[] ++ Builtin.zeroCells (tokV zeroTk).cells n ++ Builtin.zeroCells (tokV zeroTk).cells (grownCap w n 0 35 - n)) 35)) := fun ty => by
      have h := Lib.run_append_grow_zeros w 22 3 ty 35 i (tokV zeroTk) .i64 .i64 Try.underlying22 Try.underlying3 hi hiz none 0 0 [] hold n h0 (by omega) (by omega) (by omega) (by rw [hib]; omega)
        (growslice_fits (by omega) (by rw [hib]; omega))
      rw [Nat.zero_add] at h
      exact h
    have hge := grownCap_ge w n 0 35
    have hle := grownCap_le_maxLen w n 0 35 (by unfold maxLen; omega)
    generalize grownCap w n 0 35 = G at hrz hge hle
    have hle' : G ≤ 9223372036854775807 := by unfold maxLen at hle; omega
    have T0 := tks_zeros w n G hge hle
    obtain ⟨C, hC⟩ : ∃ C, C = #[] ++ Builtin.zeroCells (tokV zeroTk).cells n ++ Builtin.zeroCells (tokV zeroTk).cells (G - n) := ⟨_, rfl⟩
    rw [← hC] at T0 hrz
    have T := Lib.hid T0
    have hn0 : ((n : Int) > 0) := by omega
    clear hold hle hC T0
    go_enter Try.func16, Try.ntmps16
    go_wp2_with (at_builtin; refine Lib.wpList_append_run _ rfl _ _ _ _ rfl _ _ rfl rfl _ _ (hrz _) ?_)
    go_ret
    exact ⟨_, rfl, T.out.drew, below_drewN ((Below.refl _ _).alloc (Nat.le_refl _) _) 1⟩

theorem tks_of_grown {b : Nat} {w w1 w2 : World} {v : Value} {l : List Tk} (hb : Below b w w1) (ho : Tks b w1 v l) (hg : w1.grownBy w2 v.ownBlock) (hs : b ≤ w1.heap.size) : Below b w w2 :=
  below_of_grown hb hg hs (fun i hi => (ho.block i hi).1)
def Ln1 (n m : Nat) (j t : Int) : Prop := (j = 0 ∧ t = 0) ∨ (j = 1 ∧ t = n) ∨ (j = 2 ∧ t = n + m)
def Ln2 (x y : List Tk) (j : Int) (r : List Tk) : Prop := (j = 0 ∧ r = []) ∨ (j = 1 ∧ r = x) ∨ (j = 2 ∧ r = x ++ y)
set_option maxHeartbeats 2000000 in
theorem concat_any (x y : List Tk) (A B : Option Addr) (n m c c' g cap : Nat) (w : World) (h0 : w.cell? ⟨g, 0, none⟩ = some (.slice A n c)) (h1 : w.cell? ⟨g, 1, none⟩ = some (.slice B m c')) (hgl : g < w.heap.size)
    (hx : TRow w A n x) (hy : TRow w B m y) (hn : n ≤ 100000) (hm : m ≤ 100000) :
    Calls Try.prog 12 #[.slice (some ⟨g, 0, none⟩) 2 cap] w (TksIs w (x ++ y)) := by
  have HX := Lib.hid hx
  have HY := Lib.hid hy
  have LX := Lib.hid hx.1
  have LY := Lib.hid hy.1
  clear hx hy
  go_enter Try.func12, Try.ntmps12
  go_wp2
  go_loop [3, 11] (fun s j => ∃ (k t : Int), j = .int .i64 k ∧ s = .int .i64 t ∧ Hid (Ln1 n m k t)) (fun _ j => 2 - (intOf j).toNat)
  case atStart => exact ⟨0, 0, rfl, rfl, Lib.hid (.inl ⟨rfl, rfl⟩)⟩
  case round =>
    obtain ⟨k, t, rfl, rfl, HK⟩ := hrel
    rcases HK.out with ⟨rfl, rfl⟩ | ⟨rfl, rfl⟩ | ⟨rfl, rfl⟩
    · clear HK
      go_wp2
      go_round
      case rel => exact ⟨1, n, rfl, by go_num, Lib.hid (.inr (.inl ⟨rfl, rfl⟩))⟩
      case measure => simp [intOf]
    · clear HK
      go_wp2
      go_round
      case rel => exact ⟨2, n + m, rfl, by go_num, Lib.hid (.inr (.inr ⟨rfl, rfl⟩))⟩
      case measure => simp [intOf]
    · clear HK
      have CG := grow_any (n + m) w (by omega)
      have CG' : Calls Try.prog 16 #[.slice none 0 0, .int .i64 ((n : Int) + m)] w (TksIs w []) := by
        rw [show ((n + m : Nat) : Int) = (n : Int) + m by omega] at CG; exact CG
      clear CG
      go_wp2_with fail
      refine CG'.mono ?_
      rintro e w1 ⟨v0, rfl, ho0, hb0⟩
      clear CG'
      obtain ⟨A0, c0, hv0⟩ := ho0.form
      subst hv0
      have HO := Lib.hid ho0
      have HB := Lib.hid hb0
      have e0 := (hb0.cell (p := ⟨g, 0, none⟩) hgl).trans h0
      clear ho0 hb0
      go_wp2
      go_loopw [6, 27] (fun v j wr => ∃ (k : Int) (r : List Tk), j = .int .i64 k ∧ Hid (Ln2 x y k r) ∧ Hid (Tks w.heap.size wr v r) ∧ Hid (Below w.heap.size w wr)) (fun _ j _ => 2 - (intOf j).toNat)
      case atStart => exact ⟨0, [], rfl, Lib.hid (.inl ⟨rfl, rfl⟩), HO, HB⟩
      case round =>
        clear HO HB e0
        obtain ⟨k, r, rfl, HK, HO, HB⟩ := hrel
        obtain ⟨A1, c1, hv1⟩ := HO.out.form
        subst hv1
        have e0 := (HB.out.cell (p := ⟨g, 0, none⟩) hgl).trans h0
        have e1 := (HB.out.cell (p := ⟨g, 1, none⟩) hgl).trans h1
        have HS := Lib.hid HB.out.size
        have hs : w.heap.size ≤ wr.heap.size := HB.out.size
        have HX1 := Lib.hid (HX.out.below HB.out)
        have HY1 := Lib.hid (HY.out.below HB.out)
        rcases HK.out with ⟨rfl, rfl⟩ | ⟨rfl, rfl⟩ | ⟨rfl, rfl⟩
        · clear HK
          go_wp2_with (at_builtin; (refine wpList_app_tk rfl (.tmp 31) (.tmp 32) rfl w.heap.size _ [] rfl HO.out A n c x rfl HX1.out (by simp; omega) hs ?_); intro v' w2 hown' hg hat)
          have N1 := Lib.hid hown'
          have N2 := Lib.hid (tks_of_grown HB.out HO.out hg hs)
          rw [List.nil_append] at N1
          clear hown' hg hat
          go_wp2
          go_roundw
          case rel => exact ⟨1, x, rfl, Lib.hid (.inr (.inl ⟨rfl, rfl⟩)), N1, N2⟩
          case measure => simp [intOf]
        · clear HK
          go_wp2_with (at_builtin; (refine wpList_app_tk rfl (.tmp 31) (.tmp 32) rfl w.heap.size _ r rfl HO.out B m c' y rfl HY1.out (by rw [LX.out]; omega) hs ?_); intro v' w2 hown' hg hat)
          have N1 := Lib.hid hown'
          have N2 := Lib.hid (tks_of_grown HB.out HO.out hg hs)
          clear hown' hg hat
          go_wp2
          go_roundw
          case rel => exact ⟨2, r ++ y, rfl, Lib.hid (.inr (.inr ⟨rfl, rfl⟩)), N1, N2⟩
          case measure => simp [intOf]
        · clear HK
          go_wp2
          go_ret
          exact ⟨_, rfl, HO.out, HB.out⟩
end Go.Proofs.Ytnmphoemiohgjaa.Sl
