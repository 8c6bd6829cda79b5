/- Walks of bag: Or, And, Not. -/
import Derived.Test.YtlnljgfppipceaaDoorBgB
namespace Go.Proofs.YtlnljgfppipceaaDoor.Bg
open Go.RowKit Mem
set_option linter.unusedVariables false

theorem At.set0 {W : World} {g : Nat} {x : Bag} (h : At W g x) (p : Nat) : At (W.setCell ⟨g, 0, none⟩ (.int .u64 p)) g { x with a := p } := by
  unfold At at h ⊢
  simp [World.setCell, Array.getElem?_modify, h]
theorem At.set1 {W : World} {g : Nat} {x : Bag} (h : At W g x) (p : Nat) : At (W.setCell ⟨g, 1, none⟩ (.int .u64 p)) g { x with b := p } := by
  unfold At at h ⊢
  simp [World.setCell, Array.getElem?_modify, h]
theorem At.set2 {W : World} {g : Nat} {x : Bag} (h : At W g x) (p : Nat) : At (W.setCell ⟨g, 2, none⟩ (.int .u64 p)) g { x with c := p } := by
  unfold At at h ⊢
  simp [World.setCell, Array.getElem?_modify, h]
theorem At.set3 {W : World} {g : Nat} {x : Bag} (h : At W g x) (p : Nat) : At (W.setCell ⟨g, 3, none⟩ (.int .u64 p)) g { x with d := p } := by
  unfold At at h ⊢
  simp [World.setCell, Array.getElem?_modify, h]
theorem ix0 (a b c d : Int) (w : World) : (Instr.index 25 (.agg #[.int .u64 a, .int .u64 b, .int .u64 c, .int .u64 d]) (.int .i64 0)).run Tryd.prog w = .ok (.int .u64 a) w := by kernel_rfl
theorem ix1 (a b c d : Int) (w : World) : (Instr.index 25 (.agg #[.int .u64 a, .int .u64 b, .int .u64 c, .int .u64 d]) (.int .i64 1)).run Tryd.prog w = .ok (.int .u64 b) w := by kernel_rfl
theorem ix2 (a b c d : Int) (w : World) : (Instr.index 25 (.agg #[.int .u64 a, .int .u64 b, .int .u64 c, .int .u64 d]) (.int .i64 2)).run Tryd.prog w = .ok (.int .u64 c) w := by kernel_rfl
theorem ix3 (a b c d : Int) (w : World) : (Instr.index 25 (.agg #[.int .u64 a, .int .u64 b, .int .u64 c, .int .u64 d]) (.int .i64 3)).run Tryd.prog w = .ok (.int .u64 d) w := by kernel_rfl

/-- the first k words done -/
def upto (f : Nat → Nat → Nat) (k : Nat) (x y : Bag) : Bag :=
  ⟨if 0 < k then f x.a y.a else x.a, if 1 < k then f x.b y.b else x.b, if 2 < k then f x.c y.c else x.c, if 3 < k then f x.d y.d else x.d⟩
theorem upto_all (f : Nat → Nat → Nat) (x y : Bag) : upto f 4 x y = x.map2 f y := rfl

set_option maxRecDepth 100000 in
set_option maxHeartbeats 2000000 in
theorem or_any (x y : Bag) (hx : x.ok) (hy : y.ok) (w : World) :
    Calls Tryd.prog 16 #[bagV x, bagV y] w fun e w' => e = .returned (bagV (x.orB y)) ∧ Below w.heap.size w w' := by
  obtain ⟨a, b, c, d⟩ := x
  obtain ⟨a', b', c', d'⟩ := y
  have HX := Lib.hid hx
  have HY := Lib.hid hy
  clear hx hy
  have hw0 := ((At.new w ⟨a, b, c, d⟩).alloc (.cells #[.int .u64 a', .int .u64 b', .int .u64 c', .int .u64 d'] 27)).alloc (.cells #[.int .u64 (0 : Nat), .int .u64 (0 : Nat), .int .u64 (0 : Nat), .int .u64 (0 : Nat)] 27)
  have hv0 := At.new ((w.alloc (.cells #[.int .u64 a, .int .u64 b, .int .u64 c, .int .u64 d] 27)).alloc (.cells #[.int .u64 a', .int .u64 b', .int .u64 c', .int .u64 d'] 27)) nil
  simp only [World.size_alloc] at hv0
  have hb0 := (((Below.refl _ w).alloc (Nat.le_refl _) (.cells #[.int .u64 a, .int .u64 b, .int .u64 c, .int .u64 d] 27)).alloc (by simp) (.cells #[.int .u64 a', .int .u64 b', .int .u64 c', .int .u64 d'] 27)).alloc (by simp; omega) (.cells #[.int .u64 (0 : Nat), .int .u64 (0 : Nat), .int .u64 (0 : Nat), .int .u64 (0 : Nat)] 27)
  have H0 := Lib.hid hw0
  have HV := Lib.hid hv0
  have HB := Lib.hid hb0
  clear hw0 hv0 hb0
  unfold bagV
  go_enter Tryd.func16, Tryd.ntmps16
  go_wp2
  go_loopw [9] (fun i wr => ∃ (k : Nat) (j : Int), k ≤ 4 ∧ j = k ∧ i = .int .i64 j ∧ Below w.heap.size w wr ∧ At wr w.heap.size (upto (fun p q => p ||| q) k ⟨a, b, c, d⟩ ⟨a', b', c', d'⟩) ∧ ∃ z, At wr (w.heap.size + 1 + 1) z) (fun i _ => 4 - (intOf i).toNat)
  case atStart => exact ⟨0, 0, by omega, rfl, rfl, HB.out, H0.out, nil, HV.out⟩
  case round =>
    obtain ⟨k, j, hk, hj, rfl, hb, ha, z, hz⟩ := hrel
    have hzl := hz.lt
    obtain ⟨x1, x2, x3, x4⟩ := HX.out
    obtain ⟨y1, y2, y3, y4⟩ := HY.out
    dsimp only at x1 x2 x3 x4 y1 y2 y3 y4
    have e1 := Lib.hid (u64_or_nat a a' x1 y1)
    have e2 := Lib.hid (u64_or_nat b b' x2 y2)
    have e3 := Lib.hid (u64_or_nat c c' x3 y3)
    have e4 := Lib.hid (u64_or_nat d d' x4 y4)
    clear x1 x2 x3 x4 y1 y2 y3 y4
    rcases (show k = 0 ∨ k = 1 ∨ k = 2 ∨ k = 3 ∨ k = 4 by omega) with rfl | rfl | rfl | rfl | rfl
    · obtain rfl : j = 0 := by omega
      clear hj hk
      rw [show upto (fun p q => p ||| q) 0 ⟨a, b, c, d⟩ ⟨a', b', c', d'⟩ = ⟨a, b, c, d⟩ from rfl] at ha
      obtain ⟨c0, c1, c2, c3, cf⟩ := ha.cell
      have cf0 := cf 0; have cf1 := cf 1; have cf2 := cf 2; have cf3 := cf 3
      dsimp only at c0 c1 c2 c3
      have HA := Lib.hid ha; have HZ := Lib.hid hz; have HB := Lib.hid hb
      clear ha hz hb cf
      have i0 := ix0 a' b' c' d'; have i1 := ix1 a' b' c' d'; have i2 := ix2 a' b' c' d'; have i3 := ix3 a' b' c' d'
      go_wp2
      go_roundw
      case rel =>
        rw [e1.out]
        refine ⟨1, 1, by omega, rfl, rfl, HB.out.setCell (by simp) _, ?_, z, HZ.out.other (by omega) _ _⟩
        exact HA.out.set0 _
      case measure => simp [intOf]
    · obtain rfl : j = 1 := by omega
      clear hj hk
      rw [show upto (fun p q => p ||| q) 1 ⟨a, b, c, d⟩ ⟨a', b', c', d'⟩ = ⟨((fun p q => p ||| q) a a'), b, c, d⟩ from rfl] at ha
      obtain ⟨c0, c1, c2, c3, cf⟩ := ha.cell
      have cf0 := cf 0; have cf1 := cf 1; have cf2 := cf 2; have cf3 := cf 3
      dsimp only at c0 c1 c2 c3
      have HA := Lib.hid ha; have HZ := Lib.hid hz; have HB := Lib.hid hb
      clear ha hz hb cf
      have i0 := ix0 a' b' c' d'; have i1 := ix1 a' b' c' d'; have i2 := ix2 a' b' c' d'; have i3 := ix3 a' b' c' d'
      go_wp2
      go_roundw
      case rel =>
        rw [e2.out]
        refine ⟨2, 2, by omega, rfl, rfl, HB.out.setCell (by simp) _, ?_, z, HZ.out.other (by omega) _ _⟩
        exact HA.out.set1 _
      case measure => simp [intOf]
    · obtain rfl : j = 2 := by omega
      clear hj hk
      rw [show upto (fun p q => p ||| q) 2 ⟨a, b, c, d⟩ ⟨a', b', c', d'⟩ = ⟨((fun p q => p ||| q) a a'), ((fun p q => p ||| q) b b'), c, d⟩ from rfl] at ha
      obtain ⟨c0, c1, c2, c3, cf⟩ := ha.cell
      have cf0 := cf 0; have cf1 := cf 1; have cf2 := cf 2; have cf3 := cf 3
      dsimp only at c0 c1 c2 c3
      have HA := Lib.hid ha; have HZ := Lib.hid hz; have HB := Lib.hid hb
      clear ha hz hb cf
      have i0 := ix0 a' b' c' d'; have i1 := ix1 a' b' c' d'; have i2 := ix2 a' b' c' d'; have i3 := ix3 a' b' c' d'
      go_wp2
      go_roundw
      case rel =>
        rw [e3.out]
        refine ⟨3, 3, by omega, rfl, rfl, HB.out.setCell (by simp) _, ?_, z, HZ.out.other (by omega) _ _⟩
        exact HA.out.set2 _
      case measure => simp [intOf]
    · obtain rfl : j = 3 := by omega
      clear hj hk
      rw [show upto (fun p q => p ||| q) 3 ⟨a, b, c, d⟩ ⟨a', b', c', d'⟩ = ⟨((fun p q => p ||| q) a a'), ((fun p q => p ||| q) b b'), ((fun p q => p ||| q) c c'), d⟩ from rfl] at ha
      obtain ⟨c0, c1, c2, c3, cf⟩ := ha.cell
      have cf0 := cf 0; have cf1 := cf 1; have cf2 := cf 2; have cf3 := cf 3
      dsimp only at c0 c1 c2 c3
      have HA := Lib.hid ha; have HZ := Lib.hid hz; have HB := Lib.hid hb
      clear ha hz hb cf
      have i0 := ix0 a' b' c' d'; have i1 := ix1 a' b' c' d'; have i2 := ix2 a' b' c' d'; have i3 := ix3 a' b' c' d'
      go_wp2
      go_roundw
      case rel =>
        rw [e4.out]
        refine ⟨4, 4, by omega, rfl, rfl, HB.out.setCell (by simp) _, ?_, z, HZ.out.other (by omega) _ _⟩
        exact HA.out.set3 _
      case measure => simp [intOf]
    · obtain rfl : j = 4 := by omega
      clear hj hk
      rw [upto_all] at ha
      obtain ⟨c0, c1, c2, c3, cf⟩ := ha.cell
      obtain ⟨d0, d1, d2, d3, df⟩ := hz.cell
      have df0 := df 0; have df1 := df 1; have df2 := df 2; have df3 := df 3
      dsimp only [Bag.map2] at c0 c1 c2 c3
      have HA := Lib.hid ha; have HZ := Lib.hid hz; have HB := Lib.hid hb
      clear ha hz hb cf df
      go_wp2
      obtain ⟨s0, s1, s2, s3, _⟩ := (HZ.out.store (Bag.map2 (fun p q => p ||| q) ⟨a, b, c, d⟩ ⟨a', b', c', d'⟩)).cell
      dsimp only [Bag.map2] at s0 s1 s2 s3
      refine bodyPost_ret (v := bagV (Bag.map2 (fun p q => p ||| q) ⟨a, b, c, d⟩ ⟨a', b', c', d'⟩)) ?_ rfl ⟨rfl, ?_⟩
      · simp [results, Tryd.results16, go_sem, bagV, Bag.map2, s0, s1, s2, s3]
      · exact ((((HB.out).setCell (by simp; omega) _).setCell (by simp; omega) _).setCell (by simp; omega) _).setCell (by simp; omega) _

set_option maxRecDepth 100000 in
set_option maxHeartbeats 2000000 in
theorem and_any (x y : Bag) (hx : x.ok) (hy : y.ok) (w : World) :
    Calls Tryd.prog 18 #[bagV x, bagV y] w fun e w' => e = .returned (bagV (x.andB y)) ∧ Below w.heap.size w w' := by
  obtain ⟨a, b, c, d⟩ := x
  obtain ⟨a', b', c', d'⟩ := y
  have HX := Lib.hid hx
  have HY := Lib.hid hy
  clear hx hy
  have hw0 := ((At.new w ⟨a, b, c, d⟩).alloc (.cells #[.int .u64 a', .int .u64 b', .int .u64 c', .int .u64 d'] 27)).alloc (.cells #[.int .u64 (0 : Nat), .int .u64 (0 : Nat), .int .u64 (0 : Nat), .int .u64 (0 : Nat)] 27)
  have hv0 := At.new ((w.alloc (.cells #[.int .u64 a, .int .u64 b, .int .u64 c, .int .u64 d] 27)).alloc (.cells #[.int .u64 a', .int .u64 b', .int .u64 c', .int .u64 d'] 27)) nil
  simp only [World.size_alloc] at hv0
  have hb0 := (((Below.refl _ w).alloc (Nat.le_refl _) (.cells #[.int .u64 a, .int .u64 b, .int .u64 c, .int .u64 d] 27)).alloc (by simp) (.cells #[.int .u64 a', .int .u64 b', .int .u64 c', .int .u64 d'] 27)).alloc (by simp; omega) (.cells #[.int .u64 (0 : Nat), .int .u64 (0 : Nat), .int .u64 (0 : Nat), .int .u64 (0 : Nat)] 27)
  have H0 := Lib.hid hw0
  have HV := Lib.hid hv0
  have HB := Lib.hid hb0
  clear hw0 hv0 hb0
  unfold bagV
  go_enter Tryd.func18, Tryd.ntmps18
  go_wp2
  go_loopw [9] (fun i wr => ∃ (k : Nat) (j : Int), k ≤ 4 ∧ j = k ∧ i = .int .i64 j ∧ Below w.heap.size w wr ∧ At wr w.heap.size (upto (fun p q => p &&& q) k ⟨a, b, c, d⟩ ⟨a', b', c', d'⟩) ∧ ∃ z, At wr (w.heap.size + 1 + 1) z) (fun i _ => 4 - (intOf i).toNat)
  case atStart => exact ⟨0, 0, by omega, rfl, rfl, HB.out, H0.out, nil, HV.out⟩
  case round =>
    obtain ⟨k, j, hk, hj, rfl, hb, ha, z, hz⟩ := hrel
    have hzl := hz.lt
    obtain ⟨x1, x2, x3, x4⟩ := HX.out
    obtain ⟨y1, y2, y3, y4⟩ := HY.out
    dsimp only at x1 x2 x3 x4 y1 y2 y3 y4
    have e1 := Lib.hid (u64_and_nat a a' x1 y1)
    have e2 := Lib.hid (u64_and_nat b b' x2 y2)
    have e3 := Lib.hid (u64_and_nat c c' x3 y3)
    have e4 := Lib.hid (u64_and_nat d d' x4 y4)
    clear x1 x2 x3 x4 y1 y2 y3 y4
    rcases (show k = 0 ∨ k = 1 ∨ k = 2 ∨ k = 3 ∨ k = 4 by omega) with rfl | rfl | rfl | rfl | rfl
    · obtain rfl : j = 0 := by omega
      clear hj hk
      rw [show upto (fun p q => p &&& q) 0 ⟨a, b, c, d⟩ ⟨a', b', c', d'⟩ = ⟨a, b, c, d⟩ from rfl] at ha
      obtain ⟨c0, c1, c2, c3, cf⟩ := ha.cell
      have cf0 := cf 0; have cf1 := cf 1; have cf2 := cf 2; have cf3 := cf 3
      dsimp only at c0 c1 c2 c3
      have HA := Lib.hid ha; have HZ := Lib.hid hz; have HB := Lib.hid hb
      clear ha hz hb cf
      have i0 := ix0 a' b' c' d'; have i1 := ix1 a' b' c' d'; have i2 := ix2 a' b' c' d'; have i3 := ix3 a' b' c' d'
      go_wp2
      go_roundw
      case rel =>
        rw [e1.out]
        refine ⟨1, 1, by omega, rfl, rfl, HB.out.setCell (by simp) _, ?_, z, HZ.out.other (by omega) _ _⟩
        exact HA.out.set0 _
      case measure => simp [intOf]
    · obtain rfl : j = 1 := by omega
      clear hj hk
      rw [show upto (fun p q => p &&& q) 1 ⟨a, b, c, d⟩ ⟨a', b', c', d'⟩ = ⟨((fun p q => p &&& q) a a'), b, c, d⟩ from rfl] at ha
      obtain ⟨c0, c1, c2, c3, cf⟩ := ha.cell
      have cf0 := cf 0; have cf1 := cf 1; have cf2 := cf 2; have cf3 := cf 3
      dsimp only at c0 c1 c2 c3
      have HA := Lib.hid ha; have HZ := Lib.hid hz; have HB := Lib.hid hb
      clear ha hz hb cf
      have i0 := ix0 a' b' c' d'; have i1 := ix1 a' b' c' d'; have i2 := ix2 a' b' c' d'; have i3 := ix3 a' b' c' d'
      go_wp2
      go_roundw
      case rel =>
        rw [e2.out]
        refine ⟨2, 2, by omega, rfl, rfl, HB.out.setCell (by simp) _, ?_, z, HZ.out.other (by omega) _ _⟩
        exact HA.out.set1 _
      case measure => simp [intOf]
    · obtain rfl : j = 2 := by omega
      clear hj hk
      rw [show upto (fun p q => p &&& q) 2 ⟨a, b, c, d⟩ ⟨a', b', c', d'⟩ = ⟨((fun p q => p &&& q) a a'), ((fun p q => p &&& q) b b'), c, d⟩ from rfl] at ha
      obtain ⟨c0, c1, c2, c3, cf⟩ := ha.cell
      have cf0 := cf 0; have cf1 := cf 1; have cf2 := cf 2; have cf3 := cf 3
      dsimp only at c0 c1 c2 c3
      have HA := Lib.hid ha; have HZ := Lib.hid hz; have HB := Lib.hid hb
      clear ha hz hb cf
      have i0 := ix0 a' b' c' d'; have i1 := ix1 a' b' c' d'; have i2 := ix2 a' b' c' d'; have i3 := ix3 a' b' c' d'
      go_wp2
      go_roundw
      case rel =>
        rw [e3.out]
        refine ⟨3, 3, by omega, rfl, rfl, HB.out.setCell (by simp) _, ?_, z, HZ.out.other (by omega) _ _⟩
        exact HA.out.set2 _
      case measure => simp [intOf]
    · obtain rfl : j = 3 := by omega
      clear hj hk
      rw [show upto (fun p q => p &&& q) 3 ⟨a, b, c, d⟩ ⟨a', b', c', d'⟩ = ⟨((fun p q => p &&& q) a a'), ((fun p q => p &&& q) b b'), ((fun p q => p &&& q) c c'), d⟩ from rfl] at ha
      obtain ⟨c0, c1, c2, c3, cf⟩ := ha.cell
      have cf0 := cf 0; have cf1 := cf 1; have cf2 := cf 2; have cf3 := cf 3
      dsimp only at c0 c1 c2 c3
      have HA := Lib.hid ha; have HZ := Lib.hid hz; have HB := Lib.hid hb
      clear ha hz hb cf
      have i0 := ix0 a' b' c' d'; have i1 := ix1 a' b' c' d'; have i2 := ix2 a' b' c' d'; have i3 := ix3 a' b' c' d'
      go_wp2
      go_roundw
      case rel =>
        rw [e4.out]
        refine ⟨4, 4, by omega, rfl, rfl, HB.out.setCell (by simp) _, ?_, z, HZ.out.other (by omega) _ _⟩
        exact HA.out.set3 _
      case measure => simp [intOf]
    · obtain rfl : j = 4 := by omega
      clear hj hk
      rw [upto_all] at ha
      obtain ⟨c0, c1, c2, c3, cf⟩ := ha.cell
      obtain ⟨d0, d1, d2, d3, df⟩ := hz.cell
      have df0 := df 0; have df1 := df 1; have df2 := df 2; have df3 := df 3
      dsimp only [Bag.map2] at c0 c1 c2 c3
      have HA := Lib.hid ha; have HZ := Lib.hid hz; have HB := Lib.hid hb
      clear ha hz hb cf df
      go_wp2
      obtain ⟨s0, s1, s2, s3, _⟩ := (HZ.out.store (Bag.map2 (fun p q => p &&& q) ⟨a, b, c, d⟩ ⟨a', b', c', d'⟩)).cell
      dsimp only [Bag.map2] at s0 s1 s2 s3
      refine bodyPost_ret (v := bagV (Bag.map2 (fun p q => p &&& q) ⟨a, b, c, d⟩ ⟨a', b', c', d'⟩)) ?_ rfl ⟨rfl, ?_⟩
      · simp [results, Tryd.results18, go_sem, bagV, Bag.map2, s0, s1, s2, s3]
      · exact ((((HB.out).setCell (by simp; omega) _).setCell (by simp; omega) _).setCell (by simp; omega) _).setCell (by simp; omega) _

set_option maxRecDepth 100000 in
set_option maxHeartbeats 2000000 in
theorem not_any (x y : Bag) (hx : x.ok) (hy : y.ok) (w : World) :
    Calls Tryd.prog 19 #[bagV x, bagV y] w fun e w' => e = .returned (bagV (x.notB y)) ∧ Below w.heap.size w w' := by
  obtain ⟨a, b, c, d⟩ := x
  obtain ⟨a', b', c', d'⟩ := y
  have HX := Lib.hid hx
  have HY := Lib.hid hy
  clear hx hy
  have hw0 := ((At.new w ⟨a, b, c, d⟩).alloc (.cells #[.int .u64 a', .int .u64 b', .int .u64 c', .int .u64 d'] 27)).alloc (.cells #[.int .u64 (0 : Nat), .int .u64 (0 : Nat), .int .u64 (0 : Nat), .int .u64 (0 : Nat)] 27)
  have hv0 := At.new ((w.alloc (.cells #[.int .u64 a, .int .u64 b, .int .u64 c, .int .u64 d] 27)).alloc (.cells #[.int .u64 a', .int .u64 b', .int .u64 c', .int .u64 d'] 27)) nil
  simp only [World.size_alloc] at hv0
  have hb0 := (((Below.refl _ w).alloc (Nat.le_refl _) (.cells #[.int .u64 a, .int .u64 b, .int .u64 c, .int .u64 d] 27)).alloc (by simp) (.cells #[.int .u64 a', .int .u64 b', .int .u64 c', .int .u64 d'] 27)).alloc (by simp; omega) (.cells #[.int .u64 (0 : Nat), .int .u64 (0 : Nat), .int .u64 (0 : Nat), .int .u64 (0 : Nat)] 27)
  have H0 := Lib.hid hw0
  have HV := Lib.hid hv0
  have HB := Lib.hid hb0
  clear hw0 hv0 hb0
  unfold bagV
  go_enter Tryd.func19, Tryd.ntmps19
  go_wp2
  go_loopw [9] (fun i wr => ∃ (k : Nat) (j : Int), k ≤ 4 ∧ j = k ∧ i = .int .i64 j ∧ Below w.heap.size w wr ∧ At wr w.heap.size (upto (fun p q => p &&& (18446744073709551615 - q)) k ⟨a, b, c, d⟩ ⟨a', b', c', d'⟩) ∧ ∃ z, At wr (w.heap.size + 1 + 1) z) (fun i _ => 4 - (intOf i).toNat)
  case atStart => exact ⟨0, 0, by omega, rfl, rfl, HB.out, H0.out, nil, HV.out⟩
  case round =>
    obtain ⟨k, j, hk, hj, rfl, hb, ha, z, hz⟩ := hrel
    have hzl := hz.lt
    obtain ⟨x1, x2, x3, x4⟩ := HX.out
    obtain ⟨y1, y2, y3, y4⟩ := HY.out
    dsimp only at x1 x2 x3 x4 y1 y2 y3 y4
    have e1 := Lib.hid (u64_andNot_nat a a' x1 y1)
    have e2 := Lib.hid (u64_andNot_nat b b' x2 y2)
    have e3 := Lib.hid (u64_andNot_nat c c' x3 y3)
    have e4 := Lib.hid (u64_andNot_nat d d' x4 y4)
    clear x1 x2 x3 x4 y1 y2 y3 y4
    rcases (show k = 0 ∨ k = 1 ∨ k = 2 ∨ k = 3 ∨ k = 4 by omega) with rfl | rfl | rfl | rfl | rfl
    · obtain rfl : j = 0 := by omega
      clear hj hk
      rw [show upto (fun p q => p &&& (18446744073709551615 - q)) 0 ⟨a, b, c, d⟩ ⟨a', b', c', d'⟩ = ⟨a, b, c, d⟩ from rfl] at ha
      obtain ⟨c0, c1, c2, c3, cf⟩ := ha.cell
      have cf0 := cf 0; have cf1 := cf 1; have cf2 := cf 2; have cf3 := cf 3
      dsimp only at c0 c1 c2 c3
      have HA := Lib.hid ha; have HZ := Lib.hid hz; have HB := Lib.hid hb
      clear ha hz hb cf
      have i0 := ix0 a' b' c' d'; have i1 := ix1 a' b' c' d'; have i2 := ix2 a' b' c' d'; have i3 := ix3 a' b' c' d'
      go_wp2
      go_roundw
      case rel =>
        rw [e1.out]
        refine ⟨1, 1, by omega, rfl, rfl, HB.out.setCell (by simp) _, ?_, z, HZ.out.other (by omega) _ _⟩
        exact HA.out.set0 _
      case measure => simp [intOf]
    · obtain rfl : j = 1 := by omega
      clear hj hk
      rw [show upto (fun p q => p &&& (18446744073709551615 - q)) 1 ⟨a, b, c, d⟩ ⟨a', b', c', d'⟩ = ⟨((fun p q => p &&& (18446744073709551615 - q)) a a'), b, c, d⟩ from rfl] at ha
      obtain ⟨c0, c1, c2, c3, cf⟩ := ha.cell
      have cf0 := cf 0; have cf1 := cf 1; have cf2 := cf 2; have cf3 := cf 3
      dsimp only at c0 c1 c2 c3
      have HA := Lib.hid ha; have HZ := Lib.hid hz; have HB := Lib.hid hb
      clear ha hz hb cf
      have i0 := ix0 a' b' c' d'; have i1 := ix1 a' b' c' d'; have i2 := ix2 a' b' c' d'; have i3 := ix3 a' b' c' d'
      go_wp2
      go_roundw
      case rel =>
        rw [e2.out]
        refine ⟨2, 2, by omega, rfl, rfl, HB.out.setCell (by simp) _, ?_, z, HZ.out.other (by omega) _ _⟩
        exact HA.out.set1 _
      case measure => simp [intOf]
    · obtain rfl : j = 2 := by omega
      clear hj hk
      rw [show upto (fun p q => p &&& (18446744073709551615 - q)) 2 ⟨a, b, c, d⟩ ⟨a', b', c', d'⟩ = ⟨((fun p q => p &&& (18446744073709551615 - q)) a a'), ((fun p q => p &&& (18446744073709551615 - q)) b b'), c, d⟩ from rfl] at ha
      obtain ⟨c0, c1, c2, c3, cf⟩ := ha.cell
      have cf0 := cf 0; have cf1 := cf 1; have cf2 := cf 2; have cf3 := cf 3
      dsimp only at c0 c1 c2 c3
      have HA := Lib.hid ha; have HZ := Lib.hid hz; have HB := Lib.hid hb
      clear ha hz hb cf
      have i0 := ix0 a' b' c' d'; have i1 := ix1 a' b' c' d'; have i2 := ix2 a' b' c' d'; have i3 := ix3 a' b' c' d'
      go_wp2
      go_roundw
      case rel =>
        rw [e3.out]
        refine ⟨3, 3, by omega, rfl, rfl, HB.out.setCell (by simp) _, ?_, z, HZ.out.other (by omega) _ _⟩
        exact HA.out.set2 _
      case measure => simp [intOf]
    · obtain rfl : j = 3 := by omega
      clear hj hk
      rw [show upto (fun p q => p &&& (18446744073709551615 - q)) 3 ⟨a, b, c, d⟩ ⟨a', b', c', d'⟩ = ⟨((fun p q => p &&& (18446744073709551615 - q)) a a'), ((fun p q => p &&& (18446744073709551615 - q)) b b'), ((fun p q => p &&& (18446744073709551615 - q)) c c'), d⟩ from rfl] at ha
      obtain ⟨c0, c1, c2, c3, cf⟩ := ha.cell
      have cf0 := cf 0; have cf1 := cf 1; have cf2 := cf 2; have cf3 := cf 3
      dsimp only at c0 c1 c2 c3
      have HA := Lib.hid ha; have HZ := Lib.hid hz; have HB := Lib.hid hb
      clear ha hz hb cf
      have i0 := ix0 a' b' c' d'; have i1 := ix1 a' b' c' d'; have i2 := ix2 a' b' c' d'; have i3 := ix3 a' b' c' d'
      go_wp2
      go_roundw
      case rel =>
        rw [e4.out]
        refine ⟨4, 4, by omega, rfl, rfl, HB.out.setCell (by simp) _, ?_, z, HZ.out.other (by omega) _ _⟩
        exact HA.out.set3 _
      case measure => simp [intOf]
    · obtain rfl : j = 4 := by omega
      clear hj hk
      rw [upto_all] at ha
      obtain ⟨c0, c1, c2, c3, cf⟩ := ha.cell
      obtain ⟨d0, d1, d2, d3, df⟩ := hz.cell
      have df0 := df 0; have df1 := df 1; have df2 := df 2; have df3 := df 3
      dsimp only [Bag.map2] at c0 c1 c2 c3
      have HA := Lib.hid ha; have HZ := Lib.hid hz; have HB := Lib.hid hb
      clear ha hz hb cf df
      go_wp2
      obtain ⟨s0, s1, s2, s3, _⟩ := (HZ.out.store (Bag.map2 (fun p q => p &&& (18446744073709551615 - q)) ⟨a, b, c, d⟩ ⟨a', b', c', d'⟩)).cell
      dsimp only [Bag.map2] at s0 s1 s2 s3
      refine bodyPost_ret (v := bagV (Bag.map2 (fun p q => p &&& (18446744073709551615 - q)) ⟨a, b, c, d⟩ ⟨a', b', c', d'⟩)) ?_ rfl ⟨rfl, ?_⟩
      · simp [results, Tryd.results19, go_sem, bagV, Bag.map2, s0, s1, s2, s3]
      · exact ((((HB.out).setCell (by simp; omega) _).setCell (by simp; omega) _).setCell (by simp; omega) _).setCell (by simp; omega) _
end Go.Proofs.YtlnljgfppipceaaDoor.Bg
