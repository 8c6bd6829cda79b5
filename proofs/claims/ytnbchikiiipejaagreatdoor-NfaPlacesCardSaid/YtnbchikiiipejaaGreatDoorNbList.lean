/- Walks of bag: fits, Has. -/
import Derived.Test.YtnbchikiiipejaaGreatDoorProg
import Derived.WalkKit
import Derived.ProofKit
import Derived.RegionTactic
import Derived.BigRegion
import Derived.BigQuiet
import Derived.Deep.QuietTactic
import Derived.Outline
import Derived.Lib.Hide
import Derived.Below
import Derived.Test.YtnbchikiiipejaaGreatDoorNfRef
import Derived.Test.YtnbchikiiipejaaGreatDoorStr
import Derived.LoopTactic
import Derived.ChangeKeysEq
import Derived.Laws.Bits128
import Derived.Shelf.Spec.TrailingZeros
import Derived.RangeFuncBox
import Derived.RangeFuncNested
import Derived.RangeFuncBound
import Derived.RangeFuncCalls
import Derived.RangeFuncLeaves
import Derived.Shelf.Abstract
import Derived.OwnWalkIn
import Derived.TacticsInMore
import Derived.LoopNIn
import Derived.LoopIn
import Derived.Maps.AppendAt
set_option linter.unusedVariables false
set_option maxRecDepth 100000
set_option maxHeartbeats 2000000
namespace Go.Proofs.YtnbchikiiipejaaGreatDoor.Bg
open Go.RowKit
theorem ret_bool {a b : Bool} (h : a = b) : Ending.returned (.bool a) = .returned (.bool b) := by rw [h]
theorem ret_int {k : IntKind} {a b : Int} (h : a = b) : Ending.returned (.int k a) = .returned (.int k b) := by rw [h]
def bagV (x : Bag) : Value := .agg #[.int .u64 x.a, .int .u64 x.b, .int .u64 x.c, .int .u64 x.d]
theorem fits_any (n : Int) (w : World) : Calls Tryz.prog 75 #[.int .i64 n] w fun e w' => e = .returned (.bool (inB n)) ∧ w = w' := by
 by_cases h0 : 0 ≤ n
 ·have : ¬ n < 0 := by omega
  by_cases h1 : n < 256
  ·go_enter Tryz.func75, Tryz.ntmps75
   go_wp2
   go_ret
   exact ⟨by simp [inB, h0, h1], rfl⟩
  ·go_enter Tryz.func75, Tryz.ntmps75
   go_wp2
   go_ret
   exact ⟨by simp [inB, h0, h1], rfl⟩
 ·go_enter Tryz.func75, Tryz.ntmps75
  go_wp2
  go_ret
  exact ⟨by simp [inB]; omega, rfl⟩
theorem or_at (a r : Nat) (h : a < 18446744073709551616) (hr : r < 64) : bits .or .u64 (a : Int) (IntKind.u64.wrap (2 ^ r)) = ((setW a r : Nat) : Int) := by
 have hp : (2 : Nat) ^ r < 18446744073709551616 := Nat.lt_of_lt_of_le (Nat.pow_lt_pow_right (by decide) hr) (show (2 : Nat) ^ 64 ≤ _ by decide)
 have e : IntKind.u64.wrap (2 ^ r) = ((2 ^ r : Nat) : Int) := by
  rw [IntKind.wrap_u64]
  have : ((2 ^ r : Nat) : Int) = (2 : Int) ^ r := by simp
  rw [← this]
  generalize 2 ^ r = p at hp ⊢
  omega
 rw [e, u64_or_nat _ _ h hp]
 rfl
theorem with_in (x : Bag) (hx : x.ok) (n : Nat) (h : n < 256) (w : World) : Calls Tryz.prog 27 #[bagV x, .int .i64 n] w fun e w' => e = .returned (bagV (x.withN n)) ∧ Below w.heap.size w w' := by
 have hf : inB n = true := inB_true.2 (by omega)
 have HF := Lib.hid hf
 clear hf
 obtain ⟨a, b, c, d⟩ := x
 have HX := Lib.hid hx
 clear hx
 have hm0 : 0 ≤ (n : Int) % 64 := by omega
 have hm1 : (n : Int) % 64 ≤ 64 := by omega
 have HM : Hid (n % 64 < 64) := by show _ < _; omega
 unfold bagV
 dsimp only
 rcases (show n / 64 = 0 ∨ n / 64 = 1 ∨ n / 64 = 2 ∨ n / 64 = 3 by omega) with e | e | e | e
 all_goals
  have E := Lib.hid e
  first
   | have hq : (n : Int) / 64 = 0 := by omega
   | have hq : (n : Int) / 64 = 1 := by omega
   | have hq : (n : Int) / 64 = 2 := by omega
   | have hq : (n : Int) / 64 = 3 := by omega
  clear e
  go_enter Tryz.func27, Tryz.ntmps27
  go_wp2_with (go_at_call 75; refine (fits_any _ _).mono ?_; rw [HF.out]; rintro e w' ⟨rfl, rfl⟩)
  go_region
  all_goals
   go_wp2
   obtain ⟨h1, h2, h3, h4⟩ := HX.out
   dsimp only at h1 h2 h3 h4
   first
    | exact bodyPost_ret (v := .agg #[.int .u64 (bits .or .u64 (a : Int) (IntKind.u64.wrap (2 ^ (n % 64)))), .int .u64 b, .int .u64 c, .int .u64 d]) (by simp [results, Tryz.results27, go_sem]) rfl ⟨by simp only [Bag.withN, E.out, or_at a _ h1 HM.out]; rfl, (((Below.refl _ w).alloc (Nat.le_refl _) _).alloc (by simp) _).drew⟩
    | exact bodyPost_ret (v := .agg #[.int .u64 a, .int .u64 (bits .or .u64 (b : Int) (IntKind.u64.wrap (2 ^ (n % 64)))), .int .u64 c, .int .u64 d]) (by simp [results, Tryz.results27, go_sem]) rfl ⟨by simp only [Bag.withN, E.out, or_at b _ h2 HM.out]; rfl, (((Below.refl _ w).alloc (Nat.le_refl _) _).alloc (by simp) _).drew⟩
    | exact bodyPost_ret (v := .agg #[.int .u64 a, .int .u64 b, .int .u64 (bits .or .u64 (c : Int) (IntKind.u64.wrap (2 ^ (n % 64)))), .int .u64 d]) (by simp [results, Tryz.results27, go_sem]) rfl ⟨by simp only [Bag.withN, E.out, or_at c _ h3 HM.out]; rfl, (((Below.refl _ w).alloc (Nat.le_refl _) _).alloc (by simp) _).drew⟩
    | exact bodyPost_ret (v := .agg #[.int .u64 a, .int .u64 b, .int .u64 c, .int .u64 (bits .or .u64 (d : Int) (IntKind.u64.wrap (2 ^ (n % 64))))]) (by simp [results, Tryz.results27, go_sem]) rfl ⟨by simp only [Bag.withN, E.out, or_at d _ h4 HM.out]; rfl, (((Below.refl _ w).alloc (Nat.le_refl _) _).alloc (by simp) _).drew⟩
theorem with_any (x : Bag) (hx : x.ok) (n : Int) (w : World) : Calls Tryz.prog 27 #[bagV x, .int .i64 n] w fun e w' => e = .returned (bagV (x.withI n)) ∧ Below w.heap.size w w' := by
 by_cases h : inB n = true
 ·obtain ⟨h0, h1⟩ := inB_true.1 h
  obtain ⟨k, rfl⟩ := Int.eq_ofNat_of_zero_le h0
  rw [show x.withI (k : Int) = x.withN k from by simp [Bag.withI, h]]
  exact with_in x hx k (by omega) w
 ·have hf : inB n = false := by simpa using h
  have HF := Lib.hid hf
  rw [show x.withI n = x from by simp [Bag.withI, hf]]
  clear hf h hx
  unfold bagV
  go_enter Tryz.func27, Tryz.ntmps27
  go_wp2_with (go_at_call 75; refine (fits_any _ _).mono ?_; rw [HF.out]; rintro e w' ⟨rfl, rfl⟩)
  exact bodyPost_ret (v := .agg #[.int .u64 x.a, .int .u64 x.b, .int .u64 x.c, .int .u64 x.d]) (by simp [results, Tryz.results27, go_sem]) rfl ⟨rfl, ((Below.refl _ w).alloc (Nat.le_refl _) _).alloc (by simp) _⟩
end Go.Proofs.YtnbchikiiipejaaGreatDoor.Bg
namespace Go.Proofs.YtnbchikiiipejaaGreatDoor.Bg
open Go.RowKit Mem
def At (W : World) (g : Nat) (x : Bag) : Prop := W.heap[g]? = some (.cells #[.int .u64 x.a, .int .u64 x.b, .int .u64 x.c, .int .u64 x.d] 29 (0, 0))
theorem At.lt {W : World} {g : Nat} {x : Bag} (h : At W g x) : g < W.heap.size := (Array.getElem?_eq_some_iff.1 h).1
theorem At.below {W W' : World} {g n : Nat} {x : Bag} (h : At W g x) (hb : Below n W W') (hg : g < n) : At W' g x := by
 unfold At; rw [hb.block g hg]; exact h
theorem At.cell {W : World} {g : Nat} {x : Bag} (h : At W g x) : W.cell? ⟨g, 0, none⟩ = some (.int .u64 x.a) ∧ W.cell? ⟨g, 1, none⟩ = some (.int .u64 x.b) ∧ W.cell? ⟨g, 2, none⟩ = some (.int .u64 x.c) ∧ W.cell? ⟨g, 3, none⟩ = some (.int .u64 x.d) ∧ (∀ j, W.frozen? ⟨g, j, none⟩ = false) := by
 unfold At at h
 refine ⟨?_, ?_, ?_, ?_, fun j => ?_⟩
 all_goals first | (simp [World.cell?, h]; done) | (simp [World.frozen?, h]; done) | (simp [World.frozen?, h]; omega)
theorem At.new (W : World) (x : Bag) : At (W.alloc (.cells #[.int .u64 x.a, .int .u64 x.b, .int .u64 x.c, .int .u64 x.d] 29)) W.heap.size x := heap_alloc_new _ _
theorem At.alloc {W : World} {g : Nat} {x : Bag} (h : At W g x) (o : Obj) : At (W.alloc o) g x := h.below (n := W.heap.size) ((Below.refl _ W).alloc (Nat.le_refl _) o) h.lt
theorem At.store {W : World} {g : Nat} {x : Bag} (h : At W g x) (y : Bag) : At ((((W.setCell ⟨g, 0, none⟩ (.int .u64 y.a)).setCell ⟨g, 1, none⟩ (.int .u64 y.b)).setCell ⟨g, 2, none⟩ (.int .u64 y.c)).setCell ⟨g, 3, none⟩ (.int .u64 y.d)) g y := by
 unfold At at h ⊢
 simp [World.setCell, Array.getElem?_modify, h]
theorem At.other {W : World} {g k : Nat} {x : Bag} (h : At W g x) (hk : g ≠ k) (j : Nat) (v : Value) : At (W.setCell ⟨k, j, none⟩ v) g x := by
 unfold At; rw [Below.heap_setCell _ _ _ _ hk]; exact h
theorem of_any (A : Option Addr) (n c : Nat) (zs : List Int) (w : World) (hr : Row .i64 w A n zs) (hn : n ≤ 1000000) :
  Calls Tryz.prog 63 #[.slice A n c] w fun e w' => e = .returned (bagV (ofL zs)) ∧ Below w.heap.size w w' := by
 go_enter Tryz.func63, Tryz.ntmps63
 go_wp2
 have hw0 := At.new (w.alloc (.cells #[.int .u64 (0 : Nat), .int .u64 (0 : Nat), .int .u64 (0 : Nat), .int .u64 (0 : Nat)] 29)) nil
 rw [World.size_alloc] at hw0
 have hv0 := At.new w nil
 have hb0 : Below w.heap.size w _ := (((Below.refl _ w).alloc (Nat.le_refl _) (.cells #[.int .u64 (0 : Nat), .int .u64 (0 : Nat), .int .u64 (0 : Nat), .int .u64 (0 : Nat)] 29)).alloc (by simp) (.cells #[.int .u64 (0 : Nat), .int .u64 (0 : Nat), .int .u64 (0 : Nat), .int .u64 (0 : Nat)] 29))
 have HR := Lib.hid hr
 have H0 := Lib.hid hw0
 have HV := Lib.hid hv0
 have HB := Lib.hid hb0
 clear hr hw0 hv0 hb0
 go_loopw [8] (fun i wr => ∃ k : Nat, k ≤ n ∧ i = .int .i64 k ∧ Below w.heap.size w wr ∧ At wr (w.heap.size + 1) (ofL (zs.take k)) ∧ ∃ y, At wr w.heap.size y) (fun i _ => n - (intOf i).toNat)
 case atStart => exact ⟨0, Nat.zero_le _, rfl, HB.out, H0.out, nil, HV.out.alloc _⟩
 case round =>
  obtain ⟨k, hk, rfl, hb, ha, y, hy⟩ := hrel
  have hlt1 := ha.lt
  by_cases hlt : k < n
  ·obtain ⟨c0, c1, c2, c3, hf⟩ := ha.cell
   have hf0 := hf 0; have hf1 := hf 1; have hf2 := hf 2; have hf3 := hf 3
   obtain ⟨bb, off, rfl, hbb, hc⟩ := (HR.out.below hb).at_ (show 0 < n by omega)
   have hck := hc k hlt
   have hok := Lib.hid (ofL_ok (zs.take k))
   have HA := Lib.hid ha; have HY := Lib.hid hy; have HB := Lib.hid hb
   clear ha hy hb hc hf
   go_wp2_with (go_at_call 27; refine (with_any (ofL (zs.take k)) hok.out _ _).mono ?_; rintro e w' ⟨rfl, hb1⟩; unfold bagV; have HA1 := Lib.hid (HA.out.below hb1 hlt1); have HB1 := Lib.hid hb1; obtain ⟨d0, d1, d2, d3, df⟩ := HA1.out.cell; have df0 := df 0; have df1 := df 1; have df2 := df 2; have df3 := df 3; clear hb1 df)
   go_roundw
   case rel =>
    have e : ofL (zs.take (k + 1)) = (ofL (zs.take k)).withI (zs[k]?.getD 0) := by
     have hl : k < zs.length := by have := HR.out.1; omega
     rw [List.take_succ_eq_append_getElem hl, ofL_snoc]
     simp [hl]
    refine ⟨k + 1, by omega, by go_num, ?_, ?_, y, ?_⟩
    ·exact ((((HB.out.trans (HB1.out.mono HB.out.size)).setCell (by simp) _).setCell (by simp) _).setCell (by simp) _).setCell (by simp) _
    ·rw [e]; exact HA1.out.store _
    ·exact ((((HY.out.below HB1.out (by omega)).other (by omega) _ _).other (by omega) _ _).other (by omega) _ _).other (by omega) _ _
   case measure => simp [intOf]; omega
  ·obtain rfl : k = n := by omega
   obtain ⟨c0, c1, c2, c3, hf⟩ := ha.cell
   obtain ⟨d0, d1, d2, d3, df⟩ := hy.cell
   have df0 := df 0; have df1 := df 1; have df2 := df 2; have df3 := df 3
   have HA := Lib.hid ha; have HY := Lib.hid hy; have HB := Lib.hid hb
   clear ha hy hb hf df
   go_wp2
   have e : zs.take k = zs := List.take_of_length_le (by have := HR.out.1; omega)
   have hs := HY.out.store (ofL (zs.take k))
   obtain ⟨s0, s1, s2, s3, _⟩ := hs.cell
   rw [e] at s0 s1 s2 s3
   refine bodyPost_ret (v := .agg #[.int .u64 (ofL zs).a, .int .u64 (ofL zs).b, .int .u64 (ofL zs).c, .int .u64 (ofL zs).d]) ?_ rfl ⟨rfl, ?_⟩
   ·rw [e]; simp [results, Tryz.results63, go_sem, s0, s1, s2, s3]
   ·exact ((((HB.out).setCell (by simp) _).setCell (by simp) _).setCell (by simp) _).setCell (by simp) _
end Go.Proofs.YtnbchikiiipejaaGreatDoor.Bg
namespace Go.Proofs.YtnbchikiiipejaaGreatDoor.Bg
open Go.RowKit Mem
theorem At.set0 {W : World} {g : Nat} {x : Bag} (h : At W g x) (p : Nat) : At (W.setCell ⟨g, 0, none⟩ (.int .u64 p)) g { x with a := p } := by
 unfold At at h ⊢
 simp [World.setCell, Array.getElem?_modify, h]
theorem At.set1 {W : World} {g : Nat} {x : Bag} (h : At W g x) (p : Nat) : At (W.setCell ⟨g, 1, none⟩ (.int .u64 p)) g { x with b := p } := by
 unfold At at h ⊢
 simp [World.setCell, Array.getElem?_modify, h]
theorem At.set2 {W : World} {g : Nat} {x : Bag} (h : At W g x) (p : Nat) : At (W.setCell ⟨g, 2, none⟩ (.int .u64 p)) g { x with c := p } := by
 unfold At at h ⊢
 simp [World.setCell, Array.getElem?_modify, h]
theorem At.set3 {W : World} {g : Nat} {x : Bag} (h : At W g x) (p : Nat) : At (W.setCell ⟨g, 3, none⟩ (.int .u64 p)) g { x with d := p } := by
 unfold At at h ⊢
 simp [World.setCell, Array.getElem?_modify, h]
theorem ix0 (a b c d : Int) (w : World) : (Instr.index 27 (.agg #[.int .u64 a, .int .u64 b, .int .u64 c, .int .u64 d]) (.int .i64 0)).run Tryz.prog w = .ok (.int .u64 a) w := by kernel_rfl
theorem ix1 (a b c d : Int) (w : World) : (Instr.index 27 (.agg #[.int .u64 a, .int .u64 b, .int .u64 c, .int .u64 d]) (.int .i64 1)).run Tryz.prog w = .ok (.int .u64 b) w := by kernel_rfl
theorem ix2 (a b c d : Int) (w : World) : (Instr.index 27 (.agg #[.int .u64 a, .int .u64 b, .int .u64 c, .int .u64 d]) (.int .i64 2)).run Tryz.prog w = .ok (.int .u64 c) w := by kernel_rfl
theorem ix3 (a b c d : Int) (w : World) : (Instr.index 27 (.agg #[.int .u64 a, .int .u64 b, .int .u64 c, .int .u64 d]) (.int .i64 3)).run Tryz.prog w = .ok (.int .u64 d) w := by kernel_rfl
def upto (f : Nat → Nat → Nat) (k : Nat) (x y : Bag) : Bag :=
 ⟨if 0 < k then f x.a y.a else x.a, if 1 < k then f x.b y.b else x.b, if 2 < k then f x.c y.c else x.c, if 3 < k then f x.d y.d else x.d⟩
theorem upto_all (f : Nat → Nat → Nat) (x y : Bag) : upto f 4 x y = x.map2 f y := rfl
theorem or_any (x y : Bag) (hx : x.ok) (hy : y.ok) (w : World) :
  Calls Tryz.prog 28 #[bagV x, bagV y] w fun e w' => e = .returned (bagV (x.orB y)) ∧ Below w.heap.size w w' := by
 obtain ⟨a, b, c, d⟩ := x
 obtain ⟨a', b', c', d'⟩ := y
 have HX := Lib.hid hx
 have HY := Lib.hid hy
 clear hx hy
 have hw0 := ((At.new w ⟨a, b, c, d⟩).alloc (.cells #[.int .u64 a', .int .u64 b', .int .u64 c', .int .u64 d'] 29)).alloc (.cells #[.int .u64 (0 : Nat), .int .u64 (0 : Nat), .int .u64 (0 : Nat), .int .u64 (0 : Nat)] 29)
 have hv0 := At.new ((w.alloc (.cells #[.int .u64 a, .int .u64 b, .int .u64 c, .int .u64 d] 29)).alloc (.cells #[.int .u64 a', .int .u64 b', .int .u64 c', .int .u64 d'] 29)) nil
 simp only [World.size_alloc] at hv0
 have hb0 := (((Below.refl _ w).alloc (Nat.le_refl _) (.cells #[.int .u64 a, .int .u64 b, .int .u64 c, .int .u64 d] 29)).alloc (by simp) (.cells #[.int .u64 a', .int .u64 b', .int .u64 c', .int .u64 d'] 29)).alloc (by simp; omega) (.cells #[.int .u64 (0 : Nat), .int .u64 (0 : Nat), .int .u64 (0 : Nat), .int .u64 (0 : Nat)] 29)
 have H0 := Lib.hid hw0
 have HV := Lib.hid hv0
 have HB := Lib.hid hb0
 clear hw0 hv0 hb0
 unfold bagV
 go_enter Tryz.func28, Tryz.ntmps28
 go_wp2
 go_loopw [9] (fun i wr => ∃ (k : Nat) (j : Int), k ≤ 4 ∧ j = k ∧ i = .int .i64 j ∧ Below w.heap.size w wr ∧ At wr w.heap.size (upto (fun p q => p ||| q) k ⟨a, b, c, d⟩ ⟨a', b', c', d'⟩) ∧ ∃ z, At wr (w.heap.size + 1 + 1) z) (fun i _ => 4 - (intOf i).toNat)
 case atStart => exact ⟨0, 0, by omega, rfl, rfl, HB.out, H0.out, nil, HV.out⟩
 case round =>
  obtain ⟨k, j, hk, hj, rfl, hb, ha, z, hz⟩ := hrel
  have hzl := hz.lt
  obtain ⟨x1, x2, x3, x4⟩ := HX.out
  obtain ⟨y1, y2, y3, y4⟩ := HY.out
  dsimp only at x1 x2 x3 x4 y1 y2 y3 y4
  have e1 := Lib.hid (u64_or_nat a a' x1 y1)
  have e2 := Lib.hid (u64_or_nat b b' x2 y2)
  have e3 := Lib.hid (u64_or_nat c c' x3 y3)
  have e4 := Lib.hid (u64_or_nat d d' x4 y4)
  clear x1 x2 x3 x4 y1 y2 y3 y4
  rcases (show k = 0 ∨ k = 1 ∨ k = 2 ∨ k = 3 ∨ k = 4 by omega) with rfl | rfl | rfl | rfl | rfl
  ·obtain rfl : j = 0 := by omega
   clear hj hk
   rw [show upto (fun p q => p ||| q) 0 ⟨a, b, c, d⟩ ⟨a', b', c', d'⟩ = ⟨a, b, c, d⟩ from rfl] at ha
   obtain ⟨c0, c1, c2, c3, cf⟩ := ha.cell
   have cf0 := cf 0; have cf1 := cf 1; have cf2 := cf 2; have cf3 := cf 3
   dsimp only at c0 c1 c2 c3
   have HA := Lib.hid ha; have HZ := Lib.hid hz; have HB := Lib.hid hb
   clear ha hz hb cf
   have i0 := ix0 a' b' c' d'; have i1 := ix1 a' b' c' d'; have i2 := ix2 a' b' c' d'; have i3 := ix3 a' b' c' d'
   go_wp2
   go_roundw
   case rel =>
    rw [e1.out]
    refine ⟨1, 1, by omega, rfl, rfl, HB.out.setCell (by simp) _, ?_, z, HZ.out.other (by omega) _ _⟩
    exact HA.out.set0 _
   case measure => simp [intOf]
  ·obtain rfl : j = 1 := by omega
   clear hj hk
   rw [show upto (fun p q => p ||| q) 1 ⟨a, b, c, d⟩ ⟨a', b', c', d'⟩ = ⟨((fun p q => p ||| q) a a'), b, c, d⟩ from rfl] at ha
   obtain ⟨c0, c1, c2, c3, cf⟩ := ha.cell
   have cf0 := cf 0; have cf1 := cf 1; have cf2 := cf 2; have cf3 := cf 3
   dsimp only at c0 c1 c2 c3
   have HA := Lib.hid ha; have HZ := Lib.hid hz; have HB := Lib.hid hb
   clear ha hz hb cf
   have i0 := ix0 a' b' c' d'; have i1 := ix1 a' b' c' d'; have i2 := ix2 a' b' c' d'; have i3 := ix3 a' b' c' d'
   go_wp2
   go_roundw
   case rel =>
    rw [e2.out]
    refine ⟨2, 2, by omega, rfl, rfl, HB.out.setCell (by simp) _, ?_, z, HZ.out.other (by omega) _ _⟩
    exact HA.out.set1 _
   case measure => simp [intOf]
  ·obtain rfl : j = 2 := by omega
   clear hj hk
   rw [show upto (fun p q => p ||| q) 2 ⟨a, b, c, d⟩ ⟨a', b', c', d'⟩ = ⟨((fun p q => p ||| q) a a'), ((fun p q => p ||| q) b b'), c, d⟩ from rfl] at ha
   obtain ⟨c0, c1, c2, c3, cf⟩ := ha.cell
   have cf0 := cf 0; have cf1 := cf 1; have cf2 := cf 2; have cf3 := cf 3
   dsimp only at c0 c1 c2 c3
   have HA := Lib.hid ha; have HZ := Lib.hid hz; have HB := Lib.hid hb
   clear ha hz hb cf
   have i0 := ix0 a' b' c' d'; have i1 := ix1 a' b' c' d'; have i2 := ix2 a' b' c' d'; have i3 := ix3 a' b' c' d'
   go_wp2
   go_roundw
   case rel =>
    rw [e3.out]
    refine ⟨3, 3, by omega, rfl, rfl, HB.out.setCell (by simp) _, ?_, z, HZ.out.other (by omega) _ _⟩
    exact HA.out.set2 _
   case measure => simp [intOf]
  ·obtain rfl : j = 3 := by omega
   clear hj hk
   rw [show upto (fun p q => p ||| q) 3 ⟨a, b, c, d⟩ ⟨a', b', c', d'⟩ = ⟨((fun p q => p ||| q) a a'), ((fun p q => p ||| q) b b'), ((fun p q => p ||| q) c c'), d⟩ from rfl] at ha
   obtain ⟨c0, c1, c2, c3, cf⟩ := ha.cell
   have cf0 := cf 0; have cf1 := cf 1; have cf2 := cf 2; have cf3 := cf 3
   dsimp only at c0 c1 c2 c3
   have HA := Lib.hid ha; have HZ := Lib.hid hz; have HB := Lib.hid hb
   clear ha hz hb cf
   have i0 := ix0 a' b' c' d'; have i1 := ix1 a' b' c' d'; have i2 := ix2 a' b' c' d'; have i3 := ix3 a' b' c' d'
   go_wp2
   go_roundw
   case rel =>
    rw [e4.out]
    refine ⟨4, 4, by omega, rfl, rfl, HB.out.setCell (by simp) _, ?_, z, HZ.out.other (by omega) _ _⟩
    exact HA.out.set3 _
   case measure => simp [intOf]
  ·obtain rfl : j = 4 := by omega
   clear hj hk
   rw [upto_all] at ha
   obtain ⟨c0, c1, c2, c3, cf⟩ := ha.cell
   obtain ⟨d0, d1, d2, d3, df⟩ := hz.cell
   have df0 := df 0; have df1 := df 1; have df2 := df 2; have df3 := df 3
   dsimp only [Bag.map2] at c0 c1 c2 c3
   have HA := Lib.hid ha; have HZ := Lib.hid hz; have HB := Lib.hid hb
   clear ha hz hb cf df
   go_wp2
   obtain ⟨s0, s1, s2, s3, _⟩ := (HZ.out.store (Bag.map2 (fun p q => p ||| q) ⟨a, b, c, d⟩ ⟨a', b', c', d'⟩)).cell
   dsimp only [Bag.map2] at s0 s1 s2 s3
   refine bodyPost_ret (v := bagV (Bag.map2 (fun p q => p ||| q) ⟨a, b, c, d⟩ ⟨a', b', c', d'⟩)) ?_ rfl ⟨rfl, ?_⟩
   ·simp [results, Tryz.results28, go_sem, bagV, Bag.map2, s0, s1, s2, s3]
   ·exact ((((HB.out).setCell (by simp; omega) _).setCell (by simp; omega) _).setCell (by simp; omega) _).setCell (by simp; omega) _
end Go.Proofs.YtnbchikiiipejaaGreatDoor.Bg
namespace Go.Proofs.YtnbchikiiipejaaGreatDoor.Bg
open Go.RowKit Mem
theorem eq_item (d : Nat) (a b : Int) (w : World) : (Op.equalIn (d + 1) 26 (.int .u64 a) (.int .u64 b)).run Tryz.prog w = .ok (a == b) w := by
 unfold Op.equalIn
 simp only [Sem.run_bind, run_underlying Tryz.underlying26, Result.andThen_ok]
 simp
theorem eq_words (d : Nat) (a b c e a' b' c' e' : Int) (w : World) :
  (Op.equalIn (d + 1 + 1) 27 (.agg #[.int .u64 a, .int .u64 b, .int .u64 c, .int .u64 e]) (.agg #[.int .u64 a', .int .u64 b', .int .u64 c', .int .u64 e'])).run Tryz.prog w = .ok ((a == a') && ((b == b') && ((c == c') && (e == e')))) w := by
 obtain ⟨i0, hi⟩ := Option.isSome_iff_exists.1 (show (Tryz.prog.info? 26).isSome = true by kernel_rfl)
 rw [run_equalIn_array w (d + 1) (n := 4) (e := 26) _ _ Tryz.underlying27 hi, show List.range 4 = [0, 1, 2, 3] from rfl]
 have p : ∀ (a b c e : Int) (w : World), (part 26 #[.int .u64 a, .int .u64 b, .int .u64 c, .int .u64 e] (0 * Tryz.prog.cellsOf 26)).run Tryz.prog w = .ok (.int .u64 a) w ∧ (part 26 #[.int .u64 a, .int .u64 b, .int .u64 c, .int .u64 e] (1 * Tryz.prog.cellsOf 26)).run Tryz.prog w = .ok (.int .u64 b) w ∧ (part 26 #[.int .u64 a, .int .u64 b, .int .u64 c, .int .u64 e] (2 * Tryz.prog.cellsOf 26)).run Tryz.prog w = .ok (.int .u64 c) w ∧ (part 26 #[.int .u64 a, .int .u64 b, .int .u64 c, .int .u64 e] (3 * Tryz.prog.cellsOf 26)).run Tryz.prog w = .ok (.int .u64 e) w :=
  fun a b c e w => ⟨by kernel_rfl, by kernel_rfl, by kernel_rfl, by kernel_rfl⟩
 have P1 := p a b c e
 have P2 := p a' b' c' e'
 unfold Op.eqItems
 simp only [Sem.run_bind, (P1 w).1, (P2 w).1, Result.andThen_ok, eq_item]
 cases a == a'
 ·simp
 ·simp only [Bool.not_true, Bool.false_eq_true, if_false, Bool.true_and]
  unfold Op.eqItems
  simp only [Sem.run_bind, (P1 w).2.1, (P2 w).2.1, Result.andThen_ok, eq_item]
  cases b == b'
  ·simp
  ·simp only [Bool.not_true, Bool.false_eq_true, if_false, Bool.true_and]
   unfold Op.eqItems
   simp only [Sem.run_bind, (P1 w).2.2.1, (P2 w).2.2.1, Result.andThen_ok, eq_item]
   cases c == c'
   ·simp
   ·simp only [Bool.not_true, Bool.false_eq_true, if_false, Bool.true_and]
    unfold Op.eqItems
    simp only [Sem.run_bind, (P1 w).2.2.2, (P2 w).2.2.2, Result.andThen_ok, eq_item]
    cases e == e'
    ·simp
    ·simp [Op.eqItems]
def sameB (x y : Bag) : Bool := (x.a == y.a) && ((x.b == y.b) && ((x.c == y.c) && (x.d == y.d)))
theorem sameB_iff (x y : Bag) : sameB x y = true ↔ x = y := by
 obtain ⟨a, b, c, d⟩ := x
 obtain ⟨a', b', c', d'⟩ := y
 simp [sameB]
theorem sameB_refl (x : Bag) : sameB x x = true := (sameB_iff x x).2 rfl
theorem eq_bags (x y : Bag) (w : World) :
  (Op.equalIn 9999 27 (.agg #[.int .u64 x.a, .int .u64 x.b, .int .u64 x.c, .int .u64 x.d]) (.agg #[.int .u64 y.a, .int .u64 y.b, .int .u64 y.c, .int .u64 y.d])).run Tryz.prog w = .ok (sameB x y) w := by
 rw [eq_words 9997]
 congr 1
 unfold sameB
 rw [Bool.eq_iff_iff]
 simp only [Bool.and_eq_true, beq_iff_eq]
 omega
end Go.Proofs.YtnbchikiiipejaaGreatDoor.Bg
namespace Go.Proofs.YtnbchikiiipejaaGreatDoor.Bg
def D : List Nat → Nat
 | [] => 0
 | f :: l => f + 256 * D l
def rep (m : Nat) : Nat → Nat
 | 0 => 0
 | n + 1 => m + 256 * rep m n
def cnt (k x : Nat) : Nat := ((List.range k).filter x.testBit).length
theorem land256 (u v p q : Nat) (hu : u < 256) (hv : v < 256) : (u + 256 * p) &&& (v + 256 * q) = (u &&& v) + 256 * (p &&& q) := by
 have huv : u &&& v < 2 ^ 8 := Nat.lt_of_le_of_lt Nat.and_le_left hu
 refine Nat.eq_of_testBit_eq fun j => ?_
 rw [Nat.testBit_and, Nat.add_comm u, Nat.add_comm v, Nat.add_comm (u &&& v), show (256 : Nat) = 2 ^ 8 from rfl,
  Nat.testBit_two_pow_mul_add p (show u < 2 ^ 8 from hu), Nat.testBit_two_pow_mul_add q (show v < 2 ^ 8 from hv), Nat.testBit_two_pow_mul_add (p &&& q) huv]
 split <;> simp [Nat.testBit_and]
def g1 (f : Nat) : Nat := (f / 2 &&& 85) + (f &&& 85)
def g2 (f : Nat) : Nat := (f / 4 &&& 51) + (f &&& 51)
def g3 (f : Nat) : Nat := f / 16 + f % 16
theorem a1 : ∀ f, f < 256 → ∀ c, c < 2 → (f / 2 + 128 * c) &&& 85 = f / 2 &&& 85 := by decide +kernel
theorem a2 : ∀ f, f < 256 → ∀ c, c < 4 → (f / 4 + 64 * c) &&& 51 = f / 4 &&& 51 := by decide +kernel
theorem a3 : ∀ f, f < 256 → g1 f < 256 ∧ g2 (g1 f) < 256 ∧ g2 (g1 f) % 16 ≤ 4 ∧ g2 (g1 f) / 16 ≤ 4 ∧ g3 (g2 (g1 f)) = cnt 8 f := by decide +kernel
theorem st1 : ∀ l : List Nat, (∀ f ∈ l, f < 256) → (D l / 2 &&& rep 85 l.length) + (D l &&& rep 85 l.length) = D (l.map g1)
 | [], _ => rfl
 | f :: l, h => by
  have hf := h f (by simp)
  have ih := st1 l fun g hg => h g (by simp [hg])
  simp only [D, rep, List.length_cons, List.map_cons]
  rw [show (f + 256 * D l) / 2 = (f / 2 + 128 * (D l % 2)) + 256 * (D l / 2) from by omega, land256 _ _ _ _ (by omega) (by decide), land256 _ _ _ _ hf (by decide), a1 f hf _ (Nat.mod_lt _ (by decide)), ← ih]
  unfold g1; omega
theorem st2 : ∀ l : List Nat, (∀ f ∈ l, f < 256) → (D l / 4 &&& rep 51 l.length) + (D l &&& rep 51 l.length) = D (l.map g2)
 | [], _ => rfl
 | f :: l, h => by
  have hf := h f (by simp)
  have ih := st2 l fun g hg => h g (by simp [hg])
  simp only [D, rep, List.length_cons, List.map_cons]
  rw [show (f + 256 * D l) / 4 = (f / 4 + 64 * (D l % 4)) + 256 * (D l / 4) from by omega, land256 _ _ _ _ (by omega) (by decide), land256 _ _ _ _ hf (by decide), a2 f hf _ (Nat.mod_lt _ (by decide)), ← ih]
  unfold g2; omega
theorem st3 : ∀ l : List Nat, (∀ f ∈ l, f < 256 ∧ f % 16 ≤ 4 ∧ f / 16 ≤ 4) → (D l / 16 + D l &&& rep 15 l.length) = D (l.map g3)
 | [], _ => rfl
 | f :: l, h => by
  obtain ⟨h0, h1, h2⟩ := h f (by simp)
  have ih := st3 l fun g hg => h g (by simp [hg])
  have hx : D l % 16 ≤ 4 := by
   cases l with
   | nil => decide
   | cons g l =>
    have := (h g (by simp)).2.1
    simp only [D]; omega
  simp only [D, rep, List.length_cons, List.map_cons]
  rw [show (f + 256 * D l) / 16 + (f + 256 * D l) = (f / 16 + 16 * (D l % 16) + f) + 256 * (D l / 16 + D l) from by omega, land256 _ _ _ _ (by omega) (by decide), ih]
  have : (f / 16 + 16 * (D l % 16) + f) &&& 15 = f / 16 + f % 16 := by
   rw [show (15 : Nat) = 2 ^ 4 - 1 from rfl, Nat.and_two_pow_sub_one_eq_mod]; omega
  rw [this]; rfl
theorem cnt_add (k m x : Nat) : cnt (k + m) x = cnt k x + cnt m (x / 2 ^ k) := by
 unfold cnt
 rw [List.range_add, List.filter_append, List.length_append, List.filter_map, List.length_map]
 congr 2
 refine List.filter_congr fun j _ => ?_
 simp [Nat.testBit_div_two_pow, Nat.add_comm]
theorem cnt_mod (x : Nat) : cnt 8 x = cnt 8 (x % 256) := by
 unfold cnt; congr 1
 refine List.filter_congr fun j hj => ?_
 rw [show (256 : Nat) = 2 ^ 8 from rfl, Nat.testBit_mod_two_pow]
 have := List.mem_range.1 hj
 simp [this]
theorem cnt64 (x : Nat) : cnt 64 x = cnt 8 (x % 256) + (cnt 8 (x / 256 % 256) + (cnt 8 (x / 65536 % 256) + (cnt 8 (x / 16777216 % 256) + (cnt 8 (x / 4294967296 % 256) + (cnt 8 (x / 1099511627776 % 256) + (cnt 8 (x / 281474976710656 % 256) + cnt 8 (x / 72057594037927936 % 256))))))) := by
 rw [show (64 : Nat) = 8 + (8 + (8 + (8 + (8 + (8 + (8 + 8)))))) from rfl, cnt_add, cnt_add, cnt_add, cnt_add, cnt_add, cnt_add, cnt_add]
 simp only [Nat.div_div_eq_div_mul, show (2 : Nat) ^ 8 = 256 from rfl, Nat.reduceMul]
 rw [cnt_mod x, cnt_mod (x / 256), cnt_mod (x / 65536), cnt_mod (x / 16777216), cnt_mod (x / 4294967296), cnt_mod (x / 1099511627776), cnt_mod (x / 281474976710656), cnt_mod (x / 72057594037927936)]
theorem D_le (m : Nat) : ∀ l : List Nat, (∀ f ∈ l, f ≤ m) → D l ≤ rep m l.length
 | [], _ => Nat.le_refl _
 | f :: l, h => by
  have := D_le m l fun g hg => h g (by simp [hg])
  have := h f (by simp)
  simp only [D, rep, List.length_cons]; omega
theorem steps (x : Nat) (hx : x < 18446744073709551616) : ∃ p0 p1 p2 p3 p4 p5 p6 p7 : Nat,
  ((((((x / 2 &&& 6148914691236517205) + (x &&& 6148914691236517205)) / 4 &&& 3689348814741910323) + (((x / 2 &&& 6148914691236517205) + (x &&& 6148914691236517205)) &&& 3689348814741910323)) / 16 + ((((x / 2 &&& 6148914691236517205) + (x &&& 6148914691236517205)) / 4 &&& 3689348814741910323) + (((x / 2 &&& 6148914691236517205) + (x &&& 6148914691236517205)) &&& 3689348814741910323)) &&& 1085102592571150095)
    = p0 + 256 * p1 + 65536 * p2 + 16777216 * p3 + 4294967296 * p4 + 1099511627776 * p5 + 281474976710656 * p6 + 72057594037927936 * p7)
  ∧ (((x / 2 &&& 6148914691236517205) + (x &&& 6148914691236517205)) < 18446744073709551616)
  ∧ (((((x / 2 &&& 6148914691236517205) + (x &&& 6148914691236517205)) / 4 &&& 3689348814741910323) + (((x / 2 &&& 6148914691236517205) + (x &&& 6148914691236517205)) &&& 3689348814741910323)) < 4919131752989213765)
  ∧ p0 ≤ 8 ∧ p1 ≤ 8 ∧ p2 ≤ 8 ∧ p3 ≤ 8 ∧ p4 ≤ 8 ∧ p5 ≤ 8 ∧ p6 ≤ 8 ∧ p7 ≤ 8 ∧ cnt 64 x = p0 + p1 + p2 + p3 + p4 + p5 + p6 + p7 := by
 obtain ⟨l, hl⟩ : ∃ l, l = [x % 256, x / 256 % 256, x / 65536 % 256, x / 16777216 % 256, x / 4294967296 % 256, x / 1099511627776 % 256, x / 281474976710656 % 256, x / 72057594037927936 % 256] := ⟨_, rfl⟩
 have hD : x = D l := by rw [hl]; simp only [D]; omega
 have hb : ∀ f ∈ l, f < 256 := by
  intro f hf; rw [hl] at hf; simp only [List.mem_cons, List.not_mem_nil, or_false] at hf; omega
 have hlen : l.length = 8 := by rw [hl]; rfl
 have e1 := st1 l hb
 rw [hlen, ← hD, show rep 85 8 = 6148914691236517205 from rfl] at e1
 have e2 := st2 (l.map g1) (fun f hf => by obtain ⟨g, hg, rfl⟩ := List.mem_map.1 hf; exact (a3 g (hb g hg)).1)
 rw [List.length_map, hlen, show rep 51 8 = 3689348814741910323 from rfl] at e2
 have e3 := st3 ((l.map g1).map g2) (fun f hf => by
  obtain ⟨g', hg', rfl⟩ := List.mem_map.1 hf
  obtain ⟨g, hg, rfl⟩ := List.mem_map.1 hg'
  exact ⟨(a3 g (hb g hg)).2.1, (a3 g (hb g hg)).2.2.1, (a3 g (hb g hg)).2.2.2.1⟩)
 rw [List.length_map, List.length_map, hlen, show rep 15 8 = 1085102592571150095 from rfl] at e3
 have e4 : ((l.map g1).map g2).map g3 = l.map (cnt 8) := by
  rw [List.map_map, List.map_map]
  refine List.map_congr_left fun f hf => (a3 f (hb f hf)).2.2.2.2
 have c8 : ∀ y, cnt 8 y ≤ 8 := fun y => by unfold cnt; exact Nat.le_trans (List.length_filter_le _ _) (by simp)
 have m1 : D (l.map g1) < 18446744073709551616 := by
  rw [← e1]
  have h1 : x / 2 &&& 6148914691236517205 ≤ 6148914691236517205 := Nat.and_le_right
  have h2 : x &&& 6148914691236517205 ≤ 6148914691236517205 := Nat.and_le_right
  omega
 have m2 : ∀ f ∈ (l.map g1).map g2, f ≤ 68 := fun f hf => by
  obtain ⟨g', hg', rfl⟩ := List.mem_map.1 hf
  obtain ⟨g, hg, rfl⟩ := List.mem_map.1 hg'
  have := a3 g (hb g hg)
  omega
 refine ⟨cnt 8 (x % 256), cnt 8 (x / 256 % 256), cnt 8 (x / 65536 % 256), cnt 8 (x / 16777216 % 256), cnt 8 (x / 4294967296 % 256), cnt 8 (x / 1099511627776 % 256), cnt 8 (x / 281474976710656 % 256), cnt 8 (x / 72057594037927936 % 256), ?_, ?_, ?_, c8 _, c8 _, c8 _, c8 _, c8 _, c8 _, c8 _, c8 _, ?_⟩
 ·rw [e1, e2, e3, e4, hl]
  simp only [List.map_cons, List.map_nil, D]
  omega
 ·rw [e1]; exact m1
 ·rw [e1, e2]
  have := D_le 68 _ m2
  rw [List.length_map, List.length_map, hlen, show rep 68 8 = 4919131752989213764 from rfl] at this
  exact Nat.lt_succ_of_le this
 ·rw [cnt64]; omega
theorem bits_cnt (x : Nat) : (bitsOf x).length = cnt 64 x := rfl
end Go.Proofs.YtnbchikiiipejaaGreatDoor.Bg
namespace Go.Proofs.YtnbchikiiipejaaGreatDoor.Bg
open Go.RowKit Mem
theorem wrap_nat (n : Nat) (h : n < 18446744073709551616) : IntKind.u64.wrap (n : Int) = (n : Int) := by rw [IntKind.wrap_u64]; omega
theorem sum_step (m c r d : Nat) (hd : c / m = d) (hr : r = c + d) (hl : r < 18446744073709551616) : IntKind.u64.wrap ((c : Int) + (c : Int) / (m : Int)) = (r : Int) := by
 rw [show ((c : Int) + (c : Int) / (m : Int)) = ((c + c / m : Nat) : Int) from by simp, hd, ← hr, wrap_nat _ hl]
theorem ones_facts (x : Nat) (hx : x < 18446744073709551616) : ∃ A B C C1 C2 C3 : Nat,
  IntKind.u64.wrap (bits .and .u64 ((x : Int) / 2) 6148914691236517205 + bits .and .u64 (x : Int) 6148914691236517205) = (A : Int) ∧
  IntKind.u64.wrap (bits .and .u64 ((A : Int) / 4) 3689348814741910323 + bits .and .u64 (A : Int) 3689348814741910323) = (B : Int) ∧
  bits .and .u64 (IntKind.u64.wrap ((B : Int) / 16 + (B : Int))) 1085102592571150095 = (C : Int) ∧
  IntKind.u64.wrap ((C : Int) + (C : Int) / 256) = (C1 : Int) ∧
  IntKind.u64.wrap ((C1 : Int) + (C1 : Int) / 65536) = (C2 : Int) ∧
  IntKind.u64.wrap ((C2 : Int) + (C2 : Int) / 4294967296) = (C3 : Int) ∧ C3 < 9223372036854775808 ∧
  C3 % 128 = (bitsOf x).length := by
 obtain ⟨p0, p1, p2, p3, p4, p5, p6, p7, hC, hA, hB, q0, q1, q2, q3, q4, q5, q6, q7, hn⟩ := steps x hx
 refine ⟨(x / 2 &&& 6148914691236517205) + (x &&& 6148914691236517205), (((x / 2 &&& 6148914691236517205) + (x &&& 6148914691236517205)) / 4 &&& 3689348814741910323) + (((x / 2 &&& 6148914691236517205) + (x &&& 6148914691236517205)) &&& 3689348814741910323), p0 + 256 * p1 + 65536 * p2 + 16777216 * p3 + 4294967296 * p4 + 1099511627776 * p5 + 281474976710656 * p6 + 72057594037927936 * p7, p0 + p1 + 256 * (p1 + p2) + 65536 * (p2 + p3) + 16777216 * (p3 + p4) + 4294967296 * (p4 + p5) + 1099511627776 * (p5 + p6) + 281474976710656 * (p6 + p7) + 72057594037927936 * p7,
  p0 + p1 + p2 + p3 + 256 * (p1 + p2 + p3 + p4) + 65536 * (p2 + p3 + p4 + p5) + 16777216 * (p3 + p4 + p5 + p6) + 4294967296 * (p4 + p5 + p6 + p7) + 1099511627776 * (p5 + p6 + p7) + 281474976710656 * (p6 + p7) + 72057594037927936 * p7,
  p0 + p1 + p2 + p3 + p4 + p5 + p6 + p7 + 256 * (p1 + p2 + p3 + p4 + p5 + p6 + p7) + 65536 * (p2 + p3 + p4 + p5 + p6 + p7) + 16777216 * (p3 + p4 + p5 + p6 + p7) + 4294967296 * (p4 + p5 + p6 + p7) + 1099511627776 * (p5 + p6 + p7) + 281474976710656 * (p6 + p7) + 72057594037927936 * p7,
  ?_, ?_, ?_, ?_, ?_, ?_, ?_, ?_⟩
 ·rw [show ((x : Int) / 2) = ((x / 2 : Nat) : Int) from by simp, show (6148914691236517205 : Int) = ((6148914691236517205 : Nat) : Int) from rfl, u64_and_nat _ _ (by omega) (by decide), u64_and_nat _ _ hx (by decide), ← Int.natCast_add, wrap_nat _ hA]
 ·generalize (x / 2 &&& 6148914691236517205) + (x &&& 6148914691236517205) = A at *
  rw [show ((A : Int) / 4) = ((A / 4 : Nat) : Int) from by simp, show (3689348814741910323 : Int) = ((3689348814741910323 : Nat) : Int) from rfl, u64_and_nat _ _ (by omega) (by decide), u64_and_nat _ _ hA (by decide), ← Int.natCast_add, wrap_nat _ (by omega)]
 ·generalize (x / 2 &&& 6148914691236517205) + (x &&& 6148914691236517205) = A at *
  generalize (A / 4 &&& 3689348814741910323) + (A &&& 3689348814741910323) = B at *
  rw [show ((B : Int) / 16 + (B : Int)) = ((B / 16 + B : Nat) : Int) from by simp, wrap_nat _ (by omega), show (1085102592571150095 : Int) = ((1085102592571150095 : Nat) : Int) from rfl, u64_and_nat _ _ (by omega) (by decide), hC]
 ·clear hC hA hB hn hx
  rw [IntKind.wrap_u64]; omega
 ·clear hC hA hB hn hx
  refine sum_step 65536 _ _ (p2 + p3 + 256 * (p3 + p4) + 65536 * (p4 + p5) + 16777216 * (p5 + p6) + 4294967296 * (p6 + p7) + 1099511627776 * p7) (by omega) (by omega) (by omega)
 ·clear hC hA hB hn hx
  refine sum_step 4294967296 _ _ (p4 + p5 + p6 + p7 + 256 * (p5 + p6 + p7) + 65536 * (p6 + p7) + 16777216 * p7) (by omega) (by omega) (by omega)
 ·clear hC hA hB hn hx
  omega
 ·rw [bits_cnt, hn]
  clear hC hA hB hn hx
  omega
theorem ones_any (x : Nat) (hx : x < 18446744073709551616) (w : World) :
  Calls Tryz.prog 110 #[.int .u64 x] w fun e w' => e = .returned (.int .i64 (bitsOf x).length) ∧ w = w' := by
 obtain ⟨A, B, C, C1, C2, C3, h1, h2, h3, h4, h5, h6, h7, h8⟩ := ones_facts x hx
 have H7 := Lib.hid h7
 have H8 := Lib.hid h8
 clear hx h7 h8
 go_enter Tryz.func110, Tryz.ntmps110
 go_wp2
 go_ret
 refine ⟨ret_int ?_, rfl⟩
 have e7 := H7.out
 have e8 := H8.out
 rw [show wrap64 (C3 : Int) = C3 from by unfold wrap64; omega, i64_and127]
 omega
theorem tz_core (x k idx : Nat) (w : World) (hx0 : ((x : Int) == 0) = false)
  (key : IntKind.u64.wrap (bits BinOp.and IntKind.u64 (x : Int) (IntKind.u64.wrap (-(x : Int))) * 285870213051353865) / 288230376151711744 = (idx : Int))
  (hi : idx < 64) (hk : k < 64) (hcell : w.cell? ⟨0, idx, none⟩ = some (.int .u8 k)) :
  Calls Tryz.prog 124 #[.int .u64 x] w fun e w' => e = .returned (.int .i64 k) ∧ w = w' := by
 go_enter Tryz.func124, Tryz.ntmps124
 go_wp2_with (simp only [key])
 go_ret
 exact ⟨rfl, rfl⟩
def Tab (w : World) : Prop := TabAt 0 Lib.deBruijn64tab w ∧ 0 < w.heap.size
theorem Tab.below {n : Nat} {w w' : World} (h : Tab w) (hb : Below n w w') (hn : 0 < n) : Tab w' :=
 ⟨fun j hj => (hb.cell (p := ⟨0, j, none⟩) hn).trans (h.1 j hj), Nat.lt_of_lt_of_le h.2 hb.size⟩
theorem tz_any (x : Nat) (hx : x < 18446744073709551616) (h0 : x ≠ 0) (w : World) (hT : Tab w) :
  Calls Tryz.prog 124 #[.int .u64 x] w fun e w' => e = .returned (.int .i64 (Lib.ctz 64 x)) ∧ w = w' := by
 obtain ⟨hlow, hk⟩ := Lib.lowest_bit 64 x h0 hx
 obtain ⟨hi, htab⟩ := Lib.deBruijn64_at _ hk
 have hcell := hT.1 _ hi
 rw [htab] at hcell
 exact tz_core x _ _ w (by simp; omega) (tz64_key x _ hx h0 hlow) hi hk hcell
def lenTo (x : Bag) (k : Nat) : Nat := (if 0 < k then (bitsOf x.a).length else 0) + (if 1 < k then (bitsOf x.b).length else 0) + (if 2 < k then (bitsOf x.c).length else 0) + (if 3 < k then (bitsOf x.d).length else 0)
theorem list_len (x : Bag) : x.list.length = lenTo x 4 := by
 rw [list_parts]
 simp [Bag.part, lenTo, Bag.word]; omega
theorem bits_len (x : Nat) : (bitsOf x).length ≤ 64 := by unfold bitsOf; exact Nat.le_trans (List.length_filter_le _ _) (by simp)
theorem len_any (x : Bag) (hx : x.ok) (w : World) :
  Calls Tryz.prog 64 #[bagV x] w fun e w' => e = .returned (.int .i64 x.list.length) ∧ Below w.heap.size w w' := by
 rw [list_len]
 obtain ⟨a, b, c, d⟩ := x
 have HX := Lib.hid hx
 have b1 := bits_len a; have b2 := bits_len b; have b3 := bits_len c; have b4 := bits_len d
 obtain ⟨p, hp⟩ : ∃ p, p = (bitsOf a).length := ⟨_, rfl⟩
 obtain ⟨q, hq⟩ : ∃ p, p = (bitsOf b).length := ⟨_, rfl⟩
 obtain ⟨r, hr⟩ : ∃ p, p = (bitsOf c).length := ⟨_, rfl⟩
 obtain ⟨s, hs⟩ : ∃ p, p = (bitsOf d).length := ⟨_, rfl⟩
 rw [← hp] at b1; rw [← hq] at b2; rw [← hr] at b3; rw [← hs] at b4
 have HP := Lib.hid hp; have HQ := Lib.hid hq; have HR := Lib.hid hr; have HS := Lib.hid hs
 have e : lenTo ⟨a, b, c, d⟩ 4 = p + q + r + s := by rw [hp, hq, hr, hs]; rfl
 rw [e]
 clear hx hp hq hr hs e
 unfold bagV
 have i0 := ix0 a b c d; have i1 := ix1 a b c d; have i2 := ix2 a b c d; have i3 := ix3 a b c d
 go_enter Tryz.func64, Tryz.ntmps64
 go_wp2
 refine wp_loop_rounds 5 ?_
 rw [rounds_succ]; go_wp2_with (go_at_call 110; refine (ones_any a HX.out.1 _).mono ?_; rw [← HP.out]; rintro e w' ⟨rfl, rfl⟩)
 rw [rounds_succ]; go_wp2_with (go_at_call 110; refine (ones_any b HX.out.2.1 _).mono ?_; rw [← HQ.out]; rintro e w' ⟨rfl, rfl⟩)
 rw [rounds_succ]; go_wp2_with (go_at_call 110; refine (ones_any c HX.out.2.2.1 _).mono ?_; rw [← HR.out]; rintro e w' ⟨rfl, rfl⟩)
 rw [rounds_succ]; go_wp2_with (go_at_call 110; refine (ones_any d HX.out.2.2.2 _).mono ?_; rw [← HS.out]; rintro e w' ⟨rfl, rfl⟩)
 rw [rounds_succ]; go_wp2
 go_ret
 exact ⟨ret_int (by omega), (Below.refl _ _).alloc (Nat.le_refl _) _⟩
end Go.Proofs.YtnbchikiiipejaaGreatDoor.Bg
namespace Go.Proofs.YtnbchikiiipejaaGreatDoor.Bg
open Go.RowKit Go.Shelf Mem
attribute [local go_sem] Oper.semAt_some
def pf (x : Bag) (k : Nat) : List Int := (if 0 < k then x.part 0 else []) ++ ((if 1 < k then x.part 1 else []) ++ ((if 2 < k then x.part 2 else []) ++ (if 3 < k then x.part 3 else [])))
theorem pf_all (x : Bag) : pf x 4 = x.list := by rw [list_parts]; rfl
theorem pf_succ (x : Bag) (k : Nat) (hk : k < 4) : pf x (k + 1) = pf x k ++ x.part k := by
 rcases (show k = 0 ∨ k = 1 ∨ k = 2 ∨ k = 3 by omega) with rfl | rfl | rfl | rfl <;> simp [pf]
theorem pf_pre (x : Bag) (k : Nat) (hk : k ≤ 4) : pf x k <+: x.list := by
 rw [← pf_all]
 rcases (show k = 0 ∨ k = 1 ∨ k = 2 ∨ k = 3 ∨ k = 4 by omega) with rfl | rfl | rfl | rfl | rfl <;> simp [pf]
theorem ix_any (x : Bag) (k : Nat) (hk : k < 4) (w : World) : (Instr.index 27 (.agg #[.int .u64 x.a, .int .u64 x.b, .int .u64 x.c, .int .u64 x.d]) (.int .i64 (k : Int))).run Tryz.prog w = .ok (.int .u64 (x.word k)) w := by
 rcases (show k = 0 ∨ k = 1 ∨ k = 2 ∨ k = 3 by omega) with rfl | rfl | rfl | rfl
 ·exact ix0 _ _ _ _ w
 ·exact ix1 _ _ _ _ w
 ·exact ix2 _ _ _ _ w
 ·exact ix3 _ _ _ _ w
theorem all_in (F : Fence) (n : Nat) (hF : F.fn 74) (hro : F.round = none) (x : Bag) (w : World) :
  CallsIn F n Tryz.prog 74 #[bagV x] w fun e w' => e = .returned (.func (.func 123) #[] #[.pointer (some ⟨w.heap.size, 0, none⟩)]) ∧ w' = w.alloc (.cells #[.int .u64 x.a, .int .u64 x.b, .int .u64 x.c, .int .u64 x.d] 29) := by
 unfold bagV
 refine callsIn_of_wp Tryz.func74 rfl hF ?_ hro
 simp only [Tryz.ntmps74, List.size_toArray, List.length_cons, List.length_nil, Nat.reduceAdd, Nat.reduceSub, Array.replicate_succ, Array.replicate_zero, List.push_toArray, List.append_toArray, List.nil_append, List.cons_append]
 gi_wp2
 go_ret
 exact ⟨rfl, rfl⟩
theorem all1_in (n : Nat) (hn : 1 ≤ n) (l Bn n₀ : Nat) (x : Bag) (hx : x.ok) (J Jx : List Int → World → Prop) (hn0 : 0 < n₀)
  (hY : ∀ pre y W, J pre W → pre ++ [y] <+: x.list → YieldAt Fence.wide (n - 1) Tryz.prog l #[.int .i64 y] W fun e W' =>
    (e = .returned (.bool true) ∧ J (pre ++ [y]) W' ∧ Below n₀ W W') ∨ (e = .returned (.bool false) ∧ Jx (pre ++ [y]) W'))
  (W : World) (hBn : At W Bn x) (hT : Tab W) (h0 : J [] W) :
  CallsIn Fence.wide n Tryz.prog 123 #[.func (.yield l) #[] #[], .pointer (some ⟨Bn, 0, none⟩)] W fun e W' => (∃ v, e = .returned v) ∧
   ((∃ ys, ys = x.list ∧ J ys W') ∨ (∃ pre, pre <+: x.list ∧ Jx pre W')) := by
 obtain ⟨c0, c1, c2, c3, _⟩ := hBn.cell
 have HT := Lib.hid hT
 have H0 := Lib.hid h0
 have HX := Lib.hid hx
 have HYY := Lib.hid hY
 clear hT h0 hx hBn hY
 refine callsIn_of_wp Tryz.func123 rfl trivial ?_ rfl
 simp only [Tryz.ntmps123, List.size_toArray, List.length_cons, List.length_nil, Nat.reduceAdd, Nat.reduceSub, Array.replicate_succ, Array.replicate_zero, List.push_toArray, List.append_toArray, List.nil_append, List.cons_append]
 gi_wp2
 gi_loopw [7] (fun i wr => ∃ k : Nat, k ≤ 4 ∧ i = .int .i64 k ∧ Hid (J (pf x k) wr) ∧ Hid (Tab wr)) (fun i _ => 4 - (intOf i).toNat)
 case atStart => exact ⟨0, by omega, rfl, H0, HT⟩
 case round =>
  obtain ⟨k, hk, rfl, hJ, hTr⟩ := hrel
  by_cases hlt : k < 4
  ·have hix := ix_any x k hlt
   have hd4 : decide ((k : Int) < 4) = true := by simp; omega
   have HPS := Lib.hid (pf_succ x k hlt)
   have HPP := Lib.hid (pf_pre x (k + 1) (by omega))
   gi_wp2
   obtain ⟨wo, rfl⟩ : ∃ wo : World, wo = wr := ⟨_, rfl⟩
   gi_loopw [4] (fun v wr => ∃ (u : Nat) (pre : List Int), v = .int .u64 u ∧ Hid (u < 18446744073709551616) ∧ Hid (J pre wr) ∧ Hid (Tab wr) ∧ Hid (pre ++ (bitsOf u).map (fun j => ((64 * k + j : Nat) : Int)) = pf x (k + 1))) (fun v _ => (intOf v).toNat)
   case atStart => exact ⟨x.word k, pf x k, rfl, word_lt HX.out k, hJ, hTr, HPS.out.symm⟩
   case round =>
    obtain ⟨u, pre, rfl, hu, hJ2, hT2, hpre⟩ := hrel
    by_cases hu0 : u = 0
    ·subst hu0
     gi_wp2
     go_roundw
     case rel => exact ⟨k + 1, by omega, by go_num, by have h := hpre.out; rw [bits_zero] at h; simp at h; rw [← h]; exact hJ2, hT2⟩
     case measure => simp [intOf]; omega
    ·have hd : ((u : Int) != 0) = true := by simp; omega
     have HB := Lib.hid (bits_cons hu0 hu.out)
     have HC := Lib.hid (clear_lt hu0 hu.out)
     have HD := Lib.hid hu0
     have hc64 : Lib.ctz 64 u < 64 := bits_lt (w := u) (by rw [HB.out]; simp)
     obtain ⟨z, hz⟩ : ∃ z, z = Lib.ctz 64 u := ⟨_, rfl⟩
     rw [← hz] at hc64
     have HZ := Lib.hid hz
     have HE : Hid (bits .and .u64 (u : Int) (IntKind.u64.wrap ((u : Int) - 1)) = ((u &&& (u - 1) : Nat) : Int)) := by
      show _ = _
      have h1 := hu.out
      have h2 := HD.out
      rw [show ((u : Int) - 1) = ((u - 1 : Nat) : Int) from by omega, wrap_nat _ (by omega), u64_and_nat _ _ h1 (by omega)]
     have HQ : Hid ((pre ++ [(k : Int) * 64 + (z : Int)]) ++ (bitsOf (u &&& (u - 1))).map (fun j => ((64 * k + j : Nat) : Int)) = pf x (k + 1)) := by
      show _ = _
      have h1 := hpre.out
      rw [HB.out, List.map_cons, ← HZ.out, show ((64 * k + z : Nat) : Int) = (k : Int) * 64 + (z : Int) from by omega] at h1
      rw [← h1, List.append_assoc]; rfl
     have hlen : pre ++ [(k : Int) * 64 + (z : Int)] <+: x.list := by
      have h1 := HPP.out
      rw [← HQ.out] at h1
      exact List.IsPrefix.trans (List.prefix_append _ _) h1
     obtain ⟨fn, tmps, assign, body, hy, hR⟩ := HYY.out pre ((k : Int) * 64 + (z : Int)) wr hJ2.out hlen
     clear hz hlen
     gi_wp2_with (refine ⟨trivial, ?_⟩; gi_at_call 124; refine (callsIn_wide.2 (tz_any u hu.out HD.out _ hT2.out)).mono ?_; rw [← HZ.out]; rintro e w' ⟨rfl, rfl⟩)
     refine hR.mono ?_
     rintro e W3 (⟨rfl, hJ3, hk3⟩ | ⟨rfl, hJx3⟩)
     ·have HJ3 := Lib.hid hJ3
      have HT3 := Lib.hid (hT2.out.below hk3 hn0)
      clear hJ3 hk3
      gi_wp2
      go_roundw
      case rel => exact ⟨u &&& (u - 1), _, by rw [HE.out], Nat.lt_of_lt_of_le HC.out (Nat.le_of_lt hu.out), HJ3, HT3, HQ⟩
      case measure => rw [HE.out]; simpa [intOf] using HC.out
     ·have HJX := Lib.hid hJx3
      clear hJx3
      gi_wp2
      refine bodyPost_ret (results_none rfl _ _ _) rfl ?_
      refine ⟨⟨_, rfl⟩, .inr ⟨_, ?_, HJX.out⟩⟩
      have h1 := HPP.out
      rw [← HQ.out] at h1
      exact List.IsPrefix.trans (List.prefix_append _ _) h1
  ·obtain rfl : k = 4 := by omega
   gi_wp2
   go_end0
   exact ⟨⟨_, rfl⟩, .inl ⟨_, pf_all x, hJ.out⟩⟩
theorem all_stops (n : Nat) (hn : 1 ≤ n) (Bn n₀ : Nat) (x : Bag) (hx : x.ok) (w : World) (hBn : Bn < w.heap.size) (hn₀ : n₀ ≤ w.heap.size) (h0 : 0 < n₀) (hc : At w Bn x) (hT : Tab w) :
  SeqStopsK Fence.wide n Tryz.prog 123 #[.pointer (some ⟨Bn, 0, none⟩)] (fun y : Int => #[Value.int .i64 y]) (Below n₀) (fun ys => ys = x.list) (fun pre => pre <+: x.list) x.list.length w := fun l J Jx W hW _ _ hY hj =>
 all1_in n hn l Bn n₀ x hx J Jx h0 (fun pre y W1 hj1 hp => hY pre y W1 hj1 (by have := hp.length_le; simp at this; omega)) W (hc.below hW hBn) (hT.below hW (by omega)) hj
theorem all_stops_in (n : Nat) (hn : 1 ≤ n) (Bn n₀ : Nat) (x : Bag) (hx : x.ok) (w : World) (hBn : Bn < w.heap.size) (hn₀ : n₀ ≤ w.heap.size) (h0 : 0 < n₀) (hc : At w Bn x) (hT : Tab w) :
  SeqStopsK Fence.wide n Tryz.prog 123 #[.pointer (some ⟨Bn, 0, none⟩)] (fun y : { y : Int // y ∈ x.list } => #[Value.int .i64 y.1]) (Below n₀) (fun ys => ys.map (·.1) = x.list) (fun _ => True) x.list.length w := by
 intro l J Jx W hW _ _ hY hj
 refine (all1_in n hn l Bn n₀ x hx (fun pre W => ∃ ys : List { y : Int // y ∈ x.list }, ys.map (·.1) = pre ∧ J ys W) (fun pre W => ∃ ys : List { y : Int // y ∈ x.list }, Jx ys W) h0 ?_ W (hc.below hW hBn) (hT.below hW (by omega)) ⟨[], rfl, hj⟩).mono ?_
 ·rintro pre y W1 ⟨ys, rfl, hj1⟩ hp
  have hm : y ∈ x.list := hp.subset (by simp)
  have hlen : ys.length < x.list.length := by have := hp.length_le; simp at this; omega
  obtain ⟨fn, tmps, assign, body, h1, h2⟩ := hY ys ⟨y, hm⟩ W1 hj1 hlen
  refine ⟨fn, tmps, assign, body, h1, h2.mono ?_⟩
  rintro e W' (⟨a, b, c⟩ | ⟨a, b⟩)
  ·exact .inl ⟨a, ⟨ys ++ [⟨y, hm⟩], by simp, b⟩, c⟩
  ·exact .inr ⟨a, _, b⟩
 ·rintro e W' ⟨hv, h⟩
  refine ⟨hv, ?_⟩
  rcases h with ⟨ys, h1, zs, h2, h3⟩ | ⟨pre, _, zs, h3⟩
  ·exact .inl ⟨zs, h2.trans h1, h3⟩
  ·exact .inr ⟨zs, trivial, h3⟩
end Go.Proofs.YtnbchikiiipejaaGreatDoor.Bg
namespace Go.Proofs.YtnbchikiiipejaaGreatDoor.Bg
open Go.RowKit Go.Shelf Mem
attribute [local go_sem] Oper.semAt_some
def IsSl (W : World) (zs : List Int) (e : Ending) (w' : World) : Prop := ∃ A c, e = .returned (.slice A zs.length c) ∧ zs.length ≤ c ∧ Row .i64 w' A zs.length zs ∧ Below W.heap.size W w'
theorem info_i64 : (Tryz.prog.info? 3).map (fun i => (i.zero, i.size, i.bytes)) = some (some (.int .i64 0), 1, 8) := by kernel_rfl
theorem Bag.list_wf (x : Bag) : ∀ z ∈ x.list, (Lit.int .i64 z).wf = true := by
 intro z hz
 obtain ⟨n, hn, rfl⟩ := List.mem_map.1 hz
 have := List.mem_range.1 (List.mem_filter.1 hn).1
 exact WalkArith.wf_i64 (by simp; omega)
theorem list_any (x : Bag) (hx : x.ok) (w : World) (hT : Tab w) : Calls Tryz.prog 25 #[bagV x] w (IsSl w x.list) := by
 refine (callsIn_wide (n := 3)).1 ?_
 obtain ⟨i0, hi, hz0, hz1, hz2⟩ := info_parts info_i64
 unfold bagV
 refine callsIn_of_wp_marks Tryz.func25 rfl trivial ?_ rfl
 simp only [Tryz.ntmps25, List.size_toArray, List.length_cons, List.length_nil, Nat.reduceAdd, Nat.reduceSub, Array.replicate_succ, Array.replicate_zero, List.push_toArray, List.append_toArray, List.nil_append, List.cons_append]
 gi_wp2_with (refine ⟨trivial, ?_⟩; gi_at_call 74; refine (all_in Fence.wide (3 - 1) trivial rfl x _).mono ?_; rintro e w' ⟨rfl, rfl⟩)
 have a0 := At.new w x
 have a1 := a0.alloc (.cells #[.slice none 0 0] 39)
 have bO := Boxed.new (w.alloc (.cells #[.int .u64 x.a, .int .u64 x.b, .int .u64 x.c, .int .u64 x.d] 29)) 39 (.slice none 0 0)
 have bN := At.new ((w.alloc (.cells #[.int .u64 x.a, .int .u64 x.b, .int .u64 x.c, .int .u64 x.d] 29)).alloc (.cells #[.slice none 0 0] 39)) x
 simp only [World.size_alloc] at bO bN
 have hB0 := (((Below.refl _ w).alloc (Nat.le_refl _) (.cells #[.int .u64 x.a, .int .u64 x.b, .int .u64 x.c, .int .u64 x.d] 29)).alloc (by simp) (.cells #[.slice none 0 0] 39)).alloc (by simp; omega) (.cells #[.int .u64 x.a, .int .u64 x.b, .int .u64 x.c, .int .u64 x.d] 29)
 have hlen := list_length_le x
 refine wpIn_rangeFunc_ownG rfl (by omega) (gf := 123) (lb := #[.pointer (some ⟨w.heap.size + 1 + 1, 0, none⟩)]) rfl trivial (enters_of Tryz.func123 (by kernel_rfl) rfl)
  (all_stops (3 - 1) (by omega) (w.heap.size + 1 + 1) w.heap.size x hx _ (by simp) (by simp; omega) hT.2 bN (hT.below hB0 hT.2)) belowK_t (belowK_b (by simp; omega)) (Below.refl _ _) (fun _ => rfl)
  (fun pre W => (∃ v, Boxed W (w.heap.size + 1) 39 v ∧ W.ownsRow w.heap.size 3 1 v pre.length (pre.map (Value.int .i64)) ∧ True) ∧ Below w.heap.size w W)
  (fun _ _ _ => False)
  (OwnFrom.and (Own.from (holdsRow_own w.heap.size (w.heap.size + 1) 39 3 1 (fun pre : List Int => pre.length) (fun pre : List Int => pre.map (Value.int .i64)) (fun (pre : List Int) v => True)) _) (ownFrom_below (Nat.le_refl _) (by simp; omega)))
  (fun _ _ _ _ _ hs _ _ => hs)
  ⟨⟨_, bO.alloc _, World.ownsRow_nil _ _ _ _, trivial⟩, hB0⟩
  (fun y => { tmps := #[.agg #[.int .u64 x.a, .int .u64 x.b, .int .u64 x.c, .int .u64 x.d], .pointer (some ⟨w.heap.size, 0, none⟩), .slice none 0 0, .pointer (some ⟨w.heap.size + 1, 0, none⟩), .int .i64 y, .agg #[.int .u64 x.a, .int .u64 x.b, .int .u64 x.c, .int .u64 x.d], .func (.func 123) #[] #[.pointer (some ⟨w.heap.size + 1 + 1, 0, none⟩)], .int .i64 y, undef, undef, undef, undef, undef], defers := [] }) ?assign ?body ?done ?stop
 case assign =>
  intro l y W K hK
  gi_wp2
  exact hK
 case body =>
  rintro l pre y W ⟨⟨v, hv, hrow, _⟩, hB⟩ hlt
  have hc := hv.cell
  gi_wp2_with (gi_at_builtin; refine wpListIn_append_own _ rfl _ _ 39 rfl w.heap.size 3 i0 (.int .i64 0) 1 8 Tryz.underlying39 hi hz0 hz1 hz2 rfl (by decide) _ _ _ rfl (hrow.alloc _) ⟨W.heap.size, 0, none⟩ 1 1 [.int .i64 y] rfl rfl (cell_one_new _ _ _) (by simp [Value.oneCell']) (by unfold maxLen; omega) (by omega) (by have := hB.size; simp; omega) ?_; intro v' w1 hown' hgrow _; obtain ⟨g', cap', rfl⟩ := ownsRow_succ hown'; obtain ⟨hv1, hv2, hr2, hk2, hb2⟩ := hv.appended (by decide) hrow hB.size (by omega) hown' hgrow; have hc1 := hv1.cell; have hf1 := hv1.frozen)
  exact ⟨hk2.from _, hb2, ⟨_, hv2, by simpa using hr2, trivial⟩, hB.trans hb2⟩
 case done =>
  rintro D' ys W hD rfl ⟨⟨v, hv, hrow, _⟩, hB⟩ hK
  have hc := hv.cell
  gi_wp2
  refine ⟨by simp, .inl ⟨_, _, rfl, run_takeDeferred hK, ?_⟩⟩
  have hfin := ownsRow_putObj hrow (.deferred none) hK rfl
  obtain ⟨A1, c1, rfl, hc1, hr1⟩ := Row.of_own hfin x.list_wf
  exact ⟨_, results_tmp rfl _ _ _, A1, c1, rfl, hc1, hr1, hB.trans (belowK_b (w := w) (Nat.le_refl _) W D' _ _ (by simp at hD; omega) hK rfl rfl)⟩
 case stop =>
  rintro D' c pre W _ _ h _
  exact h.elim
end Go.Proofs.YtnbchikiiipejaaGreatDoor.Bg
