/- Walks of bag: fits, Has. Walks of bag: Of. Walks of bag: Or, And, Not. Walks of bag: OnesCount64, TrailingZeros64, Len. -/
import Derived.Test.YtnbchikiiipejaaDoorProg
import Derived.WalkKit
import Derived.ProofKit
import Derived.RegionTactic
import Derived.BigRegion
import Derived.BigQuiet
import Derived.Deep.QuietTactic
import Derived.Outline
import Derived.Lib.Hide
import Derived.Below
import Derived.Test.YtnbchikiiipejaaDoorBgPop
import Derived.Test.YtnbchikiiipejaaDoorMem
import Derived.LoopTactic
import Derived.Laws.Bits128
import Derived.Shelf.Spec.TrailingZeros
namespace Go.Proofs.YtnbchikiiipejaaDoor.Bg
open Go.RowKit
set_option linter.unusedVariables false

theorem ret_bool {a b : Bool} (h : a = b) : Ending.returned (.bool a) = .returned (.bool b) := by rw [h]
theorem ret_int {k : IntKind} {a b : Int} (h : a = b) : Ending.returned (.int k a) = .returned (.int k b) := by rw [h]

theorem bit_at (a r : Nat) (h : a < 18446744073709551616) : (bits .and .u64 ((a : Int) / 2 ^ r) 1 == 1) = a.testBit r := by
  have e : ((a : Int) / 2 ^ r) = ((a / 2 ^ r : Nat) : Int) := by simp
  have hl : a / 2 ^ r < 18446744073709551616 := Nat.lt_of_le_of_lt (Nat.div_le_self _ _) h
  rw [e, show (1 : Int) = ((1 : Nat) : Int) from rfl, u64_and_nat _ _ hl (by decide), Nat.and_one_is_mod, Nat.testBit_eq_decide_div_mod_eq]
  rw [Bool.eq_iff_iff]; simp; omega

/-- a bag as a value -/
def bagV (x : Bag) : Value := .agg #[.int .u64 x.a, .int .u64 x.b, .int .u64 x.c, .int .u64 x.d]

theorem fits_any (n : Int) (w : World) : Calls Tryd.prog 28 #[.int .i64 n] w fun e w' => e = .returned (.bool (inB n)) ∧ w = w' := by
  by_cases h0 : 0 ≤ n
  · have : ¬ n < 0 := by omega
    by_cases h1 : n < 256
    · go_enter Tryd.func28, Tryd.ntmps28
      go_wp2
      go_ret
      exact ⟨by simp [inB, h0, h1], rfl⟩
    · go_enter Tryd.func28, Tryd.ntmps28
      go_wp2
      go_ret
      exact ⟨by simp [inB, h0, h1], rfl⟩
  · go_enter Tryd.func28, Tryd.ntmps28
    go_wp2
    go_ret
    exact ⟨by simp [inB]; omega, rfl⟩

theorem or_at (a r : Nat) (h : a < 18446744073709551616) (hr : r < 64) : bits .or .u64 (a : Int) (IntKind.u64.wrap (2 ^ r)) = ((setW a r : Nat) : Int) := by
  have hp : (2 : Nat) ^ r < 18446744073709551616 := Nat.lt_of_lt_of_le (Nat.pow_lt_pow_right (by decide) hr) (show (2 : Nat) ^ 64 ≤ _ by decide)
  have e : IntKind.u64.wrap (2 ^ r) = ((2 ^ r : Nat) : Int) := by
    rw [IntKind.wrap_u64]
    have : ((2 ^ r : Nat) : Int) = (2 : Int) ^ r := by simp
    rw [← this]
    generalize 2 ^ r = p at hp ⊢
    omega
  rw [e, u64_or_nat _ _ h hp]
  rfl

set_option maxRecDepth 100000 in
set_option maxHeartbeats 1000000 in
theorem with_in (x : Bag) (hx : x.ok) (n : Nat) (h : n < 256) (w : World) : Calls Tryd.prog 16 #[bagV x, .int .i64 n] w fun e w' => e = .returned (bagV (x.withN n)) ∧ Below w.heap.size w w' := by
  have hf : inB n = true := inB_true.2 (by omega)
  have HF := Lib.hid hf
  clear hf
  obtain ⟨a, b, c, d⟩ := x
  have HX := Lib.hid hx
  clear hx
  have hm0 : 0 ≤ (n : Int) % 64 := by omega
  have hm1 : (n : Int) % 64 ≤ 64 := by omega
  have HM : Hid (n % 64 < 64) := by show _ < _; omega
  unfold bagV
  dsimp only
  rcases (show n / 64 = 0 ∨ n / 64 = 1 ∨ n / 64 = 2 ∨ n / 64 = 3 by omega) with e | e | e | e
  all_goals
    have E := Lib.hid e
    first
      | have hq : (n : Int) / 64 = 0 := by omega
      | have hq : (n : Int) / 64 = 1 := by omega
      | have hq : (n : Int) / 64 = 2 := by omega
      | have hq : (n : Int) / 64 = 3 := by omega
    clear e
    go_enter Tryd.func16, Tryd.ntmps16
    go_wp2_with (go_at_call 28; refine (fits_any _ _).mono ?_; rw [HF.out]; rintro e w' ⟨rfl, rfl⟩)
    go_region
    all_goals
      go_wp2
      obtain ⟨h1, h2, h3, h4⟩ := HX.out
      dsimp only at h1 h2 h3 h4
      first
        | exact bodyPost_ret (v := .agg #[.int .u64 (bits .or .u64 (a : Int) (IntKind.u64.wrap (2 ^ (n % 64)))), .int .u64 b, .int .u64 c, .int .u64 d]) (by simp [results, Tryd.results16, go_sem]) rfl ⟨by simp only [Bag.withN, E.out, or_at a _ h1 HM.out]; rfl, (((Below.refl _ w).alloc (Nat.le_refl _) _).alloc (by simp) _).drew⟩
        | exact bodyPost_ret (v := .agg #[.int .u64 a, .int .u64 (bits .or .u64 (b : Int) (IntKind.u64.wrap (2 ^ (n % 64)))), .int .u64 c, .int .u64 d]) (by simp [results, Tryd.results16, go_sem]) rfl ⟨by simp only [Bag.withN, E.out, or_at b _ h2 HM.out]; rfl, (((Below.refl _ w).alloc (Nat.le_refl _) _).alloc (by simp) _).drew⟩
        | exact bodyPost_ret (v := .agg #[.int .u64 a, .int .u64 b, .int .u64 (bits .or .u64 (c : Int) (IntKind.u64.wrap (2 ^ (n % 64)))), .int .u64 d]) (by simp [results, Tryd.results16, go_sem]) rfl ⟨by simp only [Bag.withN, E.out, or_at c _ h3 HM.out]; rfl, (((Below.refl _ w).alloc (Nat.le_refl _) _).alloc (by simp) _).drew⟩
        | exact bodyPost_ret (v := .agg #[.int .u64 a, .int .u64 b, .int .u64 c, .int .u64 (bits .or .u64 (d : Int) (IntKind.u64.wrap (2 ^ (n % 64))))]) (by simp [results, Tryd.results16, go_sem]) rfl ⟨by simp only [Bag.withN, E.out, or_at d _ h4 HM.out]; rfl, (((Below.refl _ w).alloc (Nat.le_refl _) _).alloc (by simp) _).drew⟩

theorem with_any (x : Bag) (hx : x.ok) (n : Int) (w : World) : Calls Tryd.prog 16 #[bagV x, .int .i64 n] w fun e w' => e = .returned (bagV (x.withI n)) ∧ Below w.heap.size w w' := by
  by_cases h : inB n = true
  · obtain ⟨h0, h1⟩ := inB_true.1 h
    obtain ⟨k, rfl⟩ := Int.eq_ofNat_of_zero_le h0
    rw [show x.withI (k : Int) = x.withN k from by simp [Bag.withI, h]]
    exact with_in x hx k (by omega) w
  · have hf : inB n = false := by simpa using h
    have HF := Lib.hid hf
    rw [show x.withI n = x from by simp [Bag.withI, hf]]
    clear hf h hx
    unfold bagV
    go_enter Tryd.func16, Tryd.ntmps16
    go_wp2_with (go_at_call 28; refine (fits_any _ _).mono ?_; rw [HF.out]; rintro e w' ⟨rfl, rfl⟩)
    exact bodyPost_ret (v := .agg #[.int .u64 x.a, .int .u64 x.b, .int .u64 x.c, .int .u64 x.d]) (by simp [results, Tryd.results16, go_sem]) rfl ⟨rfl, ((Below.refl _ w).alloc (Nat.le_refl _) _).alloc (by simp) _⟩
end Go.Proofs.YtnbchikiiipejaaDoor.Bg
namespace Go.Proofs.YtnbchikiiipejaaDoor.Bg
open Go.RowKit Mem
set_option linter.unusedVariables false

/-- a block that holds a bag -/
def At (W : World) (g : Nat) (x : Bag) : Prop := W.heap[g]? = some (.cells #[.int .u64 x.a, .int .u64 x.b, .int .u64 x.c, .int .u64 x.d] 33 (0, 0))
theorem At.lt {W : World} {g : Nat} {x : Bag} (h : At W g x) : g < W.heap.size := (Array.getElem?_eq_some_iff.1 h).1
theorem At.below {W W' : World} {g n : Nat} {x : Bag} (h : At W g x) (hb : Below n W W') (hg : g < n) : At W' g x := by
  unfold At; rw [hb.block g hg]; exact h
theorem At.cell {W : World} {g : Nat} {x : Bag} (h : At W g x) : W.cell? ⟨g, 0, none⟩ = some (.int .u64 x.a) ∧ W.cell? ⟨g, 1, none⟩ = some (.int .u64 x.b) ∧ W.cell? ⟨g, 2, none⟩ = some (.int .u64 x.c) ∧ W.cell? ⟨g, 3, none⟩ = some (.int .u64 x.d) ∧ (∀ j, W.frozen? ⟨g, j, none⟩ = false) := by
  unfold At at h
  refine ⟨?_, ?_, ?_, ?_, fun j => ?_⟩
  all_goals first | (simp [World.cell?, h]; done) | (simp [World.frozen?, h]; done) | (simp [World.frozen?, h]; omega)
theorem At.new (W : World) (x : Bag) : At (W.alloc (.cells #[.int .u64 x.a, .int .u64 x.b, .int .u64 x.c, .int .u64 x.d] 33)) W.heap.size x := heap_alloc_new _ _
theorem At.alloc {W : World} {g : Nat} {x : Bag} (h : At W g x) (o : Obj) : At (W.alloc o) g x := h.below (n := W.heap.size) ((Below.refl _ W).alloc (Nat.le_refl _) o) h.lt

theorem At.store {W : World} {g : Nat} {x : Bag} (h : At W g x) (y : Bag) : At ((((W.setCell ⟨g, 0, none⟩ (.int .u64 y.a)).setCell ⟨g, 1, none⟩ (.int .u64 y.b)).setCell ⟨g, 2, none⟩ (.int .u64 y.c)).setCell ⟨g, 3, none⟩ (.int .u64 y.d)) g y := by
  unfold At at h ⊢
  simp [World.setCell, Array.getElem?_modify, h]
theorem At.other {W : World} {g k : Nat} {x : Bag} (h : At W g x) (hk : g ≠ k) (j : Nat) (v : Value) : At (W.setCell ⟨k, j, none⟩ v) g x := by
  unfold At; rw [Below.heap_setCell _ _ _ _ hk]; exact h

set_option maxRecDepth 100000 in
set_option maxHeartbeats 1000000 in
theorem of_any (A : Option Addr) (n c : Nat) (zs : List Int) (w : World) (hr : Row .i64 w A n zs) (hn : n ≤ 1000000) :
    Calls Tryd.prog 6 #[.slice A n c] w fun e w' => e = .returned (bagV (ofL zs)) ∧ Below w.heap.size w w' := by
  go_enter Tryd.func6, Tryd.ntmps6
  go_wp2
  have hw0 := At.new (w.alloc (.cells #[.int .u64 (0 : Nat), .int .u64 (0 : Nat), .int .u64 (0 : Nat), .int .u64 (0 : Nat)] 33)) nil
  rw [World.size_alloc] at hw0
  have hv0 := At.new w nil
  have hb0 : Below w.heap.size w _ := (((Below.refl _ w).alloc (Nat.le_refl _) (.cells #[.int .u64 (0 : Nat), .int .u64 (0 : Nat), .int .u64 (0 : Nat), .int .u64 (0 : Nat)] 33)).alloc (by simp) (.cells #[.int .u64 (0 : Nat), .int .u64 (0 : Nat), .int .u64 (0 : Nat), .int .u64 (0 : Nat)] 33))
  have HR := Lib.hid hr
  have H0 := Lib.hid hw0
  have HV := Lib.hid hv0
  have HB := Lib.hid hb0
  clear hr hw0 hv0 hb0
  go_loopw [8] (fun i wr => ∃ k : Nat, k ≤ n ∧ i = .int .i64 k ∧ Below w.heap.size w wr ∧ At wr (w.heap.size + 1) (ofL (zs.take k)) ∧ ∃ y, At wr w.heap.size y) (fun i _ => n - (intOf i).toNat)
  case atStart => exact ⟨0, Nat.zero_le _, rfl, HB.out, H0.out, nil, HV.out.alloc _⟩
  case round =>
    obtain ⟨k, hk, rfl, hb, ha, y, hy⟩ := hrel
    have hlt1 := ha.lt
    by_cases hlt : k < n
    · obtain ⟨c0, c1, c2, c3, hf⟩ := ha.cell
      have hf0 := hf 0; have hf1 := hf 1; have hf2 := hf 2; have hf3 := hf 3
      obtain ⟨bb, off, rfl, hbb, hc⟩ := (HR.out.below hb).at_ (show 0 < n by omega)
      have hck := hc k hlt
      have hok := Lib.hid (ofL_ok (zs.take k))
      have HA := Lib.hid ha; have HY := Lib.hid hy; have HB := Lib.hid hb
      clear ha hy hb hc hf
      go_wp2_with (go_at_call 16; refine (with_any (ofL (zs.take k)) hok.out _ _).mono ?_; rintro e w' ⟨rfl, hb1⟩; unfold bagV; have HA1 := Lib.hid (HA.out.below hb1 hlt1); have HB1 := Lib.hid hb1; obtain ⟨d0, d1, d2, d3, df⟩ := HA1.out.cell; have df0 := df 0; have df1 := df 1; have df2 := df 2; have df3 := df 3; clear hb1 df)
      go_roundw
      case rel =>
        have e : ofL (zs.take (k + 1)) = (ofL (zs.take k)).withI (zs[k]?.getD 0) := by
          have hl : k < zs.length := by have := HR.out.1; omega
          rw [List.take_succ_eq_append_getElem hl, ofL_snoc]
          simp [hl]
        refine ⟨k + 1, by omega, by go_num, ?_, ?_, y, ?_⟩
        · exact ((((HB.out.trans (HB1.out.mono HB.out.size)).setCell (by simp) _).setCell (by simp) _).setCell (by simp) _).setCell (by simp) _
        · rw [e]; exact HA1.out.store _
        · exact ((((HY.out.below HB1.out (by omega)).other (by omega) _ _).other (by omega) _ _).other (by omega) _ _).other (by omega) _ _
      case measure => simp [intOf]; omega
    · obtain rfl : k = n := by omega
      obtain ⟨c0, c1, c2, c3, hf⟩ := ha.cell
      obtain ⟨d0, d1, d2, d3, df⟩ := hy.cell
      have df0 := df 0; have df1 := df 1; have df2 := df 2; have df3 := df 3
      have HA := Lib.hid ha; have HY := Lib.hid hy; have HB := Lib.hid hb
      clear ha hy hb hf df
      go_wp2
      have e : zs.take k = zs := List.take_of_length_le (by have := HR.out.1; omega)
      have hs := HY.out.store (ofL (zs.take k))
      obtain ⟨s0, s1, s2, s3, _⟩ := hs.cell
      rw [e] at s0 s1 s2 s3
      refine bodyPost_ret (v := .agg #[.int .u64 (ofL zs).a, .int .u64 (ofL zs).b, .int .u64 (ofL zs).c, .int .u64 (ofL zs).d]) ?_ rfl ⟨rfl, ?_⟩
      · rw [e]; simp [results, Tryd.results6, go_sem, s0, s1, s2, s3]
      · exact ((((HB.out).setCell (by simp) _).setCell (by simp) _).setCell (by simp) _).setCell (by simp) _
end Go.Proofs.YtnbchikiiipejaaDoor.Bg
namespace Go.Proofs.YtnbchikiiipejaaDoor.Bg
open Go.RowKit Mem
set_option linter.unusedVariables false

theorem At.set0 {W : World} {g : Nat} {x : Bag} (h : At W g x) (p : Nat) : At (W.setCell ⟨g, 0, none⟩ (.int .u64 p)) g { x with a := p } := by
  unfold At at h ⊢
  simp [World.setCell, Array.getElem?_modify, h]
theorem At.set1 {W : World} {g : Nat} {x : Bag} (h : At W g x) (p : Nat) : At (W.setCell ⟨g, 1, none⟩ (.int .u64 p)) g { x with b := p } := by
  unfold At at h ⊢
  simp [World.setCell, Array.getElem?_modify, h]
theorem At.set2 {W : World} {g : Nat} {x : Bag} (h : At W g x) (p : Nat) : At (W.setCell ⟨g, 2, none⟩ (.int .u64 p)) g { x with c := p } := by
  unfold At at h ⊢
  simp [World.setCell, Array.getElem?_modify, h]
theorem At.set3 {W : World} {g : Nat} {x : Bag} (h : At W g x) (p : Nat) : At (W.setCell ⟨g, 3, none⟩ (.int .u64 p)) g { x with d := p } := by
  unfold At at h ⊢
  simp [World.setCell, Array.getElem?_modify, h]
theorem ix0 (a b c d : Int) (w : World) : (Instr.index 31 (.agg #[.int .u64 a, .int .u64 b, .int .u64 c, .int .u64 d]) (.int .i64 0)).run Tryd.prog w = .ok (.int .u64 a) w := by kernel_rfl
theorem ix1 (a b c d : Int) (w : World) : (Instr.index 31 (.agg #[.int .u64 a, .int .u64 b, .int .u64 c, .int .u64 d]) (.int .i64 1)).run Tryd.prog w = .ok (.int .u64 b) w := by kernel_rfl
theorem ix2 (a b c d : Int) (w : World) : (Instr.index 31 (.agg #[.int .u64 a, .int .u64 b, .int .u64 c, .int .u64 d]) (.int .i64 2)).run Tryd.prog w = .ok (.int .u64 c) w := by kernel_rfl
theorem ix3 (a b c d : Int) (w : World) : (Instr.index 31 (.agg #[.int .u64 a, .int .u64 b, .int .u64 c, .int .u64 d]) (.int .i64 3)).run Tryd.prog w = .ok (.int .u64 d) w := by kernel_rfl

/-- the first k words done -/
def upto (f : Nat → Nat → Nat) (k : Nat) (x y : Bag) : Bag :=
  ⟨if 0 < k then f x.a y.a else x.a, if 1 < k then f x.b y.b else x.b, if 2 < k then f x.c y.c else x.c, if 3 < k then f x.d y.d else x.d⟩
theorem upto_all (f : Nat → Nat → Nat) (x y : Bag) : upto f 4 x y = x.map2 f y := rfl

set_option maxRecDepth 100000 in
set_option maxHeartbeats 2000000 in
theorem or_any (x y : Bag) (hx : x.ok) (hy : y.ok) (w : World) :
    Calls Tryd.prog 50 #[bagV x, bagV y] w fun e w' => e = .returned (bagV (x.orB y)) ∧ Below w.heap.size w w' := by
  obtain ⟨a, b, c, d⟩ := x
  obtain ⟨a', b', c', d'⟩ := y
  have HX := Lib.hid hx
  have HY := Lib.hid hy
  clear hx hy
  have hw0 := ((At.new w ⟨a, b, c, d⟩).alloc (.cells #[.int .u64 a', .int .u64 b', .int .u64 c', .int .u64 d'] 33)).alloc (.cells #[.int .u64 (0 : Nat), .int .u64 (0 : Nat), .int .u64 (0 : Nat), .int .u64 (0 : Nat)] 33)
  have hv0 := At.new ((w.alloc (.cells #[.int .u64 a, .int .u64 b, .int .u64 c, .int .u64 d] 33)).alloc (.cells #[.int .u64 a', .int .u64 b', .int .u64 c', .int .u64 d'] 33)) nil
  simp only [World.size_alloc] at hv0
  have hb0 := (((Below.refl _ w).alloc (Nat.le_refl _) (.cells #[.int .u64 a, .int .u64 b, .int .u64 c, .int .u64 d] 33)).alloc (by simp) (.cells #[.int .u64 a', .int .u64 b', .int .u64 c', .int .u64 d'] 33)).alloc (by simp; omega) (.cells #[.int .u64 (0 : Nat), .int .u64 (0 : Nat), .int .u64 (0 : Nat), .int .u64 (0 : Nat)] 33)
  have H0 := Lib.hid hw0
  have HV := Lib.hid hv0
  have HB := Lib.hid hb0
  clear hw0 hv0 hb0
  unfold bagV
  go_enter Tryd.func50, Tryd.ntmps50
  go_wp2
  go_loopw [9] (fun i wr => ∃ (k : Nat) (j : Int), k ≤ 4 ∧ j = k ∧ i = .int .i64 j ∧ Below w.heap.size w wr ∧ At wr w.heap.size (upto (fun p q => p ||| q) k ⟨a, b, c, d⟩ ⟨a', b', c', d'⟩) ∧ ∃ z, At wr (w.heap.size + 1 + 1) z) (fun i _ => 4 - (intOf i).toNat)
  case atStart => exact ⟨0, 0, by omega, rfl, rfl, HB.out, H0.out, nil, HV.out⟩
  case round =>
    obtain ⟨k, j, hk, hj, rfl, hb, ha, z, hz⟩ := hrel
    have hzl := hz.lt
    obtain ⟨x1, x2, x3, x4⟩ := HX.out
    obtain ⟨y1, y2, y3, y4⟩ := HY.out
    dsimp only at x1 x2 x3 x4 y1 y2 y3 y4
    have e1 := Lib.hid (u64_or_nat a a' x1 y1)
    have e2 := Lib.hid (u64_or_nat b b' x2 y2)
    have e3 := Lib.hid (u64_or_nat c c' x3 y3)
    have e4 := Lib.hid (u64_or_nat d d' x4 y4)
    clear x1 x2 x3 x4 y1 y2 y3 y4
    rcases (show k = 0 ∨ k = 1 ∨ k = 2 ∨ k = 3 ∨ k = 4 by omega) with rfl | rfl | rfl | rfl | rfl
    · obtain rfl : j = 0 := by omega
      clear hj hk
      rw [show upto (fun p q => p ||| q) 0 ⟨a, b, c, d⟩ ⟨a', b', c', d'⟩ = ⟨a, b, c, d⟩ from rfl] at ha
      obtain ⟨c0, c1, c2, c3, cf⟩ := ha.cell
      have cf0 := cf 0; have cf1 := cf 1; have cf2 := cf 2; have cf3 := cf 3
      dsimp only at c0 c1 c2 c3
      have HA := Lib.hid ha; have HZ := Lib.hid hz; have HB := Lib.hid hb
      clear ha hz hb cf
      have i0 := ix0 a' b' c' d'; have i1 := ix1 a' b' c' d'; have i2 := ix2 a' b' c' d'; have i3 := ix3 a' b' c' d'
      go_wp2
      go_roundw
      case rel =>
        rw [e1.out]
        refine ⟨1, 1, by omega, rfl, rfl, HB.out.setCell (by simp) _, ?_, z, HZ.out.other (by omega) _ _⟩
        exact HA.out.set0 _
      case measure => simp [intOf]
    · obtain rfl : j = 1 := by omega
      clear hj hk
      rw [show upto (fun p q => p ||| q) 1 ⟨a, b, c, d⟩ ⟨a', b', c', d'⟩ = ⟨((fun p q => p ||| q) a a'), b, c, d⟩ from rfl] at ha
      obtain ⟨c0, c1, c2, c3, cf⟩ := ha.cell
      have cf0 := cf 0; have cf1 := cf 1; have cf2 := cf 2; have cf3 := cf 3
      dsimp only at c0 c1 c2 c3
      have HA := Lib.hid ha; have HZ := Lib.hid hz; have HB := Lib.hid hb
      clear ha hz hb cf
      have i0 := ix0 a' b' c' d'; have i1 := ix1 a' b' c' d'; have i2 := ix2 a' b' c' d'; have i3 := ix3 a' b' c' d'
      go_wp2
      go_roundw
      case rel =>
        rw [e2.out]
        refine ⟨2, 2, by omega, rfl, rfl, HB.out.setCell (by simp) _, ?_, z, HZ.out.other (by omega) _ _⟩
        exact HA.out.set1 _
      case measure => simp [intOf]
    · obtain rfl : j = 2 := by omega
      clear hj hk
      rw [show upto (fun p q => p ||| q) 2 ⟨a, b, c, d⟩ ⟨a', b', c', d'⟩ = ⟨((fun p q => p ||| q) a a'), ((fun p q => p ||| q) b b'), c, d⟩ from rfl] at ha
      obtain ⟨c0, c1, c2, c3, cf⟩ := ha.cell
      have cf0 := cf 0; have cf1 := cf 1; have cf2 := cf 2; have cf3 := cf 3
      dsimp only at c0 c1 c2 c3
      have HA := Lib.hid ha; have HZ := Lib.hid hz; have HB := Lib.hid hb
      clear ha hz hb cf
      have i0 := ix0 a' b' c' d'; have i1 := ix1 a' b' c' d'; have i2 := ix2 a' b' c' d'; have i3 := ix3 a' b' c' d'
      go_wp2
      go_roundw
      case rel =>
        rw [e3.out]
        refine ⟨3, 3, by omega, rfl, rfl, HB.out.setCell (by simp) _, ?_, z, HZ.out.other (by omega) _ _⟩
        exact HA.out.set2 _
      case measure => simp [intOf]
    · obtain rfl : j = 3 := by omega
      clear hj hk
      rw [show upto (fun p q => p ||| q) 3 ⟨a, b, c, d⟩ ⟨a', b', c', d'⟩ = ⟨((fun p q => p ||| q) a a'), ((fun p q => p ||| q) b b'), ((fun p q => p ||| q) c c'), d⟩ from rfl] at ha
      obtain ⟨c0, c1, c2, c3, cf⟩ := ha.cell
      have cf0 := cf 0; have cf1 := cf 1; have cf2 := cf 2; have cf3 := cf 3
      dsimp only at c0 c1 c2 c3
      have HA := Lib.hid ha; have HZ := Lib.hid hz; have HB := Lib.hid hb
      clear ha hz hb cf
      have i0 := ix0 a' b' c' d'; have i1 := ix1 a' b' c' d'; have i2 := ix2 a' b' c' d'; have i3 := ix3 a' b' c' d'
      go_wp2
      go_roundw
      case rel =>
        rw [e4.out]
        refine ⟨4, 4, by omega, rfl, rfl, HB.out.setCell (by simp) _, ?_, z, HZ.out.other (by omega) _ _⟩
        exact HA.out.set3 _
      case measure => simp [intOf]
    · obtain rfl : j = 4 := by omega
      clear hj hk
      rw [upto_all] at ha
      obtain ⟨c0, c1, c2, c3, cf⟩ := ha.cell
      obtain ⟨d0, d1, d2, d3, df⟩ := hz.cell
      have df0 := df 0; have df1 := df 1; have df2 := df 2; have df3 := df 3
      dsimp only [Bag.map2] at c0 c1 c2 c3
      have HA := Lib.hid ha; have HZ := Lib.hid hz; have HB := Lib.hid hb
      clear ha hz hb cf df
      go_wp2
      obtain ⟨s0, s1, s2, s3, _⟩ := (HZ.out.store (Bag.map2 (fun p q => p ||| q) ⟨a, b, c, d⟩ ⟨a', b', c', d'⟩)).cell
      dsimp only [Bag.map2] at s0 s1 s2 s3
      refine bodyPost_ret (v := bagV (Bag.map2 (fun p q => p ||| q) ⟨a, b, c, d⟩ ⟨a', b', c', d'⟩)) ?_ rfl ⟨rfl, ?_⟩
      · simp [results, Tryd.results50, go_sem, bagV, Bag.map2, s0, s1, s2, s3]
      · exact ((((HB.out).setCell (by simp; omega) _).setCell (by simp; omega) _).setCell (by simp; omega) _).setCell (by simp; omega) _
end Go.Proofs.YtnbchikiiipejaaDoor.Bg
namespace Go.Proofs.YtnbchikiiipejaaDoor.Bg
open Go.RowKit Mem
set_option linter.unusedVariables false

theorem wrap_nat (n : Nat) (h : n < 18446744073709551616) : IntKind.u64.wrap (n : Int) = (n : Int) := by rw [IntKind.wrap_u64]; omega

theorem sum_step (m c r d : Nat) (hd : c / m = d) (hr : r = c + d) (hl : r < 18446744073709551616) : IntKind.u64.wrap ((c : Int) + (c : Int) / (m : Int)) = (r : Int) := by
  rw [show ((c : Int) + (c : Int) / (m : Int)) = ((c + c / m : Nat) : Int) from by simp, hd, ← hr, wrap_nat _ hl]

/-- the sums in halves, as the walk spells them -/
theorem ones_facts (x : Nat) (hx : x < 18446744073709551616) : ∃ A B C C1 C2 C3 : Nat,
    IntKind.u64.wrap (bits .and .u64 ((x : Int) / 2) 6148914691236517205 + bits .and .u64 (x : Int) 6148914691236517205) = (A : Int) ∧
    IntKind.u64.wrap (bits .and .u64 ((A : Int) / 4) 3689348814741910323 + bits .and .u64 (A : Int) 3689348814741910323) = (B : Int) ∧
    bits .and .u64 (IntKind.u64.wrap ((B : Int) / 16 + (B : Int))) 1085102592571150095 = (C : Int) ∧
    IntKind.u64.wrap ((C : Int) + (C : Int) / 256) = (C1 : Int) ∧
    IntKind.u64.wrap ((C1 : Int) + (C1 : Int) / 65536) = (C2 : Int) ∧
    IntKind.u64.wrap ((C2 : Int) + (C2 : Int) / 4294967296) = (C3 : Int) ∧ C3 < 9223372036854775808 ∧
    C3 % 128 = (bitsOf x).length := by
  obtain ⟨p0, p1, p2, p3, p4, p5, p6, p7, hC, hA, hB, q0, q1, q2, q3, q4, q5, q6, q7, hn⟩ := steps x hx
  refine ⟨(x / 2 &&& 6148914691236517205) + (x &&& 6148914691236517205), (((x / 2 &&& 6148914691236517205) + (x &&& 6148914691236517205)) / 4 &&& 3689348814741910323) + (((x / 2 &&& 6148914691236517205) + (x &&& 6148914691236517205)) &&& 3689348814741910323), p0 + 256 * p1 + 65536 * p2 + 16777216 * p3 + 4294967296 * p4 + 1099511627776 * p5 + 281474976710656 * p6 + 72057594037927936 * p7, p0 + p1 + 256 * (p1 + p2) + 65536 * (p2 + p3) + 16777216 * (p3 + p4) + 4294967296 * (p4 + p5) + 1099511627776 * (p5 + p6) + 281474976710656 * (p6 + p7) + 72057594037927936 * p7,
    p0 + p1 + p2 + p3 + 256 * (p1 + p2 + p3 + p4) + 65536 * (p2 + p3 + p4 + p5) + 16777216 * (p3 + p4 + p5 + p6) + 4294967296 * (p4 + p5 + p6 + p7) + 1099511627776 * (p5 + p6 + p7) + 281474976710656 * (p6 + p7) + 72057594037927936 * p7,
    p0 + p1 + p2 + p3 + p4 + p5 + p6 + p7 + 256 * (p1 + p2 + p3 + p4 + p5 + p6 + p7) + 65536 * (p2 + p3 + p4 + p5 + p6 + p7) + 16777216 * (p3 + p4 + p5 + p6 + p7) + 4294967296 * (p4 + p5 + p6 + p7) + 1099511627776 * (p5 + p6 + p7) + 281474976710656 * (p6 + p7) + 72057594037927936 * p7,
    ?_, ?_, ?_, ?_, ?_, ?_, ?_, ?_⟩
  · rw [show ((x : Int) / 2) = ((x / 2 : Nat) : Int) from by simp, show (6148914691236517205 : Int) = ((6148914691236517205 : Nat) : Int) from rfl, u64_and_nat _ _ (by omega) (by decide), u64_and_nat _ _ hx (by decide), ← Int.natCast_add, wrap_nat _ hA]
  · generalize (x / 2 &&& 6148914691236517205) + (x &&& 6148914691236517205) = A at *
    rw [show ((A : Int) / 4) = ((A / 4 : Nat) : Int) from by simp, show (3689348814741910323 : Int) = ((3689348814741910323 : Nat) : Int) from rfl, u64_and_nat _ _ (by omega) (by decide), u64_and_nat _ _ hA (by decide), ← Int.natCast_add, wrap_nat _ (by omega)]
  · generalize (x / 2 &&& 6148914691236517205) + (x &&& 6148914691236517205) = A at *
    generalize (A / 4 &&& 3689348814741910323) + (A &&& 3689348814741910323) = B at *
    rw [show ((B : Int) / 16 + (B : Int)) = ((B / 16 + B : Nat) : Int) from by simp, wrap_nat _ (by omega), show (1085102592571150095 : Int) = ((1085102592571150095 : Nat) : Int) from rfl, u64_and_nat _ _ (by omega) (by decide), hC]
  · clear hC hA hB hn hx
    rw [IntKind.wrap_u64]; omega
  · clear hC hA hB hn hx
    refine sum_step 65536 _ _ (p2 + p3 + 256 * (p3 + p4) + 65536 * (p4 + p5) + 16777216 * (p5 + p6) + 4294967296 * (p6 + p7) + 1099511627776 * p7) (by omega) (by omega) (by omega)
  · clear hC hA hB hn hx
    refine sum_step 4294967296 _ _ (p4 + p5 + p6 + p7 + 256 * (p5 + p6 + p7) + 65536 * (p6 + p7) + 16777216 * p7) (by omega) (by omega) (by omega)
  · clear hC hA hB hn hx
    omega
  · rw [bits_cnt, hn]
    clear hC hA hB hn hx
    omega

set_option maxRecDepth 100000 in
set_option maxHeartbeats 1000000 in
theorem ones_any (x : Nat) (hx : x < 18446744073709551616) (w : World) :
    Calls Tryd.prog 31 #[.int .u64 x] w fun e w' => e = .returned (.int .i64 (bitsOf x).length) ∧ w = w' := by
  obtain ⟨A, B, C, C1, C2, C3, h1, h2, h3, h4, h5, h6, h7, h8⟩ := ones_facts x hx
  have H7 := Lib.hid h7
  have H8 := Lib.hid h8
  clear hx h7 h8
  go_enter Tryd.func31, Tryd.ntmps31
  go_wp2
  go_ret
  refine ⟨ret_int ?_, rfl⟩
  have e7 := H7.out
  have e8 := H8.out
  rw [show wrap64 (C3 : Int) = C3 from by unfold wrap64; omega, i64_and127]
  omega

theorem tz_core (x k idx : Nat) (w : World) (hx0 : ((x : Int) == 0) = false)
    (key : IntKind.u64.wrap (bits BinOp.and IntKind.u64 (x : Int) (IntKind.u64.wrap (-(x : Int))) * 285870213051353865) / 288230376151711744 = (idx : Int))
    (hi : idx < 64) (hk : k < 64) (hcell : w.cell? ⟨1, idx, none⟩ = some (.int .u8 k)) :
    Calls Tryd.prog 66 #[.int .u64 x] w fun e w' => e = .returned (.int .i64 k) ∧ w = w' := by
  go_enter Tryd.func66, Tryd.ntmps66
  go_wp2_with (simp only [key])
  go_ret
  exact ⟨rfl, rfl⟩

/-- the table in its variable -/
def Tab (w : World) : Prop := TabAt 1 Lib.deBruijn64tab w ∧ 1 < w.heap.size
theorem Tab.below {n : Nat} {w w' : World} (h : Tab w) (hb : Below n w w') (hn : 1 < n) : Tab w' :=
  ⟨fun j hj => (hb.cell (p := ⟨1, j, none⟩) hn).trans (h.1 j hj), Nat.lt_of_lt_of_le h.2 hb.size⟩

theorem tz_any (x : Nat) (hx : x < 18446744073709551616) (h0 : x ≠ 0) (w : World) (hT : Tab w) :
    Calls Tryd.prog 66 #[.int .u64 x] w fun e w' => e = .returned (.int .i64 (Lib.ctz 64 x)) ∧ w = w' := by
  obtain ⟨hlow, hk⟩ := Lib.lowest_bit 64 x h0 hx
  obtain ⟨hi, htab⟩ := Lib.deBruijn64_at _ hk
  have hcell := hT.1 _ hi
  rw [htab] at hcell
  exact tz_core x _ _ w (by simp; omega) (tz64_key x _ hx h0 hlow) hi hk hcell
/-- the numbers in the words below k -/
def lenTo (x : Bag) (k : Nat) : Nat := (if 0 < k then (bitsOf x.a).length else 0) + (if 1 < k then (bitsOf x.b).length else 0) + (if 2 < k then (bitsOf x.c).length else 0) + (if 3 < k then (bitsOf x.d).length else 0)
theorem list_len (x : Bag) : x.list.length = lenTo x 4 := by
  rw [list_parts]
  simp [Bag.part, lenTo, Bag.word]; omega
theorem bits_len (x : Nat) : (bitsOf x).length ≤ 64 := by unfold bitsOf; exact Nat.le_trans (List.length_filter_le _ _) (by simp)

set_option maxRecDepth 100000 in
set_option maxHeartbeats 2000000 in
theorem len_any (x : Bag) (hx : x.ok) (w : World) :
    Calls Tryd.prog 19 #[bagV x] w fun e w' => e = .returned (.int .i64 x.list.length) ∧ Below w.heap.size w w' := by
  rw [list_len]
  obtain ⟨a, b, c, d⟩ := x
  have HX := Lib.hid hx
  have b1 := bits_len a; have b2 := bits_len b; have b3 := bits_len c; have b4 := bits_len d
  obtain ⟨p, hp⟩ : ∃ p, p = (bitsOf a).length := ⟨_, rfl⟩
  obtain ⟨q, hq⟩ : ∃ p, p = (bitsOf b).length := ⟨_, rfl⟩
  obtain ⟨r, hr⟩ : ∃ p, p = (bitsOf c).length := ⟨_, rfl⟩
  obtain ⟨s, hs⟩ : ∃ p, p = (bitsOf d).length := ⟨_, rfl⟩
  rw [← hp] at b1; rw [← hq] at b2; rw [← hr] at b3; rw [← hs] at b4
  have HP := Lib.hid hp; have HQ := Lib.hid hq; have HR := Lib.hid hr; have HS := Lib.hid hs
  have e : lenTo ⟨a, b, c, d⟩ 4 = p + q + r + s := by rw [hp, hq, hr, hs]; rfl
  rw [e]
  clear hx hp hq hr hs e
  unfold bagV
  have i0 := ix0 a b c d; have i1 := ix1 a b c d; have i2 := ix2 a b c d; have i3 := ix3 a b c d
  go_enter Tryd.func19, Tryd.ntmps19
  go_wp2
  refine wp_loop_rounds 5 ?_
  rw [rounds_succ]; go_wp2_with (go_at_call 31; refine (ones_any a HX.out.1 _).mono ?_; rw [← HP.out]; rintro e w' ⟨rfl, rfl⟩)
  rw [rounds_succ]; go_wp2_with (go_at_call 31; refine (ones_any b HX.out.2.1 _).mono ?_; rw [← HQ.out]; rintro e w' ⟨rfl, rfl⟩)
  rw [rounds_succ]; go_wp2_with (go_at_call 31; refine (ones_any c HX.out.2.2.1 _).mono ?_; rw [← HR.out]; rintro e w' ⟨rfl, rfl⟩)
  rw [rounds_succ]; go_wp2_with (go_at_call 31; refine (ones_any d HX.out.2.2.2 _).mono ?_; rw [← HS.out]; rintro e w' ⟨rfl, rfl⟩)
  rw [rounds_succ]; go_wp2
  go_ret
  exact ⟨ret_int (by omega), (Below.refl _ _).alloc (Nat.le_refl _) _⟩
end Go.Proofs.YtnbchikiiipejaaDoor.Bg
