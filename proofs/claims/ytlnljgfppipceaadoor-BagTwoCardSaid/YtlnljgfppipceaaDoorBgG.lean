/- Walks of bag: All, and what it hands back, as an iterator of a range. -/
import Derived.Test.YtlnljgfppipceaaDoorBgF
import Derived.Test.YtlnljgfppipceaaDoorBgE
import Derived.RangeFuncBox
import Derived.RangeFuncNested
import Derived.RangeFuncBound
import Derived.RangeFuncCalls
import Derived.RangeFuncLeaves
import Derived.Shelf.Abstract
import Derived.OwnWalkIn
import Derived.TacticsInMore
import Derived.LoopNIn
import Derived.LoopIn
import Derived.Maps.AppendAt
namespace Go.Proofs.YtlnljgfppipceaaDoor.Bg
open Go.RowKit Go.Shelf Mem
set_option linter.unusedVariables false
attribute [local go_sem] Oper.semAt_some

/-- the numbers in the words below k -/
def pf (x : Bag) (k : Nat) : List Int := (if 0 < k then x.part 0 else []) ++ ((if 1 < k then x.part 1 else []) ++ ((if 2 < k then x.part 2 else []) ++ (if 3 < k then x.part 3 else [])))
theorem pf_all (x : Bag) : pf x 4 = x.list := by rw [list_parts]; rfl
theorem pf_zero (x : Bag) : pf x 0 = [] := rfl
theorem pf_succ (x : Bag) (k : Nat) (hk : k < 4) : pf x (k + 1) = pf x k ++ x.part k := by
  rcases (show k = 0 ∨ k = 1 ∨ k = 2 ∨ k = 3 by omega) with rfl | rfl | rfl | rfl <;> simp [pf]
theorem pf_pre (x : Bag) (k : Nat) (hk : k ≤ 4) : pf x k <+: x.list := by
  rw [← pf_all]
  rcases (show k = 0 ∨ k = 1 ∨ k = 2 ∨ k = 3 ∨ k = 4 by omega) with rfl | rfl | rfl | rfl | rfl <;> simp [pf]
theorem ix_any (x : Bag) (k : Nat) (hk : k < 4) (w : World) : (Instr.index 25 (.agg #[.int .u64 x.a, .int .u64 x.b, .int .u64 x.c, .int .u64 x.d]) (.int .i64 (k : Int))).run Tryd.prog w = .ok (.int .u64 (x.word k)) w := by
  rcases (show k = 0 ∨ k = 1 ∨ k = 2 ∨ k = 3 by omega) with rfl | rfl | rfl | rfl
  · exact ix0 _ _ _ _ w
  · exact ix1 _ _ _ _ w
  · exact ix2 _ _ _ _ w
  · exact ix3 _ _ _ _ w

set_option maxRecDepth 100000 in
set_option maxHeartbeats 1000000 in
theorem all_in (F : Fence) (n : Nat) (hF : F.fn 20) (hro : F.round = none) (x : Bag) (w : World) :
    CallsIn F n Tryd.prog 20 #[bagV x] w fun e w' => e = .returned (.func (.func 24) #[] #[.pointer (some ⟨w.heap.size, 0, none⟩)]) ∧ w' = w.alloc (.cells #[.int .u64 x.a, .int .u64 x.b, .int .u64 x.c, .int .u64 x.d] 27) := by
  unfold bagV
  refine callsIn_of_wp Tryd.func20 rfl hF ?_ hro
  simp only [Tryd.ntmps20, List.size_toArray, List.length_cons, List.length_nil, Nat.reduceAdd, Nat.reduceSub, Array.replicate_succ, Array.replicate_zero, List.push_toArray, List.append_toArray, List.nil_append, List.cons_append]
  gi_wp2
  go_ret
  exact ⟨rfl, rfl⟩

set_option maxRecDepth 100000 in
set_option maxHeartbeats 2000000 in
theorem all1_in (n : Nat) (hn : 1 ≤ n) (l Bn n₀ : Nat) (x : Bag) (hx : x.ok) (J Jx : List Int → World → Prop) (hn0 : 0 < n₀)
    (hY : ∀ pre y W, J pre W → pre.length < x.list.length → YieldAt Fence.wide (n - 1) Tryd.prog l #[.int .i64 y] W fun e W' =>
      (e = .returned (.bool true) ∧ J (pre ++ [y]) W' ∧ Below n₀ W W') ∨ (e = .returned (.bool false) ∧ Jx (pre ++ [y]) W'))
    (W : World) (hBn : At W Bn x) (hT : Tab W) (h0 : J [] W) :
    CallsIn Fence.wide n Tryd.prog 24 #[.func (.yield l) #[] #[], .pointer (some ⟨Bn, 0, none⟩)] W fun e W' => (∃ v, e = .returned v) ∧
      ((∃ ys, ys = x.list ∧ J ys W') ∨ (∃ pre, pre <+: x.list ∧ Jx pre W')) := by
  obtain ⟨c0, c1, c2, c3, _⟩ := hBn.cell
  have HT := Lib.hid hT
  have H0 := Lib.hid h0
  have HX := Lib.hid hx
  have HYY := Lib.hid hY
  clear hT h0 hx hBn hY
  refine callsIn_of_wp Tryd.func24 rfl trivial ?_ rfl
  simp only [Tryd.ntmps24, List.size_toArray, List.length_cons, List.length_nil, Nat.reduceAdd, Nat.reduceSub, Array.replicate_succ, Array.replicate_zero, List.push_toArray, List.append_toArray, List.nil_append, List.cons_append]
  gi_wp2
  gi_loopw [7] (fun i wr => ∃ k : Nat, k ≤ 4 ∧ i = .int .i64 k ∧ Hid (J (pf x k) wr) ∧ Hid (Tab wr)) (fun i _ => 4 - (intOf i).toNat)
  case atStart => exact ⟨0, by omega, rfl, H0, HT⟩
  case round =>
    obtain ⟨k, hk, rfl, hJ, hTr⟩ := hrel
    by_cases hlt : k < 4
    · have hix := ix_any x k hlt
      have hd4 : decide ((k : Int) < 4) = true := by simp; omega
      have HPS := Lib.hid (pf_succ x k hlt)
      have HPP := Lib.hid (pf_pre x (k + 1) (by omega))
      gi_wp2
      obtain ⟨wo, rfl⟩ : ∃ wo : World, wo = wr := ⟨_, rfl⟩
      gi_loopw [4] (fun v wr => ∃ (u : Nat) (pre : List Int), v = .int .u64 u ∧ Hid (u < 18446744073709551616) ∧ Hid (J pre wr) ∧ Hid (Tab wr) ∧ Hid (pre ++ (bitsOf u).map (fun j => ((64 * k + j : Nat) : Int)) = pf x (k + 1))) (fun v _ => (intOf v).toNat)
      case atStart => exact ⟨x.word k, pf x k, rfl, word_lt HX.out k, hJ, hTr, HPS.out.symm⟩
      case round =>
        obtain ⟨u, pre, rfl, hu, hJ2, hT2, hpre⟩ := hrel
        by_cases hu0 : u = 0
        · subst hu0
          gi_wp2
          go_roundw
          case rel => exact ⟨k + 1, by omega, by go_num, by have h := hpre.out; rw [bits_zero] at h; simp at h; rw [← h]; exact hJ2, hT2⟩
          case measure => simp [intOf]; omega
        · have hd : ((u : Int) != 0) = true := by simp; omega
          have HB := Lib.hid (bits_cons hu0 hu.out)
          have HC := Lib.hid (clear_lt hu0 hu.out)
          have HD := Lib.hid hu0
          have hc64 : Lib.ctz 64 u < 64 := bits_lt (w := u) (by rw [HB.out]; simp)
          obtain ⟨z, hz⟩ : ∃ z, z = Lib.ctz 64 u := ⟨_, rfl⟩
          rw [← hz] at hc64
          have HZ := Lib.hid hz
          have hlen : pre.length < x.list.length := by
            have h1 := hpre.out
            rw [HB.out] at h1
            have h2 := HPP.out.length_le
            rw [← h1] at h2
            simp at h2; omega
          obtain ⟨fn, tmps, assign, body, hy, hR⟩ := HYY.out pre ((k : Int) * 64 + (z : Int)) wr hJ2.out hlen
          have HE : Hid (bits .and .u64 (u : Int) (IntKind.u64.wrap ((u : Int) - 1)) = ((u &&& (u - 1) : Nat) : Int)) := by
            show _ = _
            have h1 := hu.out
            have h2 := HD.out
            rw [show ((u : Int) - 1) = ((u - 1 : Nat) : Int) from by omega, wrap_nat _ (by omega), u64_and_nat _ _ h1 (by omega)]
          have HQ : Hid ((pre ++ [(k : Int) * 64 + (z : Int)]) ++ (bitsOf (u &&& (u - 1))).map (fun j => ((64 * k + j : Nat) : Int)) = pf x (k + 1)) := by
            show _ = _
            have h1 := hpre.out
            rw [HB.out, List.map_cons, ← HZ.out, show ((64 * k + z : Nat) : Int) = (k : Int) * 64 + (z : Int) from by omega] at h1
            rw [← h1, List.append_assoc]; rfl
          clear hz hlen
          gi_wp2_with (refine ⟨trivial, ?_⟩; gi_at_call 25; refine (callsIn_wide.2 (tz_any u hu.out HD.out _ hT2.out)).mono ?_; rw [← HZ.out]; rintro e w' ⟨rfl, rfl⟩)
          refine hR.mono ?_
          rintro e W3 (⟨rfl, hJ3, hk3⟩ | ⟨rfl, hJx3⟩)
          · have HJ3 := Lib.hid hJ3
            have HT3 := Lib.hid (hT2.out.below hk3 hn0)
            clear hJ3 hk3
            gi_wp2
            go_roundw
            case rel => exact ⟨u &&& (u - 1), _, by rw [HE.out], Nat.lt_of_lt_of_le HC.out (Nat.le_of_lt hu.out), HJ3, HT3, HQ⟩
            case measure => rw [HE.out]; simpa [intOf] using HC.out
          · have HJX := Lib.hid hJx3
            clear hJx3
            gi_wp2
            refine bodyPost_ret (results_none rfl _ _ _) rfl ?_
            refine ⟨⟨_, rfl⟩, .inr ⟨_, ?_, HJX.out⟩⟩
            have h1 := HPP.out
            rw [← HQ.out] at h1
            exact List.IsPrefix.trans (List.prefix_append _ _) h1
    · obtain rfl : k = 4 := by omega
      gi_wp2
      go_end0
      exact ⟨⟨_, rfl⟩, .inl ⟨_, pf_all x, hJ.out⟩⟩

/-- **All hands back a value that tells the bag's list**, to whoever leaves the table alone. -/
theorem all_stops (n : Nat) (hn : 1 ≤ n) (Bn n₀ : Nat) (x : Bag) (hx : x.ok) (w : World) (hBn : Bn < w.heap.size) (hn₀ : n₀ ≤ w.heap.size) (h0 : 0 < n₀) (hc : At w Bn x) (hT : Tab w) :
    SeqStopsK Fence.wide n Tryd.prog 24 #[.pointer (some ⟨Bn, 0, none⟩)] (fun y : Int => #[Value.int .i64 y]) (Below n₀) (fun ys => ys = x.list) (fun pre => pre <+: x.list) x.list.length w := fun l J Jx W hW _ _ hY hj =>
  all1_in n hn l Bn n₀ x hx J Jx h0 hY W (hc.below hW hBn) (hT.below hW (by omega)) hj

/-- the list, as the call made it -/
theorem Bag.list_wf (x : Bag) : ∀ z ∈ x.list, (Lit.int .i64 z).wf = true := by
  intro z hz
  obtain ⟨n, hn, rfl⟩ := List.mem_map.1 hz
  have := List.mem_range.1 (List.mem_filter.1 hn).1
  exact WalkArith.wf_i64 (by simp; omega)

set_option maxRecDepth 100000 in
set_option maxHeartbeats 2000000 in
theorem list_any (x : Bag) (hx : x.ok) (w : World) (hT : Tab w) : Calls Tryd.prog 14 #[bagV x] w (IsSl w x.list) := by
  refine (callsIn_wide (n := 3)).1 ?_
  obtain ⟨i0, hi, hz0, hz1, hz2⟩ := info_parts info_i64
  unfold bagV
  refine callsIn_of_wp_marks Tryd.func14 rfl trivial ?_ rfl
  simp only [Tryd.ntmps14, List.size_toArray, List.length_cons, List.length_nil, Nat.reduceAdd, Nat.reduceSub, Array.replicate_succ, Array.replicate_zero, List.push_toArray, List.append_toArray, List.nil_append, List.cons_append]
  gi_wp2_with (refine ⟨trivial, ?_⟩; gi_at_call 20; refine (all_in Fence.wide (3 - 1) trivial rfl x _).mono ?_; rintro e w' ⟨rfl, rfl⟩)
  have a0 := At.new w x
  have a1 := a0.alloc (.cells #[.slice none 0 0] 22)
  have bO := Boxed.new (w.alloc (.cells #[.int .u64 x.a, .int .u64 x.b, .int .u64 x.c, .int .u64 x.d] 27)) 22 (.slice none 0 0)
  have bN := At.new ((w.alloc (.cells #[.int .u64 x.a, .int .u64 x.b, .int .u64 x.c, .int .u64 x.d] 27)).alloc (.cells #[.slice none 0 0] 22)) x
  simp only [World.size_alloc] at bO bN
  have hB0 := (((Below.refl _ w).alloc (Nat.le_refl _) (.cells #[.int .u64 x.a, .int .u64 x.b, .int .u64 x.c, .int .u64 x.d] 27)).alloc (by simp) (.cells #[.slice none 0 0] 22)).alloc (by simp; omega) (.cells #[.int .u64 x.a, .int .u64 x.b, .int .u64 x.c, .int .u64 x.d] 27)
  have hlen := list_length_le x
  refine wpIn_rangeFunc_ownG rfl (by omega) (gf := 24) (lb := #[.pointer (some ⟨w.heap.size + 1 + 1, 0, none⟩)]) rfl trivial (enters_of Tryd.func24 (by kernel_rfl) rfl)
    (all_stops (3 - 1) (by omega) (w.heap.size + 1 + 1) w.heap.size x hx _ (by simp) (by simp; omega) hT.2 bN (hT.below hB0 hT.2)) belowK_t (belowK_b (by simp; omega)) (Below.refl _ _) (fun _ => rfl)
    (fun pre W => (∃ v, Boxed W (w.heap.size + 1) 22 v ∧ W.ownsRow w.heap.size 3 1 v pre.length (pre.map (Value.int .i64)) ∧ True) ∧ Below w.heap.size w W)
    (fun _ _ _ => False)
    (OwnFrom.and (Own.from (holdsRow_own w.heap.size (w.heap.size + 1) 22 3 1 (fun pre : List Int => pre.length) (fun pre : List Int => pre.map (Value.int .i64)) (fun (pre : List Int) v => True)) _) (ownFrom_below (Nat.le_refl _) (by simp; omega)))
    (fun _ _ _ _ _ hs _ _ => hs)
    ⟨⟨_, bO.alloc _, World.ownsRow_nil _ _ _ _, trivial⟩, hB0⟩
    (fun y => { tmps := #[.agg #[.int .u64 x.a, .int .u64 x.b, .int .u64 x.c, .int .u64 x.d], .pointer (some ⟨w.heap.size, 0, none⟩), .slice none 0 0, .pointer (some ⟨w.heap.size + 1, 0, none⟩), .int .i64 y, .agg #[.int .u64 x.a, .int .u64 x.b, .int .u64 x.c, .int .u64 x.d], .func (.func 24) #[] #[.pointer (some ⟨w.heap.size + 1 + 1, 0, none⟩)], .int .i64 y, undef, undef, undef, undef, undef], defers := [] }) ?assign ?body ?done ?stop
  case assign =>
    intro l y W K hK
    gi_wp2
    exact hK
  case body =>
    rintro l pre y W ⟨⟨v, hv, hrow, _⟩, hB⟩ hlt
    have hc := hv.cell
    gi_wp2_with (gi_at_builtin; refine wpListIn_append_own _ rfl _ _ 22 rfl w.heap.size 3 i0 (.int .i64 0) 1 8 Tryd.underlying22 hi hz0 hz1 hz2 rfl (by decide) _ _ _ rfl (hrow.alloc _) ⟨W.heap.size, 0, none⟩ 1 1 [.int .i64 y] rfl rfl (cell_one_new _ _ _) (by simp [Value.oneCell']) (by unfold maxLen; omega) (by omega) (by have := hB.size; simp; omega) ?_; intro v' w1 hown' hgrow _; obtain ⟨g', cap', rfl⟩ := ownsRow_succ hown'; obtain ⟨hv1, hv2, hr2, hk2, hb2⟩ := hv.appended (by decide) hrow hB.size (by omega) hown' hgrow; have hc1 := hv1.cell; have hf1 := hv1.frozen)
    exact ⟨hk2.from _, hb2, ⟨_, hv2, by simpa using hr2, trivial⟩, hB.trans hb2⟩
  case done =>
    rintro D' ys W hD rfl ⟨⟨v, hv, hrow, _⟩, hB⟩ hK
    have hc := hv.cell
    gi_wp2
    refine ⟨by simp, .inl ⟨_, _, rfl, run_takeDeferred hK, ?_⟩⟩
    have hfin := ownsRow_putObj hrow (.deferred none) hK rfl
    obtain ⟨A1, c1, rfl, hc1, hr1⟩ := Row.of_own hfin x.list_wf
    exact ⟨_, results_tmp rfl _ _ _, A1, c1, rfl, hc1, hr1, hB.trans (belowK_b (w := w) (Nat.le_refl _) W D' _ _ (by simp at hD; omega) hK rfl rfl)⟩
  case stop =>
    rintro D' c pre W _ _ h _
    exact h.elim
end Go.Proofs.YtlnljgfppipceaaDoor.Bg
