/- Walks of bag: All, and what it hands back, as an iterator of a range. -/
import Derived.Test.YtnbchikiiipejaaDoorNbF
import Derived.Test.YtnbchikiiipejaaDoorOwn
import Derived.LoopTactic
import Derived.RangeFuncBox
import Derived.RangeFuncNested
import Derived.RangeFuncBound
import Derived.RangeFuncCalls
import Derived.RangeFuncLeaves
import Derived.Shelf.Abstract
import Derived.OwnWalkIn
import Derived.TacticsInMore
import Derived.LoopNIn
import Derived.LoopIn
import Derived.Maps.AppendAt
namespace Go.Proofs.YtnbchikiiipejaaDoor.Bg
open Go.RowKit Go.Shelf Mem
set_option linter.unusedVariables false
attribute [local go_sem] Oper.semAt_some

/-- the numbers in the words below k -/
def pf (x : Bag) (k : Nat) : List Int := (if 0 < k then x.part 0 else []) ++ ((if 1 < k then x.part 1 else []) ++ ((if 2 < k then x.part 2 else []) ++ (if 3 < k then x.part 3 else [])))
theorem pf_all (x : Bag) : pf x 4 = x.list := by rw [list_parts]; rfl
theorem pf_zero (x : Bag) : pf x 0 = [] := rfl
theorem pf_succ (x : Bag) (k : Nat) (hk : k < 4) : pf x (k + 1) = pf x k ++ x.part k := by
  rcases (show k = 0 ∨ k = 1 ∨ k = 2 ∨ k = 3 by omega) with rfl | rfl | rfl | rfl <;> simp [pf]
theorem pf_pre (x : Bag) (k : Nat) (hk : k ≤ 4) : pf x k <+: x.list := by
  rw [← pf_all]
  rcases (show k = 0 ∨ k = 1 ∨ k = 2 ∨ k = 3 ∨ k = 4 by omega) with rfl | rfl | rfl | rfl | rfl <;> simp [pf]
theorem ix_any (x : Bag) (k : Nat) (hk : k < 4) (w : World) : (Instr.index 31 (.agg #[.int .u64 x.a, .int .u64 x.b, .int .u64 x.c, .int .u64 x.d]) (.int .i64 (k : Int))).run Tryd.prog w = .ok (.int .u64 (x.word k)) w := by
  rcases (show k = 0 ∨ k = 1 ∨ k = 2 ∨ k = 3 by omega) with rfl | rfl | rfl | rfl
  · exact ix0 _ _ _ _ w
  · exact ix1 _ _ _ _ w
  · exact ix2 _ _ _ _ w
  · exact ix3 _ _ _ _ w

set_option maxRecDepth 100000 in
set_option maxHeartbeats 1000000 in
theorem all_in (F : Fence) (n : Nat) (hF : F.fn 51) (hro : F.round = none) (x : Bag) (w : World) :
    CallsIn F n Tryd.prog 51 #[bagV x] w fun e w' => e = .returned (.func (.func 65) #[] #[.pointer (some ⟨w.heap.size, 0, none⟩)]) ∧ w' = w.alloc (.cells #[.int .u64 x.a, .int .u64 x.b, .int .u64 x.c, .int .u64 x.d] 33) := by
  unfold bagV
  refine callsIn_of_wp Tryd.func51 rfl hF ?_ hro
  simp only [Tryd.ntmps51, List.size_toArray, List.length_cons, List.length_nil, Nat.reduceAdd, Nat.reduceSub, Array.replicate_succ, Array.replicate_zero, List.push_toArray, List.append_toArray, List.nil_append, List.cons_append]
  gi_wp2
  go_ret
  exact ⟨rfl, rfl⟩

set_option maxRecDepth 100000 in
set_option maxHeartbeats 2000000 in
theorem all1_in (n : Nat) (hn : 1 ≤ n) (l Bn n₀ : Nat) (x : Bag) (hx : x.ok) (J Jx : List Int → World → Prop) (hn0 : 1 < n₀)
    (hY : ∀ pre y W, J pre W → pre ++ [y] <+: x.list → YieldAt Fence.wide (n - 1) Tryd.prog l #[.int .i64 y] W fun e W' =>
      (e = .returned (.bool true) ∧ J (pre ++ [y]) W' ∧ Below n₀ W W') ∨ (e = .returned (.bool false) ∧ Jx (pre ++ [y]) W'))
    (W : World) (hBn : At W Bn x) (hT : Tab W) (h0 : J [] W) :
    CallsIn Fence.wide n Tryd.prog 65 #[.func (.yield l) #[] #[], .pointer (some ⟨Bn, 0, none⟩)] W fun e W' => (∃ v, e = .returned v) ∧
      ((∃ ys, ys = x.list ∧ J ys W') ∨ (∃ pre, pre <+: x.list ∧ Jx pre W')) := by
  obtain ⟨c0, c1, c2, c3, _⟩ := hBn.cell
  have HT := Lib.hid hT
  have H0 := Lib.hid h0
  have HX := Lib.hid hx
  have HYY := Lib.hid hY
  clear hT h0 hx hBn hY
  refine callsIn_of_wp Tryd.func65 rfl trivial ?_ rfl
  simp only [Tryd.ntmps65, List.size_toArray, List.length_cons, List.length_nil, Nat.reduceAdd, Nat.reduceSub, Array.replicate_succ, Array.replicate_zero, List.push_toArray, List.append_toArray, List.nil_append, List.cons_append]
  gi_wp2
  gi_loopw [7] (fun i wr => ∃ k : Nat, k ≤ 4 ∧ i = .int .i64 k ∧ Hid (J (pf x k) wr) ∧ Hid (Tab wr)) (fun i _ => 4 - (intOf i).toNat)
  case atStart => exact ⟨0, by omega, rfl, H0, HT⟩
  case round =>
    obtain ⟨k, hk, rfl, hJ, hTr⟩ := hrel
    by_cases hlt : k < 4
    · have hix := ix_any x k hlt
      have hd4 : decide ((k : Int) < 4) = true := by simp; omega
      have HPS := Lib.hid (pf_succ x k hlt)
      have HPP := Lib.hid (pf_pre x (k + 1) (by omega))
      gi_wp2
      obtain ⟨wo, rfl⟩ : ∃ wo : World, wo = wr := ⟨_, rfl⟩
      gi_loopw [4] (fun v wr => ∃ (u : Nat) (pre : List Int), v = .int .u64 u ∧ Hid (u < 18446744073709551616) ∧ Hid (J pre wr) ∧ Hid (Tab wr) ∧ Hid (pre ++ (bitsOf u).map (fun j => ((64 * k + j : Nat) : Int)) = pf x (k + 1))) (fun v _ => (intOf v).toNat)
      case atStart => exact ⟨x.word k, pf x k, rfl, word_lt HX.out k, hJ, hTr, HPS.out.symm⟩
      case round =>
        obtain ⟨u, pre, rfl, hu, hJ2, hT2, hpre⟩ := hrel
        by_cases hu0 : u = 0
        · subst hu0
          gi_wp2
          go_roundw
          case rel => exact ⟨k + 1, by omega, by go_num, by have h := hpre.out; rw [bits_zero] at h; simp at h; rw [← h]; exact hJ2, hT2⟩
          case measure => simp [intOf]; omega
        · have hd : ((u : Int) != 0) = true := by simp; omega
          have HB := Lib.hid (bits_cons hu0 hu.out)
          have HC := Lib.hid (clear_lt hu0 hu.out)
          have HD := Lib.hid hu0
          have hc64 : Lib.ctz 64 u < 64 := bits_lt (w := u) (by rw [HB.out]; simp)
          obtain ⟨z, hz⟩ : ∃ z, z = Lib.ctz 64 u := ⟨_, rfl⟩
          rw [← hz] at hc64
          have HZ := Lib.hid hz
          have HE : Hid (bits .and .u64 (u : Int) (IntKind.u64.wrap ((u : Int) - 1)) = ((u &&& (u - 1) : Nat) : Int)) := by
            show _ = _
            have h1 := hu.out
            have h2 := HD.out
            rw [show ((u : Int) - 1) = ((u - 1 : Nat) : Int) from by omega, wrap_nat _ (by omega), u64_and_nat _ _ h1 (by omega)]
          have HQ : Hid ((pre ++ [(k : Int) * 64 + (z : Int)]) ++ (bitsOf (u &&& (u - 1))).map (fun j => ((64 * k + j : Nat) : Int)) = pf x (k + 1)) := by
            show _ = _
            have h1 := hpre.out
            rw [HB.out, List.map_cons, ← HZ.out, show ((64 * k + z : Nat) : Int) = (k : Int) * 64 + (z : Int) from by omega] at h1
            rw [← h1, List.append_assoc]; rfl
          have hlen : pre ++ [(k : Int) * 64 + (z : Int)] <+: x.list := by
            have h1 := HPP.out
            rw [← HQ.out] at h1
            exact List.IsPrefix.trans (List.prefix_append _ _) h1
          obtain ⟨fn, tmps, assign, body, hy, hR⟩ := HYY.out pre ((k : Int) * 64 + (z : Int)) wr hJ2.out hlen
          clear hz hlen
          gi_wp2_with (refine ⟨trivial, ?_⟩; gi_at_call 66; refine (callsIn_wide.2 (tz_any u hu.out HD.out _ hT2.out)).mono ?_; rw [← HZ.out]; rintro e w' ⟨rfl, rfl⟩)
          refine hR.mono ?_
          rintro e W3 (⟨rfl, hJ3, hk3⟩ | ⟨rfl, hJx3⟩)
          · have HJ3 := Lib.hid hJ3
            have HT3 := Lib.hid (hT2.out.below hk3 hn0)
            clear hJ3 hk3
            gi_wp2
            go_roundw
            case rel => exact ⟨u &&& (u - 1), _, by rw [HE.out], Nat.lt_of_lt_of_le HC.out (Nat.le_of_lt hu.out), HJ3, HT3, HQ⟩
            case measure => rw [HE.out]; simpa [intOf] using HC.out
          · have HJX := Lib.hid hJx3
            clear hJx3
            gi_wp2
            refine bodyPost_ret (results_none rfl _ _ _) rfl ?_
            refine ⟨⟨_, rfl⟩, .inr ⟨_, ?_, HJX.out⟩⟩
            have h1 := HPP.out
            rw [← HQ.out] at h1
            exact List.IsPrefix.trans (List.prefix_append _ _) h1
    · obtain rfl : k = 4 := by omega
      gi_wp2
      go_end0
      exact ⟨⟨_, rfl⟩, .inl ⟨_, pf_all x, hJ.out⟩⟩

/-- **All hands back a value that tells the bag's list**, to whoever leaves the table alone. -/
theorem all_stops (n : Nat) (hn : 1 ≤ n) (Bn n₀ : Nat) (x : Bag) (hx : x.ok) (w : World) (hBn : Bn < w.heap.size) (hn₀ : n₀ ≤ w.heap.size) (h0 : 1 < n₀) (hc : At w Bn x) (hT : Tab w) :
    SeqStopsK Fence.wide n Tryd.prog 65 #[.pointer (some ⟨Bn, 0, none⟩)] (fun y : Int => #[Value.int .i64 y]) (Below n₀) (fun ys => ys = x.list) (fun pre => pre <+: x.list) x.list.length w := fun l J Jx W hW _ _ hY hj =>
  all1_in n hn l Bn n₀ x hx J Jx h0 (fun pre y W1 hj1 hp => hY pre y W1 hj1 (by have := hp.length_le; simp at this; omega)) W (hc.below hW hBn) (hT.below hW (by omega)) hj
/-- the same, of numbers that are in the bag alone -/
theorem all_stops_in (n : Nat) (hn : 1 ≤ n) (Bn n₀ : Nat) (x : Bag) (hx : x.ok) (w : World) (hBn : Bn < w.heap.size) (hn₀ : n₀ ≤ w.heap.size) (h0 : 1 < n₀) (hc : At w Bn x) (hT : Tab w) :
    SeqStopsK Fence.wide n Tryd.prog 65 #[.pointer (some ⟨Bn, 0, none⟩)] (fun y : { y : Int // y ∈ x.list } => #[Value.int .i64 y.1]) (Below n₀) (fun ys => ys.map (·.1) = x.list) (fun _ => True) x.list.length w := by
  intro l J Jx W hW _ _ hY hj
  refine (all1_in n hn l Bn n₀ x hx (fun pre W => ∃ ys : List { y : Int // y ∈ x.list }, ys.map (·.1) = pre ∧ J ys W) (fun pre W => ∃ ys : List { y : Int // y ∈ x.list }, Jx ys W) h0 ?_ W (hc.below hW hBn) (hT.below hW (by omega)) ⟨[], rfl, hj⟩).mono ?_
  · rintro pre y W1 ⟨ys, rfl, hj1⟩ hp
    have hm : y ∈ x.list := hp.subset (by simp)
    have hlen : ys.length < x.list.length := by have := hp.length_le; simp at this; omega
    obtain ⟨fn, tmps, assign, body, h1, h2⟩ := hY ys ⟨y, hm⟩ W1 hj1 hlen
    refine ⟨fn, tmps, assign, body, h1, h2.mono ?_⟩
    rintro e W' (⟨a, b, c⟩ | ⟨a, b⟩)
    · exact .inl ⟨a, ⟨ys ++ [⟨y, hm⟩], by simp, b⟩, c⟩
    · exact .inr ⟨a, _, b⟩
  · rintro e W' ⟨hv, h⟩
    refine ⟨hv, ?_⟩
    rcases h with ⟨ys, h1, zs, h2, h3⟩ | ⟨pre, _, zs, h3⟩
    · exact .inl ⟨zs, h2.trans h1, h3⟩
    · exact .inr ⟨zs, trivial, h3⟩
end Go.Proofs.YtnbchikiiipejaaDoor.Bg
