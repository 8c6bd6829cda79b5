/- Walks of smap: all, and what it hands back, as an iterator of a range. Walks: the reference's Shift and Right; the program's Right. -/
import Derived.Test.YtgodphfkhmahnaaSmB
import Derived.LoopTactic
import Derived.RangeFuncBox
import Derived.RangeFuncNested
import Derived.RangeFuncBound
import Derived.RangeFuncCalls
import Derived.RangeFuncLeaves
import Derived.Shelf.Abstract
import Derived.OwnWalkIn
import Derived.TacticsInMore
import Derived.LoopNIn
import Derived.LoopIn
import Derived.Deep.QuietTactic
import Derived.BigQuiet
namespace Go.Proofs.Ytgodphfkhmahnaa.Sm
open Go.RowKit Go.Shelf Mem
set_option linter.unusedVariables false
attribute [local go_sem] Oper.semAt_some

/-- what a round keeps: what lay below n₀, and each shifted range -/
structure KS (n₀ : Nat) (A B : World) : Prop where
  below : Below n₀ A B
  same : ∀ (i : Nat) (cs : Array Value) (fr : Nat × Nat), A.heap[i]? = some (Obj.cells cs 159 fr) → B.heap[i]? = some (Obj.cells cs 159 fr)
theorem KS.refl (n₀ : Nat) (A : World) : KS n₀ A A := ⟨Below.refl _ _, fun _ _ _ h => h⟩
theorem KS.trans {n₀ : Nat} {A B C : World} (h : KS n₀ A B) (k : KS n₀ B C) : KS n₀ A C := ⟨h.below.trans k.below, fun i cs fr e => k.same i cs fr (h.same i cs fr e)⟩
theorem KS.of_below {n₀ : Nat} {A B : World} (h : Below A.heap.size A B) (hn : n₀ ≤ A.heap.size) : KS n₀ A B := ⟨h.mono hn, fun i cs fr e => by rw [h.block i (lt_some e)]; exact e⟩
theorem KS.put {n₀ : Nat} {w : World} (hn : n₀ ≤ w.heap.size) (W : World) (l : Nat) (o o' : Obj) (hl : w.heap.size ≤ l) (h : W.heap[l]? = some o) (hc : o.isCells = false) (hw : o.isWalk = false) : KS n₀ W (W.putObj l o') :=
  ⟨belowK_b hn W l o o' hl h hc hw, fun i cs fr e => by
    rw [World.putObj_heap_other]
    · exact e
    · rintro rfl; rw [h] at e; cases e; cases hc⟩
theorem KS.set {n₀ : Nat} {W : World} {g : Nat} {cs : Array Value} {t : TypeId} {fr : Nat × Nat} (hg : W.heap[g]? = some (.cells cs t fr)) (ht : t ≠ 159) (hn : n₀ ≤ g) (j : Nat) (v : Value) : KS n₀ W (W.setCell ⟨g, j, none⟩ v) :=
  ⟨(Below.refl _ _).setCell (p := ⟨g, j, none⟩) hn v, fun i cs' fr' e => by
    rw [Below.heap_setCell _ _ _ _ (by rintro rfl; rw [hg] at e; cases e; exact ht rfl)]; exact e⟩
theorem grown_none {A B : World} (h : Below A.heap.size A B) : A.grownBy B none := ⟨h.os, h.tape, h.output, h.size, fun i hi _ => h.block i hi⟩

theorem all_in (F : Fence) (n : Nat) (hF : F.fn 90) (hro : F.round = none) (A : Option Addr) (m c : Nat) (w : World) :
    CallsIn F n Try.prog 90 #[.slice A m c] w fun e w' => e = .returned (.func (.func 107) #[] #[.pointer (some ⟨w.heap.size, 0, none⟩)]) ∧ w' = w.alloc (.cells #[.slice A m c] 39) := by
  refine callsIn_of_wp Try.func90 rfl hF ?_ hro
  simp only [Try.ntmps90, List.size_toArray, List.length_cons, List.length_nil, Nat.reduceAdd, Nat.reduceSub, Array.replicate_succ, Array.replicate_zero, List.push_toArray, List.append_toArray, List.nil_append, List.cons_append]
  gi_wp2
  go_ret
  exact ⟨rfl, rfl⟩

/-- a row that is read, whose block lies below n₀ -/
def RLow (n₀ : Nat) (W : World) (A : Option Addr) (m : Nat) (l : List Rg) : Prop := l.length = m ∧ (0 < m → ∃ b off, A = some ⟨b, off, none⟩ ∧ b < n₀ ∧ ∀ j, j < m → At3 W b (off + j * 3) (rg l j))
theorem RLow.of {W : World} {A : Option Addr} {m : Nat} {l : List Rg} (h : RRow W A m l) : RLow W.heap.size W A m l :=
  ⟨h.1, fun hn => by
    obtain ⟨b, off, e, hl, hc⟩ := h.2 hn
    refine ⟨b, off, e, hl, fun j hj => ?_⟩
    have := hc j (by rw [h.1]; exact hj)
    rwa [rg_at l j (by rw [h.1]; exact hj)]⟩
theorem RLow.below {n₀ k : Nat} {W W' : World} {A : Option Addr} {m : Nat} {l : List Rg} (h : RLow n₀ W A m l) (hb : Below k W W') (hk : n₀ ≤ k) : RLow n₀ W' A m l :=
  ⟨h.1, fun hn => by
    obtain ⟨b, off, e, hl, hc⟩ := h.2 hn
    exact ⟨b, off, e, hl, fun j hj => (hc j hj).keep fun p => hb.cell (p := ⟨b, p, none⟩) (by simp; omega)⟩⟩
theorem far_sh {l : List Rg} {k : Nat} (h : okTo l k) (hk : k ≤ 100) : far (sh l k) := by
  have := sh_bound k h
  unfold far; omega

abbrev Ix (m : Nat) := { k : Nat // k < m }
set_option maxRecDepth 100000 in
set_option maxHeartbeats 2000000 in
theorem all1_in (n : Nat) (hn : 1 ≤ n) (L Bn n₀ : Nat) (l : List Rg) (A : Option Addr) (m c : Nat) (W : World) (hok : okTo l m) (hm : m ≤ 100) (hr : RLow n₀ W A m l) (hB : Boxed W Bn 39 (.slice A m c)) (hsz : n₀ ≤ W.heap.size)
    (J Jx : List (Ix m) → World → Prop) (hJ : ∀ s W W', J s W → W.grownBy W' none → J s W')
    (hY : ∀ pre (y : Ix m) W, J pre W → pre.length < m → YieldAt Fence.wide (n - 1) Try.prog L #[.int .i64 (y.1 : Int), shV (rg l y.1) (sh l y.1)] W fun e W' =>
      (e = .returned (.bool true) ∧ J (pre ++ [y]) W' ∧ KS n₀ W W') ∨ (e = .returned (.bool false) ∧ Jx (pre ++ [y]) W'))
    (h0 : J [] W) :
    CallsIn Fence.wide n Try.prog 107 #[.func (.yield L) #[] #[], .pointer (some ⟨Bn, 0, none⟩)] W fun e W' => (∃ v, e = .returned v) ∧
      ((∃ ys : List (Ix m), ys.map (·.1) = List.range m ∧ J ys W') ∨ (∃ pre : List (Ix m), (∃ k, k ≤ m ∧ pre.map (·.1) = List.range k) ∧ Jx pre W')) := by
  have c0 := hB.cell
  have HR := Lib.hid hr
  have H0 := Lib.hid h0
  have HOK := Lib.hid hok
  have HYY := Lib.hid hY
  have HJ := Lib.hid hJ
  clear hr h0 hok hY hJ hB
  refine callsIn_of_wp Try.func107 rfl trivial ?_ rfl
  simp only [Try.ntmps107, List.size_toArray, List.length_cons, List.length_nil, Nat.reduceAdd, Nat.reduceSub, Array.replicate_succ, Array.replicate_zero, List.push_toArray, List.append_toArray, List.nil_append, List.cons_append]
  gi_wp2
  gi_loopw [3, 9] (fun s j wr => ∃ (k : Nat) (z : Int), k ≤ m ∧ j = .int .i64 k ∧ s = .int .i64 z ∧ Hid (z = sh l k) ∧ Hid (∃ ys : List (Ix m), ys.map (·.1) = List.range k ∧ J ys wr) ∧ Hid (Below n₀ W wr) ∧ n₀ ≤ wr.heap.size) (fun _ j _ => m - (intOf j).toNat)
  case atStart => exact ⟨0, 0, by omega, rfl, rfl, Lib.hid rfl, Lib.hid ⟨[], rfl, H0.out⟩, Lib.hid (Below.refl _ _), hsz⟩
  case round =>
    clear H0 c0
    obtain ⟨k, z, hk, rfl, rfl, HZ, HYS, HW, hws⟩ := hrel
    by_cases hlt : k < m
    · obtain ⟨b, off, rfl, hb, hc⟩ := (HR.out.below HW.out (Nat.le_refl _)).2 (by omega)
      have hc3 := (hc k hlt).cells
      obtain ⟨c0, c1, c2⟩ := hc3
      clear hc
      have i1 : (0 : Int) ≤ (k : Int) := by omega
      have i2 : (k : Int) < (m : Int) := by omega
      have HF := Lib.hid (HOK.out k hlt).1
      have HFA := Lib.hid (far_sh (HOK.out.mono (by omega) : okTo l k) (by omega))
      have HZ' := Lib.hid (show z + (rg l k).new - (rg l k).old = sh l (k + 1) by rw [HZ.out]; rfl)
      obtain ⟨ys, hys, hjw⟩ := HYS.out
      have hYK := HYY.out ys ⟨k, hlt⟩
      dsimp only at hYK
      rw [← HZ.out] at hYK HFA
      have hyl : ys.length < m := by have := congrArg List.length hys; simp at this; omega
      have CB := fun W => behind_any (rg l k) z HF.out HFA.out W
      have HYL := Lib.hid hyl
      have HMAP : Hid ((ys ++ [(⟨k, hlt⟩ : Ix m)]).map (·.1) = List.range (k + 1)) := Lib.hid (by rw [List.map_append, hys, List.range_succ]; rfl)
      unfold shV shO at CB
      unfold shV at hYK
      have HYK := Lib.hid hYK
      have HJW := Lib.hid hjw
      have HCB := Lib.hid CB
      clear hYK hjw hys hyl CB HYS
      generalize hR : rg l k = r at *
      obtain ⟨a, o, nn⟩ := r
      simp only at c0 c1 c2 HZ'
      have n2 := heap_alloc_new (wr.alloc (.cells #[.int .i64 a, .int .i64 o, .int .i64 nn] 78)) (.cells #[.int .i64 a, .int .i64 o, .int .i64 nn, .int .i64 z] 159)
      rw [show (wr.alloc (.cells #[.int .i64 a, .int .i64 o, .int .i64 nn] 78)).heap.size = wr.heap.size + 1 by simp] at n2
      have HN2 := Lib.hid n2
      have HJ2 := Lib.hid (HJ.out _ _ _ (HJ.out _ _ _ HJW.out (World.grownBy_alloc wr (.cells #[.int .i64 a, .int .i64 o, .int .i64 nn] 78) none)) (World.grownBy_alloc _ (.cells #[.int .i64 a, .int .i64 o, .int .i64 nn, .int .i64 z] 159) none))
      have HW2 : Hid (Below n₀ W ((wr.alloc (.cells #[.int .i64 a, .int .i64 o, .int .i64 nn] 78)).alloc (.cells #[.int .i64 a, .int .i64 o, .int .i64 nn, .int .i64 z] 159))) := Lib.hid ((HW.out.alloc hws _).alloc (by simp; omega) _)
      obtain ⟨fn, tmps, assign, body, hy, hR'⟩ := HYK.out _ HJ2.out HYL.out
      clear n2 HJW HJ2
      gi_wp2_with fail
      refine hR'.mono ?_
      clear hR' hy
      rintro e W3 (⟨rfl, hJ3, hk3⟩ | ⟨rfl, hJx3⟩)
      · have HJ3 := Lib.hid hJ3
        have HW3 := Lib.hid (HW2.out.trans hk3.below)
        have hs3 : n₀ ≤ W3.heap.size := Nat.le_trans hsz HW3.out.size
        have HX3 := Lib.hid (hk3.same _ _ _ HN2.out)
        have q0 : W3.cell? ⟨wr.heap.size + 1, 0, none⟩ = some (.int .i64 a) := by simp [World.cell?, HX3.out]
        have q1 : W3.cell? ⟨wr.heap.size + 1, 1, none⟩ = some (.int .i64 o) := by simp [World.cell?, HX3.out]
        have q2 : W3.cell? ⟨wr.heap.size + 1, 2, none⟩ = some (.int .i64 nn) := by simp [World.cell?, HX3.out]
        have q3 : W3.cell? ⟨wr.heap.size + 1, 3, none⟩ = some (.int .i64 z) := by simp [World.cell?, HX3.out]
        clear hJ3 hk3 HW HW2 HN2 HX3
        gi_wp2_with (refine ⟨trivial, ?_⟩; gi_at_call 92; refine (callsIn_wide.2 (HCB.out _)).mono ?_; rintro e w' ⟨rfl, rfl⟩)
        go_roundw
        case rel => exact ⟨k + 1, _, by omega, by go_num, rfl, Lib.hid HZ'.out, Lib.hid ⟨_, HMAP.out, HJ.out _ _ _ HJ3.out (World.grownBy_alloc _ _ none)⟩, Lib.hid (HW3.out.alloc hs3 _), by simp; omega⟩
        case measure => simp [intOf]; omega
      · have HJX := Lib.hid hJx3
        clear hJx3
        gi_wp2
        refine bodyPost_ret (results_none rfl _ _ _) rfl ?_
        exact ⟨⟨_, rfl⟩, .inr ⟨_, ⟨k + 1, by omega, HMAP.out⟩, HJX.out⟩⟩
    · obtain rfl : k = m := by omega
      gi_wp2
      go_end0
      obtain ⟨ys, hys, hjw⟩ := HYS.out
      exact ⟨⟨_, rfl⟩, .inl ⟨ys, hys, hjw⟩⟩

/-- **all hands back a value that tells the ranges with their shifts**, to whoever leaves shifted ranges alone. -/
theorem all_stops (n : Nat) (hn : 1 ≤ n) (Bn n₀ : Nat) (l : List Rg) (A : Option Addr) (m c : Nat) (w : World) (hok : okTo l m) (hm : m ≤ 100) (hr : RLow n₀ w A m l) (hB : Boxed w Bn 39 (.slice A m c)) (hsz : n₀ ≤ w.heap.size) :
    SeqStopsK Fence.wide n Try.prog 107 #[.pointer (some ⟨Bn, 0, none⟩)] (fun y : Ix m => #[Value.int .i64 (y.1 : Int), shV (rg l y.1) (sh l y.1)]) (KS n₀) (fun ys => ys.map (·.1) = List.range m) (fun pre => ∃ k, k ≤ m ∧ pre.map (·.1) = List.range k) m w := by
  intro L J Jx W hW hJ hJx hY hj
  exact all1_in n hn L Bn n₀ l A m c W hok hm (hr.below hW hsz) ((hW.block _ hB.lt).trans hB) (Nat.le_trans hsz hW.size) J Jx (fun s W W' hs hg => hJ s W W' none hs hg (fun r e => by cases e)) (fun pre y W1 hj1 hp => hY pre y W1 hj1 hp) hj
end Go.Proofs.Ytgodphfkhmahnaa.Sm
namespace Go.Proofs.Ytgodphfkhmahnaa.Sm
open Go.RowKit Mem
set_option linter.unusedVariables false

theorem RLow.at_ {n₀ : Nat} {W : World} {A : Option Addr} {m : Nat} {l : List Rg} (h : RLow n₀ W A m l) (hm : 0 < m) : ∃ b off, A = some ⟨b, off, none⟩ ∧ ∀ j, j < m → W.cell? ⟨b, off + j * 3, none⟩ = some (.int .i64 (rg l j).at_) ∧ W.cell? ⟨b, off + j * 3 + 1, none⟩ = some (.int .i64 (rg l j).old) ∧ W.cell? ⟨b, off + j * 3 + 2, none⟩ = some (.int .i64 (rg l j).new) := by
  obtain ⟨b, off, e, hb, hc⟩ := h.2 hm
  exact ⟨b, off, e, fun j hj => (hc j hj).cells⟩
theorem RLow.drewN {n₀ : Nat} {W : World} {A : Option Addr} {m : Nat} {l : List Rg} (h : RLow n₀ W A m l) (q : Nat) : RLow n₀ (W.drewN q) A m l := h

set_option maxHeartbeats 1000000 in
theorem rshift_any (n₀ : Nat) (l : List Rg) (A : Option Addr) (m c k : Nat) (w : World) (hok : okTo l m) (hm : m ≤ 100) (hk : k ≤ m) (hr : RLow n₀ w A m l) :
    Calls Try.prog 87 #[.slice A m c, .int .i64 k] w fun e w' => e = .returned (.int .i64 (sh l k)) ∧ ∃ q, w' = w.drewN q := by
  have HR := Lib.hid hr
  have HOK := Lib.hid hok
  clear hr hok
  go_enter Try.func87, Try.ntmps87
  go_wp2
  go_loopw [5, 6] (fun s j wr => ∃ (i : Nat) (z : Int), i ≤ k ∧ j = .int .i64 i ∧ s = .int .i64 z ∧ Hid (z = sh l i) ∧ ∃ q, wr = w.drewN q) (fun _ j _ => k - (intOf j).toNat)
  case atStart => exact ⟨0, 0, by omega, rfl, rfl, Lib.hid rfl, 0, rfl⟩
  case round =>
    obtain ⟨i, z, hi, rfl, rfl, HZ, q, rfl⟩ := hrel
    by_cases hlt : i < k
    · obtain ⟨b, off, rfl, hc⟩ := HR.out.at_ (by omega)
      obtain ⟨c0, c1, c2⟩ := hc i (by omega)
      clear hc
      have hf := (HOK.out i (by omega)).1
      have hs := far_sh (HOK.out.mono (by omega) : okTo l i) (by omega)
      have hz := sh_succ l i
      rw [← HZ.out] at hs hz
      unfold far at hs
      unfold Rg.fits at hf
      have HZ' := Lib.hid hz
      have i1 : (0 : Int) ≤ (i : Int) := by omega
      have i2 : (i : Int) < (m : Int) := by omega
      clear hz
      generalize rg l i = r at *
      obtain ⟨a, o, n⟩ := r
      simp only at c0 c1 c2 hf HZ'
      go_wp2_with fail
      go_quiet (fail)
      go_wp2
      go_roundw
      case rel => exact ⟨i + 1, _, by omega, by go_num, rfl, Lib.hid HZ'.out.symm, _, rfl⟩
      case measure => simp [intOf]; omega
    · obtain rfl : i = k := by omega
      go_wp2
      go_ret
      exact ⟨by rw [← HZ.out]; rfl, _, rfl⟩

theorem not_fits {a o n : Int} (h : ¬ (Rg.fits ⟨a, o, n⟩)) : a < 0 ∨ (0 ≤ a ∧ o < 0) ∨ (0 ≤ a ∧ 0 ≤ o ∧ n < 0) ∨ (0 ≤ a ∧ 0 ≤ o ∧ 0 ≤ n ∧ 1073741824 < a) ∨ (0 ≤ a ∧ 0 ≤ o ∧ 0 ≤ n ∧ a ≤ 1073741824 ∧ 1073741824 < o) ∨ (0 ≤ a ∧ 0 ≤ o ∧ 0 ≤ n ∧ a ≤ 1073741824 ∧ o ≤ 1073741824 ∧ 1073741824 < n) := by
  unfold Rg.fits at h
  simp only at h
  omega
theorem okAt_zero {l : List Rg} (h : (rg l 0).fits) : okAt l 0 := ⟨h, fun h => absurd h (by omega)⟩

set_option maxHeartbeats 2000000 in
theorem rright_any (l : List Rg) (A : Option Addr) (m c : Nat) (w : World) (hm : m ≤ 100) (hr : RLow w.heap.size w A m l) :
    Calls Try.prog 11 #[.slice A m c] w fun e w' => e = .returned (.bool (rightB l)) ∧ Below w.heap.size w w' := by
  have HR := Lib.hid hr
  have HL := Lib.hid hr.1
  obtain ⟨rb, hrb⟩ : ∃ b, b = rightB l := ⟨_, rfl⟩
  rw [← hrb]
  have HB := Lib.hid hrb
  clear hr hrb
  go_enter Try.func11, Try.ntmps11
  go_wp2
  go_loopw [3] (fun j wr => ∃ (i : Nat), i ≤ m ∧ j = .int .i64 i ∧ Hid (okTo l i) ∧ Hid (Below w.heap.size w wr)) (fun j _ => m - (intOf j).toNat)
  case atStart => exact ⟨0, by omega, rfl, Lib.hid (okTo_zero _), Lib.hid (Below.refl _ _)⟩
  case round =>
    obtain ⟨i, hi, rfl, HO, HW⟩ := hrel
    have hws : w.heap.size ≤ wr.heap.size := HW.out.size
    by_cases hlt : i < m
    · obtain ⟨b, off, rfl, hc⟩ := (HR.out.below HW.out (Nat.le_refl _)).at_ (by omega)
      obtain ⟨b', off', e', hbl, _⟩ := HR.out.2 (by omega)
      injection e' with e'
      injection e' with e1 e2 e3
      subst e1; subst e2
      obtain ⟨c0, c1, c2⟩ := hc i hlt
      have i1 : (0 : Int) ≤ (i : Int) := by omega
      have i2 : (i : Int) < (m : Int) := by omega
      by_cases hf : (rg l i).fits
      · by_cases h0 : i = 0
        · subst h0
          have N1 := Lib.hid (okTo_succ HO.out (okAt_zero hf))
          clear hc
          unfold Rg.fits at hf
          generalize rg l 0 = r at *
          obtain ⟨a, o, n⟩ := r
          simp only [Nat.zero_mul, Nat.add_zero] at c0 c1 c2 hf
          obtain ⟨⟨f0, f1⟩, ⟨f2, f3⟩, f4, f5⟩ := hf
          go_wp2_with fail
          go_quiet (fail)
          go_wp2
          go_roundw
          case rel => exact ⟨0 + 1, by omega, by go_num, N1, Lib.hid (below_drewN (HW.out.alloc hws _) _)⟩
          case measure => simp [intOf]; omega
        · obtain ⟨k, rfl⟩ : ∃ k, i = k + 1 := ⟨i - 1, by omega⟩
          obtain ⟨d0, d1, d2⟩ := hc k (by omega)
          have j1 : (0 : Int) ≤ (k : Int) := by omega
          have j2 : (k : Int) < (m : Int) := by omega
          have hpos : ((k : Int) + 1) > 0 := by omega
          have fp := (HO.out k (by omega)).1
          by_cases hg : (rg l k).at_ + (rg l k).old < (rg l (k + 1)).at_
          · have N1 := Lib.hid (okTo_succ HO.out ⟨hf, fun _ => hg⟩)
            have hbl' : b < wr.heap.size := by omega
            clear hc
            unfold Rg.fits at hf fp
            generalize rg l (k + 1) = r at *
            generalize rg l k = s at *
            obtain ⟨a, o, n⟩ := r
            obtain ⟨a', o', n'⟩ := s
            simp only at c0 c1 c2 hf d0 d1 d2 fp hg
            obtain ⟨⟨f0, f1⟩, ⟨f2, f3⟩, f4, f5⟩ := hf
            have hgf : decide (a ≤ a' + o') = false := decide_eq_false (by omega)
            have x0 := (World.cell?_alloc_lt wr (.cells #[.int .i64 a, .int .i64 o, .int .i64 n] 78) ⟨b, off + k * 3, none⟩ hbl').trans d0
            have x1 := (World.cell?_alloc_lt wr (.cells #[.int .i64 a, .int .i64 o, .int .i64 n] 78) ⟨b, off + k * 3 + 1, none⟩ hbl').trans d1
            have y0 : (wr.alloc (.cells #[.int .i64 a, .int .i64 o, .int .i64 n] 78)).cell? ⟨wr.heap.size, 0, none⟩ = some (.int .i64 a) := by rw [World.cell?_alloc_mark]; rfl
            have HW1 := Lib.hid (HW.out.alloc hws (.cells #[.int .i64 a, .int .i64 o, .int .i64 n] 78))
            go_upto_region 9 with fail
            clear c0 c1 c2 d0 d1 d2
            generalize wr.alloc (.cells #[.int .i64 a, .int .i64 o, .int .i64 n] 78) = W1 at *
            go_quiet (fail)
            go_wp2
            go_roundw
            case rel => exact ⟨k + 1 + 1, by omega, by go_num, N1, Lib.hid (below_drewN HW1.out _)⟩
            case measure => simp [intOf]; omega
          · have N1 := Lib.hid (HB.out.trans (rightB_false (i := k + 1) (by rw [HL.out]; exact hlt) (fun g => hg (g.2 (by omega)))))
            have hbl' : b < wr.heap.size := by omega
            clear hc
            unfold Rg.fits at hf fp
            generalize rg l (k + 1) = r at *
            generalize rg l k = s at *
            obtain ⟨a, o, n⟩ := r
            obtain ⟨a', o', n'⟩ := s
            simp only at c0 c1 c2 hf d0 d1 d2 fp hg
            obtain ⟨⟨f0, f1⟩, ⟨f2, f3⟩, f4, f5⟩ := hf
            have hgf : decide (a ≤ a' + o') = true := decide_eq_true (by omega)
            have x0 := (World.cell?_alloc_lt wr (.cells #[.int .i64 a, .int .i64 o, .int .i64 n] 78) ⟨b, off + k * 3, none⟩ hbl').trans d0
            have x1 := (World.cell?_alloc_lt wr (.cells #[.int .i64 a, .int .i64 o, .int .i64 n] 78) ⟨b, off + k * 3 + 1, none⟩ hbl').trans d1
            have y0 : (wr.alloc (.cells #[.int .i64 a, .int .i64 o, .int .i64 n] 78)).cell? ⟨wr.heap.size, 0, none⟩ = some (.int .i64 a) := by rw [World.cell?_alloc_mark]; rfl
            have HW1 := Lib.hid (HW.out.alloc hws (.cells #[.int .i64 a, .int .i64 o, .int .i64 n] 78))
            go_upto_region 9 with fail
            clear c0 c1 c2 d0 d1 d2
            generalize wr.alloc (.cells #[.int .i64 a, .int .i64 o, .int .i64 n] 78) = W1 at *
            go_quiet (fail)
            go_wp2
            go_ret
            exact ⟨ret_bool N1.out.symm, below_drewN HW1.out _⟩
      · have N1 := Lib.hid (HB.out.trans (rightB_false (i := i) (by rw [HL.out]; exact hlt) (fun g => hf g.1)))
        have HW1 := Lib.hid (HW.out.alloc hws (.cells #[.int .i64 (rg l i).at_, .int .i64 (rg l i).old, .int .i64 (rg l i).new] 78))
        clear hc
        generalize rg l i = r at *
        obtain ⟨a, o, n⟩ := r
        have hnf := not_fits hf
        clear hf
        simp only at c0 c1 c2
        rcases hnf with h1 | ⟨h1, h2⟩ | ⟨h1, h2, h3⟩ | ⟨h1, h2, h3, h4⟩ | ⟨h1, h2, h3, h4, h5⟩ | ⟨h1, h2, h3, h4, h5, h6⟩
        all_goals
          go_wp2
          go_ret
          exact ⟨ret_bool N1.out.symm, HW1.out⟩
    · obtain rfl : i = m := by omega
      go_wp2
      go_ret
      exact ⟨ret_bool (by rw [HB.out, rightB_true (by rw [HL.out]; exact HO.out)]), HW.out⟩
end Go.Proofs.Ytgodphfkhmahnaa.Sm
