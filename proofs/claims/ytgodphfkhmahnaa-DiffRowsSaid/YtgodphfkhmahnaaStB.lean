/- Steps: a step by its kind. -/
import Derived.Test.YtgodphfkhmahnaaStA
namespace Go.Proofs.Ytgodphfkhmahnaa.St
open Go.RowKit Mem Sm
set_option linter.unusedVariables false

def stV (x : Sp) (s t : Value) : Value := .agg (stC x s t)
def kI (k : Int) (v : Value) : Value := if k = 1 then .iface 171 v else if k = 2 then .iface 172 v else if k = 3 then .iface 177 v else if k = 4 then .iface 178 v else if k = 5 then .iface 179 v else .nilIface
def kB (k : Int) : Bool := decide (1 ≤ k) && decide (k ≤ 5)
set_option maxRecDepth 100000 in
set_option maxHeartbeats 4000000 in
theorem kindOf_any (x : Sp) (A B : Option Addr) (n m c d : Nat) (w : World) :
    Calls Try.prog 88 #[stV x (.slice A n c) (.slice B m d)] w fun e w' => e = .returned (.tuple #[kI x.kind (stV x (.slice A n c) (.slice B m d)), .bool (kB x.kind)]) ∧ Below w.heap.size w w' := by
  obtain ⟨xk, xf, xt, xg, xh, xi, xm, xv⟩ := x
  unfold stV stC
  simp only
  have HB := Lib.hid ((Below.refl _ w).alloc (Nat.le_refl _) (.cells #[.int .i64 xk, .int .i64 xf, .int .i64 xt, .int .i64 xg, .int .i64 xh, .int .i64 xi, .int .i64 xm, .int .i64 xv, .slice A n c, .slice B m d] 25))
  have hc := tenc (heap_alloc_new w (.cells #[.int .i64 xk, .int .i64 xf, .int .i64 xt, .int .i64 xg, .int .i64 xh, .int .i64 xi, .int .i64 xm, .int .i64 xv, .slice A n c, .slice B m d] 25))
  obtain ⟨⟨y0, y1, y2, y3, y4⟩, y5, y6, y7, y8, y9⟩ := hc
  by_cases k1 : xk = 1
  · subst k1
    go_enter Try.func88, Try.ntmps88
    go_wp2
    go_ret2
    exact ⟨rfl, HB.out⟩
  · by_cases k2 : xk = 2
    · subst k2
      go_enter Try.func88, Try.ntmps88
      go_wp2
      go_ret2
      exact ⟨rfl, HB.out⟩
    · by_cases k3 : xk = 3
      · subst k3
        go_enter Try.func88, Try.ntmps88
        go_wp2
        go_ret2
        exact ⟨rfl, HB.out⟩
      · by_cases k4 : xk = 4
        · subst k4
          go_enter Try.func88, Try.ntmps88
          go_wp2
          go_ret2
          exact ⟨rfl, HB.out⟩
        · by_cases k5 : xk = 5
          · subst k5
            go_enter Try.func88, Try.ntmps88
            go_wp2
            go_ret2
            exact ⟨rfl, HB.out⟩
          · have hI : kI xk = fun _ => .nilIface := by funext v; unfold kI; simp [k1, k2, k3, k4, k5]
            have hK : kB xk = false := by unfold kB; simp; omega
            rw [hI, hK]
            go_enter Try.func88, Try.ntmps88
            go_wp2
            go_ret2
            exact ⟨rfl, HB.out⟩
/-- whether what is told of its kind goes together -/
def partP (x : Sp) (n : Nat) (m : Nat) : Prop :=
  if x.kind = 2 then x.from_ ≤ x.gf ∧ x.gf ≤ x.gt ∧ x.gt ≤ x.to_ ∧ 0 ≤ x.ins ∧ x.ins ≤ n
  else if x.kind = 5 then (m : Int) = x.to_ - x.from_ ∧ m ≤ 20000
  else True
theorem formed_splice (v : Array Value) (w : World) : Calls Try.prog 138 #[.agg v] w fun e w' => e = .returned (.bool true) ∧ Below w.heap.size w w' := by
  have HB := Lib.hid ((Below.refl _ w).alloc (Nat.le_refl _) (.cells v 171))
  go_enter Try.func138, Try.ntmps138
  go_wp2
  go_ret
  exact ⟨rfl, HB.out⟩
theorem formed_mark (v : Array Value) (w : World) : Calls Try.prog 148 #[.agg v] w fun e w' => e = .returned (.bool true) ∧ Below w.heap.size w w' := by
  have HB := Lib.hid ((Below.refl _ w).alloc (Nat.le_refl _) (.cells v 175))
  go_enter Try.func148, Try.ntmps148
  go_wp2
  go_ret
  exact ⟨rfl, HB.out⟩
set_option maxRecDepth 100000 in
set_option maxHeartbeats 4000000 in
theorem formed_around (x : Sp) (A B : Option Addr) (n m c d : Nat) (w : World) : Calls Try.prog 142 #[stV x (.slice A n c) (.slice B m d)] w fun e w' => e = .returned (.bool (decide (x.from_ ≤ x.gf) && decide (x.gf ≤ x.gt) && decide (x.gt ≤ x.to_) && decide (0 ≤ x.ins) && decide (x.ins ≤ n))) ∧ Below w.heap.size w w' := by
  obtain ⟨xk, xf, xt, xg, xh, xi, xm, xv⟩ := x
  unfold stV stC
  simp only
  have HB := Lib.hid ((Below.refl _ w).alloc (Nat.le_refl _) (.cells #[.int .i64 xk, .int .i64 xf, .int .i64 xt, .int .i64 xg, .int .i64 xh, .int .i64 xi, .int .i64 xm, .int .i64 xv, .slice A n c, .slice B m d] 172))
  have hc := tenc (heap_alloc_new w (.cells #[.int .i64 xk, .int .i64 xf, .int .i64 xt, .int .i64 xg, .int .i64 xh, .int .i64 xi, .int .i64 xm, .int .i64 xv, .slice A n c, .slice B m d] 172))
  obtain ⟨⟨y0, y1, y2, y3, y4⟩, y5, y6, y7, y8, y9⟩ := hc
  by_cases c1 : xf ≤ xg
  · by_cases c2 : xg ≤ xh
    · by_cases c3 : xh ≤ xt
      · by_cases c4 : xi ≥ 0
        · by_cases c5 : xi ≤ n
          all_goals
            go_enter Try.func142, Try.ntmps142
            go_wp2
            go_ret
            exact ⟨ret_bool (by rw [Bool.eq_iff_iff]; simp; try omega), HB.out⟩
        · go_enter Try.func142, Try.ntmps142
          go_wp2
          go_ret
          exact ⟨ret_bool (by rw [Bool.eq_iff_iff]; simp; try omega), HB.out⟩
      · go_enter Try.func142, Try.ntmps142
        go_wp2
        go_ret
        exact ⟨ret_bool (by rw [Bool.eq_iff_iff]; simp; try omega), HB.out⟩
    · go_enter Try.func142, Try.ntmps142
      go_wp2
      go_ret
      exact ⟨ret_bool (by rw [Bool.eq_iff_iff]; simp; try omega), HB.out⟩
  · go_enter Try.func142, Try.ntmps142
    go_wp2
    go_ret
    exact ⟨ret_bool (by rw [Bool.eq_iff_iff]; simp; try omega), HB.out⟩
set_option maxRecDepth 100000 in
set_option maxHeartbeats 4000000 in
theorem formed_remark (x : Sp) (A B : Option Addr) (n m c d : Nat) (w : World) (hb : 0 ≤ x.from_ ∧ x.from_ ≤ x.to_ ∧ x.to_ ≤ 1073741824) : Calls Try.prog 154 #[stV x (.slice A n c) (.slice B m d)] w fun e w' => e = .returned (.bool (decide ((m : Int) = x.to_ - x.from_) && decide (m ≤ 20000))) ∧ Below w.heap.size w w' := by
  obtain ⟨xk, xf, xt, xg, xh, xi, xm, xv⟩ := x
  unfold stV stC
  simp only
  have HB := Lib.hid ((Below.refl _ w).alloc (Nat.le_refl _) (.cells #[.int .i64 xk, .int .i64 xf, .int .i64 xt, .int .i64 xg, .int .i64 xh, .int .i64 xi, .int .i64 xm, .int .i64 xv, .slice A n c, .slice B m d] 179))
  have hc := tenc (heap_alloc_new w (.cells #[.int .i64 xk, .int .i64 xf, .int .i64 xt, .int .i64 xg, .int .i64 xh, .int .i64 xi, .int .i64 xm, .int .i64 xv, .slice A n c, .slice B m d] 179))
  obtain ⟨⟨y0, y1, y2, y3, y4⟩, y5, y6, y7, y8, y9⟩ := hc
  obtain ⟨b1, b2, b3⟩ := hb
  simp only at b1 b2 b3
  by_cases c1 : (m : Int) = xt - xf
  · by_cases c2 : (m : Int) ≤ 20000
    all_goals
      go_enter Try.func154, Try.ntmps154
      go_wp2
      go_ret
      exact ⟨ret_bool (by rw [Bool.eq_iff_iff]; simp; try omega), HB.out⟩
  · go_enter Try.func154, Try.ntmps154
    go_wp2
    go_ret
    exact ⟨ret_bool (by rw [Bool.eq_iff_iff]; simp; try omega), HB.out⟩
set_option maxRecDepth 100000 in
set_option maxHeartbeats 4000000 in
theorem meant_splice (x : Sp) (A B : Option Addr) (n m c d : Nat) (w : World) : Calls Try.prog 140 #[stV x (.slice A n c) (.slice B m d)] w fun e w' => e = .returned (stV ⟨x.kind, x.from_, x.to_, 0, 0, 0, 0, 0⟩ (.slice A n c) (.slice none 0 0)) ∧ Below w.heap.size w w' := by
  obtain ⟨xk, xf, xt, xg, xh, xi, xm, xv⟩ := x
  unfold stV stC
  simp only
  have s1 : (w.alloc (.cells #[.int .i64 xk, .int .i64 xf, .int .i64 xt, .int .i64 xg, .int .i64 xh, .int .i64 xi, .int .i64 xm, .int .i64 xv, .slice A n c, .slice B m d] 171)).heap.size = w.heap.size + 1 := by simp
  have hb := heap_alloc_new w (.cells #[.int .i64 xk, .int .i64 xf, .int .i64 xt, .int .i64 xg, .int .i64 xh, .int .i64 xi, .int .i64 xm, .int .i64 xv, .slice A n c, .slice B m d] 171)
  have HB := Lib.hid (((Below.refl _ w).alloc (Nat.le_refl _) (.cells #[.int .i64 xk, .int .i64 xf, .int .i64 xt, .int .i64 xg, .int .i64 xh, .int .i64 xi, .int .i64 xm, .int .i64 xv, .slice A n c, .slice B m d] 171)).alloc (by simp) (.cells #[.int .i64 xk, .int .i64 xf, .int .i64 xt, .int .i64 0, .int .i64 0, .int .i64 0, .int .i64 0, .int .i64 0, .slice A n c, .slice none 0 0] 25))
  have HR := heap_alloc_new (w.alloc (.cells #[.int .i64 xk, .int .i64 xf, .int .i64 xt, .int .i64 xg, .int .i64 xh, .int .i64 xi, .int .i64 xm, .int .i64 xv, .slice A n c, .slice B m d] 171)) (.cells #[.int .i64 xk, .int .i64 xf, .int .i64 xt, .int .i64 0, .int .i64 0, .int .i64 0, .int .i64 0, .int .i64 0, .slice A n c, .slice none 0 0] 25)
  have hb2 : ((w.alloc (.cells #[.int .i64 xk, .int .i64 xf, .int .i64 xt, .int .i64 xg, .int .i64 xh, .int .i64 xi, .int .i64 xm, .int .i64 xv, .slice A n c, .slice B m d] 171)).alloc (.cells #[.int .i64 0, .int .i64 0, .int .i64 0, .int .i64 0, .int .i64 0, .int .i64 0, .int .i64 0, .int .i64 0, .slice none 0 0, .slice none 0 0] 25)).heap[w.heap.size]? = some (.cells #[.int .i64 xk, .int .i64 xf, .int .i64 xt, .int .i64 xg, .int .i64 xh, .int .i64 xi, .int .i64 xm, .int .i64 xv, .slice A n c, .slice B m d] 171 (0, 0)) := by
    rw [Below.heap_alloc _ _ _ (by simp), heap_alloc_new]
  rw [s1] at HR
  obtain ⟨⟨y0, y1, y2, y3, y4⟩, y5, y6, y7, y8, y9⟩ := tenc hb2
  obtain ⟨⟨r0, r1, r2, r3, r4⟩, r5, r6, r7, r8, r9⟩ := tenc HR
  have HQ := Lib.hid (And.intro r0 (And.intro r1 (And.intro r2 (And.intro r3 (And.intro r4 (And.intro r5 (And.intro r6 (And.intro r7 (And.intro r8 r9)))))))))
  clear r0 r1 r2 r3 r4 r5 r6 r7 r8 r9 hb hb2 HR s1
  go_enter Try.func140, Try.ntmps140
  go_wp2
  obtain ⟨r0, r1, r2, r3, r4, r5, r6, r7, r8, r9⟩ := HQ.out
  refine bodyPost_ret (v := .agg #[.int .i64 xk, .int .i64 xf, .int .i64 xt, .int .i64 0, .int .i64 0, .int .i64 0, .int .i64 0, .int .i64 0, .slice A n c, .slice none 0 0]) ?_ rfl ⟨rfl, HB.out⟩
  simp [results, Try.results140, go_sem, r0, r1, r2, r3, r4, r5, r6, r7, r8, r9]
set_option maxRecDepth 100000 in
set_option maxHeartbeats 4000000 in
theorem meant_around (x : Sp) (A B : Option Addr) (n m c d : Nat) (w : World) : Calls Try.prog 144 #[stV x (.slice A n c) (.slice B m d)] w fun e w' => e = .returned (stV ⟨x.kind, x.from_, x.to_, x.gf, x.gt, x.ins, 0, 0⟩ (.slice A n c) (.slice none 0 0)) ∧ Below w.heap.size w w' := by
  obtain ⟨xk, xf, xt, xg, xh, xi, xm, xv⟩ := x
  unfold stV stC
  simp only
  have s1 : (w.alloc (.cells #[.int .i64 xk, .int .i64 xf, .int .i64 xt, .int .i64 xg, .int .i64 xh, .int .i64 xi, .int .i64 xm, .int .i64 xv, .slice A n c, .slice B m d] 172)).heap.size = w.heap.size + 1 := by simp
  have hb := heap_alloc_new w (.cells #[.int .i64 xk, .int .i64 xf, .int .i64 xt, .int .i64 xg, .int .i64 xh, .int .i64 xi, .int .i64 xm, .int .i64 xv, .slice A n c, .slice B m d] 172)
  have HB := Lib.hid (((Below.refl _ w).alloc (Nat.le_refl _) (.cells #[.int .i64 xk, .int .i64 xf, .int .i64 xt, .int .i64 xg, .int .i64 xh, .int .i64 xi, .int .i64 xm, .int .i64 xv, .slice A n c, .slice B m d] 172)).alloc (by simp) (.cells #[.int .i64 xk, .int .i64 xf, .int .i64 xt, .int .i64 xg, .int .i64 xh, .int .i64 xi, .int .i64 0, .int .i64 0, .slice A n c, .slice none 0 0] 25))
  have HR := heap_alloc_new (w.alloc (.cells #[.int .i64 xk, .int .i64 xf, .int .i64 xt, .int .i64 xg, .int .i64 xh, .int .i64 xi, .int .i64 xm, .int .i64 xv, .slice A n c, .slice B m d] 172)) (.cells #[.int .i64 xk, .int .i64 xf, .int .i64 xt, .int .i64 xg, .int .i64 xh, .int .i64 xi, .int .i64 0, .int .i64 0, .slice A n c, .slice none 0 0] 25)
  have hb2 : ((w.alloc (.cells #[.int .i64 xk, .int .i64 xf, .int .i64 xt, .int .i64 xg, .int .i64 xh, .int .i64 xi, .int .i64 xm, .int .i64 xv, .slice A n c, .slice B m d] 172)).alloc (.cells #[.int .i64 0, .int .i64 0, .int .i64 0, .int .i64 0, .int .i64 0, .int .i64 0, .int .i64 0, .int .i64 0, .slice none 0 0, .slice none 0 0] 25)).heap[w.heap.size]? = some (.cells #[.int .i64 xk, .int .i64 xf, .int .i64 xt, .int .i64 xg, .int .i64 xh, .int .i64 xi, .int .i64 xm, .int .i64 xv, .slice A n c, .slice B m d] 172 (0, 0)) := by
    rw [Below.heap_alloc _ _ _ (by simp), heap_alloc_new]
  rw [s1] at HR
  obtain ⟨⟨y0, y1, y2, y3, y4⟩, y5, y6, y7, y8, y9⟩ := tenc hb2
  obtain ⟨⟨r0, r1, r2, r3, r4⟩, r5, r6, r7, r8, r9⟩ := tenc HR
  have HQ := Lib.hid (And.intro r0 (And.intro r1 (And.intro r2 (And.intro r3 (And.intro r4 (And.intro r5 (And.intro r6 (And.intro r7 (And.intro r8 r9)))))))))
  clear r0 r1 r2 r3 r4 r5 r6 r7 r8 r9 hb hb2 HR s1
  go_enter Try.func144, Try.ntmps144
  go_wp2
  obtain ⟨r0, r1, r2, r3, r4, r5, r6, r7, r8, r9⟩ := HQ.out
  refine bodyPost_ret (v := .agg #[.int .i64 xk, .int .i64 xf, .int .i64 xt, .int .i64 xg, .int .i64 xh, .int .i64 xi, .int .i64 0, .int .i64 0, .slice A n c, .slice none 0 0]) ?_ rfl ⟨rfl, HB.out⟩
  simp [results, Try.results144, go_sem, r0, r1, r2, r3, r4, r5, r6, r7, r8, r9]
set_option maxRecDepth 100000 in
set_option maxHeartbeats 4000000 in
theorem meant_mark (x : Sp) (A B : Option Addr) (n m c d : Nat) (w : World) : Calls Try.prog 150 #[stV x (.slice A n c) (.slice B m d)] w fun e w' => e = .returned (stV ⟨x.kind, x.from_, x.to_, 0, 0, 0, x.mark, x.val⟩ (.slice none 0 0) (.slice none 0 0)) ∧ Below w.heap.size w w' := by
  obtain ⟨xk, xf, xt, xg, xh, xi, xm, xv⟩ := x
  unfold stV stC
  simp only
  have s1 : (w.alloc (.cells #[.int .i64 xk, .int .i64 xf, .int .i64 xt, .int .i64 xg, .int .i64 xh, .int .i64 xi, .int .i64 xm, .int .i64 xv, .slice A n c, .slice B m d] 175)).heap.size = w.heap.size + 1 := by simp
  have hb := heap_alloc_new w (.cells #[.int .i64 xk, .int .i64 xf, .int .i64 xt, .int .i64 xg, .int .i64 xh, .int .i64 xi, .int .i64 xm, .int .i64 xv, .slice A n c, .slice B m d] 175)
  have HB := Lib.hid (((Below.refl _ w).alloc (Nat.le_refl _) (.cells #[.int .i64 xk, .int .i64 xf, .int .i64 xt, .int .i64 xg, .int .i64 xh, .int .i64 xi, .int .i64 xm, .int .i64 xv, .slice A n c, .slice B m d] 175)).alloc (by simp) (.cells #[.int .i64 xk, .int .i64 xf, .int .i64 xt, .int .i64 0, .int .i64 0, .int .i64 0, .int .i64 xm, .int .i64 xv, .slice none 0 0, .slice none 0 0] 25))
  have HR := heap_alloc_new (w.alloc (.cells #[.int .i64 xk, .int .i64 xf, .int .i64 xt, .int .i64 xg, .int .i64 xh, .int .i64 xi, .int .i64 xm, .int .i64 xv, .slice A n c, .slice B m d] 175)) (.cells #[.int .i64 xk, .int .i64 xf, .int .i64 xt, .int .i64 0, .int .i64 0, .int .i64 0, .int .i64 xm, .int .i64 xv, .slice none 0 0, .slice none 0 0] 25)
  have hb2 : ((w.alloc (.cells #[.int .i64 xk, .int .i64 xf, .int .i64 xt, .int .i64 xg, .int .i64 xh, .int .i64 xi, .int .i64 xm, .int .i64 xv, .slice A n c, .slice B m d] 175)).alloc (.cells #[.int .i64 0, .int .i64 0, .int .i64 0, .int .i64 0, .int .i64 0, .int .i64 0, .int .i64 0, .int .i64 0, .slice none 0 0, .slice none 0 0] 25)).heap[w.heap.size]? = some (.cells #[.int .i64 xk, .int .i64 xf, .int .i64 xt, .int .i64 xg, .int .i64 xh, .int .i64 xi, .int .i64 xm, .int .i64 xv, .slice A n c, .slice B m d] 175 (0, 0)) := by
    rw [Below.heap_alloc _ _ _ (by simp), heap_alloc_new]
  rw [s1] at HR
  obtain ⟨⟨y0, y1, y2, y3, y4⟩, y5, y6, y7, y8, y9⟩ := tenc hb2
  obtain ⟨⟨r0, r1, r2, r3, r4⟩, r5, r6, r7, r8, r9⟩ := tenc HR
  have HQ := Lib.hid (And.intro r0 (And.intro r1 (And.intro r2 (And.intro r3 (And.intro r4 (And.intro r5 (And.intro r6 (And.intro r7 (And.intro r8 r9)))))))))
  clear r0 r1 r2 r3 r4 r5 r6 r7 r8 r9 hb hb2 HR s1
  go_enter Try.func150, Try.ntmps150
  go_wp2
  obtain ⟨r0, r1, r2, r3, r4, r5, r6, r7, r8, r9⟩ := HQ.out
  refine bodyPost_ret (v := .agg #[.int .i64 xk, .int .i64 xf, .int .i64 xt, .int .i64 0, .int .i64 0, .int .i64 0, .int .i64 xm, .int .i64 xv, .slice none 0 0, .slice none 0 0]) ?_ rfl ⟨rfl, HB.out⟩
  simp [results, Try.results150, go_sem, r0, r1, r2, r3, r4, r5, r6, r7, r8, r9]
set_option maxRecDepth 100000 in
set_option maxHeartbeats 4000000 in
theorem meant_remark (x : Sp) (A B : Option Addr) (n m c d : Nat) (w : World) : Calls Try.prog 156 #[stV x (.slice A n c) (.slice B m d)] w fun e w' => e = .returned (stV ⟨x.kind, x.from_, x.to_, 0, 0, 0, 0, 0⟩ (.slice none 0 0) (.slice B m d)) ∧ Below w.heap.size w w' := by
  obtain ⟨xk, xf, xt, xg, xh, xi, xm, xv⟩ := x
  unfold stV stC
  simp only
  have s1 : (w.alloc (.cells #[.int .i64 xk, .int .i64 xf, .int .i64 xt, .int .i64 xg, .int .i64 xh, .int .i64 xi, .int .i64 xm, .int .i64 xv, .slice A n c, .slice B m d] 179)).heap.size = w.heap.size + 1 := by simp
  have hb := heap_alloc_new w (.cells #[.int .i64 xk, .int .i64 xf, .int .i64 xt, .int .i64 xg, .int .i64 xh, .int .i64 xi, .int .i64 xm, .int .i64 xv, .slice A n c, .slice B m d] 179)
  have HB := Lib.hid (((Below.refl _ w).alloc (Nat.le_refl _) (.cells #[.int .i64 xk, .int .i64 xf, .int .i64 xt, .int .i64 xg, .int .i64 xh, .int .i64 xi, .int .i64 xm, .int .i64 xv, .slice A n c, .slice B m d] 179)).alloc (by simp) (.cells #[.int .i64 xk, .int .i64 xf, .int .i64 xt, .int .i64 0, .int .i64 0, .int .i64 0, .int .i64 0, .int .i64 0, .slice none 0 0, .slice B m d] 25))
  have HR := heap_alloc_new (w.alloc (.cells #[.int .i64 xk, .int .i64 xf, .int .i64 xt, .int .i64 xg, .int .i64 xh, .int .i64 xi, .int .i64 xm, .int .i64 xv, .slice A n c, .slice B m d] 179)) (.cells #[.int .i64 xk, .int .i64 xf, .int .i64 xt, .int .i64 0, .int .i64 0, .int .i64 0, .int .i64 0, .int .i64 0, .slice none 0 0, .slice B m d] 25)
  have hb2 : ((w.alloc (.cells #[.int .i64 xk, .int .i64 xf, .int .i64 xt, .int .i64 xg, .int .i64 xh, .int .i64 xi, .int .i64 xm, .int .i64 xv, .slice A n c, .slice B m d] 179)).alloc (.cells #[.int .i64 0, .int .i64 0, .int .i64 0, .int .i64 0, .int .i64 0, .int .i64 0, .int .i64 0, .int .i64 0, .slice none 0 0, .slice none 0 0] 25)).heap[w.heap.size]? = some (.cells #[.int .i64 xk, .int .i64 xf, .int .i64 xt, .int .i64 xg, .int .i64 xh, .int .i64 xi, .int .i64 xm, .int .i64 xv, .slice A n c, .slice B m d] 179 (0, 0)) := by
    rw [Below.heap_alloc _ _ _ (by simp), heap_alloc_new]
  rw [s1] at HR
  obtain ⟨⟨y0, y1, y2, y3, y4⟩, y5, y6, y7, y8, y9⟩ := tenc hb2
  obtain ⟨⟨r0, r1, r2, r3, r4⟩, r5, r6, r7, r8, r9⟩ := tenc HR
  have HQ := Lib.hid (And.intro r0 (And.intro r1 (And.intro r2 (And.intro r3 (And.intro r4 (And.intro r5 (And.intro r6 (And.intro r7 (And.intro r8 r9)))))))))
  clear r0 r1 r2 r3 r4 r5 r6 r7 r8 r9 hb hb2 HR s1
  go_enter Try.func156, Try.ntmps156
  go_wp2
  obtain ⟨r0, r1, r2, r3, r4, r5, r6, r7, r8, r9⟩ := HQ.out
  refine bodyPost_ret (v := .agg #[.int .i64 xk, .int .i64 xf, .int .i64 xt, .int .i64 0, .int .i64 0, .int .i64 0, .int .i64 0, .int .i64 0, .slice none 0 0, .slice B m d]) ?_ rfl ⟨rfl, HB.out⟩
  simp [results, Try.results156, go_sem, r0, r1, r2, r3, r4, r5, r6, r7, r8, r9]
end Go.Proofs.Ytgodphfkhmahnaa.St
