/- Steps: the ranges of what lays tokens. -/
import Derived.Test.YthbodpdjjihcaaaStH
namespace Go.Proofs.Ythbodpdjjihcaaa.St
open Go.RowKit Mem Sm
set_option linter.unusedVariables false
theorem rgs_lit (w : World) (r : Rg) : Rgs w.heap.size (w.alloc (.cells #[.int .i64 r.at_, .int .i64 r.old, .int .i64 r.new] 78)) (.slice (some ⟨w.heap.size, 0, none⟩) 1 1) [r] :=
  ⟨rfl, .inr ⟨w.heap.size, 1, _, rfl, Nat.le_refl _, heap_alloc_new w _, Nat.le_refl _, by decide, rfl, rfl⟩⟩
set_option maxRecDepth 100000 in
set_option maxHeartbeats 4000000 in
theorem ranges_lay (x : Sp) (A B : Option Addr) (n m c d : Nat) (w : World) (hf : 0 ≤ x.from_ ∧ x.from_ ≤ x.to_ ∧ x.to_ ≤ 1073741824) : Calls Try.prog 136 #[stV x (.slice A n c) (.slice B m d)] w (RgsIs w [⟨x.from_, x.to_ - x.from_, n⟩]) := by
  obtain ⟨xk, xf, xt, xg, xh, xi, xm, xv⟩ := x
  unfold stV stC
  simp only at hf ⊢
  have HB := Lib.hid ((Below.refl _ w).alloc (Nat.le_refl _) (.cells #[.int .i64 xk, .int .i64 xf, .int .i64 xt, .int .i64 xg, .int .i64 xh, .int .i64 xi, .int .i64 xm, .int .i64 xv, .slice A n c, .slice B m d] 169))
  obtain ⟨⟨y0, y1, y2, y3, y4⟩, y5, y6, y7, y8, y9⟩ := tenc (heap_alloc_new w (.cells #[.int .i64 xk, .int .i64 xf, .int .i64 xt, .int .i64 xg, .int .i64 xh, .int .i64 xi, .int .i64 xm, .int .i64 xv, .slice A n c, .slice B m d] 169))
  have hw : wrap64 (xt - xf) = xt - xf := by unfold wrap64; omega
  go_enter Try.func136, Try.ntmps136
  go_wp2
  go_ret
  have s1 : (w.alloc (.cells #[.int .i64 xk, .int .i64 xf, .int .i64 xt, .int .i64 xg, .int .i64 xh, .int .i64 xi, .int .i64 xm, .int .i64 xv, .slice A n c, .slice B m d] 169)).heap.size = w.heap.size + 1 := by simp
  have hr := rgs_lit (w.alloc (.cells #[.int .i64 xk, .int .i64 xf, .int .i64 xt, .int .i64 xg, .int .i64 xh, .int .i64 xi, .int .i64 xm, .int .i64 xv, .slice A n c, .slice B m d] 169)) ⟨xf, xt - xf, n⟩
  rw [s1] at hr
  exact ⟨_, rfl, hr.lower (by omega), HB.out.alloc (by rw [s1]; omega) _⟩
theorem rgs_lit2 (w : World) (r q : Rg) : Rgs w.heap.size (w.alloc (.cells #[.int .i64 r.at_, .int .i64 r.old, .int .i64 r.new, .int .i64 q.at_, .int .i64 q.old, .int .i64 q.new] 78)) (.slice (some ⟨w.heap.size, 0, none⟩) 2 2) [r, q] :=
  ⟨rfl, .inr ⟨w.heap.size, 2, _, rfl, Nat.le_refl _, heap_alloc_new w _, Nat.le_refl _, by decide, rfl, rfl⟩⟩
set_option maxRecDepth 100000 in
set_option maxHeartbeats 4000000 in
theorem ranges_around (x : Sp) (A B : Option Addr) (n m c d : Nat) (w : World) (hn : n ≤ 1000000) (hf : 0 ≤ x.from_ ∧ x.from_ ≤ x.gf ∧ x.gf ≤ x.gt ∧ x.gt ≤ x.to_ ∧ x.to_ ≤ 1073741824 ∧ 0 ≤ x.ins ∧ x.ins ≤ n) : Calls Try.prog 145 #[stV x (.slice A n c) (.slice B m d)] w (RgsIs w (if x.gf = x.gt then [⟨x.from_, x.to_ - x.from_, n⟩] else [⟨x.from_, x.gf - x.from_, x.ins⟩, ⟨x.gt, x.to_ - x.gt, n - x.ins⟩])) := by
  have CL := fun W => ranges_lay x A B n m c d W (by omega)
  obtain ⟨xk, xf, xt, xg, xh, xi, xm, xv⟩ := x
  unfold stV stC at CL
  unfold stV stC
  simp only at hf CL ⊢
  have HB := Lib.hid ((Below.refl _ w).alloc (Nat.le_refl _) (.cells #[.int .i64 xk, .int .i64 xf, .int .i64 xt, .int .i64 xg, .int .i64 xh, .int .i64 xi, .int .i64 xm, .int .i64 xv, .slice A n c, .slice B m d] 172))
  obtain ⟨⟨y0, y1, y2, y3, y4⟩, y5, y6, y7, y8, y9⟩ := tenc (heap_alloc_new w (.cells #[.int .i64 xk, .int .i64 xf, .int .i64 xt, .int .i64 xg, .int .i64 xh, .int .i64 xi, .int .i64 xm, .int .i64 xv, .slice A n c, .slice B m d] 172))
  by_cases hg : xg = xh
  · subst hg
    rw [if_pos rfl]
    go_enter Try.func145, Try.ntmps145
    go_wp2_with fail
    refine (CL _).mono ?_
    rintro e w1 ⟨v, rfl, hv, hb1⟩
    have HV := Lib.hid hv
    have HB1 := Lib.hid (HB.out.trans (hb1.mono HB.out.size))
    clear y0 y1 y2 y3 y4 y5 y6 y7 y8 y9 hb1 hv HB CL
    go_wp2
    go_ret
    exact ⟨_, rfl, HV.out.lower (by simp), HB1.out⟩
  · rw [if_neg hg]
    have h1 : wrap64 (xg - xf) = xg - xf := by unfold wrap64; omega
    have h2 : wrap64 (xt - xh) = xt - xh := by unfold wrap64; omega
    have h3 : wrap64 (n - xi) = n - xi := by unfold wrap64; omega
    go_enter Try.func145, Try.ntmps145
    go_wp2
    go_ret
    have s1 : (w.alloc (.cells #[.int .i64 xk, .int .i64 xf, .int .i64 xt, .int .i64 xg, .int .i64 xh, .int .i64 xi, .int .i64 xm, .int .i64 xv, .slice A n c, .slice B m d] 172)).heap.size = w.heap.size + 1 := by simp
    have hr := rgs_lit2 (w.alloc (.cells #[.int .i64 xk, .int .i64 xf, .int .i64 xt, .int .i64 xg, .int .i64 xh, .int .i64 xi, .int .i64 xm, .int .i64 xv, .slice A n c, .slice B m d] 172)) ⟨xf, xg - xf, xi⟩ ⟨xh, xt - xh, n - xi⟩
    rw [s1] at hr
    exact ⟨_, rfl, hr.lower (by omega), HB.out.alloc (by rw [s1]; omega) _⟩
end Go.Proofs.Ythbodpdjjihcaaa.St
