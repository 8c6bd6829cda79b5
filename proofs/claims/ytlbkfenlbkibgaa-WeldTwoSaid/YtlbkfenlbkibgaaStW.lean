/- Steps: Through, Over. -/
import Derived.Test.YtlbkfenlbkibgaaRtR
import Derived.Test.YtlbkfenlbkibgaaRtT
import Derived.Test.YtlbkfenlbkibgaaRtA
set_option linter.unusedVariables false
set_option maxRecDepth 100000
set_option maxHeartbeats 4000000
namespace Go.Proofs.Ytlbkfenlbkibgaa.St
open Go.RowKit Mem Sm Tk Rt
set_option linter.unusedSimpArgs false
noncomputable abbrev goT (M : List (List Rg)) (mir : List (Int × Int)) : Int → Int → Option Rt.St := fun pos side => goR M mir side 0 ⟨pos, false, false⟩
theorem tells_xt {n₀ base : Nat} {A1 A2 : Option Addr} {n1 n2 c1 c2 : Nat} {vs : List Value} {M : List (List Rg)} {O : List Int} {mir : List (Int × Int)} (hM : M.length ≤ 1000) (hm : ∀ m ∈ M, m.length ≤ 100 ∧ rightB m = true) (hrel : Rel M O mir) :
  RTells (.agg #[.slice A1 n1 c1, .slice A2 n2 c2]) (fun W => XAt n₀ base W (.slice A1 n1 c1) (.slice A2 n2 c2) vs M O ∧ n₀ ≤ W.heap.size) (goT M mir) :=
 ⟨fun W W' h hb => ⟨h.1.step hb h.2, Nat.le_trans h.2 hb.size⟩, fun W a s h => rrtell_any n₀ base _ _ vs M O mir a s W hM hm hrel h.1 h.2⟩
noncomputable def overB (l : List Rg) (x : Sp) (n m : Nat) : Bool := rightB l && shiftB (goT [l] []) x n m
end Go.Proofs.Ytlbkfenlbkibgaa.St
namespace Go.Proofs.Ytlbkfenlbkibgaa.St
open Go.RowKit Mem Sm Tk Rt
set_option linter.unusedSimpArgs false
theorem rel_one (l : List Rg) : Rel [l] [-1] [] := by
 have := Rel.add (m := l) Rel.nil
 simpa [addO] using this
theorem xat_one {n₀ : Nat} {W : World} {D : Option Addr} {cd : Nat} {l : List Rg} (h : RLow n₀ W D l.length l) (hn : n₀ ≤ W.heap.size) :
  XAt n₀ W.heap.size ((W.alloc (.cells #[.slice D l.length cd] 39)).alloc (.cells #[.int .i64 (-1)] 3)) (.slice (some ⟨W.heap.size, 0, none⟩) 1 1) (.slice (some ⟨W.heap.size + 1, 0, none⟩) 1 1) [.slice D l.length cd] [l] [-1] := by
 have s1 : (W.alloc (.cells #[.slice D l.length cd] 39)).heap.size = W.heap.size + 1 := by simp
 have hb : Below W.heap.size W ((W.alloc (.cells #[.slice D l.length cd] 39)).alloc (.cells #[.int .i64 (-1)] 3)) := ((Below.refl _ W).alloc (Nat.le_refl _) _).alloc (by omega) _
 have h0 : ((W.alloc (.cells #[.slice D l.length cd] 39)).alloc (.cells #[.int .i64 (-1)] 3)).heap[W.heap.size]? = some (.cells #[.slice D l.length cd] 39 (0, 0)) := by rw [Below.heap_alloc _ _ _ (by omega), heap_alloc_new]
 have h1 := heap_alloc_new (W.alloc (.cells #[.slice D l.length cd] 39)) (.cells #[.int .i64 (-1)] 3)
 rw [s1] at h1
 refine ⟨?_, ?_, ?_⟩
 ·exact ⟨rfl, .inr ⟨W.heap.size, 1, #[.slice D l.length cd], rfl, Nat.le_refl _, h0, (by first | exact Nat.le_refl _ | decide | simp), (by first | exact Nat.le_refl _ | decide | simp), rfl, rfl⟩⟩
 ·intro i u m hu hm
  have hi : i = 0 := by
   rcases i with _ | i
   ·rfl
   ·simp at hu
  subst hi
  simp at hu hm
  subst hu hm
  exact ⟨D, cd, rfl, h.below hb hn⟩
 ·exact ⟨rfl, .inr ⟨W.heap.size + 1, 1, #[.int .i64 (-1)], rfl, by omega, h1, (by first | exact Nat.le_refl _ | decide | simp), (by first | exact Nat.le_refl _ | decide | simp), rfl, rfl⟩⟩
def ROverIs (l : List Rg) (x : Sp) (A B : Option Addr) (n m c d : Nat) (e : Ending) : Prop :=
 (overB l x n m = true ∧ e = .returned (.tuple #[stV (goneN (goT [l] []) x) (.slice A n c) (.slice B m d), .bool true])) ∨
 (overB l x n m = false ∧ e = .returned (.tuple #[zeroV, .bool false]))
theorem rover_any (l : List Rg) (D : Option Addr) (k cd : Nat) (x : Sp) (A B : Option Addr) (n m c d : Nat) (w : World) (hn : n ≤ 1000000) (hm : m ≤ 1000000) (hk : k ≤ 100) (h5 : RRow w D k l) :
  Calls Try.prog 21 #[stV x (.slice A n c) (.slice B m d), .slice D k cd] w fun e w' => ROverIs l x A B n m c d e ∧ Below w.heap.size w w' := by
 have hkl : k = l.length := h5.1.symm
 subst hkl
 have CR := fun W q => rright_any l D l.length cd W hk q
 have CT : ∀ (n₀ base : Nat) (A1 A2 : Option Addr) (n1 n2 c1 c2 : Nat) (vs : List Value) (hr : rightB l = true) (W : World), (XAt n₀ base W (.slice A1 n1 c1) (.slice A2 n2 c2) vs [l] [-1] ∧ n₀ ≤ W.heap.size) → _ := fun n₀ base A1 A2 n1 n2 c1 c2 vs hr W q => rthrough_any (tells_xt (n₀ := n₀) (base := base) (A1 := A1) (A2 := A2) (n1 := n1) (n2 := n2) (c1 := c1) (c2 := c2) (vs := vs) (M := [l]) (O := [-1]) (mir := []) (by simp) (fun m' hm' => by simp at hm'; subst hm'; exact ⟨hk, hr⟩) (rel_one l)) x A B n m c d W q hn hm
 obtain ⟨E, hE⟩ : ∃ E : Ending → Prop, E = ROverIs l x A B n m c d := ⟨_, rfl⟩
 rw [← hE]
 have HE : Hid (∀ e, E e ↔ ROverIs l x A B n m c d e) := Lib.hid (fun e => by rw [hE])
 clear hE
 unfold ROverIs overB at HE
 unfold RThIs at CT
 obtain ⟨F, hF⟩ : ∃ F, F = shiftB (goT [l] []) x n m := ⟨_, rfl⟩
 obtain ⟨Y, hY⟩ : ∃ F, F = goneN (goT [l] []) x := ⟨_, rfl⟩
 simp only [← hF, ← hY] at CT HE
 clear hF hY
 obtain ⟨xk, xf, xt, xg, xh, xi, xm, xv⟩ := x
 obtain ⟨yk, yf, yt, yg, yh, yi, ym, yv⟩ := Y
 unfold stV stC at CT HE
 unfold stV stC
 simp only at CT HE ⊢
 have hb0 := ((Below.refl _ w).alloc (Nat.le_refl _) (.cells #[.int .i64 xk, .int .i64 xf, .int .i64 xt, .int .i64 xg, .int .i64 xh, .int .i64 xi, .int .i64 xm, .int .i64 xv, .slice A n c, .slice B m d] 25)).alloc (by simp) (.cells #[.int .i64 0, .int .i64 0, .int .i64 0, .int .i64 0, .int .i64 0, .int .i64 0, .int .i64 0, .int .i64 0, .slice none 0 0, .slice none 0 0] 25)
 have hx : ((w.alloc (.cells #[.int .i64 xk, .int .i64 xf, .int .i64 xt, .int .i64 xg, .int .i64 xh, .int .i64 xi, .int .i64 xm, .int .i64 xv, .slice A n c, .slice B m d] 25)).alloc (.cells #[.int .i64 0, .int .i64 0, .int .i64 0, .int .i64 0, .int .i64 0, .int .i64 0, .int .i64 0, .int .i64 0, .slice none 0 0, .slice none 0 0] 25)).heap[w.heap.size]? = some (.cells #[.int .i64 xk, .int .i64 xf, .int .i64 xt, .int .i64 xg, .int .i64 xh, .int .i64 xi, .int .i64 xm, .int .i64 xv, .slice A n c, .slice B m d] 25) := by rw [Below.heap_alloc _ _ _ (by simp), heap_alloc_new]
 have hz := heap_alloc_new (w.alloc (.cells #[.int .i64 xk, .int .i64 xf, .int .i64 xt, .int .i64 xg, .int .i64 xh, .int .i64 xi, .int .i64 xm, .int .i64 xv, .slice A n c, .slice B m d] 25)) (.cells #[.int .i64 0, .int .i64 0, .int .i64 0, .int .i64 0, .int .i64 0, .int .i64 0, .int .i64 0, .int .i64 0, .slice none 0 0, .slice none 0 0] 25)
 rw [show (w.alloc (.cells #[.int .i64 xk, .int .i64 xf, .int .i64 xt, .int .i64 xg, .int .i64 xh, .int .i64 xi, .int .i64 xm, .int .i64 xv, .slice A n c, .slice B m d] 25)).heap.size = w.heap.size + 1 by simp] at hz
 have HB := Lib.hid hb0
 have HX := Lib.hid hx
 have HZ := Lib.hid hz
 have HD := Lib.hid (RLow.of (h5.below hb0))
 clear hb0 hx hz
 go_enter Try.func21, Try.ntmps21
 go_wp2_with fail
 refine (CR _ HD.out).mono ?_
 rintro e w1 ⟨rfl, hb1⟩
 have HB1 := Lib.hid (HB.out.trans (hb1.mono HB.out.size))
 have HX1 := Lib.hid (hkeep hb1 HX.out)
 have HZ1 := Lib.hid (hkeep hb1 HZ.out)
 have HD1 := Lib.hid ((HD.out.below hb1 (Nat.le_refl _)).lift hb1.size)
 clear hb1 HB HX HZ HD CR h5
 cases hr : rightB l with
 | false =>
  simp only [hr, Bool.false_and] at HE
  clear CT HX1 HD1
  obtain ⟨⟨z0, z1, z2, z3, z4⟩, z5, z6, z7, z8, z9⟩ := tenc HZ1.out
  obtain ⟨f0, f1, f2, f3, f4, f5, f6, f7, f8, f9⟩ := froz HZ1.out
  go_wp2
  clear z0 z1 z2 z3 z4 z5 z6 z7 z8 z9 f0 f1 f2 f3 f4 f5 f6 f7 f8 f9
  have hF := tenc (put10_at HZ1.out (.int .i64 0) (.int .i64 0) (.int .i64 0) (.int .i64 0) (.int .i64 0) (.int .i64 0) (.int .i64 0) (.int .i64 0) (.slice none 0 0) (.slice none 0 0))
  have hB10 := put10_below HB1.out (B := w.heap.size + 1) (by omega) (.int .i64 0) (.int .i64 0) (.int .i64 0) (.int .i64 0) (.int .i64 0) (.int .i64 0) (.int .i64 0) (.int .i64 0) (.slice none 0 0) (.slice none 0 0)
  obtain ⟨⟨r0, r1, r2, r3, r4⟩, r5, r6, r7, r8, r9⟩ := hF
  unfold put10 at r0 r1 r2 r3 r4 r5 r6 r7 r8 r9 hB10
  refine bodyPost_ret (v := .tuple #[.agg #[.int .i64 0, .int .i64 0, .int .i64 0, .int .i64 0, .int .i64 0, .int .i64 0, .int .i64 0, .int .i64 0, .slice none 0 0, .slice none 0 0], .bool false]) ?_ rfl (⟨(HE.out _).2 (.inr ⟨by simp, rfl⟩), hB10⟩)
  simp [results, Try.results21, go_sem, r0, r1, r2, r3, r4, r5, r6, r7, r8, r9]
 | true =>
  simp only [hr, Bool.true_and] at HE
  have hXA := xat_one (cd := cd) HD1.out (Nat.le_refl _)
  have CTT := CT w1.heap.size w1.heap.size (some ⟨w1.heap.size, 0, none⟩) (some ⟨w1.heap.size + 1, 0, none⟩) 1 1 1 1 _ hr _ ⟨hXA, by simp; omega⟩
  have hbn : Below w1.heap.size w1 ((w1.alloc (.cells #[.slice D l.length cd] 39)).alloc (.cells #[.int .i64 (-1)] 3)) := ((Below.refl _ w1).alloc (Nat.le_refl _) _).alloc (by simp) _
  have HB2 := Lib.hid (HB1.out.trans (hbn.mono HB1.out.size))
  have HZ2 := Lib.hid (hkeep hbn HZ1.out)
  clear CT hXA HD1 HZ1 HB1 hbn hr
  obtain ⟨⟨y0, y1, y2, y3, y4⟩, y5, y6, y7, y8, y9⟩ := tenc HX1.out
  go_wp2_with fail
  refine CTT.mono ?_
  rintro e w2 ⟨he, hb2⟩
  have HB3 := Lib.hid (HB2.out.trans (hb2.mono HB2.out.size))
  have HZ3 := Lib.hid (hkeep hb2 HZ2.out)
  clear hb2 HB2 HZ2 HX1 CTT y0 y1 y2 y3 y4 y5 y6 y7 y8 y9
  obtain ⟨⟨z0, z1, z2, z3, z4⟩, z5, z6, z7, z8, z9⟩ := tenc HZ3.out
  obtain ⟨f0, f1, f2, f3, f4, f5, f6, f7, f8, f9⟩ := froz HZ3.out
  rcases he with ⟨rfl, rfl⟩ | ⟨rfl, rfl⟩
  ·go_wp2
   clear z0 z1 z2 z3 z4 z5 z6 z7 z8 z9 f0 f1 f2 f3 f4 f5 f6 f7 f8 f9
   have hF := tenc (put10_at HZ3.out (.int .i64 yk) (.int .i64 yf) (.int .i64 yt) (.int .i64 yg) (.int .i64 yh) (.int .i64 yi) (.int .i64 ym) (.int .i64 yv) (.slice A n c) (.slice B m d))
   have hB10 := put10_below HB3.out (B := w.heap.size + 1) (by omega) (.int .i64 yk) (.int .i64 yf) (.int .i64 yt) (.int .i64 yg) (.int .i64 yh) (.int .i64 yi) (.int .i64 ym) (.int .i64 yv) (.slice A n c) (.slice B m d)
   obtain ⟨⟨r0, r1, r2, r3, r4⟩, r5, r6, r7, r8, r9⟩ := hF
   unfold put10 at r0 r1 r2 r3 r4 r5 r6 r7 r8 r9 hB10
   refine bodyPost_ret (v := .tuple #[.agg #[.int .i64 yk, .int .i64 yf, .int .i64 yt, .int .i64 yg, .int .i64 yh, .int .i64 yi, .int .i64 ym, .int .i64 yv, .slice A n c, .slice B m d], .bool true]) ?_ rfl (⟨(HE.out _).2 (.inl ⟨by simp, rfl⟩), hB10⟩)
   simp [results, Try.results21, go_sem, r0, r1, r2, r3, r4, r5, r6, r7, r8, r9]
  ·go_wp2
   clear z0 z1 z2 z3 z4 z5 z6 z7 z8 z9 f0 f1 f2 f3 f4 f5 f6 f7 f8 f9
   have hF := tenc (put10_at HZ3.out (.int .i64 0) (.int .i64 0) (.int .i64 0) (.int .i64 0) (.int .i64 0) (.int .i64 0) (.int .i64 0) (.int .i64 0) (.slice none 0 0) (.slice none 0 0))
   have hB10 := put10_below HB3.out (B := w.heap.size + 1) (by omega) (.int .i64 0) (.int .i64 0) (.int .i64 0) (.int .i64 0) (.int .i64 0) (.int .i64 0) (.int .i64 0) (.int .i64 0) (.slice none 0 0) (.slice none 0 0)
   obtain ⟨⟨r0, r1, r2, r3, r4⟩, r5, r6, r7, r8, r9⟩ := hF
   unfold put10 at r0 r1 r2 r3 r4 r5 r6 r7 r8 r9 hB10
   refine bodyPost_ret (v := .tuple #[.agg #[.int .i64 0, .int .i64 0, .int .i64 0, .int .i64 0, .int .i64 0, .int .i64 0, .int .i64 0, .int .i64 0, .slice none 0 0, .slice none 0 0], .bool false]) ?_ rfl (⟨(HE.out _).2 (.inr ⟨by simp, rfl⟩), hB10⟩)
   simp [results, Try.results21, go_sem, r0, r1, r2, r3, r4, r5, r6, r7, r8, r9]
theorem few_any (x : Sp) (A B : Option Addr) (n m c d : Nat) (w : World) :
  Calls Try.prog 9 #[stV x (.slice A n c) (.slice B m d)] w fun e w' => e = .returned (.bool (decide (n ≤ 60) && decide (m ≤ 150))) ∧ Below w.heap.size w w' := by
 obtain ⟨xk, xf, xt, xg, xh, xi, xm, xv⟩ := x
 unfold stV stC
 simp only
 have HB := Lib.hid ((Below.refl _ w).alloc (Nat.le_refl _) (.cells #[.int .i64 xk, .int .i64 xf, .int .i64 xt, .int .i64 xg, .int .i64 xh, .int .i64 xi, .int .i64 xm, .int .i64 xv, .slice A n c, .slice B m d] 25))
 obtain ⟨⟨y0, y1, y2, y3, y4⟩, y5, y6, y7, y8, y9⟩ := tenc (heap_alloc_new w (.cells #[.int .i64 xk, .int .i64 xf, .int .i64 xt, .int .i64 xg, .int .i64 xh, .int .i64 xi, .int .i64 xm, .int .i64 xv, .slice A n c, .slice B m d] 25))
 by_cases h1 : (n : Int) ≤ 60
 ·by_cases h2 : (m : Int) ≤ 150
  ·go_enter Try.func9, Try.ntmps9
   go_wp2
   go_ret
   exact ⟨ret_bool (by simp; omega), HB.out⟩
  ·go_enter Try.func9, Try.ntmps9
   go_wp2
   go_ret
   exact ⟨ret_bool (by simp; omega), HB.out⟩
 ·go_enter Try.func9, Try.ntmps9
  go_wp2
  go_ret
  exact ⟨ret_bool (by simp; omega), HB.out⟩
end Go.Proofs.Ytlbkfenlbkibgaa.St
namespace Go.Proofs.Ytlbkfenlbkibgaa.St
open Go.RowKit Mem Sm Tk Rt
set_option linter.unusedSimpArgs false
end Go.Proofs.Ytlbkfenlbkibgaa.St
