/- Steps: Shape. -/
import Derived.Test.YthbodpdjjihcaaaStE
namespace Go.Proofs.Ythbodpdjjihcaaa.St
open Go.RowKit Mem Sm Tk
set_option linter.unusedVariables false
set_option maxRecDepth 100000 in
set_option maxHeartbeats 4000000 in
theorem shape_any (x : Sp) (L : List Tk.Tk) (S : List Mk) (A B : Option Addr) (n m c d : Nat) (w : World) (hn : n ≤ 9223372036854775807) (hm : m ≤ 9223372036854775807) (h1 : TRow w A n L) (h3 : MkRow w B m S) :
    Calls Try.prog 45 #[stV x (.slice A n c) (.slice B m d)] w fun e w' => e = .returned (.bool (shapeB x n m)) ∧ Below w.heap.size w w' := by
  have CH := fun W g1 g2 => shaped_any x L S A B n m c d W hn hm g1 g2
  obtain ⟨F, hF⟩ : ∃ b, b = shapeB x n m := ⟨_, rfl⟩
  rw [← hF] at CH ⊢
  clear hF
  have HL := Lib.hid h1
  have HS := Lib.hid h3
  clear h1 h3
  obtain ⟨xk, xf, xt, xg, xh, xi, xm, xv⟩ := x
  unfold stV stC at CH
  unfold stV stC
  simp only at CH ⊢
  have HB0 := Lib.hid ((Below.refl _ w).alloc (Nat.le_refl _) (.cells #[.int .i64 xk, .int .i64 xf, .int .i64 xt, .int .i64 xg, .int .i64 xh, .int .i64 xi, .int .i64 xm, .int .i64 xv, .slice A n c, .slice B m d] 25))
  obtain ⟨⟨y0, y1, y2, y3, y4⟩, y5, y6, y7, y8, y9⟩ := tenc (heap_alloc_new w (.cells #[.int .i64 xk, .int .i64 xf, .int .i64 xt, .int .i64 xg, .int .i64 xh, .int .i64 xi, .int .i64 xm, .int .i64 xv, .slice A n c, .slice B m d] 25))
  have CHW := CH _ (HL.out.below HB0.out) (HS.out.below HB0.out)
  clear CH
  go_enter Try.func45, Try.ntmps45
  go_wp2_with fail
  refine CHW.mono ?_
  rintro e w1 ⟨rfl, hb1⟩
  have HB1 := Lib.hid (HB0.out.trans (hb1.mono HB0.out.size))
  clear y0 y1 y2 y3 y4 y5 y6 y7 y8 y9 hb1 HB0 CHW
  cases F with
  | true =>
    go_wp2
    go_ret
    exact ⟨rfl, HB1.out⟩
  | false =>
    go_wp2
    go_ret
    exact ⟨rfl, HB1.out⟩
end Go.Proofs.Ythbodpdjjihcaaa.St
