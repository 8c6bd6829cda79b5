/- Steps: Map. -/
import Derived.Test.YthbodpdjjihcaaaStI
namespace Go.Proofs.Ythbodpdjjihcaaa.St
open Go.RowKit Mem Sm Tk
set_option linter.unusedVariables false
set_option linter.unusedSimpArgs false
/-- the ranges of a step that is shaped -/
def mapS (x : Sp) (n : Nat) : List Rg :=
  if x.kind = 1 then [⟨x.from_, x.to_ - x.from_, n⟩]
  else if x.kind = 2 then (if x.gf = x.gt then [⟨x.from_, x.to_ - x.from_, n⟩] else [⟨x.from_, x.gf - x.from_, x.ins⟩, ⟨x.gt, x.to_ - x.gt, n - x.ins⟩])
  else []
set_option maxRecDepth 100000 in
set_option maxHeartbeats 8000000 in
theorem map_any (x : Sp) (L : List Tk.Tk) (S : List Mk) (A B : Option Addr) (n m c d : Nat) (w : World) (hn : n ≤ 1000000) (hm : m ≤ 1000000) (h1 : TRow w A n L) (h3 : MkRow w B m S) :
    Calls Try.prog 51 #[stV x (.slice A n c) (.slice B m d)] w (RgsIs w (if shapeB x n m = true then mapS x n else [])) := by
  have CH := fun W g1 g2 => shaped_any x L S A B n m c d W (by omega) (by omega) g1 g2
  have HG : shapeB x n m = true → boundP x n m ∧ formP x n m := shape_of
  obtain ⟨F, hF⟩ : ∃ b, b = shapeB x n m := ⟨_, rfl⟩
  rw [← hF] at CH HG ⊢
  clear hF
  have HL := Lib.hid h1
  have HS := Lib.hid h3
  clear h1 h3
  obtain ⟨xk, xf, xt, xg, xh, xi, xm, xv⟩ := x
  unfold stV stC at CH
  unfold stV stC
  simp only at CH ⊢
  have HB0 := Lib.hid ((Below.refl _ w).alloc (Nat.le_refl _) (.cells #[.int .i64 xk, .int .i64 xf, .int .i64 xt, .int .i64 xg, .int .i64 xh, .int .i64 xi, .int .i64 xm, .int .i64 xv, .slice A n c, .slice B m d] 25))
  obtain ⟨⟨y0, y1, y2, y3, y4⟩, y5, y6, y7, y8, y9⟩ := tenc (heap_alloc_new w (.cells #[.int .i64 xk, .int .i64 xf, .int .i64 xt, .int .i64 xg, .int .i64 xh, .int .i64 xi, .int .i64 xm, .int .i64 xv, .slice A n c, .slice B m d] 25))
  have CHW := CH _ (HL.out.below HB0.out) (HS.out.below HB0.out)
  clear CH
  cases F with
  | false =>
    rw [if_neg (by decide)] at CHW ⊢
    clear HG
    go_enter Try.func51, Try.ntmps51
    go_wp2_with fail
    refine CHW.mono ?_
    rintro e w1 ⟨rfl, hb1⟩
    have HB1 := Lib.hid (HB0.out.trans (hb1.mono HB0.out.size))
    clear y0 y1 y2 y3 y4 y5 y6 y7 y8 y9 hb1 HB0 CHW
    go_wp2
    go_ret
    exact ⟨_, rfl, Rgs.nil, HB1.out⟩
  | true =>
    rw [if_pos rfl] at CHW ⊢
    have hg := HG rfl
    clear HG
    have hb := hg.1
    have hf := hg.2
    unfold boundP at hb
    unfold formP at hf
    clear hg
    simp only at hb hf
    have hk : xk = 1 ∨ xk = 2 ∨ xk = 3 ∨ xk = 4 ∨ xk = 5 := by omega
    rcases hk with rfl | rfl | rfl | rfl | rfl
    · have CR : ∀ W, Calls Try.prog _ #[.agg #[.int .i64 1, .int .i64 xf, .int .i64 xt, .int .i64 xg, .int .i64 xh, .int .i64 xi, .int .i64 xm, .int .i64 xv, .slice A n c, .slice B m d]] W (RgsIs W (mapS ⟨1, xf, xt, xg, xh, xi, xm, xv⟩ n)) := fun W => ranges_lay ⟨1, xf, xt, xg, xh, xi, xm, xv⟩ A B n m c d W ⟨hb.1, hb.2.1, hb.2.2.1⟩
      have MM : ∀ f W, (method (f + 1) 171 (.agg #[.int .i64 1, .int .i64 xf, .int .i64 xt, .int .i64 xg, .int .i64 xh, .int .i64 xi, .int .i64 xm, .int .i64 xv, .slice A n c, .slice B m d]) "stet/step.ranges").run Try.prog W = _ := fun f W => m_splice_ranges f ⟨1, xf, xt, xg, xh, xi, xm, xv⟩ (.slice A n c) (.slice B m d) W
      unfold stV stC at MM
      simp only at MM
      simp only [kI_one] at CHW
      generalize mapS ⟨1, xf, xt, xg, xh, xi, xm, xv⟩ n = R at CR ⊢
      clear hf hb
      go_enter Try.func51, Try.ntmps51
      go_wp2_with fail
      refine CHW.mono ?_
      rintro e w1 ⟨rfl, hb1⟩
      have HB1 := Lib.hid (HB0.out.trans (hb1.mono HB0.out.size))
      clear y0 y1 y2 y3 y4 y5 y6 y7 y8 y9 hb1 HB0 CHW
      go_wp2_with fail
      refine (CR _).mono ?_
      rintro e w2 ⟨v, rfl, hv, hb2⟩
      have HV := Lib.hid hv
      have HB2 := Lib.hid (HB1.out.trans (hb2.mono HB1.out.size))
      clear hv hb2 CR MM
      go_wp2
      go_ret
      exact ⟨_, rfl, HV.out.lower HB1.out.size, HB2.out⟩
    · have CR : ∀ W, Calls Try.prog _ #[.agg #[.int .i64 2, .int .i64 xf, .int .i64 xt, .int .i64 xg, .int .i64 xh, .int .i64 xi, .int .i64 xm, .int .i64 xv, .slice A n c, .slice B m d]] W (RgsIs W (mapS ⟨2, xf, xt, xg, xh, xi, xm, xv⟩ n)) := fun W => ranges_around ⟨2, xf, xt, xg, xh, xi, xm, xv⟩ A B n m c d W hn (by simp only; omega)
      have MM : ∀ f W, (method (f + 1) 172 (.agg #[.int .i64 2, .int .i64 xf, .int .i64 xt, .int .i64 xg, .int .i64 xh, .int .i64 xi, .int .i64 xm, .int .i64 xv, .slice A n c, .slice B m d]) "stet/step.ranges").run Try.prog W = _ := fun f W => m_around_ranges f ⟨2, xf, xt, xg, xh, xi, xm, xv⟩ (.slice A n c) (.slice B m d) W
      unfold stV stC at MM
      simp only at MM
      simp only [kI_two] at CHW
      generalize mapS ⟨2, xf, xt, xg, xh, xi, xm, xv⟩ n = R at CR ⊢
      clear hf hb
      go_enter Try.func51, Try.ntmps51
      go_wp2_with fail
      refine CHW.mono ?_
      rintro e w1 ⟨rfl, hb1⟩
      have HB1 := Lib.hid (HB0.out.trans (hb1.mono HB0.out.size))
      clear y0 y1 y2 y3 y4 y5 y6 y7 y8 y9 hb1 HB0 CHW
      go_wp2_with fail
      refine (CR _).mono ?_
      rintro e w2 ⟨v, rfl, hv, hb2⟩
      have HV := Lib.hid hv
      have HB2 := Lib.hid (HB1.out.trans (hb2.mono HB1.out.size))
      clear hv hb2 CR MM
      go_wp2
      go_ret
      exact ⟨_, rfl, HV.out.lower HB1.out.size, HB2.out⟩
    · have CR : ∀ W, Calls Try.prog _ #[.agg #[.int .i64 3, .int .i64 xf, .int .i64 xt, .int .i64 xg, .int .i64 xh, .int .i64 xi, .int .i64 xm, .int .i64 xv, .slice A n c, .slice B m d]] W (RgsIs W (mapS ⟨3, xf, xt, xg, xh, xi, xm, xv⟩ n)) := fun W => ranges_mark #[.int .i64 3, .int .i64 xf, .int .i64 xt, .int .i64 xg, .int .i64 xh, .int .i64 xi, .int .i64 xm, .int .i64 xv, .slice A n c, .slice B m d] W
      have MM : ∀ f W, (method (f + 1) 177 (.agg #[.int .i64 3, .int .i64 xf, .int .i64 xt, .int .i64 xg, .int .i64 xh, .int .i64 xi, .int .i64 xm, .int .i64 xv, .slice A n c, .slice B m d]) "stet/step.ranges").run Try.prog W = _ := fun f W => m_adding_ranges f ⟨3, xf, xt, xg, xh, xi, xm, xv⟩ (.slice A n c) (.slice B m d) W
      unfold stV stC at MM
      simp only at MM
      simp only [kI_three] at CHW
      generalize mapS ⟨3, xf, xt, xg, xh, xi, xm, xv⟩ n = R at CR ⊢
      clear hf hb
      go_enter Try.func51, Try.ntmps51
      go_wp2_with fail
      refine CHW.mono ?_
      rintro e w1 ⟨rfl, hb1⟩
      have HB1 := Lib.hid (HB0.out.trans (hb1.mono HB0.out.size))
      clear y0 y1 y2 y3 y4 y5 y6 y7 y8 y9 hb1 HB0 CHW
      go_wp2_with fail
      refine (CR _).mono ?_
      rintro e w2 ⟨v, rfl, hv, hb2⟩
      have HV := Lib.hid hv
      have HB2 := Lib.hid (HB1.out.trans (hb2.mono HB1.out.size))
      clear hv hb2 CR MM
      go_wp2
      go_ret
      exact ⟨_, rfl, HV.out.lower HB1.out.size, HB2.out⟩
    · have CR : ∀ W, Calls Try.prog _ #[.agg #[.int .i64 4, .int .i64 xf, .int .i64 xt, .int .i64 xg, .int .i64 xh, .int .i64 xi, .int .i64 xm, .int .i64 xv, .slice A n c, .slice B m d]] W (RgsIs W (mapS ⟨4, xf, xt, xg, xh, xi, xm, xv⟩ n)) := fun W => ranges_mark #[.int .i64 4, .int .i64 xf, .int .i64 xt, .int .i64 xg, .int .i64 xh, .int .i64 xi, .int .i64 xm, .int .i64 xv, .slice A n c, .slice B m d] W
      have MM : ∀ f W, (method (f + 1) 178 (.agg #[.int .i64 4, .int .i64 xf, .int .i64 xt, .int .i64 xg, .int .i64 xh, .int .i64 xi, .int .i64 xm, .int .i64 xv, .slice A n c, .slice B m d]) "stet/step.ranges").run Try.prog W = _ := fun f W => m_removing_ranges f ⟨4, xf, xt, xg, xh, xi, xm, xv⟩ (.slice A n c) (.slice B m d) W
      unfold stV stC at MM
      simp only at MM
      simp only [kI_four] at CHW
      generalize mapS ⟨4, xf, xt, xg, xh, xi, xm, xv⟩ n = R at CR ⊢
      clear hf hb
      go_enter Try.func51, Try.ntmps51
      go_wp2_with fail
      refine CHW.mono ?_
      rintro e w1 ⟨rfl, hb1⟩
      have HB1 := Lib.hid (HB0.out.trans (hb1.mono HB0.out.size))
      clear y0 y1 y2 y3 y4 y5 y6 y7 y8 y9 hb1 HB0 CHW
      go_wp2_with fail
      refine (CR _).mono ?_
      rintro e w2 ⟨v, rfl, hv, hb2⟩
      have HV := Lib.hid hv
      have HB2 := Lib.hid (HB1.out.trans (hb2.mono HB1.out.size))
      clear hv hb2 CR MM
      go_wp2
      go_ret
      exact ⟨_, rfl, HV.out.lower HB1.out.size, HB2.out⟩
    · have CR : ∀ W, Calls Try.prog _ #[.agg #[.int .i64 5, .int .i64 xf, .int .i64 xt, .int .i64 xg, .int .i64 xh, .int .i64 xi, .int .i64 xm, .int .i64 xv, .slice A n c, .slice B m d]] W (RgsIs W (mapS ⟨5, xf, xt, xg, xh, xi, xm, xv⟩ n)) := fun W => ranges_mark #[.int .i64 5, .int .i64 xf, .int .i64 xt, .int .i64 xg, .int .i64 xh, .int .i64 xi, .int .i64 xm, .int .i64 xv, .slice A n c, .slice B m d] W
      have MM : ∀ f W, (method (f + 1) 179 (.agg #[.int .i64 5, .int .i64 xf, .int .i64 xt, .int .i64 xg, .int .i64 xh, .int .i64 xi, .int .i64 xm, .int .i64 xv, .slice A n c, .slice B m d]) "stet/step.ranges").run Try.prog W = _ := fun f W => m_remark_ranges f ⟨5, xf, xt, xg, xh, xi, xm, xv⟩ (.slice A n c) (.slice B m d) W
      unfold stV stC at MM
      simp only at MM
      simp only [kI_five] at CHW
      generalize mapS ⟨5, xf, xt, xg, xh, xi, xm, xv⟩ n = R at CR ⊢
      clear hf hb
      go_enter Try.func51, Try.ntmps51
      go_wp2_with fail
      refine CHW.mono ?_
      rintro e w1 ⟨rfl, hb1⟩
      have HB1 := Lib.hid (HB0.out.trans (hb1.mono HB0.out.size))
      clear y0 y1 y2 y3 y4 y5 y6 y7 y8 y9 hb1 HB0 CHW
      go_wp2_with fail
      refine (CR _).mono ?_
      rintro e w2 ⟨v, rfl, hv, hb2⟩
      have HV := Lib.hid hv
      have HB2 := Lib.hid (HB1.out.trans (hb2.mono HB1.out.size))
      clear hv hb2 CR MM
      go_wp2
      go_ret
      exact ⟨_, rfl, HV.out.lower HB1.out.size, HB2.out⟩
end Go.Proofs.Ythbodpdjjihcaaa.St
