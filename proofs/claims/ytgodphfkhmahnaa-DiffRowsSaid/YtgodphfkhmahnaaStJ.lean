/- Steps: Shape. Steps: clones of tokens. Steps: the maps of the kinds, through the interface. Steps: the ranges of what lays tokens. Steps: Map. -/
import Derived.Test.YtgodphfkhmahnaaStE
import Derived.Test.YtgodphfkhmahnaaRtMem
namespace Go.Proofs.Ytgodphfkhmahnaa.St
open Go.RowKit Mem Sm Tk
set_option linter.unusedVariables false
set_option maxRecDepth 100000 in
set_option maxHeartbeats 4000000 in
theorem shape_any (x : Sp) (L : List Tk.Tk) (S : List Mk) (A B : Option Addr) (n m c d : Nat) (w : World) (hn : n ≤ 9223372036854775807) (hm : m ≤ 9223372036854775807) (h1 : TRow w A n L) (h3 : MkRow w B m S) :
    Calls Try.prog 45 #[stV x (.slice A n c) (.slice B m d)] w fun e w' => e = .returned (.bool (shapeB x n m)) ∧ Below w.heap.size w w' := by
  have CH := fun W g1 g2 => shaped_any x L S A B n m c d W hn hm g1 g2
  obtain ⟨F, hF⟩ : ∃ b, b = shapeB x n m := ⟨_, rfl⟩
  rw [← hF] at CH ⊢
  clear hF
  have HL := Lib.hid h1
  have HS := Lib.hid h3
  clear h1 h3
  obtain ⟨xk, xf, xt, xg, xh, xi, xm, xv⟩ := x
  unfold stV stC at CH
  unfold stV stC
  simp only at CH ⊢
  have HB0 := Lib.hid ((Below.refl _ w).alloc (Nat.le_refl _) (.cells #[.int .i64 xk, .int .i64 xf, .int .i64 xt, .int .i64 xg, .int .i64 xh, .int .i64 xi, .int .i64 xm, .int .i64 xv, .slice A n c, .slice B m d] 25))
  obtain ⟨⟨y0, y1, y2, y3, y4⟩, y5, y6, y7, y8, y9⟩ := tenc (heap_alloc_new w (.cells #[.int .i64 xk, .int .i64 xf, .int .i64 xt, .int .i64 xg, .int .i64 xh, .int .i64 xi, .int .i64 xm, .int .i64 xv, .slice A n c, .slice B m d] 25))
  have CHW := CH _ (HL.out.below HB0.out) (HS.out.below HB0.out)
  clear CH
  go_enter Try.func45, Try.ntmps45
  go_wp2_with fail
  refine CHW.mono ?_
  rintro e w1 ⟨rfl, hb1⟩
  have HB1 := Lib.hid (HB0.out.trans (hb1.mono HB0.out.size))
  clear y0 y1 y2 y3 y4 y5 y6 y7 y8 y9 hb1 HB0 CHW
  cases F with
  | true =>
    go_wp2
    go_ret
    exact ⟨rfl, HB1.out⟩
  | false =>
    go_wp2
    go_ret
    exact ⟨rfl, HB1.out⟩
end Go.Proofs.Ytgodphfkhmahnaa.St
namespace Go.Proofs.Ytgodphfkhmahnaa.St
open Go.RowKit Mem Sm Tk Rt
set_option linter.unusedVariables false
theorem tks_empty (w : World) : Tks w.heap.size (w.alloc (.cells #[] 101)) (.slice (some ⟨w.heap.size, 0, none⟩) 0 0) [] :=
  ⟨rfl, .inr ⟨w.heap.size, 0, #[], rfl, Nat.le_refl _, heap_alloc_new w _, Nat.le_refl _, Nat.zero_le _, rfl, rfl⟩⟩
def TksIs (w : World) (l : List Tk.Tk) (e : Ending) (w' : World) : Prop := ∃ v, e = .returned v ∧ Tks w.heap.size w' v l ∧ Below w.heap.size w w'
set_option maxRecDepth 100000 in
set_option maxHeartbeats 1000000 in
theorem clone_tok (l : List Tk.Tk) (A : Option Addr) (n c : Nat) (w : World) (hn : n ≤ 1000000) (hr : TRow w A n l) :
    Calls Try.prog 58 #[.slice A n c] w (TksIs w l) := by
  cases A with
  | none =>
    have h0 : n = 0 := by
      rcases Nat.eq_zero_or_pos n with h | h
      · exact h
      · obtain ⟨_, _, e, _⟩ := hr.2 h; cases e
    subst h0
    obtain rfl : l = [] := List.eq_nil_of_length_eq_zero hr.1
    clear hr
    go_enter Try.func58, Try.ntmps58
    have he := eql_slice 22 101 Try.underlying22 none 0 c w
    simp only [Option.isNone_none] at he
    go_wp2
    go_ret
    exact ⟨_, rfl, Tks.nil, Below.refl _ _⟩
  | some a =>
    have HO := Lib.hid (tks_empty w)
    have HR := Lib.hid (hr.alloc (.cells #[] 101))
    have HB := Lib.hid ((Below.refl _ w).alloc (Nat.le_refl _) (.cells #[] 101))
    have he := eql_slice 22 101 Try.underlying22 (some a) n c w
    simp only [Option.isNone_some] at he
    clear hr
    go_enter Try.func58, Try.ntmps58
    go_wp2_with (at_builtin; (refine wpList_app_tk rfl (.tmp 5) (.tmp 6) rfl w.heap.size _ [] rfl HO.out (some a) n c l rfl HR.out (by simp; omega) (by simp) ?_); intro v' w2 hown' hg hat)
    go_ret
    rw [List.nil_append] at hown'
    exact ⟨_, rfl, hown', below_of_grown HB.out hg (by simp) (fun i hi => (HO.out.block i hi).1)⟩
end Go.Proofs.Ytgodphfkhmahnaa.St
namespace Go.Proofs.Ytgodphfkhmahnaa.St
open Go.RowKit Mem Sm
set_option linter.unusedVariables false
theorem m_splice_ranges (fuel : Nat) (x : Sp) (s t : Value) (w : World) : (method (fuel + 1) 171 (stV x s t) "stet/step.ranges").run Try.prog w = .ok (136, stV x s t) w :=
  method_struct (xt := 169) (path := [⟨171, 0, false⟩]) fuel (by kernel_rfl) (fun w => by kernel_rfl) (show Try.prog.underlying 169 = some (.struct (Try.prog.fieldsOf 169)) by kernel_rfl) w
theorem m_around_ranges (fuel : Nat) (x : Sp) (s t : Value) (w : World) : (method (fuel + 1) 172 (stV x s t) "stet/step.ranges").run Try.prog w = .ok (145, stV x s t) w :=
  method_struct (xt := 172) (path := []) fuel (by kernel_rfl) (fun w => rfl) (show Try.prog.underlying 172 = some (.struct (Try.prog.fieldsOf 172)) by kernel_rfl) w
theorem m_adding_ranges (fuel : Nat) (x : Sp) (s t : Value) (w : World) : (method (fuel + 1) 177 (stV x s t) "stet/step.ranges").run Try.prog w = .ok (147, stV x s t) w :=
  method_struct (xt := 173) (path := [⟨177, 0, false⟩, ⟨175, 0, false⟩]) fuel (by kernel_rfl) (fun w => by kernel_rfl) (show Try.prog.underlying 173 = some (.struct (Try.prog.fieldsOf 173)) by kernel_rfl) w
theorem m_removing_ranges (fuel : Nat) (x : Sp) (s t : Value) (w : World) : (method (fuel + 1) 178 (stV x s t) "stet/step.ranges").run Try.prog w = .ok (147, stV x s t) w :=
  method_struct (xt := 173) (path := [⟨178, 0, false⟩, ⟨175, 0, false⟩]) fuel (by kernel_rfl) (fun w => by kernel_rfl) (show Try.prog.underlying 173 = some (.struct (Try.prog.fieldsOf 173)) by kernel_rfl) w
theorem m_remark_ranges (fuel : Nat) (x : Sp) (s t : Value) (w : World) : (method (fuel + 1) 179 (stV x s t) "stet/step.ranges").run Try.prog w = .ok (147, stV x s t) w :=
  method_struct (xt := 173) (path := [⟨179, 0, false⟩]) fuel (by kernel_rfl) (fun w => by kernel_rfl) (show Try.prog.underlying 173 = some (.struct (Try.prog.fieldsOf 173)) by kernel_rfl) w
theorem ranges_mark (v : Array Value) (w : World) : Calls Try.prog 147 #[.agg v] w (RgsIs w []) := by
  have HB := Lib.hid ((Below.refl _ w).alloc (Nat.le_refl _) (.cells v 173))
  go_enter Try.func147, Try.ntmps147
  go_wp2
  go_ret
  exact ⟨_, rfl, Rgs.nil, HB.out⟩
end Go.Proofs.Ytgodphfkhmahnaa.St
namespace Go.Proofs.Ytgodphfkhmahnaa.St
open Go.RowKit Mem Sm
set_option linter.unusedVariables false
theorem rgs_lit (w : World) (r : Rg) : Rgs w.heap.size (w.alloc (.cells #[.int .i64 r.at_, .int .i64 r.old, .int .i64 r.new] 78)) (.slice (some ⟨w.heap.size, 0, none⟩) 1 1) [r] :=
  ⟨rfl, .inr ⟨w.heap.size, 1, _, rfl, Nat.le_refl _, heap_alloc_new w _, Nat.le_refl _, by decide, rfl, rfl⟩⟩
set_option maxRecDepth 100000 in
set_option maxHeartbeats 4000000 in
theorem ranges_lay (x : Sp) (A B : Option Addr) (n m c d : Nat) (w : World) (hf : 0 ≤ x.from_ ∧ x.from_ ≤ x.to_ ∧ x.to_ ≤ 1073741824) : Calls Try.prog 136 #[stV x (.slice A n c) (.slice B m d)] w (RgsIs w [⟨x.from_, x.to_ - x.from_, n⟩]) := by
  obtain ⟨xk, xf, xt, xg, xh, xi, xm, xv⟩ := x
  unfold stV stC
  simp only at hf ⊢
  have HB := Lib.hid ((Below.refl _ w).alloc (Nat.le_refl _) (.cells #[.int .i64 xk, .int .i64 xf, .int .i64 xt, .int .i64 xg, .int .i64 xh, .int .i64 xi, .int .i64 xm, .int .i64 xv, .slice A n c, .slice B m d] 169))
  obtain ⟨⟨y0, y1, y2, y3, y4⟩, y5, y6, y7, y8, y9⟩ := tenc (heap_alloc_new w (.cells #[.int .i64 xk, .int .i64 xf, .int .i64 xt, .int .i64 xg, .int .i64 xh, .int .i64 xi, .int .i64 xm, .int .i64 xv, .slice A n c, .slice B m d] 169))
  have hw : wrap64 (xt - xf) = xt - xf := by unfold wrap64; omega
  go_enter Try.func136, Try.ntmps136
  go_wp2
  go_ret
  have s1 : (w.alloc (.cells #[.int .i64 xk, .int .i64 xf, .int .i64 xt, .int .i64 xg, .int .i64 xh, .int .i64 xi, .int .i64 xm, .int .i64 xv, .slice A n c, .slice B m d] 169)).heap.size = w.heap.size + 1 := by simp
  have hr := rgs_lit (w.alloc (.cells #[.int .i64 xk, .int .i64 xf, .int .i64 xt, .int .i64 xg, .int .i64 xh, .int .i64 xi, .int .i64 xm, .int .i64 xv, .slice A n c, .slice B m d] 169)) ⟨xf, xt - xf, n⟩
  rw [s1] at hr
  exact ⟨_, rfl, hr.lower (by omega), HB.out.alloc (by rw [s1]; omega) _⟩
theorem rgs_lit2 (w : World) (r q : Rg) : Rgs w.heap.size (w.alloc (.cells #[.int .i64 r.at_, .int .i64 r.old, .int .i64 r.new, .int .i64 q.at_, .int .i64 q.old, .int .i64 q.new] 78)) (.slice (some ⟨w.heap.size, 0, none⟩) 2 2) [r, q] :=
  ⟨rfl, .inr ⟨w.heap.size, 2, _, rfl, Nat.le_refl _, heap_alloc_new w _, Nat.le_refl _, by decide, rfl, rfl⟩⟩
set_option maxRecDepth 100000 in
set_option maxHeartbeats 4000000 in
theorem ranges_around (x : Sp) (A B : Option Addr) (n m c d : Nat) (w : World) (hn : n ≤ 1000000) (hf : 0 ≤ x.from_ ∧ x.from_ ≤ x.gf ∧ x.gf ≤ x.gt ∧ x.gt ≤ x.to_ ∧ x.to_ ≤ 1073741824 ∧ 0 ≤ x.ins ∧ x.ins ≤ n) : Calls Try.prog 145 #[stV x (.slice A n c) (.slice B m d)] w (RgsIs w (if x.gf = x.gt then [⟨x.from_, x.to_ - x.from_, n⟩] else [⟨x.from_, x.gf - x.from_, x.ins⟩, ⟨x.gt, x.to_ - x.gt, n - x.ins⟩])) := by
  have CL := fun W => ranges_lay x A B n m c d W (by omega)
  obtain ⟨xk, xf, xt, xg, xh, xi, xm, xv⟩ := x
  unfold stV stC at CL
  unfold stV stC
  simp only at hf CL ⊢
  have HB := Lib.hid ((Below.refl _ w).alloc (Nat.le_refl _) (.cells #[.int .i64 xk, .int .i64 xf, .int .i64 xt, .int .i64 xg, .int .i64 xh, .int .i64 xi, .int .i64 xm, .int .i64 xv, .slice A n c, .slice B m d] 172))
  obtain ⟨⟨y0, y1, y2, y3, y4⟩, y5, y6, y7, y8, y9⟩ := tenc (heap_alloc_new w (.cells #[.int .i64 xk, .int .i64 xf, .int .i64 xt, .int .i64 xg, .int .i64 xh, .int .i64 xi, .int .i64 xm, .int .i64 xv, .slice A n c, .slice B m d] 172))
  by_cases hg : xg = xh
  · subst hg
    rw [if_pos rfl]
    go_enter Try.func145, Try.ntmps145
    go_wp2_with fail
    refine (CL _).mono ?_
    rintro e w1 ⟨v, rfl, hv, hb1⟩
    have HV := Lib.hid hv
    have HB1 := Lib.hid (HB.out.trans (hb1.mono HB.out.size))
    clear y0 y1 y2 y3 y4 y5 y6 y7 y8 y9 hb1 hv HB CL
    go_wp2
    go_ret
    exact ⟨_, rfl, HV.out.lower (by simp), HB1.out⟩
  · rw [if_neg hg]
    have h1 : wrap64 (xg - xf) = xg - xf := by unfold wrap64; omega
    have h2 : wrap64 (xt - xh) = xt - xh := by unfold wrap64; omega
    have h3 : wrap64 (n - xi) = n - xi := by unfold wrap64; omega
    go_enter Try.func145, Try.ntmps145
    go_wp2
    go_ret
    have s1 : (w.alloc (.cells #[.int .i64 xk, .int .i64 xf, .int .i64 xt, .int .i64 xg, .int .i64 xh, .int .i64 xi, .int .i64 xm, .int .i64 xv, .slice A n c, .slice B m d] 172)).heap.size = w.heap.size + 1 := by simp
    have hr := rgs_lit2 (w.alloc (.cells #[.int .i64 xk, .int .i64 xf, .int .i64 xt, .int .i64 xg, .int .i64 xh, .int .i64 xi, .int .i64 xm, .int .i64 xv, .slice A n c, .slice B m d] 172)) ⟨xf, xg - xf, xi⟩ ⟨xh, xt - xh, n - xi⟩
    rw [s1] at hr
    exact ⟨_, rfl, hr.lower (by omega), HB.out.alloc (by rw [s1]; omega) _⟩
end Go.Proofs.Ytgodphfkhmahnaa.St
namespace Go.Proofs.Ytgodphfkhmahnaa.St
open Go.RowKit Mem Sm Tk
set_option linter.unusedVariables false
set_option linter.unusedSimpArgs false
/-- the ranges of a step that is shaped -/
def mapS (x : Sp) (n : Nat) : List Rg :=
  if x.kind = 1 then [⟨x.from_, x.to_ - x.from_, n⟩]
  else if x.kind = 2 then (if x.gf = x.gt then [⟨x.from_, x.to_ - x.from_, n⟩] else [⟨x.from_, x.gf - x.from_, x.ins⟩, ⟨x.gt, x.to_ - x.gt, n - x.ins⟩])
  else []
set_option maxRecDepth 100000 in
set_option maxHeartbeats 8000000 in
theorem map_any (x : Sp) (L : List Tk.Tk) (S : List Mk) (A B : Option Addr) (n m c d : Nat) (w : World) (hn : n ≤ 1000000) (hm : m ≤ 1000000) (h1 : TRow w A n L) (h3 : MkRow w B m S) :
    Calls Try.prog 51 #[stV x (.slice A n c) (.slice B m d)] w (RgsIs w (if shapeB x n m = true then mapS x n else [])) := by
  have CH := fun W g1 g2 => shaped_any x L S A B n m c d W (by omega) (by omega) g1 g2
  have HG : shapeB x n m = true → boundP x n m ∧ formP x n m := shape_of
  obtain ⟨F, hF⟩ : ∃ b, b = shapeB x n m := ⟨_, rfl⟩
  rw [← hF] at CH HG ⊢
  clear hF
  have HL := Lib.hid h1
  have HS := Lib.hid h3
  clear h1 h3
  obtain ⟨xk, xf, xt, xg, xh, xi, xm, xv⟩ := x
  unfold stV stC at CH
  unfold stV stC
  simp only at CH ⊢
  have HB0 := Lib.hid ((Below.refl _ w).alloc (Nat.le_refl _) (.cells #[.int .i64 xk, .int .i64 xf, .int .i64 xt, .int .i64 xg, .int .i64 xh, .int .i64 xi, .int .i64 xm, .int .i64 xv, .slice A n c, .slice B m d] 25))
  obtain ⟨⟨y0, y1, y2, y3, y4⟩, y5, y6, y7, y8, y9⟩ := tenc (heap_alloc_new w (.cells #[.int .i64 xk, .int .i64 xf, .int .i64 xt, .int .i64 xg, .int .i64 xh, .int .i64 xi, .int .i64 xm, .int .i64 xv, .slice A n c, .slice B m d] 25))
  have CHW := CH _ (HL.out.below HB0.out) (HS.out.below HB0.out)
  clear CH
  cases F with
  | false =>
    rw [if_neg (by decide)] at CHW ⊢
    clear HG
    go_enter Try.func51, Try.ntmps51
    go_wp2_with fail
    refine CHW.mono ?_
    rintro e w1 ⟨rfl, hb1⟩
    have HB1 := Lib.hid (HB0.out.trans (hb1.mono HB0.out.size))
    clear y0 y1 y2 y3 y4 y5 y6 y7 y8 y9 hb1 HB0 CHW
    go_wp2
    go_ret
    exact ⟨_, rfl, Rgs.nil, HB1.out⟩
  | true =>
    rw [if_pos rfl] at CHW ⊢
    have hg := HG rfl
    clear HG
    have hb := hg.1
    have hf := hg.2
    unfold boundP at hb
    unfold formP at hf
    clear hg
    simp only at hb hf
    have hk : xk = 1 ∨ xk = 2 ∨ xk = 3 ∨ xk = 4 ∨ xk = 5 := by omega
    rcases hk with rfl | rfl | rfl | rfl | rfl
    · have CR : ∀ W, Calls Try.prog _ #[.agg #[.int .i64 1, .int .i64 xf, .int .i64 xt, .int .i64 xg, .int .i64 xh, .int .i64 xi, .int .i64 xm, .int .i64 xv, .slice A n c, .slice B m d]] W (RgsIs W (mapS ⟨1, xf, xt, xg, xh, xi, xm, xv⟩ n)) := fun W => ranges_lay ⟨1, xf, xt, xg, xh, xi, xm, xv⟩ A B n m c d W ⟨hb.1, hb.2.1, hb.2.2.1⟩
      have MM : ∀ f W, (method (f + 1) 171 (.agg #[.int .i64 1, .int .i64 xf, .int .i64 xt, .int .i64 xg, .int .i64 xh, .int .i64 xi, .int .i64 xm, .int .i64 xv, .slice A n c, .slice B m d]) "stet/step.ranges").run Try.prog W = _ := fun f W => m_splice_ranges f ⟨1, xf, xt, xg, xh, xi, xm, xv⟩ (.slice A n c) (.slice B m d) W
      unfold stV stC at MM
      simp only at MM
      simp only [kI_one] at CHW
      generalize mapS ⟨1, xf, xt, xg, xh, xi, xm, xv⟩ n = R at CR ⊢
      clear hf hb
      go_enter Try.func51, Try.ntmps51
      go_wp2_with fail
      refine CHW.mono ?_
      rintro e w1 ⟨rfl, hb1⟩
      have HB1 := Lib.hid (HB0.out.trans (hb1.mono HB0.out.size))
      clear y0 y1 y2 y3 y4 y5 y6 y7 y8 y9 hb1 HB0 CHW
      go_wp2_with fail
      refine (CR _).mono ?_
      rintro e w2 ⟨v, rfl, hv, hb2⟩
      have HV := Lib.hid hv
      have HB2 := Lib.hid (HB1.out.trans (hb2.mono HB1.out.size))
      clear hv hb2 CR MM
      go_wp2
      go_ret
      exact ⟨_, rfl, HV.out.lower HB1.out.size, HB2.out⟩
    · have CR : ∀ W, Calls Try.prog _ #[.agg #[.int .i64 2, .int .i64 xf, .int .i64 xt, .int .i64 xg, .int .i64 xh, .int .i64 xi, .int .i64 xm, .int .i64 xv, .slice A n c, .slice B m d]] W (RgsIs W (mapS ⟨2, xf, xt, xg, xh, xi, xm, xv⟩ n)) := fun W => ranges_around ⟨2, xf, xt, xg, xh, xi, xm, xv⟩ A B n m c d W hn (by simp only; omega)
      have MM : ∀ f W, (method (f + 1) 172 (.agg #[.int .i64 2, .int .i64 xf, .int .i64 xt, .int .i64 xg, .int .i64 xh, .int .i64 xi, .int .i64 xm, .int .i64 xv, .slice A n c, .slice B m d]) "stet/step.ranges").run Try.prog W = _ := fun f W => m_around_ranges f ⟨2, xf, xt, xg, xh, xi, xm, xv⟩ (.slice A n c) (.slice B m d) W
      unfold stV stC at MM
      simp only at MM
      simp only [kI_two] at CHW
      generalize mapS ⟨2, xf, xt, xg, xh, xi, xm, xv⟩ n = R at CR ⊢
      clear hf hb
      go_enter Try.func51, Try.ntmps51
      go_wp2_with fail
      refine CHW.mono ?_
      rintro e w1 ⟨rfl, hb1⟩
      have HB1 := Lib.hid (HB0.out.trans (hb1.mono HB0.out.size))
      clear y0 y1 y2 y3 y4 y5 y6 y7 y8 y9 hb1 HB0 CHW
      go_wp2_with fail
      refine (CR _).mono ?_
      rintro e w2 ⟨v, rfl, hv, hb2⟩
      have HV := Lib.hid hv
      have HB2 := Lib.hid (HB1.out.trans (hb2.mono HB1.out.size))
      clear hv hb2 CR MM
      go_wp2
      go_ret
      exact ⟨_, rfl, HV.out.lower HB1.out.size, HB2.out⟩
    · have CR : ∀ W, Calls Try.prog _ #[.agg #[.int .i64 3, .int .i64 xf, .int .i64 xt, .int .i64 xg, .int .i64 xh, .int .i64 xi, .int .i64 xm, .int .i64 xv, .slice A n c, .slice B m d]] W (RgsIs W (mapS ⟨3, xf, xt, xg, xh, xi, xm, xv⟩ n)) := fun W => ranges_mark #[.int .i64 3, .int .i64 xf, .int .i64 xt, .int .i64 xg, .int .i64 xh, .int .i64 xi, .int .i64 xm, .int .i64 xv, .slice A n c, .slice B m d] W
      have MM : ∀ f W, (method (f + 1) 177 (.agg #[.int .i64 3, .int .i64 xf, .int .i64 xt, .int .i64 xg, .int .i64 xh, .int .i64 xi, .int .i64 xm, .int .i64 xv, .slice A n c, .slice B m d]) "stet/step.ranges").run Try.prog W = _ := fun f W => m_adding_ranges f ⟨3, xf, xt, xg, xh, xi, xm, xv⟩ (.slice A n c) (.slice B m d) W
      unfold stV stC at MM
      simp only at MM
      simp only [kI_three] at CHW
      generalize mapS ⟨3, xf, xt, xg, xh, xi, xm, xv⟩ n = R at CR ⊢
      clear hf hb
      go_enter Try.func51, Try.ntmps51
      go_wp2_with fail
      refine CHW.mono ?_
      rintro e w1 ⟨rfl, hb1⟩
      have HB1 := Lib.hid (HB0.out.trans (hb1.mono HB0.out.size))
      clear y0 y1 y2 y3 y4 y5 y6 y7 y8 y9 hb1 HB0 CHW
      go_wp2_with fail
      refine (CR _).mono ?_
      rintro e w2 ⟨v, rfl, hv, hb2⟩
      have HV := Lib.hid hv
      have HB2 := Lib.hid (HB1.out.trans (hb2.mono HB1.out.size))
      clear hv hb2 CR MM
      go_wp2
      go_ret
      exact ⟨_, rfl, HV.out.lower HB1.out.size, HB2.out⟩
    · have CR : ∀ W, Calls Try.prog _ #[.agg #[.int .i64 4, .int .i64 xf, .int .i64 xt, .int .i64 xg, .int .i64 xh, .int .i64 xi, .int .i64 xm, .int .i64 xv, .slice A n c, .slice B m d]] W (RgsIs W (mapS ⟨4, xf, xt, xg, xh, xi, xm, xv⟩ n)) := fun W => ranges_mark #[.int .i64 4, .int .i64 xf, .int .i64 xt, .int .i64 xg, .int .i64 xh, .int .i64 xi, .int .i64 xm, .int .i64 xv, .slice A n c, .slice B m d] W
      have MM : ∀ f W, (method (f + 1) 178 (.agg #[.int .i64 4, .int .i64 xf, .int .i64 xt, .int .i64 xg, .int .i64 xh, .int .i64 xi, .int .i64 xm, .int .i64 xv, .slice A n c, .slice B m d]) "stet/step.ranges").run Try.prog W = _ := fun f W => m_removing_ranges f ⟨4, xf, xt, xg, xh, xi, xm, xv⟩ (.slice A n c) (.slice B m d) W
      unfold stV stC at MM
      simp only at MM
      simp only [kI_four] at CHW
      generalize mapS ⟨4, xf, xt, xg, xh, xi, xm, xv⟩ n = R at CR ⊢
      clear hf hb
      go_enter Try.func51, Try.ntmps51
      go_wp2_with fail
      refine CHW.mono ?_
      rintro e w1 ⟨rfl, hb1⟩
      have HB1 := Lib.hid (HB0.out.trans (hb1.mono HB0.out.size))
      clear y0 y1 y2 y3 y4 y5 y6 y7 y8 y9 hb1 HB0 CHW
      go_wp2_with fail
      refine (CR _).mono ?_
      rintro e w2 ⟨v, rfl, hv, hb2⟩
      have HV := Lib.hid hv
      have HB2 := Lib.hid (HB1.out.trans (hb2.mono HB1.out.size))
      clear hv hb2 CR MM
      go_wp2
      go_ret
      exact ⟨_, rfl, HV.out.lower HB1.out.size, HB2.out⟩
    · have CR : ∀ W, Calls Try.prog _ #[.agg #[.int .i64 5, .int .i64 xf, .int .i64 xt, .int .i64 xg, .int .i64 xh, .int .i64 xi, .int .i64 xm, .int .i64 xv, .slice A n c, .slice B m d]] W (RgsIs W (mapS ⟨5, xf, xt, xg, xh, xi, xm, xv⟩ n)) := fun W => ranges_mark #[.int .i64 5, .int .i64 xf, .int .i64 xt, .int .i64 xg, .int .i64 xh, .int .i64 xi, .int .i64 xm, .int .i64 xv, .slice A n c, .slice B m d] W
      have MM : ∀ f W, (method (f + 1) 179 (.agg #[.int .i64 5, .int .i64 xf, .int .i64 xt, .int .i64 xg, .int .i64 xh, .int .i64 xi, .int .i64 xm, .int .i64 xv, .slice A n c, .slice B m d]) "stet/step.ranges").run Try.prog W = _ := fun f W => m_remark_ranges f ⟨5, xf, xt, xg, xh, xi, xm, xv⟩ (.slice A n c) (.slice B m d) W
      unfold stV stC at MM
      simp only at MM
      simp only [kI_five] at CHW
      generalize mapS ⟨5, xf, xt, xg, xh, xi, xm, xv⟩ n = R at CR ⊢
      clear hf hb
      go_enter Try.func51, Try.ntmps51
      go_wp2_with fail
      refine CHW.mono ?_
      rintro e w1 ⟨rfl, hb1⟩
      have HB1 := Lib.hid (HB0.out.trans (hb1.mono HB0.out.size))
      clear y0 y1 y2 y3 y4 y5 y6 y7 y8 y9 hb1 HB0 CHW
      go_wp2_with fail
      refine (CR _).mono ?_
      rintro e w2 ⟨v, rfl, hv, hb2⟩
      have HV := Lib.hid hv
      have HB2 := Lib.hid (HB1.out.trans (hb2.mono HB1.out.size))
      clear hv hb2 CR MM
      go_wp2
      go_ret
      exact ⟨_, rfl, HV.out.lower HB1.out.size, HB2.out⟩
end Go.Proofs.Ytgodphfkhmahnaa.St
