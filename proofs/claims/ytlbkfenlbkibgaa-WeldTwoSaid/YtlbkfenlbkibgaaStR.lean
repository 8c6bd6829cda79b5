/- Steps: Shape. -/
import Derived.Test.YtlbkfenlbkibgaaStE
import Derived.Test.YtlbkfenlbkibgaaRtA
set_option linter.unusedVariables false
set_option maxRecDepth 100000
set_option maxHeartbeats 8000000
namespace Go.Proofs.Ytlbkfenlbkibgaa.St
open Go.RowKit Mem Sm Tk
theorem shape_any (x : Sp) (L : List Tk.Tk) (S : List Mk) (A B : Option Addr) (n m c d : Nat) (w : World) (hn : n ≤ 9223372036854775807) (hm : m ≤ 9223372036854775807) (h1 : TRow w A n L) (h3 : MkRow w B m S) :
  Calls Try.prog 45 #[stV x (.slice A n c) (.slice B m d)] w fun e w' => e = .returned (.bool (shapeB x n m)) ∧ Below w.heap.size w w' := by
 have CH := fun W g1 g2 => shaped_any x L S A B n m c d W hn hm g1 g2
 obtain ⟨F, hF⟩ : ∃ b, b = shapeB x n m := ⟨_, rfl⟩
 rw [← hF] at CH ⊢
 clear hF
 have HL := Lib.hid h1
 have HS := Lib.hid h3
 clear h1 h3
 obtain ⟨xk, xf, xt, xg, xh, xi, xm, xv⟩ := x
 unfold stV stC at CH
 unfold stV stC
 simp only at CH ⊢
 have HB0 := Lib.hid ((Below.refl _ w).alloc (Nat.le_refl _) (.cells #[.int .i64 xk, .int .i64 xf, .int .i64 xt, .int .i64 xg, .int .i64 xh, .int .i64 xi, .int .i64 xm, .int .i64 xv, .slice A n c, .slice B m d] 25))
 obtain ⟨⟨y0, y1, y2, y3, y4⟩, y5, y6, y7, y8, y9⟩ := tenc (heap_alloc_new w (.cells #[.int .i64 xk, .int .i64 xf, .int .i64 xt, .int .i64 xg, .int .i64 xh, .int .i64 xi, .int .i64 xm, .int .i64 xv, .slice A n c, .slice B m d] 25))
 have CHW := CH _ (HL.out.below HB0.out) (HS.out.below HB0.out)
 clear CH
 go_enter Try.func45, Try.ntmps45
 go_wp2_with fail
 refine CHW.mono ?_
 rintro e w1 ⟨rfl, hb1⟩
 have HB1 := Lib.hid (HB0.out.trans (hb1.mono HB0.out.size))
 clear y0 y1 y2 y3 y4 y5 y6 y7 y8 y9 hb1 HB0 CHW
 cases F with
 | true =>
  go_wp2
  go_ret
  exact ⟨rfl, HB1.out⟩
 | false =>
  go_wp2
  go_ret
  exact ⟨rfl, HB1.out⟩
end Go.Proofs.Ytlbkfenlbkibgaa.St
namespace Go.Proofs.Ytlbkfenlbkibgaa.St
open Go.RowKit Mem Sm Tk Rt
theorem tks_empty (w : World) : Tks w.heap.size (w.alloc (.cells #[] 101)) (.slice (some ⟨w.heap.size, 0, none⟩) 0 0) [] :=
 ⟨rfl, .inr ⟨w.heap.size, 0, #[], rfl, Nat.le_refl _, heap_alloc_new w _, Nat.le_refl _, Nat.zero_le _, rfl, rfl⟩⟩
def TksIs (w : World) (l : List Tk.Tk) (e : Ending) (w' : World) : Prop := ∃ v, e = .returned v ∧ Tks w.heap.size w' v l ∧ Below w.heap.size w w'
theorem clone_tok (l : List Tk.Tk) (A : Option Addr) (n c : Nat) (w : World) (hn : n ≤ 1000000) (hr : TRow w A n l) :
  Calls Try.prog 58 #[.slice A n c] w (TksIs w l) := by
 cases A with
 | none =>
  have h0 : n = 0 := by
   rcases Nat.eq_zero_or_pos n with h | h
   ·exact h
   ·obtain ⟨_, _, e, _⟩ := hr.2 h; cases e
  subst h0
  obtain rfl : l = [] := List.eq_nil_of_length_eq_zero hr.1
  clear hr
  go_enter Try.func58, Try.ntmps58
  have he := eql_slice 22 101 Try.underlying22 none 0 c w
  simp only [Option.isNone_none] at he
  go_wp2
  go_ret
  exact ⟨_, rfl, Tks.nil, Below.refl _ _⟩
 | some a =>
  have HO := Lib.hid (tks_empty w)
  have HR := Lib.hid (hr.alloc (.cells #[] 101))
  have HB := Lib.hid ((Below.refl _ w).alloc (Nat.le_refl _) (.cells #[] 101))
  have he := eql_slice 22 101 Try.underlying22 (some a) n c w
  simp only [Option.isNone_some] at he
  clear hr
  go_enter Try.func58, Try.ntmps58
  go_wp2_with (at_builtin; (refine wpList_app_tk rfl (.tmp 5) (.tmp 6) rfl w.heap.size _ [] rfl HO.out (some a) n c l rfl HR.out (by simp; omega) (by simp) ?_); intro v' w2 hown' hg hat)
  go_ret
  rw [List.nil_append] at hown'
  exact ⟨_, rfl, hown', below_of_grown HB.out hg (by simp) (fun i hi => (HO.out.block i hi).1)⟩
end Go.Proofs.Ytlbkfenlbkibgaa.St
namespace Go.Proofs.Ytlbkfenlbkibgaa.St
open Go.RowKit Mem Sm
end Go.Proofs.Ytlbkfenlbkibgaa.St
namespace Go.Proofs.Ytlbkfenlbkibgaa.St
open Go.RowKit Mem Sm
end Go.Proofs.Ytlbkfenlbkibgaa.St
namespace Go.Proofs.Ytlbkfenlbkibgaa.St
open Go.RowKit Mem Sm Tk
set_option linter.unusedSimpArgs false
end Go.Proofs.Ytlbkfenlbkibgaa.St
namespace Go.Proofs.Ytlbkfenlbkibgaa.St
open Go.RowKit Mem Sm Tk
set_option linter.unusedSimpArgs false
theorem rssame_any (x y : Sp) (L K' : List Tk.Tk) (S T : List Mk) (A A' B B' : Option Addr) (n n' m m' c c' d d' : Nat) (w : World) (hn : n ≤ 1000000) (hn' : n' ≤ 1000000) (hm : m ≤ 1000000) (hm' : m' ≤ 1000000)
  (h1 : TRow w A n L) (h2 : TRow w A' n' K') (h3 : MkRow w B m S) (h4 : MkRow w B' m' T) :
  Calls Try.prog 19 #[stV x (.slice A n c) (.slice B m d), stV y (.slice A' n' c') (.slice B' m' d')] w fun e w' => e = .returned (.bool (sameS x y L K' S T)) ∧ Below w.heap.size w w' := by
 obtain ⟨xk, xf, xt, xg, xh, xi, xm, xv⟩ := x
 obtain ⟨yk, yf, yt, yg, yh, yi, ym, yv⟩ := y
 unfold sameS
 obtain ⟨F, hF⟩ : ∃ b, b = decide ((⟨xk, xf, xt, xg, xh, xi, xm, xv⟩ : Sp) = ⟨yk, yf, yt, yg, yh, yi, ym, yv⟩) := ⟨_, rfl⟩
 rw [← hF]
 simp only [Sp.mk.injEq] at hF
 unfold stV stC
 simp only
 have s1 : (w.alloc (.cells #[.int .i64 xk, .int .i64 xf, .int .i64 xt, .int .i64 xg, .int .i64 xh, .int .i64 xi, .int .i64 xm, .int .i64 xv, .slice A n c, .slice B m d] 25)).heap.size = w.heap.size + 1 := by simp
 have hb0 := ((Below.refl _ w).alloc (Nat.le_refl _) (.cells #[.int .i64 xk, .int .i64 xf, .int .i64 xt, .int .i64 xg, .int .i64 xh, .int .i64 xi, .int .i64 xm, .int .i64 xv, .slice A n c, .slice B m d] 25)).alloc (by simp) (.cells #[.int .i64 yk, .int .i64 yf, .int .i64 yt, .int .i64 yg, .int .i64 yh, .int .i64 yi, .int .i64 ym, .int .i64 yv, .slice A' n' c', .slice B' m' d'] 25)
 have CT := fun W q1 q2 => rsame_any L K' A A' n n' c c' W q1 q2 (by omega) (by omega)
 have CM := fun W q1 q2 => rsets_any S T B B' m m' d d' W q1 q2 (by omega) (by omega)
 have HL := Lib.hid (h1.below hb0)
 have HK := Lib.hid (h2.below hb0)
 have HS := Lib.hid (h3.below hb0)
 have HT := Lib.hid (h4.below hb0)
 have HB := Lib.hid hb0
 have hx : ((w.alloc (.cells #[.int .i64 xk, .int .i64 xf, .int .i64 xt, .int .i64 xg, .int .i64 xh, .int .i64 xi, .int .i64 xm, .int .i64 xv, .slice A n c, .slice B m d] 25)).alloc (.cells #[.int .i64 yk, .int .i64 yf, .int .i64 yt, .int .i64 yg, .int .i64 yh, .int .i64 yi, .int .i64 ym, .int .i64 yv, .slice A' n' c', .slice B' m' d'] 25)).heap[w.heap.size]? = some (.cells #[.int .i64 xk, .int .i64 xf, .int .i64 xt, .int .i64 xg, .int .i64 xh, .int .i64 xi, .int .i64 xm, .int .i64 xv, .slice A n c, .slice B m d] 25) := by rw [Below.heap_alloc _ _ _ (by simp), heap_alloc_new]
 have hy := heap_alloc_new (w.alloc (.cells #[.int .i64 xk, .int .i64 xf, .int .i64 xt, .int .i64 xg, .int .i64 xh, .int .i64 xi, .int .i64 xm, .int .i64 xv, .slice A n c, .slice B m d] 25)) (.cells #[.int .i64 yk, .int .i64 yf, .int .i64 yt, .int .i64 yg, .int .i64 yh, .int .i64 yi, .int .i64 ym, .int .i64 yv, .slice A' n' c', .slice B' m' d'] 25)
 rw [s1] at hy
 obtain ⟨⟨y0, y1, y2, y3, y4⟩, y5, y6, y7, y8, y9⟩ := tenc hx
 obtain ⟨⟨z0, z1, z2, z3, z4⟩, z5, z6, z7, z8, z9⟩ := tenc hy
 clear hb0 h1 h2 h3 h4 hx hy
 by_cases e1 : xk = yk
 ·by_cases e2 : xf = yf
  ·by_cases e3 : xt = yt
   ·by_cases e4 : xg = yg
    ·by_cases e5 : xh = yh
     ·by_cases e6 : xi = yi
      ·by_cases e7 : xm = ym
       ·by_cases e8 : xv = yv
        ·subst e1 e2 e3 e4 e5 e6 e7 e8
         simp only [and_self, decide_true] at hF
         subst hF
         go_enter Try.func19, Try.ntmps19
         obtain ⟨b, hb⟩ : ∃ b, b = decide (L = K') := ⟨_, rfl⟩
         obtain ⟨b2, hb2⟩ : ∃ b, b = decide (S = T) := ⟨_, rfl⟩
         rw [← hb] at CT ⊢
         rw [← hb2] at CM ⊢
         clear hb hb2
         cases b with
         | true =>
          go_wp2_with fail
          refine (CT _ HL.out HK.out).mono ?_
          rintro e w1 ⟨rfl, q, rfl⟩
          clear CT
          go_wp2_with fail
          refine (CM _ (by exact HS.out) (by exact HT.out)).mono ?_
          rintro e w1 ⟨rfl, q', rfl⟩
          clear CM
          go_wp2
          go_ret
          exact ⟨ret_bool (by simp), below_drewN HB.out _⟩
         | false =>
          go_wp2_with fail
          refine (CT _ HL.out HK.out).mono ?_
          rintro e w1 ⟨rfl, q, rfl⟩
          clear CT
          go_wp2
          go_ret
          exact ⟨ret_bool (by simp), below_drewN HB.out _⟩
        ·subst e1 e2 e3 e4 e5 e6 e7
         simp only [e8, and_false, decide_false] at hF
         subst hF
         clear CT CM HL HK HS HT
         go_enter Try.func19, Try.ntmps19
         go_wp2
         go_ret
         exact ⟨rfl, HB.out⟩
       ·subst e1 e2 e3 e4 e5 e6
        simp only [e7, and_false, false_and, decide_false] at hF
        subst hF
        clear CT CM HL HK HS HT
        go_enter Try.func19, Try.ntmps19
        go_wp2
        go_ret
        exact ⟨rfl, HB.out⟩
      ·subst e1 e2 e3 e4 e5
       simp only [e6, and_false, false_and, decide_false] at hF
       subst hF
       clear CT CM HL HK HS HT
       go_enter Try.func19, Try.ntmps19
       go_wp2
       go_ret
       exact ⟨rfl, HB.out⟩
     ·subst e1 e2 e3 e4
      simp only [e5, and_false, false_and, decide_false] at hF
      subst hF
      clear CT CM HL HK HS HT
      go_enter Try.func19, Try.ntmps19
      go_wp2
      go_ret
      exact ⟨rfl, HB.out⟩
    ·subst e1 e2 e3
     simp only [e4, and_false, false_and, decide_false] at hF
     subst hF
     clear CT CM HL HK HS HT
     go_enter Try.func19, Try.ntmps19
     go_wp2
     go_ret
     exact ⟨rfl, HB.out⟩
   ·subst e1 e2
    simp only [e3, and_false, false_and, decide_false] at hF
    subst hF
    clear CT CM HL HK HS HT
    go_enter Try.func19, Try.ntmps19
    go_wp2
    go_ret
    exact ⟨rfl, HB.out⟩
  ·subst e1
   simp only [e2, and_false, false_and, decide_false] at hF
   subst hF
   clear CT CM HL HK HS HT
   go_enter Try.func19, Try.ntmps19
   go_wp2
   go_ret
   exact ⟨rfl, HB.out⟩
 ·simp only [e1, and_false, false_and, decide_false] at hF
  subst hF
  clear CT CM HL HK HS HT
  go_enter Try.func19, Try.ntmps19
  go_wp2
  go_ret
  exact ⟨rfl, HB.out⟩
end Go.Proofs.Ytlbkfenlbkibgaa.St
