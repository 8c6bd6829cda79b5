/- Steps: the reference's Map, and Same. -/
import Derived.Test.YtgodphfkhmahnaaStJ
namespace Go.Proofs.Ytgodphfkhmahnaa.St
open Go.RowKit Mem Sm Tk
set_option linter.unusedVariables false
set_option linter.unusedSimpArgs false
set_option maxRecDepth 100000 in
set_option maxHeartbeats 8000000 in
theorem rmap_any (x : Sp) (A B : Option Addr) (n m c d : Nat) (w : World) (hn : n ≤ 1000000) (hs : shapeB x n m = true) :
    Calls Try.prog 24 #[stV x (.slice A n c) (.slice B m d)] w (RgsIs w (mapS x n)) := by
  have hg := shape_of hs
  clear hs
  obtain ⟨xk, xf, xt, xg, xh, xi, xm, xv⟩ := x
  have hb := hg.1
  have hf := hg.2
  clear hg
  unfold boundP at hb
  unfold formP at hf
  unfold stV stC mapS
  simp only at hb hf ⊢
  have HB := Lib.hid ((Below.refl _ w).alloc (Nat.le_refl _) (.cells #[.int .i64 xk, .int .i64 xf, .int .i64 xt, .int .i64 xg, .int .i64 xh, .int .i64 xi, .int .i64 xm, .int .i64 xv, .slice A n c, .slice B m d] 25))
  obtain ⟨⟨y0, y1, y2, y3, y4⟩, y5, y6, y7, y8, y9⟩ := tenc (heap_alloc_new w (.cells #[.int .i64 xk, .int .i64 xf, .int .i64 xt, .int .i64 xg, .int .i64 xh, .int .i64 xi, .int .i64 xm, .int .i64 xv, .slice A n c, .slice B m d] 25))
  have s1 : (w.alloc (.cells #[.int .i64 xk, .int .i64 xf, .int .i64 xt, .int .i64 xg, .int .i64 xh, .int .i64 xi, .int .i64 xm, .int .i64 xv, .slice A n c, .slice B m d] 25)).heap.size = w.heap.size + 1 := by simp
  have hk : xk = 1 ∨ xk = 2 ∨ xk = 3 ∨ xk = 4 ∨ xk = 5 := by omega
  have hk2 : xk = 1 ∨ xk = 2 ∨ (¬ xk = 1 ∧ ¬ xk = 2 ∧ ¬ xk ≤ 2) := by omega
  clear hk
  rcases hk2 with rfl | rfl | ⟨k1, k2, k3⟩
  · rw [if_pos rfl]
    have hw : wrap64 (xt - xf) = xt - xf := by unfold wrap64; omega
    clear hf
    go_enter Try.func24, Try.ntmps24
    go_wp2
    go_ret
    have hr := rgs_lit (w.alloc (.cells #[.int .i64 1, .int .i64 xf, .int .i64 xt, .int .i64 xg, .int .i64 xh, .int .i64 xi, .int .i64 xm, .int .i64 xv, .slice A n c, .slice B m d] 25)) ⟨xf, xt - xf, n⟩
    rw [s1] at hr
    exact ⟨_, rfl, hr.lower (by omega), HB.out.alloc (by rw [s1]; omega) _⟩
  · rw [if_neg (by decide), if_pos rfl]
    have hg : xf ≤ xg ∧ xg ≤ xh ∧ xh ≤ xt ∧ 0 ≤ xi ∧ xi ≤ n := by omega
    clear hf
    by_cases hgg : xg = xh
    · subst hgg
      rw [if_pos rfl]
      have hl : ¬ xg < xg := by omega
      have hw : wrap64 (xt - xf) = xt - xf := by unfold wrap64; omega
      go_enter Try.func24, Try.ntmps24
      go_wp2
      go_ret
      have hr := rgs_lit (w.alloc (.cells #[.int .i64 2, .int .i64 xf, .int .i64 xt, .int .i64 xg, .int .i64 xg, .int .i64 xi, .int .i64 xm, .int .i64 xv, .slice A n c, .slice B m d] 25)) ⟨xf, xt - xf, n⟩
      rw [s1] at hr
      exact ⟨_, rfl, hr.lower (by omega), HB.out.alloc (by rw [s1]; omega) _⟩
    · rw [if_neg hgg]
      have hl : xg < xh := by omega
      have h1 : wrap64 (xg - xf) = xg - xf := by unfold wrap64; omega
      have h2 : wrap64 (xt - xh) = xt - xh := by unfold wrap64; omega
      have h3 : wrap64 (n - xi) = n - xi := by unfold wrap64; omega
      go_enter Try.func24, Try.ntmps24
      go_wp2
      go_ret
      have hr := rgs_lit2 (w.alloc (.cells #[.int .i64 2, .int .i64 xf, .int .i64 xt, .int .i64 xg, .int .i64 xh, .int .i64 xi, .int .i64 xm, .int .i64 xv, .slice A n c, .slice B m d] 25)) ⟨xf, xg - xf, xi⟩ ⟨xh, xt - xh, n - xi⟩
      rw [s1] at hr
      exact ⟨_, rfl, hr.lower (by omega), HB.out.alloc (by rw [s1]; omega) _⟩
  · rw [if_neg k1, if_neg k2]
    clear hf
    go_enter Try.func24, Try.ntmps24
    go_wp2
    go_ret
    exact ⟨_, rfl, Rgs.nil, HB.out⟩
set_option maxRecDepth 100000 in
set_option maxHeartbeats 8000000 in
theorem rssame_any (x y : Sp) (L K' : List Tk.Tk) (S T : List Mk) (A A' B B' : Option Addr) (n n' m m' c c' d d' : Nat) (w : World) (hn : n ≤ 1000000) (hn' : n' ≤ 1000000) (hm : m ≤ 1000000) (hm' : m' ≤ 1000000)
    (h1 : TRow w A n L) (h2 : TRow w A' n' K') (h3 : MkRow w B m S) (h4 : MkRow w B' m' T) :
    Calls Try.prog 19 #[stV x (.slice A n c) (.slice B m d), stV y (.slice A' n' c') (.slice B' m' d')] w fun e w' => e = .returned (.bool (sameS x y L K' S T)) ∧ Below w.heap.size w w' := by
  obtain ⟨xk, xf, xt, xg, xh, xi, xm, xv⟩ := x
  obtain ⟨yk, yf, yt, yg, yh, yi, ym, yv⟩ := y
  unfold sameS
  obtain ⟨F, hF⟩ : ∃ b, b = decide ((⟨xk, xf, xt, xg, xh, xi, xm, xv⟩ : Sp) = ⟨yk, yf, yt, yg, yh, yi, ym, yv⟩) := ⟨_, rfl⟩
  rw [← hF]
  simp only [Sp.mk.injEq] at hF
  unfold stV stC
  simp only
  have s1 : (w.alloc (.cells #[.int .i64 xk, .int .i64 xf, .int .i64 xt, .int .i64 xg, .int .i64 xh, .int .i64 xi, .int .i64 xm, .int .i64 xv, .slice A n c, .slice B m d] 25)).heap.size = w.heap.size + 1 := by simp
  have hb0 := ((Below.refl _ w).alloc (Nat.le_refl _) (.cells #[.int .i64 xk, .int .i64 xf, .int .i64 xt, .int .i64 xg, .int .i64 xh, .int .i64 xi, .int .i64 xm, .int .i64 xv, .slice A n c, .slice B m d] 25)).alloc (by simp) (.cells #[.int .i64 yk, .int .i64 yf, .int .i64 yt, .int .i64 yg, .int .i64 yh, .int .i64 yi, .int .i64 ym, .int .i64 yv, .slice A' n' c', .slice B' m' d'] 25)
  have CT := fun W q1 q2 => rsame_any L K' A A' n n' c c' W q1 q2 (by omega) (by omega)
  have CM := fun W q1 q2 => rsets_any S T B B' m m' d d' W q1 q2 (by omega) (by omega)
  have HL := Lib.hid (h1.below hb0)
  have HK := Lib.hid (h2.below hb0)
  have HS := Lib.hid (h3.below hb0)
  have HT := Lib.hid (h4.below hb0)
  have HB := Lib.hid hb0
  have hx : ((w.alloc (.cells #[.int .i64 xk, .int .i64 xf, .int .i64 xt, .int .i64 xg, .int .i64 xh, .int .i64 xi, .int .i64 xm, .int .i64 xv, .slice A n c, .slice B m d] 25)).alloc (.cells #[.int .i64 yk, .int .i64 yf, .int .i64 yt, .int .i64 yg, .int .i64 yh, .int .i64 yi, .int .i64 ym, .int .i64 yv, .slice A' n' c', .slice B' m' d'] 25)).heap[w.heap.size]? = some (.cells #[.int .i64 xk, .int .i64 xf, .int .i64 xt, .int .i64 xg, .int .i64 xh, .int .i64 xi, .int .i64 xm, .int .i64 xv, .slice A n c, .slice B m d] 25) := by rw [Below.heap_alloc _ _ _ (by simp), heap_alloc_new]
  have hy := heap_alloc_new (w.alloc (.cells #[.int .i64 xk, .int .i64 xf, .int .i64 xt, .int .i64 xg, .int .i64 xh, .int .i64 xi, .int .i64 xm, .int .i64 xv, .slice A n c, .slice B m d] 25)) (.cells #[.int .i64 yk, .int .i64 yf, .int .i64 yt, .int .i64 yg, .int .i64 yh, .int .i64 yi, .int .i64 ym, .int .i64 yv, .slice A' n' c', .slice B' m' d'] 25)
  rw [s1] at hy
  obtain ⟨⟨y0, y1, y2, y3, y4⟩, y5, y6, y7, y8, y9⟩ := tenc hx
  obtain ⟨⟨z0, z1, z2, z3, z4⟩, z5, z6, z7, z8, z9⟩ := tenc hy
  clear hb0 h1 h2 h3 h4 hx hy
  by_cases e1 : xk = yk
  · by_cases e2 : xf = yf
    · by_cases e3 : xt = yt
      · by_cases e4 : xg = yg
        · by_cases e5 : xh = yh
          · by_cases e6 : xi = yi
            · by_cases e7 : xm = ym
              · by_cases e8 : xv = yv
                · subst e1 e2 e3 e4 e5 e6 e7 e8
                  simp only [and_self, decide_true] at hF
                  subst hF
                  go_enter Try.func19, Try.ntmps19
                  obtain ⟨b, hb⟩ : ∃ b, b = decide (L = K') := ⟨_, rfl⟩
                  obtain ⟨b2, hb2⟩ : ∃ b, b = decide (S = T) := ⟨_, rfl⟩
                  rw [← hb] at CT ⊢
                  rw [← hb2] at CM ⊢
                  clear hb hb2
                  cases b with
                  | true =>
                    go_wp2_with fail
                    refine (CT _ HL.out HK.out).mono ?_
                    rintro e w1 ⟨rfl, q, rfl⟩
                    clear CT
                    go_wp2_with fail
                    refine (CM _ (by exact HS.out) (by exact HT.out)).mono ?_
                    rintro e w1 ⟨rfl, q', rfl⟩
                    clear CM
                    go_wp2
                    go_ret
                    exact ⟨ret_bool (by simp), below_drewN HB.out _⟩
                  | false =>
                    go_wp2_with fail
                    refine (CT _ HL.out HK.out).mono ?_
                    rintro e w1 ⟨rfl, q, rfl⟩
                    clear CT
                    go_wp2
                    go_ret
                    exact ⟨ret_bool (by simp), below_drewN HB.out _⟩
                · subst e1 e2 e3 e4 e5 e6 e7
                  simp only [e8, and_false, decide_false] at hF
                  subst hF
                  clear CT CM HL HK HS HT
                  go_enter Try.func19, Try.ntmps19
                  go_wp2
                  go_ret
                  exact ⟨rfl, HB.out⟩
              · subst e1 e2 e3 e4 e5 e6
                simp only [e7, and_false, false_and, decide_false] at hF
                subst hF
                clear CT CM HL HK HS HT
                go_enter Try.func19, Try.ntmps19
                go_wp2
                go_ret
                exact ⟨rfl, HB.out⟩
            · subst e1 e2 e3 e4 e5
              simp only [e6, and_false, false_and, decide_false] at hF
              subst hF
              clear CT CM HL HK HS HT
              go_enter Try.func19, Try.ntmps19
              go_wp2
              go_ret
              exact ⟨rfl, HB.out⟩
          · subst e1 e2 e3 e4
            simp only [e5, and_false, false_and, decide_false] at hF
            subst hF
            clear CT CM HL HK HS HT
            go_enter Try.func19, Try.ntmps19
            go_wp2
            go_ret
            exact ⟨rfl, HB.out⟩
        · subst e1 e2 e3
          simp only [e4, and_false, false_and, decide_false] at hF
          subst hF
          clear CT CM HL HK HS HT
          go_enter Try.func19, Try.ntmps19
          go_wp2
          go_ret
          exact ⟨rfl, HB.out⟩
      · subst e1 e2
        simp only [e3, and_false, false_and, decide_false] at hF
        subst hF
        clear CT CM HL HK HS HT
        go_enter Try.func19, Try.ntmps19
        go_wp2
        go_ret
        exact ⟨rfl, HB.out⟩
    · subst e1
      simp only [e2, and_false, false_and, decide_false] at hF
      subst hF
      clear CT CM HL HK HS HT
      go_enter Try.func19, Try.ntmps19
      go_wp2
      go_ret
      exact ⟨rfl, HB.out⟩
  · simp only [e1, and_false, false_and, decide_false] at hF
    subst hF
    clear CT CM HL HK HS HT
    go_enter Try.func19, Try.ntmps19
    go_wp2
    go_ret
    exact ⟨rfl, HB.out⟩
end Go.Proofs.Ytgodphfkhmahnaa.St
