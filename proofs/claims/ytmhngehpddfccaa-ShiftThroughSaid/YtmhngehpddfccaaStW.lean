/- Steps: Through, Over. Steps: the reference's Over; Few. Steps: the law's live. -/
import Derived.Test.YtmhngehpddfccaaStP
import Derived.Test.YtmhngehpddfccaaRtWn
import Derived.Test.YtmhngehpddfccaaRtT
import Derived.Test.YtmhngehpddfccaaSmLw
namespace Go.Proofs.Ytmhngehpddfccaa.St
open Go.RowKit Mem Sm Tk Rt
set_option linter.unusedVariables false
set_option linter.unusedSimpArgs false
noncomputable abbrev goT (M : List (List Rg)) (mir : List (Int × Int)) : Int → Int → Option Rt.St := fun pos side => goR M mir side 0 ⟨pos, false, false⟩
/-- the route as a way -/
theorem tells_rt {base p : Nat} {v mp : Value} {vs : List Value} {M : List (List Rg)} {mir : List (Int × Int)} (hM : M.length ≤ 1000) (hm : ∀ m ∈ M, m.length ≤ 100 ∧ rightB m = true) (hmir : ∀ x ∈ mir, 0 ≤ x.2 ∧ x.2 < M.length) :
    Tells (.pointer (some ⟨p, 0, none⟩)) (fun W => RtAt base W p v mp vs M mir) (goT M mir) :=
  ⟨fun W W' h hb => h.step hb, fun W a s h => (rttell_any base p v mp vs M mir a s W hM hm hmir h).mono fun e W' ⟨he, hb⟩ => ⟨⟨_, he, by show endE (goR M mir s 0 ⟨a, false, false⟩) = 0 ↔ (goR M mir s 0 ⟨a, false, false⟩).isSome = true; cases goR M mir s 0 ⟨a, false, false⟩ <;> simp [endE]⟩, hb⟩⟩
theorem tells_nil : Tells (.pointer none) (fun _ => True) (fun _ _ => none) :=
  ⟨fun _ _ _ _ => trivial, fun W a s _ => (nil_tell a s W).mono fun e W' ⟨he, hb⟩ => ⟨⟨_, he, by simp⟩, hb⟩⟩
/-- the reference's route as a way -/
theorem tells_xt {n₀ base : Nat} {A1 A2 : Option Addr} {n1 n2 c1 c2 : Nat} {vs : List Value} {M : List (List Rg)} {O : List Int} {mir : List (Int × Int)} (hM : M.length ≤ 1000) (hm : ∀ m ∈ M, m.length ≤ 100 ∧ rightB m = true) (hrel : Rel M O mir) :
    RTells (.agg #[.slice A1 n1 c1, .slice A2 n2 c2]) (fun W => XAt n₀ base W (.slice A1 n1 c1) (.slice A2 n2 c2) vs M O ∧ n₀ ≤ W.heap.size) (goT M mir) :=
  ⟨fun W W' h hb => ⟨h.1.step hb h.2, Nat.le_trans h.2 hb.size⟩, fun W a s h => rrtell_any n₀ base _ _ vs M O mir a s W hM hm hrel h.1 h.2⟩
set_option maxRecDepth 100000 in
set_option maxHeartbeats 4000000 in
theorem through_any {pv : Value} {R : World → Prop} {T : Int → Int → Option Rt.St} (HT : Tells pv R T) (x : Sp) (L : List Tk.Tk) (S : List Mk) (A B : Option Addr) (n m c d : Nat) (w : World) (hR : R w) (hn : n ≤ 9223372036854775807) (hm : m ≤ 9223372036854775807) (h1 : TRow w A n L) (h3 : MkRow w B m S) :
    Calls Try.prog 6 #[stV x (.slice A n c) (.slice B m d), pv] w (ByIs T x L S n m w) := by
  have hstep := HT.step
  have CB := fun W q1 q2 q3 => by_any HT x L S A B n m c d W q1 hn hm q2 q3
  clear HT
  obtain ⟨E, hE⟩ : ∃ E : Ending → World → Prop, E = ByIs T x L S n m w := ⟨_, rfl⟩
  rw [← hE]
  have HE : Hid (∀ e w', E e w' ↔ ByIs T x L S n m w e w') := Lib.hid (fun e w' => by rw [hE])
  clear hE
  unfold ByIs at HE CB
  obtain ⟨F, hF⟩ : ∃ F, F = shiftB T x n m := ⟨_, rfl⟩
  obtain ⟨Y, hY⟩ : ∃ F, F = goneN T x := ⟨_, rfl⟩
  simp only [← hF, ← hY] at CB HE
  clear hF hY
  obtain ⟨xk, xf, xt, xg, xh, xi, xm, xv⟩ := x
  obtain ⟨yk, yf, yt, yg, yh, yi, ym, yv⟩ := Y
  unfold stV stC at CB HE
  unfold stV stC
  simp only at CB HE ⊢
  have hb0 := ((Below.refl _ w).alloc (Nat.le_refl _) (.cells #[.int .i64 xk, .int .i64 xf, .int .i64 xt, .int .i64 xg, .int .i64 xh, .int .i64 xi, .int .i64 xm, .int .i64 xv, .slice A n c, .slice B m d] 25)).alloc (by simp) (.cells #[.int .i64 0, .int .i64 0, .int .i64 0, .int .i64 0, .int .i64 0, .int .i64 0, .int .i64 0, .int .i64 0, .slice none 0 0, .slice none 0 0] 25)
  have hx : ((w.alloc (.cells #[.int .i64 xk, .int .i64 xf, .int .i64 xt, .int .i64 xg, .int .i64 xh, .int .i64 xi, .int .i64 xm, .int .i64 xv, .slice A n c, .slice B m d] 25)).alloc (.cells #[.int .i64 0, .int .i64 0, .int .i64 0, .int .i64 0, .int .i64 0, .int .i64 0, .int .i64 0, .int .i64 0, .slice none 0 0, .slice none 0 0] 25)).heap[w.heap.size]? = some (.cells #[.int .i64 xk, .int .i64 xf, .int .i64 xt, .int .i64 xg, .int .i64 xh, .int .i64 xi, .int .i64 xm, .int .i64 xv, .slice A n c, .slice B m d] 25) := by rw [Below.heap_alloc _ _ _ (by simp), heap_alloc_new]
  have hz := heap_alloc_new (w.alloc (.cells #[.int .i64 xk, .int .i64 xf, .int .i64 xt, .int .i64 xg, .int .i64 xh, .int .i64 xi, .int .i64 xm, .int .i64 xv, .slice A n c, .slice B m d] 25)) (.cells #[.int .i64 0, .int .i64 0, .int .i64 0, .int .i64 0, .int .i64 0, .int .i64 0, .int .i64 0, .int .i64 0, .slice none 0 0, .slice none 0 0] 25)
  rw [show (w.alloc (.cells #[.int .i64 xk, .int .i64 xf, .int .i64 xt, .int .i64 xg, .int .i64 xh, .int .i64 xi, .int .i64 xm, .int .i64 xv, .slice A n c, .slice B m d] 25)).heap.size = w.heap.size + 1 by simp] at hz
  have HL := Lib.hid (h1.below hb0)
  have HS := Lib.hid (h3.below hb0)
  have HB := Lib.hid hb0
  have HX := Lib.hid hx
  have HZ := Lib.hid hz
  have hRW := hstep _ _ hR hb0
  have hmf : ∀ (fn : Fn) (first cap : Array Value) (w : World), (Instr.makeFunc fn first cap).run Try.prog w = .ok (.func fn first cap) w := fun _ _ _ _ => rfl
  obtain ⟨⟨y0, y1, y2, y3, y4⟩, y5, y6, y7, y8, y9⟩ := tenc hx
  clear hb0 hx hz h1 h3 hstep hR
  go_enter Try.func6, Try.ntmps6
  go_wp2_with fail
  refine (CB _ hRW HL.out HS.out).mono ?_
  rintro e w1 ⟨he, hb1⟩
  have HB1 := Lib.hid (HB.out.trans (hb1.mono HB.out.size))
  have HZ1 := Lib.hid (hkeep hb1 HZ.out)
  have hsz := lt_some HZ.out
  clear hb1 HB HX HZ HL HS CB y0 y1 y2 y3 y4 y5 y6 y7 y8 y9 hmf hRW
  rcases he with ⟨rfl, s, t, rfl, hs, ht⟩ | ⟨rfl, rfl⟩
  · obtain ⟨As, cs, rfl⟩ := hs.form
    obtain ⟨At, ct, rfl⟩ := ht.form
    have HT5 := Lib.hid (tks_put10 (hs.lower (base' := w.heap.size + 2) (by omega)) (B := w.heap.size + 1) (by omega) (.int .i64 yk) (.int .i64 yf) (.int .i64 yt) (.int .i64 yg) (.int .i64 yh) (.int .i64 yi) (.int .i64 ym) (.int .i64 yv) (.slice As L.length cs) (.slice At S.length ct))
    have HM5 := Lib.hid (mks_put10 (ht.lower (base' := w.heap.size + 2) (by omega)) (B := w.heap.size + 1) (by omega) (.int .i64 yk) (.int .i64 yf) (.int .i64 yt) (.int .i64 yg) (.int .i64 yh) (.int .i64 yi) (.int .i64 ym) (.int .i64 yv) (.slice As L.length cs) (.slice At S.length ct))
    clear hs ht hsz
    obtain ⟨⟨z0, z1, z2, z3, z4⟩, z5, z6, z7, z8, z9⟩ := tenc HZ1.out
    obtain ⟨f0, f1, f2, f3, f4, f5, f6, f7, f8, f9⟩ := froz HZ1.out
    go_wp2
    clear z0 z1 z2 z3 z4 z5 z6 z7 z8 z9 f0 f1 f2 f3 f4 f5 f6 f7 f8 f9
    have hT := HT5.out.lower (base' := w.heap.size) (by omega)
    have hM := HM5.out.lower (base' := w.heap.size) (by omega)
    unfold put10 at hT hM
    have hF := tenc (put10_at HZ1.out (.int .i64 yk) (.int .i64 yf) (.int .i64 yt) (.int .i64 yg) (.int .i64 yh) (.int .i64 yi) (.int .i64 ym) (.int .i64 yv) (.slice As L.length cs) (.slice At S.length ct))
    have hB10 := put10_below HB1.out (B := w.heap.size + 1) (by omega) (.int .i64 yk) (.int .i64 yf) (.int .i64 yt) (.int .i64 yg) (.int .i64 yh) (.int .i64 yi) (.int .i64 ym) (.int .i64 yv) (.slice As L.length cs) (.slice At S.length ct)
    obtain ⟨⟨r0, r1, r2, r3, r4⟩, r5, r6, r7, r8, r9⟩ := hF
    unfold put10 at r0 r1 r2 r3 r4 r5 r6 r7 r8 r9 hB10
    refine bodyPost_ret (v := .tuple #[.agg #[.int .i64 yk, .int .i64 yf, .int .i64 yt, .int .i64 yg, .int .i64 yh, .int .i64 yi, .int .i64 ym, .int .i64 yv, .slice As L.length cs, .slice At S.length ct], .bool true]) ?_ rfl ((HE.out _ _).2 ⟨.inl ⟨by simp, _, _, rfl, hT, hM⟩, hB10⟩)
    simp [results, Try.results6, go_sem, r0, r1, r2, r3, r4, r5, r6, r7, r8, r9]
  · obtain ⟨⟨z0, z1, z2, z3, z4⟩, z5, z6, z7, z8, z9⟩ := tenc HZ1.out
    obtain ⟨f0, f1, f2, f3, f4, f5, f6, f7, f8, f9⟩ := froz HZ1.out
    go_wp2
    clear z0 z1 z2 z3 z4 z5 z6 z7 z8 z9 f0 f1 f2 f3 f4 f5 f6 f7 f8 f9
    have hF := tenc (put10_at HZ1.out (.int .i64 0) (.int .i64 0) (.int .i64 0) (.int .i64 0) (.int .i64 0) (.int .i64 0) (.int .i64 0) (.int .i64 0) (.slice none 0 0) (.slice none 0 0))
    have hB10 := put10_below HB1.out (B := w.heap.size + 1) (by omega) (.int .i64 0) (.int .i64 0) (.int .i64 0) (.int .i64 0) (.int .i64 0) (.int .i64 0) (.int .i64 0) (.int .i64 0) (.slice none 0 0) (.slice none 0 0)
    obtain ⟨⟨r0, r1, r2, r3, r4⟩, r5, r6, r7, r8, r9⟩ := hF
    unfold put10 at r0 r1 r2 r3 r4 r5 r6 r7 r8 r9 hB10
    refine bodyPost_ret (v := .tuple #[.agg #[.int .i64 0, .int .i64 0, .int .i64 0, .int .i64 0, .int .i64 0, .int .i64 0, .int .i64 0, .int .i64 0, .slice none 0 0, .slice none 0 0], .bool false]) ?_ rfl ((HE.out _ _).2 ⟨.inr ⟨by simp, rfl⟩, hB10⟩)
    simp [results, Try.results6, go_sem, r0, r1, r2, r3, r4, r5, r6, r7, r8, r9]
noncomputable def overB (l : List Rg) (x : Sp) (n m : Nat) : Bool := rightB l && shiftB (goT [l] []) x n m
def OverIs (l : List Rg) (x : Sp) (L : List Tk.Tk) (S : List Mk) (n m : Nat) (w : World) (e : Ending) (w' : World) : Prop :=
  ((overB l x n m = true ∧ ∃ s t, e = .returned (.tuple #[stV (goneN (goT [l] []) x) s t, .bool true]) ∧ Tks w.heap.size w' s L ∧ Mks w.heap.size w' t S) ∨
   (overB l x n m = false ∧ e = .returned (.tuple #[zeroV, .bool false]))) ∧ Below w.heap.size w w'
set_option maxRecDepth 100000 in
set_option maxHeartbeats 4000000 in
theorem over_any (l : List Rg) (D : Option Addr) (k cd : Nat) (x : Sp) (L : List Tk.Tk) (S : List Mk) (A B : Option Addr) (n m c d : Nat) (w : World) (hn : n ≤ 1000000) (hm : m ≤ 1000000) (h1 : TRow w A n L) (h3 : MkRow w B m S) (hk : k ≤ 100) (h5 : RRow w D k l) :
    Calls Try.prog 18 #[stV x (.slice A n c) (.slice B m d), .slice D k cd] w (OverIs l x L S n m w) := by
  have CA := fun p W q => add_any p p (.slice none 0 0) (.map none) [] [] [] l D k cd W (by simp) hk q
  have CT : ∀ (base p : Nat) (v mp : Value) (vs : List Value) (hr : rightB l = true) (W : World), RtAt base W p v mp vs [l] [] → TRow W A n L → MkRow W B m S → _ := fun base p v mp vs hr W q q1 q2 => through_any (tells_rt (base := base) (p := p) (v := v) (mp := mp) (vs := vs) (M := [l]) (mir := []) (by simp) (fun m' hm' => by simp at hm'; subst hm'; exact ⟨by have := h5.1; omega, hr⟩) (by simp)) x L S A B n m c d W q (by omega) (by omega) q1 q2
  obtain ⟨E, hE⟩ : ∃ E : Ending → World → Prop, E = OverIs l x L S n m w := ⟨_, rfl⟩
  rw [← hE]
  have HE : Hid (∀ e w', E e w' ↔ OverIs l x L S n m w e w') := Lib.hid (fun e w' => by rw [hE])
  clear hE
  unfold OverIs overB at HE
  unfold ByIs at CT
  obtain ⟨F, hF⟩ : ∃ F, F = shiftB (goT [l] []) x n m := ⟨_, rfl⟩
  obtain ⟨Y, hY⟩ : ∃ F, F = goneN (goT [l] []) x := ⟨_, rfl⟩
  simp only [← hF, ← hY] at CT HE
  clear hF hY
  obtain ⟨xk, xf, xt, xg, xh, xi, xm, xv⟩ := x
  obtain ⟨yk, yf, yt, yg, yh, yi, ym, yv⟩ := Y
  unfold stV stC at CT HE
  unfold stV stC
  simp only at CT HE ⊢
  unfold AddIs at CA
  have hsz : ((w.alloc (.cells #[.int .i64 xk, .int .i64 xf, .int .i64 xt, .int .i64 xg, .int .i64 xh, .int .i64 xi, .int .i64 xm, .int .i64 xv, .slice A n c, .slice B m d] 25)).alloc (.cells #[.int .i64 0, .int .i64 0, .int .i64 0, .int .i64 0, .int .i64 0, .int .i64 0, .int .i64 0, .int .i64 0, .slice none 0 0, .slice none 0 0] 25)).heap.size = w.heap.size + 2 := by simp
  have hb2 := ((Below.refl _ w).alloc (Nat.le_refl _) (.cells #[.int .i64 xk, .int .i64 xf, .int .i64 xt, .int .i64 xg, .int .i64 xh, .int .i64 xi, .int .i64 xm, .int .i64 xv, .slice A n c, .slice B m d] 25)).alloc (by simp) (.cells #[.int .i64 0, .int .i64 0, .int .i64 0, .int .i64 0, .int .i64 0, .int .i64 0, .int .i64 0, .int .i64 0, .slice none 0 0, .slice none 0 0] 25)
  have hb0 := hb2.alloc (by omega) (.cells #[.slice none 0 0, .map none] 35)
  have hx : (((w.alloc (.cells #[.int .i64 xk, .int .i64 xf, .int .i64 xt, .int .i64 xg, .int .i64 xh, .int .i64 xi, .int .i64 xm, .int .i64 xv, .slice A n c, .slice B m d] 25)).alloc (.cells #[.int .i64 0, .int .i64 0, .int .i64 0, .int .i64 0, .int .i64 0, .int .i64 0, .int .i64 0, .int .i64 0, .slice none 0 0, .slice none 0 0] 25)).alloc (.cells #[.slice none 0 0, .map none] 35)).heap[w.heap.size]? = some (.cells #[.int .i64 xk, .int .i64 xf, .int .i64 xt, .int .i64 xg, .int .i64 xh, .int .i64 xi, .int .i64 xm, .int .i64 xv, .slice A n c, .slice B m d] 25) := by rw [Below.heap_alloc _ _ _ (by omega), Below.heap_alloc _ _ _ (by simp), heap_alloc_new]
  have hz : (((w.alloc (.cells #[.int .i64 xk, .int .i64 xf, .int .i64 xt, .int .i64 xg, .int .i64 xh, .int .i64 xi, .int .i64 xm, .int .i64 xv, .slice A n c, .slice B m d] 25)).alloc (.cells #[.int .i64 0, .int .i64 0, .int .i64 0, .int .i64 0, .int .i64 0, .int .i64 0, .int .i64 0, .int .i64 0, .slice none 0 0, .slice none 0 0] 25)).alloc (.cells #[.slice none 0 0, .map none] 35)).heap[w.heap.size + 1]? = some (.cells #[.int .i64 0, .int .i64 0, .int .i64 0, .int .i64 0, .int .i64 0, .int .i64 0, .int .i64 0, .int .i64 0, .slice none 0 0, .slice none 0 0] 25) := by
    have := heap_alloc_new (w.alloc (.cells #[.int .i64 xk, .int .i64 xf, .int .i64 xt, .int .i64 xg, .int .i64 xh, .int .i64 xi, .int .i64 xm, .int .i64 xv, .slice A n c, .slice B m d] 25)) (.cells #[.int .i64 0, .int .i64 0, .int .i64 0, .int .i64 0, .int .i64 0, .int .i64 0, .int .i64 0, .int .i64 0, .slice none 0 0, .slice none 0 0] 25)
    rw [show (w.alloc (.cells #[.int .i64 xk, .int .i64 xf, .int .i64 xt, .int .i64 xg, .int .i64 xh, .int .i64 xi, .int .i64 xm, .int .i64 xv, .slice A n c, .slice B m d] 25)).heap.size = w.heap.size + 1 by simp] at this
    rw [Below.heap_alloc _ _ _ (by omega)]; exact this
  have hrt := RtAt.new ((w.alloc (.cells #[.int .i64 xk, .int .i64 xf, .int .i64 xt, .int .i64 xg, .int .i64 xh, .int .i64 xi, .int .i64 xm, .int .i64 xv, .slice A n c, .slice B m d] 25)).alloc (.cells #[.int .i64 0, .int .i64 0, .int .i64 0, .int .i64 0, .int .i64 0, .int .i64 0, .int .i64 0, .int .i64 0, .slice none 0 0, .slice none 0 0] 25))
  rw [hsz] at hrt
  have HD := Lib.hid (h5.below hb0)
  have HB := Lib.hid hb0
  have HX := Lib.hid hx
  have HZ := Lib.hid hz
  have HRT := Lib.hid hrt
  have hszz := (by simp : (((w.alloc (.cells #[.int .i64 xk, .int .i64 xf, .int .i64 xt, .int .i64 xg, .int .i64 xh, .int .i64 xi, .int .i64 xm, .int .i64 xv, .slice A n c, .slice B m d] 25)).alloc (.cells #[.int .i64 0, .int .i64 0, .int .i64 0, .int .i64 0, .int .i64 0, .int .i64 0, .int .i64 0, .int .i64 0, .slice none 0 0, .slice none 0 0] 25)).alloc (.cells #[.slice none 0 0, .map none] 35)).heap.size = w.heap.size + 3)
  clear hb0 hb2 hx hz hrt
  go_enter Try.func18, Try.ntmps18
  go_wp2_with fail
  refine (CA (w.heap.size + 2) _ HRT.out HD.out).mono ?_
  rintro e w1 ⟨hadd, hf⟩
  have hfb := hf.below
  have HB1 := Lib.hid (HB.out.trans (hfb.mono (by omega)))
  have HX1 : Hid (w1.heap[w.heap.size]? = some (.cells #[.int .i64 xk, .int .i64 xf, .int .i64 xt, .int .i64 xg, .int .i64 xh, .int .i64 xi, .int .i64 xm, .int .i64 xv, .slice A n c, .slice B m d] 25)) := Lib.hid (by rw [hfb.block _ (by omega)]; exact HX.out)
  have HZ1 : Hid (w1.heap[w.heap.size + 1]? = some (.cells #[.int .i64 0, .int .i64 0, .int .i64 0, .int .i64 0, .int .i64 0, .int .i64 0, .int .i64 0, .int .i64 0, .slice none 0 0, .slice none 0 0] 25)) := Lib.hid (by rw [hfb.block _ (by omega)]; exact HZ.out)
  have HL1 := Lib.hid (h1.below HB1.out)
  have HS1 := Lib.hid (h3.below HB1.out)
  have hs1 := hfb.size
  rw [hszz] at hs1
  clear HB HX HZ HRT HD CA hfb hf h1 h3 h5 hsz hszz
  rcases hadd with ⟨hr, rfl, v', vs', hrt⟩ | ⟨hr, rfl, hrt⟩
  · rw [List.nil_append] at hrt
    simp only [hr, Bool.true_and] at HE
    have CTT := CT _ _ _ _ _ hr _ hrt HL1.out HS1.out
    clear CT hr hrt HL1 HS1
    obtain ⟨⟨y0, y1, y2, y3, y4⟩, y5, y6, y7, y8, y9⟩ := tenc HX1.out
    go_wp2_with fail
    refine CTT.mono ?_
    rintro e w2 ⟨he, hb2⟩
    have HB2 := Lib.hid (HB1.out.trans (hb2.mono HB1.out.size))
    have HZ2 := Lib.hid (hkeep hb2 HZ1.out)
    clear hb2 HB1 HX1 HZ1 CTT y0 y1 y2 y3 y4 y5 y6 y7 y8 y9
    rcases he with ⟨rfl, s, t, rfl, hs, ht⟩ | ⟨rfl, rfl⟩
    · skip
      obtain ⟨As, cs, rfl⟩ := hs.form
      obtain ⟨At, ct, rfl⟩ := ht.form
      have HT5 := Lib.hid (tks_put10 (hs.lower (base' := w.heap.size + 2) (by omega)) (B := w.heap.size + 1) (by omega) (.int .i64 yk) (.int .i64 yf) (.int .i64 yt) (.int .i64 yg) (.int .i64 yh) (.int .i64 yi) (.int .i64 ym) (.int .i64 yv) (.slice As L.length cs) (.slice At S.length ct))
      have HM5 := Lib.hid (mks_put10 (ht.lower (base' := w.heap.size + 2) (by omega)) (B := w.heap.size + 1) (by omega) (.int .i64 yk) (.int .i64 yf) (.int .i64 yt) (.int .i64 yg) (.int .i64 yh) (.int .i64 yi) (.int .i64 ym) (.int .i64 yv) (.slice As L.length cs) (.slice At S.length ct))
      clear hs ht
      obtain ⟨⟨z0, z1, z2, z3, z4⟩, z5, z6, z7, z8, z9⟩ := tenc HZ2.out
      obtain ⟨f0, f1, f2, f3, f4, f5, f6, f7, f8, f9⟩ := froz HZ2.out
      go_wp2
      clear z0 z1 z2 z3 z4 z5 z6 z7 z8 z9 f0 f1 f2 f3 f4 f5 f6 f7 f8 f9
      have hT := HT5.out.lower (base' := w.heap.size) (by omega)
      have hM := HM5.out.lower (base' := w.heap.size) (by omega)
      unfold put10 at hT hM
      have hF := tenc (put10_at HZ2.out (.int .i64 yk) (.int .i64 yf) (.int .i64 yt) (.int .i64 yg) (.int .i64 yh) (.int .i64 yi) (.int .i64 ym) (.int .i64 yv) (.slice As L.length cs) (.slice At S.length ct))
      have hB10 := put10_below HB2.out (B := w.heap.size + 1) (by omega) (.int .i64 yk) (.int .i64 yf) (.int .i64 yt) (.int .i64 yg) (.int .i64 yh) (.int .i64 yi) (.int .i64 ym) (.int .i64 yv) (.slice As L.length cs) (.slice At S.length ct)
      obtain ⟨⟨r0, r1, r2, r3, r4⟩, r5, r6, r7, r8, r9⟩ := hF
      unfold put10 at r0 r1 r2 r3 r4 r5 r6 r7 r8 r9 hB10
      refine bodyPost_ret (v := .tuple #[.agg #[.int .i64 yk, .int .i64 yf, .int .i64 yt, .int .i64 yg, .int .i64 yh, .int .i64 yi, .int .i64 ym, .int .i64 yv, .slice As L.length cs, .slice At S.length ct], .bool true]) ?_ rfl ((HE.out _ _).2 ⟨.inl ⟨by simp, _, _, rfl, hT, hM⟩, hB10⟩)
      simp [results, Try.results18, go_sem, r0, r1, r2, r3, r4, r5, r6, r7, r8, r9]
    · skip
      obtain ⟨⟨z0, z1, z2, z3, z4⟩, z5, z6, z7, z8, z9⟩ := tenc HZ2.out
      obtain ⟨f0, f1, f2, f3, f4, f5, f6, f7, f8, f9⟩ := froz HZ2.out
      go_wp2
      clear z0 z1 z2 z3 z4 z5 z6 z7 z8 z9 f0 f1 f2 f3 f4 f5 f6 f7 f8 f9
      have hF := tenc (put10_at HZ2.out (.int .i64 0) (.int .i64 0) (.int .i64 0) (.int .i64 0) (.int .i64 0) (.int .i64 0) (.int .i64 0) (.int .i64 0) (.slice none 0 0) (.slice none 0 0))
      have hB10 := put10_below HB2.out (B := w.heap.size + 1) (by omega) (.int .i64 0) (.int .i64 0) (.int .i64 0) (.int .i64 0) (.int .i64 0) (.int .i64 0) (.int .i64 0) (.int .i64 0) (.slice none 0 0) (.slice none 0 0)
      obtain ⟨⟨r0, r1, r2, r3, r4⟩, r5, r6, r7, r8, r9⟩ := hF
      unfold put10 at r0 r1 r2 r3 r4 r5 r6 r7 r8 r9 hB10
      refine bodyPost_ret (v := .tuple #[.agg #[.int .i64 0, .int .i64 0, .int .i64 0, .int .i64 0, .int .i64 0, .int .i64 0, .int .i64 0, .int .i64 0, .slice none 0 0, .slice none 0 0], .bool false]) ?_ rfl ((HE.out _ _).2 ⟨.inr ⟨by simp, rfl⟩, hB10⟩)
      simp [results, Try.results18, go_sem, r0, r1, r2, r3, r4, r5, r6, r7, r8, r9]
  · simp only [hr, Bool.false_and] at HE
    clear CT hr hrt HL1 HS1 HX1
    obtain ⟨⟨z0, z1, z2, z3, z4⟩, z5, z6, z7, z8, z9⟩ := tenc HZ1.out
    obtain ⟨f0, f1, f2, f3, f4, f5, f6, f7, f8, f9⟩ := froz HZ1.out
    go_wp2
    clear z0 z1 z2 z3 z4 z5 z6 z7 z8 z9 f0 f1 f2 f3 f4 f5 f6 f7 f8 f9
    have hF := tenc (put10_at HZ1.out (.int .i64 0) (.int .i64 0) (.int .i64 0) (.int .i64 0) (.int .i64 0) (.int .i64 0) (.int .i64 0) (.int .i64 0) (.slice none 0 0) (.slice none 0 0))
    have hB10 := put10_below HB1.out (B := w.heap.size + 1) (by omega) (.int .i64 0) (.int .i64 0) (.int .i64 0) (.int .i64 0) (.int .i64 0) (.int .i64 0) (.int .i64 0) (.int .i64 0) (.slice none 0 0) (.slice none 0 0)
    obtain ⟨⟨r0, r1, r2, r3, r4⟩, r5, r6, r7, r8, r9⟩ := hF
    unfold put10 at r0 r1 r2 r3 r4 r5 r6 r7 r8 r9 hB10
    refine bodyPost_ret (v := .tuple #[.agg #[.int .i64 0, .int .i64 0, .int .i64 0, .int .i64 0, .int .i64 0, .int .i64 0, .int .i64 0, .int .i64 0, .slice none 0 0, .slice none 0 0], .bool false]) ?_ rfl ((HE.out _ _).2 ⟨.inr ⟨by simp, rfl⟩, hB10⟩)
    simp [results, Try.results18, go_sem, r0, r1, r2, r3, r4, r5, r6, r7, r8, r9]
/-- past another step -/
noncomputable def pastB (y x : Sp) (k n m k2 : Nat) : Bool := shapeB y k k2 && overB (mapS y k) x n m
def PastIs (y x : Sp) (k k2 : Nat) (L : List Tk.Tk) (S : List Mk) (n m : Nat) (w : World) (e : Ending) (w' : World) : Prop :=
  ((pastB y x k n m k2 = true ∧ ∃ s t, e = .returned (.tuple #[stV (goneN (goT [mapS y k] []) x) s t, .bool true]) ∧ Tks w.heap.size w' s L ∧ Mks w.heap.size w' t S) ∨
   (pastB y x k n m k2 = false ∧ e = .returned (.tuple #[zeroV, .bool false]))) ∧ Below w.heap.size w w'
theorem mapS_length (x : Sp) (n : Nat) : (mapS x n).length ≤ 2 := by
  unfold mapS
  split
  · simp
  · split
    · split <;> simp
    · simp
theorem shape_rg {W : World} {base : Nat} {v : Value} {l : List Rg} (h : Rgs base W v l) : ∃ A c, v = .slice A l.length c ∧ RRow W A l.length l := by
  obtain ⟨A, c, e, _, hr⟩ := h.row
  exact ⟨A, c, e, hr⟩
set_option maxRecDepth 100000 in
set_option maxHeartbeats 8000000 in
theorem past_any (x y : Sp) (L K' : List Tk.Tk) (S T' : List Mk) (A A' B B' : Option Addr) (n n' m m' c c' d d' : Nat) (w : World) (hn : n ≤ 1000000) (hn' : n' ≤ 1000000) (hm : m ≤ 1000000) (hm' : m' ≤ 1000000)
    (h1 : TRow w A n L) (h2 : TRow w A' n' K') (h3 : MkRow w B m S) (h4 : MkRow w B' m' T') :
    Calls Try.prog 20 #[stV x (.slice A n c) (.slice B m d), stV y (.slice A' n' c') (.slice B' m' d')] w (PastIs y x n' m' L S n m w) := by
  have CS := fun W q1 q2 => shape_any y K' T' A' B' n' m' c' d' W (by omega) (by omega) q1 q2
  have CM := fun W q1 q2 => map_any y K' T' A' B' n' m' c' d' W hn' hm' q1 q2
  have CO := fun D k cd W q1 q2 hk q3 => over_any (mapS y n') D k cd x L S A B n m c d W hn hm q1 q2 hk q3
  have hml := mapS_length y n'
  obtain ⟨E, hE⟩ : ∃ E : Ending → World → Prop, E = PastIs y x n' m' L S n m w := ⟨_, rfl⟩
  rw [← hE]
  have HE : Hid (∀ e w', E e w' ↔ PastIs y x n' m' L S n m w e w') := Lib.hid (fun e w' => by rw [hE])
  clear hE
  unfold PastIs pastB at HE
  unfold OverIs at CO
  obtain ⟨F, hF⟩ : ∃ F, F = shapeB y n' m' := ⟨_, rfl⟩
  obtain ⟨M, hM⟩ : ∃ F, F = mapS y n' := ⟨_, rfl⟩
  simp only [← hF, ← hM] at CS CM CO HE hml
  clear hF hM
  obtain ⟨G, hG⟩ : ∃ F, F = overB M x n m := ⟨_, rfl⟩
  obtain ⟨Q, hQ⟩ : ∃ F, F = goneN (goT [M] []) x := ⟨_, rfl⟩
  simp only [← hG, ← hQ] at CO HE
  clear hG hQ
  obtain ⟨xk, xf, xt, xg, xh, xi, xm, xv⟩ := x
  obtain ⟨yk, yf, yt, yg, yh, yi, ym, yv⟩ := y
  obtain ⟨qk, qf, qt, qg, qh, qi, qm, qv⟩ := Q
  unfold stV stC at CS CM CO HE
  unfold stV stC
  simp only at CS CM CO HE ⊢
  have hb1 := ((Below.refl _ w).alloc (Nat.le_refl _) (.cells #[.int .i64 xk, .int .i64 xf, .int .i64 xt, .int .i64 xg, .int .i64 xh, .int .i64 xi, .int .i64 xm, .int .i64 xv, .slice A n c, .slice B m d] 25)).alloc (by simp) (.cells #[.int .i64 yk, .int .i64 yf, .int .i64 yt, .int .i64 yg, .int .i64 yh, .int .i64 yi, .int .i64 ym, .int .i64 yv, .slice A' n' c', .slice B' m' d'] 25)
  have hsz : ((w.alloc (.cells #[.int .i64 xk, .int .i64 xf, .int .i64 xt, .int .i64 xg, .int .i64 xh, .int .i64 xi, .int .i64 xm, .int .i64 xv, .slice A n c, .slice B m d] 25)).alloc (.cells #[.int .i64 yk, .int .i64 yf, .int .i64 yt, .int .i64 yg, .int .i64 yh, .int .i64 yi, .int .i64 ym, .int .i64 yv, .slice A' n' c', .slice B' m' d'] 25)).heap.size = w.heap.size + 2 := by simp
  have hb0 := hb1.alloc (by omega) (.cells #[.int .i64 0, .int .i64 0, .int .i64 0, .int .i64 0, .int .i64 0, .int .i64 0, .int .i64 0, .int .i64 0, .slice none 0 0, .slice none 0 0] 25)
  have hx : (((w.alloc (.cells #[.int .i64 xk, .int .i64 xf, .int .i64 xt, .int .i64 xg, .int .i64 xh, .int .i64 xi, .int .i64 xm, .int .i64 xv, .slice A n c, .slice B m d] 25)).alloc (.cells #[.int .i64 yk, .int .i64 yf, .int .i64 yt, .int .i64 yg, .int .i64 yh, .int .i64 yi, .int .i64 ym, .int .i64 yv, .slice A' n' c', .slice B' m' d'] 25)).alloc (.cells #[.int .i64 0, .int .i64 0, .int .i64 0, .int .i64 0, .int .i64 0, .int .i64 0, .int .i64 0, .int .i64 0, .slice none 0 0, .slice none 0 0] 25)).heap[w.heap.size]? = some (.cells #[.int .i64 xk, .int .i64 xf, .int .i64 xt, .int .i64 xg, .int .i64 xh, .int .i64 xi, .int .i64 xm, .int .i64 xv, .slice A n c, .slice B m d] 25) := by rw [Below.heap_alloc _ _ _ (by omega), Below.heap_alloc _ _ _ (by simp), heap_alloc_new]
  have hy : (((w.alloc (.cells #[.int .i64 xk, .int .i64 xf, .int .i64 xt, .int .i64 xg, .int .i64 xh, .int .i64 xi, .int .i64 xm, .int .i64 xv, .slice A n c, .slice B m d] 25)).alloc (.cells #[.int .i64 yk, .int .i64 yf, .int .i64 yt, .int .i64 yg, .int .i64 yh, .int .i64 yi, .int .i64 ym, .int .i64 yv, .slice A' n' c', .slice B' m' d'] 25)).alloc (.cells #[.int .i64 0, .int .i64 0, .int .i64 0, .int .i64 0, .int .i64 0, .int .i64 0, .int .i64 0, .int .i64 0, .slice none 0 0, .slice none 0 0] 25)).heap[w.heap.size + 1]? = some (.cells #[.int .i64 yk, .int .i64 yf, .int .i64 yt, .int .i64 yg, .int .i64 yh, .int .i64 yi, .int .i64 ym, .int .i64 yv, .slice A' n' c', .slice B' m' d'] 25) := by
    have := heap_alloc_new (w.alloc (.cells #[.int .i64 xk, .int .i64 xf, .int .i64 xt, .int .i64 xg, .int .i64 xh, .int .i64 xi, .int .i64 xm, .int .i64 xv, .slice A n c, .slice B m d] 25)) (.cells #[.int .i64 yk, .int .i64 yf, .int .i64 yt, .int .i64 yg, .int .i64 yh, .int .i64 yi, .int .i64 ym, .int .i64 yv, .slice A' n' c', .slice B' m' d'] 25)
    rw [show (w.alloc (.cells #[.int .i64 xk, .int .i64 xf, .int .i64 xt, .int .i64 xg, .int .i64 xh, .int .i64 xi, .int .i64 xm, .int .i64 xv, .slice A n c, .slice B m d] 25)).heap.size = w.heap.size + 1 by simp] at this
    rw [Below.heap_alloc _ _ _ (by omega)]; exact this
  have hz := heap_alloc_new ((w.alloc (.cells #[.int .i64 xk, .int .i64 xf, .int .i64 xt, .int .i64 xg, .int .i64 xh, .int .i64 xi, .int .i64 xm, .int .i64 xv, .slice A n c, .slice B m d] 25)).alloc (.cells #[.int .i64 yk, .int .i64 yf, .int .i64 yt, .int .i64 yg, .int .i64 yh, .int .i64 yi, .int .i64 ym, .int .i64 yv, .slice A' n' c', .slice B' m' d'] 25)) (.cells #[.int .i64 0, .int .i64 0, .int .i64 0, .int .i64 0, .int .i64 0, .int .i64 0, .int .i64 0, .int .i64 0, .slice none 0 0, .slice none 0 0] 25)
  rw [hsz] at hz
  have HL := Lib.hid (h1.below hb0)
  have HK := Lib.hid (h2.below hb0)
  have HS := Lib.hid (h3.below hb0)
  have HT := Lib.hid (h4.below hb0)
  have HB := Lib.hid hb0
  have HX := Lib.hid hx
  have HY := Lib.hid hy
  have HZ := Lib.hid hz
  obtain ⟨⟨y0, y1, y2, y3, y4⟩, y5, y6, y7, y8, y9⟩ := tenc hy
  clear hb0 hb1 hx hy hz h1 h2 h3 h4 hsz
  go_enter Try.func20, Try.ntmps20
  go_wp2_with fail
  refine (CS _ HK.out HT.out).mono ?_
  rintro e w1 ⟨rfl, hb1⟩
  have HB1 := Lib.hid (HB.out.trans (hb1.mono HB.out.size))
  have HX1 := Lib.hid (hkeep hb1 HX.out)
  have HY1 := Lib.hid (hkeep hb1 HY.out)
  have HZ1 := Lib.hid (hkeep hb1 HZ.out)
  have HL1 := Lib.hid (HL.out.below hb1)
  have HK1 := Lib.hid (HK.out.below hb1)
  have HS1 := Lib.hid (HS.out.below hb1)
  have HT1 := Lib.hid (HT.out.below hb1)
  clear hb1 HB HX HY HZ HL HK HS HT CS y0 y1 y2 y3 y4 y5 y6 y7 y8 y9
  cases F with
  | false =>
    simp only [Bool.false_and] at HE
    clear CM CO HX1 HY1 HL1 HK1 HS1 HT1
    obtain ⟨⟨z0, z1, z2, z3, z4⟩, z5, z6, z7, z8, z9⟩ := tenc HZ1.out
    obtain ⟨f0, f1, f2, f3, f4, f5, f6, f7, f8, f9⟩ := froz HZ1.out
    go_wp2
    clear z0 z1 z2 z3 z4 z5 z6 z7 z8 z9 f0 f1 f2 f3 f4 f5 f6 f7 f8 f9
    have hF := tenc (put10_at HZ1.out (.int .i64 0) (.int .i64 0) (.int .i64 0) (.int .i64 0) (.int .i64 0) (.int .i64 0) (.int .i64 0) (.int .i64 0) (.slice none 0 0) (.slice none 0 0))
    have hB10 := put10_below HB1.out (B := w.heap.size + 2) (by omega) (.int .i64 0) (.int .i64 0) (.int .i64 0) (.int .i64 0) (.int .i64 0) (.int .i64 0) (.int .i64 0) (.int .i64 0) (.slice none 0 0) (.slice none 0 0)
    obtain ⟨⟨r0, r1, r2, r3, r4⟩, r5, r6, r7, r8, r9⟩ := hF
    unfold put10 at r0 r1 r2 r3 r4 r5 r6 r7 r8 r9 hB10
    refine bodyPost_ret (v := .tuple #[.agg #[.int .i64 0, .int .i64 0, .int .i64 0, .int .i64 0, .int .i64 0, .int .i64 0, .int .i64 0, .int .i64 0, .slice none 0 0, .slice none 0 0], .bool false]) ?_ rfl ((HE.out _ _).2 ⟨.inr ⟨by simp, rfl⟩, hB10⟩)
    simp [results, Try.results20, go_sem, r0, r1, r2, r3, r4, r5, r6, r7, r8, r9]
  | true =>
    simp only [Bool.true_and] at HE
    simp only [if_true] at CM
    go_upto_region 3 with fail
    refine wp_region_held_drew (S := fun W => W.heap[w.heap.size]? = some (.cells #[.int .i64 xk, .int .i64 xf, .int .i64 xt, .int .i64 xg, .int .i64 xh, .int .i64 xi, .int .i64 xm, .int .i64 xv, .slice A n c, .slice B m d] 25) ∧ W.heap[w.heap.size + 1]? = some (.cells #[.int .i64 yk, .int .i64 yf, .int .i64 yt, .int .i64 yg, .int .i64 yh, .int .i64 yi, .int .i64 ym, .int .i64 yv, .slice A' n' c', .slice B' m' d'] 25)) (by kernel_rfl) ⟨HX1.out, HY1.out⟩ (fun hHeld => ?_)
    have HB2 : Hid (Below w.heap.size w w1.drew) := Lib.hid (below_drewN HB1.out 1)
    have HZ2 : Hid (w1.drew.heap[w.heap.size + 2]? = some (.cells #[.int .i64 0, .int .i64 0, .int .i64 0, .int .i64 0, .int .i64 0, .int .i64 0, .int .i64 0, .int .i64 0, .slice none 0 0, .slice none 0 0] 25)) := HZ1
    have HL2 : Hid (TRow w1.drew A n L) := HL1
    have HK2 : Hid (TRow w1.drew A' n' K') := HK1
    have HS2 : Hid (MkRow w1.drew B m S) := HS1
    have HT2 : Hid (MkRow w1.drew B' m' T') := HT1
    clear HB1 HX1 HY1 HZ1 HL1 HK1 HS1 HT1
    generalize w1.drew = W2 at HB2 HZ2 HL2 HK2 HS2 HT2 hHeld ⊢
    refine tk 0 (v := ?_) rfl (by kernel_rfl) (fun _ _ _ h => h) ?_ hHeld ?_
    rotate_left
    · (intro W hSw; (try dsimp only at hSw); obtain ⟨hs1, hs2⟩ := hSw; obtain ⟨⟨y0, y1, y2, y3, y4⟩, y5, y6, y7, y8, y9⟩ := tenc hs1; obtain ⟨⟨z0, z1, z2, z3, z4⟩, z5, z6, z7, z8, z9⟩ := tenc hs2; go_simp; try with_reducible rfl)
    refine tk 1 (v := ?_) rfl (by kernel_rfl) (fun _ _ _ h => h) ?_ hHeld ?_
    rotate_left
    · (intro W hSw; (try dsimp only at hSw); obtain ⟨hs1, hs2⟩ := hSw; obtain ⟨⟨y0, y1, y2, y3, y4⟩, y5, y6, y7, y8, y9⟩ := tenc hs1; obtain ⟨⟨z0, z1, z2, z3, z4⟩, z5, z6, z7, z8, z9⟩ := tenc hs2; go_simp; try with_reducible rfl)
    refine wpAnyH_ready (rs := [2]) (by kernel_rfl) (by simp) ?_
    refine AllReadyH.cons rfl (fun K hK => ?_) AllReadyH.nil
    go_simp
    refine (CM _ HK2.out HT2.out).mono ?_
    rintro e w3 ⟨v, rfl, hv, hb3⟩
    obtain ⟨D, cd, rfl, hd⟩ := shape_rg hv
    have HB3 := Lib.hid (HB2.out.trans (hb3.mono HB2.out.size))
    have HZ3 := Lib.hid (hkeep hb3 HZ2.out)
    have HL3 := Lib.hid (HL2.out.below hb3)
    have HS3 := Lib.hid (HS2.out.below hb3)
    have hS3 := And.intro (hkeep hb3 hHeld.1) (hkeep hb3 hHeld.2)
    have HD := Lib.hid hd
    clear hb3 HB2 HZ2 HL2 HS2 HK2 HT2 CM hv hd hHeld
    go_wp2_with fail
    refine hK.out _ _ hS3 (fun hHeld => ?_)
    clear hK K hS3
    refine wpAnyH_ready (rs := [3]) (by kernel_rfl) (by simp) ?_
    refine AllReadyH.cons rfl (fun K hK => ?_) AllReadyH.nil
    go_simp
    refine (CO D _ cd _ HL3.out HS3.out (by omega) HD.out).mono ?_
    rintro e w4 ⟨he, hb4⟩
    have HB4 := Lib.hid (HB3.out.trans (hb4.mono HB3.out.size))
    have HZ4 := Lib.hid (hkeep hb4 HZ3.out)
    have hsz := lt_some HZ3.out
    have hS4 := And.intro (hkeep hb4 hHeld.1) (hkeep hb4 hHeld.2)
    clear hb4 HB3 HZ3 HL3 HS3 HD CO hHeld
    rcases he with ⟨rfl, s, t, rfl, hs, ht⟩ | ⟨rfl, rfl⟩
    · obtain ⟨As, cs, rfl⟩ := hs.form
      obtain ⟨At, ct, rfl⟩ := ht.form
      have HTT := Lib.hid (tks_put10 (hs.lower (base' := w.heap.size + 3) (by omega)) (B := w.heap.size + 2) (by omega) (.int .i64 qk) (.int .i64 qf) (.int .i64 qt) (.int .i64 qg) (.int .i64 qh) (.int .i64 qi) (.int .i64 qm) (.int .i64 qv) (.slice As L.length cs) (.slice At S.length ct))
      have HMM := Lib.hid (mks_put10 (ht.lower (base' := w.heap.size + 3) (by omega)) (B := w.heap.size + 2) (by omega) (.int .i64 qk) (.int .i64 qf) (.int .i64 qt) (.int .i64 qg) (.int .i64 qh) (.int .i64 qi) (.int .i64 qm) (.int .i64 qv) (.slice As L.length cs) (.slice At S.length ct))
      clear hs ht
      go_wp2_with fail
      refine hK.out _ _ hS4 (fun hHeld => ?_)
      clear hK K hS4
      refine tk 4 (v := ?_) rfl (by kernel_rfl) (fun _ _ _ h => h) ?_ hHeld ?_
      rotate_left
      · (intro W hSw; (try dsimp only at hSw); obtain ⟨hs1, hs2⟩ := hSw; obtain ⟨⟨y0, y1, y2, y3, y4⟩, y5, y6, y7, y8, y9⟩ := tenc hs1; obtain ⟨⟨z0, z1, z2, z3, z4⟩, z5, z6, z7, z8, z9⟩ := tenc hs2; go_simp; try with_reducible rfl)
      refine tk 5 (v := ?_) rfl (by kernel_rfl) (fun _ _ _ h => h) ?_ hHeld ?_
      rotate_left
      · (intro W hSw; (try dsimp only at hSw); obtain ⟨hs1, hs2⟩ := hSw; obtain ⟨⟨y0, y1, y2, y3, y4⟩, y5, y6, y7, y8, y9⟩ := tenc hs1; obtain ⟨⟨z0, z1, z2, z3, z4⟩, z5, z6, z7, z8, z9⟩ := tenc hs2; go_simp; try with_reducible rfl)
      refine wpAnyH_ready (rs := [6]) (by kernel_rfl) (by simp) ?_
      refine AllReadyH.cons rfl (fun K hK => ?_) AllReadyH.nil
      have hz := tenc HZ4.out
      have z0 := hz.1.1
      have z1 := hz.1.2.1
      have z2 := hz.1.2.2.1
      have z3 := hz.1.2.2.2.1
      have z4 := hz.1.2.2.2.2
      have z5 := hz.2.1
      have z6 := hz.2.2.1
      have z7 := hz.2.2.2.1
      have z8 := hz.2.2.2.2.1
      have z9 := hz.2.2.2.2.2
      have hf := froz HZ4.out
      have f0 := hf.1
      have f1 := hf.2.1
      have f2 := hf.2.2.1
      have f3 := hf.2.2.2.1
      have f4 := hf.2.2.2.2.1
      have f5 := hf.2.2.2.2.2.1
      have f6 := hf.2.2.2.2.2.2.1
      have f7 := hf.2.2.2.2.2.2.2.1
      have f8 := hf.2.2.2.2.2.2.2.2.1
      have f9 := hf.2.2.2.2.2.2.2.2.2
      clear hz hf
      go_simp
      have hS8 := And.intro ((put10_else (B := w.heap.size + 2) (k := w.heap.size) (.int .i64 qk) (.int .i64 qf) (.int .i64 qt) (.int .i64 qg) (.int .i64 qh) (.int .i64 qi) (.int .i64 qm) (.int .i64 qv) (.slice As L.length cs) (.slice At S.length ct) (by omega)).trans hHeld.1) ((put10_else (B := w.heap.size + 2) (k := w.heap.size + 1) (.int .i64 qk) (.int .i64 qf) (.int .i64 qt) (.int .i64 qg) (.int .i64 qh) (.int .i64 qi) (.int .i64 qm) (.int .i64 qv) (.slice As L.length cs) (.slice At S.length ct) (by omega)).trans hHeld.2)
      have hZ8 := put10_at HZ4.out (.int .i64 qk) (.int .i64 qf) (.int .i64 qt) (.int .i64 qg) (.int .i64 qh) (.int .i64 qi) (.int .i64 qm) (.int .i64 qv) (.slice As L.length cs) (.slice At S.length ct)
      have hB8 := put10_below HB4.out (B := w.heap.size + 2) (by omega) (.int .i64 qk) (.int .i64 qf) (.int .i64 qt) (.int .i64 qg) (.int .i64 qh) (.int .i64 qi) (.int .i64 qm) (.int .i64 qv) (.slice As L.length cs) (.slice At S.length ct)
      have hT8 := HTT.out.lower (base' := w.heap.size) (by omega)
      have hM8 := HMM.out.lower (base' := w.heap.size) (by omega)
      unfold put10 at hT8 hM8
      have HT8 := Lib.hid hT8
      have HM8 := Lib.hid hM8
      clear HTT HMM hT8 hM8
      unfold put10 at hS8 hZ8 hB8
      have HB8 := Lib.hid hB8
      have HZ8 := Lib.hid hZ8
      refine hK.out _ _ hS8 (fun hHeld => ?_)
      clear z0 z1 z2 z3 z4 z5 z6 z7 z8 z9 f0 f1 f2 f3 f4 f5 f6 f7 f8 f9
      clear hK K hS8 hZ8 hB8 HZ4 HB4
      generalize World.setCell _ _ _ = W8 at *
      refine wpAnyH_ready (rs := [7]) (by kernel_rfl) (by simp) ?_
      refine AllReadyH.cons rfl (fun K hK => ?_) AllReadyH.nil
      go_simp
      refine hK.out _ _ hHeld (fun hHeld => ?_)
      clear hK K
      refine wpAnyH_done (by kernel_rfl) ?_ _
      obtain ⟨⟨z0, z1, z2, z3, z4⟩, z5, z6, z7, z8, z9⟩ := tenc HZ8.out
      go_wp2
      refine bodyPost_ret (v := .tuple #[.agg #[.int .i64 qk, .int .i64 qf, .int .i64 qt, .int .i64 qg, .int .i64 qh, .int .i64 qi, .int .i64 qm, .int .i64 qv, .slice As L.length cs, .slice At S.length ct], .bool true]) ?_ rfl ((HE.out _ _).2 ⟨.inl ⟨by simp, _, _, rfl, HT8.out, HM8.out⟩, HB8.out⟩)
      simp [results, Try.results20, go_sem, z0, z1, z2, z3, z4, z5, z6, z7, z8, z9]
    · go_wp2_with fail
      refine hK.out _ _ hS4 (fun hHeld => ?_)
      clear hK K hS4
      refine tk 4 (v := ?_) rfl (by kernel_rfl) (fun _ _ _ h => h) ?_ hHeld ?_
      rotate_left
      · (intro W hSw; (try dsimp only at hSw); obtain ⟨hs1, hs2⟩ := hSw; obtain ⟨⟨y0, y1, y2, y3, y4⟩, y5, y6, y7, y8, y9⟩ := tenc hs1; obtain ⟨⟨z0, z1, z2, z3, z4⟩, z5, z6, z7, z8, z9⟩ := tenc hs2; go_simp; try with_reducible rfl)
      refine tk 5 (v := ?_) rfl (by kernel_rfl) (fun _ _ _ h => h) ?_ hHeld ?_
      rotate_left
      · (intro W hSw; (try dsimp only at hSw); obtain ⟨hs1, hs2⟩ := hSw; obtain ⟨⟨y0, y1, y2, y3, y4⟩, y5, y6, y7, y8, y9⟩ := tenc hs1; obtain ⟨⟨z0, z1, z2, z3, z4⟩, z5, z6, z7, z8, z9⟩ := tenc hs2; go_simp; try with_reducible rfl)
      refine wpAnyH_ready (rs := [6]) (by kernel_rfl) (by simp) ?_
      refine AllReadyH.cons rfl (fun K hK => ?_) AllReadyH.nil
      have hz := tenc HZ4.out
      have z0 := hz.1.1
      have z1 := hz.1.2.1
      have z2 := hz.1.2.2.1
      have z3 := hz.1.2.2.2.1
      have z4 := hz.1.2.2.2.2
      have z5 := hz.2.1
      have z6 := hz.2.2.1
      have z7 := hz.2.2.2.1
      have z8 := hz.2.2.2.2.1
      have z9 := hz.2.2.2.2.2
      have hf := froz HZ4.out
      have f0 := hf.1
      have f1 := hf.2.1
      have f2 := hf.2.2.1
      have f3 := hf.2.2.2.1
      have f4 := hf.2.2.2.2.1
      have f5 := hf.2.2.2.2.2.1
      have f6 := hf.2.2.2.2.2.2.1
      have f7 := hf.2.2.2.2.2.2.2.1
      have f8 := hf.2.2.2.2.2.2.2.2.1
      have f9 := hf.2.2.2.2.2.2.2.2.2
      clear hz hf
      go_simp
      have hS8 := And.intro ((put10_else (B := w.heap.size + 2) (k := w.heap.size) (.int .i64 0) (.int .i64 0) (.int .i64 0) (.int .i64 0) (.int .i64 0) (.int .i64 0) (.int .i64 0) (.int .i64 0) (.slice none 0 0) (.slice none 0 0) (by omega)).trans hHeld.1) ((put10_else (B := w.heap.size + 2) (k := w.heap.size + 1) (.int .i64 0) (.int .i64 0) (.int .i64 0) (.int .i64 0) (.int .i64 0) (.int .i64 0) (.int .i64 0) (.int .i64 0) (.slice none 0 0) (.slice none 0 0) (by omega)).trans hHeld.2)
      have hZ8 := put10_at HZ4.out (.int .i64 0) (.int .i64 0) (.int .i64 0) (.int .i64 0) (.int .i64 0) (.int .i64 0) (.int .i64 0) (.int .i64 0) (.slice none 0 0) (.slice none 0 0)
      have hB8 := put10_below HB4.out (B := w.heap.size + 2) (by omega) (.int .i64 0) (.int .i64 0) (.int .i64 0) (.int .i64 0) (.int .i64 0) (.int .i64 0) (.int .i64 0) (.int .i64 0) (.slice none 0 0) (.slice none 0 0)
      unfold put10 at hS8 hZ8 hB8
      have HB8 := Lib.hid hB8
      have HZ8 := Lib.hid hZ8
      refine hK.out _ _ hS8 (fun hHeld => ?_)
      clear z0 z1 z2 z3 z4 z5 z6 z7 z8 z9 f0 f1 f2 f3 f4 f5 f6 f7 f8 f9
      clear hK K hS8 hZ8 hB8 HZ4 HB4
      generalize World.setCell _ _ _ = W8 at *
      refine wpAnyH_ready (rs := [7]) (by kernel_rfl) (by simp) ?_
      refine AllReadyH.cons rfl (fun K hK => ?_) AllReadyH.nil
      go_simp
      refine hK.out _ _ hHeld (fun hHeld => ?_)
      clear hK K
      refine wpAnyH_done (by kernel_rfl) ?_ _
      obtain ⟨⟨z0, z1, z2, z3, z4⟩, z5, z6, z7, z8, z9⟩ := tenc HZ8.out
      go_wp2
      refine bodyPost_ret (v := .tuple #[.agg #[.int .i64 0, .int .i64 0, .int .i64 0, .int .i64 0, .int .i64 0, .int .i64 0, .int .i64 0, .int .i64 0, .slice none 0 0, .slice none 0 0], .bool false]) ?_ rfl ((HE.out _ _).2 ⟨.inr ⟨by simp, rfl⟩, HB8.out⟩)
      simp [results, Try.results20, go_sem, z0, z1, z2, z3, z4, z5, z6, z7, z8, z9]
end Go.Proofs.Ytmhngehpddfccaa.St
namespace Go.Proofs.Ytmhngehpddfccaa.St
open Go.RowKit Mem Sm Tk Rt
set_option linter.unusedVariables false
set_option linter.unusedSimpArgs false
theorem rel_one (l : List Rg) : Rel [l] [-1] [] := by
  have := Rel.add (m := l) Rel.nil
  simpa [addO] using this
theorem xat_one {n₀ : Nat} {W : World} {D : Option Addr} {cd : Nat} {l : List Rg} (h : RLow n₀ W D l.length l) (hn : n₀ ≤ W.heap.size) :
    XAt n₀ W.heap.size ((W.alloc (.cells #[.slice D l.length cd] 39)).alloc (.cells #[.int .i64 (-1)] 3)) (.slice (some ⟨W.heap.size, 0, none⟩) 1 1) (.slice (some ⟨W.heap.size + 1, 0, none⟩) 1 1) [.slice D l.length cd] [l] [-1] := by
  have s1 : (W.alloc (.cells #[.slice D l.length cd] 39)).heap.size = W.heap.size + 1 := by simp
  have hb : Below W.heap.size W ((W.alloc (.cells #[.slice D l.length cd] 39)).alloc (.cells #[.int .i64 (-1)] 3)) := ((Below.refl _ W).alloc (Nat.le_refl _) _).alloc (by omega) _
  have h0 : ((W.alloc (.cells #[.slice D l.length cd] 39)).alloc (.cells #[.int .i64 (-1)] 3)).heap[W.heap.size]? = some (.cells #[.slice D l.length cd] 39 (0, 0)) := by rw [Below.heap_alloc _ _ _ (by omega), heap_alloc_new]
  have h1 := heap_alloc_new (W.alloc (.cells #[.slice D l.length cd] 39)) (.cells #[.int .i64 (-1)] 3)
  rw [s1] at h1
  refine ⟨?_, ?_, ?_⟩
  · exact ⟨rfl, .inr ⟨W.heap.size, 1, #[.slice D l.length cd], rfl, Nat.le_refl _, h0, (by first | exact Nat.le_refl _ | decide | simp), (by first | exact Nat.le_refl _ | decide | simp), rfl, rfl⟩⟩
  · intro i u m hu hm
    have hi : i = 0 := by
      rcases i with _ | i
      · rfl
      · simp at hu
    subst hi
    simp at hu hm
    subst hu hm
    exact ⟨D, cd, rfl, h.below hb hn⟩
  · exact ⟨rfl, .inr ⟨W.heap.size + 1, 1, #[.int .i64 (-1)], rfl, by omega, h1, (by first | exact Nat.le_refl _ | decide | simp), (by first | exact Nat.le_refl _ | decide | simp), rfl, rfl⟩⟩
def ROverIs (l : List Rg) (x : Sp) (A B : Option Addr) (n m c d : Nat) (e : Ending) : Prop :=
  (overB l x n m = true ∧ e = .returned (.tuple #[stV (goneN (goT [l] []) x) (.slice A n c) (.slice B m d), .bool true])) ∨
  (overB l x n m = false ∧ e = .returned (.tuple #[zeroV, .bool false]))
set_option maxRecDepth 100000 in
set_option maxHeartbeats 4000000 in
theorem rover_any (l : List Rg) (D : Option Addr) (k cd : Nat) (x : Sp) (A B : Option Addr) (n m c d : Nat) (w : World) (hn : n ≤ 1000000) (hm : m ≤ 1000000) (hk : k ≤ 100) (h5 : RRow w D k l) :
    Calls Try.prog 19 #[stV x (.slice A n c) (.slice B m d), .slice D k cd] w fun e w' => ROverIs l x A B n m c d e ∧ Below w.heap.size w w' := by
  have hkl : k = l.length := h5.1.symm
  subst hkl
  have CR := fun W q => rright_any l D l.length cd W hk q
  have CT : ∀ (n₀ base : Nat) (A1 A2 : Option Addr) (n1 n2 c1 c2 : Nat) (vs : List Value) (hr : rightB l = true) (W : World), (XAt n₀ base W (.slice A1 n1 c1) (.slice A2 n2 c2) vs [l] [-1] ∧ n₀ ≤ W.heap.size) → _ := fun n₀ base A1 A2 n1 n2 c1 c2 vs hr W q => rthrough_any (tells_xt (n₀ := n₀) (base := base) (A1 := A1) (A2 := A2) (n1 := n1) (n2 := n2) (c1 := c1) (c2 := c2) (vs := vs) (M := [l]) (O := [-1]) (mir := []) (by simp) (fun m' hm' => by simp at hm'; subst hm'; exact ⟨hk, hr⟩) (rel_one l)) x A B n m c d W q hn hm
  obtain ⟨E, hE⟩ : ∃ E : Ending → Prop, E = ROverIs l x A B n m c d := ⟨_, rfl⟩
  rw [← hE]
  have HE : Hid (∀ e, E e ↔ ROverIs l x A B n m c d e) := Lib.hid (fun e => by rw [hE])
  clear hE
  unfold ROverIs overB at HE
  unfold RThIs at CT
  obtain ⟨F, hF⟩ : ∃ F, F = shiftB (goT [l] []) x n m := ⟨_, rfl⟩
  obtain ⟨Y, hY⟩ : ∃ F, F = goneN (goT [l] []) x := ⟨_, rfl⟩
  simp only [← hF, ← hY] at CT HE
  clear hF hY
  obtain ⟨xk, xf, xt, xg, xh, xi, xm, xv⟩ := x
  obtain ⟨yk, yf, yt, yg, yh, yi, ym, yv⟩ := Y
  unfold stV stC at CT HE
  unfold stV stC
  simp only at CT HE ⊢
  have hb0 := ((Below.refl _ w).alloc (Nat.le_refl _) (.cells #[.int .i64 xk, .int .i64 xf, .int .i64 xt, .int .i64 xg, .int .i64 xh, .int .i64 xi, .int .i64 xm, .int .i64 xv, .slice A n c, .slice B m d] 25)).alloc (by simp) (.cells #[.int .i64 0, .int .i64 0, .int .i64 0, .int .i64 0, .int .i64 0, .int .i64 0, .int .i64 0, .int .i64 0, .slice none 0 0, .slice none 0 0] 25)
  have hx : ((w.alloc (.cells #[.int .i64 xk, .int .i64 xf, .int .i64 xt, .int .i64 xg, .int .i64 xh, .int .i64 xi, .int .i64 xm, .int .i64 xv, .slice A n c, .slice B m d] 25)).alloc (.cells #[.int .i64 0, .int .i64 0, .int .i64 0, .int .i64 0, .int .i64 0, .int .i64 0, .int .i64 0, .int .i64 0, .slice none 0 0, .slice none 0 0] 25)).heap[w.heap.size]? = some (.cells #[.int .i64 xk, .int .i64 xf, .int .i64 xt, .int .i64 xg, .int .i64 xh, .int .i64 xi, .int .i64 xm, .int .i64 xv, .slice A n c, .slice B m d] 25) := by rw [Below.heap_alloc _ _ _ (by simp), heap_alloc_new]
  have hz := heap_alloc_new (w.alloc (.cells #[.int .i64 xk, .int .i64 xf, .int .i64 xt, .int .i64 xg, .int .i64 xh, .int .i64 xi, .int .i64 xm, .int .i64 xv, .slice A n c, .slice B m d] 25)) (.cells #[.int .i64 0, .int .i64 0, .int .i64 0, .int .i64 0, .int .i64 0, .int .i64 0, .int .i64 0, .int .i64 0, .slice none 0 0, .slice none 0 0] 25)
  rw [show (w.alloc (.cells #[.int .i64 xk, .int .i64 xf, .int .i64 xt, .int .i64 xg, .int .i64 xh, .int .i64 xi, .int .i64 xm, .int .i64 xv, .slice A n c, .slice B m d] 25)).heap.size = w.heap.size + 1 by simp] at hz
  have HB := Lib.hid hb0
  have HX := Lib.hid hx
  have HZ := Lib.hid hz
  have HD := Lib.hid (RLow.of (h5.below hb0))
  clear hb0 hx hz
  go_enter Try.func19, Try.ntmps19
  go_wp2_with fail
  refine (CR _ HD.out).mono ?_
  rintro e w1 ⟨rfl, hb1⟩
  have HB1 := Lib.hid (HB.out.trans (hb1.mono HB.out.size))
  have HX1 := Lib.hid (hkeep hb1 HX.out)
  have HZ1 := Lib.hid (hkeep hb1 HZ.out)
  have HD1 := Lib.hid ((HD.out.below hb1 (Nat.le_refl _)).lift hb1.size)
  clear hb1 HB HX HZ HD CR h5
  cases hr : rightB l with
  | false =>
    simp only [hr, Bool.false_and] at HE
    clear CT HX1 HD1
    obtain ⟨⟨z0, z1, z2, z3, z4⟩, z5, z6, z7, z8, z9⟩ := tenc HZ1.out
    obtain ⟨f0, f1, f2, f3, f4, f5, f6, f7, f8, f9⟩ := froz HZ1.out
    go_wp2
    clear z0 z1 z2 z3 z4 z5 z6 z7 z8 z9 f0 f1 f2 f3 f4 f5 f6 f7 f8 f9
    have hF := tenc (put10_at HZ1.out (.int .i64 0) (.int .i64 0) (.int .i64 0) (.int .i64 0) (.int .i64 0) (.int .i64 0) (.int .i64 0) (.int .i64 0) (.slice none 0 0) (.slice none 0 0))
    have hB10 := put10_below HB1.out (B := w.heap.size + 1) (by omega) (.int .i64 0) (.int .i64 0) (.int .i64 0) (.int .i64 0) (.int .i64 0) (.int .i64 0) (.int .i64 0) (.int .i64 0) (.slice none 0 0) (.slice none 0 0)
    obtain ⟨⟨r0, r1, r2, r3, r4⟩, r5, r6, r7, r8, r9⟩ := hF
    unfold put10 at r0 r1 r2 r3 r4 r5 r6 r7 r8 r9 hB10
    refine bodyPost_ret (v := .tuple #[.agg #[.int .i64 0, .int .i64 0, .int .i64 0, .int .i64 0, .int .i64 0, .int .i64 0, .int .i64 0, .int .i64 0, .slice none 0 0, .slice none 0 0], .bool false]) ?_ rfl (⟨(HE.out _).2 (.inr ⟨by simp, rfl⟩), hB10⟩)
    simp [results, Try.results19, go_sem, r0, r1, r2, r3, r4, r5, r6, r7, r8, r9]
  | true =>
    simp only [hr, Bool.true_and] at HE
    have hXA := xat_one (cd := cd) HD1.out (Nat.le_refl _)
    have CTT := CT w1.heap.size w1.heap.size (some ⟨w1.heap.size, 0, none⟩) (some ⟨w1.heap.size + 1, 0, none⟩) 1 1 1 1 _ hr _ ⟨hXA, by simp; omega⟩
    have hbn : Below w1.heap.size w1 ((w1.alloc (.cells #[.slice D l.length cd] 39)).alloc (.cells #[.int .i64 (-1)] 3)) := ((Below.refl _ w1).alloc (Nat.le_refl _) _).alloc (by simp) _
    have HB2 := Lib.hid (HB1.out.trans (hbn.mono HB1.out.size))
    have HZ2 := Lib.hid (hkeep hbn HZ1.out)
    clear CT hXA HD1 HZ1 HB1 hbn hr
    obtain ⟨⟨y0, y1, y2, y3, y4⟩, y5, y6, y7, y8, y9⟩ := tenc HX1.out
    go_wp2_with fail
    refine CTT.mono ?_
    rintro e w2 ⟨he, hb2⟩
    have HB3 := Lib.hid (HB2.out.trans (hb2.mono HB2.out.size))
    have HZ3 := Lib.hid (hkeep hb2 HZ2.out)
    clear hb2 HB2 HZ2 HX1 CTT y0 y1 y2 y3 y4 y5 y6 y7 y8 y9
    obtain ⟨⟨z0, z1, z2, z3, z4⟩, z5, z6, z7, z8, z9⟩ := tenc HZ3.out
    obtain ⟨f0, f1, f2, f3, f4, f5, f6, f7, f8, f9⟩ := froz HZ3.out
    rcases he with ⟨rfl, rfl⟩ | ⟨rfl, rfl⟩
    · go_wp2
      clear z0 z1 z2 z3 z4 z5 z6 z7 z8 z9 f0 f1 f2 f3 f4 f5 f6 f7 f8 f9
      have hF := tenc (put10_at HZ3.out (.int .i64 yk) (.int .i64 yf) (.int .i64 yt) (.int .i64 yg) (.int .i64 yh) (.int .i64 yi) (.int .i64 ym) (.int .i64 yv) (.slice A n c) (.slice B m d))
      have hB10 := put10_below HB3.out (B := w.heap.size + 1) (by omega) (.int .i64 yk) (.int .i64 yf) (.int .i64 yt) (.int .i64 yg) (.int .i64 yh) (.int .i64 yi) (.int .i64 ym) (.int .i64 yv) (.slice A n c) (.slice B m d)
      obtain ⟨⟨r0, r1, r2, r3, r4⟩, r5, r6, r7, r8, r9⟩ := hF
      unfold put10 at r0 r1 r2 r3 r4 r5 r6 r7 r8 r9 hB10
      refine bodyPost_ret (v := .tuple #[.agg #[.int .i64 yk, .int .i64 yf, .int .i64 yt, .int .i64 yg, .int .i64 yh, .int .i64 yi, .int .i64 ym, .int .i64 yv, .slice A n c, .slice B m d], .bool true]) ?_ rfl (⟨(HE.out _).2 (.inl ⟨by simp, rfl⟩), hB10⟩)
      simp [results, Try.results19, go_sem, r0, r1, r2, r3, r4, r5, r6, r7, r8, r9]
    · go_wp2
      clear z0 z1 z2 z3 z4 z5 z6 z7 z8 z9 f0 f1 f2 f3 f4 f5 f6 f7 f8 f9
      have hF := tenc (put10_at HZ3.out (.int .i64 0) (.int .i64 0) (.int .i64 0) (.int .i64 0) (.int .i64 0) (.int .i64 0) (.int .i64 0) (.int .i64 0) (.slice none 0 0) (.slice none 0 0))
      have hB10 := put10_below HB3.out (B := w.heap.size + 1) (by omega) (.int .i64 0) (.int .i64 0) (.int .i64 0) (.int .i64 0) (.int .i64 0) (.int .i64 0) (.int .i64 0) (.int .i64 0) (.slice none 0 0) (.slice none 0 0)
      obtain ⟨⟨r0, r1, r2, r3, r4⟩, r5, r6, r7, r8, r9⟩ := hF
      unfold put10 at r0 r1 r2 r3 r4 r5 r6 r7 r8 r9 hB10
      refine bodyPost_ret (v := .tuple #[.agg #[.int .i64 0, .int .i64 0, .int .i64 0, .int .i64 0, .int .i64 0, .int .i64 0, .int .i64 0, .int .i64 0, .slice none 0 0, .slice none 0 0], .bool false]) ?_ rfl (⟨(HE.out _).2 (.inr ⟨by simp, rfl⟩), hB10⟩)
      simp [results, Try.results19, go_sem, r0, r1, r2, r3, r4, r5, r6, r7, r8, r9]
set_option maxRecDepth 100000 in
theorem few_any (x : Sp) (A B : Option Addr) (n m c d : Nat) (w : World) :
    Calls Try.prog 7 #[stV x (.slice A n c) (.slice B m d)] w fun e w' => e = .returned (.bool (decide (n ≤ 60) && decide (m ≤ 150))) ∧ Below w.heap.size w w' := by
  obtain ⟨xk, xf, xt, xg, xh, xi, xm, xv⟩ := x
  unfold stV stC
  simp only
  have HB := Lib.hid ((Below.refl _ w).alloc (Nat.le_refl _) (.cells #[.int .i64 xk, .int .i64 xf, .int .i64 xt, .int .i64 xg, .int .i64 xh, .int .i64 xi, .int .i64 xm, .int .i64 xv, .slice A n c, .slice B m d] 25))
  obtain ⟨⟨y0, y1, y2, y3, y4⟩, y5, y6, y7, y8, y9⟩ := tenc (heap_alloc_new w (.cells #[.int .i64 xk, .int .i64 xf, .int .i64 xt, .int .i64 xg, .int .i64 xh, .int .i64 xi, .int .i64 xm, .int .i64 xv, .slice A n c, .slice B m d] 25))
  by_cases h1 : (n : Int) ≤ 60
  · by_cases h2 : (m : Int) ≤ 150
    · go_enter Try.func7, Try.ntmps7
      go_wp2
      go_ret
      exact ⟨ret_bool (by simp; omega), HB.out⟩
    · go_enter Try.func7, Try.ntmps7
      go_wp2
      go_ret
      exact ⟨ret_bool (by simp; omega), HB.out⟩
  · go_enter Try.func7, Try.ntmps7
    go_wp2
    go_ret
    exact ⟨ret_bool (by simp; omega), HB.out⟩
end Go.Proofs.Ytmhngehpddfccaa.St
namespace Go.Proofs.Ytmhngehpddfccaa.St
open Go.RowKit Mem Sm Tk Rt
set_option linter.unusedVariables false
set_option linter.unusedSimpArgs false
theorem one_right {r : Rg} (h : r.fits) : rightB [r] = true := rightB_true (by
  intro i hi
  obtain rfl : i = 0 := by simpa using hi
  exact ⟨h, fun h => absurd h (by omega)⟩)
theorem goR_one {l : List Rg} {pos side : Int} (hr : rightB l = true) (hm : mayB pos = true) : goR [l] [] side 0 ⟨pos, false, false⟩ = some ⟨(tell l pos side).pos, (tell l pos side).gone, (tell l pos side).inside⟩ := by
  rw [goR_yes (by simp)]
  have hE : tellE l pos = 0 := by unfold tellE; rw [if_pos hr, if_pos hm]
  have hW : tellW l pos side = tell l pos side := by unfold tellW; rw [if_pos ⟨hr, hm⟩]
  have h0 : Rt.recR [l] [] ((0 : Nat) : Int) (tell l pos side) = (0, 0, false) := by unfold Rt.recR; simp [lk]
  simp only [show [l].getD 0 [] = l by rfl, hE, hW, h0, if_true]
  rw [if_neg (by simp), goR_no (by simp)]
  simp
def exP : List Rg := [⟨2, 0, 3⟩]
def exQ : List Rg := [⟨4, 9, 0⟩]
def exX : Sp := ⟨1, 5, 7, 0, 0, 0, 0, 0⟩
theorem exP_right : rightB exP = true := one_right (by unfold Rg.fits; simp)
theorem exQ_right : rightB exQ = true := one_right (by unfold Rg.fits; simp)
theorem exX_shape : shapeB exX 0 0 = true := shape_yes (by unfold boundP formP exX gapB markB; simp)
theorem exY_shape : shapeB ⟨1, 8, 10, 0, 0, 0, 0, 0⟩ 0 0 = true := shape_yes (by unfold boundP formP gapB markB; simp)
theorem exP_one : goT [exP] [] 5 1 = some ⟨8, false, false⟩ := by
  show goR [exP] [] 1 0 ⟨5, false, false⟩ = _
  rw [goR_one exP_right (by decide), show (tell exP 5 1).pos = 8 by decide, show (tell exP 5 1).gone = false by decide, show (tell exP 5 1).inside = false by decide]
theorem exP_two : goT [exP] [] 7 (-1) = some ⟨10, false, false⟩ := by
  show goR [exP] [] (-1) 0 ⟨7, false, false⟩ = _
  rw [goR_one exP_right (by decide), show (tell exP 7 (-1)).pos = 10 by decide, show (tell exP 7 (-1)).gone = false by decide, show (tell exP 7 (-1)).inside = false by decide]
theorem exQ_one : (goT [exQ] [] 5 1).isSome = true ∧ (endP (goT [exQ] [] 5 1)).inside = true := by
  have h : goT [exQ] [] 5 1 = _ := goR_one exQ_right (by decide)
  rw [h]
  exact ⟨rfl, by show (tell exQ 5 1).inside = true; decide⟩
theorem exQ_two : (goT [exQ] [] 7 (-1)).isSome = true ∧ (endP (goT [exQ] [] 7 (-1))).inside = true := by
  have h : goT [exQ] [] 7 (-1) = _ := goR_one exQ_right (by decide)
  rw [h]
  exact ⟨rfl, by show (tell exQ 7 (-1)).inside = true; decide⟩
theorem exP_N : goneN (goT [exP] []) exX = ⟨1, 8, 10, 0, 0, 0, 0, 0⟩ := by
  unfold goneN exX
  simp only [exP_one, exP_two]
  rfl
theorem exP_over : overB exP exX 0 0 = true := by
  unfold overB shiftB
  rw [exP_N, exY_shape, exX_shape, exP_right]
  unfold goneB exX
  simp only [exP_one, exP_two]
  rfl
theorem exQ_over : overB exQ exX 0 0 = false := by
  unfold overB shiftB goneB exX
  simp only [exQ_one.1, exQ_one.2, exQ_two.1, exQ_two.2]
  simp
set_option maxRecDepth 100000 in
set_option maxHeartbeats 4000000 in
theorem live_any (w : World) : Calls Try.prog 8 #[] w fun e w' => e = .returned (.bool true) ∧ Below w.heap.size w w' := by
  have CP := fun W D q => over_any exP D 1 1 exX [] [] none none 0 0 0 0 W (by omega) (by omega) TRow.nil MkRow.nil (by omega) q
  have CQ := fun W D q => over_any exQ D 1 1 exX [] [] none none 0 0 0 0 W (by omega) (by omega) TRow.nil MkRow.nil (by omega) q
  unfold OverIs at CP CQ
  simp only [exP_over, exQ_over, exP_N] at CP CQ
  unfold stV stC exX at CP CQ
  simp only at CP CQ
  have hb0 : Below w.heap.size w (w.alloc (.cells #[.int .i64 1, .int .i64 5, .int .i64 7, .int .i64 0, .int .i64 0, .int .i64 0, .int .i64 0, .int .i64 0, .slice none 0 0, .slice none 0 0] 25)) := (Below.refl _ w).alloc (Nat.le_refl _) _
  have hx := heap_alloc_new w (.cells #[.int .i64 1, .int .i64 5, .int .i64 7, .int .i64 0, .int .i64 0, .int .i64 0, .int .i64 0, .int .i64 0, .slice none 0 0, .slice none 0 0] 25)
  have HB := Lib.hid hb0
  have HX := Lib.hid hx
  have hd := rrow_one (w.alloc (.cells #[.int .i64 1, .int .i64 5, .int .i64 7, .int .i64 0, .int .i64 0, .int .i64 0, .int .i64 0, .int .i64 0, .slice none 0 0, .slice none 0 0] 25)) ⟨2, 0, 3⟩
  rw [show (w.alloc (.cells #[.int .i64 1, .int .i64 5, .int .i64 7, .int .i64 0, .int .i64 0, .int .i64 0, .int .i64 0, .int .i64 0, .slice none 0 0, .slice none 0 0] 25)).heap.size = w.heap.size + 1 by simp] at hd
  have HD := Lib.hid hd
  clear hd
  obtain ⟨⟨y0, y1, y2, y3, y4⟩, y5, y6, y7, y8, y9⟩ := tenc hx
  clear hb0 hx
  go_enter Try.func8, Try.ntmps8
  go_wp2_with fail
  refine (CP _ _ (by exact HD.out)).mono ?_
  rintro e w1 ⟨⟨_, s, t, rfl, hs, ht⟩ | ⟨h, _⟩, hb1⟩
  case inr => exact absurd h (by simp)
  obtain ⟨As, cs, rfl⟩ := hs.form
  obtain ⟨At, ct, rfl⟩ := ht.form
  have hbm := (Below.refl (w.alloc (.cells #[.int .i64 1, .int .i64 5, .int .i64 7, .int .i64 0, .int .i64 0, .int .i64 0, .int .i64 0, .int .i64 0, .slice none 0 0, .slice none 0 0] 25)).heap.size (w.alloc (.cells #[.int .i64 1, .int .i64 5, .int .i64 7, .int .i64 0, .int .i64 0, .int .i64 0, .int .i64 0, .int .i64 0, .slice none 0 0, .slice none 0 0] 25))).alloc (Nat.le_refl _) (.cells #[.int .i64 2, .int .i64 0, .int .i64 3] 64)
  have HX1 := Lib.hid (hkeep hb1 (hkeep hbm HX.out))
  have HB1 := Lib.hid ((HB.out.trans (hbm.mono HB.out.size)).trans (hb1.mono (HB.out.trans (hbm.mono HB.out.size)).size))
  clear hs ht hb1 hbm HB HX HD CP y0 y1 y2 y3 y4 y5 y6 y7 y8 y9
  have hbn : Below w1.heap.size w1 (w1.alloc (.cells #[.int .i64 1, .int .i64 8, .int .i64 10, .int .i64 0, .int .i64 0, .int .i64 0, .int .i64 0, .int .i64 0, .slice As ([] : List Tk.Tk).length cs, .slice At ([] : List Mk).length ct] 25)) := (Below.refl _ _).alloc (Nat.le_refl _) _
  have HB2 := Lib.hid (HB1.out.trans (hbn.mono HB1.out.size))
  have HX2 := Lib.hid (hkeep hbn HX1.out)
  have HY2 := Lib.hid (heap_alloc_new w1 (.cells #[.int .i64 1, .int .i64 8, .int .i64 10, .int .i64 0, .int .i64 0, .int .i64 0, .int .i64 0, .int .i64 0, .slice As ([] : List Tk.Tk).length cs, .slice At ([] : List Mk).length ct] 25))
  clear hbn HB1 HX1
  go_upto_region 3 with fail
  generalize hY : w1.heap.size = Y at *
  generalize w1.alloc (.cells #[.int .i64 1, .int .i64 8, .int .i64 10, .int .i64 0, .int .i64 0, .int .i64 0, .int .i64 0, .int .i64 0, .slice As ([] : List Tk.Tk).length cs, .slice At ([] : List Mk).length ct] 25) = W at HB2 HX2 HY2 ⊢
  have HD := Lib.hid (rrow_one W ⟨4, 9, 0⟩)
  obtain ⟨⟨y0, y1, y2, y3, y4⟩, y5, y6, y7, y8, y9⟩ := tenc HX2.out
  go_wp2_with fail
  refine (CQ _ _ (by exact HD.out)).mono ?_
  rintro e w3 ⟨⟨h, _⟩ | ⟨_, rfl⟩, hb3⟩
  case inl => exact absurd h (by simp)
  have hbm := (Below.refl W.heap.size W).alloc (Nat.le_refl _) (.cells #[.int .i64 4, .int .i64 9, .int .i64 0] 64)
  have HY3 := Lib.hid (hkeep hb3 (hkeep hbm HY2.out))
  have HB3 := Lib.hid ((HB2.out.trans (hbm.mono HB2.out.size)).trans (hb3.mono (HB2.out.trans (hbm.mono HB2.out.size)).size))
  clear hb3 hbm HB2 HX2 HY2 HD CQ y0 y1 y2 y3 y4 y5 y6 y7 y8 y9
  go_upto_region 4 with fail
  have hbn : Below w3.heap.size w3 (w3.alloc (.cells #[.int .i64 0, .int .i64 0, .int .i64 0, .int .i64 0, .int .i64 0, .int .i64 0, .int .i64 0, .int .i64 0, .slice none 0 0, .slice none 0 0] 25)) := (Below.refl _ _).alloc (Nat.le_refl _) _
  have HB4 := Lib.hid (HB3.out.trans (hbn.mono HB3.out.size))
  obtain ⟨⟨y0, y1, y2, y3, y4⟩, y5, y6, y7, y8, y9⟩ := tenc (hkeep hbn HY3.out)
  go_wp2
  go_ret
  exact ⟨rfl, HB4.out⟩
end Go.Proofs.Ytmhngehpddfccaa.St
