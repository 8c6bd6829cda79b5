/- Welding: with. -/
import Derived.Test.YtlbkfenlbkibgaaWeI
import Derived.Test.YtlbkfenlbkibgaaWeB
import Derived.Test.YtlbkfenlbkibgaaWeD
import Derived.Test.YtlbkfenlbkibgaaWeM
import Derived.Laws.EntriesVeiled
set_option linter.unusedVariables false
set_option maxRecDepth 100000
set_option maxHeartbeats 4000000
namespace Go.Proofs.Ytlbkfenlbkibgaa.St
open Go.RowKit Mem Sm Tk Rt
set_option linter.unusedSimpArgs false
abbrev zeroP : Value := .agg #[.int .i64 0, .int .i64 0, .int .i64 0, .int .i64 0, .int .i64 0, .int .i64 0, .int .i64 0, .int .i64 0, .slice none 0 0, .slice none 0 0, .bool false]
def WithIs (x y : Sp) (L K' : List Tk.Tk) (ok : Bool) (base : Nat) (row : Option Nat) (w : World) (e : Ending) (w' : World) : Prop :=
 (ok = true ∧ ∃ v, e = .returned (.tuple #[pcV (wayN x y (weldK x y L.length)) v (.slice none 0 0) true, .bool true]) ∧ Tks base w' v (wayL L K' (weldK x y L.length)) ∧ w.grownBy w' row ∧ (∀ g, v.ownBlock = some g → row = some g ∨ w.heap.size ≤ g)) ∨
 (ok = false ∧ e = .returned (.tuple #[zeroP, .bool false]) ∧ Below w.heap.size w w')
structure WS (n0 g : Nat) (px py : Obj) (W : World) : Prop where
 hp : W.heap[n0]? = some px
 hy : W.heap[n0 + 1]? = some py
 hz : W.heap[n0 + 2]? = some (.cells #[.int .i64 0, .int .i64 0, .int .i64 0, .int .i64 0, .int .i64 0, .int .i64 0, .int .i64 0, .int .i64 0, .slice none 0 0, .slice none 0 0, .bool false] 103)
 hs : W.heap[g]? = some (.cells seamC 140)
theorem WS.keep {n0 g : Nat} {px py : Obj} {W W' : World} (h : WS n0 g px py W) (hb : Below W.heap.size W W') : WS n0 g px py W' := ⟨hkeep hb h.hp, hkeep hb h.hy, hkeep hb h.hz, hkeep hb h.hs⟩
theorem six {h : Nat} {W : World} {x0 x1 x2 x3 x4 x5 : Value} {t : TypeId} (e : W.heap[h]? = some (.cells #[x0, x1, x2, x3, x4, x5] t (0, 0))) : W.cell? ⟨h, 0, none⟩ = some x0 ∧ W.cell? ⟨h, 1, none⟩ = some x1 ∧ W.cell? ⟨h, 2, none⟩ = some x2 ∧ W.cell? ⟨h, 3, none⟩ = some x3 ∧ W.cell? ⟨h, 4, none⟩ = some x4 ∧ W.cell? ⟨h, 5, none⟩ = some x5 := by
 refine ⟨?_, ?_, ?_, ?_, ?_, ?_⟩
 all_goals simp [World.cell?, e]
theorem twof {h : Nat} {W : World} {x0 x1 : Value} {t : TypeId} (e : W.heap[h]? = some (.cells #[x0, x1] t (0, 0))) : W.cell? ⟨h, 0, none⟩ = some x0 ∧ W.cell? ⟨h, 1, none⟩ = some x1 := by
 refine ⟨?_, ?_⟩
 all_goals simp [World.cell?, e]
theorem grown_put11 {W : World} {B : Nat} (y0 y1 y2 y3 y4 y5 y6 y7 y8 y9 y10 : Value) : W.grownBy (put11 W B y0 y1 y2 y3 y4 y5 y6 y7 y8 y9 y10) (some B) := by
 have h := put11_below (Below.refl B W) (Nat.le_refl B) y0 y1 y2 y3 y4 y5 y6 y7 y8 y9 y10
 exact ⟨h.os, h.tape, h.output, h.size, fun k _ hne => put11_else _ _ _ _ _ _ _ _ _ _ _ (fun e => hne (by rw [e]))⟩
theorem with_any (x y : Sp) (L K' : List Tk.Tk) (S' : List Mk) (base : Nat) (A A' B B' : Option Addr) (n' m m' c c' d d' : Nat) (b : Bool) (w : World) (hl : L.length ≤ 100000) (hn' : n' ≤ 100000) (hm' : m' ≤ 100000) (hb : base ≤ w.heap.size)
  (hsh : b = shapeB x L.length m) (h1 : Tks base w (.slice A L.length c) L) (h2 : TRow w A' n' K') (h3 : MkRow w B' m' S') (hdis : 0 < n' → ∀ b off, A' = some ⟨b, off, none⟩ → (Value.slice A L.length c).ownBlock ≠ some b) :
  Calls Try.prog 54 #[pcV x (.slice A L.length c) (.slice B m d) b, stV y (.slice A' n' c') (.slice B' m' d')] w (WithIs x y L K' (pieceB x y L.length n' m m') base (Value.slice A L.length c).ownBlock w) := by
 have CS := fun W g1 g2 => shape_any y K' S' A' B' n' m' c' d' W (by omega) (by omega) g1 g2
 have CG := fun W g1 g2 => goesOn_any x y A A' B B' L.length n' m m' c c' d d' W g1 g2
 have CL := fun W => leadsTo_any x y A A' B B' L.length n' m m' c c' d d' W
 have CM := fun W => marksOn_any x y A A' B B' L.length n' m m' c c' d d' W
 have CB := fun W q1 q2 q3 => behind_any x y L K' base A A' B B' n' m m' c c' d d' W hl hn' q1 q2 q3
 have CA := fun W q1 q2 q3 => ahead_any x y L K' base A A' B B' n' m m' c c' d d' W hl hn' q1 q2 q3 (fun W' hbw => insert_any L K' base A A' n' c c' W' hl hn' (Nat.le_trans q1 hbw.size) (q2.belowAll hbw) (q3.below hbw) hdis)
 have CO := fun W => wover_any x y A A' B B' L.length n' m m' c c' d d' W
 obtain ⟨row, hrow⟩ : ∃ r, r = (Value.slice A L.length c).ownBlock := ⟨_, rfl⟩
 have hlow : ∀ g, row = some g → base ≤ g ∧ g < w.heap.size := fun g e => by
  rw [hrow] at e
  exact ⟨(h1.block g e).1, (h1.block g e).2.1⟩
 simp only [← hrow] at CB CA ⊢
 clear hrow hdis
 obtain ⟨E, hE⟩ : ∃ E : Ending → World → Prop, E = WithIs x y L K' (pieceB x y L.length n' m m') base row w := ⟨_, rfl⟩
 rw [← hE]
 obtain ⟨SY, hSY⟩ : ∃ q, q = shapeB y n' m' := ⟨_, rfl⟩
 obtain ⟨GB, hGB⟩ : ∃ q, q = goesB x y L.length := ⟨_, rfl⟩
 obtain ⟨LB, hLB⟩ : ∃ q, q = leadsB x y := ⟨_, rfl⟩
 obtain ⟨MB, hMB⟩ : ∃ q, q = marksB x y := ⟨_, rfl⟩
 have HFail : Hid (∀ W', Below w.heap.size w W' → (b = false ∨ SY = false ∨ ¬ (L.length + n' ≤ 20000) ∨ (GB = false ∧ LB = false ∧ MB = false)) → E (.returned (.tuple #[zeroP, .bool false])) W') := Lib.hid (fun W' hW hc => by
  rw [hE]
  refine .inr ⟨?_, rfl, hW⟩
  unfold pieceB
  rw [← hsh, ← hSY]
  rcases hc with h | h | h | ⟨h4, h5, h6⟩
  ·rw [h]; simp
  ·rw [h]; simp
  ·simp [h]
  ·have : weldK x y L.length = 0 := by unfold weldK; rw [← hGB, ← hLB, ← hMB, h4, h5, h6]; rfl
   rw [this]; simp)
 have hOK : b = true → SY = true → L.length + n' ≤ 20000 → weldK x y L.length ≠ 0 → pieceB x y L.length n' m m' = true := fun a1 a2 a3 a4 => by
  unfold pieceB
  rw [← hsh, ← hSY, a1, a2]
  simp [a3, a4]
 have HF1 : Hid (b = true → SY = true → L.length + n' ≤ 20000 → GB = true → ∀ v W', Tks base W' v (L ++ K') → w.grownBy W' row → (∀ g, v.ownBlock = some g → row = some g ∨ w.heap.size ≤ g) → E (.returned (.tuple #[.agg #[.int .i64 1, .int .i64 x.from_, .int .i64 (wrap64 (wrap64 (x.to_ + y.to_) - y.from_)), .int .i64 0, .int .i64 0, .int .i64 0, .int .i64 0, .int .i64 0, v, .slice none 0 0, .bool true], .bool true])) W') := Lib.hid (fun a1 a2 a3 a4 v W' t g o => by
  have hk : weldK x y L.length = 1 := by unfold weldK; rw [← hGB, a4]; rfl
  obtain ⟨⟨u1, u2, u3, u4, u5⟩, _⟩ := shape_of (hsh.symm.trans a1)
  obtain ⟨⟨v1, v2, v3, v4, v5⟩, _⟩ := shape_of (hSY.symm.trans a2)
  have e1 : wrap64 (x.to_ + y.to_) = x.to_ + y.to_ := wrap_few (by omega) (by omega)
  have e2 : wrap64 (x.to_ + y.to_ - y.from_) = x.to_ + y.to_ - y.from_ := wrap_few (by omega) (by omega)
  rw [hE, e1, e2]
  refine .inl ⟨hOK a1 a2 a3 (by rw [hk]; simp), v, ?_, ?_, g, o⟩
  ·rw [hk]; rfl
  ·rw [hk]; exact t)
 have HF2 : Hid (b = true → SY = true → L.length + n' ≤ 20000 → GB = false → LB = true → ∀ v W', Tks base W' v (K' ++ L) → w.grownBy W' row → (∀ g, v.ownBlock = some g → row = some g ∨ w.heap.size ≤ g) → E (.returned (.tuple #[.agg #[.int .i64 1, .int .i64 y.from_, .int .i64 x.to_, .int .i64 0, .int .i64 0, .int .i64 0, .int .i64 0, .int .i64 0, v, .slice none 0 0, .bool true], .bool true])) W') := Lib.hid (fun a1 a2 a3 a4 a5 v W' t g o => by
  have hk : weldK x y L.length = 2 := by unfold weldK; rw [← hGB, ← hLB, a4, a5]; rfl
  rw [hE]
  refine .inl ⟨hOK a1 a2 a3 (by rw [hk]; simp), v, ?_, ?_, g, o⟩
  ·rw [hk]; rfl
  ·rw [hk]; exact t)
 have HF3 : Hid (b = true → SY = true → L.length + n' ≤ 20000 → GB = false → LB = false → MB = true → ∀ W', w.grownBy W' row → E (.returned (.tuple #[.agg #[.int .i64 x.kind, .int .i64 (min x.from_ y.from_), .int .i64 (max x.to_ y.to_), .int .i64 0, .int .i64 0, .int .i64 0, .int .i64 x.mark, .int .i64 x.val, .slice none 0 0, .slice none 0 0, .bool true], .bool true])) W') := Lib.hid (fun a1 a2 a3 a4 a5 a6 W' g => by
  have hk : weldK x y L.length = 3 := by unfold weldK; rw [← hGB, ← hLB, ← hMB, a4, a5, a6]; rfl
  rw [hE]
  refine .inl ⟨hOK a1 a2 a3 (by rw [hk]; simp), .slice none 0 0, ?_, ?_, g, fun q e => by cases e⟩
  ·rw [hk]; rfl
  ·rw [hk]; exact Tks.nil)
 have HIB : Hid (b = true → SY = true → inB x L.length ∧ inB y n') := Lib.hid (fun a1 a2 => by
  obtain ⟨⟨u1, u2, u3, u4, u5⟩, _⟩ := shape_of (hsh.symm.trans a1)
  obtain ⟨⟨v1, v2, v3, v4, v5⟩, _⟩ := shape_of (hSY.symm.trans a2)
  exact ⟨⟨u1, u2, u3, u4⟩, ⟨v1, v2, v3, v4⟩⟩)
 rw [← hSY] at CS
 simp only [← hGB] at CG
 simp only [← hLB] at CL
 simp only [← hMB] at CM
 clear hSY hGB hLB hMB hE hOK hsh
 obtain ⟨xk, xf, xt, xg, xh, xi, xm, xv⟩ := x
 obtain ⟨vk, vf, vt, vg, vh, vi, vm, vv⟩ := y
 unfold overN at CO
 unfold BehIs at CB
 unfold AheadIs at CA
 unfold stV stC at CS CG CL CM CB CA CO
 unfold pcV pcC stV stC
 simp only at CS CG CL CM CB CA CO HF1 HF2 HF3 HIB ⊢
 have hb1 := (((Below.refl _ w).alloc (Nat.le_refl _) (.cells #[.int .i64 xk, .int .i64 xf, .int .i64 xt, .int .i64 xg, .int .i64 xh, .int .i64 xi, .int .i64 xm, .int .i64 xv, .slice A L.length c, .slice B m d, .bool b] 103)).alloc (by simp) (.cells #[.int .i64 vk, .int .i64 vf, .int .i64 vt, .int .i64 vg, .int .i64 vh, .int .i64 vi, .int .i64 vm, .int .i64 vv, .slice A' n' c', .slice B' m' d'] 25)).alloc (by simp; omega) (.cells #[.int .i64 0, .int .i64 0, .int .i64 0, .int .i64 0, .int .i64 0, .int .i64 0, .int .i64 0, .int .i64 0, .slice none 0 0, .slice none 0 0, .bool false] 103)
 have hx : (((w.alloc (.cells #[.int .i64 xk, .int .i64 xf, .int .i64 xt, .int .i64 xg, .int .i64 xh, .int .i64 xi, .int .i64 xm, .int .i64 xv, .slice A L.length c, .slice B m d, .bool b] 103)).alloc (.cells #[.int .i64 vk, .int .i64 vf, .int .i64 vt, .int .i64 vg, .int .i64 vh, .int .i64 vi, .int .i64 vm, .int .i64 vv, .slice A' n' c', .slice B' m' d'] 25)).alloc (.cells #[.int .i64 0, .int .i64 0, .int .i64 0, .int .i64 0, .int .i64 0, .int .i64 0, .int .i64 0, .int .i64 0, .slice none 0 0, .slice none 0 0, .bool false] 103)).heap[w.heap.size]? = some (.cells #[.int .i64 xk, .int .i64 xf, .int .i64 xt, .int .i64 xg, .int .i64 xh, .int .i64 xi, .int .i64 xm, .int .i64 xv, .slice A L.length c, .slice B m d, .bool b] 103) := by rw [Below.heap_alloc _ _ _ (by simp; omega), Below.heap_alloc _ _ _ (by simp), heap_alloc_new]
 have hy : (((w.alloc (.cells #[.int .i64 xk, .int .i64 xf, .int .i64 xt, .int .i64 xg, .int .i64 xh, .int .i64 xi, .int .i64 xm, .int .i64 xv, .slice A L.length c, .slice B m d, .bool b] 103)).alloc (.cells #[.int .i64 vk, .int .i64 vf, .int .i64 vt, .int .i64 vg, .int .i64 vh, .int .i64 vi, .int .i64 vm, .int .i64 vv, .slice A' n' c', .slice B' m' d'] 25)).alloc (.cells #[.int .i64 0, .int .i64 0, .int .i64 0, .int .i64 0, .int .i64 0, .int .i64 0, .int .i64 0, .int .i64 0, .slice none 0 0, .slice none 0 0, .bool false] 103)).heap[w.heap.size + 1]? = some (.cells #[.int .i64 vk, .int .i64 vf, .int .i64 vt, .int .i64 vg, .int .i64 vh, .int .i64 vi, .int .i64 vm, .int .i64 vv, .slice A' n' c', .slice B' m' d'] 25) := by
  have := heap_alloc_new (w.alloc (.cells #[.int .i64 xk, .int .i64 xf, .int .i64 xt, .int .i64 xg, .int .i64 xh, .int .i64 xi, .int .i64 xm, .int .i64 xv, .slice A L.length c, .slice B m d, .bool b] 103)) (.cells #[.int .i64 vk, .int .i64 vf, .int .i64 vt, .int .i64 vg, .int .i64 vh, .int .i64 vi, .int .i64 vm, .int .i64 vv, .slice A' n' c', .slice B' m' d'] 25)
  rw [show (w.alloc (.cells #[.int .i64 xk, .int .i64 xf, .int .i64 xt, .int .i64 xg, .int .i64 xh, .int .i64 xi, .int .i64 xm, .int .i64 xv, .slice A L.length c, .slice B m d, .bool b] 103)).heap.size = w.heap.size + 1 by simp] at this
  rw [Below.heap_alloc _ _ _ (by simp)]; exact this
 have hz : (((w.alloc (.cells #[.int .i64 xk, .int .i64 xf, .int .i64 xt, .int .i64 xg, .int .i64 xh, .int .i64 xi, .int .i64 xm, .int .i64 xv, .slice A L.length c, .slice B m d, .bool b] 103)).alloc (.cells #[.int .i64 vk, .int .i64 vf, .int .i64 vt, .int .i64 vg, .int .i64 vh, .int .i64 vi, .int .i64 vm, .int .i64 vv, .slice A' n' c', .slice B' m' d'] 25)).alloc (.cells #[.int .i64 0, .int .i64 0, .int .i64 0, .int .i64 0, .int .i64 0, .int .i64 0, .int .i64 0, .int .i64 0, .slice none 0 0, .slice none 0 0, .bool false] 103)).heap[w.heap.size + 2]? = some (.cells #[.int .i64 0, .int .i64 0, .int .i64 0, .int .i64 0, .int .i64 0, .int .i64 0, .int .i64 0, .int .i64 0, .slice none 0 0, .slice none 0 0, .bool false] 103) := by
  have := heap_alloc_new ((w.alloc (.cells #[.int .i64 xk, .int .i64 xf, .int .i64 xt, .int .i64 xg, .int .i64 xh, .int .i64 xi, .int .i64 xm, .int .i64 xv, .slice A L.length c, .slice B m d, .bool b] 103)).alloc (.cells #[.int .i64 vk, .int .i64 vf, .int .i64 vt, .int .i64 vg, .int .i64 vh, .int .i64 vi, .int .i64 vm, .int .i64 vv, .slice A' n' c', .slice B' m' d'] 25)) (.cells #[.int .i64 0, .int .i64 0, .int .i64 0, .int .i64 0, .int .i64 0, .int .i64 0, .int .i64 0, .int .i64 0, .slice none 0 0, .slice none 0 0, .bool false] 103)
  rwa [show ((w.alloc (.cells #[.int .i64 xk, .int .i64 xf, .int .i64 xt, .int .i64 xg, .int .i64 xh, .int .i64 xi, .int .i64 xm, .int .i64 xv, .slice A L.length c, .slice B m d, .bool b] 103)).alloc (.cells #[.int .i64 vk, .int .i64 vf, .int .i64 vt, .int .i64 vg, .int .i64 vh, .int .i64 vi, .int .i64 vm, .int .i64 vv, .slice A' n' c', .slice B' m' d'] 25)).heap.size = w.heap.size + 2 by simp] at this
 have HT := Lib.hid (h1.belowAll hb1)
 have HK := Lib.hid (h2.below hb1)
 have HM := Lib.hid (h3.below hb1)
 have HB := Lib.hid hb1
 have HX := Lib.hid hx
 have HY := Lib.hid hy
 have HZ := Lib.hid hz
 clear hb1 hx hy hz h1 h2 h3
 have hw1 : wrap64 ((L.length : Int) + (n' : Int)) = (L.length : Int) + (n' : Int) := wrap_few (by omega) (by omega)
 go_enter Try.func54, Try.ntmps54
 go_upto_region 1 with fail
 generalize ((w.alloc (.cells #[.int .i64 xk, .int .i64 xf, .int .i64 xt, .int .i64 xg, .int .i64 xh, .int .i64 xi, .int .i64 xm, .int .i64 xv, .slice A L.length c, .slice B m d, .bool b] 103)).alloc (.cells #[.int .i64 vk, .int .i64 vf, .int .i64 vt, .int .i64 vg, .int .i64 vh, .int .i64 vi, .int .i64 vm, .int .i64 vv, .slice A' n' c', .slice B' m' d'] 25)).alloc (.cells #[.int .i64 0, .int .i64 0, .int .i64 0, .int .i64 0, .int .i64 0, .int .i64 0, .int .i64 0, .int .i64 0, .slice none 0 0, .slice none 0 0, .bool false] 103) = W at HT HK HM HB HX HY HZ ⊢
 cases b with
 | false =>
  have hq := elev HX.out
  have p0 := hq.1
  have p1 := hq.2.1
  have p2 := hq.2.2.1
  have p3 := hq.2.2.2.1
  have p4 := hq.2.2.2.2.1
  have p5 := hq.2.2.2.2.2.1
  have p6 := hq.2.2.2.2.2.2.1
  have p7 := hq.2.2.2.2.2.2.2.1
  have p8 := hq.2.2.2.2.2.2.2.2.1
  have p9 := hq.2.2.2.2.2.2.2.2.2.1
  have p10 := hq.2.2.2.2.2.2.2.2.2.2
  clear hq
  have hq := tenc HY.out
  have o0 := hq.1.1
  have o1 := hq.1.2.1
  have o2 := hq.1.2.2.1
  have o3 := hq.1.2.2.2.1
  have o4 := hq.1.2.2.2.2
  have o5 := hq.2.1
  have o6 := hq.2.2.1
  have o7 := hq.2.2.2.1
  have o8 := hq.2.2.2.2.1
  have o9 := hq.2.2.2.2.2
  clear hq
  have hq := elevf HZ.out
  have fz0 := hq.1
  have fz1 := hq.2.1
  have fz2 := hq.2.2.1
  have fz3 := hq.2.2.2.1
  have fz4 := hq.2.2.2.2.1
  have fz5 := hq.2.2.2.2.2.1
  have fz6 := hq.2.2.2.2.2.2.1
  have fz7 := hq.2.2.2.2.2.2.2.1
  have fz8 := hq.2.2.2.2.2.2.2.2.1
  have fz9 := hq.2.2.2.2.2.2.2.2.2.1
  have fz10 := hq.2.2.2.2.2.2.2.2.2.2
  clear hq
  have hq := elev HZ.out
  have z0 := hq.1
  have z1 := hq.2.1
  have z2 := hq.2.2.1
  have z3 := hq.2.2.2.1
  have z4 := hq.2.2.2.2.1
  have z5 := hq.2.2.2.2.2.1
  have z6 := hq.2.2.2.2.2.2.1
  have z7 := hq.2.2.2.2.2.2.2.1
  have z8 := hq.2.2.2.2.2.2.2.2.1
  have z9 := hq.2.2.2.2.2.2.2.2.2.1
  have z10 := hq.2.2.2.2.2.2.2.2.2.2
  clear hq
  go_wp2
  have hF := elev (put11_at HZ.out (.int .i64 0) (.int .i64 0) (.int .i64 0) (.int .i64 0) (.int .i64 0) (.int .i64 0) (.int .i64 0) (.int .i64 0) (.slice none 0 0) (.slice none 0 0) (.bool false))
  have hB11 := put11_below HB.out (B := w.heap.size + 2) (by omega) (.int .i64 0) (.int .i64 0) (.int .i64 0) (.int .i64 0) (.int .i64 0) (.int .i64 0) (.int .i64 0) (.int .i64 0) (.slice none 0 0) (.slice none 0 0) (.bool false)
  obtain ⟨r0, r1, r2, r3, r4, r5, r6, r7, r8, r9, r10⟩ := hF
  unfold put11 at r0 r1 r2 r3 r4 r5 r6 r7 r8 r9 r10 hB11
  refine bodyPost_ret (v := .tuple #[.agg #[.int .i64 0, .int .i64 0, .int .i64 0, .int .i64 0, .int .i64 0, .int .i64 0, .int .i64 0, .int .i64 0, .slice none 0 0, .slice none 0 0, .bool false], .bool false]) ?_ rfl (by first | exact HFail.out _ hB11 (.inl rfl) | exact HFail.out _ hB11 | exact HFail.out _ hB11 (by simp))
  simp [results, Try.results54, go_sem, r0, r1, r2, r3, r4, r5, r6, r7, r8, r9, r10]
 | true =>
  have hq := elev HX.out
  have p0 := hq.1
  have p1 := hq.2.1
  have p2 := hq.2.2.1
  have p3 := hq.2.2.2.1
  have p4 := hq.2.2.2.2.1
  have p5 := hq.2.2.2.2.2.1
  have p6 := hq.2.2.2.2.2.2.1
  have p7 := hq.2.2.2.2.2.2.2.1
  have p8 := hq.2.2.2.2.2.2.2.2.1
  have p9 := hq.2.2.2.2.2.2.2.2.2.1
  have p10 := hq.2.2.2.2.2.2.2.2.2.2
  clear hq
  have hq := tenc HY.out
  have o0 := hq.1.1
  have o1 := hq.1.2.1
  have o2 := hq.1.2.2.1
  have o3 := hq.1.2.2.2.1
  have o4 := hq.1.2.2.2.2
  have o5 := hq.2.1
  have o6 := hq.2.2.1
  have o7 := hq.2.2.2.1
  have o8 := hq.2.2.2.2.1
  have o9 := hq.2.2.2.2.2
  clear hq
  go_wp2_with fail
  refine (CS _ HK.out HM.out).mono ?_
  rintro e w1 ⟨rfl, hb1⟩
  clear p0 p1 p2 p3 p4 p5 p6 p7 p8 p9 p10 o0 o1 o2 o3 o4 o5 o6 o7 o8 o9
  have hws := HB.out.size
  have HB1 := Lib.hid (HB.out.trans (hb1.mono hws))
  have HT1 := Lib.hid (HT.out.belowAll hb1)
  have HK1 := Lib.hid (HK.out.below hb1)
  have HX1 := Lib.hid (hkeep hb1 HX.out)
  have HY1 := Lib.hid (hkeep hb1 HY.out)
  have HZ1 := Lib.hid (hkeep hb1 HZ.out)
  clear hb1 HB HT HK HM HX HY HZ CS
  cases SY with
  | false =>
   have hq := elev HX1.out
   have p0 := hq.1
   have p1 := hq.2.1
   have p2 := hq.2.2.1
   have p3 := hq.2.2.2.1
   have p4 := hq.2.2.2.2.1
   have p5 := hq.2.2.2.2.2.1
   have p6 := hq.2.2.2.2.2.2.1
   have p7 := hq.2.2.2.2.2.2.2.1
   have p8 := hq.2.2.2.2.2.2.2.2.1
   have p9 := hq.2.2.2.2.2.2.2.2.2.1
   have p10 := hq.2.2.2.2.2.2.2.2.2.2
   clear hq
   have hq := tenc HY1.out
   have o0 := hq.1.1
   have o1 := hq.1.2.1
   have o2 := hq.1.2.2.1
   have o3 := hq.1.2.2.2.1
   have o4 := hq.1.2.2.2.2
   have o5 := hq.2.1
   have o6 := hq.2.2.1
   have o7 := hq.2.2.2.1
   have o8 := hq.2.2.2.2.1
   have o9 := hq.2.2.2.2.2
   clear hq
   have hq := elevf HZ1.out
   have fz0 := hq.1
   have fz1 := hq.2.1
   have fz2 := hq.2.2.1
   have fz3 := hq.2.2.2.1
   have fz4 := hq.2.2.2.2.1
   have fz5 := hq.2.2.2.2.2.1
   have fz6 := hq.2.2.2.2.2.2.1
   have fz7 := hq.2.2.2.2.2.2.2.1
   have fz8 := hq.2.2.2.2.2.2.2.2.1
   have fz9 := hq.2.2.2.2.2.2.2.2.2.1
   have fz10 := hq.2.2.2.2.2.2.2.2.2.2
   clear hq
   have hq := elev HZ1.out
   have z0 := hq.1
   have z1 := hq.2.1
   have z2 := hq.2.2.1
   have z3 := hq.2.2.2.1
   have z4 := hq.2.2.2.2.1
   have z5 := hq.2.2.2.2.2.1
   have z6 := hq.2.2.2.2.2.2.1
   have z7 := hq.2.2.2.2.2.2.2.1
   have z8 := hq.2.2.2.2.2.2.2.2.1
   have z9 := hq.2.2.2.2.2.2.2.2.2.1
   have z10 := hq.2.2.2.2.2.2.2.2.2.2
   clear hq
   go_wp2
   have hF := elev (put11_at HZ1.out (.int .i64 0) (.int .i64 0) (.int .i64 0) (.int .i64 0) (.int .i64 0) (.int .i64 0) (.int .i64 0) (.int .i64 0) (.slice none 0 0) (.slice none 0 0) (.bool false))
   have hB11 := put11_below HB1.out (B := w.heap.size + 2) (by omega) (.int .i64 0) (.int .i64 0) (.int .i64 0) (.int .i64 0) (.int .i64 0) (.int .i64 0) (.int .i64 0) (.int .i64 0) (.slice none 0 0) (.slice none 0 0) (.bool false)
   obtain ⟨r0, r1, r2, r3, r4, r5, r6, r7, r8, r9, r10⟩ := hF
   unfold put11 at r0 r1 r2 r3 r4 r5 r6 r7 r8 r9 r10 hB11
   refine bodyPost_ret (v := .tuple #[.agg #[.int .i64 0, .int .i64 0, .int .i64 0, .int .i64 0, .int .i64 0, .int .i64 0, .int .i64 0, .int .i64 0, .slice none 0 0, .slice none 0 0, .bool false], .bool false]) ?_ rfl (by first | exact HFail.out _ hB11 (.inr (.inl rfl)) | exact HFail.out _ hB11 | exact HFail.out _ hB11 (by simp))
   simp [results, Try.results54, go_sem, r0, r1, r2, r3, r4, r5, r6, r7, r8, r9, r10]
  | true =>
   obtain ⟨hix, hiy⟩ : inB ⟨xk, xf, xt, xg, xh, xi, xm, xv⟩ L.length ∧ inB ⟨vk, vf, vt, vg, vh, vi, vm, vv⟩ n' := by first | exact HIB.out rfl rfl | exact HIB.out trivial rfl | exact HIB.out trivial trivial | exact HIB.out
   clear HIB
   by_cases hle : L.length + n' ≤ 20000
   ·have hle2 : ¬ ((20000 : Int) < (L.length : Int) + (n' : Int)) := by omega
    have hq := elev HX1.out
    have p0 := hq.1
    have p1 := hq.2.1
    have p2 := hq.2.2.1
    have p3 := hq.2.2.2.1
    have p4 := hq.2.2.2.2.1
    have p5 := hq.2.2.2.2.2.1
    have p6 := hq.2.2.2.2.2.2.1
    have p7 := hq.2.2.2.2.2.2.2.1
    have p8 := hq.2.2.2.2.2.2.2.2.1
    have p9 := hq.2.2.2.2.2.2.2.2.2.1
    have p10 := hq.2.2.2.2.2.2.2.2.2.2
    clear hq
    have hq := tenc HY1.out
    have o0 := hq.1.1
    have o1 := hq.1.2.1
    have o2 := hq.1.2.2.1
    have o3 := hq.1.2.2.2.1
    have o4 := hq.1.2.2.2.2
    have o5 := hq.2.1
    have o6 := hq.2.2.1
    have o7 := hq.2.2.2.1
    have o8 := hq.2.2.2.2.1
    have o9 := hq.2.2.2.2.2
    clear hq
    go_wp2_with fail
    refine (seams_any _).mono ?_
    rintro e w2 ⟨g, rfl, hgs, hseam, hb2⟩
    clear p0 p1 p2 p3 p4 p5 p6 p7 p8 p9 p10 o0 o1 o2 o3 o4 o5 o6 o7 o8 o9
    have hws1 := HB1.out.size
    have hzl := lt_some HZ1.out
    have hg3 : w.heap.size + 3 ≤ g := by omega
    have HB2 := Lib.hid (HB1.out.trans (hb2.mono hws1))
    have HT2 := Lib.hid (HT1.out.belowAll hb2)
    have HK2 := Lib.hid (HK1.out.below hb2)
    have HW2 : Hid (WS w.heap.size g (.cells #[.int .i64 xk, .int .i64 xf, .int .i64 xt, .int .i64 xg, .int .i64 xh, .int .i64 xi, .int .i64 xm, .int .i64 xv, .slice A L.length c, .slice B m d, .bool true] 103) (.cells #[.int .i64 vk, .int .i64 vf, .int .i64 vt, .int .i64 vg, .int .i64 vh, .int .i64 vi, .int .i64 vm, .int .i64 vv, .slice A' n' c', .slice B' m' d'] 25) w2) := Lib.hid ⟨hkeep hb2 HX1.out, hkeep hb2 HY1.out, hkeep hb2 HZ1.out, hseam⟩
    have HG1 : Hid (GB = true → ∀ v W', Tks base W' v (L ++ K') → w.grownBy W' row → (∀ g, v.ownBlock = some g → row = some g ∨ w.heap.size ≤ g) → E (.returned (.tuple #[.agg #[.int .i64 1, .int .i64 xf, .int .i64 (wrap64 (wrap64 (xt + vt) - vf)), .int .i64 0, .int .i64 0, .int .i64 0, .int .i64 0, .int .i64 0, v, .slice none 0 0, .bool true], .bool true])) W') := by first | exact Lib.hid (HF1.out rfl rfl hle) | exact Lib.hid (HF1.out trivial rfl hle) | exact Lib.hid (HF1.out trivial trivial hle) | exact Lib.hid (HF1.out hle)
    have HG2 : Hid (GB = false → LB = true → ∀ v W', Tks base W' v (K' ++ L) → w.grownBy W' row → (∀ g, v.ownBlock = some g → row = some g ∨ w.heap.size ≤ g) → E (.returned (.tuple #[.agg #[.int .i64 1, .int .i64 vf, .int .i64 xt, .int .i64 0, .int .i64 0, .int .i64 0, .int .i64 0, .int .i64 0, v, .slice none 0 0, .bool true], .bool true])) W') := by first | exact Lib.hid (HF2.out rfl rfl hle) | exact Lib.hid (HF2.out trivial rfl hle) | exact Lib.hid (HF2.out trivial trivial hle) | exact Lib.hid (HF2.out hle)
    have HG3 : Hid (GB = false → LB = false → MB = true → ∀ W', w.grownBy W' row → E (.returned (.tuple #[.agg #[.int .i64 xk, .int .i64 (min xf vf), .int .i64 (max xt vt), .int .i64 0, .int .i64 0, .int .i64 0, .int .i64 xm, .int .i64 xv, .slice none 0 0, .slice none 0 0, .bool true], .bool true])) W') := by first | exact Lib.hid (HF3.out rfl rfl hle) | exact Lib.hid (HF3.out trivial rfl hle) | exact Lib.hid (HF3.out trivial trivial hle) | exact Lib.hid (HF3.out hle)
    have HG0 : Hid (GB = false → LB = false → MB = false → ∀ W', Below w.heap.size w W' → E (.returned (.tuple #[zeroP, .bool false])) W') := Lib.hid (fun a1 a2 a3 W' hW => by first | exact HFail.out W' hW (.inr (.inr (.inr ⟨a1, a2, a3⟩))) | exact HFail.out W' hW (.inr ⟨a1, a2, a3⟩) | exact HFail.out W' hW (by simp [a1, a2, a3]))
    clear hb2 hseam hgs HB1 HT1 HK1 HX1 HY1 HZ1 HF1 HF2 HF3 HFail hle hle2 hw1
    have hsz3 := HB2.out.size
    have CG := fun W => CG W hix hiy
    go_wp2_with fail
    go_loopw [30] (fun iv wr => ∃ i : Nat, iv = .int .i64 i ∧ i ≤ 3 ∧ Hid (1 ≤ i → GB = false) ∧ Hid (2 ≤ i → LB = false) ∧ Hid (3 ≤ i → MB = false) ∧ Hid (WS w.heap.size g (.cells #[.int .i64 xk, .int .i64 xf, .int .i64 xt, .int .i64 xg, .int .i64 xh, .int .i64 xi, .int .i64 xm, .int .i64 xv, .slice A L.length c, .slice B m d, .bool true] 103) (.cells #[.int .i64 vk, .int .i64 vf, .int .i64 vt, .int .i64 vg, .int .i64 vh, .int .i64 vi, .int .i64 vm, .int .i64 vv, .slice A' n' c', .slice B' m' d'] 25) wr) ∧ Hid (Below w.heap.size w wr) ∧ Hid (Tks base wr (.slice A L.length c) L) ∧ Hid (TRow wr A' n' K')) (fun iv _ => 3 - (intOf iv).toNat)
    case atStart => exact ⟨0, rfl, by omega, Lib.hid (fun h => by omega), Lib.hid (fun h => by omega), Lib.hid (fun h => by omega), HW2, HB2, HT2, HK2⟩
    case round =>
     obtain ⟨i, rfl, hi, HN1, HN2, HN3, HW3, HB3, HT3, HK3⟩ := hrel
     clear HW2 HB2 HT2 HK2
     have hi4 : i = 0 ∨ i = 1 ∨ i = 2 ∨ i = 3 := by omega
     rcases hi4 with rfl | rfl | rfl | rfl
     ·have hss := HB3.out.size
      have hba := (Below.refl wr.heap.size wr).alloc (Nat.le_refl _) (.cells #[.func (.func 95) #[] #[], .func (.func 96) #[] #[]] 140)
      have HNF := Lib.hid (heap_alloc_new wr (.cells #[.func (.func 95) #[] #[], .func (.func 96) #[] #[]] 140))
      have hsq : (wr.alloc (.cells #[.func (.func 95) #[] #[], .func (.func 96) #[] #[]] 140)).heap.size = wr.heap.size + 1 := by simp
      have HW4 := Lib.hid (HW3.out.keep hba)
      have HB4 := Lib.hid (HB3.out.trans (hba.mono hss))
      have HT4 := Lib.hid (HT3.out.belowAll hba)
      have HK4 := Lib.hid (HK3.out.below hba)
      obtain ⟨s0, s1, s2, s3, s4, s5⟩ := six HW3.out.hs
      unfold fnV at s0 s1 s2 s3 s4 s5
      have hq := elev HW4.out.hp
      have p0 := hq.1
      have p1 := hq.2.1
      have p2 := hq.2.2.1
      have p3 := hq.2.2.2.1
      have p4 := hq.2.2.2.2.1
      have p5 := hq.2.2.2.2.2.1
      have p6 := hq.2.2.2.2.2.2.1
      have p7 := hq.2.2.2.2.2.2.2.1
      have p8 := hq.2.2.2.2.2.2.2.2.1
      have p9 := hq.2.2.2.2.2.2.2.2.2.1
      have p10 := hq.2.2.2.2.2.2.2.2.2.2
      clear hq
      have hq := tenc HW4.out.hy
      have o0 := hq.1.1
      have o1 := hq.1.2.1
      have o2 := hq.1.2.2.1
      have o3 := hq.1.2.2.2.1
      have o4 := hq.1.2.2.2.2
      have o5 := hq.2.1
      have o6 := hq.2.2.1
      have o7 := hq.2.2.2.1
      have o8 := hq.2.2.2.2.1
      have o9 := hq.2.2.2.2.2
      clear hq
      clear hba hsq
      go_wp2_with fail
      refine (CG _).mono ?_
      rintro e w4 ⟨rfl, hb4⟩
      clear p0 p1 p2 p3 p4 p5 p6 p7 p8 p9 p10 o0 o1 o2 o3 o4 o5 o6 o7 o8 o9
      clear s0 s1 s2 s3 s4 s5
      have hsa := HB4.out.size
      have HW5 := Lib.hid (HW4.out.keep hb4)
      have HB5 := Lib.hid (HB4.out.trans (hb4.mono hsa))
      have HT5 := Lib.hid (HT4.out.belowAll hb4)
      have HK5 := Lib.hid (HK4.out.below hb4)
      have HNF5 := Lib.hid (hkeep hb4 HNF.out)
      clear hb4 HW3 HB3 HT3 HK3 HW4 HB4 HT4 HK4 HNF
      obtain ⟨Q, hQ⟩ : ∃ q, q = GB := ⟨_, rfl⟩
      rw [← hQ]
      have HQ := Lib.hid hQ
      clear hQ
      cases Q with
      | false =>
       have hQF : GB = false := HQ.out.symm
       have HR : Hid (1 ≤ 1 → GB = false) := Lib.hid (fun h => hQF)
       clear HQ hQF HG0 HG1 HG2 HG3 CG CL CM CB CA CO HNF5
       go_wp2_with fail
       exact ⟨⟨1, rfl, by omega, HR, Lib.hid (fun h => by omega), Lib.hid (fun h => by omega), HW5, HB5, HT5, HK5⟩, by simp [intOf]⟩
      | true =>
       have hQT : GB = true := HQ.out.symm
       have HE := Lib.hid (HG1.out hQT)
       obtain ⟨nf0, nf1⟩ := twof HNF5.out
       have hq := elev HW5.out.hp
       have p0 := hq.1
       have p1 := hq.2.1
       have p2 := hq.2.2.1
       have p3 := hq.2.2.2.1
       have p4 := hq.2.2.2.2.1
       have p5 := hq.2.2.2.2.2.1
       have p6 := hq.2.2.2.2.2.2.1
       have p7 := hq.2.2.2.2.2.2.2.1
       have p8 := hq.2.2.2.2.2.2.2.2.1
       have p9 := hq.2.2.2.2.2.2.2.2.2.1
       have p10 := hq.2.2.2.2.2.2.2.2.2.2
       clear hq
       have hq := tenc HW5.out.hy
       have o0 := hq.1.1
       have o1 := hq.1.2.1
       have o2 := hq.1.2.2.1
       have o3 := hq.1.2.2.2.1
       have o4 := hq.1.2.2.2.2
       have o5 := hq.2.1
       have o6 := hq.2.2.1
       have o7 := hq.2.2.2.1
       have o8 := hq.2.2.2.2.1
       have o9 := hq.2.2.2.2.2
       clear hq
       clear HQ hQT HG0 HG1 HG2 HG3
       go_wp2_with fail
       refine (CB _ (Nat.le_trans hb HB5.out.size) HT5.out HK5.out).mono ?_
       rintro e w6 ⟨v9, rfl, hT9, hg9, ho9⟩
       clear p0 p1 p2 p3 p4 p5 p6 p7 p8 p9 p10 o0 o1 o2 o3 o4 o5 o6 o7 o8 o9
       clear nf0 nf1
       have hs5 := HB5.out.size
       have HZ9 := Lib.hid (grown_at hg9 HW5.out.hz (fun e => by have := hlow _ e; omega))
       have hgr9 : w.grownBy w6 row := ((grown_below HB5.out).but row).trans hg9
       have ho : ∀ g, v9.ownBlock = some g → row = some g ∨ w.heap.size + 3 ≤ g := fun q e => by
        rcases ho9 q e with h | h
        ·exact .inl h
        ·have := lt_some HW5.out.hz; exact .inr (by omega)
       obtain ⟨A9, c9, rfl⟩ := hT9.form
       generalize (L ++ K').length = N9 at *
       have hT10 : Tks base (put11 w6 (w.heap.size + 2) (.int .i64 1) (.int .i64 xf) (.int .i64 (wrap64 (wrap64 (xt + vt) - vf))) (.int .i64 0) (.int .i64 0) (.int .i64 0) (.int .i64 0) (.int .i64 0) (.slice A9 N9 c9) (.slice none 0 0) (.bool true)) (.slice A9 N9 c9) (L ++ K') := hT9.grown (grown_put11 (.int .i64 1) (.int .i64 xf) (.int .i64 (wrap64 (wrap64 (xt + vt) - vf))) (.int .i64 0) (.int .i64 0) (.int .i64 0) (.int .i64 0) (.int .i64 0) (.slice A9 N9 c9) (.slice none 0 0) (.bool true)) (fun q e e2 => by
        cases e2
        rcases ho _ e with h | h
        ·have := hlow _ h; omega
        ·omega)
       have hgr10 : w.grownBy (put11 w6 (w.heap.size + 2) (.int .i64 1) (.int .i64 xf) (.int .i64 (wrap64 (wrap64 (xt + vt) - vf))) (.int .i64 0) (.int .i64 0) (.int .i64 0) (.int .i64 0) (.int .i64 0) (.slice A9 N9 c9) (.slice none 0 0) (.bool true)) row := hgr9.andThen (grown_put11 (.int .i64 1) (.int .i64 xf) (.int .i64 (wrap64 (wrap64 (xt + vt) - vf))) (.int .i64 0) (.int .i64 0) (.int .i64 0) (.int .i64 0) (.int .i64 0) (.slice A9 N9 c9) (.slice none 0 0) (.bool true)) (fun j e => .inl (by cases e; omega))
       unfold put11 at hT10 hgr10
       have HFIN := Lib.hid (HE.out _ _ hT10 hgr10 (fun q e => by
        rcases ho q e with h | h
        ·exact .inl h
        ·exact .inr (by omega)))
       clear hT9 hg9 ho9 ho hgr9 hT10 hgr10 HE HT5 HK5 HW5 HB5 HNF5 CG CL CM CB CA CO
       have hq := elevf HZ9.out
       have fz0 := hq.1
       have fz1 := hq.2.1
       have fz2 := hq.2.2.1
       have fz3 := hq.2.2.2.1
       have fz4 := hq.2.2.2.2.1
       have fz5 := hq.2.2.2.2.2.1
       have fz6 := hq.2.2.2.2.2.2.1
       have fz7 := hq.2.2.2.2.2.2.2.1
       have fz8 := hq.2.2.2.2.2.2.2.2.1
       have fz9 := hq.2.2.2.2.2.2.2.2.2.1
       have fz10 := hq.2.2.2.2.2.2.2.2.2.2
       clear hq
       have hq := elev HZ9.out
       have z0 := hq.1
       have z1 := hq.2.1
       have z2 := hq.2.2.1
       have z3 := hq.2.2.2.1
       have z4 := hq.2.2.2.2.1
       have z5 := hq.2.2.2.2.2.1
       have z6 := hq.2.2.2.2.2.2.1
       have z7 := hq.2.2.2.2.2.2.2.1
       have z8 := hq.2.2.2.2.2.2.2.2.1
       have z9 := hq.2.2.2.2.2.2.2.2.2.1
       have z10 := hq.2.2.2.2.2.2.2.2.2.2
       clear hq
       go_wp2
       have hF := elev (put11_at HZ9.out (.int .i64 1) (.int .i64 xf) (.int .i64 (wrap64 (wrap64 (xt + vt) - vf))) (.int .i64 0) (.int .i64 0) (.int .i64 0) (.int .i64 0) (.int .i64 0) (.slice A9 N9 c9) (.slice none 0 0) (.bool true))
       obtain ⟨r0, r1, r2, r3, r4, r5, r6, r7, r8, r9, r10⟩ := hF
       unfold put11 at r0 r1 r2 r3 r4 r5 r6 r7 r8 r9 r10
       refine bodyPost_ret (v := .tuple #[.agg #[.int .i64 1, .int .i64 xf, .int .i64 (wrap64 (wrap64 (xt + vt) - vf)), .int .i64 0, .int .i64 0, .int .i64 0, .int .i64 0, .int .i64 0, .slice A9 N9 c9, .slice none 0 0, .bool true], .bool true]) ?_ rfl HFIN.out
       simp [results, Try.results54, go_sem, r0, r1, r2, r3, r4, r5, r6, r7, r8, r9, r10]
     ·have hss := HB3.out.size
      have hba := (Below.refl wr.heap.size wr).alloc (Nat.le_refl _) (.cells #[.func (.func 97) #[] #[], .func (.func 98) #[] #[]] 140)
      have HNF := Lib.hid (heap_alloc_new wr (.cells #[.func (.func 97) #[] #[], .func (.func 98) #[] #[]] 140))
      have hsq : (wr.alloc (.cells #[.func (.func 97) #[] #[], .func (.func 98) #[] #[]] 140)).heap.size = wr.heap.size + 1 := by simp
      have HW4 := Lib.hid (HW3.out.keep hba)
      have HB4 := Lib.hid (HB3.out.trans (hba.mono hss))
      have HT4 := Lib.hid (HT3.out.belowAll hba)
      have HK4 := Lib.hid (HK3.out.below hba)
      obtain ⟨s0, s1, s2, s3, s4, s5⟩ := six HW3.out.hs
      unfold fnV at s0 s1 s2 s3 s4 s5
      have hq := elev HW4.out.hp
      have p0 := hq.1
      have p1 := hq.2.1
      have p2 := hq.2.2.1
      have p3 := hq.2.2.2.1
      have p4 := hq.2.2.2.2.1
      have p5 := hq.2.2.2.2.2.1
      have p6 := hq.2.2.2.2.2.2.1
      have p7 := hq.2.2.2.2.2.2.2.1
      have p8 := hq.2.2.2.2.2.2.2.2.1
      have p9 := hq.2.2.2.2.2.2.2.2.2.1
      have p10 := hq.2.2.2.2.2.2.2.2.2.2
      clear hq
      have hq := tenc HW4.out.hy
      have o0 := hq.1.1
      have o1 := hq.1.2.1
      have o2 := hq.1.2.2.1
      have o3 := hq.1.2.2.2.1
      have o4 := hq.1.2.2.2.2
      have o5 := hq.2.1
      have o6 := hq.2.2.1
      have o7 := hq.2.2.2.1
      have o8 := hq.2.2.2.2.1
      have o9 := hq.2.2.2.2.2
      clear hq
      clear hba hsq
      go_wp2_with fail
      refine (CL _).mono ?_
      rintro e w4 ⟨rfl, hb4⟩
      clear p0 p1 p2 p3 p4 p5 p6 p7 p8 p9 p10 o0 o1 o2 o3 o4 o5 o6 o7 o8 o9
      clear s0 s1 s2 s3 s4 s5
      have hsa := HB4.out.size
      have HW5 := Lib.hid (HW4.out.keep hb4)
      have HB5 := Lib.hid (HB4.out.trans (hb4.mono hsa))
      have HT5 := Lib.hid (HT4.out.belowAll hb4)
      have HK5 := Lib.hid (HK4.out.below hb4)
      have HNF5 := Lib.hid (hkeep hb4 HNF.out)
      clear hb4 HW3 HB3 HT3 HK3 HW4 HB4 HT4 HK4 HNF
      obtain ⟨Q, hQ⟩ : ∃ q, q = LB := ⟨_, rfl⟩
      rw [← hQ]
      have HQ := Lib.hid hQ
      clear hQ
      cases Q with
      | false =>
       have hQF : LB = false := HQ.out.symm
       have HR : Hid (2 ≤ 2 → LB = false) := Lib.hid (fun h => hQF)
       clear HQ hQF HG0 HG1 HG2 HG3 CG CL CM CB CA CO HNF5
       go_wp2_with fail
       exact ⟨⟨2, rfl, by omega, Lib.hid (fun h => HN1.out (by omega)), HR, Lib.hid (fun h => by omega), HW5, HB5, HT5, HK5⟩, by simp [intOf]⟩
      | true =>
       have hQT : LB = true := HQ.out.symm
       have HE := Lib.hid (HG2.out (HN1.out (by omega)) hQT)
       obtain ⟨nf0, nf1⟩ := twof HNF5.out
       have hq := elev HW5.out.hp
       have p0 := hq.1
       have p1 := hq.2.1
       have p2 := hq.2.2.1
       have p3 := hq.2.2.2.1
       have p4 := hq.2.2.2.2.1
       have p5 := hq.2.2.2.2.2.1
       have p6 := hq.2.2.2.2.2.2.1
       have p7 := hq.2.2.2.2.2.2.2.1
       have p8 := hq.2.2.2.2.2.2.2.2.1
       have p9 := hq.2.2.2.2.2.2.2.2.2.1
       have p10 := hq.2.2.2.2.2.2.2.2.2.2
       clear hq
       have hq := tenc HW5.out.hy
       have o0 := hq.1.1
       have o1 := hq.1.2.1
       have o2 := hq.1.2.2.1
       have o3 := hq.1.2.2.2.1
       have o4 := hq.1.2.2.2.2
       have o5 := hq.2.1
       have o6 := hq.2.2.1
       have o7 := hq.2.2.2.1
       have o8 := hq.2.2.2.2.1
       have o9 := hq.2.2.2.2.2
       clear hq
       clear HQ hQT HG0 HG1 HG2 HG3
       go_wp2_with fail
       refine (CA _ (Nat.le_trans hb HB5.out.size) HT5.out HK5.out).mono ?_
       rintro e w6 ⟨v9, rfl, hT9, hg9, ho9⟩
       clear p0 p1 p2 p3 p4 p5 p6 p7 p8 p9 p10 o0 o1 o2 o3 o4 o5 o6 o7 o8 o9
       clear nf0 nf1
       have hs5 := HB5.out.size
       have HZ9 := Lib.hid (grown_at hg9 HW5.out.hz (fun e => by have := hlow _ e; omega))
       have hgr9 : w.grownBy w6 row := ((grown_below HB5.out).but row).trans hg9
       have ho : ∀ g, v9.ownBlock = some g → row = some g ∨ w.heap.size + 3 ≤ g := fun q e => by
        rcases ho9 q e with h | h
        ·exact .inl h
        ·have := lt_some HW5.out.hz; exact .inr (by omega)
       obtain ⟨A9, c9, rfl⟩ := hT9.form
       generalize (K' ++ L).length = N9 at *
       have hT10 : Tks base (put11 w6 (w.heap.size + 2) (.int .i64 1) (.int .i64 vf) (.int .i64 xt) (.int .i64 0) (.int .i64 0) (.int .i64 0) (.int .i64 0) (.int .i64 0) (.slice A9 N9 c9) (.slice none 0 0) (.bool true)) (.slice A9 N9 c9) (K' ++ L) := hT9.grown (grown_put11 (.int .i64 1) (.int .i64 vf) (.int .i64 xt) (.int .i64 0) (.int .i64 0) (.int .i64 0) (.int .i64 0) (.int .i64 0) (.slice A9 N9 c9) (.slice none 0 0) (.bool true)) (fun q e e2 => by
        cases e2
        rcases ho _ e with h | h
        ·have := hlow _ h; omega
        ·omega)
       have hgr10 : w.grownBy (put11 w6 (w.heap.size + 2) (.int .i64 1) (.int .i64 vf) (.int .i64 xt) (.int .i64 0) (.int .i64 0) (.int .i64 0) (.int .i64 0) (.int .i64 0) (.slice A9 N9 c9) (.slice none 0 0) (.bool true)) row := hgr9.andThen (grown_put11 (.int .i64 1) (.int .i64 vf) (.int .i64 xt) (.int .i64 0) (.int .i64 0) (.int .i64 0) (.int .i64 0) (.int .i64 0) (.slice A9 N9 c9) (.slice none 0 0) (.bool true)) (fun j e => .inl (by cases e; omega))
       unfold put11 at hT10 hgr10
       have HFIN := Lib.hid (HE.out _ _ hT10 hgr10 (fun q e => by
        rcases ho q e with h | h
        ·exact .inl h
        ·exact .inr (by omega)))
       clear hT9 hg9 ho9 ho hgr9 hT10 hgr10 HE HT5 HK5 HW5 HB5 HNF5 CG CL CM CB CA CO
       have hq := elevf HZ9.out
       have fz0 := hq.1
       have fz1 := hq.2.1
       have fz2 := hq.2.2.1
       have fz3 := hq.2.2.2.1
       have fz4 := hq.2.2.2.2.1
       have fz5 := hq.2.2.2.2.2.1
       have fz6 := hq.2.2.2.2.2.2.1
       have fz7 := hq.2.2.2.2.2.2.2.1
       have fz8 := hq.2.2.2.2.2.2.2.2.1
       have fz9 := hq.2.2.2.2.2.2.2.2.2.1
       have fz10 := hq.2.2.2.2.2.2.2.2.2.2
       clear hq
       have hq := elev HZ9.out
       have z0 := hq.1
       have z1 := hq.2.1
       have z2 := hq.2.2.1
       have z3 := hq.2.2.2.1
       have z4 := hq.2.2.2.2.1
       have z5 := hq.2.2.2.2.2.1
       have z6 := hq.2.2.2.2.2.2.1
       have z7 := hq.2.2.2.2.2.2.2.1
       have z8 := hq.2.2.2.2.2.2.2.2.1
       have z9 := hq.2.2.2.2.2.2.2.2.2.1
       have z10 := hq.2.2.2.2.2.2.2.2.2.2
       clear hq
       go_wp2
       have hF := elev (put11_at HZ9.out (.int .i64 1) (.int .i64 vf) (.int .i64 xt) (.int .i64 0) (.int .i64 0) (.int .i64 0) (.int .i64 0) (.int .i64 0) (.slice A9 N9 c9) (.slice none 0 0) (.bool true))
       obtain ⟨r0, r1, r2, r3, r4, r5, r6, r7, r8, r9, r10⟩ := hF
       unfold put11 at r0 r1 r2 r3 r4 r5 r6 r7 r8 r9 r10
       refine bodyPost_ret (v := .tuple #[.agg #[.int .i64 1, .int .i64 vf, .int .i64 xt, .int .i64 0, .int .i64 0, .int .i64 0, .int .i64 0, .int .i64 0, .slice A9 N9 c9, .slice none 0 0, .bool true], .bool true]) ?_ rfl HFIN.out
       simp [results, Try.results54, go_sem, r0, r1, r2, r3, r4, r5, r6, r7, r8, r9, r10]
     ·have hss := HB3.out.size
      have hba := (Below.refl wr.heap.size wr).alloc (Nat.le_refl _) (.cells #[.func (.func 99) #[] #[], .func (.func 100) #[] #[]] 140)
      have HNF := Lib.hid (heap_alloc_new wr (.cells #[.func (.func 99) #[] #[], .func (.func 100) #[] #[]] 140))
      have hsq : (wr.alloc (.cells #[.func (.func 99) #[] #[], .func (.func 100) #[] #[]] 140)).heap.size = wr.heap.size + 1 := by simp
      have HW4 := Lib.hid (HW3.out.keep hba)
      have HB4 := Lib.hid (HB3.out.trans (hba.mono hss))
      have HT4 := Lib.hid (HT3.out.belowAll hba)
      have HK4 := Lib.hid (HK3.out.below hba)
      obtain ⟨s0, s1, s2, s3, s4, s5⟩ := six HW3.out.hs
      unfold fnV at s0 s1 s2 s3 s4 s5
      have hq := elev HW4.out.hp
      have p0 := hq.1
      have p1 := hq.2.1
      have p2 := hq.2.2.1
      have p3 := hq.2.2.2.1
      have p4 := hq.2.2.2.2.1
      have p5 := hq.2.2.2.2.2.1
      have p6 := hq.2.2.2.2.2.2.1
      have p7 := hq.2.2.2.2.2.2.2.1
      have p8 := hq.2.2.2.2.2.2.2.2.1
      have p9 := hq.2.2.2.2.2.2.2.2.2.1
      have p10 := hq.2.2.2.2.2.2.2.2.2.2
      clear hq
      have hq := tenc HW4.out.hy
      have o0 := hq.1.1
      have o1 := hq.1.2.1
      have o2 := hq.1.2.2.1
      have o3 := hq.1.2.2.2.1
      have o4 := hq.1.2.2.2.2
      have o5 := hq.2.1
      have o6 := hq.2.2.1
      have o7 := hq.2.2.2.1
      have o8 := hq.2.2.2.2.1
      have o9 := hq.2.2.2.2.2
      clear hq
      clear hba hsq
      go_wp2_with fail
      refine (CM _).mono ?_
      rintro e w4 ⟨rfl, hb4⟩
      clear p0 p1 p2 p3 p4 p5 p6 p7 p8 p9 p10 o0 o1 o2 o3 o4 o5 o6 o7 o8 o9
      clear s0 s1 s2 s3 s4 s5
      have hsa := HB4.out.size
      have HW5 := Lib.hid (HW4.out.keep hb4)
      have HB5 := Lib.hid (HB4.out.trans (hb4.mono hsa))
      have HT5 := Lib.hid (HT4.out.belowAll hb4)
      have HK5 := Lib.hid (HK4.out.below hb4)
      have HNF5 := Lib.hid (hkeep hb4 HNF.out)
      clear hb4 HW3 HB3 HT3 HK3 HW4 HB4 HT4 HK4 HNF
      obtain ⟨Q, hQ⟩ : ∃ q, q = MB := ⟨_, rfl⟩
      rw [← hQ]
      have HQ := Lib.hid hQ
      clear hQ
      cases Q with
      | false =>
       have hQF : MB = false := HQ.out.symm
       have HR : Hid (3 ≤ 3 → MB = false) := Lib.hid (fun h => hQF)
       clear HQ hQF HG0 HG1 HG2 HG3 CG CL CM CB CA CO HNF5
       go_wp2_with fail
       exact ⟨⟨3, rfl, by omega, Lib.hid (fun h => HN1.out (by omega)), Lib.hid (fun h => HN2.out (by omega)), HR, HW5, HB5, HT5, HK5⟩, by simp [intOf]⟩
      | true =>
       have hQT : MB = true := HQ.out.symm
       have HE := Lib.hid (HG3.out (HN1.out (by omega)) (HN2.out (by omega)) hQT)
       obtain ⟨nf0, nf1⟩ := twof HNF5.out
       have hq := elev HW5.out.hp
       have p0 := hq.1
       have p1 := hq.2.1
       have p2 := hq.2.2.1
       have p3 := hq.2.2.2.1
       have p4 := hq.2.2.2.2.1
       have p5 := hq.2.2.2.2.2.1
       have p6 := hq.2.2.2.2.2.2.1
       have p7 := hq.2.2.2.2.2.2.2.1
       have p8 := hq.2.2.2.2.2.2.2.2.1
       have p9 := hq.2.2.2.2.2.2.2.2.2.1
       have p10 := hq.2.2.2.2.2.2.2.2.2.2
       clear hq
       have hq := tenc HW5.out.hy
       have o0 := hq.1.1
       have o1 := hq.1.2.1
       have o2 := hq.1.2.2.1
       have o3 := hq.1.2.2.2.1
       have o4 := hq.1.2.2.2.2
       have o5 := hq.2.1
       have o6 := hq.2.2.1
       have o7 := hq.2.2.2.1
       have o8 := hq.2.2.2.2.1
       have o9 := hq.2.2.2.2.2
       clear hq
       clear HQ hQT HG0 HG1 HG2 HG3
       go_wp2_with fail
       refine (CO _).mono ?_
       rintro e w6 ⟨rfl, hb6⟩
       clear p0 p1 p2 p3 p4 p5 p6 p7 p8 p9 p10 o0 o1 o2 o3 o4 o5 o6 o7 o8 o9
       clear nf0 nf1
       have HZ9 := Lib.hid (hkeep hb6 HW5.out.hz)
       have hB9 := HB5.out.trans (hb6.mono HB5.out.size)
       have hgr10 : w.grownBy (put11 w6 (w.heap.size + 2) (.int .i64 xk) (.int .i64 (min xf vf)) (.int .i64 (max xt vt)) (.int .i64 0) (.int .i64 0) (.int .i64 0) (.int .i64 xm) (.int .i64 xv) (.slice none 0 0) (.slice none 0 0) (.bool true)) row := ((grown_below hB9).but row).andThen (grown_put11 (.int .i64 xk) (.int .i64 (min xf vf)) (.int .i64 (max xt vt)) (.int .i64 0) (.int .i64 0) (.int .i64 0) (.int .i64 xm) (.int .i64 xv) (.slice none 0 0) (.slice none 0 0) (.bool true)) (fun j e => .inl (by cases e; omega))
       unfold put11 at hgr10
       have HFIN := Lib.hid (HE.out _ hgr10)
       clear hb6 hB9 hgr10 HE HT5 HK5 HW5 HB5 HNF5 CG CL CM CB CA CO
       have hq := elevf HZ9.out
       have fz0 := hq.1
       have fz1 := hq.2.1
       have fz2 := hq.2.2.1
       have fz3 := hq.2.2.2.1
       have fz4 := hq.2.2.2.2.1
       have fz5 := hq.2.2.2.2.2.1
       have fz6 := hq.2.2.2.2.2.2.1
       have fz7 := hq.2.2.2.2.2.2.2.1
       have fz8 := hq.2.2.2.2.2.2.2.2.1
       have fz9 := hq.2.2.2.2.2.2.2.2.2.1
       have fz10 := hq.2.2.2.2.2.2.2.2.2.2
       clear hq
       have hq := elev HZ9.out
       have z0 := hq.1
       have z1 := hq.2.1
       have z2 := hq.2.2.1
       have z3 := hq.2.2.2.1
       have z4 := hq.2.2.2.2.1
       have z5 := hq.2.2.2.2.2.1
       have z6 := hq.2.2.2.2.2.2.1
       have z7 := hq.2.2.2.2.2.2.2.1
       have z8 := hq.2.2.2.2.2.2.2.2.1
       have z9 := hq.2.2.2.2.2.2.2.2.2.1
       have z10 := hq.2.2.2.2.2.2.2.2.2.2
       clear hq
       go_wp2
       have hF := elev (put11_at HZ9.out (.int .i64 xk) (.int .i64 (min xf vf)) (.int .i64 (max xt vt)) (.int .i64 0) (.int .i64 0) (.int .i64 0) (.int .i64 xm) (.int .i64 xv) (.slice none 0 0) (.slice none 0 0) (.bool true))
       obtain ⟨r0, r1, r2, r3, r4, r5, r6, r7, r8, r9, r10⟩ := hF
       unfold put11 at r0 r1 r2 r3 r4 r5 r6 r7 r8 r9 r10
       refine bodyPost_ret (v := .tuple #[.agg #[.int .i64 xk, .int .i64 (min xf vf), .int .i64 (max xt vt), .int .i64 0, .int .i64 0, .int .i64 0, .int .i64 xm, .int .i64 xv, .slice none 0 0, .slice none 0 0, .bool true], .bool true]) ?_ rfl HFIN.out
       simp [results, Try.results54, go_sem, r0, r1, r2, r3, r4, r5, r6, r7, r8, r9, r10]
     ·have hG := HN1.out (by omega)
      have hL := HN2.out (by omega)
      have hM := HN3.out (by omega)
      have HZ9 := Lib.hid HW3.out.hz
      have HE0 := Lib.hid (HG0.out hG hL hM)
      clear HG0 HG1 HG2 HG3 HN1 HN2 HN3 hG hL hM CG CL CM CB CA CO HT3 HK3
      have hq := elevf HZ9.out
      have fz0 := hq.1
      have fz1 := hq.2.1
      have fz2 := hq.2.2.1
      have fz3 := hq.2.2.2.1
      have fz4 := hq.2.2.2.2.1
      have fz5 := hq.2.2.2.2.2.1
      have fz6 := hq.2.2.2.2.2.2.1
      have fz7 := hq.2.2.2.2.2.2.2.1
      have fz8 := hq.2.2.2.2.2.2.2.2.1
      have fz9 := hq.2.2.2.2.2.2.2.2.2.1
      have fz10 := hq.2.2.2.2.2.2.2.2.2.2
      clear hq
      have hq := elev HZ9.out
      have z0 := hq.1
      have z1 := hq.2.1
      have z2 := hq.2.2.1
      have z3 := hq.2.2.2.1
      have z4 := hq.2.2.2.2.1
      have z5 := hq.2.2.2.2.2.1
      have z6 := hq.2.2.2.2.2.2.1
      have z7 := hq.2.2.2.2.2.2.2.1
      have z8 := hq.2.2.2.2.2.2.2.2.1
      have z9 := hq.2.2.2.2.2.2.2.2.2.1
      have z10 := hq.2.2.2.2.2.2.2.2.2.2
      clear hq
      go_wp2
      have hF := elev (put11_at HZ9.out (.int .i64 0) (.int .i64 0) (.int .i64 0) (.int .i64 0) (.int .i64 0) (.int .i64 0) (.int .i64 0) (.int .i64 0) (.slice none 0 0) (.slice none 0 0) (.bool false))
      have hB11 := put11_below HB3.out (B := w.heap.size + 2) (by omega) (.int .i64 0) (.int .i64 0) (.int .i64 0) (.int .i64 0) (.int .i64 0) (.int .i64 0) (.int .i64 0) (.int .i64 0) (.slice none 0 0) (.slice none 0 0) (.bool false)
      obtain ⟨r0, r1, r2, r3, r4, r5, r6, r7, r8, r9, r10⟩ := hF
      unfold put11 at r0 r1 r2 r3 r4 r5 r6 r7 r8 r9 r10 hB11
      refine bodyPost_ret (v := .tuple #[.agg #[.int .i64 0, .int .i64 0, .int .i64 0, .int .i64 0, .int .i64 0, .int .i64 0, .int .i64 0, .int .i64 0, .slice none 0 0, .slice none 0 0, .bool false], .bool false]) ?_ rfl (HE0.out _ hB11)
      simp [results, Try.results54, go_sem, r0, r1, r2, r3, r4, r5, r6, r7, r8, r9, r10]
   ·have hle2 : (20000 : Int) < (L.length : Int) + (n' : Int) := by omega
    have hq := elev HX1.out
    have p0 := hq.1
    have p1 := hq.2.1
    have p2 := hq.2.2.1
    have p3 := hq.2.2.2.1
    have p4 := hq.2.2.2.2.1
    have p5 := hq.2.2.2.2.2.1
    have p6 := hq.2.2.2.2.2.2.1
    have p7 := hq.2.2.2.2.2.2.2.1
    have p8 := hq.2.2.2.2.2.2.2.2.1
    have p9 := hq.2.2.2.2.2.2.2.2.2.1
    have p10 := hq.2.2.2.2.2.2.2.2.2.2
    clear hq
    have hq := tenc HY1.out
    have o0 := hq.1.1
    have o1 := hq.1.2.1
    have o2 := hq.1.2.2.1
    have o3 := hq.1.2.2.2.1
    have o4 := hq.1.2.2.2.2
    have o5 := hq.2.1
    have o6 := hq.2.2.1
    have o7 := hq.2.2.2.1
    have o8 := hq.2.2.2.2.1
    have o9 := hq.2.2.2.2.2
    clear hq
    have hq := elevf HZ1.out
    have fz0 := hq.1
    have fz1 := hq.2.1
    have fz2 := hq.2.2.1
    have fz3 := hq.2.2.2.1
    have fz4 := hq.2.2.2.2.1
    have fz5 := hq.2.2.2.2.2.1
    have fz6 := hq.2.2.2.2.2.2.1
    have fz7 := hq.2.2.2.2.2.2.2.1
    have fz8 := hq.2.2.2.2.2.2.2.2.1
    have fz9 := hq.2.2.2.2.2.2.2.2.2.1
    have fz10 := hq.2.2.2.2.2.2.2.2.2.2
    clear hq
    have hq := elev HZ1.out
    have z0 := hq.1
    have z1 := hq.2.1
    have z2 := hq.2.2.1
    have z3 := hq.2.2.2.1
    have z4 := hq.2.2.2.2.1
    have z5 := hq.2.2.2.2.2.1
    have z6 := hq.2.2.2.2.2.2.1
    have z7 := hq.2.2.2.2.2.2.2.1
    have z8 := hq.2.2.2.2.2.2.2.2.1
    have z9 := hq.2.2.2.2.2.2.2.2.2.1
    have z10 := hq.2.2.2.2.2.2.2.2.2.2
    clear hq
    go_wp2
    have hF := elev (put11_at HZ1.out (.int .i64 0) (.int .i64 0) (.int .i64 0) (.int .i64 0) (.int .i64 0) (.int .i64 0) (.int .i64 0) (.int .i64 0) (.slice none 0 0) (.slice none 0 0) (.bool false))
    have hB11 := put11_below HB1.out (B := w.heap.size + 2) (by omega) (.int .i64 0) (.int .i64 0) (.int .i64 0) (.int .i64 0) (.int .i64 0) (.int .i64 0) (.int .i64 0) (.int .i64 0) (.slice none 0 0) (.slice none 0 0) (.bool false)
    obtain ⟨r0, r1, r2, r3, r4, r5, r6, r7, r8, r9, r10⟩ := hF
    unfold put11 at r0 r1 r2 r3 r4 r5 r6 r7 r8 r9 r10 hB11
    refine bodyPost_ret (v := .tuple #[.agg #[.int .i64 0, .int .i64 0, .int .i64 0, .int .i64 0, .int .i64 0, .int .i64 0, .int .i64 0, .int .i64 0, .slice none 0 0, .slice none 0 0, .bool false], .bool false]) ?_ rfl (by first | exact HFail.out _ hB11 (.inr (.inr (.inl hle))) | exact HFail.out _ hB11 | exact HFail.out _ hB11 (by simp))
    simp [results, Try.results54, go_sem, r0, r1, r2, r3, r4, r5, r6, r7, r8, r9, r10]
end Go.Proofs.Ytlbkfenlbkibgaa.St
