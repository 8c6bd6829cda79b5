/- Steps: their numbers, held against each other. Rows of sets of marks, eight cells each: read; held against each other. -/
import Derived.Test.YtgodphfkhmahnaaStB
import Derived.ChangeKeysEq
import Derived.Laws.StructEq
import Derived.Test.YtgodphfkhmahnaaTkEq
namespace Go.Proofs.Ytgodphfkhmahnaa.St
open Go.RowKit Mem Sm
set_option linter.unusedVariables false

set_option maxRecDepth 100000 in
theorem eq_nums (d : Nat) (a b c e f g h i a' b' c' e' f' g' h' i' : Int) (w : World) :
    (Op.equalIn (d + 1 + 1) 180 (.agg #[.int .i64 a, .int .i64 b, .int .i64 c, .int .i64 e, .int .i64 f, .int .i64 g, .int .i64 h, .int .i64 i]) (.agg #[.int .i64 a', .int .i64 b', .int .i64 c', .int .i64 e', .int .i64 f', .int .i64 g', .int .i64 h', .int .i64 i'])).run Try.prog w =
      .ok ((a == a') && ((b == b') && ((c == c') && ((e == e') && ((f == f') && ((g == g') && ((h == h') && (i == i')))))))) w := by
  obtain ⟨i0, hi⟩ : ∃ i, Try.prog.info? 3 = some i := Option.isSome_iff_exists.1 (by kernel_rfl)
  have hu : Try.prog.underlying 180 = some (.array 8 3) := by kernel_rfl
  have h16 : Try.prog.underlying 3 = some (.int .i64) := by kernel_rfl
  rw [run_equalIn_array w (d + 1) (n := 8) (e := 3) _ _ hu hi, show List.range 8 = [0, 1, 2, 3, 4, 5, 6, 7] from rfl]
  have p : ∀ (a b c e f g h i : Int) (w : World), (part 3 #[.int .i64 a, .int .i64 b, .int .i64 c, .int .i64 e, .int .i64 f, .int .i64 g, .int .i64 h, .int .i64 i] (0 * Try.prog.cellsOf 3)).run Try.prog w = .ok (.int .i64 a) w ∧ (part 3 #[.int .i64 a, .int .i64 b, .int .i64 c, .int .i64 e, .int .i64 f, .int .i64 g, .int .i64 h, .int .i64 i] (1 * Try.prog.cellsOf 3)).run Try.prog w = .ok (.int .i64 b) w ∧ (part 3 #[.int .i64 a, .int .i64 b, .int .i64 c, .int .i64 e, .int .i64 f, .int .i64 g, .int .i64 h, .int .i64 i] (2 * Try.prog.cellsOf 3)).run Try.prog w = .ok (.int .i64 c) w ∧ (part 3 #[.int .i64 a, .int .i64 b, .int .i64 c, .int .i64 e, .int .i64 f, .int .i64 g, .int .i64 h, .int .i64 i] (3 * Try.prog.cellsOf 3)).run Try.prog w = .ok (.int .i64 e) w ∧ (part 3 #[.int .i64 a, .int .i64 b, .int .i64 c, .int .i64 e, .int .i64 f, .int .i64 g, .int .i64 h, .int .i64 i] (4 * Try.prog.cellsOf 3)).run Try.prog w = .ok (.int .i64 f) w ∧ (part 3 #[.int .i64 a, .int .i64 b, .int .i64 c, .int .i64 e, .int .i64 f, .int .i64 g, .int .i64 h, .int .i64 i] (5 * Try.prog.cellsOf 3)).run Try.prog w = .ok (.int .i64 g) w ∧ (part 3 #[.int .i64 a, .int .i64 b, .int .i64 c, .int .i64 e, .int .i64 f, .int .i64 g, .int .i64 h, .int .i64 i] (6 * Try.prog.cellsOf 3)).run Try.prog w = .ok (.int .i64 h) w ∧ (part 3 #[.int .i64 a, .int .i64 b, .int .i64 c, .int .i64 e, .int .i64 f, .int .i64 g, .int .i64 h, .int .i64 i] (7 * Try.prog.cellsOf 3)).run Try.prog w = .ok (.int .i64 i) w :=
    fun a b c e f g h i w => ⟨by kernel_rfl, by kernel_rfl, by kernel_rfl, by kernel_rfl, by kernel_rfl, by kernel_rfl, by kernel_rfl, by kernel_rfl⟩
  obtain ⟨q0, q1, q2, q3, q4, q5, q6, q7⟩ := p a b c e f g h i w
  obtain ⟨r0, r1, r2, r3, r4, r5, r6, r7⟩ := p a' b' c' e' f' g' h' i' w
  have eqi : ∀ (x y : Int) (w : World), (Op.equalIn (d + 1) 3 (.int .i64 x) (.int .i64 y)).run Try.prog w = .ok (x == y) w := fun x y w => run_equalIn_int w d _ _ _ _ _ h16
  have st : ∀ (j : Nat) (js : List Nat) (x y : Int) (xs ys : Array Value) (R : Bool) (w : World), (part 3 xs (j * Try.prog.cellsOf 3)).run Try.prog w = .ok (.int .i64 x) w → (part 3 ys (j * Try.prog.cellsOf 3)).run Try.prog w = .ok (.int .i64 y) w →
      (Op.eqItems (d + 1) 3 (Try.prog.cellsOf 3) xs ys js).run Try.prog w = .ok R w → (Op.eqItems (d + 1) 3 (Try.prog.cellsOf 3) xs ys (j :: js)).run Try.prog w = .ok ((x == y) && R) w := by
    intro j js x y xs ys R w h1 h2 h3
    unfold Op.eqItems
    simp only [Sem.run_bind, h1, h2, Result.andThen_ok, eqi]
    cases x == y
    · simp
    · simpa using h3
  refine st 0 _ _ _ _ _ _ w q0 r0 ?_
  refine st 1 _ _ _ _ _ _ w q1 r1 ?_
  refine st 2 _ _ _ _ _ _ w q2 r2 ?_
  refine st 3 _ _ _ _ _ _ w q3 r3 ?_
  refine st 4 _ _ _ _ _ _ w q4 r4 ?_
  refine st 5 _ _ _ _ _ _ w q5 r5 ?_
  refine st 6 _ _ _ _ _ _ w q6 r6 ?_
  rw [st 7 [] _ _ _ _ true w q7 r7 (by simp [Op.eqItems])]
  simp
def numV (x : Sp) : Value := .agg #[.int .i64 x.kind, .int .i64 x.from_, .int .i64 x.to_, .int .i64 x.gf, .int .i64 x.gt, .int .i64 x.ins, .int .i64 x.mark, .int .i64 x.val]
theorem eq_num (d : Nat) (x y : Sp) (w : World) : (Op.equalIn (d + 1 + 1) 180 (numV x) (numV y)).run Try.prog w = .ok (decide (x = y)) w := by
  unfold numV
  rw [eq_nums]
  congr 1
  obtain ⟨a, b, c, e, f, g, h, i⟩ := x
  obtain ⟨a', b', c', e', f', g', h', i'⟩ := y
  rw [Bool.eq_iff_iff]
  simp
set_option maxRecDepth 100000 in
set_option maxHeartbeats 4000000 in
theorem numbers_any (x : Sp) (A B : Option Addr) (n m c d : Nat) (w : World) : Calls Try.prog 105 #[stV x (.slice A n c) (.slice B m d)] w fun e w' => e = .returned (numV x) ∧ Below w.heap.size w w' := by
  obtain ⟨xk, xf, xt, xg, xh, xi, xm, xv⟩ := x
  unfold stV stC numV
  simp only
  have s1 : (w.alloc (.cells #[.int .i64 xk, .int .i64 xf, .int .i64 xt, .int .i64 xg, .int .i64 xh, .int .i64 xi, .int .i64 xm, .int .i64 xv, .slice A n c, .slice B m d] 25)).heap.size = w.heap.size + 1 := by simp
  have HB := Lib.hid (((Below.refl _ w).alloc (Nat.le_refl _) (.cells #[.int .i64 xk, .int .i64 xf, .int .i64 xt, .int .i64 xg, .int .i64 xh, .int .i64 xi, .int .i64 xm, .int .i64 xv, .slice A n c, .slice B m d] 25)).alloc (by simp) (.cells #[.int .i64 xk, .int .i64 xf, .int .i64 xt, .int .i64 xg, .int .i64 xh, .int .i64 xi, .int .i64 xm, .int .i64 xv] 180))
  have HR := heap_alloc_new (w.alloc (.cells #[.int .i64 xk, .int .i64 xf, .int .i64 xt, .int .i64 xg, .int .i64 xh, .int .i64 xi, .int .i64 xm, .int .i64 xv, .slice A n c, .slice B m d] 25)) (.cells #[.int .i64 xk, .int .i64 xf, .int .i64 xt, .int .i64 xg, .int .i64 xh, .int .i64 xi, .int .i64 xm, .int .i64 xv] 180)
  have hb2 : ((w.alloc (.cells #[.int .i64 xk, .int .i64 xf, .int .i64 xt, .int .i64 xg, .int .i64 xh, .int .i64 xi, .int .i64 xm, .int .i64 xv, .slice A n c, .slice B m d] 25)).alloc (.cells #[.int .i64 0, .int .i64 0, .int .i64 0, .int .i64 0, .int .i64 0, .int .i64 0, .int .i64 0, .int .i64 0] 180)).heap[w.heap.size]? = some (.cells #[.int .i64 xk, .int .i64 xf, .int .i64 xt, .int .i64 xg, .int .i64 xh, .int .i64 xi, .int .i64 xm, .int .i64 xv, .slice A n c, .slice B m d] 25 (0, 0)) := by
    rw [Below.heap_alloc _ _ _ (by simp), heap_alloc_new]
  rw [s1] at HR
  obtain ⟨⟨y0, y1, y2, y3, y4⟩, y5, y6, y7, y8, y9⟩ := tenc hb2
  have HR2 := Lib.hid HR
  clear hb2 HR s1
  go_enter Try.func105, Try.ntmps105
  go_wp2
  have HR := HR2.out
  have hc : ∀ (j : Nat) (u : Value), (#[.int .i64 xk, .int .i64 xf, .int .i64 xt, .int .i64 xg, .int .i64 xh, .int .i64 xi, .int .i64 xm, .int .i64 xv] : Array Value)[j]? = some u → ((w.alloc (.cells #[.int .i64 xk, .int .i64 xf, .int .i64 xt, .int .i64 xg, .int .i64 xh, .int .i64 xi, .int .i64 xm, .int .i64 xv, .slice A n c, .slice B m d] 25)).alloc (.cells #[.int .i64 xk, .int .i64 xf, .int .i64 xt, .int .i64 xg, .int .i64 xh, .int .i64 xi, .int .i64 xm, .int .i64 xv] 180)).cell? ⟨w.heap.size + 1, j, none⟩ = some u := fun j u hj => by simp only [World.cell?, HR]; exact hj
  have r0 := hc 0 _ rfl
  have r1 := hc 1 _ rfl
  have r2 := hc 2 _ rfl
  have r3 := hc 3 _ rfl
  have r4 := hc 4 _ rfl
  have r5 := hc 5 _ rfl
  have r6 := hc 6 _ rfl
  have r7 := hc 7 _ rfl
  refine bodyPost_ret (v := .agg #[.int .i64 xk, .int .i64 xf, .int .i64 xt, .int .i64 xg, .int .i64 xh, .int .i64 xi, .int .i64 xm, .int .i64 xv]) ?_ rfl ⟨rfl, HB.out⟩
  simp [results, Try.results105, go_sem, r0, r1, r2, r3, r4, r5, r6, r7]
end Go.Proofs.Ytgodphfkhmahnaa.St
namespace Go.Proofs.Ytgodphfkhmahnaa.Tk
open Go.RowKit Mem
set_option linter.unusedVariables false

structure Mk where
  a : Int
  b : Int
  c : Int
  d : Int
  e : Int
  f : Int
  g : Int
  h : Int
  deriving DecidableEq
def mcells (x : Mk) : List Value := [.int .u16 x.a, .int .u16 x.b, .int .u16 x.c, .int .u16 x.d, .int .u16 x.e, .int .u16 x.f, .int .u16 x.g, .int .u16 x.h]
def mkV (x : Mk) : Value := .agg #[.int .u16 x.a, .int .u16 x.b, .int .u16 x.c, .int .u16 x.d, .int .u16 x.e, .int .u16 x.f, .int .u16 x.g, .int .u16 x.h]
/-- the cells of one set -/
def At8 (w : World) (b o : Nat) (x : Mk) : Prop := ∀ j v, (mcells x)[j]? = some v → w.cell? ⟨b, o + j, none⟩ = some v
theorem At8.cells {w : World} {b o : Nat} {x : Mk} (h : At8 w b o x) :
    w.cell? ⟨b, o, none⟩ = some (.int .u16 x.a) ∧ w.cell? ⟨b, o + 1, none⟩ = some (.int .u16 x.b) ∧ w.cell? ⟨b, o + 2, none⟩ = some (.int .u16 x.c) ∧ w.cell? ⟨b, o + 3, none⟩ = some (.int .u16 x.d) ∧ w.cell? ⟨b, o + 4, none⟩ = some (.int .u16 x.e) ∧ w.cell? ⟨b, o + 5, none⟩ = some (.int .u16 x.f) ∧ w.cell? ⟨b, o + 6, none⟩ = some (.int .u16 x.g) ∧ w.cell? ⟨b, o + 7, none⟩ = some (.int .u16 x.h) :=
  ⟨h 0 _ rfl, h 1 _ rfl, h 2 _ rfl, h 3 _ rfl, h 4 _ rfl, h 5 _ rfl, h 6 _ rfl, h 7 _ rfl⟩
theorem At8.keep {w w' : World} {b o : Nat} {x : Mk} (h : At8 w b o x) (hk : ∀ p, w'.cell? ⟨b, p, none⟩ = w.cell? ⟨b, p, none⟩) : At8 w' b o x := fun j v hv => (hk _).trans (h j v hv)
def MkRow (w : World) (A : Option Addr) (n : Nat) (l : List Mk) : Prop :=
  l.length = n ∧ (0 < n → ∃ b off, A = some ⟨b, off, none⟩ ∧ b < w.heap.size ∧ ∀ j (h : j < l.length), At8 w b (off + j * 8) l[j])
section
variable {w w' : World} {A : Option Addr} {n : Nat} {l : List Mk}
theorem MkRow.nil : MkRow w A 0 [] := ⟨rfl, fun h => absurd h (by omega)⟩
theorem MkRow.below (h : MkRow w A n l) (hb : Below w.heap.size w w') : MkRow w' A n l :=
  ⟨h.1, fun hn => by
    obtain ⟨b, off, e, hl, hc⟩ := h.2 hn
    exact ⟨b, off, e, Nat.lt_of_lt_of_le hl hb.size, fun j hj => (hc j hj).keep fun p => hb.cell (p := ⟨b, p, none⟩) hl⟩⟩
end
theorem eq_mk (d : Nat) (x y : Mk) (w : World) : (Op.equalIn (d + 1 + 1) 99 (mkV x) (mkV y)).run Try.prog w = .ok (decide (x = y)) w := by
  unfold mkV
  rw [eq_marks]
  congr 1
  obtain ⟨a, b, c, e, f, g, h, i⟩ := x
  obtain ⟨a', b', c', e', f', g', h', i'⟩ := y
  rw [Bool.eq_iff_iff]
  simp
set_option maxRecDepth 100000 in
set_option maxHeartbeats 1000000 in
theorem equal_mk (l m : List Mk) (A B : Option Addr) (n n' cap cap' : Nat) (w : World) (hr : MkRow w A n l) (hr' : MkRow w B n' m) (hn : n ≤ 9223372036854775807) (hn' : n' ≤ 9223372036854775807) :
    Calls Try.prog 106 #[.slice A n cap, .slice B n' cap'] w fun e w' => e = .returned (.bool (decide (l = m))) ∧ ∃ q, w' = w.drewN q := by
  have HR := Lib.hid hr
  have HR' := Lib.hid hr'
  have HL := Lib.hid hr.1
  have HL' := Lib.hid hr'.1
  obtain ⟨s, hs⟩ : ∃ x, x = decide (l = m) := ⟨_, rfl⟩
  rw [← hs]
  have HS := Lib.hid hs
  clear hr hr' hs
  by_cases hnn : n = n'
  · subst hnn
    go_enter Try.func106, Try.ntmps106
    go_wp2
    go_loopw [13] (fun j wr => ∃ (i : Nat), i ≤ n ∧ j = .int .i64 i ∧ Hid (l.take i = m.take i) ∧ ∃ q, wr = w.drewN q) (fun j _ => n - (intOf j).toNat)
    case atStart => exact ⟨0, by omega, by simp, Lib.hid rfl, 0, rfl⟩
    case round =>
      obtain ⟨i, hi, rfl, HO, q, rfl⟩ := hrel
      by_cases hlt : i < n
      · obtain ⟨bl, off, rfl, hbl, hcells⟩ := HR.out.2 (by omega)
        obtain ⟨bl', off', rfl, hbl', hcells'⟩ := HR'.out.2 (by omega)
        have hi' : i < l.length := by have := HL.out; omega
        have hi2 : i < m.length := by have := HL'.out; omega
        obtain ⟨c0, c1, c2, c3, c4, c5, c6, c7⟩ := (hcells i hi').cells
        obtain ⟨d0, d1, d2, d3, d4, d5, d6, d7⟩ := (hcells' i hi2).cells
        have TS : Hid (l.take (i + 1) = l.take i ++ [l[i]]) := Lib.hid (by rw [List.take_succ_eq_append_getElem hi'])
        have TS' : Hid (m.take (i + 1) = m.take i ++ [m[i]]) := Lib.hid (by rw [List.take_succ_eq_append_getElem hi2])
        have NE : Hid (l[i] ≠ m[i] → l ≠ m) := Lib.hid (fun h e => h (by subst e; rfl))
        clear hcells hcells'
        have EQ : ∀ W : World, (Op.equalIn 10000 99 (mkV l[i]) (mkV m[i])).run Try.prog W = .ok (decide (l[i] = m[i])) W := fun W => eq_mk 9998 _ _ W
        by_cases he : l[i] = m[i]
        · have N1 : Hid (l.take (i + 1) = m.take (i + 1)) := Lib.hid (by rw [TS.out, TS'.out, HO.out, he])
          have EQ' : ∀ W : World, (Op.equalIn 10000 99 (mkV l[i]) (mkV m[i])).run Try.prog W = .ok true W := fun W => by rw [EQ W]; simp [he]
          clear EQ NE TS TS' he
          generalize hK : l[i] = x at *
          generalize hK' : m[i] = y at *
          obtain ⟨ma, mb, mc, md, me, mf, mg, mh⟩ := x
          obtain ⟨ya, yb, yc, yd, ye, yf, yg, yh⟩ := y
          unfold mkV at EQ'
          simp only at c0 c1 c2 c3 c4 c5 c6 c7 d0 d1 d2 d3 d4 d5 d6 d7 EQ'
          clear hK hK' hbl hbl'
          go_wp2_with fail
          go_quiet (fail)
          go_wp2
          go_roundw
          case rel => exact ⟨i + 1, by omega, by go_num, N1, _, rfl⟩
          case measure => simp [intOf]; omega
        · have N1 : Hid (s = false) := Lib.hid (by rw [HS.out]; simpa using NE.out he)
          have EQ' : ∀ W : World, (Op.equalIn 10000 99 (mkV l[i]) (mkV m[i])).run Try.prog W = .ok false W := fun W => by rw [EQ W]; simp [he]
          clear EQ NE TS TS' he
          generalize hK : l[i] = x at *
          generalize hK' : m[i] = y at *
          obtain ⟨ma, mb, mc, md, me, mf, mg, mh⟩ := x
          obtain ⟨ya, yb, yc, yd, ye, yf, yg, yh⟩ := y
          unfold mkV at EQ'
          simp only at c0 c1 c2 c3 c4 c5 c6 c7 d0 d1 d2 d3 d4 d5 d6 d7 EQ'
          clear hK hK' hbl hbl'
          go_wp2_with fail
          go_quiet (fail)
          go_wp2
          go_ret
          exact ⟨by rw [N1.out]; rfl, q + nq, by rw [World.drewN_drewN]⟩
      · obtain rfl : i = n := by omega
        go_wp2
        go_ret
        have hT : l.take i = l := by rw [List.take_of_length_le]; rw [HL.out]; exact Nat.le_refl _
        have hT' : m.take i = m := by rw [List.take_of_length_le]; rw [HL'.out]; exact Nat.le_refl _
        have h := HO.out
        rw [hT, hT'] at h
        exact ⟨by rw [HS.out, h]; simp, _, rfl⟩
  · have N1 : Hid (s = false) := Lib.hid (by rw [HS.out]; simp; intro e; exact hnn (by rw [← HL.out, ← HL'.out, e]))
    have hne : ((n : Int) == (n' : Int)) = false := by rw [beq_eq_false_iff_ne]; omega
    go_enter Try.func106, Try.ntmps106
    go_wp2
    go_ret
    exact ⟨by rw [N1.out]; rfl, 0, rfl⟩
set_option maxRecDepth 100000 in
set_option maxHeartbeats 1000000 in
theorem rsets_any (l m : List Mk) (A B : Option Addr) (n n' cap cap' : Nat) (w : World) (hr : MkRow w A n l) (hr' : MkRow w B n' m) (hn : n ≤ 9223372036854775807) (hn' : n' ≤ 9223372036854775807) :
    Calls Try.prog 50 #[.slice A n cap, .slice B n' cap'] w fun e w' => e = .returned (.bool (decide (l = m))) ∧ ∃ q, w' = w.drewN q := by
  have HR := Lib.hid hr
  have HR' := Lib.hid hr'
  have HL := Lib.hid hr.1
  have HL' := Lib.hid hr'.1
  obtain ⟨s, hs⟩ : ∃ x, x = decide (l = m) := ⟨_, rfl⟩
  rw [← hs]
  have HS := Lib.hid hs
  clear hr hr' hs
  by_cases hnn : n = n'
  · subst hnn
    go_enter Try.func50, Try.ntmps50
    go_wp2
    go_loopw [5] (fun j wr => ∃ (i : Nat), i ≤ n ∧ j = .int .i64 i ∧ Hid (l.take i = m.take i) ∧ ∃ q, wr = w.drewN q) (fun j _ => n - (intOf j).toNat)
    case atStart => exact ⟨0, by omega, by simp, Lib.hid rfl, 0, rfl⟩
    case round =>
      obtain ⟨i, hi, rfl, HO, q, rfl⟩ := hrel
      by_cases hlt : i < n
      · obtain ⟨bl, off, rfl, hbl, hcells⟩ := HR.out.2 (by omega)
        obtain ⟨bl', off', rfl, hbl', hcells'⟩ := HR'.out.2 (by omega)
        have hi' : i < l.length := by have := HL.out; omega
        have hi2 : i < m.length := by have := HL'.out; omega
        obtain ⟨c0, c1, c2, c3, c4, c5, c6, c7⟩ := (hcells i hi').cells
        obtain ⟨d0, d1, d2, d3, d4, d5, d6, d7⟩ := (hcells' i hi2).cells
        have TS : Hid (l.take (i + 1) = l.take i ++ [l[i]]) := Lib.hid (by rw [List.take_succ_eq_append_getElem hi'])
        have TS' : Hid (m.take (i + 1) = m.take i ++ [m[i]]) := Lib.hid (by rw [List.take_succ_eq_append_getElem hi2])
        have NE : Hid (l[i] ≠ m[i] → l ≠ m) := Lib.hid (fun h e => h (by subst e; rfl))
        clear hcells hcells'
        have EQ : ∀ W : World, (Op.equalIn 10000 99 (mkV l[i]) (mkV m[i])).run Try.prog W = .ok (decide (l[i] = m[i])) W := fun W => eq_mk 9998 _ _ W
        by_cases he : l[i] = m[i]
        · have N1 : Hid (l.take (i + 1) = m.take (i + 1)) := Lib.hid (by rw [TS.out, TS'.out, HO.out, he])
          have EQ' : ∀ W : World, (Op.equalIn 10000 99 (mkV l[i]) (mkV m[i])).run Try.prog W = .ok true W := fun W => by rw [EQ W]; simp [he]
          clear EQ NE TS TS' he
          generalize hK : l[i] = x at *
          generalize hK' : m[i] = y at *
          obtain ⟨ma, mb, mc, md, me, mf, mg, mh⟩ := x
          obtain ⟨ya, yb, yc, yd, ye, yf, yg, yh⟩ := y
          unfold mkV at EQ'
          simp only at c0 c1 c2 c3 c4 c5 c6 c7 d0 d1 d2 d3 d4 d5 d6 d7 EQ'
          clear hK hK' hbl hbl'
          go_wp2_with fail
          go_quiet (fail)
          go_wp2
          go_roundw
          case rel => exact ⟨i + 1, by omega, by go_num, N1, _, rfl⟩
          case measure => simp [intOf]; omega
        · have N1 : Hid (s = false) := Lib.hid (by rw [HS.out]; simpa using NE.out he)
          have EQ' : ∀ W : World, (Op.equalIn 10000 99 (mkV l[i]) (mkV m[i])).run Try.prog W = .ok false W := fun W => by rw [EQ W]; simp [he]
          clear EQ NE TS TS' he
          generalize hK : l[i] = x at *
          generalize hK' : m[i] = y at *
          obtain ⟨ma, mb, mc, md, me, mf, mg, mh⟩ := x
          obtain ⟨ya, yb, yc, yd, ye, yf, yg, yh⟩ := y
          unfold mkV at EQ'
          simp only at c0 c1 c2 c3 c4 c5 c6 c7 d0 d1 d2 d3 d4 d5 d6 d7 EQ'
          clear hK hK' hbl hbl'
          go_wp2_with fail
          go_quiet (fail)
          go_wp2
          go_ret
          exact ⟨by rw [N1.out]; rfl, q + nq, by rw [World.drewN_drewN]⟩
      · obtain rfl : i = n := by omega
        go_wp2
        go_ret
        have hT : l.take i = l := by rw [List.take_of_length_le]; rw [HL.out]; exact Nat.le_refl _
        have hT' : m.take i = m := by rw [List.take_of_length_le]; rw [HL'.out]; exact Nat.le_refl _
        have h := HO.out
        rw [hT, hT'] at h
        exact ⟨by rw [HS.out, h]; simp, _, rfl⟩
  · have N1 : Hid (s = false) := Lib.hid (by rw [HS.out]; simp; intro e; exact hnn (by rw [← HL.out, ← HL'.out, e]))
    have hne : ((n : Int) == (n' : Int)) = false := by rw [beq_eq_false_iff_ne]; omega
    go_enter Try.func50, Try.ntmps50
    go_wp2
    go_ret
    exact ⟨by rw [N1.out]; rfl, 0, rfl⟩
end Go.Proofs.Ytgodphfkhmahnaa.Tk
