/- Steps: their numbers, held against each other. -/
import Derived.Test.YtlbkfenlbkibgaaStB
import Derived.ChangeKeysEq
import Derived.Laws.StructEq
set_option linter.unusedVariables false
set_option maxRecDepth 100000
set_option maxHeartbeats 4000000
namespace Go.Proofs.Ytlbkfenlbkibgaa.St
open Go.RowKit Mem Sm
theorem eq_nums (d : Nat) (a b c e f g h i a' b' c' e' f' g' h' i' : Int) (w : World) :
  (Op.equalIn (d + 1 + 1) 180 (.agg #[.int .i64 a, .int .i64 b, .int .i64 c, .int .i64 e, .int .i64 f, .int .i64 g, .int .i64 h, .int .i64 i]) (.agg #[.int .i64 a', .int .i64 b', .int .i64 c', .int .i64 e', .int .i64 f', .int .i64 g', .int .i64 h', .int .i64 i'])).run Try.prog w =
   .ok ((a == a') && ((b == b') && ((c == c') && ((e == e') && ((f == f') && ((g == g') && ((h == h') && (i == i')))))))) w := by
 obtain ⟨i0, hi⟩ : ∃ i, Try.prog.info? 3 = some i := Option.isSome_iff_exists.1 (by kernel_rfl)
 have hu : Try.prog.underlying 180 = some (.array 8 3) := by kernel_rfl
 have h16 : Try.prog.underlying 3 = some (.int .i64) := by kernel_rfl
 rw [run_equalIn_array w (d + 1) (n := 8) (e := 3) _ _ hu hi, show List.range 8 = [0, 1, 2, 3, 4, 5, 6, 7] from rfl]
 have p : ∀ (a b c e f g h i : Int) (w : World), (part 3 #[.int .i64 a, .int .i64 b, .int .i64 c, .int .i64 e, .int .i64 f, .int .i64 g, .int .i64 h, .int .i64 i] (0 * Try.prog.cellsOf 3)).run Try.prog w = .ok (.int .i64 a) w ∧ (part 3 #[.int .i64 a, .int .i64 b, .int .i64 c, .int .i64 e, .int .i64 f, .int .i64 g, .int .i64 h, .int .i64 i] (1 * Try.prog.cellsOf 3)).run Try.prog w = .ok (.int .i64 b) w ∧ (part 3 #[.int .i64 a, .int .i64 b, .int .i64 c, .int .i64 e, .int .i64 f, .int .i64 g, .int .i64 h, .int .i64 i] (2 * Try.prog.cellsOf 3)).run Try.prog w = .ok (.int .i64 c) w ∧ (part 3 #[.int .i64 a, .int .i64 b, .int .i64 c, .int .i64 e, .int .i64 f, .int .i64 g, .int .i64 h, .int .i64 i] (3 * Try.prog.cellsOf 3)).run Try.prog w = .ok (.int .i64 e) w ∧ (part 3 #[.int .i64 a, .int .i64 b, .int .i64 c, .int .i64 e, .int .i64 f, .int .i64 g, .int .i64 h, .int .i64 i] (4 * Try.prog.cellsOf 3)).run Try.prog w = .ok (.int .i64 f) w ∧ (part 3 #[.int .i64 a, .int .i64 b, .int .i64 c, .int .i64 e, .int .i64 f, .int .i64 g, .int .i64 h, .int .i64 i] (5 * Try.prog.cellsOf 3)).run Try.prog w = .ok (.int .i64 g) w ∧ (part 3 #[.int .i64 a, .int .i64 b, .int .i64 c, .int .i64 e, .int .i64 f, .int .i64 g, .int .i64 h, .int .i64 i] (6 * Try.prog.cellsOf 3)).run Try.prog w = .ok (.int .i64 h) w ∧ (part 3 #[.int .i64 a, .int .i64 b, .int .i64 c, .int .i64 e, .int .i64 f, .int .i64 g, .int .i64 h, .int .i64 i] (7 * Try.prog.cellsOf 3)).run Try.prog w = .ok (.int .i64 i) w :=
  fun a b c e f g h i w => ⟨by kernel_rfl, by kernel_rfl, by kernel_rfl, by kernel_rfl, by kernel_rfl, by kernel_rfl, by kernel_rfl, by kernel_rfl⟩
 obtain ⟨q0, q1, q2, q3, q4, q5, q6, q7⟩ := p a b c e f g h i w
 obtain ⟨r0, r1, r2, r3, r4, r5, r6, r7⟩ := p a' b' c' e' f' g' h' i' w
 have eqi : ∀ (x y : Int) (w : World), (Op.equalIn (d + 1) 3 (.int .i64 x) (.int .i64 y)).run Try.prog w = .ok (x == y) w := fun x y w => run_equalIn_int w d _ _ _ _ _ h16
 have st : ∀ (j : Nat) (js : List Nat) (x y : Int) (xs ys : Array Value) (R : Bool) (w : World), (part 3 xs (j * Try.prog.cellsOf 3)).run Try.prog w = .ok (.int .i64 x) w → (part 3 ys (j * Try.prog.cellsOf 3)).run Try.prog w = .ok (.int .i64 y) w →
   (Op.eqItems (d + 1) 3 (Try.prog.cellsOf 3) xs ys js).run Try.prog w = .ok R w → (Op.eqItems (d + 1) 3 (Try.prog.cellsOf 3) xs ys (j :: js)).run Try.prog w = .ok ((x == y) && R) w := by
  intro j js x y xs ys R w h1 h2 h3
  unfold Op.eqItems
  simp only [Sem.run_bind, h1, h2, Result.andThen_ok, eqi]
  cases x == y
  ·simp
  ·simpa using h3
 refine st 0 _ _ _ _ _ _ w q0 r0 ?_
 refine st 1 _ _ _ _ _ _ w q1 r1 ?_
 refine st 2 _ _ _ _ _ _ w q2 r2 ?_
 refine st 3 _ _ _ _ _ _ w q3 r3 ?_
 refine st 4 _ _ _ _ _ _ w q4 r4 ?_
 refine st 5 _ _ _ _ _ _ w q5 r5 ?_
 refine st 6 _ _ _ _ _ _ w q6 r6 ?_
 rw [st 7 [] _ _ _ _ true w q7 r7 (by simp [Op.eqItems])]
 simp
def numV (x : Sp) : Value := .agg #[.int .i64 x.kind, .int .i64 x.from_, .int .i64 x.to_, .int .i64 x.gf, .int .i64 x.gt, .int .i64 x.ins, .int .i64 x.mark, .int .i64 x.val]
theorem eq_num (d : Nat) (x y : Sp) (w : World) : (Op.equalIn (d + 1 + 1) 180 (numV x) (numV y)).run Try.prog w = .ok (decide (x = y)) w := by
 unfold numV
 rw [eq_nums]
 congr 1
 obtain ⟨a, b, c, e, f, g, h, i⟩ := x
 obtain ⟨a', b', c', e', f', g', h', i'⟩ := y
 rw [Bool.eq_iff_iff]
 simp
theorem numbers_any (x : Sp) (A B : Option Addr) (n m c d : Nat) (w : World) : Calls Try.prog 105 #[stV x (.slice A n c) (.slice B m d)] w fun e w' => e = .returned (numV x) ∧ Below w.heap.size w w' := by
 obtain ⟨xk, xf, xt, xg, xh, xi, xm, xv⟩ := x
 unfold stV stC numV
 simp only
 have s1 : (w.alloc (.cells #[.int .i64 xk, .int .i64 xf, .int .i64 xt, .int .i64 xg, .int .i64 xh, .int .i64 xi, .int .i64 xm, .int .i64 xv, .slice A n c, .slice B m d] 25)).heap.size = w.heap.size + 1 := by simp
 have HB := Lib.hid (((Below.refl _ w).alloc (Nat.le_refl _) (.cells #[.int .i64 xk, .int .i64 xf, .int .i64 xt, .int .i64 xg, .int .i64 xh, .int .i64 xi, .int .i64 xm, .int .i64 xv, .slice A n c, .slice B m d] 25)).alloc (by simp) (.cells #[.int .i64 xk, .int .i64 xf, .int .i64 xt, .int .i64 xg, .int .i64 xh, .int .i64 xi, .int .i64 xm, .int .i64 xv] 180))
 have HR := heap_alloc_new (w.alloc (.cells #[.int .i64 xk, .int .i64 xf, .int .i64 xt, .int .i64 xg, .int .i64 xh, .int .i64 xi, .int .i64 xm, .int .i64 xv, .slice A n c, .slice B m d] 25)) (.cells #[.int .i64 xk, .int .i64 xf, .int .i64 xt, .int .i64 xg, .int .i64 xh, .int .i64 xi, .int .i64 xm, .int .i64 xv] 180)
 have hb2 : ((w.alloc (.cells #[.int .i64 xk, .int .i64 xf, .int .i64 xt, .int .i64 xg, .int .i64 xh, .int .i64 xi, .int .i64 xm, .int .i64 xv, .slice A n c, .slice B m d] 25)).alloc (.cells #[.int .i64 0, .int .i64 0, .int .i64 0, .int .i64 0, .int .i64 0, .int .i64 0, .int .i64 0, .int .i64 0] 180)).heap[w.heap.size]? = some (.cells #[.int .i64 xk, .int .i64 xf, .int .i64 xt, .int .i64 xg, .int .i64 xh, .int .i64 xi, .int .i64 xm, .int .i64 xv, .slice A n c, .slice B m d] 25 (0, 0)) := by
  rw [Below.heap_alloc _ _ _ (by simp), heap_alloc_new]
 rw [s1] at HR
 obtain ⟨⟨y0, y1, y2, y3, y4⟩, y5, y6, y7, y8, y9⟩ := tenc hb2
 have HR2 := Lib.hid HR
 clear hb2 HR s1
 go_enter Try.func105, Try.ntmps105
 go_wp2
 have HR := HR2.out
 have hc : ∀ (j : Nat) (u : Value), (#[.int .i64 xk, .int .i64 xf, .int .i64 xt, .int .i64 xg, .int .i64 xh, .int .i64 xi, .int .i64 xm, .int .i64 xv] : Array Value)[j]? = some u → ((w.alloc (.cells #[.int .i64 xk, .int .i64 xf, .int .i64 xt, .int .i64 xg, .int .i64 xh, .int .i64 xi, .int .i64 xm, .int .i64 xv, .slice A n c, .slice B m d] 25)).alloc (.cells #[.int .i64 xk, .int .i64 xf, .int .i64 xt, .int .i64 xg, .int .i64 xh, .int .i64 xi, .int .i64 xm, .int .i64 xv] 180)).cell? ⟨w.heap.size + 1, j, none⟩ = some u := fun j u hj => by simp only [World.cell?, HR]; exact hj
 have r0 := hc 0 _ rfl
 have r1 := hc 1 _ rfl
 have r2 := hc 2 _ rfl
 have r3 := hc 3 _ rfl
 have r4 := hc 4 _ rfl
 have r5 := hc 5 _ rfl
 have r6 := hc 6 _ rfl
 have r7 := hc 7 _ rfl
 refine bodyPost_ret (v := .agg #[.int .i64 xk, .int .i64 xf, .int .i64 xt, .int .i64 xg, .int .i64 xh, .int .i64 xi, .int .i64 xm, .int .i64 xv]) ?_ rfl ⟨rfl, HB.out⟩
 simp [results, Try.results105, go_sem, r0, r1, r2, r3, r4, r5, r6, r7]
end Go.Proofs.Ytlbkfenlbkibgaa.St
