/- Rows of tokens in memory, twelve cells each: read, the call's own, appended to; tokens held against each other. -/
import Derived.Test.YtgodphfkhmahnaaOwn
import Derived.Test.YtgodphfkhmahnaaRows
import Derived.WalkKit
import Derived.ProofKit
import Derived.WalkSpells
import Derived.WalkLawsBesides
import Derived.BigQuiet
import Derived.Maps.AppendAt
import Derived.ChangeKeysEq
import Derived.Laws.StructEq
import Derived.Below
import Derived.Lib.Hide
namespace Go.Proofs.Ytgodphfkhmahnaa.Tk
open Go.RowKit Mem
set_option linter.unusedVariables false

structure Tk where
  k : Int
  ty : Int
  at_ : Int
  r : Int
  a : Int
  b : Int
  c : Int
  d : Int
  e : Int
  f : Int
  g : Int
  h : Int
  deriving DecidableEq
def tcells (x : Tk) : List Value := [.int .i64 x.k, .int .i64 x.ty, .int .i64 x.at_, .int .i32 x.r, .int .u16 x.a, .int .u16 x.b, .int .u16 x.c, .int .u16 x.d, .int .u16 x.e, .int .u16 x.f, .int .u16 x.g, .int .u16 x.h]
def tokV (x : Tk) : Value := .agg #[.int .i64 x.k, .int .i64 x.ty, .int .i64 x.at_, .int .i32 x.r, .int .u16 x.a, .int .u16 x.b, .int .u16 x.c, .int .u16 x.d, .int .u16 x.e, .int .u16 x.f, .int .u16 x.g, .int .u16 x.h]
theorem tcells_length (x : Tk) : (tcells x).length = 12 := rfl
def cells12 (l : List Tk) : List Value := l.flatMap tcells
theorem cells12_nil : cells12 [] = [] := rfl
theorem cells12_cons (x : Tk) (l : List Tk) : cells12 (x :: l) = tcells x ++ cells12 l := rfl
theorem cells12_append (h k : List Tk) : cells12 (h ++ k) = cells12 h ++ cells12 k := by simp [cells12]
theorem cells12_length (l : List Tk) : (cells12 l).length = l.length * 12 := by
  induction l with
  | nil => rfl
  | cons a l ih => rw [cells12_cons, List.length_append, ih, tcells_length, List.length_cons]; omega
theorem cells12_at (l : List Tk) : ∀ i (h : i < l.length) j, j < 12 → (cells12 l)[i * 12 + j]? = (tcells l[i])[j]? := by
  induction l with
  | nil => intro i hi; simp at hi
  | cons a l ih =>
    intro i hi j hj
    rw [cells12_cons]
    cases i with
    | zero => rw [Nat.zero_mul, Nat.zero_add, List.getElem?_append_left (by rw [tcells_length]; exact hj)]; rfl
    | succ i =>
      rw [List.getElem?_append_right (by rw [tcells_length]; omega), tcells_length, show (i + 1) * 12 + j - 12 = i * 12 + j by omega, ih i (by simpa using hi) j hj]
      rfl
theorem cells12_one (l : List Tk) : ∀ u ∈ cells12 l, u.oneCell' = true := by
  intro u hu
  obtain ⟨x, _, hx⟩ := List.mem_flatMap.1 hu
  simp only [tcells, List.mem_cons, List.not_mem_nil, or_false] at hx
  rcases hx with rfl | rfl | rfl | rfl | rfl | rfl | rfl | rfl | rfl | rfl | rfl | rfl <;> rfl

/-- the cells of one token -/
def At12 (w : World) (b o : Nat) (x : Tk) : Prop := ∀ j v, (tcells x)[j]? = some v → w.cell? ⟨b, o + j, none⟩ = some v
theorem At12.cells {w : World} {b o : Nat} {x : Tk} (h : At12 w b o x) :
    w.cell? ⟨b, o, none⟩ = some (.int .i64 x.k) ∧ w.cell? ⟨b, o + 1, none⟩ = some (.int .i64 x.ty) ∧ w.cell? ⟨b, o + 2, none⟩ = some (.int .i64 x.at_) ∧ w.cell? ⟨b, o + 3, none⟩ = some (.int .i32 x.r) ∧
    w.cell? ⟨b, o + 4, none⟩ = some (.int .u16 x.a) ∧ w.cell? ⟨b, o + 5, none⟩ = some (.int .u16 x.b) ∧ w.cell? ⟨b, o + 6, none⟩ = some (.int .u16 x.c) ∧ w.cell? ⟨b, o + 7, none⟩ = some (.int .u16 x.d) ∧
    w.cell? ⟨b, o + 8, none⟩ = some (.int .u16 x.e) ∧ w.cell? ⟨b, o + 9, none⟩ = some (.int .u16 x.f) ∧ w.cell? ⟨b, o + 10, none⟩ = some (.int .u16 x.g) ∧ w.cell? ⟨b, o + 11, none⟩ = some (.int .u16 x.h) :=
  ⟨h 0 _ rfl, h 1 _ rfl, h 2 _ rfl, h 3 _ rfl, h 4 _ rfl, h 5 _ rfl, h 6 _ rfl, h 7 _ rfl, h 8 _ rfl, h 9 _ rfl, h 10 _ rfl, h 11 _ rfl⟩
theorem At12.keep {w w' : World} {b o : Nat} {x : Tk} (h : At12 w b o x) (hk : ∀ p, w'.cell? ⟨b, p, none⟩ = w.cell? ⟨b, p, none⟩) : At12 w' b o x := fun j v hv => (hk _).trans (h j v hv)
/-- the slice at A of n tokens -/
def TRow (w : World) (A : Option Addr) (n : Nat) (l : List Tk) : Prop :=
  l.length = n ∧ (0 < n → ∃ b off, A = some ⟨b, off, none⟩ ∧ b < w.heap.size ∧ ∀ j (h : j < l.length), At12 w b (off + j * 12) l[j])
section
variable {w w' : World} {A : Option Addr} {n : Nat} {l : List Tk}
theorem TRow.nil : TRow w A 0 [] := ⟨rfl, fun h => absurd h (by omega)⟩
theorem TRow.keep (h : TRow w A n l) (hs : w.heap.size ≤ w'.heap.size) (hk : ∀ p : Addr, p.block < w.heap.size → w'.cell? p = w.cell? p) : TRow w' A n l :=
  ⟨h.1, fun hn => by
    obtain ⟨b, off, e, hl, hc⟩ := h.2 hn
    exact ⟨b, off, e, Nat.lt_of_lt_of_le hl hs, fun j hj => (hc j hj).keep fun p => hk ⟨b, p, none⟩ hl⟩⟩
theorem TRow.below (h : TRow w A n l) (hb : Below w.heap.size w w') : TRow w' A n l := h.keep hb.size fun _ hp => hb.cell hp
theorem TRow.drewN (h : TRow w A n l) (m : Nat) : TRow (w.drewN m) A n l := h
theorem TRow.drew (h : TRow w A n l) : TRow w.drew A n l := h
theorem TRow.alloc (h : TRow w A n l) (o : Obj) : TRow (w.alloc o) A n l := h.below ((Below.refl _ _).alloc (Nat.le_refl _) _)
theorem TRow.news {b off : Nat} (h : TRow w (some ⟨b, off, none⟩) n l) : ∀ j u, (cells12 l)[j]? = some u → w.cell? ((⟨b, off, none⟩ : Addr).add j) = some u := by
  intro j u hu
  have hj : j < l.length * 12 := by
    rcases Nat.lt_or_ge j (l.length * 12) with h1 | h1
    · exact h1
    · rw [List.getElem?_eq_none (by rw [cells12_length]; exact h1)] at hu; cases hu
  obtain ⟨b', off', e, _, hc⟩ := h.2 (by have := h.1; omega)
  injection e with e
  injection e with e1 e2 e3
  subst e1; subst e2
  have hp : (⟨b, off, none⟩ : Addr).add j = ⟨b, off + j, none⟩ := by unfold Addr.add; split <;> simp_all
  rw [hp]
  have hjd : j = j / 12 * 12 + j % 12 := by omega
  rw [hjd, cells12_at l (j / 12) (by omega) (j % 12) (by omega)] at hu
  have := hc (j / 12) (by omega) (j % 12) u hu
  rw [hjd, ← Nat.add_assoc]; exact this

/-- tokens, a row of the call's own -/
def Tks (base : Nat) (W : World) (v : Value) (l : List Tk) : Prop := W.ownsRow base 101 12 v l.length (cells12 l)
variable {base : Nat} {v : Value}
theorem Tks.nil : Tks base w (.slice none 0 0) [] := World.ownsRow_nil _ _ _ _
theorem Tks.drew (h : Tks base w v l) : Tks base w.drew v l := h
theorem Tks.drewN (h : Tks base w v l) (m : Nat) : Tks base (w.drewN m) v l := h
theorem Tks.block (h : Tks base w v l) : ∀ g, v.ownBlock = some g → base ≤ g ∧ g < w.heap.size ∧ ∃ cs fr, w.heap[g]? = some (.cells cs 101 fr) := by
  intro g hg
  rcases h.2 with ⟨hv, _⟩ | ⟨g', cap, cur, hv, hb, hh, _⟩
  · subst hv; cases hg
  · subst hv
    simp only [Value.ownBlock, Option.some.injEq] at hg
    subst hg
    exact ⟨hb, (Array.getElem?_eq_some_iff.1 hh).1, _, _, hh⟩
theorem Tks.row (h : Tks base w v l) : ∃ A c, v = .slice A l.length c ∧ l.length ≤ c ∧ TRow w A l.length l := by
  have h' := h
  rcases h.2 with ⟨rfl, h0⟩ | ⟨g, cap, cur, rfl, hb, hg, hnc, hm, hs, ht⟩
  · obtain rfl : l = [] := List.eq_nil_of_length_eq_zero h0
    exact ⟨none, 0, rfl, Nat.le_refl _, TRow.nil⟩
  · have hgl : g < w.heap.size := (Array.getElem?_eq_some_iff.1 hg).1
    refine ⟨_, cap, rfl, hnc, rfl, fun hn => ⟨g, 0, rfl, hgl, fun j hj i u hu => ?_⟩⟩
    have hi : i < 12 := by
      have := (List.getElem?_eq_some_iff.1 hu).1
      rwa [tcells_length] at this
    rw [Nat.zero_add, World.ownsRow.cellAt h' _ (by omega), cells12_at l j hj i hi]
    exact hu
theorem Tks.form (h : Tks base w v l) : ∃ A c, v = .slice A l.length c := by
  obtain ⟨A, c, e, _⟩ := h.row; exact ⟨A, c, e⟩
theorem Tks.below (h : Tks base w v l) {B : Nat} (hb : Below B w w') (hg : ∀ g, v.ownBlock = some g → g < B) : Tks base w' v l := by
  refine ⟨h.1, ?_⟩
  rcases h.2 with hn | ⟨g, cap, cur, hv, h1, h2, r⟩
  · exact .inl hn
  · subst hv
    exact .inr ⟨g, cap, cur, rfl, h1, by rw [hb.block g (hg g rfl)]; exact h2, r⟩
theorem Tks.belowAll (h : Tks base w v l) (hb : Below w.heap.size w w') : Tks base w' v l := h.below hb (fun g hg => (h.block g hg).2.1)
theorem Tks.alloc (h : Tks base w v l) (o : Obj) : Tks base (w.alloc o) v l := h.belowAll ((Below.refl _ w).alloc (Nat.le_refl _) o)
theorem Tks.set (h : Tks base w v l) {b : Nat} (hb : b < base) (j : Nat) (u : Value) : Tks base (w.setCell ⟨b, j, none⟩ u) v l := by
  refine ⟨h.1, ?_⟩
  rcases h.2 with hn | ⟨g, cap, cur, hv, h1, h2, r⟩
  · exact .inl hn
  · exact .inr ⟨g, cap, cur, hv, h1, by rw [Below.heap_setCell _ _ _ _ (by simp; omega)]; exact h2, r⟩
theorem Tks.lower (h : Tks base w v l) {base' : Nat} (hb : base' ≤ base) : Tks base' w v l := by
  refine ⟨h.1, ?_⟩
  rcases h.2 with hn | ⟨g, cap, cur, hv, h1, r⟩
  · exact .inl hn
  · exact .inr ⟨g, cap, cur, hv, Nat.le_trans hb h1, r⟩
theorem Tks.grown {row : Option Nat} (h : Tks base w v l) (hg : w.grownBy w' row) (hne : ∀ g, v.ownBlock = some g → some g ≠ row) : Tks base w' v l := by
  refine ⟨h.1, ?_⟩
  rcases h.2 with hn | ⟨g, cap, cur, hv, h1, h2, r⟩
  · exact .inl hn
  · subst hv
    exact .inr ⟨g, cap, cur, rfl, h1, by rw [hg.block g (Array.getElem?_eq_some_iff.1 h2).1 (hne g rfl)]; exact h2, r⟩
end

section
def zeroTk : Tk := ⟨0, 0, 0, 0, 0, 0, 0, 0, 0, 0, 0, 0⟩
theorem tzero : (Try.prog.info? 101).map (fun i => (i.zero, i.size, i.bytes)) = some (some (tokV zeroTk), 12, 48) := by kernel_rfl
theorem run_app_tk {w : World} {base : Nat} (ty : TypeId) {v : Value} {l : List Tk} (hown : Tks base w v l) {A : Option Addr} {m : Nat} (c : Nat) {y : List Tk} (hr : TRow w A m y) (hbig : l.length + m ≤ 1000000000) (hbase : base ≤ w.heap.size) :
    ∃ v' w', (Builtin.append_ #[22, 22] ty #[v, .slice A m c]).run Try.prog w = .ok v' w' ∧ Tks base w' v' (l ++ y) ∧ w.grownBy w' v.ownBlock ∧ (v'.ownBlock = v.ownBlock ∨ v'.ownBlock = some w.heap.size) := by
  obtain ⟨i, hi, hiz, his, hib⟩ := info_parts tzero
  rcases A with _ | ⟨b, off, spot⟩
  · have hm : m = 0 := by
      rcases Nat.eq_zero_or_pos m with h0 | h0
      · exact h0
      · obtain ⟨_, _, h, _⟩ := hr.2 h0
        cases h
    subst hm
    obtain rfl : y = [] := List.eq_nil_of_length_eq_zero hr.1
    exact ⟨v, w, run_app_nil 22 ty 101 i 12 Try.underlying22 hi hown c, by simpa using hown, World.grownBy.refl w _, .inl rfl⟩
  · rcases Nat.eq_zero_or_pos m with h0 | h0
    · subst h0
      obtain rfl : y = [] := List.eq_nil_of_length_eq_zero hr.1
      obtain ⟨v', w', h1, h2, h3, _, h5⟩ := run_append_own_at (P := Try.prog) w base 22 ty 101 i (tokV zeroTk) 12 48 Try.underlying22 hi hiz his hib rfl (by omega) v l.length (cells12 l) hown ⟨b, off, spot⟩ 0 c []
        rfl (fun j u hu => by simp at hu) (fun u hu => by simp at hu) (by simp only [maxLen]; omega) (by omega) hbase
      exact ⟨v', w', h1, by simpa [Tks] using h2, h3, h5⟩
    · obtain ⟨b', off', e, _, _⟩ := hr.2 h0
      injection e with e
      injection e with e1 e2 e3
      subst e1; subst e2; subst e3
      obtain ⟨v', w', h1, h2, h3, _, h5⟩ := run_append_own_at (P := Try.prog) w base 22 ty 101 i (tokV zeroTk) 12 48 Try.underlying22 hi hiz his hib rfl (by omega) v l.length (cells12 l) hown ⟨b, off, none⟩ m c (cells12 y)
        (by rw [cells12_length, hr.1]) hr.news (cells12_one y) (by simp only [maxLen]; omega) (by omega) hbase
      refine ⟨v', w', h1, ?_, h3, h5⟩
      unfold Tks
      rw [cells12_append, List.length_append, hr.1]
      exact h2
/-- 'append(v, ys...)' in a walk -/
theorem wpList_app_tk {w : World} {ops : Array Oper} {rest : List Oper} {o : Oper} {a : Act} {Q : Exit → Act → World → Prop} (hgd : o.guard = none) (s x : Operand)
    (ho : o.op = .call { callee := .builtin .append, args := #[s, x], argTypes := #[22, 22] })
    (base : Nat) (v : Value) (l : List Tk) (hs : a.eval s = v) (hown : Tks base w v l)
    (A : Option Addr) (m c : Nat) (y : List Tk) (hx : a.eval x = .slice A m c) (hr : TRow w A m y) (hbig : l.length + m ≤ 1000000000) (hbase : base ≤ w.heap.size)
    (h : ∀ v' w', Tks base w' v' (l ++ y) → w.grownBy w' v.ownBlock → (v'.ownBlock = v.ownBlock ∨ v'.ownBlock = some w.heap.size) → wpList Try.prog ops Q rest (a.put o.dst v') w') :
    wpList Try.prog ops Q (o :: rest) a w := by
  refine wpList_plain hgd fun K hK => ?_
  obtain ⟨v', w', hrun, h2, h3, h4⟩ := run_app_tk o.type hown c hr hbig hbase
  unfold Oper.wp
  simp [execOp, ho, resolve, invoke, builtin, hs, hx, hrun, Result.andThen]
  exact hK _ _ (h v' w' h2 h3 h4)
end

/-! == of tokens -/
set_option maxRecDepth 100000 in
theorem eq_marks (d : Nat) (a b c e f g h i a' b' c' e' f' g' h' i' : Int) (w : World) :
    (Op.equalIn (d + 1 + 1) 99 (.agg #[.int .u16 a, .int .u16 b, .int .u16 c, .int .u16 e, .int .u16 f, .int .u16 g, .int .u16 h, .int .u16 i]) (.agg #[.int .u16 a', .int .u16 b', .int .u16 c', .int .u16 e', .int .u16 f', .int .u16 g', .int .u16 h', .int .u16 i'])).run Try.prog w =
      .ok ((a == a') && ((b == b') && ((c == c') && ((e == e') && ((f == f') && ((g == g') && ((h == h') && (i == i')))))))) w := by
  obtain ⟨i0, hi⟩ : ∃ i, Try.prog.info? 97 = some i := Option.isSome_iff_exists.1 (by kernel_rfl)
  have hu : Try.prog.underlying 99 = some (.array 8 97) := by kernel_rfl
  have h16 : Try.prog.underlying 97 = some (.int .u16) := by kernel_rfl
  rw [run_equalIn_array w (d + 1) (n := 8) (e := 97) _ _ hu hi, show List.range 8 = [0, 1, 2, 3, 4, 5, 6, 7] from rfl]
  have p : ∀ (a b c e f g h i : Int) (w : World), (part 97 #[.int .u16 a, .int .u16 b, .int .u16 c, .int .u16 e, .int .u16 f, .int .u16 g, .int .u16 h, .int .u16 i] (0 * Try.prog.cellsOf 97)).run Try.prog w = .ok (.int .u16 a) w ∧ (part 97 #[.int .u16 a, .int .u16 b, .int .u16 c, .int .u16 e, .int .u16 f, .int .u16 g, .int .u16 h, .int .u16 i] (1 * Try.prog.cellsOf 97)).run Try.prog w = .ok (.int .u16 b) w ∧ (part 97 #[.int .u16 a, .int .u16 b, .int .u16 c, .int .u16 e, .int .u16 f, .int .u16 g, .int .u16 h, .int .u16 i] (2 * Try.prog.cellsOf 97)).run Try.prog w = .ok (.int .u16 c) w ∧ (part 97 #[.int .u16 a, .int .u16 b, .int .u16 c, .int .u16 e, .int .u16 f, .int .u16 g, .int .u16 h, .int .u16 i] (3 * Try.prog.cellsOf 97)).run Try.prog w = .ok (.int .u16 e) w ∧ (part 97 #[.int .u16 a, .int .u16 b, .int .u16 c, .int .u16 e, .int .u16 f, .int .u16 g, .int .u16 h, .int .u16 i] (4 * Try.prog.cellsOf 97)).run Try.prog w = .ok (.int .u16 f) w ∧ (part 97 #[.int .u16 a, .int .u16 b, .int .u16 c, .int .u16 e, .int .u16 f, .int .u16 g, .int .u16 h, .int .u16 i] (5 * Try.prog.cellsOf 97)).run Try.prog w = .ok (.int .u16 g) w ∧ (part 97 #[.int .u16 a, .int .u16 b, .int .u16 c, .int .u16 e, .int .u16 f, .int .u16 g, .int .u16 h, .int .u16 i] (6 * Try.prog.cellsOf 97)).run Try.prog w = .ok (.int .u16 h) w ∧ (part 97 #[.int .u16 a, .int .u16 b, .int .u16 c, .int .u16 e, .int .u16 f, .int .u16 g, .int .u16 h, .int .u16 i] (7 * Try.prog.cellsOf 97)).run Try.prog w = .ok (.int .u16 i) w :=
    fun a b c e f g h i w => ⟨by kernel_rfl, by kernel_rfl, by kernel_rfl, by kernel_rfl, by kernel_rfl, by kernel_rfl, by kernel_rfl, by kernel_rfl⟩
  obtain ⟨q0, q1, q2, q3, q4, q5, q6, q7⟩ := p a b c e f g h i w
  obtain ⟨r0, r1, r2, r3, r4, r5, r6, r7⟩ := p a' b' c' e' f' g' h' i' w
  have eqi : ∀ (x y : Int) (w : World), (Op.equalIn (d + 1) 97 (.int .u16 x) (.int .u16 y)).run Try.prog w = .ok (x == y) w := fun x y w => run_equalIn_int w d _ _ _ _ _ h16
  have st : ∀ (j : Nat) (js : List Nat) (x y : Int) (xs ys : Array Value) (R : Bool) (w : World), (part 97 xs (j * Try.prog.cellsOf 97)).run Try.prog w = .ok (.int .u16 x) w → (part 97 ys (j * Try.prog.cellsOf 97)).run Try.prog w = .ok (.int .u16 y) w →
      (Op.eqItems (d + 1) 97 (Try.prog.cellsOf 97) xs ys js).run Try.prog w = .ok R w → (Op.eqItems (d + 1) 97 (Try.prog.cellsOf 97) xs ys (j :: js)).run Try.prog w = .ok ((x == y) && R) w := by
    intro j js x y xs ys R w h1 h2 h3
    unfold Op.eqItems
    simp only [Sem.run_bind, h1, h2, Result.andThen_ok, eqi]
    cases x == y
    · simp
    · simpa using h3
  refine st 0 _ _ _ _ _ _ w q0 r0 ?_
  refine st 1 _ _ _ _ _ _ w q1 r1 ?_
  refine st 2 _ _ _ _ _ _ w q2 r2 ?_
  refine st 3 _ _ _ _ _ _ w q3 r3 ?_
  refine st 4 _ _ _ _ _ _ w q4 r4 ?_
  refine st 5 _ _ _ _ _ _ w q5 r5 ?_
  refine st 6 _ _ _ _ _ _ w q6 r6 ?_
  rw [st 7 [] _ _ _ _ true w q7 r7 (by simp [Op.eqItems])]
  simp
set_option maxRecDepth 100000 in
/-- as the walk comes upon it -/
theorem eq_tok (d : Nat) (x y : Tk) (w : World) : (Op.equalIn (d + 1 + 1 + 1) 101 (tokV x) (tokV y)).run Try.prog w = .ok (decide (x = y)) w := by
  have hst : Try.prog.underlying 101 = some (.struct (Try.prog.fieldsOf 101)) := by kernel_rfl
  have hin : Try.prog.stoodInHeld 101 = false := by kernel_rfl
  have h64 : Try.prog.underlying 3 = some (.int .i64) := by kernel_rfl
  have h32 : Try.prog.underlying 21 = some (.int .i32) := by kernel_rfl
  obtain ⟨f0, f1, f2, f3, f4, hl⟩ : ∃ f0 f1 f2 f3 f4, (Try.prog.fieldsOf 101).toList = [f0, f1, f2, f3, f4] := ⟨_, _, _, _, _, rfl⟩
  have hh : ((Try.prog.fieldsOf 101).toList.map fun f => (f.name != "_", f.type, f.offset)) = [(true, 3, 0), (true, 3, 1), (true, 3, 2), (true, 21, 3), (true, 99, 4)] := by decide +kernel
  rw [hl] at hh
  simp only [List.map_cons, List.map_nil, List.cons.injEq, Prod.mk.injEq, and_true, bne_iff_ne] at hh
  obtain ⟨⟨a0, b0, c0⟩, ⟨a1, b1, c1⟩, ⟨a2, b2, c2⟩, ⟨a3, b3, c3⟩, ⟨a4, b4, c4⟩⟩ := hh
  have pi : ∀ (x : Tk) (w : World), (part 3 (tcells x).toArray 0).run Try.prog w = .ok (.int .i64 x.k) w ∧ (part 3 (tcells x).toArray 1).run Try.prog w = .ok (.int .i64 x.ty) w ∧ (part 3 (tcells x).toArray 2).run Try.prog w = .ok (.int .i64 x.at_) w ∧ (part 21 (tcells x).toArray 3).run Try.prog w = .ok (.int .i32 x.r) w ∧
      (part 99 (tcells x).toArray 4).run Try.prog w = .ok (.agg #[.int .u16 x.a, .int .u16 x.b, .int .u16 x.c, .int .u16 x.d, .int .u16 x.e, .int .u16 x.f, .int .u16 x.g, .int .u16 x.h]) w :=
    fun x w => ⟨by kernel_rfl, by kernel_rfl, by kernel_rfl, by kernel_rfl, by kernel_rfl⟩
  show (Op.equalIn (d + 1 + 1 + 1) 101 (.agg (tcells x).toArray) (.agg (tcells y).toArray)).run Try.prog w = _
  rw [run_equalIn_struct w (d + 1 + 1) _ _ _ hst hin, hl]
  have st : ∀ (f : Field) (fs : List Field) (u v : Value) (p R : Bool) (w : World), f.name ≠ "_" → (part f.type (tcells x).toArray f.offset).run Try.prog w = .ok u w → (part f.type (tcells y).toArray f.offset).run Try.prog w = .ok v w → (Op.equalIn (d + 1 + 1) f.type u v).run Try.prog w = .ok p w →
      (Op.eqFields (d + 1 + 1) (tcells x).toArray (tcells y).toArray fs).run Try.prog w = .ok R w → (Op.eqFields (d + 1 + 1) (tcells x).toArray (tcells y).toArray (f :: fs)).run Try.prog w = .ok (p && R) w := by
    intro f fs u v p R w hn h1 h2 h3 h4
    unfold Op.eqFields
    rw [if_pos hn]
    simp only [Sem.run_bind, h1, h2, h3, Result.andThen_ok]
    cases p
    · simp
    · simpa using h4
  obtain ⟨x0, x1, x2, x3, x4⟩ := pi x w
  obtain ⟨y0, y1, y2, y3, y4⟩ := pi y w
  rw [st f0 _ _ _ (x.k == y.k) ((x.ty == y.ty) && ((x.at_ == y.at_) && ((x.r == y.r) && (((x.a == y.a) && ((x.b == y.b) && ((x.c == y.c) && ((x.d == y.d) && ((x.e == y.e) && ((x.f == y.f) && ((x.g == y.g) && (x.h == y.h)))))))) && true)))) w a0 (by rw [b0, c0]; exact x0) (by rw [b0, c0]; exact y0) (by rw [b0]; exact run_equalIn_int w _ _ _ _ _ _ h64)
    (st f1 _ _ _ _ _ w a1 (by rw [b1, c1]; exact x1) (by rw [b1, c1]; exact y1) (by rw [b1]; exact run_equalIn_int w _ _ _ _ _ _ h64)
    (st f2 _ _ _ _ _ w a2 (by rw [b2, c2]; exact x2) (by rw [b2, c2]; exact y2) (by rw [b2]; exact run_equalIn_int w _ _ _ _ _ _ h64)
    (st f3 _ _ _ _ _ w a3 (by rw [b3, c3]; exact x3) (by rw [b3, c3]; exact y3) (by rw [b3]; exact run_equalIn_int w _ _ _ _ _ _ h32)
    (st f4 _ _ _ _ _ w a4 (by rw [b4, c4]; exact x4) (by rw [b4, c4]; exact y4) (by rw [b4]; exact eq_marks d _ _ _ _ _ _ _ _ _ _ _ _ _ _ _ _ w)
    (by simp [Op.eqFields])))))]
  congr 1
  rw [Bool.eq_iff_iff]
  obtain ⟨k, ty, at_, r, a, b, c, dd, e, f, g, h⟩ := x
  obtain ⟨k', ty', at_', r', a', b', c', dd', e', f', g', h'⟩ := y
  simp
end Go.Proofs.Ytgodphfkhmahnaa.Tk
