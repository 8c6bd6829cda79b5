/- Rows of parts of a patch in memory, four cells each: read, the call's own, appended to. -/
import Derived.Test.YtgodphfkhmahnaaOwn
import Derived.Test.YtgodphfkhmahnaaRows
import Derived.WalkKit
import Derived.ProofKit
import Derived.WalkSpells
import Derived.WalkLawsBesides
import Derived.BigQuiet
import Derived.Maps.AppendAt
import Derived.ChangeKeysEq
import Derived.Laws.StructEq
import Derived.Below
import Derived.Lib.Hide
namespace Go.Proofs.Ytgodphfkhmahnaa.Pp
open Go.RowKit Mem
set_option linter.unusedVariables false

/-- a part of a patch: old, from, to, and the slice of what is new -/
structure Pt where
  o : Bool
  f : Int
  t : Int
  A : Option Addr
  n : Nat
  c : Nat
def pcells (x : Pt) : List Value := [.bool x.o, .int .i64 x.f, .int .i64 x.t, .slice x.A x.n x.c]
def ptV (x : Pt) : Value := .agg #[.bool x.o, .int .i64 x.f, .int .i64 x.t, .slice x.A x.n x.c]
def zeroPt : Pt := ⟨false, 0, 0, none, 0, 0⟩
theorem pcells_length (x : Pt) : (pcells x).length = 4 := rfl
def cells4 (l : List Pt) : List Value := l.flatMap pcells
theorem cells4_nil : cells4 [] = [] := rfl
theorem cells4_cons (x : Pt) (l : List Pt) : cells4 (x :: l) = pcells x ++ cells4 l := rfl
theorem cells4_append (h k : List Pt) : cells4 (h ++ k) = cells4 h ++ cells4 k := by simp [cells4]
theorem cells4_length (l : List Pt) : (cells4 l).length = l.length * 4 := by
  induction l with
  | nil => rfl
  | cons a l ih => rw [cells4_cons, List.length_append, ih, pcells_length, List.length_cons]; omega
theorem cells4_at (l : List Pt) : ∀ i (h : i < l.length) j, j < 4 → (cells4 l)[i * 4 + j]? = (pcells l[i])[j]? := by
  induction l with
  | nil => intro i hi; simp at hi
  | cons a l ih =>
    intro i hi j hj
    rw [cells4_cons]
    cases i with
    | zero => rw [Nat.zero_mul, Nat.zero_add, List.getElem?_append_left (by rw [pcells_length]; exact hj)]; rfl
    | succ i =>
      rw [List.getElem?_append_right (by rw [pcells_length]; omega), pcells_length, show (i + 1) * 4 + j - 4 = i * 4 + j by omega, ih i (by simpa using hi) j hj]
      rfl
theorem cells4_one (l : List Pt) : ∀ u ∈ cells4 l, u.oneCell' = true := by
  intro u hu
  obtain ⟨x, _, hx⟩ := List.mem_flatMap.1 hu
  simp only [pcells, List.mem_cons, List.not_mem_nil, or_false] at hx
  rcases hx with rfl | rfl | rfl | rfl <;> rfl

/-- the cells of one token -/
def At4 (w : World) (b o : Nat) (x : Pt) : Prop := ∀ j v, (pcells x)[j]? = some v → w.cell? ⟨b, o + j, none⟩ = some v
theorem At4.cells {w : World} {b o : Nat} {x : Pt} (h : At4 w b o x) :
    w.cell? ⟨b, o, none⟩ = some (.bool x.o) ∧ w.cell? ⟨b, o + 1, none⟩ = some (.int .i64 x.f) ∧ w.cell? ⟨b, o + 2, none⟩ = some (.int .i64 x.t) ∧ w.cell? ⟨b, o + 3, none⟩ = some (.slice x.A x.n x.c) :=
  ⟨h 0 _ rfl, h 1 _ rfl, h 2 _ rfl, h 3 _ rfl⟩
theorem At4.keep {w w' : World} {b o : Nat} {x : Pt} (h : At4 w b o x) (hk : ∀ p, w'.cell? ⟨b, p, none⟩ = w.cell? ⟨b, p, none⟩) : At4 w' b o x := fun j v hv => (hk _).trans (h j v hv)
/-- the slice at A of n tokens -/
def PRow (w : World) (A : Option Addr) (n : Nat) (l : List Pt) : Prop :=
  l.length = n ∧ (0 < n → ∃ b off, A = some ⟨b, off, none⟩ ∧ b < w.heap.size ∧ ∀ j (h : j < l.length), At4 w b (off + j * 4) l[j])
section
variable {w w' : World} {A : Option Addr} {n : Nat} {l : List Pt}
theorem PRow.nil : PRow w A 0 [] := ⟨rfl, fun h => absurd h (by omega)⟩
theorem PRow.keep (h : PRow w A n l) (hs : w.heap.size ≤ w'.heap.size) (hk : ∀ p : Addr, p.block < w.heap.size → w'.cell? p = w.cell? p) : PRow w' A n l :=
  ⟨h.1, fun hn => by
    obtain ⟨b, off, e, hl, hc⟩ := h.2 hn
    exact ⟨b, off, e, Nat.lt_of_lt_of_le hl hs, fun j hj => (hc j hj).keep fun p => hk ⟨b, p, none⟩ hl⟩⟩
theorem PRow.below (h : PRow w A n l) (hb : Below w.heap.size w w') : PRow w' A n l := h.keep hb.size fun _ hp => hb.cell hp
theorem PRow.drewN (h : PRow w A n l) (m : Nat) : PRow (w.drewN m) A n l := h
theorem PRow.drew (h : PRow w A n l) : PRow w.drew A n l := h
theorem PRow.alloc (h : PRow w A n l) (o : Obj) : PRow (w.alloc o) A n l := h.below ((Below.refl _ _).alloc (Nat.le_refl _) _)
theorem PRow.news {b off : Nat} (h : PRow w (some ⟨b, off, none⟩) n l) : ∀ j u, (cells4 l)[j]? = some u → w.cell? ((⟨b, off, none⟩ : Addr).add j) = some u := by
  intro j u hu
  have hj : j < l.length * 4 := by
    rcases Nat.lt_or_ge j (l.length * 4) with h1 | h1
    · exact h1
    · rw [List.getElem?_eq_none (by rw [cells4_length]; exact h1)] at hu; cases hu
  obtain ⟨b', off', e, _, hc⟩ := h.2 (by have := h.1; omega)
  injection e with e
  injection e with e1 e2 e3
  subst e1; subst e2
  have hp : (⟨b, off, none⟩ : Addr).add j = ⟨b, off + j, none⟩ := by unfold Addr.add; split <;> simp_all
  rw [hp]
  have hjd : j = j / 4 * 4 + j % 4 := by omega
  rw [hjd, cells4_at l (j / 4) (by omega) (j % 4) (by omega)] at hu
  have := hc (j / 4) (by omega) (j % 4) u hu
  rw [hjd, ← Nat.add_assoc]; exact this

/-- tokens, a row of the call's own -/
def Pts (base : Nat) (W : World) (v : Value) (l : List Pt) : Prop := W.ownsRow base 75 4 v l.length (cells4 l)
variable {base : Nat} {v : Value}
theorem Pts.nil : Pts base w (.slice none 0 0) [] := World.ownsRow_nil _ _ _ _
theorem Pts.drew (h : Pts base w v l) : Pts base w.drew v l := h
theorem Pts.drewN (h : Pts base w v l) (m : Nat) : Pts base (w.drewN m) v l := h
theorem Pts.block (h : Pts base w v l) : ∀ g, v.ownBlock = some g → base ≤ g ∧ g < w.heap.size ∧ ∃ cs fr, w.heap[g]? = some (.cells cs 75 fr) := by
  intro g hg
  rcases h.2 with ⟨hv, _⟩ | ⟨g', cap, cur, hv, hb, hh, _⟩
  · subst hv; cases hg
  · subst hv
    simp only [Value.ownBlock, Option.some.injEq] at hg
    subst hg
    exact ⟨hb, (Array.getElem?_eq_some_iff.1 hh).1, _, _, hh⟩
theorem Pts.row (h : Pts base w v l) : ∃ A c, v = .slice A l.length c ∧ l.length ≤ c ∧ PRow w A l.length l := by
  have h' := h
  rcases h.2 with ⟨rfl, h0⟩ | ⟨g, cap, cur, rfl, hb, hg, hnc, hm, hs, ht⟩
  · obtain rfl : l = [] := List.eq_nil_of_length_eq_zero h0
    exact ⟨none, 0, rfl, Nat.le_refl _, PRow.nil⟩
  · have hgl : g < w.heap.size := (Array.getElem?_eq_some_iff.1 hg).1
    refine ⟨_, cap, rfl, hnc, rfl, fun hn => ⟨g, 0, rfl, hgl, fun j hj i u hu => ?_⟩⟩
    have hi : i < 4 := by
      have := (List.getElem?_eq_some_iff.1 hu).1
      rwa [pcells_length] at this
    rw [Nat.zero_add, World.ownsRow.cellAt h' _ (by omega), cells4_at l j hj i hi]
    exact hu
theorem Pts.form (h : Pts base w v l) : ∃ A c, v = .slice A l.length c := by
  obtain ⟨A, c, e, _⟩ := h.row; exact ⟨A, c, e⟩
theorem Pts.below (h : Pts base w v l) {B : Nat} (hb : Below B w w') (hg : ∀ g, v.ownBlock = some g → g < B) : Pts base w' v l := by
  refine ⟨h.1, ?_⟩
  rcases h.2 with hn | ⟨g, cap, cur, hv, h1, h2, r⟩
  · exact .inl hn
  · subst hv
    exact .inr ⟨g, cap, cur, rfl, h1, by rw [hb.block g (hg g rfl)]; exact h2, r⟩
theorem Pts.belowAll (h : Pts base w v l) (hb : Below w.heap.size w w') : Pts base w' v l := h.below hb (fun g hg => (h.block g hg).2.1)
theorem Pts.alloc (h : Pts base w v l) (o : Obj) : Pts base (w.alloc o) v l := h.belowAll ((Below.refl _ w).alloc (Nat.le_refl _) o)
theorem Pts.set (h : Pts base w v l) {b : Nat} (hb : b < base) (j : Nat) (u : Value) : Pts base (w.setCell ⟨b, j, none⟩ u) v l := by
  refine ⟨h.1, ?_⟩
  rcases h.2 with hn | ⟨g, cap, cur, hv, h1, h2, r⟩
  · exact .inl hn
  · exact .inr ⟨g, cap, cur, hv, h1, by rw [Below.heap_setCell _ _ _ _ (by simp; omega)]; exact h2, r⟩
theorem Pts.lower (h : Pts base w v l) {base' : Nat} (hb : base' ≤ base) : Pts base' w v l := by
  refine ⟨h.1, ?_⟩
  rcases h.2 with hn | ⟨g, cap, cur, hv, h1, r⟩
  · exact .inl hn
  · exact .inr ⟨g, cap, cur, hv, Nat.le_trans hb h1, r⟩
theorem Pts.grown {row : Option Nat} (h : Pts base w v l) (hg : w.grownBy w' row) (hne : ∀ g, v.ownBlock = some g → some g ≠ row) : Pts base w' v l := by
  refine ⟨h.1, ?_⟩
  rcases h.2 with hn | ⟨g, cap, cur, hv, h1, h2, r⟩
  · exact .inl hn
  · subst hv
    exact .inr ⟨g, cap, cur, rfl, h1, by rw [hg.block g (Array.getElem?_eq_some_iff.1 h2).1 (hne g rfl)]; exact h2, r⟩
end

section
theorem tzero : (Try.prog.info? 75).map (fun i => (i.zero, i.size, i.bytes)) = some (some (ptV zeroPt), 4, 48) := by kernel_rfl
theorem run_app_pt {w : World} {base : Nat} (ty : TypeId) {v : Value} {l : List Pt} (hown : Pts base w v l) {A : Option Addr} {m : Nat} (c : Nat) {y : List Pt} (hr : PRow w A m y) (hbig : l.length + m ≤ 1000000000) (hbase : base ≤ w.heap.size) :
    ∃ v' w', (Builtin.append_ #[66, 66] ty #[v, .slice A m c]).run Try.prog w = .ok v' w' ∧ Pts base w' v' (l ++ y) ∧ w.grownBy w' v.ownBlock ∧ (v'.ownBlock = v.ownBlock ∨ v'.ownBlock = some w.heap.size) := by
  obtain ⟨i, hi, hiz, his, hib⟩ := info_parts tzero
  rcases A with _ | ⟨b, off, spot⟩
  · have hm : m = 0 := by
      rcases Nat.eq_zero_or_pos m with h0 | h0
      · exact h0
      · obtain ⟨_, _, h, _⟩ := hr.2 h0
        cases h
    subst hm
    obtain rfl : y = [] := List.eq_nil_of_length_eq_zero hr.1
    exact ⟨v, w, run_app_nil 66 ty 75 i 4 Try.underlying66 hi hown c, by simpa using hown, World.grownBy.refl w _, .inl rfl⟩
  · rcases Nat.eq_zero_or_pos m with h0 | h0
    · subst h0
      obtain rfl : y = [] := List.eq_nil_of_length_eq_zero hr.1
      obtain ⟨v', w', h1, h2, h3, _, h5⟩ := run_append_own_at (P := Try.prog) w base 66 ty 75 i (ptV zeroPt) 4 48 Try.underlying66 hi hiz his hib rfl (by omega) v l.length (cells4 l) hown ⟨b, off, spot⟩ 0 c []
        rfl (fun j u hu => by simp at hu) (fun u hu => by simp at hu) (by simp only [maxLen]; omega) (by omega) hbase
      exact ⟨v', w', h1, by simpa [Pts] using h2, h3, h5⟩
    · obtain ⟨b', off', e, _, _⟩ := hr.2 h0
      injection e with e
      injection e with e1 e2 e3
      subst e1; subst e2; subst e3
      obtain ⟨v', w', h1, h2, h3, _, h5⟩ := run_append_own_at (P := Try.prog) w base 66 ty 75 i (ptV zeroPt) 4 48 Try.underlying66 hi hiz his hib rfl (by omega) v l.length (cells4 l) hown ⟨b, off, none⟩ m c (cells4 y)
        (by rw [cells4_length, hr.1]) hr.news (cells4_one y) (by simp only [maxLen]; omega) (by omega) hbase
      refine ⟨v', w', h1, ?_, h3, h5⟩
      unfold Pts
      rw [cells4_append, List.length_append, hr.1]
      exact h2
/-- 'append(v, ys...)' in a walk -/
theorem wpList_app_pt {w : World} {ops : Array Oper} {rest : List Oper} {o : Oper} {a : Act} {Q : Exit → Act → World → Prop} (hgd : o.guard = none) (s x : Operand)
    (ho : o.op = .call { callee := .builtin .append, args := #[s, x], argTypes := #[66, 66] })
    (base : Nat) (v : Value) (l : List Pt) (hs : a.eval s = v) (hown : Pts base w v l)
    (A : Option Addr) (m c : Nat) (y : List Pt) (hx : a.eval x = .slice A m c) (hr : PRow w A m y) (hbig : l.length + m ≤ 1000000000) (hbase : base ≤ w.heap.size)
    (h : ∀ v' w', Pts base w' v' (l ++ y) → w.grownBy w' v.ownBlock → (v'.ownBlock = v.ownBlock ∨ v'.ownBlock = some w.heap.size) → wpList Try.prog ops Q rest (a.put o.dst v') w') :
    wpList Try.prog ops Q (o :: rest) a w := by
  refine wpList_plain hgd fun K hK => ?_
  obtain ⟨v', w', hrun, h2, h3, h4⟩ := run_app_pt o.type hown c hr hbig hbase
  unfold Oper.wp
  simp [execOp, ho, resolve, invoke, builtin, hs, hx, hrun, Result.andThen]
  exact hK _ _ (h v' w' h2 h3 h4)
end


end Go.Proofs.Ytgodphfkhmahnaa.Pp
