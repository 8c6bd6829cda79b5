/- Rows of ranges in memory, three cells each: read, the call's own, appended to; ranges held against each other. An operation of a region that draws its order is taken first, by hand; nothing of the program. -/
import Derived.Test.YtgodphfkhmahnaaOwn
import Derived.Test.YtgodphfkhmahnaaSmMath
import Derived.Test.YtgodphfkhmahnaaRows
import Derived.WalkKit
import Derived.ProofKit
import Derived.WalkSpells
import Derived.WalkLawsBesides
import Derived.BigQuiet
import Derived.Maps.AppendAt
import Derived.ChangeKeysEq
import Derived.Laws.StructEq
import Derived.Below
import Derived.Lib.Hide
import Derived.OrdersHeld
import Derived.KernelRfl
namespace Go.Proofs.Ytgodphfkhmahnaa.Sm
open Go.RowKit Mem
set_option linter.unusedVariables false

theorem ret_bool {a b : Bool} (h : a = b) : Ending.returned (.bool a) = .returned (.bool b) := by rw [h]
theorem ret_int {k : IntKind} {a b : Int} (h : a = b) : Ending.returned (.int k a) = .returned (.int k b) := by rw [h]
def rcells (x : Rg) : List Value := [.int .i64 x.at_, .int .i64 x.old, .int .i64 x.new]
def rgV (x : Rg) : Value := .agg #[.int .i64 x.at_, .int .i64 x.old, .int .i64 x.new]
theorem rcells_length (x : Rg) : (rcells x).length = 3 := rfl
def cells3 (l : List Rg) : List Value := l.flatMap rcells
theorem cells3_nil : cells3 [] = [] := rfl
theorem cells3_cons (x : Rg) (l : List Rg) : cells3 (x :: l) = rcells x ++ cells3 l := rfl
theorem cells3_append (h k : List Rg) : cells3 (h ++ k) = cells3 h ++ cells3 k := by simp [cells3]
theorem cells3_length (l : List Rg) : (cells3 l).length = l.length * 3 := by
  induction l with
  | nil => rfl
  | cons a l ih => rw [cells3_cons, List.length_append, ih, rcells_length, List.length_cons]; omega
theorem cells3_at (l : List Rg) : ∀ i (h : i < l.length) j, j < 3 → (cells3 l)[i * 3 + j]? = (rcells l[i])[j]? := by
  induction l with
  | nil => intro i hi; simp at hi
  | cons a l ih =>
    intro i hi j hj
    rw [cells3_cons]
    cases i with
    | zero => rw [Nat.zero_mul, Nat.zero_add, List.getElem?_append_left (by rw [rcells_length]; exact hj)]; rfl
    | succ i =>
      rw [List.getElem?_append_right (by rw [rcells_length]; omega), rcells_length, show (i + 1) * 3 + j - 3 = i * 3 + j by omega, ih i (by simpa using hi) j hj]
      rfl
theorem cells3_one (l : List Rg) : ∀ u ∈ cells3 l, u.oneCell' = true := by
  intro u hu
  obtain ⟨x, _, hx⟩ := List.mem_flatMap.1 hu
  simp only [rcells, List.mem_cons, List.not_mem_nil, or_false] at hx
  rcases hx with rfl | rfl | rfl <;> rfl

/-- the cells of one token -/
def At3 (w : World) (b o : Nat) (x : Rg) : Prop := ∀ j v, (rcells x)[j]? = some v → w.cell? ⟨b, o + j, none⟩ = some v
theorem At3.cells {w : World} {b o : Nat} {x : Rg} (h : At3 w b o x) :
    w.cell? ⟨b, o, none⟩ = some (.int .i64 x.at_) ∧ w.cell? ⟨b, o + 1, none⟩ = some (.int .i64 x.old) ∧ w.cell? ⟨b, o + 2, none⟩ = some (.int .i64 x.new) :=
  ⟨h 0 _ rfl, h 1 _ rfl, h 2 _ rfl⟩
theorem At3.keep {w w' : World} {b o : Nat} {x : Rg} (h : At3 w b o x) (hk : ∀ p, w'.cell? ⟨b, p, none⟩ = w.cell? ⟨b, p, none⟩) : At3 w' b o x := fun j v hv => (hk _).trans (h j v hv)
/-- the slice at A of n tokens -/
def RRow (w : World) (A : Option Addr) (n : Nat) (l : List Rg) : Prop :=
  l.length = n ∧ (0 < n → ∃ b off, A = some ⟨b, off, none⟩ ∧ b < w.heap.size ∧ ∀ j (h : j < l.length), At3 w b (off + j * 3) l[j])
section
variable {w w' : World} {A : Option Addr} {n : Nat} {l : List Rg}
theorem RRow.nil : RRow w A 0 [] := ⟨rfl, fun h => absurd h (by omega)⟩
theorem RRow.keep (h : RRow w A n l) (hs : w.heap.size ≤ w'.heap.size) (hk : ∀ p : Addr, p.block < w.heap.size → w'.cell? p = w.cell? p) : RRow w' A n l :=
  ⟨h.1, fun hn => by
    obtain ⟨b, off, e, hl, hc⟩ := h.2 hn
    exact ⟨b, off, e, Nat.lt_of_lt_of_le hl hs, fun j hj => (hc j hj).keep fun p => hk ⟨b, p, none⟩ hl⟩⟩
theorem RRow.below (h : RRow w A n l) (hb : Below w.heap.size w w') : RRow w' A n l := h.keep hb.size fun _ hp => hb.cell hp
theorem RRow.drewN (h : RRow w A n l) (m : Nat) : RRow (w.drewN m) A n l := h
theorem RRow.drew (h : RRow w A n l) : RRow w.drew A n l := h
theorem RRow.alloc (h : RRow w A n l) (o : Obj) : RRow (w.alloc o) A n l := h.below ((Below.refl _ _).alloc (Nat.le_refl _) _)
theorem RRow.news {b off : Nat} (h : RRow w (some ⟨b, off, none⟩) n l) : ∀ j u, (cells3 l)[j]? = some u → w.cell? ((⟨b, off, none⟩ : Addr).add j) = some u := by
  intro j u hu
  have hj : j < l.length * 3 := by
    rcases Nat.lt_or_ge j (l.length * 3) with h1 | h1
    · exact h1
    · rw [List.getElem?_eq_none (by rw [cells3_length]; exact h1)] at hu; cases hu
  obtain ⟨b', off', e, _, hc⟩ := h.2 (by have := h.1; omega)
  injection e with e
  injection e with e1 e2 e3
  subst e1; subst e2
  have hp : (⟨b, off, none⟩ : Addr).add j = ⟨b, off + j, none⟩ := by unfold Addr.add; split <;> simp_all
  rw [hp]
  have hjd : j = j / 3 * 3 + j % 3 := by omega
  rw [hjd, cells3_at l (j / 3) (by omega) (j % 3) (by omega)] at hu
  have := hc (j / 3) (by omega) (j % 3) u hu
  rw [hjd, ← Nat.add_assoc]; exact this

/-- tokens, a row of the call's own -/
def Rgs (base : Nat) (W : World) (v : Value) (l : List Rg) : Prop := W.ownsRow base 78 3 v l.length (cells3 l)
variable {base : Nat} {v : Value}
theorem Rgs.nil : Rgs base w (.slice none 0 0) [] := World.ownsRow_nil _ _ _ _
theorem Rgs.drew (h : Rgs base w v l) : Rgs base w.drew v l := h
theorem Rgs.drewN (h : Rgs base w v l) (m : Nat) : Rgs base (w.drewN m) v l := h
theorem Rgs.block (h : Rgs base w v l) : ∀ g, v.ownBlock = some g → base ≤ g ∧ g < w.heap.size ∧ ∃ cs fr, w.heap[g]? = some (.cells cs 78 fr) := by
  intro g hg
  rcases h.2 with ⟨hv, _⟩ | ⟨g', cap, cur, hv, hb, hh, _⟩
  · subst hv; cases hg
  · subst hv
    simp only [Value.ownBlock, Option.some.injEq] at hg
    subst hg
    exact ⟨hb, (Array.getElem?_eq_some_iff.1 hh).1, _, _, hh⟩
theorem Rgs.row (h : Rgs base w v l) : ∃ A c, v = .slice A l.length c ∧ l.length ≤ c ∧ RRow w A l.length l := by
  have h' := h
  rcases h.2 with ⟨rfl, h0⟩ | ⟨g, cap, cur, rfl, hb, hg, hnc, hm, hs, ht⟩
  · obtain rfl : l = [] := List.eq_nil_of_length_eq_zero h0
    exact ⟨none, 0, rfl, Nat.le_refl _, RRow.nil⟩
  · have hgl : g < w.heap.size := (Array.getElem?_eq_some_iff.1 hg).1
    refine ⟨_, cap, rfl, hnc, rfl, fun hn => ⟨g, 0, rfl, hgl, fun j hj i u hu => ?_⟩⟩
    have hi : i < 3 := by
      have := (List.getElem?_eq_some_iff.1 hu).1
      rwa [rcells_length] at this
    rw [Nat.zero_add, World.ownsRow.cellAt h' _ (by omega), cells3_at l j hj i hi]
    exact hu
theorem Rgs.form (h : Rgs base w v l) : ∃ A c, v = .slice A l.length c := by
  obtain ⟨A, c, e, _⟩ := h.row; exact ⟨A, c, e⟩
theorem Rgs.below (h : Rgs base w v l) {B : Nat} (hb : Below B w w') (hg : ∀ g, v.ownBlock = some g → g < B) : Rgs base w' v l := by
  refine ⟨h.1, ?_⟩
  rcases h.2 with hn | ⟨g, cap, cur, hv, h1, h2, r⟩
  · exact .inl hn
  · subst hv
    exact .inr ⟨g, cap, cur, rfl, h1, by rw [hb.block g (hg g rfl)]; exact h2, r⟩
theorem Rgs.belowAll (h : Rgs base w v l) (hb : Below w.heap.size w w') : Rgs base w' v l := h.below hb (fun g hg => (h.block g hg).2.1)
theorem Rgs.alloc (h : Rgs base w v l) (o : Obj) : Rgs base (w.alloc o) v l := h.belowAll ((Below.refl _ w).alloc (Nat.le_refl _) o)
theorem Rgs.set (h : Rgs base w v l) {b : Nat} (hb : b < base) (j : Nat) (u : Value) : Rgs base (w.setCell ⟨b, j, none⟩ u) v l := by
  refine ⟨h.1, ?_⟩
  rcases h.2 with hn | ⟨g, cap, cur, hv, h1, h2, r⟩
  · exact .inl hn
  · exact .inr ⟨g, cap, cur, hv, h1, by rw [Below.heap_setCell _ _ _ _ (by simp; omega)]; exact h2, r⟩
theorem Rgs.lower (h : Rgs base w v l) {base' : Nat} (hb : base' ≤ base) : Rgs base' w v l := by
  refine ⟨h.1, ?_⟩
  rcases h.2 with hn | ⟨g, cap, cur, hv, h1, r⟩
  · exact .inl hn
  · exact .inr ⟨g, cap, cur, hv, Nat.le_trans hb h1, r⟩
theorem Rgs.grown {row : Option Nat} (h : Rgs base w v l) (hg : w.grownBy w' row) (hne : ∀ g, v.ownBlock = some g → some g ≠ row) : Rgs base w' v l := by
  refine ⟨h.1, ?_⟩
  rcases h.2 with hn | ⟨g, cap, cur, hv, h1, h2, r⟩
  · exact .inl hn
  · subst hv
    exact .inr ⟨g, cap, cur, rfl, h1, by rw [hg.block g (Array.getElem?_eq_some_iff.1 h2).1 (hne g rfl)]; exact h2, r⟩
end

section
theorem tzero : (Try.prog.info? 78).map (fun i => (i.zero, i.size, i.bytes)) = some (some (rgV zeroRg), 3, 24) := by kernel_rfl
theorem run_app_rg {w : World} {base : Nat} (ty : TypeId) {v : Value} {l : List Rg} (hown : Rgs base w v l) {A : Option Addr} {m : Nat} (c : Nat) {y : List Rg} (hr : RRow w A m y) (hbig : l.length + m ≤ 1000000000) (hbase : base ≤ w.heap.size) :
    ∃ v' w', (Builtin.append_ #[39, 39] ty #[v, .slice A m c]).run Try.prog w = .ok v' w' ∧ Rgs base w' v' (l ++ y) ∧ w.grownBy w' v.ownBlock ∧ (v'.ownBlock = v.ownBlock ∨ v'.ownBlock = some w.heap.size) := by
  obtain ⟨i, hi, hiz, his, hib⟩ := info_parts tzero
  rcases A with _ | ⟨b, off, spot⟩
  · have hm : m = 0 := by
      rcases Nat.eq_zero_or_pos m with h0 | h0
      · exact h0
      · obtain ⟨_, _, h, _⟩ := hr.2 h0
        cases h
    subst hm
    obtain rfl : y = [] := List.eq_nil_of_length_eq_zero hr.1
    exact ⟨v, w, run_app_nil 39 ty 78 i 3 Try.underlying39 hi hown c, by simpa using hown, World.grownBy.refl w _, .inl rfl⟩
  · rcases Nat.eq_zero_or_pos m with h0 | h0
    · subst h0
      obtain rfl : y = [] := List.eq_nil_of_length_eq_zero hr.1
      obtain ⟨v', w', h1, h2, h3, _, h5⟩ := run_append_own_at (P := Try.prog) w base 39 ty 78 i (rgV zeroRg) 3 24 Try.underlying39 hi hiz his hib rfl (by omega) v l.length (cells3 l) hown ⟨b, off, spot⟩ 0 c []
        rfl (fun j u hu => by simp at hu) (fun u hu => by simp at hu) (by simp only [maxLen]; omega) (by omega) hbase
      exact ⟨v', w', h1, by simpa [Rgs] using h2, h3, h5⟩
    · obtain ⟨b', off', e, _, _⟩ := hr.2 h0
      injection e with e
      injection e with e1 e2 e3
      subst e1; subst e2; subst e3
      obtain ⟨v', w', h1, h2, h3, _, h5⟩ := run_append_own_at (P := Try.prog) w base 39 ty 78 i (rgV zeroRg) 3 24 Try.underlying39 hi hiz his hib rfl (by omega) v l.length (cells3 l) hown ⟨b, off, none⟩ m c (cells3 y)
        (by rw [cells3_length, hr.1]) hr.news (cells3_one y) (by simp only [maxLen]; omega) (by omega) hbase
      refine ⟨v', w', h1, ?_, h3, h5⟩
      unfold Rgs
      rw [cells3_append, List.length_append, hr.1]
      exact h2
/-- 'append(v, ys...)' in a walk -/
theorem wpList_app_rg {w : World} {ops : Array Oper} {rest : List Oper} {o : Oper} {a : Act} {Q : Exit → Act → World → Prop} (hgd : o.guard = none) (s x : Operand)
    (ho : o.op = .call { callee := .builtin .append, args := #[s, x], argTypes := #[39, 39] })
    (base : Nat) (v : Value) (l : List Rg) (hs : a.eval s = v) (hown : Rgs base w v l)
    (A : Option Addr) (m c : Nat) (y : List Rg) (hx : a.eval x = .slice A m c) (hr : RRow w A m y) (hbig : l.length + m ≤ 1000000000) (hbase : base ≤ w.heap.size)
    (h : ∀ v' w', Rgs base w' v' (l ++ y) → w.grownBy w' v.ownBlock → (v'.ownBlock = v.ownBlock ∨ v'.ownBlock = some w.heap.size) → wpList Try.prog ops Q rest (a.put o.dst v') w') :
    wpList Try.prog ops Q (o :: rest) a w := by
  refine wpList_plain hgd fun K hK => ?_
  obtain ⟨v', w', hrun, h2, h3, h4⟩ := run_app_rg o.type hown c hr hbig hbase
  unfold Oper.wp
  simp [execOp, ho, resolve, invoke, builtin, hs, hx, hrun, Result.andThen]
  exact hK _ _ (h v' w' h2 h3 h4)
end


/-! == of ranges -/
set_option maxRecDepth 100000 in
/-- as the walk comes upon it -/
theorem eq_rg (d : Nat) (x y : Rg) (w : World) : (Op.equalIn (d + 1 + 1) 78 (rgV x) (rgV y)).run Try.prog w = .ok (decide (x = y)) w := by
  have hst : Try.prog.underlying 78 = some (.struct (Try.prog.fieldsOf 78)) := by kernel_rfl
  have hin : Try.prog.stoodInHeld 78 = false := by kernel_rfl
  have h64 : Try.prog.underlying 3 = some (.int .i64) := by kernel_rfl
  obtain ⟨f0, f1, f2, hl⟩ : ∃ f0 f1 f2, (Try.prog.fieldsOf 78).toList = [f0, f1, f2] := ⟨_, _, _, rfl⟩
  have hh : ((Try.prog.fieldsOf 78).toList.map fun f => (f.name != "_", f.type, f.offset)) = [(true, 3, 0), (true, 3, 1), (true, 3, 2)] := by decide +kernel
  rw [hl] at hh
  simp only [List.map_cons, List.map_nil, List.cons.injEq, Prod.mk.injEq, and_true, bne_iff_ne] at hh
  obtain ⟨⟨a0, b0, c0⟩, ⟨a1, b1, c1⟩, ⟨a2, b2, c2⟩⟩ := hh
  have pi : ∀ (x : Rg) (w : World), (part 3 (rcells x).toArray 0).run Try.prog w = .ok (.int .i64 x.at_) w ∧ (part 3 (rcells x).toArray 1).run Try.prog w = .ok (.int .i64 x.old) w ∧ (part 3 (rcells x).toArray 2).run Try.prog w = .ok (.int .i64 x.new) w :=
    fun x w => ⟨by kernel_rfl, by kernel_rfl, by kernel_rfl⟩
  show (Op.equalIn (d + 1 + 1) 78 (.agg (rcells x).toArray) (.agg (rcells y).toArray)).run Try.prog w = _
  rw [run_equalIn_struct w (d + 1) _ _ _ hst hin, hl]
  have st : ∀ (f : Field) (fs : List Field) (u v : Value) (p R : Bool) (w : World), f.name ≠ "_" → (part f.type (rcells x).toArray f.offset).run Try.prog w = .ok u w → (part f.type (rcells y).toArray f.offset).run Try.prog w = .ok v w → (Op.equalIn (d + 1) f.type u v).run Try.prog w = .ok p w →
      (Op.eqFields (d + 1) (rcells x).toArray (rcells y).toArray fs).run Try.prog w = .ok R w → (Op.eqFields (d + 1) (rcells x).toArray (rcells y).toArray (f :: fs)).run Try.prog w = .ok (p && R) w := by
    intro f fs u v p R w hn h1 h2 h3 h4
    unfold Op.eqFields
    rw [if_pos hn]
    simp only [Sem.run_bind, h1, h2, h3, Result.andThen_ok]
    cases p
    · simp
    · simpa using h4
  obtain ⟨x0, x1, x2⟩ := pi x w
  obtain ⟨y0, y1, y2⟩ := pi y w
  rw [st f0 _ _ _ (x.at_ == y.at_) ((x.old == y.old) && ((x.new == y.new) && true)) w a0 (by rw [b0, c0]; exact x0) (by rw [b0, c0]; exact y0) (by rw [b0]; exact run_equalIn_int w _ _ _ _ _ _ h64)
    (st f1 _ _ _ _ _ w a1 (by rw [b1, c1]; exact x1) (by rw [b1, c1]; exact y1) (by rw [b1]; exact run_equalIn_int w _ _ _ _ _ _ h64)
    (st f2 _ _ _ _ _ w a2 (by rw [b2, c2]; exact x2) (by rw [b2, c2]; exact y2) (by rw [b2]; exact run_equalIn_int w _ _ _ _ _ _ h64)
    (by simp [Op.eqFields])))]
  congr 1
  rw [Bool.eq_iff_iff]
  obtain ⟨a, b, c⟩ := x
  obtain ⟨a', b', c'⟩ := y
  simp
end Go.Proofs.Ytgodphfkhmahnaa.Sm
namespace Go.Proofs.Ytgodphfkhmahnaa.Mem
open Go.RowKit

theorem tk {P : Program} {ops : Array Oper} {Q : Exit → Act → World → Prop} {md : Region.Mode} {S : World → Prop} (i : Nat) {oi : Oper} {v : Value} {fuel : Nat} {listed : Array Bool} {a : Act} {w : World} (hi : ops[i]? = some oi)
    (hb : (Region.noSelect ops && (Region.free md ops listed i && ((Region.ready md ops listed).contains i && Region.wanted oi (yielded ops a.tmps)))) = true)
    (hQ : ∀ c a w, Q (.panic c) (a.put oi.dst v) w → Q (.panic c) a w) (hy : ∀ w, S w → (execOp a.eval oi).run P w = .ok (.value v) w) (hS : S w)
    (h : wpAnyH P md ops Q S fuel (listed.setIfInBounds i true) (a.put oi.dst v) w) : wpAnyH P md ops Q S (fuel + 1) listed a w := by
  simp only [Bool.and_eq_true] at hb
  exact wpAnyH_take hi hb.1 hb.2.1 hb.2.2.1 hQ (Or.inl ⟨hb.2.2.2, hy⟩) hS h
end Go.Proofs.Ytgodphfkhmahnaa.Mem
