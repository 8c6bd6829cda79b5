/- Rows of sets of marks of the call's own; appended to; cloned. -/
import Derived.Test.YtgodphfkhmahnaaMkEq
import Derived.Test.YtgodphfkhmahnaaStJ
namespace Go.Proofs.Ytgodphfkhmahnaa.Tk
open Go.RowKit Mem
set_option linter.unusedVariables false
theorem mcells_length (x : Mk) : (mcells x).length = 8 := rfl
def cells8 (l : List Mk) : List Value := l.flatMap mcells
theorem cells8_nil : cells8 [] = [] := rfl
theorem cells8_cons (x : Mk) (l : List Mk) : cells8 (x :: l) = mcells x ++ cells8 l := rfl
theorem cells8_append (h k : List Mk) : cells8 (h ++ k) = cells8 h ++ cells8 k := by simp [cells8]
theorem cells8_length (l : List Mk) : (cells8 l).length = l.length * 8 := by
  induction l with
  | nil => rfl
  | cons a l ih => rw [cells8_cons, List.length_append, ih, mcells_length, List.length_cons]; omega
theorem cells8_at (l : List Mk) : ∀ i (h : i < l.length) j, j < 8 → (cells8 l)[i * 8 + j]? = (mcells l[i])[j]? := by
  induction l with
  | nil => intro i hi; simp at hi
  | cons a l ih =>
    intro i hi j hj
    rw [cells8_cons]
    cases i with
    | zero => rw [Nat.zero_mul, Nat.zero_add, List.getElem?_append_left (by rw [mcells_length]; exact hj)]; rfl
    | succ i =>
      rw [List.getElem?_append_right (by rw [mcells_length]; omega), mcells_length, show (i + 1) * 8 + j - 8 = i * 8 + j by omega, ih i (by simpa using hi) j hj]
      rfl
theorem cells8_one (l : List Mk) : ∀ u ∈ cells8 l, u.oneCell' = true := by
  intro u hu
  obtain ⟨x, _, hx⟩ := List.mem_flatMap.1 hu
  simp only [mcells, List.mem_cons, List.not_mem_nil, or_false] at hx
  rcases hx with rfl | rfl | rfl | rfl | rfl | rfl | rfl | rfl <;> rfl

section
variable {w w' : World} {A : Option Addr} {n : Nat} {l : List Mk}
theorem MkRow.news {b off : Nat} (h : MkRow w (some ⟨b, off, none⟩) n l) : ∀ j u, (cells8 l)[j]? = some u → w.cell? ((⟨b, off, none⟩ : Addr).add j) = some u := by
  intro j u hu
  have hj : j < l.length * 8 := by
    rcases Nat.lt_or_ge j (l.length * 8) with h1 | h1
    · exact h1
    · rw [List.getElem?_eq_none (by rw [cells8_length]; exact h1)] at hu; cases hu
  obtain ⟨b', off', e, _, hc⟩ := h.2 (by have := h.1; omega)
  injection e with e
  injection e with e1 e2 e3
  subst e1; subst e2
  have hp : (⟨b, off, none⟩ : Addr).add j = ⟨b, off + j, none⟩ := by unfold Addr.add; split <;> simp_all
  rw [hp]
  have hjd : j = j / 8 * 8 + j % 8 := by omega
  rw [hjd, cells8_at l (j / 8) (by omega) (j % 8) (by omega)] at hu
  have := hc (j / 8) (by omega) (j % 8) u hu
  rw [hjd, ← Nat.add_assoc]; exact this

/-- sets of marks, a row of the call's own -/
def Mks (base : Nat) (W : World) (v : Value) (l : List Mk) : Prop := W.ownsRow base 99 8 v l.length (cells8 l)
variable {base : Nat} {v : Value}
theorem Mks.nil : Mks base w (.slice none 0 0) [] := World.ownsRow_nil _ _ _ _
theorem Mks.drew (h : Mks base w v l) : Mks base w.drew v l := h
theorem Mks.drewN (h : Mks base w v l) (m : Nat) : Mks base (w.drewN m) v l := h
theorem Mks.block (h : Mks base w v l) : ∀ g, v.ownBlock = some g → base ≤ g ∧ g < w.heap.size ∧ ∃ cs fr, w.heap[g]? = some (.cells cs 99 fr) := by
  intro g hg
  rcases h.2 with ⟨hv, _⟩ | ⟨g', cap, cur, hv, hb, hh, _⟩
  · subst hv; cases hg
  · subst hv
    simp only [Value.ownBlock, Option.some.injEq] at hg
    subst hg
    exact ⟨hb, (Array.getElem?_eq_some_iff.1 hh).1, _, _, hh⟩
theorem Mks.row (h : Mks base w v l) : ∃ A c, v = .slice A l.length c ∧ l.length ≤ c ∧ MkRow w A l.length l := by
  have h' := h
  rcases h.2 with ⟨rfl, h0⟩ | ⟨g, cap, cur, rfl, hb, hg, hnc, hm, hs, ht⟩
  · obtain rfl : l = [] := List.eq_nil_of_length_eq_zero h0
    exact ⟨none, 0, rfl, Nat.le_refl _, MkRow.nil⟩
  · have hgl : g < w.heap.size := (Array.getElem?_eq_some_iff.1 hg).1
    refine ⟨_, cap, rfl, hnc, rfl, fun hn => ⟨g, 0, rfl, hgl, fun j hj i u hu => ?_⟩⟩
    have hi : i < 8 := by
      have := (List.getElem?_eq_some_iff.1 hu).1
      rwa [mcells_length] at this
    rw [Nat.zero_add, World.ownsRow.cellAt h' _ (by omega), cells8_at l j hj i hi]
    exact hu
theorem Mks.form (h : Mks base w v l) : ∃ A c, v = .slice A l.length c := by
  obtain ⟨A, c, e, _⟩ := h.row; exact ⟨A, c, e⟩
theorem Mks.below (h : Mks base w v l) {B : Nat} (hb : Below B w w') (hg : ∀ g, v.ownBlock = some g → g < B) : Mks base w' v l := by
  refine ⟨h.1, ?_⟩
  rcases h.2 with hn | ⟨g, cap, cur, hv, h1, h2, r⟩
  · exact .inl hn
  · subst hv
    exact .inr ⟨g, cap, cur, rfl, h1, by rw [hb.block g (hg g rfl)]; exact h2, r⟩
theorem Mks.belowAll (h : Mks base w v l) (hb : Below w.heap.size w w') : Mks base w' v l := h.below hb (fun g hg => (h.block g hg).2.1)
theorem Mks.alloc (h : Mks base w v l) (o : Obj) : Mks base (w.alloc o) v l := h.belowAll ((Below.refl _ w).alloc (Nat.le_refl _) o)
theorem Mks.set (h : Mks base w v l) {b : Nat} (hb : b < base) (j : Nat) (u : Value) : Mks base (w.setCell ⟨b, j, none⟩ u) v l := by
  refine ⟨h.1, ?_⟩
  rcases h.2 with hn | ⟨g, cap, cur, hv, h1, h2, r⟩
  · exact .inl hn
  · exact .inr ⟨g, cap, cur, hv, h1, by rw [Below.heap_setCell _ _ _ _ (by simp; omega)]; exact h2, r⟩
theorem Mks.lower (h : Mks base w v l) {base' : Nat} (hb : base' ≤ base) : Mks base' w v l := by
  refine ⟨h.1, ?_⟩
  rcases h.2 with hn | ⟨g, cap, cur, hv, h1, r⟩
  · exact .inl hn
  · exact .inr ⟨g, cap, cur, hv, Nat.le_trans hb h1, r⟩
theorem Mks.grown {row : Option Nat} (h : Mks base w v l) (hg : w.grownBy w' row) (hne : ∀ g, v.ownBlock = some g → some g ≠ row) : Mks base w' v l := by
  refine ⟨h.1, ?_⟩
  rcases h.2 with hn | ⟨g, cap, cur, hv, h1, h2, r⟩
  · exact .inl hn
  · subst hv
    exact .inr ⟨g, cap, cur, rfl, h1, by rw [hg.block g (Array.getElem?_eq_some_iff.1 h2).1 (hne g rfl)]; exact h2, r⟩
end

section
def zeroMk : Mk := ⟨0, 0, 0, 0, 0, 0, 0, 0⟩
theorem mzero : (Try.prog.info? 99).map (fun i => (i.zero, i.size, i.bytes)) = some (some (mkV zeroMk), 8, 16) := by kernel_rfl
theorem run_app_mk {w : World} {base : Nat} (ty : TypeId) {v : Value} {l : List Mk} (hown : Mks base w v l) {A : Option Addr} {m : Nat} (c : Nat) {y : List Mk} (hr : MkRow w A m y) (hbig : l.length + m ≤ 1000000000) (hbase : base ≤ w.heap.size) :
    ∃ v' w', (Builtin.append_ #[23, 23] ty #[v, .slice A m c]).run Try.prog w = .ok v' w' ∧ Mks base w' v' (l ++ y) ∧ w.grownBy w' v.ownBlock ∧ (v'.ownBlock = v.ownBlock ∨ v'.ownBlock = some w.heap.size) := by
  obtain ⟨i, hi, hiz, his, hib⟩ := info_parts mzero
  rcases A with _ | ⟨b, off, spot⟩
  · have hm : m = 0 := by
      rcases Nat.eq_zero_or_pos m with h0 | h0
      · exact h0
      · obtain ⟨_, _, h, _⟩ := hr.2 h0
        cases h
    subst hm
    obtain rfl : y = [] := List.eq_nil_of_length_eq_zero hr.1
    exact ⟨v, w, run_app_nil 23 ty 99 i 8 Try.underlying23 hi hown c, by simpa using hown, World.grownBy.refl w _, .inl rfl⟩
  · rcases Nat.eq_zero_or_pos m with h0 | h0
    · subst h0
      obtain rfl : y = [] := List.eq_nil_of_length_eq_zero hr.1
      obtain ⟨v', w', h1, h2, h3, _, h5⟩ := run_append_own_at (P := Try.prog) w base 23 ty 99 i (mkV zeroMk) 8 16 Try.underlying23 hi hiz his hib rfl (by omega) v l.length (cells8 l) hown ⟨b, off, spot⟩ 0 c []
        rfl (fun j u hu => by simp at hu) (fun u hu => by simp at hu) (by simp only [maxLen]; omega) (by omega) hbase
      exact ⟨v', w', h1, by simpa [Mks] using h2, h3, h5⟩
    · obtain ⟨b', off', e, _, _⟩ := hr.2 h0
      injection e with e
      injection e with e1 e2 e3
      subst e1; subst e2; subst e3
      obtain ⟨v', w', h1, h2, h3, _, h5⟩ := run_append_own_at (P := Try.prog) w base 23 ty 99 i (mkV zeroMk) 8 16 Try.underlying23 hi hiz his hib rfl (by omega) v l.length (cells8 l) hown ⟨b, off, none⟩ m c (cells8 y)
        (by rw [cells8_length, hr.1]) hr.news (cells8_one y) (by simp only [maxLen]; omega) (by omega) hbase
      refine ⟨v', w', h1, ?_, h3, h5⟩
      unfold Mks
      rw [cells8_append, List.length_append, hr.1]
      exact h2
/-- 'append(v, ys...)' in a walk -/
theorem wpList_app_mk {w : World} {ops : Array Oper} {rest : List Oper} {o : Oper} {a : Act} {Q : Exit → Act → World → Prop} (hgd : o.guard = none) (s x : Operand)
    (ho : o.op = .call { callee := .builtin .append, args := #[s, x], argTypes := #[23, 23] })
    (base : Nat) (v : Value) (l : List Mk) (hs : a.eval s = v) (hown : Mks base w v l)
    (A : Option Addr) (m c : Nat) (y : List Mk) (hx : a.eval x = .slice A m c) (hr : MkRow w A m y) (hbig : l.length + m ≤ 1000000000) (hbase : base ≤ w.heap.size)
    (h : ∀ v' w', Mks base w' v' (l ++ y) → w.grownBy w' v.ownBlock → (v'.ownBlock = v.ownBlock ∨ v'.ownBlock = some w.heap.size) → wpList Try.prog ops Q rest (a.put o.dst v') w') :
    wpList Try.prog ops Q (o :: rest) a w := by
  refine wpList_plain hgd fun K hK => ?_
  obtain ⟨v', w', hrun, h2, h3, h4⟩ := run_app_mk o.type hown c hr hbig hbase
  unfold Oper.wp
  simp [execOp, ho, resolve, invoke, builtin, hs, hx, hrun, Result.andThen]
  exact hK _ _ (h v' w' h2 h3 h4)
end
end Go.Proofs.Ytgodphfkhmahnaa.Tk
namespace Go.Proofs.Ytgodphfkhmahnaa.St
open Go.RowKit Mem Sm Tk Rt
theorem mks_empty (w : World) : Mks w.heap.size (w.alloc (.cells #[] 99)) (.slice (some ⟨w.heap.size, 0, none⟩) 0 0) [] :=
  ⟨rfl, .inr ⟨w.heap.size, 0, #[], rfl, Nat.le_refl _, heap_alloc_new w _, Nat.le_refl _, Nat.zero_le _, rfl, rfl⟩⟩
def MksIs (w : World) (l : List Mk) (e : Ending) (w' : World) : Prop := ∃ v, e = .returned v ∧ Mks w.heap.size w' v l ∧ Below w.heap.size w w'
set_option maxRecDepth 100000 in
set_option maxHeartbeats 1000000 in
theorem clone_mk (l : List Mk) (A : Option Addr) (n c : Nat) (w : World) (hn : n ≤ 1000000) (hr : MkRow w A n l) :
    Calls Try.prog 73 #[.slice A n c] w (MksIs w l) := by
  cases A with
  | none =>
    have h0 : n = 0 := by
      rcases Nat.eq_zero_or_pos n with h | h
      · exact h
      · obtain ⟨_, _, e, _⟩ := hr.2 h; cases e
    subst h0
    obtain rfl : l = [] := List.eq_nil_of_length_eq_zero hr.1
    clear hr
    go_enter Try.func73, Try.ntmps73
    have he := eql_slice 23 99 Try.underlying23 none 0 c w
    simp only [Option.isNone_none] at he
    go_wp2
    go_ret
    exact ⟨_, rfl, Mks.nil, Below.refl _ _⟩
  | some a =>
    have HO := Lib.hid (mks_empty w)
    have HR := Lib.hid (hr.below ((Below.refl _ w).alloc (Nat.le_refl _) (.cells #[] 99)))
    have HB := Lib.hid ((Below.refl _ w).alloc (Nat.le_refl _) (.cells #[] 99))
    have he := eql_slice 23 99 Try.underlying23 (some a) n c w
    simp only [Option.isNone_some] at he
    clear hr
    go_enter Try.func73, Try.ntmps73
    go_wp2_with (at_builtin; (refine wpList_app_mk rfl (.tmp 5) (.tmp 6) rfl w.heap.size _ [] rfl HO.out (some a) n c l rfl HR.out (by simp; omega) (by simp) ?_); intro v' w2 hown' hg hat)
    go_ret
    rw [List.nil_append] at hown'
    exact ⟨_, rfl, hown', below_of_grown HB.out hg (by simp) (fun i hi => (HO.out.block i hi).1)⟩
end Go.Proofs.Ytgodphfkhmahnaa.St
