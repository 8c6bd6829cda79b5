/- Walks: rows of ranges that are answered; append in a region. Walks of route: slices.Clone of ranges. Routes in memory: a block of the maps' list and the mirrors' map. -/
import Derived.Test.YtgodphfkhmahnaaSmK
namespace Go.Proofs.Ytgodphfkhmahnaa.Sm
open Go.RowKit Go.Shelf Mem
set_option linter.unusedVariables false

/-- 'append(v, ys...)' of ranges in a region that draws its order -/
theorem step_app_rg {w : World} {ops : Array Oper} {o : Oper} {a : Act} {K : Act → World → Prop} {Q : Exit → Act → World → Prop} {E : Prop} (hgd : o.guard = none) (s x : Operand)
    (ho : o.op = .call { callee := .builtin .append, args := #[s, x], argTypes := #[39, 39] })
    (base : Nat) (v : Value) (l : List Rg) (hs : a.eval s = v) (hown : Rgs base w v l)
    (A : Option Addr) (m c : Nat) (y : List Rg) (hx : a.eval x = .slice A m c) (hr : RRow w A m y) (hbig : l.length + m ≤ 1000000000) (hbase : base ≤ w.heap.size)
    (h : ∀ v' w', Rgs base w' v' (l ++ y) → w.grownBy w' v.ownBlock → (v'.ownBlock = v.ownBlock ∨ v'.ownBlock = some w.heap.size) → K (a.put o.dst v') w') :
    if Region.wanted o (yielded ops a.tmps) = true then Oper.wp Try.prog o a w K Q else E := by
  have hw : Region.wanted o (yielded ops a.tmps) = true := by simp [Region.wanted, hgd]
  rw [if_pos hw]
  obtain ⟨v', w', hrun, h2, h3, h4⟩ := run_app_rg o.type hown c hr hbig hbase
  unfold Oper.wp
  simp [execOp, ho, resolve, invoke, builtin, hs, hx, hrun, Result.andThen]
  exact h v' w' h2 h3 h4
theorem rrow_one (w : World) (r : Rg) : RRow (w.alloc (.cells #[.int .i64 r.at_, .int .i64 r.old, .int .i64 r.new] 78)) (some ⟨w.heap.size, 0, none⟩) 1 [r] := by
  refine ⟨rfl, fun _ => ⟨_, 0, rfl, by simp, fun j hj => ?_⟩⟩
  obtain rfl : j = 0 := by simpa using hj
  intro k v hk
  rw [World.cell?_alloc_mark]
  have hk3 : k < 3 := by
    have := (List.getElem?_eq_some_iff.1 hk).1
    rwa [rcells_length] at this
  rcases (show k = 0 ∨ k = 1 ∨ k = 2 by omega) with rfl | rfl | rfl
  all_goals (simp [rcells] at hk ⊢; exact hk)
/-- a row of the call's own is answered -/
def RgsIs (w : World) (l : List Rg) (e : Ending) (w' : World) : Prop := ∃ v, e = .returned v ∧ Rgs w.heap.size w' v l ∧ Below w.heap.size w w'
end Go.Proofs.Ytgodphfkhmahnaa.Sm
namespace Go.Proofs.Ytgodphfkhmahnaa.Rt
open Go.RowKit Mem Sm
set_option linter.unusedVariables false

theorem rgs_empty (w : World) : Rgs w.heap.size (w.alloc (.cells #[] 78)) (.slice (some ⟨w.heap.size, 0, none⟩) 0 0) [] :=
  ⟨rfl, .inr ⟨w.heap.size, 0, #[], rfl, Nat.le_refl _, heap_alloc_new w _, Nat.le_refl _, Nat.zero_le _, rfl, rfl⟩⟩
theorem in_slice (d : Nat) (t e : TypeId) (h : Try.prog.underlying t = some (.slice e)) (A : Option Addr) (n c : Nat) (W : World) : (Op.equalIn (d + 1) t (.slice A n c) (.slice none 0 0)).run Try.prog W = .ok A.isNone W := by
  cases A <;> simp [Op.equalIn, run_underlying h]
theorem eql_slice (t e : TypeId) (h : Try.prog.underlying t = some (.slice e)) (A : Option Addr) (n c : Nat) (W : World) : (binOp .eql t (.slice A n c) (.slice none 0 0)).run Try.prog W = .ok (.bool A.isNone) W := by
  simp only [binOp]
  simp [Op.equal, Op.maxDepth, in_slice 9999 t e h]
set_option maxRecDepth 100000 in
set_option maxHeartbeats 1000000 in
theorem clone_any (l : List Rg) (A : Option Addr) (n c : Nat) (w : World) (hn : n ≤ 100) (hr : RRow w A n l) :
    Calls Try.prog 66 #[.slice A n c] w (RgsIs w l) := by
  cases A with
  | none =>
    have h0 : n = 0 := by
      rcases Nat.eq_zero_or_pos n with h | h
      · exact h
      · obtain ⟨_, _, e, _⟩ := hr.2 h; cases e
    subst h0
    obtain rfl : l = [] := List.eq_nil_of_length_eq_zero hr.1
    clear hr
    go_enter Try.func66, Try.ntmps66
    have he := eql_slice 39 78 Try.underlying39 none 0 c w
    simp only [Option.isNone_none] at he
    go_wp2
    go_ret
    exact ⟨_, rfl, Rgs.nil, Below.refl _ _⟩
  | some a =>
    have HO := Lib.hid (rgs_empty w)
    have HR := Lib.hid (hr.alloc (.cells #[] 78))
    have HB := Lib.hid ((Below.refl _ w).alloc (Nat.le_refl _) (.cells #[] 78))
    have he := eql_slice 39 78 Try.underlying39 (some a) n c w
    simp only [Option.isNone_some] at he
    clear hr
    go_enter Try.func66, Try.ntmps66
    go_wp2_with (at_builtin; (refine wpList_app_rg rfl (.tmp 5) (.tmp 6) rfl w.heap.size _ [] rfl HO.out (some a) n c l rfl HR.out (by simp; omega) (by simp) ?_); intro v' w2 hown' hg hat)
    go_ret
    rw [List.nil_append] at hown'
    exact ⟨_, rfl, hown', below_of_grown HB.out hg (by simp) (fun i hi => (HO.out.block i hi).1)⟩
end Go.Proofs.Ytgodphfkhmahnaa.Rt
namespace Go.Proofs.Ytgodphfkhmahnaa.Rt
open Go.RowKit Mem Sm
set_option linter.unusedVariables false

/-- a slice's ranges, which nobody writes to -/
def SlAt (W : World) (v : Value) (l : List Rg) : Prop := ∃ A c, v = .slice A l.length c ∧ RRow W A l.length l ∧ (0 < l.length → ∃ b o cs fr, A = some ⟨b, o, none⟩ ∧ W.heap[b]? = some (.cells cs 78 fr))
def Sls (W : World) (vs : List Value) (M : List (List Rg)) : Prop := vs.length = M.length ∧ ∀ (i : Nat) (v : Value) (l : List Rg), vs[i]? = some v → M[i]? = some l → SlAt W v l
/-- the mirrors, in the order put -/
def entOf (i : Nat) : List (Int × Int) → List MapEntry
  | [] => []
  | q :: r => { key := .int .i64 q.1, val := .int .i64 q.2, born := i } :: entOf (i + 1) r
theorem entOf_append (l m : List (Int × Int)) : ∀ i, entOf i (l ++ m) = entOf i l ++ entOf (i + l.length) m := by
  induction l with
  | nil => intro i; simp [entOf]
  | cons q r ih => intro i; simp only [List.cons_append, entOf, ih, List.length_cons]; rw [show i + 1 + r.length = i + (r.length + 1) by omega]
theorem entOf_length (l : List (Int × Int)) : ∀ i, (entOf i l).length = l.length := by
  induction l with
  | nil => intro i; rfl
  | cons q r ih => intro i; simp [entOf, ih]
def MpAt (base : Nat) (W : World) (mp : Value) (mir : List (Int × Int)) : Prop :=
  (mp = .map none ∧ mir = []) ∨ ∃ B, mp = .map (some B) ∧ base ≤ B ∧ W.heap[B]? = some (.map (entOf 0 mir).toArray mir.length)
structure RtAt (base : Nat) (W : World) (p : Nat) (v mp : Value) (vs : List Value) (M : List (List Rg)) (mir : List (Int × Int)) : Prop where
  hp : base ≤ p
  h0 : W.heap[p]? = some (.cells #[v, mp] 35 (0, 0))
  row : W.ownsRow base 39 1 v M.length vs
  sls : Sls W vs M
  mps : MpAt base W mp mir
/-- the block of a route's row, as its cell tells -/
def rowOf (W : World) (p : Nat) : Option Nat := (W.cell? ⟨p, 0, none⟩).bind Value.ownBlock
/-- what is neither cells nor a map (a loop's record, a list of what is deferred) -/
def BookObj (o : Obj) : Prop := (∀ cs t fr, o ≠ .cells cs t fr) ∧ ∀ es c, o ≠ .map es c
/-- what writing a route keeps -/
structure RtF (base p : Nat) (W W' : World) : Prop where
  os : W'.os = W.os
  tape : W'.tape = W.tape
  output : W'.output = W.output
  size : W.heap.size ≤ W'.heap.size
  low : ∀ k, k < base → W'.heap[k]? = W.heap[k]?
  keep : ∀ (k : Nat) (cs : Array Value) (t : TypeId) (fr : Nat × Nat), W.heap[k]? = some (.cells cs t fr) → t ≠ 39 → k ≠ p → W'.heap[k]? = some (.cells cs t fr)
  keepS : p < W.heap.size → ∀ (k : Nat) (cs : Array Value) (fr : Nat × Nat), W.heap[k]? = some (.cells cs 39 fr) → k ≠ p → some k ≠ rowOf W p → W'.heap[k]? = some (.cells cs 39 fr)
  fresh : p < W.heap.size → ∀ g, rowOf W' p = some g → rowOf W p = some g ∨ W.heap.size ≤ g
  walks : ∀ (k : Nat) (o : Obj), W.heap[k]? = some o → BookObj o → W'.heap[k]? = some o
section
variable {base p : Nat} {W W' W'' : World} {v mp u : Value} {vs : List Value} {M : List (List Rg)} {mir : List (Int × Int)} {l : List Rg}
theorem SlAt.keep (h : SlAt W u l) (hs : W.heap.size ≤ W'.heap.size) (hk : ∀ (k : Nat) (cs : Array Value) (fr : Nat × Nat), W.heap[k]? = some (.cells cs 78 fr) → W'.heap[k]? = some (.cells cs 78 fr)) : SlAt W' u l := by
  obtain ⟨A, c, e, hr, hb⟩ := h
  refine ⟨A, c, e, ⟨hr.1, fun hn => ?_⟩, fun hn => ?_⟩
  · obtain ⟨b, o, cs, fr, e1, hh⟩ := hb hn
    obtain ⟨b', o', e2, hl, hc⟩ := hr.2 hn
    rw [e1] at e2
    injection e2 with e2
    injection e2 with e3 e4
    subst e3; subst e4
    refine ⟨b, o, e1, Nat.lt_of_lt_of_le hl hs, fun j hj => (hc j hj).keep fun q => ?_⟩
    simp only [World.cell?, hh, hk _ _ _ hh]
  · obtain ⟨b, o, cs, fr, e1, hh⟩ := hb hn
    exact ⟨b, o, cs, fr, e1, hk _ _ _ hh⟩
theorem SlAt.below (h : SlAt W u l) (hb : Below W.heap.size W W') : SlAt W' u l := h.keep hb.size fun k cs fr e => by rw [hb.block _ (lt_some e)]; exact e
theorem Sls.keep (h : Sls W vs M) (hs : W.heap.size ≤ W'.heap.size) (hk : ∀ (k : Nat) (cs : Array Value) (fr : Nat × Nat), W.heap[k]? = some (.cells cs 78 fr) → W'.heap[k]? = some (.cells cs 78 fr)) : Sls W' vs M :=
  ⟨h.1, fun i v l h1 h2 => (h.2 i v l h1 h2).keep hs hk⟩
theorem RtAt.step (h : RtAt base W p v mp vs M mir) (hb : Below W.heap.size W W') : RtAt base W' p v mp vs M mir := by
  refine ⟨h.hp, by rw [hb.block _ (lt_some h.h0)]; exact h.h0, ?_, h.sls.keep hb.size fun k cs fr e => by rw [hb.block _ (lt_some e)]; exact e, ?_⟩
  · refine ⟨h.row.1, ?_⟩
    rcases h.row.2 with hn | ⟨g, cap, cur, hv, h1, h2, r⟩
    · exact .inl hn
    · exact .inr ⟨g, cap, cur, hv, h1, by rw [hb.block _ (lt_some h2)]; exact h2, r⟩
  · rcases h.mps with hn | ⟨B, e1, e2, e3⟩
    · exact .inl hn
    · exact .inr ⟨B, e1, e2, by rw [hb.block _ (lt_some e3)]; exact e3⟩
theorem RtAt.new (w : World) : RtAt w.heap.size (w.alloc (.cells #[.slice none 0 0, .map none] 35)) w.heap.size (.slice none 0 0) (.map none) [] [] [] :=
  ⟨Nat.le_refl _, heap_alloc_new w _, World.ownsRow_nil _ _ _ _, ⟨rfl, fun i v l h => by simp at h⟩, .inl ⟨rfl, rfl⟩⟩
theorem RtF.refl (base p : Nat) (W : World) : RtF base p W W := ⟨rfl, rfl, rfl, Nat.le_refl _, fun _ _ => rfl, fun _ _ _ _ h _ _ => h, fun _ _ _ _ h _ _ => h, fun _ _ h => .inl h, fun _ _ h _ => h⟩
theorem RtF.trans (h : RtF base p W W') (k : RtF base p W' W'') : RtF base p W W'' :=
  ⟨k.os.trans h.os, k.tape.trans h.tape, k.output.trans h.output, Nat.le_trans h.size k.size, fun i hi => (k.low i hi).trans (h.low i hi), fun i cs t fr e ht hp => k.keep i cs t fr (h.keep i cs t fr e ht hp) ht hp,
    fun hl i cs fr e hp hr => k.keepS (Nat.lt_of_lt_of_le hl h.size) i cs fr (h.keepS hl i cs fr e hp hr) hp (fun g => by
      rcases h.fresh hl i g.symm with g | g
      · exact hr g.symm
      · have := lt_some e; omega),
    fun hl g e => by
      rcases k.fresh (Nat.lt_of_lt_of_le hl h.size) g e with e | e
      · exact h.fresh hl g e
      · exact .inr (Nat.le_trans h.size e),
    fun i o e hb => k.walks i o (h.walks i o e hb) hb⟩
theorem rowOf_same (h : W'.heap[p]? = W.heap[p]?) : rowOf W' p = rowOf W p := by simp only [rowOf, World.cell?, h]
theorem RtF.of_below (hb : Below W.heap.size W W') (hs : base ≤ W.heap.size) : RtF base p W W' :=
  ⟨hb.os, hb.tape, hb.output, hb.size, fun k hk => hb.block k (by omega), fun k cs t fr e _ _ => by rw [hb.block _ (lt_some e)]; exact e,
    fun _ k cs fr e _ _ => by rw [hb.block _ (lt_some e)]; exact e, fun hl g e => .inl (by rw [← rowOf_same (hb.block p hl)]; exact e), fun k o e _ => by rw [hb.block _ (lt_some e)]; exact e⟩
theorem RtF.below (h : RtF base p W W') : Below base W W' := ⟨h.os, h.tape, h.output, h.size, h.low⟩
theorem RtAt.cells (h : RtAt base W p v mp vs M mir) : W.cell? ⟨p, 0, none⟩ = some v ∧ W.cell? ⟨p, 1, none⟩ = some mp ∧ W.frozen? ⟨p, 0, none⟩ = false ∧ W.frozen? ⟨p, 1, none⟩ = false := by
  refine ⟨?_, ?_, ?_, ?_⟩
  · simp [World.cell?, h.h0]
  · simp [World.cell?, h.h0]
  · simp [World.frozen?, h.h0]
  · simp [World.frozen?, h.h0]
theorem RtAt.form (h : RtAt base W p v mp vs M mir) : ∃ A c, v = .slice A M.length c := by
  rcases h.row.2 with ⟨rfl, h0⟩ | ⟨g, cap, cur, rfl, _⟩
  · exact ⟨none, 0, by rw [h0]⟩
  · exact ⟨_, _, rfl⟩
end
end Go.Proofs.Ytgodphfkhmahnaa.Rt
