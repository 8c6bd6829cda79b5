/- Rows of one-cell values: read, and appended to an own row; nothing of the program. Diffs: the chart in memory; far, passed, moved. -/
import Derived.Test.YtgodphfkhmahnaaFlow
import Derived.Maps.AppendAt
import Derived.Test.YtgodphfkhmahnaaRtG
import Derived.BigQuiet
namespace Go.Proofs.Ytgodphfkhmahnaa.Mem
open Go.RowKit
set_option linter.unusedVariables false

/-- values that are read, cell by cell -/
def VRow (w : World) (A : Option Addr) (n : Nat) (us : List Value) : Prop := us.length = n ∧ (0 < n → ∃ b off, A = some ⟨b, off, none⟩ ∧ b < w.heap.size ∧ ∀ (j : Nat) (u : Value), us[j]? = some u → w.cell? ⟨b, off + j, none⟩ = some u)
theorem VRow.nil {w : World} {A : Option Addr} : VRow w A 0 [] := ⟨rfl, fun h => absurd h (by omega)⟩
theorem VRow.keep {w w' : World} {A : Option Addr} {n : Nat} {us : List Value} (h : VRow w A n us) (hs : w.heap.size ≤ w'.heap.size) (hk : ∀ b off, A = some ⟨b, off, none⟩ → w'.heap[b]? = w.heap[b]?) : VRow w' A n us :=
  ⟨h.1, fun hn => by
    obtain ⟨b, off, e, hb, hc⟩ := h.2 hn
    exact ⟨b, off, e, by omega, fun j u hu => by have := hc j u hu; simp only [World.cell?, hk b off e] at this ⊢; exact this⟩⟩
theorem VRow.below {w w' : World} {A : Option Addr} {n : Nat} {us : List Value} (h : VRow w A n us) (hb : Below w.heap.size w w') : VRow w' A n us :=
  ⟨h.1, fun hn => by
    obtain ⟨b, off, e, hl, hc⟩ := h.2 hn
    exact ⟨b, off, e, Nat.lt_of_lt_of_le hl hb.size, fun j u hu => by have := hc j u hu; simp only [World.cell?, hb.block b hl] at this ⊢; exact this⟩⟩
theorem own_form {w : World} {base n : Nat} {e : TypeId} {v : Value} {us : List Value} (h : w.ownsRow base e 1 v n us) : ∃ A c, v = .slice A n c ∧ n ≤ c ∧ VRow w A n us ∧ ∀ a, A = some a → a.spot = none ∧ a.off = 0 := by
  rcases h.2 with ⟨rfl, rfl⟩ | ⟨g, cap, cur, rfl, hb, hg, hnc, hcap, hsz, hcs⟩
  · exact ⟨none, 0, rfl, Nat.le_refl _, by
      have : us = [] := List.eq_nil_of_length_eq_zero (by simpa using h.1)
      subst this; exact VRow.nil, fun a e => by cases e⟩
  · refine ⟨some ⟨g, 0, none⟩, cap, rfl, hnc, ⟨by simpa using h.1, fun _ => ⟨g, 0, rfl, (Array.getElem?_eq_some_iff.1 hg).1, fun j u hu => ?_⟩⟩, fun a e => by injection e with e; subst e; exact ⟨rfl, rfl⟩⟩
    have hl : us.length = n := by simpa using h.1
    have hj : j < n := by rw [← hl]; exact (List.getElem?_eq_some_iff.1 hu).1
    have : cur[j]? = some u := by
      rw [← hu, ← hcs, List.getElem?_take_of_lt (by omega)]
      simp
    simp [World.cell?, hg, this]
theorem own_set {w : World} {base n : Nat} {e : TypeId} {v : Value} {us : List Value} (h : w.ownsRow base e 1 v n us) {j : Nat} (hj : j < n) (u : Value) :
    ∃ g c x, v = .slice (some ⟨g, 0, none⟩) n c ∧ base ≤ g ∧ g < w.heap.size ∧ w.cell? ⟨g, j, none⟩ = some x ∧ w.frozen? ⟨g, j, none⟩ = false ∧ (w.setCell ⟨g, j, none⟩ u).ownsRow base e 1 v n (us.set j u) ∧ ∃ cs, w.heap[g]? = some (.cells cs e (0, 0)) := by
  rcases h.2 with ⟨rfl, h0⟩ | ⟨g, cap, cur, rfl, hb, hg, hnc, hcap, hsz, hcs⟩
  · omega
  · have hjc : j < cur.size := by omega
    refine ⟨g, cap, cur[j], rfl, hb, (Array.getElem?_eq_some_iff.1 hg).1, by simp [World.cell?, hg, hjc], by simp [World.frozen?, hg], ⟨by rw [List.length_set]; exact h.1, .inr ⟨g, cap, cur.setIfInBounds j u, rfl, hb, by simp [World.setCell, Array.getElem?_modify, hg], hnc, hcap, by simpa using hsz, ?_⟩⟩, cur, hg⟩
    rw [← hcs, Array.toList_setIfInBounds, List.take_set]
theorem own_keep {w w' : World} {base n : Nat} {e : TypeId} {v : Value} {us : List Value} {t : Option Nat} (h : w.ownsRow base e 1 v n us) (hg : w.grownBy w' t) (ht : ∀ g, t = some g → blkOf v ≠ some g) : w'.ownsRow base e 1 v n us := by
  refine ⟨h.1, ?_⟩
  rcases h.2 with hn | ⟨g, cap, cur, rfl, hb, hc, r⟩
  · exact .inl hn
  · exact .inr ⟨g, cap, cur, rfl, hb, by rw [hg.block g (Array.getElem?_eq_some_iff.1 hc).1 (fun e => ht g e.symm rfl)]; exact hc, r⟩
theorem own_young {w : World} {base n : Nat} {e : TypeId} {v : Value} {us : List Value} (h : w.ownsRow base e 1 v n us) : ∀ g, blkOf v = some g → g < w.heap.size ∧ base ≤ g := by
  intro g hg
  rcases h.2 with ⟨rfl, _⟩ | ⟨g', cap, cur, rfl, hb, hc, _⟩
  · cases hg
  · injection hg with hg; subst hg; exact ⟨(Array.getElem?_eq_some_iff.1 hc).1, hb⟩
theorem own_blk {w : World} {base n : Nat} {e : TypeId} {v : Value} {us : List Value} (h : w.ownsRow base e 1 v n us) : v.ownBlock = blkOf v := by
  rcases h.2 with ⟨rfl, _⟩ | ⟨g', cap, cur, rfl, hb, hc, _⟩ <;> rfl
theorem own_empty (w : World) (e : TypeId) : (w.alloc (.cells #[] e)).ownsRow w.heap.size e 1 (.slice (some ⟨w.heap.size, 0, none⟩) 0 0) 0 [] :=
  ⟨rfl, .inr ⟨w.heap.size, 0, #[], rfl, Nat.le_refl _, by have : (w.alloc (.cells #[] e)).heap = w.heap.push (.cells #[] e (0, 0)) := rfl; rw [this]; simp, Nat.le_refl _, Nat.zero_le _, rfl, rfl⟩⟩
theorem own_lower {w : World} {base base' n : Nat} {e : TypeId} {v : Value} {us : List Value} (h : w.ownsRow base e 1 v n us) (hb : base' ≤ base) : w.ownsRow base' e 1 v n us :=
  ⟨h.1, h.2.imp id fun ⟨g, cap, cur, hv, h1, r⟩ => ⟨g, cap, cur, hv, Nat.le_trans hb h1, r⟩⟩
theorem run_app_v {P : Program} {w : World} (base : Nat) (t ty e : TypeId) (i : TypeInfo) (z : Value) (bytes : Nat) (ht : P.underlying t = some (.slice e)) (hi : P.info? e = some i) (hz : i.zero = some z)
    (hsize : i.size = 1) (hby : i.bytes = bytes) (hb8 : bytes ≤ 24) (hzs : z.cells.size = 1)
    {v : Value} {n : Nat} {xs : List Value} (hown : w.ownsRow base e 1 v n xs)
    {A : Option Addr} {m c : Nat} {ys : List Value} (hr : VRow w A m ys) (h1 : ∀ u ∈ ys, u.oneCell' = true) (hbig : n + m ≤ 1000000) (hbase : base ≤ w.heap.size) :
    ∃ v' w', (Builtin.append_ #[t, t] ty #[v, .slice A m c]).run P w = .ok v' w' ∧ w'.ownsRow base e 1 v' (n + m) (xs ++ ys) ∧ w.grownBy w' v.ownBlock ∧ (v'.ownBlock = v.ownBlock ∨ v'.ownBlock = some w.heap.size) := by
  have hsum : (n + m) * bytes ≤ 140737488355328 := by
    have := Nat.mul_le_mul hbig hb8
    omega
  have hm : m = 0 ∨ ∃ ad, A = some ad := by
    rcases Nat.eq_zero_or_pos m with h | h
    · exact .inl h
    · obtain ⟨b, off, e, _⟩ := hr.2 h; exact .inr ⟨_, e⟩
  rcases A with _ | ad
  · have hm : m = 0 := by
      rcases hm with h | ⟨_, h⟩
      · exact h
      · cases h
    subst hm
    have : ys = [] := List.eq_nil_of_length_eq_zero hr.1
    subst this
    exact ⟨v, w, run_app_nil t ty e i 1 ht hi hown c, by simpa using hown, World.grownBy.refl w _, .inl rfl⟩
  · obtain ⟨v', w', g1, g2, g3, _, g5⟩ := run_append_own_at (P := P) w base t ty e i z 1 bytes ht hi hz hsize hby hzs (by omega) v n xs hown ad m c ys
      (by rw [hr.1, Nat.mul_one]) (fun j u hu => by
        have hj := (List.getElem?_eq_some_iff.1 hu).1
        obtain ⟨b, off, e, _, hc⟩ := hr.2 (by rw [← hr.1]; omega)
        injection e with e; subst e
        rw [show (⟨b, off, none⟩ : Addr).add j = ⟨b, off + j, none⟩ by unfold Addr.add; split <;> simp_all]
        exact hc j u hu) h1 (by simp only [maxLen]; omega) hsum hbase
    exact ⟨v', w', g1, g2, g3, g5⟩
/-- 'append(v, ys...)' as one operation of a region -/
theorem wpOp_app {P : Program} {w : World} {ops : Array Oper} {o : Oper} {a : Act} {K : Act → World → Prop} {Q : Exit → Act → World → Prop} {k : Nat} (hk : ops[k]? = some o) (hgd : o.guard = none) (s x : Operand) (t : TypeId)
    (ho : o.op = .call { callee := .builtin .append, args := #[s, x], argTypes := #[t, t] })
    (base : Nat) (e : TypeId) (i : TypeInfo) (z : Value) (bytes : Nat) (ht : P.underlying t = some (.slice e)) (hi : P.info? e = some i) (hz : i.zero = some z)
    (hsize : i.size = 1) (hby : i.bytes = bytes) (hb8 : bytes ≤ 24) (hzs : z.cells.size = 1)
    (v : Value) (n : Nat) (xs : List Value) (hs : a.eval s = v) (hown : w.ownsRow base e 1 v n xs)
    (A : Option Addr) (m c : Nat) (ys : List Value) (hx : a.eval x = .slice A m c) (hr : VRow w A m ys) (h1 : ∀ u ∈ ys, u.oneCell' = true) (hbig : n + m ≤ 1000000) (hbase : base ≤ w.heap.size)
    (h : ∀ v' w', w'.ownsRow base e 1 v' (n + m) (xs ++ ys) → w.grownBy w' v.ownBlock → (v'.ownBlock = v.ownBlock ∨ v'.ownBlock = some w.heap.size) → K (a.put o.dst v') w') :
    wpOp P ops Q k K a w := by
  have hw : Region.wanted o (yielded ops a.tmps) = true := by simp [Region.wanted, hgd]
  obtain ⟨v', w', hrun, h2, h3, h4⟩ := run_app_v (P := P) base t o.type e i z bytes ht hi hz hsize hby hb8 hzs hown (c := c) hr h1 hbig hbase
  unfold wpOp
  rw [hk]
  simp only [hw, if_true]
  refine .inl ?_
  unfold Oper.wp
  simp [execOp, ho, resolve, invoke, builtin, hs, hx, hrun, Result.andThen]
  exact h v' w' h2 h3 h4
theorem wpOp_of {P : Program} {w : World} {ops : Array Oper} {o : Oper} {a : Act} {K : Act → World → Prop} {Q : Exit → Act → World → Prop} {k : Nat} (hk : ops[k]? = some o) (hgd : o.guard = none) (h : Oper.wp P o a w K Q) : wpOp P ops Q k K a w := by
  have hw : Region.wanted o (yielded ops a.tmps) = true := by simp [Region.wanted, hgd]
  unfold wpOp
  rw [hk]
  simp only [hw, if_true]
  exact .inl h
theorem wpOp_val {P : Program} {w w' : World} {ops : Array Oper} {o : Oper} {a : Act} {v : Value} {K : Act → World → Prop} {Q : Exit → Act → World → Prop} {k : Nat} (hk : ops[k]? = some o) (hgd : o.guard = none) (hrun : (execOp a.eval o).run P w = .ok (.value v) w') (h : K (a.put o.dst v) w') : wpOp P ops Q k K a w := by
  refine wpOp_of hk hgd ?_
  unfold Oper.wp
  rw [hrun]
  exact h
theorem grown_below {w w' : World} (hb : Below w.heap.size w w') : w.grownBy w' none := ⟨hb.os, hb.tape, hb.output, hb.size, fun k hk _ => hb.block k hk⟩
theorem below_grown {w w' : World} (h : w.grownBy w' none) : Below w.heap.size w w' := ⟨h.os, h.tape, h.output, h.size, fun k hk => h.block k hk (by simp)⟩
end Go.Proofs.Ytgodphfkhmahnaa.Mem
namespace Go.Proofs.Ytgodphfkhmahnaa.Df
open Go.RowKit Mem Sm Rt
set_option linter.unusedVariables false
set_option linter.unusedSimpArgs false

/-- a row of numbers of the call's own, whole in its block -/
def IAt (W : World) (v : Value) (l : List Int) : Prop := ∃ g, v = .slice (some ⟨g, 0, none⟩) l.length l.length ∧ W.heap[g]? = some (.cells (l.map (Value.int .i64)).toArray 3 (0, 0))
/-- the chart: two rows of tokens, and the rows of numbers -/
structure ChAt (base : Nat) (W : World) (p : Nat) (a b v : Value) (vs : List Value) (XS : List (List Int)) : Prop where
  h0 : W.heap[p]? = some (.cells #[a, b, v] 143 (0, 0))
  row : W.ownsRow base 36 1 v XS.length vs
  len : vs.length = XS.length
  its : ∀ (i : Nat) (u : Value) (l : List Int), vs[i]? = some u → XS[i]? = some l → IAt W u l
def gt (XS : List (List Int)) (d i : Nat) : Int := (XS.getD d []).getD i 0
section
variable {base p : Nat} {W W' : World} {a b v u : Value} {vs : List Value} {XS : List (List Int)} {l : List Int}
theorem IAt.step (h : IAt W u l) (hb : Below W.heap.size W W') : IAt W' u l := by
  obtain ⟨g, e, h1⟩ := h
  exact ⟨g, e, by rw [hb.block _ (lt_some h1)]; exact h1⟩
theorem ChAt.step (h : ChAt base W p a b v vs XS) (hb : Below W.heap.size W W') : ChAt base W' p a b v vs XS :=
  ⟨by rw [hb.block _ (lt_some h.h0)]; exact h.h0, own_keep h.row (grown_below hb) (fun g e => by cases e), h.len, fun i u l h1 h2 => (h.its i u l h1 h2).step hb⟩
theorem ChAt.cells (h : ChAt base W p a b v vs XS) : W.cell? ⟨p, 0, none⟩ = some a ∧ W.cell? ⟨p, 1, none⟩ = some b ∧ W.cell? ⟨p, 2, none⟩ = some v ∧ W.frozen? ⟨p, 0, none⟩ = false ∧ W.frozen? ⟨p, 1, none⟩ = false ∧ W.frozen? ⟨p, 2, none⟩ = false := by
  refine ⟨?_, ?_, ?_, ?_, ?_, ?_⟩
  · simp [World.cell?, h.h0]
  · simp [World.cell?, h.h0]
  · simp [World.cell?, h.h0]
  · simp [World.frozen?, h.h0]
  · simp [World.frozen?, h.h0]
  · simp [World.frozen?, h.h0]
/-- a number of the chart -/
theorem ChAt.at (h : ChAt base W p a b v vs XS) {d i : Nat} (hd : d < XS.length) (hi : i < (XS.getD d []).length) :
    ∃ G cap g, v = .slice (some ⟨G, 0, none⟩) XS.length cap ∧ XS.length ≤ cap ∧ W.cell? ⟨G, d, none⟩ = some (.slice (some ⟨g, 0, none⟩) (XS.getD d []).length (XS.getD d []).length) ∧ W.cell? ⟨g, i, none⟩ = some (.int .i64 (gt XS d i)) := by
  rcases h.row.2 with ⟨_, h0⟩ | ⟨G, cap, cur, hv, h1, h2, h3, h4, h5, h6⟩
  · omega
  · obtain ⟨u, hu⟩ : ∃ u, vs[d]? = some u := ⟨_, List.getElem?_eq_getElem (by rw [h.len]; exact hd)⟩
    have hx : XS[d]? = some (XS.getD d []) := by simp [List.getD, List.getElem?_eq_getElem hd]
    obtain ⟨g, e, hg⟩ := h.its d u _ hu hx
    refine ⟨G, cap, g, hv, h3, ?_, ?_⟩
    · rw [← e]
      have : cur[d]? = some u := by
        rw [← hu, ← h6, List.getElem?_take_of_lt (by omega)]
        simp
      simp [World.cell?, h2, this]
    · simp only [World.cell?, hg, gt]
      generalize XS.getD d [] = l at hi
      simp [List.getD, List.getElem?_eq_getElem hi, hi]
end
/-- a point's value -/
def pnV (d i : Int) : Value := .agg #[.int .i64 d, .int .i64 i]
set_option maxRecDepth 100000 in
set_option maxHeartbeats 1000000 in
theorem far_any (base p : Nat) (a b v : Value) (vs : List Value) (XS : List (List Int)) (d i : Nat) (W : World) (hl : XS.length ≤ 2000) (hd : d < XS.length) (hi : i < (XS.getD d []).length) (hi2 : (XS.getD d []).length ≤ 2000)
    (h : ChAt base W p a b v vs XS) :
    Calls Try.prog 83 #[.pointer (some ⟨p, 0, none⟩), pnV d i] W fun e W' => e = .returned (.int .i64 (gt XS d i)) ∧ Below W.heap.size W W' := by
  have HB := Lib.hid ((Below.refl _ W).alloc (Nat.le_refl _) (.cells #[.int .i64 d, .int .i64 i] 145))
  have H1 := h.step HB.out
  obtain ⟨_, _, c2, _⟩ := H1.cells
  obtain ⟨G, cap, g, rfl, hcap, hG, hg⟩ := H1.at hd hi
  generalize XS.length = n at *
  generalize (XS.getD d []).length = m at *
  generalize gt XS d i = x at *
  unfold pnV
  clear h H1
  go_enter Try.func83, Try.ntmps83
  go_upto_region 1 with fail
  go_quiet (fail)
  go_wp2
  go_ret
  exact ⟨rfl, below_drewN HB.out _⟩
theorem passed_any (d i f : Int) (W : World) (hd : -100000 ≤ d ∧ d ≤ 100000) (hi : -100000 ≤ i ∧ i ≤ 100000) (hf : -100000 ≤ f ∧ f ≤ 100000) :
    Calls Try.prog 82 #[pnV d i, .int .i64 f] W fun e W' => e = .returned (.tuple #[.int .i64 ((f + (i - (d - i))).tdiv 2), .int .i64 ((f - (i - (d - i))).tdiv 2)]) ∧ Below W.heap.size W W' := by
  have HB := Lib.hid ((Below.refl _ W).alloc (Nat.le_refl _) (.cells #[.int .i64 d, .int .i64 i] 145))
  obtain ⟨d1, d2⟩ := hd
  obtain ⟨i1, i2⟩ := hi
  obtain ⟨f1, f2⟩ := hf
  unfold pnV
  go_enter Try.func82, Try.ntmps82
  go_wp2
  go_ret2
  exact ⟨rfl, HB.out⟩
def rnV (a b s : Int) : Value := .agg #[.int .i64 a, .int .i64 b, .int .i64 s]
theorem moved_any (a b s x y : Int) (W : World) (ha : -100000 ≤ a ∧ a ≤ 100000) (hb : -100000 ≤ b ∧ b ≤ 100000) (hx : -100000 ≤ x ∧ x ≤ 100000) (hy : -100000 ≤ y ∧ y ≤ 100000) :
    Calls Try.prog 81 #[rnV a b s, .int .i64 x, .int .i64 y] W fun e W' => e = .returned (rnV (a + x) (b + y) s) ∧ Below W.heap.size W W' := by
  obtain ⟨a1, a2⟩ := ha
  obtain ⟨b1, b2⟩ := hb
  obtain ⟨x1, x2⟩ := hx
  obtain ⟨y1, y2⟩ := hy
  unfold rnV
  go_enter Try.func81, Try.ntmps81
  go_wp2
  exact bodyPost_ret (v := .agg #[.int .i64 (a + x), .int .i64 (b + y), .int .i64 s]) (by simp [results, Try.results81, go_sem]) rfl ⟨rfl, ((Below.refl _ _).alloc (Nat.le_refl _) _).alloc (by simp) _⟩
theorem empty_any (a b s : Int) (W : World) :
    Calls Try.prog 85 #[rnV a b s] W fun e W' => e = .returned (.bool (decide (s = 0))) ∧ Below W.heap.size W W' := by
  have HB := Lib.hid ((Below.refl _ W).alloc (Nat.le_refl _) (.cells #[.int .i64 a, .int .i64 b, .int .i64 s] 117))
  unfold rnV
  go_enter Try.func85, Try.ntmps85
  go_wp2
  go_ret
  exact ⟨rfl, HB.out⟩
end Go.Proofs.Ytgodphfkhmahnaa.Df
