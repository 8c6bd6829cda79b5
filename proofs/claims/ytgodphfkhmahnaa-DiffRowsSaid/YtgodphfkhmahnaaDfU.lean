/- Diffs: the first empty run. Diffs: the chart grows: a row more, a number in its last row. Diffs: a run is put into an own row of runs. -/
import Derived.Test.YtgodphfkhmahnaaDfQ
import Derived.Test.YtgodphfkhmahnaaDfP
import Derived.Deep.Cut
import Derived.Deep.CutRange
namespace Go.Proofs.Ytgodphfkhmahnaa.Df
open Go.RowKit Mem Sm Rt Tk
set_option linter.unusedVariables false
set_option linter.unusedSimpArgs false
/-- where the first empty run lies -/
def emp (r : Rg) : Bool := decide (r.new = 0)
set_option maxRecDepth 100000 in
set_option maxHeartbeats 4000000 in
theorem index_any (l : List Rg) (A : Option Addr) (n c : Nat) (w : World) (hn : n ≤ 100000) (hr : Rn.RRow w A n l) :
    Calls Try.prog 104 #[.slice A n c, .func (.func 85) #[] #[]] w fun e w' => e = .returned (.int .i64 (if l.findIdx emp < n then (l.findIdx emp : Int) else -1)) ∧ Below w.heap.size w w' := by
  have HR := Lib.hid hr
  have HL := Lib.hid hr.1
  obtain ⟨F, hF⟩ : ∃ F, F = l.findIdx emp := ⟨_, rfl⟩
  have HLT : Hid (∀ j (h : j < l.length), j < F → emp l[j] = false) := Lib.hid (fun j h g => by
    rw [hF] at g
    simpa using List.not_of_lt_findIdx g)
  have HAT : Hid (∀ (h : F < l.length), emp l[F] = true) := Lib.hid (fun h => by
    subst hF; exact List.findIdx_getElem (w := h))
  rw [← hF]
  obtain ⟨z, hz⟩ : ∃ z : Int, z = if F < n then (F : Int) else -1 := ⟨_, rfl⟩
  rw [← hz]
  have HZ := Lib.hid hz
  clear hF hr hz
  go_enter Try.func104, Try.ntmps104
  go_wp2_with fail
  go_loopw [8] (fun iv wr => ∃ (i : Nat), iv = .int .i64 i ∧ i ≤ n ∧ i ≤ F ∧ Hid (Below w.heap.size w wr)) (fun iv _ => n - (intOf iv).toNat)
  case atStart => exact ⟨0, rfl, by omega, by omega, Lib.hid (Below.refl _ _)⟩
  case round =>
    obtain ⟨i, rfl, hin, hiF, HB⟩ := hrel
    by_cases hlt : i < n
    · obtain ⟨b, off, rfl, hb, hc⟩ := (HR.out.below HB.out).2 (by omega)
      have hil : i < l.length := by have := HL.out; omega
      obtain ⟨c0, c1, c2⟩ := (hc i hil).cells
      have CE := fun W' => empty_any l[i].at_ l[i].old l[i].new W'
      have he : emp l[i] = decide (l[i].new = 0) := rfl
      have hiE : emp l[i] = decide (i = F) := by
        by_cases e : i = F
        · subst e; rw [HAT.out hil]; simp
        · rw [HLT.out i hil (by omega)]; simp [e]
      rw [he] at hiE
      have hF2 : i = F → F < n := by omega
      generalize l[i] = x at *
      obtain ⟨xa, xb, xc⟩ := x
      simp only at c0 c1 c2 CE hiE
      unfold rnV at CE
      have CE' := Lib.hid CE
      have HIE := Lib.hid hiE
      clear hc CE hiE he
      go_wp2_with fail
      refine (CE'.out _).mono ?_
      rintro e w2 ⟨rfl, hb2⟩
      have HB2 := Lib.hid (HB.out.trans (hb2.mono HB.out.size))
      rw [HIE.out]
      by_cases e : i = F
      · have hd : decide (i = F) = true := decide_eq_true e
        rw [hd]
        have HRI : Hid (z = (i : Int)) := Lib.hid (by rw [HZ.out, if_pos (hF2 e), e])
        clear hd e hb2
        go_wp2
        go_ret
        exact ⟨by rw [HRI.out]; rfl, HB2.out⟩
      · have hd : decide (i = F) = false := decide_eq_false e
        rw [hd]
        clear hd hb2
        go_wp2_with fail
        exact ⟨⟨i + 1, by push_cast; rfl, by omega, by omega, HB2⟩, by simp only [intOf]; omega⟩
    · have HRI : Hid (z = -1) := Lib.hid (by rw [HZ.out, if_neg (by omega)])
      go_wp2
      go_ret
      exact ⟨by rw [HRI.out]; rfl, HB.out⟩
end Go.Proofs.Ytgodphfkhmahnaa.Df
namespace Go.Proofs.Ytgodphfkhmahnaa.Df
open Go.RowKit Mem Sm Rt Tk
set_option linter.unusedVariables false
set_option linter.unusedSimpArgs false
theorem set_else {W : World} {h k j : Nat} (hk : k ≠ h) (v : Value) : (W.setCell ⟨h, j, none⟩ v).heap[k]? = W.heap[k]? := Below.heap_setCell W ⟨h, j, none⟩ v k hk
theorem set_at {W : World} {h j : Nat} {xs : Array Value} {t : TypeId} {fr : Nat × Nat} (e : W.heap[h]? = some (.cells xs t fr)) (v : Value) : (W.setCell ⟨h, j, none⟩ v).heap[h]? = some (.cells (xs.setIfInBounds j v) t fr) := by
  simp [World.setCell, Array.getElem?_modify, e]
theorem hkeep {W W' : World} (hb : Below W.heap.size W W') {k : Nat} {o : Obj} (h : W.heap[k]? = some o) : W'.heap[k]? = some o := by
  rw [hb.block _ (lt_some h)]; exact h
theorem cell_box {W : World} {k : Nat} {v : Value} {t : TypeId} {fr : Nat × Nat} (h : W.heap[k]? = some (.cells #[v] t fr)) : W.cell? ⟨k, 0, none⟩ = some v := by
  unfold World.cell?; simp only [h]; rfl
theorem vrow_lit (W : World) (u : Value) (t : TypeId) : VRow (W.alloc (.cells #[u] t)) (some ⟨W.heap.size, 0, none⟩) 1 [u] := by
  refine ⟨rfl, fun _ => ⟨W.heap.size, 0, rfl, by simp, fun j x hj => ?_⟩⟩
  have hh := heap_alloc_new W (.cells #[u] t)
  cases j with
  | zero =>
    simp at hj
    subst hj
    unfold World.cell?
    simp only [Nat.zero_add]
    rw [hh]
    rfl
  | succ j => simp at hj
theorem own_ty {w : World} {base n : Nat} {e : TypeId} {v : Value} {us : List Value} (h : w.ownsRow base e 1 v n us) : ∀ g, blkOf v = some g → ∃ cs fr, w.heap[g]? = some (.cells cs e fr) := by
  intro g hg
  rcases h.2 with ⟨rfl, _⟩ | ⟨g', cap, cur, rfl, _, hh, _⟩
  · cases hg
  · simp only [blkOf, Option.some.injEq] at hg
    subst hg
    exact ⟨_, _, hh⟩
theorem grown_set1 (W : World) (q j : Nat) (u : Value) : W.grownBy (W.setCell ⟨q, j, none⟩ u) (some q) := by
  have h := (Below.refl q W).setCell (p := ⟨q, j, none⟩) (Nat.le_refl q) u
  exact ⟨h.os, h.tape, h.output, h.size, fun k _ hne => Below.heap_setCell _ _ _ _ (fun e => hne (by rw [e]))⟩
/-- a row outlives a write to a block of another type -/
theorem own_else {W : World} {base n q j : Nat} {e t : TypeId} {v u : Value} {us : List Value} {cs : Array Value} {fr : Nat × Nat} (h : W.ownsRow base e 1 v n us) (hq : W.heap[q]? = some (.cells cs t fr)) (ht : t ≠ e) : (W.setCell ⟨q, j, none⟩ u).ownsRow base e 1 v n us :=
  own_keep h (grown_set1 W q j u) (fun g eg hb => by
    injection eg with eg
    subst eg
    obtain ⟨cs', fr', hh⟩ := own_ty h _ hb
    rw [hq] at hh
    injection hh with hh
    injection hh with _ h6 _
    exact ht h6)
/-- 'append(v, ys...)' in a walk -/
theorem wpList_app_v {P : Program} {w : World} {ops : Array Oper} {rest : List Oper} {o : Oper} {a : Act} {Q : Exit → Act → World → Prop} (hgd : o.guard = none) (s x : Operand) (t : TypeId)
    (ho : o.op = .call { callee := .builtin .append, args := #[s, x], argTypes := #[t, t] })
    (base : Nat) (e : TypeId) (z : Value) (bytes : Nat) (ht : P.underlying t = some (.slice e)) (hi : (P.info? e).map (fun i => (i.zero, i.size, i.bytes)) = some (some z, 1, bytes)) (hb8 : bytes ≤ 24) (hzs : z.cells.size = 1)
    (v : Value) (n : Nat) (xs : List Value) (hs : a.eval s = v) (hown : w.ownsRow base e 1 v n xs)
    (A : Option Addr) (m c : Nat) (ys : List Value) (hx : a.eval x = .slice A m c) (hr : VRow w A m ys) (h1 : ∀ u ∈ ys, u.oneCell' = true) (hbig : n + m ≤ 1000000) (hbase : base ≤ w.heap.size)
    (h : ∀ v' w', w'.ownsRow base e 1 v' (n + m) (xs ++ ys) → w.grownBy w' v.ownBlock → (v'.ownBlock = v.ownBlock ∨ v'.ownBlock = some w.heap.size) → wpList P ops Q rest (a.put o.dst v') w') :
    wpList P ops Q (o :: rest) a w := by
  obtain ⟨i, hi, hiz, his, hib⟩ := info_parts hi
  refine wpList_plain hgd fun K hK => ?_
  obtain ⟨v', w', hrun, h2, h3, h4⟩ := run_app_v (P := P) base t o.type e i z bytes ht hi hiz his hib hb8 hzs hown (c := c) hr h1 hbig hbase
  unfold Oper.wp
  simp [execOp, ho, resolve, invoke, builtin, hs, hx, hrun, Result.andThen]
  exact hK _ _ (h v' w' h2 h3 h4)

theorem gb_set {w W : World} {p q j : Nat} (h : w.grownBy W (some p)) (hq : q = p ∨ w.heap.size ≤ q) (u : Value) : w.grownBy (W.setCell ⟨q, j, none⟩ u) (some p) :=
  only_trans h (grown_set1 W q j u) (fun i hi e => by
    injection e with e
    rcases hq with g | g
    · rw [e, g]
    · omega)
theorem gb_below {w W W' : World} {p : Nat} (h : w.grownBy W (some p)) (hb : Below W.heap.size W W') : w.grownBy W' (some p) := only_trans h (grown_below hb) (fun i hi e => by cases e)
section
variable {base p : Nat} {W W' : World} {a b v u : Value} {vs : List Value} {XS : List (List Int)} {l : List Int}
/-- a row more -/
theorem ChAt.push {v' : Value} (h : ChAt base W p a b v vs XS) (hg : W.grownBy W' v.ownBlock) (ho : W'.ownsRow base 36 1 v' (XS.length + 1) (vs ++ [u])) (hu : IAt W u l) :
    ChAt base (W'.setCell ⟨p, 2, none⟩ v') p a b v' (vs ++ [u]) (XS ++ [l]) := by
  have hK : ∀ (k : Nat) (cs : Array Value) (t : TypeId) (fr : Nat × Nat), W.heap[k]? = some (.cells cs t fr) → t ≠ 36 → W'.heap[k]? = some (.cells cs t fr) := by
    intro k cs t fr e ht
    rw [hg.block k (lt_some e) (fun g => ?_)]
    · exact e
    · rw [own_blk h.row] at g
      obtain ⟨cs', fr', hh⟩ := own_ty h.row k g.symm
      rw [e] at hh
      injection hh with hh
      injection hh with _ h6 _
      exact ht h6
  have hp := hK _ _ _ _ h.h0 (by decide)
  have hI : ∀ (x : Value) (l' : List Int), IAt W x l' → IAt (W'.setCell ⟨p, 2, none⟩ v') x l' := by
    rintro x l' ⟨g, e, hh⟩
    refine ⟨g, e, ?_⟩
    have h1 := hK _ _ _ _ hh (by decide)
    rw [set_else (by
      rintro rfl
      rw [hp] at h1
      injection h1 with h1
      injection h1 with _ h6 _
      revert h6; decide)]
    exact h1
  refine ⟨?_, ?_, by simp [h.len], fun i x l' h1 h2 => ?_⟩
  · rw [set_at hp]; rfl
  · have := own_else (j := 2) (u := v') ho hp (by decide)
    simpa using this
  · rcases Nat.lt_or_ge i XS.length with hi | hi
    · rw [List.getElem?_append_left (by rw [h.len]; exact hi)] at h1
      rw [List.getElem?_append_left hi] at h2
      exact hI _ _ (h.its i x l' h1 h2)
    · have : i = XS.length := by
        have := (List.getElem?_eq_some_iff.1 h2).1
        simp at this
        omega
      subst this
      rw [List.getElem?_append_right (by omega)] at h2
      rw [List.getElem?_append_right (by rw [h.len]; omega)] at h1
      simp at h2
      simp [h.len] at h1
      subst h1; subst h2
      exact hI _ _ hu
/-- a number in the last row -/
theorem ChAt.put {g j : Nat} {x : Int} (h : ChAt base W p a b v (vs ++ [.slice (some ⟨g, 0, none⟩) l.length l.length]) (XS ++ [l])) (hl : ∀ (i : Nat) (y : Value) (q : Nat), vs[i]? = some y → blkOf y = some q → q < g) (hx : u = .int .i64 x) :
    ChAt base (W.setCell ⟨g, j, none⟩ u) p a b v (vs ++ [.slice (some ⟨g, 0, none⟩) (l.set j x).length (l.set j x).length]) (XS ++ [l.set j x]) := by
  subst hx
  have hlen : vs.length = XS.length := by have := h.len; simp at this; exact this
  have hlast : IAt W (.slice (some ⟨g, 0, none⟩) l.length l.length) l := h.its XS.length _ _ (by rw [← hlen]; simp) (by simp)
  obtain ⟨g', e, hg⟩ := hlast
  injection e with e _ _
  injection e with e
  injection e with e _ _
  subst e
  have hp : W.heap[p]? = _ := h.h0
  have hpg : p ≠ g := by
    rintro rfl
    rw [hg] at hp
    injection hp with h1
    injection h1 with _ h6 _
    revert h6; decide
  refine ⟨?_, ?_, by simp [hlen], fun i y l' h1 h2 => ?_⟩
  · rw [set_else hpg]; exact h.h0
  · have := own_else (j := j) (u := .int .i64 x) h.row hg (by decide)
    simpa using this
  · rcases Nat.lt_or_ge i XS.length with hi | hi
    · have h1' := h1
      rw [List.getElem?_append_left (by rw [hlen]; exact hi)] at h1
      rw [List.getElem?_append_left hi] at h2
      obtain ⟨q, e, hq⟩ := h.its i y l' (by rw [List.getElem?_append_left (by rw [hlen]; exact hi)]; exact h1) (by rw [List.getElem?_append_left hi]; exact h2)
      have := hl i y q h1 (by rw [e]; rfl)
      exact ⟨q, e, by rw [set_else (by omega)]; exact hq⟩
    · have : i = XS.length := by
        have := (List.getElem?_eq_some_iff.1 h2).1
        simp at this
        omega
      subst this
      rw [List.getElem?_append_right (by omega)] at h2
      rw [List.getElem?_append_right (by rw [hlen]; omega)] at h1
      simp at h2
      simp [hlen] at h1
      subst h1; subst h2
      refine ⟨g, by simp, ?_⟩
      rw [set_at hg]
      congr 2
      rw [List.map_set, ← List.setIfInBounds_toArray]
/-- a chart being drawn -/
structure DS (w W : World) (p : Nat) (a b v : Value) (vs : List Value) (XS : List (List Int)) (bD bI : Nat) : Prop where
  hp : p < w.heap.size
  gb : w.grownBy W (some p)
  ch : ChAt w.heap.size W p a b v vs XS
  x0 : W.heap[w.heap.size]? = some (.cells #[.int .i64 0, .int .i64 0] 145 (0, 0))
  x1 : W.heap[w.heap.size + 1]? = some (.cells #[.int .i64 bD, .int .i64 bI] 145 (0, 0))
end
end Go.Proofs.Ytgodphfkhmahnaa.Df
namespace Go.Proofs.Ytgodphfkhmahnaa.Df
open Go.RowKit Mem Sm Rt Tk
set_option linter.unusedVariables false
set_option linter.unusedSimpArgs false
theorem cells3_set (r : Rg) : ∀ (l : List Rg) (k : Nat), k < l.length → Rn.cells3 (l.set k r) = (((Rn.cells3 l).set (k * 3) (.int .i64 r.at_)).set (k * 3 + 1) (.int .i64 r.old)).set (k * 3 + 2) (.int .i64 r.new)
  | [], k, h => by simp at h
  | x :: l, 0, h => by
    rw [List.set_cons_zero, Rn.cells3_cons, Rn.cells3_cons]
    rfl
  | x :: l, k + 1, h => by
    rw [List.set_cons_succ, Rn.cells3_cons, Rn.cells3_cons, cells3_set r l k (by simpa using h)]
    have e : ∀ (t : List Value) (n : Nat) (u : Value), (Rn.rcells x ++ t).set (n + 3) u = Rn.rcells x ++ t.set n u := fun t n u => rfl
    rw [show (k + 1) * 3 = k * 3 + 3 by omega, show k * 3 + 3 + 1 = (k * 3 + 1) + 3 by omega, show k * 3 + 3 + 2 = (k * 3 + 2) + 3 by omega, e, e, e]
/-- the three cells of a row's run, written -/
def set3 (W : World) (g o : Nat) (r : Rg) : World := ((W.setCell ⟨g, o, none⟩ (.int .i64 r.at_)).setCell ⟨g, o + 1, none⟩ (.int .i64 r.old)).setCell ⟨g, o + 2, none⟩ (.int .i64 r.new)
theorem rn_put {base : Nat} {W : World} {v : Value} {l : List Rg} (h : Rn.Rgs base W v l) {k : Nat} (hk : k < l.length) (r : Rg) :
    ∃ g c, v = .slice (some ⟨g, 0, none⟩) l.length c ∧ base ≤ g ∧ g < W.heap.size ∧ (∃ cs, W.heap[g]? = some (.cells cs 117 (0, 0)) ∧ l.length * 3 ≤ cs.size) ∧ Rn.Rgs base (set3 W g (k * 3) r) v (l.set k r) ∧ W.grownBy (set3 W g (k * 3) r) (some g) := by
  rcases h.2 with ⟨_, h0⟩ | ⟨g, cap, cur, hv, hb, hg, hnc, hcap, hsz, hcs⟩
  · omega
  · refine ⟨g, cap, hv, hb, lt_some hg, ⟨cur, hg, by omega⟩, ⟨?_, .inr ⟨g, cap, ((cur.setIfInBounds (k * 3) (.int .i64 r.at_)).setIfInBounds (k * 3 + 1) (.int .i64 r.old)).setIfInBounds (k * 3 + 2) (.int .i64 r.new), ?_, hb, ?_, ?_, hcap, by simpa using hsz, ?_⟩⟩, ?_⟩
    · rw [Rn.cells3_length]
    · rw [List.length_set]; exact hv
    · unfold set3
      rw [set_at (set_at (set_at hg _) _)]
    · rw [List.length_set]; exact hnc
    · rw [List.length_set, cells3_set r l k hk, ← hcs]
      simp only [Array.toList_setIfInBounds, List.take_set]
    · unfold set3
      exact only_trans (only_trans (grown_set1 W g _ _) (grown_set1 _ g _ _) (fun i _ e => e)) (grown_set1 _ g _ _) (fun i _ e => e)
end Go.Proofs.Ytgodphfkhmahnaa.Df
