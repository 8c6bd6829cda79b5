/- Diffs: parts that are laid: Put, Keep; what a row of parts is, plain and in memory. -/
import Derived.Test.YtgodphfkhmahnaaDfZ
import Derived.Test.YtgodphfkhmahnaaDfC
import Derived.Test.YtgodphfkhmahnaaPpMem
namespace Go.Proofs.Ytgodphfkhmahnaa.Df
open Go.RowKit Mem Sm Rt Tk Pp
set_option linter.unusedVariables false
set_option linter.unusedSimpArgs false
set_option maxRecDepth 100000 in
set_option maxHeartbeats 1000000 in
theorem keep_pt (f t : Int) (w : World) :
    Calls Try.prog 64 #[.int .i64 f, .int .i64 t] w fun e w' => e = .returned (.agg #[.bool true, .int .i64 f, .int .i64 t, .slice none 0 0]) ∧ Below w.heap.size w w' := by
  have HB := Lib.hid ((Below.refl _ w).alloc (Nat.le_refl _) (.cells #[.bool true, .int .i64 f, .int .i64 t, .slice none 0 0] 75))
  have hz := heap_alloc_new w (.cells #[.bool true, .int .i64 f, .int .i64 t, .slice none 0 0] 75)
  have c0 : (w.alloc (.cells #[.bool true, .int .i64 f, .int .i64 t, .slice none 0 0] 75)).cell? ⟨w.heap.size, 0, none⟩ = some (.bool true) := by simp only [World.cell?, hz]; rfl
  have c1 : (w.alloc (.cells #[.bool true, .int .i64 f, .int .i64 t, .slice none 0 0] 75)).cell? ⟨w.heap.size, 1, none⟩ = some (.int .i64 f) := by simp only [World.cell?, hz]; rfl
  have c2 : (w.alloc (.cells #[.bool true, .int .i64 f, .int .i64 t, .slice none 0 0] 75)).cell? ⟨w.heap.size, 2, none⟩ = some (.int .i64 t) := by simp only [World.cell?, hz]; rfl
  have c3 : (w.alloc (.cells #[.bool true, .int .i64 f, .int .i64 t, .slice none 0 0] 75)).cell? ⟨w.heap.size, 3, none⟩ = some (.slice none 0 0) := by simp only [World.cell?, hz]; rfl
  go_enter Try.func64, Try.ntmps64
  go_wp2
  refine bodyPost_ret (v := .agg #[.bool true, .int .i64 f, .int .i64 t, .slice none 0 0]) ?_ rfl ⟨rfl, HB.out⟩
  simp [results, Try.results64, go_sem, c0, c1, c2, c3]
/-- a part's four cells, written -/
def put4 (W : World) (B : Nat) (y0 y1 y2 y3 : Value) : World := (((W.setCell ⟨B, 0, none⟩ y0).setCell ⟨B, 1, none⟩ y1).setCell ⟨B, 2, none⟩ y2).setCell ⟨B, 3, none⟩ y3
theorem put4_grown (W : World) (B : Nat) (y0 y1 y2 y3 : Value) : W.grownBy (put4 W B y0 y1 y2 y3) (some B) :=
  only_trans (only_trans (only_trans (grown_set1 W B 0 y0) (grown_set1 _ B 1 y1) (fun _ _ e => e)) (grown_set1 _ B 2 y2) (fun _ _ e => e)) (grown_set1 _ B 3 y3) (fun _ _ e => e)
theorem put4_at {W : World} {B : Nat} {z0 z1 z2 z3 : Value} {t : TypeId} {fr : Nat × Nat} (e : W.heap[B]? = some (.cells #[z0, z1, z2, z3] t fr)) (y0 y1 y2 y3 : Value) : (put4 W B y0 y1 y2 y3).heap[B]? = some (.cells #[y0, y1, y2, y3] t fr) := by
  unfold put4
  rw [set_at (set_at (set_at (set_at e _) _) _)]
  rfl
set_option maxRecDepth 100000 in
set_option maxHeartbeats 1000000 in
theorem put_pt (l : List Tk.Tk) (A : Option Addr) (n c : Nat) (w : World) (hn : n ≤ 100000) (hr : TRow w A n l) :
    Calls Try.prog 62 #[.slice A n c] w fun e w' => ∃ A' c', e = .returned (.agg #[.bool false, .int .i64 0, .int .i64 0, .slice A' l.length c']) ∧ Tks w.heap.size w' (.slice A' l.length c') l ∧ Below w.heap.size w w' := by
  have hb := (Below.refl _ w).alloc (Nat.le_refl _) (.cells #[.bool false, .int .i64 0, .int .i64 0, .slice none 0 0] 75)
  have HB := Lib.hid hb
  have HZ := Lib.hid (heap_alloc_new w (.cells #[.bool false, .int .i64 0, .int .i64 0, .slice none 0 0] 75))
  have HR := Lib.hid (hr.below hb)
  clear hb hr
  go_enter Try.func62, Try.ntmps62
  go_wp2_with fail
  refine (St.clone_tok l A n c _ (by omega) HR.out).mono ?_
  rintro e w3 ⟨v, rfl, hv, hb3⟩
  have HB3 := Lib.hid (HB.out.trans (hb3.mono HB.out.size))
  have hz := hkeep hb3 HZ.out
  obtain ⟨A3, c3, rfl⟩ := hv.form
  generalize hN : l.length = N at *
  have HN := Lib.hid hN
  have hV : Tks (w.heap.size + 1) w3 (.slice A3 N c3) l := hv.lower (by simp)
  have hV4 := hV.grown (put4_grown w3 w.heap.size (.bool false) (.int .i64 0) (.int .i64 0) (.slice A3 N c3)) (fun g e e2 => by
    injection e2 with e2
    have := (hV.block g e).1
    omega)
  have HV := Lib.hid (hV4.lower (show w.heap.size ≤ w.heap.size + 1 by omega))
  have HBF := Lib.hid (below_of_grown HB3.out (put4_grown w3 w.heap.size (.bool false) (.int .i64 0) (.int .i64 0) (.slice A3 N c3)) HB3.out.size (fun i e => by injection e with e; omega))
  have z0 : w3.cell? ⟨w.heap.size, 0, none⟩ = some (.bool false) := by simp only [World.cell?, hz]; rfl
  have z1 : w3.cell? ⟨w.heap.size, 1, none⟩ = some (.int .i64 0) := by simp only [World.cell?, hz]; rfl
  have z2 : w3.cell? ⟨w.heap.size, 2, none⟩ = some (.int .i64 0) := by simp only [World.cell?, hz]; rfl
  have z3 : w3.cell? ⟨w.heap.size, 3, none⟩ = some (.slice none 0 0) := by simp only [World.cell?, hz]; rfl
  have f0 : w3.frozen? ⟨w.heap.size, 0, none⟩ = false := by simp only [World.frozen?, hz]; rfl
  have f1 : w3.frozen? ⟨w.heap.size, 1, none⟩ = false := by simp only [World.frozen?, hz]; rfl
  have f2 : w3.frozen? ⟨w.heap.size, 2, none⟩ = false := by simp only [World.frozen?, hz]; rfl
  have f3 : w3.frozen? ⟨w.heap.size, 3, none⟩ = false := by simp only [World.frozen?, hz]; rfl
  have hF := put4_at hz (.bool false) (.int .i64 0) (.int .i64 0) (.slice A3 N c3)
  have r0 : (put4 w3 w.heap.size (.bool false) (.int .i64 0) (.int .i64 0) (.slice A3 N c3)).cell? ⟨w.heap.size, 0, none⟩ = some (.bool false) := by simp only [World.cell?, hF]; rfl
  have r1 : (put4 w3 w.heap.size (.bool false) (.int .i64 0) (.int .i64 0) (.slice A3 N c3)).cell? ⟨w.heap.size, 1, none⟩ = some (.int .i64 0) := by simp only [World.cell?, hF]; rfl
  have r2 : (put4 w3 w.heap.size (.bool false) (.int .i64 0) (.int .i64 0) (.slice A3 N c3)).cell? ⟨w.heap.size, 2, none⟩ = some (.int .i64 0) := by simp only [World.cell?, hF]; rfl
  have r3 : (put4 w3 w.heap.size (.bool false) (.int .i64 0) (.int .i64 0) (.slice A3 N c3)).cell? ⟨w.heap.size, 3, none⟩ = some (.slice A3 N c3) := by simp only [World.cell?, hF]; rfl
  unfold put4 at HV HBF r0 r1 r2 r3
  clear hz hV hV4 hF hb3 hv HB3 HB HZ HR hN
  go_wp2
  refine bodyPost_ret (v := .agg #[.bool false, .int .i64 0, .int .i64 0, .slice A3 N c3]) ?_ rfl ⟨A3, c3, by rw [HN.out], by rw [HN.out]; exact HV.out, HBF.out⟩
  simp [results, Try.results62, go_sem, r0, r1, r2, r3]
/-- a part, plain: is it old, from where, to where; or which tokens are new -/
structure PX where
  o : Bool
  f : Nat
  t : Nat
  ts : List Tk.Tk
def cut (l : List Tk.Tk) (f t : Nat) : List Tk.Tk := (l.drop f).take (t - f)
def endOf (xs : List PX) : Nat := xs.foldl (fun e x => if x.o then x.t else e) 0
def outOf (l : List Tk.Tk) (xs : List PX) : List Tk.Tk := xs.flatMap fun x => if x.o then cut l x.f x.t else x.ts
def lastO (xs : List PX) : Option Bool := xs.getLast?.map PX.o
theorem endOf_snoc (xs : List PX) (x : PX) : endOf (xs ++ [x]) = if x.o then x.t else endOf xs := by simp [endOf]
theorem outOf_snoc (l : List Tk.Tk) (xs : List PX) (x : PX) : outOf l (xs ++ [x]) = outOf l xs ++ if x.o then cut l x.f x.t else x.ts := by simp [outOf]
theorem lastO_snoc (xs : List PX) (x : PX) : lastO (xs ++ [x]) = some x.o := by simp [lastO]
/-- a part that may stand behind others -/
def Fit (l : List Tk.Tk) (xs : List PX) (x : PX) : Prop :=
  (x.o = false ∧ x.ts ≠ [] ∧ lastO xs ≠ some false ∧ x.f = 0 ∧ x.t = 0) ∨ (x.o = true ∧ endOf xs ≤ x.f ∧ x.f < x.t ∧ x.t ≤ l.length ∧ ¬ (lastO xs = some true ∧ x.f = endOf xs) ∧ x.ts = [])
def Good (l : List Tk.Tk) (xs : List PX) : Prop := ∀ i (h : i < xs.length), Fit l (xs.take i) xs[i]
theorem Good.nil {l : List Tk.Tk} : Good l [] := fun i h => by simp at h
theorem Good.snoc {l : List Tk.Tk} {xs : List PX} {x : PX} (h : Good l xs) (hx : Fit l xs x) : Good l (xs ++ [x]) := by
  intro i hi
  rcases Nat.lt_or_ge i xs.length with g | g
  · have := h i g
    rw [List.getElem_append_left g, List.take_append_of_le_length (by omega)]
    exact this
  · obtain rfl : i = xs.length := by simp at hi; omega
    rw [List.take_append_of_le_length (Nat.le_refl _), List.take_length]
    simpa using hx
/-- a row of parts in memory -/
structure Rep (base : Nat) (W : World) (v : Value) (xs : List PX) (ps : List Pt) : Prop where
  r : Pts base W v ps
  len : ps.length = xs.length
  each : ∀ (i : Nat) (p : Pt) (x : PX), ps[i]? = some p → xs[i]? = some x → p.o = x.o ∧ p.f = x.f ∧ p.t = x.t ∧ Tks base W (.slice p.A p.n p.c) x.ts
theorem Rep.nil (base : Nat) (W : World) : Rep base W (.slice none 0 0) [] [] := ⟨Pts.nil, rfl, fun i p x h => by simp at h⟩
section
variable {base : Nat} {W W' : World} {v v' : Value} {xs : List PX} {ps : List Pt}
theorem Rep.step (h : Rep base W v xs ps) (hb : Below W.heap.size W W') : Rep base W' v xs ps :=
  ⟨h.r.belowAll hb, h.len, fun i p x h1 h2 => by obtain ⟨a, b, c, d⟩ := h.each i p x h1 h2; exact ⟨a, b, c, d.belowAll hb⟩⟩
/-- a write to a block of another type -/
theorem Rep.other (h : Rep base W v xs ps) {q : Nat} (hg : W.grownBy W' (some q)) {cs : Array Value} {t : TypeId} {fr : Nat × Nat} (hq : W.heap[q]? = some (.cells cs t fr)) (h1 : t ≠ 75) (h2 : t ≠ 101) : Rep base W' v xs ps := by
  refine ⟨h.r.grown hg (fun g e e2 => ?_), h.len, fun i p x a b => ?_⟩
  · injection e2 with e2
    subst e2
    obtain ⟨_, _, cs', fr', hh⟩ := h.r.block _ e
    rw [hq] at hh
    injection hh with hh
    injection hh with _ h6 _
    exact h1 h6
  · obtain ⟨c1, c2, c3, c4⟩ := h.each i p x a b
    refine ⟨c1, c2, c3, c4.grown hg (fun g e e2 => ?_)⟩
    injection e2 with e2
    subst e2
    obtain ⟨_, _, cs', fr', hh⟩ := c4.block _ e
    rw [hq] at hh
    injection hh with hh
    injection hh with _ h6 _
    exact h2 h6
/-- a part more -/
theorem Rep.push (h : Rep base W v xs ps) {p : Pt} {x : PX} (hg : W.grownBy W' v.ownBlock) (ho : Pts base W' v' (ps ++ [p])) (hp : p.o = x.o ∧ p.f = x.f ∧ p.t = x.t ∧ Tks base W (.slice p.A p.n p.c) x.ts) : Rep base W' v' (xs ++ [x]) (ps ++ [p]) := by
  have hT : ∀ (u : Value) (ts : List Tk.Tk), Tks base W u ts → Tks base W' u ts := fun u ts hu => hu.grown hg (fun g e e2 => by
    obtain ⟨_, _, cs', fr', hh⟩ := h.r.block _ e2.symm
    obtain ⟨_, _, cs, fr, hh'⟩ := hu.block _ e
    rw [hh] at hh'
    injection hh' with hh'
    injection hh' with _ h6 _
    revert h6; decide)
  refine ⟨ho, by simp [h.len], fun i q y a b => ?_⟩
  rcases Nat.lt_or_ge i ps.length with hi | hi
  · rw [List.getElem?_append_left hi] at a
    rw [List.getElem?_append_left (by rw [← h.len]; exact hi)] at b
    obtain ⟨c1, c2, c3, c4⟩ := h.each i q y a b
    exact ⟨c1, c2, c3, hT _ _ c4⟩
  · have : i = ps.length := by
      have := (List.getElem?_eq_some_iff.1 a).1
      simp at this
      omega
    subst this
    rw [List.getElem?_append_right (Nat.le_refl _)] at a
    rw [h.len, List.getElem?_append_right (Nat.le_refl _)] at b
    simp at a b
    subst a; subst b
    exact ⟨hp.1, hp.2.1, hp.2.2.1, hT _ _ hp.2.2.2⟩
end
end Go.Proofs.Ytgodphfkhmahnaa.Df
