/- Walk of the reference of routes: Add. -/
import Derived.Test.YtnffgomgfabapaaRtJ
import Derived.Test.YtnffgomgfabapaaRtMw
import Derived.Test.YtnffgomgfabapaaVRow
namespace Go.Proofs.Ytnffgomgfabapaa.Rt
open Go.RowKit Mem Sm
set_option linter.unusedVariables false

theorem iinfo : (Try.prog.info? 3).map (fun i => (i.zero, i.size, i.bytes)) = some (some (.int .i64 0), 1, 8) := by kernel_rfl
/-- a slice's ranges that lie below n₀ -/
def LowV (n₀ : Nat) (W : World) (u : Value) (m : List Rg) : Prop := ∃ A c, u = .slice A m.length c ∧ RLow n₀ W A m.length m
def ints (O : List Int) : List Value := O.map (Value.int .i64)
/-- a reference's route: its maps, and of each the number of its mirror -/
structure XAt (n₀ base : Nat) (W : World) (mv ov : Value) (vs : List Value) (M : List (List Rg)) (O : List Int) : Prop where
  mrow : W.ownsRow base 34 1 mv M.length vs
  each : ∀ (i : Nat) (u : Value) (m : List Rg), vs[i]? = some u → M[i]? = some m → LowV n₀ W u m
  orow : W.ownsRow base 3 1 ov O.length (ints O)
section
variable {n₀ base p : Nat} {W W' : World} {mv ov : Value} {vs : List Value} {M : List (List Rg)} {O : List Int}
theorem LowV.keep {u : Value} {m : List Rg} {k : Nat} (h : LowV n₀ W u m) (hb : Below k W W') (hk : n₀ ≤ k) : LowV n₀ W' u m := by
  obtain ⟨A, c, e, hr⟩ := h; exact ⟨A, c, e, hr.below hb hk⟩
theorem LowV.one {u : Value} {m : List Rg} (h : LowV n₀ W u m) : u.oneCell' = true := by
  obtain ⟨A, c, rfl, hr⟩ := h; rfl
theorem XAt.one (h : XAt n₀ base W mv ov vs M O) : ∀ u ∈ vs, u.oneCell' = true := fun u hu => by
  obtain ⟨i, hi, e⟩ := List.getElem_of_mem hu
  have hl : vs.length = M.length := by have := h.mrow.1; simpa using this
  exact (h.each i u M[i] (by rw [List.getElem?_eq_getElem hi, e]) (List.getElem?_eq_getElem (by omega))).one
theorem XAt.len (h : XAt n₀ base W mv ov vs M O) : vs.length = M.length := by have := h.mrow.1; simpa using this
theorem XAt.step (h : XAt n₀ base W mv ov vs M O) (hb : Below W.heap.size W W') (hn : n₀ ≤ W.heap.size) : XAt n₀ base W' mv ov vs M O :=
  ⟨own_keep h.mrow (grown_below hb) (fun g e => by cases e), fun i u m h1 h2 => (h.each i u m h1 h2).keep hb hn, own_keep h.orow (grown_below hb) (fun g e => by cases e)⟩
theorem XAt.nil (n₀ base : Nat) (W : World) : XAt n₀ base W (.slice none 0 0) (.slice none 0 0) [] [] [] :=
  ⟨World.ownsRow_nil _ _ _ _, fun i u m h => by simp at h, World.ownsRow_nil _ _ _ _⟩
end
def addO (O : List Int) (of : Int) (n : Nat) : List Int := if 0 ≤ of then (O ++ [of]).set of.toNat n else O ++ [of]

/-- what the operations of Add's one statement yield -/
def AddR (X n1 : Nat) (mv ov : Value) (vs : List Value) (nM : Nat) (O : List Int) (av : Value) (of : Int) : Nat → (Nat → Value) → World → Prop
  | 0, x, W => W.ownsRow n1 34 1 (x 0) 0 []
  | 1, x, W => x 1 = .pointer (some ⟨X, 0, none⟩)
  | 2, x, W => x 2 = mv
  | 3, x, W => W.ownsRow n1 34 1 (x 3) nM vs
  | 4, x, W => x 4 = av
  | 5, x, W => ∃ g, x 5 = .slice (some ⟨g, 0, none⟩) 1 1 ∧ n1 ≤ g ∧ g < W.heap.size ∧ W.cell? ⟨g, 0, none⟩ = some av
  | 6, x, W => W.ownsRow n1 34 1 (x 6) (nM + 1) (vs ++ [av])
  | 7, x, W => W.ownsRow n1 3 1 (x 7) 0 []
  | 8, x, W => x 8 = .pointer (some ⟨X, 1, none⟩)
  | 9, x, W => x 9 = ov
  | 10, x, W => W.ownsRow n1 3 1 (x 10) O.length (ints O)
  | 11, x, W => x 11 = .int .i64 of
  | 12, x, W => ∃ g, x 12 = .slice (some ⟨g, 0, none⟩) 1 1 ∧ n1 ≤ g ∧ g < W.heap.size ∧ W.cell? ⟨g, 0, none⟩ = some (.int .i64 of)
  | 13, x, W => W.ownsRow n1 3 1 (x 13) (O.length + 1) (ints O ++ [.int .i64 of])
  | 14, x, W => x 14 = .agg #[x 6, x 13]
  | 15, x, W => ∃ B, x 15 = .pointer (some ⟨B, 0, none⟩) ∧ n1 ≤ B ∧ W.heap[B]? = some (.cells #[.slice none 0 0, .slice none 0 0] 44 (0, 0))
  | _, x, W => False
def addSup : Nat → Option Nat
  | 0 => some 3
  | 3 => some 6
  | 7 => some 10
  | 10 => some 13
  | _ => none
def addBk : Nat → Value → Option Nat
  | 1, _ => none
  | 2, _ => none
  | 4, _ => none
  | 8, _ => none
  | 9, _ => none
  | 11, _ => none
  | 14, _ => none
  | _, v => blkOf v
section
variable {X n1 : Nat} {mv ov : Value} {vs : List Value} {nM : Nat} {O : List Int} {av : Value} {of : Int}
theorem cell_keep {W W' : World} {t : Option Nat} {g o : Nat} {u : Value} (hg : W.grownBy W' t) (hl : g < W.heap.size) (ht : ∀ k, t = some k → some g ≠ some k) (h : W.cell? ⟨g, o, none⟩ = some u) : W'.cell? ⟨g, o, none⟩ = some u := by
  have := hg.block g hl (fun e => ht g e.symm rfl)
  simp only [World.cell?, this] at h ⊢; exact h
theorem AddR.keep {j : Nat} {x : Nat → Value} {W W' : World} {t : Option Nat} (h : AddR X n1 mv ov vs nM O av of j x W) (hg : W.grownBy W' t) (ht : ∀ g, t = some g → n1 ≤ g ∧ addBk j (x j) ≠ some g) (hn : n1 ≤ W.heap.size) : AddR X n1 mv ov vs nM O av of j x W' := by
  have hs := hg.size
  unfold AddR at h ⊢
  split at h
  case h_1 | h_4 | h_7 | h_8 | h_11 | h_14 => exact own_keep h hg (fun g e => (ht g e).2)
  case h_2 | h_3 | h_5 | h_9 | h_10 | h_12 | h_15 | h_17 => exact h
  case h_6 | h_13 =>
    obtain ⟨g, e, h1, h2, h3⟩ := h
    exact ⟨g, e, h1, by omega, cell_keep hg h2 (fun k ek e' => (ht k ek).2 (by rw [e]; exact e')) h3⟩
  case h_16 =>
    obtain ⟨B, e, h1, h2⟩ := h
    exact ⟨B, e, h1, by rw [hg.block B (Array.getElem?_eq_some_iff.1 h2).1 (fun e' => (ht B e'.symm).2 (by rw [e]; rfl))]; exact h2⟩
theorem AddR.young {j : Nat} {x : Nat → Value} {W : World} (h : AddR X n1 mv ov vs nM O av of j x W) : ∀ g, addBk j (x j) = some g → g < W.heap.size := by
  intro g hg
  unfold AddR at h
  split at h
  case h_1 | h_4 | h_7 | h_8 | h_11 | h_14 => exact (own_young h g hg).1
  case h_2 | h_3 | h_5 | h_9 | h_10 | h_12 | h_15 => cases hg
  case h_17 => exact h.elim
  case h_6 | h_13 =>
    obtain ⟨b, e, h1, h2, h3⟩ := h
    rw [e] at hg
    obtain rfl : b = g := by simpa [addBk, blkOf] using hg
    omega
  case h_16 =>
    obtain ⟨B, e, h1, h2⟩ := h
    rw [e] at hg
    obtain rfl : B = g := by simpa [addBk, blkOf] using hg
    exact (Array.getElem?_eq_some_iff.1 h2).1
theorem AddR.loc {j : Nat} {x x' : Nat → Value} {W : World} (h : AddR X n1 mv ov vs nM O av of j x W) (hj : x' j = x j) (h14 : j = 14 → x' 6 = x 6 ∧ x' 13 = x 13) : AddR X n1 mv ov vs nM O av of j x' W := by
  unfold AddR at h ⊢
  split at h
  case h_15 => obtain ⟨h1, h2⟩ := h14 rfl; rw [hj, h1, h2]; exact h
  case h_17 => exact h.elim
  all_goals (first | (rw [hj]; exact h) | (simp only [hj]; exact h))
end
def RAddIs (n₀ : Nat) (mv ov : Value) (M : List (List Rg)) (O : List Int) (m : List Rg) (of : Int) (w : World) (e : Ending) (w' : World) : Prop :=
  Below w.heap.size w w' ∧
      ((rightB m = true ∧ ∃ mv' ov' vs', e = .returned (.tuple #[.agg #[mv', ov'], .int .i64 0]) ∧ XAt n₀ w.heap.size w' mv' ov' vs' (M ++ [m]) (addO O of M.length)) ∨ (rightB m = false ∧ e = .returned (.tuple #[.agg #[mv, ov], .int .i64 1])))
theorem put2_at {B : Nat} {W : World} {x0 x1 : Value} {t : TypeId} (e : W.heap[B]? = some (.cells #[x0, x1] t (0, 0))) (y0 y1 : Value) : ((W.setCell ⟨B, 0, none⟩ y0).setCell ⟨B, 1, none⟩ y1).heap[B]? = some (.cells #[y0, y1] t (0, 0)) := by
  simp [World.setCell, Array.getElem?_modify, e]
theorem put2_below {k B : Nat} {w W : World} (hb : Below k w W) (hB : k ≤ B) (y0 y1 : Value) : Below k w ((W.setCell ⟨B, 0, none⟩ y0).setCell ⟨B, 1, none⟩ y1) :=
  (hb.setCell (p := ⟨B, 0, none⟩) hB _).setCell (p := ⟨B, 1, none⟩) hB _
theorem two {B : Nat} {W : World} {x0 x1 : Value} {t : TypeId} (e : W.heap[B]? = some (.cells #[x0, x1] t (0, 0))) : W.cell? ⟨B, 0, none⟩ = some x0 ∧ W.cell? ⟨B, 1, none⟩ = some x1 ∧ W.frozen? ⟨B, 0, none⟩ = false ∧ W.frozen? ⟨B, 1, none⟩ = false := by
  refine ⟨?_, ?_, ?_, ?_⟩
  · simp [World.cell?, e]
  · simp [World.cell?, e]
  · simp [World.frozen?, e]
  · simp [World.frozen?, e]
theorem own_put2 {W : World} {base n B : Nat} {e t : TypeId} {v : Value} {us : List Value} {cs : Array Value} {fr : Nat × Nat} (h : W.ownsRow base e 1 v n us) (hB : W.heap[B]? = some (.cells cs t fr)) (ht : e ≠ t) (y0 y1 : Value) : ((W.setCell ⟨B, 0, none⟩ y0).setCell ⟨B, 1, none⟩ y1).ownsRow base e 1 v n us := by
  refine ⟨h.1, h.2.imp id fun ⟨g, cap, cur, hv, h1, h2, r⟩ => ⟨g, cap, cur, hv, h1, ?_, r⟩⟩
  have hne : g ≠ B := by rintro rfl; rw [h2] at hB; injection hB with hB; injection hB with _ e2; exact ht e2
  rw [Below.heap_setCell _ _ _ _ hne, Below.heap_setCell _ _ _ _ hne]; exact h2
theorem vrow_one {W : World} {g : Nat} {u : Value} (hl : g < W.heap.size) (h : W.cell? ⟨g, 0, none⟩ = some u) : VRow W (some ⟨g, 0, none⟩) 1 [u] :=
  ⟨rfl, fun _ => ⟨g, 0, rfl, hl, fun j z hz => by
    have hj : j = 0 := by
      have := (List.getElem?_eq_some_iff.1 hz).1
      simpa using this
    subst hj
    simp at hz; subst hz
    simpa using h⟩⟩
theorem ints_one (O : List Int) : ∀ u ∈ ints O, u.oneCell' = true := one_ints .i64 O
set_option maxRecDepth 100000 in
set_option maxHeartbeats 4000000 in
theorem radd_any (n₀ base : Nat) (mv ov : Value) (vs : List Value) (M : List (List Rg)) (O : List Int) (m : List Rg) (A : Option Addr) (n c : Nat) (of : Int) (w : World) (hn : n ≤ 100) (hM : M.length ≤ 1000) (hO : O.length = M.length) (hof : rightB m = true → of < M.length)
    (h : XAt n₀ base w mv ov vs M O) (hn₀ : n₀ ≤ w.heap.size) (hr : RLow n₀ w A n m) :
    Calls Try.prog 33 #[.agg #[mv, ov], .slice A n c, .int .i64 of] w (RAddIs n₀ mv ov M O m of w) := by
  obtain ⟨A0, c0, hmv, hc0, hv0, _⟩ := own_form h.mrow
  obtain ⟨A1, c1, hov, hc1, hv1, _⟩ := own_form h.orow
  have HX := Lib.hid h
  have HR := Lib.hid hr
  have HV0 := Lib.hid hv0
  have HV1 := Lib.hid hv1
  subst hmv; subst hov
  have HOL := Lib.hid hO
  have HOF := Lib.hid hof
  clear h hr hv0 hv1 hO hof
  have HB2 := Lib.hid (((Below.refl _ w).alloc (Nat.le_refl _) (.cells #[.slice A0 M.length c0, .slice A1 O.length c1] 44)).alloc (by simp) (.cells #[.slice none 0 0, .slice none 0 0] 44))
  have hn2 := heap_alloc_new (w.alloc (.cells #[.slice A0 M.length c0, .slice A1 O.length c1] 44)) (.cells #[.slice none 0 0, .slice none 0 0] 44)
  have hn1 : ((w.alloc (.cells #[.slice A0 M.length c0, .slice A1 O.length c1] 44)).alloc (.cells #[.slice none 0 0, .slice none 0 0] 44)).heap[w.heap.size]? = some (.cells #[.slice A0 M.length c0, .slice A1 O.length c1] 44 (0, 0)) := by
    rw [Below.heap_alloc _ _ _ (by simp), heap_alloc_new]
  rw [show (w.alloc (.cells #[.slice A0 M.length c0, .slice A1 O.length c1] 44)).heap.size = w.heap.size + 1 by simp] at hn2
  go_enter Try.func33, Try.ntmps33
  go_upto_region 1 with fail
  obtain ⟨w2, hw2⟩ : ∃ x, x = (w.alloc (.cells #[.slice A0 M.length c0, .slice A1 O.length c1] 44)).alloc (.cells #[.slice none 0 0, .slice none 0 0] 44) := ⟨_, rfl⟩
  rw [← hw2] at HB2 hn1 hn2 ⊢
  clear hw2
  have HN1 := Lib.hid hn1
  have HN2 := Lib.hid hn2
  clear hn1 hn2
  have CR := rright_any m A n c w2 hn ((HR.out.below HB2.out hn₀).lift (Nat.le_trans hn₀ HB2.out.size))
  go_wp2_with fail
  refine CR.mono ?_
  rintro e w3 ⟨rfl, hb3⟩
  have HB3 := Lib.hid (HB2.out.trans (hb3.mono HB2.out.size))
  have hx1 : w3.heap[w.heap.size]? = some (.cells #[.slice A0 M.length c0, .slice A1 O.length c1] 44 (0, 0)) := by rw [hb3.block _ (lt_some HN1.out)]; exact HN1.out
  have hx2 : w3.heap[w.heap.size + 1]? = some (.cells #[.slice none 0 0, .slice none 0 0] 44 (0, 0)) := by rw [hb3.block _ (lt_some HN2.out)]; exact HN2.out
  have HX1 := Lib.hid hx1
  have HX2 := Lib.hid hx2
  clear CR hb3 HB2 HN1 HN2
  have x0 : w3.cell? ⟨w.heap.size, 0, none⟩ = some (.slice A0 M.length c0) := by simp [World.cell?, hx1]
  have x1 : w3.cell? ⟨w.heap.size, 1, none⟩ = some (.slice A1 O.length c1) := by simp [World.cell?, hx1]
  clear hx1
  cases hrb : rightB m with
  | false =>
    obtain ⟨z0, z1, z2, z3⟩ := two hx2
    clear hx2
    go_wp2
    obtain ⟨q0, q1, _, _⟩ := two (put2_at HX2.out (.slice A0 M.length c0) (.slice A1 O.length c1))
    refine bodyPost_ret (v := .tuple #[.agg #[.slice A0 M.length c0, .slice A1 O.length c1], .int .i64 1]) ?_ rfl ⟨put2_below HB3.out (by omega) _ _, .inr ⟨hrb, rfl⟩⟩
    simp [results, Try.results33, go_sem, q0, q1]
  | true =>
    have HRB := Lib.hid hrb
    clear hx2 hrb
    have hM5 : ¬ ((M.length : Int) ≥ 5000) := by omega
    go_upto_region 5 with fail
    go_cut [8] from 18 to 32 (fun v8 wx => ∃ (B : Nat) (mv' ov' : Value), v8 = .pointer (some ⟨B, 0, none⟩) ∧ Hid (w.heap.size < B ∧ wx.heap[B]? = some (.cells #[mv', ov'] 44 (0, 0)) ∧ wx.ownsRow w.heap.size 34 1 mv' (M.length + 1) (vs ++ [.slice A n c]) ∧ wx.ownsRow w.heap.size 3 1 ov' (O.length + 1) (ints O ++ [.int .i64 of]) ∧ Below w.heap.size w wx ∧ wx.heap[w.heap.size]? = some (.cells #[.slice A0 M.length c0, .slice A1 O.length c1] 44 (0, 0)) ∧ wx.heap[w.heap.size + 1]? = some (.cells #[.slice none 0 0, .slice none 0 0] 44 (0, 0))))
    case first =>
      have hXl : w.heap.size < w3.drew.heap.size := lt_some (W := w3) HX1.out
      have hO1 : O.length ≤ 1000 := by rw [HOL.out]; exact hM
      have hone := HX.out.one
      have hX : ∀ W, w3.drew.grownBy W none → W.heap[w.heap.size]? = some (.cells #[.slice A0 M.length c0, .slice A1 O.length c1] 44 (0, 0)) := fun W h => by rw [h.block _ hXl (by simp)]; exact HX1.out
      have hV0 : ∀ W, w3.drew.grownBy W none → VRow W A0 M.length vs := fun W h => (HV0.out.below HB3.out).below (w' := W) (w := w3) ⟨h.os, h.tape, h.output, h.size, fun k hk => h.block k hk (by simp)⟩
      have hV1 : ∀ W, w3.drew.grownBy W none → VRow W A1 O.length (ints O) := fun W h => (HV1.out.below HB3.out).below (w' := W) (w := w3) ⟨h.os, h.tape, h.output, h.size, fun k hk => h.block k hk (by simp)⟩
      refine wp_region_any (by kernel_rfl) ?_
      refine flow_start (k := 16) (W0 := w3.drew) (act := fun x => ⟨#[_, _, _, _, _, _, _, _, x 15, _, _, _, _, _, _, _, _, _, x 0, x 1, x 2, x 3, x 4, x 5, x 6, x 7, x 8, x 9, x 10, x 11, x 12, x 13, x 14, _, _, _, _, _, _, _, _, _, _], _⟩) (R := AddR w.heap.size w3.drew.heap.size (.slice A0 M.length c0) (.slice A1 O.length c1) vs M.length O (.slice A n c) of) (sup := addSup) (bk := addBk) ?_ (fun _ => undef)
      refine ⟨by rfl, ?_, ?_, ?_, ?_, ?_, ?_, ?_⟩
      · exact dag_of (by kernel_rfl)
      · exact phase_of (by kernel_rfl)
      · exact fun j x W W' t h hg ht hn => h.keep hg ht hn
      · exact fun j x W h => h.young
      · exact fun j x x' W hj hx hd h => h.loc hx (fun e => by subst e; exact ⟨hd _ rfl ⟨6, .data⟩ (by simp) rfl, hd _ rfl ⟨13, .data⟩ (by simp) rfl⟩)
      · intro i hi L x W hbel hf hr hno hdeps K hK
        have hcase : i = 0 ∨ i = 1 ∨ i = 2 ∨ i = 3 ∨ i = 4 ∨ i = 5 ∨ i = 6 ∨ i = 7 ∨ i = 8 ∨ i = 9 ∨ i = 10 ∨ i = 11 ∨ i = 12 ∨ i = 13 ∨ i = 14 ∨ i = 15 := by omega
        rcases hcase with rfl | rfl | rfl | rfl | rfl | rfl | rfl | rfl | rfl | rfl | rfl | rfl | rfl | rfl | rfl | rfl
        · refine wpOp_val (v := .slice (some ⟨W.heap.size, 0, none⟩) 0 0) (w' := W.alloc (.cells #[] 34)) rfl rfl (by go_simp) ?_
          exact hK _ _ none (grown_below ((Below.refl _ _).alloc (Nat.le_refl _) _)) (fun g e => by cases e) (fun g e => .inl (by simp only [addBk, blkOf, Option.some.injEq] at e; omega)) (own_lower (own_empty W _) hbel.size)
        · refine wpOp_val (v := .pointer (some ⟨w.heap.size, 0, none⟩)) (w' := W) rfl rfl (by go_simp) ?_
          exact hK _ _ none (World.grownBy.refl _ _) (fun g e => by cases e) (fun g e => by cases e) rfl
        · have o1 : on L 1 := hdeps _ rfl ⟨1, .data⟩ (by simp) rfl
          have d1 := hf 1 (by omega) o1 (fun s hs => by cases hs)
          obtain ⟨x0, x1, _, _⟩ := two (hX W hbel)
          have e1 : x 1 = _ := d1
          refine wpOp_val (v := .slice A0 M.length c0) (w' := W) rfl rfl (by go_simp) ?_
          exact hK _ _ none (World.grownBy.refl _ _) (fun g e => by cases e) (fun g e => by cases e) rfl
        · have o0 : on L 0 := hdeps _ rfl ⟨0, .data⟩ (by simp) rfl
          have d0 := hf 0 (by omega) o0 (fun s hs => by injection hs with hs; subst hs; exact hno)
          have o2 : on L 2 := hdeps _ rfl ⟨2, .data⟩ (by simp) rfl
          have d2 := hf 2 (by omega) o2 (fun s hs => by cases hs)
          obtain ⟨inf, hi, hiz, his, hib⟩ := info_parts sinfo
          refine wpOp_app rfl rfl (.tmp 18) (.tmp 20) 41 rfl w3.drew.heap.size 34 inf (.slice none 0 0) 24 Try.underlying41 hi hiz his hib (by omega) rfl (x 0) 0 [] rfl d0 A0 M.length c0 vs d2 (hV0 W hbel) hone (by omega) hbel.size (fun v' w' h1 h2 h3 => ?_)
          refine hK v' w' (x 0).ownBlock h2 (fun g e => ?_) (fun g e => ?_) (by rw [Nat.zero_add, List.nil_append] at h1; exact h1)
          · rw [own_blk d0] at e
            exact ⟨(own_young d0 g e).2, 0, by omega, rfl, o0, e⟩
          · rw [show addBk 3 v' = v'.ownBlock from (own_blk h1).symm] at e
            rcases h3 with h3 | h3
            · rw [h3, own_blk d0] at e
              exact .inr (.inr ⟨0, by omega, rfl, o0, e⟩)
            · rw [h3] at e; injection e with e; exact .inl (by omega)
        · refine wpOp_val (v := .slice A n c) (w' := W) rfl rfl (by go_simp) ?_
          exact hK _ _ none (World.grownBy.refl _ _) (fun g e => by cases e) (fun g e => by cases e) rfl
        · have o4 : on L 4 := hdeps _ rfl ⟨4, .data⟩ (by simp) rfl
          have d4 := hf 4 (by omega) o4 (fun s hs => by cases hs)
          have e4 : x 4 = _ := d4
          refine wpOp_val (v := .slice (some ⟨W.heap.size, 0, none⟩) 1 1) (w' := W.alloc (.cells #[.slice A n c] 34)) rfl rfl (by go_simp) ?_
          exact hK _ _ none (grown_below ((Below.refl _ _).alloc (Nat.le_refl _) _)) (fun g e => by cases e) (fun g e => .inl (by simp only [addBk, blkOf, Option.some.injEq] at e; omega)) ⟨W.heap.size, rfl, hbel.size, by simp, by rw [World.cell?_alloc_mark]; rfl⟩
        · have o3 : on L 3 := hdeps _ rfl ⟨3, .data⟩ (by simp) rfl
          have d3 := hf 3 (by omega) o3 (fun s hs => by injection hs with hs; subst hs; exact hno)
          have o5 : on L 5 := hdeps _ rfl ⟨5, .data⟩ (by simp) rfl
          have d5 := hf 5 (by omega) o5 (fun s hs => by cases hs)
          obtain ⟨g5, e5, _, l5, c5⟩ := d5
          obtain ⟨inf, hi, hiz, his, hib⟩ := info_parts sinfo
          refine wpOp_app rfl rfl (.tmp 21) (.tmp 23) 41 rfl w3.drew.heap.size 34 inf (.slice none 0 0) 24 Try.underlying41 hi hiz his hib (by omega) rfl (x 3) M.length vs rfl d3 (some ⟨g5, 0, none⟩) 1 1 [.slice A n c] e5 (vrow_one l5 c5) (fun u hu => by simp at hu; subst hu; rfl) (by omega) hbel.size (fun v' w' h1 h2 h3 => ?_)
          refine hK v' w' (x 3).ownBlock h2 (fun g e => ?_) (fun g e => ?_) h1
          · rw [own_blk d3] at e
            exact ⟨(own_young d3 g e).2, 3, by omega, rfl, o3, e⟩
          · rw [show addBk 6 v' = v'.ownBlock from (own_blk h1).symm] at e
            rcases h3 with h3 | h3
            · rw [h3, own_blk d3] at e
              exact .inr (.inr ⟨3, by omega, rfl, o3, e⟩)
            · rw [h3] at e; injection e with e; exact .inl (by omega)
        · refine wpOp_val (v := .slice (some ⟨W.heap.size, 0, none⟩) 0 0) (w' := W.alloc (.cells #[] 3)) rfl rfl (by go_simp) ?_
          exact hK _ _ none (grown_below ((Below.refl _ _).alloc (Nat.le_refl _) _)) (fun g e => by cases e) (fun g e => .inl (by simp only [addBk, blkOf, Option.some.injEq] at e; omega)) (own_lower (own_empty W _) hbel.size)
        · refine wpOp_val (v := .pointer (some ⟨w.heap.size, 1, none⟩)) (w' := W) rfl rfl (by go_simp) ?_
          exact hK _ _ none (World.grownBy.refl _ _) (fun g e => by cases e) (fun g e => by cases e) rfl
        · have o8 : on L 8 := hdeps _ rfl ⟨8, .data⟩ (by simp) rfl
          have d8 := hf 8 (by omega) o8 (fun s hs => by cases hs)
          obtain ⟨x0, x1, _, _⟩ := two (hX W hbel)
          have e8 : x 8 = _ := d8
          refine wpOp_val (v := .slice A1 O.length c1) (w' := W) rfl rfl (by go_simp) ?_
          exact hK _ _ none (World.grownBy.refl _ _) (fun g e => by cases e) (fun g e => by cases e) rfl
        · have o7 : on L 7 := hdeps _ rfl ⟨7, .data⟩ (by simp) rfl
          have d7 := hf 7 (by omega) o7 (fun s hs => by injection hs with hs; subst hs; exact hno)
          have o9 : on L 9 := hdeps _ rfl ⟨9, .data⟩ (by simp) rfl
          have d9 := hf 9 (by omega) o9 (fun s hs => by cases hs)
          obtain ⟨inf, hi, hiz, his, hib⟩ := info_parts iinfo
          refine wpOp_app rfl rfl (.tmp 25) (.tmp 27) 42 rfl w3.drew.heap.size 3 inf (.int .i64 0) 8 Try.underlying42 hi hiz his hib (by omega) rfl (x 7) 0 [] rfl d7 A1 O.length c1 (ints O) d9 (hV1 W hbel) (ints_one O) (by omega) hbel.size (fun v' w' h1 h2 h3 => ?_)
          refine hK v' w' (x 7).ownBlock h2 (fun g e => ?_) (fun g e => ?_) (by rw [Nat.zero_add, List.nil_append] at h1; exact h1)
          · rw [own_blk d7] at e
            exact ⟨(own_young d7 g e).2, 7, by omega, rfl, o7, e⟩
          · rw [show addBk 10 v' = v'.ownBlock from (own_blk h1).symm] at e
            rcases h3 with h3 | h3
            · rw [h3, own_blk d7] at e
              exact .inr (.inr ⟨7, by omega, rfl, o7, e⟩)
            · rw [h3] at e; injection e with e; exact .inl (by omega)
        · refine wpOp_val (v := .int .i64 of) (w' := W) rfl rfl (by go_simp) ?_
          exact hK _ _ none (World.grownBy.refl _ _) (fun g e => by cases e) (fun g e => by cases e) rfl
        · have o11 : on L 11 := hdeps _ rfl ⟨11, .data⟩ (by simp) rfl
          have d11 := hf 11 (by omega) o11 (fun s hs => by cases hs)
          have e11 : x 11 = _ := d11
          refine wpOp_val (v := .slice (some ⟨W.heap.size, 0, none⟩) 1 1) (w' := W.alloc (.cells #[.int .i64 of] 3)) rfl rfl (by go_simp) ?_
          exact hK _ _ none (grown_below ((Below.refl _ _).alloc (Nat.le_refl _) _)) (fun g e => by cases e) (fun g e => .inl (by simp only [addBk, blkOf, Option.some.injEq] at e; omega)) ⟨W.heap.size, rfl, hbel.size, by simp, by rw [World.cell?_alloc_mark]; rfl⟩
        · have o10 : on L 10 := hdeps _ rfl ⟨10, .data⟩ (by simp) rfl
          have d10 := hf 10 (by omega) o10 (fun s hs => by injection hs with hs; subst hs; exact hno)
          have o12 : on L 12 := hdeps _ rfl ⟨12, .data⟩ (by simp) rfl
          have d12 := hf 12 (by omega) o12 (fun s hs => by cases hs)
          obtain ⟨g5, e5, _, l5, c5⟩ := d12
          obtain ⟨inf, hi, hiz, his, hib⟩ := info_parts iinfo
          refine wpOp_app rfl rfl (.tmp 28) (.tmp 30) 42 rfl w3.drew.heap.size 3 inf (.int .i64 0) 8 Try.underlying42 hi hiz his hib (by omega) rfl (x 10) O.length (ints O) rfl d10 (some ⟨g5, 0, none⟩) 1 1 [.int .i64 of] e5 (vrow_one l5 c5) (fun u hu => by simp at hu; subst hu; rfl) (by omega) hbel.size (fun v' w' h1 h2 h3 => ?_)
          refine hK v' w' (x 10).ownBlock h2 (fun g e => ?_) (fun g e => ?_) h1
          · rw [own_blk d10] at e
            exact ⟨(own_young d10 g e).2, 10, by omega, rfl, o10, e⟩
          · rw [show addBk 13 v' = v'.ownBlock from (own_blk h1).symm] at e
            rcases h3 with h3 | h3
            · rw [h3, own_blk d10] at e
              exact .inr (.inr ⟨10, by omega, rfl, o10, e⟩)
            · rw [h3] at e; injection e with e; exact .inl (by omega)
        · have o6 : on L 6 := hdeps _ rfl ⟨6, .data⟩ (by simp) rfl
          have d6 := hf 6 (by omega) o6 (fun s hs => by cases hs)
          have o13 : on L 13 := hdeps _ rfl ⟨13, .data⟩ (by simp) rfl
          have d13 := hf 13 (by omega) o13 (fun s hs => by cases hs)
          obtain ⟨A6, c6, e6, _, _, _⟩ := own_form d6
          obtain ⟨A7, c7, e7, _, _, _⟩ := own_form d13
          refine wpOp_val (v := .agg #[.slice A6 (M.length + 1) c6, .slice A7 (O.length + 1) c7]) (w' := W) rfl rfl (by go_simp) ?_
          exact hK _ _ none (World.grownBy.refl _ _) (fun g e => by cases e) (fun g e => by cases e) (by show Value.agg _ = Value.agg #[x 6, x 13]; rw [e6, e7])
        · refine wpOp_val (v := .pointer (some ⟨W.heap.size, 0, none⟩)) (w' := W.alloc (.cells #[.slice none 0 0, .slice none 0 0] 44)) rfl rfl (by go_simp) ?_
          exact hK _ _ none (grown_below ((Below.refl _ _).alloc (Nat.le_refl _) _)) (fun g e => by cases e) (fun g e => .inl (by simp only [addBk, blkOf, Option.some.injEq] at e; omega)) ⟨W.heap.size, rfl, hbel.size, heap_alloc_new W _⟩
      · intro x W hbel hf
        have d6 := hf 6 (by omega) rfl
        have d13 := hf 13 (by omega) rfl
        have d14 := hf 14 (by omega) rfl
        obtain ⟨B, e15, hB, hBc⟩ := hf 15 (by omega) rfl
        obtain ⟨A6, c6, e6, _, _, _⟩ := own_form d6
        obtain ⟨A7, c7, e7, _, _, _⟩ := own_form d13
        have e14 : x 14 = .agg #[.slice A6 (M.length + 1) c6, .slice A7 (O.length + 1) c7] := by rw [← e6, ← e7]; exact d14
        obtain ⟨z0, z1, z2, z3⟩ := two hBc
        have HD6 := Lib.hid d6
        have HD13 := Lib.hid d13
        have HE6 := Lib.hid e6
        have HE7 := Lib.hid e7
        have HBC := Lib.hid hBc
        have HX1' := Lib.hid (hX W hbel)
        have HBL := Lib.hid hbel
        have HBn := Lib.hid hB
        clear d6 d13 d14 e6 e7 hf hBc hbel hX hV0 hV1 hone hB
        refine wpOp_of rfl rfl ?_
        go_simp
        go_wp2_with fail
        go_meet
        have hBn := HBn.out
        have hne : ∀ k, k < w3.drew.heap.size → (((W.setCell ⟨B, 0, none⟩ (.slice A6 (M.length + 1) c6)).setCell ⟨B, 1, none⟩ (.slice A7 (O.length + 1) c7))).heap[k]? = W.heap[k]? := fun k hk => by
          rw [Below.heap_setCell _ _ _ _ (by simp only; omega), Below.heap_setCell _ _ _ _ (by simp only; omega)]
        have hb3 : Below w.heap.size w W := HB3.out.trans (((below_drewN (Below.refl w3.heap.size w3) 1).trans (below_grown HBL.out)).mono HB3.out.size)
        refine ⟨B, _, _, rfl, Lib.hid ⟨by omega, put2_at HBC.out _ _, ?_, ?_, put2_below hb3 (by omega) _ _, ?_, ?_⟩⟩
        · rw [← HE6.out]; exact own_lower (own_put2 HD6.out HBC.out (by decide) _ _) (by omega)
        · rw [← HE7.out]; exact own_lower (own_put2 HD13.out HBC.out (by decide) _ _) (by omega)
        · rw [hne _ hXl]; exact HX1'.out
        · have hl2 : w.heap.size + 1 < w3.drew.heap.size := lt_some (W := w3) HX2.out
          rw [hne _ hl2, HBL.out.block _ hl2 (by simp)]; exact HX2.out
    case rest =>
      obtain ⟨B, mv', ov', rfl, HC⟩ := hcut
      clear x0 x1 HX2 HX1 HB3
      obtain ⟨hlt, hBc, hmr, hor, hbw, hx1, hx2⟩ := HC.out
      clear HC
      have HBC := Lib.hid hBc
      have HX2 := Lib.hid hx2
      have HB3 := Lib.hid hbw
      have HMR := Lib.hid hmr
      have HOR := Lib.hid hor
      obtain ⟨A6, c6, hm6, _, _, _⟩ := own_form hmr
      obtain ⟨A7, c7, hm7, _, _, _⟩ := own_form hor
      subst hm6; subst hm7
      obtain ⟨y0, y1, _, _⟩ := two hBc
      obtain ⟨z0, z1, z2, z3⟩ := two hx2
      have hEach : ∀ W', Below w.heap.size w W' → ∀ (i : Nat) (u : Value) (m' : List Rg), (vs ++ [.slice A n c])[i]? = some u → (M ++ [m])[i]? = some m' → LowV n₀ W' u m' := fun W' hb i u m' h1 h2 => by
        rcases Nat.lt_trichotomy i M.length with hi | hi | hi
        · rw [List.getElem?_append_left (by rw [HX.out.len]; exact hi)] at h1
          rw [List.getElem?_append_left hi] at h2
          exact (HX.out.each i u m' h1 h2).keep hb hn₀
        · subst hi
          rw [List.getElem?_append_right (by rw [HX.out.len]; exact Nat.le_refl _), HX.out.len] at h1
          rw [List.getElem?_append_right (Nat.le_refl _)] at h2
          simp at h1 h2
          subst h1; subst h2
          exact ⟨A, c, by rw [HR.out.1], HR.out.1 ▸ HR.out.below hb hn₀⟩
        · rw [List.getElem?_eq_none (by simp; omega)] at h2; cases h2
      have HE := Lib.hid hEach
      clear hBc hx2 hbw hmr hor hEach
      by_cases h0 : 0 ≤ of
      · obtain ⟨k, rfl⟩ : ∃ k : Nat, of = k := ⟨of.toNat, by omega⟩
        have hkO : k < O.length + 1 := by have := HOF.out HRB.out; rw [HOL.out]; omega
        obtain ⟨g, c8, x8, hg8, hgb, hgl, hgc, hgf, hgo, cs8, hgh⟩ := own_set HOR.out hkO (.int .i64 M.length)
        injection hg8 with hg8 _ hc8
        subst hg8; subst hc8
        obtain ⟨q0, q1, hx10, hx11⟩ := two hx1
        have hne : ∀ b, b ≠ g → (wc.setCell ⟨g, k, none⟩ (.int .i64 M.length)).heap[b]? = wc.heap[b]? := fun b hb => Below.heap_setCell _ _ _ _ hb
        have hBg : B ≠ g := by
          rintro rfl
          have := HBC.out
          rw [hgh] at this
          injection this with this; injection this with _ e2; exact absurd e2 (by decide)
        have HX2g : Hid ((wc.setCell ⟨g, k, none⟩ (.int .i64 M.length)).heap[w.heap.size + 1]? = some (.cells #[.slice none 0 0, .slice none 0 0] 44 (0, 0))) := Lib.hid (by
          rw [hne _ (by rintro rfl; have := HX2.out; rw [hgh] at this; injection this with this; injection this with _ e2; exact absurd e2 (by decide))]; exact HX2.out)
        have HGO := Lib.hid hgo
        have HMG : Hid ((wc.setCell ⟨g, k, none⟩ (.int .i64 M.length)).ownsRow w.heap.size 34 1 (.slice A6 (M.length + 1) c6) (M.length + 1) (vs ++ [.slice A n c])) := Lib.hid ⟨HMR.out.1, HMR.out.2.imp id fun ⟨g1, cap, cur, hv, a1, a2, r⟩ => ⟨g1, cap, cur, hv, a1, by
          rw [hne _ (by rintro rfl; rw [hgh] at a2; injection a2 with a2; injection a2 with _ e2; exact absurd e2 (by decide))]; exact a2, r⟩⟩
        have HBG : Hid (Below w.heap.size w (wc.setCell ⟨g, k, none⟩ (.int .i64 M.length))) := Lib.hid (HB3.out.setCell (p := ⟨g, k, none⟩) hgb _)
        have n1 : ¬ w.heap.size + 1 = g := by
          rintro rfl; have := HX2.out; rw [hgh] at this; injection this with this; injection this with _ e2; exact absurd e2 (by decide)
        have n2 : ¬ g = w.heap.size + 1 := fun e => n1 e.symm
        have n3 : ¬ w.heap.size = g := by
          rintro rfl; rw [hgh] at hx1; injection hx1 with hx1; injection hx1 with _ e2; exact absurd e2 (by decide)
        have n4 : ¬ g = w.heap.size := fun e => n3 e.symm
        have n5 : ¬ g = B := fun e => hBg e.symm
        clear hgo hne hgh hx1
        go_wp2
        obtain ⟨q0, q1, _, _⟩ := two (put2_at HX2g.out (.slice A6 (M.length + 1) c6) (.slice (some ⟨g, 0, none⟩) (O.length + 1) c7))
        refine bodyPost_ret (v := .tuple #[.agg #[.slice A6 (M.length + 1) c6, .slice (some ⟨g, 0, none⟩) (O.length + 1) c7], .int .i64 0]) ?_ rfl ⟨put2_below HBG.out (by omega) _ _, .inl ⟨HRB.out, _, _, vs ++ [.slice A n c], rfl, ⟨?_, HE.out _ (put2_below HBG.out (by omega) _ _), ?_⟩⟩⟩
        · simp [results, Try.results33, go_sem, q0, q1]
        · rw [List.length_append]; exact own_put2 HMG.out HX2g.out (by decide) _ _
        · unfold addO
          rw [if_pos (by omega), Int.toNat_natCast]
          unfold ints
          rw [List.length_set, List.length_append, List.map_set, List.map_append]
          exact own_put2 HGO.out HX2g.out (by decide) _ _
      · have h0' : of < 0 := by omega
        go_wp2
        obtain ⟨q0, q1, _, _⟩ := two (put2_at HX2.out (.slice A6 (M.length + 1) c6) (.slice A7 (O.length + 1) c7))
        refine bodyPost_ret (v := .tuple #[.agg #[.slice A6 (M.length + 1) c6, .slice A7 (O.length + 1) c7], .int .i64 0]) ?_ rfl ⟨put2_below HB3.out (by omega) _ _, .inl ⟨HRB.out, _, _, vs ++ [.slice A n c], rfl, ⟨?_, HE.out _ (put2_below HB3.out (by omega) _ _), ?_⟩⟩⟩
        · simp [results, Try.results33, go_sem, q0, q1]
        · rw [List.length_append]; exact own_put2 HMR.out HX2.out (by decide) _ _
        · unfold addO
          rw [if_neg (by omega)]
          unfold ints
          rw [List.length_append, List.map_append]
          exact own_put2 HOR.out HX2.out (by decide) _ _
end Go.Proofs.Ytnffgomgfabapaa.Rt
