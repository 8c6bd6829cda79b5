/- Walk: the program's Invert. -/
import Derived.Test.YtnffgomgfabapaaSmLw
namespace Go.Proofs.Ytnffgomgfabapaa.Sm
open Go.RowKit Go.Shelf Mem
set_option linter.unusedVariables false
attribute [local go_sem] Oper.semAt_some

noncomputable def invW (l : List Rg) : List Rg := if rightB l = true then inv l else []
def rowOf {m : Nat} (l : List Rg) (pre : List (Ix m)) : List Rg := pre.map fun x => ⟨(rg l x.1).at_ + sh l x.1, (rg l x.1).new, (rg l x.1).old⟩
theorem rowOf_length {m : Nat} (l : List Rg) (pre : List (Ix m)) : (rowOf l pre).length = pre.length := by simp [rowOf]
theorem rowOf_snoc {m : Nat} (l : List Rg) (pre : List (Ix m)) (x : Ix m) : rowOf l (pre ++ [x]) = rowOf l pre ++ [⟨(rg l x.1).at_ + sh l x.1, (rg l x.1).new, (rg l x.1).old⟩] := by simp [rowOf]
theorem invTo_eq (l : List Rg) : ∀ n, invTo l n = (List.range n).map fun k => (⟨(rg l k).at_ + sh l k, (rg l k).new, (rg l k).old⟩ : Rg)
  | 0 => rfl
  | n + 1 => by rw [invTo, invTo_eq l n, List.range_succ, List.map_append]; rfl
theorem rowOf_all {m : Nat} (l : List Rg) (ys : List (Ix m)) (h : ys.map (·.1) = List.range m) : rowOf l ys = invTo l m := by
  rw [invTo_eq, ← h, List.map_map]; rfl
/-- the list of the inverse: its box, its row -/
structure IS (w : World) (B3 : Nat) (v : Value) (row : List Rg) (W : World) : Prop where
  below : Below w.heap.size w W
  hb : w.heap.size ≤ B3
  h0 : W.heap[B3]? = some (.cells #[v] 34 (0, 0))
  hr : Rgs w.heap.size W v row
section
variable {w W W' : World} {B3 : Nat} {v v' : Value} {row row' : List Rg}
theorem Rgs.notcells (h : Rgs w.heap.size W v row) {r : Option Nat} (hr : ∀ k, r = some k → ∃ o : Obj, W.heap[k]? = some o ∧ o.isCells = false) : ∀ g, v.ownBlock = some g → some g ≠ r := by
  intro g hg e
  obtain ⟨_, _, cs, fr, hh⟩ := h.block g hg
  obtain ⟨o, ho, hc⟩ := hr g e.symm
  rw [hh] at ho; cases ho; cases hc
theorem IS.kept (h : IS w B3 v row W) {r : Option Nat} (hg : W.grownBy W' r) (hr : ∀ k, r = some k → w.heap.size ≤ k ∧ ∃ o : Obj, W.heap[k]? = some o ∧ o.isCells = false) : IS w B3 v row W' := by
  refine ⟨h.below.grown hg h.below.size (fun k e => (hr k e).1), h.hb, ?_, h.hr.grown hg (h.hr.notcells fun k e => (hr k e).2)⟩
  rw [hg.block _ (lt_some h.h0) (fun e => by obtain ⟨_, o, ho, hc⟩ := hr _ e.symm; rw [h.h0] at ho; cases ho; cases hc)]; exact h.h0
theorem IS.step (h : IS w B3 v row W) (hb : Below W.heap.size W W') : IS w B3 v row W' := h.kept (grown_none hb) (fun r e => by cases e)
theorem IS.cell (h : IS w B3 v row W) : W.cell? ⟨B3, 0, none⟩ = some v ∧ W.frozen? ⟨B3, 0, none⟩ = false := by
  refine ⟨?_, ?_⟩
  · simp [World.cell?, h.h0]
  · simp [World.frozen?, h.h0]
theorem rrow_is (h : IS w B3 v row W) (r : Rg) : RRow (W.alloc (.cells #[.int .i64 r.at_, .int .i64 r.old, .int .i64 r.new] 56)) (some ⟨W.heap.size, 0, none⟩) 1 [r] := rrow_one W r
/-- appended to, not yet stored -/
structure IS2 (w : World) (B3 : Nat) (v v' : Value) (row : List Rg) (W : World) : Prop where
  below : Below w.heap.size w W
  hb : w.heap.size ≤ B3
  h0 : W.heap[B3]? = some (.cells #[v] 34 (0, 0))
  hr : Rgs w.heap.size W v' row
theorem own_ne (h : Rgs w.heap.size W v row) {i : Nat} {cs : Array Value} {t : TypeId} {fr : Nat × Nat} (h0 : W.heap[i]? = some (.cells cs t fr)) (ht : t ≠ 56) : some i ≠ v.ownBlock := by
  intro e
  obtain ⟨_, _, cs', fr', hh⟩ := h.block i e.symm
  rw [h0] at hh; cases hh; exact ht rfl
theorem IS.grow (h : IS w B3 v row W) (ho : Rgs w.heap.size W' v' row') (hg : W.grownBy W' v.ownBlock) : IS2 w B3 v v' row' W' :=
  ⟨below_of_grown h.below hg h.below.size (fun i hi => (h.hr.block i hi).1), h.hb, by rw [hg.block _ (lt_some h.h0) (own_ne h.hr h.h0 (by decide))]; exact h.h0, ho⟩
theorem IS2.cell (h : IS2 w B3 v v' row W) : W.cell? ⟨B3, 0, none⟩ = some v ∧ W.frozen? ⟨B3, 0, none⟩ = false := by
  refine ⟨?_, ?_⟩
  · simp [World.cell?, h.h0]
  · simp [World.frozen?, h.h0]
theorem IS2.store (h : IS2 w B3 v v' row W) : IS w B3 v' row (W.setCell ⟨B3, 0, none⟩ v') := by
  refine ⟨h.below.setCell (p := ⟨B3, 0, none⟩) h.hb _, h.hb, by simp [World.setCell, Array.getElem?_modify, h.h0], ?_⟩
  exact h.hr.grown (grownBy_setCell' W B3 v') (fun g hg e => own_ne h.hr h.h0 (by decide) (by rw [hg]; exact e.symm))
def XC (B : Nat) (a o n z : Int) (W : World) : Prop := W.heap[B]? = some (.cells #[.int .i64 a, .int .i64 o, .int .i64 n, .int .i64 z] 87 (0, 0))
variable {B : Nat} {a o n z : Int}
theorem x_step (h : XC B a o n z W) (hb : Below W.heap.size W W') : XC B a o n z W' := by unfold XC at *; rw [hb.block _ (lt_some h)]; exact h
theorem x_grow (h : XC B a o n z W) (hr : Rgs w.heap.size W v row) (hg : W.grownBy W' v.ownBlock) : XC B a o n z W' := by
  unfold XC at *; rw [hg.block _ (lt_some h) (own_ne hr h (by decide))]; exact h
theorem x_set (h : XC B a o n z W) (h0 : W.heap[B3]? = some (.cells #[v] 34 (0, 0))) {u : Value} : XC B a o n z (W.setCell ⟨B3, 0, none⟩ u) := by
  unfold XC at *; rw [Below.heap_setCell _ _ _ _ (ne_heap h h0 (by decide))]; exact h
theorem xs_of (h : XC B a o n z W) : W.cell? ⟨B, 0, none⟩ = some (.int .i64 a) ∧ W.cell? ⟨B, 1, none⟩ = some (.int .i64 o) ∧ W.cell? ⟨B, 2, none⟩ = some (.int .i64 n) ∧ W.cell? ⟨B, 3, none⟩ = some (.int .i64 z) := by
  unfold XC at h
  refine ⟨?_, ?_, ?_, ?_⟩
  all_goals simp [World.cell?, h]
theorem KS.grow (hs : w.heap.size ≤ W.heap.size) (hr : Rgs w.heap.size W v row) (hg : W.grownBy W' v.ownBlock) : KS w.heap.size W W' :=
  ⟨(Below.refl _ _).grown hg hs (fun k e => (hr.block k e).1), fun i cs fr e => by rw [hg.block _ (lt_some e) (own_ne hr e (by decide))]; exact e⟩
theorem keeps_row (B' : Nat) (hr : Rgs w.heap.size W v row) (hg : W.grownBy W' v.ownBlock) : KeepsFrom B' W W' :=
  ⟨hg.size, fun k o _ hk ho => by
    rw [hg.block _ (lt_some hk) (fun e => by obtain ⟨_, _, cs, fr, hh⟩ := hr.block k e.symm; rw [hh] at hk; cases hk; cases ho)]; exact hk⟩
end

set_option maxRecDepth 100000 in
set_option maxHeartbeats 8000000 in
theorem pinvert_any (l : List Rg) (A : Option Addr) (m c : Nat) (w : World) (hm : m ≤ 100) (hr : RLow w.heap.size w A m l) :
    Calls Try.prog 31 #[.slice A m c] w (RgsIs w (invW l)) := by
  have HL := Lib.hid hr.1
  have HR := Lib.hid hr
  obtain ⟨z, hz⟩ : ∃ z, z = invW l := ⟨_, rfl⟩
  rw [← hz]
  have HZ := Lib.hid hz
  clear hr hz
  refine (callsIn_wide (n := 3)).1 ?_
  refine callsIn_of_wp_marks Try.func31 rfl trivial ?_ rfl
  simp only [Try.ntmps31, List.size_toArray, List.length_cons, List.length_nil, Nat.reduceAdd, Nat.reduceSub, Array.replicate_succ, Array.replicate_zero, List.push_toArray, List.append_toArray, List.nil_append, List.cons_append]
  have CR := pright_any l A m c w hm HR.out
  gi_wp2_with fail
  refine ⟨trivial, ?_⟩
  refine (callsIn_wide.2 CR).mono ?_
  rintro e W1 ⟨rfl, hb1⟩
  have HB1 := Lib.hid hb1
  clear hb1 CR
  cases hrb : rightB l with
  | false =>
    have e1 : z = [] := HZ.out.trans (by unfold invW; rw [hrb]; simp)
    subst e1
    gi_wp2
    exact ⟨_, results_tmp rfl _ _ _, _, rfl, Rgs.nil, HB1.out⟩
  | true =>
    have HOK : Hid (okTo l m) := Lib.hid (by rw [← HL.out]; exact right_of hrb)
    have HZ2 : Hid (z = inv l) := Lib.hid (HZ.out.trans (by unfold invW; rw [hrb]; simp))
    obtain ⟨i0, hi, hiz, his, hib⟩ := info_parts tzero
    obtain ⟨W2, hmk, hown, hgr⟩ := run_make_own (P := Try.prog) (w := W1) w.heap.size 34 56 i0 (rgV zeroRg) 3 Try.underlying34 hi hiz his .i64 .i64 m (by rw [hib]; omega) (by unfold maxLen; omega) HB1.out.size
    have HOW : Hid (Rgs w.heap.size W2 (.slice (some ⟨W1.heap.size, 0, none⟩) 0 m) []) := Lib.hid hown
    have HBW := Lib.hid (HB1.out.grown hgr HB1.out.size (fun k e => by cases e))
    have HI0 : Hid (IS w W2.heap.size (.slice (some ⟨W1.heap.size, 0, none⟩) 0 m) [] (W2.alloc (.cells #[.slice (some ⟨W1.heap.size, 0, none⟩) 0 m] 34))) :=
      Lib.hid ⟨HBW.out.alloc HBW.out.size _, HBW.out.size, heap_alloc_new _ _, HOW.out.alloc _⟩
    clear hown hgr hi hiz his hib
    gi_wp2_with (refine ⟨trivial, ?_⟩; gi_at_call 42; refine (all_in Fence.wide (3 - 1) trivial rfl A m c _).mono ?_; rintro e w' ⟨rfl, rfl⟩)
    have HBX := Lib.hid (Boxed.new (W2.alloc (.cells #[.slice (some ⟨W1.heap.size, 0, none⟩) 0 m] 34)) 34 (.slice A m c))
    have HI1 := Lib.hid (HI0.out.step ((Below.refl _ _).alloc (Nat.le_refl _) (.cells #[.slice A m c] 34)))
    rw [show (W2.alloc (.cells #[.slice (some ⟨W1.heap.size, 0, none⟩) 0 m] 34)).heap.size = W2.heap.size + 1 by simp] at HBX
    clear hmk
    generalize (W2.alloc (.cells #[.slice (some ⟨W1.heap.size, 0, none⟩) 0 m] 34)).alloc (.cells #[.slice A m c] 34) = W0 at HBX HI1 ⊢
    obtain ⟨B3, hB3⟩ : ∃ B3, B3 = W2.heap.size := ⟨_, rfl⟩
    rw [← hB3] at HBX HI1 ⊢
    obtain ⟨BX, hBX⟩ : ∃ BX, BX = B3 + 1 := ⟨_, rfl⟩
    rw [← hBX] at HBX ⊢
    have hw0 : w.heap.size ≤ W0.heap.size := HI1.out.below.size
    clear hB3 hBX HOW HBW HI0
    refine wpIn_rangeFunc_ownH rfl (by omega) (gf := 48) (lb := #[.pointer (some ⟨BX, 0, none⟩)]) rfl trivial (enters_of Try.func48 (by kernel_rfl) rfl)
      (all_stops (3 - 1) (by omega) BX w.heap.size l A m c W0 HOK.out hm (HR.out.below HI1.out.below (Nat.le_refl _)) HBX.out HI1.out.below.size) KS.trans (KS.put HI1.out.below.size) (Below.refl _ _) (fun _ => rfl)
      (fun pre W => ∃ v, IS w B3 v (rowOf l pre) W)
      (fun _ _ _ => False)
      (by intro pre W W' row hI hg hr; obtain ⟨v, h⟩ := hI; exact ⟨v, h.kept hg (fun r e => ⟨by have := (hr r e).1; omega, (hr r e).2⟩)⟩)
      (fun _ _ _ _ _ hs _ _ => hs)
      ⟨_, HI1.out⟩
      (fun x a' W => ∃ B, a' = { tmps := #[.slice A m c, undef, .slice none 0 0, .pointer (some ⟨B3, 0, none⟩), undef, .pointer (some ⟨B, 0, none⟩), .slice A m c, .bool true, .bool false, .slice A m c, .int .i64 (m : Int), .slice (some ⟨W1.heap.size, 0, none⟩) 0 m, .slice A m c, .func (.func 48) #[] #[.pointer (some ⟨BX, 0, none⟩)], .int .i64 (x.1 : Int), shV (rg l x.1) (sh l x.1), undef, undef, undef, undef, undef, undef, undef, undef, undef, undef, undef, undef, undef], defers := [] } ∧ W.heap[B]? = some (.cells #[.int .i64 (rg l x.1).at_, .int .i64 (rg l x.1).old, .int .i64 (rg l x.1).new, .int .i64 (sh l x.1)] 87 (0, 0)))
      (by intro x a' _ W W' row hI hg hr; obtain ⟨B, h1, h2⟩ := hI; exact ⟨B, h1, by rw [hg.block B (lt_some h2) (fun e => by obtain ⟨_, o, ho, hc⟩ := hr B e.symm; rw [h2] at ho; cases ho; cases hc)]; exact h2⟩)
      ?assign ?body ?done ?stop
    case assign =>
      intro L pre x W K hI hK
      have HK := Lib.hid hK
      have hn := heap_alloc_new W (.cells #[.int .i64 (rg l x.1).at_, .int .i64 (rg l x.1).old, .int .i64 (rg l x.1).new, .int .i64 (sh l x.1)] 87)
      have HN := Lib.hid hn
      have HI := Lib.hid hI
      clear hK hn hI
      unfold shV at HK ⊢
      gi_wp2
      obtain ⟨v, h1⟩ := HI.out
      exact HK.out _ _ (KeepsFrom.of_grownBy (World.grownBy_alloc _ _ none) (fun j e => by cases e)) (KS.of_below ((Below.refl _ _).alloc (Nat.le_refl _) _) h1.below.size) ⟨v, h1.step ((Below.refl _ _).alloc (Nat.le_refl _) _)⟩ ⟨_, rfl, HN.out⟩
    case body =>
      rintro L pre ⟨k, hk⟩ a' W hL hrec ⟨v, hFS⟩ ⟨B, rfl, hx⟩ hlt
      have HPL : Hid ((rowOf l pre).length ≤ 100) := Lib.hid (by rw [rowOf_length]; omega)
      have HNX := Lib.hid (rowOf_snoc l pre ⟨k, hk⟩)
      have HFI := Lib.hid (HOK.out k hk).1
      have hs := far_sh (HOK.out.mono (by omega) : okTo l k) (by omega)
      have HS := Lib.hid hs
      dsimp only at hx HNX ⊢
      have CA := fun W => at_any (rg l k) (sh l k) HFI.out HS.out W
      have hf := HFI.out
      unfold Rg.fits at hf
      unfold far at hs
      obtain ⟨A1, c1, hv⟩ := hFS.hr.form
      subst hv
      generalize rg l k = r at *
      generalize sh l k = zk at *
      obtain ⟨a, o, n⟩ := r
      unfold shV shO at *
      try simp only at CA hf hx HNX
      have HF0 := Lib.hid hFS
      have HX0 : Hid (XC B a o n zk W) := Lib.hid hx
      have hXS := xs_of HX0.out
      clear hFS hx
      gi_wp2_with fail
      refine region_round (S := fun W' => (W'.cell? ⟨B, 0, none⟩ = some (.int .i64 a) ∧ W'.cell? ⟨B, 1, none⟩ = some (.int .i64 o) ∧ W'.cell? ⟨B, 2, none⟩ = some (.int .i64 n) ∧ W'.cell? ⟨B, 3, none⟩ = some (.int .i64 zk))) (by kernel_rfl) (by rfl) (by rintro ⟨_, _, h⟩; exact h) hXS (fun hHeld => ?_)
      have HB0 : Hid (Below W.heap.size W W.drew) := Lib.hid (below_drewN (Below.refl _ _) 1)
      have HF := Lib.hid (HF0.out.step HB0.out)
      have HX := Lib.hid (x_step HX0.out HB0.out)
      clear hXS
      have hsW : w.heap.size ≤ W.heap.size := HF0.out.below.size
      generalize W.drew = W5 at hHeld HB0 HF HX ⊢
      have HB := HB0
      clear HB0 HF0 HX0
      refine tk 1 (v := ?_) rfl (by kernel_rfl) (fun _ _ _ h => h) ?_ hHeld ?_
      rotate_left
      · (intro W hSw; (try dsimp only at hSw); go_simp; try with_reducible rfl)
      refine tk 3 (v := ?_) rfl (by kernel_rfl) (fun _ _ _ h => h) ?_ hHeld ?_
      rotate_left
      · (intro W hSw; (try dsimp only at hSw); go_simp; try with_reducible rfl)
      refine tk 4 (v := ?_) rfl (by kernel_rfl) (fun _ _ _ h => h) ?_ hHeld ?_
      rotate_left
      · (intro W hSw; (try dsimp only at hSw); go_simp; try with_reducible rfl)
      refine tk 5 (v := ?_) rfl (by kernel_rfl) (fun _ _ _ h => h) ?_ hHeld ?_
      rotate_left
      · (intro W hSw; (try dsimp only at hSw); go_simp; try with_reducible rfl)
      refine tk 6 (v := ?_) rfl (by kernel_rfl) (fun _ _ _ h => h) ?_ hHeld ?_
      rotate_left
      · (intro W hSw; (try dsimp only at hSw); go_simp; try with_reducible rfl)
      refine tk 7 (v := ?_) rfl (by kernel_rfl) (fun _ _ _ h => h) ?_ hHeld ?_
      rotate_left
      · (intro W hSw; (try dsimp only at hSw); go_simp; try with_reducible rfl)
      refine tk 8 (v := ?_) rfl (by kernel_rfl) (fun _ _ _ h => h) ?_ hHeld ?_
      rotate_left
      · (intro W hSw; (try dsimp only at hSw); go_simp; try with_reducible rfl)
      refine wpAnyH_ready (rs := [0, 2]) (by kernel_rfl) (by simp) ?_
      refine AllReadyH.cons rfl (fun K hK => ?_) (AllReadyH.cons rfl (fun K hK => ?_) AllReadyH.nil)
      · have hc0 := HF.out.cell.1
        go_simp
        refine hK.out _ _ (xs_of HX.out) (fun hHeld => ?_)
        clear hK K hc0
        refine wpAnyH_ready (rs := [2]) (by kernel_rfl) (by simp) ?_
        refine AllReadyH.cons rfl (fun K hK => ?_) AllReadyH.nil
        go_simp
        refine (CA _).mono ?_
        rintro e W2 ⟨rfl, hw⟩
        have hb2 : Below _ _ W2 := (show Below _ _ W2 by rw [hw]; exact (Below.refl _ _).alloc (Nat.le_refl _) _)
        have HF2 := Lib.hid (HF.out.step hb2)
        have HX2 := Lib.hid (x_step HX.out hb2)
        have HB2 := Lib.hid (HB.out.trans (hb2.mono HB.out.size))
        clear hw hHeld
        go_wp2_with fail
        refine hK.out _ _ (xs_of HX2.out) (fun hHeld => ?_)
        clear hb2
        clear hK K HF HX HB
        have HF := HF2
        have HX := HX2
        have HB := HB2
        clear HF2 HX2 HB2
        refine tk 9 (v := ?_) rfl (by kernel_rfl) (fun _ _ _ h => h) ?_ hHeld ?_
        rotate_left
        · (intro W hSw; (try dsimp only at hSw); go_simp; try with_reducible rfl)
        refine wpAnyH_ready (rs := [10]) (by kernel_rfl) (by simp) ?_
        refine AllReadyH.cons rfl (fun K hK => ?_) AllReadyH.nil
        go_simp
        have HF3 := Lib.hid (HF.out.step ((Below.refl _ _).alloc (Nat.le_refl _) (.cells #[.int .i64 (a + zk), .int .i64 n, .int .i64 o] 56)))
        have HX3 := Lib.hid (x_step HX.out ((Below.refl _ _).alloc (Nat.le_refl _) (.cells #[.int .i64 (a + zk), .int .i64 n, .int .i64 o] 56)))
        have HB3 := Lib.hid (HB.out.alloc HB.out.size (.cells #[.int .i64 (a + zk), .int .i64 n, .int .i64 o] 56))
        have HO := Lib.hid (rrow_is HF.out ⟨a + zk, n, o⟩)
        refine hK.out _ _ (xs_of HX3.out) (fun hHeld => ?_)
        clear hK K HF HX HB
        have HF := HF3
        have HX := HX3
        have HB := HB3
        clear HF3 HX3 HB3
        refine wpAnyH_ready (rs := [11]) (by kernel_rfl) (by simp) ?_
        refine AllReadyH.cons rfl (fun K hK => ?_) AllReadyH.nil
        refine step_app_rg (by rfl) (.tmp 16) (.tmp 26) (by rfl) w.heap.size (.slice A1 (rowOf l pre).length c1) (rowOf l pre) (by rfl) HF.out.hr _ 1 1 [⟨a + zk, n, o⟩] (by rfl) HO.out (by have := HPL.out; omega) (HF.out.below.size) ?_
        intro v' W4 hown hg hat
        have HF4 := Lib.hid (HF.out.grow hown hg)
        have HX4 := Lib.hid (x_grow HX.out HF.out.hr hg)
        have HKG := Lib.hid (KS.grow HF.out.below.size HF.out.hr hg)
        have HKK := Lib.hid (keeps_row W0.heap.size HF.out.hr hg)
        clear hown hg hat hHeld HO
        refine hK.out _ _ (xs_of HX4.out) (fun hHeld => ?_)
        clear hK K
        obtain ⟨A2, c2, hv2⟩ := HF4.out.hr.form
        obtain ⟨NL, hNL⟩ : ∃ x, x = (rowOf l pre ++ [(⟨a + zk, n, o⟩ : Rg)]).length := ⟨_, rfl⟩
        rw [← hNL] at hv2
        clear hNL
        subst hv2
        refine wpAnyH_ready (rs := [12]) (by kernel_rfl) (by simp) ?_
        refine AllReadyH.cons rfl (fun K hK => ?_) AllReadyH.nil
        have hc0 := HF4.out.cell.1
        have hc1 := HF4.out.cell.2
        go_simp
        have HFS := Lib.hid HF4.out.store
        have HXS := Lib.hid (x_set HX4.out HF4.out.h0 (u := .slice A2 NL c2))
        refine hK.out _ _ (xs_of HXS.out) (fun hHeld => ?_)
        clear hK K hHeld hc0 hc1
        refine wpAnyH_done (by kernel_rfl) ?_ _
        have HKK2 := Lib.hid (((KeepsFrom.of_grownBy (B := W0.heap.size) (grown_none HB.out) (fun j e => by cases e)).trans HKK.out).trans ((KeepsOthers.setCell _ ⟨B3, 0, none⟩ (.slice A2 NL c2)).from _))
        have HKS2 := Lib.hid (((KS.of_below HB.out hsW).trans HKG.out).trans (KS.set HF4.out.h0 (by decide) HF4.out.hb 0 (.slice A2 NL c2)))
        rw [← HNX.out] at HFS
        gi_wp2_with fail
        exact ⟨HKK2.out, HKS2.out, _, HFS.out⟩
      · go_simp
        refine (CA _).mono ?_
        rintro e W5 ⟨rfl, hw⟩
        have hb5 : Below _ _ W5 := (show Below _ _ W5 by rw [hw]; exact (Below.refl _ _).alloc (Nat.le_refl _) _)
        have HF5 := Lib.hid (HF.out.step hb5)
        have HX5 := Lib.hid (x_step HX.out hb5)
        have HB5 := Lib.hid (HB.out.trans (hb5.mono HB.out.size))
        clear hw hHeld
        go_wp2_with fail
        refine hK.out _ _ (xs_of HX5.out) (fun hHeld => ?_)
        clear hb5
        clear hK K HF HX HB
        have HF := HF5
        have HX := HX5
        have HB := HB5
        clear HF5 HX5 HB5
        refine tk 9 (v := ?_) rfl (by kernel_rfl) (fun _ _ _ h => h) ?_ hHeld ?_
        rotate_left
        · (intro W hSw; (try dsimp only at hSw); go_simp; try with_reducible rfl)
        refine wpAnyH_ready (rs := [0, 10]) (by kernel_rfl) (by simp) ?_
        refine AllReadyH.cons rfl (fun K hK => ?_) (AllReadyH.cons rfl (fun K hK => ?_) AllReadyH.nil)
        · have hc0 := HF.out.cell.1
          go_simp
          refine hK.out _ _ (xs_of HX.out) (fun hHeld => ?_)
          clear hK K hc0
          refine wpAnyH_ready (rs := [10]) (by kernel_rfl) (by simp) ?_
          refine AllReadyH.cons rfl (fun K hK => ?_) AllReadyH.nil
          go_simp
          have HF7 := Lib.hid (HF.out.step ((Below.refl _ _).alloc (Nat.le_refl _) (.cells #[.int .i64 (a + zk), .int .i64 n, .int .i64 o] 56)))
          have HX7 := Lib.hid (x_step HX.out ((Below.refl _ _).alloc (Nat.le_refl _) (.cells #[.int .i64 (a + zk), .int .i64 n, .int .i64 o] 56)))
          have HB7 := Lib.hid (HB.out.alloc HB.out.size (.cells #[.int .i64 (a + zk), .int .i64 n, .int .i64 o] 56))
          have HO := Lib.hid (rrow_is HF.out ⟨a + zk, n, o⟩)
          refine hK.out _ _ (xs_of HX7.out) (fun hHeld => ?_)
          clear hK K HF HX HB
          have HF := HF7
          have HX := HX7
          have HB := HB7
          clear HF7 HX7 HB7
          refine wpAnyH_ready (rs := [11]) (by kernel_rfl) (by simp) ?_
          refine AllReadyH.cons rfl (fun K hK => ?_) AllReadyH.nil
          refine step_app_rg (by rfl) (.tmp 16) (.tmp 26) (by rfl) w.heap.size (.slice A1 (rowOf l pre).length c1) (rowOf l pre) (by rfl) HF.out.hr _ 1 1 [⟨a + zk, n, o⟩] (by rfl) HO.out (by have := HPL.out; omega) (HF.out.below.size) ?_
          intro v' W8 hown hg hat
          have HF8 := Lib.hid (HF.out.grow hown hg)
          have HX8 := Lib.hid (x_grow HX.out HF.out.hr hg)
          have HKG := Lib.hid (KS.grow HF.out.below.size HF.out.hr hg)
          have HKK := Lib.hid (keeps_row W0.heap.size HF.out.hr hg)
          clear hown hg hat hHeld HO
          refine hK.out _ _ (xs_of HX8.out) (fun hHeld => ?_)
          clear hK K
          obtain ⟨A2, c2, hv2⟩ := HF8.out.hr.form
          obtain ⟨NL, hNL⟩ : ∃ x, x = (rowOf l pre ++ [(⟨a + zk, n, o⟩ : Rg)]).length := ⟨_, rfl⟩
          rw [← hNL] at hv2
          clear hNL
          subst hv2
          refine wpAnyH_ready (rs := [12]) (by kernel_rfl) (by simp) ?_
          refine AllReadyH.cons rfl (fun K hK => ?_) AllReadyH.nil
          have hc0 := HF8.out.cell.1
          have hc1 := HF8.out.cell.2
          go_simp
          have HFS := Lib.hid HF8.out.store
          have HXS := Lib.hid (x_set HX8.out HF8.out.h0 (u := .slice A2 NL c2))
          refine hK.out _ _ (xs_of HXS.out) (fun hHeld => ?_)
          clear hK K hHeld hc0 hc1
          refine wpAnyH_done (by kernel_rfl) ?_ _
          have HKK2 := Lib.hid (((KeepsFrom.of_grownBy (B := W0.heap.size) (grown_none HB.out) (fun j e => by cases e)).trans HKK.out).trans ((KeepsOthers.setCell _ ⟨B3, 0, none⟩ (.slice A2 NL c2)).from _))
          have HKS2 := Lib.hid (((KS.of_below HB.out hsW).trans HKG.out).trans (KS.set HF8.out.h0 (by decide) HF8.out.hb 0 (.slice A2 NL c2)))
          rw [← HNX.out] at HFS
          gi_wp2_with fail
          exact ⟨HKK2.out, HKS2.out, _, HFS.out⟩
        · go_simp
          have HF9 := Lib.hid (HF.out.step ((Below.refl _ _).alloc (Nat.le_refl _) (.cells #[.int .i64 (a + zk), .int .i64 n, .int .i64 o] 56)))
          have HX9 := Lib.hid (x_step HX.out ((Below.refl _ _).alloc (Nat.le_refl _) (.cells #[.int .i64 (a + zk), .int .i64 n, .int .i64 o] 56)))
          have HB9 := Lib.hid (HB.out.alloc HB.out.size (.cells #[.int .i64 (a + zk), .int .i64 n, .int .i64 o] 56))
          have HO := Lib.hid (rrow_is HF.out ⟨a + zk, n, o⟩)
          refine hK.out _ _ (xs_of HX9.out) (fun hHeld => ?_)
          clear hK K HF HX HB
          have HF := HF9
          have HX := HX9
          have HB := HB9
          clear HF9 HX9 HB9
          refine wpAnyH_ready (rs := [0]) (by kernel_rfl) (by simp) ?_
          refine AllReadyH.cons rfl (fun K hK => ?_) AllReadyH.nil
          have hc0 := HF.out.cell.1
          go_simp
          refine hK.out _ _ (xs_of HX.out) (fun hHeld => ?_)
          clear hK K hc0
          refine wpAnyH_ready (rs := [11]) (by kernel_rfl) (by simp) ?_
          refine AllReadyH.cons rfl (fun K hK => ?_) AllReadyH.nil
          refine step_app_rg (by rfl) (.tmp 16) (.tmp 26) (by rfl) w.heap.size (.slice A1 (rowOf l pre).length c1) (rowOf l pre) (by rfl) HF.out.hr _ 1 1 [⟨a + zk, n, o⟩] (by rfl) HO.out (by have := HPL.out; omega) (HF.out.below.size) ?_
          intro v' W11 hown hg hat
          have HF11 := Lib.hid (HF.out.grow hown hg)
          have HX11 := Lib.hid (x_grow HX.out HF.out.hr hg)
          have HKG := Lib.hid (KS.grow HF.out.below.size HF.out.hr hg)
          have HKK := Lib.hid (keeps_row W0.heap.size HF.out.hr hg)
          clear hown hg hat hHeld HO
          refine hK.out _ _ (xs_of HX11.out) (fun hHeld => ?_)
          clear hK K
          obtain ⟨A2, c2, hv2⟩ := HF11.out.hr.form
          obtain ⟨NL, hNL⟩ : ∃ x, x = (rowOf l pre ++ [(⟨a + zk, n, o⟩ : Rg)]).length := ⟨_, rfl⟩
          rw [← hNL] at hv2
          clear hNL
          subst hv2
          refine wpAnyH_ready (rs := [12]) (by kernel_rfl) (by simp) ?_
          refine AllReadyH.cons rfl (fun K hK => ?_) AllReadyH.nil
          have hc0 := HF11.out.cell.1
          have hc1 := HF11.out.cell.2
          go_simp
          have HFS := Lib.hid HF11.out.store
          have HXS := Lib.hid (x_set HX11.out HF11.out.h0 (u := .slice A2 NL c2))
          refine hK.out _ _ (xs_of HXS.out) (fun hHeld => ?_)
          clear hK K hHeld hc0 hc1
          refine wpAnyH_done (by kernel_rfl) ?_ _
          have HKK2 := Lib.hid (((KeepsFrom.of_grownBy (B := W0.heap.size) (grown_none HB.out) (fun j e => by cases e)).trans HKK.out).trans ((KeepsOthers.setCell _ ⟨B3, 0, none⟩ (.slice A2 NL c2)).from _))
          have HKS2 := Lib.hid (((KS.of_below HB.out hsW).trans HKG.out).trans (KS.set HF11.out.h0 (by decide) HF11.out.hb 0 (.slice A2 NL c2)))
          rw [← HNX.out] at HFS
          gi_wp2_with fail
          exact ⟨HKK2.out, HKS2.out, _, HFS.out⟩
    case done =>
      rintro D' ys W hD hys ⟨v, hFS⟩ hK
      have e1 : z = rowOf l ys := by rw [HZ2.out, rowOf_all l ys hys, inv, HL.out]
      have HF := Lib.hid hFS
      have c0 := hFS.cell.1
      obtain ⟨A1, c1, hv⟩ := hFS.hr.form
      subst hv
      have HE := Lib.hid e1
      clear e1 hys hFS
      gi_wp2
      refine ⟨by simp, .inl ⟨_, _, rfl, run_takeDeferred hK, ?_⟩⟩
      have hV := HF.out.kept (grownBy_putObj' _ D' (.deferred none)) (fun r e => by cases e; exact ⟨by omega, _, hK, rfl⟩)
      exact ⟨_, results_tmp rfl _ _ _, _, rfl, by rw [HE.out]; exact hV.hr, hV.below⟩
    case stop =>
      rintro D' c pre W _ _ h _
      exact h.elim
end Go.Proofs.Ytnffgomgfabapaa.Sm
