/- Walk of smap: a shifted range's tell. -/
import Derived.Test.YtgodphfkhmahnaaSmA
import Derived.Deep.RegionHeld
import Derived.Deep.RegionHeld3
namespace Go.Proofs.Ytgodphfkhmahnaa.Sm
open Go.RowKit Mem
set_option linter.unusedVariables false

theorem tkno {P : Program} {ops : Array Oper} {Q : Exit → Act → World → Prop} {md : Region.Mode} {S : World → Prop} (i : Nat) {oi : Oper} {fuel : Nat} {listed : Array Bool} {a : Act} {w : World} (hi : ops[i]? = some oi)
    (hb : (Region.noSelect ops && (Region.free md ops listed i && ((Region.ready md ops listed).contains i && !(Region.wanted oi (yielded ops a.tmps))))) = true)
    (hQ : ∀ c a w, Q (.panic c) (a.put oi.dst undef) w → Q (.panic c) a w) (hS : S w)
    (h : wpAnyH P md ops Q S fuel (listed.setIfInBounds i true) (a.put oi.dst undef) w) : wpAnyH P md ops Q S (fuel + 1) listed a w := by
  simp only [Bool.and_eq_true, Bool.not_eq_true'] at hb
  exact wpAnyH_take hi hb.1 hb.2.1 hb.2.2.1 hQ (Or.inr ⟨hb.2.2.2, rfl⟩) hS h

def plV (p : Pl) : Value := .agg #[.int .i64 p.pos, .bool p.gone, .bool p.inside, .int .i64 p.rng, .int .i64 p.off]
/-- what holds while tell's answer is made: the range's box, the answer's block -/
structure TS (w : World) (a o n s : Int) (W : World) : Prop where
  below : Below w.heap.size w W
  h0 : W.heap[w.heap.size]? = some (.cells #[.int .i64 a, .int .i64 o, .int .i64 n, .int .i64 s] 159 (0, 0))
  h1 : W.heap[w.heap.size + 1]? = some (.cells #[.int .i64 0, .bool false, .bool false, .int .i64 0, .int .i64 0] 90 (0, 0))
/-- a place of the call's own -/
def PA (w : World) (B : Nat) (x0 x1 x2 x3 x4 : Value) (W : World) : Prop := w.heap.size + 1 + 1 ≤ B ∧ W.heap[B]? = some (.cells #[x0, x1, x2, x3, x4] 90 (0, 0))
section
variable {w W W' : World} {a o n s : Int} {B : Nat} {x0 x1 x2 x3 x4 : Value}
theorem lt_some {W : World} {o : Obj} {k : Nat} (h : W.heap[k]? = some o) : k < W.heap.size := (Array.getElem?_eq_some_iff.1 h).1
theorem TS.size (h : TS w a o n s W) : w.heap.size + 1 + 1 ≤ W.heap.size := by have := lt_some h.h1; omega
theorem TS.stepAt (h : TS w a o n s W) {k : Nat} (hb : Below k W W') (hk : w.heap.size + 1 + 1 ≤ k) : TS w a o n s W' :=
  ⟨h.below.trans (hb.mono (by omega)), by rw [hb.block _ (by omega)]; exact h.h0, by rw [hb.block _ (by omega)]; exact h.h1⟩
theorem TS.step (h : TS w a o n s W) (hb : Below W.heap.size W W') : TS w a o n s W' := h.stepAt hb h.size
theorem TS.cells (h : TS w a o n s W) : W.cell? ⟨w.heap.size, 0, none⟩ = some (.int .i64 a) ∧ W.cell? ⟨w.heap.size, 1, none⟩ = some (.int .i64 o) ∧ W.cell? ⟨w.heap.size, 2, none⟩ = some (.int .i64 n) ∧ W.cell? ⟨w.heap.size, 3, none⟩ = some (.int .i64 s) := by
  refine ⟨?_, ?_, ?_, ?_⟩
  all_goals simp [World.cell?, h.h0]
theorem TS.hold (h : TS w a o n s W) : W.cell? ⟨w.heap.size, 0, none⟩ = some (.int .i64 a) ∧ W.cell? ⟨w.heap.size, 1, none⟩ = some (.int .i64 o) ∧ W.cell? ⟨w.heap.size, 2, none⟩ = some (.int .i64 n) ∧ W.cell? ⟨w.heap.size, 3, none⟩ = some (.int .i64 s) ∧ TS w a o n s W :=
  ⟨h.cells.1, h.cells.2.1, h.cells.2.2.1, h.cells.2.2.2, h⟩
theorem TS.drew (h : TS w a o n s W) : TS w a o n s W.drew := h.step (below_drewN (Below.refl _ _) 1)
theorem TS.made (w : World) (a o n s : Int) : TS w a o n s ((w.alloc (.cells #[.int .i64 a, .int .i64 o, .int .i64 n, .int .i64 s] 159)).alloc (.cells #[.int .i64 0, .bool false, .bool false, .int .i64 0, .int .i64 0] 90)) := by
  have n2 := heap_alloc_new (w.alloc (.cells #[.int .i64 a, .int .i64 o, .int .i64 n, .int .i64 s] 159)) (.cells #[.int .i64 0, .bool false, .bool false, .int .i64 0, .int .i64 0] 90)
  rw [show (w.alloc (.cells #[.int .i64 a, .int .i64 o, .int .i64 n, .int .i64 s] 159)).heap.size = w.heap.size + 1 by simp] at n2
  exact ⟨((Below.refl _ _).alloc (Nat.le_refl _) _).alloc (by simp) _, by rw [Below.heap_alloc _ _ _ (by simp), heap_alloc_new], n2⟩
theorem TS.res (h : TS w a o n s W) : W.cell? ⟨w.heap.size + 1, 0, none⟩ = some (.int .i64 0) ∧ W.cell? ⟨w.heap.size + 1, 1, none⟩ = some (.bool false) ∧ W.cell? ⟨w.heap.size + 1, 2, none⟩ = some (.bool false) ∧ W.cell? ⟨w.heap.size + 1, 3, none⟩ = some (.int .i64 0) ∧ W.cell? ⟨w.heap.size + 1, 4, none⟩ = some (.int .i64 0) ∧
    W.frozen? ⟨w.heap.size + 1, 0, none⟩ = false ∧ W.frozen? ⟨w.heap.size + 1, 1, none⟩ = false ∧ W.frozen? ⟨w.heap.size + 1, 2, none⟩ = false ∧ W.frozen? ⟨w.heap.size + 1, 3, none⟩ = false ∧ W.frozen? ⟨w.heap.size + 1, 4, none⟩ = false := by
  refine ⟨?_, ?_, ?_, ?_, ?_, ?_, ?_, ?_, ?_, ?_⟩
  all_goals first | (simp [World.cell?, h.h1]; done) | (simp [World.frozen?, h.h1]; done) | (simp [World.frozen?, h.h1]; omega)
theorem PA.new (W : World) (h : w.heap.size + 1 + 1 ≤ W.heap.size) : PA w W.heap.size (.int .i64 0) (.bool false) (.bool false) (.int .i64 0) (.int .i64 0) (W.alloc (.cells #[.int .i64 0, .bool false, .bool false, .int .i64 0, .int .i64 0] 90)) := ⟨h, heap_alloc_new W _⟩
theorem PA.step (h : PA w B x0 x1 x2 x3 x4 W) (hb : Below W.heap.size W W') : PA w B x0 x1 x2 x3 x4 W' := ⟨h.1, by rw [hb.block _ (lt_some h.2)]; exact h.2⟩
theorem PA.cells (h : PA w B x0 x1 x2 x3 x4 W) : W.cell? ⟨B, 0, none⟩ = some x0 ∧ W.cell? ⟨B, 1, none⟩ = some x1 ∧ W.cell? ⟨B, 2, none⟩ = some x2 ∧ W.cell? ⟨B, 3, none⟩ = some x3 ∧ W.cell? ⟨B, 4, none⟩ = some x4 ∧
    W.frozen? ⟨B, 0, none⟩ = false ∧ W.frozen? ⟨B, 1, none⟩ = false ∧ W.frozen? ⟨B, 2, none⟩ = false ∧ W.frozen? ⟨B, 3, none⟩ = false ∧ W.frozen? ⟨B, 4, none⟩ = false := by
  refine ⟨?_, ?_, ?_, ?_, ?_, ?_, ?_, ?_, ?_, ?_⟩
  all_goals first | (simp [World.cell?, h.2]; done) | (simp [World.frozen?, h.2]; done) | (simp [World.frozen?, h.2]; omega)
/-- five stores into a place -/
def put5 (W : World) (B : Nat) (y0 y1 y2 y3 y4 : Value) : World := ((((W.setCell ⟨B, 0, none⟩ y0).setCell ⟨B, 1, none⟩ y1).setCell ⟨B, 2, none⟩ y2).setCell ⟨B, 3, none⟩ y3).setCell ⟨B, 4, none⟩ y4
theorem five {h : Nat} {W : World} {x0 x1 x2 x3 x4 : Value} {t : TypeId} (e : W.heap[h]? = some (.cells #[x0, x1, x2, x3, x4] t (0, 0))) : W.cell? ⟨h, 0, none⟩ = some x0 ∧ W.cell? ⟨h, 1, none⟩ = some x1 ∧ W.cell? ⟨h, 2, none⟩ = some x2 ∧ W.cell? ⟨h, 3, none⟩ = some x3 ∧ W.cell? ⟨h, 4, none⟩ = some x4 := by
  refine ⟨?_, ?_, ?_, ?_, ?_⟩
  all_goals simp [World.cell?, e]
theorem put5_other (W : World) (B k : Nat) (y0 y1 y2 y3 y4 : Value) (h : k ≠ B) : (put5 W B y0 y1 y2 y3 y4).heap[k]? = W.heap[k]? := by
  unfold put5
  rw [Below.heap_setCell _ _ _ _ h, Below.heap_setCell _ _ _ _ h, Below.heap_setCell _ _ _ _ h, Below.heap_setCell _ _ _ _ h, Below.heap_setCell _ _ _ _ h]
theorem put5_below {k : Nat} (hb : Below k w W) (hB : k ≤ B) (y0 y1 y2 y3 y4 : Value) : Below k w (put5 W B y0 y1 y2 y3 y4) :=
  ((((hb.setCell (p := ⟨B, 0, none⟩) hB _).setCell (p := ⟨B, 1, none⟩) hB _).setCell (p := ⟨B, 2, none⟩) hB _).setCell (p := ⟨B, 3, none⟩) hB _).setCell (p := ⟨B, 4, none⟩) hB _
theorem put5_same (h : W.heap[B]? = some (.cells #[x0, x1, x2, x3, x4] 90 (0, 0))) (y0 y1 y2 y3 y4 : Value) : (put5 W B y0 y1 y2 y3 y4).heap[B]? = some (.cells #[y0, y1, y2, y3, y4] 90 (0, 0)) := by
  unfold put5
  simp [World.setCell, Array.getElem?_modify, h]
def PT (w : World) (a o n s : Int) (B : Nat) (p : Pl) (W : World) : Prop := TS w a o n s W ∧ PA w B (.int .i64 p.pos) (.bool p.gone) (.bool p.inside) (.int .i64 p.rng) (.int .i64 p.off) W
theorem PT.made (h : TS w a o n s W) (h' : PA w B x0 x1 x2 x3 x4 W) (z : Int) (g i : Bool) (r f : Int) : PT w a o n s B ⟨z, g, i, r, f⟩ (put5 W B (.int .i64 z) (.bool g) (.bool i) (.int .i64 r) (.int .i64 f)) :=
  ⟨⟨put5_below h.below (by have := h'.1; omega) _ _ _ _ _, by rw [put5_other _ _ _ _ _ _ _ _ (by have := h'.1; omega)]; exact h.h0, by rw [put5_other _ _ _ _ _ _ _ _ (by have := h'.1; omega)]; exact h.h1⟩, h'.1, put5_same h'.2 _ _ _ _ _⟩
theorem PT.alloc (h : TS w a o n s W) (z : Int) (g i : Bool) (r f : Int) : PT w a o n s W.heap.size ⟨z, g, i, r, f⟩ (W.alloc (.cells #[.int .i64 z, .bool g, .bool i, .int .i64 r, .int .i64 f] 90)) :=
  ⟨h.step ((Below.refl _ _).alloc (Nat.le_refl _) _), h.size, heap_alloc_new W _⟩
theorem PT.step {p : Pl} (h : PT w a o n s B p W) (hb : Below W.heap.size W W') : PT w a o n s B p W' := ⟨h.1.step hb, h.2.step hb⟩
end

set_option maxHeartbeats 1000000 in
theorem tell_any (r : Rg) (s pos side : Int) (i : Nat) (hr : r.fits) (hs : far s) (hi : i ≤ 1000) (hp : 0 ≤ pos ∧ pos ≤ 1099511627776) (w : World) :
    Calls Try.prog 93 #[shV r s, .int .i64 i, .int .i64 pos, .int .i64 side] w fun e w' => e = .returned (plV (tellR r s i pos side)) ∧ Below w.heap.size w w' := by
  have CT := fun W => to_any r s pos side hr hs W
  have CE : ∀ W, Calls Try.prog 91 #[shV r s] W fun e w' => e = .returned (.int .i64 (r.at_ + r.old)) ∧ Below W.heap.size W w' := fun W => (end_any r s hr W).mono (by rintro e w' ⟨h1, rfl⟩; exact ⟨h1, (Below.refl _ _).alloc (Nat.le_refl _) _⟩)
  have CH := fun W => has_any r s pos side hr W
  obtain ⟨z, hz⟩ : ∃ z, z = toI r s pos side := ⟨_, rfl⟩
  obtain ⟨g, hg⟩ : ∃ g, g = goneB r pos side := ⟨_, rfl⟩
  obtain ⟨hin, hhin⟩ : ∃ q, q = insideB r pos := ⟨_, rfl⟩
  obtain ⟨PL, hPL⟩ : ∃ p, p = tellR r s i pos side := ⟨_, rfl⟩
  rw [← hz] at CT
  rw [← hg] at CH
  rw [← hPL]
  have HPL : Hid (PL = if g = true then ⟨z, true, hin, i, pos - r.at_⟩ else ⟨z, false, hin, 0, 0⟩) := Lib.hid (by rw [hPL, tellR, ← hz, ← hg, ← hhin])
  have HIN : Hid (hin = (decide (r.at_ < pos) && decide (pos < r.at_ + r.old))) := Lib.hid (by rw [hhin]; rfl)
  clear hz hg hhin hPL
  obtain ⟨a, o, n⟩ := r
  unfold Rg.fits at hr
  unfold far at hs
  unfold shV at *
  simp only at CT CE CH HPL HIN hr ⊢
  have HT0 := Lib.hid (TS.made w a o n s)
  go_enter Try.func93, Try.ntmps93
  go_upto_region 1 with fail
  generalize (w.alloc (.cells #[.int .i64 a, .int .i64 o, .int .i64 n, .int .i64 s] 159)).alloc (.cells #[.int .i64 0, .bool false, .bool false, .int .i64 0, .int .i64 0] 90) = W0 at HT0 ⊢
  have HT := Lib.hid HT0.out.drew
  go_cut [9] from 10 to 25 (fun v wx => ∃ B, v = .pointer (some ⟨B, 0, none⟩) ∧ Hid (PT w a o n s B ⟨z, false, hin, 0, 0⟩ wx))
  case first =>
    clear CH HPL
    by_cases hg : a < pos
    · have hin' : hin = decide (pos < a + o) := by rw [HIN.out]; simp [hg]
      clear HIN
      subst hin'
      refine wp_region_held_drew (S := (fun W => W.cell? ⟨w.heap.size, 0, none⟩ = some (.int .i64 a) ∧ W.cell? ⟨w.heap.size, 1, none⟩ = some (.int .i64 o) ∧ W.cell? ⟨w.heap.size, 2, none⟩ = some (.int .i64 n) ∧ W.cell? ⟨w.heap.size, 3, none⟩ = some (.int .i64 s) ∧ TS w a o n s W)) (by kernel_rfl) HT.out.hold (fun hHeld => ?_)
      generalize W0.drew = W1 at HT hHeld ⊢
      clear HT0
      refine tk 0 (v := ?_) rfl (by kernel_rfl) (fun _ _ _ h => h) ?_ hHeld ?_
      rotate_left
      · (intro W hSw; (try dsimp only at hSw); go_simp; try with_reducible rfl)
      refine tk 1 (v := ?_) rfl (by kernel_rfl) (fun _ _ _ h => h) ?_ hHeld ?_
      rotate_left
      · (intro W hSw; (try dsimp only at hSw); go_simp; try with_reducible rfl)
      refine tk 2 (v := ?_) rfl (by kernel_rfl) (fun _ _ _ h => h) ?_ hHeld ?_
      rotate_left
      · (intro W hSw; (try dsimp only at hSw); go_simp; try with_reducible rfl)
      refine tk 4 (v := ?_) rfl (by kernel_rfl) (fun _ _ _ h => h) ?_ hHeld ?_
      rotate_left
      · (intro W hSw; (try dsimp only at hSw); go_simp; try with_reducible rfl)
      refine tk 5 (v := ?_) rfl (by kernel_rfl) (fun _ _ _ h => h) ?_ hHeld ?_
      rotate_left
      · (intro W hSw; (try dsimp only at hSw); go_simp; try with_reducible rfl)
      refine tk 6 (v := ?_) rfl (by kernel_rfl) (fun _ _ _ h => h) ?_ hHeld ?_
      rotate_left
      · (intro W hSw; (try dsimp only at hSw); go_simp; try with_reducible rfl)
      refine tk 7 (v := ?_) rfl (by kernel_rfl) (fun _ _ _ h => h) ?_ hHeld ?_
      rotate_left
      · (intro W hSw; (try dsimp only at hSw); go_simp; try with_reducible rfl)
      refine tk 8 (v := ?_) rfl (by kernel_rfl) (fun _ _ _ h => h) ?_ hHeld ?_
      rotate_left
      · (intro W hSw; (try dsimp only at hSw); go_simp; try with_reducible rfl)
      refine wpAnyH_ready (rs := [3, 16]) (by kernel_rfl) (by simp) ?_
      refine AllReadyH.cons rfl (fun K hK => ?_) (AllReadyH.cons rfl (fun K hK => ?_) AllReadyH.nil)
      · go_simp
        go_at_call 108
        refine (CT _).mono ?_
        rintro e w1 ⟨rfl, hb1⟩
        have HT1 := Lib.hid (HT.out.step hb1)
        go_wp2_with fail
        refine hK.out _ _ HT1.out.hold (fun hHeld => ?_)
        clear hK K HT hb1
        have HT := HT1
        clear HT1
        refine tk 9 (v := ?_) rfl (by kernel_rfl) (fun _ _ _ h => h) ?_ hHeld ?_
        rotate_left
        · (intro W hSw; (try dsimp only at hSw); go_simp; try with_reducible rfl)
        refine tk 10 (v := ?_) rfl (by kernel_rfl) (fun _ _ _ h => h) ?_ hHeld ?_
        rotate_left
        · (intro W hSw; (try dsimp only at hSw); go_simp; try with_reducible rfl)
        refine tk 11 (v := ?_) rfl (by kernel_rfl) (fun _ _ _ h => h) ?_ hHeld ?_
        rotate_left
        · (intro W hSw; (try dsimp only at hSw); go_simp; try with_reducible rfl)
        refine wpAnyH_ready (rs := [12, 16]) (by kernel_rfl) (by simp) ?_
        refine AllReadyH.cons rfl (fun K hK => ?_) (AllReadyH.cons rfl (fun K hK => ?_) AllReadyH.nil)
        · go_simp
          go_at_call 91
          refine (CE _).mono ?_
          rintro e w2 ⟨rfl, hb2⟩
          have HT2 := Lib.hid (HT.out.step hb2)
          go_wp2_with fail
          refine hK.out _ _ HT2.out.hold (fun hHeld => ?_)
          clear hK K HT hb2
          have HT := HT2
          clear HT2
          refine tk 13 (v := ?_) rfl (by kernel_rfl) (fun _ _ _ h => h) ?_ hHeld ?_
          rotate_left
          · (intro W hSw; (try dsimp only at hSw); go_simp; try with_reducible rfl)
          refine tk 14 (v := ?_) rfl (by kernel_rfl) (fun _ _ _ h => h) ?_ hHeld ?_
          rotate_left
          · (intro W hSw; (try dsimp only at hSw); go_simp; try with_reducible rfl)
          refine tk 15 (v := ?_) rfl (by kernel_rfl) (fun _ _ _ h => h) ?_ hHeld ?_
          rotate_left
          · (intro W hSw; (try dsimp only at hSw); go_simp; try with_reducible rfl)
          refine wpAnyH_ready (rs := [16]) (by kernel_rfl) (by simp) ?_
          refine AllReadyH.cons rfl (fun K hK => ?_) AllReadyH.nil
          go_simp
          have HT3 := Lib.hid (HT.out.step ((Below.refl _ _).alloc (Nat.le_refl _) (.cells #[.int .i64 0, .bool false, .bool false, .int .i64 0, .int .i64 0] 90)))
          have HA3 := Lib.hid (PA.new _ HT.out.size)
          refine hK.out _ _ (HT3.out.hold) (fun hHeld => ?_)
          clear hK K
          have HTp := HT
          clear HT
          have HT := HT3
          have HA := HA3
          clear HT3 HA3
          refine wpAnyH_ready (rs := [17]) (by kernel_rfl) (by simp) ?_
          refine AllReadyH.cons rfl (fun K hK => ?_) AllReadyH.nil
          have hc := HA.out.cells
          have x0 := hc.1
          have x1 := hc.2.1
          have x2 := hc.2.2.1
          have x3 := hc.2.2.2.1
          have x4 := hc.2.2.2.2.1
          have y0 := hc.2.2.2.2.2.1
          have y1 := hc.2.2.2.2.2.2.1
          have y2 := hc.2.2.2.2.2.2.2.1
          have y3 := hc.2.2.2.2.2.2.2.2.1
          have y4 := hc.2.2.2.2.2.2.2.2.2
          clear hc
          go_simp
          have HP := Lib.hid (PT.alloc HTp.out z false (decide (pos < a + o)) 0 0)
          refine hK.out _ _ HP.out.1.hold (fun hHeld => ?_)
          clear hK K x0 x1 x2 x3 x4 y0 y1 y2 y3 y4
          refine wpAnyH_done (by kernel_rfl) ?_ _
          go_wp2_with fail
          go_meet
          refine ⟨_, rfl, ?_⟩
          exact HP
        · go_simp
          have HT4 := Lib.hid (HT.out.step ((Below.refl _ _).alloc (Nat.le_refl _) (.cells #[.int .i64 0, .bool false, .bool false, .int .i64 0, .int .i64 0] 90)))
          have HA4 := Lib.hid (PA.new _ HT.out.size)
          refine hK.out _ _ (HT4.out.hold) (fun hHeld => ?_)
          clear hK K
          have HTp := HT
          clear HT
          have HT := HT4
          have HA := HA4
          clear HT4 HA4
          clear HTp
          refine wpAnyH_ready (rs := [12]) (by kernel_rfl) (by simp) ?_
          refine AllReadyH.cons rfl (fun K hK => ?_) AllReadyH.nil
          go_simp
          go_at_call 91
          refine (CE _).mono ?_
          rintro e w5 ⟨rfl, hb5⟩
          have HT5 := Lib.hid (HT.out.step hb5)
          have HA5 := Lib.hid (HA.out.step hb5)
          go_wp2_with fail
          refine hK.out _ _ HT5.out.hold (fun hHeld => ?_)
          clear hK K HT hb5
          have HT := HT5
          clear HT5
          clear HA
          have HA := HA5
          clear HA5
          refine tk 13 (v := ?_) rfl (by kernel_rfl) (fun _ _ _ h => h) ?_ hHeld ?_
          rotate_left
          · (intro W hSw; (try dsimp only at hSw); go_simp; try with_reducible rfl)
          refine tk 14 (v := ?_) rfl (by kernel_rfl) (fun _ _ _ h => h) ?_ hHeld ?_
          rotate_left
          · (intro W hSw; (try dsimp only at hSw); go_simp; try with_reducible rfl)
          refine tk 15 (v := ?_) rfl (by kernel_rfl) (fun _ _ _ h => h) ?_ hHeld ?_
          rotate_left
          · (intro W hSw; (try dsimp only at hSw); go_simp; try with_reducible rfl)
          refine wpAnyH_ready (rs := [17]) (by kernel_rfl) (by simp) ?_
          refine AllReadyH.cons rfl (fun K hK => ?_) AllReadyH.nil
          have hc := HA.out.cells
          have x0 := hc.1
          have x1 := hc.2.1
          have x2 := hc.2.2.1
          have x3 := hc.2.2.2.1
          have x4 := hc.2.2.2.2.1
          have y0 := hc.2.2.2.2.2.1
          have y1 := hc.2.2.2.2.2.2.1
          have y2 := hc.2.2.2.2.2.2.2.1
          have y3 := hc.2.2.2.2.2.2.2.2.1
          have y4 := hc.2.2.2.2.2.2.2.2.2
          clear hc
          go_simp
          have HP := Lib.hid (PT.made HT.out HA.out z false (decide (pos < a + o)) 0 0)
          refine hK.out _ _ HP.out.1.hold (fun hHeld => ?_)
          clear hK K x0 x1 x2 x3 x4 y0 y1 y2 y3 y4
          refine wpAnyH_done (by kernel_rfl) ?_ _
          go_wp2_with fail
          go_meet
          refine ⟨_, rfl, ?_⟩
          exact HP
      · go_simp
        have HT6 := Lib.hid (HT.out.step ((Below.refl _ _).alloc (Nat.le_refl _) (.cells #[.int .i64 0, .bool false, .bool false, .int .i64 0, .int .i64 0] 90)))
        have HA6 := Lib.hid (PA.new _ HT.out.size)
        refine hK.out _ _ (HT6.out.hold) (fun hHeld => ?_)
        clear hK K
        have HTp := HT
        clear HT
        have HT := HT6
        have HA := HA6
        clear HT6 HA6
        clear HTp
        refine wpAnyH_ready (rs := [3]) (by kernel_rfl) (by simp) ?_
        refine AllReadyH.cons rfl (fun K hK => ?_) AllReadyH.nil
        go_simp
        go_at_call 108
        refine (CT _).mono ?_
        rintro e w7 ⟨rfl, hb7⟩
        have HT7 := Lib.hid (HT.out.step hb7)
        have HA7 := Lib.hid (HA.out.step hb7)
        go_wp2_with fail
        refine hK.out _ _ HT7.out.hold (fun hHeld => ?_)
        clear hK K HT hb7
        have HT := HT7
        clear HT7
        clear HA
        have HA := HA7
        clear HA7
        refine tk 9 (v := ?_) rfl (by kernel_rfl) (fun _ _ _ h => h) ?_ hHeld ?_
        rotate_left
        · (intro W hSw; (try dsimp only at hSw); go_simp; try with_reducible rfl)
        refine tk 10 (v := ?_) rfl (by kernel_rfl) (fun _ _ _ h => h) ?_ hHeld ?_
        rotate_left
        · (intro W hSw; (try dsimp only at hSw); go_simp; try with_reducible rfl)
        refine tk 11 (v := ?_) rfl (by kernel_rfl) (fun _ _ _ h => h) ?_ hHeld ?_
        rotate_left
        · (intro W hSw; (try dsimp only at hSw); go_simp; try with_reducible rfl)
        refine wpAnyH_ready (rs := [12]) (by kernel_rfl) (by simp) ?_
        refine AllReadyH.cons rfl (fun K hK => ?_) AllReadyH.nil
        go_simp
        go_at_call 91
        refine (CE _).mono ?_
        rintro e w8 ⟨rfl, hb8⟩
        have HT8 := Lib.hid (HT.out.step hb8)
        have HA8 := Lib.hid (HA.out.step hb8)
        go_wp2_with fail
        refine hK.out _ _ HT8.out.hold (fun hHeld => ?_)
        clear hK K HT hb8
        have HT := HT8
        clear HT8
        clear HA
        have HA := HA8
        clear HA8
        refine tk 13 (v := ?_) rfl (by kernel_rfl) (fun _ _ _ h => h) ?_ hHeld ?_
        rotate_left
        · (intro W hSw; (try dsimp only at hSw); go_simp; try with_reducible rfl)
        refine tk 14 (v := ?_) rfl (by kernel_rfl) (fun _ _ _ h => h) ?_ hHeld ?_
        rotate_left
        · (intro W hSw; (try dsimp only at hSw); go_simp; try with_reducible rfl)
        refine tk 15 (v := ?_) rfl (by kernel_rfl) (fun _ _ _ h => h) ?_ hHeld ?_
        rotate_left
        · (intro W hSw; (try dsimp only at hSw); go_simp; try with_reducible rfl)
        refine wpAnyH_ready (rs := [17]) (by kernel_rfl) (by simp) ?_
        refine AllReadyH.cons rfl (fun K hK => ?_) AllReadyH.nil
        have hc := HA.out.cells
        have x0 := hc.1
        have x1 := hc.2.1
        have x2 := hc.2.2.1
        have x3 := hc.2.2.2.1
        have x4 := hc.2.2.2.2.1
        have y0 := hc.2.2.2.2.2.1
        have y1 := hc.2.2.2.2.2.2.1
        have y2 := hc.2.2.2.2.2.2.2.1
        have y3 := hc.2.2.2.2.2.2.2.2.1
        have y4 := hc.2.2.2.2.2.2.2.2.2
        clear hc
        go_simp
        have HP := Lib.hid (PT.made HT.out HA.out z false (decide (pos < a + o)) 0 0)
        refine hK.out _ _ HP.out.1.hold (fun hHeld => ?_)
        clear hK K x0 x1 x2 x3 x4 y0 y1 y2 y3 y4
        refine wpAnyH_done (by kernel_rfl) ?_ _
        go_wp2_with fail
        go_meet
        refine ⟨_, rfl, ?_⟩
        exact HP
    · have hin' : hin = false := by rw [HIN.out]; simp; omega
      clear HIN
      subst hin'
      refine wp_region_held_drew (S := (fun W => W.cell? ⟨w.heap.size, 0, none⟩ = some (.int .i64 a) ∧ W.cell? ⟨w.heap.size, 1, none⟩ = some (.int .i64 o) ∧ W.cell? ⟨w.heap.size, 2, none⟩ = some (.int .i64 n) ∧ W.cell? ⟨w.heap.size, 3, none⟩ = some (.int .i64 s) ∧ TS w a o n s W)) (by kernel_rfl) HT.out.hold (fun hHeld => ?_)
      generalize W0.drew = W1 at HT hHeld ⊢
      clear HT0
      refine tk 0 (v := ?_) rfl (by kernel_rfl) (fun _ _ _ h => h) ?_ hHeld ?_
      rotate_left
      · (intro W hSw; (try dsimp only at hSw); go_simp; try with_reducible rfl)
      refine tk 1 (v := ?_) rfl (by kernel_rfl) (fun _ _ _ h => h) ?_ hHeld ?_
      rotate_left
      · (intro W hSw; (try dsimp only at hSw); go_simp; try with_reducible rfl)
      refine tk 2 (v := ?_) rfl (by kernel_rfl) (fun _ _ _ h => h) ?_ hHeld ?_
      rotate_left
      · (intro W hSw; (try dsimp only at hSw); go_simp; try with_reducible rfl)
      refine tk 4 (v := ?_) rfl (by kernel_rfl) (fun _ _ _ h => h) ?_ hHeld ?_
      rotate_left
      · (intro W hSw; (try dsimp only at hSw); go_simp; try with_reducible rfl)
      refine tk 5 (v := ?_) rfl (by kernel_rfl) (fun _ _ _ h => h) ?_ hHeld ?_
      rotate_left
      · (intro W hSw; (try dsimp only at hSw); go_simp; try with_reducible rfl)
      refine tk 6 (v := ?_) rfl (by kernel_rfl) (fun _ _ _ h => h) ?_ hHeld ?_
      rotate_left
      · (intro W hSw; (try dsimp only at hSw); go_simp; try with_reducible rfl)
      refine tk 7 (v := ?_) rfl (by kernel_rfl) (fun _ _ _ h => h) ?_ hHeld ?_
      rotate_left
      · (intro W hSw; (try dsimp only at hSw); go_simp; try with_reducible rfl)
      refine tk 8 (v := ?_) rfl (by kernel_rfl) (fun _ _ _ h => h) ?_ hHeld ?_
      rotate_left
      · (intro W hSw; (try dsimp only at hSw); go_simp; try with_reducible rfl)
      refine wpAnyH_ready (rs := [3, 16]) (by kernel_rfl) (by simp) ?_
      refine AllReadyH.cons rfl (fun K hK => ?_) (AllReadyH.cons rfl (fun K hK => ?_) AllReadyH.nil)
      · go_simp
        go_at_call 108
        refine (CT _).mono ?_
        rintro e w9 ⟨rfl, hb9⟩
        have HT9 := Lib.hid (HT.out.step hb9)
        go_wp2_with fail
        refine hK.out _ _ HT9.out.hold (fun hHeld => ?_)
        clear hK K HT hb9
        have HT := HT9
        clear HT9
        refine tk 9 (v := ?_) rfl (by kernel_rfl) (fun _ _ _ h => h) ?_ hHeld ?_
        rotate_left
        · (intro W hSw; (try dsimp only at hSw); go_simp; try with_reducible rfl)
        refine tkno 10 rfl (by kernel_rfl) (fun _ _ _ h => h) hHeld ?_
        refine tkno 11 rfl (by kernel_rfl) (fun _ _ _ h => h) hHeld ?_
        refine tkno 12 rfl (by kernel_rfl) (fun _ _ _ h => h) hHeld ?_
        refine tkno 13 rfl (by kernel_rfl) (fun _ _ _ h => h) hHeld ?_
        refine tk 14 (v := ?_) rfl (by kernel_rfl) (fun _ _ _ h => h) ?_ hHeld ?_
        rotate_left
        · (intro W hSw; (try dsimp only at hSw); go_simp; try with_reducible rfl)
        refine tk 15 (v := ?_) rfl (by kernel_rfl) (fun _ _ _ h => h) ?_ hHeld ?_
        rotate_left
        · (intro W hSw; (try dsimp only at hSw); go_simp; try with_reducible rfl)
        refine wpAnyH_ready (rs := [16]) (by kernel_rfl) (by simp) ?_
        refine AllReadyH.cons rfl (fun K hK => ?_) AllReadyH.nil
        go_simp
        have HT10 := Lib.hid (HT.out.step ((Below.refl _ _).alloc (Nat.le_refl _) (.cells #[.int .i64 0, .bool false, .bool false, .int .i64 0, .int .i64 0] 90)))
        have HA10 := Lib.hid (PA.new _ HT.out.size)
        refine hK.out _ _ (HT10.out.hold) (fun hHeld => ?_)
        clear hK K
        have HTp := HT
        clear HT
        have HT := HT10
        have HA := HA10
        clear HT10 HA10
        refine wpAnyH_ready (rs := [17]) (by kernel_rfl) (by simp) ?_
        refine AllReadyH.cons rfl (fun K hK => ?_) AllReadyH.nil
        have hc := HA.out.cells
        have x0 := hc.1
        have x1 := hc.2.1
        have x2 := hc.2.2.1
        have x3 := hc.2.2.2.1
        have x4 := hc.2.2.2.2.1
        have y0 := hc.2.2.2.2.2.1
        have y1 := hc.2.2.2.2.2.2.1
        have y2 := hc.2.2.2.2.2.2.2.1
        have y3 := hc.2.2.2.2.2.2.2.2.1
        have y4 := hc.2.2.2.2.2.2.2.2.2
        clear hc
        go_simp
        have HP := Lib.hid (PT.alloc HTp.out z false false 0 0)
        refine hK.out _ _ HP.out.1.hold (fun hHeld => ?_)
        clear hK K x0 x1 x2 x3 x4 y0 y1 y2 y3 y4
        refine wpAnyH_done (by kernel_rfl) ?_ _
        go_wp2_with fail
        go_meet
        refine ⟨_, rfl, ?_⟩
        exact HP
      · go_simp
        have HT11 := Lib.hid (HT.out.step ((Below.refl _ _).alloc (Nat.le_refl _) (.cells #[.int .i64 0, .bool false, .bool false, .int .i64 0, .int .i64 0] 90)))
        have HA11 := Lib.hid (PA.new _ HT.out.size)
        refine hK.out _ _ (HT11.out.hold) (fun hHeld => ?_)
        clear hK K
        have HTp := HT
        clear HT
        have HT := HT11
        have HA := HA11
        clear HT11 HA11
        clear HTp
        refine wpAnyH_ready (rs := [3]) (by kernel_rfl) (by simp) ?_
        refine AllReadyH.cons rfl (fun K hK => ?_) AllReadyH.nil
        go_simp
        go_at_call 108
        refine (CT _).mono ?_
        rintro e w12 ⟨rfl, hb12⟩
        have HT12 := Lib.hid (HT.out.step hb12)
        have HA12 := Lib.hid (HA.out.step hb12)
        go_wp2_with fail
        refine hK.out _ _ HT12.out.hold (fun hHeld => ?_)
        clear hK K HT hb12
        have HT := HT12
        clear HT12
        clear HA
        have HA := HA12
        clear HA12
        refine tk 9 (v := ?_) rfl (by kernel_rfl) (fun _ _ _ h => h) ?_ hHeld ?_
        rotate_left
        · (intro W hSw; (try dsimp only at hSw); go_simp; try with_reducible rfl)
        refine tkno 10 rfl (by kernel_rfl) (fun _ _ _ h => h) hHeld ?_
        refine tkno 11 rfl (by kernel_rfl) (fun _ _ _ h => h) hHeld ?_
        refine tkno 12 rfl (by kernel_rfl) (fun _ _ _ h => h) hHeld ?_
        refine tkno 13 rfl (by kernel_rfl) (fun _ _ _ h => h) hHeld ?_
        refine tk 14 (v := ?_) rfl (by kernel_rfl) (fun _ _ _ h => h) ?_ hHeld ?_
        rotate_left
        · (intro W hSw; (try dsimp only at hSw); go_simp; try with_reducible rfl)
        refine tk 15 (v := ?_) rfl (by kernel_rfl) (fun _ _ _ h => h) ?_ hHeld ?_
        rotate_left
        · (intro W hSw; (try dsimp only at hSw); go_simp; try with_reducible rfl)
        refine wpAnyH_ready (rs := [17]) (by kernel_rfl) (by simp) ?_
        refine AllReadyH.cons rfl (fun K hK => ?_) AllReadyH.nil
        have hc := HA.out.cells
        have x0 := hc.1
        have x1 := hc.2.1
        have x2 := hc.2.2.1
        have x3 := hc.2.2.2.1
        have x4 := hc.2.2.2.2.1
        have y0 := hc.2.2.2.2.2.1
        have y1 := hc.2.2.2.2.2.2.1
        have y2 := hc.2.2.2.2.2.2.2.1
        have y3 := hc.2.2.2.2.2.2.2.2.1
        have y4 := hc.2.2.2.2.2.2.2.2.2
        clear hc
        go_simp
        have HP := Lib.hid (PT.made HT.out HA.out z false false 0 0)
        refine hK.out _ _ HP.out.1.hold (fun hHeld => ?_)
        clear hK K x0 x1 x2 x3 x4 y0 y1 y2 y3 y4
        refine wpAnyH_done (by kernel_rfl) ?_ _
        go_wp2_with fail
        go_meet
        refine ⟨_, rfl, ?_⟩
        exact HP
  case rest =>
    obtain ⟨B, rfl, HP⟩ := hcut
    clear HT HT0 CT CE HIN
    have hB := HP.out.2.1
    have hc := HP.out.1.cells
    have b0 := hc.1
    have b1 := hc.2.1
    have b2 := hc.2.2.1
    have b3 := hc.2.2.2
    clear hc
    go_wp2_with fail
    refine (CH _).mono ?_
    rintro e w1 ⟨rfl, hb1⟩
    clear CH b0 b1 b2 b3
    have HP1 := Lib.hid (HP.out.step hb1)
    clear hb1 HP
    have hc := HP1.out.1.cells
    have b0 := hc.1
    have b1 := hc.2.1
    have b2 := hc.2.2.1
    have b3 := hc.2.2.2
    clear hc
    have hc := HP1.out.2.cells
    have x0 := hc.1
    have x1 := hc.2.1
    have x2 := hc.2.2.1
    have x3 := hc.2.2.2.1
    have x4 := hc.2.2.2.2.1
    have y0 := hc.2.2.2.2.2.1
    have y1 := hc.2.2.2.2.2.2.1
    have y2 := hc.2.2.2.2.2.2.2.1
    have y3 := hc.2.2.2.2.2.2.2.2.1
    have y4 := hc.2.2.2.2.2.2.2.2.2
    clear hc
    have hc := HP1.out.1.res
    have r0 := hc.1
    have r1 := hc.2.1
    have r2 := hc.2.2.1
    have r3 := hc.2.2.2.1
    have r4 := hc.2.2.2.2.1
    have f0 := hc.2.2.2.2.2.1
    have f1 := hc.2.2.2.2.2.2.1
    have f2 := hc.2.2.2.2.2.2.2.1
    have f3 := hc.2.2.2.2.2.2.2.2.1
    have f4 := hc.2.2.2.2.2.2.2.2.2
    clear hc
    simp only at x0 x1 x2 x3 x4
    cases g with
    | true =>
      have e : PL = ⟨z, true, hin, i, pos - a⟩ := HPL.out
      clear HPL
      subst e
      go_wp2_with fail
      go_region
      all_goals (go_wp2_with fail)
      all_goals
        have hn : w.heap.size + 1 ≠ B := by omega
        have hF := five (put5_same (B := w.heap.size + 1) (W := ((w1.setCell ⟨B, 1, none⟩ (.bool true)).setCell ⟨B, 3, none⟩ (.int .i64 i)).setCell ⟨B, 4, none⟩ (.int .i64 (pos - a))) (by rw [Below.heap_setCell _ _ _ _ hn, Below.heap_setCell _ _ _ _ hn, Below.heap_setCell _ _ _ _ hn]; exact HP1.out.1.h1) (.int .i64 z) (.bool true) (.bool hin) (.int .i64 i) (.int .i64 (pos - a)))
        have q0 := hF.1
        have q1 := hF.2.1
        have q2 := hF.2.2.1
        have q3 := hF.2.2.2.1
        have q4 := hF.2.2.2.2
        clear hF
        have hB5 := put5_below (((HP1.out.1.below.setCell (p := ⟨B, 1, none⟩) (by simp; omega) (.bool true)).setCell (p := ⟨B, 3, none⟩) (by simp; omega) (.int .i64 i)).setCell (p := ⟨B, 4, none⟩) (by simp; omega) (.int .i64 (pos - a))) (B := w.heap.size + 1) (by simp) (.int .i64 z) (.bool true) (.bool hin) (.int .i64 i) (.int .i64 (pos - a))
        change bodyPost _ _ _ _ _ (put5 (((w1.setCell ⟨B, 1, none⟩ (.bool true)).setCell ⟨B, 3, none⟩ (.int .i64 i)).setCell ⟨B, 4, none⟩ (.int .i64 (pos - a))) (w.heap.size + 1) (.int .i64 z) (.bool true) (.bool hin) (.int .i64 i) (.int .i64 (pos - a))).drew
        generalize put5 (((w1.setCell ⟨B, 1, none⟩ (.bool true)).setCell ⟨B, 3, none⟩ (.int .i64 i)).setCell ⟨B, 4, none⟩ (.int .i64 (pos - a))) (w.heap.size + 1) (.int .i64 z) (.bool true) (.bool hin) (.int .i64 i) (.int .i64 (pos - a)) = W5 at *
        exact bodyPost_ret (v := .agg #[.int .i64 z, .bool true, .bool hin, .int .i64 i, .int .i64 (pos - a)]) (by simp [results, Try.results93, go_sem, q0, q1, q2, q3, q4]) rfl ⟨rfl, below_drewN hB5 1⟩
    | false =>
      have e : PL = ⟨z, false, hin, 0, 0⟩ := HPL.out
      clear HPL
      subst e
      go_wp2
      have hF := five (put5_same HP1.out.1.h1 (.int .i64 z) (.bool false) (.bool hin) (.int .i64 0) (.int .i64 0))
      have q0 := hF.1
      have q1 := hF.2.1
      have q2 := hF.2.2.1
      have q3 := hF.2.2.2.1
      have q4 := hF.2.2.2.2
      exact bodyPost_ret (v := .agg #[.int .i64 z, .bool false, .bool hin, .int .i64 0, .int .i64 0]) (by unfold put5 at q0 q1 q2 q3 q4; simp [results, Try.results93, go_sem, q0, q1, q2, q3, q4]) rfl ⟨rfl, put5_below HP1.out.1.below (by simp) _ _ _ _ _⟩
end Go.Proofs.Ytgodphfkhmahnaa.Sm
