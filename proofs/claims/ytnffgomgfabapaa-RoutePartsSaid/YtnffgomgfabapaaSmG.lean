/- Walk: the reference's Tell. -/
import Derived.Test.YtnffgomgfabapaaSmE
namespace Go.Proofs.Ytnffgomgfabapaa.Sm
open Go.RowKit Mem
set_option linter.unusedVariables false

def zeroPl : Pl := ⟨0, false, false, 0, 0⟩
def plO (p : Pl) (t : TypeId) : Obj := .cells #[.int .i64 p.pos, .bool p.gone, .bool p.inside, .int .i64 p.rng, .int .i64 p.off] t
theorem ten {h : Nat} {W : World} {x0 x1 x2 x3 x4 : Value} {t : TypeId} (e : W.heap[h]? = some (.cells #[x0, x1, x2, x3, x4] t (0, 0))) : W.cell? ⟨h, 0, none⟩ = some x0 ∧ W.cell? ⟨h, 1, none⟩ = some x1 ∧ W.cell? ⟨h, 2, none⟩ = some x2 ∧ W.cell? ⟨h, 3, none⟩ = some x3 ∧ W.cell? ⟨h, 4, none⟩ = some x4 ∧
    W.frozen? ⟨h, 0, none⟩ = false ∧ W.frozen? ⟨h, 1, none⟩ = false ∧ W.frozen? ⟨h, 2, none⟩ = false ∧ W.frozen? ⟨h, 3, none⟩ = false ∧ W.frozen? ⟨h, 4, none⟩ = false := by
  refine ⟨?_, ?_, ?_, ?_, ?_, ?_, ?_, ?_, ?_, ?_⟩
  all_goals first | (simp [World.cell?, e]; done) | (simp [World.frozen?, e]; done) | (simp [World.frozen?, e]; omega)
theorem put5_any {h : Nat} {W : World} {x0 x1 x2 x3 x4 : Value} {t : TypeId} (e : W.heap[h]? = some (.cells #[x0, x1, x2, x3, x4] t (0, 0))) (y0 y1 y2 y3 y4 : Value) : (put5 W h y0 y1 y2 y3 y4).heap[h]? = some (.cells #[y0, y1, y2, y3, y4] t (0, 0)) := by
  unfold put5
  simp [World.setCell, Array.getElem?_modify, e]
/-- what holds once the range is found: the answer's block, the place's, the range's -/
structure RT (w : World) (B C : Nat) (p : Pl) (r : Rg) (W : World) : Prop where
  below : Below w.heap.size w W
  h0 : W.heap[w.heap.size]? = some (.cells #[.int .i64 0, .bool false, .bool false, .int .i64 0, .int .i64 0] 48 (0, 0))
  h1 : W.heap[B]? = some (.cells #[.int .i64 p.pos, .bool p.gone, .bool p.inside, .int .i64 p.rng, .int .i64 p.off] 48 (0, 0))
  h2 : W.heap[C]? = some (.cells #[.int .i64 r.at_, .int .i64 r.old, .int .i64 r.new] 56 (0, 0))
  lt : w.heap.size < B ∧ B < C

section
variable {w W W' : World} {B C : Nat} {p : Pl} {r : Rg}
theorem RT.step (h : RT w B C p r W) (hb : Below W.heap.size W W') : RT w B C p r W' :=
  ⟨h.below.trans (hb.mono h.below.size), by rw [hb.block _ (lt_some h.h0)]; exact h.h0, by rw [hb.block _ (lt_some h.h1)]; exact h.h1, by rw [hb.block _ (lt_some h.h2)]; exact h.h2, h.lt⟩
theorem RT.drewN (h : RT w B C p r W) (q : Nat) : RT w B C p r (W.drewN q) := h.step (below_drewN (Below.refl _ _) q)
theorem RT.cells (h : RT w B C p r W) : W.cell? ⟨C, 0, none⟩ = some (.int .i64 r.at_) ∧ W.cell? ⟨C, 1, none⟩ = some (.int .i64 r.old) ∧ W.cell? ⟨C, 2, none⟩ = some (.int .i64 r.new) := by
  refine ⟨?_, ?_, ?_⟩
  all_goals simp [World.cell?, h.h2]
theorem RT.set (h : RT w B C p r W) (j : Nat) (v : Value) (p' : Pl) (e : (#[Value.int .i64 p.pos, .bool p.gone, .bool p.inside, .int .i64 p.rng, .int .i64 p.off] : Array Value).setIfInBounds j v = #[.int .i64 p'.pos, .bool p'.gone, .bool p'.inside, .int .i64 p'.rng, .int .i64 p'.off]) : RT w B C p' r (W.setCell ⟨B, j, none⟩ v) := by
  have hl := h.lt
  refine ⟨h.below.setCell (p := ⟨B, j, none⟩) (by simp; omega) _, ?_, ?_, ?_, hl⟩
  · rw [Below.heap_setCell _ _ _ _ (by simp; omega)]; exact h.h0
  · simp [World.setCell, Array.getElem?_modify, h.h1, e]
  · rw [Below.heap_setCell _ _ _ _ (by simp; omega)]; exact h.h2
theorem RT.made (h : Below w.heap.size w W) (h0 : W.heap[w.heap.size]? = some (.cells #[.int .i64 0, .bool false, .bool false, .int .i64 0, .int .i64 0] 48 (0, 0))) (p : Pl) (r : Rg) :
    RT w W.heap.size (W.heap.size + 1) p r ((W.alloc (.cells #[.int .i64 p.pos, .bool p.gone, .bool p.inside, .int .i64 p.rng, .int .i64 p.off] 48)).alloc (.cells #[.int .i64 r.at_, .int .i64 r.old, .int .i64 r.new] 56)) := by
  have n2 := heap_alloc_new (W.alloc (.cells #[.int .i64 p.pos, .bool p.gone, .bool p.inside, .int .i64 p.rng, .int .i64 p.off] 48)) (.cells #[.int .i64 r.at_, .int .i64 r.old, .int .i64 r.new] 56)
  rw [show (W.alloc (.cells #[.int .i64 p.pos, .bool p.gone, .bool p.inside, .int .i64 p.rng, .int .i64 p.off] 48)).heap.size = W.heap.size + 1 by simp] at n2
  have hl := lt_some h0
  have hs := h.size
  refine ⟨(h.alloc hs _).alloc (by simp; omega) _, ?_, ?_, n2, by omega, by omega⟩
  · rw [Below.heap_alloc _ _ _ (by simp; omega), Below.heap_alloc _ _ _ hl]; exact h0
  · rw [Below.heap_alloc _ _ _ (by simp), heap_alloc_new]
end

set_option maxHeartbeats 20000000 in
theorem rtell_any (l : List Rg) (A : Option Addr) (m c : Nat) (pos side : Int) (w : World) (hok : okTo l m) (hm : m ≤ 100) (hp : 0 ≤ pos ∧ pos ≤ 1099511627776) (hr : RLow w.heap.size w A m l) :
    Calls Try.prog 35 #[.slice A m c, .int .i64 pos, .int .i64 side] w fun e w' => e = .returned (plV (tell l pos side)) ∧ Below w.heap.size w w' := by
  have HR := Lib.hid hr
  have HL := Lib.hid hr.1
  have HOK := Lib.hid hok
  obtain ⟨PL, hPL⟩ : ∃ x, x = tell l pos side := ⟨_, rfl⟩
  rw [← hPL]
  have HP := Lib.hid hPL
  clear hr hok hPL
  go_enter Try.func35, Try.ntmps35
  go_wp2
  have H0 := heap_alloc_new w (.cells #[.int .i64 0, .bool false, .bool false, .int .i64 0, .int .i64 0] 48)
  have HB := Lib.hid ((Below.refl _ w).alloc (Nat.le_refl _) (.cells #[.int .i64 0, .bool false, .bool false, .int .i64 0, .int .i64 0] 48))
  have hsz : (w.alloc (.cells #[.int .i64 0, .bool false, .bool false, .int .i64 0, .int .i64 0] 48)).heap.size = w.heap.size + 1 := by simp
  have HSZ := Lib.hid hsz
  clear hsz
  generalize w.alloc (.cells #[.int .i64 0, .bool false, .bool false, .int .i64 0, .int .i64 0] 48) = W1 at *
  have H0' := Lib.hid H0
  have HR1 := Lib.hid (HR.out.below HB.out (Nat.le_refl _))
  clear H0
  go_loopw [7] (fun j wr => ∃ (i : Nat), i ≤ m ∧ j = .int .i64 i ∧ Hid (∀ j, j < i → (rg l j).at_ + (rg l j).old < pos) ∧ ∃ q, wr = W1.drewN q) (fun j _ => m - (intOf j).toNat)
  case atStart => exact ⟨0, by omega, rfl, Lib.hid (fun j h => absurd h (by omega)), 0, rfl⟩
  case round =>
    obtain ⟨i, hi, rfl, HE, q, rfl⟩ := hrel
    by_cases hlt : i < m
    · obtain ⟨b, off, rfl, hb, hc⟩ := HR.out.2 (by omega)
      have HC : Hid (∀ W, Below w.heap.size w W → W.cell? ⟨b, off + i * 3, none⟩ = some (.int .i64 (rg l i).at_) ∧ W.cell? ⟨b, off + i * 3 + 1, none⟩ = some (.int .i64 (rg l i).old) ∧ W.cell? ⟨b, off + i * 3 + 2, none⟩ = some (.int .i64 (rg l i).new)) :=
        Lib.hid (fun W hW => ((hc i hlt).keep fun p => hW.cell (p := ⟨b, p, none⟩) hb).cells)
      clear hc
      obtain ⟨c0, c1, c2⟩ := HC.out W1 HB.out
      have i1 : (0 : Int) ≤ (i : Int) := by omega
      have i2 : (i : Int) < (m : Int) := by omega
      have hf := (HOK.out i hlt).1
      by_cases hlow : (rg l i).at_ + (rg l i).old < pos
      · have N1 : Hid (∀ j, j < i + 1 → (rg l j).at_ + (rg l j).old < pos) := Lib.hid (fun j hj => by
          rcases Nat.lt_succ_iff_lt_or_eq.1 hj with h1 | rfl
          · exact HE.out j h1
          · exact hlow)
        unfold Rg.fits at hf
        generalize rg l i = r at *
        obtain ⟨a, o, n⟩ := r
        simp only at c0 c1 c2 hf hlow
        have hd : decide (a + o < pos) = true := decide_eq_true hlow
        go_wp2_with fail
        go_quiet (fail)
        go_wp2
        go_roundw
        case rel => exact ⟨i + 1, by omega, by go_num, N1, _, rfl⟩
        case measure => simp [intOf]; omega
      · have hd : decide ((rg l i).at_ + (rg l i).old < pos) = false := decide_eq_false hlow
        have hT := tell_eq (side := side) (by rw [HL.out]; omega) HE.out (fun _ => by omega)
        have hs := far_sh (HOK.out.mono (by omega) : okTo l i) (by omega)
        have CS := fun q => rshift_any w.heap.size l (some ⟨b, off, none⟩) m c i (W1.drewN q) HOK.out hm (by omega) (HR1.out.drewN q)
        unfold far at hs
        unfold Rg.fits at hf
        unfold tellAt at hT
        have hne : ¬ (i = l.length) := by rw [HL.out]; omega
        have hnm : ((i : Int) == (m : Int)) = false := by simp; omega
        generalize rg l i = r at *
        obtain ⟨z, hz⟩ : ∃ z, z = sh l i := ⟨_, rfl⟩
        rw [← hz] at CS hs hT
        have HZS := Lib.hid hz
        clear hz
        obtain ⟨a, o, n⟩ := r
        simp only at c0 c1 c2 hf hlow hd hT
        have ew : wrap64 (pos + z) = pos + z := by unfold wrap64; omega
        go_wp2_with fail
        go_quiet (fail)
        go_wp2_with fail
        refine (CS _).mono ?_
        rintro e W2 ⟨rfl, q', hq'⟩
        have HB2 : Hid (Below w.heap.size w W2) := Lib.hid (by rw [hq']; exact below_drewN (below_drewN HB.out _) _)
        have H2 : Hid (W2.heap[w.heap.size]? = some (.cells #[.int .i64 0, .bool false, .bool false, .int .i64 0, .int .i64 0] 48 (0, 0))) := Lib.hid (by rw [hq']; exact H0'.out)
        clear hq' HB H0' CS c0 c1 c2
        have HB3 := Lib.hid (HB2.out.alloc HB2.out.size (.cells #[.int .i64 (pos + z), .bool false, .bool false, .int .i64 0, .int .i64 0] 48))
        have H3 : Hid ((W2.alloc (.cells #[.int .i64 (pos + z), .bool false, .bool false, .int .i64 0, .int .i64 0] 48)).heap[w.heap.size]? = some (.cells #[.int .i64 0, .bool false, .bool false, .int .i64 0, .int .i64 0] 48 (0, 0))) := Lib.hid (by rw [Below.heap_alloc _ _ _ (lt_some H2.out)]; exact H2.out)
        have H3p : Hid ((W2.alloc (.cells #[.int .i64 (pos + z), .bool false, .bool false, .int .i64 0, .int .i64 0] 48)).heap[W2.heap.size]? = some (.cells #[.int .i64 (pos + z), .bool false, .bool false, .int .i64 0, .int .i64 0] 48 (0, 0))) := Lib.hid (heap_alloc_new _ _)
        obtain ⟨c0, c1, c2⟩ := HC.out _ HB3.out
        try simp only at c0 c1 c2
        have hc := ten H3.out
        have x0 := hc.1
        have x1 := hc.2.1
        have x2 := hc.2.2.1
        have x3 := hc.2.2.2.1
        have x4 := hc.2.2.2.2.1
        have y0 := hc.2.2.2.2.2.1
        have y1 := hc.2.2.2.2.2.2.1
        have y2 := hc.2.2.2.2.2.2.2.1
        have y3 := hc.2.2.2.2.2.2.2.2.1
        have y4 := hc.2.2.2.2.2.2.2.2.2
        clear hc
        by_cases hat : a > pos
        · rw [if_pos (.inr hat)] at hT
          have HPL := Lib.hid (HP.out.trans hT)
          clear hT HP HC HR HR1
          go_wp2_with fail
          clear x0 x1 x2 x3 x4 y0 y1 y2 y3 y4
          have hF := five (put5_any H3.out (.int .i64 (pos + z)) (.bool false) (.bool false) (.int .i64 0) (.int .i64 0))
          have hB5 := put5_below HB3.out (B := w.heap.size) (by simp) (.int .i64 (pos + z)) (.bool false) (.bool false) (.int .i64 0) (.int .i64 0)
          have hc := hF
          have q0 := hc.1
          have q1 := hc.2.1
          have q2 := hc.2.2.1
          have q3 := hc.2.2.2.1
          have q4 := hc.2.2.2.2
          clear hc
          clear hF
          unfold put5 at q0 q1 q2 q3 q4 hB5
          refine bodyPost_ret (v := .agg #[.int .i64 (pos + z), .bool false, .bool false, .int .i64 0, .int .i64 0]) ?_ rfl ⟨by rw [HPL.out]; rfl, ?_⟩
          · simp [results, Try.results35, go_sem, q0, q1, q2, q3, q4]
          · exact hB5
        · rw [if_neg (by rintro (h | h); exact hne h; exact hat h)] at hT
          have HPL := Lib.hid (HP.out.trans hT)
          clear hT HP
          have HT0 := Lib.hid (RT.made (w := w) HB2.out H2.out ⟨pos + z, false, false, 0, 0⟩ ⟨a, o, n⟩)
          go_upto_region 8 with fail
          clear c0 c1 c2 H3 H3p HB3 HB2 H2 HC HE x0 x1 x2 x3 x4 y0 y1 y2 y3 y4 hnm hne hd
          try simp only at HT0
          generalize (W2.alloc (.cells #[.int .i64 (pos + z), .bool false, .bool false, .int .i64 0, .int .i64 0] 48)).alloc (.cells #[.int .i64 a, .int .i64 o, .int .i64 n] 56) = W4 at HT0 ⊢
          generalize W2.heap.size = B at HT0 ⊢
          obtain ⟨C, hC⟩ : ∃ C, C = B + 1 := ⟨_, rfl⟩
          rw [← hC] at HT0 ⊢
          clear hC
          have HTD : Hid (RT w B C ⟨pos + z, false, false, 0, 0⟩ ⟨a, o, n⟩ W4.drew) := Lib.hid (HT0.out.drewN 1)
          have hc := HT0.out.cells
          have r0 := hc.1
          have r1 := hc.2.1
          have r2 := hc.2.2
          clear hc
          try simp only at r0 r1 r2
          have CS2 := fun W h => rshift_any w.heap.size l (some ⟨b, off, none⟩) m c i W HOK.out hm (by omega) (HR.out.below h (Nat.le_refl _))
          rw [← HZS.out] at CS2
          have ew2 : IntKind.i64.wrap (a + z) = a + z := IntWalk.i64_in _ (by omega)
          obtain ⟨z', hz'⟩ : ∃ z', z' = toI ⟨a, o, n⟩ z pos side := ⟨_, rfl⟩
          go_upto_region 9 with fail
          go_cut [67] from 62 to 67 (fun v wx => v = .int .i64 (a + z) ∧ Hid (RT w B C ⟨a + z, false, false, 0, 0⟩ ⟨a, o, n⟩ wx))
          case first =>
            refine wp_region_held_drew (S := (fun W => W.cell? ⟨C, 0, none⟩ = some (.int .i64 a) ∧ ∃ p, RT w B C p ⟨a, o, n⟩ W)) (by kernel_rfl) ⟨HTD.out.cells.1, _, HTD.out⟩ (fun hHeld => ?_)
            generalize W4.drew = W5 at hHeld HTD ⊢
            refine tk 0 (v := ?_) rfl (by kernel_rfl) (fun _ _ _ h => h) ?_ hHeld ?_
            rotate_left
            · (intro W hSw; (try dsimp only at hSw); go_simp; try with_reducible rfl)
            refine tk 1 (v := ?_) rfl (by kernel_rfl) (fun _ _ _ h => h) ?_ hHeld ?_
            rotate_left
            · (intro W hSw; (try dsimp only at hSw); go_simp; try with_reducible rfl)
            refine tk 2 (v := ?_) rfl (by kernel_rfl) (fun _ _ _ h => h) ?_ hHeld ?_
            rotate_left
            · (intro W hSw; (try dsimp only at hSw); go_simp; try with_reducible rfl)
            refine tk 3 (v := ?_) rfl (by kernel_rfl) (fun _ _ _ h => h) ?_ hHeld ?_
            rotate_left
            · (intro W hSw; (try dsimp only at hSw); go_simp; try with_reducible rfl)
            refine wpAnyH_ready (rs := [4]) (by kernel_rfl) (by simp) ?_
            refine AllReadyH.cons rfl (fun K hK => ?_) AllReadyH.nil
            go_simp
            refine (CS2 _ HTD.out.below).mono ?_
            rintro e W6 ⟨rfl, q, hq⟩
            have HT6 : Hid (RT w B C ⟨pos + z, false, false, 0, 0⟩ ⟨a, o, n⟩ W6) := Lib.hid (by rw [hq]; exact HTD.out.drewN q)
            clear hq HTD hHeld CS2
            go_wp2_with fail
            refine hK.out _ _ ⟨HT6.out.cells.1, _, HT6.out⟩ (fun hHeld => ?_)
            clear hK K
            refine tk 5 (v := ?_) rfl (by kernel_rfl) (fun _ _ _ h => h) ?_ hHeld ?_
            rotate_left
            · (intro W hSw; (try dsimp only at hSw); go_simp; try with_reducible rfl)
            refine tk 6 (v := ?_) rfl (by kernel_rfl) (fun _ _ _ h => h) ?_ hHeld ?_
            rotate_left
            · (intro W hSw; (try dsimp only at hSw); go_simp; try with_reducible rfl)
            refine wpAnyH_ready (rs := [7]) (by kernel_rfl) (by simp) ?_
            refine AllReadyH.cons rfl (fun K hK => ?_) AllReadyH.nil
            have hc := ten HT6.out.h1
            have x0 := hc.1
            have x1 := hc.2.1
            have x2 := hc.2.2.1
            have x3 := hc.2.2.2.1
            have x4 := hc.2.2.2.2.1
            have y0 := hc.2.2.2.2.2.1
            have y1 := hc.2.2.2.2.2.2.1
            have y2 := hc.2.2.2.2.2.2.2.1
            have y3 := hc.2.2.2.2.2.2.2.2.1
            have y4 := hc.2.2.2.2.2.2.2.2.2
            clear hc
            have HT7 := Lib.hid (HT6.out.set 0 (.int .i64 (a + z)) ⟨a + z, false, false, 0, 0⟩ rfl)
            go_simp
            refine hK.out _ _ ⟨HT7.out.cells.1, _, HT7.out⟩ (fun hHeld => ?_)
            clear hK K x0 x1 x2 x3 x4 y0 y1 y2 y3 y4
            refine wpAnyH_done (by kernel_rfl) ?_ _
            go_wp2_with fail
            go_meet
            exact ⟨rfl, HT7⟩
          case rest =>
            obtain ⟨rfl, HT⟩ := hcut
            clear HT0 HTD r0 r1 r2 CS2 HR HR1 ew
            have hc := HT.out.cells
            have r0 := hc.1
            have r1 := hc.2.1
            have r2 := hc.2.2
            clear hc
            simp only at r0 r1 r2
            obtain ⟨te, hte⟩ : ∃ te, te = toEnd ⟨a, o, n⟩ pos side := ⟨_, rfl⟩
            have HTE := Lib.hid hte
            have hz2 : z' = if te = true then a + z + n else a + z := by rw [hz', hte]; rfl
            have HZ2 := Lib.hid hz2
            have HZ1 := Lib.hid hz'
            clear hte hz2 hz'
            go_upto_region 10 with fail
            go_cut [95] from 69 to 95 (fun v wx => v = .bool te ∧ wx = wc)
            case first =>
              have e1 : (o == 0) = !(decide (0 < o)) := by
                by_cases h : 0 < o
                · simp [h]; omega
                · simp [h]; omega
              have e5 : te = (((pos == a + o) && decide (0 < o)) || (((pos != a) && decide (0 ≤ side)) || ((o == 0) && decide (0 ≤ side)))) := by
                rw [HTE.out]; rfl
              obtain ⟨b1, hb1⟩ : ∃ b1, decide (0 < o) = b1 := ⟨_, rfl⟩
              obtain ⟨b2, hb2⟩ : ∃ b1, (pos == a + o) = b1 := ⟨_, rfl⟩
              obtain ⟨b3, hb3⟩ : ∃ b1, (pos != a) = b1 := ⟨_, rfl⟩
              obtain ⟨b4, hb4⟩ : ∃ b1, decide (0 ≤ side) = b1 := ⟨_, rfl⟩
              rw [e1, hb1, hb2, hb3, hb4] at e5
              rw [hb1] at e1
              have E5 := Lib.hid e5
              clear e5 HTE
              cases b1 <;> cases b2 <;> cases b3 <;> cases b4
              all_goals
                simp only [Bool.not_true, Bool.not_false] at e1
                go_wp2_with fail
                go_meet
                exact ⟨by rw [E5.out]; rfl, rfl⟩
            case rest =>
              obtain ⟨rfl, rfl⟩ := hcut
              have hc := ten HT.out.h1
              have x0 := hc.1
              have x1 := hc.2.1
              have x2 := hc.2.2.1
              have x3 := hc.2.2.2.1
              have x4 := hc.2.2.2.2.1
              have y0 := hc.2.2.2.2.2.1
              have y1 := hc.2.2.2.2.2.2.1
              have y2 := hc.2.2.2.2.2.2.2.1
              have y3 := hc.2.2.2.2.2.2.2.2.1
              have y4 := hc.2.2.2.2.2.2.2.2.2
              clear hc
              simp only at x0 x1 x2 x3 x4
              first | (rename_i ha; refine ha _ _ ?_; clear ha) | (rename_i ha _; refine ha _ _ ?_; clear ha) | (rename_i ha _ _; refine ha _ _ ?_; clear ha) | (rename_i ha _ _ _; refine ha _ _ ?_; clear ha)
              go_cut [100] from 96 to 101 (fun v wx => Hid (RT w B C ⟨z', false, false, 0, 0⟩ ⟨a, o, n⟩ wx))
              case first =>
                cases te with
                | false =>
                  have e : z' = a + z := HZ2.out
                  clear HZ2 HZ1
                  subst e
                  go_wp2_with fail
                  go_meet
                  exact HT
                | true =>
                  have e : z' = a + z + n := HZ2.out
                  clear HZ2 HZ1
                  subst e
                  go_wp2_with fail
                  go_meet
                  exact Lib.hid (HT.out.set 0 (.int .i64 (a + z + n)) ⟨a + z + n, false, false, 0, 0⟩ rfl)
              case rest =>
                clear HT HZ2 r0 r1 r2 x0 x1 x2 x3 x4 y0 y1 y2 y3 y4 HTE
                have hc := hcut.out.cells
                have r0 := hc.1
                have r1 := hc.2.1
                have r2 := hc.2.2
                clear hc
                have hc := ten hcut.out.h1
                have x0 := hc.1
                have x1 := hc.2.1
                have x2 := hc.2.2.1
                have x3 := hc.2.2.2.1
                have x4 := hc.2.2.2.2.1
                have y0 := hc.2.2.2.2.2.1
                have y1 := hc.2.2.2.2.2.2.1
                have y2 := hc.2.2.2.2.2.2.2.1
                have y3 := hc.2.2.2.2.2.2.2.2.1
                have y4 := hc.2.2.2.2.2.2.2.2.2
                clear hc
                clear x0 x1 x3 x4 y0 y1 y3 y4
                simp only at r0 r1 r2 x2
                obtain ⟨ins, hins⟩ : ∃ b, b = insideB ⟨a, o, n⟩ pos := ⟨_, rfl⟩
                have HI := Lib.hid (show ins = (decide (a < pos) && decide (pos < a + o)) by rw [hins]; rfl)
                have HI2 := Lib.hid hins
                clear hins
                go_upto_region 12 with fail
                go_cut [110] from 102 to 111 (fun v wx => Hid (RT w B C ⟨z', false, ins, 0, 0⟩ ⟨a, o, n⟩ wx))
                case first =>
                  by_cases hap : a < pos
                  · have e : ins = decide (pos < a + o) := by rw [HI.out]; simp [hap]
                    clear HI HI2
                    subst e
                    go_wp2_with fail
                    go_meet
                    exact Lib.hid (hcut.out.set 2 (.bool (decide (pos < a + o))) ⟨z', false, decide (pos < a + o), 0, 0⟩ rfl)
                  · have e : ins = false := by rw [HI.out]; simp [hap]
                    clear HI HI2
                    subst e
                    go_wp2_with fail
                    go_meet
                    exact Lib.hid (hcut.out.set 2 (.bool false) ⟨z', false, false, 0, 0⟩ rfl)
                case rest =>
                  clear r0 r1 r2 x2 y2 HI
                  have hc := hcut.out.cells
                  have r0 := hc.1
                  have r1 := hc.2.1
                  have r2 := hc.2.2
                  clear hc
                  have hc := ten hcut.out.h1
                  have x0 := hc.1
                  have x1 := hc.2.1
                  have x2 := hc.2.2.1
                  have x3 := hc.2.2.2.1
                  have x4 := hc.2.2.2.2.1
                  have y0 := hc.2.2.2.2.2.1
                  have y1 := hc.2.2.2.2.2.2.1
                  have y2 := hc.2.2.2.2.2.2.2.1
                  have y3 := hc.2.2.2.2.2.2.2.2.1
                  have y4 := hc.2.2.2.2.2.2.2.2.2
                  clear hc
                  clear x0 x2 x3 x4 y0 y2 y3 y4 r1 r2
                  simp only at r0 x1
                  obtain ⟨g, hg⟩ : ∃ b, b = goneB ⟨a, o, n⟩ pos side := ⟨_, rfl⟩
                  have HG := Lib.hid hg
                  clear hg
                  by_cases hsd : side < 0
                  · have HG2 : Hid (g = (decide (a ≤ pos - 1) && decide (pos - 1 < a + o))) := Lib.hid (by
                      rw [HG.out, goneB, if_pos hsd]; simp only
                      congr 1
                      · apply decide_eq_decide.2; omega
                      · apply decide_eq_decide.2; omega)
                    go_upto_region 16 with fail
                    go_cut [125] from 117 to 126 (fun v wx => Hid (RT w B C ⟨z', g, ins, 0, 0⟩ ⟨a, o, n⟩ wx))
                    case first =>
                      by_cases hap : a ≤ pos - 1
                      · have e : g = decide (pos - 1 < a + o) := by rw [HG2.out]; simp [hap]
                        clear HG HG2 HPL HI2 HZ1
                        subst e
                        go_wp2_with fail
                        go_meet
                        exact Lib.hid (hcut.out.set 1 (.bool (decide (pos - 1 < a + o))) ⟨z', decide (pos - 1 < a + o), ins, 0, 0⟩ rfl)
                      · have e : g = false := by rw [HG2.out]; simp [hap]
                        clear HG HG2 HPL HI2 HZ1
                        subst e
                        go_wp2_with fail
                        go_meet
                        exact Lib.hid (hcut.out.set 1 (.bool false) ⟨z', false, ins, 0, 0⟩ rfl)
                    case rest =>
                      clear HG2
                      clear r0 x1 y1
                      have hc := hcut.out.cells
                      have r0 := hc.1
                      have r1 := hc.2.1
                      have r2 := hc.2.2
                      clear hc
                      have hc := ten hcut.out.h1
                      have x0 := hc.1
                      have x1 := hc.2.1
                      have x2 := hc.2.2.1
                      have x3 := hc.2.2.2.1
                      have x4 := hc.2.2.2.2.1
                      have y0 := hc.2.2.2.2.2.1
                      have y1 := hc.2.2.2.2.2.2.1
                      have y2 := hc.2.2.2.2.2.2.2.1
                      have y3 := hc.2.2.2.2.2.2.2.2.1
                      have y4 := hc.2.2.2.2.2.2.2.2.2
                      clear hc
                      have hc := ten hcut.out.h0
                      have f0 := hc.1
                      have f1 := hc.2.1
                      have f2 := hc.2.2.1
                      have f3 := hc.2.2.2.1
                      have f4 := hc.2.2.2.2.1
                      have g0 := hc.2.2.2.2.2.1
                      have g1 := hc.2.2.2.2.2.2.1
                      have g2 := hc.2.2.2.2.2.2.2.1
                      have g3 := hc.2.2.2.2.2.2.2.2.1
                      have g4 := hc.2.2.2.2.2.2.2.2.2
                      clear hc
                      clear r1 r2 y0 y1 y2
                      simp only at r0 x0 x1 x2 x3 x4
                      have hl1 : w.heap.size < B := hcut.out.lt.1
                      have hl2 : B < C := hcut.out.lt.2
                      have hn1 : ¬ w.heap.size = B := by omega
                      have hn2 : ¬ C = B := by omega
                      have hn3 : ¬ B = w.heap.size := by omega
                      have hn4 : ¬ B = C := by omega
                      have ewp : wrap64 (pos - a) = pos - a := by unfold wrap64; omega
                      cases g with
                      | true =>
                        have HQ := Lib.hid (show PL = ⟨z', true, ins, i, pos - a⟩ by rw [HPL.out, tellR, if_pos HG.out.symm, ← HZ1.out, ← HI2.out])
                        have HF := Lib.hid ((hcut.out.set 3 (.int .i64 i) ⟨z', true, ins, i, 0⟩ rfl).set 4 (.int .i64 (pos - a)) ⟨z', true, ins, i, pos - a⟩ rfl)
                        clear HPL HZ1 HI2 HG hcut
                        clear hs hf hp hm hlow hat hsd i1 i2 hlt hi HL HOK HSZ
                        go_wp2_with fail
                        clear x0 x1 x2 x3 x4 y3 y4 f0 f1 f2 f3 f4 g0 g1 g2 g3 g4 r0
                        have hF := five (put5_any HF.out.h0 (.int .i64 z') (.bool true) (.bool ins) (.int .i64 i) (.int .i64 (pos - a)))
                        have hB5 := put5_below HF.out.below (B := w.heap.size) (by simp) (.int .i64 z') (.bool true) (.bool ins) (.int .i64 i) (.int .i64 (pos - a))
                        have hc := hF
                        have q0 := hc.1
                        have q1 := hc.2.1
                        have q2 := hc.2.2.1
                        have q3 := hc.2.2.2.1
                        have q4 := hc.2.2.2.2
                        clear hc
                        clear hF
                        unfold put5 at q0 q1 q2 q3 q4 hB5
                        refine bodyPost_ret (v := .agg #[.int .i64 z', .bool true, .bool ins, .int .i64 i, .int .i64 (pos - a)]) ?_ rfl ⟨by rw [HQ.out]; rfl, ?_⟩
                        · simp [results, Try.results35, go_sem, q0, q1, q2, q3, q4]
                        · exact hB5
                      | false =>
                        have HQ := Lib.hid (show PL = ⟨z', false, ins, 0, 0⟩ by rw [HPL.out, tellR, if_neg (by rw [← HG.out]; simp), ← HZ1.out, ← HI2.out])
                        clear HPL HZ1 HI2 HG y3 y4
                        clear hs hf hp hm hlow hat hsd i1 i2 hlt hi HL HOK HSZ r0
                        go_wp2_with fail
                        clear x0 x1 x2 x3 x4 f0 f1 f2 f3 f4 g0 g1 g2 g3 g4
                        have hF := five (put5_any hcut.out.h0 (.int .i64 z') (.bool false) (.bool ins) (.int .i64 0) (.int .i64 0))
                        have hB5 := put5_below hcut.out.below (B := w.heap.size) (by simp) (.int .i64 z') (.bool false) (.bool ins) (.int .i64 0) (.int .i64 0)
                        have hc := hF
                        have q0 := hc.1
                        have q1 := hc.2.1
                        have q2 := hc.2.2.1
                        have q3 := hc.2.2.2.1
                        have q4 := hc.2.2.2.2
                        clear hc
                        clear hF
                        unfold put5 at q0 q1 q2 q3 q4 hB5
                        refine bodyPost_ret (v := .agg #[.int .i64 z', .bool false, .bool ins, .int .i64 0, .int .i64 0]) ?_ rfl ⟨by rw [HQ.out]; rfl, ?_⟩
                        · simp [results, Try.results35, go_sem, q0, q1, q2, q3, q4]
                        · exact hB5
                  · have HG2 : Hid (g = (decide (a ≤ pos) && decide (pos < a + o))) := Lib.hid (by
                      rw [HG.out, goneB, if_neg hsd])
                    go_upto_region 16 with fail
                    go_cut [125] from 117 to 126 (fun v wx => Hid (RT w B C ⟨z', g, ins, 0, 0⟩ ⟨a, o, n⟩ wx))
                    case first =>
                      by_cases hap : a ≤ pos
                      · have e : g = decide (pos < a + o) := by rw [HG2.out]; simp [hap]
                        clear HG HG2 HPL HI2 HZ1
                        subst e
                        go_wp2_with fail
                        go_meet
                        exact Lib.hid (hcut.out.set 1 (.bool (decide (pos < a + o))) ⟨z', decide (pos < a + o), ins, 0, 0⟩ rfl)
                      · exact absurd (show a ≤ pos by omega) hap
                    case rest =>
                      clear HG2
                      clear r0 x1 y1
                      have hc := hcut.out.cells
                      have r0 := hc.1
                      have r1 := hc.2.1
                      have r2 := hc.2.2
                      clear hc
                      have hc := ten hcut.out.h1
                      have x0 := hc.1
                      have x1 := hc.2.1
                      have x2 := hc.2.2.1
                      have x3 := hc.2.2.2.1
                      have x4 := hc.2.2.2.2.1
                      have y0 := hc.2.2.2.2.2.1
                      have y1 := hc.2.2.2.2.2.2.1
                      have y2 := hc.2.2.2.2.2.2.2.1
                      have y3 := hc.2.2.2.2.2.2.2.2.1
                      have y4 := hc.2.2.2.2.2.2.2.2.2
                      clear hc
                      have hc := ten hcut.out.h0
                      have f0 := hc.1
                      have f1 := hc.2.1
                      have f2 := hc.2.2.1
                      have f3 := hc.2.2.2.1
                      have f4 := hc.2.2.2.2.1
                      have g0 := hc.2.2.2.2.2.1
                      have g1 := hc.2.2.2.2.2.2.1
                      have g2 := hc.2.2.2.2.2.2.2.1
                      have g3 := hc.2.2.2.2.2.2.2.2.1
                      have g4 := hc.2.2.2.2.2.2.2.2.2
                      clear hc
                      clear r1 r2 y0 y1 y2
                      simp only at r0 x0 x1 x2 x3 x4
                      have hl1 : w.heap.size < B := hcut.out.lt.1
                      have hl2 : B < C := hcut.out.lt.2
                      have hn1 : ¬ w.heap.size = B := by omega
                      have hn2 : ¬ C = B := by omega
                      have hn3 : ¬ B = w.heap.size := by omega
                      have hn4 : ¬ B = C := by omega
                      have ewp : wrap64 (pos - a) = pos - a := by unfold wrap64; omega
                      cases g with
                      | true =>
                        have HQ := Lib.hid (show PL = ⟨z', true, ins, i, pos - a⟩ by rw [HPL.out, tellR, if_pos HG.out.symm, ← HZ1.out, ← HI2.out])
                        have HF := Lib.hid ((hcut.out.set 3 (.int .i64 i) ⟨z', true, ins, i, 0⟩ rfl).set 4 (.int .i64 (pos - a)) ⟨z', true, ins, i, pos - a⟩ rfl)
                        clear HPL HZ1 HI2 HG hcut
                        clear hs hf hp hm hlow hat hsd i1 i2 hlt hi HL HOK HSZ
                        go_wp2_with fail
                        clear x0 x1 x2 x3 x4 y3 y4 f0 f1 f2 f3 f4 g0 g1 g2 g3 g4 r0
                        have hF := five (put5_any HF.out.h0 (.int .i64 z') (.bool true) (.bool ins) (.int .i64 i) (.int .i64 (pos - a)))
                        have hB5 := put5_below HF.out.below (B := w.heap.size) (by simp) (.int .i64 z') (.bool true) (.bool ins) (.int .i64 i) (.int .i64 (pos - a))
                        have hc := hF
                        have q0 := hc.1
                        have q1 := hc.2.1
                        have q2 := hc.2.2.1
                        have q3 := hc.2.2.2.1
                        have q4 := hc.2.2.2.2
                        clear hc
                        clear hF
                        unfold put5 at q0 q1 q2 q3 q4 hB5
                        refine bodyPost_ret (v := .agg #[.int .i64 z', .bool true, .bool ins, .int .i64 i, .int .i64 (pos - a)]) ?_ rfl ⟨by rw [HQ.out]; rfl, ?_⟩
                        · simp [results, Try.results35, go_sem, q0, q1, q2, q3, q4]
                        · exact hB5
                      | false =>
                        have HQ := Lib.hid (show PL = ⟨z', false, ins, 0, 0⟩ by rw [HPL.out, tellR, if_neg (by rw [← HG.out]; simp), ← HZ1.out, ← HI2.out])
                        clear HPL HZ1 HI2 HG y3 y4
                        clear hs hf hp hm hlow hat hsd i1 i2 hlt hi HL HOK HSZ r0
                        go_wp2_with fail
                        clear x0 x1 x2 x3 x4 f0 f1 f2 f3 f4 g0 g1 g2 g3 g4
                        have hF := five (put5_any hcut.out.h0 (.int .i64 z') (.bool false) (.bool ins) (.int .i64 0) (.int .i64 0))
                        have hB5 := put5_below hcut.out.below (B := w.heap.size) (by simp) (.int .i64 z') (.bool false) (.bool ins) (.int .i64 0) (.int .i64 0)
                        have hc := hF
                        have q0 := hc.1
                        have q1 := hc.2.1
                        have q2 := hc.2.2.1
                        have q3 := hc.2.2.2.1
                        have q4 := hc.2.2.2.2
                        clear hc
                        clear hF
                        unfold put5 at q0 q1 q2 q3 q4 hB5
                        refine bodyPost_ret (v := .agg #[.int .i64 z', .bool false, .bool ins, .int .i64 0, .int .i64 0]) ?_ rfl ⟨by rw [HQ.out]; rfl, ?_⟩
                        · simp [results, Try.results35, go_sem, q0, q1, q2, q3, q4]
                        · exact hB5
    · obtain rfl : i = m := by omega
      have hT : tell l pos side = ⟨pos + sh l i, false, false, 0, 0⟩ := by
        rw [tell_eq (i := i) (by rw [HL.out]; exact Nat.le_refl _) HE.out (fun h => by rw [HL.out] at h; omega), tellAt, if_pos (.inl HL.out.symm)]
      have CS := fun q => rshift_any w.heap.size l A i c i (W1.drewN q) HOK.out hm (Nat.le_refl _) (HR1.out.drewN q)
      have hs := far_sh HOK.out hm
      unfold far at hs
      obtain ⟨z, hz⟩ : ∃ z, z = sh l i := ⟨_, rfl⟩
      rw [← hz] at CS hs hT
      have HPL := Lib.hid (HP.out.trans hT)
      clear hT HP hz
      have ew : wrap64 (pos + z) = pos + z := by unfold wrap64; omega
      go_wp2_with fail
      go_quiet (fail)
      go_wp2_with fail
      refine (CS _).mono ?_
      rintro e W2 ⟨rfl, q', hq'⟩
      have HB2 : Hid (Below w.heap.size w W2) := Lib.hid (by rw [hq']; exact below_drewN (below_drewN HB.out _) _)
      have H2 : Hid (W2.heap[w.heap.size]? = some (.cells #[.int .i64 0, .bool false, .bool false, .int .i64 0, .int .i64 0] 48 (0, 0))) := Lib.hid (by rw [hq']; exact H0'.out)
      clear hq' HB H0' HR1 HR CS
      have HB3 := Lib.hid (HB2.out.alloc HB2.out.size (.cells #[.int .i64 (pos + z), .bool false, .bool false, .int .i64 0, .int .i64 0] 48))
      have H3 : Hid ((W2.alloc (.cells #[.int .i64 (pos + z), .bool false, .bool false, .int .i64 0, .int .i64 0] 48)).heap[w.heap.size]? = some (.cells #[.int .i64 0, .bool false, .bool false, .int .i64 0, .int .i64 0] 48 (0, 0))) := Lib.hid (by rw [Below.heap_alloc _ _ _ (lt_some H2.out)]; exact H2.out)
      have hc := ten H3.out
      have x0 := hc.1
      have x1 := hc.2.1
      have x2 := hc.2.2.1
      have x3 := hc.2.2.2.1
      have x4 := hc.2.2.2.2.1
      have y0 := hc.2.2.2.2.2.1
      have y1 := hc.2.2.2.2.2.2.1
      have y2 := hc.2.2.2.2.2.2.2.1
      have y3 := hc.2.2.2.2.2.2.2.2.1
      have y4 := hc.2.2.2.2.2.2.2.2.2
      clear hc
      go_wp2_with fail
      clear x0 x1 x2 x3 x4 y0 y1 y2 y3 y4
      have hF := five (put5_any H3.out (.int .i64 (pos + z)) (.bool false) (.bool false) (.int .i64 0) (.int .i64 0))
      have hB5 := put5_below HB3.out (B := w.heap.size) (by simp) (.int .i64 (pos + z)) (.bool false) (.bool false) (.int .i64 0) (.int .i64 0)
      have hc := hF
      have q0 := hc.1
      have q1 := hc.2.1
      have q2 := hc.2.2.1
      have q3 := hc.2.2.2.1
      have q4 := hc.2.2.2.2
      clear hc
      clear hF
      unfold put5 at q0 q1 q2 q3 q4 hB5
      refine bodyPost_ret (v := .agg #[.int .i64 (pos + z), .bool false, .bool false, .int .i64 0, .int .i64 0]) ?_ rfl ⟨by rw [HPL.out]; rfl, ?_⟩
      · simp [results, Try.results35, go_sem, q0, q1, q2, q3, q4]
      · exact hB5
end Go.Proofs.Ytnffgomgfabapaa.Sm
