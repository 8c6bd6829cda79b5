/- Walk of route: Tell. -/
import Derived.Test.YtnffgomgfabapaaRtH
import Derived.Test.YtnffgomgfabapaaRgOpn
namespace Go.Proofs.Ytnffgomgfabapaa.Rt
open Go.RowKit Mem Sm
set_option linter.unusedVariables false

/-- what holds while a position goes through the maps: the result's block, the place's -/
structure TB (w : World) (s : St) (W : World) : Prop where
  below : Below w.heap.size w W
  h0 : W.heap[w.heap.size]? = some (.cells #[.int .i64 0, .bool false, .bool false, .int .i64 0, .int .i64 0] 27 (0, 0))
  h1 : W.heap[w.heap.size + 1]? = some (.cells #[.int .i64 s.pos, .bool s.gone, .bool s.inside, .int .i64 0, .int .i64 0] 27 (0, 0))
/-- and the place in the one map -/
def TC (w : World) (s : St) (B : Nat) (q : Pl) (W : World) : Prop := TB w s W ∧ w.heap.size + 1 + 1 ≤ B ∧ W.heap[B]? = some (.cells #[.int .i64 q.pos, .bool q.gone, .bool q.inside, .int .i64 q.rng, .int .i64 q.off] 27 (0, 0))
section
variable {w W W' : World} {s s' : St} {B : Nat} {q : Pl}
theorem TB.size (h : TB w s W) : w.heap.size + 1 + 1 ≤ W.heap.size := by have := lt_some h.h1; omega
theorem TB.step (h : TB w s W) (hb : Below W.heap.size W W') : TB w s W' :=
  ⟨h.below.trans (hb.mono h.below.size), by rw [hb.block _ (lt_some h.h0)]; exact h.h0, by rw [hb.block _ (lt_some h.h1)]; exact h.h1⟩
theorem TC.step (h : TC w s B q W) (hb : Below W.heap.size W W') : TC w s B q W' := ⟨h.1.step hb, h.2.1, by rw [hb.block _ (lt_some h.2.2)]; exact h.2.2⟩
theorem TB.made (w : World) (pos : Int) : TB w ⟨pos, false, false⟩ ((w.alloc (.cells #[.int .i64 0, .bool false, .bool false, .int .i64 0, .int .i64 0] 27)).alloc (.cells #[.int .i64 pos, .bool false, .bool false, .int .i64 0, .int .i64 0] 27)) := by
  have n2 := heap_alloc_new (w.alloc (.cells #[.int .i64 0, .bool false, .bool false, .int .i64 0, .int .i64 0] 27)) (.cells #[.int .i64 pos, .bool false, .bool false, .int .i64 0, .int .i64 0] 27)
  rw [show (w.alloc (.cells #[.int .i64 0, .bool false, .bool false, .int .i64 0, .int .i64 0] 27)).heap.size = w.heap.size + 1 by simp] at n2
  exact ⟨((Below.refl _ _).alloc (Nat.le_refl _) _).alloc (by simp) _, by rw [Below.heap_alloc _ _ _ (by simp), heap_alloc_new], n2⟩
theorem TB.new (h : TB w s W) (q : Pl) : TC w s W.heap.size q (W.alloc (.cells #[.int .i64 q.pos, .bool q.gone, .bool q.inside, .int .i64 q.rng, .int .i64 q.off] 27)) :=
  ⟨h.step ((Below.refl _ _).alloc (Nat.le_refl _) _), h.size, heap_alloc_new W _⟩
theorem TC.put (h : TC w s B q W) (q' : Pl) : TC w s B q' (put5 W B (.int .i64 q'.pos) (.bool q'.gone) (.bool q'.inside) (.int .i64 q'.rng) (.int .i64 q'.off)) := by
  have hB := h.2.1
  exact ⟨⟨put5_below h.1.below (by omega) _ _ _ _ _, by rw [put5_other _ _ _ _ _ _ _ _ (by omega)]; exact h.1.h0, by rw [put5_other _ _ _ _ _ _ _ _ (by omega)]; exact h.1.h1⟩, h.2.1, put5_same h.2.2 _ _ _ _ _⟩
theorem TB.set (h : TB w s W) (j : Nat) (v : Value) (e : (#[Value.int .i64 s.pos, .bool s.gone, .bool s.inside, .int .i64 0, .int .i64 0] : Array Value).setIfInBounds j v = #[.int .i64 s'.pos, .bool s'.gone, .bool s'.inside, .int .i64 0, .int .i64 0]) : TB w s' (W.setCell ⟨w.heap.size + 1, j, none⟩ v) := by
  refine ⟨h.below.setCell (p := ⟨w.heap.size + 1, j, none⟩) (by simp) _, ?_, ?_⟩
  · rw [Below.heap_setCell _ _ _ _ (by simp)]; exact h.h0
  · simp [World.setCell, Array.getElem?_modify, h.h1, e]
theorem TB.three (h : TB w s W) (z : Int) (a b : Bool) : TB w ⟨z, a, b⟩ (((W.setCell ⟨w.heap.size + 1, 0, none⟩ (.int .i64 z)).setCell ⟨w.heap.size + 1, 1, none⟩ (.bool a)).setCell ⟨w.heap.size + 1, 2, none⟩ (.bool b)) :=
  ((h.set (s' := ⟨z, s.gone, s.inside⟩) 0 _ rfl).set (s' := ⟨z, a, s.inside⟩) 1 _ rfl).set (s' := ⟨z, a, b⟩) 2 _ rfl
theorem TC.set (h : TC w s B q W) (j : Nat) (v : Value) (e : (#[Value.int .i64 s.pos, .bool s.gone, .bool s.inside, .int .i64 0, .int .i64 0] : Array Value).setIfInBounds j v = #[.int .i64 s'.pos, .bool s'.gone, .bool s'.inside, .int .i64 0, .int .i64 0]) : TC w s' B q (W.setCell ⟨w.heap.size + 1, j, none⟩ v) := by
  have hB := h.2.1
  exact ⟨h.1.set j v e, h.2.1, by rw [Below.heap_setCell _ _ _ _ (by simp; omega)]; exact h.2.2⟩
end
/-- a position from a map on, with as much fuel as there are maps -/
noncomputable def goR (M : List (List Rg)) (mir : List (Int × Int)) (side : Int) (i : Nat) (s : St) : Option St := goM M mir side M.length i s
theorem goR_no {M : List (List Rg)} {mir : List (Int × Int)} {side : Int} {i : Nat} (hi : ¬ i < M.length) (s : St) : goR M mir side i s = some s := goM_no hi s _
theorem goR_yes {M : List (List Rg)} {mir : List (Int × Int)} {side : Int} {i : Nat} (hi : i < M.length) (s : St) : goR M mir side i s =
    if tellE (M.getD i []) s.pos = 0 then
      if (recR M mir i (tellW (M.getD i []) s.pos side)).2.2 = true then
        goR M mir side ((recR M mir i (tellW (M.getD i []) s.pos side)).2.1.toNat + 1) { s with pos := (recR M mir i (tellW (M.getD i []) s.pos side)).1 }
      else goR M mir side (i + 1) ⟨(tellW (M.getD i []) s.pos side).pos, s.gone || (tellW (M.getD i []) s.pos side).gone, s.inside || (tellW (M.getD i []) s.pos side).inside⟩
    else none := by
  unfold goR
  rw [← goM_fuel M mir side M.length i s (by omega), goM_yes hi]
def endP : Option St → Pl
  | some s => ⟨s.pos, s.gone, s.inside, 0, 0⟩
  | none => ⟨0, false, false, 0, 0⟩
def endE : Option St → Int
  | some _ => 0
  | none => 3
theorem tellE_right {l : List Rg} {pos : Int} (h : rightB l = true) : tellE l pos = 0 ∨ tellE l pos = 3 := by
  unfold tellE
  rw [if_pos h]
  split
  · exact .inl rfl
  · exact .inr rfl
theorem TB.hold {w W : World} {s : St} (h : TB w s W) {a1 a2 : Addr} {v1 v2 : Value} (h1 : W.cell? a1 = some v1) (h2 : W.cell? a2 = some v2) :
    W.cell? a1 = some v1 ∧ W.cell? a2 = some v2 ∧ W.cell? ⟨w.heap.size + 1, 0, none⟩ = some (.int .i64 s.pos) ∧ TB w s W := ⟨h1, h2, (five h.h1).1, h⟩
theorem TC.hold {w W : World} {s : St} {B : Nat} {q : Pl} (h : TC w s B q W) {a1 a2 : Addr} {v1 v2 : Value} (h1 : W.cell? a1 = some v1) (h2 : W.cell? a2 = some v2) :
    W.cell? a1 = some v1 ∧ W.cell? a2 = some v2 ∧ W.cell? ⟨w.heap.size + 1, 0, none⟩ = some (.int .i64 s.pos) ∧ TB w s W := h.1.hold h1 h2
theorem put5_cell (W : World) (B : Nat) (y0 y1 y2 y3 y4 : Value) (a : Addr) (h : a.block ≠ B) : (put5 W B y0 y1 y2 y3 y4).cell? a = W.cell? a := by
  simp only [World.cell?, put5_other _ _ _ _ _ _ _ _ h]
set_option maxRecDepth 100000 in
set_option maxHeartbeats 8000000 in
theorem rttell_any (base p : Nat) (v mp : Value) (vs : List Value) (M : List (List Rg)) (mir : List (Int × Int)) (pos side : Int) (w : World) (hM : M.length ≤ 1000) (hm : ∀ m ∈ M, m.length ≤ 100 ∧ rightB m = true) (hmir : ∀ x ∈ mir, 0 ≤ x.2 ∧ x.2 < M.length)
    (h : RtAt base w p v mp vs M mir) :
    Calls Try.prog 7 #[.pointer (some ⟨p, 0, none⟩), .int .i64 pos, .int .i64 side] w fun e w' => e = .returned (.tuple #[plV (endP (goR M mir side 0 ⟨pos, false, false⟩)), .int .i64 (endE (goR M mir side 0 ⟨pos, false, false⟩))]) ∧ Below w.heap.size w w' := by
  obtain ⟨R, hR⟩ : ∃ R, goR M mir side 0 ⟨pos, false, false⟩ = R := ⟨_, rfl⟩
  rw [hR]
  have HR := Lib.hid hR
  have HT := Lib.hid h
  have HMR := Lib.hid hm
  have HMI := Lib.hid hmir
  have hp := lt_some h.h0
  have HB0 := Lib.hid (TB.made w pos)
  obtain ⟨A0, c0, hv⟩ := h.form
  subst hv
  clear hR h hm hmir
  go_enter Try.func7, Try.ntmps7
  go_wp2_with fail
  go_loopw [9] (fun iv wr => ∃ (i : Nat) (s : St), iv = .int .i64 i ∧ i ≤ M.length ∧ Hid (TB w s wr) ∧ Hid (goR M mir side i s = R)) (fun iv _ => M.length - (intOf iv).toNat)
  case atStart => exact ⟨0, ⟨pos, false, false⟩, rfl, by omega, HB0, HR⟩
  case round =>
    obtain ⟨i, s, rfl, hi, HT1, HG⟩ := hrel
    have hcs := (HT.out.step HT1.out.below).cells
    have hc0 := hcs.1
    clear hcs
    by_cases hlt : i < M.length
    · obtain ⟨g, cap, A, c, hv, hcap, hcell0, hrow0⟩ := HT.out.nth hlt
      have hgl := World.block_lt_of_cell? w _ hcell0
      have hcell := below_cell HT1.out.below hcell0
      have hrow := hrow0.below HT1.out.below
      clear hcell0 hrow0
      simp only [Value.slice.injEq] at hv
      obtain ⟨rfl, _, rfl⟩ := hv
      have hlM := (HMR.out _ (List.getElem_mem hlt)).1
      obtain ⟨m, hmm⟩ : ∃ m, m = M[i] := ⟨_, rfl⟩
      rw [← hmm] at hlM hcell hrow
      have HMM := Lib.hid hmm
      clear hmm
      obtain ⟨sp, sg, si⟩ := s
      have hd : decide ((i : Int) < (M.length : Int)) = true := decide_eq_true (by omega)
      have i1 : (0 : Int) ≤ (i : Int) := by omega
      have i2 : (i : Int) < (M.length : Int) := by omega
      have HRW := Lib.hid hrow
      clear hrow
      go_upto_region 7 with fail
      obtain ⟨TE, hTE⟩ : ∃ x, x = tellE m sp := ⟨_, rfl⟩
      obtain ⟨Q, hQ⟩ : ∃ x, x = tellW m sp side := ⟨_, rfl⟩
      obtain ⟨qp, qg, qi, qr, qo⟩ := Q
      have HTE := Lib.hid hTE
      have HQ := Lib.hid hQ
      clear hTE hQ
      go_cut [10, 11] from 20 to 75 (fun v10 v11 wx => ∃ (B : Nat), v10 = .pointer (some ⟨B, 0, none⟩) ∧ v11 = .int .i64 TE ∧ Hid (TC w ⟨sp, sg, si⟩ B ⟨qp, qg, qi, qr, qo⟩ wx))
      case first =>
        have HW := Lib.hid HT1.out.below
        refine wp_region_held_drew (S := fun W => W.cell? ⟨p, 0, none⟩ = some (.slice (some ⟨g, 0, none⟩) M.length c0) ∧ W.cell? ⟨g, i, none⟩ = some (.slice A m.length c) ∧ W.cell? ⟨w.heap.size + 1, 0, none⟩ = some (.int .i64 sp) ∧ TB w ⟨sp, sg, si⟩ W) (by kernel_rfl) ((HT1.out.step (below_drewN (Below.refl _ _) 1)).hold hc0 hcell) (fun hHeld => ?_)
        have HRW5 : Hid (RRow wr.drew A m.length m) := Lib.hid (HRW.out.below (below_drewN (Below.refl _ _) 1))
        clear HRW HT1 hc0 hcell HW
        generalize wr.drew = W5 at HRW5 hHeld ⊢
        refine tk 0 (v := ?_) rfl (by kernel_rfl) (fun _ _ _ h => h) ?_ hHeld ?_
        rotate_left
        · (intro W hSw; (try dsimp only at hSw); go_simp; try with_reducible rfl)
        refine tk 1 (v := ?_) rfl (by kernel_rfl) (fun _ _ _ h => h) ?_ hHeld ?_
        rotate_left
        · (intro W hSw; (try dsimp only at hSw); go_simp; try with_reducible rfl)
        refine tk 2 (v := ?_) rfl (by kernel_rfl) (fun _ _ _ h => h) ?_ hHeld ?_
        rotate_left
        · (intro W hSw; (try dsimp only at hSw); go_simp; try with_reducible rfl)
        refine tk 3 (v := ?_) rfl (by kernel_rfl) (fun _ _ _ h => h) ?_ hHeld ?_
        rotate_left
        · (intro W hSw; (try dsimp only at hSw); go_simp; try with_reducible rfl)
        refine tk 4 (v := ?_) rfl (by kernel_rfl) (fun _ _ _ h => h) ?_ hHeld ?_
        rotate_left
        · (intro W hSw; (try dsimp only at hSw); go_simp; try with_reducible rfl)
        refine tk 5 (v := ?_) rfl (by kernel_rfl) (fun _ _ _ h => h) ?_ hHeld ?_
        rotate_left
        · (intro W hSw; (try dsimp only at hSw); go_simp; try with_reducible rfl)
        refine tk 6 (v := ?_) rfl (by kernel_rfl) (fun _ _ _ h => h) ?_ hHeld ?_
        rotate_left
        · (intro W hSw; (try dsimp only at hSw); go_simp; try with_reducible rfl)
        refine tk 7 (v := ?_) rfl (by kernel_rfl) (fun _ _ _ h => h) ?_ hHeld ?_
        rotate_left
        · (intro W hSw; (try dsimp only at hSw); go_simp; try with_reducible rfl)
        refine tk 8 (v := ?_) rfl (by kernel_rfl) (fun _ _ _ h => h) ?_ hHeld ?_
        rotate_left
        · (intro W hSw; (try dsimp only at hSw); go_simp; try with_reducible rfl)
        refine tk 9 (v := ?_) rfl (by kernel_rfl) (fun _ _ _ h => h) ?_ hHeld ?_
        rotate_left
        · (intro W hSw; (try dsimp only at hSw); go_simp; try with_reducible rfl)
        refine wpAnyH_ready (rs := [10, 14]) (by kernel_rfl) (by simp) ?_
        refine AllReadyH.cons rfl (fun K hK => ?_) (AllReadyH.cons rfl (fun K hK => ?_) AllReadyH.nil)
        · go_simp
          refine (ptell_any m A _ c sp side W5 hlM (RLow.of HRW5.out)).mono ?_
          rintro e W6 ⟨rfl, hb6⟩
          rw [← HTE.out, ← HQ.out]
          unfold plV
          have hS6 := (hHeld.2.2.2.step hb6).hold (below_cell hb6 hHeld.1) (below_cell hb6 hHeld.2.1)
          clear hHeld hb6
          go_wp2_with fail
          refine hK.out _ _ hS6 (fun hHeld => ?_)
          clear hK K hS6
          refine tk 11 (v := ?_) rfl (by kernel_rfl) (fun _ _ _ h => h) ?_ hHeld ?_
          rotate_left
          · (intro W hSw; (try dsimp only at hSw); go_simp; try with_reducible rfl)
          refine tk 12 (v := ?_) rfl (by kernel_rfl) (fun _ _ _ h => h) ?_ hHeld ?_
          rotate_left
          · (intro W hSw; (try dsimp only at hSw); go_simp; try with_reducible rfl)
          refine tk 13 (v := ?_) rfl (by kernel_rfl) (fun _ _ _ h => h) ?_ hHeld ?_
          rotate_left
          · (intro W hSw; (try dsimp only at hSw); go_simp; try with_reducible rfl)
          refine wpAnyH_ready (rs := [14]) (by kernel_rfl) (by simp) ?_
          refine AllReadyH.cons rfl (fun K hK => ?_) AllReadyH.nil
          go_simp
          have hTC := hHeld.2.2.2.new ⟨0, false, false, 0, 0⟩
          have hb7 : Below W6.heap.size W6 (W6.alloc (.cells #[.int .i64 0, .bool false, .bool false, .int .i64 0, .int .i64 0] 27)) := (Below.refl _ _).alloc (Nat.le_refl _) _
          have HTN := Lib.hid (hHeld.2.2.2.new ⟨qp, qg, qi, qr, qo⟩)
          have hS7 := hTC.hold (below_cell hb7 hHeld.1) (below_cell hb7 hHeld.2.1)
          have hb8 : Below W6.heap.size W6 (W6.alloc (.cells #[.int .i64 qp, .bool qg, .bool qi, .int .i64 qr, .int .i64 qo] 27)) := (Below.refl _ _).alloc (Nat.le_refl _) _
          have hS8 := HTN.out.hold (below_cell hb8 hHeld.1) (below_cell hb8 hHeld.2.1)
          have HS8 := Lib.hid hS8
          refine hK.out _ _ hS7 (fun hHeld => ?_)
          clear hK K hS7 hb7 hb8 hS8
          refine wpAnyH_ready (rs := [15]) (by kernel_rfl) (by simp) ?_
          refine AllReadyH.cons rfl (fun K hK => ?_) AllReadyH.nil
          have hc := ten2 hTC.2.2
          have x0 := hc.1
          have x1 := hc.2.1
          have x2 := hc.2.2.1
          have x3 := hc.2.2.2.1
          have x4 := hc.2.2.2.2.1
          have y0 := hc.2.2.2.2.2.1
          have y1 := hc.2.2.2.2.2.2.1
          have y2 := hc.2.2.2.2.2.2.2.1
          have y3 := hc.2.2.2.2.2.2.2.2.1
          have y4 := hc.2.2.2.2.2.2.2.2.2
          clear hc
          go_simp
          refine hK.out _ _ HS8.out (fun hHeld => ?_)
          clear hK K x0 x1 x2 x3 x4 y0 y1 y2 y3 y4
          refine wpAnyH_ready (rs := [16]) (by kernel_rfl) (by simp) ?_
          refine AllReadyH.cons rfl (fun K hK => ?_) AllReadyH.nil
          go_simp
          refine hK.out _ _ HS8.out (fun hHeld => ?_)
          clear hK K
          refine wpAnyH_done (by kernel_rfl) ?_ _
          go_wp2_with fail
          go_meet
          exact ⟨_, rfl, rfl, HTN⟩
        · have hTC := hHeld.2.2.2.new ⟨0, false, false, 0, 0⟩
          have hb7 : Below W5.heap.size W5 (W5.alloc (.cells #[.int .i64 0, .bool false, .bool false, .int .i64 0, .int .i64 0] 27)) := (Below.refl _ _).alloc (Nat.le_refl _) _
          have hS7 := hTC.hold (below_cell hb7 hHeld.1) (below_cell hb7 hHeld.2.1)
          have HRW7 := Lib.hid (HRW5.out.below hb7)
          have HTC := Lib.hid hTC
          go_simp
          refine hK.out _ _ hS7 (fun hHeld => ?_)
          obtain ⟨B, hB⟩ : ∃ B, B = W5.heap.size := ⟨_, rfl⟩
          rw [← hB] at HTC ⊢
          clear hK K hS7 hb7 hTC HRW5 hB
          generalize W5.alloc (.cells #[.int .i64 0, .bool false, .bool false, .int .i64 0, .int .i64 0] 27) = W7 at HRW7 HTC hHeld ⊢
          refine wpAnyH_ready (rs := [10]) (by kernel_rfl) (by simp) ?_
          refine AllReadyH.cons rfl (fun K hK => ?_) AllReadyH.nil
          go_simp
          refine (ptell_any m A _ c sp side W7 hlM (RLow.of HRW7.out)).mono ?_
          rintro e W8 ⟨rfl, hb8⟩
          rw [← HTE.out, ← HQ.out]
          unfold plV
          have HTC8 := Lib.hid (HTC.out.step hb8)
          have hS8 := HTC8.out.hold (below_cell hb8 hHeld.1) (below_cell hb8 hHeld.2.1)
          clear hHeld hb8 HTC HRW7
          go_wp2_with fail
          refine hK.out _ _ hS8 (fun hHeld => ?_)
          clear hK K hS8
          refine tk 11 (v := ?_) rfl (by kernel_rfl) (fun _ _ _ h => h) ?_ hHeld ?_
          rotate_left
          · (intro W hSw; (try dsimp only at hSw); go_simp; try with_reducible rfl)
          refine tk 12 (v := ?_) rfl (by kernel_rfl) (fun _ _ _ h => h) ?_ hHeld ?_
          rotate_left
          · (intro W hSw; (try dsimp only at hSw); go_simp; try with_reducible rfl)
          refine tk 13 (v := ?_) rfl (by kernel_rfl) (fun _ _ _ h => h) ?_ hHeld ?_
          rotate_left
          · (intro W hSw; (try dsimp only at hSw); go_simp; try with_reducible rfl)
          refine wpAnyH_ready (rs := [15]) (by kernel_rfl) (by simp) ?_
          refine AllReadyH.cons rfl (fun K hK => ?_) AllReadyH.nil
          have hc := ten2 HTC8.out.2.2
          have x0 := hc.1
          have x1 := hc.2.1
          have x2 := hc.2.2.1
          have x3 := hc.2.2.2.1
          have x4 := hc.2.2.2.2.1
          have y0 := hc.2.2.2.2.2.1
          have y1 := hc.2.2.2.2.2.2.1
          have y2 := hc.2.2.2.2.2.2.2.1
          have y3 := hc.2.2.2.2.2.2.2.2.1
          have y4 := hc.2.2.2.2.2.2.2.2.2
          clear hc
          go_simp
          have HTN := Lib.hid (HTC8.out.put ⟨qp, qg, qi, qr, qo⟩)
          have hb9 : Below B W8 (put5 W8 B (.int .i64 qp) (.bool qg) (.bool qi) (.int .i64 qr) (.int .i64 qo)) := put5_below (Below.refl _ _) (Nat.le_refl _) _ _ _ _ _
          have HS9 : Hid (_ ∧ _ ∧ _ ∧ _) := Lib.hid (HTN.out.hold (a1 := ⟨p, 0, none⟩) (a2 := ⟨g, i, none⟩) (v1 := .slice (some ⟨g, 0, none⟩) M.length c0) (v2 := .slice A m.length c) ((put5_cell _ _ _ _ _ _ _ _ (by have := HTC8.out.2.1; simp; omega)).trans hHeld.1) ((put5_cell _ _ _ _ _ _ _ _ (by have := HTC8.out.2.1; simp at hgl ⊢; omega)).trans hHeld.2.1))
          unfold put5 at HS9 HTN
          refine hK.out _ _ HS9.out (fun hHeld => ?_)
          clear hK K x0 x1 x2 x3 x4 y0 y1 y2 y3 y4
          refine wpAnyH_ready (rs := [16]) (by kernel_rfl) (by simp) ?_
          refine AllReadyH.cons rfl (fun K hK => ?_) AllReadyH.nil
          go_simp
          refine hK.out _ _ HS9.out (fun hHeld => ?_)
          clear hK K
          refine wpAnyH_done (by kernel_rfl) ?_ _
          go_wp2_with fail
          go_meet
          exact ⟨_, rfl, rfl, HTN⟩
      case rest =>
        obtain ⟨B, rfl, rfl, HTC⟩ := hcut
        have hG := HG.out
        rw [goR_yes hlt] at hG
        have hgd : M.getD i [] = m := by rw [HMM.out]; simp [List.getD, hlt]
        simp only [hgd] at hG
        rw [← HTE.out, ← HQ.out] at hG
        clear HG HRW hcell hc0 HT1
        by_cases hte : TE = 0
        · subst hte
          rw [if_pos rfl] at hG
          have CR := fun W (hb : Below w.heap.size w W) => recovered_any base p _ mp vs M mir i ⟨qp, qg, qi, qr, qo⟩ W hM (fun x hx => (HMR.out x hx).1) HMI.out (HT.out.step hb)
          unfold plV at CR
          simp only at CR
          have HGE := Lib.hid (recR_ge (M := M) (mir := mir) (i := (i : Int)) (q := ⟨qp, qg, qi, qr, qo⟩))
          obtain ⟨⟨rn, rj, rb⟩, hrr⟩ : ∃ x, x = recR M mir i ⟨qp, qg, qi, qr, qo⟩ := ⟨_, rfl⟩
          rw [← hrr] at CR hG HGE
          simp only at CR hG HGE
          clear hrr
          have HG1 := Lib.hid hG
          clear hG
          have hc := five HTC.out.2.2
          have x0 := hc.1
          have x1 := hc.2.1
          have x2 := hc.2.2.1
          have x3 := hc.2.2.2.1
          have x4 := hc.2.2.2.2
          clear hc
          go_wp2_with fail
          refine (CR _ HTC.out.1.below).mono ?_
          rintro e W6 ⟨rfl, hb6⟩
          have HT6 := Lib.hid (HTC.out.step hb6)
          clear CR hb6 HTC x0 x1 x2 x3 x4
          cases rb with
          | true =>
            obtain ⟨hge, y, hy, hyj⟩ := HGE.out rfl
            have hjM := HMI.out y hy
            rw [hyj] at hjM
            obtain ⟨k, rfl⟩ : ∃ k : Nat, rj = k := ⟨rj.toNat, by omega⟩
            have HG2 := HG1.out
            rw [if_pos rfl, Int.toNat_natCast] at HG2
            have HG3 := Lib.hid HG2
            have HTS := Lib.hid (HT6.out.1.set (s' := ⟨rn, sg, si⟩) 0 (.int .i64 rn) rfl)
            have hc := ten2 HT6.out.1.h1
            have x0 := hc.1
            have x1 := hc.2.1
            have x2 := hc.2.2.1
            have x3 := hc.2.2.2.1
            have x4 := hc.2.2.2.2.1
            have y0 := hc.2.2.2.2.2.1
            have y1 := hc.2.2.2.2.2.2.1
            have y2 := hc.2.2.2.2.2.2.2.1
            have y3 := hc.2.2.2.2.2.2.2.2.1
            have y4 := hc.2.2.2.2.2.2.2.2.2
            clear hc
            clear HG2 hy hyj HG1 HGE
            have hk1 : k + 1 ≤ M.length := by omega
            have hik : i ≤ k := by omega
            clear hge hjM
            go_wp2
            go_roundw
            case measure => simp only [intOf]; omega
            case rel => exact ⟨k + 1, ⟨rn, sg, si⟩, by push_cast; rfl, hk1, HTS, HG3⟩
          | false =>
            have HG2 := HG1.out
            rw [if_neg (by simp)] at HG2
            have HG3 := Lib.hid HG2
            clear HG2 HG1 HGE
            cases sg <;> cases si
            all_goals
              have hc := five HT6.out.2.2
              have z0 := hc.1
              have z1 := hc.2.1
              have z2 := hc.2.2.1
              have z3 := hc.2.2.2.1
              have z4 := hc.2.2.2.2
              clear hc
              have hc := ten2 HT6.out.1.h1
              have x0 := hc.1
              have x1 := hc.2.1
              have x2 := hc.2.2.1
              have x3 := hc.2.2.2.1
              have x4 := hc.2.2.2.2.1
              have y0 := hc.2.2.2.2.2.1
              have y1 := hc.2.2.2.2.2.2.1
              have y2 := hc.2.2.2.2.2.2.2.1
              have y3 := hc.2.2.2.2.2.2.2.2.1
              have y4 := hc.2.2.2.2.2.2.2.2.2
              clear hc
              have HTT := Lib.hid HT6.out.1
              go_wp2
              go_roundw
              case measure => simp only [intOf]; omega
              case rel => exact ⟨i + 1, ⟨qp, _, _⟩, by push_cast; rfl, by omega, Lib.hid (HTT.out.three qp _ _), HG3⟩
        · have h3 : TE = 3 := by
            rcases tellE_right (pos := sp) ((HMR.out _ (List.getElem_mem hlt)).2) with h | h
            · rw [← HMM.out, ← HTE.out] at h; exact absurd h hte
            · rw [← HMM.out, ← HTE.out] at h; exact h
          subst h3
          rw [if_neg (by omega)] at hG
          subst hG
          have hc := ten2 HTC.out.1.h0
          have x0 := hc.1
          have x1 := hc.2.1
          have x2 := hc.2.2.1
          have x3 := hc.2.2.2.1
          have x4 := hc.2.2.2.2.1
          have y0 := hc.2.2.2.2.2.1
          have y1 := hc.2.2.2.2.2.2.1
          have y2 := hc.2.2.2.2.2.2.2.1
          have y3 := hc.2.2.2.2.2.2.2.2.1
          have y4 := hc.2.2.2.2.2.2.2.2.2
          clear hc
          have hF := five (put5_new HTC.out.1.h0 (.int .i64 0) (.bool false) (.bool false) (.int .i64 0) (.int .i64 0))
          have hB5 := put5_below HTC.out.1.below (B := w.heap.size) (Nat.le_refl _) (.int .i64 0) (.bool false) (.bool false) (.int .i64 0) (.int .i64 0)
          have HF := Lib.hid hF
          have HB5 := Lib.hid hB5
          clear hF hB5
          go_wp2
          have hF := HF.out
          have hB5 := HB5.out
          unfold put5 at hF hB5
          refine bodyPost_ret (v := .tuple #[plV ⟨0, false, false, 0, 0⟩, .int .i64 3]) ?_ rfl ⟨rfl, hB5⟩
          simp [results, Try.results7, go_sem, hF.1, hF.2.1, hF.2.2.1, hF.2.2.2.1, hF.2.2.2.2, plV]
    · have hd : decide ((i : Int) < (M.length : Int)) = false := decide_eq_false (by omega)
      rw [goR_no hlt] at HG
      obtain rfl := HG.out
      have hc := ten2 HT1.out.h0
      have x0 := hc.1
      have x1 := hc.2.1
      have x2 := hc.2.2.1
      have x3 := hc.2.2.2.1
      have x4 := hc.2.2.2.2.1
      have y0 := hc.2.2.2.2.2.1
      have y1 := hc.2.2.2.2.2.2.1
      have y2 := hc.2.2.2.2.2.2.2.1
      have y3 := hc.2.2.2.2.2.2.2.2.1
      have y4 := hc.2.2.2.2.2.2.2.2.2
      clear hc
      have hc := five HT1.out.h1
      have z0 := hc.1
      have z1 := hc.2.1
      have z2 := hc.2.2.1
      have z3 := hc.2.2.2.1
      have z4 := hc.2.2.2.2
      clear hc
      have hF := five (put5_new HT1.out.h0 (.int .i64 s.pos) (.bool s.gone) (.bool s.inside) (.int .i64 0) (.int .i64 0))
      have hB5 := put5_below HT1.out.below (B := w.heap.size) (Nat.le_refl _) (.int .i64 s.pos) (.bool s.gone) (.bool s.inside) (.int .i64 0) (.int .i64 0)
      have HF := Lib.hid hF
      have HB5 := Lib.hid hB5
      clear hF hB5
      go_wp2
      have hF := HF.out
      have hB5 := HB5.out
      unfold put5 at hF hB5
      refine bodyPost_ret (v := .tuple #[plV ⟨s.pos, s.gone, s.inside, 0, 0⟩, .int .i64 0]) ?_ rfl ⟨rfl, hB5⟩
      simp [results, Try.results7, go_sem, hF.1, hF.2.1, hF.2.2.1, hF.2.2.2.1, hF.2.2.2.2, plV]
end Go.Proofs.Ytnffgomgfabapaa.Rt
