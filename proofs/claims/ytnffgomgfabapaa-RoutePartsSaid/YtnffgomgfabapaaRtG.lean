/- Walks of route: a map of the route is read; recovered. -/
import Derived.Test.YtnffgomgfabapaaRtF
import Derived.Test.YtnffgomgfabapaaSmK
import Derived.OwnWalk
namespace Go.Proofs.Ytnffgomgfabapaa.Rt
open Go.RowKit Mem Sm
set_option linter.unusedVariables false

theorem RtAt.nth {base p : Nat} {W : World} {v mp : Value} {vs : List Value} {M : List (List Rg)} {mir : List (Int × Int)} (h : RtAt base W p v mp vs M mir) {j : Nat} (hj : j < M.length) :
    ∃ g cap A c, v = .slice (some ⟨g, 0, none⟩) M.length cap ∧ M.length ≤ cap ∧ W.cell? ⟨g, j, none⟩ = some (.slice A (M[j]).length c) ∧ RRow W A (M[j]).length M[j] := by
  rcases h.row.2 with ⟨_, h0⟩ | ⟨g, cap, cur, hv, h1, h2, h3, h4, h5, h6⟩
  · omega
  · obtain ⟨u, hu⟩ : ∃ u, vs[j]? = some u := ⟨_, List.getElem?_eq_getElem (by rw [h.sls.1]; exact hj)⟩
    obtain ⟨A, c, e, hr, _⟩ := h.sls.2 j u M[j] hu (List.getElem?_eq_getElem hj)
    refine ⟨g, cap, A, c, hv, h3, ?_, hr⟩
    rw [← e]
    have : cur[j]? = some u := by
      rw [← hu, ← h6, List.getElem?_take_of_lt (by omega)]
      simp
    simp [World.cell?, h2, this]
theorem below_cell {W W' : World} (hb : Below W.heap.size W W') {a : Addr} {u : Value} (h : W.cell? a = some u) : W'.cell? a = some u := by
  have hl := World.block_lt_of_cell? W a h
  have hk := hb.block _ hl
  simp only [World.cell?, hk] at h ⊢
  exact h
/-- a position whose token is gone goes on behind the mirror -/
noncomputable def recR (M : List (List Rg)) (mir : List (Int × Int)) (i : Int) (q : Pl) : Int × Int × Bool :=
  match lk mir i with
  | none => (0, 0, false)
  | some j => if q.gone = true ∧ i ≤ j then (recN (M.getD j.toNat []) q.rng q.off, j, recB (M.getD j.toNat []) q.rng q.off) else (0, 0, false)
set_option maxRecDepth 100000 in
set_option maxHeartbeats 4000000 in
theorem recovered_any (base p : Nat) (v mp : Value) (vs : List Value) (M : List (List Rg)) (mir : List (Int × Int)) (i : Int) (q : Pl) (W : World) (hM : M.length ≤ 1000) (hm : ∀ m ∈ M, m.length ≤ 100) (hmir : ∀ x ∈ mir, 0 ≤ x.2 ∧ x.2 < M.length)
    (h : RtAt base W p v mp vs M mir) :
    Calls Try.prog 25 #[.pointer (some ⟨p, 0, none⟩), .int .i64 i, plV q] W fun e W' => e = .returned (.tuple #[.int .i64 (recR M mir i q).1, .int .i64 (recR M mir i q).2.1, .bool (recR M mir i q).2.2]) ∧ Below W.heap.size W W' := by
  obtain ⟨qp, qg, qi, qr, qo⟩ := q
  unfold plV
  simp only
  have HB := Lib.hid ((Below.refl _ W).alloc (Nat.le_refl _) (.cells #[.int .i64 qp, .bool qg, .bool qi, .int .i64 qr, .int .i64 qo] 27))
  have HT := Lib.hid (h.step HB.out)
  have hn := heap_alloc_new W (.cells #[.int .i64 qp, .bool qg, .bool qi, .int .i64 qr, .int .i64 qo] 27)
  have hsz : (W.alloc (.cells #[.int .i64 qp, .bool qg, .bool qi, .int .i64 qr, .int .i64 qo] 27)).heap.size = W.heap.size + 1 := by simp
  obtain ⟨R, hRR⟩ : ∃ R, R = recR M mir i ⟨qp, qg, qi, qr, qo⟩ := ⟨_, rfl⟩
  rw [← hRR]
  have HRR := Lib.hid hRR
  clear h hRR
  go_enter Try.func25, Try.ntmps25
  obtain ⟨W0, hW0⟩ : ∃ W0, W0 = W.alloc (.cells #[.int .i64 qp, .bool qg, .bool qi, .int .i64 qr, .int .i64 qo] 27) := ⟨_, rfl⟩
  go_upto_region 1 with fail
  rw [← hW0] at hn HB HT hsz ⊢
  clear hW0
  have hq1 : W0.cell? ⟨W.heap.size, 1, none⟩ = some (.bool qg) := by simp [World.cell?, hn]
  have hq3 : W0.cell? ⟨W.heap.size, 3, none⟩ = some (.int .i64 qr) := by simp [World.cell?, hn]
  have hq4 : W0.cell? ⟨W.heap.size, 4, none⟩ = some (.int .i64 qo) := by simp [World.cell?, hn]
  have hLk := look_mp (P := Try.prog) (e := 3) Try.underlying58 Try.underlying3 (by go_simp; try rfl) HT.out.mps i
  obtain ⟨hc0, hc1, _, _⟩ := HT.out.cells
  cases hl : lk mir i with
  | none =>
    rw [hl] at hLk
    simp only [Option.isSome_none, Option.getD_none] at hLk
    have hR : recR M mir i ⟨qp, qg, qi, qr, qo⟩ = (0, 0, false) := by unfold recR; rw [hl]
    have HR := Lib.hid (HRR.out.trans hR)
    clear hR
    cases qg <;> (go_wp2; go_ret3; exact ⟨by rw [HR.out]; rfl, HB.out⟩)
  | some j =>
    rw [hl] at hLk
    simp only [Option.isSome_some, Option.getD_some] at hLk
    by_cases hg : qg = true ∧ i ≤ j
    · obtain ⟨rfl, hij⟩ := hg
      have hji : ¬ j < i := by omega
      have hR : recR M mir i ⟨qp, true, qi, qr, qo⟩ = (recN (M.getD j.toNat []) qr qo, j, recB (M.getD j.toNat []) qr qo) := by unfold recR; rw [hl]; simp [hij]
      have hjj := hmir _ (lk_some hl)
      simp only at hjj
      obtain ⟨k, rfl⟩ : ∃ k : Nat, j = k := ⟨j.toNat, by omega⟩
      have hkM : k < M.length := by omega
      obtain ⟨g, cap, A, c, hv, hcap, hcell, hrow⟩ := HT.out.nth hkM
      subst hv
      have hgd : M.getD ((k : Int)).toNat [] = M[k] := by simp [List.getD, hkM]
      rw [hgd] at hR
      have HR := Lib.hid (HRR.out.trans hR)
      clear hR
      have HRW := Lib.hid hrow
      go_wp2_with fail
      have HT5 : Hid (RtAt base W0.drew p _ mp vs M mir) := Lib.hid (HT.out.step (below_drewN (Below.refl _ _) 1))
      have HB5 : Hid (Below W.heap.size W W0.drew) := Lib.hid (below_drewN HB.out 1)
      have hS : W0.drew.cell? ⟨p, 0, none⟩ = some (.slice (some ⟨g, 0, none⟩) M.length cap) ∧ W0.drew.cell? ⟨g, k, none⟩ = some (.slice A (M[k]).length c) ∧ W0.drew.cell? ⟨W.heap.size, 3, none⟩ = some (.int .i64 qr) ∧ W0.drew.cell? ⟨W.heap.size, 4, none⟩ = some (.int .i64 qo) := ⟨hc0, hcell, hq3, hq4⟩
      have HRW5 : Hid (RRow W0.drew A (M[k]).length M[k]) := Lib.hid (HRW.out.below (below_drewN (Below.refl _ _) 1))
      have hln : (M[k]).length ≤ 100 := hm _ (List.getElem_mem hkM)
      refine wp_region_held_drew (S := fun w => w.cell? ⟨p, 0, none⟩ = some (.slice (some ⟨g, 0, none⟩) M.length cap) ∧ w.cell? ⟨g, k, none⟩ = some (.slice A (M[k]).length c) ∧ w.cell? ⟨W.heap.size, 3, none⟩ = some (.int .i64 qr) ∧ w.cell? ⟨W.heap.size, 4, none⟩ = some (.int .i64 qo)) (by kernel_rfl) hS (fun hHeld => ?_)
      clear hS
      generalize W0.drew = W5 at HT5 HB5 HRW5 hHeld ⊢
      refine tk 0 (v := ?_) rfl (by kernel_rfl) (fun _ _ _ h => h) ?_ hHeld ?_
      rotate_left
      · (intro W hSw; (try dsimp only at hSw); (try obtain ⟨hs1, hs2, hs3, hs4⟩ := hSw); go_simp; try with_reducible rfl)
      refine tk 1 (v := ?_) rfl (by kernel_rfl) (fun _ _ _ h => h) ?_ hHeld ?_
      rotate_left
      · (intro W hSw; (try dsimp only at hSw); (try obtain ⟨hs1, hs2, hs3, hs4⟩ := hSw); go_simp; try with_reducible rfl)
      refine tk 2 (v := ?_) rfl (by kernel_rfl) (fun _ _ _ h => h) ?_ hHeld ?_
      rotate_left
      · (intro W hSw; (try dsimp only at hSw); (try obtain ⟨hs1, hs2, hs3, hs4⟩ := hSw); go_simp; try with_reducible rfl)
      refine tk 3 (v := ?_) rfl (by kernel_rfl) (fun _ _ _ h => h) ?_ hHeld ?_
      rotate_left
      · (intro W hSw; (try dsimp only at hSw); (try obtain ⟨hs1, hs2, hs3, hs4⟩ := hSw); go_simp; try with_reducible rfl)
      refine tk 4 (v := ?_) rfl (by kernel_rfl) (fun _ _ _ h => h) ?_ hHeld ?_
      rotate_left
      · (intro W hSw; (try dsimp only at hSw); (try obtain ⟨hs1, hs2, hs3, hs4⟩ := hSw); go_simp; try with_reducible rfl)
      refine tk 5 (v := ?_) rfl (by kernel_rfl) (fun _ _ _ h => h) ?_ hHeld ?_
      rotate_left
      · (intro W hSw; (try dsimp only at hSw); (try obtain ⟨hs1, hs2, hs3, hs4⟩ := hSw); go_simp; try with_reducible rfl)
      refine tk 6 (v := ?_) rfl (by kernel_rfl) (fun _ _ _ h => h) ?_ hHeld ?_
      rotate_left
      · (intro W hSw; (try dsimp only at hSw); (try obtain ⟨hs1, hs2, hs3, hs4⟩ := hSw); go_simp; try with_reducible rfl)
      refine tk 7 (v := ?_) rfl (by kernel_rfl) (fun _ _ _ h => h) ?_ hHeld ?_
      rotate_left
      · (intro W hSw; (try dsimp only at hSw); (try obtain ⟨hs1, hs2, hs3, hs4⟩ := hSw); go_simp; try with_reducible rfl)
      refine tk 8 (v := ?_) rfl (by kernel_rfl) (fun _ _ _ h => h) ?_ hHeld ?_
      rotate_left
      · (intro W hSw; (try dsimp only at hSw); (try obtain ⟨hs1, hs2, hs3, hs4⟩ := hSw); go_simp; try with_reducible rfl)
      refine tk 9 (v := ?_) rfl (by kernel_rfl) (fun _ _ _ h => h) ?_ hHeld ?_
      rotate_left
      · (intro W hSw; (try dsimp only at hSw); (try obtain ⟨hs1, hs2, hs3, hs4⟩ := hSw); go_simp; try with_reducible rfl)
      refine tk 10 (v := ?_) rfl (by kernel_rfl) (fun _ _ _ h => h) ?_ hHeld ?_
      rotate_left
      · (intro W hSw; (try dsimp only at hSw); (try obtain ⟨hs1, hs2, hs3, hs4⟩ := hSw); go_simp; try with_reducible rfl)
      refine wpAnyH_ready (rs := [11]) (by kernel_rfl) (by simp) ?_
      refine AllReadyH.cons rfl (fun K hK => ?_) AllReadyH.nil
      go_simp
      refine (precover_any M[k] A _ c qr qo W5 hln (RLow.of HRW5.out)).mono ?_
      rintro e W6 ⟨rfl, hb6⟩
      have hS6 := And.intro (below_cell hb6 hHeld.1) (And.intro (below_cell hb6 hHeld.2.1) (And.intro (below_cell hb6 hHeld.2.2.1) (below_cell hb6 hHeld.2.2.2)))
      have HB6 := Lib.hid (HB5.out.trans (hb6.mono HB5.out.size))
      clear hb6 HT5 HB5 HRW5 hHeld
      go_wp2_with fail
      refine hK.out _ _ hS6 (fun hHeld => ?_)
      clear hK K hS6
      refine tk 12 (v := ?_) rfl (by kernel_rfl) (fun _ _ _ h => h) ?_ hHeld ?_
      rotate_left
      · (intro W hSw; (try dsimp only at hSw); go_simp; try with_reducible rfl)
      refine tk 13 (v := ?_) rfl (by kernel_rfl) (fun _ _ _ h => h) ?_ hHeld ?_
      rotate_left
      · (intro W hSw; (try dsimp only at hSw); go_simp; try with_reducible rfl)
      refine tk 14 (v := ?_) rfl (by kernel_rfl) (fun _ _ _ h => h) ?_ hHeld ?_
      rotate_left
      · (intro W hSw; (try dsimp only at hSw); go_simp; try with_reducible rfl)
      have hS7 := hHeld
      refine wpAnyH_ready (rs := [15]) (by kernel_rfl) (by simp) ?_
      refine AllReadyH.cons rfl (fun K hK => ?_) AllReadyH.nil
      go_simp
      refine hK.out _ _ hS7 (fun hHeld => ?_)
      clear hK K
      refine wpAnyH_ready (rs := [16]) (by kernel_rfl) (by simp) ?_
      refine AllReadyH.cons rfl (fun K hK => ?_) AllReadyH.nil
      go_simp
      refine hK.out _ _ hS7 (fun hHeld => ?_)
      clear hK K hS7 hHeld
      refine wpAnyH_done (by kernel_rfl) ?_ _
      go_wp2_with fail
      go_ret3
      exact ⟨by rw [HR.out]; rfl, HB6.out⟩
    · have hR : recR M mir i ⟨qp, qg, qi, qr, qo⟩ = (0, 0, false) := by unfold recR; rw [hl]; simp only; rw [if_neg hg]
      have HR := Lib.hid (HRR.out.trans hR)
      clear hR
      cases qg with
      | false => go_wp2; go_ret3; exact ⟨by rw [HR.out]; rfl, HB.out⟩
      | true =>
        have hji : j < i := by
          rcases Int.lt_or_le j i with g | g
          · exact g
          · exact absurd ⟨rfl, g⟩ hg
        clear hg
        go_wp2
        go_ret3
        exact ⟨by rw [HR.out]; rfl, HB.out⟩
end Go.Proofs.Ytnffgomgfabapaa.Rt
