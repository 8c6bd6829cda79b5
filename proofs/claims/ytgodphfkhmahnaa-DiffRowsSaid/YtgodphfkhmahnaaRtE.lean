/- Walks of route: bind. -/
import Derived.Test.YtgodphfkhmahnaaRtD
namespace Go.Proofs.Ytgodphfkhmahnaa.Rt
open Go.RowKit Mem Sm
set_option linter.unusedVariables false
set_option maxRecDepth 100000 in
set_option maxHeartbeats 4000000 in
theorem bind_any (base p : Nat) (v mp : Value) (vs : List Value) (M : List (List Rg)) (mir : List (Int × Int)) (one other : Int) (W : World) (hn : ∀ q ∈ mir, q.1 ≠ one ∧ q.1 ≠ other) (hne : one ≠ other) (h : RtAt base W p v mp vs M mir) :
    Calls Try.prog 41 #[.pointer (some ⟨p, 0, none⟩), .int .i64 one, .int .i64 other] W fun e W' => (∃ x, e = .returned x) ∧ (∃ mp', RtAt base W' p v mp' vs M (mir ++ [(one, other)] ++ [(other, one)])) ∧ RtF base p W W' := by
  have hbs := h.base_le
  have hform := h.mps
  rcases hform with ⟨rfl, rfl⟩ | ⟨B, rfl, hB, hB2⟩
  · have he := eql_map 33 3 3 Try.underlying33 none W
    simp only [Option.isNone_none] at he
    have HT0 := Lib.hid h
    have hc := h.cells
    obtain ⟨hc0, hc1, hc2, hc3⟩ := hc
    have hd := (h.step ((Below.refl _ _).alloc (Nat.le_refl _) (.map #[] 0))).cells
    obtain ⟨hd0, hd1, hd2, hd3⟩ := hd
    clear h
    have hmk : (Instr.makeMap 33 none).run Try.prog W = .ok (.map (some W.heap.size)) (W.alloc (.map #[] 0)) := by rfl
    go_enter Try.func41, Try.ntmps41
    go_wp2_with fail
    have HT := Lib.hid (HT0.out.newMap hbs).1
    have HF := Lib.hid (HT0.out.newMap hbs).2
    generalize hmir : ([] : List (Int × Int)) = mir at hn HT
    have HN := Lib.hid hmir
    clear hmir
    clear he HT0 hc0 hc1 hc2 hc3 hd0 hd1 hd2 hd3 hmk
    generalize W.heap.size = B at *
    generalize ((W.alloc (.map #[] 0)).setCell ⟨p, 1, none⟩ (.map (some B))) = W4 at HT HF ⊢
    refine wp_region_held_drew (S := fun w => w.cell? ⟨p, 1, none⟩ = some (.map (some B))) (by kernel_rfl) (HT.out.step (below_drewN (Below.refl _ _) 1)).cells.2.1 (fun hHeld => ?_)
    have HT5 : Hid (RtAt base W4.drew p v (.map (some B)) vs M mir) := Lib.hid (HT.out.step (below_drewN (Below.refl _ _) 1))
    have HF5 : Hid (RtF base p W W4.drew) := Lib.hid (HF.out.trans (RtF.of_below (below_drewN (Below.refl _ _) 1) (by have := HT.out.base_le; exact this)))
    clear HT HF
    generalize W4.drew = W5 at HT5 HF5 hHeld ⊢
    refine tk 0 (v := ?_) rfl (by kernel_rfl) (fun _ _ _ h => h) ?_ hHeld ?_
    rotate_left
    · (intro W hSw; (try dsimp only at hSw); go_simp; try with_reducible rfl)
    refine tk 1 (v := ?_) rfl (by kernel_rfl) (fun _ _ _ h => h) ?_ hHeld ?_
    rotate_left
    · (intro W hSw; (try dsimp only at hSw); go_simp; try with_reducible rfl)
    refine tk 2 (v := ?_) rfl (by kernel_rfl) (fun _ _ _ h => h) ?_ hHeld ?_
    rotate_left
    · (intro W hSw; (try dsimp only at hSw); go_simp; try with_reducible rfl)
    refine tk 3 (v := ?_) rfl (by kernel_rfl) (fun _ _ _ h => h) ?_ hHeld ?_
    rotate_left
    · (intro W hSw; (try dsimp only at hSw); go_simp; try with_reducible rfl)
    refine tk 4 (v := ?_) rfl (by kernel_rfl) (fun _ _ _ h => h) ?_ hHeld ?_
    rotate_left
    · (intro W hSw; (try dsimp only at hSw); go_simp; try with_reducible rfl)
    refine tk 5 (v := ?_) rfl (by kernel_rfl) (fun _ _ _ h => h) ?_ hHeld ?_
    rotate_left
    · (intro W hSw; (try dsimp only at hSw); go_simp; try with_reducible rfl)
    refine tk 6 (v := ?_) rfl (by kernel_rfl) (fun _ _ _ h => h) ?_ hHeld ?_
    rotate_left
    · (intro W hSw; (try dsimp only at hSw); go_simp; try with_reducible rfl)
    refine tk 7 (v := ?_) rfl (by kernel_rfl) (fun _ _ _ h => h) ?_ hHeld ?_
    rotate_left
    · (intro W hSw; (try dsimp only at hSw); go_simp; try with_reducible rfl)
    refine tk 8 (v := ?_) rfl (by kernel_rfl) (fun _ _ _ h => h) ?_ hHeld ?_
    rotate_left
    · (intro W hSw; (try dsimp only at hSw); go_simp; try with_reducible rfl)
    refine tk 9 (v := ?_) rfl (by kernel_rfl) (fun _ _ _ h => h) ?_ hHeld ?_
    rotate_left
    · (intro W hSw; (try dsimp only at hSw); go_simp; try with_reducible rfl)
    refine tk 10 (v := ?_) rfl (by kernel_rfl) (fun _ _ _ h => h) ?_ hHeld ?_
    rotate_left
    · (intro W hSw; (try dsimp only at hSw); go_simp; try with_reducible rfl)
    refine tk 11 (v := ?_) rfl (by kernel_rfl) (fun _ _ _ h => h) ?_ hHeld ?_
    rotate_left
    · (intro W hSw; (try dsimp only at hSw); go_simp; try with_reducible rfl)
    have hE := entry_new (P := Try.prog) (e := 3) Try.underlying33 Try.underlying3 (by go_simp; try rfl) mir HT5.out.block.2 one (fun q hq => (hn q hq).1)
    have HT6 := Lib.hid (HT5.out.putB (mir ++ [(one, 0)]))
    have HF6 := Lib.hid (HF5.out.trans (HT5.out.putBF (entB (mir ++ [(one, 0)]))))
    refine wpAnyH_ready (rs := [12]) (by kernel_rfl) (by simp) ?_
    refine AllReadyH.cons rfl (fun K hK => ?_) AllReadyH.nil
    go_simp
    refine hK.out _ _ HT6.out.cells.2.1 (fun hHeld => ?_)
    clear hK K hE HT5 HF5
    generalize setB W5 B _ = W6 at HT6 HF6 hHeld ⊢
    refine tk 13 (v := ?_) rfl (by kernel_rfl) (fun _ _ _ h => h) ?_ hHeld ?_
    rotate_left
    · (intro W hSw; (try dsimp only at hSw); go_simp; try with_reducible rfl)
    have hE := entry_store (P := Try.prog) (t := 33) mir [] (one, 0) HT6.out.block.2 other
    have HT7 := Lib.hid (HT6.out.putB (mir ++ [(one, other)]))
    have HF7 := Lib.hid (HF6.out.trans (HT6.out.putBF (entB (mir ++ [(one, other)]))))
    refine wpAnyH_ready (rs := [14]) (by kernel_rfl) (by simp) ?_
    refine AllReadyH.cons rfl (fun K hK => ?_) AllReadyH.nil
    go_simp
    refine hK.out _ _ HT7.out.cells.2.1 (fun hHeld => ?_)
    clear hK K hE HT6 HF6
    generalize setB W6 B _ = W7 at HT7 HF7 hHeld ⊢
    have hn2 : ∀ q ∈ mir ++ [(one, other)], q.1 ≠ other := fun q hq => (List.mem_append.1 hq).elim (fun g => (hn q g).2) (fun g => by rw [List.mem_singleton.1 g]; exact hne)
    generalize hmir2 : mir ++ [(one, other)] = mir2 at HT7 hn2
    have HM := Lib.hid hmir2
    clear hmir2
    have hE := entry_new (P := Try.prog) (e := 3) Try.underlying33 Try.underlying3 (by go_simp; try rfl) mir2 HT7.out.block.2 other hn2
    have HT8 := Lib.hid (HT7.out.putB (mir2 ++ [(other, 0)]))
    have HF8 := Lib.hid (HF7.out.trans (HT7.out.putBF (entB (mir2 ++ [(other, 0)]))))
    refine wpAnyH_ready (rs := [15]) (by kernel_rfl) (by simp) ?_
    refine AllReadyH.cons rfl (fun K hK => ?_) AllReadyH.nil
    go_simp
    refine hK.out _ _ HT8.out.cells.2.1 (fun hHeld => ?_)
    clear hK K hE HT7 HF7
    generalize setB W7 B _ = W8 at HT8 HF8 hHeld ⊢
    refine tk 16 (v := ?_) rfl (by kernel_rfl) (fun _ _ _ h => h) ?_ hHeld ?_
    rotate_left
    · (intro W hSw; (try dsimp only at hSw); go_simp; try with_reducible rfl)
    have hE := entry_store (P := Try.prog) (t := 33) mir2 [] (other, 0) HT8.out.block.2 one
    have HT9 := Lib.hid (HT8.out.putB (mir2 ++ [(other, one)]))
    have HF9 := Lib.hid (HF8.out.trans (HT8.out.putBF (entB (mir2 ++ [(other, one)]))))
    refine wpAnyH_ready (rs := [17]) (by kernel_rfl) (by simp) ?_
    refine AllReadyH.cons rfl (fun K hK => ?_) AllReadyH.nil
    go_simp
    refine hK.out _ _ HT9.out.cells.2.1 (fun hHeld => ?_)
    clear hK K hE HT8 HF8 hHeld
    generalize setB W8 B _ = W9 at HT9 HF9 ⊢
    refine wpAnyH_done (by kernel_rfl) ?_ _
    go_wp2_with fail
    go_end0
    exact ⟨⟨_, rfl⟩, ⟨_, by have hx := HT9.out; rw [← HM.out, ← HN.out] at hx; simpa using hx⟩, HF9.out⟩
  · have he := eql_map 33 3 3 Try.underlying33 (some B) W
    simp only [Option.isNone_some] at he
    have HT := Lib.hid h
    have HF := Lib.hid (RtF.refl base p W)
    have hc := h.cells
    obtain ⟨hc0, hc1, hc2, hc3⟩ := hc
    clear h hB hB2
    go_enter Try.func41, Try.ntmps41
    go_wp2_with fail
    clear he hc0 hc1 hc2 hc3
    refine wp_region_held_drew (S := fun w => w.cell? ⟨p, 1, none⟩ = some (.map (some B))) (by kernel_rfl) (HT.out.step (below_drewN (Below.refl _ _) 1)).cells.2.1 (fun hHeld => ?_)
    have HT5 : Hid (RtAt base W.drew p v (.map (some B)) vs M mir) := Lib.hid (HT.out.step (below_drewN (Below.refl _ _) 1))
    have HF5 : Hid (RtF base p W W.drew) := Lib.hid (HF.out.trans (RtF.of_below (below_drewN (Below.refl _ _) 1) (by have := HT.out.base_le; exact this)))
    clear HT HF
    generalize W.drew = W5 at HT5 HF5 hHeld ⊢
    refine tk 0 (v := ?_) rfl (by kernel_rfl) (fun _ _ _ h => h) ?_ hHeld ?_
    rotate_left
    · (intro W hSw; (try dsimp only at hSw); go_simp; try with_reducible rfl)
    refine tk 1 (v := ?_) rfl (by kernel_rfl) (fun _ _ _ h => h) ?_ hHeld ?_
    rotate_left
    · (intro W hSw; (try dsimp only at hSw); go_simp; try with_reducible rfl)
    refine tk 2 (v := ?_) rfl (by kernel_rfl) (fun _ _ _ h => h) ?_ hHeld ?_
    rotate_left
    · (intro W hSw; (try dsimp only at hSw); go_simp; try with_reducible rfl)
    refine tk 3 (v := ?_) rfl (by kernel_rfl) (fun _ _ _ h => h) ?_ hHeld ?_
    rotate_left
    · (intro W hSw; (try dsimp only at hSw); go_simp; try with_reducible rfl)
    refine tk 4 (v := ?_) rfl (by kernel_rfl) (fun _ _ _ h => h) ?_ hHeld ?_
    rotate_left
    · (intro W hSw; (try dsimp only at hSw); go_simp; try with_reducible rfl)
    refine tk 5 (v := ?_) rfl (by kernel_rfl) (fun _ _ _ h => h) ?_ hHeld ?_
    rotate_left
    · (intro W hSw; (try dsimp only at hSw); go_simp; try with_reducible rfl)
    refine tk 6 (v := ?_) rfl (by kernel_rfl) (fun _ _ _ h => h) ?_ hHeld ?_
    rotate_left
    · (intro W hSw; (try dsimp only at hSw); go_simp; try with_reducible rfl)
    refine tk 7 (v := ?_) rfl (by kernel_rfl) (fun _ _ _ h => h) ?_ hHeld ?_
    rotate_left
    · (intro W hSw; (try dsimp only at hSw); go_simp; try with_reducible rfl)
    refine tk 8 (v := ?_) rfl (by kernel_rfl) (fun _ _ _ h => h) ?_ hHeld ?_
    rotate_left
    · (intro W hSw; (try dsimp only at hSw); go_simp; try with_reducible rfl)
    refine tk 9 (v := ?_) rfl (by kernel_rfl) (fun _ _ _ h => h) ?_ hHeld ?_
    rotate_left
    · (intro W hSw; (try dsimp only at hSw); go_simp; try with_reducible rfl)
    refine tk 10 (v := ?_) rfl (by kernel_rfl) (fun _ _ _ h => h) ?_ hHeld ?_
    rotate_left
    · (intro W hSw; (try dsimp only at hSw); go_simp; try with_reducible rfl)
    refine tk 11 (v := ?_) rfl (by kernel_rfl) (fun _ _ _ h => h) ?_ hHeld ?_
    rotate_left
    · (intro W hSw; (try dsimp only at hSw); go_simp; try with_reducible rfl)
    have hE := entry_new (P := Try.prog) (e := 3) Try.underlying33 Try.underlying3 (by go_simp; try rfl) mir HT5.out.block.2 one (fun q hq => (hn q hq).1)
    have HT6 := Lib.hid (HT5.out.putB (mir ++ [(one, 0)]))
    have HF6 := Lib.hid (HF5.out.trans (HT5.out.putBF (entB (mir ++ [(one, 0)]))))
    refine wpAnyH_ready (rs := [12]) (by kernel_rfl) (by simp) ?_
    refine AllReadyH.cons rfl (fun K hK => ?_) AllReadyH.nil
    go_simp
    refine hK.out _ _ HT6.out.cells.2.1 (fun hHeld => ?_)
    clear hK K hE HT5 HF5
    generalize setB W5 B _ = W6 at HT6 HF6 hHeld ⊢
    refine tk 13 (v := ?_) rfl (by kernel_rfl) (fun _ _ _ h => h) ?_ hHeld ?_
    rotate_left
    · (intro W hSw; (try dsimp only at hSw); go_simp; try with_reducible rfl)
    have hE := entry_store (P := Try.prog) (t := 33) mir [] (one, 0) HT6.out.block.2 other
    have HT7 := Lib.hid (HT6.out.putB (mir ++ [(one, other)]))
    have HF7 := Lib.hid (HF6.out.trans (HT6.out.putBF (entB (mir ++ [(one, other)]))))
    refine wpAnyH_ready (rs := [14]) (by kernel_rfl) (by simp) ?_
    refine AllReadyH.cons rfl (fun K hK => ?_) AllReadyH.nil
    go_simp
    refine hK.out _ _ HT7.out.cells.2.1 (fun hHeld => ?_)
    clear hK K hE HT6 HF6
    generalize setB W6 B _ = W7 at HT7 HF7 hHeld ⊢
    have hn2 : ∀ q ∈ mir ++ [(one, other)], q.1 ≠ other := fun q hq => (List.mem_append.1 hq).elim (fun g => (hn q g).2) (fun g => by rw [List.mem_singleton.1 g]; exact hne)
    generalize hmir2 : mir ++ [(one, other)] = mir2 at HT7 hn2
    have HM := Lib.hid hmir2
    clear hmir2
    have hE := entry_new (P := Try.prog) (e := 3) Try.underlying33 Try.underlying3 (by go_simp; try rfl) mir2 HT7.out.block.2 other hn2
    have HT8 := Lib.hid (HT7.out.putB (mir2 ++ [(other, 0)]))
    have HF8 := Lib.hid (HF7.out.trans (HT7.out.putBF (entB (mir2 ++ [(other, 0)]))))
    refine wpAnyH_ready (rs := [15]) (by kernel_rfl) (by simp) ?_
    refine AllReadyH.cons rfl (fun K hK => ?_) AllReadyH.nil
    go_simp
    refine hK.out _ _ HT8.out.cells.2.1 (fun hHeld => ?_)
    clear hK K hE HT7 HF7
    generalize setB W7 B _ = W8 at HT8 HF8 hHeld ⊢
    refine tk 16 (v := ?_) rfl (by kernel_rfl) (fun _ _ _ h => h) ?_ hHeld ?_
    rotate_left
    · (intro W hSw; (try dsimp only at hSw); go_simp; try with_reducible rfl)
    have hE := entry_store (P := Try.prog) (t := 33) mir2 [] (other, 0) HT8.out.block.2 one
    have HT9 := Lib.hid (HT8.out.putB (mir2 ++ [(other, one)]))
    have HF9 := Lib.hid (HF8.out.trans (HT8.out.putBF (entB (mir2 ++ [(other, one)]))))
    refine wpAnyH_ready (rs := [17]) (by kernel_rfl) (by simp) ?_
    refine AllReadyH.cons rfl (fun K hK => ?_) AllReadyH.nil
    go_simp
    refine hK.out _ _ HT9.out.cells.2.1 (fun hHeld => ?_)
    clear hK K hE HT8 HF8 hHeld
    generalize setB W8 B _ = W9 at HT9 HF9 ⊢
    refine wpAnyH_done (by kernel_rfl) ?_ _
    go_wp2_with fail
    go_end0
    exact ⟨⟨_, rfl⟩, ⟨_, by have hx := HT9.out; rw [← HM.out] at hx; simpa using hx⟩, HF9.out⟩
end Go.Proofs.Ytgodphfkhmahnaa.Rt
