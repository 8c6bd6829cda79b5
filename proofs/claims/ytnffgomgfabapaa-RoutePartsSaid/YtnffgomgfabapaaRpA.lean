/- Route parts: a map is added to a route whose row is full: nothing else turns. -/
import Derived.Test.YtnffgomgfabapaaRpL
namespace Go.Proofs.Ytnffgomgfabapaa.Rt
open Go.RowKit Mem Sm
set_option linter.unusedVariables false
set_option linter.unusedSimpArgs false
theorem run_app_full {w : World} (ty : TypeId) {A : Option Addr} {n : Nat} {vs : List Value} (hr : VRow w A n vs) (hn : n ≤ 100000) {g : Nat} {u : Value} (hc : w.cell? ⟨g, 0, none⟩ = some u) :
    ∃ A' k' c' w', (Builtin.append_ #[41, 41] ty #[.slice A n n, .slice (some ⟨g, 0, none⟩) 1 1]).run Try.prog w = .ok (.slice A' k' c') w' ∧ Below w.heap.size w w' := by
  obtain ⟨i, hi, hiz, his, hib⟩ := info_parts sinfo
  have hnews : ∀ (j : Nat) (v : Value), [u][j]? = some v → w.cell? ((⟨g, 0, none⟩ : Addr).add j) = some v := fun j z hz => by
    have hj : j = 0 := by
      have := (List.getElem?_eq_some_iff.1 hz).1
      simpa using this
    subst hj
    simp at hz; subst hz
    simpa [Addr.add] using hc
  rcases A with _ | ⟨b, off, sp⟩
  · obtain ⟨h0, hvs⟩ := vrow_none (i := 0) hr
    subst h0
    refine ⟨_, _, _, _, run_append_nil (P := Try.prog) (w := w) 41 ty 34 i (.slice none 0 0) Try.underlying41 hi hiz ⟨g, 0, none⟩ 1 1 [u] (by rw [his]; rfl) hnews (by omega) (by omega) (by rw [hib]; omega), ?_⟩
    exact ((below_drewN (Below.refl w.heap.size w) 1).alloc (Nat.le_refl _) _)
  · have hold : ∀ (j : Nat) (v : Value), vs[j]? = some v → w.cell? ((⟨b, off, sp⟩ : Addr).add j) = some v := fun j z hz => by
      have hj := (List.getElem?_eq_some_iff.1 hz).1
      obtain ⟨b', off', e, _, hcc⟩ := hr.2 (by rw [← hr.1]; omega)
      injection e with e; injection e with e1 e2 e3
      subst e1; subst e2; subst e3
      rw [show (⟨b, off, none⟩ : Addr).add j = ⟨b, off + j, none⟩ by unfold Addr.add; split <;> simp_all]
      exact hcc j z hz
    refine ⟨_, _, _, _, run_append_grow (P := Try.prog) (w := w) 41 ty 34 i (.slice none 0 0) Try.underlying41 hi hiz ⟨b, off, sp⟩ n n vs (by rw [his, hr.1]; omega) hold ⟨g, 0, none⟩ 1 1 [u] (by rw [his]; rfl) hnews (by omega) (by omega) (growslice_fits (by omega) (by rw [hib]; omega)), ?_⟩
    exact ((below_drewN (Below.refl w.heap.size w) 1).alloc (Nat.le_refl _) _)
theorem ready_app_full {w : World} {ops : Array Oper} {o : Oper} {a : Act} {K : Act → World → Prop} {Q : Exit → Act → World → Prop} {E : Prop} (hgd : o.guard = none) (s x : Operand)
    (ho : o.op = .call { callee := .builtin .append, args := #[s, x], argTypes := #[41, 41] })
    (A : Option Addr) (n : Nat) (vs : List Value) (hs : a.eval s = .slice A n n) (hr : VRow w A n vs) (hn : n ≤ 100000)
    (g : Nat) (u : Value) (hx : a.eval x = .slice (some ⟨g, 0, none⟩) 1 1) (hc : w.cell? ⟨g, 0, none⟩ = some u)
    (h : ∀ A' k' c' w', Below w.heap.size w w' → K (a.put o.dst (.slice A' k' c')) w') :
    if Region.wanted o (yielded ops a.tmps) = true then Oper.wp Try.prog o a w K Q else E := by
  have hw : Region.wanted o (yielded ops a.tmps) = true := by simp [Region.wanted, hgd]
  rw [if_pos hw]
  obtain ⟨A', k', c', w', hrun, h2⟩ := run_app_full o.type hr hn hc
  unfold Oper.wp
  simp [execOp, ho, resolve, invoke, builtin, hs, hx, hrun, Result.andThen]
  exact h A' k' c' w' h2
set_option maxRecDepth 100000 in
set_option maxHeartbeats 1000000 in
theorem check2_any (base p : Nat) (Ap : Option Addr) (cp : Nat) (mp : Value) (vs : List Value) (M : List (List Rg)) (mir : List (Int × Int)) (l : List Rg) (A : Option Addr) (n c : Nat) (W : World) (hM : M.length ≤ 1000) (hn : n ≤ 100)
    (h : RdAt base W p Ap cp mp vs M mir) (hr : RRow W A n l) :
    Calls Try.prog 26 #[.pointer (some ⟨p, 0, none⟩), .slice A n c] W fun e W' => e = .returned (.int .i64 (chkE l)) ∧ Below W.heap.size W W' := by
  have CR := pright_any l A n c W hn (RLow.of hr)
  have HT := Lib.hid h
  obtain ⟨E, hE⟩ : ∃ x, x = chkE l := ⟨_, rfl⟩
  rw [← hE]
  have HE := Lib.hid hE
  obtain ⟨NL, hNL⟩ : ∃ x, x = M.length := ⟨_, rfl⟩
  have HNL := Lib.hid hNL
  have hM' : ¬ (5000 ≤ NL) := by omega
  clear h hr hE hNL hM
  go_enter Try.func26, Try.ntmps26
  go_wp2_with fail
  refine CR.mono ?_
  rintro e W1 ⟨rfl, hb⟩
  have HT1 := Lib.hid (HT.out.step hb)
  have HB1 := Lib.hid hb
  have hc := HT1.out.cells.1
  rw [← HNL.out] at hc
  clear hb CR HT
  cases hrb : rightB l with
  | false =>
    have e : E = 1 := by rw [HE.out, chkE, hrb]; simp
    subst e
    go_wp2
    go_ret
    exact ⟨rfl, HB1.out⟩
  | true =>
    have e : E = 0 := by rw [HE.out, chkE, hrb]; simp
    subst e
    go_wp2
    go_ret
    exact ⟨rfl, HB1.out⟩
set_option maxRecDepth 100000 in
set_option maxHeartbeats 4000000 in
theorem put2_any (base q : Nat) (Ap : Option Addr) (mp : Value) (vs : List Value) (M : List (List Rg)) (mir : List (Int × Int)) (l : List Rg) (A : Option Addr) (n c : Nat) (W : World) (hM : M.length ≤ 1000) (hn : n ≤ 100)
    (h : RdAt base W q Ap M.length mp vs M mir) (hr : RRow W A n l) :
    Calls Try.prog 27 #[.pointer (some ⟨q, 0, none⟩), .slice A n c] W fun e W' => (∃ x, e = .returned x) ∧ W.grownBy W' (some q) := by
  have CC := fun W hr => clone_any l A n c W hn hr
  have HR := Lib.hid hr
  have HQ : Hid (W.drew.heap[q]? = some (.cells #[.slice Ap M.length M.length, mp] 60 (0, 0))) := Lib.hid h.h0
  have HV := Lib.hid (h.row.below (below_drewN (Below.refl _ _) 1))
  have HB : Hid (Below W.heap.size W W.drew) := Lib.hid (below_drewN (Below.refl _ _) 1)
  have hc := h.cells.1
  have hs0 : W.drew.cell? ⟨q, 0, none⟩ = some (.slice Ap M.length M.length) := hc
  obtain ⟨m, hm⟩ : ∃ m, M.length = m := ⟨_, rfl⟩
  rw [hm] at HQ HV hs0 hM
  change Hid (VRow W.drew Ap m vs) at HV
  clear h hr hc hm
  go_enter Try.func27, Try.ntmps27
  go_wp2_with fail
  refine wp_region_held_drew (S := fun _ => True) (by kernel_rfl) trivial (fun hHeld => ?_)
  clear hs0
  generalize W.drew = Y0 at HQ HV HB hHeld ⊢
  refine tk 0 (v := ?_) rfl (by kernel_rfl) (fun _ _ _ h => h) ?_ hHeld ?_
  rotate_left
  · (intro W hSw; (try dsimp only at hSw); go_simp; try with_reducible rfl)
  refine tk 1 (v := ?_) rfl (by kernel_rfl) (fun _ _ _ h => h) ?_ hHeld ?_
  rotate_left
  · (intro W hSw; (try dsimp only at hSw); go_simp; try with_reducible rfl)
  refine tk 2 (v := ?_) rfl (by kernel_rfl) (fun _ _ _ h => h) ?_ hHeld ?_
  rotate_left
  · (intro W hSw; (try dsimp only at hSw); go_simp; try with_reducible rfl)
  refine tk 3 (v := ?_) rfl (by kernel_rfl) (fun _ _ _ h => h) ?_ hHeld ?_
  rotate_left
  · (intro W hSw; (try dsimp only at hSw); go_simp; try with_reducible rfl)
  refine tk 5 (v := ?_) rfl (by kernel_rfl) (fun _ _ _ h => h) ?_ hHeld ?_
  rotate_left
  · (intro W hSw; (try dsimp only at hSw); go_simp; try with_reducible rfl)
  refine wpAnyH_ready (rs := [4, 6]) (by kernel_rfl) (by simp) ?_
  refine AllReadyH.cons rfl (fun K hK => ?_) (AllReadyH.cons rfl (fun K hK => ?_) AllReadyH.nil)
  · have hc0 := (two HQ.out).1
    go_simp
    refine hK.out _ _ trivial (fun hHeld => ?_)
    clear hK K hc0
    refine wpAnyH_ready (rs := [6]) (by kernel_rfl) (by simp) ?_
    refine AllReadyH.cons rfl (fun K hK => ?_) AllReadyH.nil
    go_simp
    refine (CC _ (HR.out.below HB.out)).mono ?_
    rintro e Y1 ⟨cv, rfl, ho, hb⟩
    obtain ⟨Ac, cc, hcv⟩ := ho.form
    subst hcv
    have HQ1 := Lib.hid (hkeep hb HQ.out)
    have HV1 := Lib.hid (HV.out.below hb)
    have HB1 := Lib.hid (HB.out.trans (hb.mono HB.out.size))
    clear hb ho HQ HV HB
    have HQ := HQ1
    have HV := HV1
    have HB := HB1
    clear HQ1 HV1 HB1
    go_wp2_with fail
    refine hK.out _ _ trivial (fun hHeld => ?_)
    clear hK K
    refine wpAnyH_ready (rs := [7]) (by kernel_rfl) (by simp) ?_
    refine AllReadyH.cons rfl (fun K hK => ?_) AllReadyH.nil
    go_simp
    have hba := (Below.refl Y1.heap.size Y1).alloc (Nat.le_refl _) (.cells #[.slice Ac l.length cc] 34)
    have HQ1 := Lib.hid (hkeep hba HQ.out)
    have HV1 := Lib.hid (HV.out.below hba)
    have HB1 := Lib.hid (HB.out.trans (hba.mono HB.out.size))
    have HN : Hid ((Y1.alloc (.cells #[.slice Ac l.length cc] 34)).cell? ⟨Y1.heap.size, 0, none⟩ = some (.slice Ac l.length cc)) := Lib.hid (cell_box (heap_alloc_new Y1 (.cells #[.slice Ac l.length cc] 34)))
    clear hba HQ HV HB
    have HQ := HQ1
    have HV := HV1
    have HB := HB1
    clear HQ1 HV1 HB1
    refine hK.out _ _ trivial (fun hHeld => ?_)
    clear hK K
    generalize Y1.alloc (.cells #[.slice Ac l.length cc] 34) = Y2 at HQ HV HB HN ⊢
    generalize Y1.heap.size = GB at HN ⊢
    refine wpAnyH_ready (rs := [8]) (by kernel_rfl) (by simp) ?_
    refine AllReadyH.cons rfl (fun K hK => ?_) AllReadyH.nil
    refine ready_app_full (by rfl) (.tmp 8) (.tmp 11) (by rfl) Ap m vs (by rfl) HV.out (by omega) _ (.slice Ac l.length cc) (by rfl) HN.out ?_
    intro A9 k9 c9 W9 hb9
    have HQ9 := Lib.hid (hkeep hb9 HQ.out)
    have HB9 := Lib.hid (HB.out.trans (hb9.mono HB.out.size))
    clear hb9 HQ HV HB HN
    refine hK.out _ _ trivial (fun hHeld => ?_)
    clear hK K
    refine tk 9 (v := ?_) rfl (by kernel_rfl) (fun _ _ _ h => h) ?_ hHeld ?_
    rotate_left
    · (intro W hSw; (try dsimp only at hSw); go_simp; try with_reducible rfl)
    refine tk 10 (v := ?_) rfl (by kernel_rfl) (fun _ _ _ h => h) ?_ hHeld ?_
    rotate_left
    · (intro W hSw; (try dsimp only at hSw); go_simp; try with_reducible rfl)
    refine wpAnyH_ready (rs := [11]) (by kernel_rfl) (by simp) ?_
    refine AllReadyH.cons rfl (fun K hK => ?_) AllReadyH.nil
    obtain ⟨hq0, _, hqf, _⟩ := two HQ9.out
    go_simp
    refine hK.out _ _ trivial (fun hHeld => ?_)
    clear hK K hHeld hq0 hqf
    refine wpAnyH_done (by kernel_rfl) ?_ _
    go_wp2_with fail
    go_end0
    refine ⟨⟨_, rfl⟩, ?_⟩
    have h1 := HB9.out
    exact ⟨h1.os, h1.tape, h1.output, by have := h1.size; simpa [World.setCell] using this, fun k hk hne => by rw [Below.heap_setCell _ _ _ _ (fun e => hne (by rw [e])), h1.block k hk]⟩
  · go_simp
    refine (CC _ (HR.out.below HB.out)).mono ?_
    rintro e Y1 ⟨cv, rfl, ho, hb⟩
    obtain ⟨Ac, cc, hcv⟩ := ho.form
    subst hcv
    have HQ1 := Lib.hid (hkeep hb HQ.out)
    have HV1 := Lib.hid (HV.out.below hb)
    have HB1 := Lib.hid (HB.out.trans (hb.mono HB.out.size))
    clear hb ho HQ HV HB
    have HQ := HQ1
    have HV := HV1
    have HB := HB1
    clear HQ1 HV1 HB1
    go_wp2_with fail
    refine hK.out _ _ trivial (fun hHeld => ?_)
    clear hK K
    refine wpAnyH_ready (rs := [4, 7]) (by kernel_rfl) (by simp) ?_
    refine AllReadyH.cons rfl (fun K hK => ?_) (AllReadyH.cons rfl (fun K hK => ?_) AllReadyH.nil)
    · have hc0 := (two HQ.out).1
      go_simp
      refine hK.out _ _ trivial (fun hHeld => ?_)
      clear hK K hc0
      refine wpAnyH_ready (rs := [7]) (by kernel_rfl) (by simp) ?_
      refine AllReadyH.cons rfl (fun K hK => ?_) AllReadyH.nil
      go_simp
      have hba := (Below.refl Y1.heap.size Y1).alloc (Nat.le_refl _) (.cells #[.slice Ac l.length cc] 34)
      have HQ1 := Lib.hid (hkeep hba HQ.out)
      have HV1 := Lib.hid (HV.out.below hba)
      have HB1 := Lib.hid (HB.out.trans (hba.mono HB.out.size))
      have HN : Hid ((Y1.alloc (.cells #[.slice Ac l.length cc] 34)).cell? ⟨Y1.heap.size, 0, none⟩ = some (.slice Ac l.length cc)) := Lib.hid (cell_box (heap_alloc_new Y1 (.cells #[.slice Ac l.length cc] 34)))
      clear hba HQ HV HB
      have HQ := HQ1
      have HV := HV1
      have HB := HB1
      clear HQ1 HV1 HB1
      refine hK.out _ _ trivial (fun hHeld => ?_)
      clear hK K
      generalize Y1.alloc (.cells #[.slice Ac l.length cc] 34) = Y2 at HQ HV HB HN ⊢
      generalize Y1.heap.size = GB at HN ⊢
      refine wpAnyH_ready (rs := [8]) (by kernel_rfl) (by simp) ?_
      refine AllReadyH.cons rfl (fun K hK => ?_) AllReadyH.nil
      refine ready_app_full (by rfl) (.tmp 8) (.tmp 11) (by rfl) Ap m vs (by rfl) HV.out (by omega) _ (.slice Ac l.length cc) (by rfl) HN.out ?_
      intro A9 k9 c9 W9 hb9
      have HQ9 := Lib.hid (hkeep hb9 HQ.out)
      have HB9 := Lib.hid (HB.out.trans (hb9.mono HB.out.size))
      clear hb9 HQ HV HB HN
      refine hK.out _ _ trivial (fun hHeld => ?_)
      clear hK K
      refine tk 9 (v := ?_) rfl (by kernel_rfl) (fun _ _ _ h => h) ?_ hHeld ?_
      rotate_left
      · (intro W hSw; (try dsimp only at hSw); go_simp; try with_reducible rfl)
      refine tk 10 (v := ?_) rfl (by kernel_rfl) (fun _ _ _ h => h) ?_ hHeld ?_
      rotate_left
      · (intro W hSw; (try dsimp only at hSw); go_simp; try with_reducible rfl)
      refine wpAnyH_ready (rs := [11]) (by kernel_rfl) (by simp) ?_
      refine AllReadyH.cons rfl (fun K hK => ?_) AllReadyH.nil
      obtain ⟨hq0, _, hqf, _⟩ := two HQ9.out
      go_simp
      refine hK.out _ _ trivial (fun hHeld => ?_)
      clear hK K hHeld hq0 hqf
      refine wpAnyH_done (by kernel_rfl) ?_ _
      go_wp2_with fail
      go_end0
      refine ⟨⟨_, rfl⟩, ?_⟩
      have h1 := HB9.out
      exact ⟨h1.os, h1.tape, h1.output, by have := h1.size; simpa [World.setCell] using this, fun k hk hne => by rw [Below.heap_setCell _ _ _ _ (fun e => hne (by rw [e])), h1.block k hk]⟩
    · go_simp
      have hba := (Below.refl Y1.heap.size Y1).alloc (Nat.le_refl _) (.cells #[.slice Ac l.length cc] 34)
      have HQ1 := Lib.hid (hkeep hba HQ.out)
      have HV1 := Lib.hid (HV.out.below hba)
      have HB1 := Lib.hid (HB.out.trans (hba.mono HB.out.size))
      have HN : Hid ((Y1.alloc (.cells #[.slice Ac l.length cc] 34)).cell? ⟨Y1.heap.size, 0, none⟩ = some (.slice Ac l.length cc)) := Lib.hid (cell_box (heap_alloc_new Y1 (.cells #[.slice Ac l.length cc] 34)))
      clear hba HQ HV HB
      have HQ := HQ1
      have HV := HV1
      have HB := HB1
      clear HQ1 HV1 HB1
      refine hK.out _ _ trivial (fun hHeld => ?_)
      clear hK K
      generalize Y1.alloc (.cells #[.slice Ac l.length cc] 34) = Y2 at HQ HV HB HN ⊢
      generalize Y1.heap.size = GB at HN ⊢
      refine wpAnyH_ready (rs := [4]) (by kernel_rfl) (by simp) ?_
      refine AllReadyH.cons rfl (fun K hK => ?_) AllReadyH.nil
      have hc0 := (two HQ.out).1
      go_simp
      refine hK.out _ _ trivial (fun hHeld => ?_)
      clear hK K hc0
      refine wpAnyH_ready (rs := [8]) (by kernel_rfl) (by simp) ?_
      refine AllReadyH.cons rfl (fun K hK => ?_) AllReadyH.nil
      refine ready_app_full (by rfl) (.tmp 8) (.tmp 11) (by rfl) Ap m vs (by rfl) HV.out (by omega) _ (.slice Ac l.length cc) (by rfl) HN.out ?_
      intro A9 k9 c9 W9 hb9
      have HQ9 := Lib.hid (hkeep hb9 HQ.out)
      have HB9 := Lib.hid (HB.out.trans (hb9.mono HB.out.size))
      clear hb9 HQ HV HB HN
      refine hK.out _ _ trivial (fun hHeld => ?_)
      clear hK K
      refine tk 9 (v := ?_) rfl (by kernel_rfl) (fun _ _ _ h => h) ?_ hHeld ?_
      rotate_left
      · (intro W hSw; (try dsimp only at hSw); go_simp; try with_reducible rfl)
      refine tk 10 (v := ?_) rfl (by kernel_rfl) (fun _ _ _ h => h) ?_ hHeld ?_
      rotate_left
      · (intro W hSw; (try dsimp only at hSw); go_simp; try with_reducible rfl)
      refine wpAnyH_ready (rs := [11]) (by kernel_rfl) (by simp) ?_
      refine AllReadyH.cons rfl (fun K hK => ?_) AllReadyH.nil
      obtain ⟨hq0, _, hqf, _⟩ := two HQ9.out
      go_simp
      refine hK.out _ _ trivial (fun hHeld => ?_)
      clear hK K hHeld hq0 hqf
      refine wpAnyH_done (by kernel_rfl) ?_ _
      go_wp2_with fail
      go_end0
      refine ⟨⟨_, rfl⟩, ?_⟩
      have h1 := HB9.out
      exact ⟨h1.os, h1.tape, h1.output, by have := h1.size; simpa [World.setCell] using this, fun k hk hne => by rw [Below.heap_setCell _ _ _ _ (fun e => hne (by rw [e])), h1.block k hk]⟩
theorem grown_of_below {W W' : World} (hb : Below W.heap.size W W') (row : Option Nat) : W.grownBy W' row := ⟨hb.os, hb.tape, hb.output, hb.size, fun k hk _ => hb.block k hk⟩
set_option maxRecDepth 100000 in
set_option maxHeartbeats 1000000 in
theorem padd2_any (base q : Nat) (Ap : Option Addr) (mp : Value) (vs : List Value) (M : List (List Rg)) (mir : List (Int × Int)) (l : List Rg) (A : Option Addr) (n c : Nat) (W : World) (hM : M.length ≤ 1000) (hn : n ≤ 100)
    (h : RdAt base W q Ap M.length mp vs M mir) (hr : RRow W A n l) :
    Calls Try.prog 8 #[.pointer (some ⟨q, 0, none⟩), .slice A n c] W fun e W' => (∃ x, e = .returned x) ∧ W.grownBy W' (some q) := by
  have CC := check2_any base q Ap M.length mp vs M mir l A n c W hM hn h hr
  have HT := Lib.hid h
  have HR := Lib.hid hr
  clear h hr
  cases hrb : rightB l with
  | false =>
    rw [show chkE l = 1 by rw [chkE, hrb]; simp] at CC
    go_enter Try.func8, Try.ntmps8
    go_wp2_with fail
    refine CC.mono ?_
    rintro e W1 ⟨rfl, hb⟩
    have HB := Lib.hid hb
    clear hb CC HT HR
    go_wp2
    go_ret
    exact ⟨⟨_, rfl⟩, grown_of_below HB.out _⟩
  | true =>
    rw [show chkE l = 0 by rw [chkE, hrb]; simp] at CC
    go_enter Try.func8, Try.ntmps8
    go_wp2_with fail
    refine CC.mono ?_
    rintro e W1 ⟨rfl, hb⟩
    have HB := Lib.hid hb
    have CP := put2_any base q Ap mp vs M mir l A n c W1 hM hn (HT.out.step hb) (HR.out.below hb)
    clear hb CC HT HR
    go_wp2_with fail
    refine CP.mono ?_
    rintro e W2 ⟨⟨x, rfl⟩, hg2⟩
    have HG := Lib.hid (show W.grownBy W2 (some q) from ⟨hg2.os.trans HB.out.os, hg2.tape.trans HB.out.tape, hg2.output.trans HB.out.output, Nat.le_trans HB.out.size hg2.size, fun k hk hne => by rw [hg2.block k (Nat.lt_of_lt_of_le hk HB.out.size) hne, HB.out.block k hk]⟩)
    clear hg2 CP HB
    go_wp2
    go_ret
    exact ⟨⟨_, rfl⟩, HG.out⟩
end Go.Proofs.Ytnffgomgfabapaa.Rt
