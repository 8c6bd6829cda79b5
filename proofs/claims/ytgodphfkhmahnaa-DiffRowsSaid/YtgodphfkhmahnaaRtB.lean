/- Walk of route: put. -/
import Derived.Test.YtgodphfkhmahnaaRtMem
import Derived.Deep.RegionHeld
import Derived.Deep.RegionHeld3
namespace Go.Proofs.Ytgodphfkhmahnaa.Rt
open Go.RowKit Mem Sm
set_option linter.unusedVariables false

theorem sinfo : (Try.prog.info? 39).map (fun i => (i.zero, i.size, i.bytes)) = some (some (.slice none 0 0), 1, 24) := by kernel_rfl
/-- 'append(v, s)' of a slice in a region that draws its order -/
theorem step_app_sl {w : World} {ops : Array Oper} {o : Oper} {a : Act} {K : Act → World → Prop} {Q : Exit → Act → World → Prop} {E : Prop} (hgd : o.guard = none) (s x : Operand)
    (ho : o.op = .call { callee := .builtin .append, args := #[s, x], argTypes := #[32, 32] })
    (base : Nat) (v : Value) (n : Nat) (vs : List Value) (hs : a.eval s = v) (hown : w.ownsRow base 39 1 v n vs)
    (g : Nat) (u : Value) (hx : a.eval x = .slice (some ⟨g, 0, none⟩) 1 1) (hc : w.cell? ⟨g, 0, none⟩ = some u) (hu : u.oneCell' = true) (hbig : n ≤ 1000000) (hbase : base ≤ w.heap.size)
    (h : ∀ v' w', w'.ownsRow base 39 1 v' (n + 1) (vs ++ [u]) → w.grownBy w' v.ownBlock → (v'.ownBlock = v.ownBlock ∨ v'.ownBlock = some w.heap.size) → K (a.put o.dst v') w') :
    if Region.wanted o (yielded ops a.tmps) = true then Oper.wp Try.prog o a w K Q else E := by
  obtain ⟨i, hi, hiz, his, hib⟩ := info_parts sinfo
  have hw : Region.wanted o (yielded ops a.tmps) = true := by simp [Region.wanted, hgd]
  rw [if_pos hw]
  obtain ⟨v', w', hrun, h2, h3, _, h5⟩ := run_append_own_at (P := Try.prog) (w := w) base 32 o.type 39 i (.slice none 0 0) 1 24 Try.underlying32 hi hiz his hib rfl (by omega) v n vs hown ⟨g, 0, none⟩ 1 1 [u]
    rfl (fun j z hz => by
      have hj : j = 0 := by
        have := (List.getElem?_eq_some_iff.1 hz).1
        simpa using this
      subst hj
      simp at hz; subst hz
      simpa [Addr.add] using hc) (fun z hz => by simp at hz; subst hz; exact hu) (by simp only [maxLen]; omega) (by omega) hbase
  unfold Oper.wp
  simp [execOp, ho, resolve, invoke, builtin, hs, hx, hrun, Result.andThen]
  exact h v' w' h2 h3 h5
section
variable {base p : Nat} {W W' W'' : World} {v mp u v' : Value} {vs : List Value} {M : List (List Rg)} {mir : List (Int × Int)} {l : List Rg}
theorem RtAt.base_le (h : RtAt base W p v mp vs M mir) : base ≤ W.heap.size := by have := lt_some h.h0; have := h.hp; omega
theorem RtAt.below_row (h : RtAt base W p v mp vs M mir) {w : World} {A : Option Addr} {n : Nat} (hr : RRow w A n l) (hb : Below w.heap.size w W) : RRow W A n l := hr.below hb
theorem SlAt.of_own (h : Rgs base W u l) : SlAt W u l := by
  obtain ⟨A, c, e, hc, hr⟩ := h.row
  refine ⟨A, c, e, hr, fun hn => ?_⟩
  obtain ⟨b, o, e1, hl, _⟩ := hr.2 hn
  rw [e, e1] at h
  obtain ⟨_, _, cs, fr, hh⟩ := Rgs.block h b rfl
  exact ⟨b, o, cs, fr, e1, hh⟩
theorem SlAt.one (h : SlAt W u l) : u.oneCell' = true := by
  obtain ⟨A, c, rfl, _⟩ := h; rfl
theorem cell_one (h : RtAt base W p v mp vs M mir) (u : Value) : (W.alloc (.cells #[u] 39)).cell? ⟨W.heap.size, 0, none⟩ = some u := by rw [World.cell?_alloc_mark]; rfl
theorem own_not {i n : Nat} (h : W.ownsRow base 39 1 v n vs) {o : Obj} (h0 : W.heap[i]? = some o) (ht : ∀ cs fr, o ≠ .cells cs 39 fr) : some i ≠ v.ownBlock := by
  intro e
  rcases h.2 with ⟨rfl, _⟩ | ⟨g, cap, cur, rfl, _, hg, _⟩
  · cases e
  · simp only [Value.ownBlock, Option.some.injEq] at e
    subst e
    rw [h0] at hg; injection hg with hg; exact ht _ _ hg
theorem cells_ne {cs cs' : Array Value} {t t' : TypeId} {fr fr' : Nat × Nat} (h : t ≠ t') : Obj.cells cs t fr ≠ .cells cs' t' fr' := by
  intro e; injection e with _ e; exact h e
/-- appended to, not yet stored -/
structure RtAt2 (base : Nat) (W : World) (p : Nat) (v v' mp : Value) (vs : List Value) (M : List (List Rg)) (mir : List (Int × Int)) : Prop where
  hp : base ≤ p
  h0 : W.heap[p]? = some (.cells #[v, mp] 35 (0, 0))
  row : W.ownsRow base 39 1 v' M.length vs
  sls : Sls W vs M
  mps : MpAt base W mp mir
theorem RtAt.grow (h : RtAt base W p v mp vs M mir) (hu : SlAt W u l) (ho : W'.ownsRow base 39 1 v' (M.length + 1) (vs ++ [u])) (hg : W.grownBy W' v.ownBlock) : RtAt2 base W' p v v' mp (vs ++ [u]) (M ++ [l]) mir := by
  have hk : ∀ (k : Nat) (cs : Array Value) (fr : Nat × Nat), W.heap[k]? = some (.cells cs 78 fr) → W'.heap[k]? = some (.cells cs 78 fr) := fun k cs fr e => by
    rw [hg.block _ (lt_some e) (own_not h.row e (fun _ _ => cells_ne (by decide)))]; exact e
  refine ⟨h.hp, by rw [hg.block _ (lt_some h.h0) (own_not h.row h.h0 (fun _ _ => cells_ne (by decide)))]; exact h.h0, by rw [List.length_append]; exact ho, ⟨by simp [h.sls.1], fun i z m h1 h2 => ?_⟩, ?_⟩
  · rcases Nat.lt_trichotomy i M.length with hi | hi | hi
    · rw [List.getElem?_append_left (by rw [h.sls.1]; exact hi)] at h1
      rw [List.getElem?_append_left hi] at h2
      exact (h.sls.2 i z m h1 h2).keep hg.size hk
    · subst hi
      rw [List.getElem?_append_right (by rw [h.sls.1]; exact Nat.le_refl _), h.sls.1] at h1
      rw [List.getElem?_append_right (Nat.le_refl _)] at h2
      simp at h1 h2
      subst h1; subst h2
      exact hu.keep hg.size hk
    · rw [List.getElem?_eq_none (by simp; omega)] at h2; cases h2
  · rcases h.mps with hn | ⟨B, e1, e2, e3⟩
    · exact .inl hn
    · exact .inr ⟨B, e1, e2, by rw [hg.block _ (lt_some e3) (own_not h.row e3 (fun _ _ e => by cases e))]; exact e3⟩
theorem rowOf_at (h : RtAt base W p v mp vs M mir) : rowOf W p = v.ownBlock := by simp [rowOf, h.cells.1]
theorem RtAt.growF (h : RtAt base W p v mp vs M mir) (hg : W.grownBy W' v.ownBlock) (hv : v'.ownBlock = v.ownBlock ∨ v'.ownBlock = some W.heap.size) : RtF base p W (W'.setCell ⟨p, 0, none⟩ v') := by
  have hp0 : W'.heap[p]? = some (.cells #[v, mp] 35 (0, 0)) := by rw [hg.block _ (lt_some h.h0) (own_not h.row h.h0 (fun _ _ => cells_ne (by decide)))]; exact h.h0
  refine ⟨hg.os, hg.tape, hg.output, by have := hg.size; simpa [World.setCell] using this, fun k hk => ?_, fun k cs t fr e ht hne => ?_, fun _ k cs fr e hne hr => ?_, fun _ g e => ?_, fun k o e hb => ?_⟩
  · rw [Below.heap_setCell _ _ _ _ (by have := h.hp; simp only; omega)]
    refine hg.block k (by have := h.base_le; omega) (fun e => ?_)
    rcases h.row.2 with ⟨rfl, _⟩ | ⟨g, cap, cur, rfl, hb, _⟩
    · cases e
    · simp only [Value.ownBlock, Option.some.injEq] at e
      omega
  · rw [Below.heap_setCell _ _ _ _ hne, hg.block _ (lt_some e) (own_not h.row e (fun _ _ => cells_ne ht))]; exact e
  · rw [Below.heap_setCell _ _ _ _ hne, hg.block _ (lt_some e) (by rw [← rowOf_at h]; exact hr)]; exact e
  · have hc : (W'.setCell ⟨p, 0, none⟩ v').cell? ⟨p, 0, none⟩ = some v' := by simp [World.cell?, World.setCell, Array.getElem?_modify, hp0]
    have e' : v'.ownBlock = some g := by simpa [rowOf, hc] using e
    rw [rowOf_at h]
    rcases hv with hv | hv
    · rw [← hv]; exact .inl e'
    · rw [hv] at e'; injection e' with e'; exact .inr (by omega)
  · have hne : k ≠ p := by rintro rfl; rw [h.h0] at e; injection e with e; exact hb.1 _ _ _ e.symm
    rw [Below.heap_setCell _ _ _ _ hne, hg.block _ (lt_some e) (own_not h.row e (fun _ _ => hb.1 _ _ _))]; exact e
theorem RtAt2.cells (h : RtAt2 base W p v v' mp vs M mir) : W.cell? ⟨p, 0, none⟩ = some v ∧ W.frozen? ⟨p, 0, none⟩ = false := by
  refine ⟨?_, ?_⟩
  · simp [World.cell?, h.h0]
  · simp [World.frozen?, h.h0]
theorem RtAt2.form (h : RtAt2 base W p v v' mp vs M mir) : ∃ A c, v' = .slice A M.length c := by
  rcases h.row.2 with ⟨rfl, h0⟩ | ⟨g, cap, cur, rfl, _⟩
  · exact ⟨none, 0, by rw [h0]⟩
  · exact ⟨_, _, rfl⟩
theorem RtAt2.store (h : RtAt2 base W p v v' mp vs M mir) : RtAt base (W.setCell ⟨p, 0, none⟩ v') p v' mp vs M mir := by
  have hs : (W.setCell ⟨p, 0, none⟩ v').heap.size = W.heap.size := by simp [World.setCell]
  have hk : ∀ (k : Nat) (o : Obj), W.heap[k]? = some o → (∀ cs fr, o ≠ .cells cs 35 fr) → (W.setCell ⟨p, 0, none⟩ v').heap[k]? = some o := fun k o e ht => by
    rw [Below.heap_setCell _ _ _ _ (by rintro rfl; rw [h.h0] at e; injection e with e; exact ht _ _ e.symm)]; exact e
  refine ⟨h.hp, by simp [World.setCell, Array.getElem?_modify, h.h0], ⟨h.row.1, ?_⟩, h.sls.keep (Nat.le_of_eq hs.symm) (fun k cs fr e => hk k _ e (fun _ _ => cells_ne (by decide))), ?_⟩
  · rcases h.row.2 with hn | ⟨g, cap, cur, hv, h1, h2, r⟩
    · exact .inl hn
    · exact .inr ⟨g, cap, cur, hv, h1, hk g _ h2 (fun _ _ => cells_ne (by decide)), r⟩
  · rcases h.mps with hn | ⟨B, e1, e2, e3⟩
    · exact .inl hn
    · exact .inr ⟨B, e1, e2, hk B _ e3 (fun _ _ e => by cases e)⟩
end
set_option maxRecDepth 100000 in
set_option maxHeartbeats 4000000 in
theorem put_any (base p : Nat) (v mp : Value) (vs : List Value) (M : List (List Rg)) (mir : List (Int × Int)) (l : List Rg) (A : Option Addr) (n c : Nat) (W : World) (hM : M.length ≤ 1000) (hn : n ≤ 100)
    (h : RtAt base W p v mp vs M mir) (hr : RRow W A n l) :
    Calls Try.prog 42 #[.pointer (some ⟨p, 0, none⟩), .slice A n c] W fun e W' => (∃ x, e = .returned x) ∧ (∃ v' vs', RtAt base W' p v' mp vs' (M ++ [l]) mir) ∧ RtF base p W W' := by
  obtain ⟨A1, c1, hv⟩ := h.form
  subst hv
  have hbs := h.base_le
  have CC := fun W hr => clone_any l A n c W hn hr
  have HR := Lib.hid hr
  have HT : Hid (RtAt base W.drew p (.slice A1 M.length c1) mp vs M mir) := Lib.hid (h.step (below_drewN (Below.refl _ _) 1))
  have HB : Hid (Below W.heap.size W W.drew) := Lib.hid (below_drewN (Below.refl _ _) 1)
  clear h hr
  go_enter Try.func42, Try.ntmps42
  go_wp2_with fail
  refine wp_region_held_drew (S := fun _ => True) (by kernel_rfl) trivial (fun hHeld => ?_)
  generalize W.drew = W5 at HT HB ⊢
  refine tk 0 (v := ?_) rfl (by kernel_rfl) (fun _ _ _ h => h) ?_ hHeld ?_
  rotate_left
  · (intro W hSw; (try dsimp only at hSw); go_simp; try with_reducible rfl)
  refine tk 1 (v := ?_) rfl (by kernel_rfl) (fun _ _ _ h => h) ?_ hHeld ?_
  rotate_left
  · (intro W hSw; (try dsimp only at hSw); go_simp; try with_reducible rfl)
  refine tk 2 (v := ?_) rfl (by kernel_rfl) (fun _ _ _ h => h) ?_ hHeld ?_
  rotate_left
  · (intro W hSw; (try dsimp only at hSw); go_simp; try with_reducible rfl)
  refine tk 3 (v := ?_) rfl (by kernel_rfl) (fun _ _ _ h => h) ?_ hHeld ?_
  rotate_left
  · (intro W hSw; (try dsimp only at hSw); go_simp; try with_reducible rfl)
  refine tk 5 (v := ?_) rfl (by kernel_rfl) (fun _ _ _ h => h) ?_ hHeld ?_
  rotate_left
  · (intro W hSw; (try dsimp only at hSw); go_simp; try with_reducible rfl)
  refine wpAnyH_ready (rs := [4, 6]) (by kernel_rfl) (by simp) ?_
  refine AllReadyH.cons rfl (fun K hK => ?_) (AllReadyH.cons rfl (fun K hK => ?_) AllReadyH.nil)
  · have hc0 := HT.out.cells.1
    go_simp
    refine hK.out _ _ trivial (fun hHeld => ?_)
    clear hK K hc0
    refine wpAnyH_ready (rs := [6]) (by kernel_rfl) (by simp) ?_
    refine AllReadyH.cons rfl (fun K hK => ?_) AllReadyH.nil
    go_simp
    refine (CC _ (HT.out.below_row HR.out HB.out)).mono ?_
    rintro e W1 ⟨cv, rfl, ho, hb⟩
    obtain ⟨Ac, cc, hcv⟩ := ho.form
    subst hcv
    have HT1 := Lib.hid (HT.out.step hb)
    have HB1 := Lib.hid (HB.out.trans (hb.mono HB.out.size))
    have HC := Lib.hid (SlAt.of_own ho)
    clear hb ho hHeld
    go_wp2_with fail
    refine hK.out _ _ trivial (fun hHeld => ?_)
    clear hK K HT HB
    have HT := HT1
    have HB := HB1
    clear HT1 HB1
    refine wpAnyH_ready (rs := [7]) (by kernel_rfl) (by simp) ?_
    refine AllReadyH.cons rfl (fun K hK => ?_) AllReadyH.nil
    go_simp
    have HT2 := Lib.hid (HT.out.step ((Below.refl _ _).alloc (Nat.le_refl _) (.cells #[.slice Ac l.length cc] 39)))
    have HB2 := Lib.hid (HB.out.alloc HB.out.size (.cells #[.slice Ac l.length cc] 39))
    have HN := Lib.hid (cell_one HT.out (.slice Ac l.length cc))
    have HC2 := Lib.hid (HC.out.below ((Below.refl _ _).alloc (Nat.le_refl _) (.cells #[.slice Ac l.length cc] 39)))
    refine hK.out _ _ trivial (fun hHeld => ?_)
    clear hK K HT HB HC
    have HT := HT2
    have HB := HB2
    have HC := HC2
    clear HT2 HB2 HC2
    refine wpAnyH_ready (rs := [8]) (by kernel_rfl) (by simp) ?_
    refine AllReadyH.cons rfl (fun K hK => ?_) AllReadyH.nil
    refine step_app_sl (by rfl) (.tmp 8) (.tmp 11) (by rfl) base (.slice A1 M.length c1) M.length vs (by rfl) HT.out.row _ (.slice Ac l.length cc) (by rfl) HN.out (HC.out.one) (by omega) (HT.out.base_le) ?_
    intro v' W3 hown hg hv9
    have HT3 := Lib.hid (HT.out.grow HC.out hown hg)
    have HB3 := Lib.hid ((RtF.of_below HB.out hbs).trans (HT.out.growF hg hv9))
    clear hown hg hv9 HN
    refine hK.out _ _ trivial (fun hHeld => ?_)
    clear hK K
    refine tk 9 (v := ?_) rfl (by kernel_rfl) (fun _ _ _ h => h) ?_ hHeld ?_
    rotate_left
    · (intro W hSw; (try dsimp only at hSw); go_simp; try with_reducible rfl)
    refine tk 10 (v := ?_) rfl (by kernel_rfl) (fun _ _ _ h => h) ?_ hHeld ?_
    rotate_left
    · (intro W hSw; (try dsimp only at hSw); go_simp; try with_reducible rfl)
    refine wpAnyH_ready (rs := [11]) (by kernel_rfl) (by simp) ?_
    refine AllReadyH.cons rfl (fun K hK => ?_) AllReadyH.nil
    have hc0 := HT3.out.cells.1
    have hc1 := HT3.out.cells.2
    obtain ⟨A2, c2, hv2⟩ := HT3.out.form
    subst hv2
    go_simp
    have HZ := Lib.hid (HT3.out.store)
    have HF := HB3
    refine hK.out _ _ trivial (fun hHeld => ?_)
    clear hK K hHeld hc0 hc1
    refine wpAnyH_done (by kernel_rfl) ?_ _
    rw [show (M ++ [l]).length = M.length + 1 by simp] at HZ HF
    go_wp2_with fail
    go_end0
    exact ⟨⟨_, rfl⟩, ⟨_, _, HZ.out⟩, HF.out⟩
  · go_simp
    refine (CC _ (HT.out.below_row HR.out HB.out)).mono ?_
    rintro e W4 ⟨cv, rfl, ho, hb⟩
    obtain ⟨Ac, cc, hcv⟩ := ho.form
    subst hcv
    have HT4 := Lib.hid (HT.out.step hb)
    have HB4 := Lib.hid (HB.out.trans (hb.mono HB.out.size))
    have HC := Lib.hid (SlAt.of_own ho)
    clear hb ho hHeld
    go_wp2_with fail
    refine hK.out _ _ trivial (fun hHeld => ?_)
    clear hK K HT HB
    have HT := HT4
    have HB := HB4
    clear HT4 HB4
    refine wpAnyH_ready (rs := [4, 7]) (by kernel_rfl) (by simp) ?_
    refine AllReadyH.cons rfl (fun K hK => ?_) (AllReadyH.cons rfl (fun K hK => ?_) AllReadyH.nil)
    · have hc0 := HT.out.cells.1
      go_simp
      refine hK.out _ _ trivial (fun hHeld => ?_)
      clear hK K hc0
      refine wpAnyH_ready (rs := [7]) (by kernel_rfl) (by simp) ?_
      refine AllReadyH.cons rfl (fun K hK => ?_) AllReadyH.nil
      go_simp
      have HT5 := Lib.hid (HT.out.step ((Below.refl _ _).alloc (Nat.le_refl _) (.cells #[.slice Ac l.length cc] 39)))
      have HB5 := Lib.hid (HB.out.alloc HB.out.size (.cells #[.slice Ac l.length cc] 39))
      have HN := Lib.hid (cell_one HT.out (.slice Ac l.length cc))
      have HC5 := Lib.hid (HC.out.below ((Below.refl _ _).alloc (Nat.le_refl _) (.cells #[.slice Ac l.length cc] 39)))
      refine hK.out _ _ trivial (fun hHeld => ?_)
      clear hK K HT HB HC
      have HT := HT5
      have HB := HB5
      have HC := HC5
      clear HT5 HB5 HC5
      refine wpAnyH_ready (rs := [8]) (by kernel_rfl) (by simp) ?_
      refine AllReadyH.cons rfl (fun K hK => ?_) AllReadyH.nil
      refine step_app_sl (by rfl) (.tmp 8) (.tmp 11) (by rfl) base (.slice A1 M.length c1) M.length vs (by rfl) HT.out.row _ (.slice Ac l.length cc) (by rfl) HN.out (HC.out.one) (by omega) (HT.out.base_le) ?_
      intro v' W6 hown hg hv9
      have HT6 := Lib.hid (HT.out.grow HC.out hown hg)
      have HB6 := Lib.hid ((RtF.of_below HB.out hbs).trans (HT.out.growF hg hv9))
      clear hown hg hv9 HN
      refine hK.out _ _ trivial (fun hHeld => ?_)
      clear hK K
      refine tk 9 (v := ?_) rfl (by kernel_rfl) (fun _ _ _ h => h) ?_ hHeld ?_
      rotate_left
      · (intro W hSw; (try dsimp only at hSw); go_simp; try with_reducible rfl)
      refine tk 10 (v := ?_) rfl (by kernel_rfl) (fun _ _ _ h => h) ?_ hHeld ?_
      rotate_left
      · (intro W hSw; (try dsimp only at hSw); go_simp; try with_reducible rfl)
      refine wpAnyH_ready (rs := [11]) (by kernel_rfl) (by simp) ?_
      refine AllReadyH.cons rfl (fun K hK => ?_) AllReadyH.nil
      have hc0 := HT6.out.cells.1
      have hc1 := HT6.out.cells.2
      obtain ⟨A2, c2, hv2⟩ := HT6.out.form
      subst hv2
      go_simp
      have HZ := Lib.hid (HT6.out.store)
      have HF := HB6
      refine hK.out _ _ trivial (fun hHeld => ?_)
      clear hK K hHeld hc0 hc1
      refine wpAnyH_done (by kernel_rfl) ?_ _
      rw [show (M ++ [l]).length = M.length + 1 by simp] at HZ HF
      go_wp2_with fail
      go_end0
      exact ⟨⟨_, rfl⟩, ⟨_, _, HZ.out⟩, HF.out⟩
    · go_simp
      have HT7 := Lib.hid (HT.out.step ((Below.refl _ _).alloc (Nat.le_refl _) (.cells #[.slice Ac l.length cc] 39)))
      have HB7 := Lib.hid (HB.out.alloc HB.out.size (.cells #[.slice Ac l.length cc] 39))
      have HN := Lib.hid (cell_one HT.out (.slice Ac l.length cc))
      have HC7 := Lib.hid (HC.out.below ((Below.refl _ _).alloc (Nat.le_refl _) (.cells #[.slice Ac l.length cc] 39)))
      refine hK.out _ _ trivial (fun hHeld => ?_)
      clear hK K HT HB HC
      have HT := HT7
      have HB := HB7
      have HC := HC7
      clear HT7 HB7 HC7
      refine wpAnyH_ready (rs := [4]) (by kernel_rfl) (by simp) ?_
      refine AllReadyH.cons rfl (fun K hK => ?_) AllReadyH.nil
      have hc0 := HT.out.cells.1
      go_simp
      refine hK.out _ _ trivial (fun hHeld => ?_)
      clear hK K hc0
      refine wpAnyH_ready (rs := [8]) (by kernel_rfl) (by simp) ?_
      refine AllReadyH.cons rfl (fun K hK => ?_) AllReadyH.nil
      refine step_app_sl (by rfl) (.tmp 8) (.tmp 11) (by rfl) base (.slice A1 M.length c1) M.length vs (by rfl) HT.out.row _ (.slice Ac l.length cc) (by rfl) HN.out (HC.out.one) (by omega) (HT.out.base_le) ?_
      intro v' W8 hown hg hv9
      have HT8 := Lib.hid (HT.out.grow HC.out hown hg)
      have HB8 := Lib.hid ((RtF.of_below HB.out hbs).trans (HT.out.growF hg hv9))
      clear hown hg hv9 HN
      refine hK.out _ _ trivial (fun hHeld => ?_)
      clear hK K
      refine tk 9 (v := ?_) rfl (by kernel_rfl) (fun _ _ _ h => h) ?_ hHeld ?_
      rotate_left
      · (intro W hSw; (try dsimp only at hSw); go_simp; try with_reducible rfl)
      refine tk 10 (v := ?_) rfl (by kernel_rfl) (fun _ _ _ h => h) ?_ hHeld ?_
      rotate_left
      · (intro W hSw; (try dsimp only at hSw); go_simp; try with_reducible rfl)
      refine wpAnyH_ready (rs := [11]) (by kernel_rfl) (by simp) ?_
      refine AllReadyH.cons rfl (fun K hK => ?_) AllReadyH.nil
      have hc0 := HT8.out.cells.1
      have hc1 := HT8.out.cells.2
      obtain ⟨A2, c2, hv2⟩ := HT8.out.form
      subst hv2
      go_simp
      have HZ := Lib.hid (HT8.out.store)
      have HF := HB8
      refine hK.out _ _ trivial (fun hHeld => ?_)
      clear hK K hHeld hc0 hc1
      refine wpAnyH_done (by kernel_rfl) ?_ _
      rw [show (M ++ [l]).length = M.length + 1 by simp] at HZ HF
      go_wp2_with fail
      go_end0
      exact ⟨⟨_, rfl⟩, ⟨_, _, HZ.out⟩, HF.out⟩
end Go.Proofs.Ytgodphfkhmahnaa.Rt
