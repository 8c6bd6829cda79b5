/- Diffs: what isn't kept comes new. -/
import Derived.Test.YtgodphfkhmahnaaDfPa
import Derived.Test.YtgodphfkhmahnaaReg
import Derived.OrdersHeld
namespace Go.Proofs.Ytgodphfkhmahnaa.Df
open Go.RowKit Mem Sm Rt Tk Pp
set_option linter.unusedVariables false
set_option linter.unusedSimpArgs false
/-- what lies in the boxes of Parts: how much is laid, the parts, the second row -/
structure BX (w W : World) (lb pb bb laid : Nat) (v s : Value) (xs : List PX) (ps : List Pt) : Prop where
  b : Below w.heap.size w W
  l : W.heap[lb]? = some (.cells #[.int .i64 laid] 3 (0, 0))
  p : W.heap[pb]? = some (.cells #[v] 66 (0, 0))
  m : W.heap[bb]? = some (.cells #[s] 22 (0, 0))
  lo : w.heap.size ≤ lb ∧ w.heap.size ≤ pb
  r : Rep w.heap.size W v xs ps
section
variable {w W W' : World} {lb pb bb laid : Nat} {v v' s : Value} {xs : List PX} {ps : List Pt}
theorem BX.step (h : BX w W lb pb bb laid v s xs ps) (hb : Below W.heap.size W W') : BX w W' lb pb bb laid v s xs ps :=
  ⟨h.b.trans (hb.mono h.b.size), hkeep hb h.l, hkeep hb h.p, hkeep hb h.m, h.lo, h.r.step hb⟩
theorem hne_ty {W : World} {q k : Nat} {cs cs' : Array Value} {t t' : TypeId} {fr fr' : Nat × Nat} (h : W.heap[q]? = some (.cells cs t fr)) (h' : W.heap[k]? = some (.cells cs' t' fr')) (hn : t ≠ t') : k ≠ q := by
  rintro rfl
  rw [h] at h'
  injection h' with h'
  injection h' with _ h6 _
  exact hn h6
theorem BX.lay (h : BX w W lb pb bb laid v s xs ps) (tw : Nat) : BX w (W.setCell ⟨lb, 0, none⟩ (.int .i64 tw)) lb pb bb tw v s xs ps :=
  ⟨h.b.setCell (p := ⟨lb, 0, none⟩) h.lo.1 _, by rw [set_at h.l]; rfl, by rw [set_else (hne_ty h.l h.p (by decide))]; exact h.p, by rw [set_else (hne_ty h.l h.m (by decide))]; exact h.m, h.lo, h.r.other (grown_set1 W lb 0 _) h.l (by decide) (by decide)⟩
theorem BX.more (h : BX w W lb pb bb laid v s xs ps) {p : Pt} {x : PX} (hg : W.grownBy W' v.ownBlock) (ho : Pts w.heap.size W' v' (ps ++ [p])) (hp : p.o = x.o ∧ p.f = x.f ∧ p.t = x.t ∧ Tks w.heap.size W (.slice p.A p.n p.c) x.ts) : BX w (W'.setCell ⟨pb, 0, none⟩ v') lb pb bb laid v' s (xs ++ [x]) (ps ++ [p]) ∧ W'.cell? ⟨pb, 0, none⟩ = some v ∧ W'.frozen? ⟨pb, 0, none⟩ = false ∧ W'.cell? ⟨lb, 0, none⟩ = some (.int .i64 laid) ∧ W'.cell? ⟨bb, 0, none⟩ = some s ∧ W'.heap[pb]? = some (.cells #[v] 66 (0, 0)) := by
  have hK : ∀ (k : Nat) (cs : Array Value) (t : TypeId) (fr : Nat × Nat), W.heap[k]? = some (.cells cs t fr) → t ≠ 75 → W'.heap[k]? = some (.cells cs t fr) := by
    intro k cs t fr e hne
    rw [hg.block k (lt_some e) (fun g => ?_)]
    · exact e
    · obtain ⟨_, _, cs', fr', hh⟩ := h.r.r.block _ g.symm
      rw [e] at hh
      injection hh with hh
      injection hh with _ h6 _
      exact hne h6
  have h1 := hK _ _ _ _ h.l (by decide)
  have h2 := hK _ _ _ _ h.p (by decide)
  have h3 := hK _ _ _ _ h.m (by decide)
  have hb := below_of_grown h.b hg h.b.size (fun i e => (h.r.r.block i e).1)
  refine ⟨⟨hb.setCell (p := ⟨pb, 0, none⟩) h.lo.2 _, by rw [set_else (hne_ty h2 h1 (by decide))]; exact h1, by rw [set_at h2]; rfl, by rw [set_else (hne_ty h2 h3 (by decide))]; exact h3, h.lo, (h.r.push hg ho hp).other (grown_set1 W' pb 0 _) h2 (by decide) (by decide)⟩, ?_, ?_, ?_, ?_, h2⟩
  · simp [World.cell?, h2]
  · simp [World.frozen?, h2]
  · simp [World.cell?, h1]
  · simp [World.cell?, h3]
theorem BX.cells (h : BX w W lb pb bb laid v s xs ps) : W.cell? ⟨lb, 0, none⟩ = some (.int .i64 laid) ∧ W.frozen? ⟨lb, 0, none⟩ = false ∧ W.cell? ⟨pb, 0, none⟩ = some v ∧ W.frozen? ⟨pb, 0, none⟩ = false ∧ W.cell? ⟨bb, 0, none⟩ = some s := by
  refine ⟨?_, ?_, ?_, ?_, ?_⟩
  · simp [World.cell?, h.l]
  · simp [World.frozen?, h.l]
  · simp [World.cell?, h.p]
  · simp [World.frozen?, h.p]
  · simp [World.cell?, h.m]
end
theorem pt_one (w : World) (p : Pt) : PRow (w.alloc (.cells #[.bool p.o, .int .i64 p.f, .int .i64 p.t, .slice p.A p.n p.c] 75)) (some ⟨w.heap.size, 0, none⟩) 1 [p] := by
  refine ⟨rfl, fun _ => ⟨_, 0, rfl, by simp, fun j hj => ?_⟩⟩
  obtain rfl : j = 0 := by simpa using hj
  intro k v hk
  rw [World.cell?_alloc_mark]
  have hk4 : k < 4 := by
    have := (List.getElem?_eq_some_iff.1 hk).1
    rwa [pcells_length] at this
  rcases (show k = 0 ∨ k = 1 ∨ k = 2 ∨ k = 3 by omega) with rfl | rfl | rfl | rfl
  all_goals (simp [pcells] at hk ⊢; exact hk)
/-- 'append(v, ys...)' of parts in a region that draws its order -/
theorem step_app_pt {w : World} {ops : Array Oper} {o : Oper} {a : Act} {K : Act → World → Prop} {Q : Exit → Act → World → Prop} {E : Prop} (hgd : o.guard = none) (s x : Operand)
    (ho : o.op = .call { callee := .builtin .append, args := #[s, x], argTypes := #[66, 66] })
    (base : Nat) (v : Value) (l : List Pt) (hs : a.eval s = v) (hown : Pts base w v l)
    (A : Option Addr) (m c : Nat) (y : List Pt) (hx : a.eval x = .slice A m c) (hr : PRow w A m y) (hbig : l.length + m ≤ 1000000000) (hbase : base ≤ w.heap.size)
    (h : ∀ v' w', Pts base w' v' (l ++ y) → w.grownBy w' v.ownBlock → (v'.ownBlock = v.ownBlock ∨ v'.ownBlock = some w.heap.size) → K (a.put o.dst v') w') :
    if Region.wanted o (yielded ops a.tmps) = true then Oper.wp Try.prog o a w K Q else E := by
  have hw : Region.wanted o (yielded ops a.tmps) = true := by simp [Region.wanted, hgd]
  rw [if_pos hw]
  obtain ⟨v', w', hrun, h2, h3, h4⟩ := run_app_pt o.type hown c hr hbig hbase
  unfold Oper.wp
  simp [execOp, ho, resolve, invoke, builtin, hs, hx, hrun, Result.andThen]
  exact h v' w' h2 h3 h4
/-- blocks of a type are as they were -/
def KeepsT (t : TypeId) (W W' : World) : Prop := ∀ (k : Nat) (cs : Array Value) (fr : Nat × Nat), W.heap[k]? = some (.cells cs t fr) → W'.heap[k]? = some (.cells cs t fr)
theorem KeepsT.refl (t : TypeId) (W : World) : KeepsT t W W := fun _ _ _ h => h
theorem KeepsT.below {t : TypeId} {W W1 W2 : World} (h : KeepsT t W W1) (hb : Below W1.heap.size W1 W2) : KeepsT t W W2 := fun k cs fr e => hkeep hb (h k cs fr e)
theorem KeepsT.grown {t t' : TypeId} {W W1 W2 : World} (h : KeepsT t W W1) {row : Option Nat} (hg : W1.grownBy W2 row) (hr : ∀ g, row = some g → ∃ cs fr, W1.heap[g]? = some (.cells cs t' fr)) (hne : t ≠ t') : KeepsT t W W2 := fun k cs fr e => by
  have h1 := h k cs fr e
  rw [hg.block k (lt_some h1) (fun g => ?_)]
  · exact h1
  · obtain ⟨cs', fr', hh⟩ := hr _ g.symm
    rw [h1] at hh
    injection hh with hh
    injection hh with _ h6 _
    exact hne h6
def newX (m : List Tk.Tk) (a b : Nat) : PX := ⟨false, 0, 0, cut m a b⟩
set_option maxRecDepth 100000 in
set_option maxHeartbeats 4000000 in
theorem renew_any (m : List Tk.Tk) (B : Option Addr) (n' c' : Nat) (lb pb bb laid tw : Nat) (v : Value) (xs : List PX) (ps : List Pt) (w W : World) (h1 : laid ≤ tw) (h2 : tw ≤ n') (h3 : n' ≤ 150) (hc : n' ≤ c') (hps : ps.length ≤ 10000) (hr : TRow w B n' m) (h : BX w W lb pb bb laid v (.slice B n' c') xs ps) :
    Calls Try.prog 61 #[.int .i64 tw, .pointer (some ⟨lb, 0, none⟩), .pointer (some ⟨pb, 0, none⟩), .pointer (some ⟨bb, 0, none⟩)] W fun e W' => e = .returned (.tuple #[]) ∧
      ((laid = tw ∧ BX w W' lb pb bb tw v (.slice B n' c') xs ps) ∨ (laid < tw ∧ ∃ v' p, BX w W' lb pb bb tw v' (.slice B n' c') (xs ++ [newX m laid tw]) (ps ++ [p]))) ∧ KeepsT 117 W W' := by
  have HX := Lib.hid h
  have HR := Lib.hid hr
  obtain ⟨c0, f0, c1, f1, c2⟩ := h.cells
  clear h hr
  by_cases hlt : laid < tw
  · have j0 : (laid : Int) < (tw : Int) := by omega
    have j1 : (0 : Int) ≤ (laid : Int) := by omega
    have j2 : (laid : Int) ≤ (tw : Int) := by omega
    have j3 : (tw : Int) ≤ (c' : Int) := by omega
    have hcl : ¬ c' = laid := by omega
    have HP := Lib.hid (fun (W' : World) (hb : Below w.heap.size w W') => put_pt (cut m laid tw) (B.map (·.add (laid * 12))) (tw - laid) (c' - laid) W' (by omega) (by
      have t := trow_cut (hr := HR.out.below hb) hc (f := laid) (h := tw) h1 h2
      unfold cutA at t
      rw [if_neg hcl] at t
      exact t))
    clear h1 h2 h3 hc
    go_enter Try.func61, Try.ntmps61
    go_wp2_with fail
    have HL9 := Lib.hid hlt
    clear hlt
    refine wp_region_held_drew (S := fun W => W.cell? ⟨bb, 0, none⟩ = some (.slice B n' c') ∧ W.cell? ⟨lb, 0, none⟩ = some (.int .i64 laid)) (by kernel_rfl) ⟨c2, c0⟩ (fun hHeld => ?_)
    have HXd := Lib.hid (HX.out.step (below_drewN (Below.refl _ W) 1))
    change Hid (BX w W.drew lb pb bb laid v (.slice B n' c') xs ps) at HXd
    clear HX
    have HX := HXd
    clear HXd c0 f0 c1 f1 c2
    have HKT : Hid (KeepsT 117 W W.drew) := Lib.hid (KeepsT.refl _ _)
    generalize W.drew = W1 at HX hHeld HKT ⊢
    refine tk 1 (v := ?_) rfl (by kernel_rfl) (fun _ _ _ h => h) ?_ hHeld ?_
    rotate_left
    · (intro W hSw; (try dsimp only at hSw); obtain ⟨hs1, hs2⟩ := hSw; go_simp; try with_reducible rfl)
    refine tk 2 (v := ?_) rfl (by kernel_rfl) (fun _ _ _ h => h) ?_ hHeld ?_
    rotate_left
    · (intro W hSw; (try dsimp only at hSw); obtain ⟨hs1, hs2⟩ := hSw; go_simp; try with_reducible rfl)
    refine tk 3 (v := ?_) rfl (by kernel_rfl) (fun _ _ _ h => h) ?_ hHeld ?_
    rotate_left
    · (intro W hSw; (try dsimp only at hSw); obtain ⟨hs1, hs2⟩ := hSw; go_simp; try with_reducible rfl)
    refine tk 4 (v := ?_) rfl (by kernel_rfl) (fun _ _ _ h => h) ?_ hHeld ?_
    rotate_left
    · (intro W hSw; (try dsimp only at hSw); obtain ⟨hs1, hs2⟩ := hSw; go_simp; try with_reducible rfl)
    refine wpAnyH_ready (rs := [0, 5]) (by kernel_rfl) (by simp) ?_
    refine AllReadyH.cons rfl (fun K hK => ?_) (AllReadyH.cons rfl (fun K hK => ?_) AllReadyH.nil)
    · have hc0 := HX.out.cells.2.2.1
      go_simp
      refine hK.out _ _ ⟨HX.out.cells.2.2.2.2, HX.out.cells.1⟩ (fun hHeld => ?_)
      clear hK K hc0
      refine wpAnyH_ready (rs := [5]) (by kernel_rfl) (by simp) ?_
      refine AllReadyH.cons rfl (fun K hK => ?_) AllReadyH.nil
      go_simp
      refine (HP.out _ HX.out.b).mono ?_
      rintro e W2 ⟨A5, c5, rfl, hv5, hb5⟩
      have HT := Lib.hid (hv5.lower HX.out.b.size)
      have HX2 := Lib.hid (HX.out.step hb5)
      have HKT2 := Lib.hid (HKT.out.below hb5)
      clear hv5 hb5 hHeld HX HKT
      have HKT := HKT2
      clear HKT2
      have HX := HX2
      clear HX2
      go_wp2_with fail
      refine hK.out _ _ ⟨HX.out.cells.2.2.2.2, HX.out.cells.1⟩ (fun hHeld => ?_)
      clear hK K
      refine wpAnyH_ready (rs := [6]) (by kernel_rfl) (by simp) ?_
      refine AllReadyH.cons rfl (fun K hK => ?_) AllReadyH.nil
      go_simp
      have hb6 := (Below.refl W2.heap.size W2).alloc (Nat.le_refl _) (.cells #[.bool false, .int .i64 0, .int .i64 0, .slice A5 (cut m laid tw).length c5] 75)
      have HV := Lib.hid (pt_one W2 ⟨false, 0, 0, A5, (cut m laid tw).length, c5⟩)
      have HX3 := Lib.hid (HX.out.step hb6)
      have HT3 := Lib.hid (HT.out.belowAll hb6)
      have HKT3 := Lib.hid (HKT.out.below hb6)
      clear HX HT hb6 hHeld HKT
      have HKT := HKT3
      clear HKT3
      have HX := HX3
      have HT := HT3
      clear HX3 HT3
      refine hK.out _ _ ⟨HX.out.cells.2.2.2.2, HX.out.cells.1⟩ (fun hHeld => ?_)
      clear hK K
      refine wpAnyH_ready (rs := [7]) (by kernel_rfl) (by simp) ?_
      refine AllReadyH.cons rfl (fun K hK => ?_) AllReadyH.nil
      refine step_app_pt (by rfl) (.tmp 8) (.tmp 14) (by rfl) w.heap.size v ps (by rfl) HX.out.r.r _ 1 1 [⟨false, 0, 0, A5, (cut m laid tw).length, c5⟩] (by rfl) HV.out (by omega) HX.out.b.size ?_
      intro v' W4 hown hg hat
      obtain ⟨A9, c9, hv9⟩ := hown.form
      obtain ⟨NL, hNL⟩ : ∃ x, x = (ps ++ [(⟨false, 0, 0, A5, (cut m laid tw).length, c5⟩ : Pt)]).length := ⟨_, rfl⟩
      rw [← hNL] at hv9
      clear hNL
      subst hv9
      obtain ⟨hx9, g0, g1, g2, g3, hpb4⟩ := HX.out.more (x := newX m laid tw) hg hown ⟨rfl, rfl, rfl, HT.out⟩
      have HX9 := Lib.hid hx9
      have HKT4 := Lib.hid (((HKT.out.grown hg (fun g e => (HX.out.r.r.block g e).2.2) (by decide)).grown (grown_set1 W4 pb 0 (.slice A9 NL c9)) (fun g e => by cases e; exact ⟨_, _, hpb4⟩) (by decide)).grown (grown_set1 _ lb 0 (.int .i64 tw)) (fun g e => by cases e; exact ⟨_, _, hx9.l⟩) (by decide))
      clear HKT hpb4
      have HKT := HKT4
      clear HKT4
      clear hown hg hat hHeld HX hx9 HT HV
      refine hK.out _ _ ⟨g3, g2⟩ (fun hHeld => ?_)
      clear hK K g2 g3
      refine wpAnyH_ready (rs := [8]) (by kernel_rfl) (by simp) ?_
      refine AllReadyH.cons rfl (fun K hK => ?_) AllReadyH.nil
      go_simp
      refine hK.out _ _ ⟨HX9.out.cells.2.2.2.2, HX9.out.cells.1⟩ (fun hHeld => ?_)
      clear hK K hHeld g0 g1
      refine wpAnyH_done (by kernel_rfl) ?_ _
      have HF := Lib.hid (HX9.out.lay tw)
      obtain ⟨k0, k1, _⟩ := HX9.out.cells
      go_wp2
      go_end0
      exact ⟨rfl, Or.inr ⟨HL9.out, _, _, HF.out⟩, HKT.out⟩
    · go_simp
      refine (HP.out _ HX.out.b).mono ?_
      rintro e W2 ⟨A5, c5, rfl, hv5, hb5⟩
      have HT := Lib.hid (hv5.lower HX.out.b.size)
      have HX2 := Lib.hid (HX.out.step hb5)
      have HKT2 := Lib.hid (HKT.out.below hb5)
      clear hv5 hb5 hHeld HX HKT
      have HKT := HKT2
      clear HKT2
      have HX := HX2
      clear HX2
      go_wp2_with fail
      refine hK.out _ _ ⟨HX.out.cells.2.2.2.2, HX.out.cells.1⟩ (fun hHeld => ?_)
      clear hK K
      refine wpAnyH_ready (rs := [0, 6]) (by kernel_rfl) (by simp) ?_
      refine AllReadyH.cons rfl (fun K hK => ?_) (AllReadyH.cons rfl (fun K hK => ?_) AllReadyH.nil)
      · have hc0 := HX.out.cells.2.2.1
        go_simp
        refine hK.out _ _ ⟨HX.out.cells.2.2.2.2, HX.out.cells.1⟩ (fun hHeld => ?_)
        clear hK K hc0
        refine wpAnyH_ready (rs := [6]) (by kernel_rfl) (by simp) ?_
        refine AllReadyH.cons rfl (fun K hK => ?_) AllReadyH.nil
        go_simp
        have hb6 := (Below.refl W2.heap.size W2).alloc (Nat.le_refl _) (.cells #[.bool false, .int .i64 0, .int .i64 0, .slice A5 (cut m laid tw).length c5] 75)
        have HV := Lib.hid (pt_one W2 ⟨false, 0, 0, A5, (cut m laid tw).length, c5⟩)
        have HX3 := Lib.hid (HX.out.step hb6)
        have HT3 := Lib.hid (HT.out.belowAll hb6)
        have HKT3 := Lib.hid (HKT.out.below hb6)
        clear HX HT hb6 hHeld HKT
        have HKT := HKT3
        clear HKT3
        have HX := HX3
        have HT := HT3
        clear HX3 HT3
        refine hK.out _ _ ⟨HX.out.cells.2.2.2.2, HX.out.cells.1⟩ (fun hHeld => ?_)
        clear hK K
        refine wpAnyH_ready (rs := [7]) (by kernel_rfl) (by simp) ?_
        refine AllReadyH.cons rfl (fun K hK => ?_) AllReadyH.nil
        refine step_app_pt (by rfl) (.tmp 8) (.tmp 14) (by rfl) w.heap.size v ps (by rfl) HX.out.r.r _ 1 1 [⟨false, 0, 0, A5, (cut m laid tw).length, c5⟩] (by rfl) HV.out (by omega) HX.out.b.size ?_
        intro v' W4 hown hg hat
        obtain ⟨A9, c9, hv9⟩ := hown.form
        obtain ⟨NL, hNL⟩ : ∃ x, x = (ps ++ [(⟨false, 0, 0, A5, (cut m laid tw).length, c5⟩ : Pt)]).length := ⟨_, rfl⟩
        rw [← hNL] at hv9
        clear hNL
        subst hv9
        obtain ⟨hx9, g0, g1, g2, g3, hpb4⟩ := HX.out.more (x := newX m laid tw) hg hown ⟨rfl, rfl, rfl, HT.out⟩
        have HX9 := Lib.hid hx9
        have HKT4 := Lib.hid (((HKT.out.grown hg (fun g e => (HX.out.r.r.block g e).2.2) (by decide)).grown (grown_set1 W4 pb 0 (.slice A9 NL c9)) (fun g e => by cases e; exact ⟨_, _, hpb4⟩) (by decide)).grown (grown_set1 _ lb 0 (.int .i64 tw)) (fun g e => by cases e; exact ⟨_, _, hx9.l⟩) (by decide))
        clear HKT hpb4
        have HKT := HKT4
        clear HKT4
        clear hown hg hat hHeld HX hx9 HT HV
        refine hK.out _ _ ⟨g3, g2⟩ (fun hHeld => ?_)
        clear hK K g2 g3
        refine wpAnyH_ready (rs := [8]) (by kernel_rfl) (by simp) ?_
        refine AllReadyH.cons rfl (fun K hK => ?_) AllReadyH.nil
        go_simp
        refine hK.out _ _ ⟨HX9.out.cells.2.2.2.2, HX9.out.cells.1⟩ (fun hHeld => ?_)
        clear hK K hHeld g0 g1
        refine wpAnyH_done (by kernel_rfl) ?_ _
        have HF := Lib.hid (HX9.out.lay tw)
        obtain ⟨k0, k1, _⟩ := HX9.out.cells
        go_wp2
        go_end0
        exact ⟨rfl, Or.inr ⟨HL9.out, _, _, HF.out⟩, HKT.out⟩
      · go_simp
        have hb6 := (Below.refl W2.heap.size W2).alloc (Nat.le_refl _) (.cells #[.bool false, .int .i64 0, .int .i64 0, .slice A5 (cut m laid tw).length c5] 75)
        have HV := Lib.hid (pt_one W2 ⟨false, 0, 0, A5, (cut m laid tw).length, c5⟩)
        have HX3 := Lib.hid (HX.out.step hb6)
        have HT3 := Lib.hid (HT.out.belowAll hb6)
        have HKT3 := Lib.hid (HKT.out.below hb6)
        clear HX HT hb6 hHeld HKT
        have HKT := HKT3
        clear HKT3
        have HX := HX3
        have HT := HT3
        clear HX3 HT3
        refine hK.out _ _ ⟨HX.out.cells.2.2.2.2, HX.out.cells.1⟩ (fun hHeld => ?_)
        clear hK K
        refine wpAnyH_ready (rs := [0]) (by kernel_rfl) (by simp) ?_
        refine AllReadyH.cons rfl (fun K hK => ?_) AllReadyH.nil
        have hc0 := HX.out.cells.2.2.1
        go_simp
        refine hK.out _ _ ⟨HX.out.cells.2.2.2.2, HX.out.cells.1⟩ (fun hHeld => ?_)
        clear hK K hc0
        refine wpAnyH_ready (rs := [7]) (by kernel_rfl) (by simp) ?_
        refine AllReadyH.cons rfl (fun K hK => ?_) AllReadyH.nil
        refine step_app_pt (by rfl) (.tmp 8) (.tmp 14) (by rfl) w.heap.size v ps (by rfl) HX.out.r.r _ 1 1 [⟨false, 0, 0, A5, (cut m laid tw).length, c5⟩] (by rfl) HV.out (by omega) HX.out.b.size ?_
        intro v' W4 hown hg hat
        obtain ⟨A9, c9, hv9⟩ := hown.form
        obtain ⟨NL, hNL⟩ : ∃ x, x = (ps ++ [(⟨false, 0, 0, A5, (cut m laid tw).length, c5⟩ : Pt)]).length := ⟨_, rfl⟩
        rw [← hNL] at hv9
        clear hNL
        subst hv9
        obtain ⟨hx9, g0, g1, g2, g3, hpb4⟩ := HX.out.more (x := newX m laid tw) hg hown ⟨rfl, rfl, rfl, HT.out⟩
        have HX9 := Lib.hid hx9
        have HKT4 := Lib.hid (((HKT.out.grown hg (fun g e => (HX.out.r.r.block g e).2.2) (by decide)).grown (grown_set1 W4 pb 0 (.slice A9 NL c9)) (fun g e => by cases e; exact ⟨_, _, hpb4⟩) (by decide)).grown (grown_set1 _ lb 0 (.int .i64 tw)) (fun g e => by cases e; exact ⟨_, _, hx9.l⟩) (by decide))
        clear HKT hpb4
        have HKT := HKT4
        clear HKT4
        clear hown hg hat hHeld HX hx9 HT HV
        refine hK.out _ _ ⟨g3, g2⟩ (fun hHeld => ?_)
        clear hK K g2 g3
        refine wpAnyH_ready (rs := [8]) (by kernel_rfl) (by simp) ?_
        refine AllReadyH.cons rfl (fun K hK => ?_) AllReadyH.nil
        go_simp
        refine hK.out _ _ ⟨HX9.out.cells.2.2.2.2, HX9.out.cells.1⟩ (fun hHeld => ?_)
        clear hK K hHeld g0 g1
        refine wpAnyH_done (by kernel_rfl) ?_ _
        have HF := Lib.hid (HX9.out.lay tw)
        obtain ⟨k0, k1, _⟩ := HX9.out.cells
        go_wp2
        go_end0
        exact ⟨rfl, Or.inr ⟨HL9.out, _, _, HF.out⟩, HKT.out⟩
  · obtain rfl : laid = tw := by omega
    have j0 : ¬ ((laid : Int) < (laid : Int)) := by omega
    have HF := Lib.hid (HX.out.lay laid)
    have HKT := Lib.hid ((KeepsT.refl 117 W).grown (grown_set1 W lb 0 (.int .i64 laid)) (fun g e => by cases e; exact ⟨_, _, HX.out.l⟩) (by decide))
    clear h1 h2 h3 hc hlt
    go_enter Try.func61, Try.ntmps61
    go_wp2
    go_end0
    exact ⟨rfl, HF.out, HKT.out⟩
end Go.Proofs.Ytgodphfkhmahnaa.Df
