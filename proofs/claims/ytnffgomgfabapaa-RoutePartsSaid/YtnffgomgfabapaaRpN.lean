/- Route parts: the program's Invert. -/
import Derived.Test.YtnffgomgfabapaaRpW
import Derived.Test.YtnffgomgfabapaaSmL
namespace Go.Proofs.Ytnffgomgfabapaa.Rt
open Go.RowKit Go.Shelf Mem Sm
set_option linter.unusedVariables false
set_option linter.unusedSimpArgs false
attribute [local go_sem] Oper.semAt_some
/-- the inverse while it is made, and what lies beside it -/
structure IV (w : World) (p P B3 B4 Bn m : Nat) (A : Option Addr) (c : Nat) (res v mp : Value) (vs : List Value) (M : List (List Rg)) (mir : List (Int × Int)) (W : World) : Prop where
  hb : Below w.heap.size w W
  x1 : W.heap[w.heap.size]? = some (.cells #[.pointer (some ⟨p, 0, none⟩)] 23 (0, 0))
  x2 : W.heap[w.heap.size + 1]? = some (.cells #[res] 23 (0, 0))
  x3 : W.heap[B3]? = some (.cells #[.pointer (some ⟨P, 0, none⟩)] 23 (0, 0))
  x4 : W.heap[B4]? = some (.cells #[.int .i64 ((m : Int) - 1)] 3 (0, 0))
  bx : Boxed W Bn 41 (.slice A m c)
  rt : RtAt P W P v mp vs M mir
  n1 : w.heap.size < P
  n2 : B3 ≠ w.heap.size + 1
  n3 : P ≠ w.heap.size + 1
/-- the same, its map of mirrors alone -/
theorem RtAt.bind {base p : Nat} {W : World} {v mp : Value} {vs : List Value} {M : List (List Rg)} {mir : List (Int × Int)} (h : RtAt base W p v mp vs M mir) : BindAt base W p v mp mir := ⟨h.hp, h.h0, h.mps⟩
theorem RtAt.ofBind {base p : Nat} {W W' : World} {v mp mp' : Value} {vs : List Value} {M : List (List Rg)} {mir mir' : List (Int × Int)} (h : RtAt base W p v mp vs M mir) (hf : BF base p W W') (hb : BindAt base W' p v mp' mir') : RtAt base W' p v mp' vs M mir' := by
  have hne : ∀ (k : Nat) (cs : Array Value) (t : TypeId) (fr : Nat × Nat), W.heap[k]? = some (.cells cs t fr) → t ≠ 60 → k ≠ p := fun k cs t fr e ht => by
    rintro rfl; rw [h.h0] at e; injection e with e; injection e with _ e2; exact ht e2.symm
  refine ⟨hb.hp, hb.h0, ⟨h.row.1, ?_⟩, h.sls.keep hf.size fun k cs fr e => hf.keep k cs _ fr e (hne k cs _ fr e (by decide)), hb.mps⟩
  rcases h.row.2 with hn | ⟨g, cap, cur, hv, h1, h2, r⟩
  · exact .inl hn
  · exact .inr ⟨g, cap, cur, hv, h1, hf.keep g cur _ (0, 0) h2 (hne g cur _ _ h2 (by decide)), r⟩
section
variable {w : World} {p P B3 B4 Bn m : Nat} {A : Option Addr} {c : Nat} {res v mp : Value} {vs : List Value} {M : List (List Rg)} {mir : List (Int × Int)} {W W' : World}
theorem IV.step (h : IV w p P B3 B4 Bn m A c res v mp vs M mir W) (hb : Below W.heap.size W W') : IV w p P B3 B4 Bn m A c res v mp vs M mir W' :=
  ⟨h.hb.trans (hb.mono h.hb.size), by rw [hb.block _ (lt_some h.x1)]; exact h.x1, by rw [hb.block _ (lt_some h.x2)]; exact h.x2, by rw [hb.block _ (lt_some h.x3)]; exact h.x3, by rw [hb.block _ (lt_some h.x4)]; exact h.x4, (hb.block _ h.bx.lt).trans h.bx, h.rt.step hb, h.n1, h.n2, h.n3⟩
/-- the inverse has a map more -/
theorem IV.rtf {v' : Value} {vs' : List Value} {M' : List (List Rg)} (h : IV w p P B3 B4 Bn m A c res v mp vs M mir W) (hf : RtF P P W W') (hr : RtAt P W' P v' mp vs' M' mir) : IV w p P B3 B4 Bn m A c res v' mp vs' M' mir W' := by
  have hne : ∀ (k : Nat) (cs : Array Value) (t : TypeId) (fr : Nat × Nat), W.heap[k]? = some (.cells cs t fr) → t ≠ 60 → k ≠ P := fun k cs t fr e ht => by
    rintro rfl; rw [h.rt.h0] at e; injection e with e; injection e with _ e2; exact ht e2.symm
  exact ⟨h.hb.trans (hf.below.mono (by have := h.n1; omega)), hf.keep _ _ _ _ h.x1 (by decide) (hne _ _ _ _ h.x1 (by decide)), hf.keep _ _ _ _ h.x2 (by decide) (hne _ _ _ _ h.x2 (by decide)), hf.keep _ _ _ _ h.x3 (by decide) (hne _ _ _ _ h.x3 (by decide)), hf.keep _ _ _ _ h.x4 (by decide) (hne _ _ _ _ h.x4 (by decide)), hf.keep _ _ _ _ h.bx (by decide) (hne _ _ _ _ h.bx (by decide)), hr, h.n1, h.n2, h.n3⟩
/-- the inverse has mirrors more -/
theorem IV.bf {mp' : Value} {mir' : List (Int × Int)} (h : IV w p P B3 B4 Bn m A c res v mp vs M mir W) (hf : BF P P W W') (hb : BindAt P W' P v mp' mir') : IV w p P B3 B4 Bn m A c res v mp' vs M mir' W' := by
  have hne : ∀ (k : Nat) (cs : Array Value) (t : TypeId) (fr : Nat × Nat), W.heap[k]? = some (.cells cs t fr) → t ≠ 60 → k ≠ P := fun k cs t fr e ht => by
    rintro rfl; rw [h.rt.h0] at e; injection e with e; injection e with _ e2; exact ht e2.symm
  exact ⟨h.hb.trans (hf.below.mono (by have := h.n1; omega)), hf.keep _ _ _ _ h.x1 (hne _ _ _ _ h.x1 (by decide)), hf.keep _ _ _ _ h.x2 (hne _ _ _ _ h.x2 (by decide)), hf.keep _ _ _ _ h.x3 (hne _ _ _ _ h.x3 (by decide)), hf.keep _ _ _ _ h.x4 (hne _ _ _ _ h.x4 (by decide)), hf.keep _ _ _ _ h.bx (hne _ _ _ _ h.bx (by decide)), h.rt.ofBind hf hb, h.n1, h.n2, h.n3⟩
/-- what turns in the book-keeping alone leaves it -/
theorem IV.book {row : Option Nat} (h : IV w p P B3 B4 Bn m A c res v mp vs M mir W) (hg : W.grownBy W' row) (hr : ∀ r, row = some r → w.heap.size ≤ r ∧ ∃ o, W.heap[r]? = some o ∧ BookObj o) : IV w p P B3 B4 Bn m A c res v mp vs M mir W' := by
  have hc : ∀ (k : Nat) (cs : Array Value) (t : TypeId) (fr : Nat × Nat), W.heap[k]? = some (.cells cs t fr) → W'.heap[k]? = some (.cells cs t fr) := fun k cs t fr e => by
    rw [hg.block k (lt_some e) (fun e2 => ?_)]
    · exact e
    · obtain ⟨_, o, ho, hb⟩ := hr k e2.symm
      rw [e] at ho; injection ho with ho; exact hb.1 _ _ _ ho.symm
  refine ⟨h.hb.trans ⟨hg.os, hg.tape, hg.output, hg.size, fun k hk => ?_⟩, hc _ _ _ _ h.x1, hc _ _ _ _ h.x2, hc _ _ _ _ h.x3, hc _ _ _ _ h.x4, hc _ _ _ _ h.bx, ⟨h.rt.hp, hc _ _ _ _ h.rt.h0, ⟨h.rt.row.1, ?_⟩, h.rt.sls.keep hg.size (fun k cs fr e => hc _ _ _ _ e), ?_⟩, h.n1, h.n2, h.n3⟩
  · refine hg.block k (Nat.lt_of_lt_of_le hk h.hb.size) (fun e2 => ?_)
    have := (hr k e2.symm).1
    omega
  · rcases h.rt.row.2 with hn | ⟨g, cap, cur, hv, h1, h2, r⟩
    · exact .inl hn
    · exact .inr ⟨g, cap, cur, hv, h1, hc _ _ _ _ h2, r⟩
  · rcases h.rt.mps with hn | ⟨B, e1, e2, e3⟩
    · exact .inl hn
    · refine .inr ⟨B, e1, e2, ?_⟩
      rw [hg.block B (lt_some e3) (fun e4 => ?_)]
      · exact e3
      · obtain ⟨_, o, ho, hb⟩ := hr B e4.symm
        rw [e3] at ho; injection ho with ho; exact hb.2 _ _ ho.symm
/-- the result's cell is written -/
theorem IV.put (h : IV w p P B3 B4 Bn m A c res v mp vs M mir W) (u : Value) (hn : B3 ≠ w.heap.size + 1) : IV w p P B3 B4 Bn m A c u v mp vs M mir (W.setCell ⟨w.heap.size + 1, 0, none⟩ u) := by
  have hc : ∀ (k : Nat) (o : Obj), W.heap[k]? = some o → k ≠ w.heap.size + 1 → (W.setCell ⟨w.heap.size + 1, 0, none⟩ u).heap[k]? = some o := fun k o e hk => (set_else hk u).trans e
  have ht : ∀ (k : Nat) (cs : Array Value) (t : TypeId) (fr : Nat × Nat), W.heap[k]? = some (.cells cs t fr) → t ≠ 23 → k ≠ w.heap.size + 1 := fun k cs t fr e hne e2 => by
    rw [e2, h.x2] at e; injection e with e; injection e with _ e3; exact hne e3.symm
  refine ⟨h.hb.setCell (p := ⟨w.heap.size + 1, 0, none⟩) (by simp) u, hc _ _ h.x1 (by omega), ?_, hc _ _ h.x3 hn, hc _ _ h.x4 (ht _ _ _ _ h.x4 (by decide)), hc _ _ h.bx (ht _ _ _ _ h.bx (by decide)), ⟨h.rt.hp, hc _ _ h.rt.h0 h.n3, ⟨h.rt.row.1, ?_⟩, h.rt.sls.keep (by simp [World.setCell]) (fun k cs fr e => hc _ _ e (ht _ _ _ _ e (by decide))), ?_⟩, h.n1, h.n2, h.n3⟩
  · have := set_at (j := 0) h.x2 u; simpa using this
  · rcases h.rt.row.2 with hn | ⟨g, cap, cur, hv, h1, h2, r⟩
    · exact .inl hn
    · exact .inr ⟨g, cap, cur, hv, h1, hc _ _ h2 (ht _ _ _ _ h2 (by decide)), r⟩
  · rcases h.rt.mps with hn | ⟨B, e1, e2, e3⟩
    · exact .inl hn
    · exact .inr ⟨B, e1, e2, hc _ _ e3 (by rintro rfl; rw [h.x2] at e3; cases e3)⟩
end
theorem ivM_none {mir : List (Int × Int)} {m n K : Nat} (hK : K = m - 1 - n) (h : lk mir (K : Int) = none) : ivM mir m (n + 1) = ivM mir m n := by
  subst hK; simp only [ivM, h]
theorem ivM_some {mir : List (Int × Int)} {m n K : Nat} {j : Int} (hK : K = m - 1 - n) (h : lk mir (K : Int) = some j) : ivM mir m (n + 1) = putM (putM (ivM mir m n) ((m : Int) - 1 - K) ((m : Int) - 1 - j)) ((m : Int) - 1 - j) ((m : Int) - 1 - K) := by
  subst hK; simp only [ivM, h]; rfl
theorem not_out (D : Nat) (I Ix : Nat → World → Prop) (k : Nat) (A : World) : ¬ LetsOut (RoundB D I Ix k A) := by
  rintro ⟨a, w, h⟩; exact h
def InvIs (M : List (List Rg)) (mir : List (Int × Int)) (w : World) (e : Ending) (w' : World) : Prop :=
  (((∀ l ∈ ivL M, rightB l = true) ∧ ∃ P v mp vs, e = .returned (.pointer (some ⟨P, 0, none⟩)) ∧ RtAt P w' P v mp vs (ivL M) (ivM mir M.length M.length)) ∨
   ((¬ ∀ l ∈ ivL M, rightB l = true) ∧ e = .returned (.pointer none))) ∧ Below w.heap.size w w'
def MadeR (w : World) (p m : Nat) (a : Act) (wx : World) : Prop := ∃ (P B3 B4 : Nat) (u11 u12 u13 u14 u15 u16 u17 u18 : Value), a = { tmps := #[.pointer (some ⟨p, 0, none⟩), .pointer (some ⟨w.heap.size, 0, none⟩), .pointer (some ⟨w.heap.size + 1, 0, none⟩), .pointer (some ⟨B3, 0, none⟩), .pointer (some ⟨B4, 0, none⟩), undef, undef, undef, undef, .pointer (some ⟨p, 0, none⟩), .bool false, u11, u12, u13, u14, u15, u16, u17, u18, undef, undef, undef, undef, undef, undef, undef, undef, undef, undef, undef, undef, undef, undef, undef, undef, undef, undef, undef, undef, undef, undef, undef, undef, undef, undef, undef, undef, undef, undef, undef], defers := [] } ∧ Hid (Below w.heap.size w wx ∧ wx.heap[w.heap.size]? = some (.cells #[.pointer (some ⟨p, 0, none⟩)] 23 (0, 0)) ∧ wx.heap[w.heap.size + 1]? = some (.cells #[.pointer none] 23 (0, 0)) ∧ wx.heap[P]? = some (.cells #[.slice none 0 0, .map none] 60 (0, 0)) ∧ wx.heap[B3]? = some (.cells #[.pointer (some ⟨P, 0, none⟩)] 23 (0, 0)) ∧ wx.heap[B4]? = some (.cells #[.int .i64 ((m : Int) - 1)] 3 (0, 0)) ∧ w.heap.size + 1 < P ∧ w.heap.size + 1 < B3)
theorem wrap_m1 {m : Nat} (h : m ≤ 1000) : IntKind.i64.wrap ((m : Int) - 1) = (m : Int) - 1 := by rw [IntKind.wrap_i64]; omega
set_option maxRecDepth 100000 in
set_option maxHeartbeats 8000000 in
theorem pinv_any (b0 p : Nat) (v mp : Value) (vs : List Value) (M : List (List Rg)) (mir : List (Int × Int)) (w : World) (hM : M.length ≤ 1000) (hm : ∀ m ∈ M, m.length ≤ 20 ∧ rightB m = true) (hmir : ∀ i j : Int, lk mir i = some j → 0 ≤ j ∧ j < M.length) (h : RtAt b0 w p v mp vs M mir) :
    Calls Try.prog 14 #[.pointer (some ⟨p, 0, none⟩)] w (InvIs M mir w) := by
  obtain ⟨A, c, hv, hc0, hr0, ha0⟩ := own_form h.row
  subst hv
  have HT := Lib.hid h
  obtain ⟨m, hm0⟩ : ∃ m, M.length = m := ⟨_, rfl⟩
  have HMM := Lib.hid hm0
  obtain ⟨k0, k1, _, _⟩ := h.cells
  rw [hm0] at k0 hM hr0
  have HR0 := Lib.hid hr0
  have hnA := heap_alloc_new w (.cells #[.pointer (some ⟨p, 0, none⟩)] 23)
  have hnB := heap_alloc_new (w.alloc (.cells #[.pointer (some ⟨p, 0, none⟩)] 23)) (.cells #[.pointer none] 23)
  rw [show (w.alloc (.cells #[.pointer (some ⟨p, 0, none⟩)] 23)).heap.size = w.heap.size + 1 by simp] at hnB
  have hbA := ((Below.refl w.heap.size w).alloc (Nat.le_refl _) (.cells #[.pointer (some ⟨p, 0, none⟩)] 23)).alloc (by simp) (.cells #[.pointer none] 23)
  have HX2 := Lib.hid hnB
  have HX1 : Hid (((w.alloc (.cells #[.pointer (some ⟨p, 0, none⟩)] 23)).alloc (.cells #[.pointer none] 23)).heap[w.heap.size]? = some (.cells #[.pointer (some ⟨p, 0, none⟩)] 23 (0, 0))) := Lib.hid (by rw [Below.heap_alloc _ _ _ (by simp)]; exact hnA)
  have HB := Lib.hid hbA
  have HK0 := Lib.hid k0
  clear h hr0 ha0 hc0 hm0 k1 hnA hnB hbA
  refine (callsIn_wide (n := 3)).1 ?_
  refine callsIn_of_wp_marks Try.func14 rfl trivial ?_ rfl
  refine wpIn_wide.2 ?_
  simp only [Try.ntmps14, List.size_toArray, List.length_cons, List.length_nil, Nat.reduceAdd, Nat.reduceSub, Array.replicate_succ, Array.replicate_zero, List.push_toArray, List.append_toArray, List.nil_append, List.cons_append]
  go_upto_region 3 with fail
  refine (wpIn_wide (n := 3)).1 ?_
  refine wpIn_mono (Q := fun e a wx => e = .normal ∧ MadeR w p m a wx) ((wpIn_wide (n := 3)).2 ?_) ?_
  · generalize (w.alloc (.cells #[.pointer (some ⟨p, 0, none⟩)] 23)).alloc (.cells #[.pointer none] 23) = W0 at HX1 HX2 HB ⊢
    refine wp_region_held_drew (S := fun W => W.cell? ⟨w.heap.size, 0, none⟩ = some (.pointer (some ⟨p, 0, none⟩)) ∧ W.cell? ⟨p, 0, none⟩ = some (.slice A m c)) (by kernel_rfl) ⟨by show W0.cell? _ = _; simp [World.cell?, HX1.out], below_cell HB.out HK0.out⟩ (fun hHeld => ?_)
    have HB2 : Hid (Below w.heap.size w W0.drew) := Lib.hid (below_drewN HB.out 1)
    have HX1b : Hid (W0.drew.heap[w.heap.size]? = some (.cells #[.pointer (some ⟨p, 0, none⟩)] 23 (0, 0))) := HX1
    have HX2b : Hid (W0.drew.heap[w.heap.size + 1]? = some (.cells #[.pointer none] 23 (0, 0))) := HX2
    clear HB HX1 HX2
    have HB := HB2
    have HX1 := HX1b
    have HX2 := HX2b
    clear HB2 HX1b HX2b
    generalize W0.drew = V0 at HB HX1 HX2 hHeld ⊢
    refine tk 0 (v := ?_) rfl (by kernel_rfl) (fun _ _ _ h => nomatch h.1) ?_ hHeld ?_
    rotate_left
    · (intro W hSw; clear hSw; go_simp; try with_reducible rfl)
    refine tk 2 (v := ?_) rfl (by kernel_rfl) (fun _ _ _ h => nomatch h.1) ?_ hHeld ?_
    rotate_left
    · (intro W hSw; (try dsimp only at hSw); obtain ⟨hs1, hs2⟩ := hSw; go_simp; try with_reducible rfl)
    refine tk 3 (v := ?_) rfl (by kernel_rfl) (fun _ _ _ h => nomatch h.1) ?_ hHeld ?_
    rotate_left
    · (intro W hSw; (try dsimp only at hSw); obtain ⟨hs1, hs2⟩ := hSw; go_simp; try with_reducible rfl)
    refine tk 4 (v := ?_) rfl (by kernel_rfl) (fun _ _ _ h => nomatch h.1) ?_ hHeld ?_
    rotate_left
    · (intro W hSw; (try dsimp only at hSw); obtain ⟨hs1, hs2⟩ := hSw; go_simp; try with_reducible rfl)
    refine tk 5 (v := ?_) rfl (by kernel_rfl) (fun _ _ _ h => nomatch h.1) ?_ hHeld ?_
    rotate_left
    · (intro W hSw; (try dsimp only at hSw); obtain ⟨hs1, hs2⟩ := hSw; go_simp; try with_reducible rfl)
    refine tk 6 (v := ?_) rfl (by kernel_rfl) (fun _ _ _ h => nomatch h.1) ?_ hHeld ?_
    rotate_left
    · (intro W hSw; clear hSw; go_simp; try with_reducible rfl)
    have hwq : IntKind.i64.wrap ((m : Int) - 1) = (m : Int) - 1 := wrap_m1 hM
    refine tk 7 (v := ?_) rfl (by kernel_rfl) (fun _ _ _ h => nomatch h.1) ?_ hHeld ?_
    rotate_left
    · (intro W hSw; clear hSw; go_simp; try with_reducible rfl)
    clear hwq
    refine wpAnyH_ready (rs := [1, 8, 9]) (by kernel_rfl) (by simp) ?_
    refine AllReadyH.cons rfl (fun K hK => ?_) (AllReadyH.cons rfl (fun K hK => ?_) (AllReadyH.cons rfl (fun K hK => ?_) AllReadyH.nil))
    · go_simp
      have hba := (Below.refl V0.heap.size V0).alloc (Nat.le_refl _) (.cells #[.slice none 0 0, .map none] 60)
      have HP := Lib.hid (heap_alloc_new V0 (.cells #[.slice none 0 0, .map none] 60))
      have hS := And.intro (below_cell hba hHeld.1) (below_cell hba hHeld.2)
      have HB2 := Lib.hid (HB.out.trans (hba.mono HB.out.size))
      have hn := lt_some HX2.out
      have HX12 := Lib.hid (hkeep hba HX1.out)
      have HX22 := Lib.hid (hkeep hba HX2.out)
      clear HB hHeld hba HX1 HX2
      have HB := HB2
      have HX1 := HX12
      have HX2 := HX22
      clear HB2 HX12 HX22
      refine hK.out _ _ hS (fun hHeld => ?_)
      clear hK K hS
      have hneP : w.heap.size + 1 < V0.heap.size := hn
      clear hn 
      generalize V0.alloc (.cells #[.slice none 0 0, .map none] 60) = V1 at HB HX1 HX2 HP hHeld ⊢
      generalize V0.heap.size = P at HP hneP  ⊢
      refine wpAnyH_ready (rs := [8, 9]) (by kernel_rfl) (by simp) ?_
      refine AllReadyH.cons rfl (fun K hK => ?_) (AllReadyH.cons rfl (fun K hK => ?_) AllReadyH.nil)
      · go_simp
        have hba := (Below.refl V1.heap.size V1).alloc (Nat.le_refl _) (.cells #[.pointer none] 23)
        have H3 := Lib.hid (heap_alloc_new V1 (.cells #[.pointer none] 23))
        have hS := And.intro (below_cell hba hHeld.1) (below_cell hba hHeld.2)
        have HB2 := Lib.hid (HB.out.trans (hba.mono HB.out.size))
        have hn := lt_some HX2.out
        have hlP := lt_some HP.out
        have HX12 := Lib.hid (hkeep hba HX1.out)
        have HX22 := Lib.hid (hkeep hba HX2.out)
        have HP2 := Lib.hid (hkeep hba HP.out)
        clear HB hHeld hba HX1 HX2 HP
        have HB := HB2
        have HX1 := HX12
        have HX2 := HX22
        have HP := HP2
        clear HB2 HX12 HX22 HP2
        refine hK.out _ _ hS (fun hHeld => ?_)
        clear hK K hS
        have hneB3 : w.heap.size + 1 < V1.heap.size := hn
        have hnePB3 : P < V1.heap.size := hlP
        clear hn hlP
        generalize V1.alloc (.cells #[.pointer none] 23) = V2 at HB HX1 HX2 HP H3 hHeld ⊢
        generalize V1.heap.size = B3 at H3 hneB3 hnePB3 ⊢
        refine wpAnyH_ready (rs := [9]) (by kernel_rfl) (by simp) ?_
        refine AllReadyH.cons rfl (fun K hK => ?_) AllReadyH.nil
        go_simp
        have hba := (Below.refl V2.heap.size V2).alloc (Nat.le_refl _) (.cells #[.int .i64 0] 3)
        have H4 := Lib.hid (heap_alloc_new V2 (.cells #[.int .i64 0] 3))
        have hS := And.intro (below_cell hba hHeld.1) (below_cell hba hHeld.2)
        have HB2 := Lib.hid (HB.out.trans (hba.mono HB.out.size))
        have hn := lt_some HX2.out
        have hlP := lt_some HP.out
        have hlB3 := lt_some H3.out
        have HX12 := Lib.hid (hkeep hba HX1.out)
        have HX22 := Lib.hid (hkeep hba HX2.out)
        have HP2 := Lib.hid (hkeep hba HP.out)
        have H32 := Lib.hid (hkeep hba H3.out)
        clear HB hHeld hba HX1 HX2 HP H3
        have HB := HB2
        have HX1 := HX12
        have HX2 := HX22
        have HP := HP2
        have H3 := H32
        clear HB2 HX12 HX22 HP2 H32
        refine hK.out _ _ hS (fun hHeld => ?_)
        clear hK K hS
        have hneB4 : w.heap.size + 1 < V2.heap.size := hn
        have hnePB4 : P < V2.heap.size := hlP
        have hneB3B4 : B3 < V2.heap.size := hlB3
        clear hn hlP hlB3
        generalize V2.alloc (.cells #[.int .i64 0] 3) = V3 at HB HX1 HX2 HP H3 H4 hHeld ⊢
        generalize V2.heap.size = B4 at H4 hneB4 hnePB4 hneB3B4 ⊢
        have e34 : B3 ≠ B4 := by omega
        have e3P : B3 ≠ P := by omega
        have e4P : B4 ≠ P := by omega
        have hf3 : V3.frozen? ⟨B3, 0, none⟩ = false := by simp [World.frozen?, H3.out]
        have hc3 : V3.cell? ⟨B3, 0, none⟩ = some (.pointer none) := by simp [World.cell?, H3.out]
        refine wpAnyH_ready (rs := [10]) (by kernel_rfl) (by simp) ?_
        refine AllReadyH.cons rfl (fun K hK => ?_) AllReadyH.nil
        go_simp
        have HB2 := Lib.hid (HB.out.setCell (p := ⟨B3, 0, none⟩) (by simp only; omega) (.pointer (some ⟨P, 0, none⟩)))
        have HX1b := Lib.hid ((set_else (W := V3) (h := B3) (k := w.heap.size) (j := 0) (by omega) (.pointer (some ⟨P, 0, none⟩))).trans HX1.out)
        have HX2b := Lib.hid ((set_else (W := V3) (h := B3) (k := w.heap.size + 1) (j := 0) (by omega) (.pointer (some ⟨P, 0, none⟩))).trans HX2.out)
        have HPb := Lib.hid ((set_else (W := V3) (h := B3) (k := P) (j := 0) (fun e => e3P e.symm) (.pointer (some ⟨P, 0, none⟩))).trans HP.out)
        have H4b := Lib.hid ((set_else (W := V3) (h := B3) (k := B4) (j := 0) (fun e => e34 e.symm) (.pointer (some ⟨P, 0, none⟩))).trans H4.out)
        have H3b := Lib.hid (show (V3.setCell ⟨B3, 0, none⟩ (.pointer (some ⟨P, 0, none⟩))).heap[B3]? = some (.cells #[.pointer (some ⟨P, 0, none⟩)] 23 (0, 0)) by have := set_at (j := 0) H3.out (.pointer (some ⟨P, 0, none⟩)); simpa using this)
        have hS : (V3.setCell ⟨B3, 0, none⟩ (.pointer (some ⟨P, 0, none⟩))).cell? ⟨w.heap.size, 0, none⟩ = some (.pointer (some ⟨p, 0, none⟩)) ∧ (V3.setCell ⟨B3, 0, none⟩ (.pointer (some ⟨P, 0, none⟩))).cell? ⟨p, 0, none⟩ = some (.slice A m c) := ⟨by simp [World.cell?, HX1b.out], below_cell HB2.out HK0.out⟩
        clear HB HX1 HX2 HP H3 H4 hf3 hc3 hHeld
        refine hK.out _ _ hS (fun hHeld => ?_)
        clear hK K hS
        generalize V3.setCell ⟨B3, 0, none⟩ (.pointer (some ⟨P, 0, none⟩)) = Vx at HB2 HX1b HX2b HPb H3b H4b hHeld ⊢
        have hf4 : Vx.frozen? ⟨B4, 0, none⟩ = false := by simp [World.frozen?, H4b.out]
        have hc4 : Vx.cell? ⟨B4, 0, none⟩ = some (.int .i64 0) := by simp [World.cell?, H4b.out]
        refine wpAnyH_ready (rs := [11]) (by kernel_rfl) (by simp) ?_
        refine AllReadyH.cons rfl (fun K hK => ?_) AllReadyH.nil
        go_simp
        have HB3 := Lib.hid (HB2.out.setCell (p := ⟨B4, 0, none⟩) (by simp only; omega) (.int .i64 ((m : Int) - 1)))
        have HX1c := Lib.hid ((set_else (W := Vx) (h := B4) (k := w.heap.size) (j := 0) (by omega) (.int .i64 ((m : Int) - 1))).trans HX1b.out)
        have HX2c := Lib.hid ((set_else (W := Vx) (h := B4) (k := w.heap.size + 1) (j := 0) (by omega) (.int .i64 ((m : Int) - 1))).trans HX2b.out)
        have HPc := Lib.hid ((set_else (W := Vx) (h := B4) (k := P) (j := 0) (fun e => e4P e.symm) (.int .i64 ((m : Int) - 1))).trans HPb.out)
        have H3c := Lib.hid ((set_else (W := Vx) (h := B4) (k := B3) (j := 0) e34 (.int .i64 ((m : Int) - 1))).trans H3b.out)
        have H4c := Lib.hid (show (Vx.setCell ⟨B4, 0, none⟩ (.int .i64 ((m : Int) - 1))).heap[B4]? = some (.cells #[.int .i64 ((m : Int) - 1)] 3 (0, 0)) by have := set_at (j := 0) H4b.out (.int .i64 ((m : Int) - 1)); simpa using this)
        have hS : (Vx.setCell ⟨B4, 0, none⟩ (.int .i64 ((m : Int) - 1))).cell? ⟨w.heap.size, 0, none⟩ = some (.pointer (some ⟨p, 0, none⟩)) ∧ (Vx.setCell ⟨B4, 0, none⟩ (.int .i64 ((m : Int) - 1))).cell? ⟨p, 0, none⟩ = some (.slice A m c) := ⟨by simp [World.cell?, HX1c.out], below_cell HB3.out HK0.out⟩
        clear HB2 HX1b HX2b HPb H3b H4b hf4 hc4 hHeld
        refine hK.out _ _ hS (fun hHeld => ?_)
        clear hK K hS hHeld
        refine wpAnyH_done (by kernel_rfl) ?_ _
        exact ⟨rfl, P, B3, B4, _, _, _, _, _, _, _, _, rfl, Lib.hid ⟨HB3.out, HX1c.out, HX2c.out, HPc.out, H3c.out, H4c.out, by omega, by omega⟩⟩
      · go_simp
        have hba := (Below.refl V1.heap.size V1).alloc (Nat.le_refl _) (.cells #[.int .i64 0] 3)
        have H4 := Lib.hid (heap_alloc_new V1 (.cells #[.int .i64 0] 3))
        have hS := And.intro (below_cell hba hHeld.1) (below_cell hba hHeld.2)
        have HB2 := Lib.hid (HB.out.trans (hba.mono HB.out.size))
        have hn := lt_some HX2.out
        have hlP := lt_some HP.out
        have HX12 := Lib.hid (hkeep hba HX1.out)
        have HX22 := Lib.hid (hkeep hba HX2.out)
        have HP2 := Lib.hid (hkeep hba HP.out)
        clear HB hHeld hba HX1 HX2 HP
        have HB := HB2
        have HX1 := HX12
        have HX2 := HX22
        have HP := HP2
        clear HB2 HX12 HX22 HP2
        refine hK.out _ _ hS (fun hHeld => ?_)
        clear hK K hS
        have hneB4 : w.heap.size + 1 < V1.heap.size := hn
        have hnePB4 : P < V1.heap.size := hlP
        clear hn hlP
        generalize V1.alloc (.cells #[.int .i64 0] 3) = V2 at HB HX1 HX2 HP H4 hHeld ⊢
        generalize V1.heap.size = B4 at H4 hneB4 hnePB4 ⊢
        refine wpAnyH_ready (rs := [8]) (by kernel_rfl) (by simp) ?_
        refine AllReadyH.cons rfl (fun K hK => ?_) AllReadyH.nil
        go_simp
        have hba := (Below.refl V2.heap.size V2).alloc (Nat.le_refl _) (.cells #[.pointer none] 23)
        have H3 := Lib.hid (heap_alloc_new V2 (.cells #[.pointer none] 23))
        have hS := And.intro (below_cell hba hHeld.1) (below_cell hba hHeld.2)
        have HB2 := Lib.hid (HB.out.trans (hba.mono HB.out.size))
        have hn := lt_some HX2.out
        have hlP := lt_some HP.out
        have hlB4 := lt_some H4.out
        have HX12 := Lib.hid (hkeep hba HX1.out)
        have HX22 := Lib.hid (hkeep hba HX2.out)
        have HP2 := Lib.hid (hkeep hba HP.out)
        have H42 := Lib.hid (hkeep hba H4.out)
        clear HB hHeld hba HX1 HX2 HP H4
        have HB := HB2
        have HX1 := HX12
        have HX2 := HX22
        have HP := HP2
        have H4 := H42
        clear HB2 HX12 HX22 HP2 H42
        refine hK.out _ _ hS (fun hHeld => ?_)
        clear hK K hS
        have hneB3 : w.heap.size + 1 < V2.heap.size := hn
        have hnePB3 : P < V2.heap.size := hlP
        have hneB4B3 : B4 < V2.heap.size := hlB4
        clear hn hlP hlB4
        generalize V2.alloc (.cells #[.pointer none] 23) = V3 at HB HX1 HX2 HP H4 H3 hHeld ⊢
        generalize V2.heap.size = B3 at H3 hneB3 hnePB3 hneB4B3 ⊢
        have e34 : B3 ≠ B4 := by omega
        have e3P : B3 ≠ P := by omega
        have e4P : B4 ≠ P := by omega
        have hf3 : V3.frozen? ⟨B3, 0, none⟩ = false := by simp [World.frozen?, H3.out]
        have hc3 : V3.cell? ⟨B3, 0, none⟩ = some (.pointer none) := by simp [World.cell?, H3.out]
        refine wpAnyH_ready (rs := [10]) (by kernel_rfl) (by simp) ?_
        refine AllReadyH.cons rfl (fun K hK => ?_) AllReadyH.nil
        go_simp
        have HB2 := Lib.hid (HB.out.setCell (p := ⟨B3, 0, none⟩) (by simp only; omega) (.pointer (some ⟨P, 0, none⟩)))
        have HX1b := Lib.hid ((set_else (W := V3) (h := B3) (k := w.heap.size) (j := 0) (by omega) (.pointer (some ⟨P, 0, none⟩))).trans HX1.out)
        have HX2b := Lib.hid ((set_else (W := V3) (h := B3) (k := w.heap.size + 1) (j := 0) (by omega) (.pointer (some ⟨P, 0, none⟩))).trans HX2.out)
        have HPb := Lib.hid ((set_else (W := V3) (h := B3) (k := P) (j := 0) (fun e => e3P e.symm) (.pointer (some ⟨P, 0, none⟩))).trans HP.out)
        have H4b := Lib.hid ((set_else (W := V3) (h := B3) (k := B4) (j := 0) (fun e => e34 e.symm) (.pointer (some ⟨P, 0, none⟩))).trans H4.out)
        have H3b := Lib.hid (show (V3.setCell ⟨B3, 0, none⟩ (.pointer (some ⟨P, 0, none⟩))).heap[B3]? = some (.cells #[.pointer (some ⟨P, 0, none⟩)] 23 (0, 0)) by have := set_at (j := 0) H3.out (.pointer (some ⟨P, 0, none⟩)); simpa using this)
        have hS : (V3.setCell ⟨B3, 0, none⟩ (.pointer (some ⟨P, 0, none⟩))).cell? ⟨w.heap.size, 0, none⟩ = some (.pointer (some ⟨p, 0, none⟩)) ∧ (V3.setCell ⟨B3, 0, none⟩ (.pointer (some ⟨P, 0, none⟩))).cell? ⟨p, 0, none⟩ = some (.slice A m c) := ⟨by simp [World.cell?, HX1b.out], below_cell HB2.out HK0.out⟩
        clear HB HX1 HX2 HP H3 H4 hf3 hc3 hHeld
        refine hK.out _ _ hS (fun hHeld => ?_)
        clear hK K hS
        generalize V3.setCell ⟨B3, 0, none⟩ (.pointer (some ⟨P, 0, none⟩)) = Vx at HB2 HX1b HX2b HPb H3b H4b hHeld ⊢
        have hf4 : Vx.frozen? ⟨B4, 0, none⟩ = false := by simp [World.frozen?, H4b.out]
        have hc4 : Vx.cell? ⟨B4, 0, none⟩ = some (.int .i64 0) := by simp [World.cell?, H4b.out]
        refine wpAnyH_ready (rs := [11]) (by kernel_rfl) (by simp) ?_
        refine AllReadyH.cons rfl (fun K hK => ?_) AllReadyH.nil
        go_simp
        have HB3 := Lib.hid (HB2.out.setCell (p := ⟨B4, 0, none⟩) (by simp only; omega) (.int .i64 ((m : Int) - 1)))
        have HX1c := Lib.hid ((set_else (W := Vx) (h := B4) (k := w.heap.size) (j := 0) (by omega) (.int .i64 ((m : Int) - 1))).trans HX1b.out)
        have HX2c := Lib.hid ((set_else (W := Vx) (h := B4) (k := w.heap.size + 1) (j := 0) (by omega) (.int .i64 ((m : Int) - 1))).trans HX2b.out)
        have HPc := Lib.hid ((set_else (W := Vx) (h := B4) (k := P) (j := 0) (fun e => e4P e.symm) (.int .i64 ((m : Int) - 1))).trans HPb.out)
        have H3c := Lib.hid ((set_else (W := Vx) (h := B4) (k := B3) (j := 0) e34 (.int .i64 ((m : Int) - 1))).trans H3b.out)
        have H4c := Lib.hid (show (Vx.setCell ⟨B4, 0, none⟩ (.int .i64 ((m : Int) - 1))).heap[B4]? = some (.cells #[.int .i64 ((m : Int) - 1)] 3 (0, 0)) by have := set_at (j := 0) H4b.out (.int .i64 ((m : Int) - 1)); simpa using this)
        have hS : (Vx.setCell ⟨B4, 0, none⟩ (.int .i64 ((m : Int) - 1))).cell? ⟨w.heap.size, 0, none⟩ = some (.pointer (some ⟨p, 0, none⟩)) ∧ (Vx.setCell ⟨B4, 0, none⟩ (.int .i64 ((m : Int) - 1))).cell? ⟨p, 0, none⟩ = some (.slice A m c) := ⟨by simp [World.cell?, HX1c.out], below_cell HB3.out HK0.out⟩
        clear HB2 HX1b HX2b HPb H3b H4b hf4 hc4 hHeld
        refine hK.out _ _ hS (fun hHeld => ?_)
        clear hK K hS hHeld
        refine wpAnyH_done (by kernel_rfl) ?_ _
        exact ⟨rfl, P, B3, B4, _, _, _, _, _, _, _, _, rfl, Lib.hid ⟨HB3.out, HX1c.out, HX2c.out, HPc.out, H3c.out, H4c.out, by omega, by omega⟩⟩
    · go_simp
      have hba := (Below.refl V0.heap.size V0).alloc (Nat.le_refl _) (.cells #[.pointer none] 23)
      have H3 := Lib.hid (heap_alloc_new V0 (.cells #[.pointer none] 23))
      have hS := And.intro (below_cell hba hHeld.1) (below_cell hba hHeld.2)
      have HB2 := Lib.hid (HB.out.trans (hba.mono HB.out.size))
      have hn := lt_some HX2.out
      have HX12 := Lib.hid (hkeep hba HX1.out)
      have HX22 := Lib.hid (hkeep hba HX2.out)
      clear HB hHeld hba HX1 HX2
      have HB := HB2
      have HX1 := HX12
      have HX2 := HX22
      clear HB2 HX12 HX22
      refine hK.out _ _ hS (fun hHeld => ?_)
      clear hK K hS
      have hneB3 : w.heap.size + 1 < V0.heap.size := hn
      clear hn 
      generalize V0.alloc (.cells #[.pointer none] 23) = V1 at HB HX1 HX2 H3 hHeld ⊢
      generalize V0.heap.size = B3 at H3 hneB3  ⊢
      refine wpAnyH_ready (rs := [1, 9]) (by kernel_rfl) (by simp) ?_
      refine AllReadyH.cons rfl (fun K hK => ?_) (AllReadyH.cons rfl (fun K hK => ?_) AllReadyH.nil)
      · go_simp
        have hba := (Below.refl V1.heap.size V1).alloc (Nat.le_refl _) (.cells #[.slice none 0 0, .map none] 60)
        have HP := Lib.hid (heap_alloc_new V1 (.cells #[.slice none 0 0, .map none] 60))
        have hS := And.intro (below_cell hba hHeld.1) (below_cell hba hHeld.2)
        have HB2 := Lib.hid (HB.out.trans (hba.mono HB.out.size))
        have hn := lt_some HX2.out
        have hlB3 := lt_some H3.out
        have HX12 := Lib.hid (hkeep hba HX1.out)
        have HX22 := Lib.hid (hkeep hba HX2.out)
        have H32 := Lib.hid (hkeep hba H3.out)
        clear HB hHeld hba HX1 HX2 H3
        have HB := HB2
        have HX1 := HX12
        have HX2 := HX22
        have H3 := H32
        clear HB2 HX12 HX22 H32
        refine hK.out _ _ hS (fun hHeld => ?_)
        clear hK K hS
        have hneP : w.heap.size + 1 < V1.heap.size := hn
        have hneB3P : B3 < V1.heap.size := hlB3
        clear hn hlB3
        generalize V1.alloc (.cells #[.slice none 0 0, .map none] 60) = V2 at HB HX1 HX2 H3 HP hHeld ⊢
        generalize V1.heap.size = P at HP hneP hneB3P ⊢
        refine wpAnyH_ready (rs := [9]) (by kernel_rfl) (by simp) ?_
        refine AllReadyH.cons rfl (fun K hK => ?_) AllReadyH.nil
        go_simp
        have hba := (Below.refl V2.heap.size V2).alloc (Nat.le_refl _) (.cells #[.int .i64 0] 3)
        have H4 := Lib.hid (heap_alloc_new V2 (.cells #[.int .i64 0] 3))
        have hS := And.intro (below_cell hba hHeld.1) (below_cell hba hHeld.2)
        have HB2 := Lib.hid (HB.out.trans (hba.mono HB.out.size))
        have hn := lt_some HX2.out
        have hlB3 := lt_some H3.out
        have hlP := lt_some HP.out
        have HX12 := Lib.hid (hkeep hba HX1.out)
        have HX22 := Lib.hid (hkeep hba HX2.out)
        have H32 := Lib.hid (hkeep hba H3.out)
        have HP2 := Lib.hid (hkeep hba HP.out)
        clear HB hHeld hba HX1 HX2 H3 HP
        have HB := HB2
        have HX1 := HX12
        have HX2 := HX22
        have H3 := H32
        have HP := HP2
        clear HB2 HX12 HX22 H32 HP2
        refine hK.out _ _ hS (fun hHeld => ?_)
        clear hK K hS
        have hneB4 : w.heap.size + 1 < V2.heap.size := hn
        have hneB3B4 : B3 < V2.heap.size := hlB3
        have hnePB4 : P < V2.heap.size := hlP
        clear hn hlB3 hlP
        generalize V2.alloc (.cells #[.int .i64 0] 3) = V3 at HB HX1 HX2 H3 HP H4 hHeld ⊢
        generalize V2.heap.size = B4 at H4 hneB4 hneB3B4 hnePB4 ⊢
        have e34 : B3 ≠ B4 := by omega
        have e3P : B3 ≠ P := by omega
        have e4P : B4 ≠ P := by omega
        have hf3 : V3.frozen? ⟨B3, 0, none⟩ = false := by simp [World.frozen?, H3.out]
        have hc3 : V3.cell? ⟨B3, 0, none⟩ = some (.pointer none) := by simp [World.cell?, H3.out]
        refine wpAnyH_ready (rs := [10]) (by kernel_rfl) (by simp) ?_
        refine AllReadyH.cons rfl (fun K hK => ?_) AllReadyH.nil
        go_simp
        have HB2 := Lib.hid (HB.out.setCell (p := ⟨B3, 0, none⟩) (by simp only; omega) (.pointer (some ⟨P, 0, none⟩)))
        have HX1b := Lib.hid ((set_else (W := V3) (h := B3) (k := w.heap.size) (j := 0) (by omega) (.pointer (some ⟨P, 0, none⟩))).trans HX1.out)
        have HX2b := Lib.hid ((set_else (W := V3) (h := B3) (k := w.heap.size + 1) (j := 0) (by omega) (.pointer (some ⟨P, 0, none⟩))).trans HX2.out)
        have HPb := Lib.hid ((set_else (W := V3) (h := B3) (k := P) (j := 0) (fun e => e3P e.symm) (.pointer (some ⟨P, 0, none⟩))).trans HP.out)
        have H4b := Lib.hid ((set_else (W := V3) (h := B3) (k := B4) (j := 0) (fun e => e34 e.symm) (.pointer (some ⟨P, 0, none⟩))).trans H4.out)
        have H3b := Lib.hid (show (V3.setCell ⟨B3, 0, none⟩ (.pointer (some ⟨P, 0, none⟩))).heap[B3]? = some (.cells #[.pointer (some ⟨P, 0, none⟩)] 23 (0, 0)) by have := set_at (j := 0) H3.out (.pointer (some ⟨P, 0, none⟩)); simpa using this)
        have hS : (V3.setCell ⟨B3, 0, none⟩ (.pointer (some ⟨P, 0, none⟩))).cell? ⟨w.heap.size, 0, none⟩ = some (.pointer (some ⟨p, 0, none⟩)) ∧ (V3.setCell ⟨B3, 0, none⟩ (.pointer (some ⟨P, 0, none⟩))).cell? ⟨p, 0, none⟩ = some (.slice A m c) := ⟨by simp [World.cell?, HX1b.out], below_cell HB2.out HK0.out⟩
        clear HB HX1 HX2 HP H3 H4 hf3 hc3 hHeld
        refine hK.out _ _ hS (fun hHeld => ?_)
        clear hK K hS
        generalize V3.setCell ⟨B3, 0, none⟩ (.pointer (some ⟨P, 0, none⟩)) = Vx at HB2 HX1b HX2b HPb H3b H4b hHeld ⊢
        have hf4 : Vx.frozen? ⟨B4, 0, none⟩ = false := by simp [World.frozen?, H4b.out]
        have hc4 : Vx.cell? ⟨B4, 0, none⟩ = some (.int .i64 0) := by simp [World.cell?, H4b.out]
        refine wpAnyH_ready (rs := [11]) (by kernel_rfl) (by simp) ?_
        refine AllReadyH.cons rfl (fun K hK => ?_) AllReadyH.nil
        go_simp
        have HB3 := Lib.hid (HB2.out.setCell (p := ⟨B4, 0, none⟩) (by simp only; omega) (.int .i64 ((m : Int) - 1)))
        have HX1c := Lib.hid ((set_else (W := Vx) (h := B4) (k := w.heap.size) (j := 0) (by omega) (.int .i64 ((m : Int) - 1))).trans HX1b.out)
        have HX2c := Lib.hid ((set_else (W := Vx) (h := B4) (k := w.heap.size + 1) (j := 0) (by omega) (.int .i64 ((m : Int) - 1))).trans HX2b.out)
        have HPc := Lib.hid ((set_else (W := Vx) (h := B4) (k := P) (j := 0) (fun e => e4P e.symm) (.int .i64 ((m : Int) - 1))).trans HPb.out)
        have H3c := Lib.hid ((set_else (W := Vx) (h := B4) (k := B3) (j := 0) e34 (.int .i64 ((m : Int) - 1))).trans H3b.out)
        have H4c := Lib.hid (show (Vx.setCell ⟨B4, 0, none⟩ (.int .i64 ((m : Int) - 1))).heap[B4]? = some (.cells #[.int .i64 ((m : Int) - 1)] 3 (0, 0)) by have := set_at (j := 0) H4b.out (.int .i64 ((m : Int) - 1)); simpa using this)
        have hS : (Vx.setCell ⟨B4, 0, none⟩ (.int .i64 ((m : Int) - 1))).cell? ⟨w.heap.size, 0, none⟩ = some (.pointer (some ⟨p, 0, none⟩)) ∧ (Vx.setCell ⟨B4, 0, none⟩ (.int .i64 ((m : Int) - 1))).cell? ⟨p, 0, none⟩ = some (.slice A m c) := ⟨by simp [World.cell?, HX1c.out], below_cell HB3.out HK0.out⟩
        clear HB2 HX1b HX2b HPb H3b H4b hf4 hc4 hHeld
        refine hK.out _ _ hS (fun hHeld => ?_)
        clear hK K hS hHeld
        refine wpAnyH_done (by kernel_rfl) ?_ _
        exact ⟨rfl, P, B3, B4, _, _, _, _, _, _, _, _, rfl, Lib.hid ⟨HB3.out, HX1c.out, HX2c.out, HPc.out, H3c.out, H4c.out, by omega, by omega⟩⟩
      · go_simp
        have hba := (Below.refl V1.heap.size V1).alloc (Nat.le_refl _) (.cells #[.int .i64 0] 3)
        have H4 := Lib.hid (heap_alloc_new V1 (.cells #[.int .i64 0] 3))
        have hS := And.intro (below_cell hba hHeld.1) (below_cell hba hHeld.2)
        have HB2 := Lib.hid (HB.out.trans (hba.mono HB.out.size))
        have hn := lt_some HX2.out
        have hlB3 := lt_some H3.out
        have HX12 := Lib.hid (hkeep hba HX1.out)
        have HX22 := Lib.hid (hkeep hba HX2.out)
        have H32 := Lib.hid (hkeep hba H3.out)
        clear HB hHeld hba HX1 HX2 H3
        have HB := HB2
        have HX1 := HX12
        have HX2 := HX22
        have H3 := H32
        clear HB2 HX12 HX22 H32
        refine hK.out _ _ hS (fun hHeld => ?_)
        clear hK K hS
        have hneB4 : w.heap.size + 1 < V1.heap.size := hn
        have hneB3B4 : B3 < V1.heap.size := hlB3
        clear hn hlB3
        generalize V1.alloc (.cells #[.int .i64 0] 3) = V2 at HB HX1 HX2 H3 H4 hHeld ⊢
        generalize V1.heap.size = B4 at H4 hneB4 hneB3B4 ⊢
        refine wpAnyH_ready (rs := [1]) (by kernel_rfl) (by simp) ?_
        refine AllReadyH.cons rfl (fun K hK => ?_) AllReadyH.nil
        go_simp
        have hba := (Below.refl V2.heap.size V2).alloc (Nat.le_refl _) (.cells #[.slice none 0 0, .map none] 60)
        have HP := Lib.hid (heap_alloc_new V2 (.cells #[.slice none 0 0, .map none] 60))
        have hS := And.intro (below_cell hba hHeld.1) (below_cell hba hHeld.2)
        have HB2 := Lib.hid (HB.out.trans (hba.mono HB.out.size))
        have hn := lt_some HX2.out
        have hlB3 := lt_some H3.out
        have hlB4 := lt_some H4.out
        have HX12 := Lib.hid (hkeep hba HX1.out)
        have HX22 := Lib.hid (hkeep hba HX2.out)
        have H32 := Lib.hid (hkeep hba H3.out)
        have H42 := Lib.hid (hkeep hba H4.out)
        clear HB hHeld hba HX1 HX2 H3 H4
        have HB := HB2
        have HX1 := HX12
        have HX2 := HX22
        have H3 := H32
        have H4 := H42
        clear HB2 HX12 HX22 H32 H42
        refine hK.out _ _ hS (fun hHeld => ?_)
        clear hK K hS
        have hneP : w.heap.size + 1 < V2.heap.size := hn
        have hneB3P : B3 < V2.heap.size := hlB3
        have hneB4P : B4 < V2.heap.size := hlB4
        clear hn hlB3 hlB4
        generalize V2.alloc (.cells #[.slice none 0 0, .map none] 60) = V3 at HB HX1 HX2 H3 H4 HP hHeld ⊢
        generalize V2.heap.size = P at HP hneP hneB3P hneB4P ⊢
        have e34 : B3 ≠ B4 := by omega
        have e3P : B3 ≠ P := by omega
        have e4P : B4 ≠ P := by omega
        have hf3 : V3.frozen? ⟨B3, 0, none⟩ = false := by simp [World.frozen?, H3.out]
        have hc3 : V3.cell? ⟨B3, 0, none⟩ = some (.pointer none) := by simp [World.cell?, H3.out]
        refine wpAnyH_ready (rs := [10]) (by kernel_rfl) (by simp) ?_
        refine AllReadyH.cons rfl (fun K hK => ?_) AllReadyH.nil
        go_simp
        have HB2 := Lib.hid (HB.out.setCell (p := ⟨B3, 0, none⟩) (by simp only; omega) (.pointer (some ⟨P, 0, none⟩)))
        have HX1b := Lib.hid ((set_else (W := V3) (h := B3) (k := w.heap.size) (j := 0) (by omega) (.pointer (some ⟨P, 0, none⟩))).trans HX1.out)
        have HX2b := Lib.hid ((set_else (W := V3) (h := B3) (k := w.heap.size + 1) (j := 0) (by omega) (.pointer (some ⟨P, 0, none⟩))).trans HX2.out)
        have HPb := Lib.hid ((set_else (W := V3) (h := B3) (k := P) (j := 0) (fun e => e3P e.symm) (.pointer (some ⟨P, 0, none⟩))).trans HP.out)
        have H4b := Lib.hid ((set_else (W := V3) (h := B3) (k := B4) (j := 0) (fun e => e34 e.symm) (.pointer (some ⟨P, 0, none⟩))).trans H4.out)
        have H3b := Lib.hid (show (V3.setCell ⟨B3, 0, none⟩ (.pointer (some ⟨P, 0, none⟩))).heap[B3]? = some (.cells #[.pointer (some ⟨P, 0, none⟩)] 23 (0, 0)) by have := set_at (j := 0) H3.out (.pointer (some ⟨P, 0, none⟩)); simpa using this)
        have hS : (V3.setCell ⟨B3, 0, none⟩ (.pointer (some ⟨P, 0, none⟩))).cell? ⟨w.heap.size, 0, none⟩ = some (.pointer (some ⟨p, 0, none⟩)) ∧ (V3.setCell ⟨B3, 0, none⟩ (.pointer (some ⟨P, 0, none⟩))).cell? ⟨p, 0, none⟩ = some (.slice A m c) := ⟨by simp [World.cell?, HX1b.out], below_cell HB2.out HK0.out⟩
        clear HB HX1 HX2 HP H3 H4 hf3 hc3 hHeld
        refine hK.out _ _ hS (fun hHeld => ?_)
        clear hK K hS
        generalize V3.setCell ⟨B3, 0, none⟩ (.pointer (some ⟨P, 0, none⟩)) = Vx at HB2 HX1b HX2b HPb H3b H4b hHeld ⊢
        have hf4 : Vx.frozen? ⟨B4, 0, none⟩ = false := by simp [World.frozen?, H4b.out]
        have hc4 : Vx.cell? ⟨B4, 0, none⟩ = some (.int .i64 0) := by simp [World.cell?, H4b.out]
        refine wpAnyH_ready (rs := [11]) (by kernel_rfl) (by simp) ?_
        refine AllReadyH.cons rfl (fun K hK => ?_) AllReadyH.nil
        go_simp
        have HB3 := Lib.hid (HB2.out.setCell (p := ⟨B4, 0, none⟩) (by simp only; omega) (.int .i64 ((m : Int) - 1)))
        have HX1c := Lib.hid ((set_else (W := Vx) (h := B4) (k := w.heap.size) (j := 0) (by omega) (.int .i64 ((m : Int) - 1))).trans HX1b.out)
        have HX2c := Lib.hid ((set_else (W := Vx) (h := B4) (k := w.heap.size + 1) (j := 0) (by omega) (.int .i64 ((m : Int) - 1))).trans HX2b.out)
        have HPc := Lib.hid ((set_else (W := Vx) (h := B4) (k := P) (j := 0) (fun e => e4P e.symm) (.int .i64 ((m : Int) - 1))).trans HPb.out)
        have H3c := Lib.hid ((set_else (W := Vx) (h := B4) (k := B3) (j := 0) e34 (.int .i64 ((m : Int) - 1))).trans H3b.out)
        have H4c := Lib.hid (show (Vx.setCell ⟨B4, 0, none⟩ (.int .i64 ((m : Int) - 1))).heap[B4]? = some (.cells #[.int .i64 ((m : Int) - 1)] 3 (0, 0)) by have := set_at (j := 0) H4b.out (.int .i64 ((m : Int) - 1)); simpa using this)
        have hS : (Vx.setCell ⟨B4, 0, none⟩ (.int .i64 ((m : Int) - 1))).cell? ⟨w.heap.size, 0, none⟩ = some (.pointer (some ⟨p, 0, none⟩)) ∧ (Vx.setCell ⟨B4, 0, none⟩ (.int .i64 ((m : Int) - 1))).cell? ⟨p, 0, none⟩ = some (.slice A m c) := ⟨by simp [World.cell?, HX1c.out], below_cell HB3.out HK0.out⟩
        clear HB2 HX1b HX2b HPb H3b H4b hf4 hc4 hHeld
        refine hK.out _ _ hS (fun hHeld => ?_)
        clear hK K hS hHeld
        refine wpAnyH_done (by kernel_rfl) ?_ _
        exact ⟨rfl, P, B3, B4, _, _, _, _, _, _, _, _, rfl, Lib.hid ⟨HB3.out, HX1c.out, HX2c.out, HPc.out, H3c.out, H4c.out, by omega, by omega⟩⟩
    · go_simp
      have hba := (Below.refl V0.heap.size V0).alloc (Nat.le_refl _) (.cells #[.int .i64 0] 3)
      have H4 := Lib.hid (heap_alloc_new V0 (.cells #[.int .i64 0] 3))
      have hS := And.intro (below_cell hba hHeld.1) (below_cell hba hHeld.2)
      have HB2 := Lib.hid (HB.out.trans (hba.mono HB.out.size))
      have hn := lt_some HX2.out
      have HX12 := Lib.hid (hkeep hba HX1.out)
      have HX22 := Lib.hid (hkeep hba HX2.out)
      clear HB hHeld hba HX1 HX2
      have HB := HB2
      have HX1 := HX12
      have HX2 := HX22
      clear HB2 HX12 HX22
      refine hK.out _ _ hS (fun hHeld => ?_)
      clear hK K hS
      have hneB4 : w.heap.size + 1 < V0.heap.size := hn
      clear hn 
      generalize V0.alloc (.cells #[.int .i64 0] 3) = V1 at HB HX1 HX2 H4 hHeld ⊢
      generalize V0.heap.size = B4 at H4 hneB4  ⊢
      refine wpAnyH_ready (rs := [1, 8]) (by kernel_rfl) (by simp) ?_
      refine AllReadyH.cons rfl (fun K hK => ?_) (AllReadyH.cons rfl (fun K hK => ?_) AllReadyH.nil)
      · go_simp
        have hba := (Below.refl V1.heap.size V1).alloc (Nat.le_refl _) (.cells #[.slice none 0 0, .map none] 60)
        have HP := Lib.hid (heap_alloc_new V1 (.cells #[.slice none 0 0, .map none] 60))
        have hS := And.intro (below_cell hba hHeld.1) (below_cell hba hHeld.2)
        have HB2 := Lib.hid (HB.out.trans (hba.mono HB.out.size))
        have hn := lt_some HX2.out
        have hlB4 := lt_some H4.out
        have HX12 := Lib.hid (hkeep hba HX1.out)
        have HX22 := Lib.hid (hkeep hba HX2.out)
        have H42 := Lib.hid (hkeep hba H4.out)
        clear HB hHeld hba HX1 HX2 H4
        have HB := HB2
        have HX1 := HX12
        have HX2 := HX22
        have H4 := H42
        clear HB2 HX12 HX22 H42
        refine hK.out _ _ hS (fun hHeld => ?_)
        clear hK K hS
        have hneP : w.heap.size + 1 < V1.heap.size := hn
        have hneB4P : B4 < V1.heap.size := hlB4
        clear hn hlB4
        generalize V1.alloc (.cells #[.slice none 0 0, .map none] 60) = V2 at HB HX1 HX2 H4 HP hHeld ⊢
        generalize V1.heap.size = P at HP hneP hneB4P ⊢
        refine wpAnyH_ready (rs := [8]) (by kernel_rfl) (by simp) ?_
        refine AllReadyH.cons rfl (fun K hK => ?_) AllReadyH.nil
        go_simp
        have hba := (Below.refl V2.heap.size V2).alloc (Nat.le_refl _) (.cells #[.pointer none] 23)
        have H3 := Lib.hid (heap_alloc_new V2 (.cells #[.pointer none] 23))
        have hS := And.intro (below_cell hba hHeld.1) (below_cell hba hHeld.2)
        have HB2 := Lib.hid (HB.out.trans (hba.mono HB.out.size))
        have hn := lt_some HX2.out
        have hlB4 := lt_some H4.out
        have hlP := lt_some HP.out
        have HX12 := Lib.hid (hkeep hba HX1.out)
        have HX22 := Lib.hid (hkeep hba HX2.out)
        have H42 := Lib.hid (hkeep hba H4.out)
        have HP2 := Lib.hid (hkeep hba HP.out)
        clear HB hHeld hba HX1 HX2 H4 HP
        have HB := HB2
        have HX1 := HX12
        have HX2 := HX22
        have H4 := H42
        have HP := HP2
        clear HB2 HX12 HX22 H42 HP2
        refine hK.out _ _ hS (fun hHeld => ?_)
        clear hK K hS
        have hneB3 : w.heap.size + 1 < V2.heap.size := hn
        have hneB4B3 : B4 < V2.heap.size := hlB4
        have hnePB3 : P < V2.heap.size := hlP
        clear hn hlB4 hlP
        generalize V2.alloc (.cells #[.pointer none] 23) = V3 at HB HX1 HX2 H4 HP H3 hHeld ⊢
        generalize V2.heap.size = B3 at H3 hneB3 hneB4B3 hnePB3 ⊢
        have e34 : B3 ≠ B4 := by omega
        have e3P : B3 ≠ P := by omega
        have e4P : B4 ≠ P := by omega
        have hf3 : V3.frozen? ⟨B3, 0, none⟩ = false := by simp [World.frozen?, H3.out]
        have hc3 : V3.cell? ⟨B3, 0, none⟩ = some (.pointer none) := by simp [World.cell?, H3.out]
        refine wpAnyH_ready (rs := [10]) (by kernel_rfl) (by simp) ?_
        refine AllReadyH.cons rfl (fun K hK => ?_) AllReadyH.nil
        go_simp
        have HB2 := Lib.hid (HB.out.setCell (p := ⟨B3, 0, none⟩) (by simp only; omega) (.pointer (some ⟨P, 0, none⟩)))
        have HX1b := Lib.hid ((set_else (W := V3) (h := B3) (k := w.heap.size) (j := 0) (by omega) (.pointer (some ⟨P, 0, none⟩))).trans HX1.out)
        have HX2b := Lib.hid ((set_else (W := V3) (h := B3) (k := w.heap.size + 1) (j := 0) (by omega) (.pointer (some ⟨P, 0, none⟩))).trans HX2.out)
        have HPb := Lib.hid ((set_else (W := V3) (h := B3) (k := P) (j := 0) (fun e => e3P e.symm) (.pointer (some ⟨P, 0, none⟩))).trans HP.out)
        have H4b := Lib.hid ((set_else (W := V3) (h := B3) (k := B4) (j := 0) (fun e => e34 e.symm) (.pointer (some ⟨P, 0, none⟩))).trans H4.out)
        have H3b := Lib.hid (show (V3.setCell ⟨B3, 0, none⟩ (.pointer (some ⟨P, 0, none⟩))).heap[B3]? = some (.cells #[.pointer (some ⟨P, 0, none⟩)] 23 (0, 0)) by have := set_at (j := 0) H3.out (.pointer (some ⟨P, 0, none⟩)); simpa using this)
        have hS : (V3.setCell ⟨B3, 0, none⟩ (.pointer (some ⟨P, 0, none⟩))).cell? ⟨w.heap.size, 0, none⟩ = some (.pointer (some ⟨p, 0, none⟩)) ∧ (V3.setCell ⟨B3, 0, none⟩ (.pointer (some ⟨P, 0, none⟩))).cell? ⟨p, 0, none⟩ = some (.slice A m c) := ⟨by simp [World.cell?, HX1b.out], below_cell HB2.out HK0.out⟩
        clear HB HX1 HX2 HP H3 H4 hf3 hc3 hHeld
        refine hK.out _ _ hS (fun hHeld => ?_)
        clear hK K hS
        generalize V3.setCell ⟨B3, 0, none⟩ (.pointer (some ⟨P, 0, none⟩)) = Vx at HB2 HX1b HX2b HPb H3b H4b hHeld ⊢
        have hf4 : Vx.frozen? ⟨B4, 0, none⟩ = false := by simp [World.frozen?, H4b.out]
        have hc4 : Vx.cell? ⟨B4, 0, none⟩ = some (.int .i64 0) := by simp [World.cell?, H4b.out]
        refine wpAnyH_ready (rs := [11]) (by kernel_rfl) (by simp) ?_
        refine AllReadyH.cons rfl (fun K hK => ?_) AllReadyH.nil
        go_simp
        have HB3 := Lib.hid (HB2.out.setCell (p := ⟨B4, 0, none⟩) (by simp only; omega) (.int .i64 ((m : Int) - 1)))
        have HX1c := Lib.hid ((set_else (W := Vx) (h := B4) (k := w.heap.size) (j := 0) (by omega) (.int .i64 ((m : Int) - 1))).trans HX1b.out)
        have HX2c := Lib.hid ((set_else (W := Vx) (h := B4) (k := w.heap.size + 1) (j := 0) (by omega) (.int .i64 ((m : Int) - 1))).trans HX2b.out)
        have HPc := Lib.hid ((set_else (W := Vx) (h := B4) (k := P) (j := 0) (fun e => e4P e.symm) (.int .i64 ((m : Int) - 1))).trans HPb.out)
        have H3c := Lib.hid ((set_else (W := Vx) (h := B4) (k := B3) (j := 0) e34 (.int .i64 ((m : Int) - 1))).trans H3b.out)
        have H4c := Lib.hid (show (Vx.setCell ⟨B4, 0, none⟩ (.int .i64 ((m : Int) - 1))).heap[B4]? = some (.cells #[.int .i64 ((m : Int) - 1)] 3 (0, 0)) by have := set_at (j := 0) H4b.out (.int .i64 ((m : Int) - 1)); simpa using this)
        have hS : (Vx.setCell ⟨B4, 0, none⟩ (.int .i64 ((m : Int) - 1))).cell? ⟨w.heap.size, 0, none⟩ = some (.pointer (some ⟨p, 0, none⟩)) ∧ (Vx.setCell ⟨B4, 0, none⟩ (.int .i64 ((m : Int) - 1))).cell? ⟨p, 0, none⟩ = some (.slice A m c) := ⟨by simp [World.cell?, HX1c.out], below_cell HB3.out HK0.out⟩
        clear HB2 HX1b HX2b HPb H3b H4b hf4 hc4 hHeld
        refine hK.out _ _ hS (fun hHeld => ?_)
        clear hK K hS hHeld
        refine wpAnyH_done (by kernel_rfl) ?_ _
        exact ⟨rfl, P, B3, B4, _, _, _, _, _, _, _, _, rfl, Lib.hid ⟨HB3.out, HX1c.out, HX2c.out, HPc.out, H3c.out, H4c.out, by omega, by omega⟩⟩
      · go_simp
        have hba := (Below.refl V1.heap.size V1).alloc (Nat.le_refl _) (.cells #[.pointer none] 23)
        have H3 := Lib.hid (heap_alloc_new V1 (.cells #[.pointer none] 23))
        have hS := And.intro (below_cell hba hHeld.1) (below_cell hba hHeld.2)
        have HB2 := Lib.hid (HB.out.trans (hba.mono HB.out.size))
        have hn := lt_some HX2.out
        have hlB4 := lt_some H4.out
        have HX12 := Lib.hid (hkeep hba HX1.out)
        have HX22 := Lib.hid (hkeep hba HX2.out)
        have H42 := Lib.hid (hkeep hba H4.out)
        clear HB hHeld hba HX1 HX2 H4
        have HB := HB2
        have HX1 := HX12
        have HX2 := HX22
        have H4 := H42
        clear HB2 HX12 HX22 H42
        refine hK.out _ _ hS (fun hHeld => ?_)
        clear hK K hS
        have hneB3 : w.heap.size + 1 < V1.heap.size := hn
        have hneB4B3 : B4 < V1.heap.size := hlB4
        clear hn hlB4
        generalize V1.alloc (.cells #[.pointer none] 23) = V2 at HB HX1 HX2 H4 H3 hHeld ⊢
        generalize V1.heap.size = B3 at H3 hneB3 hneB4B3 ⊢
        refine wpAnyH_ready (rs := [1]) (by kernel_rfl) (by simp) ?_
        refine AllReadyH.cons rfl (fun K hK => ?_) AllReadyH.nil
        go_simp
        have hba := (Below.refl V2.heap.size V2).alloc (Nat.le_refl _) (.cells #[.slice none 0 0, .map none] 60)
        have HP := Lib.hid (heap_alloc_new V2 (.cells #[.slice none 0 0, .map none] 60))
        have hS := And.intro (below_cell hba hHeld.1) (below_cell hba hHeld.2)
        have HB2 := Lib.hid (HB.out.trans (hba.mono HB.out.size))
        have hn := lt_some HX2.out
        have hlB4 := lt_some H4.out
        have hlB3 := lt_some H3.out
        have HX12 := Lib.hid (hkeep hba HX1.out)
        have HX22 := Lib.hid (hkeep hba HX2.out)
        have H42 := Lib.hid (hkeep hba H4.out)
        have H32 := Lib.hid (hkeep hba H3.out)
        clear HB hHeld hba HX1 HX2 H4 H3
        have HB := HB2
        have HX1 := HX12
        have HX2 := HX22
        have H4 := H42
        have H3 := H32
        clear HB2 HX12 HX22 H42 H32
        refine hK.out _ _ hS (fun hHeld => ?_)
        clear hK K hS
        have hneP : w.heap.size + 1 < V2.heap.size := hn
        have hneB4P : B4 < V2.heap.size := hlB4
        have hneB3P : B3 < V2.heap.size := hlB3
        clear hn hlB4 hlB3
        generalize V2.alloc (.cells #[.slice none 0 0, .map none] 60) = V3 at HB HX1 HX2 H4 H3 HP hHeld ⊢
        generalize V2.heap.size = P at HP hneP hneB4P hneB3P ⊢
        have e34 : B3 ≠ B4 := by omega
        have e3P : B3 ≠ P := by omega
        have e4P : B4 ≠ P := by omega
        have hf3 : V3.frozen? ⟨B3, 0, none⟩ = false := by simp [World.frozen?, H3.out]
        have hc3 : V3.cell? ⟨B3, 0, none⟩ = some (.pointer none) := by simp [World.cell?, H3.out]
        refine wpAnyH_ready (rs := [10]) (by kernel_rfl) (by simp) ?_
        refine AllReadyH.cons rfl (fun K hK => ?_) AllReadyH.nil
        go_simp
        have HB2 := Lib.hid (HB.out.setCell (p := ⟨B3, 0, none⟩) (by simp only; omega) (.pointer (some ⟨P, 0, none⟩)))
        have HX1b := Lib.hid ((set_else (W := V3) (h := B3) (k := w.heap.size) (j := 0) (by omega) (.pointer (some ⟨P, 0, none⟩))).trans HX1.out)
        have HX2b := Lib.hid ((set_else (W := V3) (h := B3) (k := w.heap.size + 1) (j := 0) (by omega) (.pointer (some ⟨P, 0, none⟩))).trans HX2.out)
        have HPb := Lib.hid ((set_else (W := V3) (h := B3) (k := P) (j := 0) (fun e => e3P e.symm) (.pointer (some ⟨P, 0, none⟩))).trans HP.out)
        have H4b := Lib.hid ((set_else (W := V3) (h := B3) (k := B4) (j := 0) (fun e => e34 e.symm) (.pointer (some ⟨P, 0, none⟩))).trans H4.out)
        have H3b := Lib.hid (show (V3.setCell ⟨B3, 0, none⟩ (.pointer (some ⟨P, 0, none⟩))).heap[B3]? = some (.cells #[.pointer (some ⟨P, 0, none⟩)] 23 (0, 0)) by have := set_at (j := 0) H3.out (.pointer (some ⟨P, 0, none⟩)); simpa using this)
        have hS : (V3.setCell ⟨B3, 0, none⟩ (.pointer (some ⟨P, 0, none⟩))).cell? ⟨w.heap.size, 0, none⟩ = some (.pointer (some ⟨p, 0, none⟩)) ∧ (V3.setCell ⟨B3, 0, none⟩ (.pointer (some ⟨P, 0, none⟩))).cell? ⟨p, 0, none⟩ = some (.slice A m c) := ⟨by simp [World.cell?, HX1b.out], below_cell HB2.out HK0.out⟩
        clear HB HX1 HX2 HP H3 H4 hf3 hc3 hHeld
        refine hK.out _ _ hS (fun hHeld => ?_)
        clear hK K hS
        generalize V3.setCell ⟨B3, 0, none⟩ (.pointer (some ⟨P, 0, none⟩)) = Vx at HB2 HX1b HX2b HPb H3b H4b hHeld ⊢
        have hf4 : Vx.frozen? ⟨B4, 0, none⟩ = false := by simp [World.frozen?, H4b.out]
        have hc4 : Vx.cell? ⟨B4, 0, none⟩ = some (.int .i64 0) := by simp [World.cell?, H4b.out]
        refine wpAnyH_ready (rs := [11]) (by kernel_rfl) (by simp) ?_
        refine AllReadyH.cons rfl (fun K hK => ?_) AllReadyH.nil
        go_simp
        have HB3 := Lib.hid (HB2.out.setCell (p := ⟨B4, 0, none⟩) (by simp only; omega) (.int .i64 ((m : Int) - 1)))
        have HX1c := Lib.hid ((set_else (W := Vx) (h := B4) (k := w.heap.size) (j := 0) (by omega) (.int .i64 ((m : Int) - 1))).trans HX1b.out)
        have HX2c := Lib.hid ((set_else (W := Vx) (h := B4) (k := w.heap.size + 1) (j := 0) (by omega) (.int .i64 ((m : Int) - 1))).trans HX2b.out)
        have HPc := Lib.hid ((set_else (W := Vx) (h := B4) (k := P) (j := 0) (fun e => e4P e.symm) (.int .i64 ((m : Int) - 1))).trans HPb.out)
        have H3c := Lib.hid ((set_else (W := Vx) (h := B4) (k := B3) (j := 0) e34 (.int .i64 ((m : Int) - 1))).trans H3b.out)
        have H4c := Lib.hid (show (Vx.setCell ⟨B4, 0, none⟩ (.int .i64 ((m : Int) - 1))).heap[B4]? = some (.cells #[.int .i64 ((m : Int) - 1)] 3 (0, 0)) by have := set_at (j := 0) H4b.out (.int .i64 ((m : Int) - 1)); simpa using this)
        have hS : (Vx.setCell ⟨B4, 0, none⟩ (.int .i64 ((m : Int) - 1))).cell? ⟨w.heap.size, 0, none⟩ = some (.pointer (some ⟨p, 0, none⟩)) ∧ (Vx.setCell ⟨B4, 0, none⟩ (.int .i64 ((m : Int) - 1))).cell? ⟨p, 0, none⟩ = some (.slice A m c) := ⟨by simp [World.cell?, HX1c.out], below_cell HB3.out HK0.out⟩
        clear HB2 HX1b HX2b HPb H3b H4b hf4 hc4 hHeld
        refine hK.out _ _ hS (fun hHeld => ?_)
        clear hK K hS hHeld
        refine wpAnyH_done (by kernel_rfl) ?_ _
        exact ⟨rfl, P, B3, B4, _, _, _, _, _, _, _, _, rfl, Lib.hid ⟨HB3.out, HX1c.out, HX2c.out, HPc.out, H3c.out, H4c.out, by omega, by omega⟩⟩
  rintro e a wx ⟨rfl, P, B3, B4, u11, u12, u13, u14, u15, u16, u17, u18, rfl, hfacts⟩
  obtain ⟨hb, hx1, hx2, hp, h3, h4, hn1, hn2⟩ := hfacts.out
  have HT1 := HT.out.step hb
  have k1 := HT1.cells.1
  rw [HMM.out] at k1
  have hc1 : wx.cell? ⟨w.heap.size, 0, none⟩ = some (.pointer (some ⟨p, 0, none⟩)) := by simp [World.cell?, hx1]
  have HF := hfacts
  clear hfacts HT1 hb hx1 hx2 hp h3 h4 hn1 hn2
  have CB := fun W => (callsIn_wide (n := 3)).1 (backward_in Fence.wide 3 trivial rfl A m c W)
  go_wp2_with fail
  refine (CB _).mono ?_
  rintro e w' ⟨rfl, rfl⟩
  go_wp2_with fail
  have HIV : Hid (IV w p P B3 B4 wx.heap.size m A c (.pointer none) (.slice none 0 0) (.map none) [] [] [] (wx.alloc (.cells #[.slice A m c] 41))) := Lib.hid (by
    obtain ⟨hb, hx1, hx2, hp, h3, h4, hn1, hn2⟩ := HF.out
    have hba := (Below.refl wx.heap.size wx).alloc (Nat.le_refl _) (.cells #[.slice A m c] 41)
    exact ⟨hb.trans (hba.mono hb.size), hkeep hba hx1, hkeep hba hx2, hkeep hba h3, hkeep hba h4, heap_alloc_new wx _, ⟨Nat.le_refl _, hkeep hba hp, World.ownsRow_nil _ _ _ _, ⟨rfl, fun i v l h => by simp at h⟩, .inl ⟨rfl, rfl⟩⟩, by omega, by omega, by omega⟩)
  have hw0 : w.heap.size ≤ (wx.alloc (.cells #[.slice A m c] 41)).heap.size := HIV.out.hb.size
  clear HF CB HK0 k1 hc1 HX1 HX2 HB
  generalize hbn : wx.heap.size = Bn at HIV ⊢
  generalize wx.alloc (.cells #[.slice A m c] 41) = W0 at HIV hw0 ⊢
  clear hbn
  refine (wpIn_wide (n := 3)).1 ?_
  refine range_back rfl (by omega) (gf := 41) (lb := #[.pointer (some ⟨Bn, 0, none⟩)]) rfl trivial (enters_of Try.func41 (by kernel_rfl) rfl)
    (back_tells (3 - 1) (by omega) Bn A m c vs hM) (fun _ => rfl)
    (fun k W => ∃ v' mp' vs', IV w p P B3 B4 Bn m A c (.pointer none) v' mp' vs' ((ivL M).take k) (ivM mir m k) W ∧ ∀ l ∈ (ivL M).take k, rightB l = true)
    (fun k W => ∃ v' mp' vs' M' mir', IV w p P B3 B4 Bn m A c (.pointer none) v' mp' vs' M' mir' W ∧ ¬ ∀ l ∈ ivL M, rightB l = true)
    (fun k W h => by obtain ⟨_, _, _, h, _⟩ := h; exact ⟨h.bx, HR0.out.below h.hb⟩)
    (fun k A' B' row h hg hr => by obtain ⟨v', mp', vs', h, h2⟩ := h; exact ⟨v', mp', vs', h.book hg (fun r e => ⟨Nat.le_trans hw0 (hr r e).1, (hr r e).2⟩), h2⟩)
    (fun k A' B' row h hg hr => by obtain ⟨v', mp', vs', M', mir', h, h2⟩ := h; exact ⟨v', mp', vs', M', mir', h.book hg (fun r e => ⟨Nat.le_trans hw0 (hr r e).1, (hr r e).2⟩), h2⟩)
    ⟨_, _, _, by simpa [ivM] using HIV.out, fun l h => by simp at h⟩
    (fun k => { tmps := #[.pointer (some ⟨p, 0, none⟩), .pointer (some ⟨w.heap.size, 0, none⟩), .pointer (some ⟨w.heap.size + 1, 0, none⟩), .pointer (some ⟨B3, 0, none⟩), .pointer (some ⟨B4, 0, none⟩), .int .i64 ((m : Int) - 1 - k), vs.getD (m - 1 - k) undef, undef, undef, .pointer (some ⟨p, 0, none⟩), .bool false, u11, u12, u13, u14, u15, u16, u17, u18, .pointer (some ⟨p, 0, none⟩), .pointer (some ⟨p, 0, none⟩), .pointer (some ⟨p, 0, none⟩), .slice A m c, .func (.func 41) #[] #[.pointer (some ⟨Bn, 0, none⟩)], .int .i64 ((m : Int) - 1 - k), vs.getD (m - 1 - k) undef, undef, undef, undef, undef, undef, undef, undef, undef, undef, undef, undef, undef, undef, undef, undef, undef, undef, undef, undef, undef, undef, undef, undef, undef], defers := [] })
    ?assign ?body ?done ?stop
  case assign =>
    intro l k W K hK
    have HK := Lib.hid hK
    clear hK
    unfold bkV
    gi_wp2
    exact HK.out
  case body =>
    rintro k W r d ⟨v', mp', vs', hIV, hgd⟩ hk hl hd hbk
    have hkM : k < M.length := by rw [HMM.out]; exact hk
    obtain ⟨K, hK⟩ : ∃ K : Nat, K = m - 1 - k := ⟨_, rfl⟩
    have hKM : K < M.length := by rw [HMM.out]; omega
    have hvK : K < vs.length := by rw [HT.out.sls.1]; exact hKM
    obtain ⟨A2, c2, hu, hrw, _⟩ := HT.out.sls.2 K vs[K] M[K] (List.getElem?_eq_getElem hvK) (List.getElem?_eq_getElem hKM)
    have hgu : vs.getD (m - 1 - k) undef = .slice A2 (M[K]).length c2 := by rw [← hK, ← hu]; simp [List.getD, hvK]
    have hSN := ivL_snoc hkM
    have hat : M[M.length - 1 - k]'(by omega) = M[K] := by congr 1; rw [HMM.out, hK]
    rw [hat] at hSN
    have hlm := hm _ (List.getElem_mem hKM)
    have eiv : (m : Int) - 1 - k = (K : Int) := by omega
    have hmK := hmir (K : Int)
    dsimp only
    rw [hgu, eiv]
    clear hgu hu hat hvK
    generalize M[K] = l at hrw hSN hlm ⊢
    have HSN := Lib.hid hSN
    have HK := Lib.hid hK
    have HIL := Lib.hid (inv_length l)
    have HIW := Lib.hid (show invW l = inv l by unfold invW; rw [if_pos hlm.2])
    have HRW := Lib.hid (RLow.of hrw)
    have HGD := Lib.hid hgd
    have hl20 := hlm.1
    have htl : ((ivL M).take k).length ≤ 1000 := by rw [List.length_take, ivL_len, HMM.out]; omega
    have CI := fun W1 (hb1 : Below w.heap.size w W1) => pinvert_any l A2 l.length c2 W1 (by omega) (rlow_mono (HRW.out.below hb1 (Nat.le_refl _)) hb1.size)
    have CA := fun A3 c3 W2 hr hq => add_any P P v' mp' vs' ((ivL M).take k) (ivM mir m k) (inv l) A3 l.length c3 W2 htl (by omega) hr hq
    have HIV1 := Lib.hid hIV
    have HD := Lib.hid hd
    have HL := Lib.hid hl
    have HBK := Lib.hid hbk
    have f3 : W.cell? ⟨B3, 0, none⟩ = some (.pointer (some ⟨P, 0, none⟩)) := by simp [World.cell?, hIV.x3]
    clear hSN hK hlm hrw hgd hIV hd hl hbk hkM
    gi_wp2
    refine region_round (S := fun W' => W'.cell? ⟨B3, 0, none⟩ = some (.pointer (some ⟨P, 0, none⟩))) (by kernel_rfl) (by rfl) (by rintro ⟨_, _, h⟩; exact h) f3 (fun hHeld => ?_)
    have HB0 : Hid (Below W.heap.size W W.drew) := Lib.hid (below_drewN (Below.refl _ _) 1)
    have HIV2 := Lib.hid (HIV1.out.step HB0.out)
    have HD2 := Lib.hid (hkeep HB0.out HD.out)
    have HL2 := Lib.hid (hkeep HB0.out HL.out)
    clear f3 HB0 HIV1
    generalize W.drew = W1 at hHeld HIV2 HD2 HL2 ⊢
    refine tk 0 (v := ?_) rfl (by kernel_rfl) (fun _ _ _ h => h) ?_ hHeld ?_
    rotate_left
    · (intro W hSw; (try dsimp only at hSw); go_simp; try with_reducible rfl)
    refine tk 1 (v := ?_) rfl (by kernel_rfl) (fun _ _ _ h => h) ?_ hHeld ?_
    rotate_left
    · (intro W hSw; clear hSw; go_simp; try with_reducible rfl)
    refine wpAnyH_ready (rs := [2]) (by kernel_rfl) (by simp) ?_
    refine AllReadyH.cons rfl (fun K hK => ?_) AllReadyH.nil
    go_simp
    refine (CI _ HIV2.out.hb).mono ?_
    rintro e W2 ⟨v2, rfl, hv2, hb2⟩
    rw [HIW.out] at hv2
    obtain ⟨A3, c3, hv3, _, hr3⟩ := hv2.row
    rw [HIL.out] at hv3 hr3
    subst hv3
    have HR3 := Lib.hid hr3
    have HIV3 := Lib.hid (HIV2.out.step hb2)
    have HD3 := Lib.hid (hkeep hb2 HD2.out)
    have HL3 := Lib.hid (hkeep hb2 HL2.out)
    have hS := below_cell hb2 hHeld
    clear hv2 hr3 hb2 hHeld CI HIV2 HD2 HL2
    go_wp2_with fail
    refine hK.out _ _ hS (fun hHeld => ?_)
    clear hK K hS
    refine wpAnyH_ready (rs := [3]) (by kernel_rfl) (by simp) ?_
    refine AllReadyH.cons rfl (fun K hK => ?_) AllReadyH.nil
    go_simp
    refine (CA A3 c3 _ HIV3.out.rt HR3.out).mono ?_
    rintro e W3 ⟨hor, hf3⟩
    have HD4 := Lib.hid (hf3.walks _ _ HD3.out HBK.out)
    have HL4 := Lib.hid (hf3.walks _ _ HL3.out (book_loop r))
    rcases hor with ⟨hrb, rfl, v3, vs3, hrt⟩ | ⟨hrb, rfl, hrt⟩
    · have HIV4 := Lib.hid (HIV3.out.rtf hf3 hrt)
      have hS : W3.cell? ⟨B3, 0, none⟩ = some (.pointer (some ⟨P, 0, none⟩)) := by simp [World.cell?, HIV4.out.x3]
      have HGD2 : Hid (∀ x ∈ (ivL M).take (k + 1), rightB x = true) := Lib.hid (fun x hx => by
        rw [HSN.out] at hx
        rcases List.mem_append.1 hx with h | h
        · exact HGD.out x h
        · simp at h; rw [h]; exact hrb)
      clear hf3 hrt hHeld HIV3 HD3 HL3 HR3 CA hrb HGD
      go_wp2_with fail
      refine hK.out _ _ hS (fun hHeld => ?_)
      clear hK K hS
      refine wpAnyH_ready (rs := [4]) (by kernel_rfl) (by simp) ?_
      refine AllReadyH.cons rfl (fun K hK => ?_) AllReadyH.nil
      go_simp
      refine hK.out _ _ hHeld (fun hHeld => ?_)
      clear hK K hHeld
      refine wpAnyH_done (by kernel_rfl) ?_ _
      have HT4 := HT.out.step HIV4.out.hb
      have q1 : W3.cell? ⟨w.heap.size, 0, none⟩ = some (.pointer (some ⟨p, 0, none⟩)) := by simp [World.cell?, HIV4.out.x1]
      have q3 : W3.cell? ⟨B3, 0, none⟩ = some (.pointer (some ⟨P, 0, none⟩)) := by simp [World.cell?, HIV4.out.x3]
      have q4 : W3.cell? ⟨B4, 0, none⟩ = some (.int .i64 ((m : Int) - 1)) := by simp [World.cell?, HIV4.out.x4]
      have qm := HT4.cells.2.1
      have hLk := look_mp (P := Try.prog) (e := 3) Try.underlying58 Try.underlying3 (by go_simp; try rfl) HT4.mps (K : Int)
      clear HT4
      cases hlk : lk mir (K : Int) with
      | none =>
        rw [hlk] at hLk
        simp only [Option.getD_none, Option.isSome_none] at hLk
        have HF2 := Lib.hid (ivM_none (n := k) HK.out hlk)
        clear hlk
        gi_wp2
        refine ⟨HD4.out.trans HD.out.symm, HL4.out.trans HL.out.symm, v3, mp', vs3, ?_, HGD2.out⟩
        rw [HSN.out, HF2.out]
        exact HIV4.out
      | some j =>
        rw [hlk] at hLk
        simp only [Option.getD_some, Option.isSome_some] at hLk
        have hj := hmK j hlk
        rw [HMM.out] at hj
        have HF2 := Lib.hid (ivM_some (n := k) HK.out hlk)
        have CB := fun W5 h => bind2_any P P v3 mp' (ivM mir m k) ((m : Int) - 1 - K) ((m : Int) - 1 - j) W5 h
        have ew1 : IntKind.i64.wrap ((m : Int) - 1 - K) = (m : Int) - 1 - K := IntWalk.i64_in _ (by omega)
        have ew2 : IntKind.i64.wrap ((m : Int) - 1 - j) = (m : Int) - 1 - j := IntWalk.i64_in _ (by omega)
        clear hlk
        gi_wp2_with (refine ⟨trivial, ?_⟩; gi_at_call 28; refine (CallsIn.inRound _ (callsIn_wide.2 (CB _ HIV4.out.rt.bind))).mono ?_; rintro e W5 ⟨⟨x, rfl⟩, ⟨mp5, hb5⟩, hf5⟩; have HIV5 := Lib.hid (HIV4.out.bf hf5 hb5); have HD5 := Lib.hid (hf5.walks _ _ HD4.out HBK.out); have HL5 := Lib.hid (hf5.walks _ _ HL4.out (book_loop r)); clear hf5 hb5 HIV4 HD4 HL4 q1 q3 q4 qm hLk ew1 ew2)
        refine ⟨HD5.out.trans HD.out.symm, HL5.out.trans HL.out.symm, v3, mp5, vs3, ?_, HGD2.out⟩
        rw [HSN.out, HF2.out]
        exact HIV5.out
    · have HIV4 := Lib.hid (HIV3.out.rtf hf3 hrt)
      have hS : W3.cell? ⟨B3, 0, none⟩ = some (.pointer (some ⟨P, 0, none⟩)) := by simp [World.cell?, HIV4.out.x3]
      have HNO : Hid (¬ ∀ x ∈ ivL M, rightB x = true) := Lib.hid (fun g => by
        have h1 : inv l ∈ (ivL M).take (k + 1) := by rw [HSN.out]; simp
        have h2 := g _ (List.mem_of_mem_take h1)
        rw [hrb] at h2; cases h2)
      clear hf3 hrt hHeld HIV3 HD3 HL3 HR3 CA hrb HGD
      go_wp2_with fail
      refine hK.out _ _ hS (fun hHeld => ?_)
      clear hK K hS
      refine wpAnyH_ready (rs := [4]) (by kernel_rfl) (by simp) ?_
      refine AllReadyH.cons rfl (fun K hK => ?_) AllReadyH.nil
      go_simp
      refine hK.out _ _ hHeld (fun hHeld => ?_)
      clear hK K hHeld
      refine wpAnyH_done (by kernel_rfl) ?_ _
      have q2 : W3.cell? ⟨w.heap.size + 1, 0, none⟩ = some (.pointer none) := by simp [World.cell?, HIV4.out.x2]
      have q2f : W3.frozen? ⟨w.heap.size + 1, 0, none⟩ = false := by simp [World.frozen?, HIV4.out.x2]
      gi_wp2
      have hd0 : W0.heap.size ≠ w.heap.size + 1 := fun e => by
        have h1 := HD.out; have h2 := HIV4.out.x2; rw [← e, HD4.out] at h2; injection h2 with h2; exact HBK.out.1 _ _ _ h2
      have hd1 : W0.heap.size + 1 ≠ w.heap.size + 1 := fun e => by
        have h2 := HIV4.out.x2; rw [← e, HL4.out] at h2; cases h2
      exact ⟨((set_else hd0 _).trans HD4.out).trans HD.out.symm, ((set_else hd1 _).trans HL4.out).trans HL.out.symm, v', mp', vs', _, _, HIV4.out.put (.pointer none) HIV4.out.n2, HNO.out⟩
  case done =>
    rintro W ⟨v', mp', vs', hIV, hgd⟩ hd
    have hfl : (ivL M).take m = ivL M := List.take_of_length_le (by rw [ivL_len, HMM.out]; omega)
    rw [hfl] at hIV hgd
    have HIV1 := Lib.hid hIV
    have HGD := Lib.hid hgd
    have HD := Lib.hid hd
    have q3 : W.cell? ⟨B3, 0, none⟩ = some (.pointer (some ⟨P, 0, none⟩)) := by simp [World.cell?, hIV.x3]
    have q2 : W.cell? ⟨w.heap.size + 1, 0, none⟩ = some (.pointer none) := by simp [World.cell?, hIV.x2]
    have q2f : W.frozen? ⟨w.heap.size + 1, 0, none⟩ = false := by simp [World.frozen?, hIV.x2]
    clear hfl hIV hgd hd
    go_wp2
    have hIV2 := HIV1.out.put (.pointer (some ⟨P, 0, none⟩)) HIV1.out.n2
    have hne : W0.heap.size ≠ w.heap.size + 1 := fun e => by
      have h1 := HD.out; have h2 := HIV1.out.x2; rw [← e, h1] at h2; cases h2
    have hD2 := (set_else (j := 0) hne (.pointer (some ⟨P, 0, none⟩))).trans HD.out
    refine ⟨by simp, .inl ⟨_, _, rfl, run_takeDeferred hD2, ?_⟩⟩
    have hIV3 := hIV2.book (grownBy_putObj' _ W0.heap.size (.deferred none)) (fun r e => by cases e; exact ⟨hw0, _, hD2, ⟨fun _ _ _ e => (by cases e), fun _ _ e => (by cases e)⟩⟩)
    refine ⟨.pointer (some ⟨P, 0, none⟩), ?_, .inl ⟨HGD.out, P, v', mp', vs', rfl, ?_⟩, hIV3.hb⟩
    · have h2 := hIV3.x2
      have h3 := cell_box h2
      simp [results, Try.f14, go_sem, h3]
    · rw [HMM.out]; exact hIV3.rt
  case stop =>
    rintro k W ⟨v', mp', vs', M', mir', hIV, hno⟩ hd
    have HIV1 := Lib.hid hIV
    have HNO := Lib.hid hno
    have HD := Lib.hid hd
    clear hIV hno hd
    refine (wpIn_wide (n := 3)).2 ?_
    go_wp2
    refine ⟨by simp, .inl ⟨_, _, rfl, run_takeDeferred HD.out, ?_⟩⟩
    have hIV3 := HIV1.out.book (grownBy_putObj' _ W0.heap.size (.deferred none)) (fun r e => by cases e; exact ⟨hw0, _, HD.out, ⟨fun _ _ _ e => (by cases e), fun _ _ e => (by cases e)⟩⟩)
    refine ⟨.pointer none, ?_, .inr ⟨HNO.out, rfl⟩, hIV3.hb⟩
    have h2 := hIV3.x2
    have h3 := cell_box h2
    simp [results, Try.f14, go_sem, h3]
end Go.Proofs.Ytnffgomgfabapaa.Rt
