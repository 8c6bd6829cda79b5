/- Diffs: how one comes to a point of the chart. -/
import Derived.Test.YtgodphfkhmahnaaDfE
namespace Go.Proofs.Ytgodphfkhmahnaa.Df
open Go.RowKit Mem Sm Rt
set_option linter.unusedVariables false
set_option linter.unusedSimpArgs false

/-- how far one is, and from where, once the points before k have been looked at -/
def stE (XS : List (List Int)) (d i k : Nat) : Int × Nat × Nat :=
  if k ≤ i - 1 then (0, d, i)
  else if k = i - 1 + 1 then (gt XS (d - 1) (i - 1) + 1, d - 1, i - 1)
  else if gt XS (d - 1) (i - 1) < gt XS (d - 1) (i - 1 + 1) then (gt XS (d - 1) (i - 1 + 1) + 1, d - 1, i - 1 + 1)
  else (gt XS (d - 1) (i - 1) + 1, d - 1, i - 1)
/-- where the loop ends -/
def enE (d i : Nat) : Nat := if d = 0 then i - 1 else min i (d - 1) + 1
def entE (XS : List (List Int)) (d i : Nat) : Int × Nat × Nat := stE XS d i (enE d i)
theorem stE0 (XS : List (List Int)) (d i : Nat) : stE XS d i (i - 1) = (0, d, i) := by unfold stE; rw [if_pos (Nat.le_refl _)]
theorem stE1 (XS : List (List Int)) (d i : Nat) : stE XS d i (i - 1 + 1) = (gt XS (d - 1) (i - 1) + 1, d - 1, i - 1) := by unfold stE; rw [if_neg (show ¬ (i - 1 + 1 ≤ i - 1) by omega), if_pos rfl]
theorem stE2 (XS : List (List Int)) (d i : Nat) : stE XS d i (i - 1 + 1 + 1) = if gt XS (d - 1) (i - 1) < gt XS (d - 1) (i - 1 + 1) then (gt XS (d - 1) (i - 1 + 1) + 1, d - 1, i - 1 + 1) else (gt XS (d - 1) (i - 1) + 1, d - 1, i - 1) := by
  unfold stE
  rw [if_neg (show ¬ (i - 1 + 1 + 1 ≤ i - 1) by omega), if_neg (show ¬ (i - 1 + 1 + 1 = i - 1 + 1) by omega)]
theorem stE_next {XS : List (List Int)} {d i k : Nat} (hk1 : i - 1 ≤ k) (hk : k < enE d i) (hp : 0 ≤ gt XS (d - 1) k) :
    stE XS d i (k + 1) = if (stE XS d i k).1 < gt XS (d - 1) k + 1 then (gt XS (d - 1) k + 1, d - 1, k) else stE XS d i k := by
  have hk2 : k = i - 1 ∨ k = i - 1 + 1 := by
    unfold enE at hk
    split at hk <;> omega
  rcases hk2 with rfl | rfl
  · rw [stE0, stE1, if_pos (by simp only; omega)]
  · rw [stE1, stE2]
    simp only
    by_cases h : gt XS (d - 1) (i - 1) < gt XS (d - 1) (i - 1 + 1)
    · rw [if_pos h, if_pos (by omega)]
    · rw [if_neg h, if_neg (by omega)]
/-- the boxes of enter -/
structure EN (w W : World) (d i : Nat) (D I : Int) : Prop where
  b : Below w.heap.size w W
  x0 : W.heap[w.heap.size]? = some (.cells #[.int .i64 d, .int .i64 i] 145 (0, 0))
  x1 : W.heap[w.heap.size + 1]? = some (.cells #[.int .i64 0, .int .i64 0] 145 (0, 0))
  x2 : W.heap[w.heap.size + 2]? = some (.cells #[.int .i64 D, .int .i64 I] 145 (0, 0))
section
variable {w W W' : World} {d i : Nat} {D I : Int}
theorem EN.step (h : EN w W d i D I) (hb : Below W.heap.size W W') : EN w W' d i D I :=
  ⟨h.b.trans (hb.mono h.b.size), by rw [hb.block _ (lt_some h.x0)]; exact h.x0, by rw [hb.block _ (lt_some h.x1)]; exact h.x1, by rw [hb.block _ (lt_some h.x2)]; exact h.x2⟩
theorem EN.size (h : EN w W d i D I) : w.heap.size + 3 ≤ W.heap.size := by have := lt_some h.x2; omega
theorem EN.cells (h : EN w W d i D I) : W.cell? ⟨w.heap.size, 0, none⟩ = some (.int .i64 d) ∧ W.cell? ⟨w.heap.size, 1, none⟩ = some (.int .i64 i) ∧ W.cell? ⟨w.heap.size + 2, 0, none⟩ = some (.int .i64 D) ∧ W.cell? ⟨w.heap.size + 2, 1, none⟩ = some (.int .i64 I)
    ∧ W.frozen? ⟨w.heap.size + 2, 0, none⟩ = false ∧ W.frozen? ⟨w.heap.size + 2, 1, none⟩ = false ∧ W.frozen? ⟨w.heap.size + 1, 0, none⟩ = false ∧ W.frozen? ⟨w.heap.size + 1, 1, none⟩ = false ∧ W.cell? ⟨w.heap.size + 1, 0, none⟩ = some (.int .i64 0) ∧ W.cell? ⟨w.heap.size + 1, 1, none⟩ = some (.int .i64 0) := by
  refine ⟨?_, ?_, ?_, ?_, ?_, ?_, ?_, ?_, ?_, ?_⟩ <;> simp [World.cell?, World.frozen?, h.x0, h.x1, h.x2]
theorem EN.set (h : EN w W d i D I) (D' I' : Int) : EN w ((W.setCell ⟨w.heap.size + 2, 0, none⟩ (.int .i64 D')).setCell ⟨w.heap.size + 2, 1, none⟩ (.int .i64 I')) d i D' I' := by
  refine ⟨?_, ?_, ?_, ?_⟩
  · have h1 := h.b
    refine ⟨h1.os, h1.tape, h1.output, by simpa [World.setCell] using h1.size, fun k hk => ?_⟩
    rw [Below.heap_setCell _ _ _ _ (by show k ≠ w.heap.size + 2; omega), Below.heap_setCell _ _ _ _ (by show k ≠ w.heap.size + 2; omega)]
    exact h1.block k hk
  · rw [Below.heap_setCell _ _ _ _ (by show w.heap.size ≠ w.heap.size + 2; omega), Below.heap_setCell _ _ _ _ (by show w.heap.size ≠ w.heap.size + 2; omega)]; exact h.x0
  · rw [Below.heap_setCell _ _ _ _ (by show w.heap.size + 1 ≠ w.heap.size + 2; omega), Below.heap_setCell _ _ _ _ (by show w.heap.size + 1 ≠ w.heap.size + 2; omega)]; exact h.x1
  · simp [World.setCell, Array.getElem?_modify, h.x2]
end
theorem below_set2 {B q : Nat} {w W : World} (h1 : Below B w W) (hq : B ≤ q) (u u' : Value) : Below B w ((W.setCell ⟨q, 0, none⟩ u).setCell ⟨q, 1, none⟩ u') := by
  refine ⟨h1.os, h1.tape, h1.output, by simpa [World.setCell] using h1.size, fun k hk => ?_⟩
  rw [Below.heap_setCell _ _ _ _ (by show k ≠ q; omega), Below.heap_setCell _ _ _ _ (by show k ≠ q; omega)]
  exact h1.block k hk
theorem EN.made (W : World) (d i : Nat) : EN W ((((W.alloc (.cells #[.int .i64 d, .int .i64 i] 145)).alloc (.cells #[.int .i64 0, .int .i64 0] 145)).alloc (.cells #[.int .i64 d, .int .i64 i] 145)).drew) d i d i := by
  have b1 := (Below.refl W.heap.size W).alloc (Nat.le_refl _) (.cells #[.int .i64 d, .int .i64 i] 145)
  have b2 := b1.alloc b1.size (.cells #[.int .i64 0, .int .i64 0] 145)
  have b3 := b2.alloc b2.size (.cells #[.int .i64 d, .int .i64 i] 145)
  refine ⟨below_drewN b3 1, ?_, ?_, ?_⟩
  · show (World.alloc _ _).heap[_]? = _
    rw [Below.heap_alloc _ _ _ (by simp; omega), Below.heap_alloc _ _ _ (by simp), heap_alloc_new]
  · show (World.alloc _ _).heap[_]? = _
    rw [Below.heap_alloc _ _ _ (by simp)]
    have := heap_alloc_new (W.alloc (.cells #[.int .i64 d, .int .i64 i] 145)) (.cells #[.int .i64 0, .int .i64 0] 145)
    simpa using this
  · show (World.alloc _ _).heap[_]? = _
    have := heap_alloc_new ((W.alloc (.cells #[.int .i64 d, .int .i64 i] 145)).alloc (.cells #[.int .i64 0, .int .i64 0] 145)) (.cells #[.int .i64 d, .int .i64 i] 145)
    simpa using this
theorem ChAt.set2 {base p k : Nat} {W : World} {a b v : Value} {vs : List Value} {XS : List (List Int)} {cs : Array Value} {fr : Nat × Nat} (h : ChAt base W p a b v vs XS) (hk : W.heap[k]? = some (.cells cs 145 fr)) (u u' : Value) :
    ChAt base ((W.setCell ⟨k, 0, none⟩ u).setCell ⟨k, 1, none⟩ u') p a b v vs XS := by
  have hT : ∀ (j : Nat) (xs : Array Value) (t : TypeId) (f : Nat × Nat), W.heap[j]? = some (.cells xs t f) → t ≠ 145 → ((W.setCell ⟨k, 0, none⟩ u).setCell ⟨k, 1, none⟩ u').heap[j]? = some (.cells xs t f) := by
    intro j xs t f e ht
    have hj : j ≠ k := by
      rintro rfl
      rw [hk] at e
      injection e with e; injection e with _ e2 _
      exact ht e2.symm
    rw [Below.heap_setCell _ _ _ _ (by exact hj), Below.heap_setCell _ _ _ _ (by exact hj)]
    exact e
  refine ⟨hT _ _ _ _ h.h0 (by decide), ⟨h.row.1, ?_⟩, h.len, fun i x l h1 h2 => ?_⟩
  · rcases h.row.2 with hn | ⟨g, cap, cur, hv, g1, g2, r⟩
    · exact .inl hn
    · exact .inr ⟨g, cap, cur, hv, g1, hT _ _ _ _ g2 (by decide), r⟩
  · obtain ⟨g, e, hg⟩ := h.its i x l h1 h2
    exact ⟨g, e, hT _ _ _ _ hg (by decide)⟩
set_option maxRecDepth 100000 in
set_option maxHeartbeats 4000000 in
theorem enter_any (base p : Nat) (a b v : Value) (vs : List Value) (XS : List (List Int)) (d i : Nat) (W : World) (hl : XS.length ≤ 2000) (hd : d ≤ XS.length) (hi : i ≤ d) (hX : ∀ j, j < d → (XS.getD j []).length = j + 1) (hY : ∀ j m, j < d → m ≤ j → 0 ≤ gt XS j m ∧ gt XS j m ≤ 10000)
    (h : ChAt base W p a b v vs XS) :
    Calls Try.prog 101 #[.pointer (some ⟨p, 0, none⟩), pnV d i] W fun e W' => e = .returned (.tuple #[.int .i64 (entE XS d i).1, pnV (entE XS d i).2.1 (entE XS d i).2.2]) ∧ Below W.heap.size W W' := by
  have HC := Lib.hid h
  have HX := Lib.hid hX
  have HY := Lib.hid hY
  obtain ⟨L, hL⟩ : ∃ L, L = XS.length := ⟨_, rfl⟩
  have HL := Lib.hid hL
  have hLd : d ≤ L := by omega
  have hL2 : L ≤ 2000 := by omega
  clear h hX hY hL hl hd
  unfold pnV
  go_enter Try.func101, Try.ntmps101
  go_upto_region 1 with fail
  go_cut [6, 7] from 11 to 11 (fun u q wx => u = .int .i64 0 ∧ q = .pointer (some ⟨W.heap.size + 2, 0, none⟩) ∧ Hid (EN W wx d i d i))
  case first =>
    go_region
    all_goals (go_wp2_with fail; go_meet; exact ⟨rfl, rfl, Lib.hid (EN.made W d i)⟩)
  case rest =>
    obtain ⟨rfl, rfl, HE⟩ := hcut
    obtain ⟨c0, c1, c2, c3, f2, f3, f4, f5, c4, c5⟩ := HE.out.cells
    go_upto_region 2 with fail
    go_cut [8] from 12 to 15 (fun u wx => u = .int .i64 ((i - 1 : Nat) : Int) ∧ Hid (EN W wx d i d i))
    case first =>
      by_cases h0 : i = 0
      · subst h0
        go_wp2_with fail
        go_meet
        exact ⟨rfl, HE⟩
      · have e1 : ((i - 1 : Nat) : Int) = (i : Int) - 1 := by omega
        have e2 := Lib.hid e1
        clear e1
        go_wp2_with fail
        go_meet
        exact ⟨by rw [e2.out], HE⟩
    case rest =>
      clear c0 c1 c2 c3 f2 f3 f4 f5 c4 c5 HE
      obtain ⟨rfl, HE⟩ := hcut
      go_wp2_with fail
      go_loopw [6, 8] (fun fv iv wr => ∃ (k : Nat) (F : Int) (D I : Nat), iv = .int .i64 k ∧ i - 1 ≤ k ∧ k ≤ enE d i ∧ fv = .int .i64 F ∧ (F, D, I) = stE XS d i k ∧ Hid (EN W wr d i D I) ∧ Hid (ChAt base wr p a b v vs XS)) (fun _ iv _ => enE d i - (intOf iv).toNat)
      case atStart =>
        refine ⟨i - 1, 0, d, i, rfl, Nat.le_refl _, ?_, rfl, ?_, HE, Lib.hid (HC.out.step HE.out.b)⟩
        · unfold enE; split <;> omega
        · simp [stE]
      case round =>
        obtain ⟨k, F, D, I, rfl, hk1, hk2, rfl, hst, HE, HC⟩ := hrel
        obtain ⟨c0, c1, c2, c3, f2, f3, f4, f5, c4, c5⟩ := HE.out.cells
        have hws := HE.out.size
        by_cases hk : k < enE d i
        · have hd0 : 0 < d := by
            rcases Nat.eq_zero_or_pos d with g | g
            · subst g; unfold enE at hk; simp at hk; omega
            · exact g
          have hkm : k ≤ i ∧ k ≤ d - 1 := by
            unfold enE at hk
            rw [if_neg (by omega)] at hk
            omega
          have g1 : (k : Int) ≤ (i : Int) := by omega
          have g2 : (k : Int) ≤ (d : Int) - 1 := by omega
          have hy := HY.out (d - 1) k (by omega) (by omega)
          have HN := Lib.hid (stE_next (XS := XS) hk1 hk hy.1)
          have hF : F = (stE XS d i k).1 := by rw [← hst]
          have HST := Lib.hid hst
          have hFb : 0 ≤ F ∧ F ≤ 10001 := by
            have hy2 := fun m hm => HY.out (d - 1) m (by omega) hm
            have y1 := hy2 (i - 1) (by omega)
            rw [hF]
            unfold stE
            split
            · simp
            · split
              · simp only; omega
              · have y2 := hy2 (i - 1 + 1) (by omega)
                split <;> (simp only; omega)
          have FA : ∀ W' : World, ChAt base W' p a b v vs XS → Calls Try.prog 83 #[.pointer (some ⟨p, 0, none⟩), .agg #[.int .i64 ((d : Int) - 1), .int .i64 k]] W' fun e W'' => e = .returned (.int .i64 (gt XS (d - 1) k)) ∧ Below W'.heap.size W' W'' := by
            intro W' h'
            have := far_any base p a b v vs XS (d - 1) k W' (by have := HL.out; omega) (by have := HL.out; omega) (by rw [HX.out (d - 1) (by omega)]; omega) (by rw [HX.out (d - 1) (by omega)]; omega) h'
            rw [show ((d - 1 : Nat) : Int) = (d : Int) - 1 by omega] at this
            exact this
          have HFA := Lib.hid FA
          generalize hx : gt XS (d - 1) k = x at *
          clear FA hst hF hx
          obtain ⟨x1, x2⟩ := hy
          obtain ⟨F1, F2⟩ := hFb
          have HS := Lib.hid (heap_alloc_new wr (.cells #[.int .i64 ((d : Int) - 1), .int .i64 k] 145))
          have hb1 := (Below.refl wr.heap.size wr).alloc (Nat.le_refl _) (.cells #[.int .i64 ((d : Int) - 1), .int .i64 k] 145)
          have HE1 := Lib.hid (HE.out.step hb1)
          have HC1 := Lib.hid (HC.out.step hb1)
          clear hb1
          go_wp2_with fail
          all_goals (refine (HFA.out _ HC1.out).mono ?_; rintro e w2 ⟨rfl, hb2⟩)
          all_goals
            have HE2 := Lib.hid (HE1.out.step hb2)
            have HC2 := Lib.hid (HC1.out.step hb2)
            have hs2 : w2.heap[wr.heap.size]? = _ := (hb2.block _ (by simp)).trans HS.out
            have s0 : w2.cell? ⟨wr.heap.size, 0, none⟩ = some (.int .i64 ((d : Int) - 1)) := by simp [World.cell?, hs2]
            have s1 : w2.cell? ⟨wr.heap.size, 1, none⟩ = some (.int .i64 k) := by simp [World.cell?, hs2]
            clear hs2 hb2 HE1 HC1 HE HC HS c0 c1 c2 c3 f2 f3 f4 f5 c4 c5 HFA
            obtain ⟨c0, c1, c2, c3, f2, f3, f4, f5, c4, c5⟩ := HE2.out.cells
            have hws2 := HE2.out.size
            have HE3 := Lib.hid ((HE2.out.set ((d : Int) - 1) k).step (below_drewN (Below.refl _ _) 1))
            have HC3 := Lib.hid ((HC2.out.set2 HE2.out.x2 (.int .i64 ((d : Int) - 1)) (.int .i64 k)).step (below_drewN (Below.refl _ _) 1))
            have hd1 : Hid (((d - 1 : Nat) : Int) = (d : Int) - 1) := Lib.hid (by omega)
          all_goals by_cases hx : F < x + 1
          all_goals go_wp2_with fail
          all_goals try
            (refine ⟨⟨k + 1, F, D, I, by push_cast; rfl, by omega, by omega, rfl, ?_, HE2, HC2⟩, by simp only [intOf]; omega⟩
             have e := HN.out
             rw [← HST.out] at e
             simp only at e
             rw [if_neg (by omega)] at e
             exact e.symm)
          all_goals go_region
          all_goals go_wp2_with fail
          all_goals refine ⟨⟨k + 1, x + 1, d - 1, k, by push_cast; rfl, by omega, by omega, rfl, ?_, ?_, ?_⟩, by simp only [intOf]; omega⟩
          all_goals try
            (have e := HN.out
             rw [← HST.out] at e
             simp only at e
             rw [if_pos (by omega)] at e
             exact e.symm)
          all_goals try (rw [hd1.out]; exact HE3)
          all_goals try exact HC3
        · have hend : k = enE d i := by omega
          have HST := Lib.hid hst
          have hg : ¬ ((k : Int) ≤ (i : Int) ∧ (k : Int) ≤ (d : Int) - 1) := by
            rw [hend]; unfold enE; split <;> omega
          clear hst
          have HB9 := Lib.hid (below_set2 HE.out.b (by omega : W.heap.size ≤ W.heap.size + 1) (.int .i64 D) (.int .i64 I))
          have r0 : (wr.setCell ⟨W.heap.size + 1, 0, none⟩ (.int .i64 D)).cell? ⟨W.heap.size + 1, 0, none⟩ = some (.int .i64 D) := by simp [World.cell?, World.setCell, Array.getElem?_modify, HE.out.x1]
          have r1 : ((wr.setCell ⟨W.heap.size + 1, 0, none⟩ (.int .i64 D)).setCell ⟨W.heap.size + 1, 1, none⟩ (.int .i64 I)).cell? ⟨W.heap.size + 1, 1, none⟩ = some (.int .i64 I) := by simp [World.cell?, World.setCell, Array.getElem?_modify, HE.out.x1]
          by_cases h9 : (i : Int) ≤ (d : Int) - 1
          all_goals go_wp2_with fail
          all_goals go_region
          all_goals go_wp2
          all_goals refine bodyPost_ret (v := .tuple #[.int .i64 F, .agg #[.int .i64 D, .int .i64 I]]) (by simp [results, Try.results101, r0, r1, go_sem]) rfl ⟨?_, ?_⟩
          all_goals try (unfold entE; rw [← hend, ← HST.out])
          all_goals try exact below_drewN HB9.out 1
end Go.Proofs.Ytgodphfkhmahnaa.Df
