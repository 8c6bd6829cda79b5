/- Diffs: the parts are laid. -/
import Derived.Test.YtgodphfkhmahnaaDfPq
import Derived.Test.YtgodphfkhmahnaaDfKe
namespace Go.Proofs.Ytgodphfkhmahnaa.Df
open Go.RowKit Mem Sm Rt Tk Pp
set_option linter.unusedVariables false
set_option linter.unusedSimpArgs false
structure SRow (W : World) (A : Option Addr) (k : Nat) (σ : List Rg) : Prop where
  r : Rn.RRow W A k σ
  t : ∀ a, A = some a → ∃ cs fr, W.heap[a.block]? = some (.cells cs 117 fr)
theorem SRow.keeps {W W' : World} {A : Option Addr} {k : Nat} {σ : List Rg} (h : SRow W A k σ) (hk : KeepsT 117 W W') : SRow W' A k σ := by
  refine ⟨⟨h.r.1, fun hn => ?_⟩, fun a e => ?_⟩
  · obtain ⟨b, off, e, hl, hc⟩ := h.r.2 hn
    obtain ⟨cs, fr, hh⟩ := h.t _ e
    refine ⟨b, off, e, lt_some (hk _ _ _ hh), fun j hj => (hc j hj).keep fun p => ?_⟩
    simp only [World.cell?, hk _ _ _ hh, hh]
  · obtain ⟨cs, fr, hh⟩ := h.t a e
    exact ⟨cs, fr, hk _ _ _ hh⟩
theorem run_cells {W : World} {q : Nat} {a b c : Value} {fr : Nat × Nat} (h : W.heap[q]? = some (.cells #[a, b, c] 117 fr)) : W.cell? ⟨q, 0, none⟩ = some a ∧ W.cell? ⟨q, 1, none⟩ = some b ∧ W.cell? ⟨q, 2, none⟩ = some c := by
  refine ⟨?_, ?_, ?_⟩ <;> simp [World.cell?, h]
def PartsIs (l m : List Tk.Tk) (w : World) (e : Ending) (w' : World) : Prop := ∃ v xs ps, e = .returned v ∧ Rep w.heap.size w' v xs ps ∧ Makes l m xs ∧ Below w.heap.size w w'
set_option maxRecDepth 100000 in
set_option maxHeartbeats 4000000 in
theorem parts_any (l m : List Tk.Tk) (A B : Option Addr) (n n' c c' : Nat) (w : World) (hn : n ≤ 150) (hn' : n' ≤ 150) (hc : n ≤ c) (hc' : n' ≤ c') (h1 : TRow w A n l) (h2 : TRow w B n' m) :
    Calls Try.prog 36 #[.slice A n c, .slice B n' c'] w (PartsIs l m w) := by
  have hmf : ∀ (fn : Fn) (first cap : Array Value) (w : World), (Instr.makeFunc fn first cap).run Try.prog w = .ok (.func fn first cap) w := fun _ _ _ _ => rfl
  have hb0 := ((((Below.refl _ w).alloc (Nat.le_refl _) (.cells #[.slice B n' c'] 22)).alloc (by simp) (.cells #[.slice none 0 0] 66)).alloc (by simp; omega) (.cells #[.int .i64 0] 3))
  have z0 := heap_alloc_new w (.cells #[.slice B n' c'] 22)
  have z1 := heap_alloc_new (w.alloc (.cells #[.slice B n' c'] 22)) (.cells #[.slice none 0 0] 66)
  have z2 := heap_alloc_new ((w.alloc (.cells #[.slice B n' c'] 22)).alloc (.cells #[.slice none 0 0] 66)) (.cells #[.int .i64 0] 3)
  obtain ⟨W0, hW0⟩ : ∃ W0, W0 = ((w.alloc (.cells #[.slice B n' c'] 22)).alloc (.cells #[.slice none 0 0] 66)).alloc (.cells #[.int .i64 0] 3) := ⟨_, rfl⟩
  have hx0 : BX w W0 (w.heap.size + 2) (w.heap.size + 1) w.heap.size 0 (.slice none 0 0) (.slice B n' c') [] [] := by
    rw [hW0]
    refine ⟨hb0, ?_, ?_, ?_, by omega, Rep.nil _ _⟩
    · simpa using z2
    · rw [Below.heap_alloc _ _ _ (by simp)]; simpa using z1
    · rw [Below.heap_alloc _ _ _ (by simp; omega), Below.heap_alloc _ _ _ (by simp)]; exact z0
  have HX0 := Lib.hid hx0
  have HL := Lib.hid h1
  have HM := Lib.hid h2
  have hnl := h1.1
  have hnm := h2.1
  have HLN := Lib.hid hnl
  have HMN := Lib.hid hnm
  have c2 : W0.cell? ⟨w.heap.size, 0, none⟩ = some (.slice B n' c') := HX0.out.cells.2.2.2.2
  have HW0 := Lib.hid hW0
  unfold PartsIs
  clear hb0 z0 z1 z2 hx0 h1 h2 hnl hnm
  rw [hW0] at c2
  clear hW0
  go_enter Try.func36, Try.ntmps36
  go_wp2_with fail
  rw [← HW0.out] at *
  refine (keptR_any l m A B n n' c c' W0 hn hn' hc hc' (HL.out.below HX0.out.b) (HM.out.below HX0.out.b)).mono ?_
  rintro e w1 ⟨Aσ, K, cσ, σ, rfl, hrr, hst, hb1, hty⟩
  have HX1 := Lib.hid (HX0.out.step hb1)
  have HSR : Hid (SRow w1 Aσ K σ) := Lib.hid ⟨hrr, hty⟩
  have HSL := Lib.hid hrr.1
  have HST := Lib.hid hst
  clear hrr hst hb1 hty HX0 HW0 c2
  obtain ⟨lb, hlb⟩ : ∃ x, x = w.heap.size + 2 := ⟨_, rfl⟩
  obtain ⟨pb, hpb⟩ : ∃ x, x = w.heap.size + 1 := ⟨_, rfl⟩
  obtain ⟨bb, hbb⟩ : ∃ x, x = w.heap.size := ⟨_, rfl⟩
  have hlb2 : lb = bb + 2 := by omega
  have hpb2 : pb = bb + 1 := by omega
  have HX2 : Hid (BX w w1 lb pb bb 0 (.slice none 0 0) (.slice B n' c') [] []) := by rw [hlb, hpb, hbb]; exact HX1
  have HBB := Lib.hid hbb
  rw [← hlb, ← hpb, ← hbb]
  clear hlb hpb hbb hlb2 hpb2 HX1
  go_wp2_with fail
  go_loopw [15] (fun iv wr => ∃ (i laid : Nat) (v : Value) (xs : List PX) (ps : List Pt), iv = .int .i64 i ∧ i ≤ K ∧ Hid (PL l m σ i xs laid) ∧ Hid (BX w wr lb pb bb laid v (.slice B n' c') xs ps) ∧ Hid (SRow wr Aσ K σ)) (fun iv _ => K - (intOf iv).toNat)
  case atStart => exact ⟨0, 0, _, [], [], rfl, by omega, Lib.hid (PL.zero l m σ), HX2, HSR⟩
  case round =>
    obtain ⟨i, laid, v, xs, ps, rfl, hiK, HP, HX, HS⟩ := hrel
    clear HX2 HSR
    by_cases hlt : i < K
    · have hil : i < σ.length := by rw [HSL.out]; exact hlt
      obtain ⟨x, y, s, he, hnx⟩ := HST.out.fine i hil
      obtain ⟨q1, q2, q3, q4, q5⟩ := HP.out.next hil he hnx
      have hlx := HP.out.len
      have hcnt := HP.out.cnt
      have hle := HP.out.le
      have hmn := HMN.out
      have hlen := HX.out.r.len
      obtain ⟨b', off, rfl, hbl, hcc⟩ := HS.out.r.2 (by omega)
      obtain ⟨c0, c1, c2⟩ := (hcc i hil).cells
      rw [he] at c0 c1 c2
      simp only at c0 c1 c2
      have hb6 := (Below.refl wr.heap.size wr).alloc (Nat.le_refl _) (.cells #[.int .i64 x, .int .i64 y, .int .i64 s] 117)
      have HX6 := Lib.hid (HX.out.step hb6)
      have HS6 := Lib.hid (HS.out.keeps ((KeepsT.refl _ wr).below hb6))
      have HB6 := Lib.hid (heap_alloc_new wr (.cells #[.int .i64 x, .int .i64 y, .int .i64 s] 117))
      have CR := renew_any m B n' c' lb pb bb laid y v xs ps w _ q1 (by omega) hn' hc' (by omega) HM.out HX6.out
      have hxy : x ≤ 1000 ∧ y ≤ 1000 ∧ s ≤ 1000 := by have := HLN.out; omega
      have hps : ps.length ≤ 1000 := by omega
      have hi9 : i ≤ 1000 := by omega
      have HQ4 := Lib.hid q4
      have HQ5 := Lib.hid q5
      clear hcc he hnx q1 q2 q3 q4 q5 hlx hcnt hle hmn hlen hb6 HX HS hil hbl
      go_wp2_with fail
      refine CR.mono ?_
      rintro e w8 ⟨rfl, hor, hkt⟩
      obtain ⟨v1, xs1, ps1, hx8, hp8, hl8⟩ : ∃ v1 xs1 ps1, BX w w8 lb pb bb y v1 (.slice B n' c') xs1 ps1 ∧ PL l m σ (i + 1) (xs1 ++ [⟨true, x, x + s, []⟩]) (y + s) ∧ ps1.length ≤ 2000 := by
        rcases hor with ⟨g, h⟩ | ⟨g, v', p, h⟩
        · exact ⟨v, xs, ps, h, HQ4.out g, by omega⟩
        · exact ⟨v', _, _, h, HQ5.out g, by simp; omega⟩
      have HX8 := Lib.hid hx8
      have HP8 := Lib.hid hp8
      have HS8 := Lib.hid (HS6.out.keeps hkt)
      have HB8 := Lib.hid (hkt _ _ _ HB6.out)
      generalize wr.heap.size = xb at *
      obtain ⟨hx1, hx2, hx3⟩ := hxy
      have k0 : w8.cell? ⟨xb, 0, none⟩ = some (.int .i64 x) := (run_cells HB8.out).1
      have k1 : w8.cell? ⟨xb, 1, none⟩ = some (.int .i64 y) := (run_cells HB8.out).2.1
      have k2 : w8.cell? ⟨xb, 2, none⟩ = some (.int .i64 s) := (run_cells HB8.out).2.2
      clear CR hor hkt hx8 hp8 HX6 HS6 HB6 HP HQ4 HQ5 c0 c1 c2 hps
      go_wp2_with fail
      refine wp_region_held_drew (S := fun W => W.heap[xb]? = some (.cells #[.int .i64 x, .int .i64 y, .int .i64 s] 117 (0, 0))) (by kernel_rfl) HB8.out (fun hHeld => ?_)
      have HX := Lib.hid (HX8.out.step (below_drewN (Below.refl _ w8) 1))
      change Hid (BX w w8.drew lb pb bb y v1 (.slice B n' c') xs1 ps1) at HX
      have HKT : Hid (KeepsT 117 w8 w8.drew) := Lib.hid (KeepsT.refl _ _)
      clear HX8 k0 k1 k2
      have hwr : IntKind.i64.wrap ((x : Int) + (s : Int)) = (x : Int) + (s : Int) := IntWalk.i64_in _ (by omega)
      generalize w8.drew = W1 at HX hHeld HKT ⊢
      refine tk 1 (v := ?_) rfl (by kernel_rfl) (fun _ _ _ h => h) ?_ hHeld ?_
      rotate_left
      · (intro W hSw; (try dsimp only at hSw); obtain ⟨y0, y1, y2⟩ := run_cells hSw; clear hSw; go_simp; try with_reducible rfl)
      refine tk 2 (v := ?_) rfl (by kernel_rfl) (fun _ _ _ h => h) ?_ hHeld ?_
      rotate_left
      · (intro W hSw; (try dsimp only at hSw); obtain ⟨y0, y1, y2⟩ := run_cells hSw; clear hSw; go_simp; try with_reducible rfl)
      refine tk 3 (v := ?_) rfl (by kernel_rfl) (fun _ _ _ h => h) ?_ hHeld ?_
      rotate_left
      · (intro W hSw; (try dsimp only at hSw); obtain ⟨y0, y1, y2⟩ := run_cells hSw; clear hSw; go_simp; try with_reducible rfl)
      refine tk 4 (v := ?_) rfl (by kernel_rfl) (fun _ _ _ h => h) ?_ hHeld ?_
      rotate_left
      · (intro W hSw; (try dsimp only at hSw); obtain ⟨y0, y1, y2⟩ := run_cells hSw; clear hSw; go_simp; try with_reducible rfl)
      refine tk 5 (v := ?_) rfl (by kernel_rfl) (fun _ _ _ h => h) ?_ hHeld ?_
      rotate_left
      · (intro W hSw; (try dsimp only at hSw); obtain ⟨y0, y1, y2⟩ := run_cells hSw; clear hSw; go_simp; try with_reducible rfl)
      refine tk 6 (v := ?_) rfl (by kernel_rfl) (fun _ _ _ h => h) ?_ hHeld ?_
      rotate_left
      · (intro W hSw; (try dsimp only at hSw); obtain ⟨y0, y1, y2⟩ := run_cells hSw; clear hSw; go_simp; try with_reducible rfl)
      refine tk 7 (v := ?_) rfl (by kernel_rfl) (fun _ _ _ h => h) ?_ hHeld ?_
      rotate_left
      · (intro W hSw; (try dsimp only at hSw); obtain ⟨y0, y1, y2⟩ := run_cells hSw; clear hSw; go_simp; try with_reducible rfl)
      refine wpAnyH_ready (rs := [0, 8]) (by kernel_rfl) (by simp) ?_
      refine AllReadyH.cons rfl (fun K hK => ?_) (AllReadyH.cons rfl (fun K hK => ?_) AllReadyH.nil)
      · have hc0 := HX.out.cells.2.2.1
        go_simp
        refine hK.out _ _ (HKT.out _ _ _ HB8.out) (fun hHeld => ?_)
        clear hK K hc0
        refine wpAnyH_ready (rs := [8]) (by kernel_rfl) (by simp) ?_
        refine AllReadyH.cons rfl (fun K hK => ?_) AllReadyH.nil
        go_simp
        refine (keep_pt (x : Int) ((x : Int) + (s : Int)) _).mono ?_
        rintro e W2 ⟨rfl, hb5⟩
        have HX2 := Lib.hid (HX.out.step hb5)
        have HKT2 := Lib.hid (HKT.out.below hb5)
        clear hb5 hHeld HX HKT
        have HX := HX2
        have HKT := HKT2
        clear HX2 HKT2
        go_wp2_with fail
        refine hK.out _ _ (HKT.out _ _ _ HB8.out) (fun hHeld => ?_)
        clear hK K
        refine wpAnyH_ready (rs := [9]) (by kernel_rfl) (by simp) ?_
        refine AllReadyH.cons rfl (fun K hK => ?_) AllReadyH.nil
        go_simp
        have hb6 := (Below.refl W2.heap.size W2).alloc (Nat.le_refl _) (.cells #[.bool true, .int .i64 x, .int .i64 ((x : Int) + (s : Int)), .slice none 0 0] 75)
        have HV := Lib.hid (pt_one W2 ⟨true, (x : Int), ((x : Int) + (s : Int)), none, 0, 0⟩)
        have HX3 := Lib.hid (HX.out.step hb6)
        have HKT3 := Lib.hid (HKT.out.below hb6)
        clear HX hb6 hHeld HKT
        have HX := HX3
        have HKT := HKT3
        clear HX3 HKT3
        refine hK.out _ _ (HKT.out _ _ _ HB8.out) (fun hHeld => ?_)
        clear hK K
        refine wpAnyH_ready (rs := [10]) (by kernel_rfl) (by simp) ?_
        refine AllReadyH.cons rfl (fun K hK => ?_) AllReadyH.nil
        refine step_app_pt (by rfl) (.tmp 23) (.tmp 32) (by rfl) w.heap.size v1 ps1 (by rfl) HX.out.r.r _ 1 1 [⟨true, (x : Int), ((x : Int) + (s : Int)), none, 0, 0⟩] (by rfl) HV.out (by omega) HX.out.b.size ?_
        intro v' W4 hown hg hat
        obtain ⟨A9, c9, hv9⟩ := hown.form
        obtain ⟨NL, hNL⟩ : ∃ z, z = (ps1 ++ [(⟨true, (x : Int), ((x : Int) + (s : Int)), none, 0, 0⟩ : Pt)]).length := ⟨_, rfl⟩
        rw [← hNL] at hv9
        clear hNL
        subst hv9
        obtain ⟨hx9, g0, g1, g2, g3, hpb4⟩ := HX.out.more (x := (⟨true, x, x + s, []⟩ : PX)) hg hown ⟨rfl, rfl, by push_cast; rfl, Tks.nil⟩
        have HX9 := Lib.hid hx9
        have hk4 := HKT.out.grown hg (fun g e => (HX.out.r.r.block g e).2.2) (by decide)
        have HKT4 := Lib.hid (hk4.grown (grown_set1 W4 pb 0 (.slice A9 NL c9)) (fun g e => by cases e; exact ⟨_, _, hpb4⟩) (by decide))
        have hS4 := hk4 _ _ _ HB8.out
        clear HKT hpb4 hk4 hown hg hat hHeld HX hx9 HV g2 g3
        have HKT := HKT4
        clear HKT4
        refine hK.out _ _ hS4 (fun hHeld => ?_)
        clear hK K hS4
        refine wpAnyH_ready (rs := [11]) (by kernel_rfl) (by simp) ?_
        refine AllReadyH.cons rfl (fun K hK => ?_) AllReadyH.nil
        go_simp
        refine hK.out _ _ (HKT.out _ _ _ HB8.out) (fun hHeld => ?_)
        clear hK K g0 g1
        refine wpAnyH_done (by kernel_rfl) ?_ _
        have HF := Lib.hid (HX9.out.lay (y + s))
        have HKF := Lib.hid (HKT.out.grown (grown_set1 _ lb 0 (.int .i64 ((y + s : Nat) : Int))) (fun g e => by cases e; exact ⟨_, _, HX9.out.l⟩) (by decide))
        have HSF := Lib.hid (HS8.out.keeps HKF.out)
        obtain ⟨k0, k1, _⟩ := HX9.out.cells
        have k2 := (run_cells hHeld).2.2
        push_cast at HF HSF
        clear hHeld HKF HKT HX9 HB8 HS8 hwr
        go_wp2_with fail
        exact ⟨⟨i + 1, y + s, _, _, _, by push_cast; rfl, by omega, HP8, HF, HSF⟩, by simp only [intOf]; omega⟩
      · go_simp
        refine (keep_pt (x : Int) ((x : Int) + (s : Int)) _).mono ?_
        rintro e W2 ⟨rfl, hb5⟩
        have HX2 := Lib.hid (HX.out.step hb5)
        have HKT2 := Lib.hid (HKT.out.below hb5)
        clear hb5 hHeld HX HKT
        have HX := HX2
        have HKT := HKT2
        clear HX2 HKT2
        go_wp2_with fail
        refine hK.out _ _ (HKT.out _ _ _ HB8.out) (fun hHeld => ?_)
        clear hK K
        refine wpAnyH_ready (rs := [0, 9]) (by kernel_rfl) (by simp) ?_
        refine AllReadyH.cons rfl (fun K hK => ?_) (AllReadyH.cons rfl (fun K hK => ?_) AllReadyH.nil)
        · have hc0 := HX.out.cells.2.2.1
          go_simp
          refine hK.out _ _ (HKT.out _ _ _ HB8.out) (fun hHeld => ?_)
          clear hK K hc0
          refine wpAnyH_ready (rs := [9]) (by kernel_rfl) (by simp) ?_
          refine AllReadyH.cons rfl (fun K hK => ?_) AllReadyH.nil
          go_simp
          have hb6 := (Below.refl W2.heap.size W2).alloc (Nat.le_refl _) (.cells #[.bool true, .int .i64 x, .int .i64 ((x : Int) + (s : Int)), .slice none 0 0] 75)
          have HV := Lib.hid (pt_one W2 ⟨true, (x : Int), ((x : Int) + (s : Int)), none, 0, 0⟩)
          have HX3 := Lib.hid (HX.out.step hb6)
          have HKT3 := Lib.hid (HKT.out.below hb6)
          clear HX hb6 hHeld HKT
          have HX := HX3
          have HKT := HKT3
          clear HX3 HKT3
          refine hK.out _ _ (HKT.out _ _ _ HB8.out) (fun hHeld => ?_)
          clear hK K
          refine wpAnyH_ready (rs := [10]) (by kernel_rfl) (by simp) ?_
          refine AllReadyH.cons rfl (fun K hK => ?_) AllReadyH.nil
          refine step_app_pt (by rfl) (.tmp 23) (.tmp 32) (by rfl) w.heap.size v1 ps1 (by rfl) HX.out.r.r _ 1 1 [⟨true, (x : Int), ((x : Int) + (s : Int)), none, 0, 0⟩] (by rfl) HV.out (by omega) HX.out.b.size ?_
          intro v' W4 hown hg hat
          obtain ⟨A9, c9, hv9⟩ := hown.form
          obtain ⟨NL, hNL⟩ : ∃ z, z = (ps1 ++ [(⟨true, (x : Int), ((x : Int) + (s : Int)), none, 0, 0⟩ : Pt)]).length := ⟨_, rfl⟩
          rw [← hNL] at hv9
          clear hNL
          subst hv9
          obtain ⟨hx9, g0, g1, g2, g3, hpb4⟩ := HX.out.more (x := (⟨true, x, x + s, []⟩ : PX)) hg hown ⟨rfl, rfl, by push_cast; rfl, Tks.nil⟩
          have HX9 := Lib.hid hx9
          have hk4 := HKT.out.grown hg (fun g e => (HX.out.r.r.block g e).2.2) (by decide)
          have HKT4 := Lib.hid (hk4.grown (grown_set1 W4 pb 0 (.slice A9 NL c9)) (fun g e => by cases e; exact ⟨_, _, hpb4⟩) (by decide))
          have hS4 := hk4 _ _ _ HB8.out
          clear HKT hpb4 hk4 hown hg hat hHeld HX hx9 HV g2 g3
          have HKT := HKT4
          clear HKT4
          refine hK.out _ _ hS4 (fun hHeld => ?_)
          clear hK K hS4
          refine wpAnyH_ready (rs := [11]) (by kernel_rfl) (by simp) ?_
          refine AllReadyH.cons rfl (fun K hK => ?_) AllReadyH.nil
          go_simp
          refine hK.out _ _ (HKT.out _ _ _ HB8.out) (fun hHeld => ?_)
          clear hK K g0 g1
          refine wpAnyH_done (by kernel_rfl) ?_ _
          have HF := Lib.hid (HX9.out.lay (y + s))
          have HKF := Lib.hid (HKT.out.grown (grown_set1 _ lb 0 (.int .i64 ((y + s : Nat) : Int))) (fun g e => by cases e; exact ⟨_, _, HX9.out.l⟩) (by decide))
          have HSF := Lib.hid (HS8.out.keeps HKF.out)
          obtain ⟨k0, k1, _⟩ := HX9.out.cells
          have k2 := (run_cells hHeld).2.2
          push_cast at HF HSF
          clear hHeld HKF HKT HX9 HB8 HS8 hwr
          go_wp2_with fail
          exact ⟨⟨i + 1, y + s, _, _, _, by push_cast; rfl, by omega, HP8, HF, HSF⟩, by simp only [intOf]; omega⟩
        · go_simp
          have hb6 := (Below.refl W2.heap.size W2).alloc (Nat.le_refl _) (.cells #[.bool true, .int .i64 x, .int .i64 ((x : Int) + (s : Int)), .slice none 0 0] 75)
          have HV := Lib.hid (pt_one W2 ⟨true, (x : Int), ((x : Int) + (s : Int)), none, 0, 0⟩)
          have HX3 := Lib.hid (HX.out.step hb6)
          have HKT3 := Lib.hid (HKT.out.below hb6)
          clear HX hb6 hHeld HKT
          have HX := HX3
          have HKT := HKT3
          clear HX3 HKT3
          refine hK.out _ _ (HKT.out _ _ _ HB8.out) (fun hHeld => ?_)
          clear hK K
          refine wpAnyH_ready (rs := [0]) (by kernel_rfl) (by simp) ?_
          refine AllReadyH.cons rfl (fun K hK => ?_) AllReadyH.nil
          have hc0 := HX.out.cells.2.2.1
          go_simp
          refine hK.out _ _ (HKT.out _ _ _ HB8.out) (fun hHeld => ?_)
          clear hK K hc0
          refine wpAnyH_ready (rs := [10]) (by kernel_rfl) (by simp) ?_
          refine AllReadyH.cons rfl (fun K hK => ?_) AllReadyH.nil
          refine step_app_pt (by rfl) (.tmp 23) (.tmp 32) (by rfl) w.heap.size v1 ps1 (by rfl) HX.out.r.r _ 1 1 [⟨true, (x : Int), ((x : Int) + (s : Int)), none, 0, 0⟩] (by rfl) HV.out (by omega) HX.out.b.size ?_
          intro v' W4 hown hg hat
          obtain ⟨A9, c9, hv9⟩ := hown.form
          obtain ⟨NL, hNL⟩ : ∃ z, z = (ps1 ++ [(⟨true, (x : Int), ((x : Int) + (s : Int)), none, 0, 0⟩ : Pt)]).length := ⟨_, rfl⟩
          rw [← hNL] at hv9
          clear hNL
          subst hv9
          obtain ⟨hx9, g0, g1, g2, g3, hpb4⟩ := HX.out.more (x := (⟨true, x, x + s, []⟩ : PX)) hg hown ⟨rfl, rfl, by push_cast; rfl, Tks.nil⟩
          have HX9 := Lib.hid hx9
          have hk4 := HKT.out.grown hg (fun g e => (HX.out.r.r.block g e).2.2) (by decide)
          have HKT4 := Lib.hid (hk4.grown (grown_set1 W4 pb 0 (.slice A9 NL c9)) (fun g e => by cases e; exact ⟨_, _, hpb4⟩) (by decide))
          have hS4 := hk4 _ _ _ HB8.out
          clear HKT hpb4 hk4 hown hg hat hHeld HX hx9 HV g2 g3
          have HKT := HKT4
          clear HKT4
          refine hK.out _ _ hS4 (fun hHeld => ?_)
          clear hK K hS4
          refine wpAnyH_ready (rs := [11]) (by kernel_rfl) (by simp) ?_
          refine AllReadyH.cons rfl (fun K hK => ?_) AllReadyH.nil
          go_simp
          refine hK.out _ _ (HKT.out _ _ _ HB8.out) (fun hHeld => ?_)
          clear hK K g0 g1
          refine wpAnyH_done (by kernel_rfl) ?_ _
          have HF := Lib.hid (HX9.out.lay (y + s))
          have HKF := Lib.hid (HKT.out.grown (grown_set1 _ lb 0 (.int .i64 ((y + s : Nat) : Int))) (fun g e => by cases e; exact ⟨_, _, HX9.out.l⟩) (by decide))
          have HSF := Lib.hid (HS8.out.keeps HKF.out)
          obtain ⟨k0, k1, _⟩ := HX9.out.cells
          have k2 := (run_cells hHeld).2.2
          push_cast at HF HSF
          clear hHeld HKF HKT HX9 HB8 HS8 hwr
          go_wp2_with fail
          exact ⟨⟨i + 1, y + s, _, _, _, by push_cast; rfl, by omega, HP8, HF, HSF⟩, by simp only [intOf]; omega⟩
    · have hiK2 : i = σ.length := by rw [HSL.out]; omega
      have hpl := HP.out
      rw [hiK2] at hpl
      obtain ⟨d1, d2⟩ := hpl.done HST.out (by rw [HMN.out]; exact hn')
      rw [HMN.out] at d1 d2
      have hlen := HX.out.r.len
      have hlx := HP.out.len
      have hcnt := HP.out.cnt
      have hle := HP.out.le
      rw [HMN.out] at hle
      have CR := renew_any m B n' c' lb pb bb laid n' v xs ps w wr hle (Nat.le_refl _) hn' hc' (by omega) HM.out HX.out
      obtain ⟨_, _, _, _, c2⟩ := HX.out.cells
      have HD1 := Lib.hid d1
      have HD2 := Lib.hid d2
      clear hiK2 hpl d1 d2 hlen hlx hcnt hle HX HS HP
      go_wp2_with fail
      refine CR.mono ?_
      rintro e w8 ⟨rfl, hor, hkt⟩
      obtain ⟨v1, xs1, ps1, hx8, hm8⟩ : ∃ v1 xs1 ps1, BX w w8 lb pb bb n' v1 (.slice B n' c') xs1 ps1 ∧ Makes l m xs1 := by
        rcases hor with ⟨g, h⟩ | ⟨g, v', p, h⟩
        · exact ⟨v, xs, ps, h, HD1.out g⟩
        · exact ⟨v', _, _, h, HD2.out g⟩
      obtain ⟨_, _, c3, _⟩ := hx8.cells
      have HX8 := Lib.hid hx8
      have HM8 := Lib.hid hm8
      clear CR hor hkt hx8 hm8 c2 HD1 HD2
      go_wp2
      go_ret
      exact ⟨v1, xs1, ps1, rfl, HX8.out.r, HM8.out, HX8.out.b⟩
end Go.Proofs.Ytgodphfkhmahnaa.Df
