/- Walks of route: the mirrors looked up; Mirror. Walks of route: a map of the route is read; recovered. -/
import Derived.Test.YtgodphfkhmahnaaRtE
import Derived.Test.YtgodphfkhmahnaaSmK
import Derived.OwnWalk
namespace Go.Proofs.Ytgodphfkhmahnaa.Rt
open Go.RowKit Mem Sm
set_option linter.unusedVariables false

/-- a map's mirror -/
def lk : List (Int × Int) → Int → Option Int
  | [], _ => none
  | q :: r, a => if q.1 = a then some q.2 else lk r a
theorem lk_none {l : List (Int × Int)} {a : Int} (h : lk l a = none) : ∀ q ∈ l, q.1 ≠ a := by
  induction l with
  | nil => intro q hq; simp at hq
  | cons z r ih =>
    simp only [lk] at h
    split at h
    · cases h
    · intro q hq
      rcases List.mem_cons.1 hq with rfl | hq
      · assumption
      · exact ih h q hq
theorem lk_some {l : List (Int × Int)} {a b : Int} (h : lk l a = some b) : (a, b) ∈ l := by
  induction l with
  | nil => simp [lk] at h
  | cons z r ih =>
    simp only [lk] at h
    split at h
    · rename_i e
      injection h with h
      obtain ⟨z1, z2⟩ := z
      simp only at e h
      subst e; subst h
      simp
    · exact List.mem_cons_of_mem _ (ih h)
theorem find_lk (a : Int) : ∀ (l : List (Int × Int)) (i n : Nat), ∃ j : Nat, Instr.findNow (.int .i64) (.int .i64 a) (entOf i l) n = some ((lk l a).map fun x => (j, .int .i64 x))
  | [], i, n => ⟨0, rfl⟩
  | q :: r, i, n => by
    by_cases h : q.1 = a
    · exact ⟨n, by simp [entOf, Instr.findNow, Instr.sameNow, lk, h]⟩
    · obtain ⟨j, hj⟩ := find_lk a r (i + 1) (n + 1)
      refine ⟨j, ?_⟩
      have hb : (a == q.1) = false := by simp; exact fun e => h e.symm
      simp [entOf, Instr.findNow, Instr.sameNow, lk, h, hb, hj]
theorem look_mp {P : Program} {t k e : TypeId} {W : World} {base : Nat} {mp : Value} {mir : List (Int × Int)} (hu : P.underlying t = some (.map k e)) (hk : P.underlying k = some (.int .i64)) (hz : (zeroValue e).run P W = .ok (.int .i64 0) W) (h : MpAt base W mp mir) (a : Int) :
    (Instr.lookup t mp (.int .i64 a) true).run P W = .ok (.tuple #[.int .i64 ((lk mir a).getD 0), .bool (lk mir a).isSome]) W := by
  rcases h with ⟨rfl, rfl⟩ | ⟨B, rfl, _, hb⟩
  · have hc := MapKept.run_checkKey (P := P) (w := W) (k := .int .i64 a) hk rfl true 9999
    have hf := MapKept.run_findKey (P := P) (w := W) (k := .int .i64 a) (l := []) hk rfl
    simp [Instr.lookup, run_underlying hu, hc, hf, hz, Result.andThen, lk]
  · obtain ⟨j, hj⟩ := find_lk a mir 0 0
    have hc := fun em => MapKept.run_checkKey (P := P) (w := W) (k := .int .i64 a) hk rfl em 9999
    have hf := MapKept.run_findKey (P := P) (w := W) hk hj
    cases hl : lk mir a with
    | none =>
      rw [hl] at hf
      simp [Instr.lookup, run_underlying hu, MapKept.run_getObj_map hb, hc, hf, hz, Result.andThen]
    | some x =>
      rw [hl] at hf
      simp [Instr.lookup, run_underlying hu, MapKept.run_getObj_map hb, hc, hf, Result.andThen]
theorem SlAt.after {base p : Nat} {W W' : World} {v mp u : Value} {vs : List Value} {M : List (List Rg)} {mir : List (Int × Int)} {l : List Rg} (hs : SlAt W u l) (h : RtAt base W p v mp vs M mir) (hf : RtF base p W W') : SlAt W' u l :=
  hs.keep hf.size fun k cs fr e => hf.keep k cs _ fr e (by decide) (by rintro rfl; rw [h.h0] at e; injection e with e; injection e with e1 e2; exact absurd e2 (by decide))
theorem row_of {W : World} {A : Option Addr} {n c : Nat} {l : List Rg} (hs : SlAt W (.slice A n c) l) : RRow W A n l := by
  obtain ⟨A', c', e, hr, _⟩ := hs
  injection e with e1 e2 e3
  subst e1; subst e2
  exact hr
def MirIs (base p : Nat) (v mp : Value) (vs : List Value) (M : List (List Rg)) (mir : List (Int × Int)) (l : List Rg) (of : Int) (W : World) (e : Ending) (W' : World) : Prop :=
  ((rightB l = true ∧ (lk mir of = none ∧ 0 ≤ of ∧ of < M.length) ∧ e = .returned (.int .i64 0) ∧ ∃ v' mp' vs', RtAt base W' p v' mp' vs' (M ++ [l]) (mir ++ [(of, (M.length : Int))] ++ [((M.length : Int), of)])) ∨
    (rightB l = true ∧ ¬ (lk mir of = none ∧ 0 ≤ of ∧ of < M.length) ∧ e = .returned (.int .i64 6) ∧ RtAt base W' p v mp vs M mir) ∨
    (rightB l = false ∧ e = .returned (.int .i64 1) ∧ RtAt base W' p v mp vs M mir)) ∧ RtF base p W W'
set_option maxRecDepth 100000 in
set_option maxHeartbeats 4000000 in
theorem mirror_any (base p : Nat) (v mp : Value) (vs : List Value) (M : List (List Rg)) (mir : List (Int × Int)) (l : List Rg) (of : Int) (A : Option Addr) (n c : Nat) (W : World) (hM : M.length ≤ 1000) (hn : n ≤ 100) (hmir : ∀ q ∈ mir, q.1 < M.length)
    (h : RtAt base W p v mp vs M mir) (hs : ∀ W', RtF base p W W' → RRow W' A n l) :
    Calls Try.prog 13 #[.pointer (some ⟨p, 0, none⟩), .slice A n c, .int .i64 of] W (MirIs base p v mp vs M mir l of W) := by
  have hr := hs W (RtF.refl _ _ _)
  have HS := Lib.hid hs
  have CC := check_any base p v mp vs M mir l A n c W hM hn h hr
  have HT := Lib.hid h
  have HR := Lib.hid hr
  have hbs := h.base_le
  clear h hr hs
  cases hrb : rightB l with
  | false =>
    rw [show chkE l = 1 by rw [chkE, hrb]; simp] at CC
    go_enter Try.func13, Try.ntmps13
    go_wp2_with fail
    refine CC.mono ?_
    rintro e W1 ⟨rfl, hb⟩
    have HT1 := Lib.hid (HT.out.step hb)
    have HF := Lib.hid (RtF.of_below (p := p) hb hbs)
    clear hb CC HT HR HS
    go_wp2
    go_ret
    exact ⟨.inr (.inr ⟨hrb, rfl, HT1.out⟩), HF.out⟩
  | true =>
    rw [show chkE l = 0 by rw [chkE, hrb]; simp] at CC
    by_cases hok : lk mir of = none ∧ 0 ≤ of ∧ of < M.length
    · obtain ⟨hl, h0, h1⟩ := hok
      go_enter Try.func13, Try.ntmps13
      go_wp2_with fail
      refine CC.mono ?_
      rintro e W1 ⟨rfl, hb⟩
      have HT1 := Lib.hid (HT.out.step hb)
      have HF := Lib.hid (RtF.of_below (p := p) hb hbs)
      clear hb CC HT HR
      have hLk := look_mp (P := Try.prog) (e := 3) Try.underlying33 Try.underlying3 (by go_simp; try rfl) HT1.out.mps of
      have hc := HT1.out.cells
      obtain ⟨hc0, hc1, _, _⟩ := hc
      obtain ⟨A1, c1, hv⟩ := HT1.out.form
      subst hv
      have g0 : ¬ of < 0 := by omega
      have g1 : ¬ (M.length : Int) ≤ of := by omega
      rw [hl] at hLk
      simp only [Option.isSome_none, Option.getD_none] at hLk
      have CB := bind_any base p _ mp vs M mir of M.length W1 (fun q hq => ⟨lk_none hl q hq, by have := hmir q hq; omega⟩) (by omega) HT1.out
      go_wp2_with fail
      refine CB.mono ?_
      rintro e W2 ⟨⟨x, rfl⟩, ⟨mp2, h2⟩, hf2⟩
      have CP := put_any base p _ mp2 vs M _ l A n c W2 hM hn h2 (HS.out _ (HF.out.trans hf2))
      go_wp2_with fail
      refine CP.mono ?_
      rintro e W3 ⟨⟨x3, rfl⟩, ⟨v3, vs3, h3⟩, hf3⟩
      have H3 := Lib.hid h3
      have HF3 := Lib.hid ((HF.out.trans hf2).trans hf3)
      clear h3 hf3 hf2 h2 CP CB HT1 HF
      go_wp2
      go_ret
      exact ⟨.inl ⟨hrb, ⟨hl, h0, h1⟩, rfl, _, _, _, H3.out⟩, HF3.out⟩
    · have HN := Lib.hid hok
      go_enter Try.func13, Try.ntmps13
      go_wp2_with fail
      refine CC.mono ?_
      rintro e W1 ⟨rfl, hb⟩
      have HT1 := Lib.hid (HT.out.step hb)
      have HF := Lib.hid (RtF.of_below (p := p) hb hbs)
      clear hb CC HT HR
      have hLk := look_mp (P := Try.prog) (e := 3) Try.underlying33 Try.underlying3 (by go_simp; try rfl) HT1.out.mps of
      have hc := HT1.out.cells
      obtain ⟨hc0, hc1, _, _⟩ := hc
      obtain ⟨A1, c1, hv⟩ := HT1.out.form
      subst hv
      cases hl : lk mir of with
      | some x =>
        rw [hl] at hLk
        simp only [Option.isSome_some, Option.getD_some] at hLk
        go_wp2
        go_ret
        exact ⟨.inr (.inl ⟨hrb, HN.out, rfl, HT1.out⟩), HF.out⟩
      | none =>
        rw [hl] at hLk
        simp only [Option.isSome_none, Option.getD_none] at hLk
        by_cases g0 : of < 0
        · clear hok
          go_wp2
          go_ret
          exact ⟨.inr (.inl ⟨hrb, HN.out, rfl, HT1.out⟩), HF.out⟩
        · have g1 : (M.length : Int) ≤ of := by
            rcases Int.lt_or_le of M.length with q | q
            · exact absurd ⟨hl, by omega, q⟩ hok
            · exact q
          clear hok
          go_wp2
          go_ret
          exact ⟨.inr (.inl ⟨hrb, HN.out, rfl, HT1.out⟩), HF.out⟩
end Go.Proofs.Ytgodphfkhmahnaa.Rt
namespace Go.Proofs.Ytgodphfkhmahnaa.Rt
open Go.RowKit Mem Sm
set_option linter.unusedVariables false

theorem RtAt.nth {base p : Nat} {W : World} {v mp : Value} {vs : List Value} {M : List (List Rg)} {mir : List (Int × Int)} (h : RtAt base W p v mp vs M mir) {j : Nat} (hj : j < M.length) :
    ∃ g cap A c, v = .slice (some ⟨g, 0, none⟩) M.length cap ∧ M.length ≤ cap ∧ W.cell? ⟨g, j, none⟩ = some (.slice A (M[j]).length c) ∧ RRow W A (M[j]).length M[j] := by
  rcases h.row.2 with ⟨_, h0⟩ | ⟨g, cap, cur, hv, h1, h2, h3, h4, h5, h6⟩
  · omega
  · obtain ⟨u, hu⟩ : ∃ u, vs[j]? = some u := ⟨_, List.getElem?_eq_getElem (by rw [h.sls.1]; exact hj)⟩
    obtain ⟨A, c, e, hr, _⟩ := h.sls.2 j u M[j] hu (List.getElem?_eq_getElem hj)
    refine ⟨g, cap, A, c, hv, h3, ?_, hr⟩
    rw [← e]
    have : cur[j]? = some u := by
      rw [← hu, ← h6, List.getElem?_take_of_lt (by omega)]
      simp
    simp [World.cell?, h2, this]
theorem below_cell {W W' : World} (hb : Below W.heap.size W W') {a : Addr} {u : Value} (h : W.cell? a = some u) : W'.cell? a = some u := by
  have hl := World.block_lt_of_cell? W a h
  have hk := hb.block _ hl
  simp only [World.cell?, hk] at h ⊢
  exact h
/-- a position whose token is gone goes on behind the mirror -/
noncomputable def recR (M : List (List Rg)) (mir : List (Int × Int)) (i : Int) (q : Pl) : Int × Int × Bool :=
  match lk mir i with
  | none => (0, 0, false)
  | some j => if q.gone = true ∧ i ≤ j then (recN (M.getD j.toNat []) q.rng q.off, j, recB (M.getD j.toNat []) q.rng q.off) else (0, 0, false)
set_option maxRecDepth 100000 in
set_option maxHeartbeats 4000000 in
theorem recovered_any (base p : Nat) (v mp : Value) (vs : List Value) (M : List (List Rg)) (mir : List (Int × Int)) (i : Int) (q : Pl) (W : World) (hM : M.length ≤ 1000) (hm : ∀ m ∈ M, m.length ≤ 100) (hmir : ∀ x ∈ mir, 0 ≤ x.2 ∧ x.2 < M.length)
    (h : RtAt base W p v mp vs M mir) :
    Calls Try.prog 49 #[.pointer (some ⟨p, 0, none⟩), .int .i64 i, plV q] W fun e W' => e = .returned (.tuple #[.int .i64 (recR M mir i q).1, .int .i64 (recR M mir i q).2.1, .bool (recR M mir i q).2.2]) ∧ Below W.heap.size W W' := by
  obtain ⟨qp, qg, qi, qr, qo⟩ := q
  unfold plV
  simp only
  have HB := Lib.hid ((Below.refl _ W).alloc (Nat.le_refl _) (.cells #[.int .i64 qp, .bool qg, .bool qi, .int .i64 qr, .int .i64 qo] 90))
  have HT := Lib.hid (h.step HB.out)
  have hn := heap_alloc_new W (.cells #[.int .i64 qp, .bool qg, .bool qi, .int .i64 qr, .int .i64 qo] 90)
  have hsz : (W.alloc (.cells #[.int .i64 qp, .bool qg, .bool qi, .int .i64 qr, .int .i64 qo] 90)).heap.size = W.heap.size + 1 := by simp
  obtain ⟨R, hRR⟩ : ∃ R, R = recR M mir i ⟨qp, qg, qi, qr, qo⟩ := ⟨_, rfl⟩
  rw [← hRR]
  have HRR := Lib.hid hRR
  clear h hRR
  go_enter Try.func49, Try.ntmps49
  obtain ⟨W0, hW0⟩ : ∃ W0, W0 = W.alloc (.cells #[.int .i64 qp, .bool qg, .bool qi, .int .i64 qr, .int .i64 qo] 90) := ⟨_, rfl⟩
  go_upto_region 1 with fail
  rw [← hW0] at hn HB HT hsz ⊢
  clear hW0
  have hq1 : W0.cell? ⟨W.heap.size, 1, none⟩ = some (.bool qg) := by simp [World.cell?, hn]
  have hq3 : W0.cell? ⟨W.heap.size, 3, none⟩ = some (.int .i64 qr) := by simp [World.cell?, hn]
  have hq4 : W0.cell? ⟨W.heap.size, 4, none⟩ = some (.int .i64 qo) := by simp [World.cell?, hn]
  have hLk := look_mp (P := Try.prog) (e := 3) Try.underlying33 Try.underlying3 (by go_simp; try rfl) HT.out.mps i
  obtain ⟨hc0, hc1, _, _⟩ := HT.out.cells
  cases hl : lk mir i with
  | none =>
    rw [hl] at hLk
    simp only [Option.isSome_none, Option.getD_none] at hLk
    have hR : recR M mir i ⟨qp, qg, qi, qr, qo⟩ = (0, 0, false) := by unfold recR; rw [hl]
    have HR := Lib.hid (HRR.out.trans hR)
    clear hR
    cases qg <;> (go_wp2; go_ret3; exact ⟨by rw [HR.out]; rfl, HB.out⟩)
  | some j =>
    rw [hl] at hLk
    simp only [Option.isSome_some, Option.getD_some] at hLk
    by_cases hg : qg = true ∧ i ≤ j
    · obtain ⟨rfl, hij⟩ := hg
      have hji : ¬ j < i := by omega
      have hR : recR M mir i ⟨qp, true, qi, qr, qo⟩ = (recN (M.getD j.toNat []) qr qo, j, recB (M.getD j.toNat []) qr qo) := by unfold recR; rw [hl]; simp [hij]
      have hjj := hmir _ (lk_some hl)
      simp only at hjj
      obtain ⟨k, rfl⟩ : ∃ k : Nat, j = k := ⟨j.toNat, by omega⟩
      have hkM : k < M.length := by omega
      obtain ⟨g, cap, A, c, hv, hcap, hcell, hrow⟩ := HT.out.nth hkM
      subst hv
      have hgd : M.getD ((k : Int)).toNat [] = M[k] := by simp [List.getD, hkM]
      rw [hgd] at hR
      have HR := Lib.hid (HRR.out.trans hR)
      clear hR
      have HRW := Lib.hid hrow
      go_wp2_with fail
      have HT5 : Hid (RtAt base W0.drew p _ mp vs M mir) := Lib.hid (HT.out.step (below_drewN (Below.refl _ _) 1))
      have HB5 : Hid (Below W.heap.size W W0.drew) := Lib.hid (below_drewN HB.out 1)
      have hS : W0.drew.cell? ⟨p, 0, none⟩ = some (.slice (some ⟨g, 0, none⟩) M.length cap) ∧ W0.drew.cell? ⟨g, k, none⟩ = some (.slice A (M[k]).length c) ∧ W0.drew.cell? ⟨W.heap.size, 3, none⟩ = some (.int .i64 qr) ∧ W0.drew.cell? ⟨W.heap.size, 4, none⟩ = some (.int .i64 qo) := ⟨hc0, hcell, hq3, hq4⟩
      have HRW5 : Hid (RRow W0.drew A (M[k]).length M[k]) := Lib.hid (HRW.out.below (below_drewN (Below.refl _ _) 1))
      have hln : (M[k]).length ≤ 100 := hm _ (List.getElem_mem hkM)
      refine wp_region_held_drew (S := fun w => w.cell? ⟨p, 0, none⟩ = some (.slice (some ⟨g, 0, none⟩) M.length cap) ∧ w.cell? ⟨g, k, none⟩ = some (.slice A (M[k]).length c) ∧ w.cell? ⟨W.heap.size, 3, none⟩ = some (.int .i64 qr) ∧ w.cell? ⟨W.heap.size, 4, none⟩ = some (.int .i64 qo)) (by kernel_rfl) hS (fun hHeld => ?_)
      clear hS
      generalize W0.drew = W5 at HT5 HB5 HRW5 hHeld ⊢
      refine tk 0 (v := ?_) rfl (by kernel_rfl) (fun _ _ _ h => h) ?_ hHeld ?_
      rotate_left
      · (intro W hSw; (try dsimp only at hSw); (try obtain ⟨hs1, hs2, hs3, hs4⟩ := hSw); go_simp; try with_reducible rfl)
      refine tk 1 (v := ?_) rfl (by kernel_rfl) (fun _ _ _ h => h) ?_ hHeld ?_
      rotate_left
      · (intro W hSw; (try dsimp only at hSw); (try obtain ⟨hs1, hs2, hs3, hs4⟩ := hSw); go_simp; try with_reducible rfl)
      refine tk 2 (v := ?_) rfl (by kernel_rfl) (fun _ _ _ h => h) ?_ hHeld ?_
      rotate_left
      · (intro W hSw; (try dsimp only at hSw); (try obtain ⟨hs1, hs2, hs3, hs4⟩ := hSw); go_simp; try with_reducible rfl)
      refine tk 3 (v := ?_) rfl (by kernel_rfl) (fun _ _ _ h => h) ?_ hHeld ?_
      rotate_left
      · (intro W hSw; (try dsimp only at hSw); (try obtain ⟨hs1, hs2, hs3, hs4⟩ := hSw); go_simp; try with_reducible rfl)
      refine tk 4 (v := ?_) rfl (by kernel_rfl) (fun _ _ _ h => h) ?_ hHeld ?_
      rotate_left
      · (intro W hSw; (try dsimp only at hSw); (try obtain ⟨hs1, hs2, hs3, hs4⟩ := hSw); go_simp; try with_reducible rfl)
      refine tk 5 (v := ?_) rfl (by kernel_rfl) (fun _ _ _ h => h) ?_ hHeld ?_
      rotate_left
      · (intro W hSw; (try dsimp only at hSw); (try obtain ⟨hs1, hs2, hs3, hs4⟩ := hSw); go_simp; try with_reducible rfl)
      refine tk 6 (v := ?_) rfl (by kernel_rfl) (fun _ _ _ h => h) ?_ hHeld ?_
      rotate_left
      · (intro W hSw; (try dsimp only at hSw); (try obtain ⟨hs1, hs2, hs3, hs4⟩ := hSw); go_simp; try with_reducible rfl)
      refine tk 7 (v := ?_) rfl (by kernel_rfl) (fun _ _ _ h => h) ?_ hHeld ?_
      rotate_left
      · (intro W hSw; (try dsimp only at hSw); (try obtain ⟨hs1, hs2, hs3, hs4⟩ := hSw); go_simp; try with_reducible rfl)
      refine tk 8 (v := ?_) rfl (by kernel_rfl) (fun _ _ _ h => h) ?_ hHeld ?_
      rotate_left
      · (intro W hSw; (try dsimp only at hSw); (try obtain ⟨hs1, hs2, hs3, hs4⟩ := hSw); go_simp; try with_reducible rfl)
      refine tk 9 (v := ?_) rfl (by kernel_rfl) (fun _ _ _ h => h) ?_ hHeld ?_
      rotate_left
      · (intro W hSw; (try dsimp only at hSw); (try obtain ⟨hs1, hs2, hs3, hs4⟩ := hSw); go_simp; try with_reducible rfl)
      refine tk 10 (v := ?_) rfl (by kernel_rfl) (fun _ _ _ h => h) ?_ hHeld ?_
      rotate_left
      · (intro W hSw; (try dsimp only at hSw); (try obtain ⟨hs1, hs2, hs3, hs4⟩ := hSw); go_simp; try with_reducible rfl)
      refine wpAnyH_ready (rs := [11]) (by kernel_rfl) (by simp) ?_
      refine AllReadyH.cons rfl (fun K hK => ?_) AllReadyH.nil
      go_simp
      refine (precover_any M[k] A _ c qr qo W5 hln (RLow.of HRW5.out)).mono ?_
      rintro e W6 ⟨rfl, hb6⟩
      have hS6 := And.intro (below_cell hb6 hHeld.1) (And.intro (below_cell hb6 hHeld.2.1) (And.intro (below_cell hb6 hHeld.2.2.1) (below_cell hb6 hHeld.2.2.2)))
      have HB6 := Lib.hid (HB5.out.trans (hb6.mono HB5.out.size))
      clear hb6 HT5 HB5 HRW5 hHeld
      go_wp2_with fail
      refine hK.out _ _ hS6 (fun hHeld => ?_)
      clear hK K hS6
      refine tk 12 (v := ?_) rfl (by kernel_rfl) (fun _ _ _ h => h) ?_ hHeld ?_
      rotate_left
      · (intro W hSw; (try dsimp only at hSw); go_simp; try with_reducible rfl)
      refine tk 13 (v := ?_) rfl (by kernel_rfl) (fun _ _ _ h => h) ?_ hHeld ?_
      rotate_left
      · (intro W hSw; (try dsimp only at hSw); go_simp; try with_reducible rfl)
      refine tk 14 (v := ?_) rfl (by kernel_rfl) (fun _ _ _ h => h) ?_ hHeld ?_
      rotate_left
      · (intro W hSw; (try dsimp only at hSw); go_simp; try with_reducible rfl)
      have hS7 := hHeld
      refine wpAnyH_ready (rs := [15]) (by kernel_rfl) (by simp) ?_
      refine AllReadyH.cons rfl (fun K hK => ?_) AllReadyH.nil
      go_simp
      refine hK.out _ _ hS7 (fun hHeld => ?_)
      clear hK K
      refine wpAnyH_ready (rs := [16]) (by kernel_rfl) (by simp) ?_
      refine AllReadyH.cons rfl (fun K hK => ?_) AllReadyH.nil
      go_simp
      refine hK.out _ _ hS7 (fun hHeld => ?_)
      clear hK K hS7 hHeld
      refine wpAnyH_done (by kernel_rfl) ?_ _
      go_wp2_with fail
      go_ret3
      exact ⟨by rw [HR.out]; rfl, HB6.out⟩
    · have hR : recR M mir i ⟨qp, qg, qi, qr, qo⟩ = (0, 0, false) := by unfold recR; rw [hl]; simp only; rw [if_neg hg]
      have HR := Lib.hid (HRR.out.trans hR)
      clear hR
      cases qg with
      | false => go_wp2; go_ret3; exact ⟨by rw [HR.out]; rfl, HB.out⟩
      | true =>
        have hji : j < i := by
          rcases Int.lt_or_le j i with g | g
          · exact g
          · exact absurd ⟨rfl, g⟩ hg
        clear hg
        go_wp2
        go_ret3
        exact ⟨by rw [HR.out]; rfl, HB.out⟩
end Go.Proofs.Ytgodphfkhmahnaa.Rt
