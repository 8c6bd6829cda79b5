/- Walks of route: the mirrors looked up; Mirror. -/
import Derived.Test.YtnffgomgfabapaaRtE
namespace Go.Proofs.Ytnffgomgfabapaa.Rt
open Go.RowKit Mem Sm
set_option linter.unusedVariables false

/-- a map's mirror -/
def lk : List (Int × Int) → Int → Option Int
  | [], _ => none
  | q :: r, a => if q.1 = a then some q.2 else lk r a
theorem lk_none {l : List (Int × Int)} {a : Int} (h : lk l a = none) : ∀ q ∈ l, q.1 ≠ a := by
  induction l with
  | nil => intro q hq; simp at hq
  | cons z r ih =>
    simp only [lk] at h
    split at h
    · cases h
    · intro q hq
      rcases List.mem_cons.1 hq with rfl | hq
      · assumption
      · exact ih h q hq
theorem lk_some {l : List (Int × Int)} {a b : Int} (h : lk l a = some b) : (a, b) ∈ l := by
  induction l with
  | nil => simp [lk] at h
  | cons z r ih =>
    simp only [lk] at h
    split at h
    · rename_i e
      injection h with h
      obtain ⟨z1, z2⟩ := z
      simp only at e h
      subst e; subst h
      simp
    · exact List.mem_cons_of_mem _ (ih h)
theorem find_lk (a : Int) : ∀ (l : List (Int × Int)) (i n : Nat), ∃ j : Nat, Instr.findNow (.int .i64) (.int .i64 a) (entOf i l) n = some ((lk l a).map fun x => (j, .int .i64 x))
  | [], i, n => ⟨0, rfl⟩
  | q :: r, i, n => by
    by_cases h : q.1 = a
    · exact ⟨n, by simp [entOf, Instr.findNow, Instr.sameNow, lk, h]⟩
    · obtain ⟨j, hj⟩ := find_lk a r (i + 1) (n + 1)
      refine ⟨j, ?_⟩
      have hb : (a == q.1) = false := by simp; exact fun e => h e.symm
      simp [entOf, Instr.findNow, Instr.sameNow, lk, h, hb, hj]
theorem look_mp {P : Program} {t k e : TypeId} {W : World} {base : Nat} {mp : Value} {mir : List (Int × Int)} (hu : P.underlying t = some (.map k e)) (hk : P.underlying k = some (.int .i64)) (hz : (zeroValue e).run P W = .ok (.int .i64 0) W) (h : MpAt base W mp mir) (a : Int) :
    (Instr.lookup t mp (.int .i64 a) true).run P W = .ok (.tuple #[.int .i64 ((lk mir a).getD 0), .bool (lk mir a).isSome]) W := by
  rcases h with ⟨rfl, rfl⟩ | ⟨B, rfl, _, hb⟩
  · have hc := MapKept.run_checkKey (P := P) (w := W) (k := .int .i64 a) hk rfl true 9999
    have hf := MapKept.run_findKey (P := P) (w := W) (k := .int .i64 a) (l := []) hk rfl
    simp [Instr.lookup, run_underlying hu, hc, hf, hz, Result.andThen, lk]
  · obtain ⟨j, hj⟩ := find_lk a mir 0 0
    have hc := fun em => MapKept.run_checkKey (P := P) (w := W) (k := .int .i64 a) hk rfl em 9999
    have hf := MapKept.run_findKey (P := P) (w := W) hk hj
    cases hl : lk mir a with
    | none =>
      rw [hl] at hf
      simp [Instr.lookup, run_underlying hu, MapKept.run_getObj_map hb, hc, hf, hz, Result.andThen]
    | some x =>
      rw [hl] at hf
      simp [Instr.lookup, run_underlying hu, MapKept.run_getObj_map hb, hc, hf, Result.andThen]
theorem SlAt.after {base p : Nat} {W W' : World} {v mp u : Value} {vs : List Value} {M : List (List Rg)} {mir : List (Int × Int)} {l : List Rg} (hs : SlAt W u l) (h : RtAt base W p v mp vs M mir) (hf : RtF base p W W') : SlAt W' u l :=
  hs.keep hf.size fun k cs fr e => hf.keep k cs _ fr e (by decide) (by rintro rfl; rw [h.h0] at e; injection e with e; injection e with e1 e2; exact absurd e2 (by decide))
theorem row_of {W : World} {A : Option Addr} {n c : Nat} {l : List Rg} (hs : SlAt W (.slice A n c) l) : RRow W A n l := by
  obtain ⟨A', c', e, hr, _⟩ := hs
  injection e with e1 e2 e3
  subst e1; subst e2
  exact hr
def MirIs (base p : Nat) (v mp : Value) (vs : List Value) (M : List (List Rg)) (mir : List (Int × Int)) (l : List Rg) (of : Int) (W : World) (e : Ending) (W' : World) : Prop :=
  ((rightB l = true ∧ (lk mir of = none ∧ 0 ≤ of ∧ of < M.length) ∧ e = .returned (.int .i64 0) ∧ ∃ v' mp' vs', RtAt base W' p v' mp' vs' (M ++ [l]) (mir ++ [(of, (M.length : Int))] ++ [((M.length : Int), of)])) ∨
    (rightB l = true ∧ ¬ (lk mir of = none ∧ 0 ≤ of ∧ of < M.length) ∧ e = .returned (.int .i64 6) ∧ RtAt base W' p v mp vs M mir) ∨
    (rightB l = false ∧ e = .returned (.int .i64 1) ∧ RtAt base W' p v mp vs M mir)) ∧ RtF base p W W'
set_option maxRecDepth 100000 in
set_option maxHeartbeats 4000000 in
theorem mirror_any (base p : Nat) (v mp : Value) (vs : List Value) (M : List (List Rg)) (mir : List (Int × Int)) (l : List Rg) (of : Int) (A : Option Addr) (n c : Nat) (W : World) (hM : M.length ≤ 1000) (hn : n ≤ 100) (hmir : ∀ q ∈ mir, q.1 < M.length)
    (h : RtAt base W p v mp vs M mir) (hs : ∀ W', RtF base p W W' → RRow W' A n l) :
    Calls Try.prog 9 #[.pointer (some ⟨p, 0, none⟩), .slice A n c, .int .i64 of] W (MirIs base p v mp vs M mir l of W) := by
  have hr := hs W (RtF.refl _ _ _)
  have HS := Lib.hid hs
  have CC := check_any base p v mp vs M mir l A n c W hM hn h hr
  have HT := Lib.hid h
  have HR := Lib.hid hr
  have hbs := h.base_le
  clear h hr hs
  cases hrb : rightB l with
  | false =>
    rw [show chkE l = 1 by rw [chkE, hrb]; simp] at CC
    go_enter Try.func9, Try.ntmps9
    go_wp2_with fail
    refine CC.mono ?_
    rintro e W1 ⟨rfl, hb⟩
    have HT1 := Lib.hid (HT.out.step hb)
    have HF := Lib.hid (RtF.of_below (p := p) hb hbs)
    clear hb CC HT HR HS
    go_wp2
    go_ret
    exact ⟨.inr (.inr ⟨hrb, rfl, HT1.out⟩), HF.out⟩
  | true =>
    rw [show chkE l = 0 by rw [chkE, hrb]; simp] at CC
    by_cases hok : lk mir of = none ∧ 0 ≤ of ∧ of < M.length
    · obtain ⟨hl, h0, h1⟩ := hok
      go_enter Try.func9, Try.ntmps9
      go_wp2_with fail
      refine CC.mono ?_
      rintro e W1 ⟨rfl, hb⟩
      have HT1 := Lib.hid (HT.out.step hb)
      have HF := Lib.hid (RtF.of_below (p := p) hb hbs)
      clear hb CC HT HR
      have hLk := look_mp (P := Try.prog) (e := 3) Try.underlying58 Try.underlying3 (by go_simp; try rfl) HT1.out.mps of
      have hc := HT1.out.cells
      obtain ⟨hc0, hc1, _, _⟩ := hc
      obtain ⟨A1, c1, hv⟩ := HT1.out.form
      subst hv
      have g0 : ¬ of < 0 := by omega
      have g1 : ¬ (M.length : Int) ≤ of := by omega
      rw [hl] at hLk
      simp only [Option.isSome_none, Option.getD_none] at hLk
      have CB := bind_any base p _ mp vs M mir of M.length W1 (fun q hq => ⟨lk_none hl q hq, by have := hmir q hq; omega⟩) (by omega) HT1.out
      go_wp2_with fail
      refine CB.mono ?_
      rintro e W2 ⟨⟨x, rfl⟩, ⟨mp2, h2⟩, hf2⟩
      have CP := put_any base p _ mp2 vs M _ l A n c W2 hM hn h2 (HS.out _ (HF.out.trans hf2))
      go_wp2_with fail
      refine CP.mono ?_
      rintro e W3 ⟨⟨x3, rfl⟩, ⟨v3, vs3, h3⟩, hf3⟩
      have H3 := Lib.hid h3
      have HF3 := Lib.hid ((HF.out.trans hf2).trans hf3)
      clear h3 hf3 hf2 h2 CP CB HT1 HF
      go_wp2
      go_ret
      exact ⟨.inl ⟨hrb, ⟨hl, h0, h1⟩, rfl, _, _, _, H3.out⟩, HF3.out⟩
    · have HN := Lib.hid hok
      go_enter Try.func9, Try.ntmps9
      go_wp2_with fail
      refine CC.mono ?_
      rintro e W1 ⟨rfl, hb⟩
      have HT1 := Lib.hid (HT.out.step hb)
      have HF := Lib.hid (RtF.of_below (p := p) hb hbs)
      clear hb CC HT HR
      have hLk := look_mp (P := Try.prog) (e := 3) Try.underlying58 Try.underlying3 (by go_simp; try rfl) HT1.out.mps of
      have hc := HT1.out.cells
      obtain ⟨hc0, hc1, _, _⟩ := hc
      obtain ⟨A1, c1, hv⟩ := HT1.out.form
      subst hv
      cases hl : lk mir of with
      | some x =>
        rw [hl] at hLk
        simp only [Option.isSome_some, Option.getD_some] at hLk
        go_wp2
        go_ret
        exact ⟨.inr (.inl ⟨hrb, HN.out, rfl, HT1.out⟩), HF.out⟩
      | none =>
        rw [hl] at hLk
        simp only [Option.isSome_none, Option.getD_none] at hLk
        by_cases g0 : of < 0
        · clear hok
          go_wp2
          go_ret
          exact ⟨.inr (.inl ⟨hrb, HN.out, rfl, HT1.out⟩), HF.out⟩
        · have g1 : (M.length : Int) ≤ of := by
            rcases Int.lt_or_le of M.length with q | q
            · exact absurd ⟨hl, by omega, q⟩ hok
            · exact q
          clear hok
          go_wp2
          go_ret
          exact ⟨.inr (.inl ⟨hrb, HN.out, rfl, HT1.out⟩), HF.out⟩
end Go.Proofs.Ytnffgomgfabapaa.Rt
