/- Walks: Tell and Position. -/
import Derived.Test.YtgodphfkhmahnaaSmH
namespace Go.Proofs.Ytgodphfkhmahnaa.Sm
open Go.RowKit Mem
set_option linter.unusedVariables false

theorem RLow.lift {n₀ k : Nat} {W : World} {A : Option Addr} {m : Nat} {l : List Rg} (h : RLow n₀ W A m l) (hk : n₀ ≤ k) : RLow k W A m l :=
  ⟨h.1, fun hn => by
    obtain ⟨b, off, e, hl, hc⟩ := h.2 hn
    exact ⟨b, off, e, by omega, hc⟩⟩
def mayB (pos : Int) : Bool := decide (0 ≤ pos) && decide (pos ≤ 1099511627776)
theorem mayB_iff (pos : Int) : mayB pos = true ↔ 0 ≤ pos ∧ pos ≤ 1099511627776 := by unfold mayB; simp
noncomputable def tellE (l : List Rg) (pos : Int) : Int := if rightB l = true then (if mayB pos = true then 0 else 3) else 1
noncomputable def tellW (l : List Rg) (pos side : Int) : Pl := if rightB l = true ∧ mayB pos = true then tell l pos side else ⟨0, false, false, 0, 0⟩
theorem put5_new {h : Nat} {W : World} {x0 x1 x2 x3 x4 : Value} {t : TypeId} (e : W.heap[h]? = some (.cells #[x0, x1, x2, x3, x4] t (0, 0))) (y0 y1 y2 y3 y4 : Value) : (put5 W h y0 y1 y2 y3 y4).heap[h]? = some (.cells #[y0, y1, y2, y3, y4] t (0, 0)) := by
  unfold put5
  simp [World.setCell, Array.getElem?_modify, e]

set_option maxHeartbeats 2000000 in
theorem ptell_any (l : List Rg) (A : Option Addr) (m c : Nat) (pos side : Int) (w : World) (hm : m ≤ 100) (hr : RLow w.heap.size w A m l) :
    Calls Try.prog 48 #[.slice A m c, .int .i64 pos, .int .i64 side] w fun e w' => e = .returned (.tuple #[plV (tellW l pos side), .int .i64 (tellE l pos)]) ∧ Below w.heap.size w w' := by
  have HR := Lib.hid hr
  have HL := Lib.hid hr.1
  obtain ⟨E, hE⟩ : ∃ x, x = tellE l pos := ⟨_, rfl⟩
  obtain ⟨PL, hPL⟩ : ∃ x, x = tellW l pos side := ⟨_, rfl⟩
  rw [← hE, ← hPL]
  have HE := Lib.hid hE
  have HP := Lib.hid hPL
  have hn := heap_alloc_new w (.cells #[.int .i64 0, .bool false, .bool false, .int .i64 0, .int .i64 0] 90)
  have HB0 := Lib.hid ((Below.refl _ w).alloc (Nat.le_refl _) (.cells #[.int .i64 0, .bool false, .bool false, .int .i64 0, .int .i64 0] 90))
  have hsz : (w.alloc (.cells #[.int .i64 0, .bool false, .bool false, .int .i64 0, .int .i64 0] 90)).heap.size = w.heap.size + 1 := by simp
  clear hr hE hPL
  go_enter Try.func48, Try.ntmps48
  go_upto_region 1 with fail
  generalize w.alloc (.cells #[.int .i64 0, .bool false, .bool false, .int .i64 0, .int .i64 0] 90) = W0 at hn HB0 hsz ⊢
  have HN := Lib.hid hn
  have CR := pright_any l A m c W0 hm ((HR.out.below HB0.out (Nat.le_refl _)).lift (by omega))
  clear hn
  go_wp2_with fail
  refine CR.mono ?_
  rintro e W1 ⟨rfl, hb1⟩
  have HB1 := Lib.hid (HB0.out.trans (hb1.mono (by omega)))
  have HN1 : Hid (W1.heap[w.heap.size]? = some (.cells #[.int .i64 0, .bool false, .bool false, .int .i64 0, .int .i64 0] 90 (0, 0))) := Lib.hid (by rw [hb1.block _ (by omega)]; exact HN.out)
  clear hb1 CR HN HB0
  have hc := ten2 HN1.out
  have x0 := hc.1
  have x1 := hc.2.1
  have x2 := hc.2.2.1
  have x3 := hc.2.2.2.1
  have x4 := hc.2.2.2.2.1
  have y0 := hc.2.2.2.2.2.1
  have y1 := hc.2.2.2.2.2.2.1
  have y2 := hc.2.2.2.2.2.2.2.1
  have y3 := hc.2.2.2.2.2.2.2.2.1
  have y4 := hc.2.2.2.2.2.2.2.2.2
  clear hc
  cases hrb : rightB l with
  | false =>
    have hE : E = 1 := by rw [HE.out, tellE, hrb]; simp
    have hP : PL = ⟨0, false, false, 0, 0⟩ := by rw [HP.out, tellW, hrb]; simp
    clear HE HP
    subst hE; subst hP
    go_wp2
    have hF := five (put5_new HN1.out (.int .i64 0) (.bool false) (.bool false) (.int .i64 0) (.int .i64 0))
    have hB5 := put5_below HB1.out (B := w.heap.size) (Nat.le_refl _) (.int .i64 0) (.bool false) (.bool false) (.int .i64 0) (.int .i64 0)
    have hc := hF
    have q0 := hc.1
    have q1 := hc.2.1
    have q2 := hc.2.2.1
    have q3 := hc.2.2.2.1
    have q4 := hc.2.2.2.2
    clear hc
    clear hF
    unfold put5 at q0 q1 q2 q3 q4 hB5
    refine bodyPost_ret (v := .tuple #[plV ⟨0, false, false, 0, 0⟩, .int .i64 1]) ?_ rfl ⟨rfl, hB5⟩
    simp [results, Try.results48, go_sem, q0, q1, q2, q3, q4, plV]
  | true =>
    cases hmb : mayB pos with
    | false =>
      have hE : E = 3 := by rw [HE.out, tellE, hrb, hmb]; simp
      have hP : PL = ⟨0, false, false, 0, 0⟩ := by rw [HP.out, tellW, hmb]; simp
      have hF := five (put5_new HN1.out (.int .i64 0) (.bool false) (.bool false) (.int .i64 0) (.int .i64 0))
      have hB5 := put5_below HB1.out (B := w.heap.size) (Nat.le_refl _) (.int .i64 0) (.bool false) (.bool false) (.int .i64 0) (.int .i64 0)
      have HF5 := Lib.hid hF
      have HB5 := Lib.hid hB5
      clear HE HP hF hB5
      subst hE; subst hP
      have hn : pos < 0 ∨ (0 ≤ pos ∧ pos > 1099511627776) := by
        rcases Int.lt_or_le pos 0 with h | h
        · exact .inl h
        · refine .inr ⟨h, ?_⟩
          rcases Int.lt_or_le 1099511627776 pos with h' | h'
          · exact h'
          · rw [(mayB_iff pos).2 ⟨h, h'⟩] at hmb; cases hmb
      rcases hn with h | ⟨h, h'⟩
      all_goals
        go_wp2
        have hF := HF5.out
        have hB5 := HB5.out
        unfold put5 at hF hB5
        refine bodyPost_ret (v := .tuple #[plV ⟨0, false, false, 0, 0⟩, .int .i64 3]) ?_ rfl ⟨rfl, hB5⟩
        simp [results, Try.results48, go_sem, hF.1, hF.2.1, hF.2.2.1, hF.2.2.2.1, hF.2.2.2.2, plV]
    | true =>
      have hE : E = 0 := by rw [HE.out, tellE, hrb, hmb]; simp
      have hP : PL = tell l pos side := by rw [HP.out, tellW, hrb, hmb]; simp
      clear HE HP
      obtain ⟨h1, h2⟩ := (mayB_iff pos).1 hmb
      have CF := find_any l A m c pos side W1 (by rw [← HL.out]; exact right_of hrb) hm ⟨h1, h2⟩ ((HR.out.below HB1.out (Nat.le_refl _)).lift HB1.out.size)
      rw [← hP] at CF
      clear hP
      subst hE
      clear x0 x1 x2 x3 x4 y0 y1 y2 y3 y4
      unfold plV at CF
      go_wp2_with fail
      refine CF.mono ?_
      rintro e W2 ⟨rfl, hb2⟩
      have HB2 := Lib.hid (HB1.out.trans (hb2.mono HB1.out.size))
      have HN2 : Hid (W2.heap[w.heap.size]? = some (.cells #[.int .i64 0, .bool false, .bool false, .int .i64 0, .int .i64 0] 90 (0, 0))) := Lib.hid (by rw [hb2.block _ (lt_some HN1.out)]; exact HN1.out)
      clear hb2 CF HN1
      have hc := ten2 HN2.out
      have x0 := hc.1
      have x1 := hc.2.1
      have x2 := hc.2.2.1
      have x3 := hc.2.2.2.1
      have x4 := hc.2.2.2.2.1
      have y0 := hc.2.2.2.2.2.1
      have y1 := hc.2.2.2.2.2.2.1
      have y2 := hc.2.2.2.2.2.2.2.1
      have y3 := hc.2.2.2.2.2.2.2.2.1
      have y4 := hc.2.2.2.2.2.2.2.2.2
      clear hc
      go_wp2
      have hF := five (put5_new HN2.out (.int .i64 PL.pos) (.bool PL.gone) (.bool PL.inside) (.int .i64 PL.rng) (.int .i64 PL.off))
      have hB5 := put5_below HB2.out (B := w.heap.size) (Nat.le_refl _) (.int .i64 PL.pos) (.bool PL.gone) (.bool PL.inside) (.int .i64 PL.rng) (.int .i64 PL.off)
      unfold put5 at hF hB5
      refine bodyPost_ret (v := .tuple #[plV PL, .int .i64 0]) ?_ rfl ⟨rfl, hB5⟩
      simp [results, Try.results48, go_sem, hF.1, hF.2.1, hF.2.2.1, hF.2.2.2.1, hF.2.2.2.2, plV]

end Go.Proofs.Ytgodphfkhmahnaa.Sm
