/- Welding: are steps few. -/
import Derived.Test.YtlbkfenlbkibgaaWeOp
import Derived.Test.YtlbkfenlbkibgaaStW
set_option linter.unusedVariables false
set_option maxRecDepth 100000
set_option maxHeartbeats 4000000
namespace Go.Proofs.Ytlbkfenlbkibgaa.St
open Go.RowKit Mem Sm Tk Rt
set_option linter.unusedSimpArgs false
def fewQ (q : Sq) : Bool := decide (q.n ≤ 60) && decide (q.m ≤ 150)
def fewsB (l : List Sq) : Bool := decide (l.length ≤ 20) && l.all fewQ
theorem sq_at {l : List Sq} {i : Nat} (h : i < l.length) : sq l i = l[i] := by simp [sq, List.getD, List.getElem?_eq_getElem h]
theorem fews_no {l : List Sq} {i : Nat} (hi : i < l.length) (h : fewQ (sq l i) = false) : fewsB l = false := by
 unfold fewsB
 have : l.all fewQ = false := by
  rw [List.all_eq_false]
  exact ⟨l[i], List.getElem_mem hi, by rw [sq_at hi] at h; simp [h]⟩
 simp [this]
theorem fews_end {l : List Sq} {i : Nat} (h : ∀ j, j < i → fewQ (sq l j) = true) (hi : l.length ≤ i ∨ 20 ≤ i) (hl : i ≤ l.length) : fewsB l = decide (l.length ≤ 20) := by
 unfold fewsB
 by_cases h20 : l.length ≤ 20
 ·have : l.all fewQ = true := by
   rw [List.all_eq_true]
   intro q hq
   obtain ⟨j, hj, rfl⟩ := List.getElem_of_mem hq
   have := h j (by omega)
   rwa [sq_at hj] at this
  simp [this]
 ·simp [h20]
theorem fews_any (l : List Sq) (A : Option Addr) (n c : Nat) (w : World) (h : SqRow w A n l) (hn : n ≤ 9223372036854775807) :
  Calls Try.prog 25 #[.slice A n c] w fun e w' => e = .returned (.bool (fewsB l)) ∧ Below w.heap.size w w' := by
 have hnl := h.1
 subst hnl
 have HR := Lib.hid h
 clear h
 obtain ⟨F, hF⟩ : ∃ F, F = fewsB l := ⟨_, rfl⟩
 have HFN : Hid (∀ i, i < l.length → fewQ (sq l i) = false → F = false) := Lib.hid (fun i a b => by rw [hF]; exact fews_no a b)
 have HFE : Hid (∀ i, (∀ j, j < i → fewQ (sq l j) = true) → (l.length ≤ i ∨ 20 ≤ i) → i ≤ l.length → F = decide (l.length ≤ 20)) := Lib.hid (fun i a b c => by rw [hF]; exact fews_end a b c)
 rw [← hF]
 clear hF
 go_enter Try.func25, Try.ntmps25
 go_wp2_with fail
 go_loopw [3] (fun iv wr => ∃ i : Nat, iv = .int .i64 i ∧ i ≤ l.length ∧ i ≤ 20 ∧ Hid (∀ j, j < i → fewQ (sq l j) = true) ∧ Hid (Below w.heap.size w wr)) (fun iv _ => 20 - (intOf iv).toNat)
 case atStart => exact ⟨0, rfl, by omega, by omega, Lib.hid (fun j h => by omega), Lib.hid (Below.refl _ _)⟩
 case round =>
  obtain ⟨i, rfl, hi, hi20, HK, HB⟩ := hrel
  by_cases h1 : (i : Int) < (l.length : Int)
  ·by_cases h2 : (i : Int) < 20
   ·obtain ⟨b, off, rfl, hb, hc⟩ := (HR.out.below HB.out).2 (by omega)
    have hq := hc i (by omega)
    have hil : i < l.length := by omega
    have hno := HFN.out i hil
    obtain ⟨q, hqq⟩ : ∃ q, q = sq l i := ⟨_, rfl⟩
    rw [← hqq] at hq hno
    have HKS : Hid (fewQ q = true → ∀ j, j < i + 1 → fewQ (sq l j) = true) := Lib.hid (fun hy j hj => by
     by_cases g : j = i
     ·subst g; rw [← hqq]; exact hy
     ·exact HK.out j (by omega))
    clear hqq hc
    obtain ⟨⟨y0, y1, y2, y3, y4⟩, y5, y6, y7, y8, y9⟩ := hq.cells
    have CF := fun W => few_any q.x q.A q.B q.n q.m q.c q.d W
    obtain ⟨b1, hb1⟩ : ∃ b, b = fewQ q := ⟨_, rfl⟩
    unfold fewQ at hb1
    rw [← hb1] at CF
    have hb1' : b1 = fewQ q := hb1
    rw [← hb1'] at hno HKS
    clear hb1 hb1' hq
    unfold stV stC at CF
    have i1 : (0 : Int) ≤ (i : Int) := by omega
    have hwi : wrap64 ((i : Int) + 1) = (i : Int) + 1 := by unfold wrap64; omega
    go_wp2_with fail
    refine (CF _).mono ?_
    rintro e w1 ⟨rfl, hbb⟩
    have HB1 := Lib.hid (HB.out.trans (hbb.mono HB.out.size))
    clear hbb HB CF y0 y1 y2 y3 y4 y5 y6 y7 y8 y9
    cases b1 with
    | false =>
     have hF : F = false := hno rfl
     subst hF
     clear HFN HFE HKS
     go_wp2
     go_ret
     exact ⟨rfl, HB1.out⟩
    | true =>
     have HK2 := Lib.hid (HKS.out rfl)
     clear HKS HK hno
     go_wp2
     go_roundw
     case measure => simp only [intOf]; omega
     case rel => exact ⟨i + 1, by push_cast; rfl, by omega, by omega, HK2, HB1⟩
   ·have hF := HFE.out i HK.out (.inr (by omega)) (by omega)
    clear HFN HFE
    go_wp2
    go_ret
    exact ⟨ret_bool (by rw [Bool.eq_iff_iff]; simp; try omega), HB.out⟩
  ·have hF := HFE.out i HK.out (.inl (by omega)) (by omega)
   clear HFN HFE
   go_wp2
   go_ret
   exact ⟨ret_bool (by rw [Bool.eq_iff_iff]; simp; try omega), HB.out⟩
end Go.Proofs.Ytlbkfenlbkibgaa.St
namespace Go.Proofs.Ytlbkfenlbkibgaa.St
open Go.RowKit Mem Sm Tk Rt
set_option linter.unusedSimpArgs false
structure RC (p : Nat) (Y : Sp) (As At : Option Addr) (cs ct : Nat) (L : List Tk.Tk) (S : List Mk) (W : World) : Prop where
 h : W.heap[p]? = some (.cells (stC Y (.slice As L.length cs) (.slice At S.length ct)) 25 (0, 0))
 l : TRow W As L.length L
 s : MkRow W At S.length S
theorem RC.step {p : Nat} {Y : Sp} {As At : Option Addr} {cs ct : Nat} {L : List Tk.Tk} {S : List Mk} {W W' : World} (h : RC p Y As At cs ct L S W) (hb : Below W.heap.size W W') : RC p Y As At cs ct L S W' :=
 ⟨hkeep hb h.h, h.l.below hb, h.s.below hb⟩
theorem RC.new {Y : Sp} {As At : Option Addr} {cs ct : Nat} {L : List Tk.Tk} {S : List Mk} {W : World} (h1 : TRow W As L.length L) (h2 : MkRow W At S.length S) :
  RC W.heap.size Y As At cs ct L S (W.alloc (.cells (stC Y (.slice As L.length cs) (.slice At S.length ct)) 25)) := by
 have hb : Below W.heap.size W (W.alloc (.cells (stC Y (.slice As L.length cs) (.slice At S.length ct)) 25)) := (Below.refl _ _).alloc (Nat.le_refl _) _
 exact ⟨heap_alloc_new W _, h1.below hb, h2.below hb⟩
end Go.Proofs.Ytlbkfenlbkibgaa.St
