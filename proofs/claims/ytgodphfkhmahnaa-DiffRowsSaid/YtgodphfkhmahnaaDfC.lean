/- Diffs: the one splice. -/
import Derived.Test.YtgodphfkhmahnaaDfB
import Derived.Test.YtgodphfkhmahnaaStK
import Derived.Maps.Range
import Derived.Maps.RangeWalk
namespace Go.Proofs.Ytgodphfkhmahnaa.Df
open Go.RowKit Mem Sm Tk Rt St
set_option linter.unusedVariables false
set_option linter.unusedSimpArgs false
def cutA (A : Option Addr) (c f : Nat) : Option Addr := if c = f then A else A.map (·.add (f * 12))
theorem slice_tok (A : Option Addr) (n c f h : Nat) (w : World) (h1 : f ≤ h) (h2 : h ≤ c) :
    (Instr.slice 22 (.slice A n c) (some (.int .i64 (f : Nat))) (some (.int .i64 (h : Nat))) none).run Try.prog w = .ok (.slice (cutA A c f) (h - f) (c - f)) w := by
  have hs : (sizeOf (Try.prog.elem 22)).run Try.prog w = .ok 12 w := by kernel_rfl
  rw [run_slice_lh (P := Try.prog) w 22 A n c (by kernel_rfl) .i64 .i64 (f : Int) (h : Int) (by omega) (by omega) (by omega), hs]
  simp [sliced, cutA, Result.andThen]
theorem trow_cut {w : World} {A : Option Addr} {n c : Nat} {l : List Tk.Tk} (hr : TRow w A n l) (hc : n ≤ c) {f h : Nat} (h1 : f ≤ h) (h2 : h ≤ n) : TRow w (cutA A c f) (h - f) ((l.drop f).take (h - f)) := by
  refine ⟨by rw [List.length_take, List.length_drop, hr.1]; omega, fun hp => ?_⟩
  obtain ⟨b, off, rfl, hb, hcell⟩ := hr.2 (by omega)
  have hne : ¬ c = f := by omega
  refine ⟨b, off + f * 12, ?_, hb, fun j hj => ?_⟩
  · unfold cutA
    rw [if_neg hne]
    show some ((⟨b, off, none⟩ : Addr).add (f * 12)) = _
    rw [show (⟨b, off, none⟩ : Addr).add (f * 12) = ⟨b, off + f * 12, none⟩ by unfold Addr.add; split <;> simp_all]
  · have hj2 : j < h - f := by
      rw [List.length_take] at hj; omega
    have hl : f + j < l.length := by rw [hr.1]; omega
    have e : ((l.drop f).take (h - f))[j] = l[f + j] := by simp
    rw [e, show off + f * 12 + j * 12 = off + (f + j) * 12 by omega]
    exact hcell (f + j) hl
theorem grown_put10 {W : World} {B : Nat} (y0 y1 y2 y3 y4 y5 y6 y7 y8 y9 : Value) : W.grownBy (put10 W B y0 y1 y2 y3 y4 y5 y6 y7 y8 y9) (some B) := by
  have h := put10_below (Below.refl B W) (Nat.le_refl B) y0 y1 y2 y3 y4 y5 y6 y7 y8 y9
  exact ⟨h.os, h.tape, h.output, h.size, fun k _ hne => put10_else _ _ _ _ _ _ _ _ _ _ (fun e => hne (by rw [e]))⟩
def oneL (l m : List Tk.Tk) : List Tk.Tk := (m.drop (fr l m)).take (m.length - bk (l.drop (fr l m)) (m.drop (fr l m)) - fr l m)
def oneS (l m : List Tk.Tk) : Sp := ⟨1, (fr l m : Nat), (l.length - bk (l.drop (fr l m)) (m.drop (fr l m)) : Nat), 0, 0, 0, 0, 0⟩
def OneIs (l m : List Tk.Tk) (w : World) (e : Ending) (w' : World) : Prop :=
  ((l = m ∧ e = .returned (.tuple #[.agg #[.int .i64 0, .int .i64 0, .int .i64 0, .int .i64 0, .int .i64 0, .int .i64 0, .int .i64 0, .int .i64 0, .slice none 0 0, .slice none 0 0], .bool false])) ∨
   (l ≠ m ∧ ∃ v, e = .returned (.tuple #[stV (oneS l m) v (.slice none 0 0), .bool true]) ∧ Tks w.heap.size w' v (oneL l m))) ∧ Below w.heap.size w w'
set_option maxRecDepth 100000 in
set_option maxHeartbeats 4000000 in
theorem one_any (l m : List Tk.Tk) (A B : Option Addr) (n n' c c' : Nat) (w : World) (hn : n ≤ 1000000) (hn' : n' ≤ 1000000) (hc : n' ≤ c') (h1 : TRow w A n l) (h2 : TRow w B n' m) :
    Calls Try.prog 33 #[.slice A n c, .slice B n' c'] w (OneIs l m w) := by
  have hnl := h1.1
  have hnm := h2.1
  subst hnl; subst hnm
  have hb0 := (Below.refl _ w).alloc (Nat.le_refl _) (.cells #[.int .i64 0, .int .i64 0, .int .i64 0, .int .i64 0, .int .i64 0, .int .i64 0, .int .i64 0, .int .i64 0, .slice none 0 0, .slice none 0 0] 25)
  have hz0 := heap_alloc_new w (.cells #[.int .i64 0, .int .i64 0, .int .i64 0, .int .i64 0, .int .i64 0, .int .i64 0, .int .i64 0, .int .i64 0, .slice none 0 0, .slice none 0 0] 25)
  have HB := Lib.hid hb0
  have HZ := Lib.hid hz0
  have HL := Lib.hid (h1.alloc (.cells #[.int .i64 0, .int .i64 0, .int .i64 0, .int .i64 0, .int .i64 0, .int .i64 0, .int .i64 0, .int .i64 0, .slice none 0 0, .slice none 0 0] 25))
  have HM := Lib.hid (h2.alloc (.cells #[.int .i64 0, .int .i64 0, .int .i64 0, .int .i64 0, .int .i64 0, .int .i64 0, .int .i64 0, .int .i64 0, .slice none 0 0, .slice none 0 0] 25))
  clear hb0 hz0 h1 h2
  unfold OneIs stV oneS
  obtain ⟨q0, hq0⟩ : ∃ x, x = fr l m := ⟨_, rfl⟩
  obtain ⟨q1, hq1⟩ : ∃ x, x = bk (l.drop (fr l m)) (m.drop (fr l m)) := ⟨_, rfl⟩
  have hle1 := fr_le l m
  have hle2 := bk_le (l.drop (fr l m)) (m.drop (fr l m))
  have CE := fun W a b => ends_any l m A B l.length m.length c c' W a b (by omega) (by omega)
  simp only [← hq0] at hq1
  simp only [← hq0, ← hq1, List.length_drop] at hle1 hle2 CE ⊢
  have HO : Hid ((m.drop q0).take (m.length - q1 - q0) = oneL l m) := Lib.hid (by unfold oneL; rw [← hq0, ← hq1])
  clear hq0 hq1
  obtain ⟨h, hh⟩ : ∃ x, x = m.length - q1 := ⟨_, rfl⟩
  obtain ⟨h', hh'⟩ : ∃ x, x = l.length - q1 := ⟨_, rfl⟩
  rw [← hh] at HO
  rw [← hh']
  have hw1 : wrap64 ((m.length : Int) - (q1 : Int)) = (h : Int) := by unfold wrap64; omega
  have hw2 : wrap64 ((l.length : Int) - (q1 : Int)) = (h' : Int) := by unfold wrap64; omega
  have HCU : Hid (∀ W, TRow W B m.length m → TRow W (cutA B c' q0) (h - q0) (oneL l m)) := Lib.hid (fun W hr => by
    rw [← HO.out]; exact trow_cut hr hc (by omega) (by omega))
  have hk1 : (0 : Int) ≤ (q0 : Int) := by omega
  have hk2 : (q0 : Int) ≤ (h : Int) := by omega
  have hk3 : (h : Int) ≤ (c' : Int) := by omega
  have hk4 : h ≤ m.length := by omega
  clear hle1 hle2 hh hh'
  generalize hN : m.length = N at *
  generalize hN' : l.length = N' at *
  go_enter Try.func33, Try.ntmps33
  go_wp2_with fail
  refine (same_tok l m A B N' N c c' _ HL.out HM.out (by omega) (by omega)).mono ?_
  rintro e w1 ⟨rfl, q, rfl⟩
  have HB1 := Lib.hid (below_drewN HB.out q)
  have HZ1 : Hid (((w.alloc (.cells #[.int .i64 0, .int .i64 0, .int .i64 0, .int .i64 0, .int .i64 0, .int .i64 0, .int .i64 0, .int .i64 0, .slice none 0 0, .slice none 0 0] 25)).drewN q).heap[w.heap.size]? = some (.cells #[.int .i64 0, .int .i64 0, .int .i64 0, .int .i64 0, .int .i64 0, .int .i64 0, .int .i64 0, .int .i64 0, .slice none 0 0, .slice none 0 0] 25)) := HZ
  have HL1 := Lib.hid (HL.out.drewN q)
  have HM1 := Lib.hid (HM.out.drewN q)
  clear HB HZ HL HM
  generalize (w.alloc (.cells #[.int .i64 0, .int .i64 0, .int .i64 0, .int .i64 0, .int .i64 0, .int .i64 0, .int .i64 0, .int .i64 0, .slice none 0 0, .slice none 0 0] 25)).drewN q = W1 at HB1 HZ1 HL1 HM1 ⊢
  by_cases hlm : l = m
  · have hd : decide (l = m) = true := by simpa using hlm
    rw [hd]
    clear CE HCU HL1 HM1 HO hw1 hw2
    have hz := tenc HZ1.out
    have z0 := hz.1.1
    have z1 := hz.1.2.1
    have z2 := hz.1.2.2.1
    have z3 := hz.1.2.2.2.1
    have z4 := hz.1.2.2.2.2
    have z5 := hz.2.1
    have z6 := hz.2.2.1
    have z7 := hz.2.2.2.1
    have z8 := hz.2.2.2.2.1
    have z9 := hz.2.2.2.2.2
    have hf := froz HZ1.out
    have f0 := hf.1
    have f1 := hf.2.1
    have f2 := hf.2.2.1
    have f3 := hf.2.2.2.1
    have f4 := hf.2.2.2.2.1
    have f5 := hf.2.2.2.2.2.1
    have f6 := hf.2.2.2.2.2.2.1
    have f7 := hf.2.2.2.2.2.2.2.1
    have f8 := hf.2.2.2.2.2.2.2.2.1
    have f9 := hf.2.2.2.2.2.2.2.2.2
    clear hz hf
    go_wp2
    have hF := tenc (put10_at HZ1.out (.int .i64 0) (.int .i64 0) (.int .i64 0) (.int .i64 0) (.int .i64 0) (.int .i64 0) (.int .i64 0) (.int .i64 0) (.slice none 0 0) (.slice none 0 0))
    have hB10 := put10_below HB1.out (B := w.heap.size) (by omega) (.int .i64 0) (.int .i64 0) (.int .i64 0) (.int .i64 0) (.int .i64 0) (.int .i64 0) (.int .i64 0) (.int .i64 0) (.slice none 0 0) (.slice none 0 0)
    obtain ⟨⟨r0, r1, r2, r3, r4⟩, r5, r6, r7, r8, r9⟩ := hF
    unfold put10 at r0 r1 r2 r3 r4 r5 r6 r7 r8 r9 hB10
    refine bodyPost_ret (v := .tuple #[.agg #[.int .i64 0, .int .i64 0, .int .i64 0, .int .i64 0, .int .i64 0, .int .i64 0, .int .i64 0, .int .i64 0, .slice none 0 0, .slice none 0 0], .bool false]) ?_ rfl (⟨.inl ⟨hlm, rfl⟩, hB10⟩)
    simp [results, Try.results33, go_sem, r0, r1, r2, r3, r4, r5, r6, r7, r8, r9]
  · have hd : decide (l = m) = false := by simpa using hlm
    rw [hd]
    clear hd
    go_wp2_with fail
    refine (CE _ HL1.out HM1.out).mono ?_
    rintro e w2 ⟨rfl, q', rfl⟩
    have HB2 := Lib.hid (below_drewN HB1.out q')
    have HZ2 : Hid ((W1.drewN q').heap[w.heap.size]? = some (.cells #[.int .i64 0, .int .i64 0, .int .i64 0, .int .i64 0, .int .i64 0, .int .i64 0, .int .i64 0, .int .i64 0, .slice none 0 0, .slice none 0 0] 25)) := HZ1
    have HM2 := Lib.hid (HM1.out.drewN q')
    clear HB1 HZ1 HL1 HM1 CE
    generalize W1.drewN q' = W2 at HB2 HZ2 HM2 ⊢
    by_cases hcq : c' = q0
    · go_wp2_with fail
      refine (clone_tok (oneL l m) B (h - q0) 0 W2 (by omega) (by have := HCU.out _ HM2.out; unfold cutA at this; rwa [if_pos hcq] at this)).mono ?_
      rintro e w3 ⟨v, rfl, hv, hb3⟩
      have hszl := lt_some HZ2.out
      have HB3 := Lib.hid (HB2.out.trans (hb3.mono HB2.out.size))
      have HZ3 := Lib.hid (hkeep hb3 HZ2.out)
      obtain ⟨A3, c3, rfl⟩ := hv.form
      generalize hN3 : (oneL l m).length = N3 at *
      have HV : Hid (Tks (w.heap.size + 1) w3 (.slice A3 N3 c3) (oneL l m)) := Lib.hid (hv.lower (by omega))
      clear hv hb3 HB2 HZ2 HM2 HCU
      have hend : ∀ W', Tks w.heap.size W' (.slice A3 N3 c3) (oneL l m) → (l ≠ m ∧ ∃ v, Ending.returned (.tuple #[.agg #[.int .i64 1, .int .i64 (q0 : Int), .int .i64 (h' : Int), .int .i64 0, .int .i64 0, .int .i64 0, .int .i64 0, .int .i64 0, .slice A3 N3 c3, .slice none 0 0], .bool true]) = .returned (.tuple #[.agg (stC ⟨1, (q0 : Int), (h' : Int), 0, 0, 0, 0, 0⟩ v (.slice none 0 0)), .bool true]) ∧ Tks w.heap.size W' v (oneL l m)) := fun W' g => ⟨hlm, _, rfl, g⟩
      have hV9 : Tks (w.heap.size + 1) (put10 w3 w.heap.size (.int .i64 1) (.int .i64 (q0 : Int)) (.int .i64 (h' : Int)) (.int .i64 0) (.int .i64 0) (.int .i64 0) (.int .i64 0) (.int .i64 0) (.slice A3 N3 c3) (.slice none 0 0)) (.slice A3 N3 c3) (oneL l m) := HV.out.grown (grown_put10 (.int .i64 1) (.int .i64 (q0 : Int)) (.int .i64 (h' : Int)) (.int .i64 0) (.int .i64 0) (.int .i64 0) (.int .i64 0) (.int .i64 0) (.slice A3 N3 c3) (.slice none 0 0)) (fun g e e2 => by
        cases e2
        have := (HV.out.block _ e).1
        omega)
      have hV10 := hV9.lower (show w.heap.size ≤ w.heap.size + 1 by omega)
      unfold put10 at hV10
      have HV10 := Lib.hid hV10
      clear hV9 hV10 HV
      have hz := tenc HZ3.out
      have z0 := hz.1.1
      have z1 := hz.1.2.1
      have z2 := hz.1.2.2.1
      have z3 := hz.1.2.2.2.1
      have z4 := hz.1.2.2.2.2
      have z5 := hz.2.1
      have z6 := hz.2.2.1
      have z7 := hz.2.2.2.1
      have z8 := hz.2.2.2.2.1
      have z9 := hz.2.2.2.2.2
      have hf := froz HZ3.out
      have f0 := hf.1
      have f1 := hf.2.1
      have f2 := hf.2.2.1
      have f3 := hf.2.2.2.1
      have f4 := hf.2.2.2.2.1
      have f5 := hf.2.2.2.2.2.1
      have f6 := hf.2.2.2.2.2.2.1
      have f7 := hf.2.2.2.2.2.2.2.1
      have f8 := hf.2.2.2.2.2.2.2.2.1
      have f9 := hf.2.2.2.2.2.2.2.2.2
      clear hz hf
      go_wp2
      have hF := tenc (put10_at HZ3.out (.int .i64 1) (.int .i64 (q0 : Int)) (.int .i64 (h' : Int)) (.int .i64 0) (.int .i64 0) (.int .i64 0) (.int .i64 0) (.int .i64 0) (.slice A3 N3 c3) (.slice none 0 0))
      have hB10 := put10_below HB3.out (B := w.heap.size) (by omega) (.int .i64 1) (.int .i64 (q0 : Int)) (.int .i64 (h' : Int)) (.int .i64 0) (.int .i64 0) (.int .i64 0) (.int .i64 0) (.int .i64 0) (.slice A3 N3 c3) (.slice none 0 0)
      obtain ⟨⟨r0, r1, r2, r3, r4⟩, r5, r6, r7, r8, r9⟩ := hF
      unfold put10 at r0 r1 r2 r3 r4 r5 r6 r7 r8 r9 hB10
      refine bodyPost_ret (v := .tuple #[.agg #[.int .i64 1, .int .i64 (q0 : Int), .int .i64 (h' : Int), .int .i64 0, .int .i64 0, .int .i64 0, .int .i64 0, .int .i64 0, .slice A3 N3 c3, .slice none 0 0], .bool true]) ?_ rfl (⟨.inr (hend _ HV10.out), hB10⟩)
      simp [results, Try.results33, go_sem, r0, r1, r2, r3, r4, r5, r6, r7, r8, r9]
    · go_wp2_with fail
      refine (clone_tok (oneL l m) (B.map (·.add (q0 * 12))) (h - q0) (c' - q0) W2 (by omega) (by have := HCU.out _ HM2.out; unfold cutA at this; rwa [if_neg hcq] at this)).mono ?_
      rintro e w3 ⟨v, rfl, hv, hb3⟩
      have hszl := lt_some HZ2.out
      have HB3 := Lib.hid (HB2.out.trans (hb3.mono HB2.out.size))
      have HZ3 := Lib.hid (hkeep hb3 HZ2.out)
      obtain ⟨A3, c3, rfl⟩ := hv.form
      generalize hN3 : (oneL l m).length = N3 at *
      have HV : Hid (Tks (w.heap.size + 1) w3 (.slice A3 N3 c3) (oneL l m)) := Lib.hid (hv.lower (by omega))
      clear hv hb3 HB2 HZ2 HM2 HCU
      have hend : ∀ W', Tks w.heap.size W' (.slice A3 N3 c3) (oneL l m) → (l ≠ m ∧ ∃ v, Ending.returned (.tuple #[.agg #[.int .i64 1, .int .i64 (q0 : Int), .int .i64 (h' : Int), .int .i64 0, .int .i64 0, .int .i64 0, .int .i64 0, .int .i64 0, .slice A3 N3 c3, .slice none 0 0], .bool true]) = .returned (.tuple #[.agg (stC ⟨1, (q0 : Int), (h' : Int), 0, 0, 0, 0, 0⟩ v (.slice none 0 0)), .bool true]) ∧ Tks w.heap.size W' v (oneL l m)) := fun W' g => ⟨hlm, _, rfl, g⟩
      have hV9 : Tks (w.heap.size + 1) (put10 w3 w.heap.size (.int .i64 1) (.int .i64 (q0 : Int)) (.int .i64 (h' : Int)) (.int .i64 0) (.int .i64 0) (.int .i64 0) (.int .i64 0) (.int .i64 0) (.slice A3 N3 c3) (.slice none 0 0)) (.slice A3 N3 c3) (oneL l m) := HV.out.grown (grown_put10 (.int .i64 1) (.int .i64 (q0 : Int)) (.int .i64 (h' : Int)) (.int .i64 0) (.int .i64 0) (.int .i64 0) (.int .i64 0) (.int .i64 0) (.slice A3 N3 c3) (.slice none 0 0)) (fun g e e2 => by
        cases e2
        have := (HV.out.block _ e).1
        omega)
      have hV10 := hV9.lower (show w.heap.size ≤ w.heap.size + 1 by omega)
      unfold put10 at hV10
      have HV10 := Lib.hid hV10
      clear hV9 hV10 HV
      have hz := tenc HZ3.out
      have z0 := hz.1.1
      have z1 := hz.1.2.1
      have z2 := hz.1.2.2.1
      have z3 := hz.1.2.2.2.1
      have z4 := hz.1.2.2.2.2
      have z5 := hz.2.1
      have z6 := hz.2.2.1
      have z7 := hz.2.2.2.1
      have z8 := hz.2.2.2.2.1
      have z9 := hz.2.2.2.2.2
      have hf := froz HZ3.out
      have f0 := hf.1
      have f1 := hf.2.1
      have f2 := hf.2.2.1
      have f3 := hf.2.2.2.1
      have f4 := hf.2.2.2.2.1
      have f5 := hf.2.2.2.2.2.1
      have f6 := hf.2.2.2.2.2.2.1
      have f7 := hf.2.2.2.2.2.2.2.1
      have f8 := hf.2.2.2.2.2.2.2.2.1
      have f9 := hf.2.2.2.2.2.2.2.2.2
      clear hz hf
      go_wp2
      have hF := tenc (put10_at HZ3.out (.int .i64 1) (.int .i64 (q0 : Int)) (.int .i64 (h' : Int)) (.int .i64 0) (.int .i64 0) (.int .i64 0) (.int .i64 0) (.int .i64 0) (.slice A3 N3 c3) (.slice none 0 0))
      have hB10 := put10_below HB3.out (B := w.heap.size) (by omega) (.int .i64 1) (.int .i64 (q0 : Int)) (.int .i64 (h' : Int)) (.int .i64 0) (.int .i64 0) (.int .i64 0) (.int .i64 0) (.int .i64 0) (.slice A3 N3 c3) (.slice none 0 0)
      obtain ⟨⟨r0, r1, r2, r3, r4⟩, r5, r6, r7, r8, r9⟩ := hF
      unfold put10 at r0 r1 r2 r3 r4 r5 r6 r7 r8 r9 hB10
      refine bodyPost_ret (v := .tuple #[.agg #[.int .i64 1, .int .i64 (q0 : Int), .int .i64 (h' : Int), .int .i64 0, .int .i64 0, .int .i64 0, .int .i64 0, .int .i64 0, .slice A3 N3 c3, .slice none 0 0], .bool true]) ?_ rfl (⟨.inr (hend _ HV10.out), hB10⟩)
      simp [results, Try.results33, go_sem, r0, r1, r2, r3, r4, r5, r6, r7, r8, r9]
end Go.Proofs.Ytgodphfkhmahnaa.Df
