/- Walk of nfa: ahead. -/
import Derived.Test.YtnbchikiiipejaaDoorNfE
import Derived.Deep.Cut
namespace Go.Proofs.YtnbchikiiipejaaDoor.Nf
open Go.RowKit Mem
open Bg (Bag bagV Tab)
set_option linter.unusedVariables false

theorem PAt.frame {base N : Nat} {W W' : World} {g : Nat} {p : Pc} (h : PAt W g p) (hf : NFrame base N W W') (hg : g ≠ N) : PAt W' g p :=
  hf.other g _ h hg (fun cs fr e => by injection e with _ e _; exact absurd e (by decide))
/-- a block of one piece's type, whatever it holds -/
def IsP (W : World) (b : Nat) : Prop := ∃ cs fr, W.heap[b]? = some (.cells cs 51 fr)
theorem PAt.isP {W : World} {b : Nat} {p : Pc} (h : PAt W b p) : IsP W b := ⟨_, _, h⟩
theorem IsP.set {W : World} {b : Nat} (h : IsP W b) (j : Nat) (u : Value) : IsP (W.setCell ⟨b, j, none⟩ u) b := cells_set h j u
theorem NS.setP {base N : Nat} {W : World} {l : List En} {p : Pc} {b : Nat} (h : NS base N W l p) (hb : IsP W b) (j : Nat) (u : Value) : NS base N (W.setCell ⟨b, j, none⟩ u) l p := by
  obtain ⟨v, h1, h2, h3⟩ := h
  obtain ⟨cs, fr, hh⟩ := hb
  refine ⟨v, h1.other ?_ j u, h2.other ?_ j u, h3⟩
  · rintro rfl
    unfold NBox at h1
    rw [hh] at h1
    injection h1 with h1
    injection h1 with _ e _; exact absurd e (by decide)
  · intro e
    obtain ⟨_, _, cs', fr', hh'⟩ := h2.block b e
    rw [hh] at hh'
    injection hh' with hh'
    injection hh' with _ e _; exact absurd e (by decide)
/-- a piece stored whole -/
def st9 (W : World) (b : Nat) (q : Pc) : World := (((((((((W.setCell ⟨b, 0, none⟩ (.bool q.em)).setCell ⟨b, 1, none⟩ (.int .u64 q.first.a)).setCell ⟨b, 2, none⟩ (.int .u64 q.first.b)).setCell ⟨b, 3, none⟩ (.int .u64 q.first.c)).setCell ⟨b, 4, none⟩ (.int .u64 q.first.d)).setCell ⟨b, 5, none⟩ (.int .u64 q.ends.a)).setCell ⟨b, 6, none⟩ (.int .u64 q.ends.b)).setCell ⟨b, 7, none⟩ (.int .u64 q.ends.c)).setCell ⟨b, 8, none⟩ (.int .u64 q.ends.d))
theorem NS.st9 {base N : Nat} {W : World} {l : List En} {p : Pc} {b : Nat} (h : NS base N W l p) (hb : IsP W b) (q : Pc) : NS base N (Nf.st9 W b q) l p := by
  unfold Nf.st9
  have b1 := hb.set 0 (.bool q.em)
  have h1 := h.setP hb 0 (.bool q.em)
  have b2 := b1.set 1 (.int .u64 q.first.a)
  have h2 := h1.setP b1 1 (.int .u64 q.first.a)
  have b3 := b2.set 2 (.int .u64 q.first.b)
  have h3 := h2.setP b2 2 (.int .u64 q.first.b)
  have b4 := b3.set 3 (.int .u64 q.first.c)
  have h4 := h3.setP b3 3 (.int .u64 q.first.c)
  have b5 := b4.set 4 (.int .u64 q.first.d)
  have h5 := h4.setP b4 4 (.int .u64 q.first.d)
  have b6 := b5.set 5 (.int .u64 q.ends.a)
  have h6 := h5.setP b5 5 (.int .u64 q.ends.a)
  have b7 := b6.set 6 (.int .u64 q.ends.b)
  have h7 := h6.setP b6 6 (.int .u64 q.ends.b)
  have b8 := b7.set 7 (.int .u64 q.ends.c)
  have h8 := h7.setP b7 7 (.int .u64 q.ends.c)
  exact h8.setP b8 8 (.int .u64 q.ends.d)
theorem NFrame.st9 {base N : Nat} {W W' : World} {b : Nat} (h : NFrame base N W W') (hb : W.heap.size ≤ b) (q : Pc) : NFrame base N W (Nf.st9 W' b q) := by
  unfold Nf.st9
  exact ((((((((h.setNew hb _ _).setNew hb _ _).setNew hb _ _).setNew hb _ _).setNew hb _ _).setNew hb _ _).setNew hb _ _).setNew hb _ _).setNew hb _ _
set_option maxRecDepth 100000 in
set_option maxHeartbeats 8000000 in
theorem ahead_any {base : Nat} (N : Nat) (l : List En) (p0 one rest : Pc) (w : World) (h : NS base N w l p0) (hb : base ≤ N) (hT : Tab w) (hTb : 1 < base) (h1 : one.within l.length) (h2 : rest.ok) (hok : ∀ x ∈ l, x.ok) :
    Calls Tryd.prog 49 #[.pointer (some ⟨N, 0, none⟩), pcV one, pcV rest] w fun e w' => e = .returned (pcV (ahead one rest l).1) ∧ NS base N w' (ahead one rest l).2 p0 ∧ NFrame base N w w' := by
  have hNs : N < w.heap.size := by obtain ⟨v, hx, _⟩ := h; exact hx.lt
  have ha := ((PAt.new w one).alloc (.cells #[.bool rest.em, .int .u64 rest.first.a, .int .u64 rest.first.b, .int .u64 rest.first.c, .int .u64 rest.first.d, .int .u64 rest.ends.a, .int .u64 rest.ends.b, .int .u64 rest.ends.c, .int .u64 rest.ends.d] 51)).alloc (.cells #[.bool false, .int .u64 0, .int .u64 0, .int .u64 0, .int .u64 0, .int .u64 0, .int .u64 0, .int .u64 0, .int .u64 0] 51)
  have hr := (PAt.new (w.alloc (.cells #[.bool one.em, .int .u64 one.first.a, .int .u64 one.first.b, .int .u64 one.first.c, .int .u64 one.first.d, .int .u64 one.ends.a, .int .u64 one.ends.b, .int .u64 one.ends.c, .int .u64 one.ends.d] 51)) rest).alloc (.cells #[.bool false, .int .u64 0, .int .u64 0, .int .u64 0, .int .u64 0, .int .u64 0, .int .u64 0, .int .u64 0, .int .u64 0] 51)
  have ho := PAt.new ((w.alloc (.cells #[.bool one.em, .int .u64 one.first.a, .int .u64 one.first.b, .int .u64 one.first.c, .int .u64 one.first.d, .int .u64 one.ends.a, .int .u64 one.ends.b, .int .u64 one.ends.c, .int .u64 one.ends.d] 51)).alloc (.cells #[.bool rest.em, .int .u64 rest.first.a, .int .u64 rest.first.b, .int .u64 rest.first.c, .int .u64 rest.first.d, .int .u64 rest.ends.a, .int .u64 rest.ends.b, .int .u64 rest.ends.c, .int .u64 rest.ends.d] 51)) ⟨false, Bg.nil, Bg.nil⟩
  have hb0 := (((Below.refl _ w).alloc (Nat.le_refl _) (.cells #[.bool one.em, .int .u64 one.first.a, .int .u64 one.first.b, .int .u64 one.first.c, .int .u64 one.first.d, .int .u64 one.ends.a, .int .u64 one.ends.b, .int .u64 one.ends.c, .int .u64 one.ends.d] 51)).alloc (by simp) (.cells #[.bool rest.em, .int .u64 rest.first.a, .int .u64 rest.first.b, .int .u64 rest.first.c, .int .u64 rest.first.d, .int .u64 rest.ends.a, .int .u64 rest.ends.b, .int .u64 rest.ends.c, .int .u64 rest.ends.d] 51)).alloc (by simp; omega) (.cells #[.bool false, .int .u64 0, .int .u64 0, .int .u64 0, .int .u64 0, .int .u64 0, .int .u64 0, .int .u64 0, .int .u64 0] 51)
  simp only [World.size_alloc] at hr ho
  have HA := Lib.hid ha
  have HR := Lib.hid hr
  have HO := Lib.hid ho
  have HB := Lib.hid hb0
  have HS := Lib.hid (h.belowAll hb0)
  have HT := Lib.hid (hT.below hb0 hT.2)
  have H1 := Lib.hid h1
  have H2 := Lib.hid h2
  have HOK := Lib.hid hok
  clear ha hr ho hb0 h hT h1 h2 hok
  unfold pcV
  go_enter Tryd.func49, Tryd.ntmps49
  go_upto_region 2 with (go_at_call 36; refine (lead_any N l p0 one.ends rest.first _ HS.out hb HT.out hTb H1.out.2 H2.out.1 HOK.out).mono ?_; rintro e w1 ⟨⟨v, rfl⟩, hs1, hf1⟩; have HA1 := Lib.hid (HA.out.frame hf1 (by omega)); have HR1 := Lib.hid (HR.out.frame hf1 (by omega)); have HO1 := Lib.hid (HO.out.frame hf1 (by omega)); have HF1 := Lib.hid ((NFrame.of_below HB.out).trans hf1); have HS1 := Lib.hid hs1; clear hs1 hf1)
  obtain ⟨e1, f1, n1⟩ := one
  obtain ⟨e2, f2, n2⟩ := rest
  have HF2 := Lib.hid (show f1.ok ∧ f2.ok from ⟨H1.out.1.1, H2.out.1⟩)
  have HN2 := Lib.hid (show n2.ok ∧ n1.ok from ⟨H2.out.2, H1.out.2.1⟩)
  obtain ⟨a0, ⟨a1, a2, a3, a4⟩, a5, a6, a7, a8⟩ := HA1.out.cell
  obtain ⟨r0, ⟨r1, r2, r3, r4⟩, r5, r6, r7, r8⟩ := HR1.out.cell
  have hs1 : w.heap.size + 1 + 1 < w1.heap.size := HO1.out.lt
  have hs2 : w.heap.size + 1 < w1.heap.size := HR1.out.lt
  have hs3 : w.heap.size < w1.heap.size := HA1.out.lt
  cases e1
  · cases e2
    · go_upto_region 7 with (fail)
      have hq := PAt.new w1 ⟨false, f1, n2⟩
      have ho := HO1.out.alloc (.cells #[.bool false, .int .u64 f1.a, .int .u64 f1.b, .int .u64 f1.c, .int .u64 f1.d, .int .u64 n2.a, .int .u64 n2.b, .int .u64 n2.c, .int .u64 n2.d] 51)
      have hbb := (Below.refl _ w1).alloc (Nat.le_refl _) (.cells #[.bool false, .int .u64 f1.a, .int .u64 f1.b, .int .u64 f1.c, .int .u64 f1.d, .int .u64 n2.a, .int .u64 n2.b, .int .u64 n2.c, .int .u64 n2.d] 51)
      clear a0 a1 a2 a3 a4 a5 a6 a7 a8 r0 r1 r2 r3 r4 r5 r6 r7 r8
      generalize (w1.alloc (.cells #[.bool false, .int .u64 f1.a, .int .u64 f1.b, .int .u64 f1.c, .int .u64 f1.d, .int .u64 n2.a, .int .u64 n2.b, .int .u64 n2.c, .int .u64 n2.d] 51)) = w4 at hq ho hbb ⊢
      have hq' := hq.cell
      dsimp only at hq'
      obtain ⟨y0, ⟨y1, y2, y3, y4⟩, y5, y6, y7, y8⟩ := hq'
      obtain ⟨z0, ⟨z1, z2, z3, z4⟩, z5, z6, z7, z8⟩ := ho.cell; have g0 := ho.free 0; have g1 := ho.free 1; have g2 := ho.free 2; have g3 := ho.free 3; have g4 := ho.free 4; have g5 := ho.free 5; have g6 := ho.free 6; have g7 := ho.free 7; have g8 := ho.free 8
      have HOZ := Lib.hid ho
      have HBB := Lib.hid hbb
      clear hq ho hbb
      go_wp2
      have hs := HOZ.out.store ⟨false, f1, n2⟩
      obtain ⟨s0, ⟨s1, s2, s3, s4⟩, s5, s6, s7, s8⟩ := hs.cell
      refine bodyPost_ret (v := pcV ⟨false, f1, n2⟩) ?_ rfl ⟨rfl, ?_, ?_⟩
      · simp [pcV, results, Tryd.results49, go_sem, s0, s1, s2, s3, s4, s5, s6, s7, s8]
      · exact (HS1.out.belowAll HBB.out).st9 HOZ.out.isP ⟨false, f1, n2⟩
      · exact ((HF1.out.trans (NFrame.of_below HBB.out)).st9 (by omega) ⟨false, f1, n2⟩)
    · go_upto_region 7 with ((go_at_call 50; refine (Bg.or_any n2 n1 HN2.out.1 HN2.out.2 _).mono ?_; rintro e w3 ⟨rfl, hb3⟩; unfold bagV; have HQ3 := Lib.hid ((PAt.new w1 ⟨false, f1, n2⟩).below hb3 (by simp)); have HO3 := Lib.hid ((HO1.out.alloc _).below hb3 (by simp; omega)); have HB3 := Lib.hid (((Below.refl _ w1).alloc (Nat.le_refl _) _).trans (hb3.mono (by simp))); have hz3 := HQ3.out.lt; obtain ⟨u0, ⟨u1, u2, u3, u4⟩, u5, u6, u7, u8⟩ := HQ3.out.cell; have h5 := HQ3.out.free 5; have h6 := HQ3.out.free 6; have h7 := HQ3.out.free 7; have h8 := HQ3.out.free 8; clear hb3))
      have hq := HQ3.out.setEnds (n2.orB n1)
      have ho := (((HO3.out.other (b := w1.heap.size) (by omega) 5 (.int .u64 (n2.orB n1).a)).other (b := w1.heap.size) (by omega) 6 (.int .u64 (n2.orB n1).b)).other (b := w1.heap.size) (by omega) 7 (.int .u64 (n2.orB n1).c)).other (b := w1.heap.size) (by omega) 8 (.int .u64 (n2.orB n1).d)
      have hbb := (((HB3.out.setCell (p := ⟨w1.heap.size, 5, none⟩) (Nat.le_refl _) (.int .u64 (n2.orB n1).a)).setCell (p := ⟨w1.heap.size, 6, none⟩) (Nat.le_refl _) (.int .u64 (n2.orB n1).b)).setCell (p := ⟨w1.heap.size, 7, none⟩) (Nat.le_refl _) (.int .u64 (n2.orB n1).c)).setCell (p := ⟨w1.heap.size, 8, none⟩) (Nat.le_refl _) (.int .u64 (n2.orB n1).d)
      clear a0 a1 a2 a3 a4 a5 a6 a7 a8 r0 r1 r2 r3 r4 r5 r6 r7 r8 u0 u1 u2 u3 u4 u5 u6 u7 u8 h5 h6 h7 h8
      generalize ((((w3.setCell ⟨w1.heap.size, 5, none⟩ (.int .u64 (n2.orB n1).a)).setCell ⟨w1.heap.size, 6, none⟩ (.int .u64 (n2.orB n1).b)).setCell ⟨w1.heap.size, 7, none⟩ (.int .u64 (n2.orB n1).c)).setCell ⟨w1.heap.size, 8, none⟩ (.int .u64 (n2.orB n1).d)) = w4 at hq ho hbb ⊢
      have hq' := hq.cell
      dsimp only at hq'
      obtain ⟨y0, ⟨y1, y2, y3, y4⟩, y5, y6, y7, y8⟩ := hq'
      obtain ⟨z0, ⟨z1, z2, z3, z4⟩, z5, z6, z7, z8⟩ := ho.cell; have g0 := ho.free 0; have g1 := ho.free 1; have g2 := ho.free 2; have g3 := ho.free 3; have g4 := ho.free 4; have g5 := ho.free 5; have g6 := ho.free 6; have g7 := ho.free 7; have g8 := ho.free 8
      have HOZ := Lib.hid ho
      have HBB := Lib.hid hbb
      clear hq ho hbb
      go_wp2
      have hs := HOZ.out.store ⟨false, f1, n2.orB n1⟩
      obtain ⟨s0, ⟨s1, s2, s3, s4⟩, s5, s6, s7, s8⟩ := hs.cell
      refine bodyPost_ret (v := pcV ⟨false, f1, n2.orB n1⟩) ?_ rfl ⟨rfl, ?_, ?_⟩
      · simp [pcV, results, Tryd.results49, go_sem, s0, s1, s2, s3, s4, s5, s6, s7, s8]
      · exact (HS1.out.belowAll HBB.out).st9 HOZ.out.isP ⟨false, f1, n2.orB n1⟩
      · exact ((HF1.out.trans (NFrame.of_below HBB.out)).st9 (by omega) ⟨false, f1, n2.orB n1⟩)
  · cases e2
    · go_upto_region 7 with ((go_at_call 50; refine (Bg.or_any f1 f2 HF2.out.1 HF2.out.2 _).mono ?_; rintro e w2 ⟨rfl, hb2⟩; unfold bagV; have HQ2 := Lib.hid ((PAt.new w1 ⟨false, f1, n2⟩).below hb2 (by simp)); have HA2 := Lib.hid ((HA1.out.alloc _).below hb2 (by simp; omega)); have HO2 := Lib.hid ((HO1.out.alloc _).below hb2 (by simp; omega)); have HR2 := Lib.hid ((HR1.out.alloc _).below hb2 (by simp; omega)); have HB2 := Lib.hid (((Below.refl _ w1).alloc (Nat.le_refl _) _).trans (hb2.mono (by simp))); have hz2 := HQ2.out.lt; obtain ⟨u0, ⟨u1, u2, u3, u4⟩, u5, u6, u7, u8⟩ := HQ2.out.cell; obtain ⟨_, ⟨_, _, _, _⟩, v5, v6, v7, v8⟩ := HA2.out.cell; obtain ⟨x0, _⟩ := HR2.out.cell; have h1 := HQ2.out.free 1; have h2 := HQ2.out.free 2; have h3 := HQ2.out.free 3; have h4 := HQ2.out.free 4; clear hb2))
      have hq := HQ2.out.setFirst (f1.orB f2)
      have ho := (((HO2.out.other (b := w1.heap.size) (by omega) 1 (.int .u64 (f1.orB f2).a)).other (b := w1.heap.size) (by omega) 2 (.int .u64 (f1.orB f2).b)).other (b := w1.heap.size) (by omega) 3 (.int .u64 (f1.orB f2).c)).other (b := w1.heap.size) (by omega) 4 (.int .u64 (f1.orB f2).d)
      have hbb := (((HB2.out.setCell (p := ⟨w1.heap.size, 1, none⟩) (Nat.le_refl _) (.int .u64 (f1.orB f2).a)).setCell (p := ⟨w1.heap.size, 2, none⟩) (Nat.le_refl _) (.int .u64 (f1.orB f2).b)).setCell (p := ⟨w1.heap.size, 3, none⟩) (Nat.le_refl _) (.int .u64 (f1.orB f2).c)).setCell (p := ⟨w1.heap.size, 4, none⟩) (Nat.le_refl _) (.int .u64 (f1.orB f2).d)
      clear a0 a1 a2 a3 a4 a5 a6 a7 a8 r0 r1 r2 r3 r4 r5 r6 r7 r8 u0 u1 u2 u3 u4 u5 u6 u7 u8 v5 v6 v7 v8 x0 h1 h2 h3 h4
      generalize ((((w2.setCell ⟨w1.heap.size, 1, none⟩ (.int .u64 (f1.orB f2).a)).setCell ⟨w1.heap.size, 2, none⟩ (.int .u64 (f1.orB f2).b)).setCell ⟨w1.heap.size, 3, none⟩ (.int .u64 (f1.orB f2).c)).setCell ⟨w1.heap.size, 4, none⟩ (.int .u64 (f1.orB f2).d)) = w4 at hq ho hbb ⊢
      have hq' := hq.cell
      dsimp only at hq'
      obtain ⟨y0, ⟨y1, y2, y3, y4⟩, y5, y6, y7, y8⟩ := hq'
      obtain ⟨z0, ⟨z1, z2, z3, z4⟩, z5, z6, z7, z8⟩ := ho.cell; have g0 := ho.free 0; have g1 := ho.free 1; have g2 := ho.free 2; have g3 := ho.free 3; have g4 := ho.free 4; have g5 := ho.free 5; have g6 := ho.free 6; have g7 := ho.free 7; have g8 := ho.free 8
      have HOZ := Lib.hid ho
      have HBB := Lib.hid hbb
      clear hq ho hbb
      go_wp2
      have hs := HOZ.out.store ⟨false, f1.orB f2, n2⟩
      obtain ⟨s0, ⟨s1, s2, s3, s4⟩, s5, s6, s7, s8⟩ := hs.cell
      refine bodyPost_ret (v := pcV ⟨false, f1.orB f2, n2⟩) ?_ rfl ⟨rfl, ?_, ?_⟩
      · simp [pcV, results, Tryd.results49, go_sem, s0, s1, s2, s3, s4, s5, s6, s7, s8]
      · exact (HS1.out.belowAll HBB.out).st9 HOZ.out.isP ⟨false, f1.orB f2, n2⟩
      · exact ((HF1.out.trans (NFrame.of_below HBB.out)).st9 (by omega) ⟨false, f1.orB f2, n2⟩)
    · go_upto_region 7 with (first
        | (have hg := HQ2; clear hg; go_at_call 50; refine (Bg.or_any n2 n1 HN2.out.1 HN2.out.2 _).mono ?_; rintro e w3 ⟨rfl, hb3⟩; unfold bagV; have HQ3 := Lib.hid ((HQ2.out.setFirst (f1.orB f2)).below hb3 (by simp; omega)); have HO3 := Lib.hid (((((HO2.out.other (by omega) _ _).other (by omega) _ _).other (by omega) _ _).other (by omega) _ _).below hb3 (by have := HO2.out.lt; simp; omega)); have HB3 := Lib.hid (((((HB2.out.setCell (Nat.le_refl _) _).setCell (Nat.le_refl _) _).setCell (Nat.le_refl _) _).setCell (Nat.le_refl _) _).trans (hb3.mono (by simp; omega))); have hz3 := HQ3.out.lt; obtain ⟨u0, ⟨u1, u2, u3, u4⟩, u5, u6, u7, u8⟩ := HQ3.out.cell; have h5 := HQ3.out.free 5; have h6 := HQ3.out.free 6; have h7 := HQ3.out.free 7; have h8 := HQ3.out.free 8; clear hb3)
        | (go_at_call 50; refine (Bg.or_any f1 f2 HF2.out.1 HF2.out.2 _).mono ?_; rintro e w2 ⟨rfl, hb2⟩; unfold bagV; have HQ2 := Lib.hid ((PAt.new w1 ⟨true, f1, n2⟩).below hb2 (by simp)); have HA2 := Lib.hid ((HA1.out.alloc _).below hb2 (by simp; omega)); have HO2 := Lib.hid ((HO1.out.alloc _).below hb2 (by simp; omega)); have HR2 := Lib.hid ((HR1.out.alloc _).below hb2 (by simp; omega)); have HB2 := Lib.hid (((Below.refl _ w1).alloc (Nat.le_refl _) _).trans (hb2.mono (by simp))); have hz2 := HQ2.out.lt; obtain ⟨u0, ⟨u1, u2, u3, u4⟩, u5, u6, u7, u8⟩ := HQ2.out.cell; obtain ⟨_, ⟨_, _, _, _⟩, v5, v6, v7, v8⟩ := HA2.out.cell; obtain ⟨x0, _⟩ := HR2.out.cell; have h1 := HQ2.out.free 1; have h2 := HQ2.out.free 2; have h3 := HQ2.out.free 3; have h4 := HQ2.out.free 4; clear hb2))
      have hq := HQ3.out.setEnds (n2.orB n1)
      have ho := (((HO3.out.other (b := w1.heap.size) (by omega) 5 (.int .u64 (n2.orB n1).a)).other (b := w1.heap.size) (by omega) 6 (.int .u64 (n2.orB n1).b)).other (b := w1.heap.size) (by omega) 7 (.int .u64 (n2.orB n1).c)).other (b := w1.heap.size) (by omega) 8 (.int .u64 (n2.orB n1).d)
      have hbb := (((HB3.out.setCell (p := ⟨w1.heap.size, 5, none⟩) (Nat.le_refl _) (.int .u64 (n2.orB n1).a)).setCell (p := ⟨w1.heap.size, 6, none⟩) (Nat.le_refl _) (.int .u64 (n2.orB n1).b)).setCell (p := ⟨w1.heap.size, 7, none⟩) (Nat.le_refl _) (.int .u64 (n2.orB n1).c)).setCell (p := ⟨w1.heap.size, 8, none⟩) (Nat.le_refl _) (.int .u64 (n2.orB n1).d)
      clear a0 a1 a2 a3 a4 a5 a6 a7 a8 r0 r1 r2 r3 r4 r5 r6 r7 r8 u0 u1 u2 u3 u4 u5 u6 u7 u8 v5 v6 v7 v8 x0 h1 h2 h3 h4 h5 h6 h7 h8
      generalize ((((w3.setCell ⟨w1.heap.size, 5, none⟩ (.int .u64 (n2.orB n1).a)).setCell ⟨w1.heap.size, 6, none⟩ (.int .u64 (n2.orB n1).b)).setCell ⟨w1.heap.size, 7, none⟩ (.int .u64 (n2.orB n1).c)).setCell ⟨w1.heap.size, 8, none⟩ (.int .u64 (n2.orB n1).d)) = w4 at hq ho hbb ⊢
      have hq' := hq.cell
      dsimp only at hq'
      obtain ⟨y0, ⟨y1, y2, y3, y4⟩, y5, y6, y7, y8⟩ := hq'
      obtain ⟨z0, ⟨z1, z2, z3, z4⟩, z5, z6, z7, z8⟩ := ho.cell; have g0 := ho.free 0; have g1 := ho.free 1; have g2 := ho.free 2; have g3 := ho.free 3; have g4 := ho.free 4; have g5 := ho.free 5; have g6 := ho.free 6; have g7 := ho.free 7; have g8 := ho.free 8
      have HOZ := Lib.hid ho
      have HBB := Lib.hid hbb
      clear hq ho hbb
      go_wp2
      have hs := HOZ.out.store ⟨true, f1.orB f2, n2.orB n1⟩
      obtain ⟨s0, ⟨s1, s2, s3, s4⟩, s5, s6, s7, s8⟩ := hs.cell
      refine bodyPost_ret (v := pcV ⟨true, f1.orB f2, n2.orB n1⟩) ?_ rfl ⟨rfl, ?_, ?_⟩
      · simp [pcV, results, Tryd.results49, go_sem, s0, s1, s2, s3, s4, s5, s6, s7, s8]
      · exact (HS1.out.belowAll HBB.out).st9 HOZ.out.isP ⟨true, f1.orB f2, n2.orB n1⟩
      · exact ((HF1.out.trans (NFrame.of_below HBB.out)).st9 (by omega) ⟨true, f1.orB f2, n2.orB n1⟩)
end Go.Proofs.YtnbchikiiipejaaDoor.Nf
