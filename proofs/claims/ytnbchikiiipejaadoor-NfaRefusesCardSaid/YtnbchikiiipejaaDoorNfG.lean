/- Walk of nfa: line. -/
import Derived.Test.YtnbchikiiipejaaDoorNfF
namespace Go.Proofs.YtnbchikiiipejaaDoor.Nf
open Go.RowKit Mem
open Bg (Bag bagV Tab)
set_option linter.unusedVariables false

theorem Pcs.notN {base N : Nat} {W : World} {v v' : Value} {s : List Pc} {p : Pc} (h : Pcs base W v s) (hN : NBox W N v' p) : ∀ g, v.ownBlock = some g → g ≠ N := by
  intro g hg e
  obtain ⟨_, _, cs, fr, hh⟩ := h.block g hg
  subst e
  unfold NBox at hN
  rw [hN] at hh
  injection hh with hh
  injection hh with _ e _; exact absurd e (by decide)
theorem NS.notN {base base' N : Nat} {W : World} {v : Value} {s : List Pc} {l : List En} {p : Pc} (h : NS base N W l p) (hp : Pcs base' W v s) : ∀ g, v.ownBlock = some g → g ≠ N := by
  obtain ⟨_, h1, _⟩ := h
  exact hp.notN h1
theorem Pcs.other {base : Nat} {W : World} {v : Value} {s : List Pc} (h : Pcs base W v s) {b : Nat} (hne : v.ownBlock ≠ some b) (j : Nat) (u : Value) : Pcs base (W.setCell ⟨b, j, none⟩ u) v s := by
  refine ⟨h.1, ?_⟩
  rcases h.2 with hn | ⟨g, cap, cur, hv, h1, h2, r⟩
  · exact .inl hn
  · subst hv
    refine .inr ⟨g, cap, cur, rfl, h1, ?_, r⟩
    rw [Below.heap_setCell _ _ _ _ (fun e => hne (by simp [Value.ownBlock, e]))]
    exact h2
theorem Pcs.st9 {base : Nat} {W : World} {v : Value} {s : List Pc} (h : Pcs base W v s) {b : Nat} (hne : v.ownBlock ≠ some b) (q : Pc) : Pcs base (Nf.st9 W b q) v s := by
  unfold Nf.st9
  exact ((((((((h.other hne _ _).other hne _ _).other hne _ _).other hne _ _).other hne _ _).other hne _ _).other hne _ _).other hne _ _).other hne _ _
theorem PAt.st9 {W : World} {g : Nat} {p : Pc} (h : PAt W g p) {b : Nat} (hne : g ≠ b) (q : Pc) : PAt (Nf.st9 W b q) g p := by
  unfold Nf.st9
  exact ((((((((h.other hne _ _).other hne _ _).other hne _ _).other hne _ _).other hne _ _).other hne _ _).other hne _ _).other hne _ _).other hne _ _
theorem within_ok {n : Nat} {p : Pc} (h : p.within n) : p.ok := ⟨h.1.1, h.2.1⟩
/-- a line's state: the pieces from j on are laid -/
structure LS (base N bp : Nat) (w : World) (p0 : Pc) (must : Int) (s : List Pc) (l : List En) (v : Value) (j : Nat) (W : World) : Prop where
  net : NS base N W (line must j (s.drop j) l).2 p0
  rest : PAt W (w.heap.size + 1) (line must j (s.drop j) l).1
  out : ∃ q, PAt W w.heap.size q
  row : Pcs bp W v s
  frame : NFrame base N w W
  tab : Tab W
theorem Tab.piece {W : World} {b : Nat} {q : Pc} (h : Tab W) (hb : 1 < b) : Tab (Nf.st9 W b q) := by
  refine h.below (n := b) ?_ hb
  unfold Nf.st9
  have s1 := fun {W1 : World} (h : Below b W W1) (j : Nat) (u : Value) => h.setCell (p := ⟨b, j, none⟩) (Nat.le_refl _) u
  exact s1 (s1 (s1 (s1 (s1 (s1 (s1 (s1 (s1 (Below.refl _ W) _ _) _ _) _ _) _ _) _ _) _ _) _ _) _ _) _ _
theorem line_step (must : Int) (j : Nat) (s : List Pc) (l : List En) (h : j < s.length) : line must j (s.drop j) l =
    (⟨(ahead s[j] (line must (j + 1) (s.drop (j + 1)) l).1 (line must (j + 1) (s.drop (j + 1)) l).2).1.em || decide (must ≤ (j : Int)), (ahead s[j] (line must (j + 1) (s.drop (j + 1)) l).1 (line must (j + 1) (s.drop (j + 1)) l).2).1.first, (ahead s[j] (line must (j + 1) (s.drop (j + 1)) l).1 (line must (j + 1) (s.drop (j + 1)) l).2).1.ends⟩, (ahead s[j] (line must (j + 1) (s.drop (j + 1)) l).1 (line must (j + 1) (s.drop (j + 1)) l).2).2) := by
  rw [List.drop_eq_getElem_cons h]; rfl
theorem Tab.frame {base N : Nat} {W W' : World} (h : Tab W) (hf : NFrame base N W W') (hb : 1 < base) (hs : base ≤ W.heap.size) : Tab W' := h.below (hf.below (Nat.le_refl _) hs) hb

theorem LS.fin {base N bp : Nat} {w : World} {p0 : Pc} {must : Int} {s : List Pc} {l L2 : List En} {A : Option Addr} {n c j : Nat} {W : World} {a q0 : Pc} {X : Bool} (hst : line must j (s.drop j) l = (⟨a.em || decide (must ≤ (j : Int)), a.first, a.ends⟩, L2))
    (hn : NS base N W L2 p0) (hp : PAt W (w.heap.size + 1) a) (ho : PAt W w.heap.size q0) (hr : Pcs bp W (.slice A n c) s) (hf : NFrame base N w W) (ht : Tab W) (hT : 1 < w.heap.size)
    (hb : ∀ g, (Value.slice A n c).ownBlock = some g → g < w.heap.size) (hX : X = (a.em || decide (must ≤ (j : Int)))) : LS base N bp w p0 must s l (.slice A n c) j (W.setCell ⟨w.heap.size + 1, 0, none⟩ (.bool X)) := by
  refine ⟨?_, ?_, ⟨q0, ho.other (by omega) _ _⟩, hr.other (fun e => by have := hb _ e; omega) _ _, hf.setNew (by omega) _ _, ht.below (n := w.heap.size + 1) ((Below.refl _ W).setCell (p := ⟨w.heap.size + 1, 0, none⟩) (Nat.le_refl _) _) (by omega)⟩
  · rw [hst]; exact hn.setP hp.isP _ _
  · rw [hst, hX]; exact hp.setEm _
set_option maxRecDepth 100000 in
set_option maxHeartbeats 8000000 in
theorem line_any {base bp : Nat} (N : Nat) (l : List En) (p0 : Pc) (A : Option Addr) (c : Nat) (s : List Pc) (must : Int) (w : World) (h : NS base N w l p0) (hb : base ≤ N) (hT : Tab w) (hTb : 1 < base) (hp : Pcs bp w (.slice A s.length c) s) (hs : ∀ p ∈ s, p.within l.length) (hok : ∀ x ∈ l, x.ok) (hn : s.length ≤ 1000000) :
    Calls Tryd.prog 34 #[.pointer (some ⟨N, 0, none⟩), .slice A s.length c, .int .i64 must] w fun e w' => e = .returned (pcV (line must 0 s l).1) ∧ NS base N w' (line must 0 s l).2 p0 ∧ NFrame base N w w' := by
  have hNs : N < w.heap.size := by obtain ⟨v, hx, _⟩ := h; exact hx.lt
  obtain ⟨n, hnn⟩ : ∃ n, n = s.length := ⟨_, rfl⟩
  have hb0 := ((Below.refl _ w).alloc (Nat.le_refl _) (.cells #[.bool false, .int .u64 0, .int .u64 0, .int .u64 0, .int .u64 0, .int .u64 0, .int .u64 0, .int .u64 0, .int .u64 0] 51)).alloc (by simp) (.cells #[.bool true, .int .u64 0, .int .u64 0, .int .u64 0, .int .u64 0, .int .u64 0, .int .u64 0, .int .u64 0, .int .u64 0] 51)
  have hout := (PAt.new w ⟨false, Bg.nil, Bg.nil⟩).alloc (.cells #[.bool true, .int .u64 0, .int .u64 0, .int .u64 0, .int .u64 0, .int .u64 0, .int .u64 0, .int .u64 0, .int .u64 0] 51)
  have hrest := PAt.new (w.alloc (.cells #[.bool false, .int .u64 0, .int .u64 0, .int .u64 0, .int .u64 0, .int .u64 0, .int .u64 0, .int .u64 0, .int .u64 0] 51)) emp
  simp only [World.size_alloc] at hrest
  have H0 : Hid (LS base N bp w p0 must s l (.slice A s.length c) s.length ((w.alloc (.cells #[.bool false, .int .u64 0, .int .u64 0, .int .u64 0, .int .u64 0, .int .u64 0, .int .u64 0, .int .u64 0, .int .u64 0] 51)).alloc (.cells #[.bool true, .int .u64 0, .int .u64 0, .int .u64 0, .int .u64 0, .int .u64 0, .int .u64 0, .int .u64 0, .int .u64 0] 51))) := by
    refine ⟨?_, ?_, ⟨_, hout⟩, hp.belowAll hb0, NFrame.of_below hb0, hT.below hb0 hT.2⟩
    · rw [List.drop_length]; exact h.belowAll hb0
    · rw [List.drop_length]; exact hrest
  have HBL := Lib.hid (fun g hg => (hp.block g hg).2.1)
  have HS := Lib.hid hs
  have HOK := Lib.hid hok
  rw [← hnn] at hn H0 HBL ⊢
  have HNN := Lib.hid hnn
  clear hb0 hout hrest h hT hp hs hok hnn
  go_enter Tryd.func34, Tryd.ntmps34
  go_wp2
  go_loopw [8] (fun i wr => ∃ z : Int, -1 ≤ z ∧ z < n ∧ i = .int .i64 z ∧ Hid (LS base N bp w p0 must s l (.slice A n c) (z + 1).toNat wr)) (fun i _ => (intOf i + 1).toNat)
  case atStart => exact ⟨(n : Int) - 1, by omega, by omega, rfl, by rw [show ((n : Int) - 1 + 1).toNat = n by omega]; exact H0⟩
  case round =>
    obtain ⟨z, hz1, hz2, rfl, hL⟩ := hrel
    by_cases hz : 0 ≤ z
    · obtain ⟨j, rfl⟩ : ∃ j : Nat, z = j := ⟨z.toNat, by omega⟩
      rw [show ((j : Int) + 1).toNat = j + 1 by omega] at hL
      have hj : j < s.length := by have := HNN.out; omega
      have hstep := line_step must j s l hj
      have hRw := line_within (n := l.length) must (j + 1) (s.drop (j + 1)) l (fun p hp => HS.out p (List.mem_of_mem_drop hp))
      have hLk := line_ok must (j + 1) (s.drop (j + 1)) l (fun p hp => HS.out p (List.mem_of_mem_drop hp)) HOK.out
      have hLl := line_length must (j + 1) (s.drop (j + 1)) l
      have hnet := hL.out.net
      have hrest := hL.out.rest
      generalize line must (j + 1) (s.drop (j + 1)) l = RL at hstep hRw hLk hLl hnet hrest
      obtain ⟨R, L⟩ := RL
      have hone := HS.out s[j] (List.getElem_mem hj)
      obtain ⟨g, cap, hA, hbg, hg, hcap, hcs⟩ := hL.out.row.opn (by omega)
      obtain ⟨rfl, rfl⟩ : A = some ⟨g, 0, none⟩ ∧ c = cap := by
        simp only [Value.slice.injEq] at hA
        exact ⟨hA.1, hA.2.2⟩
      have hc0 := hcs j hj
      obtain ⟨one, hsj⟩ : ∃ one, s[j] = one := ⟨_, rfl⟩
      rw [hsj] at hstep hone hc0
      have HST := Lib.hid hstep
      dsimp only at HST hRw hLk hLl hnet hrest
      rw [← hLl] at hone
      have HON := Lib.hid hone
      have HRK := Lib.hid (within_ok hRw)
      have HLK := Lib.hid hLk
      have HNT := Lib.hid hnet
      obtain ⟨q0, hout⟩ := hL.out.out
      have HPA := Lib.hid hrest
      have HOU := Lib.hid hout
      have HRO := Lib.hid hL.out.row
      have HFR := Lib.hid hL.out.frame
      have HTA := Lib.hid hL.out.tab
      obtain ⟨r0, ⟨r1, r2, r3, r4⟩, r5, r6, r7, r8⟩ := hrest.cell
      have hz3 : w.heap.size + 1 < wr.heap.size := hrest.lt
      have hg1 : g < w.heap.size := HBL.out g rfl
      have HCS : Hid (∀ W, Pcs bp W (.slice (some ⟨g, 0, none⟩) n c) s → W.cell? ⟨g, j * 9, none⟩ = some (.bool one.em) ∧ (W.cell? ⟨g, j * 9 + 1, none⟩ = some (.int .u64 one.first.a) ∧ W.cell? ⟨g, j * 9 + 2, none⟩ = some (.int .u64 one.first.b) ∧ W.cell? ⟨g, j * 9 + 3, none⟩ = some (.int .u64 one.first.c) ∧ W.cell? ⟨g, j * 9 + 4, none⟩ = some (.int .u64 one.first.d)) ∧ (W.cell? ⟨g, j * 9 + 5, none⟩ = some (.int .u64 one.ends.a) ∧ W.cell? ⟨g, j * 9 + 6, none⟩ = some (.int .u64 one.ends.b) ∧ W.cell? ⟨g, j * 9 + 7, none⟩ = some (.int .u64 one.ends.c) ∧ W.cell? ⟨g, j * 9 + 8, none⟩ = some (.int .u64 one.ends.d))) := by
        intro W hW
        obtain ⟨g', cap', hA', _, _, _, hcs'⟩ := hW.opn (by omega)
        simp only [Value.slice.injEq, Option.some.injEq, Addr.mk.injEq, and_true] at hA'
        have := hcs' j hj
        rw [hsj] at this
        rw [hA'.1]
        exact this
      have HNN2 := Lib.hid (HNT.out.notN HRO.out)
      clear hcs hc0 hL hstep hRw hLk hnet hrest hout hone hA hsj
      have htest : decide (0 ≤ (j : Int)) = true := by simp
      go_wp2_with fail
      refine wp_region_held_drew (S := fun W => W.cell? ⟨g, j * 9, none⟩ = some (.bool one.em) ∧ (W.cell? ⟨g, j * 9 + 1, none⟩ = some (.int .u64 one.first.a) ∧ W.cell? ⟨g, j * 9 + 2, none⟩ = some (.int .u64 one.first.b) ∧ W.cell? ⟨g, j * 9 + 3, none⟩ = some (.int .u64 one.first.c) ∧ W.cell? ⟨g, j * 9 + 4, none⟩ = some (.int .u64 one.first.d)) ∧ (W.cell? ⟨g, j * 9 + 5, none⟩ = some (.int .u64 one.ends.a) ∧ W.cell? ⟨g, j * 9 + 6, none⟩ = some (.int .u64 one.ends.b) ∧ W.cell? ⟨g, j * 9 + 7, none⟩ = some (.int .u64 one.ends.c) ∧ W.cell? ⟨g, j * 9 + 8, none⟩ = some (.int .u64 one.ends.d))) (by kernel_rfl) (HCS.out _ HRO.out) (fun hHeld => ?_)
      refine wpAnyH_take (i := 0) (v := ?_) rfl (by kernel_rfl) (by kernel_rfl) (by kernel_rfl) (fun _ _ _ h => h) (Or.inl ⟨by kernel_rfl, ?_⟩) hHeld ?_
      rotate_left
      · (intro W hSw; (try dsimp only at hSw); go_simp; try with_reducible rfl)
      refine wpAnyH_take (i := 1) (v := ?_) rfl (by kernel_rfl) (by kernel_rfl) (by kernel_rfl) (fun _ _ _ h => h) (Or.inl ⟨by kernel_rfl, ?_⟩) hHeld ?_
      rotate_left
      · (intro W hSw; (try dsimp only at hSw); go_simp; try with_reducible rfl)
      refine wpAnyH_take (i := 2) (v := ?_) rfl (by kernel_rfl) (by kernel_rfl) (by kernel_rfl) (fun _ _ _ h => h) (Or.inl ⟨by kernel_rfl, ?_⟩) hHeld ?_
      rotate_left
      · (intro W hSw; (try dsimp only at hSw); go_simp; try with_reducible rfl)
      refine wpAnyH_take (i := 3) (v := ?_) rfl (by kernel_rfl) (by kernel_rfl) (by kernel_rfl) (fun _ _ _ h => h) (Or.inl ⟨by kernel_rfl, ?_⟩) hHeld ?_
      rotate_left
      · (intro W hSw; (try dsimp only at hSw); go_simp; try with_reducible rfl)
      refine wpAnyH_take (i := 4) (v := ?_) rfl (by kernel_rfl) (by kernel_rfl) (by kernel_rfl) (fun _ _ _ h => h) (Or.inl ⟨by kernel_rfl, ?_⟩) hHeld ?_
      rotate_left
      · (intro W hSw; (try dsimp only at hSw); go_simp; try with_reducible rfl)
      refine wpAnyH_ready (rs := [5]) (by kernel_rfl) (by simp) ?_
      refine AllReadyH.cons rfl (fun K hK => ?_) AllReadyH.nil
      go_simp
      refine hK.out _ _ hHeld (fun hHeld => ?_)
      clear hK K
      refine wpAnyH_ready (rs := [6]) (by kernel_rfl) (by simp) ?_
      refine AllReadyH.cons rfl (fun K hK => ?_) AllReadyH.nil
      go_simp
      go_at_call 49
      refine (ahead_any N L p0 one R wr.drew HNT.out hb HTA.out hTb HON.out HRK.out HLK.out).mono ?_
      rintro en w1 ⟨rfl, hns1, hf1⟩
      obtain ⟨a, ha⟩ : ∃ a, (ahead one R L).1 = a := ⟨_, rfl⟩
      obtain ⟨L2, hL2⟩ : ∃ L2, (ahead one R L).2 = L2 := ⟨_, rfl⟩
      rw [ha]
      rw [hL2] at hns1
      have HAA := Lib.hid ha
      have HL2 := Lib.hid hL2
      have hf2 : NFrame base N wr w1 := (NFrame.refl (W := wr)).drew.trans hf1
      have HNS1 := Lib.hid hns1
      have HF1 := Lib.hid hf2
      have HP1 := Lib.hid (HPA.out.frame hf2 (by omega))
      have HO1 := Lib.hid (HOU.out.frame hf2 (by omega))
      have HR1 := Lib.hid (HRO.out.frame hf2 HNN2.out)
      have HT1 := Lib.hid (Tab.frame HTA.out hf2 hTb (by omega))
      clear ha hL2 hns1 hf1 hf2 hHeld r0 r1 r2 r3 r4 r5 r6 r7 r8
      obtain ⟨r0, ⟨r1, r2, r3, r4⟩, r5, r6, r7, r8⟩ := HP1.out.cell
      have g0 := HP1.out.free 0; have g1 := HP1.out.free 1; have g2 := HP1.out.free 2; have g3 := HP1.out.free 3; have g4 := HP1.out.free 4; have g5 := HP1.out.free 5; have g6 := HP1.out.free 6; have g7 := HP1.out.free 7; have g8 := HP1.out.free 8
      unfold pcV
      go_wp2_with fail
      refine hK.out _ _ (HCS.out _ HR1.out) (fun hHeld => ?_)
      clear hK K
      refine wpAnyH_ready (rs := [7]) (by kernel_rfl) (by simp) ?_
      refine AllReadyH.cons rfl (fun K hK => ?_) AllReadyH.nil
      go_simp
      have hn9 := HNS1.out.st9 HP1.out.isP a
      have hp9 := HP1.out.store a
      have ho9 := HO1.out.st9 (b := w.heap.size + 1) (by omega) a
      have hr9 := HR1.out.st9 (b := w.heap.size + 1) (by simp [Value.ownBlock]; omega) a
      have hf9 := (HFR.out.trans HF1.out).st9 (b := w.heap.size + 1) (by omega) a
      have ht9 : Tab (st9 w1 (w.heap.size + 1) a) := Nf.Tab.piece HT1.out (by omega)
      refine hK.out _ _ (HCS.out _ hr9) (fun hHeld => ?_)
      clear hK K hHeld
      refine wpAnyH_done (by kernel_rfl) ?_ _
      unfold st9 at hn9 ho9 hr9 hf9 ht9
      generalize (((((((((w1.setCell ⟨w.heap.size + 1, 0, none⟩ (.bool a.em)).setCell ⟨w.heap.size + 1, 1, none⟩ (.int .u64 a.first.a)).setCell ⟨w.heap.size + 1, 2, none⟩ (.int .u64 a.first.b)).setCell ⟨w.heap.size + 1, 3, none⟩ (.int .u64 a.first.c)).setCell ⟨w.heap.size + 1, 4, none⟩ (.int .u64 a.first.d)).setCell ⟨w.heap.size + 1, 5, none⟩ (.int .u64 a.ends.a)).setCell ⟨w.heap.size + 1, 6, none⟩ (.int .u64 a.ends.b)).setCell ⟨w.heap.size + 1, 7, none⟩ (.int .u64 a.ends.c)).setCell ⟨w.heap.size + 1, 8, none⟩ (.int .u64 a.ends.d)) = w4 at hn9 hp9 ho9 hr9 hf9 ht9 ⊢
      clear r0 r1 r2 r3 r4 r5 r6 r7 r8 g0 g1 g2 g3 g4 g5 g6 g7 g8
      obtain ⟨y0, _⟩ := hp9.cell
      have f0 := hp9.free 0
      have HN9 := Lib.hid hn9
      have HP9 := Lib.hid hp9
      have HO9 := Lib.hid ho9
      have HR9 := Lib.hid hr9
      have HF9 := Lib.hid hf9
      have HT9 := Lib.hid ht9
      have HST2 : Hid (line must j (s.drop j) l = (⟨a.em || decide (must ≤ (j : Int)), a.first, a.ends⟩, L2)) := by
        show _ = _
        rw [HST.out, HAA.out, HL2.out]
      clear hn9 hp9 ho9 hr9 hf9 ht9
      obtain ⟨ae, af, an⟩ := a
      dsimp only at y0
      by_cases hm : must ≤ (j : Int)
      · have hX : (ae || decide (must ≤ (j : Int))) = true := by simp [hm]
        have HX := Lib.hid hX
        have hd : decide (must ≤ (j : Int)) = true := by simpa using hm
        clear hX
        cases ae
        all_goals
          go_wp2_with fail
          go_roundw
          case rel => exact ⟨(j : Int) - 1, by omega, by omega, by go_num, by rw [show ((j : Int) - 1 + 1).toNat = j by omega]; exact Lib.hid (LS.fin HST2.out HN9.out HP9.out HO9.out HR9.out HF9.out HT9.out (by omega) HBL.out HX.out.symm)⟩
          case measure => simp [intOf]
      · have hd : decide (must ≤ (j : Int)) = false := by simpa using hm
        have HX : Hid ((ae || decide (must ≤ (j : Int))) = ae) := by show _ = _; rw [hd]; simp
        cases ae
        all_goals
          go_wp2_with fail
          go_roundw
          case rel => exact ⟨(j : Int) - 1, by omega, by omega, by go_num, by rw [show ((j : Int) - 1 + 1).toNat = j by omega]; exact Lib.hid (LS.fin HST2.out HN9.out HP9.out HO9.out HR9.out HF9.out HT9.out (by omega) HBL.out HX.out.symm)⟩
          case measure => simp [intOf]
    · obtain rfl : z = -1 := by omega
      rw [show ((-1 : Int) + 1).toNat = 0 by omega] at hL
      have hnet := hL.out.net
      have hrest := hL.out.rest
      have hfr := hL.out.frame
      obtain ⟨q0, hout⟩ := hL.out.out
      rw [List.drop_zero] at hnet hrest
      obtain ⟨q, hq⟩ : ∃ q, (line must 0 s l).1 = q := ⟨_, rfl⟩
      rw [hq] at hrest
      obtain ⟨y0, ⟨y1, y2, y3, y4⟩, y5, y6, y7, y8⟩ := hrest.cell
      obtain ⟨z0, ⟨z1, z2, z3, z4⟩, z5, z6, z7, z8⟩ := hout.cell
      have g0 := hout.free 0; have g1 := hout.free 1; have g2 := hout.free 2; have g3 := hout.free 3; have g4 := hout.free 4; have g5 := hout.free 5; have g6 := hout.free 6; have g7 := hout.free 7; have g8 := hout.free 8
      have HNT := Lib.hid hnet
      have HOU := Lib.hid hout
      have HFR := Lib.hid hfr
      have HQ := Lib.hid hq
      clear hnet hrest hfr hout hL hq
      go_wp2
      have hs := HOU.out.store q
      obtain ⟨s0, ⟨s1, s2, s3, s4⟩, s5, s6, s7, s8⟩ := hs.cell
      refine bodyPost_ret (v := pcV q) ?_ rfl ⟨by rw [HQ.out], ?_, ?_⟩
      · simp [pcV, results, Tryd.results34, go_sem, s0, s1, s2, s3, s4, s5, s6, s7, s8]
      · exact HNT.out.st9 HOU.out.isP q
      · exact HFR.out.st9 (by omega) q
end Go.Proofs.YtnbchikiiipejaaDoor.Nf
