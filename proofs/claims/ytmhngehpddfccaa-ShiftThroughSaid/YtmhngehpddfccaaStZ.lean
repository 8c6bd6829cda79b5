/- Steps: the law ShiftThrough. -/
import Derived.Test.YtmhngehpddfccaaStX
import Derived.Test.YtmhngehpddfccaaStGs
import Derived.Test.YtmhngehpddfccaaRtMw
import Derived.Test.YtmhngehpddfccaaRtR
namespace Go.Proofs.Ytmhngehpddfccaa.St
open Go.RowKit Mem Sm Tk Rt
set_option linter.unusedVariables false
set_option linter.unusedSimpArgs false
theorem pickL_len' {α : Type} {b : Bool} {l : List α} {n : Nat} (h : l.length ≤ n) : (pickL b l).length ≤ n := by
  unfold pickL; split
  · exact h
  · simp
theorem shift_none (x : Sp) (n m : Nat) : shiftB (fun _ _ => none) x n m = false := by unfold shiftB goneB; simp
theorem through_nil (x : Sp) (L : List Tk.Tk) (S : List Mk) (A B : Option Addr) (n m c d : Nat) (w : World) (hn : n ≤ 9223372036854775807) (hm : m ≤ 9223372036854775807) (h1 : TRow w A n L) (h3 : MkRow w B m S) :
    Calls Try.prog 6 #[stV x (.slice A n c) (.slice B m d), .pointer none] w fun e w' => e = .returned (.tuple #[zeroV, .bool false]) ∧ Below w.heap.size w w' :=
  (through_any tells_nil x L S A B n m c d w trivial hn hm h1 h3).mono fun e w' h => by
    refine ⟨?_, h.2⟩
    rcases h.1 with ⟨hb, _⟩ | ⟨_, rfl⟩
    · rw [shift_none] at hb; cases hb
    · rfl
/-- steps through the two routes -/
theorem go_rt {w W : World} {i : Nat} {v mp mv ov : Value} {vs vs2 : List Value} {M : List (List Rg)} {O : List Int} {mir : List (Int × Int)} (hG : GS w W i v mp mv ov vs vs2 M O mir) (hi : i ≤ 12) :
    Tells (.pointer (some ⟨w.heap.size, 0, none⟩)) (fun W => RtAt w.heap.size W w.heap.size v mp vs M mir) (goT M mir) :=
  tells_rt (by have := hG.len; omega) (fun m' hm' => ⟨by have := (hG.right m' hm').1; omega, (hG.right m' hm').2⟩) (fun q hq => (hG.rel.bound q hq).2)
theorem go_xt {w W : World} {i : Nat} {v mp : Value} {A1 A2 : Option Addr} {n1 n2 c1 c2 : Nat} {vs vs2 : List Value} {M : List (List Rg)} {O : List Int} {mir : List (Int × Int)} (hG : GS w W i v mp (.slice A1 n1 c1) (.slice A2 n2 c2) vs vs2 M O mir) (hi : i ≤ 12) :
    RTells (.agg #[.slice A1 n1 c1, .slice A2 n2 c2]) (fun W => XAt w.heap.size w.heap.size W (.slice A1 n1 c1) (.slice A2 n2 c2) vs2 M O ∧ w.heap.size ≤ W.heap.size) (goT M mir) :=
  tells_xt (by have := hG.len; omega) (fun m' hm' => ⟨by have := (hG.right m' hm').1; omega, (hG.right m' hm').2⟩) hG.rel
set_option maxRecDepth 100000 in
set_option maxHeartbeats 16000000 in
theorem sthrough_walk (x : Sp) (L : List Tk.Tk) (S : List Mk) (A B : Option Addr) (n m c d : Nat) (D : Option Addr) (k cd : Nat) (l : List Mi) (w : World)
    (h1 : TRow w A n L) (h3 : MkRow w B m S) (hr : MLow w.heap.size w D k l) (hn : n ≤ 9223372036854775807) (hm : m ≤ 9223372036854775807) :
    Calls Try.prog 3 #[stV x (.slice A n c) (.slice B m d), .slice D k cd] w fun e w' => e = .returned (.bool true) ∧ Below w.heap.size w w' := by
  have CF1 := fun W => few_any x A B n m c d W
  have CLV := fun W => live_any W
  have CN := fun W q1 q2 => through_nil x L S A B n m c d W hn hm q1 q2
  have CBN := fun W => by_nil x A B n m c d W
  have CSA := fun Y LA SA A1 A2 B1 B2 c1 c2 d1 d2 W q1 q2 q3 q4 q5 q6 => rssame_any Y Y LA LA SA SA A1 A2 B1 B2 LA.length LA.length SA.length SA.length c1 c2 d1 d2 W q1 q1 q2 q2 q3 q4 q5 q6
  simp only [sameS_refl] at CSA
  have HR := Lib.hid hr
  have HL := Lib.hid hr.1
  clear hr
  have hs9 := fun (W : World) (o : Obj) => (by simp : (W.alloc o).heap.size = W.heap.size + 1)
  have hsX : stV x (.slice A n c) (.slice B m d) = .agg #[.int .i64 x.kind, .int .i64 x.from_, .int .i64 x.to_, .int .i64 x.gf, .int .i64 x.gt, .int .i64 x.ins, .int .i64 x.mark, .int .i64 x.val, .slice A n c, .slice B m d] := rfl
  rw [hsX]
  have hx := heap_alloc_new w (.cells #[.int .i64 x.kind, .int .i64 x.from_, .int .i64 x.to_, .int .i64 x.gf, .int .i64 x.gt, .int .i64 x.ins, .int .i64 x.mark, .int .i64 x.val, .slice A n c, .slice B m d] 25)
  have hb0 : Below w.heap.size w (w.alloc (.cells #[.int .i64 x.kind, .int .i64 x.from_, .int .i64 x.to_, .int .i64 x.gf, .int .i64 x.gt, .int .i64 x.ins, .int .i64 x.mark, .int .i64 x.val, .slice A n c, .slice B m d] 25)) := (Below.refl _ w).alloc (Nat.le_refl _) _
  have HX := Lib.hid hx
  have HB := Lib.hid hb0
  clear hx hb0
  obtain ⟨⟨y0, y1, y2, y3, y4⟩, y5, y6, y7, y8, y9⟩ := tenc HX.out
  go_enter Try.func3, Try.ntmps3
  go_wp2_with fail
  refine (CN _ (h1.below HB.out) (h3.below HB.out)).mono ?_
  rintro e w1 ⟨rfl, hb1⟩
  have HX1 := Lib.hid (hkeep hb1 HX.out)
  have HB1 := Lib.hid (HB.out.trans (hb1.mono HB.out.size))
  clear hb1 HX HB CN
  clear y0 y1 y2 y3 y4 y5 y6 y7 y8 y9
  have hbn : Below w1.heap.size w1 (w1.alloc (.cells #[.int .i64 0, .int .i64 0, .int .i64 0, .int .i64 0, .int .i64 0, .int .i64 0, .int .i64 0, .int .i64 0, .slice none 0 0, .slice none 0 0] 25)) := (Below.refl _ _).alloc (Nat.le_refl _) _
  have HX2 := Lib.hid (hkeep hbn HX1.out)
  have HB2 := Lib.hid (HB1.out.trans (hbn.mono HB1.out.size))
  clear hbn HX1 HB1
  go_upto_region 4 with fail
  generalize w1.alloc (.cells #[.int .i64 0, .int .i64 0, .int .i64 0, .int .i64 0, .int .i64 0, .int .i64 0, .int .i64 0, .int .i64 0, .slice none 0 0, .slice none 0 0] 25) = W2 at HX2 HB2 ⊢
  generalize w1.heap.size = P5 at *
  obtain ⟨⟨y0, y1, y2, y3, y4⟩, y5, y6, y7, y8, y9⟩ := tenc HX2.out
  go_wp2_with fail
  refine (CF1 _).mono ?_
  rintro e w3 ⟨rfl, hb3⟩
  have HX3 := Lib.hid (hkeep hb3 HX2.out)
  have HB3 := Lib.hid (HB2.out.trans (hb3.mono HB2.out.size))
  clear hb3 HX2 HB2 CF1
  clear y0 y1 y2 y3 y4 y5 y6 y7 y8 y9
  obtain ⟨b1, hb1⟩ : ∃ b, b = (decide (n ≤ 60) && decide (m ≤ 150)) := ⟨_, rfl⟩
  rw [← hb1]
  cases b1 with
  | false =>
    clear hb1
    go_wp2_with fail
    refine (CLV _).mono ?_
    rintro e wl ⟨rfl, hbl⟩
    have hbz := HB3.out
    have HBL := hbz.trans (hbl.mono hbz.size)
    go_wp2
    go_ret
    exact ⟨rfl, HBL⟩
  | true =>
    have hnm : n ≤ 60 ∧ m ≤ 150 := by simpa using hb1.symm
    clear hb1
    by_cases hk : (k : Int) > 12
    · skip
      go_wp2_with fail
      refine (CLV _).mono ?_
      rintro e wl ⟨rfl, hbl⟩
      have hbz := HB3.out
      have HBL := hbz.trans (hbl.mono hbz.size)
      go_wp2
      go_ret
      exact ⟨rfl, HBL⟩
    · have hk12 : k ≤ 12 := by omega
      have HG0 : Hid (GS w3 ((w3.alloc (.cells #[.slice none 0 0, .map none] 35)).alloc (.cells #[.slice none 0 0, .slice none 0 0] 38)) 0 (.slice none 0 0) (.map none) (.slice none 0 0) (.slice none 0 0) [] [] [] [] []) := Lib.hid (by
        have hn2 := RtAt.new w3
        have hn3 := heap_alloc_new (w3.alloc (.cells #[.slice none 0 0, .map none] 35)) (.cells #[.slice none 0 0, .slice none 0 0] 38)
        rw [hs9] at hn3
        exact ⟨hn2.step ((Below.refl _ _).alloc (Nat.le_refl _) _), XAt.nil _ _ _, (fun g e => by cases e), Rel.nil, (fun m hm => by simp at hm), Nat.le_refl _, ((Below.refl _ _).alloc (Nat.le_refl _) _).alloc (by simp) _, hn3⟩)
      clear hs9
      go_wp2_with fail
      go_loopw [9] (fun iv wr => ∃ (i : Nat) (v mp mv ov : Value) (vs vs2 : List Value) (M : List (List Rg)) (O : List Int) (mir : List (Int × Int)), iv = .int .i64 i ∧ i ≤ k ∧ Hid (GS w3 wr i v mp mv ov vs vs2 M O mir)) (fun iv _ => k - (intOf iv).toNat)
      case atStart => exact ⟨0, _, _, _, _, _, _, _, _, _, rfl, by omega, HG0⟩
      case round =>
        clear HG0 hsX
        obtain ⟨i, v, mp, mv, ov, vs, vs2, M, O, mir, rfl, hi, HS⟩ := hrel
        obtain ⟨A8, c8, hm8, _⟩ := own_form HS.out.xt.mrow
        obtain ⟨A9, c9, hm9, _⟩ := own_form HS.out.xt.orow
        subst hm8; subst hm9
        have hw3 := HB3.out.size
        by_cases hlt : i < k
        · have hil : i < l.length := by rw [← HL.out]; exact hlt
          have hM12 : M.length ≤ 12 := by have := HS.out.len; omega
          obtain ⟨b, off, rfl, hb, hc⟩ := HR.out.2 (by omega)
          have hci0 := hc i hlt
          generalize mi l i = xx at hci0
          have hci := (hci0.below HB3.out (Nat.le_refl _) hb).below HS.out.below (by omega) (by omega)
          clear hci0 hc
          obtain ⟨mm, of⟩ := xx
          obtain ⟨Ai, ci, c0, c1, hrow⟩ := hci
          simp only at c0 c1 hrow
          have HREL := Lib.hid HS.out.rel
          have HRGT := Lib.hid HS.out.right
          have HLEN := Lib.hid HS.out.len
          have HRI := Lib.hid hrow
          clear hrow
          have d1 : decide ((i : Int) < (k : Int)) = true := decide_eq_true (by omega)
          have i1 : (0 : Int) ≤ (i : Int) := by omega
          have i2 : (i : Int) < (k : Int) := by omega
          by_cases h20 : (mm.length : Int) > 20
          · skip
            go_wp2_with fail
            refine (CLV _).mono ?_
            rintro e wl ⟨rfl, hbl⟩
            have hbz := HB3.out.trans (HS.out.below.mono hw3)
            have HBL := hbz.trans (hbl.mono hbz.size)
            go_wp2
            go_ret
            exact ⟨rfl, HBL⟩
          · have hlm : mm.length ≤ 20 := by omega
            have hsz := HS.out.below.size
            have CR := rright_any mm Ai mm.length ci wr (by omega) (HRI.out.lift (by omega))
            cases hrb : rightB mm with
            | false =>
              rw [hrb] at CR
              go_wp2_with fail
              refine CR.mono ?_
              rintro e w4 ⟨rfl, hb4⟩
              have HS4 := Lib.hid (HS.out.step hb4).more
              clear CR hb4 HS HRI c0 c1
              go_wp2
              go_roundw
              case measure => simp only [intOf]; omega
              case rel => exact ⟨i + 1, _, _, _, _, _, _, _, _, _, by push_cast; rfl, by omega, HS4⟩
            | true =>
              rw [hrb] at CR
              go_wp2_with fail
              refine CR.mono ?_
              rintro e w4 ⟨rfl, hb4⟩
              have HS4 := Lib.hid (HS.out.step hb4)
              have c04 := below_cell hb4 c0
              have c14 := below_cell hb4 c1
              have HRI4 := Lib.hid (HRI.out.below hb4 (by omega))
              clear CR hb4 HS HRI c0 c1 hsz
              go_upto_region 16 with fail
              obtain ⟨z0, z1, _, _⟩ := two HS4.out.x6
              have HS5 : Hid (GS w3 w4.drew i v mp (.slice A8 M.length c8) (.slice A9 O.length c9) vs vs2 M O mir) := Lib.hid (HS4.out.step (below_drewN (Below.refl _ _) 1))
              have HRI5 : Hid (RLow w.heap.size w4.drew Ai mm.length mm) := HRI4
              refine wp_region_held_drew (S := fun W => W.cell? ⟨b, off + i * 2 + 1, none⟩ = some (.int .i64 of) ∧ W.cell? ⟨w3.heap.size + 1, 0, none⟩ = some (.slice A8 M.length c8) ∧ W.cell? ⟨w3.heap.size + 1, 1, none⟩ = some (.slice A9 O.length c9) ∧ W.cell? ⟨b, off + i * 2, none⟩ = some (.slice Ai mm.length ci)) (by kernel_rfl) ⟨c14, z0, z1, c04⟩ (fun hHeld => ?_)
              clear HS4 HRI4 c04 c14 z0 z1
              generalize w4.drew = W5 at HS5 HRI5 hHeld ⊢
              refine tk 0 (v := ?_) rfl (by kernel_rfl) (fun _ _ _ h => h) ?_ hHeld ?_
              rotate_left
              · (intro W hSw; (try dsimp only at hSw); go_simp; try with_reducible rfl)
              refine tk 1 (v := ?_) rfl (by kernel_rfl) (fun _ _ _ h => h) ?_ hHeld ?_
              rotate_left
              · (intro W hSw; (try dsimp only at hSw); go_simp; try with_reducible rfl)
              refine tk 2 (v := ?_) rfl (by kernel_rfl) (fun _ _ _ h => h) ?_ hHeld ?_
              rotate_left
              · (intro W hSw; (try dsimp only at hSw); go_simp; try with_reducible rfl)
              refine tk 3 (v := ?_) rfl (by kernel_rfl) (fun _ _ _ h => h) ?_ hHeld ?_
              rotate_left
              · (intro W hSw; (try dsimp only at hSw); go_simp; try with_reducible rfl)
              refine tk 4 (v := ?_) rfl (by kernel_rfl) (fun _ _ _ h => h) ?_ hHeld ?_
              rotate_left
              · (intro W hSw; (try dsimp only at hSw); go_simp; try with_reducible rfl)
              refine tk 5 (v := ?_) rfl (by kernel_rfl) (fun _ _ _ h => h) ?_ hHeld ?_
              rotate_left
              · (intro W hSw; (try dsimp only at hSw); go_simp; try with_reducible rfl)
              refine wpAnyH_ready (rs := [6]) (by kernel_rfl) (by simp) ?_
              refine AllReadyH.cons rfl (fun K hK => ?_) AllReadyH.nil
              go_simp
              have CF := free_any _ _ _ _ vs2 M O of W5 (by omega) HREL.out.len HS5.out.xt
              cases hfr : freeB M O of with
              | true =>
                rw [hfr] at CF
                refine CF.mono ?_
                rintro e W6 ⟨rfl, hb6⟩
                have HS6 := Lib.hid (HS5.out.step hb6)
                have HRI6 := Lib.hid (HRI5.out.below hb6 (by have := HS5.out.below.size; omega))
                have hS6 := And.intro (below_cell hb6 hHeld.1) (And.intro (below_cell hb6 hHeld.2.1) (And.intro (below_cell hb6 hHeld.2.2.1) (below_cell hb6 hHeld.2.2.2)))
                clear CF hb6 HS5 HRI5 hHeld
                go_wp2_with fail
                refine hK.out _ _ hS6 (fun hHeld => ?_)
                clear hK K
                refine wpAnyH_done (by kernel_rfl) ?_ _
                obtain ⟨c16, _, _, c06⟩ := hS6
                clear hHeld
                have hfree := (HREL.out.free of).1 hfr
                obtain ⟨kk, rfl⟩ : ∃ kk : Nat, of = kk := ⟨of.toNat, by omega⟩
                go_wp2_with fail
                refine (mirror_any _ _ v mp vs M mir mm (kk : Int) Ai mm.length ci W6 (by omega) (by omega) (fun q hq => (HS6.out.rel.bound q hq).1.2) HS6.out.rt (fun W' hf' => row_low' (HRI6.out.below hf'.below (by omega)) (by have := hf'.size; have := HS6.out.below.size; omega))).mono ?_
                rintro e W7 hM
                have hfr7 := hM.2
                have c07 : W7.cell? ⟨b, off + i * 2, none⟩ = some (.slice Ai mm.length ci) := by
                  have := hfr7.low b (by omega)
                  simp only [World.cell?, this] at c06 ⊢; exact c06
                obtain ⟨rfl, v7, mp7, vs7, h7⟩ : e = .returned (.int .i64 0) ∧ ∃ v' mp' vs', RtAt w3.heap.size W7 w3.heap.size v' mp' vs' (M ++ [mm]) (mir ++ [((kk : Int), (M.length : Int))] ++ [((M.length : Int), (kk : Int))]) := by
                  rcases hM.1 with ⟨_, _, e1, v6, mp6, vs6, h6⟩ | ⟨_, hno, _⟩ | ⟨hr, _⟩
                  · exact ⟨e1, _, _, _, h6⟩
                  · exact absurd ⟨hfree.1, hfree.2.1, hfree.2.2⟩ hno
                  · rw [hrb] at hr; cases hr
                have HT7 := Lib.hid (HS6.out.turn hfr7 h7)
                have HRI7 := Lib.hid (HRI6.out.below hfr7.below (by omega))
                have HNEW := Lib.hid (HREL.out.mirror (m := mm) (by have := hfree.2.2; omega) hfree.1)
                have hofl : (kk : Int) < M.length := hfree.2.2
                clear hM hfr7 h7 HS6 HRI6 c06 c16 hfree
                go_upto_region 22 with fail
                have HT8 := Lib.hid (HT7.out.step (W' := W7.drew) (below_drewN (Below.refl _ _) 1))
                have HRI8 : Hid (RLow w.heap.size W7.drew Ai mm.length mm) := HRI7
                refine wp_region_held_drew (S := fun W => W.cell? ⟨b, off + i * 2, none⟩ = some (.slice Ai mm.length ci)) (by kernel_rfl) c07 (fun hHeld => ?_)
                clear HT7 HRI7 c07
                generalize W7.drew = W8 at HT8 HRI8 hHeld ⊢
                refine tk 1 (v := ?_) rfl (by kernel_rfl) (fun _ _ _ h => h) ?_ hHeld ?_
                rotate_left
                · (intro W hSw; (try dsimp only at hSw); go_simp; try with_reducible rfl)
                refine tk 2 (v := ?_) rfl (by kernel_rfl) (fun _ _ _ h => h) ?_ hHeld ?_
                rotate_left
                · (intro W hSw; (try dsimp only at hSw); go_simp; try with_reducible rfl)
                refine tk 3 (v := ?_) rfl (by kernel_rfl) (fun _ _ _ h => h) ?_ hHeld ?_
                rotate_left
                · (intro W hSw; (try dsimp only at hSw); go_simp; try with_reducible rfl)
                refine tk 4 (v := ?_) rfl (by kernel_rfl) (fun _ _ _ h => h) ?_ hHeld ?_
                rotate_left
                · (intro W hSw; (try dsimp only at hSw); go_simp; try with_reducible rfl)
                refine tk 5 (v := ?_) rfl (by kernel_rfl) (fun _ _ _ h => h) ?_ hHeld ?_
                rotate_left
                · (intro W hSw; (try dsimp only at hSw); go_simp; try with_reducible rfl)
                refine tk 6 (v := ?_) rfl (by kernel_rfl) (fun _ _ _ h => h) ?_ hHeld ?_
                rotate_left
                · (intro W hSw; (try dsimp only at hSw); go_simp; try with_reducible rfl)
                obtain ⟨z0, z1, _, _⟩ := two HT8.out.x6
                refine wpAnyH_ready (rs := [0]) (by kernel_rfl) (by simp) ?_
                refine AllReadyH.cons rfl (fun K hK => ?_) AllReadyH.nil
                go_simp
                refine hK.out _ _ hHeld (fun hHeld => ?_)
                clear hK K z0 z1
                refine wpAnyH_ready (rs := [7]) (by kernel_rfl) (by simp) ?_
                refine AllReadyH.cons rfl (fun K hK => ?_) AllReadyH.nil
                go_simp
                refine (radd_any w3.heap.size _ _ _ vs2 M O mm Ai mm.length ci (kk : Int) W8 (by omega) (by omega) HREL.out.len (fun _ => hofl) HT8.out.xt (by have := HT8.out.below.size; omega) (HRI8.out.lift (by omega))).mono ?_
                rintro e W9 ⟨hb9, hA⟩
                have hS9 := below_cell hb9 hHeld
                have HT9 := Lib.hid (HT8.out.step hb9)
                have hyg : ∀ g, rowOf W9 w3.heap.size = some g → g < W8.heap.size := fun g e => row_young' HT8.out.rt g (by rw [← rowOf_same (hb9.block _ (lt_some HT8.out.rt.h0))]; exact e)
                have hsz8 := HT8.out.below.size
                rcases hA with ⟨_, mv6, ov6, vs6, rfl, hx⟩ | ⟨hr, _⟩
                case inr => rw [hrb] at hr; cases hr
                have hyo : ∀ g, blkOf mv6 = some g → rowOf W9 w3.heap.size ≠ some g := fun g e e' => by
                  have := hyg g e'
                  have := (own_young hx.mrow g e).2
                  omega
                have HZ := Lib.hid (HT9.out.store hx (by omega) hyo HNEW.out (fun m' hm' => by
                  rcases List.mem_append.1 hm' with h | h
                  · exact HRGT.out m' h
                  · rw [List.mem_singleton.1 h]; exact ⟨hlm, hrb⟩) (by rw [List.length_append]; simp only [List.length_cons, List.length_nil]; have := HLEN.out; omega))
                obtain ⟨A6, c6, hm6, _⟩ := own_form hx.mrow
                obtain ⟨A7, c7, hm7, _⟩ := own_form hx.orow
                rw [show (M ++ [mm]).length = M.length + 1 by simp] at hm6
                subst hm6; subst hm7
                obtain ⟨z0, z1, z2, z3⟩ := two HT9.out.x6
                have hS10 := hS9
                have hbl : ¬ w3.heap.size + 1 = b := by omega
                have hbl2 : ¬ b = w3.heap.size + 1 := by omega
                clear hyg hsz8 HT8 HRI8 hHeld hyo hx
                go_wp2_with fail
                refine hK.out _ _ hS9 (fun hHeld => ?_)
                clear hK K hS9
                refine tk 8 (v := ?_) rfl (by kernel_rfl) (fun _ _ _ h => h) ?_ hHeld ?_
                rotate_left
                · (intro W hSw; (try dsimp only at hSw); go_simp; try with_reducible rfl)
                refine tk 9 (v := ?_) rfl (by kernel_rfl) (fun _ _ _ h => h) ?_ hHeld ?_
                rotate_left
                · (intro W hSw; (try dsimp only at hSw); go_simp; try with_reducible rfl)
                refine tk 10 (v := ?_) rfl (by kernel_rfl) (fun _ _ _ h => h) ?_ hHeld ?_
                rotate_left
                · (intro W hSw; (try dsimp only at hSw); go_simp; try with_reducible rfl)
                refine wpAnyH_ready (rs := [11]) (by kernel_rfl) (by simp) ?_
                refine AllReadyH.cons rfl (fun K hK => ?_) AllReadyH.nil
                go_simp
                have hS7 : ((W9.setCell ⟨w3.heap.size + 1, 0, none⟩ (.slice A6 (M.length + 1) c6)).setCell ⟨w3.heap.size + 1, 1, none⟩ (.slice A7 (addO O (kk : Int) M.length).length c7)).cell? ⟨b, off + i * 2, none⟩ = some (.slice Ai mm.length ci) := by
                  have := put2_else W9 (w3.heap.size + 1) b (.slice A6 (M.length + 1) c6) (.slice A7 (addO O (kk : Int) M.length).length c7) hbl2
                  simp only [World.cell?, this] at hS10 ⊢; exact hS10
                refine hK.out _ _ hS7 (fun hHeld => ?_)
                clear hK K z0 z1 z2 z3 hbl hbl2 hHeld hS7 hS10 HT9
                refine wpAnyH_done (by kernel_rfl) ?_ _
                go_wp2_with fail
                go_roundw
                case measure => simp only [intOf]; omega
                case rel => exact ⟨i + 1, _, _, _, _, _, _, _, _, _, by push_cast; rfl, by omega, HZ⟩
              | false =>
                rw [hfr] at CF
                refine CF.mono ?_
                rintro e W6 ⟨rfl, hb6⟩
                have HS6 := Lib.hid (HS5.out.step hb6)
                have HRI6 := Lib.hid (HRI5.out.below hb6 (by have := HS5.out.below.size; omega))
                have hS6 := And.intro (below_cell hb6 hHeld.1) (And.intro (below_cell hb6 hHeld.2.1) (And.intro (below_cell hb6 hHeld.2.2.1) (below_cell hb6 hHeld.2.2.2)))
                clear CF hb6 HS5 HRI5 hHeld
                go_wp2_with fail
                refine hK.out _ _ hS6 (fun hHeld => ?_)
                clear hK K
                refine wpAnyH_done (by kernel_rfl) ?_ _
                obtain ⟨c16, _, _, c06⟩ := hS6
                clear hHeld
                go_wp2_with fail
                refine (add_any _ _ v mp vs M mir mm Ai mm.length ci W6 (by omega) (by omega) HS6.out.rt (row_low' HRI6.out (by have := HS6.out.below.size; omega))).mono ?_
                rintro e W7 hM
                have hfr7 := hM.2
                have c07 : W7.cell? ⟨b, off + i * 2, none⟩ = some (.slice Ai mm.length ci) := by
                  have := hfr7.low b (by omega)
                  simp only [World.cell?, this] at c06 ⊢; exact c06
                obtain ⟨rfl, v7, vs7, h7⟩ : e = .returned (.int .i64 0) ∧ ∃ v' vs', RtAt w3.heap.size W7 w3.heap.size v' mp vs' (M ++ [mm]) mir := by
                  rcases hM.1 with ⟨_, e1, v6, vs6, h6⟩ | ⟨hr, _⟩
                  · exact ⟨e1, _, _, h6⟩
                  · rw [hrb] at hr; cases hr
                have HT7 := Lib.hid (HS6.out.turn hfr7 h7)
                have HRI7 := Lib.hid (HRI6.out.below hfr7.below (by omega))
                have HNEW := Lib.hid (HREL.out.add (m := mm))
                clear hM hfr7 h7 HS6 HRI6 c06 c16
                go_upto_region 22 with fail
                have HT8 := Lib.hid (HT7.out.step (W' := W7.drew) (below_drewN (Below.refl _ _) 1))
                have HRI8 : Hid (RLow w.heap.size W7.drew Ai mm.length mm) := HRI7
                refine wp_region_held_drew (S := fun W => W.cell? ⟨b, off + i * 2, none⟩ = some (.slice Ai mm.length ci)) (by kernel_rfl) c07 (fun hHeld => ?_)
                clear HT7 HRI7 c07
                generalize W7.drew = W8 at HT8 HRI8 hHeld ⊢
                refine tk 1 (v := ?_) rfl (by kernel_rfl) (fun _ _ _ h => h) ?_ hHeld ?_
                rotate_left
                · (intro W hSw; (try dsimp only at hSw); go_simp; try with_reducible rfl)
                refine tk 2 (v := ?_) rfl (by kernel_rfl) (fun _ _ _ h => h) ?_ hHeld ?_
                rotate_left
                · (intro W hSw; (try dsimp only at hSw); go_simp; try with_reducible rfl)
                refine tk 3 (v := ?_) rfl (by kernel_rfl) (fun _ _ _ h => h) ?_ hHeld ?_
                rotate_left
                · (intro W hSw; (try dsimp only at hSw); go_simp; try with_reducible rfl)
                refine tk 4 (v := ?_) rfl (by kernel_rfl) (fun _ _ _ h => h) ?_ hHeld ?_
                rotate_left
                · (intro W hSw; (try dsimp only at hSw); go_simp; try with_reducible rfl)
                refine tk 5 (v := ?_) rfl (by kernel_rfl) (fun _ _ _ h => h) ?_ hHeld ?_
                rotate_left
                · (intro W hSw; (try dsimp only at hSw); go_simp; try with_reducible rfl)
                refine tk 6 (v := ?_) rfl (by kernel_rfl) (fun _ _ _ h => h) ?_ hHeld ?_
                rotate_left
                · (intro W hSw; (try dsimp only at hSw); go_simp; try with_reducible rfl)
                obtain ⟨z0, z1, _, _⟩ := two HT8.out.x6
                refine wpAnyH_ready (rs := [0]) (by kernel_rfl) (by simp) ?_
                refine AllReadyH.cons rfl (fun K hK => ?_) AllReadyH.nil
                go_simp
                refine hK.out _ _ hHeld (fun hHeld => ?_)
                clear hK K z0 z1
                refine wpAnyH_ready (rs := [7]) (by kernel_rfl) (by simp) ?_
                refine AllReadyH.cons rfl (fun K hK => ?_) AllReadyH.nil
                go_simp
                refine (radd_any w3.heap.size _ _ _ vs2 M O mm Ai mm.length ci (-1) W8 (by omega) (by omega) HREL.out.len (fun _ => by omega) HT8.out.xt (by have := HT8.out.below.size; omega) (HRI8.out.lift (by omega))).mono ?_
                rintro e W9 ⟨hb9, hA⟩
                have hS9 := below_cell hb9 hHeld
                have HT9 := Lib.hid (HT8.out.step hb9)
                have hyg : ∀ g, rowOf W9 w3.heap.size = some g → g < W8.heap.size := fun g e => row_young' HT8.out.rt g (by rw [← rowOf_same (hb9.block _ (lt_some HT8.out.rt.h0))]; exact e)
                have hsz8 := HT8.out.below.size
                rcases hA with ⟨_, mv6, ov6, vs6, rfl, hx⟩ | ⟨hr, _⟩
                case inr => rw [hrb] at hr; cases hr
                have hyo : ∀ g, blkOf mv6 = some g → rowOf W9 w3.heap.size ≠ some g := fun g e e' => by
                  have := hyg g e'
                  have := (own_young hx.mrow g e).2
                  omega
                have HZ := Lib.hid (HT9.out.store hx (by omega) hyo HNEW.out (fun m' hm' => by
                  rcases List.mem_append.1 hm' with h | h
                  · exact HRGT.out m' h
                  · rw [List.mem_singleton.1 h]; exact ⟨hlm, hrb⟩) (by rw [List.length_append]; simp only [List.length_cons, List.length_nil]; have := HLEN.out; omega))
                obtain ⟨A6, c6, hm6, _⟩ := own_form hx.mrow
                obtain ⟨A7, c7, hm7, _⟩ := own_form hx.orow
                rw [show (M ++ [mm]).length = M.length + 1 by simp] at hm6
                subst hm6; subst hm7
                obtain ⟨z0, z1, z2, z3⟩ := two HT9.out.x6
                have hS10 := hS9
                have hbl : ¬ w3.heap.size + 1 = b := by omega
                have hbl2 : ¬ b = w3.heap.size + 1 := by omega
                clear hyg hsz8 HT8 HRI8 hHeld hyo hx
                go_wp2_with fail
                refine hK.out _ _ hS9 (fun hHeld => ?_)
                clear hK K hS9
                refine tk 8 (v := ?_) rfl (by kernel_rfl) (fun _ _ _ h => h) ?_ hHeld ?_
                rotate_left
                · (intro W hSw; (try dsimp only at hSw); go_simp; try with_reducible rfl)
                refine tk 9 (v := ?_) rfl (by kernel_rfl) (fun _ _ _ h => h) ?_ hHeld ?_
                rotate_left
                · (intro W hSw; (try dsimp only at hSw); go_simp; try with_reducible rfl)
                refine tk 10 (v := ?_) rfl (by kernel_rfl) (fun _ _ _ h => h) ?_ hHeld ?_
                rotate_left
                · (intro W hSw; (try dsimp only at hSw); go_simp; try with_reducible rfl)
                refine wpAnyH_ready (rs := [11]) (by kernel_rfl) (by simp) ?_
                refine AllReadyH.cons rfl (fun K hK => ?_) AllReadyH.nil
                go_simp
                have hS7 : ((W9.setCell ⟨w3.heap.size + 1, 0, none⟩ (.slice A6 (M.length + 1) c6)).setCell ⟨w3.heap.size + 1, 1, none⟩ (.slice A7 (addO O (-1) M.length).length c7)).cell? ⟨b, off + i * 2, none⟩ = some (.slice Ai mm.length ci) := by
                  have := put2_else W9 (w3.heap.size + 1) b (.slice A6 (M.length + 1) c6) (.slice A7 (addO O (-1) M.length).length c7) hbl2
                  simp only [World.cell?, this] at hS10 ⊢; exact hS10
                refine hK.out _ _ hS7 (fun hHeld => ?_)
                clear hK K z0 z1 z2 z3 hbl hbl2 hHeld hS7 hS10 HT9
                refine wpAnyH_done (by kernel_rfl) ?_ _
                go_wp2_with fail
                go_roundw
                case measure => simp only [intOf]; omega
                case rel => exact ⟨i + 1, _, _, _, _, _, _, _, _, _, by push_cast; rfl, by omega, HZ⟩
        · have hik : i = k := by omega
          subst hik
          have d1 : decide ((i : Int) < (i : Int)) = false := decide_eq_false (by omega)
          have hnl : ¬ (i : Int) < (i : Int) := by omega
          have HBW := Lib.hid (HB3.out.trans (HS.out.below.mono hw3))
          have HXW : Hid (wr.heap[w.heap.size]? = _) := Lib.hid (hkeep (HS.out.below.mono (Nat.le_refl _)) HX3.out)
          have CT := fun W q0 q1 q2 => through_res (go_rt HS.out hk12) x L S A B n m c d W q0 (by omega) (by omega) q1 q2
          have CRT := fun W q0 => rthrough_any (go_xt HS.out hk12) x A B n m c d W q0 (by omega) (by omega)
          have CBY := fun W q0 q1 q2 => by_any (go_rt HS.out hk12) x L S A B n m c d W q0 (by omega) (by omega) q1 q2
          unfold RThIs at CRT
          unfold ByIs at CBY
          obtain ⟨OB, hOB⟩ : ∃ b, b = shiftB (goT M mir) x n m := ⟨_, rfl⟩
          obtain ⟨OY, hOY⟩ : ∃ b, b = goneN (goT M mir) x := ⟨_, rfl⟩
          simp only [← hOB, ← hOY] at CT CRT CBY
          clear hOB hOY
          have hL := h1.1
          have hSl := h3.1
          have ho1 : (pickL OB L).length ≤ L.length := pickL_len' (Nat.le_refl _)
          have ho2 : (pickL OB S).length ≤ S.length := pickL_len' (Nat.le_refl _)
          obtain ⟨⟨y0, y1, y2, y3, y4⟩, y5, y6, y7, y8, y9⟩ := tenc HXW.out
          go_wp2_with fail
          refine (CT _ HS.out.rt (h1.below HBW.out) (h3.below HBW.out)).mono ?_
          rintro e wa ⟨⟨As, cs, At, ct, rfl, ra, rb⟩, hba⟩
          have HSa := Lib.hid (HS.out.step hba)
          have HBa := Lib.hid (HBW.out.trans (hba.mono HBW.out.size))
          have HXa := Lib.hid (hkeep hba HXW.out)
          clear hba HS HBW HXW CT
          clear y0 y1 y2 y3 y4 y5 y6 y7 y8 y9
          unfold stV stC
          go_upto_region 24 with fail
          have hbn : Below wa.heap.size wa (wa.alloc (.cells (stC (pickY OB OY) (.slice As (pickL OB L).length cs) (.slice At (pickL OB S).length ct)) 25)) := (Below.refl _ _).alloc (Nat.le_refl _) _
          have Ra := Lib.hid (RC.new (Y := pickY OB OY) (cs := cs) (ct := ct) ra rb)
          have HSb := Lib.hid (HSa.out.step hbn)
          have HBb := Lib.hid (HBa.out.trans (hbn.mono HBa.out.size))
          have HXb := Lib.hid (hkeep hbn HXa.out)
          clear hbn ra rb HSa HBa HXa
          unfold stC at Ra HSb HBb HXb
          generalize wa.alloc _ = Wb at HSb HBb HXb Ra ⊢
          generalize wa.heap.size = P12 at *
          obtain ⟨z0, z1, _, _⟩ := two HSb.out.x6
          obtain ⟨⟨y0, y1, y2, y3, y4⟩, y5, y6, y7, y8, y9⟩ := tenc HXb.out
          go_wp2_with fail
          refine (CRT _ ⟨HSb.out.xt, HSb.out.below.size⟩).mono ?_
          rintro e wc' ⟨he, hbc⟩
          have HSc := Lib.hid (HSb.out.step hbc)
          have HBc := Lib.hid (HBb.out.trans (hbc.mono HBb.out.size))
          have HXc := Lib.hid (hkeep hbc HXb.out)
          have Rac := Lib.hid (Ra.out.step hbc)
          obtain ⟨Ar, cr, Br, dr, rfl, ra, rb⟩ := res_ref (h1.below HBc.out) (h3.below HBc.out) he
          clear he hbc HSb HBb HXb Ra CRT z0 z1
          clear y0 y1 y2 y3 y4 y5 y6 y7 y8 y9
          unfold stV stC
          go_upto_region 25 with fail
          have hbn : Below wc'.heap.size wc' (wc'.alloc (.cells (stC (pickY OB OY) (.slice Ar (pickL OB L).length cr) (.slice Br (pickL OB S).length dr)) 25)) := (Below.refl _ _).alloc (Nat.le_refl _) _
          have Rc := Lib.hid (RC.new (Y := pickY OB OY) (cs := cr) (ct := dr) ra rb)
          have HSd := Lib.hid (HSc.out.step hbn)
          have HBd := Lib.hid (HBc.out.trans (hbn.mono HBc.out.size))
          have HXd := Lib.hid (hkeep hbn HXc.out)
          have Rad := Lib.hid (Rac.out.step hbn)
          clear hbn ra rb HSc HBc HXc Rac
          unfold stC at Rc HSd HBd HXd Rad
          generalize wc'.alloc _ = Wd at HSd HBd HXd Rc Rad ⊢
          generalize wc'.heap.size = P14 at *
          have hmf : ∀ (fn : Fn) (first cap : Array Value) (w : World), (Instr.makeFunc fn first cap).run Try.prog w = .ok (.func fn first cap) w := fun _ _ _ _ => rfl
          obtain ⟨⟨y0, y1, y2, y3, y4⟩, y5, y6, y7, y8, y9⟩ := tenc HXd.out
          go_wp2_with fail
          refine (CBY _ HSd.out.rt (h1.below HBd.out) (h3.below HBd.out)).mono ?_
          rintro e we ⟨he, hbe⟩
          have HBe := Lib.hid (HBd.out.trans (hbe.mono HBd.out.size))
          have HXe := Lib.hid (hkeep hbe HXd.out)
          have Rae := Lib.hid (Rad.out.step hbe)
          have Rce := Lib.hid (Rc.out.step hbe)
          obtain ⟨Ag, cg, Bg, dg, rfl, ra, rb⟩ := res_of he
          clear he hbe HSd HBd HXd Rad Rc CBY hmf
          clear y0 y1 y2 y3 y4 y5 y6 y7 y8 y9
          unfold stV stC
          go_upto_region 26 with fail
          have hbn : Below we.heap.size we (we.alloc (.cells (stC (pickY OB OY) (.slice Ag (pickL OB L).length cg) (.slice Bg (pickL OB S).length dg)) 25)) := (Below.refl _ _).alloc (Nat.le_refl _) _
          have Re := Lib.hid (RC.new (Y := pickY OB OY) (cs := cg) (ct := dg) ra rb)
          have HBf := Lib.hid (HBe.out.trans (hbn.mono HBe.out.size))
          have HXf := Lib.hid (hkeep hbn HXe.out)
          have Raf := Lib.hid (Rae.out.step hbn)
          have Rcf := Lib.hid (Rce.out.step hbn)
          clear hbn ra rb HBe HXe Rae Rce
          unfold stC at Re HBf HXf Raf Rcf
          generalize we.alloc _ = Wf at HBf HXf Re Raf Rcf ⊢
          generalize we.heap.size = P16 at *
          obtain ⟨⟨y0, y1, y2, y3, y4⟩, y5, y6, y7, y8, y9⟩ := tenc HXf.out
          go_wp2_with fail
          refine (CBN _).mono ?_
          rintro e wg ⟨rfl, hbg⟩
          have HBg := Lib.hid (HBf.out.trans (hbg.mono HBf.out.size))
          have Rag := Lib.hid (Raf.out.step hbg)
          have Rcg := Lib.hid (Rcf.out.step hbg)
          have Reg := Lib.hid (Re.out.step hbg)
          clear hbg HBf HXf Raf Rcf Re CBN
          clear y0 y1 y2 y3 y4 y5 y6 y7 y8 y9
          go_upto_region 27 with fail
          have hbn : Below wg.heap.size wg (wg.alloc (.cells #[.int .i64 0, .int .i64 0, .int .i64 0, .int .i64 0, .int .i64 0, .int .i64 0, .int .i64 0, .int .i64 0, .slice none 0 0, .slice none 0 0] 25)) := (Below.refl _ _).alloc (Nat.le_refl _) _
          have HBh := Lib.hid (HBg.out.trans (hbn.mono HBg.out.size))
          have Rah := Lib.hid (Rag.out.step hbn)
          have Rch := Lib.hid (Rcg.out.step hbn)
          have Reh := Lib.hid (Reg.out.step hbn)
          clear hbn HBg Rag Rcg Reg
          generalize wg.alloc (.cells #[.int .i64 0, .int .i64 0, .int .i64 0, .int .i64 0, .int .i64 0, .int .i64 0, .int .i64 0, .int .i64 0, .slice none 0 0, .slice none 0 0] 25) = Wh at HBh Rah Rch Reh ⊢
          generalize wg.heap.size = P18 at *
          generalize pickY OB OY = YY at *
          generalize pickL OB L = LL at *
          generalize pickL OB S = SS at *
          obtain ⟨⟨y0, y1, y2, y3, y4⟩, y5, y6, y7, y8, y9⟩ := tenc Rah.out.h
          obtain ⟨⟨o0, o1, o2, o3, o4⟩, o5, o6, o7, o8, o9⟩ := tenc Rch.out.h
          obtain ⟨⟨s0, s1, s2, s3, s4⟩, s5, s6, s7, s8, s9⟩ := tenc Reh.out.h
          go_wp2_with fail
          refine (CSA YY LL SS As Ar At Br cs cr ct dr _ (by omega) (by omega) Rah.out.l Rch.out.l Rah.out.s Rch.out.s).mono ?_
          rintro e wi ⟨rfl, hbi⟩
          have HBi := Lib.hid (HBh.out.trans (hbi.mono HBh.out.size))
          have Rci := Lib.hid (Rch.out.step hbi)
          have Rei := Lib.hid (Reh.out.step hbi)
          clear hbi HBh Rah Rch Reh
          clear y0 y1 y2 y3 y4 y5 y6 y7 y8 y9
          clear o0 o1 o2 o3 o4 o5 o6 o7 o8 o9
          clear s0 s1 s2 s3 s4 s5 s6 s7 s8 s9
          obtain ⟨⟨y0, y1, y2, y3, y4⟩, y5, y6, y7, y8, y9⟩ := tenc Rei.out.h
          obtain ⟨⟨o0, o1, o2, o3, o4⟩, o5, o6, o7, o8, o9⟩ := tenc Rci.out.h
          go_wp2_with fail
          refine (CSA YY LL SS Ag Ar Bg Br cg cr dg dr _ (by omega) (by omega) Rei.out.l Rci.out.l Rei.out.s Rci.out.s).mono ?_
          rintro e wj ⟨rfl, hbj⟩
          have HBj := Lib.hid (HBi.out.trans (hbj.mono HBi.out.size))
          clear hbj HBi Rci Rei CSA
          clear y0 y1 y2 y3 y4 y5 y6 y7 y8 y9
          clear o0 o1 o2 o3 o4 o5 o6 o7 o8 o9
          go_wp2_with fail
          refine (CLV _).mono ?_
          rintro e wl ⟨rfl, hbl⟩
          have hbz := HBj.out
          have HBL := hbz.trans (hbl.mono hbz.size)
          go_wp2
          go_ret
          exact ⟨rfl, HBL⟩
theorem sthrough_door (x : Sp) (L : List Tk.Tk) (S : List Mk) (A B : Option Addr) (n m c d : Nat) (D : Option Addr) (k cd : Nat) (l : List Mi) (w : World)
    (h1 : TRow w A n L) (h3 : MkRow w B m S) (hn : n ≤ maxLen) (hm : m ≤ maxLen) (hr : MLow w.heap.size w D k l) (_ : k ≤ maxLen) :
    Calls Try.prog 3 #[stV x (.slice A n c) (.slice B m d), .slice D k cd] w fun e w' => e = .returned (.bool true) ∧ Below w.heap.size w w' :=
  sthrough_walk x L S A B n m c d D k cd l w h1 h3 hr (by unfold maxLen at hn; omega) (by unfold maxLen at hm; omega)
end Go.Proofs.Ytmhngehpddfccaa.St
