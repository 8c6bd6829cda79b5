/- What waits, taken out one by one; the walk of the reference's Sorted. -/
import Derived.Test.YtlnljgfppipceabQuL
namespace Go.Proofs.Ytlnljgfppipceab.Qu
open Go.RowKit Mem
set_option linter.unusedVariables false

open Classical in
noncomputable def firstIx (g : List It) : Nat := if h : ∃ i, IsFirst g i then Classical.choose h else 0
noncomputable def left (g : List It) : Nat → List It
  | 0 => g
  | k + 1 => (left g k).eraseIdx (firstIx (left g k))
noncomputable def nth (g : List It) (k : Nat) : It := at_ (left g k) (firstIx (left g k))
noncomputable def outs (g : List It) (k : Nat) : List It := (List.range k).map (nth g)
theorem firstIx_is {g : List It} (h : g ≠ []) : IsFirst g (firstIx g) := by
  have he := exists_first h
  unfold firstIx
  rw [dif_pos he]
  exact Classical.choose_spec he
theorem left_length (g : List It) : ∀ k, k ≤ g.length → (left g k).length = g.length - k
  | 0, _ => rfl
  | k + 1, h => by
    have ih := left_length g k (by omega)
    have hp : left g k ≠ [] := by intro e; rw [e] at ih; simp at ih; omega
    show ((left g k).eraseIdx _).length = _
    rw [List.length_eraseIdx, if_pos (firstIx_is hp).1, ih]; omega
theorem left_first (g : List It) (k : Nat) (h : k < g.length) : IsFirst (left g k) (firstIx (left g k)) := by
  have ih := left_length g k (by omega)
  exact firstIx_is (by intro e; rw [e] at ih; simp at ih; omega)
theorem outs_succ (g : List It) (k : Nat) : outs g (k + 1) = outs g k ++ [nth g k] := by unfold outs; rw [List.range_succ, List.map_append]; rfl
theorem outs_length (g : List It) (k : Nat) : (outs g k).length = k := by simp [outs]
theorem left_nil (g : List It) (k : Nat) (h : k = g.length) : left g k = [] := by
  have := left_length g k (by omega)
  exact List.length_eq_zero_iff.1 (by omega)
def lenV : Value → Nat
  | .slice _ n _ => n
  | _ => 0
theorem POwn.grown {b1 : Nat} {W W' : World} {v u : Value} {g : List It} (l : POwn b1 W v g) (hg : W.grownBy W' u.ownBlock) (hne : v.ownBlock = none ∨ v.ownBlock ≠ u.ownBlock) : POwn b1 W' v g :=
  World.ownsRow.kept l hg hne

set_option maxRecDepth 100000 in
set_option maxHeartbeats 4000000 in
theorem rsorted_any {base : Nat} (v : Value) (g : List It) (w : World) (hl : POwn base w v g) (hn : g.length ≤ 300) (hpos : 0 < g.length) :
    Calls Try.prog 12 #[v] w fun e w' => ∃ v', e = .returned v' ∧ POwn w.heap.size w' v' (outs g g.length) ∧ Below w.heap.size w w' := by
  obtain ⟨b, cap, rfl, _, hb, hnc, hcm, hc⟩ := hl.opn hpos
  obtain ⟨n, hnn⟩ : ∃ n, n = g.length := ⟨_, rfl⟩
  rw [← hnn] at hn hc hnc hpos ⊢
  have HG := Lib.hid hnn.symm
  have ho1 : POwn w.heap.size (w.alloc (.cells #[] 37)) (.slice (some ⟨w.heap.size, 0, none⟩) 0 0) [] := World.ownsRow_made w #[] 0 (Nat.le_refl _) (by unfold maxLen; omega) rfl
  have HO1 := Lib.hid ho1
  have hb1 : Below w.heap.size w (w.alloc (.cells #[] 37)) := (Below.refl _ w).alloc (Nat.le_refl _) _
  have HB1 := Lib.hid hb1
  have hn1 := news_part (W := w.alloc (.cells #[] 37)) (b := b) hnn.symm (fun k hk => ⟨(hb1.cell (p := ⟨b, k * 2, none⟩) hb).trans (hc k hk).1, (hb1.cell (p := ⟨b, k * 2 + 1, none⟩) hb).trans (hc k hk).2⟩) 0 n (by omega)
  simp only [Nat.zero_mul, List.drop_zero] at hn1
  rw [List.take_of_length_le (by omega)] at hn1
  have HN1 := Lib.hid hn1
  clear hl hc hnn ho1 hb1 hn1
  go_enter Try.func12, Try.ntmps12
  go_wp2_with (at_builtin; (refine wpList_app2 rfl (.tmp 6) (.tmp 7) rfl w.heap.size _ [] rfl HO1.out ⟨b, 0, none⟩ n cap g rfl HG.out HN1.out (by simp; omega) (by simp) ?_); intro v1 w1 ho2 hg2 hat2; rw [List.nil_append] at ho2; have HO2 := Lib.hid ho2; have HB2 := Lib.hid (HB1.out.grown hg2 (by simp) (fun k hk => (World.ownsRow.lt HO1.out k hk).1)); clear ho2 hg2 hat2)
  go_loopw [3, 4] (fun vo vl wr => ∃ k : Nat, k ≤ n ∧ Hid (POwn w.heap.size wr vl (left g k)) ∧ Hid (POwn w.heap.size wr vo (outs g k)) ∧ Hid (vo.ownBlock = none ∨ vo.ownBlock ≠ vl.ownBlock) ∧ Hid (Below w.heap.size w wr)) (fun _ vl _ => lenV vl)
  case atStart => exact ⟨0, Nat.zero_le _, HO2, POwn.nil, .inl rfl, HB2⟩
  case round =>
    obtain ⟨k, hk, hX, hO, hNE, hB⟩ := hrel
    by_cases hlt : k < n
    · have hml := left_length g k (by rw [HG.out]; omega)
      rw [HG.out] at hml
      have hi := left_first g k (by rw [HG.out]; exact hlt)
      have hL1 : left g (k + 1) = (left g k).eraseIdx (firstIx (left g k)) := rfl
      have hO1 := outs_succ g k
      have hN1 : nth g k = at_ (left g k) (firstIx (left g k)) := rfl
      have hol := outs_length g k
      have HL2 := Lib.hid (left_length g (k + 1) (by rw [HG.out]; omega))
      obtain ⟨L, hL⟩ : ∃ L, L = left g k := ⟨_, rfl⟩
      obtain ⟨i, hii⟩ : ∃ i, i = firstIx (left g k) := ⟨_, rfl⟩
      rw [← hii] at hi hL1 hN1
      rw [← hL] at hX hi hL1 hN1 hml
      obtain ⟨a, ha⟩ : ∃ a, a = at_ L i := ⟨_, rfl⟩
      rw [← ha] at hN1
      rw [hN1] at hO1
      obtain ⟨bl, capl, rfl, _, _, _, _, _⟩ := hX.out.opn (by omega)
      have HI := Lib.hid hi
      have HA := Lib.hid ha
      have HL1 := Lib.hid hL1
      have HO1' := Lib.hid hO1
      have HOL := Lib.hid hol
      have HML := Lib.hid hml
      have hil := hi.1
      rw [hml] at hil hX ⊢
      obtain ⟨M, hM⟩ : ∃ M, M = n - k := ⟨_, rfl⟩
      rw [← hM] at hil hX HML ⊢
      have hMp : 0 < M := by omega
      have HMM := Lib.hid hM
      clear hi hL hii ha hN1 hL1 hO1 hol hml hM
      have q0 : (0 : Int) < (M : Int) := by omega
      have q1 : (0 : Int) ≤ (i : Int) := by omega
      have q2 : (i : Int) < (M : Int) := by omega
      go_wp2_with fail
      refine (first_any _ L _ hX.out (by rw [HML.out]; have := HMM.out; omega)).mono ?_
      rintro e w3 ⟨⟨at', rfl, hs⟩, m3, rfl⟩
      obtain rfl := sofar_first HI.out hs
      obtain ⟨w4, hw4⟩ : ∃ x, x = wr.drewN m3 := ⟨_, rfl⟩
      rw [← hw4]
      have hx4 : POwn w.heap.size w4 (.slice (some ⟨bl, 0, none⟩) M capl) L := by rw [hw4]; exact hX.out.below (Mem.below_drewN (Below.refl _ _) m3)
      have ho4 := hO.out.below (Mem.below_drewN (Below.refl _ wr) m3)
      rw [← hw4] at ho4
      have hb4 : Below w.heap.size w w4 := by rw [hw4]; exact hB.out.trans (Mem.below_drewN (Below.refl _ _) m3)
      obtain ⟨hbx4, hcx⟩ := hx4.cells
      obtain ⟨x0, x1⟩ := hcx i HI.out.1
      rw [← HA.out] at x0 x1
      have hal := (Below.refl w4.heap.size w4).alloc (Nat.le_refl _) (.cells #[.int .i64 a.key, .int .i64 a.thing] 37)
      have HX5 := Lib.hid (hx4.below hal)
      have HO5 := Lib.hid (ho4.below hal)
      have HB5 := Lib.hid (hb4.alloc hb4.size (.cells #[.int .i64 a.key, .int .i64 a.thing] 37))
      have HN : Hid (∀ (j : Nat) (u : Value), (cells2 [a])[j]? = some u → (w4.alloc (.cells #[.int .i64 a.key, .int .i64 a.thing] 37)).cell? ((⟨w4.heap.size, 0, none⟩ : Addr).add j) = some u) := World.news_of_block (heap_alloc_new w4 _)
      have HKX : Hid (∀ W', (w4.alloc (.cells #[.int .i64 a.key, .int .i64 a.thing] 37)).grownBy W' u3.ownBlock → POwn w.heap.size W' (.slice (some ⟨bl, 0, none⟩) M capl) L) := fun W' hg => HX5.out.grown hg (by
        rcases hNE.out with e | e
        · rw [e]; exact .inr (by simp [Value.ownBlock])
        · exact .inr (Ne.symm e))
      clear hs hw4 hx4 ho4 hb4 hcx hal
      go_wp2_with (at_builtin; (refine wpList_app2 rfl (.tmp 14) (.tmp 19) rfl w.heap.size _ (outs g k) rfl HO5.out ⟨w4.heap.size, 0, none⟩ 1 1 [a] rfl rfl HN.out (by rw [HOL.out]; omega) HB5.out.size ?_); intro v6 w6 ho6 hg6 hat6; have HX6 := Lib.hid (HKX.out _ hg6); have HB6 := Lib.hid (HB5.out.grown hg6 HB5.out.size (fun k hk => (World.ownsRow.lt HO5.out k hk).1)); rw [← HO1'.out] at ho6; have HO6 := Lib.hid ho6; clear ho6 hg6 hat6)
      refine (without_any _ L i _ HX6.out (HI.out.1) (by rw [HML.out]; have := HMM.out; omega)).mono ?_
      rintro e w7 ⟨v', rfl, hp7, hb7⟩
      have HX7 := Lib.hid (hp7.base_le HB6.out.size)
      have HO7 := Lib.hid (HO6.out.below hb7)
      have HB7 := Lib.hid (HB6.out.trans (hb7.mono HB6.out.size))
      have HN7 : Hid (v6.ownBlock = none ∨ v6.ownBlock ≠ v'.ownBlock) := by
        rcases HO6.out.2 with ⟨hv, _⟩ | ⟨b9, c9, cur9, hv, _⟩
        · exact .inl (by rw [hv]; rfl)
        · refine .inr fun e => ?_
          have h1 := (World.ownsRow.lt HO6.out b9 (by rw [hv]; rfl)).2
          have h2 := (World.ownsRow.lt hp7 b9 (by rw [← e, hv]; rfl)).1
          omega
      obtain ⟨A7, c7, rfl⟩ := hp7.shape
      clear hp7 hb7
      rw [← HL1.out] at HX7 HN7 ⊢
      go_wp2
      go_roundw
      case rel => exact ⟨k + 1, by omega, HX7, HO7, HN7, HB7⟩
      case measure => rw [HL2.out, HG.out]; have := HMM.out; simp [lenV]; omega
    · obtain rfl : k = n := by omega
      have he := left_nil g k (by rw [HG.out])
      rw [he] at hX
      obtain ⟨Al, cl, rfl⟩ := hX.out.shape
      rw [show ([] : List It).length = 0 from rfl]
      go_wp2
      go_ret
      exact ⟨_, rfl, hO.out, hB.out⟩
end Go.Proofs.Ytlnljgfppipceab.Qu
