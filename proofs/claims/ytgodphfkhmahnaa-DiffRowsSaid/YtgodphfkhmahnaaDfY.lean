/- Diffs: the empty runs are taken out. -/
import Derived.Test.YtgodphfkhmahnaaDfU
import Derived.Laws.CopyRow
namespace Go.Proofs.Ytgodphfkhmahnaa.Df
open Go.RowKit Mem Sm Rt Tk
set_option linter.unusedVariables false
set_option linter.unusedSimpArgs false
theorem grown_setRow (W : World) (g : Nat) (cs : Array Value) : W.grownBy (W.setRow g cs) (some g) := by
  refine ⟨rfl, rfl, rfl, by simp [World.setRow], fun k hk hne => ?_⟩
  simp [World.setRow, Array.getElem?_modify]
  intro e; exact absurd (by rw [e]) hne
set_option maxRecDepth 100000 in
theorem clear_run (g o n c : Nat) (cs : Array Value) (w : World) (hg : w.heap[g]? = some (.cells cs 117 (0, 0))) (hn : 0 < n) (hfit : o + n * 3 ≤ cs.size) :
    ∃ w', (Builtin.clear_ #[114] 0 #[.slice (some ⟨g, o, none⟩) n c]).run Try.prog w = .ok (.tuple #[]) w' ∧ w.grownBy w' (some g) ∧ ∃ cs', w'.heap[g]? = some (.cells cs' 117 (0, 0)) ∧ cs'.size = cs.size ∧ cs'.toList.take o = cs.toList.take o := by
  have hlen : (Builtin.zeroCells #[Value.int .i64 0, .int .i64 0, .int .i64 0] n).toList.length = n * 3 := by simp [Builtin.zeroCells]
  have hone : ∀ u ∈ (Builtin.zeroCells #[Value.int .i64 0, .int .i64 0, .int .i64 0] n).toList, u.oneCell' = true := by
    intro u hu
    simp only [Builtin.zeroCells] at hu
    obtain ⟨i, hi, rfl⟩ := List.mem_iff_getElem.1 hu
    have : i % 3 = 0 ∨ i % 3 = 1 ∨ i % 3 = 2 := by omega
    rcases this with h | h | h <;> simp [h] <;> rfl
  have hst := run_storeCells_at (P := Try.prog) g o 117 _ 0 cs w hg (by rw [hlen]; omega) hone
  simp only [Nat.add_zero, hlen] at hst
  refine ⟨w.setRow g (cs.toList.take o ++ (Builtin.zeroCells #[Value.int .i64 0, .int .i64 0, .int .i64 0] n).toList ++ cs.toList.drop (o + n * 3)).toArray, ?_, grown_setRow _ _ _, (cs.toList.take o ++ (Builtin.zeroCells #[Value.int .i64 0, .int .i64 0, .int .i64 0] n).toList ++ cs.toList.drop (o + n * 3)).toArray, setRow_heap _ _ _ _ _ _ hg, ?_, ?_⟩
  · obtain ⟨m, rfl⟩ : ∃ m, n = m + 1 := ⟨n - 1, by omega⟩
    unfold Builtin.clear_
    simp [run_underlying Try.underlying114, go_sem, hst]
  · have := hlen
    simp only [List.size_toArray, List.length_append, List.length_take, List.length_drop, Array.length_toList] at this ⊢
    omega
  · simp only [List.append_assoc]
    rw [List.take_append_of_le_length (by simp; omega), List.take_take, Nat.min_self]
theorem gb_below' {w W W' : World} {row : Option Nat} (h : w.grownBy W row) (hb : Below W.heap.size W W') : w.grownBy W' row := only_trans h (grown_below hb) (fun i hi e => by cases e)
/-- is a run not empty? -/
def ne (r : Rg) : Bool := !emp r
theorem filter_snoc {l : List Rg} {j : Nat} (h : j < l.length) : (l.take (j + 1)).filter ne = (l.take j).filter ne ++ (if ne l[j] = true then [l[j]] else []) := by
  rw [List.take_add_one, List.getElem?_eq_getElem h, List.filter_append]
  congr 1
  by_cases e : ne l[j] = true <;> simp [e]
set_option maxRecDepth 100000 in
set_option maxHeartbeats 4000000 in
theorem delete_any (l : List Rg) (base : Nat) (v : Value) (w : World) (hn : l.length ≤ 100000) (hr : Rn.Rgs base w v l) :
    Calls Try.prog 84 #[v, .func (.func 85) #[] #[]] w fun e w' => ∃ A k c, e = .returned (.slice A k c) ∧ Rn.RRow w' A k (l.filter ne) ∧ w.grownBy w' v.ownBlock ∧ ∀ a, A = some a → ∃ cs fr, w'.heap[a.block]? = some (.cells cs 117 fr) := by
  obtain ⟨A, c, hv, hnc, hrr⟩ := hr.row
  obtain ⟨n, hN⟩ : ∃ n, n = l.length := ⟨_, rfl⟩
  have CI := fun W h => index_any l A n c W (by omega) h
  rw [← hN] at hv hnc hrr hn
  obtain ⟨F, hF⟩ : ∃ F, F = l.findIdx emp := ⟨_, rfl⟩
  have hlt : ∀ j (h : j < l.length), j < F → emp l[j] = false := fun j h g => by
    rw [hF] at g
    simpa using List.not_of_lt_findIdx g
  have HN := Lib.hid hN
  have HRR := Lib.hid hrr
  rw [← hF] at CI
  by_cases hFn : F < n
  · have hat : emp (l[F]'(by omega)) = true := by subst hF; exact List.findIdx_getElem
    obtain ⟨g, off, hA, hgl, _⟩ := hrr.2 (by omega)
    have hA2 : off = 0 ∧ base ≤ g ∧ ∃ cs, w.heap[g]? = some (.cells cs 117 (0, 0)) := by
      rcases hr.2 with ⟨h0, _⟩ | ⟨g', cap, cur, h0, h1, h2, _⟩
      · rw [hv] at h0; injection h0 with h0 h3; omega
      · rw [hv, hA] at h0
        injection h0 with h0
        injection h0 with h0
        injection h0 with h3 h4 _
        exact ⟨h4, by rw [h3]; exact h1, cur, by rw [h3]; exact h2⟩
    obtain ⟨rfl, hbg, _⟩ := hA2
    subst hA
    have HF0 : Hid (l.take F = (l.take (F + 1)).filter ne) := Lib.hid (by
      rw [filter_snoc (by omega)]
      have : ne (l[F]'(by omega)) = false := by simp [ne, hat]
      rw [this]
      simp
      symm
      rw [List.filter_eq_self]
      intro a ha
      obtain ⟨j, hj, rfl⟩ := List.mem_take_iff_getElem.1 ha
      simp [ne, hlt j (by omega) (by omega)])
    simp only [if_pos hFn] at CI
    have CI' := Lib.hid CI
    have HR := Lib.hid hr
    have hFi : ((F : Int) == -1) = false := by simp
    have hFb : F ≤ 100000 := by omega
    clear hF hlt hat CI hr hrr hN
    subst hv
    go_enter Try.func84, Try.ntmps84
    go_wp2_with fail
    refine (CI'.out _ HRR.out).mono ?_
    rintro e w1 ⟨rfl, hb1⟩
    have HR1 := Lib.hid (HR.out.belowAll hb1)
    have HG1 : Hid (w.grownBy w1 (Value.slice (some ⟨g, 0, none⟩) n c).ownBlock) := Lib.hid (gb_below' (World.grownBy.refl _ _) hb1)
    clear HR HRR CI' hb1
    go_wp2_with fail
    go_loopw [5, 6] (fun iv jv wr => ∃ (i j : Nat) (L : List Rg), iv = .int .i64 i ∧ jv = .int .i64 j ∧ i < j ∧ j ≤ n ∧ Hid (L.length = n) ∧ Hid (L.take i = (l.take j).filter ne) ∧ Hid (∀ k, j ≤ k → L[k]? = l[k]?) ∧ Hid (Rn.Rgs base wr (.slice (some ⟨g, 0, none⟩) n c) L) ∧ Hid (w.grownBy wr (Value.slice (some ⟨g, 0, none⟩) n c).ownBlock)) (fun _ jv _ => n - (intOf jv).toNat)
    case atStart => exact ⟨F, F + 1, l, rfl, by push_cast; rfl, by omega, by omega, Lib.hid HN.out.symm, HF0, Lib.hid (fun k _ => rfl), HR1, HG1⟩
    case round =>
      obtain ⟨i, j, L, rfl, rfl, hij, hjn, HL, HT, HK, HR, HG⟩ := hrel
      clear HR1 HG1 HF0
      by_cases hlt : j < n
      · have hjL : j < L.length := by have := HL.out; omega
        have hiL : i < L.length := by omega
        have hjl : j < l.length := by have := HN.out; omega
        have hLj : L[j] = l[j] := by
          have := HK.out j (Nat.le_refl _)
          rw [List.getElem?_eq_getElem hjL, List.getElem?_eq_getElem hjl] at this
          exact Option.some.inj this
        have S0 : ∀ W : World, Rn.Rgs base W (.slice (some ⟨g, 0, none⟩) n c) L → ∀ X : Rg, Rn.Rgs base (set3 W g (i * 3) X) (.slice (some ⟨g, 0, none⟩) n c) (L.set i X) ∧ W.grownBy (set3 W g (i * 3) X) (some g) ∧ (∃ cs, W.heap[g]? = some (.cells cs 117 (0, 0))) := by
          intro W h X
          obtain ⟨g', c', e, _, _, ⟨cs, hcs, _⟩, p1, q1⟩ := rn_put h hiL X
          injection e with e _ _
          injection e with e
          injection e with e _ _
          subst e
          exact ⟨p1, q1, cs, hcs⟩
        have HS0 := Lib.hid S0
        obtain ⟨A', c1, e, _, hrr⟩ := HR.out.row
        rw [HL.out] at e hrr
        cases e
        obtain ⟨b', off, e, _, hcc⟩ := hrr.2 (by omega)
        cases e
        obtain ⟨c0, c1, c2⟩ := (hcc j hjL).cells
        rw [hLj] at c0 c1 c2
        simp only [Nat.zero_add] at c0 c1 c2
        have hne : ne l[j] = !decide (l[j].new = 0) := rfl
        have HFS := Lib.hid (filter_snoc hjl)
        have CE := fun W' => empty_any l[j].at_ l[j].old l[j].new W'
        clear S0 hcc hrr hLj
        generalize hX : l[j] = X at *
        have hXj : l[j]? = some X := by rw [List.getElem?_eq_getElem hjl, hX]
        obtain ⟨xa, xb, xc⟩ := X
        simp only at c0 c1 c2 CE hne
        unfold rnV at CE
        have CE' := Lib.hid CE
        have hb2 := (Below.refl wr.heap.size wr).alloc (Nat.le_refl _) (.cells #[.int .i64 xa, .int .i64 xb, .int .i64 xc] 117)
        have HB2 := Lib.hid hb2
        have HX2 := Lib.hid (heap_alloc_new wr (.cells #[.int .i64 xa, .int .i64 xb, .int .i64 xc] 117))
        have HNE := Lib.hid hne
        have hszg : g < wr.heap.size := lt_some ((HS0.out wr HR.out ⟨0, 0, 0⟩).2.2).choose_spec
        clear CE hX hb2 hne
        go_wp2_with fail
        refine (CE'.out _).mono ?_
        rintro e w3 ⟨rfl, hb3⟩
        have HB3 := Lib.hid (HB2.out.trans (hb3.mono HB2.out.size))
        have HX3 := Lib.hid (hkeep hb3 HX2.out)
        have HR3 := Lib.hid (HR.out.belowAll HB3.out)
        have HG3 := Lib.hid (gb_below' HG.out HB3.out)
        clear hb3 HB2 HX2 c0 c1 c2 HR HG CE'
        obtain ⟨hp, hq, cs, hcs⟩ := HS0.out w3 HR3.out ⟨xa, xb, xc⟩
        have HP := Lib.hid hp
        have HQ := Lib.hid (only_trans HG3.out hq (fun q _ e => by rw [e]; rfl))
        clear hp hq HS0
        by_cases hz : xc = 0
        · have hd : decide (xc = 0) = true := decide_eq_true hz
          rw [hd]
          have HT' : Hid (L.take i = (l.take (j + 1)).filter ne) := Lib.hid (by
            rw [HFS.out, if_neg (by rw [HNE.out, hd]; simp), List.append_nil]; exact HT.out)
          clear hd hz HP HQ HNE HFS HT
          go_wp2_with fail
          go_roundw
          case rel => exact ⟨i, j + 1, L, rfl, by go_num, by omega, by omega, HL, HT', Lib.hid (fun k hk => HK.out k (by omega)), HR3, HG3⟩
          case measure => simp [intOf]; omega
        · have hd : decide (xc = 0) = false := decide_eq_false hz
          rw [hd]
          have HT' : Hid ((L.set i ⟨xa, xb, xc⟩).take (i + 1) = (l.take (j + 1)).filter ne) := Lib.hid (by
            rw [HFS.out, if_pos (by rw [HNE.out, hd]; rfl), ← HT.out, List.take_add_one, List.take_set_of_le (Nat.le_refl _)]
            simp [hiL])
          have HK' : Hid (∀ k, j + 1 ≤ k → (L.set i ⟨xa, xb, xc⟩)[k]? = l[k]?) := Lib.hid (fun k hk => by
            rw [List.getElem?_set_ne (by omega)]; exact HK.out k (by omega))
          have HL' : Hid ((L.set i (⟨xa, xb, xc⟩ : Rg)).length = n) := Lib.hid (by rw [List.length_set]; exact HL.out)
          have x0 : w3.cell? ⟨wr.heap.size, 0, none⟩ = some (.int .i64 xa) := by simp only [World.cell?, HX3.out]; rfl
          have x1 : w3.cell? ⟨wr.heap.size, 1, none⟩ = some (.int .i64 xb) := by simp only [World.cell?, HX3.out]; rfl
          have x2 : w3.cell? ⟨wr.heap.size, 2, none⟩ = some (.int .i64 xc) := by simp only [World.cell?, HX3.out]; rfl
          have fz : ∀ x : Nat, w3.frozen? ⟨g, x, none⟩ = false := fun x => by simp [World.frozen?, hcs]
          have hk : ∀ x : Nat, x < 3 → ∃ u, w3.cell? ⟨g, i * 3 + x, none⟩ = some u := by
            intro x hx
            obtain ⟨A', c1, e, _, hrr⟩ := HR3.out.row
            rw [HL.out] at e hrr
            cases e
            obtain ⟨b', off, e, _, hcc⟩ := hrr.2 (by omega)
            cases e
            obtain ⟨d0, d1, d2⟩ := (hcc i hiL).cells
            simp only [Nat.zero_add] at d0 d1 d2
            rcases (show x = 0 ∨ x = 1 ∨ x = 2 by omega) with rfl | rfl | rfl
            · exact ⟨_, d0⟩
            · exact ⟨_, d1⟩
            · exact ⟨_, d2⟩
          obtain ⟨u0, k0⟩ := hk 0 (by omega)
          obtain ⟨u1, k1⟩ := hk 1 (by omega)
          obtain ⟨u2, k2⟩ := hk 2 (by omega)
          rw [Nat.add_zero] at k0
          have f0 := fz (i * 3)
          have f1 := fz (i * 3 + 1)
          have f2 := fz (i * 3 + 2)
          unfold set3 at HP HQ
          simp only at HP HQ
          have hi9 : i < n := by omega
          clear hd hz HNE HFS HT HK HL hk fz hcs HX3 HR3 HG3 HB3
          go_wp2_with fail
          go_roundw
          case rel => exact ⟨i + 1, j + 1, _, by go_num, by go_num, by omega, by omega, HL', HT', HK', HP, HQ⟩
          case measure => simp [intOf]; omega
      · obtain rfl : j = n := by omega
        have hjL := HL.out
        obtain ⟨g', cap, cur, e, _, hg', hncap, _, hcsz, hcur⟩ : ∃ g' cap cur, Value.slice (some ⟨g, 0, none⟩) j c = .slice (some ⟨g', 0, none⟩) j cap ∧ base ≤ g' ∧ wr.heap[g']? = some (.cells cur 117 (0, 0)) ∧ j ≤ cap ∧ cap ≤ maxLen ∧ cur.size = cap * 3 ∧ cur.toList.take (j * 3) = Rn.cells3 L := by
          have h2 := HR.out.2
          rw [hjL] at h2
          rcases h2 with ⟨h0, _⟩ | h
          · cases h0
          · exact h
        cases e
        obtain ⟨w9, hclr, hgr, cs', hcs', hsz', htk⟩ := clear_run g (i * 3) (j - i) (c - i) cur wr hg' (by omega) (by omega)
        have HRF : Hid (Rn.RRow w9 (some ⟨g, 0, none⟩) i (l.filter ne)) := Lib.hid (by
          have e1 : l.filter ne = L.take i := by rw [HT.out, HN.out, List.take_length]
          rw [e1]
          refine ⟨by rw [List.length_take]; omega, fun _ => ⟨g, 0, rfl, lt_some hcs', fun k hk => ?_⟩⟩
          intro q u hu
          have hk2 : k < i := by rw [List.length_take] at hk; omega
          have hq : q < 3 := by
            have := (List.getElem?_eq_some_iff.1 hu).1
            rwa [Rn.rcells_length] at this
          have e2 : (L.take i)[k] = L[k] := by simp
          rw [e2] at hu
          simp only [World.cell?, hcs', Nat.zero_add]
          have h3 : cs'.toList[k * 3 + q]? = some u := by
            have h4 : (cs'.toList.take (i * 3))[k * 3 + q]? = (cur.toList.take (j * 3))[k * 3 + q]? := by
              rw [htk, List.getElem?_take_of_lt (by omega), List.getElem?_take_of_lt (by omega)]
            rw [List.getElem?_take_of_lt (by omega), hcur, Rn.cells3_at L k (by omega) q hq] at h4
            rw [h4]; exact hu
          simpa using h3)
        have HGF := Lib.hid (only_trans HG.out hgr (fun q _ e => by rw [e]; rfl))
        have HTY : Hid (∀ a, some (⟨g, 0, none⟩ : Addr) = some a → ∃ cs fr, w9.heap[a.block]? = some (.cells cs 117 fr)) := Lib.hid (fun a e => by cases e; exact ⟨_, _, hcs'⟩)
        have hci : ¬ c = i := by omega
        have hic : i ≤ c := by omega
        clear HT HL HK HR HG HN hgr hcs' hsz' htk hg' hcsz hcur hjL
        go_wp2
        go_ret
        exact ⟨_, _, _, rfl, HRF.out, HGF.out, HTY.out⟩
  · have HFL : Hid (l.filter ne = l) := Lib.hid (by
      rw [List.filter_eq_self]
      intro a ha
      obtain ⟨j, hj, rfl⟩ := List.mem_iff_getElem.1 ha
      simp [ne, hlt j hj (by omega)])
    simp only [if_neg hFn] at CI
    have CI' := Lib.hid CI
    have HRO := Lib.hid hr
    clear hF hlt CI hr hrr hN
    subst hv
    go_enter Try.func84, Try.ntmps84
    go_wp2_with fail
    refine (CI'.out _ HRR.out).mono ?_
    rintro e w1 ⟨rfl, hb1⟩
    have HRF := Lib.hid (HFL.out.symm ▸ HRR.out.below hb1)
    have HG1 : Hid (w.grownBy w1 (Value.slice A n c).ownBlock) := Lib.hid (gb_below' (World.grownBy.refl _ _) hb1)
    have HTY : Hid (∀ a, A = some a → ∃ cs fr, w1.heap[a.block]? = some (.cells cs 117 fr)) := Lib.hid (fun a e => by
      subst e
      obtain ⟨_, _, cs, fr, hh⟩ := HRO.out.block a.block rfl
      exact ⟨cs, fr, hkeep hb1 hh⟩)
    clear HRR CI' hb1 HRO
    go_wp2
    go_ret
    exact ⟨_, _, _, rfl, HRF.out, HG1.out, HTY.out⟩
end Go.Proofs.Ytgodphfkhmahnaa.Df
