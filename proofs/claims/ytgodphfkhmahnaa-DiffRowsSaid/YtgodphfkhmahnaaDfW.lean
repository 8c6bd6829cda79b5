/- Diffs: the way is gone back. Diffs: the runs are turned round. -/
import Derived.Test.YtgodphfkhmahnaaDfQ
import Derived.Test.YtgodphfkhmahnaaDfU
import Derived.Deep.Cut
import Derived.Deep.CutRange
namespace Go.Proofs.Ytgodphfkhmahnaa.Df
open Go.RowKit Mem Sm Rt Tk
set_option linter.unusedVariables false
set_option linter.unusedSimpArgs false
theorem Way.more {l m : List Tk.Tk} {XS : List (List Int)} {d i D' I' x y : Nat} (hd : 0 < d) (h : Ent (EE l m) XS d i x y (SL l m x y)) (he : (entE XS d i).2 = (D', I')) : D' = d - 1 ∧ I' ≤ d - 1 ∧ ∀ ρ, Way l m XS D' I' ρ → Way l m XS d i (ρ ++ [⟨x, y, (SL l m x y : Nat)⟩]) := by
  cases d with
  | zero => omega
  | succ d =>
    rcases h.from_ with ⟨g, _⟩ | ⟨_, i2, x2, y2, h3, h4, h5, h6⟩
    · omega
    · have h7 := he
      rw [h4] at h7
      simp only [Nat.add_sub_cancel, Prod.mk.injEq] at h7
      obtain ⟨rfl, rfl⟩ := h7
      exact ⟨rfl, h3, fun ρ hw => Way.step h (by simpa using h3) he hw⟩
theorem Way.first {l m : List Tk.Tk} {XS : List (List Int)} {i x y : Nat} (h : Ent (EE l m) XS 0 i x y (SL l m x y)) : Way l m XS 0 i [⟨x, y, (SL l m x y : Nat)⟩] := by
  rcases h.from_ with ⟨_, rfl, rfl, rfl, _⟩ | ⟨g, _⟩
  · exact Way.zero h
  · omega
/-- back, while it goes: the point, and the runs so far -/
structure BK (w W : World) (d i : Nat) (v : Value) (acc : List Rg) : Prop where
  b : Below w.heap.size w W
  x0 : W.heap[w.heap.size]? = some (.cells #[.int .i64 d, .int .i64 i] 145 (0, 0))
  r : Rn.Rgs w.heap.size W v acc
theorem BK.step {w W W' : World} {d i : Nat} {v : Value} {acc : List Rg} (h : BK w W d i v acc) (hb : Below W.heap.size W W') : BK w W' d i v acc :=
  ⟨h.b.trans (hb.mono h.b.size), by rw [hb.block _ (lt_some h.x0)]; exact h.x0, h.r.belowAll hb⟩
theorem BK.app {w W W' : World} {d i : Nat} {v v' : Value} {acc acc' : List Rg} (h : BK w W d i v acc) (hg : W.grownBy W' v.ownBlock) (ho : Rn.Rgs w.heap.size W' v' acc') : BK w W' d i v' acc' ∧ ∀ (k : Nat) (cs : Array Value), W.heap[k]? = some (.cells cs 145 (0, 0)) → W'.heap[k]? = some (.cells cs 145 (0, 0)) := by
  have hK : ∀ (k : Nat) (cs : Array Value), W.heap[k]? = some (.cells cs 145 (0, 0)) → W'.heap[k]? = some (.cells cs 145 (0, 0)) := by
    intro k cs e
    rw [hg.block k (lt_some e) (fun g => ?_)]
    · exact e
    · obtain ⟨_, _, cs', fr', hh⟩ := h.r.block k g.symm
      rw [e] at hh
      injection hh with hh
      injection hh with _ h6 _
      revert h6; decide
  exact ⟨⟨below_of_grown h.b hg h.b.size (fun i e => (h.r.block i e).1), hK _ _ h.x0, ho⟩, hK⟩
theorem BK.go {w W : World} {d i d' i' : Nat} {v : Value} {acc : List Rg} (h : BK w W d i v acc) : BK w ((W.setCell ⟨w.heap.size, 0, none⟩ (.int .i64 d')).setCell ⟨w.heap.size, 1, none⟩ (.int .i64 i')) d' i' v acc := by
  refine ⟨below_set2 h.b (Nat.le_refl _) _ _, ?_, ?_⟩
  · rw [set_at (set_at h.x0 _)]; rfl
  · have hne : ∀ g, v.ownBlock = some g → g ≠ w.heap.size := by
      rintro g e rfl
      obtain ⟨_, _, cs', fr', hh⟩ := h.r.block _ e
      rw [h.x0] at hh
      injection hh with hh
      injection hh with _ h6 _
      revert h6; decide
    have h1 := h.r.grown (grown_set1 W w.heap.size 0 (.int .i64 d')) (fun g e h => hne g e (by first | exact h.symm | exact h | (injection h with h; exact h.symm) | exact (Option.some.inj h).symm | exact Option.some.inj h))
    exact h1.grown (grown_set1 _ w.heap.size 1 (.int .i64 i')) (fun g e h => hne g e (by first | exact h.symm | exact h | (injection h with h; exact h.symm) | exact (Option.some.inj h).symm | exact Option.some.inj h))
/-- what Reverse does -/
def RevOk : Prop := ∀ (base : Nat) (W : World) (v : Value) (acc : List Rg), acc.length ≤ 1000 → Rn.Rgs base W v acc → Calls Try.prog 103 #[v] W fun e W' => e = .returned (.tuple #[]) ∧ Rn.Rgs base W' v acc.reverse ∧ W.grownBy W' v.ownBlock
set_option maxRecDepth 100000 in
set_option maxHeartbeats 4000000 in
theorem back_any (hrev : RevOk) (base p : Nat) (a b v : Value) (vs : List Value) (XS : List (List Int)) (l m : List Tk.Tk) (D I : Nat) (w : World) (hl : XS.length = D + 1) (hok : Ok (EE l m) XS (D + 1)) (hD : D ≤ 400) (hI : I ≤ D) (hll : l.length ≤ 400)
    (h : ChAt base w p a b v vs XS) :
    Calls Try.prog 80 #[.pointer (some ⟨p, 0, none⟩), pnV D I] w fun e W' => ∃ u ρ, e = .returned u ∧ Rn.Rgs w.heap.size W' u ρ ∧ Way l m XS D I ρ ∧ Below w.heap.size w W' := by
  have HC := Lib.hid h
  have HXL := Lib.hid hl
  have HOK := Lib.hid hok
  have b1 := (Below.refl w.heap.size w).alloc (Nat.le_refl _) (.cells #[.int .i64 D, .int .i64 I] 145)
  have HB0 : Hid (BK w (w.alloc (.cells #[.int .i64 D, .int .i64 I] 145)) D I (.slice none 0 0) []) := Lib.hid ⟨b1, heap_alloc_new _ _, Rn.Rgs.nil⟩
  have HREV := Lib.hid hrev
  clear h hl hok b1 hrev
  unfold pnV
  go_enter Try.func80, Try.ntmps80
  go_wp2_with fail
  go_loopw [5] (fun rv wr => ∃ (d i : Nat) (acc : List Rg), d ≤ D ∧ i ≤ d ∧ Hid (acc.length = D - d) ∧ Hid (∀ ρ, Way l m XS d i ρ → Way l m XS D I (ρ ++ acc.reverse)) ∧ Hid (BK w wr d i rv acc)) (fun _ wr => (intOf ((wr.cell? ⟨w.heap.size, 0, none⟩).getD undef)).toNat)
  case atStart => exact ⟨D, I, [], Nat.le_refl _, hI, Lib.hid (by simp), Lib.hid (fun ρ h => by simpa using h), HB0⟩
  case round =>
    obtain ⟨d, i, acc, hd, hi, HA, HW, HB⟩ := hrel
    clear HB0
    have hOd : Ok (EE l m) XS d := fun d' h => HOK.out d' (by omega)
    obtain ⟨x, y, hent⟩ := ent_top (l := l) (m := m) (XS := XS) (d := d) (i := i) hOd hi
    obtain ⟨S, hS⟩ : ∃ S, S = SL l m x y := ⟨_, rfl⟩
    have hrow := (HOK.out d (by omega)).1
    obtain ⟨x1, y1, ht1, hg1⟩ := (HOK.out d (by omega)).2 i hi
    have hone := ht1.one hent.top
    have htb := hent.top.bound
    have hdiag := hent.diag
    rw [← hS] at hone htb
    have CE := fun W' (h : ChAt base W' p a b v vs XS) => enter_any base p a b v vs XS d i W' (by have := HXL.out; omega) (by have := HXL.out; omega) hi (fun j hj => (hOd j hj).1) (fun j k hj hk => by have := hOd.bound j k hj hk; omega) h
    have CFr := fun W' (h : ChAt base W' p a b v vs XS) => far_any base p a b v vs XS d i W' (by have := HXL.out; omega) (by have := HXL.out; omega) (by rw [hrow]; omega) (by rw [hrow]; omega) h
    have CP : ∀ W' : World, Calls Try.prog 82 #[.agg #[.int .i64 d, .int .i64 i], .int .i64 ((x : Int) + y)] W' fun e W'' => e = .returned (.tuple #[.int .i64 x, .int .i64 y]) ∧ Below W'.heap.size W' W'' := by
      intro W'
      have := passed_any d i ((x : Int) + y) W' (by omega) (by omega) (by omega)
      rw [show ((x : Int) + y + ((i : Int) - ((d : Int) - i))).tdiv 2 = (x : Int) by rw [show (x : Int) + y + ((i : Int) - ((d : Int) - i)) = (x : Int) * 2 by omega]; exact Int.mul_tdiv_cancel _ (by omega)] at this
      rw [show ((x : Int) + y - ((i : Int) - ((d : Int) - i))).tdiv 2 = (y : Int) by rw [show (x : Int) + y - ((i : Int) - ((d : Int) - i)) = (y : Int) * 2 by omega]; exact Int.mul_tdiv_cancel _ (by omega)] at this
      exact this
    have hff : gt XS d i - ((x : Int) + y) = (S : Int) * 2 := by omega
    have HQ : Hid ((gt XS d i - ((x : Int) + y)).tdiv 2 = (S : Int)) := Lib.hid (by rw [hff]; exact Int.mul_tdiv_cancel _ (by omega))
    rw [hent.far] at CE
    have hf1 : 0 ≤ (x : Int) + y ∧ (x : Int) + y ≤ 10000 := by omega
    have hf2 : 0 ≤ gt XS d i ∧ gt XS d i ≤ 10000 := by omega
    generalize (x : Int) + (y : Int) = f at *
    generalize gt XS d i = G at *
    have HEN : Hid (Ent (EE l m) XS d i x y (SL l m x y)) := Lib.hid hent
    have HSS := Lib.hid hS
    generalize hD' : (entE XS d i).2.1 = D' at *
    generalize hI' : (entE XS d i).2.2 = I' at *
    have HFR : Hid ((entE XS d i).2 = (D', I')) := Lib.hid (by rw [← hD', ← hI'])
    have CE' := Lib.hid CE
    have CF' := Lib.hid CFr
    have CP' := Lib.hid CP
    clear CE CFr CP hff hent hS hrow ht1 hg1 hone htb hdiag hOd hD' hI'
    unfold pnV at CE' CF'
    obtain ⟨f1, f2⟩ := hf1
    obtain ⟨g1, g2⟩ := hf2
    have s0 : wr.cell? ⟨w.heap.size, 0, none⟩ = some (.int .i64 d) := by simp [World.cell?, HB.out.x0]
    have s1 : wr.cell? ⟨w.heap.size, 1, none⟩ = some (.int .i64 i) := by simp [World.cell?, HB.out.x0]
    have HWC := Lib.hid s0
    go_wp2_with fail
    refine (CE'.out _ (HC.out.step HB.out.b)).mono ?_
    rintro e w1 ⟨rfl, hb1⟩
    have HB1 := Lib.hid (HB.out.step hb1)
    have hb2 := (Below.refl w1.heap.size w1).alloc (Nat.le_refl _) (.cells #[.int .i64 D', .int .i64 I'] 145)
    have HB2 := Lib.hid (HB1.out.step hb2)
    have HF2 := Lib.hid (heap_alloc_new w1 (.cells #[.int .i64 D', .int .i64 I'] 145))
    clear s0 s1 hb1 hb2 HB HB1
    have s0 : (w1.alloc (.cells #[.int .i64 D', .int .i64 I'] 145)).cell? ⟨w.heap.size, 0, none⟩ = some (.int .i64 d) := by simp only [World.cell?, HB2.out.x0]; rfl
    have s1 : (w1.alloc (.cells #[.int .i64 D', .int .i64 I'] 145)).cell? ⟨w.heap.size, 1, none⟩ = some (.int .i64 i) := by simp only [World.cell?, HB2.out.x0]; rfl
    go_wp2_with fail
    refine (CP'.out _).mono ?_
    rintro e w3 ⟨rfl, hb3⟩
    have HB3 := Lib.hid (HB2.out.step hb3)
    have HF3 := Lib.hid (hkeep hb3 HF2.out)
    clear s0 s1 hb3 HB2 HF2
    have s0 : w3.cell? ⟨w.heap.size, 0, none⟩ = some (.int .i64 d) := by simp only [World.cell?, HB3.out.x0]; rfl
    have s1 : w3.cell? ⟨w.heap.size, 1, none⟩ = some (.int .i64 i) := by simp only [World.cell?, HB3.out.x0]; rfl
    go_wp2_with fail
    refine (CF'.out _ (HC.out.step HB3.out.b)).mono ?_
    rintro e w4 ⟨rfl, hb4⟩
    have HB4 := Lib.hid (HB3.out.step hb4)
    have HF4 := Lib.hid (hkeep hb4 HF3.out)
    clear s0 s1 hb4 HB3 HF3
    have hb5 := (Below.refl w4.heap.size w4).alloc (Nat.le_refl _) (.cells #[.int .i64 x, .int .i64 y, .int .i64 ((G - f).tdiv 2)] 117)
    have HB5 := Lib.hid (HB4.out.step hb5)
    have HF5 := Lib.hid (hkeep hb5 HF4.out)
    have HV := Lib.hid (rn_one w4 ⟨x, y, (G - f).tdiv 2⟩)
    have hsz : w.heap.size ≤ (w4.alloc (.cells #[.int .i64 x, .int .i64 y, .int .i64 ((G - f).tdiv 2)] 117)).heap.size := HB5.out.b.size
    have hal : acc.length + 1 ≤ 1000000000 := by have := HA.out; omega
    clear hb5 HB4 HF4
    go_upto_region 5 with (at_builtin; (refine Rn.wpList_app_rg rfl (.tmp 22) (.tmp 32) rfl w.heap.size _ acc rfl HB5.out.r _ 1 1 [⟨x, y, (G - f).tdiv 2⟩] rfl HV.out hal hsz ?_); intro v' w9 hown hg hat; obtain ⟨A9, c9, rfl⟩ := hown.form)
    obtain ⟨hB9, hK9⟩ := HB5.out.app hg hown
    have HB9 := Lib.hid hB9
    have HF9 := Lib.hid (hK9 _ _ HF5.out)
    have EQ : ∀ W : World, (Op.equalIn 10000 145 (.agg #[.int .i64 D', .int .i64 I']) (.agg #[.int .i64 d, .int .i64 i])).run Try.prog W = .ok (decide ((D' : Int) = d ∧ (I' : Int) = i)) W := fun W => eq_pn 9998 _ _ _ _ W
    clear hB9 hK9 hg hown hat HB5 HF5 HV hsz hal
    have s0 : w9.cell? ⟨w.heap.size, 0, none⟩ = some (.int .i64 d) := by simp only [World.cell?, HB9.out.x0]; rfl
    have s1 : w9.cell? ⟨w.heap.size, 1, none⟩ = some (.int .i64 i) := by simp only [World.cell?, HB9.out.x0]; rfl
    have s2 : w9.frozen? ⟨w.heap.size, 0, none⟩ = false := by simp only [World.frozen?, HB9.out.x0]; rfl
    have s3 : w9.frozen? ⟨w.heap.size, 1, none⟩ = false := by simp only [World.frozen?, HB9.out.x0]; rfl
    have t0 : w9.cell? ⟨w1.heap.size, 0, none⟩ = some (.int .i64 D') := by simp only [World.cell?, HF9.out]; rfl
    have t1 : w9.cell? ⟨w1.heap.size, 1, none⟩ = some (.int .i64 I') := by simp only [World.cell?, HF9.out]; rfl
    rcases Nat.eq_zero_or_pos d with hd0 | hd0
    · have EQ' : ∀ W : World, (Op.equalIn 10000 145 (.agg #[.int .i64 D', .int .i64 I']) (.agg #[.int .i64 d, .int .i64 i])).run Try.prog W = .ok true W := fun W => by
        rw [EQ W]
        have : D' = d ∧ I' = i := by
          rcases HEN.out.from_ with ⟨_, _, _, _, g⟩ | ⟨g, _⟩
          · rw [HFR.out] at g; simpa using g
          · omega
        simp [this.1, this.2]
      clear EQ
      have hd9 := Lib.hid hd0
      clear hd0
      go_wp2_with fail
      have CR := HREV.out _ _ _ _ (by have := HA.out; simp; omega) HB9.out.r
      rw [show (acc ++ [(⟨x, y, (G - f).tdiv 2⟩ : Rg)]).length = acc.length + 1 by simp] at CR
      refine CR.mono ?_
      rintro e w10 ⟨rfl, hr10, hg10⟩
      have HFB := Lib.hid (below_of_grown HB9.out.b hg10 HB9.out.b.size (fun i e => (HB9.out.r.block i (by rw [← e]; simp [Value.ownBlock])).1))
      have HR10 := Lib.hid hr10
      have HWF : Hid (Way l m XS D I (acc ++ [(⟨x, y, (G - f).tdiv 2⟩ : Rg)]).reverse) := Lib.hid (by
        have e := hd9.out
        subst e
        have := HW.out _ (Way.first HEN.out)
        rw [HQ.out, HSS.out]
        simpa using this)
      clear CR hr10 hg10 s0 s1 s2 s3 t0 t1 EQ'
      go_wp2
      go_ret
      exact ⟨_, _, rfl, HR10.out, HWF.out, HFB.out⟩
    · have EQ' : ∀ W : World, (Op.equalIn 10000 145 (.agg #[.int .i64 D', .int .i64 I']) (.agg #[.int .i64 d, .int .i64 i])).run Try.prog W = .ok false W := fun W => by
        rw [EQ W]
        have : D' = d - 1 := by
          rcases HEN.out.from_ with ⟨g, _⟩ | ⟨_, i2, _, _, _, g, _⟩
          · omega
          · rw [HFR.out] at g; simp at g; exact g.1
        congr 1
        simp
        omega
      clear EQ
      have HG := Lib.hid (HB9.out.go (d' := D') (i' := I'))
      go_wp2_with fail
      obtain ⟨hD1, hI1, hW1⟩ := Way.more hd0 HEN.out HFR.out
      refine ⟨⟨D', I', acc ++ [⟨x, y, (G - f).tdiv 2⟩], by omega, by omega, Lib.hid (by have := HA.out; simp; omega), Lib.hid (fun ρ h => ?_), by simpa using HG⟩, ?_⟩
      · have := HW.out _ (hW1 ρ h)
        rw [HQ.out, HSS.out]
        simpa using this
      · have e1 := HG.out.x0
        rw [HWC.out]
        simp only [World.cell?, e1]
        simp [intOf]
        omega
end Go.Proofs.Ytgodphfkhmahnaa.Df
namespace Go.Proofs.Ytgodphfkhmahnaa.Df
open Go.RowKit Mem Sm Rt Tk
set_option linter.unusedVariables false
set_option linter.unusedSimpArgs false
set_option maxRecDepth 100000 in
set_option maxHeartbeats 4000000 in
theorem rev_any : RevOk := by
  intro base W v acc hn hr
  obtain ⟨n, hN⟩ : ∃ n, n = acc.length := ⟨_, rfl⟩
  obtain ⟨A, c, hv⟩ := hr.form
  rw [← hN] at hv
  have HN := Lib.hid hN
  have HV := Lib.hid hv
  have HR := Lib.hid hr
  have hn1 : n ≤ 1000 := by omega
  clear hN hr hn
  subst hv
  clear HV
  go_enter Try.func103, Try.ntmps103
  go_wp2_with fail
  go_loopw [2, 3] (fun iv jv wr => ∃ (i : Nat) (j : Int) (L : List Rg), iv = .int .i64 i ∧ jv = .int .i64 j ∧ i + j + 1 = n ∧ i ≤ n ∧ Hid (L.length = n) ∧ Hid (∀ k, k < n → L[k]? = if k < i ∨ n < k + i + 1 then acc[n - 1 - k]? else acc[k]?) ∧ Hid (Rn.Rgs base wr (.slice A n c) L) ∧ Hid (W.grownBy wr (Value.slice A n c).ownBlock)) (fun iv _ _ => n - (intOf iv).toNat)
  case atStart => exact ⟨0, (n : Int) - 1, acc, rfl, by first | rfl | (congr 1), by omega, by omega, Lib.hid HN.out.symm, Lib.hid (fun k hk => by rw [if_neg (by omega)]), HR, Lib.hid (World.grownBy.refl _ _)⟩
  case round =>
    obtain ⟨i, j, L, rfl, rfl, hij, hin, HL, HK, HR1, HG⟩ := hrel
    clear HR
    by_cases hlt : (i : Int) < j
    · obtain ⟨J, rfl⟩ : ∃ J : Nat, j = J := ⟨j.toNat, by omega⟩
      have hiL : i < L.length := by have := HL.out; omega
      have hJL : J < L.length := by have := HL.out; omega
      obtain ⟨g, c', e, hbg, hgl, ⟨cs, hcs, hcz⟩, _, _⟩ := rn_put HR1.out hiL L[J]
      injection e with e _ _
      subst e
      have hijn : i ≠ J := by omega
      obtain ⟨A', c1, e, _, hrr⟩ := HR1.out.row
      injection e with e _ _
      subst e
      obtain ⟨b', off, e, _, hcc⟩ := hrr.2 (by omega)
      injection e with e
      injection e with e1 e2 _
      subst e1; subst e2
      obtain ⟨i0, i1, i2⟩ := (hcc i hiL).cells
      obtain ⟨k0, k1, k2⟩ := (hcc J hJL).cells
      simp only [Nat.zero_add] at i0 i1 i2 k0 k1 k2
      have fz : ∀ x : Nat, wr.frozen? ⟨g, x, none⟩ = false := fun x => by simp [World.frozen?, hcs]
      have fi0 := fz (i * 3)
      have fi1 := fz (i * 3 + 1)
      have fi2 := fz (i * 3 + 2)
      have fk0 := fz (J * 3)
      have fk1 := fz (J * 3 + 1)
      have fk2 := fz (J * 3 + 2)
      have SW : ∀ (W0 : World) (a b : Nat) (X Y : Rg) (L0 : List Rg), a < L0.length → b < L0.length → Rn.Rgs base W0 (.slice (some ⟨g, 0, none⟩) n c) L0 → Rn.Rgs base (set3 (set3 W0 g (a * 3) X) g (b * 3) Y) (.slice (some ⟨g, 0, none⟩) n c) ((L0.set a X).set b Y) ∧ W0.grownBy (set3 (set3 W0 g (a * 3) X) g (b * 3) Y) (some g) := by
        intro W0 a b X Y L0 ha hb h0
        obtain ⟨g1, _, e1, _, _, _, p1, q1⟩ := rn_put h0 ha X
        injection e1 with e1 _ _
        injection e1 with e1
        injection e1 with e1 _ _
        subst e1
        obtain ⟨g2, _, e2, _, _, _, p2, q2⟩ := rn_put p1 (show b < (L0.set a X).length by simpa using hb) Y
        injection e2 with e2 _ _
        injection e2 with e2
        injection e2 with e2 _ _
        subst e2
        exact ⟨p2, only_trans q1 q2 (fun i _ e => e)⟩
      have hLi : L[i]? = acc[i]? := by rw [HK.out i (by omega), if_neg (by omega)]
      have hLJ : L[J]? = acc[J]? := by rw [HK.out J (by omega), if_neg (by omega)]
      have S1 := SW wr i J L[J] L[i] L hiL hJL HR1.out
      have S2 := SW wr J i L[i] L[J] L hJL hiL HR1.out
      have HKN : Hid (∀ k, k < n → ((L.set i L[J]).set J L[i])[k]? = if k < i + 1 ∨ n < k + (i + 1) + 1 then acc[n - 1 - k]? else acc[k]?) := Lib.hid (fun k hk => by
        by_cases e1 : k = J
        · subst e1
          rw [List.getElem?_set_self (by simpa using hJL), if_pos (by omega), show n - 1 - k = i by omega, ← hLi, List.getElem?_eq_getElem hiL]
        · rw [List.getElem?_set_ne (by omega)]
          by_cases e2 : k = i
          · subst e2
            rw [List.getElem?_set_self hiL, if_pos (by omega), show n - 1 - k = J by omega, ← hLJ, List.getElem?_eq_getElem hJL]
          · rw [List.getElem?_set_ne (by omega), HK.out k hk]
            by_cases e3 : k < i ∨ n < k + i + 1
            · rw [if_pos e3, if_pos (by omega)]
            · rw [if_neg e3, if_neg (by omega)])
      have HCM : Hid ((L.set J L[i]).set i L[J] = (L.set i L[J]).set J L[i]) := Lib.hid (List.set_comm _ _ (by omega))
      rw [HCM.out] at S2
      have HLN : Hid (((L.set i L[J]).set J L[i]).length = n) := Lib.hid (by simp [HL.out])
      generalize hL2 : (L.set i L[J]).set J L[i] = L2 at *
      generalize L[i] = X at *
      generalize L[J] = Y at *
      obtain ⟨xa, xb, xc⟩ := X
      obtain ⟨ya, yb, yc⟩ := Y
      unfold set3 at S1 S2
      simp only at S1 S2 i0 i1 i2 k0 k1 k2
      have HS1 := Lib.hid S1
      have HS2 := Lib.hid S2
      have b1 : i < n := by omega
      have b2 : J < n := by omega
      clear SW S1 S2 hcc hrr hLi hLJ HCM hL2 fz hcs hcz hbg hgl HR1 HL HK hiL hJL
      go_upto_region 3 with fail
      go_region
      all_goals go_wp2_with fail
      all_goals
        refine ⟨⟨i + 1, (J : Int) - 1, L2, by push_cast; rfl, rfl, by push_cast; omega, by omega, HLN, HKN, Lib.hid (Rn.Rgs.drew HS1.out.1), Lib.hid (only_drew (only_trans HG.out HS1.out.2 (fun q _ e => by rw [e]; rfl)))⟩, by simp only [intOf]; omega⟩
    · have HF : Hid (L = acc.reverse) := Lib.hid (by
        apply List.ext_getElem?
        intro k
        by_cases hk : k < n
        · rw [HK.out k hk, List.getElem?_reverse (by have := HN.out; omega), ← HN.out]
          split
          · rfl
          · congr 1; omega
        · rw [List.getElem?_eq_none (by have := HL.out; omega), List.getElem?_eq_none (by have := HN.out; simp; omega)])
      have HRF := Lib.hid (HF.out ▸ HR1.out)
      clear HK HL HR1 HF
      go_wp2
      go_end0
      exact ⟨rfl, HRF.out, HG.out⟩
end Go.Proofs.Ytgodphfkhmahnaa.Df
