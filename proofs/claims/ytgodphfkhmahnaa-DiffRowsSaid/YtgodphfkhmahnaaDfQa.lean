/- Diffs: what the law asks of parts. -/
import Derived.Test.YtgodphfkhmahnaaDfPa
import Derived.Test.YtgodphfkhmahnaaTkEq
namespace Go.Proofs.Ytgodphfkhmahnaa.Df
open Go.RowKit Mem Sm Rt Tk Pp
set_option linter.unusedVariables false
set_option linter.unusedSimpArgs false
theorem endOf_take (xs : List PX) (i : Nat) (h : i < xs.length) : endOf (xs.take (i + 1)) = if xs[i].o then xs[i].t else endOf (xs.take i) := by
  rw [List.take_add_one, List.getElem?_eq_getElem h]
  exact endOf_snoc _ _
theorem outOf_take (l : List Tk.Tk) (xs : List PX) (i : Nat) (h : i < xs.length) : outOf l (xs.take (i + 1)) = outOf l (xs.take i) ++ if xs[i].o then cut l xs[i].f xs[i].t else xs[i].ts := by
  rw [List.take_add_one, List.getElem?_eq_getElem h]
  exact outOf_snoc _ _ _
theorem lastO_take (xs : List PX) (i : Nat) (h : i < xs.length) : lastO (xs.take (i + 1)) = some xs[i].o := by
  rw [List.take_add_one, List.getElem?_eq_getElem h]
  exact lastO_snoc _ _
theorem outOf_le (l : List Tk.Tk) (xs : List PX) (i : Nat) : (outOf l (xs.take i)).length ≤ (outOf l xs).length := by
  have : outOf l xs = outOf l (xs.take i) ++ outOf l (xs.drop i) := by
    unfold outOf
    rw [← List.flatMap_append, List.take_append_drop]
  rw [this, List.length_append]
  omega
theorem endOf_le (l : List Tk.Tk) (xs : List PX) (h : Good l xs) : ∀ i, i ≤ xs.length → endOf (xs.take i) ≤ l.length
  | 0, _ => by simp [endOf]
  | i + 1, hi => by
    have := endOf_le l xs h i (by omega)
    rw [endOf_take xs i (by omega)]
    rcases h i (by omega) with ⟨e, _⟩ | ⟨e, _, _, g, _⟩
    · rw [e]; simpa using this
    · rw [e]; simpa using g
set_option maxRecDepth 100000 in
set_option maxHeartbeats 4000000 in
theorem made_any (l m : List Tk.Tk) (A B : Option Addr) (n n' c c' base K : Nat) (P : Option Addr) (cp : Nat) (xs : List PX) (ps : List Pt) (w : World) (hn : n ≤ 150) (hn' : n' ≤ 150) (hc : n ≤ c) (h1 : TRow w A n l) (h2 : TRow w B n' m) (hK : xs.length = K) (hK2 : K ≤ 1000)
    (hr : Rep base w (.slice P K cp) xs ps) (hg : Good l xs) (ho : outOf l xs = m) :
    Calls Try.prog 37 #[.slice A n c, .slice B n' c', .slice P K cp] w fun e w' => e = .returned (.bool true) ∧ Below w.heap.size w w' := by
  have hlp : ps.length = K := by rw [← hK]; exact hr.len
  have HPR : Hid (PRow w P K ps) := Lib.hid (by
    obtain ⟨A', c1, e, _, hrr⟩ := hr.r.row
    rw [hlp] at e hrr
    cases e
    exact hrr)
  have HEA := Lib.hid hr.each
  have HG := Lib.hid hg
  have HO := Lib.hid ho
  have HL := Lib.hid h1
  have HM := Lib.hid h2
  have HLN := Lib.hid h1.1
  have HXK := Lib.hid hK
  have HPK := Lib.hid hlp
  clear hlp hr hg ho h1 h2 hK
  go_enter Try.func37, Try.ntmps37
  go_wp2_with fail
  go_loopw [7, 8, 9] (fun ov ev iv wr => ∃ (i E : Nat) (out : List Tk.Tk), iv = .int .i64 i ∧ i ≤ K ∧ ev = .int .i64 E ∧ Hid (E = endOf (xs.take i)) ∧ Hid (out = outOf l (xs.take i)) ∧ Hid (Below w.heap.size w wr) ∧ Hid (Tks w.heap.size wr ov out) ) (fun _ _ iv _ => K - (intOf iv).toNat)
  case atStart => exact ⟨0, 0, [], rfl, by omega, rfl, Lib.hid (by simp [endOf]), Lib.hid (by simp [outOf]), Lib.hid (Below.refl _ _), Lib.hid Tks.nil⟩
  case round =>
    obtain ⟨i, E, out, rfl, hiK, rfl, HE, HOU, HB, HT⟩ := hrel
    by_cases hlt : i < K
    · have hix : i < xs.length := by rw [HXK.out]; exact hlt
      have hip : i < ps.length := by rw [HPK.out]; exact hlt
      obtain ⟨bp, op, rfl, hbp, hcc⟩ := (HPR.out.below HB.out).2 (by omega)
      obtain ⟨c0, c1, c2, c3⟩ := (hcc i hip).cells
      obtain ⟨e1, e2, e3, e4⟩ := HEA.out i ps[i] xs[i] (List.getElem?_eq_getElem hip) (List.getElem?_eq_getElem hix)
      have hfit := HG.out i hix
      have HET := Lib.hid (endOf_take xs i hix)
      have HOT := Lib.hid (outOf_take l xs i hix)
      have HPV : Hid (i = 0 ∨ ∃ j, i = j + 1 ∧ ∃ o, wr.cell? ⟨bp, op + j * 4, none⟩ = some (.bool o) ∧ lastO (xs.take i) = some o) := Lib.hid (by
        rcases Nat.eq_zero_or_pos i with g | g
        · exact .inl g
        · obtain ⟨j, rfl⟩ : ∃ j, i = j + 1 := ⟨i - 1, by omega⟩
          have hjx : j < xs.length := by omega
          have hjp : j < ps.length := by omega
          obtain ⟨d0, _⟩ := (hcc j hjp).cells
          obtain ⟨f1, _⟩ := HEA.out j ps[j] xs[j] (List.getElem?_eq_getElem hjp) (List.getElem?_eq_getElem hjx)
          exact .inr ⟨j, rfl, xs[j].o, by rw [← f1]; exact d0, lastO_take xs j hjx⟩)
      generalize xs[i] = X at *
      generalize ps[i] = p at *
      obtain ⟨po, pf, pt, pA, pn, pc⟩ := p
      obtain ⟨xo, xf, xt, ts⟩ := X
      simp only at e1 e2 e3 e4 c0 c1 c2 c3
      subst e1; subst e2; subst e3
      have hTR : TRow w pA pn ts := by
        obtain ⟨A', c1, e, _, hrr⟩ := e4.row
        cases e
        exact hrr
      have HTR := Lib.hid hTR
      have hTN := hTR.1
      have HX6 := Lib.hid (heap_alloc_new wr (.cells #[.bool po, .int .i64 xf, .int .i64 xt, .slice pA pn pc] 75))
      have hb6 := (Below.refl wr.heap.size wr).alloc (Nat.le_refl _) (.cells #[.bool po, .int .i64 xf, .int .i64 xt, .slice pA pn pc] 75)
      have HB6 := Lib.hid (HB.out.trans (hb6.mono HB.out.size))
      have HT6 := Lib.hid (HT.out.belowAll hb6)
      have hsz := HB6.out.size
      clear e4 hTR hb6 HB HT hcc hix hip
      have HOL : Hid (∀ k, (outOf l (xs.take k)).length ≤ 150) := Lib.hid (fun k => by
        have h1 := outOf_le l xs k
        have h2 := HM.out.1
        rw [HO.out] at h1
        omega)
      cases po with
      | false =>
        rcases hfit with ⟨_, hts, hlast, z1, z2⟩ | ⟨g, _⟩
        · have hts2 : 0 < ts.length := List.length_pos_iff.2 hts
          have hpn : 0 < pn := by rw [← hTN]; exact hts2
          have q0 : ((pn : Int) == 0) = false := by simp; omega
          have q1 : ¬ ((pn : Int) = 0) := by omega
          have HO2 : Hid (out ++ ts = outOf l (xs.take (i + 1))) := Lib.hid (by rw [HOT.out, ← HOU.out]; simp)
          have HE2 : Hid (E = endOf (xs.take (i + 1))) := Lib.hid (by rw [HET.out]; simpa using HE.out)
          have hbig : out.length + pn ≤ 1000000000 := by
            have h1 := HOL.out (i + 1)
            rw [← HO2.out, List.length_append] at h1
            omega
          have HTR6 := Lib.hid (HTR.out.below HB6.out)
          have HHL := Lib.hid hlast
          clear z1 z2 hts hts2 hTN hlast HET HOT HOU HE HTR HOL
          rcases HPV.out with g | ⟨j, g, o, d0, d1⟩
          · have q2 : ¬ ((i : Int) > 0) := by omega
            clear g
            go_wp2_with (at_builtin; (refine wpList_app_tk rfl (.tmp 41) (.tmp 43) rfl w.heap.size u7 out rfl HT6.out pA pn pc ts rfl HTR6.out hbig hsz ?_); intro v' w9 hown hg hat; have HT9 := Lib.hid hown; have HB9 := Lib.hid (below_of_grown HB6.out hg HB6.out.size (fun q e => (HT6.out.block q e).1)); clear hown hg hat)
            exact ⟨⟨i + 1, E, out ++ ts, by push_cast; rfl, by omega, rfl, HE2, HO2, HB9, HT9⟩, by simp only [intOf]; omega⟩
          · subst g
            have ho : o = true := by
              cases o with
              | true => rfl
              | false => exact absurd d1 HHL.out
            subst ho
            have q2 : ((j : Int) + 1) > 0 := by omega
            clear d1 HHL
            go_wp2_with (at_builtin; (refine wpList_app_tk rfl (.tmp 41) (.tmp 43) rfl w.heap.size u7 out rfl HT6.out pA pn pc ts rfl HTR6.out hbig hsz ?_); intro v' w9 hown hg hat; have HT9 := Lib.hid hown; have HB9 := Lib.hid (below_of_grown HB6.out hg HB6.out.size (fun q e => (HT6.out.block q e).1)); clear hown hg hat)
            exact ⟨⟨j + 1 + 1, E, out ++ ts, by push_cast; rfl, by omega, rfl, HE2, HO2, HB9, HT9⟩, by simp only [intOf]; omega⟩
        · cases g
      | true =>
        rcases hfit with ⟨g, _⟩ | ⟨_, z1, z2, z3, z4, z5⟩
        · cases g
        · have hEE := HE.out
          rw [← hEE] at z1 z4
          rw [HLN.out] at z3
          dsimp only at z1 z2 z3 z4
          have r0 : ¬ ((xf : Int) < (E : Int)) := by omega
          have r1 : ¬ ((xt : Int) ≤ (xf : Int)) := by omega
          have r2 : ¬ ((xt : Int) > (n : Int)) := by omega
          have n0 : (0 : Int) ≤ (xf : Int) := by omega
          have n1 : (xf : Int) ≤ (xt : Int) := by omega
          have n2 : (xt : Int) ≤ (c : Int) := by omega
          have hcx : ¬ c = xf := by omega
          have HCU : Hid (TRow (wr.alloc (.cells #[.bool true, .int .i64 xf, .int .i64 xt, .slice pA pn pc] 75)) (A.map (·.add (xf * 12))) (xt - xf) (cut l xf xt)) := Lib.hid (by
            have t := trow_cut (HL.out.below HB6.out) hc (f := xf) (h := xt) (by omega) (by omega)
            unfold cutA at t
            rw [if_neg hcx] at t
            exact t)
          have HO2 : Hid (out ++ cut l xf xt = outOf l (xs.take (i + 1))) := Lib.hid (by rw [HOT.out, ← HOU.out]; simp)
          have HE2 : Hid (xt = endOf (xs.take (i + 1))) := Lib.hid (by rw [HET.out]; simp)
          have hbig : out.length + (xt - xf) ≤ 1000000000 := by
            have h1 := HOL.out i
            rw [← HOU.out] at h1
            omega
          have HZ4 := Lib.hid z4
          clear z1 z2 z3 z4 z5 hTN hEE HET HOT HOU HE HTR HOL
          rcases HPV.out with g | ⟨j, g, o, d0, d1⟩
          · have q2 : ¬ ((i : Int) > 0) := by omega
            clear g
            go_wp2_with (at_builtin; (refine wpList_app_tk rfl (.tmp 83) (.tmp 89) rfl w.heap.size u7 out rfl HT6.out (A.map (·.add (xf * 12))) (xt - xf) (c - xf) (cut l xf xt) rfl HCU.out hbig hsz ?_); intro v' w9 hown hg hat; have HT9 := Lib.hid hown; have HB9 := Lib.hid (below_of_grown HB6.out hg HB6.out.size (fun q e => (HT6.out.block q e).1)); clear hown hg hat)
            exact ⟨⟨i + 1, xt, _, by push_cast; rfl, by omega, rfl, HE2, HO2, HB9, HT9⟩, by simp only [intOf]; omega⟩
          · subst g
            have q2 : ((j : Int) + 1) > 0 := by omega
            cases o with
            | false =>
              clear d1 HZ4
              go_wp2_with (at_builtin; (refine wpList_app_tk rfl (.tmp 83) (.tmp 89) rfl w.heap.size u7 out rfl HT6.out (A.map (·.add (xf * 12))) (xt - xf) (c - xf) (cut l xf xt) rfl HCU.out hbig hsz ?_); intro v' w9 hown hg hat; have HT9 := Lib.hid hown; have HB9 := Lib.hid (below_of_grown HB6.out hg HB6.out.size (fun q e => (HT6.out.block q e).1)); clear hown hg hat)
              exact ⟨⟨j + 1 + 1, xt, _, by push_cast; rfl, by omega, rfl, HE2, HO2, HB9, HT9⟩, by simp only [intOf]; omega⟩
            | true =>
              have hne : xf ≠ E := fun e => HZ4.out ⟨d1, e⟩
              have q3 : ((xf : Int) == (E : Int)) = false := by simp; omega
              have q4 : ¬ ((xf : Int) = (E : Int)) := by omega
              clear d1 HZ4 hne
              go_wp2_with (at_builtin; (refine wpList_app_tk rfl (.tmp 83) (.tmp 89) rfl w.heap.size u7 out rfl HT6.out (A.map (·.add (xf * 12))) (xt - xf) (c - xf) (cut l xf xt) rfl HCU.out hbig hsz ?_); intro v' w9 hown hg hat; have HT9 := Lib.hid hown; have HB9 := Lib.hid (below_of_grown HB6.out hg HB6.out.size (fun q e => (HT6.out.block q e).1)); clear hown hg hat)
              exact ⟨⟨j + 1 + 1, xt, _, by push_cast; rfl, by omega, rfl, HE2, HO2, HB9, HT9⟩, by simp only [intOf]; omega⟩
    · have hiK2 : i = xs.length := by rw [HXK.out]; omega
      have hou := HOU.out
      rw [hiK2, List.take_length, HO.out] at hou
      subst hou
      obtain ⟨Ao, co, hov, hoc, hrow⟩ := HT.out.row
      have hmn := HM.out.1
      have HRS := Lib.hid (rsame_any out out Ao B out.length n' co c' wr hrow (HM.out.below HB.out) (by omega) (by omega))
      have HBB := HB
      simp only [decide_true] at HRS
      subst hov
      generalize out.length = No at *
      clear hiK2 hrow hmn hoc HT HB HOU HO HE HM
      go_wp2_with fail
      refine HRS.out.mono ?_
      rintro e w9 ⟨rfl, q, rfl⟩
      go_wp2
      go_ret
      exact ⟨rfl, below_drewN HBB.out q⟩
end Go.Proofs.Ytgodphfkhmahnaa.Df
