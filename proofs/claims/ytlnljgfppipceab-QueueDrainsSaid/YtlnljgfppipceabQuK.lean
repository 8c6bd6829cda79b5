/- Walks of the reference of queue: Without. -/
import Derived.Test.YtlnljgfppipceabQuJ
namespace Go.Proofs.Ytlnljgfppipceab.Qu
open Go.RowKit Mem
set_option linter.unusedVariables false

theorem one_cells2 (g : List It) : ∀ u ∈ cells2 g, u.oneCell' = true := by
  intro u hu
  obtain ⟨a, _, h⟩ := List.mem_flatMap.1 hu
  simp only [List.mem_cons, List.not_mem_nil, or_false] at h
  rcases h with rfl | rfl <;> rfl
theorem run_app2 {w : World} (base : Nat) (ty : TypeId) {v : Value} {g : List It} (hown : POwn base w v g) (ad : Addr) (m c : Nat) (g2 : List It) (hm : g2.length = m)
    (hnews : ∀ j u, (cells2 g2)[j]? = some u → w.cell? (ad.add j) = some u) (hbig : g.length + m ≤ 10000) (hbase : base ≤ w.heap.size) :
    ∃ v' w', (Builtin.append_ #[33, 33] ty #[v, .slice (some ad) m c]).run Try.prog w = .ok v' w' ∧ POwn base w' v' (g ++ g2) ∧ w.grownBy w' v.ownBlock ∧ (v'.ownBlock = v.ownBlock ∨ v'.ownBlock = some w.heap.size) := by
  obtain ⟨i, hi, hz, hs1, hs2⟩ := info_parts info_one
  obtain ⟨v', w', h1, h2, h3, _, h5⟩ := run_append_own_at (P := Try.prog) w base 33 ty 37 i (.agg #[.int .i64 0, .int .i64 0]) 2 16 Try.underlying33 hi hz hs1 hs2 rfl (by omega) v g.length (cells2 g) hown ad m c (cells2 g2)
    (by rw [cells2_length, hm]) hnews (one_cells2 g2) (by simp only [maxLen]; omega) (by omega) hbase
  refine ⟨v', w', h1, ?_, h3, h5⟩
  unfold POwn
  rw [List.length_append, cells2_append, hm]
  exact h2
theorem wpList_app2 {w : World} {ops : Array Oper} {rest : List Oper} {o : Oper} {a : Act} {R : Exit → Act → World → Prop} (hgd : o.guard = none) (s x : Operand)
    (ho : o.op = .call { callee := .builtin .append, args := #[s, x], argTypes := #[33, 33] })
    (base : Nat) (v : Value) (g : List It) (hs : a.eval s = v) (hown : POwn base w v g) (ad : Addr) (m c : Nat) (g2 : List It) (hx : a.eval x = .slice (some ad) m c) (hm : g2.length = m)
    (hnews : ∀ j u, (cells2 g2)[j]? = some u → w.cell? (ad.add j) = some u) (hbig : g.length + m ≤ 10000) (hbase : base ≤ w.heap.size)
    (h : ∀ v' w', POwn base w' v' (g ++ g2) → w.grownBy w' v.ownBlock → (v'.ownBlock = v.ownBlock ∨ v'.ownBlock = some w.heap.size) → wpList Try.prog ops R rest (a.put o.dst v') w') :
    wpList Try.prog ops R (o :: rest) a w := by
  refine wpList_plain hgd fun K hK => ?_
  obtain ⟨v', w', hrun, h2, h3, h4⟩ := run_app2 base o.type hown ad m c g2 hm hnews hbig hbase
  unfold Oper.wp
  simp [execOp, ho, resolve, invoke, builtin, hs, hx, hrun, Result.andThen]
  exact hK _ _ (h v' w' h2 h3 h4)
theorem news_part {W : World} {b : Nat} {g : List It} {n : Nat} (hn : g.length = n) (hc : ∀ i, i < n → W.cell? ⟨b, i * 2, none⟩ = some (.int .i64 (at_ g i).key) ∧ W.cell? ⟨b, i * 2 + 1, none⟩ = some (.int .i64 (at_ g i).thing)) (i m : Nat) (him : i + m ≤ n) :
    ∀ j u, (cells2 ((g.drop i).take m))[j]? = some u → W.cell? ((⟨b, i * 2, none⟩ : Addr).add j) = some u := by
  intro j u hu
  have hj : j < (cells2 ((g.drop i).take m)).length := by
    rcases Nat.lt_or_ge j (cells2 ((g.drop i).take m)).length with h | h
    · exact h
    · rw [List.getElem?_eq_none h] at hu; cases hu
  have hl : ((g.drop i).take m).length = m := by rw [List.length_take, List.length_drop]; omega
  rw [cells2_length, hl] at hj
  have hp : (⟨b, i * 2, none⟩ : Addr).add j = ⟨b, i * 2 + j, none⟩ := by unfold Addr.add; split <;> simp_all
  have he : at_ ((g.drop i).take m) (j / 2) = at_ g (i + j / 2) := by
    unfold at_
    rw [List.getD, List.getD, List.getElem?_take, if_pos (by omega), List.getElem?_drop]
  obtain ⟨e0, e1⟩ := cells2_at ((g.drop i).take m) (j / 2) (by rw [hl]; omega)
  rw [he] at e0 e1
  obtain ⟨c0, c1⟩ := hc (i + j / 2) (by omega)
  rw [hp]
  rcases (show j = j / 2 * 2 ∨ j = j / 2 * 2 + 1 by omega) with h | h
  · rw [h] at hu
    rw [e0] at hu
    rw [show i * 2 + j = (i + j / 2) * 2 from by omega, c0, ← hu]
  · rw [h] at hu
    rw [e1] at hu
    rw [show i * 2 + j = (i + j / 2) * 2 + 1 from by omega, c1, ← hu]

set_option maxRecDepth 100000 in
set_option maxHeartbeats 2000000 in
theorem without_any {base : Nat} (v : Value) (g : List It) (i : Nat) (w : World) (hl : POwn base w v g) (hi : i < g.length) (hn : g.length ≤ 900) :
    Calls Try.prog 11 #[v, .int .i64 i] w fun e w' => ∃ v', e = .returned v' ∧ POwn w.heap.size w' v' (g.eraseIdx i) ∧ Below w.heap.size w w' := by
  obtain ⟨b, cap, rfl, _, hb, hnc, hcm, hc⟩ := hl.opn (by omega)
  obtain ⟨n, hnn⟩ : ∃ n, n = g.length := ⟨_, rfl⟩
  rw [← hnn] at hn hc hi hnc ⊢
  have HG := Lib.hid hnn.symm
  have ho1 : POwn w.heap.size (w.alloc (.cells #[] 37)) (.slice (some ⟨w.heap.size, 0, none⟩) 0 0) [] := World.ownsRow_made w #[] 0 (Nat.le_refl _) (by unfold maxLen; omega) rfl
  have HO1 := Lib.hid ho1
  have hb1 : Below w.heap.size w (w.alloc (.cells #[] 37)) := (Below.refl _ w).alloc (Nat.le_refl _) _
  have HB1 := Lib.hid hb1
  have HC := Lib.hid hc
  have hn1 := news_part (W := w.alloc (.cells #[] 37)) (b := b) hnn.symm (fun k hk => ⟨(hb1.cell (p := ⟨b, k * 2, none⟩) hb).trans (hc k hk).1, (hb1.cell (p := ⟨b, k * 2 + 1, none⟩) hb).trans (hc k hk).2⟩) 0 i (by omega)
  simp only [Nat.zero_mul, List.drop_zero] at hn1
  have HN1 := Lib.hid hn1
  have htl : (g.take i).length = i := by rw [List.length_take]; omega
  have HTL := Lib.hid htl
  unfold maxLen at hcm
  have k1 : (0 : Int) ≤ (i : Int) := by omega
  have k2 : (i : Int) ≤ (cap : Int) := by omega
  have k3 : (i : Int) + 1 ≤ (n : Int) := by omega
  clear hl hc hnn ho1 hb1 hn1 htl
  by_cases hce : cap = i + 1
  · subst hce
    obtain rfl : n = i + 1 := by omega
    have hn2 : ∀ (j : Nat) (u : Value), (cells2 ([] : List It))[j]? = some u → False := fun j u h => by simp [cells2] at h
    go_enter Try.func11, Try.ntmps11
    go_wp2_with (first
      | (at_builtin; (refine wpList_app2 rfl (.tmp 6) (.tmp 9) rfl w.heap.size _ [] rfl HO1.out ⟨b, 0, none⟩ i (i + 1) (g.take i) rfl HTL.out HN1.out (by simp; omega) (by simp) ?_); intro v1 w1 ho2 hg2 hat2; rw [List.nil_append] at ho2; have HO2 := Lib.hid ho2; have HB2 := Lib.hid (HB1.out.grown hg2 (by simp) (fun k hk => (World.ownsRow.lt HO1.out k hk).1)); clear ho2 hg2 hat2)
      | (at_builtin; (refine wpList_app2 rfl (.tmp 11) (.tmp 15) rfl w.heap.size _ (g.take i) rfl HO2.out _ 0 _ [] rfl rfl (fun j u h => (hn2 j u h).elim) (by rw [HTL.out]; omega) HB2.out.size ?_); intro v2 w2 ho3 hg3 hat3; have HO3 := Lib.hid ho3; have HB3 := Lib.hid (HB2.out.grown hg3 HB2.out.size (fun k hk => (World.ownsRow.lt HO2.out k hk).1)); clear ho3 hg3 hat3))
    go_ret
    refine ⟨_, rfl, ?_, HB3.out⟩
    have e : g.eraseIdx i = g.take i ++ [] := by
      rw [List.eraseIdx_eq_take_drop_succ, List.drop_of_length_le (by rw [HG.out]; omega)]
    rw [e]
    exact HO3.out
  · have k4 : (i : Int) + 1 < (cap : Int) := by omega
    have hdl : (g.drop (i + 1)).length = n - (i + 1) := by rw [List.length_drop, HG.out]
    have HDL := Lib.hid hdl
    clear hce hdl
    go_enter Try.func11, Try.ntmps11
    go_wp2_with (first
      | (at_builtin; (refine wpList_app2 rfl (.tmp 6) (.tmp 9) rfl w.heap.size _ [] rfl HO1.out ⟨b, 0, none⟩ i cap (g.take i) rfl HTL.out HN1.out (by simp; omega) (by simp) ?_); intro v1 w1 ho2 hg2 hat2; rw [List.nil_append] at ho2; have HO2 := Lib.hid ho2; have HB2 := Lib.hid (HB1.out.grown hg2 (by simp) (fun k hk => (World.ownsRow.lt HO1.out k hk).1)); have HN2 := Lib.hid (news_part (W := w1) (b := b) HG.out (fun k hk => ⟨(HB2.out.cell (p := ⟨b, k * 2, none⟩) hb).trans (HC.out k hk).1, (HB2.out.cell (p := ⟨b, k * 2 + 1, none⟩) hb).trans (HC.out k hk).2⟩) (i + 1) (n - (i + 1)) (by omega)); clear ho2 hg2 hat2)
      | (at_builtin; (refine wpList_app2 rfl (.tmp 11) (.tmp 15) rfl w.heap.size _ (g.take i) rfl HO2.out ⟨b, (i + 1) * 2, none⟩ (n - (i + 1)) (cap - (i + 1)) ((g.drop (i + 1)).take (n - (i + 1))) rfl (by rw [List.length_take, HDL.out]; omega) HN2.out (by rw [HTL.out]; omega) HB2.out.size ?_); intro v2 w2 ho3 hg3 hat3; have HO3 := Lib.hid ho3; have HB3 := Lib.hid (HB2.out.grown hg3 HB2.out.size (fun k hk => (World.ownsRow.lt HO2.out k hk).1)); clear ho3 hg3 hat3))
    go_ret
    refine ⟨_, rfl, ?_, HB3.out⟩
    have e : g.eraseIdx i = g.take i ++ (g.drop (i + 1)).take (n - (i + 1)) := by
      rw [List.eraseIdx_eq_take_drop_succ, List.take_of_length_le (l := g.drop (i + 1)) (by rw [HDL.out]; omega)]
    rw [e]
    exact HO3.out
end Go.Proofs.Ytlnljgfppipceab.Qu
