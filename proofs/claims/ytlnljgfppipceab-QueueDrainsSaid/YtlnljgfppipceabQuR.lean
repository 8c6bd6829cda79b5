/- The law QueueDrains, walked. -/
import Derived.Test.YtlnljgfppipceabQuQ
namespace Go.Proofs.Ytlnljgfppipceab.Qu
open Go.RowKit Go.Shelf Mem
set_option linter.unusedVariables false

/-- what is left when all has been told -/
structure End (w : World) (fb nb wb : Nat) (kk : Int) (L : Nat) (vw : Value) (W : World) : Prop where
  f : Boxed W fb 4 (.bool true)
  n : Boxed W nb 3 (.int .i64 kk)
  wv : Boxed W wb 33 vw
  q : ∃ g p, g.length = L ∧ G w.heap.size W (w.heap.size + 1 + 1) g p
  bel : Below w.heap.size w W
section
variable {w W W' : World} {fb nb wb L : Nat} {kk : Int} {vw : Value}
theorem End.step (h : End w fb nb wb kk L vw W) (hb : Below W.heap.size W W') : End w fb nb wb kk L vw W' :=
  ⟨(hb.block _ h.f.lt).trans h.f, (hb.block _ h.n.lt).trans h.n, (hb.block _ h.wv.lt).trans h.wv, by obtain ⟨g, p, e, q⟩ := h.q; exact ⟨g, p, e, q.below hb⟩, h.bel.trans (hb.mono h.bel.size)⟩
theorem End.drew (h : End w fb nb wb kk L vw W) : End w fb nb wb kk L vw W.drew := h.step (Below.refl _ _).drew
theorem hold_of (h : End w fb nb wb kk L vw W) : W.cell? ⟨fb, 0, none⟩ = some (.bool true) ∧ W.cell? ⟨nb, 0, none⟩ = some (.int .i64 kk) ∧ W.cell? ⟨wb, 0, none⟩ = some vw ∧ End w fb nb wb kk L vw W := ⟨h.f.cell, h.n.cell, h.wv.cell, h⟩
theorem hold_keep (h : W.cell? ⟨fb, 0, none⟩ = some (.bool true) ∧ W.cell? ⟨nb, 0, none⟩ = some (.int .i64 kk) ∧ W.cell? ⟨wb, 0, none⟩ = some vw ∧ End w fb nb wb kk L vw W) : End w fb nb wb kk L vw W := h.2.2.2
theorem hold_step (h : W.cell? ⟨fb, 0, none⟩ = some (.bool true) ∧ W.cell? ⟨nb, 0, none⟩ = some (.int .i64 kk) ∧ W.cell? ⟨wb, 0, none⟩ = some vw ∧ End w fb nb wb kk L vw W) (hb : Below W.heap.size W W') :
    W'.cell? ⟨fb, 0, none⟩ = some (.bool true) ∧ W'.cell? ⟨nb, 0, none⟩ = some (.int .i64 kk) ∧ W'.cell? ⟨wb, 0, none⟩ = some vw ∧ End w fb nb wb kk L vw W' := hold_of (h.2.2.2.step hb)
theorem len_keep (h : W.cell? ⟨fb, 0, none⟩ = some (.bool true) ∧ W.cell? ⟨nb, 0, none⟩ = some (.int .i64 kk) ∧ W.cell? ⟨wb, 0, none⟩ = some vw ∧ End w fb nb wb kk L vw W) :
    Calls Try.prog 8 #[.pointer (some ⟨w.heap.size + 1 + 1, 0, none⟩)] W fun e W' => e = .returned (.int .i64 L) ∧ Below W.heap.size W W' := by
  obtain ⟨g, p, rfl, q⟩ := h.2.2.2.q
  exact (glen _ g p W q).mono fun e W' ⟨he, hw⟩ => ⟨he, hw ▸ Below.refl _ _⟩
theorem live_keep (h : W.cell? ⟨fb, 0, none⟩ = some (.bool true) ∧ W.cell? ⟨nb, 0, none⟩ = some (.int .i64 kk) ∧ W.cell? ⟨wb, 0, none⟩ = some vw ∧ End w fb nb wb kk L vw W) :
    Calls Try.prog 9 #[] W fun e W' => e = .returned (.bool true) ∧ Below W.heap.size W W' := live_any W
end
theorem rsorted_both {base : Nat} (v : Value) (g : List It) (w : World) (hl : POwn base w v g) (hn : g.length ≤ 300) (h0 : g = [] → v = .slice none 0 0) :
    Calls Try.prog 12 #[v] w fun e w' => ∃ v', e = .returned v' ∧ POwn w.heap.size w' v' (outs g g.length) ∧ Below w.heap.size w w' := by
  by_cases h : g = []
  · rw [h0 h, h]
    exact (rsorted_nil w).mono fun e w' ⟨he, hb⟩ => ⟨_, he, POwn.nil, hb⟩
  · exact rsorted_any v g w hl hn (List.length_pos_iff.2 h)
theorem thing_getD (g : List It) (j : Nat) (h : j < g.length) : (g.map (·.thing)).getD j 0 = (at_ g j).thing := by simp [List.getD, at_, h]
theorem left_same (n : Nat) : ∀ k, k ≤ n → left (its (fun _ => 0) n) k = (its (fun _ => 0) n).drop k
  | 0, _ => rfl
  | k + 1, h => by
    have ih := left_same n k (by omega)
    have hl := its_length (fun _ => (0 : Int)) n
    have hi := left_first (its (fun _ => 0) n) k (by omega)
    have h0 : firstIx (left (its (fun _ => 0) n) k) = 0 := by
      rcases Nat.eq_zero_or_pos (firstIx (left (its (fun _ => 0) n) k)) with h | h
      · exact h
      · exfalso
        have a1 := hi.2.2 0 h
        have key0 : ∀ c, (at_ (left (its (fun _ => 0) n) k) c).key = 0 := by
          intro c
          by_cases hc : c < (left (its (fun _ => 0) n) k).length
          · have hm := left_sub _ _ _ (at_mem hc)
            obtain ⟨q, _, hq⟩ := List.mem_map.1 hm
            rw [← hq]
          · simp only [at_, List.getD]
            rw [List.getElem?_eq_none (by omega)]
            rfl
        rw [key0, key0] at a1
        omega
    show (left _ k).eraseIdx _ = _
    rw [h0, ih]
    rw [List.eraseIdx_zero, List.tail_drop]
theorem same_thing (n j : Nat) (h : j < n) : (at_ (outs (its (fun _ => 0) n) n) j).thing = j := by
  have hl := its_length (fun _ => (0 : Int)) n
  have hi := left_first (its (fun _ => 0) n) j (by omega)
  have hk := left_same n j (by omega)
  have hs := left_same n (j + 1) (by omega)
  rw [at_outs _ _ _ h]
  unfold nth
  have h0 : firstIx (left (its (fun _ => 0) n) j) = 0 := by
    rcases Nat.eq_zero_or_pos (firstIx (left (its (fun _ => 0) n) j)) with h | h
    · exact h
    · exfalso
      have a1 := hi.2.2 0 h
      have key0 : ∀ c, (at_ (left (its (fun _ => 0) n) j) c).key = 0 := by
        intro c
        by_cases hc : c < (left (its (fun _ => 0) n) j).length
        · have hm := left_sub _ _ _ (at_mem hc)
          obtain ⟨q, _, hq⟩ := List.mem_map.1 hm
          rw [← hq]
        · simp only [at_, List.getD]
          rw [List.getElem?_eq_none (by omega)]
          rfl
      rw [key0, key0] at a1
      omega
  rw [h0, hk]
  simp [at_, List.getD, its, h]

theorem wrap_left (j q L : Nat) (hL : L = j - q) (hq : q ≤ j) (hj : j ≤ 300) : IntKind.i64.wrap ((j : Int) - (q : Int)) = (L : Int) := by
  rw [IntKind.wrap_i64]; omega
theorem wrap_zero : IntKind.i64.wrap 0 = 0 := by rw [IntKind.wrap_i64]; omega
set_option maxRecDepth 1000000 in
set_option maxHeartbeats 8000000 in
theorem drains_big (A : Option Addr) (n c : Nat) (zs : List Int) (mo : Int) (w : World) (hr : Row .i64 w A n zs) (hmo0 : 0 ≤ mo) (hmo1 : mo ≤ 255) (hbig : 200 < n) :
    Calls Try.prog 4 #[.slice A n c, .int .u8 mo] w fun e w' => e = .returned (.bool true) ∧ Below w.heap.size w w' := by
  have HR := Lib.hid hr
  obtain ⟨i0, hi, hz0, hz1, hz2⟩ := info_parts info_i64
  clear hr
  have hb0 := (Below.refl _ w).alloc (Nat.le_refl _) (.cells #[.slice A n c] 41)
  have hbx := Boxed.new w 41 (.slice A n c)
  have hmx := Boxed.new (w.alloc (.cells #[.slice A n c] 41)) 5 (.int .u8 mo)
  simp only [World.size_alloc] at hmx
  have hb1 := hb0.alloc (by simp) (.cells #[.int .u8 mo] 5)
  have HB := Lib.hid hb1
  have hc0 := (hbx.alloc (.cells #[.int .u8 mo] 5)).cell
  clear hbx hmx hb0 hb1
  go_enter Try.func4, Try.ntmps4
  go_wp2_with (go_at_call 9; refine (live_any _).mono ?_; rintro e w' ⟨rfl, hb⟩; have HB2 := Lib.hid (HB.out.trans (hb.mono HB.out.size)); clear hb)
  go_ret
  exact ⟨rfl, HB2.out⟩
end Go.Proofs.Ytlnljgfppipceab.Qu
