/- Walks of smap: fits, May, a shifted range's end, at, behind. -/
import Derived.Test.YtgodphfkhmahnaaReg
import Derived.Deep.Cut
import Derived.Deep.CutRange
namespace Go.Proofs.Ytgodphfkhmahnaa.Sm
open Go.RowKit Mem
set_option linter.unusedVariables false

theorem fits_any (x : Int) (w : World) : Calls Try.prog 86 #[.int .i64 x] w fun e w' => e = .returned (.bool (decide (0 ≤ x) && decide (x ≤ 1073741824))) ∧ w = w' := by
  by_cases h : 0 ≤ x
  · go_enter Try.func86, Try.ntmps86
    go_wp2
    go_ret
    exact ⟨ret_bool (by simp [h]), rfl⟩
  · go_enter Try.func86, Try.ntmps86
    go_wp2
    go_ret
    exact ⟨ret_bool (by simp; omega), rfl⟩
/-- a shifted range, as it lies in memory -/
def shO (r : Rg) (s : Int) : Obj := .cells #[.int .i64 r.at_, .int .i64 r.old, .int .i64 r.new, .int .i64 s] 159
def shV (r : Rg) (s : Int) : Value := .agg #[.int .i64 r.at_, .int .i64 r.old, .int .i64 r.new, .int .i64 s]
def far (s : Int) : Prop := -1099511627776 ≤ s ∧ s ≤ 1099511627776
theorem end_any (r : Rg) (s : Int) (hr : r.fits) (w : World) : Calls Try.prog 91 #[shV r s] w fun e w' => e = .returned (.int .i64 (r.at_ + r.old)) ∧ w' = w.alloc (shO r s) := by
  obtain ⟨a, o, n⟩ := r
  unfold Rg.fits at hr
  unfold shV shO
  simp only at hr ⊢
  go_enter Try.func91, Try.ntmps91
  go_wp2
  go_ret
  exact ⟨rfl, rfl⟩
theorem at_any (r : Rg) (s : Int) (hr : r.fits) (hs : far s) (w : World) : Calls Try.prog 94 #[shV r s] w fun e w' => e = .returned (.int .i64 (r.at_ + s)) ∧ w' = w.alloc (shO r s) := by
  obtain ⟨a, o, n⟩ := r
  unfold Rg.fits at hr
  unfold far at hs
  unfold shV shO
  simp only at hr ⊢
  go_enter Try.func94, Try.ntmps94
  go_wp2
  go_ret
  exact ⟨rfl, rfl⟩
theorem behind_any (r : Rg) (s : Int) (hr : r.fits) (hs : far s) (w : World) : Calls Try.prog 92 #[shV r s] w fun e w' => e = .returned (.int .i64 (s + r.new - r.old)) ∧ w' = w.alloc (shO r s) := by
  obtain ⟨a, o, n⟩ := r
  unfold Rg.fits at hr
  unfold far at hs
  unfold shV shO
  simp only at hr ⊢
  go_enter Try.func92, Try.ntmps92
  go_wp2
  go_ret
  exact ⟨rfl, rfl⟩

set_option maxHeartbeats 1000000 in
theorem has_any (r : Rg) (s pos side : Int) (hr : r.fits) (w : World) : Calls Try.prog 109 #[shV r s, .int .i64 pos, .int .i64 side] w fun e w' => e = .returned (.bool (goneB r pos side)) ∧ Below w.heap.size w w' := by
  have CE := fun W => end_any r s hr W
  obtain ⟨a, o, n⟩ := r
  unfold goneB
  unfold shV shO at *
  simp only at CE ⊢
  clear hr
  by_cases h : side < 0
  · rw [if_pos h]
    by_cases h2 : a < pos
    · go_enter Try.func109, Try.ntmps109
      go_wp2_with (go_at_call 91; refine (CE _).mono ?_; rintro e w' ⟨rfl, rfl⟩)
      go_ret
      exact ⟨ret_bool (by simp [h2]), ((Below.refl _ _).alloc (Nat.le_refl _) _).alloc (by simp) _⟩
    · go_enter Try.func109, Try.ntmps109
      go_wp2
      go_ret
      exact ⟨ret_bool (by simp; omega), ((Below.refl _ _).alloc (Nat.le_refl _) _)⟩
  · rw [if_neg h]
    by_cases h2 : a ≤ pos
    · go_enter Try.func109, Try.ntmps109
      go_wp2_with (go_at_call 91; refine (CE _).mono ?_; rintro e w' ⟨rfl, rfl⟩)
      go_ret
      exact ⟨ret_bool (by simp [h2]), ((Below.refl _ _).alloc (Nat.le_refl _) _).alloc (by simp) _⟩
    · go_enter Try.func109, Try.ntmps109
      go_wp2
      go_ret
      exact ⟨ret_bool (by simp; omega), ((Below.refl _ _).alloc (Nat.le_refl _) _)⟩

set_option maxHeartbeats 1000000 in
theorem to_any (r : Rg) (s pos side : Int) (hr : r.fits) (hs : far s) (w : World) : Calls Try.prog 108 #[shV r s, .int .i64 pos, .int .i64 side] w fun e w' => e = .returned (.int .i64 (toI r s pos side)) ∧ Below w.heap.size w w' := by
  have CE := fun W => end_any r s hr W
  have CA := fun W => at_any r s hr hs W
  obtain ⟨a, o, n⟩ := r
  obtain ⟨z, hz⟩ : ∃ z, z = toI ⟨a, o, n⟩ s pos side := ⟨_, rfl⟩
  have HZ := Lib.hid hz
  rw [← hz]
  clear hz
  unfold Rg.fits at hr
  unfold far at hs
  unfold shV shO at *
  simp only at CE CA hr ⊢
  go_enter Try.func108, Try.ntmps108
  go_upto_region 1 with fail
  go_cut [7, 8] from 9 to 16 (fun u v wx => u = .bool (decide (side ≥ 0)) ∧ v = .int .i64 (a + s + n) ∧ wx = ((w.alloc (Obj.cells #[Value.int IntKind.i64 a, Value.int IntKind.i64 o, Value.int IntKind.i64 n, Value.int IntKind.i64 s] 159)).alloc (Obj.cells #[Value.int IntKind.i64 a, Value.int IntKind.i64 o, Value.int IntKind.i64 n, Value.int IntKind.i64 s] 159)).drew)
  case first =>
    go_region_with (go_at_call 94; refine (CA _).mono ?_; rintro e w' ⟨rfl, rfl⟩)
    all_goals (go_wp2_with fail; go_meet; exact ⟨rfl, by rw [IntWalk.i64_in _ (by omega)], rfl⟩)
  case rest =>
    obtain ⟨rfl, rfl, rfl⟩ := hcut
    go_wp2_with fail
    refine (CE _).mono ?_
    rintro e w' ⟨rfl, rfl⟩
    have hb : ∀ W : World, Below w.heap.size w W → Below w.heap.size w (W.alloc (Obj.cells #[Value.int IntKind.i64 a, Value.int IntKind.i64 o, Value.int IntKind.i64 n, Value.int IntKind.i64 s] 159)) := fun W h => h.alloc h.size _
    have hB2 := hb _ (below_drewN (hb _ (hb _ (Below.refl _ _))) 1)
    have HB2 := Lib.hid hB2
    have HB3 := Lib.hid (hb _ hB2)
    clear hb hB2
    by_cases h1 : pos = a + o
    · by_cases h2 : 0 < o
      · have e : z = a + s + n := by rw [HZ.out]; simp [toI, toEnd, h1, h2]
        clear HZ
        subst e; subst h1
        go_wp2
        go_ret
        exact ⟨rfl, HB2.out⟩
      · obtain rfl : o = 0 := by omega
        clear h2
        by_cases h4 : 0 ≤ side
        · have h4' : decide (side ≥ 0) = true := decide_eq_true h4
          have e : z = a + s + n := by rw [HZ.out]; simp [toI, toEnd, h1, h4]
          clear HZ
          subst e; subst h1
          rw [h4']
          go_wp2
          go_ret
          exact ⟨rfl, HB2.out⟩
        · have h4' : decide (side ≥ 0) = false := decide_eq_false h4
          have e : z = a + s := by rw [HZ.out]; simp [toI, toEnd, h1, h4]
          clear HZ
          subst e; subst h1
          rw [h4']
          go_wp2_with fail
          refine (CA _).mono ?_
          rintro e w' ⟨rfl, rfl⟩
          go_wp2
          go_ret
          exact ⟨rfl, HB3.out⟩
    · have h1' : (pos == a + o) = false := by simpa using h1
      by_cases h4 : 0 ≤ side
      · have h4' : decide (side ≥ 0) = true := decide_eq_true h4
        rw [h4']
        by_cases h3 : pos = a
        · have h5 : (o == 0) = false := by simp; omega
          have h5' : ¬ o = 0 := by omega
          have e : z = a + s := by rw [HZ.out]; simp [toI, toEnd, h3, h5']; intros; omega
          clear HZ
          subst e; subst h3
          go_wp2_with fail
          refine (CA _).mono ?_
          rintro e w' ⟨rfl, rfl⟩
          go_wp2
          go_ret
          exact ⟨rfl, HB3.out⟩
        · have h3' : (pos != a) = true := by simpa using h3
          have e : z = a + s + n := by rw [HZ.out]; simp [toI, toEnd, h3, h4]
          clear HZ
          subst e
          go_wp2
          go_ret
          exact ⟨rfl, HB2.out⟩
      · have h4' : decide (side ≥ 0) = false := decide_eq_false h4
        have e : z = a + s := by rw [HZ.out]; simp [toI, toEnd, h1, h4]
        clear HZ
        subst e
        rw [h4']
        obtain ⟨q3, hq3⟩ : ∃ q : Bool, (pos != a) = q := ⟨_, rfl⟩
        obtain ⟨q5, hq5⟩ : ∃ q : Bool, (o == 0) = q := ⟨_, rfl⟩
        cases q3 <;> cases q5
        all_goals
          go_wp2_with fail
          refine (CA _).mono ?_
          rintro e w' ⟨rfl, rfl⟩
          go_wp2
          go_ret
          exact ⟨rfl, HB3.out⟩
end Go.Proofs.Ytgodphfkhmahnaa.Sm
