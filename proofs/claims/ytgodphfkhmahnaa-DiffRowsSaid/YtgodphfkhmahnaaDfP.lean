/- Diffs: the slide along what is the same. Diffs, plain: how one comes to a point is how the farthest way goes. -/
import Derived.Test.YtgodphfkhmahnaaDfE
import Derived.Test.YtgodphfkhmahnaaDfB
import Derived.Test.YtgodphfkhmahnaaDfM
import Derived.Test.YtgodphfkhmahnaaDfF
namespace Go.Proofs.Ytgodphfkhmahnaa.Df
open Go.RowKit Mem Sm Rt Tk
set_option linter.unusedVariables false
set_option linter.unusedSimpArgs false

/-- which tokens of the two rows are the same -/
def EE (l m : List Tk.Tk) (x y : Nat) : Bool := decide (x < l.length ∧ y < m.length ∧ l[x]? = m[y]?)
theorem EE_true {l m : List Tk.Tk} {x y : Nat} : EE l m x y = true ↔ x < l.length ∧ y < m.length ∧ l[x]? = m[y]? := by unfold EE; exact decide_eq_true_iff
theorem EE_false {l m : List Tk.Tk} {x y : Nat} : EE l m x y = false ↔ ¬ (x < l.length ∧ y < m.length ∧ l[x]? = m[y]?) := by unfold EE; exact decide_eq_false_iff_not
theorem EE_in {l m : List Tk.Tk} (x y : Nat) (h : EE l m x y = true) : x < l.length ∧ y < m.length := ⟨(EE_true.1 h).1, (EE_true.1 h).2.1⟩
/-- the slide's length -/
def SL (l m : List Tk.Tk) (x y : Nat) : Nat := sl (EE l m) l.length x y
theorem SL_same {l m : List Tk.Tk} {x y j : Nat} (h : j < SL l m x y) : EE l m (x + j) (y + j) = true := sl_same _ _ _ _ h
theorem SL_stops (l m : List Tk.Tk) (x y : Nat) : EE l m (x + SL l m x y) (y + SL l m x y) = false := sl_stops (n := l.length) (fun x y h => (EE_in x y h).1) _ _ _ (by omega)
set_option maxRecDepth 100000 in
set_option maxHeartbeats 4000000 in
theorem slide_any (base p : Nat) (A B : Option Addr) (n m cA cB : Nat) (v : Value) (vs : List Value) (XS : List (List Int)) (l r : List Tk.Tk) (d i x y : Nat) (f : Int) (W : World) (hd : d ≤ 2000) (hi : i ≤ d) (hx : x ≤ 10000) (hy : y ≤ 10000) (hxy : x + d = y + 2 * i) (hf : f = x + y) (hn : n ≤ 1000000) (hm : m ≤ 1000000)
    (hl : TRow W A n l) (hr : TRow W B m r) (h : ChAt base W p (.slice A n cA) (.slice B m cB) v vs XS) :
    Calls Try.prog 102 #[.pointer (some ⟨p, 0, none⟩), pnV d i, .int .i64 f] W fun e W' => e = .returned (.int .i64 (x + y + 2 * SL l r x y : Nat)) ∧ Below W.heap.size W W' := by
  have CP : ∀ W' : World, Calls Try.prog 82 #[.agg #[.int .i64 d, .int .i64 i], .int .i64 f] W' fun e W'' => e = .returned (.tuple #[.int .i64 x, .int .i64 y]) ∧ Below W'.heap.size W' W'' := by
    intro W'
    have := passed_any d i f W' (by omega) (by omega) (by omega)
    rw [show (f + ((i : Int) - ((d : Int) - i))).tdiv 2 = (x : Int) by rw [show f + ((i : Int) - ((d : Int) - i)) = (x : Int) * 2 by omega]; exact Int.mul_tdiv_cancel _ (by omega)] at this
    rw [show (f - ((i : Int) - ((d : Int) - i))).tdiv 2 = (y : Int) by rw [show f - ((i : Int) - ((d : Int) - i)) = (y : Int) * 2 by omega]; exact Int.mul_tdiv_cancel _ (by omega)] at this
    exact this
  have HC := Lib.hid h
  have HL := Lib.hid hl
  have HR := Lib.hid hr
  obtain ⟨S, hS⟩ : ∃ S, S = SL l r x y := ⟨_, rfl⟩
  have HS1 : Hid (∀ j, j < S → EE l r (x + j) (y + j) = true) := Lib.hid (fun j hj => SL_same (by rw [← hS]; exact hj))
  have HS2 : Hid (EE l r (x + S) (y + S) = false) := Lib.hid (by rw [hS]; exact SL_stops l r x y)
  rw [← hS]
  have hb1 := (Below.refl W.heap.size W).alloc (Nat.le_refl _) (.cells #[.int .i64 d, .int .i64 i] 145)
  have HB1 := Lib.hid hb1
  clear h hl hr hS hb1 hd hi hxy hf
  unfold pnV
  go_enter Try.func102, Try.ntmps102
  go_wp2_with fail
  refine (CP _).mono ?_
  rintro e W1 ⟨rfl, hb⟩
  have HB := Lib.hid (HB1.out.trans (hb.mono HB1.out.size))
  clear hb CP HB1
  go_wp2_with fail
  have HC1 := Lib.hid (HC.out.step HB.out)
  have HL1 := Lib.hid (HL.out.below HB.out)
  have HR1 := Lib.hid (HR.out.below HB.out)
  clear HC HL HR
  obtain ⟨e0, e1, _⟩ := HC1.out.cells
  go_loopw [7, 8] (fun av bv wr => ∃ (k x0 y0 q : Nat), k ≤ S ∧ Hid (x0 = x + k) ∧ Hid (y0 = y + k) ∧ av = .int .i64 x0 ∧ bv = .int .i64 y0 ∧ wr = W1.drewN q) (fun av _ _ => x + S - (intOf av).toNat)
  case atStart => exact ⟨0, x, y, 0, by omega, Lib.hid rfl, Lib.hid rfl, rfl, rfl, rfl⟩
  case round =>
    obtain ⟨k, x0, y0, q, hk, HX, HY, rfl, rfl, rfl⟩ := hrel
    have b1 : x0 ≤ 20000000 ∧ y0 ≤ 20000000 := by
      have e1 := HX.out
      have e2 := HY.out
      rcases Nat.eq_zero_or_pos k with g | g
      · omega
      · have := EE_in _ _ (HS1.out (k - 1) (by omega))
        have := HL1.out.1
        have := HR1.out.1
        omega
    obtain ⟨b2, b3⟩ := b1
    have n1 : (0 : Int) ≤ (x0 : Int) := by omega
    have n2 : (0 : Int) ≤ (y0 : Int) := by omega
    by_cases g1 : x0 < n
    · by_cases g2 : y0 < m
      · obtain ⟨bl, off, rfl, hbl, hcells⟩ := HL1.out.2 (by omega)
        obtain ⟨bl', off', rfl, hbl', hcells'⟩ := HR1.out.2 (by omega)
        have hi' : x0 < l.length := by have := HL1.out.1; omega
        have hi2 : y0 < r.length := by have := HR1.out.1; omega
        obtain ⟨c0, c1, c2, c3, c4, c5, c6, c7, c8, c9, c10, c11⟩ := (hcells x0 hi').cells
        obtain ⟨d0, d1, d2, d3, d4, d5, d6, d7, d8, d9, d10, d11⟩ := (hcells' y0 hi2).cells
        have HE : Hid ((l[x0] = r[y0]) = (l[x0]? = r[y0]?)) := Lib.hid (ne_at hi' hi2)
        have HIN : Hid (x0 < l.length ∧ y0 < r.length) := Lib.hid ⟨hi', hi2⟩
        clear hcells hcells'
        have EQ : ∀ W : World, (Op.equalIn 10000 101 (tokV l[x0]) (tokV r[y0])).run Try.prog W = .ok (decide (l[x0] = r[y0])) W := fun W => eq_tok 9997 _ _ W
        have j0 : decide ((x0 : Int) < (n : Int)) = true := by simp; omega
        have j9 : decide ((y0 : Int) < (m : Int)) = true := by simp; omega
        have j2 : (x0 : Int) < (n : Int) := by omega
        have j3 : (y0 : Int) < (m : Int) := by omega
        by_cases he : l[x0] = r[y0]
        · have hkS : k < S := by
            rcases Nat.lt_or_ge k S with g | g
            · exact g
            · have e : k = S := by omega
              have := EE_false.1 HS2.out
              rw [← e, ← HX.out, ← HY.out] at this
              exact absurd ⟨hi', hi2, by rw [← HE.out]; exact he⟩ this
          have EQ' : ∀ W : World, (Op.equalIn 10000 101 (tokV l[x0]) (tokV r[y0])).run Try.prog W = .ok true W := fun W => by rw [EQ W]; simp [he]
          clear EQ HE he HIN
          generalize hKx : l[x0] = X at *
          generalize hKy : r[y0] = Y at *
          obtain ⟨z0, ty, at_, tr, ma, mb, mc, md, me, mf, mg, mh⟩ := X
          obtain ⟨yk, yty, yat, yr, ya, yb, yc, yd, ye, yf, yg, yh⟩ := Y
          unfold tokV at EQ'
          simp only at c0 c1 c2 c3 c4 c5 c6 c7 c8 c9 c10 c11 d0 d1 d2 d3 d4 d5 d6 d7 d8 d9 d10 d11 EQ'
          clear hKx hKy hbl hbl'
          go_wp2_with fail
          go_quiet (fail)
          go_wp2
          go_roundw
          case rel => exact ⟨k + 1, x0 + 1, y0 + 1, _, by omega, Lib.hid (by have := HX.out; omega), Lib.hid (by have := HY.out; omega), by go_num, by go_num, rfl⟩
          case measure => have := HX.out; simp [intOf]; omega
        · have hkS : k = S := by
            rcases Nat.lt_or_ge k S with g | g
            · have := EE_true.1 (HS1.out k g)
              rw [← HX.out, ← HY.out] at this
              exact absurd (by rw [HE.out]; exact this.2.2) he
            · omega
          have EQ' : ∀ W : World, (Op.equalIn 10000 101 (tokV l[x0]) (tokV r[y0])).run Try.prog W = .ok false W := fun W => by rw [EQ W]; simp [he]
          have HRS : Hid (((x + y + 2 * S : Nat) : Int) = (x0 : Int) + (y0 : Int)) := Lib.hid (by have := HX.out; have := HY.out; omega)
          clear EQ HE he HIN
          generalize hKx : l[x0] = X at *
          generalize hKy : r[y0] = Y at *
          obtain ⟨z0, ty, at_, tr, ma, mb, mc, md, me, mf, mg, mh⟩ := X
          obtain ⟨yk, yty, yat, yr, ya, yb, yc, yd, ye, yf, yg, yh⟩ := Y
          unfold tokV at EQ'
          simp only at c0 c1 c2 c3 c4 c5 c6 c7 c8 c9 c10 c11 d0 d1 d2 d3 d4 d5 d6 d7 d8 d9 d10 d11 EQ'
          clear hKx hKy hbl hbl'
          go_wp2_with fail
          go_quiet (fail)
          go_wp2
          go_ret
          exact ⟨by rw [HRS.out]; rfl, below_drewN HB.out _⟩
      · have hkS : k = S := by
          rcases Nat.lt_or_ge k S with g | g
          · have := (EE_in _ _ (HS1.out k g)).2
            have := HR1.out.1
            have := HY.out
            omega
          · omega
        have HRS : Hid (((x + y + 2 * S : Nat) : Int) = (x0 : Int) + (y0 : Int)) := Lib.hid (by have := HX.out; have := HY.out; omega)
        have j0 : decide ((x0 : Int) < (n : Int)) = true := by simp; omega
        have j9 : decide ((y0 : Int) < (m : Int)) = false := by simp; omega
        go_wp2_with fail
        go_quiet (fail)
        go_wp2
        go_ret
        exact ⟨by rw [HRS.out]; rfl, below_drewN HB.out _⟩
    · have hkS : k = S := by
        rcases Nat.lt_or_ge k S with g | g
        · have := (EE_in _ _ (HS1.out k g)).1
          have := HL1.out.1
          have := HX.out
          omega
        · omega
      have HRS : Hid (((x + y + 2 * S : Nat) : Int) = (x0 : Int) + (y0 : Int)) := Lib.hid (by have := HX.out; have := HY.out; omega)
      have j0 : decide ((x0 : Int) < (n : Int)) = false := by simp; omega
      go_wp2_with fail
      go_quiet (fail)
      go_wp2
      go_ret
      exact ⟨by rw [HRS.out]; rfl, below_drewN HB.out _⟩
end Go.Proofs.Ytgodphfkhmahnaa.Df
namespace Go.Proofs.Ytgodphfkhmahnaa.Df
open Go.RowKit Mem Sm Rt Tk
set_option linter.unusedVariables false
set_option linter.unusedSimpArgs false
/-- the first d rows of the chart are right -/
def Ok (E : Nat → Nat → Bool) (XS : List (List Int)) (d : Nat) : Prop := ∀ d', d' < d → (XS.getD d' []).length = d' + 1 ∧ ∀ i, i ≤ d' → ∃ x y, Top E d' i x y ∧ gt XS d' i = x + y
theorem Top.one {E : Nat → Nat → Bool} {d i x y x' y' : Nat} (h : Top E d i x y) (h' : Top E d i x' y') : x = x' ∧ y = y' := by
  have a := h.most x' y' h'.diag h'.comes
  have b := h'.most x y h.diag h.comes
  have c := h.diag
  have e := h'.diag
  omega
theorem lc_in (l m : List Tk.Tk) (x y : Nat) : lc (EE l m) x y ≤ l.length := by
  rw [lc_far (n := l.length) (m := m.length) EE_in]
  have := (lc_le (E := EE l m) (min x l.length) (min y m.length)).1
  omega
theorem Top.bound {l m : List Tk.Tk} {d i x y : Nat} (h : Top (EE l m) d i x y) : x + y ≤ d + 2 * l.length := by
  have := lc_in l m x y
  have := h.comes
  unfold R at this
  omega
theorem Ok.bound {l m : List Tk.Tk} {XS : List (List Int)} {d : Nat} (h : Ok (EE l m) XS d) : ∀ j i, j < d → i ≤ j → 0 ≤ gt XS j i ∧ gt XS j i ≤ j + 2 * l.length := by
  intro j i hj hi
  obtain ⟨x, y, ht, e⟩ := (h j hj).2 i hi
  have := ht.bound
  omega
/-- a point, and where one comes from -/
structure Ent (E : Nat → Nat → Bool) (XS : List (List Int)) (d i x y S : Nat) : Prop where
  diag : x + d = y + 2 * i
  far : (entE XS d i).1 = x + y
  comes : R E d x y
  top : Top E d i (x + S) (y + S)
  from_ : (d = 0 ∧ i = 0 ∧ x = 0 ∧ y = 0 ∧ (entE XS d i).2 = (d, i)) ∨ (0 < d ∧ ∃ i' x' y', i' ≤ d - 1 ∧ (entE XS d i).2 = (d - 1, i') ∧ Top E (d - 1) i' x' y' ∧ ((x = x' + 1 ∧ y = y') ∨ (x = x' ∧ y = y' + 1)))
theorem ent_top {l m : List Tk.Tk} {XS : List (List Int)} {d i : Nat} (h : Ok (EE l m) XS d) (hi : i ≤ d) : ∃ x y, Ent (EE l m) XS d i x y (SL l m x y) := by
  cases d with
  | zero =>
    obtain rfl : i = 0 := by omega
    have he : entE XS 0 0 = (0, 0, 0) := by unfold entE enE; exact stE0 XS 0 0
    refine ⟨0, 0, rfl, by rw [he]; rfl, by unfold R; omega, ?_, .inl ⟨rfl, rfl, rfl, rfl, by rw [he]⟩⟩
    have h1 := sl_comes (E := EE l m) l.length 0 0 0 (by unfold R; omega)
    have h2 := SL_stops l m 0 0
    rw [Nat.zero_add] at h1 h2 ⊢
    exact Top.zero h1 h2
  | succ d =>
    have hd := (h d (by omega)).2
    have uniq : ∀ {i' x1 y1 x2 y2 : Nat}, Top (EE l m) d i' x1 y1 → Top (EE l m) d i' x2 y2 → x2 ≤ x1 := fun a b => by have := (a.one b).1; omega
    have go : ∀ (x y : Nat), x + (d + 1) = y + 2 * i → R (EE l m) (d + 1) x y → (∀ x1 y1, 1 ≤ i → Top (EE l m) d (i - 1) x1 y1 → x1 + 1 ≤ x) → (∀ x2 y2, i ≤ d → Top (EE l m) d i x2 y2 → x2 ≤ x) → Top (EE l m) (d + 1) i (x + SL l m x y) (y + SL l m x y) := by
      intro x y h1 h2 h3 h4
      refine Top.next (by omega) (sl_comes _ _ _ _ h2) (SL_stops l m x y) (fun x1 y1 a b => ?_) (fun x2 y2 a b => ?_) (fun a => ?_) (fun a => ?_)
      · have := h3 x1 y1 a b; omega
      · have := h4 x2 y2 a b; omega
      · obtain ⟨x1, y1, t, _⟩ := hd (i - 1) (by omega); exact ⟨x1, y1, t⟩
      · obtain ⟨x1, y1, t, _⟩ := hd i a; exact ⟨x1, y1, t⟩
    by_cases h0 : i = 0
    · subst h0
      obtain ⟨x2, y2, t, e⟩ := hd 0 (by omega)
      have he : entE XS (d + 1) 0 = (gt XS d 0 + 1, d, 0) := by
        unfold entE enE
        rw [if_neg (by omega), show min 0 (d + 1 - 1) + 1 = 0 - 1 + 1 by omega, stE1]
        rfl
      have td := t.diag
      have hc := t.comes.b
      refine ⟨x2, y2 + 1, by omega, by rw [he]; simp only; omega, hc, go _ _ (by omega) hc (fun _ _ a => by omega) (fun x y _ b => uniq t b), .inr ⟨by omega, 0, x2, y2, by omega, by rw [he]; rfl, t, .inr ⟨rfl, rfl⟩⟩⟩
    · by_cases h1 : i = d + 1
      · subst h1
        obtain ⟨x1, y1, t, e⟩ := hd d (by omega)
        have he : entE XS (d + 1) (d + 1) = (gt XS d d + 1, d, d) := by
          unfold entE enE
          rw [if_neg (by omega), show min (d + 1) (d + 1 - 1) + 1 = d + 1 - 1 + 1 by omega, stE1]
          rfl
        have td := t.diag
        have hc := t.comes.a
        refine ⟨x1 + 1, y1, by omega, by rw [he]; simp only; omega, hc, go _ _ (by omega) hc (fun x y _ b => by have := uniq t b; omega) (fun _ _ a => by omega), .inr ⟨by omega, d, x1, y1, by omega, by rw [he]; rfl, t, .inl ⟨rfl, rfl⟩⟩⟩
      · obtain ⟨x1, y1, t1, e1⟩ := hd (i - 1) (by omega)
        obtain ⟨x2, y2, t2, e2⟩ := hd i (by omega)
        have td1 := t1.diag
        have td2 := t2.diag
        have hen : enE (d + 1) i = i - 1 + 1 + 1 := by unfold enE; rw [if_neg (by omega)]; omega
        by_cases hlt : gt XS d (i - 1) < gt XS d i
        · have he : entE XS (d + 1) i = (gt XS d i + 1, d, i) := by
            unfold entE
            rw [hen, stE2]
            simp only [Nat.add_sub_cancel, show i - 1 + 1 = i by omega, if_pos hlt]
          have hc := t2.comes.b
          refine ⟨x2, y2 + 1, by omega, by rw [he]; simp only; omega, hc, go _ _ (by omega) hc (fun x y _ b => by have := uniq t1 b; omega) (fun x y _ b => uniq t2 b), .inr ⟨by omega, i, x2, y2, by omega, by rw [he]; rfl, t2, .inr ⟨rfl, rfl⟩⟩⟩
        · have he : entE XS (d + 1) i = (gt XS d (i - 1) + 1, d, i - 1) := by
            unfold entE
            rw [hen, stE2]
            simp only [Nat.add_sub_cancel, show i - 1 + 1 = i by omega, if_neg hlt]
          have hc := t1.comes.a
          refine ⟨x1 + 1, y1, by omega, by rw [he]; simp only; omega, hc, go _ _ (by omega) hc (fun x y _ b => by have := uniq t1 b; omega) (fun x y _ b => by have := uniq t2 b; omega), .inr ⟨by omega, i - 1, x1, y1, by omega, by rw [he]; rfl, t1, .inl ⟨rfl, rfl⟩⟩⟩
end Go.Proofs.Ytgodphfkhmahnaa.Df
