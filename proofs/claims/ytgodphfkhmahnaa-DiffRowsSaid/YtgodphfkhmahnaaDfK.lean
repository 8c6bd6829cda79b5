/- Diffs: the reference's table: how many can be kept. Diffs: how many tokens are kept. -/
import Derived.Test.YtgodphfkhmahnaaDfP
import Derived.MakeChecks
import Derived.OwnWalk
import Derived.Lib.MinMax
import Derived.Test.YtgodphfkhmahnaaPpMem
import Derived.Lib.Hide
import Derived.Maps.Range
import Derived.Maps.RangeWalk
namespace Go.Proofs.Ytgodphfkhmahnaa.Df
open Go.RowKit Mem Sm Rt Tk
set_option linter.unusedVariables false
set_option linter.unusedSimpArgs false
theorem info_num : (Try.prog.info? 3).map (fun i => (i.zero, i.size, i.bytes)) = some (some (.int .i64 0), 1, 8) := by kernel_rfl
def fcells (m : Nat) (f : Nat → Nat) : Array Value := ((List.range (m + 1)).map fun t => Value.int .i64 (f t : Int)).toArray
/-- a row of m + 1 numbers in its block -/
def IF (W : World) (g m : Nat) (f : Nat → Nat) : Prop := W.heap[g]? = some (.cells (fcells m f) 3 (0, 0))
section
variable {W W' : World} {g m : Nat} {f : Nat → Nat}
theorem IF.keep (h : IF W g m f) (e : W'.heap[g]? = W.heap[g]?) : IF W' g m f := by unfold IF; rw [e]; exact h
theorem IF.step (h : IF W g m f) (hb : Below W.heap.size W W') : IF W' g m f := h.keep (hb.block _ (lt_some h))
theorem IF.cell (h : IF W g m f) {t : Nat} (ht : t ≤ m) : W.cell? ⟨g, t, none⟩ = some (.int .i64 (f t)) ∧ W.frozen? ⟨g, t, none⟩ = false := by
  unfold IF at h
  refine ⟨?_, by simp [World.frozen?, h]⟩
  simp [World.cell?, h, fcells, show t < m + 1 by omega]
theorem IF.set (h : IF W g m f) {t z : Nat} {v : Value} (hv : v = .int .i64 (z : Int)) : IF (W.setCell ⟨g, t, none⟩ v) g m (fun s => if s = t then z else f s) := by
  subst hv
  unfold IF at h ⊢
  simp only [World.setCell, Array.getElem?_modify, h]
  simp only [if_true, Option.map_some, Option.some.injEq]
  congr 1
  apply Array.ext
  · simp [fcells]
  · intro j h1 h2
    simp only [fcells, List.size_toArray, List.length_map, List.length_range] at h2
    by_cases e : j = t
    · subst e; simp [fcells]
    · simp [fcells, e, Array.getElem_setIfInBounds, Ne.symm e]
theorem IF.else (h : IF W g m f) {q t : Nat} (hq : q ≠ g) (v : Value) : IF (W.setCell ⟨q, t, none⟩ v) g m f := h.keep (Below.heap_setCell W ⟨q, t, none⟩ v g (fun e => hq e.symm))
theorem IF.eq {f' : Nat → Nat} (h : IF W g m f) (e : ∀ t, t ≤ m → f t = f' t) : IF W g m f' := by
  have : fcells m f = fcells m f' := by
    unfold fcells
    congr 1
    apply List.map_congr_left
    intro t ht
    rw [e t (by have := List.mem_range.1 ht; omega)]
  unfold IF at h ⊢
  rw [← this]; exact h
end
/-- what holds within the inner loop -/
structure MI (E : Nat → Nat → Bool) (w W : World) (m i g h j : Nat) : Prop where
  b : Below w.heap.size w W
  hg : w.heap.size ≤ g
  hh : g < h
  r : IF W g m (fun t => lc E i t)
  x : IF W h m (fun t => if t ≤ j then lc E (i + 1) t else 0)
theorem MI.step {E : Nat → Nat → Bool} {w W W' : World} {m i g h j : Nat} (H : MI E w W m i g h j) (hb : Below W.heap.size W W') : MI E w W' m i g h j := ⟨H.b.trans (hb.mono H.b.size), H.hg, H.hh, H.r.step hb, H.x.step hb⟩
set_option maxRecDepth 100000 in
set_option maxHeartbeats 4000000 in
theorem most_any (A B : Option Addr) (n m cA cB : Nat) (l r : List Tk.Tk) (w : World) (hn : n ≤ 100000) (hm : m ≤ 100000) (hl : TRow w A n l) (hr : TRow w B m r) :
    Calls Try.prog 39 #[.slice A n cA, .slice B m cB] w fun e w' => e = .returned (.int .i64 (lc (EE l r) n m : Nat)) ∧ Below w.heap.size w w' := by
  obtain ⟨i0, hi, hz, hs1, hs2⟩ := info_parts info_num
  have hmake : ∀ W : World, (Instr.makeSlice 36 (.int .i64 ((m : Int) + 1)) (.int .i64 ((m : Int) + 1))).run Try.prog W = .ok (.slice (some ⟨W.heap.size, 0, none⟩) (m + 1) (m + 1)) (W.alloc (.cells (fcells m (fun _ => 0)) 3)) := fun W => by
    have := run_make (P := Try.prog) (w := W) 36 3 i0 (.int .i64 0) Try.underlying36 hi hz .i64 .i64 ((m : Int) + 1) ((m : Int) + 1) (by omega) (by omega) (by rw [hs2]; omega) (by omega)
    rw [this, hs1, Nat.mul_one]
    have e : ((m : Int) + 1).toNat = m + 1 := by omega
    rw [e]
    have e : madeCells (Value.int .i64 0).cells (m + 1) = fcells m (fun _ => 0) := by
      apply Array.ext
      · simp [madeCells, fcells]
      · intro j h1 h2; simp [madeCells, Value.cells, Nat.mod_one, fcells]
    rw [e]
  have HI0 : ∀ W : World, IF (W.alloc (.cells (fcells m (fun _ => 0)) 3)) W.heap.size m (fun _ => 0) := fun W => heap_alloc_new _ _
  have HI := Lib.hid HI0
  have HL := Lib.hid hl
  have HR := Lib.hid hr
  generalize hE : EE l r = E
  have HE := Lib.hid hE
  clear hl hr HI0 hE
  go_enter Try.func39, Try.ntmps39
  go_wp2_with fail
  have HS0 := Lib.hid ((HI.out w).eq (f' := fun t => lc E 0 t) (fun t _ => by rw [lc_zero]))
  have HB0 := Lib.hid ((Below.refl _ w).alloc (Nat.le_refl _) (.cells (fcells m (fun _ => 0)) 3))
  go_loopw [5, 6] (fun rv iv wr => ∃ (i g : Nat), iv = .int .i64 i ∧ i ≤ n ∧ rv = .slice (some ⟨g, 0, none⟩) (m + 1) (m + 1) ∧ w.heap.size ≤ g ∧ Hid (Below w.heap.size w wr) ∧ Hid (IF wr g m (fun t => lc E i t))) (fun _ iv _ => n - (intOf iv).toNat)
  case atStart => exact ⟨0, w.heap.size, rfl, by omega, rfl, Nat.le_refl _, HB0, HS0⟩
  case round =>
    obtain ⟨i, g, rfl, hin, rfl, hg, HB, HG⟩ := hrel
    clear HB0 HS0
    by_cases hlt : i < n
    · go_wp2_with fail
      have hgs := lt_some HG.out
      have hz := (Below.refl wr.heap.size wr).alloc (Nat.le_refl _) (.cells (fcells m (fun _ => 0)) 3)
      have HM0 : Hid (MI E w (wr.alloc (.cells (fcells m (fun _ => 0)) 3)) m i g wr.heap.size 0) := Lib.hid
        ⟨HB.out.trans (hz.mono HB.out.size), hg, hgs, HG.out.step hz, (HI.out wr).eq (fun t _ => by
          by_cases e : t ≤ 0
          · rw [if_pos e, show t = 0 by omega, lc_nil]
          · rw [if_neg e])⟩
      generalize hh : wr.heap.size = h at *
      have hgh : g ≠ h := by omega
      clear hh hz
      go_loopw [8] (fun jv wr => ∃ (j : Nat), jv = .int .i64 j ∧ j ≤ m ∧ Hid (MI E w wr m i g h j)) (fun jv _ => m - (intOf jv).toNat)
      case atStart => exact ⟨0, rfl, by omega, HM0⟩
      case round =>
        obtain ⟨j, rfl, hjm, HM⟩ := hrel
        clear HM0 HB HG
        by_cases hjt : j < m
        · obtain ⟨bl, off, rfl, hbl, hcells⟩ := HL.out.2 (by omega)
          obtain ⟨bl', off', rfl, hbl', hcells'⟩ := HR.out.2 (by omega)
          have hi' : i < l.length := by have := HL.out.1; omega
          have hi2 : j < r.length := by have := HR.out.1; omega
          have HC : Hid (∀ W, Below w.heap.size w W → At12 W bl (off + i * 12) l[i]) := Lib.hid (fun W hb => (hcells i hi').keep fun q => hb.cell (p := ⟨bl, q, none⟩) hbl)
          have HD : Hid (∀ W, Below w.heap.size w W → At12 W bl' (off' + j * 12) r[j]) := Lib.hid (fun W hb => (hcells' j hi2).keep fun q => hb.cell (p := ⟨bl', q, none⟩) hbl')
          have HNE : Hid ((l[i] = r[j]) = (l[i]? = r[j]?)) := Lib.hid (ne_at hi' hi2)
          clear hcells hcells'
          have EQ : ∀ W : World, (Op.equalIn 10000 101 (tokV l[i]) (tokV r[j])).run Try.prog W = .ok (decide (l[i] = r[j])) W := fun W => eq_tok 9997 _ _ W
          have j0 : (0 : Int) ≤ (j : Int) := by omega
          have j1 : (0 : Int) ≤ (i : Int) := by omega
          obtain ⟨p0, _⟩ := HM.out.r.cell (show j + 1 ≤ m by omega)
          obtain ⟨p1, _⟩ := HM.out.r.cell (show j ≤ m by omega)
          obtain ⟨q0, q1⟩ := HM.out.x.cell (show j + 1 ≤ m by omega)
          obtain ⟨q2, _⟩ := HM.out.x.cell (show j ≤ m by omega)
          simp only [show ¬ (j + 1 ≤ j) by omega, Nat.le_refl, if_true, if_false] at q0 q2
          go_wp2_with fail
          generalize hP : lc E i (j + 1) = P at *
          generalize hQ : lc E (i + 1) j = Q at *
          have HP := Lib.hid hP
          have HQ := Lib.hid hQ
          have hPb := (lc_le (E := E) i (j + 1)).1
          have hQb := (lc_le (E := E) (i + 1) j).1
          rw [hP] at hPb
          rw [hQ] at hQb
          clear hP hQ
          go_cut [8] from 29 to 42 (fun u wx => u = .int .i64 j ∧ Hid (Below w.heap.size w wx) ∧ Hid (IF wx g m (fun t => lc E i t)) ∧ Hid (IF wx h m (fun s => if s = j + 1 then max P Q else if s ≤ j then lc E (i + 1) s else 0)))
          case first =>
            have j9 : (j : Int) + 1 < (m : Int) + 1 := by omega
            have e : Hid (Below w.heap.size w ((wr.setCell ⟨h, j + 1, none⟩ (.int .i64 (max (P : Int) (Q : Int)))).drewN 1)) ∧ Hid (IF ((wr.setCell ⟨h, j + 1, none⟩ (.int .i64 (max (P : Int) (Q : Int)))).drewN 1) g m (fun t => lc E i t)) ∧ Hid (IF ((wr.setCell ⟨h, j + 1, none⟩ (.int .i64 (max (P : Int) (Q : Int)))).drewN 1) h m (fun s => if s = j + 1 then max P Q else if s ≤ j then lc E (i + 1) s else 0)) :=
              ⟨Lib.hid (below_drewN (HM.out.b.setCell (p := ⟨h, j + 1, none⟩) (by show _ ≤ h; have := HM.out.hg; omega) _) 1), Lib.hid (HM.out.r.else (by omega) _), Lib.hid (HM.out.x.set (by rw [show ((max P Q : Nat) : Int) = max (P : Int) (Q : Int) by omega]))⟩
            have HEE := Lib.hid e
            clear e
            go_region
            all_goals go_wp2_with fail
            all_goals go_meet
            all_goals exact ⟨rfl, HEE.out⟩
          case rest =>
            have hg1 := HM.out.hg
            clear p0 p1 q0 q1 q2 HM
            obtain ⟨rfl, HB1, HG1, HX1⟩ := hcut
            obtain ⟨p1, _⟩ := HG1.out.cell (show j ≤ m by omega)
            obtain ⟨q0, q1⟩ := HX1.out.cell (show j + 1 ≤ m by omega)
            simp only [if_true] at q0
            have hDb := (lc_le (E := E) i j).1
            have HS := Lib.hid (lc_step (E := E) i j)
            generalize hD : lc E i j = D at *
            have HD9 := Lib.hid hD
            clear hD
            obtain ⟨c0, c1, c2, c3, c4, c5, c6, c7, c8, c9, c10, c11⟩ := (HC.out _ HB1.out).cells
            obtain ⟨d0, d1, d2, d3, d4, d5, d6, d7, d8, d9, d10, d11⟩ := (HD.out _ HB1.out).cells
            clear HC HD
            have j9 : (j : Int) + 1 < (m : Int) + 1 := by omega
            by_cases he : l[i] = r[j]
            · have HT : Hid (E i j = true) := Lib.hid (by rw [← HE.out]; exact EE_true.2 ⟨hi', hi2, by rw [← HNE.out]; exact he⟩)
              have HL1 : Hid (lc E (i + 1) (j + 1) = max (max P Q) (D + 1)) := Lib.hid (by rw [HS.out, if_pos HT.out, HP.out, HQ.out])
              have EQ' : ∀ W : World, (Op.equalIn 10000 101 (tokV l[i]) (tokV r[j])).run Try.prog W = .ok true W := fun W => by rw [EQ W]; simp [he]
              clear EQ HNE he HS HT
              generalize hKx : l[i] = X at *
              generalize hKy : r[j] = Y at *
              obtain ⟨z0, ty, at_, tr, ma, mb, mc, md, me, mf, mg, mh⟩ := X
              obtain ⟨yk, yty, yat, yr, ya, yb, yc, yd, ye, yf, yg, yh⟩ := Y
              unfold tokV at EQ'
              simp only at c0 c1 c2 c3 c4 c5 c6 c7 c8 c9 c10 c11 d0 d1 d2 d3 d4 d5 d6 d7 d8 d9 d10 d11 EQ'
              clear hKx hKy hbl hbl'
              have HW : ∀ q : Nat, Hid (MI E w ((wc.drewN q).setCell ⟨h, j + 1, none⟩ (.int .i64 (max ((max P Q : Nat) : Int) ((D : Int) + 1)))) m i g h (j + 1)) := by
                intro q
                refine Lib.hid ⟨(below_drewN HB1.out q).setCell (p := ⟨h, j + 1, none⟩) (by show _ ≤ h; omega) _, hg1, by omega, IF.else (show IF (wc.drewN q) g m _ from HG1.out) (by omega) _, ?_⟩
                refine IF.eq (IF.set (show IF (wc.drewN q) h m _ from HX1.out) (z := max (max P Q) (D + 1)) (by rw [show ((max (max P Q) (D + 1) : Nat) : Int) = max ((max P Q : Nat) : Int) ((D : Int) + 1) by omega])) fun t ht => ?_
                by_cases e1 : t = j + 1
                · rw [if_pos e1, if_pos (by omega), e1, HL1.out]
                · rw [if_neg e1, if_neg e1]
                  by_cases e2 : t ≤ j
                  · rw [if_pos e2, if_pos (by omega)]
                  · rw [if_neg e2, if_neg (by omega)]
              have HWW := Lib.hid HW
              clear HW
              go_wp2_with fail
              go_quiet (fail)
              go_wp2_with fail
              go_region
              all_goals go_wp2
              all_goals go_roundw
              all_goals try
                case rel => exact ⟨j + 1, by go_num, by omega, HWW.out _⟩
              all_goals try
                case measure => simp [intOf]; omega
            · have HT : Hid (E i j = false) := Lib.hid (by rw [← HE.out]; exact EE_false.2 (fun g => he (by rw [HNE.out]; exact g.2.2)))
              have HL1 : Hid (lc E (i + 1) (j + 1) = max P Q) := Lib.hid (by rw [HS.out, HT.out, HP.out, HQ.out]; simp)
              have EQ' : ∀ W : World, (Op.equalIn 10000 101 (tokV l[i]) (tokV r[j])).run Try.prog W = .ok false W := fun W => by rw [EQ W]; simp [he]
              clear EQ HNE he HS HT
              generalize hKx : l[i] = X at *
              generalize hKy : r[j] = Y at *
              obtain ⟨z0, ty, at_, tr, ma, mb, mc, md, me, mf, mg, mh⟩ := X
              obtain ⟨yk, yty, yat, yr, ya, yb, yc, yd, ye, yf, yg, yh⟩ := Y
              unfold tokV at EQ'
              simp only at c0 c1 c2 c3 c4 c5 c6 c7 c8 c9 c10 c11 d0 d1 d2 d3 d4 d5 d6 d7 d8 d9 d10 d11 EQ'
              clear hKx hKy hbl hbl'
              have HW : ∀ q : Nat, Hid (MI E w (wc.drewN q) m i g h (j + 1)) := by
                intro q
                refine Lib.hid ⟨below_drewN HB1.out q, hg1, by omega, HG1.out, ?_⟩
                refine IF.eq (show IF (wc.drewN q) h m _ from HX1.out) fun t ht => ?_
                by_cases e1 : t = j + 1
                · rw [if_pos e1, if_pos (by omega), e1, HL1.out]
                · rw [if_neg e1]
                  by_cases e2 : t ≤ j
                  · rw [if_pos e2, if_pos (by omega)]
                  · rw [if_neg e2, if_neg (by omega)]
              have HWW := Lib.hid HW
              clear HW
              go_wp2_with fail
              go_quiet (fail)
              go_wp2
              go_roundw
              case rel => exact ⟨j + 1, by go_num, by omega, HWW.out _⟩
              case measure => simp [intOf]; omega
        · obtain rfl : j = m := by omega
          have HG' := Lib.hid (HM.out.x.eq (f' := fun t => lc E (i + 1) t) (fun t ht => if_pos ht))
          have HB' := Lib.hid HM.out.b
          have hhs := HM.out.hh
          clear HM
          go_wp2
          go_roundw
          case rel => exact ⟨i + 1, h, by go_num, by omega, rfl, by omega, HB', HG'⟩
          case measure => simp [intOf]; omega
    · obtain rfl : i = n := by omega
      obtain ⟨c0, _⟩ := HG.out.cell (Nat.le_refl m)
      go_wp2
      go_ret
      exact ⟨rfl, HB.out⟩
end Go.Proofs.Ytgodphfkhmahnaa.Df
namespace Go.Proofs.Ytgodphfkhmahnaa.Df
open Go.RowKit Mem Pp
set_option linter.unusedVariables false
set_option linter.unusedSimpArgs false
def ptN (x : Pt) : Int := if x.o = true ∧ x.f < x.t then x.t - x.f else 0
def keptN : List Pt → Int
  | [] => 0
  | x :: l => ptN x + keptN l
theorem keptN_append (a b : List Pt) : keptN (a ++ b) = keptN a + keptN b := by
  induction a with
  | nil => simp [keptN]
  | cons x a ih => simp only [List.cons_append, keptN, ih]; omega
def ptOk (x : Pt) : Prop := (-1000000 < x.f ∧ x.f < 1000000) ∧ (-1000000 < x.t ∧ x.t < 1000000)
theorem ptN_bound {x : Pt} (h : ptOk x) : 0 ≤ ptN x ∧ ptN x ≤ 2000000 := by
  obtain ⟨⟨a, b⟩, c, d⟩ := h
  unfold ptN
  split <;> omega
theorem keptN_bound {l : List Pt} (h : ∀ x ∈ l, ptOk x) : 0 ≤ keptN l ∧ keptN l ≤ l.length * 2000000 := by
  induction l with
  | nil => simp [keptN]
  | cons x l ih =>
    have h1 := ptN_bound (h x (by simp))
    have h2 := ih (fun y hy => h y (by simp [hy]))
    simp only [keptN, List.length_cons]
    push_cast
    omega
theorem wrap_small {x : Int} (h0 : -1000000000000 ≤ x) (h1 : x ≤ 1000000000000) : wrap64 x = x := by unfold wrap64; omega
set_option maxRecDepth 100000 in
set_option maxHeartbeats 4000000 in
theorem kept_any (l : List Pt) (A : Option Addr) (n c : Nat) (w : World) (hn : n ≤ 1000) (hr : PRow w A n l) (hb : ∀ x ∈ l, ptOk x) :
    Calls Try.prog 38 #[.slice A n c] w fun e w' => e = .returned (.int .i64 (keptN l)) ∧ Below w.heap.size w w' := by
  have hnl := hr.1
  have HR := Lib.hid hr
  have HO := Lib.hid hb
  clear hr hb
  go_enter Try.func38, Try.ntmps38
  go_wp2_with fail
  go_loopw [3, 8] (fun cv iv wr => ∃ i : Nat, iv = .int .i64 i ∧ i ≤ n ∧ cv = .int .i64 (keptN (l.take i)) ∧ Hid (Below w.heap.size w wr)) (fun _ iv _ => n - (intOf iv).toNat)
  case atStart => exact ⟨0, rfl, by omega, rfl, Lib.hid (Below.refl _ _)⟩
  case round =>
    obtain ⟨i, rfl, hi, rfl, HB⟩ := hrel
    have hbd := keptN_bound (l := l.take i) (fun x hx => HO.out x (List.mem_of_mem_take hx))
    have hbd0 := hbd.1
    have hbd1 : keptN (l.take i) ≤ 2000000000 := by
      have h2 := hbd.2
      have h3 : (l.take i).length ≤ 1000 := by rw [List.length_take]; omega
      omega
    clear hbd
    by_cases h1 : (i : Int) < (n : Int)
    · obtain ⟨b, off, rfl, hbs, hc⟩ := (HR.out.below HB.out).2 (by omega)
      have hil : i < l.length := by omega
      obtain ⟨c0, c1, c2, c3⟩ := (hc i hil).cells
      have hok := HO.out l[i] (List.getElem_mem hil)
      have hTS : keptN (l.take (i + 1)) = keptN (l.take i) + ptN l[i] := by
        rw [List.take_succ_eq_append_getElem hil, keptN_append]
        simp [keptN]
      have i1 : (0 : Int) ≤ (i : Int) := by omega
      have hws := HB.out.size
      clear hc
      generalize hx : l[i] = x at *
      clear hx
      obtain ⟨xo, xf, xt, xA, xn, xc⟩ := x
      simp only at c0 c1 c2 c3
      obtain ⟨⟨b1, b2⟩, b3, b4⟩ := hok
      simp only at b1 b2 b3 b4
      generalize keptN (l.take i) = z at *
      generalize hz' : keptN (l.take (i + 1)) = z' at *
      have hz' := Lib.hid hz'
      have HB2 := Lib.hid (HB.out.alloc hws (.cells #[.bool xo, .int .i64 xf, .int .i64 xt, .slice xA xn xc] 75))
      have hwi : wrap64 ((i : Int) + 1) = (i : Int) + 1 := wrap_small (by omega) (by omega)
      cases xo with
      | false =>
        have hz : Hid (z' = z) := Lib.hid (by rw [hTS]; unfold ptN; simp)
        clear hTS hbd0 hbd1 b1 b2 b3 b4 HR HO hil
        go_wp2_with fail
        exact ⟨⟨i + 1, by push_cast; rfl, by omega, by rw [hz'.out, hz.out], HB2⟩, by simp only [intOf]; omega⟩
      | true =>
        by_cases hlt : xf < xt
        · have hz : Hid (z' = z + (xt - xf)) := Lib.hid (by rw [hTS]; unfold ptN; simp [hlt])
          have hw1 : wrap64 (xt - xf) = xt - xf := wrap_small (by omega) (by omega)
          have hw2 : wrap64 (z + (xt - xf)) = z + (xt - xf) := wrap_small (by omega) (by omega)
          clear hTS hbd0 hbd1 b1 b2 b3 b4 HR HO hil
          go_wp2_with fail
          exact ⟨⟨i + 1, by push_cast; rfl, by omega, by rw [hz'.out, hz.out, hw2], HB2⟩, by simp only [intOf]; omega⟩
        · have hz : Hid (z' = z) := Lib.hid (by rw [hTS]; unfold ptN; simp [hlt])
          clear hTS hbd0 hbd1 b1 b2 b3 b4 HR HO hil
          go_wp2_with fail
          exact ⟨⟨i + 1, by push_cast; rfl, by omega, by rw [hz'.out, hz.out], HB2⟩, by simp only [intOf]; omega⟩
    · have hin : i = n := by omega
      have hl : l.take i = l := List.take_of_length_le (by omega)
      rw [hl]
      go_wp2
      go_ret
      exact ⟨rfl, HB.out⟩
end Go.Proofs.Ytgodphfkhmahnaa.Df
