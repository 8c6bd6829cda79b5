/- Walks of the expressions' Right. -/
import Derived.Test.YtegkimcfmdckbabDoorExFits
import Derived.Deep.RegionWith
namespace Go.Proofs.YtegkimcfmdckbabDoor.Ex
open Go.RowKit Mem Lx
set_option linter.unusedVariables false

set_option maxRecDepth 100000 in
set_option maxHeartbeats 1000000 in
/-- the library's look whether two rows of numbers are the same -/
theorem equal_any (A A' : Option Addr) (n m c c' : Nat) (zs ys : List Int) (w : World) (h1 : Row .i64 w A n zs) (h2 : Row .i64 w A' m ys) (hn : n ≤ 1000000) :
    Calls Tryd.prog 27 #[.slice A n c, .slice A' m c'] w fun e w' => e = .returned (.bool (decide (zs = ys))) ∧ Drawn w w' := by
  have hl1 := h1.1
  have hl2 := h2.1
  by_cases hnm : n = m
  · subst hnm
    have H1 := hide h1
    have H2 := hide h2
    have HL := Lib.hid (⟨hl1, hl2⟩ : zs.length = n ∧ ys.length = n)
    clear h1 h2 hl1 hl2
    go_enter Tryd.func27, Tryd.ntmps27
    go_wp2_with fail
    go_loopw [13] (fun iv wr => ∃ j : Nat, iv = .int .i64 j ∧ j ≤ n ∧ Hid (Drawn w wr) ∧ Hid (∀ i, i < j → zs.getD i 0 = ys.getD i 0)) (fun iv _ => n - (intOf iv).toNat)
    case atStart => exact ⟨0, rfl, by omega, Lib.hid (drawn_refl w), Lib.hid (fun i hi => by omega)⟩
    case round =>
      obtain ⟨j, rfl, hj, hD, hE⟩ := hrel
      by_cases hlt : j < n
      · obtain ⟨b, off, rfl, hc⟩ := (H1.out.below (drawn_below hD.out)).2.2 (by omega)
        obtain ⟨b', off', rfl, hc'⟩ := (H2.out.below (drawn_below hD.out)).2.2 (by omega)
        have a0 := hc j hlt
        have b0 := hc' j hlt
        have l1 : decide ((j : Int) < (n : Int)) = true := by simp; omega
        have l2 : decide (j < n) = true := by simp; omega
        have g0 : (j : Int) < (n : Int) := by omega
        clear hc hc'
        by_cases he : zs.getD j 0 = ys.getD j 0
        · have HE : Hid (∀ i, i < j + 1 → zs.getD i 0 = ys.getD i 0) := fun i hi => by
            rcases Nat.lt_or_ge i j with h | h
            · exact hE.out i h
            · rw [show i = j from by omega]; exact he
          rw [he] at a0
          have t2 : (ys.getD j 0 != ys.getD j 0) = false := by simp
          generalize ys.getD j 0 = y at a0 b0 t2
          clear he hE
          go_wp2_with fail
          go_quiet (fail)
          go_wp2_with fail
          go_roundw
          case rel => exact ⟨j + 1, by go_num, by omega, Lib.hid (Drawn.trans hD.out ⟨_, rfl⟩), HE⟩
          case measure => simp [intOf]; omega
        · have t1 : (zs.getD j 0 != ys.getD j 0) = true := by simpa using he
          have HNE : Hid (decide (zs = ys) = false) := by
            show _ = _
            simp only [decide_eq_false_iff_not]
            rintro rfl
            exact he rfl
          generalize zs.getD j 0 = z at a0 t1
          generalize ys.getD j 0 = y at b0 t1
          clear he hE
          go_wp2_with fail
          go_quiet (fail)
          go_wp2_with fail
          go_ret
          exact ⟨by rw [HNE.out]; rfl, Drawn.trans hD.out ⟨_, rfl⟩⟩
      · have l1 : decide ((j : Int) < (n : Int)) = false := by simp; omega
        have l2 : decide (j < n) = false := by simp; omega
        have HEQ : Hid (decide (zs = ys) = true) := by
          show _ = _
          simp only [decide_eq_true_eq]
          refine List.ext_getElem (by rw [HL.out.1, HL.out.2]) (fun i h1 h2 => ?_)
          have := hE.out i (by have := HL.out.1; omega)
          simpa [List.getD, List.getElem?_eq_getElem h1, List.getElem?_eq_getElem h2] using this
        clear hlt
        go_wp2_with fail
        go_ret
        exact ⟨by rw [HEQ.out]; rfl, hD.out⟩
  · have HNE : Hid (decide (zs = ys) = false) := by
      show _ = _
      simp only [decide_eq_false_iff_not]
      rintro rfl
      omega
    have t1 : ((n : Int) != (m : Int)) = true := by simp; omega
    have t2 : (n != m) = true := by simpa using hnm
    clear hnm hl1 hl2 h1 h2
    go_enter Tryd.func27, Tryd.ntmps27
    go_wp2_with fail
    go_ret
    exact ⟨by rw [HNE.out]; rfl, drawn_refl w⟩

/-- the parts that are nobody's kids yet, behind one more -/
def stepR (free : List Int) (i : Nat) (p : PI) : Option (List Int) :=
  if p.kids.length ≤ free.length ∧ free.drop (free.length - p.kids.length) = p.kids ∧ fitsI p = true then some (free.take (free.length - p.kids.length) ++ [(i : Int)]) else none
def runR : Nat → List Int → List PI → Option (List Int)
  | _, free, [] => some free
  | i, free, p :: ps => match stepR free i p with
    | some f => runR (i + 1) f ps
    | none => none
/-- are these an expression's parts? -/
def rightI (e : List PI) : Bool := match runR 0 [] e with
  | some f => f.length == 1 || e.length == 0
  | none => false
theorem right_end {e : List PI} {free : List Int} {j : Nat} (h : runR 0 [] e = runR j free (e.drop j)) (hj : e.length ≤ j) : rightI e = (free.length == 1 || e.length == 0) := by
  rw [List.drop_eq_nil_of_le hj] at h
  unfold rightI
  rw [h]
  rfl
theorem right_bad {e : List PI} {free : List Int} {j : Nat} (h : runR 0 [] e = runR j free (e.drop j)) (hj : j < e.length) (hs : stepR free j e[j] = none) : rightI e = false := by
  rw [List.drop_eq_getElem_cons hj, runR, hs] at h
  unfold rightI
  rw [h]
theorem right_step {e : List PI} {free f : List Int} {j : Nat} (h : runR 0 [] e = runR j free (e.drop j)) (hj : j < e.length) (hs : stepR free j e[j] = some f) : runR 0 [] e = runR (j + 1) f (e.drop (j + 1)) := by
  rw [List.drop_eq_getElem_cons hj, runR, hs] at h
  exact h
/-- an own row of numbers, cut behind: still one's own -/
theorem own_cut {w : World} {base n m : Nat} {A : Option Addr} {c : Nat} {zs : List Int} (h : w.ownsRow base 3 1 (.slice A n c) n (zs.map (Value.int .i64))) (hm : m ≤ n) : w.ownsRow base 3 1 (.slice A m c) m ((zs.take m).map (Value.int .i64)) := by
  have hl : zs.length = n := by simpa using h.1
  refine ⟨by simp; omega, ?_⟩
  rcases h.2 with ⟨h1, h0⟩ | ⟨g, cap, cur, hv, hb, hg, hnc, hmx, hs, ht⟩
  · simp only [Value.slice.injEq] at h1
    obtain ⟨rfl, rfl, rfl⟩ := h1
    exact .inl ⟨by rw [show m = 0 from by omega], by omega⟩
  · simp only [Value.slice.injEq] at hv
    obtain ⟨rfl, -, rfl⟩ := hv
    refine .inr ⟨g, c, cur, rfl, hb, hg, by omega, hmx, hs, ?_⟩
    rw [List.map_take, ← ht, List.take_take, Nat.mul_one, Nat.mul_one, Nat.min_eq_left hm]
/-- an own row of numbers, from a place on: read -/
theorem own_rest {w : World} {base n : Nat} {A : Option Addr} {c : Nat} {zs : List Int} (h : w.ownsRow base 3 1 (.slice A n c) n (zs.map (Value.int .i64))) (hz : ∀ z ∈ zs, (Lit.int .i64 z).wf = true) (o : Nat) (ho : o ≤ n) (A' : Option Addr) (hA : o < n → ∀ g, A = some ⟨g, 0, none⟩ → A' = some ⟨g, o, none⟩) : Row .i64 w A' (n - o) (zs.drop o) := by
  have hl : zs.length = n := by simpa using h.1
  refine ⟨by simp; omega, fun z hz2 => hz z (List.mem_of_mem_drop hz2), fun hn => ?_⟩
  rcases h.2 with ⟨h1, h0⟩ | ⟨g, cap, cur, hv, hb, hg, hnc, hmx, hs, ht⟩
  · omega
  · simp only [Value.slice.injEq] at hv
    obtain ⟨rfl, -, rfl⟩ := hv
    refine ⟨g, o, hA (by omega) g rfl, fun j hj => ?_⟩
    have hlt : o + j < zs.length := by omega
    have := World.ownsRow.cells h (g := g) rfl (o + j) (.int .i64 (zs[o + j])) (by simp [hlt])
    have hp : (⟨g, 0, none⟩ : Addr).add (o + j) = ⟨g, o + j, none⟩ := by unfold Addr.add; split <;> simp_all
    rw [hp] at this
    rw [this]
    simp [List.getD, List.getElem?_drop, List.getElem?_eq_getElem hlt]

theorem own_room {w : World} {base size n m : Nat} {e : TypeId} {A : Option Addr} {c : Nat} {xs : List Value} (h : w.ownsRow base e size (.slice A n c) m xs) : m ≤ c := by
  rcases h.2 with ⟨h1, h0⟩ | ⟨g, cap, cur, hv, hb, hg, hnc, hmx, hs, ht⟩
  · omega
  · simp only [Value.slice.injEq] at hv
    omega
theorem own_rest_if {w : World} {base n : Nat} {A : Option Addr} {c : Nat} {zs : List Int} (h : w.ownsRow base 3 1 (.slice A n c) n (zs.map (Value.int .i64))) (hz : ∀ z ∈ zs, (Lit.int .i64 z).wf = true) (o : Nat) (ho : o ≤ n) : Row .i64 w (if c = o then A else Option.map (fun x => x.add o) A) (n - o) (zs.drop o) := by
  refine own_rest h hz o ho _ (fun hlt g hA => ?_)
  rcases h.2 with ⟨h1, h0⟩ | ⟨g', cap, cur, hv, hb, hg, hnc, hmx, hs, ht⟩
  · omega
  · simp only [Value.slice.injEq] at hv
    obtain ⟨h1, -, rfl⟩ := hv
    rw [if_neg (by omega), hA]
    have hp : (⟨g, 0, none⟩ : Addr).add o = ⟨g, o, none⟩ := by unfold Addr.add; split <;> simp_all
    simp [hp]
set_option maxRecDepth 100000 in
set_option maxHeartbeats 8000000 in
theorem right_any (A : Option Addr) (n c : Nat) (e : List PI) (w : World) (h : PR w A n e) (H : Held w) (hn : n ≤ 100000) (hs : ∀ p ∈ e, Small p ∧ p.kids.length ≤ 1000000) :
    Calls Tryd.prog 11 #[.slice A n c] w fun en w' => en = .returned (.bool (rightI e)) ∧ Below w.heap.size w w' := by
  obtain ⟨i0, hi0, hz0, hsz1, hsz2⟩ := info_parts info_i64
  have HR := hide h
  have HLN := Lib.hid h.1
  have HH := hide H
  have HS := hide hs
  clear h H hs
  go_enter Tryd.func11, Tryd.ntmps11
  go_wp2_with fail
  go_loopw [3, 9] (fun v iv wr => ∃ (j : Nat) (free : List Int) (A1 : Option Addr) (c1 : Nat), v = .slice A1 free.length c1 ∧ iv = .int .i64 j ∧ j ≤ n ∧ free.length ≤ j ∧ Hid (∀ z ∈ free, (Lit.int .i64 z).wf = true) ∧ Hid (wr.ownsRow w.heap.size 3 1 (.slice A1 free.length c1) free.length (free.map (Value.int .i64))) ∧ Hid (Below w.heap.size w wr) ∧ Hid (runR 0 [] e = runR j free (e.drop j))) (fun _ iv _ => n - (intOf iv).toNat)
  case atStart => exact ⟨0, [], none, 0, rfl, rfl, by omega, by simp, Lib.hid (by simp), Lib.hid (World.ownsRow_nil _ _ _ _), Lib.hid (Below.refl _ _), Lib.hid rfl⟩
  case round =>
    obtain ⟨j, free, A1, c1, rfl, rfl, hj, hfl, hwf, hO, hB, hE⟩ := hrel
    by_cases hlt : j < n
    · have j1 : j < e.length := by have := HLN.out; omega
      obtain ⟨b, off, rfl, hb, hc⟩ := (HR.out.below hB.out).2 (by omega)
      obtain ⟨a0, a1, a2, a3, kv, a4, ra⟩ := hc j j1
      have l1 : decide ((j : Int) < (n : Int)) = true := by simp; omega
      have l2 : decide (j < n) = true := by simp; omega
      have g0 : (j : Int) < (n : Int) := by omega
      have HSM := Lib.hid (HS.out _ (List.getElem_mem j1))
      have HBAD := hide (right_bad hE.out j1)
      have HSTEP := hide (fun f => right_step (f := f) hE.out j1)
      generalize e[j] = p at a0 a1 a2 a3 ra HSM HBAD HSTEP
      obtain ⟨Ak, ck, rfl, hck, hrk⟩ := ra
      obtain ⟨kd, lo, hi, nm, ks⟩ := p
      dsimp only at a0 a1 a2 a3 a4 hck hrk HSM
      have HRK := Lib.hid hrk
      have HB1 : Hid (Below w.heap.size w (wr.alloc (.cells #[.int .i64 kd, .int .i64 lo, .int .i64 hi, .string ⟨nm.toArray⟩, .slice Ak ks.length ck] 46))) := hB.out.alloc hB.out.size _
      have HO1 := Lib.hid (World.ownsRow.alloc hO.out (.cells #[.int .i64 kd, .int .i64 lo, .int .i64 hi, .string ⟨nm.toArray⟩, .slice Ak ks.length ck] 46))
      have HRK1 := Lib.hid (Row.alloc hrk (.cells #[.int .i64 kd, .int .i64 lo, .int .i64 hi, .string ⟨nm.toArray⟩, .slice Ak ks.length ck] 46))
      clear hc hrk
      by_cases h1 : ks.length ≤ free.length
      · obtain ⟨o, ho⟩ : ∃ o, o = free.length - ks.length := ⟨_, rfl⟩
        have hfw : IntKind.i64.wrap ((free.length : Int) - (ks.length : Int)) = (o : Int) := by rw [IntWalk.i64_in _ (by have := HSM.out.2; omega)]; omega
        have hol : o ≤ free.length := by omega
        have hol' : (o : Int) ≤ (free.length : Int) := by omega
        have hoc : o ≤ c1 := Nat.le_trans hol (own_room hO.out)
        have hoc' : (o : Int) ≤ (c1 : Int) := by omega
        have hkl : ks.length = free.length - o := by omega
        have hrf0 := own_rest_if HO1.out hwf.out o hol
        obtain ⟨A9, hA9⟩ : ∃ A9, (if c1 = o then A1 else Option.map (fun x => x.add o) A1) = A9 := ⟨_, rfl⟩
        rw [hA9] at hrf0
        have HRF := Lib.hid hrf0
        clear hrf0
        have HEQ := hide (fun q => equal_any A9 Ak (free.length - o) ks.length (c1 - o) ck (free.drop o) ks ((wr.alloc (.cells #[.int .i64 kd, .int .i64 lo, .int .i64 hi, .string ⟨nm.toArray⟩, .slice Ak ks.length ck] 46)).drewN q) (HRF.out.drewN q) (HRK1.out.drewN q) (by omega))
        by_cases he : free.drop o = ks
        · by_cases hf : fitsI ⟨kd, lo, hi, nm, ks⟩ = true
          · have HNX := Lib.hid (HSTEP.out (free.take o ++ [(j : Int)]) (by rw [stepR, if_pos ⟨h1, by rw [← ho]; exact he, hf⟩, ← ho]))
            have hdc : decide (free.drop o = ks) = true := by simpa using he
            rw [hdc] at HEQ
            have HFT0 : ∀ W, Held W → Calls Tryd.prog 28 #[.agg #[.int .i64 kd, .int .i64 lo, .int .i64 hi, .string ⟨nm.toArray⟩, .slice Ak ks.length ck]] W fun en w' => en = .returned (.bool (fitsI ⟨kd, lo, hi, nm, ks⟩)) ∧ Below W.heap.size W w' := fun W HW => fits_any ⟨kd, lo, hi, nm, ks⟩ Ak ck W HW HSM.out.1 HSM.out.2
            rw [hf] at HFT0
            have HFT := hide HFT0
            clear HFT0
            have HH1 := Lib.hid (HH.out.below HB1.out)
            clear h1 ho hkl he hdc hf
            go_upto_region 6 with fail
            have hHHD : Hid (∀ m, Held ((wr.alloc (.cells #[.int .i64 kd, .int .i64 lo, .int .i64 hi, .string ⟨nm.toArray⟩, .slice Ak ks.length ck] 46)).drewN m)) := fun m => HH1.out.below (below_drewN (Below.refl _ _) m)
            have hBD : Hid (∀ m, Below w.heap.size w ((wr.alloc (.cells #[.int .i64 kd, .int .i64 lo, .int .i64 hi, .string ⟨nm.toArray⟩, .slice Ak ks.length ck] 46)).drewN m)) := fun m => below_drewN HB1.out m
            have HEQ1 : Hid (Calls Tryd.prog 27 #[.slice A9 (free.length - o) (c1 - o), .slice Ak ks.length ck] (wr.alloc (.cells #[.int .i64 kd, .int .i64 lo, .int .i64 hi, .string ⟨nm.toArray⟩, .slice Ak ks.length ck] 46)).drew fun e w' => e = .returned (.bool true) ∧ ∃ m, w' = (wr.alloc (.cells #[.int .i64 kd, .int .i64 lo, .int .i64 hi, .string ⟨nm.toArray⟩, .slice Ak ks.length ck] 46)).drew.drewN m) := HEQ.out 1
            clear HEQ
            go_region_with (first
              | (go_at_call 27; (with_reducible refine (HEQ1.out).mono ?_); rintro en w5 ⟨rfl, m5, rfl⟩)
              | (go_at_call 28; (with_reducible refine (HFT.out _ (hHHD.out _)).mono ?_); rintro en w6 ⟨rfl, hb6⟩; have HB6 : Hid (Below w.heap.size w w6) := (hBD.out _).trans (hb6.mono (hBD.out _).size); have HO6 : Hid (w6.ownsRow w.heap.size 3 1 (.slice A1 free.length c1) free.length (free.map (Value.int .i64))) := World.ownsRow.kept HO1.out (row := none) ⟨hb6.os, hb6.tape, hb6.output, hb6.size, fun i hi _ => hb6.block i hi⟩ (Classical.em _); clear hb6))
            all_goals
              have HOC := Lib.hid (World.ownsRow.alloc (own_cut HO6.out hol) (.cells #[.int .i64 (j : Int)] 3))
              have HROW := Lib.hid (row_one w6 (j : Int) (WalkArith.wf_i64 (by omega)))
              have hz6 := HB6.out.size
              have HWF : Hid (∀ z ∈ free.take o ++ [(j : Int)], (Lit.int .i64 z).wf = true) := fun z hz => by
                rcases List.mem_append.1 hz with hz | hz
                · exact hwf.out z (List.mem_of_mem_take hz)
                · simp at hz; subst hz; exact WalkArith.wf_i64 (by omega)
              have hlen : Hid ((free.take o ++ [(j : Int)]).length = o + 1) := by show _ = _; simp; omega
              have hoj : o + 1 ≤ j + 1 := by omega
              go_wp2_with (at_builtin; (refine wpList_app rfl (.tmp 38) (.tmp 40) _ rfl .i64 w.heap.size 3 i0 8 Tryd.underlying38 hi0 hz0 hsz1 hsz2 (by omega) _ o (free.take o) rfl HOC.out _ 1 1 [(j : Int)] rfl HROW.out (by omega) (by simp; omega) ?_); intro v' w7 hown hg hat; obtain ⟨A7, c7, hv7⟩ := own_form5 hown; subst hv7; have HO7 := Lib.hid hown; have HB7 : Hid (Below w.heap.size w w7) := (HB6.out.alloc hz6 _).grown hg (by simp; omega) (fun g hg => (World.ownsRow.lt HOC.out g hg).1); clear hown hg hat)
              go_roundw
              case rel => exact ⟨j + 1, free.take o ++ [(j : Int)], A7, c7, by rw [hlen.out], by go_num, by omega, by rw [hlen.out]; exact hoj, HWF, by rw [hlen.out]; exact HO7, HB7, HNX⟩
              case measure => simp [intOf]; omega
          · have HX := Lib.hid (HBAD.out (by simp [stepR]; intro _ _; simpa using hf))
            have hdc : decide (free.drop o = ks) = true := by simpa using he
            rw [hdc] at HEQ
            have HFT0 : ∀ W, Held W → Calls Tryd.prog 28 #[.agg #[.int .i64 kd, .int .i64 lo, .int .i64 hi, .string ⟨nm.toArray⟩, .slice Ak ks.length ck]] W fun en w' => en = .returned (.bool (fitsI ⟨kd, lo, hi, nm, ks⟩)) ∧ Below W.heap.size W w' := fun W HW => fits_any ⟨kd, lo, hi, nm, ks⟩ Ak ck W HW HSM.out.1 HSM.out.2
            rw [show fitsI ⟨kd, lo, hi, nm, ks⟩ = false from by simpa using hf] at HFT0
            have HFT := hide HFT0
            clear HFT0
            have HH1 := Lib.hid (HH.out.below HB1.out)
            clear h1 ho hkl he hdc hf
            go_upto_region 6 with fail
            have hHHD : Hid (∀ m, Held ((wr.alloc (.cells #[.int .i64 kd, .int .i64 lo, .int .i64 hi, .string ⟨nm.toArray⟩, .slice Ak ks.length ck] 46)).drewN m)) := fun m => HH1.out.below (below_drewN (Below.refl _ _) m)
            have hBD : Hid (∀ m, Below w.heap.size w ((wr.alloc (.cells #[.int .i64 kd, .int .i64 lo, .int .i64 hi, .string ⟨nm.toArray⟩, .slice Ak ks.length ck] 46)).drewN m)) := fun m => below_drewN HB1.out m
            have HEQ1 : Hid (Calls Tryd.prog 27 #[.slice A9 (free.length - o) (c1 - o), .slice Ak ks.length ck] (wr.alloc (.cells #[.int .i64 kd, .int .i64 lo, .int .i64 hi, .string ⟨nm.toArray⟩, .slice Ak ks.length ck] 46)).drew fun e w' => e = .returned (.bool true) ∧ ∃ m, w' = (wr.alloc (.cells #[.int .i64 kd, .int .i64 lo, .int .i64 hi, .string ⟨nm.toArray⟩, .slice Ak ks.length ck] 46)).drew.drewN m) := HEQ.out 1
            clear HEQ
            go_region_with (first
              | (go_at_call 27; (with_reducible refine (HEQ1.out).mono ?_); rintro en w5 ⟨rfl, m5, rfl⟩)
              | (go_at_call 28; (with_reducible refine (HFT.out _ (hHHD.out _)).mono ?_); rintro en w6 ⟨rfl, hb6⟩; have HB6 : Hid (Below w.heap.size w w6) := (hBD.out _).trans (hb6.mono (hBD.out _).size); have HO6 : Hid (w6.ownsRow w.heap.size 3 1 (.slice A1 free.length c1) free.length (free.map (Value.int .i64))) := World.ownsRow.kept HO1.out (row := none) ⟨hb6.os, hb6.tape, hb6.output, hb6.size, fun i hi _ => hb6.block i hi⟩ (Classical.em _); clear hb6))
            all_goals
              go_wp2_with fail
              go_ret
              exact ⟨by rw [HX.out]; rfl, HB6.out⟩
        · have HX := Lib.hid (HBAD.out (by simp [stepR]; intro _ h; exact absurd (by rw [ho]; exact h) he))
          have hdc : decide (free.drop o = ks) = false := by simpa using he
          rw [hdc] at HEQ
          clear h1 ho hkl he hdc
          go_upto_region 6 with fail
          go_quiet ((go_at_call 27; exact Calls.quiet_of (HEQ.out _)))
          go_wp2_with fail
          go_ret
          exact ⟨by rw [HX.out]; rfl, below_drewN HB1.out nq⟩
      · have hfw : IntKind.i64.wrap ((free.length : Int) - (ks.length : Int)) = (free.length : Int) - (ks.length : Int) := IntWalk.i64_in _ (by have := HSM.out.2; omega)
        have t1 : decide ((free.length : Int) - (ks.length : Int) < 0) = true := by simp; omega
        have HX := Lib.hid (HBAD.out (by simp [stepR, h1]))
        clear h1
        go_upto_region 6 with fail
        go_quiet (fail)
        go_wp2_with fail
        go_ret
        exact ⟨by rw [HX.out]; rfl, below_drewN HB1.out nq⟩
    · have hjn : e.length ≤ j := by have := HLN.out; omega
      have HX := Lib.hid (right_end hE.out hjn)
      have l1 : decide ((j : Int) < (n : Int)) = false := by simp; omega
      have l2 : decide (j < n) = false := by simp; omega
      have hnn : Hid (e.length = n) := HLN.out
      clear hjn hlt
      by_cases q1 : free.length = 1
      · have t1 : ((free.length : Int) == 1) = true := by simp; omega
        have t2 : (free.length == 1) = true := by simpa using q1
        have HX2 : Hid (rightI e = true) := by show _ = _; rw [HX.out, t2]; rfl
        clear q1
        go_wp2_with fail
        go_ret
        exact ⟨by rw [HX2.out]; rfl, hB.out⟩
      · have t1 : ((free.length : Int) == 1) = false := by simp; omega
        have t2 : (free.length == 1) = false := by simpa using q1
        have HX2 : Hid (rightI e = (n == 0)) := by show _ = _; rw [HX.out, t2, hnn.out]; rfl
        clear q1
        go_wp2_with fail
        go_ret
        refine ⟨?_, hB.out⟩
        rw [HX2.out]
        have hnz : ((n : Int) == 0) = (n == 0) := by rw [Bool.eq_iff_iff]; simp
        rw [← hnz]
        rfl
end Go.Proofs.YtegkimcfmdckbabDoor.Ex
