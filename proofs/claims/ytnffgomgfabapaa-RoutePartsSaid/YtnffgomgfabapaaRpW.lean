/- Route parts: the reference's Invert. Route parts: bind, keys may be put again. Route parts: the program's From. Route parts: a range over a function whose rounds change nothing of the iterator's, in which a map that was made within may be written, and which may be left by a return; slices.Backward. -/
import Derived.Test.YtnffgomgfabapaaRpL
import Derived.Test.YtnffgomgfabapaaSmM
import Derived.RangeFuncBox
import Derived.RangeFuncNested
import Derived.RangeFuncBound
import Derived.RangeFuncCalls
import Derived.RangeFuncLeaves
import Derived.RangeFuncFrom
import Derived.Shelf.Abstract
import Derived.OwnWalkIn
import Derived.TacticsInMore
import Derived.LoopNIn
import Derived.LoopIn
namespace Go.Proofs.Ytnffgomgfabapaa.Rt
open Go.RowKit Mem Sm
set_option linter.unusedVariables false
set_option linter.unusedSimpArgs false
/-- the maps the other way -/
def ivL (M : List (List Rg)) : List (List Rg) := M.reverse.map inv
theorem ivL_len (M : List (List Rg)) : (ivL M).length = M.length := by simp [ivL]
theorem ivL_at {M : List (List Rg)} {k : Nat} (h : k < M.length) : (ivL M)[k]'(by rw [ivL_len]; exact h) = inv (M[M.length - 1 - k]'(by omega)) := by
  simp [ivL]
theorem ivL_snoc {M : List (List Rg)} {k : Nat} (h : k < M.length) : (ivL M).take (k + 1) = (ivL M).take k ++ [inv (M[M.length - 1 - k]'(by omega))] := by
  rw [List.take_succ_eq_append_getElem (by rw [ivL_len]; exact h), ivL_at h]
theorem ivO_len (O : List Int) : (ivO O).length = O.length := by simp [ivO]
theorem ivO_snoc {O : List Int} {k : Nat} (h : k < O.length) : (ivO O).take (k + 1) = (ivO O).take k ++ [if 0 ≤ O.getD (O.length - 1 - k) 0 then (O.length : Int) - 1 - O.getD (O.length - 1 - k) 0 else -1] := by
  rw [List.take_succ_eq_append_getElem (by rw [ivO_len]; exact h)]
  congr 2
  have h2 : O.length - 1 - k < O.length := by omega
  simp only [ivO, List.getElem_map, List.getElem_reverse, List.getD, List.getElem?_eq_getElem h2]
  rfl
theorem rlow_mono {n₀ n₁ m : Nat} {W : World} {A : Option Addr} {l : List Rg} (h : RLow n₀ W A m l) (hn : n₀ ≤ n₁) : RLow n₁ W A m l :=
  ⟨h.1, fun hm => by
    obtain ⟨b, off, e, hl, hc⟩ := h.2 hm
    exact ⟨b, off, e, by omega, hc⟩⟩
/-- rows of ranges outlive what is written to blocks of another type -/
theorem range_grown {W W' : World} {base n : Nat} {e : TypeId} {v : Value} {us : List Value} (hv : W.ownsRow base e 1 v n us) (he : e ≠ 56) (hg : W.grownBy W' v.ownBlock) :
    ∀ (k : Nat) (cs : Array Value) (fr : Nat × Nat), W.heap[k]? = some (.cells cs 56 fr) → W'.heap[k]? = some (.cells cs 56 fr) := fun k cs fr hk => by
  rw [hg.block k (lt_some hk) (fun e2 => ?_)]
  · exact hk
  · rw [own_blk hv] at e2
    obtain ⟨cs', fr', hh⟩ := own_ty hv _ e2.symm
    rw [hk] at hh
    injection hh with hh
    injection hh with _ h6 _
    exact he h6.symm
theorem range_set {W : World} {q j : Nat} {u : Value} {cs0 : Array Value} {t : TypeId} {fr0 : Nat × Nat} (hq : W.heap[q]? = some (.cells cs0 t fr0)) (ht : t ≠ 56) :
    ∀ (k : Nat) (cs : Array Value) (fr : Nat × Nat), W.heap[k]? = some (.cells cs 56 fr) → (W.setCell ⟨q, j, none⟩ u).heap[k]? = some (.cells cs 56 fr) := fun k cs fr hk => by
  rw [Below.heap_setCell _ _ _ _ (fun e => ?_)]
  · exact hk
  · simp only at e
    subst e
    rw [hq] at hk
    injection hk with hk
    injection hk with _ h6 _
    exact ht h6
theorem range_below {W W' : World} (hb : Below W.heap.size W W') : ∀ (k : Nat) (cs : Array Value) (fr : Nat × Nat), W.heap[k]? = some (.cells cs 56 fr) → W'.heap[k]? = some (.cells cs 56 fr) := fun k cs fr e => by rw [hb.block _ (lt_some e)]; exact e
theorem sls_snoc {W : World} {vs : List Value} {M : List (List Rg)} {u : Value} {l : List Rg} (h : Sls W vs M) (hu : SlAt W u l) : Sls W (vs ++ [u]) (M ++ [l]) := by
  refine ⟨by simp [h.1], fun i v m h1 h2 => ?_⟩
  by_cases g : i < vs.length
  · rw [List.getElem?_append_left g] at h1
    rw [List.getElem?_append_left (by rw [← h.1]; exact g)] at h2
    exact h.2 i v m h1 h2
  · rw [List.getElem?_append_right (by omega)] at h1
    rw [List.getElem?_append_right (by rw [← h.1]; omega), ← h.1] at h2
    have h0 : i - vs.length = 0 := by
      have := (List.getElem?_eq_some_iff.1 h1).1
      simp at this; omega
    rw [h0] at h1 h2
    simp at h1 h2
    subst h1; subst h2
    exact hu
theorem set2_at {B : Nat} {W : World} {x0 x1 : Value} {t : TypeId} (e : W.heap[B]? = some (.cells #[x0, x1] t (0, 0))) (y0 : Value) : (W.setCell ⟨B, 0, none⟩ y0).heap[B]? = some (.cells #[y0, x1] t (0, 0)) := by
  simp [World.setCell, Array.getElem?_modify, e]
theorem lowv_of {W : World} {u : Value} {l : List Rg} (h : SlAt W u l) : LowV W.heap.size W u l := by
  obtain ⟨A, c, e, hr, _⟩ := h
  exact ⟨A, c, e, RLow.of hr⟩
/-- two rows of different types are in different blocks -/
theorem own_apart {W : World} {base base' n n' : Nat} {e e' : TypeId} {v v' : Value} {us us' : List Value} (h : W.ownsRow base e 1 v n us) (h' : W.ownsRow base' e' 1 v' n' us') (hne : e ≠ e') : ∀ g, v.ownBlock = some g → blkOf v' ≠ some g := fun g eg eg' => by
  rw [own_blk h] at eg
  obtain ⟨c1, f1, h1⟩ := own_ty h g eg
  obtain ⟨c2, f2, h2⟩ := own_ty h' g eg'
  rw [h1] at h2
  injection h2 with h2
  injection h2 with _ h6 _
  exact hne h6
def RInvIs (M : List (List Rg)) (O : List Int) (w : World) (e : Ending) (w' : World) : Prop :=
  ((∀ l ∈ ivL M, rightB l = true) ∧ ∃ mv' ov' vs', e = .returned (.tuple #[.agg #[mv', ov'], .bool true]) ∧ XAt w'.heap.size w.heap.size w' mv' ov' vs' (ivL M) (ivO O) ∧ Below w.heap.size w w') ∨
  ((¬ ∀ l ∈ ivL M, rightB l = true) ∧ e = .returned (.tuple #[.agg #[.slice none 0 0, .slice none 0 0], .bool false]) ∧ Below w.heap.size w w')
set_option maxRecDepth 100000 in
set_option maxHeartbeats 8000000 in
theorem rinv_any (n₀ base : Nat) (mv ov : Value) (vs : List Value) (M : List (List Rg)) (O : List Int) (w : World) (hM : M.length ≤ 1000) (hm : ∀ m ∈ M, m.length ≤ 20 ∧ rightB m = true) (hlen : O.length = M.length) (hO : ∀ k, k < O.length → -1 ≤ O.getD k 0 ∧ O.getD k 0 ≤ 1000) (hX : XAt n₀ base w mv ov vs M O) (hn₀ : n₀ ≤ w.heap.size) :
    Calls Try.prog 20 #[.agg #[mv, ov]] w (RInvIs M O w) := by
  obtain ⟨A0, c0, hmv, _⟩ := own_form hX.mrow
  obtain ⟨A1, c1, hov, _⟩ := own_form hX.orow
  subst hmv; subst hov
  have HX := Lib.hid hX
  have HO := Lib.hid hO
  have HMR := Lib.hid hm
  obtain ⟨m, hmm⟩ : ∃ m, M.length = m := ⟨_, rfl⟩
  have hol : O.length = m := by omega
  have HMM := Lib.hid hmm
  have HOL := Lib.hid hol
  obtain ⟨E, hE⟩ : ∃ E, E = RInvIs M O w := ⟨_, rfl⟩
  have HE := Lib.hid hE
  rw [← hE, hol]
  rw [hmm] at hM ⊢
  clear hX hO hlen hm hmm hol hE
  have HG0 := Lib.hid (LG.made w (.slice A0 m c0) (.slice A1 m c1) (.slice none 0 0))
  have hwm : wrap64 ((m : Int) - 1) = (m : Int) - 1 := by unfold wrap64; omega
  go_enter Try.func20, Try.ntmps20
  go_wp2_with fail
  clear hwm
  go_loopw [6] (fun kv wr => ∃ (k : Nat) (mv' ov' : Value) (vs' : List Value), kv = .int .i64 ((m : Int) - 1 - k) ∧ k ≤ m ∧ Hid (LG w wr (.slice A0 m c0) (.slice A1 m c1) mv' ov') ∧ Hid (wr.ownsRow w.heap.size 34 1 mv' k vs') ∧ Hid (wr.ownsRow w.heap.size 3 1 ov' k (ints ((ivO O).take k))) ∧ Hid (Sls wr vs' ((ivL M).take k)) ∧ Hid (∀ l ∈ (ivL M).take k, rightB l = true)) (fun kv _ => (intOf kv + 1).toNat)
  case atStart => exact ⟨0, .slice none 0 0, .slice none 0 0, [], by simp, by omega, HG0, Lib.hid (World.ownsRow_nil _ _ _ _), Lib.hid (World.ownsRow_nil _ _ _ _), Lib.hid ⟨rfl, fun i v l h => by simp at h⟩, Lib.hid (fun l h => by simp at h)⟩
  case round =>
    clear HG0
    obtain ⟨k, mv', ov', vs', rfl, hk, HG, HWM, HWO, HS, HGD⟩ := hrel
    obtain ⟨q0, q1, _, _⟩ := two HG.out.x2
    by_cases hlt : k < m
    · obtain ⟨K, hK⟩ : ∃ K : Nat, K = m - 1 - k := ⟨_, rfl⟩
      have hKm : K < m := by omega
      have hKM : K < M.length := by rw [HMM.out]; exact hKm
      have hkM : k < M.length := by rw [HMM.out]; exact hlt
      have hkO : k < O.length := by rw [HOL.out]; exact hlt
      have hKO : K < O.length := by rw [HOL.out]; exact hKm
      have eK : M.length - 1 - k = K := by rw [HMM.out, hK]
      have eKO : O.length - 1 - k = K := by rw [HOL.out, hK]
      obtain ⟨g, cg, A, c, hv, hgl, hcell0, hrow0⟩ := HX.out.nth hKM
      rw [HMM.out] at hv
      simp only [Value.slice.injEq] at hv
      obtain ⟨hA0, _, hc0⟩ := hv
      subst hA0; subst hc0
      obtain ⟨go, co, hov, hgol, _, hoc⟩ := own_at HX.out.orow (ints_at hKO)
      rw [HOL.out] at hov
      simp only [Value.slice.injEq] at hov
      obtain ⟨hA1, _, hco⟩ := hov
      subst hA1; subst hco
      have ho := HO.out K hKO
      have hoc1 := below_cell HG.out.hb hoc
      have hmc1 := below_cell HG.out.hb hcell0
      have hSN := ivL_snoc hkM
      have hSO := ivO_snoc hkO
      have hat : M[M.length - 1 - k]'(by omega) = M[K] := by congr 1
      rw [hat] at hSN
      rw [eKO, HOL.out] at hSO
      have hlm := HMR.out _ (List.getElem_mem hKM)
      have hrow1 := hrow0.below HG.out.hb hn₀
      clear hcell0 hoc hrow0 hat eK eKO
      generalize O.getD K 0 = o at ho hoc1 hSO
      generalize M[K] = l at hmc1 hSN hlm hrow1
      obtain ⟨E2, hE2⟩ : ∃ E2 : Int, (if 0 ≤ o then (m : Int) - 1 - o else -1) = E2 := ⟨_, rfl⟩
      rw [hE2] at hSO
      have HSN := Lib.hid hSN
      have HSO := Lib.hid hSO
      have HE2 := Lib.hid hE2
      have HK := Lib.hid hK
      have eiv : (m : Int) - 1 - k = (K : Int) := by omega
      rw [eiv]
      have HEV := Lib.hid eiv
      have hl20 : l.length ≤ 100 := by omega
      have CI := fun W (hb : Below w.heap.size w W) (hr : RLow n₀ W A l.length l) => rinvert_any l A l.length c W hl20 (right_of hlm.2) (rlow_mono hr (Nat.le_trans hn₀ hb.size))
      have CR := fun A' c' W q => rright_any (inv l) A' l.length c' W hl20 q
      have HRW := Lib.hid hrow1
      have HIL := Lib.hid (inv_length l)
      have i1 : (0 : Int) ≤ (K : Int) := by omega
      have i2 : (K : Int) < (m : Int) := by omega
      have hwk : wrap64 ((K : Int) - 1) = (K : Int) - 1 := by unfold wrap64; omega
      have hk1 : k < 1000 := by omega
      clear hSN hSO hE2 hK eiv hrow1 hKM hkM hkO hKO hwk
      go_wp2_with fail
      refine (CI _ HG.out.hb HRW.out).mono ?_
      rintro e w1 ⟨v1, rfl, hv1, hb1⟩
      have HG1 := Lib.hid (HG.out.step hb1)
      have HWM1 := Lib.hid (own_keep HWM.out (grown_below hb1) (fun g e => by cases e))
      have HWO1 := Lib.hid (own_keep HWO.out (grown_below hb1) (fun g e => by cases e))
      have HS1 := Lib.hid (HS.out.keep hb1.size (range_below hb1))
      have HSL := Lib.hid (SlAt.of_own hv1)
      obtain ⟨A2, c2, hv2, _, hr2⟩ := hv1.row
      rw [HIL.out] at hv2 hr2
      subst hv2
      have HR2 := Lib.hid (RLow.of hr2)
      have hoc2 := below_cell hb1 hoc1
      clear hb1 hv1 hr2 q0 q1 hmc1 hoc1 HG HWM HWO HS CI HRW
      obtain ⟨q0, q1, _, _⟩ := two HG1.out.x2
      go_wp2_with fail
      refine (CR _ _ _ HR2.out).mono ?_
      rintro e w2 ⟨rfl, hb2⟩
      have HG2 := Lib.hid (HG1.out.step hb2)
      have HWM2 := Lib.hid (own_keep HWM1.out (grown_below hb2) (fun g e => by cases e))
      have HWO2 := Lib.hid (own_keep HWO1.out (grown_below hb2) (fun g e => by cases e))
      have HS2 := Lib.hid (HS1.out.keep hb2.size (range_below hb2))
      have HSL2 := Lib.hid (HSL.out.keep hb2.size (range_below hb2))
      have hoc3 := below_cell hb2 hoc2
      clear hb2 q0 q1 hoc2 HG1 HWM1 HWO1 HS1 CR HR2 HSL
      obtain ⟨q0, q1, _, _⟩ := two HG2.out.x2
      obtain ⟨r0, r1, rf0, rf1⟩ := two HG2.out.x4
      obtain ⟨RB, hRB⟩ : ∃ b, rightB (inv l) = b := ⟨_, rfl⟩
      rw [hRB]
      have HRB := Lib.hid hRB
      clear hRB
      cases RB with
      | false =>
        have hno : ¬ ∀ x ∈ ivL M, rightB x = true := fun g => by
          have h1 : inv l ∈ (ivL M).take (k + 1) := by rw [HSN.out]; simp
          have h2 := g _ (List.mem_of_mem_take h1)
          rw [HRB.out] at h2; cases h2
        have HNO := Lib.hid hno
        clear hno
        go_wp2
        obtain ⟨s0, s1, _, _⟩ := two (put2_at HG2.out.x4 (.slice none 0 0) (.slice none 0 0))
        refine bodyPost_ret (v := .tuple #[.agg #[.slice none 0 0, .slice none 0 0], .bool false]) ?_ rfl (by rw [HE.out]; exact .inr ⟨HNO.out, rfl, put2_below HG2.out.hb (by omega) _ _⟩)
        simp [results, Try.results20, go_sem, s0, s1]
      | true =>
        have HGD2 : Hid (∀ x ∈ (ivL M).take (k + 1), rightB x = true) := Lib.hid (fun x hx => by
          rw [HSN.out] at hx
          rcases List.mem_append.1 hx with h | h
          · exact HGD.out x h
          · simp at h; rw [h]; exact HRB.out)
        clear HGD HRB
        go_upto_if 34 with fail
        go_cut [8] from 34 to 42 (fun v wx => v = .int .i64 E2 ∧ wx = w2)
        case first =>
          by_cases hge : 0 ≤ o
          · have hd : decide (o ≥ 0) = true := decide_eq_true hge
            have hw1 : wrap64 ((m : Int) - 1) = (m : Int) - 1 := by unfold wrap64; omega
            have hw2 : wrap64 ((m : Int) - 1 - o) = (m : Int) - 1 - o := by unfold wrap64; omega
            have hEE : E2 = (m : Int) - 1 - o := by rw [← HE2.out, if_pos hge]
            clear ho
            go_wp2_with fail
            go_meet
            exact ⟨by first | rfl | exact rfl | (rw [hw2, hEE]) | (rw [hEE]), rfl⟩
          · have hd : decide (o ≥ 0) = false := decide_eq_false hge
            have hge' : o < 0 := by omega
            have hEE : E2 = -1 := by rw [← HE2.out, if_neg hge]
            have hw2 := hEE
            clear ho
            go_wp2_with fail
            go_meet
            exact ⟨by first | rfl | exact rfl | (rw [hw2, hEE]) | (rw [hEE]), rfl⟩
        case rest =>
        obtain ⟨rfl, hwx⟩ := hcut
        have hwx := hwx.symm
        subst hwx
        obtain ⟨Am, cm, hvm, _⟩ := own_form HWM2.out
        subst hvm
        obtain ⟨Ao, cko, hvo, _⟩ := own_form HWO2.out
        subst hvo
        have hba := (Below.refl w2.heap.size w2).alloc (Nat.le_refl _) (.cells #[.slice A2 l.length c2] 34)
        have HV1 := Lib.hid (vrow_lit w2 (.slice A2 l.length c2) 34)
        have HG3 := Lib.hid (HG2.out.step hba)
        have HWM3 := Lib.hid (own_keep HWM2.out (grown_below hba) (fun g e => by cases e))
        have HWO3 := Lib.hid (own_keep HWO2.out (grown_below hba) (fun g e => by cases e))
        have HS3 := Lib.hid (HS2.out.keep hba.size (range_below hba))
        have HSL3 := Lib.hid (HSL2.out.keep hba.size (range_below hba))
        have hsz : w.heap.size ≤ (w2.alloc (.cells #[.slice A2 l.length c2] 34)).heap.size := HG3.out.hb.size
        clear q0 q1 r0 r1 rf0 rf1
        obtain ⟨p0, p1, pf0, pf1⟩ := two HG2.out.x5
        clear hba hoc3 ho hgol HG2 HWM2 HWO2 HS2 HSL2
        go_upto_region 13 with (at_builtin; (refine wpList_app_v rfl (.tmp 44) (.tmp 46) 41 rfl w.heap.size 34 (.slice none 0 0) 24 Try.underlying41 sinfo (by omega) rfl _ k vs' rfl HWM3.out (some ⟨w2.heap.size, 0, none⟩) 1 1 [.slice A2 l.length c2] rfl HV1.out (fun u hu => by simp at hu; subst hu; rfl) (by omega) hsz ?_); intro v' w9 hown hg hat; obtain ⟨A9, c9, rfl, _⟩ := own_form hown; have HG9 := Lib.hid (HG3.out.grown HWM3.out (Nat.le_refl _) (by decide) hg); have HWM9 := Lib.hid hown; have HWO9 := Lib.hid (own_keep HWO3.out hg (own_apart HWM3.out HWO3.out (by decide))); have HS9 := Lib.hid (HS3.out.keep hg.size (range_grown HWM3.out (by decide) hg)); have HSL9 := Lib.hid (HSL3.out.keep hg.size (range_grown HWM3.out (by decide) hg)); clear hown hg hat p0 p1 pf0 pf1 hsz HG3 HWM3 HWO3 HS3 HSL3 HV1; obtain ⟨p0, p1, pf0, pf1⟩ := two HG9.out.x5)
        have HGA := Lib.hid (HG9.out.set0 (.slice A9 (k + 1) c9))
        have HWMA := Lib.hid (own_else (j := 0) (u := .slice A9 (k + 1) c9) HWM9.out HG9.out.x5 (by decide))
        have HWOA := Lib.hid (own_else (j := 0) (u := .slice A9 (k + 1) c9) HWO9.out HG9.out.x5 (by decide))
        have HSA := Lib.hid (HS9.out.keep (by simp [World.setCell]) (range_set (j := 0) (u := .slice A9 (k + 1) c9) HG9.out.x5 (by decide)))
        have HSLA := Lib.hid (HSL9.out.keep (by simp [World.setCell]) (range_set (j := 0) (u := .slice A9 (k + 1) c9) HG9.out.x5 (by decide)))
        clear HG9 HWM9 HWO9 HS9 HSL9 p0 p1 pf0 pf1
        generalize w9.setCell ⟨w.heap.size + 2, 0, none⟩ (.slice A9 (k + 1) c9) = wa at HGA HWMA HWOA HSA HSLA ⊢
        have hba := (Below.refl wa.heap.size wa).alloc (Nat.le_refl _) (.cells #[.int .i64 E2] 3)
        have HV1 := Lib.hid (vrow_lit wa (.int .i64 E2) 3)
        have HG3 := Lib.hid (HGA.out.step hba)
        have HWM3 := Lib.hid (own_keep HWMA.out (grown_below hba) (fun g e => by cases e))
        have HWO3 := Lib.hid (own_keep HWOA.out (grown_below hba) (fun g e => by cases e))
        have HS3 := Lib.hid (HSA.out.keep hba.size (range_below hba))
        have HSL3 := Lib.hid (HSLA.out.keep hba.size (range_below hba))
        have hsz : w.heap.size ≤ (wa.alloc (.cells #[.int .i64 E2] 3)).heap.size := HG3.out.hb.size
        obtain ⟨p0, p1, pf0, pf1⟩ := two HGA.out.x5
        have hwk : wrap64 ((K : Int) - 1) = (K : Int) - 1 := by unfold wrap64; omega
        clear hba HGA HWMA HWOA HSA HSLA
        go_wp2_with (at_builtin; (refine wpList_app_v rfl (.tmp 50) (.tmp 52) 42 rfl w.heap.size 3 (.int .i64 0) 8 Try.underlying42 iinfo (by omega) rfl _ k (ints ((ivO O).take k)) rfl HWO3.out (some ⟨wa.heap.size, 0, none⟩) 1 1 [.int .i64 E2] rfl HV1.out (fun u hu => by simp at hu; subst hu; rfl) (by omega) hsz ?_); intro v' w9 hown hg hat; obtain ⟨AB, cB, rfl, _⟩ := own_form hown; have HG9 := Lib.hid (HG3.out.grown HWO3.out (Nat.le_refl _) (by decide) hg); have HWO9 := Lib.hid hown; have HWM9 := Lib.hid (own_keep HWM3.out hg (own_apart HWO3.out HWM3.out (by decide))); have HS9 := Lib.hid (HS3.out.keep hg.size (range_grown HWO3.out (by decide) hg)); have HSL9 := Lib.hid (HSL3.out.keep hg.size (range_grown HWO3.out (by decide) hg)); clear hown hg hat p0 p1 pf0 pf1 hsz HG3 HWM3 HWO3 HS3 HSL3 HV1; obtain ⟨p0, p1, pf0, pf1⟩ := two HG9.out.x5)
        refine ⟨⟨k + 1, _, _, vs' ++ [.slice A2 l.length c2], ?_, by omega, Lib.hid (HG9.out.set1 _), Lib.hid (own_else HWM9.out HG9.out.x5 (by decide)), Lib.hid ?_, Lib.hid ?_, HGD2⟩, ?_⟩
        · have := HEV.out; push_cast; congr 1; omega
        · rw [HSO.out]
          unfold ints
          rw [List.map_append]
          exact own_else HWO9.out HG9.out.x5 (by decide)
        · rw [HSN.out]
          exact sls_snoc (HS9.out.keep (by simp [World.setCell]) (range_set HG9.out.x5 (by decide))) (HSL9.out.keep (by simp [World.setCell]) (range_set HG9.out.x5 (by decide)))
        · simp only [intOf]; omega
    · have hkm : k = m := by omega
      subst hkm
      obtain ⟨Am, cm, hvm, _⟩ := own_form HWM.out
      subst hvm
      obtain ⟨Ao, cko, hvo, _⟩ := own_form HWO.out
      subst hvo
      obtain ⟨p0, p1, _, _⟩ := two HG.out.x5
      obtain ⟨r0, r1, rf0, rf1⟩ := two HG.out.x4
      have hz : (k : Int) - 1 - k = -1 := by omega
      rw [hz]
      clear hz
      go_wp2
      obtain ⟨s0, s1, _, _⟩ := two (put2_at HG.out.x4 (.slice Am k cm) (.slice Ao k cko))
      refine bodyPost_ret (v := .tuple #[.agg #[.slice Am k cm, .slice Ao k cko], .bool true]) ?_ rfl (by
        rw [HE.out]
        have hfl : (ivL M).take k = ivL M := List.take_of_length_le (by rw [ivL_len, HMM.out]; omega)
        have hfo : (ivO O).take k = ivO O := List.take_of_length_le (by rw [ivO_len, HOL.out]; omega)
        have hb2 := put2_below HG.out.hb (B := w.heap.size + 1) (by omega) (.slice Am k cm) (.slice Ao k cko)
        have hs2 := (HS.out.keep (by simp [World.setCell]) (range_set (j := 0) (u := .slice Am k cm) HG.out.x4 (by decide))).keep (by simp [World.setCell]) (range_set (j := 1) (u := .slice Ao k cko) (t := 44) (set2_at HG.out.x4 _) (by decide))
        have hm2 := own_put2 HWM.out HG.out.x4 (by decide) (.slice Am k cm) (.slice Ao k cko)
        have ho2 := own_put2 HWO.out HG.out.x4 (by decide) (.slice Am k cm) (.slice Ao k cko)
        have hgd := HGD.out
        rw [hfl] at hs2 hgd
        rw [hfo] at ho2
        refine .inl ⟨hgd, _, _, vs', rfl, ⟨?_, fun i u x h1 h2 => lowv_of (hs2.2 i u x h1 h2), ?_⟩, hb2⟩
        · rw [ivL_len, HMM.out]; exact hm2
        · rw [ivO_len, HOL.out]; exact ho2)
      simp [results, Try.results20, go_sem, s0, s1]
end Go.Proofs.Ytnffgomgfabapaa.Rt
namespace Go.Proofs.Ytnffgomgfabapaa.Rt
open Go.RowKit Mem Sm
set_option linter.unusedVariables false
set_option linter.unusedSimpArgs false
set_option maxRecDepth 100000 in
set_option maxHeartbeats 4000000 in
theorem bind2_any (base p : Nat) (v mp : Value) (mir : List (Int × Int)) (one other : Int) (W : World) (h : BindAt base W p v mp mir) :
    Calls Try.prog 28 #[.pointer (some ⟨p, 0, none⟩), .int .i64 one, .int .i64 other] W fun e W' => (∃ x, e = .returned x) ∧ (∃ mp', BindAt base W' p v mp' (putM (putM mir one other) other one)) ∧ BF base p W W' := by
  have hbs := h.base_le
  have hform := h.mps
  rcases hform with ⟨rfl, rfl⟩ | ⟨B, rfl, hB, hB2⟩
  · have he := eql_map 58 3 3 Try.underlying58 none W
    simp only [Option.isNone_none] at he
    have HT0 := Lib.hid h
    have hc := h.cells
    obtain ⟨hc0, hc1, hc2, hc3⟩ := hc
    have hd := (h.step ((Below.refl _ _).alloc (Nat.le_refl _) (.map #[] 0))).cells
    obtain ⟨hd0, hd1, hd2, hd3⟩ := hd
    clear h
    have hmk : (Instr.makeMap 58 none).run Try.prog W = .ok (.map (some W.heap.size)) (W.alloc (.map #[] 0)) := by rfl
    go_enter Try.func28, Try.ntmps28
    go_wp2_with fail
    have HT := Lib.hid HT0.out.newMap.1
    have HF := Lib.hid HT0.out.newMap.2
    generalize hmir : ([] : List (Int × Int)) = mir at HT
    have HN := Lib.hid hmir
    clear hmir
    clear he HT0 hc0 hc1 hc2 hc3 hd0 hd1 hd2 hd3 hmk
    generalize W.heap.size = B at *
    generalize ((W.alloc (.map #[] 0)).setCell ⟨p, 1, none⟩ (.map (some B))) = W4 at HT HF ⊢
    refine wp_region_held_drew (S := fun w => w.cell? ⟨p, 1, none⟩ = some (.map (some B))) (by kernel_rfl) (HT.out.step (below_drewN (Below.refl _ _) 1)).cells.2.1 (fun hHeld => ?_)
    have HT5 : Hid (BindAt base W4.drew p v (.map (some B)) mir) := Lib.hid (HT.out.step (below_drewN (Below.refl _ _) 1))
    have HF5 : Hid (BF base p W W4.drew) := Lib.hid (HF.out.trans (BF.of_below (below_drewN (Below.refl _ _) 1) (by have := HT.out.base_le; exact this)))
    clear HT HF
    generalize W4.drew = W5 at HT5 HF5 hHeld ⊢
    refine tk 0 (v := ?_) rfl (by kernel_rfl) (fun _ _ _ h => h) ?_ hHeld ?_
    rotate_left
    · (intro W hSw; (try dsimp only at hSw); go_simp; try with_reducible rfl)
    refine tk 1 (v := ?_) rfl (by kernel_rfl) (fun _ _ _ h => h) ?_ hHeld ?_
    rotate_left
    · (intro W hSw; (try dsimp only at hSw); go_simp; try with_reducible rfl)
    refine tk 2 (v := ?_) rfl (by kernel_rfl) (fun _ _ _ h => h) ?_ hHeld ?_
    rotate_left
    · (intro W hSw; (try dsimp only at hSw); go_simp; try with_reducible rfl)
    refine tk 3 (v := ?_) rfl (by kernel_rfl) (fun _ _ _ h => h) ?_ hHeld ?_
    rotate_left
    · (intro W hSw; (try dsimp only at hSw); go_simp; try with_reducible rfl)
    refine tk 4 (v := ?_) rfl (by kernel_rfl) (fun _ _ _ h => h) ?_ hHeld ?_
    rotate_left
    · (intro W hSw; (try dsimp only at hSw); go_simp; try with_reducible rfl)
    refine tk 5 (v := ?_) rfl (by kernel_rfl) (fun _ _ _ h => h) ?_ hHeld ?_
    rotate_left
    · (intro W hSw; (try dsimp only at hSw); go_simp; try with_reducible rfl)
    refine tk 6 (v := ?_) rfl (by kernel_rfl) (fun _ _ _ h => h) ?_ hHeld ?_
    rotate_left
    · (intro W hSw; (try dsimp only at hSw); go_simp; try with_reducible rfl)
    refine tk 7 (v := ?_) rfl (by kernel_rfl) (fun _ _ _ h => h) ?_ hHeld ?_
    rotate_left
    · (intro W hSw; (try dsimp only at hSw); go_simp; try with_reducible rfl)
    refine tk 8 (v := ?_) rfl (by kernel_rfl) (fun _ _ _ h => h) ?_ hHeld ?_
    rotate_left
    · (intro W hSw; (try dsimp only at hSw); go_simp; try with_reducible rfl)
    refine tk 9 (v := ?_) rfl (by kernel_rfl) (fun _ _ _ h => h) ?_ hHeld ?_
    rotate_left
    · (intro W hSw; (try dsimp only at hSw); go_simp; try with_reducible rfl)
    refine tk 10 (v := ?_) rfl (by kernel_rfl) (fun _ _ _ h => h) ?_ hHeld ?_
    rotate_left
    · (intro W hSw; (try dsimp only at hSw); go_simp; try with_reducible rfl)
    refine tk 11 (v := ?_) rfl (by kernel_rfl) (fun _ _ _ h => h) ?_ hHeld ?_
    rotate_left
    · (intro W hSw; (try dsimp only at hSw); go_simp; try with_reducible rfl)
    obtain ⟨l1, m1, x1, e1, f1, hE⟩ := entry_any (P := Try.prog) (e := 3) Try.underlying58 Try.underlying3 (by go_simp; try rfl) mir HT5.out.block.2 one
    have HE1 := Lib.hid e1
    have HF1q := Lib.hid f1
    clear e1 f1
    have HT6 := Lib.hid (HT5.out.putB (insM mir one))
    have HF6 := Lib.hid (HF5.out.trans (HT5.out.putBF (entB (insM mir one))))
    refine wpAnyH_ready (rs := [12]) (by kernel_rfl) (by simp) ?_
    refine AllReadyH.cons rfl (fun K hK => ?_) AllReadyH.nil
    go_simp
    refine hK.out _ _ HT6.out.cells.2.1 (fun hHeld => ?_)
    clear hK K hE HT5 HF5
    generalize setB W5 B _ = W6 at HT6 HF6 hHeld ⊢
    refine tk 13 (v := ?_) rfl (by kernel_rfl) (fun _ _ _ h => h) ?_ hHeld ?_
    rotate_left
    · (intro W hSw; (try dsimp only at hSw); go_simp; try with_reducible rfl)
    have hE := entry_store (P := Try.prog) (t := 58) l1 m1 (one, x1) (by rw [← HE1.out]; exact HT6.out.block.2) other
    rw [show l1 ++ ((one, x1).1, other) :: m1 = putM mir one other from (HF1q.out other).symm] at hE
    have HT7 := Lib.hid (HT6.out.putB (putM mir one other))
    have HF7 := Lib.hid (HF6.out.trans (HT6.out.putBF (entB (putM mir one other))))
    refine wpAnyH_ready (rs := [14]) (by kernel_rfl) (by simp) ?_
    refine AllReadyH.cons rfl (fun K hK => ?_) AllReadyH.nil
    go_simp
    refine hK.out _ _ HT7.out.cells.2.1 (fun hHeld => ?_)
    clear hK K hE HT6 HF6 HE1 HF1q
    generalize setB W6 B _ = W7 at HT7 HF7 hHeld ⊢
    generalize hmir2 : putM mir one other = mir2 at HT7
    have HM := Lib.hid hmir2
    clear hmir2
    obtain ⟨l2, m2, x2, e2, f2, hE⟩ := entry_any (P := Try.prog) (e := 3) Try.underlying58 Try.underlying3 (by go_simp; try rfl) mir2 HT7.out.block.2 other
    have HE2 := Lib.hid e2
    have HF2q := Lib.hid f2
    clear e2 f2
    have HT8 := Lib.hid (HT7.out.putB (insM mir2 other))
    have HF8 := Lib.hid (HF7.out.trans (HT7.out.putBF (entB (insM mir2 other))))
    refine wpAnyH_ready (rs := [15]) (by kernel_rfl) (by simp) ?_
    refine AllReadyH.cons rfl (fun K hK => ?_) AllReadyH.nil
    go_simp
    refine hK.out _ _ HT8.out.cells.2.1 (fun hHeld => ?_)
    clear hK K hE HT7 HF7
    generalize setB W7 B _ = W8 at HT8 HF8 hHeld ⊢
    refine tk 16 (v := ?_) rfl (by kernel_rfl) (fun _ _ _ h => h) ?_ hHeld ?_
    rotate_left
    · (intro W hSw; (try dsimp only at hSw); go_simp; try with_reducible rfl)
    have hE := entry_store (P := Try.prog) (t := 58) l2 m2 (other, x2) (by rw [← HE2.out]; exact HT8.out.block.2) one
    rw [show l2 ++ ((other, x2).1, one) :: m2 = putM mir2 other one from (HF2q.out one).symm] at hE
    have HT9 := Lib.hid (HT8.out.putB (putM mir2 other one))
    have HF9 := Lib.hid (HF8.out.trans (HT8.out.putBF (entB (putM mir2 other one))))
    refine wpAnyH_ready (rs := [17]) (by kernel_rfl) (by simp) ?_
    refine AllReadyH.cons rfl (fun K hK => ?_) AllReadyH.nil
    go_simp
    refine hK.out _ _ HT9.out.cells.2.1 (fun hHeld => ?_)
    clear hK K hE HT8 HF8 HE2 HF2q
    generalize setB W8 B _ = W9 at HT9 HF9 hHeld ⊢
    clear hHeld
    refine wpAnyH_done (by kernel_rfl) ?_ _
    go_wp2_with fail
    go_end0
    exact ⟨⟨_, rfl⟩, ⟨_, by have hx := HT9.out; rw [← HM.out, ← HN.out] at hx; exact hx⟩, HF9.out⟩
  · have he := eql_map 58 3 3 Try.underlying58 (some B) W
    simp only [Option.isNone_some] at he
    have HT := Lib.hid h
    have HF := Lib.hid (BF.refl base p W)
    have hc := h.cells
    obtain ⟨hc0, hc1, hc2, hc3⟩ := hc
    clear h hB hB2
    go_enter Try.func28, Try.ntmps28
    go_wp2_with fail
    clear he hc0 hc1 hc2 hc3
    refine wp_region_held_drew (S := fun w => w.cell? ⟨p, 1, none⟩ = some (.map (some B))) (by kernel_rfl) (HT.out.step (below_drewN (Below.refl _ _) 1)).cells.2.1 (fun hHeld => ?_)
    have HT5 : Hid (BindAt base W.drew p v (.map (some B)) mir) := Lib.hid (HT.out.step (below_drewN (Below.refl _ _) 1))
    have HF5 : Hid (BF base p W W.drew) := Lib.hid (HF.out.trans (BF.of_below (below_drewN (Below.refl _ _) 1) (by have := HT.out.base_le; exact this)))
    clear HT HF
    generalize W.drew = W5 at HT5 HF5 hHeld ⊢
    refine tk 0 (v := ?_) rfl (by kernel_rfl) (fun _ _ _ h => h) ?_ hHeld ?_
    rotate_left
    · (intro W hSw; (try dsimp only at hSw); go_simp; try with_reducible rfl)
    refine tk 1 (v := ?_) rfl (by kernel_rfl) (fun _ _ _ h => h) ?_ hHeld ?_
    rotate_left
    · (intro W hSw; (try dsimp only at hSw); go_simp; try with_reducible rfl)
    refine tk 2 (v := ?_) rfl (by kernel_rfl) (fun _ _ _ h => h) ?_ hHeld ?_
    rotate_left
    · (intro W hSw; (try dsimp only at hSw); go_simp; try with_reducible rfl)
    refine tk 3 (v := ?_) rfl (by kernel_rfl) (fun _ _ _ h => h) ?_ hHeld ?_
    rotate_left
    · (intro W hSw; (try dsimp only at hSw); go_simp; try with_reducible rfl)
    refine tk 4 (v := ?_) rfl (by kernel_rfl) (fun _ _ _ h => h) ?_ hHeld ?_
    rotate_left
    · (intro W hSw; (try dsimp only at hSw); go_simp; try with_reducible rfl)
    refine tk 5 (v := ?_) rfl (by kernel_rfl) (fun _ _ _ h => h) ?_ hHeld ?_
    rotate_left
    · (intro W hSw; (try dsimp only at hSw); go_simp; try with_reducible rfl)
    refine tk 6 (v := ?_) rfl (by kernel_rfl) (fun _ _ _ h => h) ?_ hHeld ?_
    rotate_left
    · (intro W hSw; (try dsimp only at hSw); go_simp; try with_reducible rfl)
    refine tk 7 (v := ?_) rfl (by kernel_rfl) (fun _ _ _ h => h) ?_ hHeld ?_
    rotate_left
    · (intro W hSw; (try dsimp only at hSw); go_simp; try with_reducible rfl)
    refine tk 8 (v := ?_) rfl (by kernel_rfl) (fun _ _ _ h => h) ?_ hHeld ?_
    rotate_left
    · (intro W hSw; (try dsimp only at hSw); go_simp; try with_reducible rfl)
    refine tk 9 (v := ?_) rfl (by kernel_rfl) (fun _ _ _ h => h) ?_ hHeld ?_
    rotate_left
    · (intro W hSw; (try dsimp only at hSw); go_simp; try with_reducible rfl)
    refine tk 10 (v := ?_) rfl (by kernel_rfl) (fun _ _ _ h => h) ?_ hHeld ?_
    rotate_left
    · (intro W hSw; (try dsimp only at hSw); go_simp; try with_reducible rfl)
    refine tk 11 (v := ?_) rfl (by kernel_rfl) (fun _ _ _ h => h) ?_ hHeld ?_
    rotate_left
    · (intro W hSw; (try dsimp only at hSw); go_simp; try with_reducible rfl)
    obtain ⟨l1, m1, x1, e1, f1, hE⟩ := entry_any (P := Try.prog) (e := 3) Try.underlying58 Try.underlying3 (by go_simp; try rfl) mir HT5.out.block.2 one
    have HE1 := Lib.hid e1
    have HF1q := Lib.hid f1
    clear e1 f1
    have HT6 := Lib.hid (HT5.out.putB (insM mir one))
    have HF6 := Lib.hid (HF5.out.trans (HT5.out.putBF (entB (insM mir one))))
    refine wpAnyH_ready (rs := [12]) (by kernel_rfl) (by simp) ?_
    refine AllReadyH.cons rfl (fun K hK => ?_) AllReadyH.nil
    go_simp
    refine hK.out _ _ HT6.out.cells.2.1 (fun hHeld => ?_)
    clear hK K hE HT5 HF5
    generalize setB W5 B _ = W6 at HT6 HF6 hHeld ⊢
    refine tk 13 (v := ?_) rfl (by kernel_rfl) (fun _ _ _ h => h) ?_ hHeld ?_
    rotate_left
    · (intro W hSw; (try dsimp only at hSw); go_simp; try with_reducible rfl)
    have hE := entry_store (P := Try.prog) (t := 58) l1 m1 (one, x1) (by rw [← HE1.out]; exact HT6.out.block.2) other
    rw [show l1 ++ ((one, x1).1, other) :: m1 = putM mir one other from (HF1q.out other).symm] at hE
    have HT7 := Lib.hid (HT6.out.putB (putM mir one other))
    have HF7 := Lib.hid (HF6.out.trans (HT6.out.putBF (entB (putM mir one other))))
    refine wpAnyH_ready (rs := [14]) (by kernel_rfl) (by simp) ?_
    refine AllReadyH.cons rfl (fun K hK => ?_) AllReadyH.nil
    go_simp
    refine hK.out _ _ HT7.out.cells.2.1 (fun hHeld => ?_)
    clear hK K hE HT6 HF6 HE1 HF1q
    generalize setB W6 B _ = W7 at HT7 HF7 hHeld ⊢
    generalize hmir2 : putM mir one other = mir2 at HT7
    have HM := Lib.hid hmir2
    clear hmir2
    obtain ⟨l2, m2, x2, e2, f2, hE⟩ := entry_any (P := Try.prog) (e := 3) Try.underlying58 Try.underlying3 (by go_simp; try rfl) mir2 HT7.out.block.2 other
    have HE2 := Lib.hid e2
    have HF2q := Lib.hid f2
    clear e2 f2
    have HT8 := Lib.hid (HT7.out.putB (insM mir2 other))
    have HF8 := Lib.hid (HF7.out.trans (HT7.out.putBF (entB (insM mir2 other))))
    refine wpAnyH_ready (rs := [15]) (by kernel_rfl) (by simp) ?_
    refine AllReadyH.cons rfl (fun K hK => ?_) AllReadyH.nil
    go_simp
    refine hK.out _ _ HT8.out.cells.2.1 (fun hHeld => ?_)
    clear hK K hE HT7 HF7
    generalize setB W7 B _ = W8 at HT8 HF8 hHeld ⊢
    refine tk 16 (v := ?_) rfl (by kernel_rfl) (fun _ _ _ h => h) ?_ hHeld ?_
    rotate_left
    · (intro W hSw; (try dsimp only at hSw); go_simp; try with_reducible rfl)
    have hE := entry_store (P := Try.prog) (t := 58) l2 m2 (other, x2) (by rw [← HE2.out]; exact HT8.out.block.2) one
    rw [show l2 ++ ((other, x2).1, one) :: m2 = putM mir2 other one from (HF2q.out one).symm] at hE
    have HT9 := Lib.hid (HT8.out.putB (putM mir2 other one))
    have HF9 := Lib.hid (HF8.out.trans (HT8.out.putBF (entB (putM mir2 other one))))
    refine wpAnyH_ready (rs := [17]) (by kernel_rfl) (by simp) ?_
    refine AllReadyH.cons rfl (fun K hK => ?_) AllReadyH.nil
    go_simp
    refine hK.out _ _ HT9.out.cells.2.1 (fun hHeld => ?_)
    clear hK K hE HT8 HF8 HE2 HF2q
    generalize setB W8 B _ = W9 at HT9 HF9 hHeld ⊢
    clear hHeld
    refine wpAnyH_done (by kernel_rfl) ?_ _
    go_wp2_with fail
    go_end0
    exact ⟨⟨_, rfl⟩, ⟨_, by have hx := HT9.out; rw [← HM.out] at hx; exact hx⟩, HF9.out⟩
end Go.Proofs.Ytnffgomgfabapaa.Rt
namespace Go.Proofs.Ytnffgomgfabapaa.Rt
open Go.RowKit Mem Sm
set_option linter.unusedVariables false
set_option linter.unusedSimpArgs false
theorem sls_drop {W : World} {vs : List Value} {M : List (List Rg)} (h : Sls W vs M) (i : Nat) : Sls W (vs.drop i) (M.drop i) :=
  ⟨by rw [List.length_drop, List.length_drop, h.1], fun j v l h1 h2 => by
    rw [List.getElem?_drop] at h1 h2
    exact h.2 (i + j) v l h1 h2⟩
theorem frM_none {mir : List (Int × Int)} {i n K : Nat} (hK : K = i + n) (h : lk mir (K : Int) = none) : frM mir i (n + 1) = frM mir i n := by
  subst hK; simp only [frM, h]
theorem frM_low {mir : List (Int × Int)} {i n K : Nat} {j : Int} (hK : K = i + n) (h : lk mir (K : Int) = some j) (hj : ¬ (K : Int) < j) : frM mir i (n + 1) = frM mir i n := by
  subst hK; simp only [frM, h]; rw [if_neg hj]
theorem frM_up {mir : List (Int × Int)} {i n K : Nat} {j : Int} (hK : K = i + n) (h : lk mir (K : Int) = some j) (hj : (K : Int) < j) : frM mir i (n + 1) = putM (putM (frM mir i n) n (j - i)) (j - i) n := by
  subst hK; simp only [frM, h]; rw [if_pos hj]; rfl
theorem BindAt.made (w : World) (u : Value) : BindAt w.heap.size (w.alloc (.cells #[u, .map none] 60)) w.heap.size u (.map none) [] :=
  ⟨Nat.le_refl _, heap_alloc_new w _, .inl ⟨rfl, rfl⟩⟩
def FromIs (M : List (List Rg)) (vs : List Value) (mir : List (Int × Int)) (I : Nat) (w : World) (e : Ending) (w' : World) : Prop :=
  ∃ A mp', e = .returned (.pointer (some ⟨w.heap.size, 0, none⟩)) ∧ RdAt w.heap.size w' w.heap.size A (M.length - I) mp' (vs.drop I) (M.drop I) (frM mir I (M.length - I)) ∧ Below w.heap.size w w'
set_option maxRecDepth 100000 in
set_option maxHeartbeats 4000000 in
theorem from_any (b0 p : Nat) (v mp : Value) (vs : List Value) (M : List (List Rg)) (mir : List (Int × Int)) (at_ : Int) (w : World) (hM : M.length ≤ 1000) (hmir : ∀ i j : Int, lk mir i = some j → 0 ≤ j ∧ j < M.length) (h : RtAt b0 w p v mp vs M mir) :
    Calls Try.prog 13 #[.pointer (some ⟨p, 0, none⟩), .int .i64 at_] w (FromIs M vs mir (clip at_ M.length) w) := by
  obtain ⟨A0, c0, hv, hc0, hr0, ha0⟩ := own_form h.row
  subst hv
  have HT := Lib.hid h
  have HMI := Lib.hid hmir
  have hcl := clip_is at_ M.length
  have hle := clip_le at_ M.length
  generalize clip at_ M.length = I at hcl hle ⊢
  obtain ⟨E, hE⟩ : ∃ E, E = FromIs M vs mir I w := ⟨_, rfl⟩
  have HE := Lib.hid hE
  rw [← hE]
  obtain ⟨m, hm⟩ : ∃ m, M.length = m := ⟨_, rfl⟩
  have HMM := Lib.hid hm
  obtain ⟨k0, k1, kf0, kf1⟩ := h.cells
  rw [hm] at hM hc0 hr0 hcl hle k0
  have hI0 : (0 : Int) ≤ (I : Int) := by omega
  have hI1 : (I : Int) ≤ (m : Int) := by omega
  have hc1 : (m : Int) ≤ (c0 : Int) := by omega
  have HR0 := Lib.hid hr0
  have HA0 := Lib.hid ha0
  clear h hr0 ha0 hm hmir hE
  go_enter Try.func13, Try.ntmps13
  go_upto_region 4 with fail
  go_cut [1] from 17 to 20 (fun v wx => v = .int .i64 (I : Int) ∧ wx = w)
  case first =>
    go_wp2_with fail
    all_goals (go_meet; exact ⟨by congr 1; omega, rfl⟩)
  case rest =>
  obtain ⟨rfl, hwx⟩ := hcut
  have hwx := hwx.symm
  subst hwx
  clear hcl
  go_upto_region 5 with fail
  go_cut [6] from 21 to 30 (fun v wx => ∃ (A : Option Addr), v = .pointer (some ⟨w.heap.size, 0, none⟩) ∧ wx = w.alloc (.cells #[.slice A (m - I) (m - I), .map none] 60) ∧ Hid (VRow w A (m - I) (vs.drop I)))
  case first =>
    rcases A0 with _ | ⟨g, og, sp⟩
    · obtain ⟨hm0, hvs⟩ := vrow_none (i := I) HR0.out
      subst hm0
      obtain rfl : I = 0 := by omega
      go_wp2_with fail
      go_meet
      exact ⟨none, rfl, rfl, Lib.hid (by rw [hvs]; exact VRow.nil)⟩
    · obtain ⟨hsp, hog⟩ := HA0.out _ rfl
      simp only at hsp hog
      subst hsp; subst hog
      have HVD := Lib.hid (vrow_drop HR0.out hle)
      rw [Nat.zero_add] at HVD
      have HVE := Lib.hid (fun A' (h : m ≤ I) => vrow_end (A' := A') (i := I) HR0.out h)
      by_cases hcI : m = I
      · subst hcI
        have hz : m - m = 0 := by omega
        go_wp2_with fail
        go_meet
        refine ⟨some ⟨g, 0, none⟩, rfl, ?_, Lib.hid (HVE.out _ (Nat.le_refl _))⟩
        rw [hz]
      · have hz : ¬ m - I = 0 := by omega
        go_wp2_with fail
        go_meet
        exact ⟨some ⟨g, I, none⟩, rfl, rfl, HVD⟩
  case rest =>
  obtain ⟨A, rfl, rfl, HV⟩ := hcut
  have HB0 := Lib.hid (BindAt.made w (.slice A (m - I) (m - I)))
  have HW0 := Lib.hid ((Below.refl w.heap.size w).alloc (Nat.le_refl _) (.cells #[.slice A (m - I) (m - I), .map none] 60))
  clear hc1 hc0 k0 k1 kf0 kf1
  go_wp2_with fail
  go_loopw [7] (fun kv wr => ∃ (k : Nat) (mp' : Value), kv = .int .i64 ((I + k : Nat) : Int) ∧ I + k ≤ m ∧ Hid (BindAt w.heap.size wr w.heap.size (.slice A (m - I) (m - I)) mp' (frM mir I k)) ∧ Hid (Below w.heap.size w wr)) (fun kv _ => m - (intOf kv).toNat)
  case atStart => exact ⟨0, .map none, by simp, by omega, HB0, HW0⟩
  case round =>
    clear HB0 HW0
    obtain ⟨k, mp', rfl, hk, HB, HW⟩ := hrel
    have HT1 := HT.out.step HW.out
    obtain ⟨k0, k1, _, _⟩ := HT1.cells
    obtain ⟨K, hK⟩ : ∃ K : Nat, K = I + k := ⟨_, rfl⟩
    rw [← hK] at hk ⊢
    by_cases hlt : K < m
    · have hLk := look_mp (P := Try.prog) (e := 3) Try.underlying58 Try.underlying3 (by go_simp; try rfl) HT1.mps (K : Int)
      have HK := Lib.hid hK
      have hd : decide ((K : Int) < (m : Int)) = true := decide_eq_true (by omega)
      have i1 : (0 : Int) ≤ (K : Int) := by omega
      clear hK HT1
      cases hl : lk mir (K : Int) with
      | none =>
        rw [hl] at hLk
        simp only [Option.getD_none, Option.isSome_none] at hLk
        have HF := Lib.hid (frM_none HK.out hl)
        clear hl
        go_wp2_with fail
        go_roundw
        case measure => have := HK.out; simp only [intOf]; omega
        case rel => exact ⟨k + 1, mp', by have := HK.out; push_cast; congr 1; omega, by have := HK.out; omega, by rw [HF.out]; exact HB, HW⟩
      | some j =>
        rw [hl] at hLk
        simp only [Option.getD_some, Option.isSome_some] at hLk
        have hj := HMI.out _ _ hl
        rw [HMM.out] at hj
        by_cases hg : (K : Int) < j
        · have HF := Lib.hid (frM_up HK.out hl hg)
          have hd2 : decide (j > (K : Int)) = true := decide_eq_true hg
          have hd3 : decide ((K : Int) < j) = true := decide_eq_true hg
          have HEK := Lib.hid (show (K : Int) - I = (k : Int) by have := HK.out; omega)
          have CB := fun W h => bind2_any w.heap.size w.heap.size (.slice A (m - I) (m - I)) mp' (frM mir I k) ((K : Int) - I) (j - I) W h
          clear hl
          go_wp2_with fail
          refine (CB _ HB.out).mono ?_
          rintro e w2 ⟨⟨x, rfl⟩, ⟨mp2, hb2⟩, hf2⟩
          rw [HEK.out] at hb2
          have HB2 := Lib.hid hb2
          have HW2 := Lib.hid (HW.out.trans hf2.below)
          clear hb2 hf2 HB HW CB k0 k1 hLk
          go_wp2_with fail
          go_roundw
          case measure => have := HK.out; simp only [intOf]; omega
          case rel => exact ⟨k + 1, mp2, by have := HK.out; push_cast; congr 1; omega, by have := HK.out; omega, by rw [HF.out]; exact HB2, HW2⟩
        · have HF := Lib.hid (frM_low HK.out hl hg)
          have hd2 : decide (j > (K : Int)) = false := decide_eq_false hg
          have hd3 : decide ((K : Int) < j) = false := decide_eq_false hg
          clear hl
          go_wp2_with fail
          go_roundw
          case measure => have := HK.out; simp only [intOf]; omega
          case rel => exact ⟨k + 1, mp', by have := HK.out; push_cast; congr 1; omega, by have := HK.out; omega, by rw [HF.out]; exact HB, HW⟩
    · have HKM := Lib.hid (show I + k = m by omega)
      have hd : decide ((K : Int) < (m : Int)) = false := decide_eq_false (by omega)
      have hd2 : ¬ (K : Int) < (m : Int) := by omega
      clear HT1 hK
      go_wp2
      rw [HE.out]
      refine ⟨A, mp', rfl, ⟨?_, ?_, ?_, ?_⟩, HW.out⟩
      · rw [List.length_drop, HMM.out]; exact HB.out.h0
      · rw [List.length_drop, HMM.out]; exact HV.out.below HW.out
      · exact (sls_drop HT.out.sls I).keep HW.out.size (fun k cs fr e => by rw [HW.out.block _ (lt_some e)]; exact e)
      · rw [HMM.out, show m - I = k by have := HKM.out; omega]; exact HB.out.mps
end Go.Proofs.Ytnffgomgfabapaa.Rt
namespace Go.Proofs.Ytnffgomgfabapaa.Rt
open Go.RowKit Go.Shelf Mem Sm
set_option linter.unusedVariables false
attribute [local go_sem] Oper.semAt_some
section law
variable {F : Fence} {n : Nat} {P : Program}
/-- what the iterator owes: it tells m things by their numbers, and changes nothing between them -/
def TellsB (F : Fence) (n : Nat) (P : Program) (gf : Nat) (lb : Array Value) (encs : Nat → Array Value) (m : Nat) (Ok : World → Prop) : Prop :=
  ∀ (l : Nat) (J Jx : Nat → World → Prop) (W : World), (∀ k A, J k A → Ok A) →
    (∀ k A, J k A → k < m → YieldAt F (n - 1) P l (encs k) A fun e B => (e = .returned (.bool true) ∧ J (k + 1) B) ∨ (e = .returned (.bool false) ∧ Jx (k + 1) B)) →
    J 0 W →
    CallsIn F n P gf (#[.func (.yield l) #[] #[]] ++ lb) W fun e B => (∃ v, e = .returned v) ∧ (J m B ∨ ∃ k, Jx k B)
/-- how a round ends: both records of the book-keeping lie as they lay; it goes on, or returns -/
def RoundB (D : Nat) (I Ix : Nat → World → Prop) (k : Nat) (A : World) : Exit → Act → World → Prop
  | .normal, _, B => B.heap[D]? = A.heap[D]? ∧ B.heap[D + 1]? = A.heap[D + 1]? ∧ I (k + 1) B
  | .ret, _, B => B.heap[D]? = A.heap[D]? ∧ B.heap[D + 1]? = A.heap[D + 1]? ∧ Ix (k + 1) B
  | _, _, _ => False
theorem book_loop (r : Loop) : BookObj (.loop r) := ⟨fun _ _ _ e => (by cases e), fun _ _ e => (by cases e)⟩
theorem range_back {g : Operand} {ps : Array Tmp} {assign body : Code} {Q : Exit → Act → World → Prop} {a : Act} {w : World}
    (hro : F.round = none) (h1 : 1 ≤ n) {gf : Nat} {lb : Array Value} (hg : a.eval g = .func (.func gf) #[] lb) (hFg : F.fn gf) (eg : ∀ args w, (callFunc gf args).run P w = .ok (.enter gf args) w)
    {encs : Nat → Array Value} {m : Nat} {Ok : World → Prop} (hseq : TellsB F (n - 1) P gf lb encs m Ok) (hps : ∀ x, (encs x).size = ps.size)
    (I Ix : Nat → World → Prop) (hOk : ∀ k A, I k A → Ok A)
    (hI : ∀ k A B row, I k A → A.grownBy B row → (∀ r, row = some r → w.heap.size ≤ r ∧ ∃ o, A.heap[r]? = some o ∧ BookObj o) → I k B)
    (hIx : ∀ k A B row, Ix k A → A.grownBy B row → (∀ r, row = some r → w.heap.size ≤ r ∧ ∃ o, A.heap[r]? = some o ∧ BookObj o) → Ix k B)
    (h0 : I 0 w) (a₁ : Nat → Act)
    (hassign : ∀ (l k : Nat) (W : World) (K : Act → World → Prop), K (a₁ k) W →
      assign.wpIn (F.inRound l) (n - 1 - 1) P (Exit.then K (fun _ _ _ => False)) { tmps := (ps.zip (encs k)).foldl (fun t (p, v) => t.setIfInBounds p v) a.tmps, defers := [] } W)
    (hbody : ∀ (k : Nat) (W : World) (r : Loop) (d : Obj), I k W → k < m → W.heap[w.heap.size + 1]? = some (.loop r) → W.heap[w.heap.size]? = some d → BookObj d → body.wpIn (F.inRound (w.heap.size + 1)) (n - 1 - 1) P (RoundB w.heap.size I Ix k W) (a₁ k) W)
    (hdone : ∀ (W : World), I m W → W.heap[w.heap.size]? = some (.deferred (some [])) → Q .normal { a with defers := { target := .collected w.heap.size, args := #[] } :: a.defers } W)
    (hstop : ∀ (k : Nat) (W : World), Ix k W → W.heap[w.heap.size]? = some (.deferred (some [])) → Code.ret.wpIn F n P Q { a with defers := { target := .collected w.heap.size, args := #[] } :: a.defers } W) :
    (Code.rangeFunc g ps assign body).wpIn F n P Q a w := by
  refine wpIn_rangeFunc fun fn hfn => ?_
  rw [hro]
  obtain ⟨rec, hrec⟩ : ∃ rec : LoopState → Option Code → Loop, rec = fun st pe => { state := st, pending := pe, fn, tmps := a.tmps, params := ps, assign, body, defers := w.heap.size } := ⟨_, rfl⟩
  obtain ⟨L, hL⟩ : ∃ L, L = w.heap.size + 1 := ⟨_, rfl⟩
  have hsz1 : (w.alloc (.deferred (some []))).heap.size = L := by rw [World.size_alloc, hL]
  obtain ⟨W1, hW1⟩ : ∃ W1, W1 = (w.alloc (.deferred (some []))).alloc (.loop (rec .ready none)) := ⟨_, rfl⟩
  have hl1 : W1.heap[L]? = some (.loop (rec .ready none)) := by
    have := World.alloc_heap_new (w.alloc (.deferred (some []))) (.loop (rec .ready none))
    rw [hsz1] at this; rw [hW1]; exact this
  have hd1 : W1.heap[w.heap.size]? = some (.deferred (some [])) := by
    rw [hW1]; exact (Below.heap_alloc _ _ _ (by rw [hsz1]; omega)).trans (World.alloc_heap_new w _)
  have hi1 : I 0 W1 := by
    rw [hW1]
    exact hI _ _ _ none (hI _ _ _ none h0 (World.grownBy_alloc w _ none) (fun r e => by cases e)) (World.grownBy_alloc _ _ none) (fun r e => by cases e)
  have held : ∀ (W : World) (k : Nat) (o : Obj), W.heap[k]? = some o → k < W.heap.size := fun W k o h => (Array.getElem?_eq_some_iff.1 h).1
  have put : ∀ (J : Nat → World → Prop), (∀ k A B row, J k A → A.grownBy B row → (∀ r, row = some r → w.heap.size ≤ r ∧ ∃ o, A.heap[r]? = some o ∧ BookObj o) → J k B) → ∀ k A o q, A.heap[L]? = some (.loop q) → J k A → J k (A.putObj L o) := fun J hJ k A o q hq h =>
    hJ k A _ (some L) h (grownBy_putObj' A L o) (fun r e => by cases e; exact ⟨by omega, _, hq, book_loop q⟩)
  refine ⟨L, [{ target := .collected w.heap.size, args := #[] }], W1, { target := .fn (.func gf) lb, args := #[.func (.yield L) #[] #[]] }, W1, gf, #[.func (.yield L) #[] #[]] ++ lb, W1, ?_, ?_, ?_, ?_, fun _ => h1, ?_⟩
  · rw [hW1, hL, hrec]; exact run_enterLoop_outer _ _ _ _ _
  · simp only [resolve, hg]
    simp [go_sem]
  · intro f' hf'
    simp [Target.leads] at hf'
    subst hf'; exact hFg
  · simp [invoke, go_sem, eg]
  · refine (hseq L (fun k W => I k W ∧ W.heap[L]? = some (.loop (rec .ready none)) ∧ W.heap[w.heap.size]? = some (.deferred (some [])))
      (fun k W => Ix k W ∧ W.heap[L]? = some (.loop (rec .done (some .ret))) ∧ W.heap[w.heap.size]? = some (.deferred (some []))) W1 (fun k A h => hOk k A h.1) ?_ ⟨hi1, hl1, hd1⟩).mono ?_
    · rintro k W ⟨hi, hl, hd⟩ hlen
      have hy := run_yield (P := P) (args := encs k) hl (by rw [hrec]; exact hps k)
      have hbeg := run_beginRound (P := P) hl (by rw [hrec])
      rw [hrec] at hy
      refine ⟨fn, _, assign, body, hy, roundIn_of_wpIn hfn (hassign L k W _ ⟨_, hbeg, ?_⟩)⟩
      obtain ⟨W2, hW2⟩ : ∃ W2, W2 = W.putObj L (.loop { rec .ready none with state := .busy }) := ⟨_, rfl⟩
      have hl2 : W2.heap[L]? = some (.loop { rec .ready none with state := .busy }) := by rw [hW2]; exact World.putObj_heap_same (held _ _ _ hl)
      have hd2 : W2.heap[w.heap.size]? = some (.deferred (some [])) := by rw [hW2]; exact (World.putObj_heap_other (by omega)).trans hd
      have hi2 : I k W2 := by rw [hW2]; exact put I hI k W _ _ hl hi
      rw [← hW2]
      have hb := hbody k W2 _ _ hi2 hlen (by rw [← hL]; exact hl2) hd2 ⟨fun _ _ _ e => (by cases e), fun _ _ e => (by cases e)⟩
      rw [← hL] at hb
      refine wpIn_mono hb ?_
      have fin : ∀ (jump : Option Code) (W3 : World), W3.heap[w.heap.size]? = W2.heap[w.heap.size]? → W3.heap[w.heap.size + 1]? = W2.heap[w.heap.size + 1]? →
          (Instr.endRound L jump).run P W3 = .ok (.bool jump.isNone) (W3.putObj L (.loop (rec (if jump.isNone then .ready else .done) jump))) ∧
          (W3.putObj L (.loop (rec (if jump.isNone then .ready else .done) jump))).heap[L]? = some (.loop (rec (if jump.isNone then .ready else .done) jump)) ∧
          (W3.putObj L (.loop (rec (if jump.isNone then .ready else .done) jump))).heap[w.heap.size]? = some (.deferred (some [])) ∧ ∃ q, W3.heap[L]? = some (.loop q) := fun jump W3 e1 e2 => by
        have hl3 : W3.heap[L]? = some (.loop { rec .ready none with state := .busy }) := by rw [hL, e2, ← hL]; exact hl2
        have hend := run_endRound (P := P) jump hl3
        rw [hrec] at hend hl3 ⊢
        exact ⟨hend, World.putObj_heap_same (held _ _ _ hl3), (World.putObj_heap_other (by omega)).trans (e1.trans hd2), _, hl3⟩
      rintro e a3 W3 hp
      cases e with
      | normal =>
        obtain ⟨e1, e2, hi3⟩ := hp
        obtain ⟨hr, hl4, hd4, q, hq⟩ := fin none W3 e1 e2
        exact ⟨_, _, hr, .inl ⟨rfl, put I hI _ _ _ _ hq hi3, hl4, hd4⟩⟩
      | ret =>
        obtain ⟨e1, e2, hi3⟩ := hp
        obtain ⟨hr, hl4, hd4, q, hq⟩ := fin (some .ret) W3 e1 e2
        exact ⟨_, _, hr, .inr ⟨rfl, put Ix hIx _ _ _ _ hq hi3, hl4, hd4⟩⟩
      | exit id => exact hp.elim
      | goto t => exact hp.elim
      | panic ch => exact hp.elim
      | outgrown => exact hp.elim
    · rintro e W2 ⟨⟨v, rfl⟩, (⟨hi, hl, hd⟩ | ⟨k, hi, hl, hd⟩)⟩
      · have hend := run_endLoop (P := P) hl (by rw [hrec]; simp)
        rw [hrec] at hend
        exact ⟨none, _, hend, hdone _ (put I hI _ _ _ _ hl hi) ((World.putObj_heap_other (by omega)).trans hd)⟩
      · have hend := run_endLoop (P := P) hl (by rw [hrec]; simp)
        rw [hrec] at hend
        exact ⟨some .ret, _, hend, hstop k _ (put Ix hIx _ _ _ _ hl hi) ((World.putObj_heap_other (by omega)).trans hd)⟩
end law

theorem backward_in (F : Fence) (n : Nat) (hF : F.fn 30) (hro : F.round = none) (A : Option Addr) (m c : Nat) (w : World) :
    CallsIn F n Try.prog 30 #[.slice A m c] w fun e w' => e = .returned (.func (.func 41) #[] #[.pointer (some ⟨w.heap.size, 0, none⟩)]) ∧ w' = w.alloc (.cells #[.slice A m c] 41) := by
  refine callsIn_of_wp Try.func30 rfl hF ?_ hro
  simp only [Try.ntmps30, List.size_toArray, List.length_cons, List.length_nil, Nat.reduceAdd, Nat.reduceSub, Array.replicate_succ, Array.replicate_zero, List.push_toArray, List.append_toArray, List.nil_append, List.cons_append]
  gi_wp2
  go_ret
  exact ⟨rfl, rfl⟩
def bkV (vs : List Value) (m k : Nat) : Array Value := #[.int .i64 ((m : Int) - 1 - k), vs.getD (m - 1 - k) undef]
set_option maxRecDepth 100000 in
set_option maxHeartbeats 2000000 in
theorem back_tells (n : Nat) (hn : 1 ≤ n) (Bn : Nat) (A : Option Addr) (m c : Nat) (vs : List Value) (hm : m ≤ 1000) :
    TellsB Fence.wide n Try.prog 41 #[.pointer (some ⟨Bn, 0, none⟩)] (bkV vs m) m (fun W => Boxed W Bn 41 (.slice A m c) ∧ VRow W A m vs) := by
  intro L J Jx W hJ hY h0
  have HJ := Lib.hid hJ
  have HY := Lib.hid hY
  have H0 := Lib.hid h0
  have c0 := (hJ 0 W h0).1.cell
  have hwm : wrap64 ((m : Int) - 1) = (m : Int) - 1 := by unfold wrap64; omega
  clear hJ hY h0
  refine callsIn_of_wp Try.func41 rfl trivial ?_ rfl
  simp only [Try.ntmps41, List.size_toArray, List.length_cons, List.length_nil, Nat.reduceAdd, Nat.reduceSub, Array.replicate_succ, Array.replicate_zero, List.push_toArray, List.append_toArray, List.nil_append, List.cons_append]
  gi_wp2
  clear hwm c0
  gi_loopw [3] (fun j wr => ∃ (k : Nat), k ≤ m ∧ j = .int .i64 ((m : Int) - 1 - k) ∧ Hid (J k wr)) (fun j _ => (intOf j + 1).toNat)
  case atStart => exact ⟨0, by omega, by simp, H0⟩
  case round =>
    clear H0
    obtain ⟨k, hk, rfl, HK⟩ := hrel
    by_cases hlt : k < m
    · obtain ⟨hbx, hrow⟩ := HJ.out k wr HK.out
      obtain ⟨b, off, rfl, hb, hc⟩ := hrow.2 (by omega)
      have hidx : m - 1 - k < vs.length := by rw [hrow.1]; omega
      have hcell := hc (m - 1 - k) _ (List.getElem?_eq_getElem hidx)
      have hv : vs.getD (m - 1 - k) undef = vs[m - 1 - k] := by simp [List.getD, hidx]
      have c0 := hbx.cell
      obtain ⟨Kn, hKn⟩ : ∃ K : Nat, K = m - 1 - k := ⟨_, rfl⟩
      have eiv : (m : Int) - 1 - k = (Kn : Int) := by omega
      have HYK := HY.out k wr HK.out hlt
      unfold bkV at HYK
      rw [hv] at HYK
      generalize vs[m - 1 - k] = u at HYK hcell
      rw [← hKn] at hcell
      rw [eiv] at HYK ⊢
      have HEV := Lib.hid eiv
      have i1 : (0 : Int) ≤ (Kn : Int) := by omega
      have i2 : (Kn : Int) < (m : Int) := by omega
      have hwk : wrap64 ((Kn : Int) - 1) = (Kn : Int) - 1 := by unfold wrap64; omega
      obtain ⟨fn, tmps, assign, body, hy, hR'⟩ := HYK
      clear hc hrow hbx hKn eiv hv hidx hwk
      gi_wp2_with fail
      refine hR'.mono ?_
      clear hR' hy
      rintro e W3 (⟨rfl, hJ3⟩ | ⟨rfl, hJx3⟩)
      · have HJ3 := Lib.hid hJ3
        clear hJ3
        gi_wp2
        go_roundw
        case rel => exact ⟨k + 1, by omega, by have := HEV.out; push_cast; congr 1; omega, HJ3⟩
        case measure => have := HEV.out; simp only [intOf]; omega
      · have HJX := Lib.hid hJx3
        clear hJx3
        gi_wp2
        refine bodyPost_ret (results_none rfl _ _ _) rfl ?_
        exact ⟨⟨_, rfl⟩, .inr ⟨_, HJX.out⟩⟩
    · obtain rfl : k = m := by omega
      have hz : (k : Int) - 1 - k = -1 := by omega
      rw [hz]
      gi_wp2
      go_end0
      exact ⟨⟨_, rfl⟩, .inl HK.out⟩
end Go.Proofs.Ytnffgomgfabapaa.Rt
