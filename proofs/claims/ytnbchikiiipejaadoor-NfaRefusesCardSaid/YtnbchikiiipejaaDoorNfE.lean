/- A region within a round of a range over a function, as outside; walk of nfa: lead. -/
import Derived.Test.YtnbchikiiipejaaDoorNfD
import Derived.Test.YtnbchikiiipejaaDoorNbG
import Derived.Test.YtnbchikiiipejaaDoorNfGlu
import Derived.OrdersHeld
import Derived.Deep.RegionHeld
import Derived.OrdersIn
namespace Go.Proofs.YtnbchikiiipejaaDoor.Nf
open Go.RowKit Go.Shelf Mem
open Bg (Bag bagV Tab)
set_option linter.unusedVariables false
attribute [local go_sem] Oper.semAt_some

/-- what is walked outside of rounds is walked in one, where nothing is deferred -/
theorem any_in_round {P : Program} {md : Region.Mode} {ops : Array Oper} {Q : Exit → Act → World → Prop} {n l : Nat} (hd : ∀ (i : Nat) (o : Oper), ops[i]? = some o → ∀ c, o.op ≠ .defer c) (hl : ¬ LetsOut Q) :
    ∀ (fuel : Nat) (listed : Array Bool) (a : Act) (w : World), wpAny P md ops Q fuel listed a w → wpAnyIn (Fence.wide.inRound l) n P md ops Q fuel listed a w
  | 0, _, _, _, h => h
  | fuel + 1, listed, a, w, h => by
    refine ⟨h.1, fun i hi => ?_⟩
    have h2 := h.2 i hi
    unfold wpOp at h2
    unfold wpOpIn
    cases ho : ops[i]? with
    | none => rw [ho] at h2; exact any_in_round hd hl fuel _ a w h2
    | some o =>
      rw [ho] at h2
      dsimp only at h2 ⊢
      split
      · rename_i hw
        rw [if_pos hw] at h2
        have h3 := h2.resolve_right (fun g => hl g.2)
        refine ⟨fun f _ => trivial, ?_⟩
        rw [Oper.semAt_eq _ _ _ (hd i o ho)]
        unfold Oper.wp at h3
        generalize (execOp a.eval o).run P w = r at *
        cases r with
        | ok x w' =>
          cases x <;> simp only [Oper.upon, Oper.uponIn] at h3 ⊢ <;>
            first
              | exact any_in_round hd hl fuel _ _ _ h3
              | exact ⟨fun hh => by simp [Fence.wide] at hh, CallsIn.inRound l (callsIn_wide.2 (Calls.mono h3 (fun e w'' he => by cases e <;> first | exact any_in_round hd hl fuel _ _ _ he | exact he)))⟩
              | exact ⟨fun hh => by simp [Fence.wide] at hh, fun c cs _ => let ⟨v, w'', r, s⟩ := h3 c cs; ⟨v, w'', any_in_round hd hl fuel _ _ _ r, stepsIn_wide.2 s⟩⟩
        | halt x w' => cases x <;> simp only [Oper.upon, Oper.uponIn] at h3 ⊢ <;> exact h3
      · rename_i hw
        rw [if_neg hw] at h2
        exact ⟨fun f _ => trivial, any_in_round hd hl fuel _ _ _ h2⟩

section
variable {base N : Nat} {W W' : World} {l : List En} {p : Pc}
theorem NS.kept {row : Option Nat} (h : NS base N W l p) (hg : W.grownBy W' row) (hr : ∀ r, row = some r → ∃ o : Obj, W.heap[r]? = some o ∧ o.isCells = false) : NS base N W' l p := by
  obtain ⟨v, h1, h2, h3⟩ := h
  have hN : some N ≠ row := by
    intro e
    obtain ⟨o, ho, hc⟩ := hr N e.symm
    unfold NBox at h1
    rw [h1] at ho; cases ho; cases hc
  refine ⟨v, h1.kept hg hN, World.ownsRow.kept h2 hg ?_, h3⟩
  rcases h2.2 with ⟨rfl, _⟩ | ⟨g, cap, cur, rfl, _, hgb, _⟩
  · exact .inl rfl
  · refine .inr fun e' => ?_
    obtain ⟨o, ho, hc⟩ := hr g (by simpa [Value.ownBlock] using e'.symm)
    rw [hgb] at ho; cases ho; cases hc
theorem NFrame.grown {W0 : World} {row : Option Nat} (h : NFrame base N W0 W) (hg : W.grownBy W' row) (hr : ∀ r, row = some r → W0.heap.size ≤ r ∧ base ≤ r) : NFrame base N W0 W' := by
  refine ⟨hg.os.trans h.os, hg.tape.trans h.tape, hg.output.trans h.output, Nat.le_trans h.size hg.size, fun k hk hs => ?_, fun k o h1 h2 h3 => ?_⟩
  · exact (hg.block k (Nat.lt_of_lt_of_le hs h.size) (fun e => by have := hr k e.symm; omega)).trans (h.low k hk hs)
  · have := lt_of_some h1
    exact (hg.block k (Nat.lt_of_lt_of_le this h.size) (fun e => by have := hr k e.symm; omega)).trans (h.other k o h1 h2 h3)
end
theorem cells_set {W : World} {g : Nat} {t : TypeId} (h : ∃ cs fr, W.heap[g]? = some (.cells cs t fr)) (j : Nat) (u : Value) : ∃ cs fr, (W.setCell ⟨g, j, none⟩ u).heap[g]? = some (.cells cs t fr) := by
  obtain ⟨cs, fr, hh⟩ := h
  refine ⟨cs.setIfInBounds j u, fr, ?_⟩
  simp [World.setCell, Array.getElem?_modify, hh]
theorem NFrame.store {base N g : Nat} {W : World} (hb : base ≤ g) (hg : ∃ cs fr, W.heap[g]? = some (.cells cs 73 fr)) (i : Nat) (a b c d : Value) :
    NFrame base N W ((((W.setCell ⟨g, i, none⟩ a).setCell ⟨g, i + 1, none⟩ b).setCell ⟨g, i + 2, none⟩ c).setCell ⟨g, i + 3, none⟩ d) :=
  (((NFrame.setRow hb hg _ _).trans (NFrame.setRow hb (cells_set hg _ _) _ _)).trans (NFrame.setRow hb (cells_set (cells_set hg _ _) _ _) _ _)).trans (NFrame.setRow hb (cells_set (cells_set (cells_set hg _ _) _ _) _ _) _ _)
theorem NFrame.keeps {base N : Nat} {W W' : World} {v : Value} {p : Pc} (h : NFrame base N W W') (hN : NBox W N v p) (B : Nat) : KeepsFrom B W W' :=
  ⟨h.size, fun k o _ hk ho => h.other k o hk (by rintro rfl; unfold NBox at hN; rw [hN] at hk; cases hk; cases ho) (by rintro cs fr rfl; cases ho)⟩
theorem not_letsOut {α : Type} (B : Nat) (Kp : World → World → Prop) (I : List α → World → Prop) (Ix : Code → List α → World → Prop) (xs : List α) (W : World) : ¬ LetsOut (ownPostG B Kp I Ix xs W) := by
  rintro ⟨a, w, h⟩; exact h
theorem region_round {P : Program} {ops : Array Oper} {Q : Exit → Act → World → Prop} {S : World → Prop} {n l id : Nat} {a : Act} {w : World} (hm : P.follows .mixedOrders = true)
    (hd : (ops.toList.all fun o => match o.op with | .defer _ => false | _ => true) = true) (hl : ¬ LetsOut Q) (hS : S w.drew)
    (h : S w.drew → wpAnyH P .any ops Q S ops.size (Array.replicate ops.size false) a w.drew) : (Code.region id ops true).wpIn (Fence.wide.inRound l) n P Q a w :=
  wpIn_region_any hm (any_in_round (fun i o ho c e => by
    have := List.all_eq_true.1 hd o (Array.mem_toList_iff.2 (Array.mem_of_getElem? ho))
    rw [e] at this; cases this) hl _ _ _ _ (wpAny_of_held _ _ _ _ (h hS)))

set_option maxRecDepth 100000 in
set_option maxHeartbeats 4000000 in
theorem lead_any {base : Nat} (N : Nat) (l : List En) (p0 : Pc) (frm to : Bag) (w : World) (h : NS base N w l p0) (hb : base ≤ N) (hT : Tab w) (hTb : 1 < base) (hf : Within l.length frm) (ht : to.ok) (hok : ∀ x ∈ l, x.ok) :
    Calls Tryd.prog 36 #[.pointer (some ⟨N, 0, none⟩), bagV frm, bagV to] w fun e w' => (∃ v, e = .returned v) ∧ NS base N w' (lead frm to l) p0 ∧ NFrame base N w w' := by
  have hNs : N < w.heap.size := by obtain ⟨v, h1, _⟩ := h; exact h1.lt
  refine (callsIn_wide (n := 3)).1 ?_
  unfold bagV
  refine callsIn_of_wp_marks Tryd.func36 rfl trivial ?_ rfl
  simp only [Tryd.ntmps36, List.size_toArray, List.length_cons, List.length_nil, Nat.reduceAdd, Nat.reduceSub, Array.replicate_succ, Array.replicate_zero, List.push_toArray, List.append_toArray, List.nil_append, List.cons_append]
  gi_wp2_with (refine ⟨trivial, ?_⟩; gi_at_call 51; refine (Bg.all_in Fence.wide (3 - 1) trivial rfl frm _).mono ?_; rintro e w' ⟨rfl, rfl⟩)
  have hw0 : base ≤ w.heap.size := by omega
  obtain ⟨W0, hW0⟩ : ∃ W0, W0 = (((w.alloc (.cells #[.pointer (some ⟨N, 0, none⟩)] 36)).alloc (.cells #[.int .u64 frm.a, .int .u64 frm.b, .int .u64 frm.c, .int .u64 frm.d] 33)).alloc (.cells #[.int .u64 to.a, .int .u64 to.b, .int .u64 to.c, .int .u64 to.d] 33)).alloc (.cells #[.int .u64 frm.a, .int .u64 frm.b, .int .u64 frm.c, .int .u64 frm.d] 33) := ⟨_, rfl⟩
  have hsz : W0.heap.size = w.heap.size + 1 + 1 + 1 + 1 := by rw [hW0]; simp
  have hB0 : Below w.heap.size w W0 := by rw [hW0]; exact ((((Below.refl _ w).alloc (Nat.le_refl _) _).alloc (by simp) _).alloc (by simp; omega) _).alloc (by simp; omega) _
  have hbx : Boxed W0 w.heap.size 36 (.pointer (some ⟨N, 0, none⟩)) := by rw [hW0]; exact (((Boxed.new w 36 (.pointer (some ⟨N, 0, none⟩))).alloc _).alloc _).alloc _
  have hto : Bg.At W0 (w.heap.size + 1 + 1) to := by
    rw [hW0]
    have := (Bg.At.new ((w.alloc (.cells #[.pointer (some ⟨N, 0, none⟩)] 36)).alloc (.cells #[.int .u64 frm.a, .int .u64 frm.b, .int .u64 frm.c, .int .u64 frm.d] 33)) to).alloc (.cells #[.int .u64 frm.a, .int .u64 frm.b, .int .u64 frm.c, .int .u64 frm.d] 33)
    simpa only [World.size_alloc] using this
  have hfr : Bg.At W0 (w.heap.size + 1 + 1 + 1) frm := by
    rw [hW0]
    have := Bg.At.new (((w.alloc (.cells #[.pointer (some ⟨N, 0, none⟩)] 36)).alloc (.cells #[.int .u64 frm.a, .int .u64 frm.b, .int .u64 frm.c, .int .u64 frm.d] 33)).alloc (.cells #[.int .u64 to.a, .int .u64 to.b, .int .u64 to.c, .int .u64 to.d] 33)) frm
    simpa only [World.size_alloc] using this
  rw [← hW0]
  have HNS := Lib.hid (h.belowAll hB0)
  have HT := Lib.hid (hT.below hB0 hT.2)
  clear hT h hW0
  have HB := Lib.hid hB0
  have HSZ := Lib.hid hsz
  have HX := Lib.hid hbx
  have HTO := Lib.hid hto
  have HFR := Lib.hid hfr
  have HF := Lib.hid hf
  have HT1 := Lib.hid ht
  have HOK := Lib.hid hok
  clear hB0 hsz hbx hto hfr hf ht hok
  refine wpIn_rangeFunc_ownG rfl (by omega) (gf := 65) (lb := #[.pointer (some ⟨w.heap.size + 1 + 1 + 1, 0, none⟩)]) rfl trivial (enters_of Tryd.func65 (by kernel_rfl) rfl)
    (Bg.all_stops_in (3 - 1) (by omega) (w.heap.size + 1 + 1 + 1) base frm HF.out.1 W0 (by rw [HSZ.out]; omega) (by rw [HSZ.out]; omega) hTb HFR.out HT.out) belowK_t (belowK_b (by rw [HSZ.out]; omega)) (Below.refl _ _) (fun _ => rfl)
    (fun (pre : List { y : Int // y ∈ frm.list }) W => NS base N W (leadL (pre.map (fun y => y.1)) to l) p0 ∧ NFrame base N W0 W)
    (fun _ _ _ => False)
    (by intro pre W W' row hI hg hr; exact ⟨hI.1.kept hg (fun r e => (hr r e).2), hI.2.grown hg (fun r e => by have := (hr r e).1; have := HSZ.out; omega)⟩)
    (fun _ _ _ _ _ hs _ _ => hs)
    ⟨HNS.out, NFrame.refl⟩
    (fun y => { tmps := #[.pointer (some ⟨N, 0, none⟩), .agg #[.int .u64 frm.a, .int .u64 frm.b, .int .u64 frm.c, .int .u64 frm.d], .agg #[.int .u64 to.a, .int .u64 to.b, .int .u64 to.c, .int .u64 to.d], .pointer (some ⟨w.heap.size, 0, none⟩), .pointer (some ⟨w.heap.size + 1, 0, none⟩), .pointer (some ⟨w.heap.size + 1 + 1, 0, none⟩), .int .i64 y.1, .agg #[.int .u64 frm.a, .int .u64 frm.b, .int .u64 frm.c, .int .u64 frm.d], .func (.func 65) #[] #[.pointer (some ⟨w.heap.size + 1 + 1 + 1, 0, none⟩)], .int .i64 y.1, undef, undef, undef, undef, undef, undef, undef, undef, undef, undef, undef, undef, undef, undef, undef, undef, undef], defers := [] }) ?assign ?body ?done ?stop
  case assign =>
    intro l y W K hK
    gi_wp2
    exact hK
  case body =>
    rintro l' pre ⟨y, hy⟩ W ⟨hI, hFr⟩ hlt
    obtain ⟨k, rfl⟩ : ∃ k : Nat, y = k := ⟨y.toNat, by have := list_nonneg frm y hy; omega⟩
    have hk : k < l.length := HF.out.2 k (by rw [Bg.has_hasI]; exact (Bg.mem_list _ _).1 hy)
    obtain ⟨L, hL⟩ : ∃ L, L = leadL (pre.map (fun y => y.1)) to l := ⟨_, rfl⟩
    have hLl : L.length = l.length := by rw [hL, leadL_length]
    have hLo : ∀ x ∈ L, x.ok := by rw [hL]; exact leadL_ok HT1.out _ _ HOK.out
    have hnext : leadL ((pre ++ [(⟨(k : Int), hy⟩ : { y : Int // y ∈ frm.list })]).map (fun y => y.1)) to l = L.modify k (lead1 to) := by
      rw [List.map_append, leadL_append, ← hL]; rfl
    have HNX := Lib.hid hnext
    have HLL := Lib.hid hLl
    rw [← hL] at hI
    have hkL : k < L.length := by omega
    obtain ⟨v, hbx, hen, hne⟩ := hI
    obtain ⟨g, cap, hv, hbg, hg, hcap, hcm, hfr, hcs⟩ := hen.opn (by omega)
    subst hv
    have hcell := hbx.cell.1
    obtain ⟨_, q4, q5, q6, q7⟩ := hcs k hkL
    have hxo := (hLo L[k] (List.getElem_mem hkL)).2
    have hmod : L.modify k (lead1 to) = L.modify k (fun e => { e with behind := L[k].behind.orB to }) := by
      apply List.ext_getElem?
      intro j
      rw [List.getElem?_modify, List.getElem?_modify]
      by_cases hj : k = j
      · subst hj; simp [List.getElem?_eq_getElem hkL, lead1]
      · simp [hj]
    have HMD := Lib.hid hmod
    obtain ⟨x, hx⟩ : ∃ x, L[k].behind = x := ⟨_, rfl⟩
    rw [hx] at q4 q5 q6 q7 hxo HMD
    have HXO := Lib.hid hxo
    have hbt := hFr.other (w.heap.size + 1 + 1) _ HTO.out (by omega) (fun cs fr e => by injection e with _ e _; exact absurd e (by decide))
    have hbn := hFr.other w.heap.size _ HX.out (by omega) (fun cs fr e => by injection e with _ e _; exact absurd e (by decide))
    have htc : Bg.At W (w.heap.size + 1 + 1) to := hbt
    have hnc : Boxed W w.heap.size 36 (.pointer (some ⟨N, 0, none⟩)) := hbn
    obtain ⟨t0, t1, t2, t3, _⟩ := htc.cell
    have n0 := hnc.cell
    have HEN := Lib.hid hen
    have HBX := Lib.hid hbx
    have HNE := Lib.hid hne
    have HFRM := Lib.hid hFr
    have HTC := Lib.hid htc
    have HNC := Lib.hid hnc
    have HHY := Lib.hid hy
    have HKL := Lib.hid hk
    have HFZ := Lib.hid hfr
    have hz1 := hnc.lt
    have hgN : N ≠ g := by intro e; exact hne (by rw [e]; rfl)
    have hgw : ∃ cs fr, W.heap[g]? = some (.cells cs 73 fr) := (hen.block g rfl).2.2
    have HGW := Lib.hid hgw
    have hgt : w.heap.size + 1 + 1 ≠ g ∧ w.heap.size ≠ g := by
      obtain ⟨cs, fr, hh⟩ := hgw
      constructor
      · rintro rfl
        unfold Bg.At at htc
        rw [hh] at htc
        injection htc with htc
        injection htc with _ e _; exact absurd e (by decide)
      · rintro rfl
        unfold Boxed at hnc
        rw [hh] at hnc
        injection hnc with hnc
        injection hnc with _ e _; exact absurd e (by decide)
    have HGT := Lib.hid hgt
    clear hgt
    clear hL hLl hLo hnext hmod hx hxo hbt hbn htc hnc hen hbx hne hFr hcs hfr hgw hlt
    gi_wp2
    refine region_round (S := fun W' => (W'.cell? ⟨w.heap.size, 0, none⟩ = some (.pointer (some ⟨N, 0, none⟩)) ∧ W'.cell? ⟨N, 0, none⟩ = some (.slice (some ⟨g, 0, none⟩) L.length cap)) ∧ (W'.cell? ⟨w.heap.size + 1 + 1, 0, none⟩ = some (.int .u64 to.a) ∧ W'.cell? ⟨w.heap.size + 1 + 1, 1, none⟩ = some (.int .u64 to.b) ∧ W'.cell? ⟨w.heap.size + 1 + 1, 2, none⟩ = some (.int .u64 to.c) ∧ W'.cell? ⟨w.heap.size + 1 + 1, 3, none⟩ = some (.int .u64 to.d))) (by kernel_rfl) (by rfl) (by rintro ⟨_, _, h⟩; exact h) ⟨⟨n0, hcell⟩, t0, t1, t2, t3⟩ (fun hHeld => ?_)
    clear n0 hcell t0 t1 t2 t3
    refine wpAnyH_take (i := 0) (v := ?_) rfl (by kernel_rfl) (by kernel_rfl) (by kernel_rfl) (fun _ _ _ h => h) (Or.inl ⟨by kernel_rfl, ?_⟩) hHeld ?_
    rotate_left
    · (intro W hSw; (try dsimp only at hSw); go_simp; try with_reducible rfl)
    refine wpAnyH_take (i := 1) (v := ?_) rfl (by kernel_rfl) (by kernel_rfl) (by kernel_rfl) (fun _ _ _ h => h) (Or.inl ⟨by kernel_rfl, ?_⟩) hHeld ?_
    rotate_left
    · (intro W hSw; (try dsimp only at hSw); go_simp; try with_reducible rfl)
    refine wpAnyH_take (i := 2) (v := ?_) rfl (by kernel_rfl) (by kernel_rfl) (by kernel_rfl) (fun _ _ _ h => h) (Or.inl ⟨by kernel_rfl, ?_⟩) hHeld ?_
    rotate_left
    · (intro W hSw; (try dsimp only at hSw); go_simp; try with_reducible rfl)
    refine wpAnyH_take (i := 3) (v := ?_) rfl (by kernel_rfl) (by kernel_rfl) (by kernel_rfl) (fun _ _ _ h => h) (Or.inl ⟨by kernel_rfl, ?_⟩) hHeld ?_
    rotate_left
    · (intro W hSw; (try dsimp only at hSw); go_simp; try with_reducible rfl)
    refine wpAnyH_take (i := 4) (v := ?_) rfl (by kernel_rfl) (by kernel_rfl) (by kernel_rfl) (fun _ _ _ h => h) (Or.inl ⟨by kernel_rfl, ?_⟩) hHeld ?_
    rotate_left
    · (intro W hSw; (try dsimp only at hSw); go_simp; try with_reducible rfl)
    refine wpAnyH_take (i := 5) (v := ?_) rfl (by kernel_rfl) (by kernel_rfl) (by kernel_rfl) (fun _ _ _ h => h) (Or.inl ⟨by kernel_rfl, ?_⟩) hHeld ?_
    rotate_left
    · (intro W hSw; (try dsimp only at hSw); go_simp; try with_reducible rfl)
    refine wpAnyH_take (i := 6) (v := ?_) rfl (by kernel_rfl) (by kernel_rfl) (by kernel_rfl) (fun _ _ _ h => h) (Or.inl ⟨by kernel_rfl, ?_⟩) hHeld ?_
    rotate_left
    · (intro W hSw; (try dsimp only at hSw); go_simp; try with_reducible rfl)
    refine wpAnyH_take (i := 7) (v := ?_) rfl (by kernel_rfl) (by kernel_rfl) (by kernel_rfl) (fun _ _ _ h => h) (Or.inl ⟨by kernel_rfl, ?_⟩) hHeld ?_
    rotate_left
    · (intro W hSw; (try dsimp only at hSw); go_simp; try with_reducible rfl)
    refine wpAnyH_take (i := 8) (v := ?_) rfl (by kernel_rfl) (by kernel_rfl) (by kernel_rfl) (fun _ _ _ h => h) (Or.inl ⟨by kernel_rfl, ?_⟩) hHeld ?_
    rotate_left
    · (intro W hSw; (try dsimp only at hSw); go_simp; try with_reducible rfl)
    refine wpAnyH_take (i := 9) (v := ?_) rfl (by kernel_rfl) (by kernel_rfl) (by kernel_rfl) (fun _ _ _ h => h) (Or.inl ⟨by kernel_rfl, ?_⟩) hHeld ?_
    rotate_left
    · (intro W hSw; (try dsimp only at hSw); go_simp; try with_reducible rfl)
    refine wpAnyH_take (i := 10) (v := ?_) rfl (by kernel_rfl) (by kernel_rfl) (by kernel_rfl) (fun _ _ _ h => h) (Or.inl ⟨by kernel_rfl, ?_⟩) hHeld ?_
    rotate_left
    · (intro W hSw; (try dsimp only at hSw); go_simp; try with_reducible rfl)
    refine wpAnyH_take (i := 11) (v := ?_) rfl (by kernel_rfl) (by kernel_rfl) (by kernel_rfl) (fun _ _ _ h => h) (Or.inl ⟨by kernel_rfl, ?_⟩) hHeld ?_
    rotate_left
    · (intro W hSw; (try dsimp only at hSw); go_simp; try with_reducible rfl)
    refine wpAnyH_take (i := 13) (v := ?_) rfl (by kernel_rfl) (by kernel_rfl) (by kernel_rfl) (fun _ _ _ h => h) (Or.inl ⟨by kernel_rfl, ?_⟩) hHeld ?_
    rotate_left
    · (intro W hSw; (try dsimp only at hSw); go_simp; try with_reducible rfl)
    refine wpAnyH_ready (rs := [12]) (by kernel_rfl) (by simp) ?_
    refine AllReadyH.cons rfl (fun K hK => ?_) AllReadyH.nil
    go_simp
    refine hK.out _ _ hHeld (fun hHeld => ?_)
    clear hK K
    refine wpAnyH_ready (rs := [14]) (by kernel_rfl) (by simp) ?_
    refine AllReadyH.cons rfl (fun K hK => ?_) AllReadyH.nil
    go_simp
    go_at_call 50
    refine (Bg.or_any x to HXO.out HT1.out _).mono ?_
    rintro en w9 ⟨rfl, hb9⟩
    have hbw : Below W.heap.size W w9 := (below_drewN (Below.refl _ _) 1).trans hb9
    have hbx9 := HBX.out.below hbw HBX.out.lt
    have hen9 := HEN.out.belowAll hbw
    have htc9 := HTC.out.below hbw HTC.out.lt
    have hnc9 : Boxed w9 w.heap.size 36 (.pointer (some ⟨N, 0, none⟩)) := (hbw.block _ hz1).trans HNC.out
    have hF9 := NFrame.of_below (base := base) (N := N) hbw
    have hS9 : (w9.cell? ⟨w.heap.size, 0, none⟩ = some (.pointer (some ⟨N, 0, none⟩)) ∧ w9.cell? ⟨N, 0, none⟩ = some (.slice (some ⟨g, 0, none⟩) L.length cap)) ∧ (w9.cell? ⟨w.heap.size + 1 + 1, 0, none⟩ = some (.int .u64 to.a) ∧ w9.cell? ⟨w.heap.size + 1 + 1, 1, none⟩ = some (.int .u64 to.b) ∧ w9.cell? ⟨w.heap.size + 1 + 1, 2, none⟩ = some (.int .u64 to.c) ∧ w9.cell? ⟨w.heap.size + 1 + 1, 3, none⟩ = some (.int .u64 to.d)) :=
      ⟨⟨hnc9.cell, hbx9.cell.1⟩, htc9.cell.1, htc9.cell.2.1, htc9.cell.2.2.1, htc9.cell.2.2.2.1⟩
    obtain ⟨g', cap', hv', _, hg9, _, _, hfr9, hcs9⟩ := hen9.opn (by have := HLL.out; have := HKL.out; omega)
    simp only [Value.slice.injEq, Option.some.injEq, Addr.mk.injEq, and_true, true_and] at hv'
    obtain ⟨rfl, rfl⟩ := hv'
    have hcs9' := hcs9 k hkL
    generalize L[k] = y9 at hcs9'
    obtain ⟨_, r4, r5, r6, r7⟩ := hcs9'
    have f4 := hfr9 (k * 8 + 4)
    have f5 := hfr9 (k * 8 + 5)
    have f6 := hfr9 (k * 8 + 6)
    have f7 := hfr9 (k * 8 + 7)
    have HE9 := Lib.hid hen9
    have HX9 := Lib.hid hbx9
    have HC9 := Lib.hid htc9
    have HN9 := Lib.hid hnc9
    have HF9 := Lib.hid hF9
    have HG9 := Lib.hid (hen9.block g rfl).2.2
    have HS9 := Lib.hid hS9
    clear hb9 hbw hbx9 hen9 htc9 hnc9 hF9 hfr9 hcs9 hS9 hHeld
    unfold bagV
    obtain ⟨z, hz⟩ : ∃ z, x.orB to = z := ⟨_, rfl⟩
    rw [hz]
    have HZ := Lib.hid hz
    clear hz
    go_wp2_with fail
    refine hK.out _ _ HS9.out (fun hHeld => ?_)
    clear hK K
    refine wpAnyH_take (i := 15) (v := ?_) rfl (by kernel_rfl) (by kernel_rfl) (by kernel_rfl) (fun _ _ _ h => h) (Or.inl ⟨by kernel_rfl, ?_⟩) hHeld ?_
    rotate_left
    · (intro W hSw; (try dsimp only at hSw); go_simp; try with_reducible rfl)
    refine wpAnyH_take (i := 16) (v := ?_) rfl (by kernel_rfl) (by kernel_rfl) (by kernel_rfl) (fun _ _ _ h => h) (Or.inl ⟨by kernel_rfl, ?_⟩) hHeld ?_
    rotate_left
    · (intro W hSw; (try dsimp only at hSw); go_simp; try with_reducible rfl)
    refine wpAnyH_ready (rs := [17]) (by kernel_rfl) (by simp) ?_
    refine AllReadyH.cons rfl (fun K hK => ?_) AllReadyH.nil
    go_simp
    have hX10 := (((HX9.out.other (b := g) hgN (k * 8 + 4) (.int .u64 z.a)).other (b := g) hgN (k * 8 + 4 + 1) (.int .u64 z.b)).other (b := g) hgN (k * 8 + 4 + 2) (.int .u64 z.c)).other (b := g) hgN (k * 8 + 4 + 3) (.int .u64 z.d)
    have hg1 : w.heap.size + 1 + 1 ≠ g := HGT.out.1
    have hg2 : w.heap.size ≠ g := HGT.out.2
    have hC10 := (((HC9.out.other (k := g) hg1 (k * 8 + 4) (.int .u64 z.a)).other (k := g) hg1 (k * 8 + 4 + 1) (.int .u64 z.b)).other (k := g) hg1 (k * 8 + 4 + 2) (.int .u64 z.c)).other (k := g) hg1 (k * 8 + 4 + 3) (.int .u64 z.d)
    have hN10 : Boxed ((((w9.setCell ⟨g, k * 8 + 4, none⟩ (.int .u64 z.a)).setCell ⟨g, k * 8 + 4 + 1, none⟩ (.int .u64 z.b)).setCell ⟨g, k * 8 + 4 + 2, none⟩ (.int .u64 z.c)).setCell ⟨g, k * 8 + 4 + 3, none⟩ (.int .u64 z.d)) w.heap.size 36 (.pointer (some ⟨N, 0, none⟩)) := by
      unfold Boxed
      rw [Below.heap_setCell _ _ _ _ hg2, Below.heap_setCell _ _ _ _ hg2, Below.heap_setCell _ _ _ _ hg2, Below.heap_setCell _ _ _ _ hg2]
      exact HN9.out
    have hE10 := HE9.out.store rfl k z
    have hF10 := HF9.out.trans (NFrame.store (N := N) hbg HG9.out (k * 8 + 4) (.int .u64 z.a) (.int .u64 z.b) (.int .u64 z.c) (.int .u64 z.d))
    refine hK.out _ _ ⟨⟨hN10.cell, hX10.cell.1⟩, hC10.cell.1, hC10.cell.2.1, hC10.cell.2.2.1, hC10.cell.2.2.2.1⟩ (fun hHeld => ?_)
    clear hK K hHeld
    refine wpAnyH_done (by kernel_rfl) ?_ _
    refine ⟨hF10.keeps HBX.out _, hF10.below (Nat.le_refl _) (by omega), ⟨?_, HFRM.out.trans hF10⟩⟩
    rw [HNX.out, HMD.out, HZ.out]
    refine ⟨_, hX10, ?_, HNE.out⟩
    have e : (L.modify k (fun e => { e with behind := z })).length = L.length := List.length_modify _ _ _
    exact hE10
  case done =>
    rintro D' ys W hD hys ⟨hI, hFr⟩ hK
    gi_wp2
    refine ⟨by simp, .inl ⟨_, _, rfl, run_takeDeferred hK, ?_⟩⟩
    refine ⟨_, results_none rfl _ _ _, ⟨_, rfl⟩, ?_, ?_⟩
    · have := NS.kept hI (grownBy_putObj' W D' (.deferred none)) (fun r e => by cases e; exact ⟨_, hK, rfl⟩)
      unfold lead
      rw [← hys]
      exact this
    · exact (NFrame.of_below HB.out).trans (hFr.grown (grownBy_putObj' W D' (.deferred none)) (fun r e => by cases e; have := HSZ.out; omega))
  case stop =>
    rintro D' c pre W _ _ h _
    exact h.elim
end Go.Proofs.YtnbchikiiipejaaDoor.Nf
