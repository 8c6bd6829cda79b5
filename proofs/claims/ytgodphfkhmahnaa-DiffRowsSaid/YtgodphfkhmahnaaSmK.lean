/- Walk: the program's Recover. -/
import Derived.Test.YtgodphfkhmahnaaSmI
namespace Go.Proofs.Ytgodphfkhmahnaa.Sm
open Go.RowKit Go.Shelf Mem
set_option linter.unusedVariables false
attribute [local go_sem] Oper.semAt_some

theorem ne_heap {W : World} {i j : Nat} {cs cs' : Array Value} {t t' : TypeId} {fr fr' : Nat × Nat} (h : W.heap[i]? = some (.cells cs t fr)) (h' : W.heap[j]? = some (.cells cs' t' fr')) (ht : t ≠ t') : i ≠ j := by
  rintro rfl; rw [h] at h'; cases h'; exact ht rfl
/-- the boxes of Recover -/
structure VS (w : World) (at_ off n : Int) (ok : Bool) (W : World) : Prop where
  below : Below w.heap.size w W
  h0 : W.heap[w.heap.size]? = some (.cells #[.int .i64 at_] 3 (0, 0))
  h1 : W.heap[w.heap.size + 1]? = some (.cells #[.int .i64 off] 3 (0, 0))
  h2 : W.heap[w.heap.size + 1 + 1]? = some (.cells #[.int .i64 n] 3 (0, 0))
  h3 : W.heap[w.heap.size + 1 + 1 + 1]? = some (.cells #[.bool ok] 4 (0, 0))
section
variable {w W W' : World} {at_ off n : Int} {ok : Bool}
theorem VS.size (h : VS w at_ off n ok W) : w.heap.size + 1 + 1 + 1 + 1 ≤ W.heap.size := by have := lt_some h.h3; omega
theorem VS.grown (h : VS w at_ off n ok W) {row : Option Nat} (hg : W.grownBy W' row) (hr : ∀ r, row = some r → w.heap.size + 1 + 1 + 1 + 1 ≤ r) : VS w at_ off n ok W' := by
  have hne : ∀ k, k < w.heap.size + 1 + 1 + 1 + 1 → some k ≠ row := fun k hk e => by have := hr k e.symm; omega
  have hs := h.size
  refine ⟨h.below.grown hg h.below.size (fun k e => by have := hr k e; omega), ?_, ?_, ?_, ?_⟩
  · rw [hg.block _ (by omega) (hne _ (by omega))]; exact h.h0
  · rw [hg.block _ (by omega) (hne _ (by omega))]; exact h.h1
  · rw [hg.block _ (by omega) (hne _ (by omega))]; exact h.h2
  · rw [hg.block _ (by omega) (hne _ (by omega))]; exact h.h3
theorem VS.step (h : VS w at_ off n ok W) (hb : Below W.heap.size W W') : VS w at_ off n ok W' := h.grown (grown_none hb) (fun r e => by cases e)
theorem VS.cells (h : VS w at_ off n ok W) : W.cell? ⟨w.heap.size, 0, none⟩ = some (.int .i64 at_) ∧ W.cell? ⟨w.heap.size + 1, 0, none⟩ = some (.int .i64 off) ∧ W.cell? ⟨w.heap.size + 1 + 1, 0, none⟩ = some (.int .i64 n) ∧ W.cell? ⟨w.heap.size + 1 + 1 + 1, 0, none⟩ = some (.bool ok) ∧ W.frozen? ⟨w.heap.size + 1 + 1, 0, none⟩ = false ∧ W.frozen? ⟨w.heap.size + 1 + 1 + 1, 0, none⟩ = false := by
  refine ⟨?_, ?_, ?_, ?_, ?_, ?_⟩
  · simp [World.cell?, h.h0]
  · simp [World.cell?, h.h1]
  · simp [World.cell?, h.h2]
  · simp [World.cell?, h.h3]
  · simp [World.frozen?, h.h2]
  · simp [World.frozen?, h.h3]
theorem VS.setN (h : VS w at_ off n ok W) (n' : Int) : VS w at_ off n' ok (W.setCell ⟨w.heap.size + 1 + 1, 0, none⟩ (.int .i64 n')) := by
  refine ⟨h.below.setCell (p := ⟨_, 0, none⟩) (by simp only; omega) _, ?_, ?_, ?_, ?_⟩
  · rw [Below.heap_setCell _ _ _ _ (by simp only; omega)]; exact h.h0
  · rw [Below.heap_setCell _ _ _ _ (by simp only; omega)]; exact h.h1
  · simp [World.setCell, Array.getElem?_modify, h.h2]
  · rw [Below.heap_setCell _ _ _ _ (by simp only; omega)]; exact h.h3
theorem VS.setB (h : VS w at_ off n ok W) (b : Bool) : VS w at_ off n b (W.setCell ⟨w.heap.size + 1 + 1 + 1, 0, none⟩ (.bool b)) := by
  refine ⟨h.below.setCell (p := ⟨_, 0, none⟩) (by simp only; omega) _, ?_, ?_, ?_, ?_⟩
  · rw [Below.heap_setCell _ _ _ _ (by simp only; omega)]; exact h.h0
  · rw [Below.heap_setCell _ _ _ _ (by simp only; omega)]; exact h.h1
  · rw [Below.heap_setCell _ _ _ _ (by simp only; omega)]; exact h.h2
  · simp [World.setCell, Array.getElem?_modify, h.h3]
theorem VS.new (w : World) (at_ off : Int) : VS w at_ off 0 false ((((w.alloc (.cells #[.int .i64 at_] 3)).alloc (.cells #[.int .i64 off] 3)).alloc (.cells #[.int .i64 0] 3)).alloc (.cells #[.bool false] 4)) := by
  obtain ⟨o0, e0⟩ : ∃ o, o = Obj.cells #[.int .i64 at_] 3 := ⟨_, rfl⟩
  obtain ⟨o1, e1⟩ : ∃ o, o = Obj.cells #[.int .i64 off] 3 := ⟨_, rfl⟩
  obtain ⟨o2, e2⟩ : ∃ o, o = Obj.cells #[.int .i64 0] 3 := ⟨_, rfl⟩
  obtain ⟨o3, e3⟩ : ∃ o, o = Obj.cells #[.bool false] 4 := ⟨_, rfl⟩
  rw [← e0, ← e1, ← e2, ← e3]
  have n1 := heap_alloc_new (w.alloc o0) o1
  have n2 := heap_alloc_new ((w.alloc o0).alloc o1) o2
  have n3 := heap_alloc_new (((w.alloc o0).alloc o1).alloc o2) o3
  simp only [World.size_alloc] at n1 n2 n3
  refine ⟨((((Below.refl _ _).alloc (Nat.le_refl _) _).alloc (by simp only [World.size_alloc]; omega) _).alloc (by simp only [World.size_alloc]; omega) _).alloc (by simp only [World.size_alloc]; omega) _, ?_, ?_, ?_, ?_⟩
  · rw [Below.heap_alloc _ _ _ (by simp only [World.size_alloc]; omega), Below.heap_alloc _ _ _ (by simp only [World.size_alloc]; omega), Below.heap_alloc _ _ _ (by simp only [World.size_alloc]; omega), heap_alloc_new, e0]
  · rw [Below.heap_alloc _ _ _ (by simp only [World.size_alloc]; omega), Below.heap_alloc _ _ _ (by simp only [World.size_alloc]; omega), n1, e1]
  · rw [Below.heap_alloc _ _ _ (by simp only [World.size_alloc]; omega), n2, e2]
  · rw [n3, e3]
end
def NoHit {m : Nat} (l : List Rg) (at_ off : Int) (pre : List (Ix m)) : Prop := ∀ x ∈ pre, (x.1 : Int) = at_ → ¬ (0 ≤ off ∧ off ≤ (rg l x.1).new)
def recOk (l : List Rg) (at_ off : Int) : Prop := rightB l = true ∧ ∃ k : Nat, k < l.length ∧ (k : Int) = at_ ∧ 0 ≤ off ∧ off ≤ (rg l k).new
noncomputable def recB (l : List Rg) (at_ off : Int) : Bool := @decide (recOk l at_ off) (Classical.propDecidable _)
noncomputable def recN (l : List Rg) (at_ off : Int) : Int := if recB l at_ off = true then (rg l at_.toNat).at_ + sh l at_.toNat + off else 0
theorem recB_yes {l : List Rg} {at_ off : Int} (h : recOk l at_ off) : recB l at_ off = true := @decide_eq_true _ (Classical.propDecidable _) h
theorem recB_no {l : List Rg} {at_ off : Int} (h : ¬ recOk l at_ off) : recB l at_ off = false := @decide_eq_false _ (Classical.propDecidable _) h
theorem recN_no {l : List Rg} {at_ off : Int} (h : ¬ recOk l at_ off) : recN l at_ off = 0 := by unfold recN; rw [recB_no h]; simp
theorem recN_yes {l : List Rg} {off : Int} {k : Nat} (h : recOk l k off) : recN l k off = (rg l k).at_ + sh l k + off := by unfold recN; rw [recB_yes h]; simp

set_option maxRecDepth 100000 in
set_option maxHeartbeats 4000000 in
theorem precover_any (l : List Rg) (A : Option Addr) (m c : Nat) (at_ off : Int) (w : World) (hm : m ≤ 100) (hr : RLow w.heap.size w A m l) :
    Calls Try.prog 75 #[.slice A m c, .int .i64 at_, .int .i64 off] w fun e w' => e = .returned (.tuple #[.int .i64 (recN l at_ off), .bool (recB l at_ off)]) ∧ Below w.heap.size w w' := by
  have HL := Lib.hid hr.1
  have HR := Lib.hid hr
  obtain ⟨z, hz⟩ : ∃ z, z = recN l at_ off := ⟨_, rfl⟩
  obtain ⟨ok, hok⟩ : ∃ z, z = recB l at_ off := ⟨_, rfl⟩
  rw [← hz, ← hok]
  have HZ := Lib.hid hz
  have HOKB := Lib.hid hok
  clear hr hz hok
  have HB0 := Lib.hid (VS.new w at_ off)
  refine (callsIn_wide (n := 3)).1 ?_
  refine callsIn_of_wp_marks Try.func75 rfl trivial ?_ rfl
  simp only [Try.ntmps75, List.size_toArray, List.length_cons, List.length_nil, Nat.reduceAdd, Nat.reduceSub, Array.replicate_succ, Array.replicate_zero, List.push_toArray, List.append_toArray, List.nil_append, List.cons_append]
  have CR := pright_any l A m c _ hm ((HR.out.below HB0.out.below (Nat.le_refl _)).lift HB0.out.below.size)
  gi_wp2_with fail
  refine ⟨trivial, ?_⟩
  refine (callsIn_wide.2 CR).mono ?_
  rintro e W1 ⟨rfl, hb1⟩
  have HB1 := Lib.hid (HB0.out.step hb1)
  clear hb1 CR HB0
  cases hrb : rightB l with
  | false =>
    have hno : ¬ recOk l at_ off := fun h => by rw [h.1] at hrb; cases hrb
    have e1 : z = 0 := HZ.out.trans (recN_no hno)
    have e2 : ok = false := HOKB.out.trans (recB_no hno)
    subst e1; subst e2
    have hc := HB1.out.cells
    have c0 := hc.1
    have c1 := hc.2.1
    have c2 := hc.2.2.1
    have c3 := hc.2.2.2.1
    have f2 := hc.2.2.2.2.1
    have f3 := hc.2.2.2.2.2
    clear hc
    gi_wp2
    have hV := (HB1.out.setN 0).setB false
    have hc := hV.cells
    refine ⟨.tuple #[.int .i64 0, .bool false], ?_, rfl, hV.below⟩
    simp [results, Try.f75, go_sem, hc.2.2.1, hc.2.2.2.1]
  | true =>
    have HOK : Hid (okTo l m) := Lib.hid (by rw [← HL.out]; exact right_of hrb)
    have HRB := Lib.hid hrb
    gi_wp2_with (refine ⟨trivial, ?_⟩; gi_at_call 90; refine (all_in Fence.wide (3 - 1) trivial rfl A m c _).mono ?_; rintro e w' ⟨rfl, rfl⟩)
    have HBX := Lib.hid (Boxed.new W1 39 (.slice A m c))
    have HB2 := Lib.hid (HB1.out.step ((Below.refl _ _).alloc (Nat.le_refl _) (.cells #[.slice A m c] 39)))
    generalize hW0 : W1.alloc (.cells #[.slice A m c] 39) = W0 at HBX HB2 ⊢
    have hsz : w.heap.size + 1 + 1 + 1 + 1 ≤ W0.heap.size := HB2.out.size
    clear hW0
    refine wpIn_rangeFunc_ownH rfl (by omega) (gf := 107) (lb := #[.pointer (some ⟨W1.heap.size, 0, none⟩)]) rfl trivial (enters_of Try.func107 (by kernel_rfl) rfl)
      (all_stops (3 - 1) (by omega) W1.heap.size w.heap.size l A m c W0 HOK.out hm (HR.out.below HB2.out.below (Nat.le_refl _)) HBX.out HB2.out.below.size) KS.trans (KS.put HB2.out.below.size) (Below.refl _ _) (fun _ => rfl)
      (fun pre W => VS w at_ off 0 false W ∧ NoHit l at_ off pre)
      (fun k pre W => k = .ret ∧ VS w at_ off z ok W)
      (by intro pre W W' row hI hg hr; exact ⟨hI.1.grown hg (fun r e => by have := (hr r e).1; omega), hI.2⟩)
      (by intro k pre W W' row hI hg hr; exact ⟨hI.1, hI.2.grown hg (fun r e => by have := (hr r e).1; omega)⟩)
      ⟨HB2.out, fun x h => by cases h⟩
      (fun x a' W => ∃ B, a' = { tmps := #[.slice A m c, .int .i64 at_, .int .i64 off, undef, .pointer (some ⟨w.heap.size, 0, none⟩), .pointer (some ⟨w.heap.size + 1, 0, none⟩), .pointer (some ⟨w.heap.size + 1 + 1, 0, none⟩), .pointer (some ⟨w.heap.size + 1 + 1 + 1, 0, none⟩), .int .i64 (x.1 : Int), .pointer (some ⟨B, 0, none⟩), .slice A m c, .bool true, .bool false, .slice A m c, .func (.func 107) #[] #[.pointer (some ⟨W1.heap.size, 0, none⟩)], .int .i64 (x.1 : Int), shV (rg l x.1) (sh l x.1), undef, undef, undef, undef, undef, undef, undef, undef, undef, undef, undef, undef, undef, undef, undef, undef, undef, undef], defers := [] } ∧ W.heap[B]? = some (.cells #[.int .i64 (rg l x.1).at_, .int .i64 (rg l x.1).old, .int .i64 (rg l x.1).new, .int .i64 (sh l x.1)] 159 (0, 0)))
      (by intro x a' _ W W' row hI hg hr; obtain ⟨B, h1, h2⟩ := hI; exact ⟨B, h1, by rw [hg.block B (lt_some h2) (fun e => by obtain ⟨_, o, ho, hc⟩ := hr B e.symm; rw [h2] at ho; cases ho; cases hc)]; exact h2⟩)
      ?assign ?body ?done ?stop
    case assign =>
      intro L pre x W K hI hK
      have HK := Lib.hid hK
      have hn := heap_alloc_new W (.cells #[.int .i64 (rg l x.1).at_, .int .i64 (rg l x.1).old, .int .i64 (rg l x.1).new, .int .i64 (sh l x.1)] 159)
      have HN := Lib.hid hn
      have HI := Lib.hid hI
      clear hK hn hI
      unfold shV at HK ⊢
      gi_wp2
      obtain ⟨h1, h2⟩ := HI.out
      exact HK.out _ _ (KeepsFrom.of_grownBy (World.grownBy_alloc _ _ none) (fun j e => by cases e)) (KS.of_below ((Below.refl _ _).alloc (Nat.le_refl _) _) h1.below.size) ⟨h1.step ((Below.refl _ _).alloc (Nat.le_refl _) _), h2⟩ ⟨_, rfl, HN.out⟩
    case body =>
      rintro L pre ⟨k, hk⟩ a' W hL hrec ⟨hFS, hpre⟩ ⟨B, rfl, hx⟩ hlt
      have HF := Lib.hid hFS
      have HPR := Lib.hid hpre
      have HFI := Lib.hid (HOK.out k hk).1
      have hs := far_sh (HOK.out.mono (by omega) : okTo l k) (by omega)
      have HS := Lib.hid hs
      have hsW := hFS.size
      have HKL : Hid (k < l.length) := Lib.hid (by rw [HL.out]; exact hk)
      dsimp only at hx ⊢
      have HX := Lib.hid hx
      have x0 : W.cell? ⟨B, 0, none⟩ = some (.int .i64 (rg l k).at_) := by simp [World.cell?, hx]
      have x1 : W.cell? ⟨B, 1, none⟩ = some (.int .i64 (rg l k).old) := by simp [World.cell?, hx]
      have x2 : W.cell? ⟨B, 2, none⟩ = some (.int .i64 (rg l k).new) := by simp [World.cell?, hx]
      have x3 : W.cell? ⟨B, 3, none⟩ = some (.int .i64 (sh l k)) := by simp [World.cell?, hx]
      have CA := fun W => at_any (rg l k) (sh l k) HFI.out HS.out W
      have hf := HFI.out
      unfold Rg.fits at hf
      unfold far at hs
      have hc := hFS.cells
      have c0 := hc.1
      have c1 := hc.2.1
      have c2 := hc.2.2.1
      have c3 := hc.2.2.2.1
      have f2 := hc.2.2.2.2.1
      have f3 := hc.2.2.2.2.2
      clear hc
      clear hx hFS hpre
      unfold shV shO at CA
      unfold shV
      by_cases hka : (k : Int) = at_
      · have hkb : ((k : Int) == at_) = true := by simpa using hka
        by_cases ho : 0 ≤ off ∧ off ≤ (rg l k).new
        · obtain ⟨o1, o2⟩ := ho
          have hrok : recOk l (k : Int) off := ⟨HRB.out, k, HKL.out, rfl, o1, o2⟩
          have e1 : z = (rg l k).at_ + sh l k + off := by rw [HZ.out, ← hka]; exact recN_yes hrok
          have e2 : ok = true := by rw [HOKB.out, ← hka]; exact recB_yes hrok
          have E1 := Lib.hid e1
          have E2 := Lib.hid e2
          have ew : IntKind.i64.wrap ((rg l k).at_ + sh l k + off) = (rg l k).at_ + sh l k + off := IntWalk.i64_in _ (by omega)
          clear e1 e2 hrok hka
          generalize rg l k = r at *
          generalize sh l k = zk at *
          obtain ⟨a, o, n⟩ := r
          try simp only at x0 x1 x2 CA hf o2 ew E1
          gi_wp2_with fail
          refine region_round (S := fun W' => (W'.cell? ⟨B, 0, none⟩ = some (.int .i64 a) ∧ W'.cell? ⟨B, 1, none⟩ = some (.int .i64 o) ∧ W'.cell? ⟨B, 2, none⟩ = some (.int .i64 n) ∧ W'.cell? ⟨B, 3, none⟩ = some (.int .i64 zk)) ∧ W'.cell? ⟨w.heap.size + 1, 0, none⟩ = some (.int .i64 off)) (by kernel_rfl) (by rfl) (by rintro ⟨_, _, h⟩; exact h) ⟨⟨x0, x1, x2, x3⟩, c1⟩ (fun hHeld => ?_)
          have HB0 : Hid (Below W.heap.size W W.drew) := Lib.hid (below_drewN (Below.refl _ _) 1)
          generalize W.drew = W5 at hHeld HB0 ⊢
          refine tk 0 (v := ?_) rfl (by kernel_rfl) (fun _ _ _ h => h) ?_ hHeld ?_
          rotate_left
          · (intro W hSw; (try dsimp only at hSw); go_simp; try with_reducible rfl)
          refine tk 2 (v := ?_) rfl (by kernel_rfl) (fun _ _ _ h => h) ?_ hHeld ?_
          rotate_left
          · (intro W hSw; (try dsimp only at hSw); go_simp; try with_reducible rfl)
          refine wpAnyH_ready (rs := [1]) (by kernel_rfl) (by simp) ?_
          refine AllReadyH.cons rfl (fun K hK => ?_) AllReadyH.nil
          go_simp
          refine (CA _).mono ?_
          rintro e W2 ⟨rfl, hw2⟩
          have HB2 : Hid (Below W.heap.size W W2) := Lib.hid (by rw [hw2]; exact HB0.out.alloc HB0.out.size _)
          have HX2 : Hid (W2.heap[B]? = some (.cells #[.int .i64 a, .int .i64 o, .int .i64 n, .int .i64 zk] 159 (0, 0))) := Lib.hid (by rw [HB2.out.block _ (lt_some HX.out)]; exact HX.out)
          have HF2 := Lib.hid (HF.out.step HB2.out)
          have HSX : ∀ W', (W'.heap[B]? = some (.cells #[.int .i64 a, .int .i64 o, .int .i64 n, .int .i64 zk] 159 (0, 0))) → (∃ n' b', VS w at_ off n' b' W') → ((W'.cell? ⟨B, 0, none⟩ = some (.int .i64 a) ∧ W'.cell? ⟨B, 1, none⟩ = some (.int .i64 o) ∧ W'.cell? ⟨B, 2, none⟩ = some (.int .i64 n) ∧ W'.cell? ⟨B, 3, none⟩ = some (.int .i64 zk)) ∧ W'.cell? ⟨w.heap.size + 1, 0, none⟩ = some (.int .i64 off)) :=
            fun W' h1 ⟨n', b', h2⟩ => ⟨⟨by simp [World.cell?, h1], by simp [World.cell?, h1], by simp [World.cell?, h1], by simp [World.cell?, h1]⟩, h2.cells.2.1⟩
          have HSX' := Lib.hid HSX
          clear hw2 HB0 hHeld c0 c1 c2 c3 f2 f3 x0 x1 x2 x3 HF HX HSX
          go_wp2_with fail
          refine hK.out _ _ (HSX'.out _ HX2.out ⟨_, _, HF2.out⟩) (fun hHeld => ?_)
          clear hK K
          refine tk 3 (v := ?_) rfl (by kernel_rfl) (fun _ _ _ h => h) ?_ hHeld ?_
          rotate_left
          · (intro W hSw; (try dsimp only at hSw); go_simp; try with_reducible rfl)
          refine wpAnyH_ready (rs := [4]) (by kernel_rfl) (by simp) ?_
          refine AllReadyH.cons rfl (fun K hK => ?_) AllReadyH.nil
          have hc := HF2.out.cells
          have c0 := hc.1
          have c1 := hc.2.1
          have c2 := hc.2.2.1
          have c3 := hc.2.2.2.1
          have f2 := hc.2.2.2.2.1
          have f3 := hc.2.2.2.2.2
          clear hc
          go_simp
          have HF3 := Lib.hid (HF2.out.setN (a + zk + off))
          have HX3 : Hid ((W2.setCell ⟨w.heap.size + 1 + 1, 0, none⟩ (.int .i64 (a + zk + off))).heap[B]? = some (.cells #[.int .i64 a, .int .i64 o, .int .i64 n, .int .i64 zk] 159 (0, 0))) := Lib.hid (by rw [Below.heap_setCell _ _ _ _ (ne_heap HX2.out HF2.out.h2 (by decide))]; exact HX2.out)
          refine hK.out _ _ (HSX'.out _ HX3.out ⟨_, _, HF3.out⟩) (fun hHeld => ?_)
          clear hK K hHeld c0 c1 c2 c3 f2 f3
          refine wpAnyH_ready (rs := [5]) (by kernel_rfl) (by simp) ?_
          refine AllReadyH.cons rfl (fun K hK => ?_) AllReadyH.nil
          have hc := HF3.out.cells
          have c0 := hc.1
          have c1 := hc.2.1
          have c2 := hc.2.2.1
          have c3 := hc.2.2.2.1
          have f2 := hc.2.2.2.2.1
          have f3 := hc.2.2.2.2.2
          clear hc
          go_simp
          have HF4 := Lib.hid (HF3.out.setB true)
          refine hK.out _ _ (HSX'.out _ (by rw [Below.heap_setCell _ _ _ _ (ne_heap HX3.out HF3.out.h3 (by decide))]; exact HX3.out) ⟨_, _, HF4.out⟩) (fun hHeld => ?_)
          clear hK K hHeld c0 c1 c2 c3 f2 f3
          refine wpAnyH_done (by kernel_rfl) ?_ _
          gi_wp2_with fail
          refine ⟨((KeepsFrom.of_grownBy (grown_none HB2.out) (fun j e => by cases e)).trans ((KeepsOthers.setCell _ _ _).from _)).trans ((KeepsOthers.setCell _ _ _).from _), rfl, ?_⟩
          rw [E1.out, E2.out]
          exact HF4.out
        · have N1 : Hid (NoHit l at_ off (pre ++ [(⟨k, hk⟩ : Ix m)])) := Lib.hid (fun x hx he => by
            rcases List.mem_append.1 hx with h | h
            · exact HPR.out x h he
            · obtain rfl := List.mem_singleton.1 h; exact ho)
          by_cases ho1 : 0 ≤ off
          · have ho2 : decide (off ≤ (rg l k).new) = false := decide_eq_false (fun h => ho ⟨ho1, h⟩)
            clear hka
            generalize rg l k = r at *
            generalize sh l k = zk at *
            obtain ⟨a, o, n⟩ := r
            try simp only at x0 x1 x2 ho2
            gi_wp2
            exact ⟨KeepsFrom.refl _ _, KS.refl _ _, HF.out, N1.out⟩
          · have ho2 : decide (off ≥ 0) = false := decide_eq_false ho1
            clear hka
            generalize rg l k = r at *
            generalize sh l k = zk at *
            obtain ⟨a, o, n⟩ := r
            gi_wp2
            exact ⟨KeepsFrom.refl _ _, KS.refl _ _, HF.out, N1.out⟩
      · have N1 : Hid (NoHit l at_ off (pre ++ [(⟨k, hk⟩ : Ix m)])) := Lib.hid (fun x hx he => by
          rcases List.mem_append.1 hx with h | h
          · exact HPR.out x h he
          · obtain rfl := List.mem_singleton.1 h; exact absurd he hka)
        have hkb : ((k : Int) == at_) = false := by simpa using hka
        generalize rg l k = r at *
        generalize sh l k = zk at *
        obtain ⟨a, o, n⟩ := r
        gi_wp2
        exact ⟨KeepsFrom.refl _ _, KS.refl _ _, HF.out, N1.out⟩
    case done =>
      rintro D' ys W hD hys ⟨hFS, hpre⟩ hK
      have hno : ¬ recOk l at_ off := by
        rintro ⟨_, k, hk, he, ho⟩
        rw [HL.out] at hk
        have : k ∈ ys.map (·.1) := by rw [hys]; exact List.mem_range.2 hk
        obtain ⟨x, hx, rfl⟩ := List.mem_map.1 this
        exact hpre x hx he ho
      have e1 : z = 0 := HZ.out.trans (recN_no hno)
      have e2 : ok = false := HOKB.out.trans (recB_no hno)
      have HF := Lib.hid hFS
      have hc := hFS.cells
      have c0 := hc.1
      have c1 := hc.2.1
      have c2 := hc.2.2.1
      have c3 := hc.2.2.2.1
      have f2 := hc.2.2.2.2.1
      have f3 := hc.2.2.2.2.2
      clear hc
      subst e1; subst e2
      clear hno hys hpre hFS
      gi_wp2
      have hK' := ((KeepsOthers.setCell W ⟨w.heap.size + 1 + 1, 0, none⟩ (.int .i64 0)).trans (KeepsOthers.setCell _ ⟨w.heap.size + 1 + 1 + 1, 0, none⟩ (.bool false))).same D' _ hK rfl
      refine ⟨by simp, .inl ⟨_, _, rfl, run_takeDeferred hK', ?_⟩⟩
      have hV := ((HF.out.setN 0).setB false).grown (grownBy_putObj' _ D' (.deferred none)) (fun r e => by cases e; omega)
      have hc := hV.cells
      refine ⟨.tuple #[.int .i64 0, .bool false], ?_, rfl, hV.below⟩
      simp [results, Try.f75, go_sem, hc.2.2.1, hc.2.2.2.1]
    case stop =>
      rintro D' c pre W hD hpre ⟨rfl, hFS⟩ hK
      gi_wp2
      refine ⟨by simp, .inl ⟨_, _, rfl, run_takeDeferred hK, ?_⟩⟩
      have hV := hFS.grown (grownBy_putObj' _ D' (.deferred none)) (fun r e => by cases e; omega)
      have hc := hV.cells
      refine ⟨.tuple #[.int .i64 z, .bool ok], ?_, rfl, hV.below⟩
      simp [results, Try.f75, go_sem, hc.2.2.1, hc.2.2.2.1]
end Go.Proofs.Ytgodphfkhmahnaa.Sm
