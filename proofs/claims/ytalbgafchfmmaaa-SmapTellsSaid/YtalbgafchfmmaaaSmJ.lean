/- Walk: the program's Shift. -/
import Derived.Test.YtalbgafchfmmaaaSmI
namespace Go.Proofs.Ytalbgafchfmmaaa.Sm
open Go.RowKit Go.Shelf Mem
set_option linter.unusedVariables false
attribute [local go_sem] Oper.semAt_some

/-- a box of one number, all below as it was -/
structure BS (w : World) (v : Int) (W : World) : Prop where
  below : Below w.heap.size w W
  h0 : W.heap[w.heap.size]? = some (.cells #[.int .i64 v] 3 (0, 0))
section
variable {w W W' : World} {v : Int}
theorem BS.grown (h : BS w v W) {row : Option Nat} (hg : W.grownBy W' row) (hr : ∀ r, row = some r → w.heap.size + 1 ≤ r) : BS w v W' :=
  ⟨h.below.grown hg h.below.size (fun k e => by have := hr k e; omega), by rw [hg.block _ (lt_some h.h0) (fun e => by have := hr _ e.symm; omega)]; exact h.h0⟩
theorem BS.step (h : BS w v W) (hb : Below W.heap.size W W') : BS w v W' := h.grown (grown_none hb) (fun r e => by cases e)
theorem BS.cell (h : BS w v W) : W.cell? ⟨w.heap.size, 0, none⟩ = some (.int .i64 v) ∧ W.frozen? ⟨w.heap.size, 0, none⟩ = false := by
  refine ⟨?_, ?_⟩
  · simp [World.cell?, h.h0]
  · simp [World.frozen?, h.h0]
theorem BS.set (h : BS w v W) (v' : Int) : BS w v' (W.setCell ⟨w.heap.size, 0, none⟩ (.int .i64 v')) :=
  ⟨h.below.setCell (p := ⟨_, 0, none⟩) (Nat.le_refl _) _, by simp [World.setCell, Array.getElem?_modify, h.h0]⟩
theorem BS.new (w : World) (v : Int) : BS w v (w.alloc (.cells #[.int .i64 v] 3)) := ⟨(Below.refl _ _).alloc (Nat.le_refl _) _, heap_alloc_new w _⟩
end
noncomputable def shiftW (l : List Rg) : Int := if rightB l = true then sh l l.length else 0

set_option maxRecDepth 100000 in
set_option maxHeartbeats 4000000 in
theorem pshift_any (l : List Rg) (A : Option Addr) (m c : Nat) (w : World) (hm : m ≤ 100) (hr : RLow w.heap.size w A m l) :
    Calls Try.prog 14 #[.slice A m c] w fun e w' => e = .returned (.int .i64 (shiftW l)) ∧ Below w.heap.size w w' := by
  have HL := Lib.hid hr.1
  have HR := Lib.hid hr
  obtain ⟨z, hz⟩ : ∃ z, z = shiftW l := ⟨_, rfl⟩
  rw [← hz]
  have HZ := Lib.hid hz
  clear hr hz
  have HB0 := Lib.hid (BS.new w 0)
  refine (callsIn_wide (n := 3)).1 ?_
  refine callsIn_of_wp_marks Try.func14 rfl trivial ?_ rfl
  simp only [Try.ntmps14, List.size_toArray, List.length_cons, List.length_nil, Nat.reduceAdd, Nat.reduceSub, Array.replicate_succ, Array.replicate_zero, List.push_toArray, List.append_toArray, List.nil_append, List.cons_append]
  have CR := pright_any l A m c _ hm ((HR.out.below HB0.out.below (Nat.le_refl _)).lift HB0.out.below.size)
  gi_wp2_with fail
  refine ⟨trivial, ?_⟩
  refine (callsIn_wide.2 CR).mono ?_
  rintro e W1 ⟨rfl, hb1⟩
  have HB1 := Lib.hid (HB0.out.step hb1)
  clear hb1 CR HB0
  cases hrb : rightB l with
  | false =>
    have e : z = 0 := by rw [HZ.out, shiftW, hrb]; simp
    subst e
    have c0 := HB1.out.cell.1
    gi_wp2
    exact ⟨_, results_tmp rfl _ _ _, rfl, HB1.out.below⟩
  | true =>
    have HZ2 : Hid (z = sh l m) := Lib.hid (by rw [HZ.out, shiftW, hrb, HL.out]; simp)
    have HOK : Hid (okTo l m) := Lib.hid (by rw [← HL.out]; exact right_of hrb)
    gi_wp2_with (refine ⟨trivial, ?_⟩; gi_at_call 22; refine (all_in Fence.wide (3 - 1) trivial rfl A m c _).mono ?_; rintro e w' ⟨rfl, rfl⟩)
    have HBX := Lib.hid (Boxed.new W1 22 (.slice A m c))
    have HB2 := Lib.hid (HB1.out.step ((Below.refl _ _).alloc (Nat.le_refl _) (.cells #[.slice A m c] 22)))
    generalize hW0 : W1.alloc (.cells #[.slice A m c] 22) = W0 at HBX HB2 ⊢
    have hsz : w.heap.size + 1 ≤ W0.heap.size := lt_some HB2.out.h0
    clear hW0
    refine wpIn_rangeFunc_ownH rfl (by omega) (gf := 27) (lb := #[.pointer (some ⟨W1.heap.size, 0, none⟩)]) rfl trivial (enters_of Try.func27 (by kernel_rfl) rfl)
      (all_stops (3 - 1) (by omega) W1.heap.size w.heap.size l A m c W0 HOK.out hm (HR.out.below HB2.out.below (Nat.le_refl _)) HBX.out HB2.out.below.size) KS.trans (KS.put HB2.out.below.size) (Below.refl _ _) (fun _ => rfl)
      (fun pre W => ∃ v, BS w v W ∧ (Lead pre → v = sh l pre.length))
      (fun _ _ _ => False)
      (by intro pre W W' row hI hg hr; obtain ⟨v, h1, h2⟩ := hI; exact ⟨v, h1.grown hg (fun r e => by have := (hr r e).1; omega), h2⟩)
      (fun _ _ _ _ _ hs _ _ => hs)
      ⟨0, HB2.out, fun _ => rfl⟩
      (fun x a' W => ∃ B, a' = { tmps := #[.slice A m c, undef, .int .i64 0, .pointer (some ⟨w.heap.size, 0, none⟩), undef, .pointer (some ⟨B, 0, none⟩), .slice A m c, .bool true, .slice A m c, .func (.func 27) #[] #[.pointer (some ⟨W1.heap.size, 0, none⟩)], .int .i64 (x.1 : Int), shV (rg l x.1) (sh l x.1), undef, undef, undef], defers := [] } ∧ W.heap[B]? = some (.cells #[.int .i64 (rg l x.1).at_, .int .i64 (rg l x.1).old, .int .i64 (rg l x.1).new, .int .i64 (sh l x.1)] 50 (0, 0)))
      (by intro x a' _ W W' row hI hg hr; obtain ⟨B, h1, h2⟩ := hI; exact ⟨B, h1, by rw [hg.block B (lt_some h2) (fun e => by obtain ⟨_, o, ho, hc⟩ := hr B e.symm; rw [h2] at ho; cases ho; cases hc)]; exact h2⟩)
      ?assign ?body ?done ?stop
    case assign =>
      intro L pre x W K hI hK
      have HK := Lib.hid hK
      have hn := heap_alloc_new W (.cells #[.int .i64 (rg l x.1).at_, .int .i64 (rg l x.1).old, .int .i64 (rg l x.1).new, .int .i64 (sh l x.1)] 50)
      have HN := Lib.hid hn
      have HI := Lib.hid hI
      clear hK hn hI
      unfold shV at HK ⊢
      gi_wp2
      obtain ⟨v, h1, h2⟩ := HI.out
      exact HK.out _ _ (KeepsFrom.of_grownBy (World.grownBy_alloc _ _ none) (fun j e => by cases e)) (KS.of_below ((Below.refl _ _).alloc (Nat.le_refl _) _) h1.below.size) ⟨v, h1.step ((Below.refl _ _).alloc (Nat.le_refl _) _), h2⟩ ⟨_, rfl, HN.out⟩
    case body =>
      rintro L pre ⟨k, hk⟩ a' W hL hrec ⟨v, hFS, hlead⟩ ⟨B, rfl, hx⟩ hlt
      have HF := Lib.hid hFS
      have HLD := Lib.hid hlead
      have HFI := Lib.hid (HOK.out k hk).1
      have HS := Lib.hid (far_sh (HOK.out.mono (by omega) : okTo l k) (by omega))
      have HSS : Hid ((sh l k + (rg l k).new - (rg l k).old) = sh l (k + 1)) := Lib.hid rfl
      have hsW : w.heap.size + 1 ≤ W.heap.size := lt_some hFS.h0
      dsimp only at hx ⊢
      have HX := Lib.hid hx
      have x0 : W.cell? ⟨B, 0, none⟩ = some (.int .i64 (rg l k).at_) := by simp [World.cell?, hx]
      have x1 : W.cell? ⟨B, 1, none⟩ = some (.int .i64 (rg l k).old) := by simp [World.cell?, hx]
      have x2 : W.cell? ⟨B, 2, none⟩ = some (.int .i64 (rg l k).new) := by simp [World.cell?, hx]
      have x3 : W.cell? ⟨B, 3, none⟩ = some (.int .i64 (sh l k)) := by simp [World.cell?, hx]
      have CB := fun W => behind_any (rg l k) (sh l k) HFI.out HS.out W
      clear hx hFS hlead
      generalize rg l k = r at *
      generalize hzz : sh l k = zk at *
      obtain ⟨a, o, n⟩ := r
      unfold shV shO at *
      simp only at x0 x1 x2 CB HSS
      have ew := HSS.out
      gi_wp2_with (refine ⟨trivial, ?_⟩; gi_at_call 23; refine (CallsIn.inRound L (callsIn_wide.2 (CB _))).mono ?_; rintro e W3 ⟨rfl, hw3⟩; have HB3 := Lib.hid (show Below W.heap.size W W3 by rw [hw3]; exact (Below.refl _ _).alloc (Nat.le_refl _) _); clear hw3; have HF3 := Lib.hid (HF.out.step HB3.out); have hc := HF3.out.cell; have f2 := hc.1; have f3 := hc.2; clear hc)
      refine ⟨(KeepsFrom.of_grownBy (grown_none HB3.out) (fun j e => by cases e)).trans ((KeepsOthers.setCell _ _ _).from _), (KS.of_below HB3.out (by omega)).trans (KS.set HF3.out.h0 (by decide) (Nat.le_refl _) 0 _), sh l (k + 1), HF3.out.set _, fun hl => ?_⟩
      obtain ⟨hl1, hl2⟩ := Lead.pre hl
      rw [List.length_append, List.length_singleton, ← hl2]
    case done =>
      rintro D' ys W hD hys ⟨v, hFS, hlead⟩ hK
      obtain ⟨hl1, hl2⟩ := Lead.of hys
      have e1 := hlead hl1
      rw [hl2] at e1
      have e2 : z = v := by rw [HZ2.out, e1]
      subst e2
      have c0 := hFS.cell.1
      have HF := Lib.hid hFS
      clear e1 hl1 hl2 hlead hys hFS
      gi_wp2
      refine ⟨by simp, .inl ⟨_, _, rfl, run_takeDeferred hK, ?_⟩⟩
      have hF5 := HF.out.grown (grownBy_putObj' _ D' (.deferred none)) (fun r e => by cases e; omega)
      exact ⟨_, results_tmp rfl _ _ _, rfl, hF5.below⟩
    case stop =>
      rintro D' c pre W _ _ h _
      exact h.elim
end Go.Proofs.Ytalbgafchfmmaaa.Sm
