/- Walk: find. -/
import Derived.Test.YtgodphfkhmahnaaRound
import Derived.RangeFuncFrom
namespace Go.Proofs.Ytgodphfkhmahnaa.Sm
open Go.RowKit Go.Shelf Mem
set_option linter.unusedVariables false
attribute [local go_sem] Oper.semAt_some

/-- what holds while a position is looked for: its box, the side's, the answer's block, the shift's box -/
structure FS (w : World) (pos side : Int) (p : Pl) (v : Int) (W : World) : Prop where
  below : Below w.heap.size w W
  h0 : W.heap[w.heap.size]? = some (.cells #[.int .i64 pos] 3 (0, 0))
  h1 : W.heap[w.heap.size + 1]? = some (.cells #[.int .i64 side] 3 (0, 0))
  h2 : W.heap[w.heap.size + 1 + 1]? = some (.cells #[.int .i64 p.pos, .bool p.gone, .bool p.inside, .int .i64 p.rng, .int .i64 p.off] 90 (0, 0))
  h3 : W.heap[w.heap.size + 1 + 1 + 1]? = some (.cells #[.int .i64 v] 3 (0, 0))
section
variable {w W W' : World} {pos side v : Int} {p : Pl}
theorem FS.size (h : FS w pos side p v W) : w.heap.size + 1 + 1 + 1 + 1 ≤ W.heap.size := by have := lt_some h.h3; omega
theorem FS.grown (h : FS w pos side p v W) {row : Option Nat} (hg : W.grownBy W' row) (hr : ∀ r, row = some r → w.heap.size + 1 + 1 + 1 + 1 ≤ r) : FS w pos side p v W' := by
  have hne : ∀ k, k < w.heap.size + 1 + 1 + 1 + 1 → some k ≠ row := fun k hk e => by have := hr k e.symm; omega
  have hs := h.size
  refine ⟨h.below.grown hg h.below.size (fun k e => by have := hr k e; omega), ?_, ?_, ?_, ?_⟩
  · rw [hg.block _ (by omega) (hne _ (by omega))]; exact h.h0
  · rw [hg.block _ (by omega) (hne _ (by omega))]; exact h.h1
  · rw [hg.block _ (by omega) (hne _ (by omega))]; exact h.h2
  · rw [hg.block _ (by omega) (hne _ (by omega))]; exact h.h3
theorem FS.step (h : FS w pos side p v W) (hb : Below W.heap.size W W') : FS w pos side p v W' := h.grown (grown_none hb) (fun r e => by cases e)
theorem FS.cells (h : FS w pos side p v W) : W.cell? ⟨w.heap.size, 0, none⟩ = some (.int .i64 pos) ∧ W.cell? ⟨w.heap.size + 1, 0, none⟩ = some (.int .i64 side) ∧ W.cell? ⟨w.heap.size + 1 + 1 + 1, 0, none⟩ = some (.int .i64 v) ∧ W.frozen? ⟨w.heap.size + 1 + 1 + 1, 0, none⟩ = false := by
  refine ⟨?_, ?_, ?_, ?_⟩
  · simp [World.cell?, h.h0]
  · simp [World.cell?, h.h1]
  · simp [World.cell?, h.h3]
  · simp [World.frozen?, h.h3]
theorem FS.shift (h : FS w pos side p v W) (v' : Int) : FS w pos side p v' (W.setCell ⟨w.heap.size + 1 + 1 + 1, 0, none⟩ (.int .i64 v')) := by
  refine ⟨h.below.setCell (p := ⟨_, 0, none⟩) (by simp only; omega) _, ?_, ?_, ?_, ?_⟩
  · rw [Below.heap_setCell _ _ _ _ (by simp only; omega)]; exact h.h0
  · rw [Below.heap_setCell _ _ _ _ (by simp only; omega)]; exact h.h1
  · rw [Below.heap_setCell _ _ _ _ (by simp only; omega)]; exact h.h2
  · simp [World.setCell, Array.getElem?_modify, h.h3]
theorem FS.put (h : FS w pos side p v W) (q : Pl) : FS w pos side q v (put5 W (w.heap.size + 1 + 1) (.int .i64 q.pos) (.bool q.gone) (.bool q.inside) (.int .i64 q.rng) (.int .i64 q.off)) := by
  refine ⟨put5_below h.below (by omega) _ _ _ _ _, ?_, ?_, ?_, ?_⟩
  · rw [put5_other _ _ _ _ _ _ _ _ (by omega)]; exact h.h0
  · rw [put5_other _ _ _ _ _ _ _ _ (by omega)]; exact h.h1
  · exact put5_same h.h2 _ _ _ _ _
  · rw [put5_other _ _ _ _ _ _ _ _ (by omega)]; exact h.h3
theorem FS.made (w : World) (pos side : Int) (v : Value) : FS w pos side ⟨0, false, false, 0, 0⟩ 0 (((((w.alloc (.cells #[.int .i64 pos] 3)).alloc (.cells #[.int .i64 side] 3)).alloc (.cells #[.int .i64 0, .bool false, .bool false, .int .i64 0, .int .i64 0] 90)).alloc (.cells #[.int .i64 0] 3)).alloc (.cells #[v] 39)) ∧
    Boxed (((((w.alloc (.cells #[.int .i64 pos] 3)).alloc (.cells #[.int .i64 side] 3)).alloc (.cells #[.int .i64 0, .bool false, .bool false, .int .i64 0, .int .i64 0] 90)).alloc (.cells #[.int .i64 0] 3)).alloc (.cells #[v] 39)) (w.heap.size + 1 + 1 + 1 + 1) 39 v := by
  obtain ⟨o0, e0⟩ : ∃ o, o = Obj.cells #[.int .i64 pos] 3 := ⟨_, rfl⟩
  obtain ⟨o1, e1⟩ : ∃ o, o = Obj.cells #[.int .i64 side] 3 := ⟨_, rfl⟩
  obtain ⟨o2, e2⟩ : ∃ o, o = Obj.cells #[.int .i64 0, .bool false, .bool false, .int .i64 0, .int .i64 0] 90 := ⟨_, rfl⟩
  obtain ⟨o3, e3⟩ : ∃ o, o = Obj.cells #[.int .i64 0] 3 := ⟨_, rfl⟩
  obtain ⟨o4, e4⟩ : ∃ o, o = Obj.cells #[v] 39 := ⟨_, rfl⟩
  rw [← e0, ← e1, ← e2, ← e3, ← e4]
  have n1 := heap_alloc_new (w.alloc o0) o1
  have n2 := heap_alloc_new ((w.alloc o0).alloc o1) o2
  have n3 := heap_alloc_new (((w.alloc o0).alloc o1).alloc o2) o3
  have n4 := heap_alloc_new ((((w.alloc o0).alloc o1).alloc o2).alloc o3) o4
  simp only [World.size_alloc] at n1 n2 n3 n4
  refine ⟨⟨(((((Below.refl _ _).alloc (Nat.le_refl _) _).alloc (by simp only [World.size_alloc]; omega) _).alloc (by simp only [World.size_alloc]; omega) _).alloc (by simp only [World.size_alloc]; omega) _).alloc (by simp only [World.size_alloc]; omega) _, ?_, ?_, ?_, ?_⟩, ?_⟩
  · rw [Below.heap_alloc _ _ _ (by simp only [World.size_alloc]; omega), Below.heap_alloc _ _ _ (by simp only [World.size_alloc]; omega), Below.heap_alloc _ _ _ (by simp only [World.size_alloc]; omega), Below.heap_alloc _ _ _ (by simp only [World.size_alloc]; omega), heap_alloc_new, e0]
  · rw [Below.heap_alloc _ _ _ (by simp only [World.size_alloc]; omega), Below.heap_alloc _ _ _ (by simp only [World.size_alloc]; omega), Below.heap_alloc _ _ _ (by simp only [World.size_alloc]; omega), n1, e1]
  · rw [Below.heap_alloc _ _ _ (by simp only [World.size_alloc]; omega), Below.heap_alloc _ _ _ (by simp only [World.size_alloc]; omega), n2, e2]
  · rw [Below.heap_alloc _ _ _ (by simp only [World.size_alloc]; omega), n3, e3]
  · unfold Boxed; rw [n4, e4]
end
theorem ten2 {h : Nat} {W : World} {x0 x1 x2 x3 x4 : Value} {t : TypeId} (e : W.heap[h]? = some (.cells #[x0, x1, x2, x3, x4] t (0, 0))) : W.cell? ⟨h, 0, none⟩ = some x0 ∧ W.cell? ⟨h, 1, none⟩ = some x1 ∧ W.cell? ⟨h, 2, none⟩ = some x2 ∧ W.cell? ⟨h, 3, none⟩ = some x3 ∧ W.cell? ⟨h, 4, none⟩ = some x4 ∧
    W.frozen? ⟨h, 0, none⟩ = false ∧ W.frozen? ⟨h, 1, none⟩ = false ∧ W.frozen? ⟨h, 2, none⟩ = false ∧ W.frozen? ⟨h, 3, none⟩ = false ∧ W.frozen? ⟨h, 4, none⟩ = false := by
  refine ⟨?_, ?_, ?_, ?_, ?_, ?_, ?_, ?_, ?_, ?_⟩
  all_goals first | (simp [World.cell?, e]; done) | (simp [World.frozen?, e]; done) | (simp [World.frozen?, e]; omega)
theorem keeps_put5 (W : World) (B : Nat) (y0 y1 y2 y3 y4 : Value) : KeepsOthers W (put5 W B y0 y1 y2 y3 y4) :=
  ((((KeepsOthers.setCell _ _ _).trans (KeepsOthers.setCell _ _ _)).trans (KeepsOthers.setCell _ _ _)).trans (KeepsOthers.setCell _ _ _)).trans (KeepsOthers.setCell _ _ _)
/-- the ranges gone through are those from the first on -/
def Lead {m : Nat} (pre : List (Ix m)) : Prop := pre.map (·.1) = List.range pre.length
theorem Lead.pre {m : Nat} {pre : List (Ix m)} {k : Nat} {hk : k < m} (h : Lead (pre ++ [(⟨k, hk⟩ : Ix m)])) : Lead pre ∧ k = pre.length := by
  unfold Lead at h ⊢
  rw [List.map_append, List.length_append, List.length_singleton, List.range_succ] at h
  have := List.append_inj h (by simp)
  exact ⟨this.1, by simpa using this.2⟩
theorem Lead.of {m : Nat} {pre : List (Ix m)} {k : Nat} (h : pre.map (·.1) = List.range k) : Lead pre ∧ pre.length = k := by
  have hl : pre.length = k := by have := congrArg List.length h; simpa using this
  exact ⟨by unfold Lead; rw [hl]; exact h, hl⟩

set_option maxRecDepth 100000 in
set_option maxHeartbeats 4000000 in
theorem find_any (l : List Rg) (A : Option Addr) (m c : Nat) (pos side : Int) (w : World) (hok : okTo l m) (hm : m ≤ 100) (hp : 0 ≤ pos ∧ pos ≤ 1099511627776) (hr : RLow w.heap.size w A m l) :
    Calls Try.prog 74 #[.slice A m c, .int .i64 pos, .int .i64 side] w fun e w' => e = .returned (plV (tell l pos side)) ∧ Below w.heap.size w w' := by
  have HL := Lib.hid hr.1
  have HR := Lib.hid hr
  have HOK := Lib.hid hok
  clear hr hok
  refine (callsIn_wide (n := 3)).1 ?_
  refine callsIn_of_wp_marks Try.func74 rfl trivial ?_ rfl
  simp only [Try.ntmps74, List.size_toArray, List.length_cons, List.length_nil, Nat.reduceAdd, Nat.reduceSub, Array.replicate_succ, Array.replicate_zero, List.push_toArray, List.append_toArray, List.nil_append, List.cons_append]
  gi_wp2_with (refine ⟨trivial, ?_⟩; gi_at_call 90; refine (all_in Fence.wide (3 - 1) trivial rfl A m c _).mono ?_; rintro e w' ⟨rfl, rfl⟩)
  have hM := FS.made w pos side (.slice A m c)
  have HFS := Lib.hid hM.1
  have HBX := Lib.hid hM.2
  have hsz : (((((w.alloc (.cells #[.int .i64 pos] 3)).alloc (.cells #[.int .i64 side] 3)).alloc (.cells #[.int .i64 0, .bool false, .bool false, .int .i64 0, .int .i64 0] 90)).alloc (.cells #[.int .i64 0] 3)).alloc (.cells #[.slice A m c] 39)).heap.size = w.heap.size + 1 + 1 + 1 + 1 + 1 := by simp
  have HSZ := Lib.hid hsz
  clear hM hsz
  generalize ((((w.alloc (.cells #[.int .i64 pos] 3)).alloc (.cells #[.int .i64 side] 3)).alloc (.cells #[.int .i64 0, .bool false, .bool false, .int .i64 0, .int .i64 0] 90)).alloc (.cells #[.int .i64 0] 3)).alloc (.cells #[.slice A m c] 39) = W0 at HFS HBX HSZ ⊢
  refine wpIn_rangeFunc_ownH rfl (by omega) (gf := 107) (lb := #[.pointer (some ⟨w.heap.size + 1 + 1 + 1 + 1, 0, none⟩)]) rfl trivial (enters_of Try.func107 (by kernel_rfl) rfl)
    (all_stops (3 - 1) (by omega) (w.heap.size + 1 + 1 + 1 + 1) w.heap.size l A m c W0 HOK.out hm (HR.out.below HFS.out.below (Nat.le_refl _)) HBX.out HFS.out.below.size) KS.trans (KS.put HFS.out.below.size) (Below.refl _ _) (fun _ => rfl)
    (fun pre W => ∃ v, FS w pos side ⟨0, false, false, 0, 0⟩ v W ∧ far v ∧ (Lead pre → v = sh l pre.length ∧ ∀ j, j < pre.length → (rg l j).at_ + (rg l j).old < pos))
    (fun k pre W => k = .ret ∧ ∃ v p, FS w pos side p v W ∧ (Lead pre → p = tell l pos side))
    (by intro pre W W' row hI hg hr; obtain ⟨v, h1, h2⟩ := hI; exact ⟨v, h1.grown hg (fun r e => by have := (hr r e).1; have := HSZ.out; omega), h2⟩)
    (by intro k pre W W' row hI hg hr; obtain ⟨h0, v, p, h1, h2⟩ := hI; exact ⟨h0, v, p, h1.grown hg (fun r e => by have := (hr r e).1; have := HSZ.out; omega), h2⟩)
    ⟨0, HFS.out, by unfold far; omega, fun _ => ⟨rfl, fun j h => absurd h (by simp)⟩⟩
    (fun x a' W => ∃ B, a' = { tmps := #[.slice A m c, .int .i64 pos, .int .i64 side, undef, .pointer (some ⟨w.heap.size, 0, none⟩), .pointer (some ⟨w.heap.size + 1, 0, none⟩), .pointer (some ⟨w.heap.size + 1 + 1, 0, none⟩), .pointer (some ⟨w.heap.size + 1 + 1 + 1, 0, none⟩), .int .i64 (x.1 : Int), .pointer (some ⟨B, 0, none⟩), .slice A m c, .func (.func 107) #[] #[.pointer (some ⟨w.heap.size + 1 + 1 + 1 + 1, 0, none⟩)], .int .i64 (x.1 : Int), shV (rg l x.1) (sh l x.1), undef, undef, undef, undef, undef, undef, undef, undef, undef, undef, undef, undef, undef, undef, undef, undef, undef, undef, undef, undef, undef, undef, undef, undef, undef, undef], defers := [] } ∧ W.heap[B]? = some (.cells #[.int .i64 (rg l x.1).at_, .int .i64 (rg l x.1).old, .int .i64 (rg l x.1).new, .int .i64 (sh l x.1)] 159 (0, 0)))
    (by intro x a' _ W W' row hI hg hr; obtain ⟨B, h1, h2⟩ := hI; exact ⟨B, h1, by rw [hg.block B (lt_some h2) (fun e => by obtain ⟨_, o, ho, hc⟩ := hr B e.symm; rw [h2] at ho; cases ho; cases hc)]; exact h2⟩)
    ?assign ?body ?done ?stop
  case assign =>
    intro L pre x W K hI hK
    have HK := Lib.hid hK
    have hn := heap_alloc_new W (.cells #[.int .i64 (rg l x.1).at_, .int .i64 (rg l x.1).old, .int .i64 (rg l x.1).new, .int .i64 (sh l x.1)] 159)
    have HN := Lib.hid hn
    have HI := Lib.hid hI
    clear hK hn hI
    unfold shV at HK ⊢
    gi_wp2
    obtain ⟨v, h1, h2⟩ := HI.out
    exact HK.out _ _ (KeepsFrom.of_grownBy (World.grownBy_alloc _ _ none) (fun j e => by cases e)) (KS.of_below ((Below.refl _ _).alloc (Nat.le_refl _) _) h1.below.size) ⟨v, h1.step ((Below.refl _ _).alloc (Nat.le_refl _) _), h2⟩ ⟨_, rfl, HN.out⟩
  case body =>
    rintro L pre ⟨k, hk⟩ a' W hL hrec ⟨v, hFS, hfv, hlead⟩ ⟨B, rfl, hx⟩ hlt
    have HF := Lib.hid hFS
    have HX := Lib.hid hx
    have HLD := Lib.hid hlead
    have hf := (HOK.out k hk).1
    have HFI := Lib.hid hf
    have hs := far_sh (HOK.out.mono (by omega) : okTo l k) (by omega)
    have HS := Lib.hid hs
    have HSS := Lib.hid (sh_succ l k)
    obtain ⟨f0, f1, f2, f3⟩ := hFS.cells
    have x0 : W.cell? ⟨B, 0, none⟩ = some (.int .i64 (rg l k).at_) := by simp [World.cell?, hx]
    have x1 : W.cell? ⟨B, 1, none⟩ = some (.int .i64 (rg l k).old) := by simp [World.cell?, hx]
    have x2 : W.cell? ⟨B, 2, none⟩ = some (.int .i64 (rg l k).new) := by simp [World.cell?, hx]
    have x3 : W.cell? ⟨B, 3, none⟩ = some (.int .i64 (sh l k)) := by simp [World.cell?, hx]
    dsimp only at hx ⊢
    clear hFS hx hlead
    have hsW : w.heap.size + 1 + 1 + 1 + 1 ≤ W.heap.size := HF.out.size
    obtain ⟨r, hrg⟩ : ∃ r, rg l k = r := ⟨_, rfl⟩
    obtain ⟨z, hzs⟩ : ∃ z, sh l k = z := ⟨_, rfl⟩
    rw [hrg] at HFI hf x0 x1 x2 HX HSS ⊢
    rw [hzs] at HS hs x3 HX HSS ⊢
    have hRG := Lib.hid hrg
    have hZS := Lib.hid hzs
    clear hrg hzs
    obtain ⟨a, o, n⟩ := r
    unfold shV
    unfold Rg.fits at hf
    unfold far at hs hfv
    simp only at x0 x1 x2 x3 hf
    gi_wp2
    have CE := fun W => end_any ⟨a, o, n⟩ z HFI.out W
    have CB := fun W => behind_any ⟨a, o, n⟩ z HFI.out HS.out W
    have CT := fun W => tell_any ⟨a, o, n⟩ z pos side k HFI.out HS.out (by omega) hp W
    unfold shV shO at CE CB
    unfold shV at CT
    simp only at CE CB
    refine region_round (S := fun W' => (W'.cell? ⟨B, 0, none⟩ = some (.int .i64 a) ∧ W'.cell? ⟨B, 1, none⟩ = some (.int .i64 o) ∧ W'.cell? ⟨B, 2, none⟩ = some (.int .i64 n) ∧ W'.cell? ⟨B, 3, none⟩ = some (.int .i64 z)) ∧ W'.cell? ⟨w.heap.size, 0, none⟩ = some (.int .i64 pos)) (by kernel_rfl) (by rfl) (by rintro ⟨_, _, h⟩; exact h) ⟨⟨x0, x1, x2, x3⟩, f0⟩ (fun hHeld => ?_)
    have HB0 : Hid (Below W.heap.size W W.drew) := Lib.hid (below_drewN (Below.refl _ _) 1)
    generalize W.drew = W1 at hHeld HB0 ⊢
    refine tk 0 (v := ?_) rfl (by kernel_rfl) (fun _ _ _ h => h) ?_ hHeld ?_
    rotate_left
    · (intro W hSw; (try dsimp only at hSw); go_simp; try with_reducible rfl)
    refine tk 2 (v := ?_) rfl (by kernel_rfl) (fun _ _ _ h => h) ?_ hHeld ?_
    rotate_left
    · (intro W hSw; (try dsimp only at hSw); go_simp; try with_reducible rfl)
    refine wpAnyH_ready (rs := [1]) (by kernel_rfl) (by simp) ?_
    refine AllReadyH.cons rfl (fun K hK => ?_) AllReadyH.nil
    go_simp
    refine (CE _).mono ?_
    rintro e W2 ⟨rfl, hw2⟩
    have HB2 : Hid (Below W.heap.size W W2) := Lib.hid (by rw [hw2]; exact HB0.out.alloc HB0.out.size _)
    have HX2 : Hid (W2.heap[B]? = some (.cells #[.int .i64 a, .int .i64 o, .int .i64 n, .int .i64 z] 159 (0, 0))) := Lib.hid (by rw [HB2.out.block _ (lt_some HX.out)]; exact HX.out)
    have HF2 := Lib.hid (HF.out.step HB2.out)
    have HS2 : Hid ((W2.cell? ⟨B, 0, none⟩ = some (.int .i64 a) ∧ W2.cell? ⟨B, 1, none⟩ = some (.int .i64 o) ∧ W2.cell? ⟨B, 2, none⟩ = some (.int .i64 n) ∧ W2.cell? ⟨B, 3, none⟩ = some (.int .i64 z)) ∧ W2.cell? ⟨w.heap.size, 0, none⟩ = some (.int .i64 pos)) :=
      Lib.hid ⟨⟨by simp [World.cell?, HX2.out], by simp [World.cell?, HX2.out], by simp [World.cell?, HX2.out], by simp [World.cell?, HX2.out]⟩, HF2.out.cells.1⟩
    clear hw2 HB0 hHeld f0 f1 f2 f3 x0 x1 x2 x3 HF HX
    go_wp2_with fail
    refine hK.out _ _ HS2.out (fun hHeld => ?_)
    clear hK K
    refine tk 3 (v := ?_) rfl (by kernel_rfl) (fun _ _ _ h => h) ?_ hHeld ?_
    rotate_left
    · (intro W hSw; (try dsimp only at hSw); go_simp; try with_reducible rfl)
    refine tk 4 (v := ?_) rfl (by kernel_rfl) (fun _ _ _ h => h) ?_ hHeld ?_
    rotate_left
    · (intro W hSw; (try dsimp only at hSw); go_simp; try with_reducible rfl)
    refine wpAnyH_done (by kernel_rfl) ?_ _
    clear hHeld
    have hc := HF2.out.cells
    have f0 := hc.1
    have f1 := hc.2.1
    have f2 := hc.2.2.1
    have f3 := hc.2.2.2
    clear hc
    have hc := HS2.out.1
    have x0 := hc.1
    have x1 := hc.2.1
    have x2 := hc.2.2.1
    have x3 := hc.2.2.2
    clear hc
    by_cases hlow : a + o < pos
    · have hd : decide (a + o < pos) = true := decide_eq_true hlow
      have ew : z + n - o = sh l (k + 1) := HSS.out.symm
      have HS1 := Lib.hid (far_sh (HOK.out.mono (by omega) : okTo l (k + 1)) (by omega))
      clear f0 f1 f2 f3
      gi_wp2_with (refine ⟨trivial, ?_⟩; gi_at_call 92; refine (CallsIn.inRound L (callsIn_wide.2 (CB _))).mono ?_; rintro e W3 ⟨rfl, hw3⟩; have HB3 := Lib.hid (show Below W2.heap.size W2 W3 by rw [hw3]; exact (Below.refl _ _).alloc (Nat.le_refl _) _); clear hw3; have HF3 := Lib.hid (HF2.out.step HB3.out); have hc := HF3.out.cells; have f2 := hc.2.2.1; have f3 := hc.2.2.2; clear hc)
      have hw : w.heap.size ≤ W.heap.size := by have := hsW; omega
      have hkeep : KeepsFrom W0.heap.size W (W3.setCell ⟨w.heap.size + 1 + 1 + 1, 0, none⟩ (.int .i64 (sh l (k + 1)))) := (KeepsFrom.of_grownBy (grown_none (HB2.out.trans (HB3.out.mono HB2.out.size))) (fun j e => by cases e)).trans ((KeepsOthers.setCell _ _ _).from _)
      refine ⟨hkeep, ((KS.of_below HB2.out hw).trans (KS.of_below HB3.out (by have := HB2.out.size; omega))).trans (KS.set HF3.out.h3 (by decide) (by omega) 0 _), sh l (k + 1), HF3.out.shift _, HS1.out, fun hl => ?_⟩
      obtain ⟨hl1, hl2⟩ := Lead.pre hl
      obtain ⟨e1, e2⟩ := HLD.out hl1
      rw [List.length_append, List.length_singleton, ← hl2]
      refine ⟨rfl, fun j hj => ?_⟩
      rcases Nat.lt_succ_iff_lt_or_eq.1 hj with h1 | rfl
      · exact e2 j (by omega)
      · rw [hRG.out]; exact hlow
    · have hd : decide (a + o < pos) = false := decide_eq_false hlow
      have hc := ten2 HF2.out.h2
      have p0 := hc.1
      have p1 := hc.2.1
      have p2 := hc.2.2.1
      have p3 := hc.2.2.2.1
      have p4 := hc.2.2.2.2.1
      have g0 := hc.2.2.2.2.2.1
      have g1 := hc.2.2.2.2.2.2.1
      have g2 := hc.2.2.2.2.2.2.2.1
      have g3 := hc.2.2.2.2.2.2.2.2.1
      have g4 := hc.2.2.2.2.2.2.2.2.2
      clear hc
      simp only at p0 p1 p2 p3 p4
      by_cases hat : a > pos
      · have ew : IntKind.i64.wrap (pos + v) = pos + v := IntWalk.i64_in _ (by omega)
        gi_wp2_with fail
        refine ⟨(KeepsFrom.of_grownBy (grown_none HB2.out) (fun j e => by cases e)).trans ((keeps_put5 W2 (w.heap.size + 1 + 1) (.int .i64 (pos + v)) (.bool false) (.bool false) (.int .i64 0) (.int .i64 0)).from _), rfl, v, ⟨pos + v, false, false, 0, 0⟩, HF2.out.put ⟨pos + v, false, false, 0, 0⟩, fun hl => ?_⟩
        obtain ⟨hl1, hl2⟩ := Lead.pre hl
        obtain ⟨e1, e2⟩ := HLD.out hl1
        rw [tell_eq (i := k) (by rw [HL.out]; omega) (by rw [hl2]; exact e2) (fun _ => by rw [hRG.out]; simp only; omega), tellAt, if_pos (.inr (by rw [hRG.out]; exact hat)), e1, hl2]
      · clear p0 p1 p2 p3 p4 g0 g1 g2 g3 g4
        gi_wp2_with (refine ⟨trivial, ?_⟩; gi_at_call 93; refine (CallsIn.inRound L (callsIn_wide.2 (CT _))).mono ?_; rintro e W3 ⟨rfl, hb3⟩; have HF3 := Lib.hid (HF2.out.step hb3); have HB3 := Lib.hid (HB2.out.trans (hb3.mono HB2.out.size)); clear hb3; have hc := ten2 HF3.out.h2; have p0 := hc.1; have p1 := hc.2.1; have p2 := hc.2.2.1; have p3 := hc.2.2.2.1; have p4 := hc.2.2.2.2.1; have g0 := hc.2.2.2.2.2.1; have g1 := hc.2.2.2.2.2.2.1; have g2 := hc.2.2.2.2.2.2.2.1; have g3 := hc.2.2.2.2.2.2.2.2.1; have g4 := hc.2.2.2.2.2.2.2.2.2; clear hc; unfold plV)
        refine ⟨(KeepsFrom.of_grownBy (grown_none HB3.out) (fun j e => by cases e)).trans ((keeps_put5 W3 (w.heap.size + 1 + 1) _ _ _ _ _).from _), rfl, v, tellR ⟨a, o, n⟩ z k pos side, HF3.out.put (tellR ⟨a, o, n⟩ z k pos side), fun hl => ?_⟩
        obtain ⟨hl1, hl2⟩ := Lead.pre hl
        obtain ⟨e1, e2⟩ := HLD.out hl1
        rw [tell_eq (i := k) (by rw [HL.out]; omega) (by rw [hl2]; exact e2) (fun _ => by rw [hRG.out]; simp only; omega), tellAt, if_neg (by rw [hRG.out, HL.out]; simp only; omega), hRG.out, hZS.out]
  case done =>
    rintro D' ys W hD hys ⟨v, hFS, hfv, hlead⟩ hK
    obtain ⟨hl1, hl2⟩ := Lead.of hys
    obtain ⟨e1, e2⟩ := hlead hl1
    rw [hl2] at e1 e2
    have hT : tell l pos side = ⟨pos + v, false, false, 0, 0⟩ := by
      rw [tell_eq (i := m) (by rw [HL.out]; exact Nat.le_refl _) e2 (fun h => by rw [HL.out] at h; omega), tellAt, if_pos (.inl HL.out.symm), e1]
    have HT := Lib.hid hT
    unfold far at hfv
    clear e1 e2 hT hl1 hl2 hlead hys
    have hc := hFS.cells
    have f0 := hc.1
    have f1 := hc.2.1
    have f2 := hc.2.2.1
    have f3 := hc.2.2.2
    clear hc
    have hc := ten2 hFS.h2
    have p0 := hc.1
    have p1 := hc.2.1
    have p2 := hc.2.2.1
    have p3 := hc.2.2.2.1
    have p4 := hc.2.2.2.2.1
    have g0 := hc.2.2.2.2.2.1
    have g1 := hc.2.2.2.2.2.2.1
    have g2 := hc.2.2.2.2.2.2.2.1
    have g3 := hc.2.2.2.2.2.2.2.2.1
    have g4 := hc.2.2.2.2.2.2.2.2.2
    clear hc
    try simp only at p0 p1 p2 p3 p4
    gi_wp2
    have hK' := (keeps_put5 W (w.heap.size + 1 + 1) (.int .i64 (pos + v)) (.bool false) (.bool false) (.int .i64 0) (.int .i64 0)).same D' _ hK rfl
    refine ⟨by simp, .inl ⟨_, _, rfl, run_takeDeferred hK', ?_⟩⟩
    have hF5 := (hFS.put ⟨pos + v, false, false, 0, 0⟩).grown (grownBy_putObj' _ D' (.deferred none)) (fun r e => by cases e; have := HSZ.out; omega)
    have hF := five hF5.h2
    refine ⟨plV ⟨pos + v, false, false, 0, 0⟩, ?_, ?_, hF5.below⟩
    · unfold put5 at hF
      simp only at hF
      simp [results, Try.f74, go_sem, hF.1, hF.2.1, hF.2.2.1, hF.2.2.2.1, hF.2.2.2.2, plV]
    · rw [HT.out]
  case stop =>
    rintro D' c pre W hD ⟨k, hk, hpre⟩ ⟨rfl, v, q, hFS, hq⟩ hK
    gi_wp2
    refine ⟨by simp, .inl ⟨_, _, rfl, run_takeDeferred hK, ?_⟩⟩
    have hF5 := hFS.grown (grownBy_putObj' _ D' (.deferred none)) (fun r e => by cases e; have := HSZ.out; omega)
    have hF := five hF5.h2
    refine ⟨plV q, ?_, by rw [hq (Lead.of hpre).1], hF5.below⟩
    simp [results, Try.f74, go_sem, hF.1, hF.2.1, hF.2.2.1, hF.2.2.2.1, hF.2.2.2.2, plV]
end Go.Proofs.Ytgodphfkhmahnaa.Sm
