/- Walk of the law of routes: fill. -/
import Derived.Test.YtnffgomgfabapaaRtR
import Derived.Test.YtnffgomgfabapaaRtN
namespace Go.Proofs.Ytnffgomgfabapaa.Rt
open Go.RowKit Mem Sm
set_option linter.unusedVariables false

/-- what holds between the maps: the program's route, the reference's, and what they have in common -/
structure FS (w W : World) (i : Nat) (v mp mv ov : Value) (vs vs2 : List Value) (M : List (List Rg)) (O : List Int) (mir : List (Int × Int)) : Prop where
  rt : RtAt (w.heap.size + 1) W (w.heap.size + 1) v mp vs M mir
  xt : XAt w.heap.size w.heap.size W mv ov vs2 M O
  apart : ∀ g, blkOf mv = some g → rowOf W (w.heap.size + 1) ≠ some g
  rel : Rel M O mir
  right : ∀ m ∈ M, m.length ≤ 20 ∧ rightB m = true
  len : M.length ≤ i
  below : Below w.heap.size w W
  x6 : W.heap[w.heap.size + 2]? = some (.cells #[mv, ov] 44 (0, 0))
  x3 : W.heap[w.heap.size]? = some (.cells #[.slice none 0 0, .slice none 0 0] 44 (0, 0))
section
variable {w W W' : World} {i n1 base p : Nat} {v mp mv ov v' mp' mv' ov' : Value} {vs vs2 vs' vs2' : List Value} {M M' : List (List Rg)} {O O' : List Int} {mir mir' : List (Int × Int)} {m : List Rg}
theorem FS.size (h : FS w W i v mp mv ov vs vs2 M O mir) : w.heap.size + 3 ≤ W.heap.size := by have := lt_some h.x6; omega
theorem FS.step (h : FS w W i v mp mv ov vs vs2 M O mir) (hb : Below W.heap.size W W') : FS w W' i v mp mv ov vs vs2 M O mir := by
  have hs := h.size
  exact ⟨h.rt.step hb, h.xt.step hb (by omega), fun g e => by rw [rowOf_same (hb.block _ (lt_some h.rt.h0))]; exact h.apart g e, h.rel, h.right, h.len, h.below.trans (hb.mono (by omega)), by rw [hb.block _ (lt_some h.x6)]; exact h.x6, by rw [hb.block _ (lt_some h.x3)]; exact h.x3⟩
theorem FS.more (h : FS w W i v mp mv ov vs vs2 M O mir) : FS w W (i + 1) v mp mv ov vs vs2 M O mir := ⟨h.rt, h.xt, h.apart, h.rel, h.right, by have := h.len; omega, h.below, h.x6, h.x3⟩
/-- the program's route has changed, the reference's not yet -/
structure FT (w W : World) (i : Nat) (v mp mv ov : Value) (vs vs2 : List Value) (M M' : List (List Rg)) (O : List Int) (mir : List (Int × Int)) : Prop where
  rt : RtAt (w.heap.size + 1) W (w.heap.size + 1) v mp vs M' mir
  xt : XAt w.heap.size w.heap.size W mv ov vs2 M O
  apart : ∀ g, blkOf mv = some g → rowOf W (w.heap.size + 1) ≠ some g
  below : Below w.heap.size w W
  x6 : W.heap[w.heap.size + 2]? = some (.cells #[mv, ov] 44 (0, 0))
  x3 : W.heap[w.heap.size]? = some (.cells #[.slice none 0 0, .slice none 0 0] 44 (0, 0))
theorem FS.turn (h : FS w W i v mp mv ov vs vs2 M O mir) (hf : RtF (w.heap.size + 1) (w.heap.size + 1) W W') (hr : RtAt (w.heap.size + 1) W' (w.heap.size + 1) v' mp' vs' M' mir') : FT w W' i v' mp' mv ov vs' vs2 M M' O mir' := by
  have hp := lt_some h.rt.h0
  refine ⟨hr, h.xt.rtf h.rt hf h.apart (by omega), fun g e e' => ?_, h.below.trans (hf.below.mono (by omega)), hf.keep _ _ _ _ h.x6 (by decide) (by omega), hf.keep _ _ _ _ h.x3 (by decide) (by omega)⟩
  rcases hf.fresh hp g e' with q | q
  · exact h.apart g e q
  · have := (own_young h.xt.mrow g e).1; omega
theorem FT.step (h : FT w W i v mp mv ov vs vs2 M M' O mir) (hb : Below W.heap.size W W') : FT w W' i v mp mv ov vs vs2 M M' O mir := by
  have hs := lt_some h.x6
  exact ⟨h.rt.step hb, h.xt.step hb (by omega), fun g e => by rw [rowOf_same (hb.block _ (lt_some h.rt.h0))]; exact h.apart g e, h.below.trans (hb.mono (by omega)), by rw [hb.block _ (lt_some h.x6)]; exact h.x6, by rw [hb.block _ (lt_some h.x3)]; exact h.x3⟩
/-- the reference's route is stored -/
theorem FT.store (h : FT w W i v mp mv ov vs vs2 M M' O mir) (h0 : XAt w.heap.size n1 W mv' ov' vs2' M' O') (hn : w.heap.size ≤ n1) (hg : ∀ g, blkOf mv' = some g → rowOf W (w.heap.size + 1) ≠ some g) (hrel : Rel M' O' mir) (hm : ∀ m ∈ M', m.length ≤ 20 ∧ rightB m = true) (hl : M'.length ≤ i + 1) :
    FS w ((W.setCell ⟨w.heap.size + 2, 0, none⟩ mv').setCell ⟨w.heap.size + 2, 1, none⟩ ov') (i + 1) v mp mv' ov' vs vs2' M' O' mir :=
  ⟨h.rt.put2 h.x6 _ _, ⟨own_lower (h0.put2 h.x6 (by omega) _ _).mrow hn, (h0.put2 h.x6 (by omega) _ _).each, own_lower (h0.put2 h.x6 (by omega) _ _).orow hn⟩, fun g e => by rw [rowOf_put2 h.x6 h.rt]; exact hg g e, hrel, hm, hl, put2_below h.below (by omega) _ _, put2_at h.x6 _ _, by rw [put2_else _ _ _ _ _ (by omega)]; exact h.x3⟩
/-- the reference's route stays -/
theorem FT.same (h : FT w W i v mp mv ov vs vs2 M M O mir) (hrel : Rel M O mir) (hm : ∀ m ∈ M, m.length ≤ 20 ∧ rightB m = true) (hl : M.length ≤ i + 1) : FS w W (i + 1) v mp mv ov vs vs2 M O mir :=
  ⟨h.rt, h.xt, h.apart, hrel, hm, hl, h.below, h.x6, h.x3⟩
theorem row_young (h : RtAt base W p v mp vs M mir) : ∀ g, rowOf W p = some g → g < W.heap.size := fun g e => by
  rw [rowOf_at h, own_blk h.row] at e; exact (own_young h.row g e).1
end
/-- both routes at the end -/
structure FE (w W : World) (p : Nat) (v mp mv ov : Value) (vs vs2 : List Value) (M : List (List Rg)) (O : List Int) (mir : List (Int × Int)) : Prop where
  rt : RtAt p W p v mp vs M mir
  xt : XAt w.heap.size w.heap.size W mv ov vs2 M O
  apart : ∀ g, blkOf mv = some g → rowOf W p ≠ some g
  rel : Rel M O mir
  right : ∀ m ∈ M, m.length ≤ 20 ∧ rightB m = true
  len : M.length ≤ 30
  below : Below w.heap.size w W
  hp : w.heap.size < p
theorem FE.step {w W W' : World} {p : Nat} {v mp mv ov : Value} {vs vs2 : List Value} {M : List (List Rg)} {O : List Int} {mir : List (Int × Int)} (h : FE w W p v mp mv ov vs vs2 M O mir) (hb : Below W.heap.size W W') : FE w W' p v mp mv ov vs vs2 M O mir := by
  have hs := h.below.size
  exact ⟨h.rt.step hb, h.xt.step hb hs, fun g e => by rw [rowOf_same (hb.block _ (lt_some h.rt.h0))]; exact h.apart g e, h.rel, h.right, h.len, h.below.trans (hb.mono hs), h.hp⟩
theorem FS.done {w W : World} {i : Nat} {v mp mv ov : Value} {vs vs2 : List Value} {M : List (List Rg)} {O : List Int} {mir : List (Int × Int)} (h : FS w W i v mp mv ov vs vs2 M O mir) (hi : i ≤ 30) (y0 y1 : Value) :
    FE w ((W.setCell ⟨w.heap.size, 0, none⟩ y0).setCell ⟨w.heap.size, 1, none⟩ y1) (w.heap.size + 1) v mp mv ov vs vs2 M O mir :=
  ⟨h.rt.put2 h.x3 _ _, h.xt.put2 h.x3 (Nat.le_refl _) _ _, fun g e => by rw [rowOf_put2 h.x3 h.rt]; exact h.apart g e, h.rel, h.right, by have := h.len; omega, put2_below h.below (Nat.le_refl _) _ _, by omega⟩
/-- what the maps are put into, and how it ended: as the reference says -/
def FillIs (w : World) (e : Ending) (w' : World) : Prop := ∃ (p : Nat) (v mp mv ov : Value) (vs vs2 : List Value) (M : List (List Rg)) (O : List Int) (mir : List (Int × Int)),
  e = .returned (.tuple #[.pointer (some ⟨p, 0, none⟩), .agg #[mv, ov], .bool true]) ∧ FE w w' p v mp mv ov vs vs2 M O mir
/-- what has become of the program's route, and the error's number -/
def Step1 (w W : World) (i : Nat) (mv ov : Value) (vs2 : List Value) (M : List (List Rg)) (O : List Int) (mir : List (Int × Int)) (m : List Rg) (of of' ec : Int) : Prop :=
  (rightB m = true ∧ of < 0 ∧ of' = -1 ∧ ec = 0 ∧ ∃ v mp vs, FT w W i v mp mv ov vs vs2 M (M ++ [m]) O mir) ∨
  (rightB m = true ∧ (0 ≤ of ∧ lk mir of = none ∧ of < M.length) ∧ of' = of ∧ ec = 0 ∧ ∃ v mp vs, FT w W i v mp mv ov vs vs2 M (M ++ [m]) O (mir ++ [(of, (M.length : Int))] ++ [((M.length : Int), of)])) ∨
  (rightB m = true ∧ 0 ≤ of ∧ ¬ (lk mir of = none ∧ 0 ≤ of ∧ of < M.length) ∧ of' = of ∧ ec = 6 ∧ ∃ v mp vs, FT w W i v mp mv ov vs vs2 M M O mir) ∨
  (rightB m = false ∧ ec = 1 ∧ of' = (if 0 ≤ of then of else -1) ∧ ∃ v mp vs, FT w W i v mp mv ov vs vs2 M M O mir)
set_option maxRecDepth 100000 in
set_option maxHeartbeats 8000000 in
theorem fill_any (A : Option Addr) (n c : Nat) (l : List Mi) (w : World) (hr : MLow w.heap.size w A n l) (hf : fewP l) :
    Calls Try.prog 17 #[.slice A n c] w (FillIs w) := by
  have HR := Lib.hid hr
  have HL := Lib.hid hr.1
  have HF := Lib.hid hf
  have hn30 : n ≤ 30 := by have := hf.1; have := hr.1; omega
  clear hr hf
  have HFS : Hid (FS w (((w.alloc (.cells #[.slice none 0 0, .slice none 0 0] 44)).alloc (.cells #[.slice none 0 0, .map none] 60)).alloc (.cells #[.slice none 0 0, .slice none 0 0] 44)) 0 (.slice none 0 0) (.map none) (.slice none 0 0) (.slice none 0 0) [] [] [] [] []) := Lib.hid (by
    have s1 : (w.alloc (.cells #[.slice none 0 0, .slice none 0 0] 44)).heap.size = w.heap.size + 1 := by simp
    have hn2 := RtAt.new (w.alloc (.cells #[.slice none 0 0, .slice none 0 0] 44))
    have hn3 := heap_alloc_new ((w.alloc (.cells #[.slice none 0 0, .slice none 0 0] 44)).alloc (.cells #[.slice none 0 0, .map none] 60)) (.cells #[.slice none 0 0, .slice none 0 0] 44)
    rw [show ((w.alloc (.cells #[.slice none 0 0, .slice none 0 0] 44)).alloc (.cells #[.slice none 0 0, .map none] 60)).heap.size = w.heap.size + 2 by simp] at hn3
    rw [s1] at hn2
    refine ⟨hn2.step ((Below.refl _ _).alloc (Nat.le_refl _) _), XAt.nil _ _ _, (fun g e => by cases e), Rel.nil, (fun m hm => by simp at hm), Nat.le_refl _, (((Below.refl _ _).alloc (Nat.le_refl _) _).alloc (by simp) _).alloc (by simp; omega) _, hn3, ?_⟩
    rw [Below.heap_alloc _ _ _ (by simp; omega), Below.heap_alloc _ _ _ (by simp), heap_alloc_new])
  go_enter Try.func17, Try.ntmps17
  go_wp2_with fail
  go_loopw [7] (fun iv wr => ∃ (i : Nat) (v mp mv ov : Value) (vs vs2 : List Value) (M : List (List Rg)) (O : List Int) (mir : List (Int × Int)), iv = .int .i64 i ∧ i ≤ n ∧ Hid (FS w wr i v mp mv ov vs vs2 M O mir)) (fun iv _ => n - (intOf iv).toNat)
  case atStart => exact ⟨0, _, _, _, _, _, _, _, _, _, rfl, by omega, HFS⟩
  case round =>
    obtain ⟨i, v, mp, mv, ov, vs, vs2, M, O, mir, rfl, hi, HS⟩ := hrel
    by_cases hlt : i < n
    · have hil : i < l.length := by rw [← HL.out]; exact hlt
      have hlm := HF.out.2 i hil
      have hM30 : M.length ≤ 30 := by have := HS.out.len; omega
      obtain ⟨b, off, rfl, hb, hc⟩ := HR.out.2 (by omega)
      have hci0 := hc i hlt
      generalize mi l i = x at hlm hci0
      have hci := hci0.below HS.out.below (Nat.le_refl _) hb
      have HCI := Lib.hid hci0
      clear hci0
      obtain ⟨m, of⟩ := x
      obtain ⟨Ai, ci, c0, c1, hrow⟩ := hci
      simp only at hlm c0 c1 hrow
      have HREL := Lib.hid HS.out.rel
      have HRGT := Lib.hid HS.out.right
      have HLEN := Lib.hid HS.out.len
      have HRI := Lib.hid hrow
      clear hc hrow
      have d1 : decide ((i : Int) < (n : Int)) = true := decide_eq_true (by omega)
      have i1 : (0 : Int) ≤ (i : Int) := by omega
      have i2 : (i : Int) < (n : Int) := by omega
      go_upto_if 25 with fail
      go_cut [8, 10] from 25 to 81 (fun v8 v10 wx => ∃ of' ec : Int, v8 = .int .i64 of' ∧ v10 = .int .i64 ec ∧ Hid (Step1 w wx i mv ov vs2 M O mir m of of' ec))
      case first =>
        by_cases h0 : 0 ≤ of
        · have hd0 : decide (of ≥ 0) = true := decide_eq_true h0
          have hgd : decide (0 ≤ of) = true := decide_eq_true h0
          have hfr : ¬ of < 0 := by omega
          go_upto_region 10 with fail
          have hS : wr.drew.cell? ⟨b, off + i * 2, none⟩ = some (.slice Ai m.length ci) ∧ wr.drew.cell? ⟨b, off + i * 2 + 1, none⟩ = some (.int .i64 of) := ⟨c0, c1⟩
          have HS5 : Hid (FS w wr.drew i v mp mv ov vs vs2 M O mir) := Lib.hid (HS.out.step (below_drewN (Below.refl _ _) 1))
          have HRI5 : Hid (RLow w.heap.size wr.drew Ai m.length m) := HRI
          refine wp_region_held_drew (S := fun W => W.cell? ⟨b, off + i * 2, none⟩ = some (.slice Ai m.length ci) ∧ W.cell? ⟨b, off + i * 2 + 1, none⟩ = some (.int .i64 of)) (by kernel_rfl) hS (fun hHeld => ?_)
          clear hS HS HRI c0 c1
          generalize wr.drew = W5 at HS5 HRI5 hHeld ⊢
          refine tk 0 (v := ?_) rfl (by kernel_rfl) (fun _ _ _ h => h) ?_ hHeld ?_
          rotate_left
          · (intro W hSw; (try dsimp only at hSw); go_simp; try with_reducible rfl)
          refine tk 1 (v := ?_) rfl (by kernel_rfl) (fun _ _ _ h => h) ?_ hHeld ?_
          rotate_left
          · (intro W hSw; (try dsimp only at hSw); go_simp; try with_reducible rfl)
          refine tk 2 (v := ?_) rfl (by kernel_rfl) (fun _ _ _ h => h) ?_ hHeld ?_
          rotate_left
          · (intro W hSw; (try dsimp only at hSw); go_simp; try with_reducible rfl)
          refine tk 3 (v := ?_) rfl (by kernel_rfl) (fun _ _ _ h => h) ?_ hHeld ?_
          rotate_left
          · (intro W hSw; (try dsimp only at hSw); go_simp; try with_reducible rfl)
          refine tk 4 (v := ?_) rfl (by kernel_rfl) (fun _ _ _ h => h) ?_ hHeld ?_
          rotate_left
          · (intro W hSw; (try dsimp only at hSw); go_simp; try with_reducible rfl)
          refine tk 5 (v := ?_) rfl (by kernel_rfl) (fun _ _ _ h => h) ?_ hHeld ?_
          rotate_left
          · (intro W hSw; (try dsimp only at hSw); go_simp; try with_reducible rfl)
          refine tk 6 (v := ?_) rfl (by kernel_rfl) (fun _ _ _ h => h) ?_ hHeld ?_
          rotate_left
          · (intro W hSw; (try dsimp only at hSw); go_simp; try with_reducible rfl)
          refine tk 7 (v := ?_) rfl (by kernel_rfl) (fun _ _ _ h => h) ?_ hHeld ?_
          rotate_left
          · (intro W hSw; (try dsimp only at hSw); go_simp; try with_reducible rfl)
          refine tk 8 (v := ?_) rfl (by kernel_rfl) (fun _ _ _ h => h) ?_ hHeld ?_
          rotate_left
          · (intro W hSw; (try dsimp only at hSw); go_simp; try with_reducible rfl)
          refine tk 9 (v := ?_) rfl (by kernel_rfl) (fun _ _ _ h => h) ?_ hHeld ?_
          rotate_left
          · (intro W hSw; (try dsimp only at hSw); go_simp; try with_reducible rfl)
          refine tk 10 (v := ?_) rfl (by kernel_rfl) (fun _ _ _ h => h) ?_ hHeld ?_
          rotate_left
          · (intro W hSw; (try dsimp only at hSw); go_simp; try with_reducible rfl)
          refine wpAnyH_ready (rs := [11]) (by kernel_rfl) (by simp) ?_
          refine AllReadyH.cons rfl (fun K hK => ?_) AllReadyH.nil
          go_simp
          refine (mirror_any _ _ v mp vs M mir m of Ai m.length ci W5 (by omega) (by omega) (fun q hq => (HS5.out.rel.bound q hq).1.2) HS5.out.rt (fun W' hf' => row_low (HRI5.out.below hf'.below (by omega)) (by have := hf'.size; have := HS5.out.size; omega))).mono ?_
          rintro e W6 hM
          have hfr6 := hM.2
          have hlow : ∀ o u, W5.cell? ⟨b, o, none⟩ = some u → W6.cell? ⟨b, o, none⟩ = some u := fun o u h => by
            have := hfr6.low b (by omega)
            simp only [World.cell?, this] at h ⊢; exact h
          have hS6 : W6.cell? ⟨b, off + i * 2, none⟩ = some (.slice Ai m.length ci) ∧ W6.cell? ⟨b, off + i * 2 + 1, none⟩ = some (.int .i64 of) := ⟨hlow _ _ hHeld.1, hlow _ _ hHeld.2⟩
          obtain ⟨ec, he, hs1⟩ : ∃ ec, e = .returned (.int .i64 ec) ∧ Step1 w W6 i mv ov vs2 M O mir m of of ec := by
            rcases hM.1 with ⟨hr, hl, e1, v6, mp6, vs6, h6⟩ | ⟨hr, hno, e1, h6⟩ | ⟨hr, e1, h6⟩
            · exact ⟨0, e1, .inr (.inl ⟨hr, ⟨hl.2.1, hl.1, hl.2.2⟩, rfl, rfl, _, _, _, HS5.out.turn hfr6 h6⟩)⟩
            · exact ⟨6, e1, .inr (.inr (.inl ⟨hr, h0, hno, rfl, rfl, _, _, _, HS5.out.turn hfr6 h6⟩))⟩
            · exact ⟨1, e1, .inr (.inr (.inr ⟨hr, rfl, by rw [if_pos h0], _, _, _, HS5.out.turn hfr6 h6⟩))⟩
          subst he
          have HS1 := Lib.hid hs1
          clear hM hs1 hlow hfr6 HS5 HRI5 hHeld
          go_wp2_with fail
          refine hK.out _ _ hS6 (fun hHeld => ?_)
          clear hK K
          refine wpAnyH_ready (rs := [12]) (by kernel_rfl) (by simp) ?_
          refine AllReadyH.cons rfl (fun K hK => ?_) AllReadyH.nil
          go_simp
          refine hK.out _ _ hS6 (fun hHeld => ?_)
          clear hK K hHeld
          refine wpAnyH_done (by kernel_rfl) ?_ _
          obtain ⟨c06, c16⟩ := hS6
          go_wp2_with fail
          go_meet
          exact ⟨_, _, rfl, rfl, HS1⟩
        · have hd0 : decide (of ≥ 0) = false := decide_eq_false h0
          have hgd : decide (0 ≤ of) = false := decide_eq_false h0
          have hneg : of < 0 := by omega
          have CA := add_any _ _ v mp vs M mir m Ai m.length ci wr (by omega) (by omega) HS.out.rt (row_low HRI.out HS.out.below.size)
          go_wp2_with fail
          refine CA.mono ?_
          rintro e W6 hM
          have hfr6 := hM.2
          obtain ⟨ec, he, hs1⟩ : ∃ ec, e = .returned (.int .i64 ec) ∧ Step1 w W6 i mv ov vs2 M O mir m of (-1) ec := by
            rcases hM.1 with ⟨hr, e1, v6, vs6, h6⟩ | ⟨hr, e1, h6⟩
            · exact ⟨0, e1, .inl ⟨hr, hneg, rfl, rfl, _, _, _, HS.out.turn hfr6 h6⟩⟩
            · exact ⟨1, e1, .inr (.inr (.inr ⟨hr, rfl, by rw [if_neg (by omega)], _, _, _, HS.out.turn hfr6 h6⟩))⟩
          subst he
          have HS1 := Lib.hid hs1
          clear hM hs1 hfr6 HS HRI CA c0 c1
          go_wp2_with fail
          go_meet
          exact ⟨_, _, rfl, rfl, HS1⟩
      case rest =>
        obtain ⟨of', ec, rfl, rfl, HS1⟩ := hcut
        clear HS HRI c0 c1
        rcases HS1.out with ⟨hr, hneg, rfl, rfl, v, mp, vs, ht⟩ | ⟨hr, hfr, e1, rfl, v, mp, vs, ht⟩ | ⟨hr, h0, hno, e1, rfl, v, mp, vs, ht⟩ | ⟨hr, rfl, hof', v, mp, vs, ht⟩
        · have HT := Lib.hid ht
          have HRB := Lib.hid hr
          clear ht hr HS1
          obtain ⟨Aj, cj, c0, _, hrow⟩ := HCI.out.below HT.out.below (Nat.le_refl _) hb
          simp only at c0 hrow
          have HRI := Lib.hid hrow
          clear hrow
          have CR := rright_any m Aj m.length cj wc (by omega) (HRI.out.lift HT.out.below.size)
          rw [HRB.out] at CR
          go_wp2_with fail
          refine CR.mono ?_
          rintro e w2 ⟨rfl, hb2⟩
          have HT2 := Lib.hid (HT.out.step hb2)
          have c02 := below_cell hb2 c0
          have HRI2 := Lib.hid (HRI.out.below hb2 HT.out.below.size)
          clear CR hb2 c0 HT HRI
          go_upto_region 15 with fail
          have HT5 := Lib.hid (HT2.out.step (W' := w2.drew) (below_drewN (Below.refl _ _) 1))
          have HRI5 : Hid (RLow w.heap.size w2.drew Aj m.length m) := HRI2
          refine wp_region_held_drew (S := fun W => W.cell? ⟨b, off + i * 2, none⟩ = some (.slice Aj m.length cj)) (by kernel_rfl) c02 (fun hHeld => ?_)
          clear HT2 HRI2 c02
          generalize w2.drew = W5 at HT5 HRI5 hHeld ⊢
          refine tk 1 (v := ?_) rfl (by kernel_rfl) (fun _ _ _ h => h) ?_ hHeld ?_
          rotate_left
          · (intro W hSw; (try dsimp only at hSw); go_simp; try with_reducible rfl)
          refine tk 2 (v := ?_) rfl (by kernel_rfl) (fun _ _ _ h => h) ?_ hHeld ?_
          rotate_left
          · (intro W hSw; (try dsimp only at hSw); go_simp; try with_reducible rfl)
          refine tk 3 (v := ?_) rfl (by kernel_rfl) (fun _ _ _ h => h) ?_ hHeld ?_
          rotate_left
          · (intro W hSw; (try dsimp only at hSw); go_simp; try with_reducible rfl)
          refine tk 4 (v := ?_) rfl (by kernel_rfl) (fun _ _ _ h => h) ?_ hHeld ?_
          rotate_left
          · (intro W hSw; (try dsimp only at hSw); go_simp; try with_reducible rfl)
          refine tk 5 (v := ?_) rfl (by kernel_rfl) (fun _ _ _ h => h) ?_ hHeld ?_
          rotate_left
          · (intro W hSw; (try dsimp only at hSw); go_simp; try with_reducible rfl)
          refine tk 6 (v := ?_) rfl (by kernel_rfl) (fun _ _ _ h => h) ?_ hHeld ?_
          rotate_left
          · (intro W hSw; (try dsimp only at hSw); go_simp; try with_reducible rfl)
          have hx6 : W5.heap[w.heap.size + 1 + 1]? = some (.cells #[mv, ov] 44 (0, 0)) := HT5.out.x6
          obtain ⟨z0, z1, _, _⟩ := two hx6
          refine wpAnyH_ready (rs := [0]) (by kernel_rfl) (by simp) ?_
          refine AllReadyH.cons rfl (fun K hK => ?_) AllReadyH.nil
          go_simp
          refine hK.out _ _ hHeld (fun hHeld => ?_)
          clear hK K z0 z1 hx6
          refine wpAnyH_ready (rs := [7]) (by kernel_rfl) (by simp) ?_
          refine AllReadyH.cons rfl (fun K hK => ?_) AllReadyH.nil
          go_simp
          refine (radd_any w.heap.size _ mv ov vs2 M O m Aj m.length cj (-1) W5 (by omega) (by omega) HREL.out.len (fun _ => by omega) HT5.out.xt (by have := HT5.out.below.size; omega) HRI5.out).mono ?_
          rintro e W6 ⟨hb6, hA⟩
          have hS6 := below_cell hb6 hHeld
          have HT6 := Lib.hid (HT5.out.step hb6)
          have hyg : ∀ g, rowOf W6 (w.heap.size + 1) = some g → g < W5.heap.size := fun g e => row_young HT5.out.rt g (by rw [← rowOf_same (hb6.block _ (lt_some HT5.out.rt.h0))]; exact e)
          have hsz5 := HT5.out.below.size
          rcases hA with ⟨_, mv6, ov6, vs6, rfl, hx⟩ | ⟨hr, _⟩
          case inr => rw [HRB.out] at hr; cases hr
          have hyo : ∀ g, blkOf mv6 = some g → rowOf W6 (w.heap.size + 1) ≠ some g := fun g e e' => by
            have := hyg g e'
            have := (own_young hx.mrow g e).2
            omega
          have HZ := Lib.hid (HT6.out.store hx (by omega) hyo HREL.out.add (fun m' hm' => by
            rcases List.mem_append.1 hm' with h | h
            · exact HRGT.out m' h
            · rw [List.mem_singleton.1 h]; exact ⟨hlm, HRB.out⟩) (by rw [List.length_append]; simp only [List.length_cons, List.length_nil]; have := HLEN.out; omega))
          obtain ⟨A8, c8, hm8, _⟩ := own_form hx.mrow
          obtain ⟨A9, c9, hm9, _⟩ := own_form hx.orow
          rw [show (M ++ [m]).length = M.length + 1 by simp] at hm8
          subst hm8; subst hm9
          have hx6 := HT6.out.x6
          rw [show w.heap.size + 2 = w.heap.size + 1 + 1 from rfl] at hx6
          obtain ⟨z0, z1, z2, z3⟩ := two hx6
          have hS9 := hS6
          have hbl : ¬ w.heap.size + 1 + 1 = b := by omega
          have hbl2 : ¬ b = w.heap.size + 1 + 1 := by omega
          clear hyg hsz5 HT5 HRI5 hHeld hx6 hyo hx
          go_wp2_with fail
          refine hK.out _ _ hS6 (fun hHeld => ?_)
          clear hK K hS6
          refine tk 8 (v := ?_) rfl (by kernel_rfl) (fun _ _ _ h => h) ?_ hHeld ?_
          rotate_left
          · (intro W hSw; (try dsimp only at hSw); go_simp; try with_reducible rfl)
          refine tk 9 (v := ?_) rfl (by kernel_rfl) (fun _ _ _ h => h) ?_ hHeld ?_
          rotate_left
          · (intro W hSw; (try dsimp only at hSw); go_simp; try with_reducible rfl)
          refine tk 10 (v := ?_) rfl (by kernel_rfl) (fun _ _ _ h => h) ?_ hHeld ?_
          rotate_left
          · (intro W hSw; (try dsimp only at hSw); go_simp; try with_reducible rfl)
          refine wpAnyH_ready (rs := [11]) (by kernel_rfl) (by simp) ?_
          refine AllReadyH.cons rfl (fun K hK => ?_) AllReadyH.nil
          go_simp
          have hS7 : ((W6.setCell ⟨w.heap.size + 1 + 1, 0, none⟩ (.slice A8 (M.length + 1) c8)).setCell ⟨w.heap.size + 1 + 1, 1, none⟩ (.slice A9 (addO O (-1) M.length).length c9)).cell? ⟨b, off + i * 2, none⟩ = some (.slice Aj m.length cj) := by
            have := put2_else W6 (w.heap.size + 1 + 1) b (.slice A8 (M.length + 1) c8) (.slice A9 (addO O (-1) M.length).length c9) hbl2
            simp only [World.cell?, this] at hS9 ⊢; exact hS9
          refine hK.out _ _ hS7 (fun hHeld => ?_)
          clear hK K z0 z1 z2 z3 hbl hbl2 hHeld
          refine wpAnyH_ready (rs := [12]) (by kernel_rfl) (by simp) ?_
          refine AllReadyH.cons rfl (fun K hK => ?_) AllReadyH.nil
          go_simp
          refine hK.out _ _ hS7 (fun hHeld => ?_)
          clear hK K hHeld hS7 hS9 HT6
          refine wpAnyH_done (by kernel_rfl) ?_ _
          go_wp2_with fail
          go_roundw
          case measure => simp only [intOf]; omega
          case rel => exact ⟨i + 1, _, _, _, _, _, _, _, _, _, by push_cast; rfl, by omega, HZ⟩
        · have HT := Lib.hid ht
          have HRB := Lib.hid hr
          replace e1 := e1.symm
          subst e1
          have HFR := Lib.hid ((HREL.out.free of).2 ⟨hfr.2.1, hfr.1, hfr.2.2⟩)
          obtain ⟨k, rfl⟩ : ∃ k : Nat, of = k := ⟨of.toNat, by omega⟩
          have HK2 := Lib.hid hfr
          clear ht hr HS1 hfr
          obtain ⟨Aj, cj, c0, _, hrow⟩ := HCI.out.below HT.out.below (Nat.le_refl _) hb
          simp only at c0 hrow
          have HRI := Lib.hid hrow
          clear hrow
          have CR := rright_any m Aj m.length cj wc (by omega) (HRI.out.lift HT.out.below.size)
          rw [HRB.out] at CR
          go_wp2_with fail
          refine CR.mono ?_
          rintro e w2 ⟨rfl, hb2⟩
          have HT2 := Lib.hid (HT.out.step hb2)
          have c02 := below_cell hb2 c0
          have HRI2 := Lib.hid (HRI.out.below hb2 HT.out.below.size)
          clear CR hb2 c0 HT HRI
          have hx6 : w2.heap[w.heap.size + 1 + 1]? = some (.cells #[mv, ov] 44 (0, 0)) := HT2.out.x6
          obtain ⟨z0, z1, _, _⟩ := two hx6
          have CF := free_any _ _ mv ov vs2 M O (k : Int) w2 (by omega) HREL.out.len HT2.out.xt
          rw [HFR.out] at CF
          clear hx6
          go_wp2_with fail
          refine CF.mono ?_
          rintro e w3 ⟨rfl, hb3⟩
          have HT3 := Lib.hid (HT2.out.step hb3)
          have c03 := below_cell hb3 c02
          have HRI3 := Lib.hid (HRI2.out.below hb3 HT2.out.below.size)
          clear CF hb3 c02 HT2 HRI2 z0 z1
          go_upto_region 15 with fail
          have HT5 := Lib.hid (HT3.out.step (W' := w3.drew) (below_drewN (Below.refl _ _) 1))
          have HRI5 : Hid (RLow w.heap.size w3.drew Aj m.length m) := HRI3
          refine wp_region_held_drew (S := fun W => W.cell? ⟨b, off + i * 2, none⟩ = some (.slice Aj m.length cj)) (by kernel_rfl) c03 (fun hHeld => ?_)
          clear HT3 HRI3 c03
          generalize w3.drew = W5 at HT5 HRI5 hHeld ⊢
          refine tk 1 (v := ?_) rfl (by kernel_rfl) (fun _ _ _ h => h) ?_ hHeld ?_
          rotate_left
          · (intro W hSw; (try dsimp only at hSw); go_simp; try with_reducible rfl)
          refine tk 2 (v := ?_) rfl (by kernel_rfl) (fun _ _ _ h => h) ?_ hHeld ?_
          rotate_left
          · (intro W hSw; (try dsimp only at hSw); go_simp; try with_reducible rfl)
          refine tk 3 (v := ?_) rfl (by kernel_rfl) (fun _ _ _ h => h) ?_ hHeld ?_
          rotate_left
          · (intro W hSw; (try dsimp only at hSw); go_simp; try with_reducible rfl)
          refine tk 4 (v := ?_) rfl (by kernel_rfl) (fun _ _ _ h => h) ?_ hHeld ?_
          rotate_left
          · (intro W hSw; (try dsimp only at hSw); go_simp; try with_reducible rfl)
          refine tk 5 (v := ?_) rfl (by kernel_rfl) (fun _ _ _ h => h) ?_ hHeld ?_
          rotate_left
          · (intro W hSw; (try dsimp only at hSw); go_simp; try with_reducible rfl)
          refine tk 6 (v := ?_) rfl (by kernel_rfl) (fun _ _ _ h => h) ?_ hHeld ?_
          rotate_left
          · (intro W hSw; (try dsimp only at hSw); go_simp; try with_reducible rfl)
          have hx6 : W5.heap[w.heap.size + 1 + 1]? = some (.cells #[mv, ov] 44 (0, 0)) := HT5.out.x6
          obtain ⟨z0, z1, _, _⟩ := two hx6
          refine wpAnyH_ready (rs := [0]) (by kernel_rfl) (by simp) ?_
          refine AllReadyH.cons rfl (fun K hK => ?_) AllReadyH.nil
          go_simp
          refine hK.out _ _ hHeld (fun hHeld => ?_)
          clear hK K z0 z1 hx6
          refine wpAnyH_ready (rs := [7]) (by kernel_rfl) (by simp) ?_
          refine AllReadyH.cons rfl (fun K hK => ?_) AllReadyH.nil
          go_simp
          refine (radd_any w.heap.size _ mv ov vs2 M O m Aj m.length cj (k : Int) W5 (by omega) (by omega) HREL.out.len (fun _ => HK2.out.2.2) HT5.out.xt (by have := HT5.out.below.size; omega) HRI5.out).mono ?_
          rintro e W6 ⟨hb6, hA⟩
          have hS6 := below_cell hb6 hHeld
          have HT6 := Lib.hid (HT5.out.step hb6)
          have hyg : ∀ g, rowOf W6 (w.heap.size + 1) = some g → g < W5.heap.size := fun g e => row_young HT5.out.rt g (by rw [← rowOf_same (hb6.block _ (lt_some HT5.out.rt.h0))]; exact e)
          have hsz5 := HT5.out.below.size
          rcases hA with ⟨_, mv6, ov6, vs6, rfl, hx⟩ | ⟨hr, _⟩
          case inr => rw [HRB.out] at hr; cases hr
          have hyo : ∀ g, blkOf mv6 = some g → rowOf W6 (w.heap.size + 1) ≠ some g := fun g e e' => by
            have := hyg g e'
            have := (own_young hx.mrow g e).2
            omega
          have HZ := Lib.hid (HT6.out.store hx (by omega) hyo (HREL.out.mirror (by have := HK2.out.2.2; omega) HK2.out.2.1) (fun m' hm' => by
            rcases List.mem_append.1 hm' with h | h
            · exact HRGT.out m' h
            · rw [List.mem_singleton.1 h]; exact ⟨hlm, HRB.out⟩) (by rw [List.length_append]; simp only [List.length_cons, List.length_nil]; have := HLEN.out; omega))
          obtain ⟨A8, c8, hm8, _⟩ := own_form hx.mrow
          obtain ⟨A9, c9, hm9, _⟩ := own_form hx.orow
          rw [show (M ++ [m]).length = M.length + 1 by simp] at hm8
          subst hm8; subst hm9
          have hx6 := HT6.out.x6
          rw [show w.heap.size + 2 = w.heap.size + 1 + 1 from rfl] at hx6
          obtain ⟨z0, z1, z2, z3⟩ := two hx6
          have hS9 := hS6
          have hbl : ¬ w.heap.size + 1 + 1 = b := by omega
          have hbl2 : ¬ b = w.heap.size + 1 + 1 := by omega
          clear hyg hsz5 HT5 HRI5 hHeld hx6 hyo hx
          go_wp2_with fail
          refine hK.out _ _ hS6 (fun hHeld => ?_)
          clear hK K hS6
          refine tk 8 (v := ?_) rfl (by kernel_rfl) (fun _ _ _ h => h) ?_ hHeld ?_
          rotate_left
          · (intro W hSw; (try dsimp only at hSw); go_simp; try with_reducible rfl)
          refine tk 9 (v := ?_) rfl (by kernel_rfl) (fun _ _ _ h => h) ?_ hHeld ?_
          rotate_left
          · (intro W hSw; (try dsimp only at hSw); go_simp; try with_reducible rfl)
          refine tk 10 (v := ?_) rfl (by kernel_rfl) (fun _ _ _ h => h) ?_ hHeld ?_
          rotate_left
          · (intro W hSw; (try dsimp only at hSw); go_simp; try with_reducible rfl)
          refine wpAnyH_ready (rs := [11]) (by kernel_rfl) (by simp) ?_
          refine AllReadyH.cons rfl (fun K hK => ?_) AllReadyH.nil
          go_simp
          have hS7 : ((W6.setCell ⟨w.heap.size + 1 + 1, 0, none⟩ (.slice A8 (M.length + 1) c8)).setCell ⟨w.heap.size + 1 + 1, 1, none⟩ (.slice A9 (addO O (k : Int) M.length).length c9)).cell? ⟨b, off + i * 2, none⟩ = some (.slice Aj m.length cj) := by
            have := put2_else W6 (w.heap.size + 1 + 1) b (.slice A8 (M.length + 1) c8) (.slice A9 (addO O (k : Int) M.length).length c9) hbl2
            simp only [World.cell?, this] at hS9 ⊢; exact hS9
          refine hK.out _ _ hS7 (fun hHeld => ?_)
          clear hK K z0 z1 z2 z3 hbl hbl2 hHeld
          refine wpAnyH_ready (rs := [12]) (by kernel_rfl) (by simp) ?_
          refine AllReadyH.cons rfl (fun K hK => ?_) AllReadyH.nil
          go_simp
          refine hK.out _ _ hS7 (fun hHeld => ?_)
          clear hK K hHeld hS7 hS9 HT6
          refine wpAnyH_done (by kernel_rfl) ?_ _
          go_wp2_with fail
          go_roundw
          case measure => simp only [intOf]; omega
          case rel => exact ⟨i + 1, _, _, _, _, _, _, _, _, _, by push_cast; rfl, by omega, HZ⟩
        · have HT := Lib.hid ht
          have HRB := Lib.hid hr
          replace e1 := e1.symm
          subst e1
          have HFR : Hid (freeB M O of = false) := Lib.hid (by
            cases hx : freeB M O of with
            | false => rfl
            | true => have := (HREL.out.free of).1 hx; exact absurd ⟨this.1, this.2.1, this.2.2⟩ hno)
          clear ht hr HS1 hno
          have hd0 : decide (of ≥ 0) = true := decide_eq_true h0
          obtain ⟨Aj, cj, c0, _, hrow⟩ := HCI.out.below HT.out.below (Nat.le_refl _) hb
          simp only at c0 hrow
          have HRI := Lib.hid hrow
          clear hrow
          have CR := rright_any m Aj m.length cj wc (by omega) (HRI.out.lift HT.out.below.size)
          rw [HRB.out] at CR
          go_wp2_with fail
          refine CR.mono ?_
          rintro e w2 ⟨rfl, hb2⟩
          have HT2 := Lib.hid (HT.out.step hb2)
          have c02 := below_cell hb2 c0
          have HRI2 := Lib.hid (HRI.out.below hb2 HT.out.below.size)
          clear CR hb2 c0 HT HRI
          have hx6 : w2.heap[w.heap.size + 1 + 1]? = some (.cells #[mv, ov] 44 (0, 0)) := HT2.out.x6
          obtain ⟨z0, z1, _, _⟩ := two hx6
          have CF := free_any _ _ mv ov vs2 M O of w2 (by omega) HREL.out.len HT2.out.xt
          rw [HFR.out] at CF
          clear hx6
          go_wp2_with fail
          refine CF.mono ?_
          rintro e w3 ⟨rfl, hb3⟩
          have HT3 := Lib.hid (HT2.out.step hb3)
          have c03 := below_cell hb3 c02
          have HRI3 := Lib.hid (HRI2.out.below hb3 HT2.out.below.size)
          clear CF hb3 c02 HT2 HRI2 z0 z1
          have HZ := Lib.hid (HT3.out.same HREL.out HRGT.out (by have := HLEN.out; omega))
          clear HT3
          go_wp2
          go_roundw
          case measure => simp only [intOf]; omega
          case rel => exact ⟨i + 1, _, _, _, _, _, _, _, _, _, by push_cast; rfl, by omega, HZ⟩
        · have HT := Lib.hid ht
          have HRB := Lib.hid hr
          clear ht hr HS1 hof'
          obtain ⟨Aj, cj, c0, _, hrow⟩ := HCI.out.below HT.out.below (Nat.le_refl _) hb
          simp only at c0 hrow
          have HRI := Lib.hid hrow
          clear hrow
          have CR := rright_any m Aj m.length cj wc (by omega) (HRI.out.lift HT.out.below.size)
          rw [HRB.out] at CR
          go_wp2_with fail
          refine CR.mono ?_
          rintro e w2 ⟨rfl, hb2⟩
          have HT2 := Lib.hid (HT.out.step hb2)
          have c02 := below_cell hb2 c0
          have HRI2 := Lib.hid (HRI.out.below hb2 HT.out.below.size)
          clear CR hb2 c0 HT HRI
          go_upto_region 15 with fail
          have HT5 := Lib.hid (HT2.out.step (W' := w2.drew) (below_drewN (Below.refl _ _) 1))
          have HRI5 : Hid (RLow w.heap.size w2.drew Aj m.length m) := HRI2
          refine wp_region_held_drew (S := fun W => W.cell? ⟨b, off + i * 2, none⟩ = some (.slice Aj m.length cj)) (by kernel_rfl) c02 (fun hHeld => ?_)
          clear HT2 HRI2 c02
          generalize w2.drew = W5 at HT5 HRI5 hHeld ⊢
          refine tk 1 (v := ?_) rfl (by kernel_rfl) (fun _ _ _ h => h) ?_ hHeld ?_
          rotate_left
          · (intro W hSw; (try dsimp only at hSw); go_simp; try with_reducible rfl)
          refine tk 2 (v := ?_) rfl (by kernel_rfl) (fun _ _ _ h => h) ?_ hHeld ?_
          rotate_left
          · (intro W hSw; (try dsimp only at hSw); go_simp; try with_reducible rfl)
          refine tk 3 (v := ?_) rfl (by kernel_rfl) (fun _ _ _ h => h) ?_ hHeld ?_
          rotate_left
          · (intro W hSw; (try dsimp only at hSw); go_simp; try with_reducible rfl)
          refine tk 4 (v := ?_) rfl (by kernel_rfl) (fun _ _ _ h => h) ?_ hHeld ?_
          rotate_left
          · (intro W hSw; (try dsimp only at hSw); go_simp; try with_reducible rfl)
          refine tk 5 (v := ?_) rfl (by kernel_rfl) (fun _ _ _ h => h) ?_ hHeld ?_
          rotate_left
          · (intro W hSw; (try dsimp only at hSw); go_simp; try with_reducible rfl)
          refine tk 6 (v := ?_) rfl (by kernel_rfl) (fun _ _ _ h => h) ?_ hHeld ?_
          rotate_left
          · (intro W hSw; (try dsimp only at hSw); go_simp; try with_reducible rfl)
          have hx6 : W5.heap[w.heap.size + 1 + 1]? = some (.cells #[mv, ov] 44 (0, 0)) := HT5.out.x6
          obtain ⟨z0, z1, _, _⟩ := two hx6
          refine wpAnyH_ready (rs := [0]) (by kernel_rfl) (by simp) ?_
          refine AllReadyH.cons rfl (fun K hK => ?_) AllReadyH.nil
          go_simp
          refine hK.out _ _ hHeld (fun hHeld => ?_)
          clear hK K z0 z1 hx6
          refine wpAnyH_ready (rs := [7]) (by kernel_rfl) (by simp) ?_
          refine AllReadyH.cons rfl (fun K hK => ?_) AllReadyH.nil
          go_simp
          refine (radd_any w.heap.size _ mv ov vs2 M O m Aj m.length cj of' W5 (by omega) (by omega) HREL.out.len (fun h => by rw [HRB.out] at h; cases h) HT5.out.xt (by have := HT5.out.below.size; omega) HRI5.out).mono ?_
          rintro e W6 ⟨hb6, hA⟩
          have hS6 := below_cell hb6 hHeld
          have HT6 := Lib.hid (HT5.out.step hb6)
          have hyg : ∀ g, rowOf W6 (w.heap.size + 1) = some g → g < W5.heap.size := fun g e => row_young HT5.out.rt g (by rw [← rowOf_same (hb6.block _ (lt_some HT5.out.rt.h0))]; exact e)
          have hsz5 := HT5.out.below.size
          rcases hA with ⟨hr, _⟩ | ⟨_, rfl⟩
          case inl => rw [HRB.out] at hr; cases hr
          have HZ := Lib.hid (HT6.out.store HT6.out.xt (Nat.le_refl _) HT6.out.apart HREL.out HRGT.out (by have := HLEN.out; omega))
          obtain ⟨A8, c8, hm8, _⟩ := own_form HT6.out.xt.mrow
          obtain ⟨A9, c9, hm9, _⟩ := own_form HT6.out.xt.orow
          subst hm8; subst hm9
          have hx6 := HT6.out.x6
          rw [show w.heap.size + 2 = w.heap.size + 1 + 1 from rfl] at hx6
          obtain ⟨z0, z1, z2, z3⟩ := two hx6
          have hS9 := hS6
          have hbl : ¬ w.heap.size + 1 + 1 = b := by omega
          have hbl2 : ¬ b = w.heap.size + 1 + 1 := by omega
          clear hyg hsz5 HT5 HRI5 hHeld hx6
          go_wp2_with fail
          refine hK.out _ _ hS6 (fun hHeld => ?_)
          clear hK K hS6
          refine tk 8 (v := ?_) rfl (by kernel_rfl) (fun _ _ _ h => h) ?_ hHeld ?_
          rotate_left
          · (intro W hSw; (try dsimp only at hSw); go_simp; try with_reducible rfl)
          refine tk 9 (v := ?_) rfl (by kernel_rfl) (fun _ _ _ h => h) ?_ hHeld ?_
          rotate_left
          · (intro W hSw; (try dsimp only at hSw); go_simp; try with_reducible rfl)
          refine tk 10 (v := ?_) rfl (by kernel_rfl) (fun _ _ _ h => h) ?_ hHeld ?_
          rotate_left
          · (intro W hSw; (try dsimp only at hSw); go_simp; try with_reducible rfl)
          refine wpAnyH_ready (rs := [11]) (by kernel_rfl) (by simp) ?_
          refine AllReadyH.cons rfl (fun K hK => ?_) AllReadyH.nil
          go_simp
          have hS7 : ((W6.setCell ⟨w.heap.size + 1 + 1, 0, none⟩ (.slice A8 M.length c8)).setCell ⟨w.heap.size + 1 + 1, 1, none⟩ (.slice A9 O.length c9)).cell? ⟨b, off + i * 2, none⟩ = some (.slice Aj m.length cj) := by
            have := put2_else W6 (w.heap.size + 1 + 1) b (.slice A8 M.length c8) (.slice A9 O.length c9) hbl2
            simp only [World.cell?, this] at hS9 ⊢; exact hS9
          refine hK.out _ _ hS7 (fun hHeld => ?_)
          clear hK K z0 z1 z2 z3 hbl hbl2 hHeld
          refine wpAnyH_ready (rs := [12]) (by kernel_rfl) (by simp) ?_
          refine AllReadyH.cons rfl (fun K hK => ?_) AllReadyH.nil
          go_simp
          refine hK.out _ _ hS7 (fun hHeld => ?_)
          clear hK K hHeld hS7 hS9 HT6
          refine wpAnyH_done (by kernel_rfl) ?_ _
          go_wp2_with fail
          go_roundw
          case measure => simp only [intOf]; omega
          case rel => exact ⟨i + 1, _, _, _, _, _, _, _, _, _, by push_cast; rfl, by omega, HZ⟩
    · have d1 : decide ((i : Int) < (n : Int)) = false := decide_eq_false (by omega)
      have hx6 : wr.heap[w.heap.size + 1 + 1]? = some (.cells #[mv, ov] 44 (0, 0)) := HS.out.x6
      obtain ⟨A8, c8, hm8, _⟩ := own_form HS.out.xt.mrow
      obtain ⟨A9, c9, hm9, _⟩ := own_form HS.out.xt.orow
      subst hm8; subst hm9
      obtain ⟨z0, z1, _, _⟩ := two hx6
      obtain ⟨r0, r1, r2, r3⟩ := two HS.out.x3
      clear hx6
      go_upto_region 18 with fail
      have HS5 : Hid (FS w wr.drew i v mp (.slice A8 M.length c8) (.slice A9 O.length c9) vs vs2 M O mir) := Lib.hid (HS.out.step (below_drewN (Below.refl _ _) 1))
      have hr : wr.drew.cell? ⟨w.heap.size, 0, none⟩ = some (.slice none 0 0) ∧ wr.drew.cell? ⟨w.heap.size, 1, none⟩ = some (.slice none 0 0) ∧ wr.drew.frozen? ⟨w.heap.size, 0, none⟩ = false ∧ wr.drew.frozen? ⟨w.heap.size, 1, none⟩ = false := ⟨r0, r1, r2, r3⟩
      refine wp_region_held_drew (S := fun W => W.cell? ⟨w.heap.size + 1 + 1, 0, none⟩ = some (.slice A8 M.length c8) ∧ W.cell? ⟨w.heap.size + 1 + 1, 1, none⟩ = some (.slice A9 O.length c9)) (by kernel_rfl) ⟨z0, z1⟩ (fun hHeld => ?_)
      clear HS z0 z1 r0 r1 r2 r3
      generalize wr.drew = W5 at HS5 hr hHeld ⊢
      obtain ⟨r0, r1, r2, r3⟩ := hr
      refine tk 0 (v := ?_) rfl (by kernel_rfl) (fun _ _ _ h => h) ?_ hHeld ?_
      rotate_left
      · (intro W hSw; (try dsimp only at hSw); go_simp; try with_reducible rfl)
      refine tk 1 (v := ?_) rfl (by kernel_rfl) (fun _ _ _ h => h) ?_ hHeld ?_
      rotate_left
      · (intro W hSw; (try dsimp only at hSw); go_simp; try with_reducible rfl)
      refine wpAnyH_ready (rs := [2]) (by kernel_rfl) (by simp) ?_
      refine AllReadyH.cons rfl (fun K hK => ?_) AllReadyH.nil
      go_simp
      have hS5 := hHeld
      refine hK.out _ _ hS5 (fun hHeld => ?_)
      clear hK K
      refine wpAnyH_ready (rs := [3]) (by kernel_rfl) (by simp) ?_
      refine AllReadyH.cons rfl (fun K hK => ?_) AllReadyH.nil
      go_simp
      have hS7 : ((W5.setCell ⟨w.heap.size, 0, none⟩ (.slice A8 M.length c8)).setCell ⟨w.heap.size, 1, none⟩ (.slice A9 O.length c9)).cell? ⟨w.heap.size + 1 + 1, 0, none⟩ = some (.slice A8 M.length c8) ∧ ((W5.setCell ⟨w.heap.size, 0, none⟩ (.slice A8 M.length c8)).setCell ⟨w.heap.size, 1, none⟩ (.slice A9 O.length c9)).cell? ⟨w.heap.size + 1 + 1, 1, none⟩ = some (.slice A9 O.length c9) := by
        have := put2_else W5 w.heap.size (w.heap.size + 1 + 1) (.slice A8 M.length c8) (.slice A9 O.length c9) (by omega)
        simp only [World.cell?, this] at hS5 ⊢; exact hS5
      refine hK.out _ _ hS7 (fun hHeld => ?_)
      clear hK K r0 r1 r2 r3 hS5
      refine wpAnyH_ready (rs := [4]) (by kernel_rfl) (by simp) ?_
      refine AllReadyH.cons rfl (fun K hK => ?_) AllReadyH.nil
      go_simp
      refine hK.out _ _ hS7 (fun hHeld => ?_)
      clear hK K hS7 hHeld
      refine wpAnyH_done (by kernel_rfl) ?_ _
      go_wp2_with fail
      obtain ⟨q0, q1, _, _⟩ := two (put2_at HS5.out.x3 (.slice A8 M.length c8) (.slice A9 O.length c9))
      refine bodyPost_ret (v := .tuple #[.pointer (some ⟨w.heap.size + 1, 0, none⟩), .agg #[.slice A8 M.length c8, .slice A9 O.length c9], .bool true]) ?_ rfl ⟨_, _, _, _, _, _, _, _, _, _, rfl, HS5.out.done (by omega) _ _⟩
      simp [results, Try.results17, go_sem, q0, q1]
end Go.Proofs.Ytnffgomgfabapaa.Rt
