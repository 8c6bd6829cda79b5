/- Diffs: the chart is drawn. -/
import Derived.Test.YtgodphfkhmahnaaDfU
import Derived.MakeChecks
import Derived.OwnWalk
import Derived.Lib.MinMax
namespace Go.Proofs.Ytgodphfkhmahnaa.Df
open Go.RowKit Mem Sm Rt Tk
set_option linter.unusedVariables false
set_option linter.unusedSimpArgs false
theorem iinfo9 : (Try.prog.info? 3).map (fun i => (i.zero, i.size, i.bytes)) = some (some (.int .i64 0), 1, 8) := by kernel_rfl
theorem sinfo9 : (Try.prog.info? 36).map (fun i => (i.zero, i.size, i.bytes)) = some (some (.slice none 0 0), 1, 24) := by kernel_rfl
section
variable {w W W' : World} {p : Nat} {a b v u : Value} {vs : List Value} {XS : List (List Int)} {bD bI : Nat} {l : List Int}
theorem DS.step (h : DS w W p a b v vs XS bD bI) (hb : Below W.heap.size W W') : DS w W' p a b v vs XS bD bI :=
  ⟨h.hp, gb_below h.gb hb, h.ch.step hb, hkeep hb h.x0, hkeep hb h.x1⟩
theorem DS.best (h : DS w W p a b v vs XS bD bI) (D I : Nat) : DS w ((W.setCell ⟨w.heap.size + 1, 0, none⟩ (.int .i64 D)).setCell ⟨w.heap.size + 1, 1, none⟩ (.int .i64 I)) p a b v vs XS D I := by
  refine ⟨h.hp, gb_set (gb_set h.gb (.inr (by omega)) _) (.inr (by omega)) _, h.ch.set2 h.x1 _ _, ?_, ?_⟩
  · rw [set_else (by omega), set_else (by omega)]; exact h.x0
  · rw [set_at (set_at h.x1 _)]; rfl
theorem DS.size (h : DS w W p a b v vs XS bD bI) : w.heap.size + 2 ≤ W.heap.size := by have := lt_some h.x1; omega
theorem DS.push {v' : Value} (h : DS w W p a b v vs XS bD bI) (hg : W.grownBy W' v.ownBlock) (ho : W'.ownsRow w.heap.size 36 1 v' (XS.length + 1) (vs ++ [u])) (hu : IAt W u l) :
    DS w (W'.setCell ⟨p, 2, none⟩ v') p a b v' (vs ++ [u]) (XS ++ [l]) bD bI := by
  have hv : ∀ g, v.ownBlock = some g → w.heap.size ≤ g ∧ ∃ cs fr, W.heap[g]? = some (.cells cs 36 fr) := by
    intro g e
    rw [own_blk h.ch.row] at e
    exact ⟨(own_young h.ch.row g e).2, own_ty h.ch.row g e⟩
  have hK : ∀ (k : Nat) (cs : Array Value), W.heap[k]? = some (.cells cs 145 (0, 0)) → W'.heap[k]? = some (.cells cs 145 (0, 0)) := by
    intro k cs e
    rw [hg.block k (lt_some e) (fun g => ?_)]
    · exact e
    · obtain ⟨_, cs', fr', hh⟩ := hv k g.symm
      rw [e] at hh
      injection hh with hh
      injection hh with _ h6 _
      revert h6; decide
  have hp := h.hp
  refine ⟨h.hp, gb_set (only_trans h.gb hg (fun i hi e => ?_)) (.inl rfl) _, h.ch.push hg ho hu, ?_, ?_⟩
  · have := (hv i e.symm).1; omega
  · rw [set_else (by omega)]; exact hK _ _ h.x0
  · rw [set_else (by omega)]; exact hK _ _ h.x1
theorem DS.kept (h : DS w W p a b v vs XS bD bI) (hg : W.grownBy W' v.ownBlock) : W'.cell? ⟨p, 2, none⟩ = some v ∧ W'.frozen? ⟨p, 2, none⟩ = false := by
  have : W'.heap[p]? = some (.cells #[a, b, v] 143 (0, 0)) := by
    rw [hg.block p (lt_some h.ch.h0) (fun g => ?_)]
    · exact h.ch.h0
    · rw [own_blk h.ch.row] at g
      obtain ⟨cs', fr', hh⟩ := own_ty h.ch.row p g.symm
      have e := h.ch.h0
      rw [e] at hh
      injection hh with hh
      injection hh with _ h6 _
      revert h6; decide
  exact ⟨by simp [World.cell?, this], by simp [World.frozen?, this]⟩
theorem DS.bx (h : DS w W p a b v vs XS bD bI) : W.cell? ⟨w.heap.size + 1, 0, none⟩ = some (.int .i64 bD) ∧ W.cell? ⟨w.heap.size + 1, 1, none⟩ = some (.int .i64 bI) ∧ W.frozen? ⟨w.heap.size + 1, 0, none⟩ = false ∧ W.frozen? ⟨w.heap.size + 1, 1, none⟩ = false
    ∧ W.cell? ⟨w.heap.size, 0, none⟩ = some (.int .i64 0) ∧ W.cell? ⟨w.heap.size, 1, none⟩ = some (.int .i64 0) ∧ W.frozen? ⟨w.heap.size, 0, none⟩ = false ∧ W.frozen? ⟨w.heap.size, 1, none⟩ = false := by
  refine ⟨?_, ?_, ?_, ?_, ?_, ?_, ?_, ?_⟩ <;> simp [World.cell?, World.frozen?, h.x0, h.x1]
theorem DS.put {g j : Nat} {x : Int} (h : DS w W p a b v (vs ++ [.slice (some ⟨g, 0, none⟩) l.length l.length]) (XS ++ [l]) bD bI) (hl : ∀ (i : Nat) (y : Value) (q : Nat), vs[i]? = some y → blkOf y = some q → q < g) (hg : w.heap.size + 2 ≤ g) (hx : u = .int .i64 x) :
    DS w (W.setCell ⟨g, j, none⟩ u) p a b v (vs ++ [.slice (some ⟨g, 0, none⟩) (l.set j x).length (l.set j x).length]) (XS ++ [l.set j x]) bD bI :=
  ⟨h.hp, gb_set h.gb (.inr (by omega)) _, h.ch.put hl hx, by rw [set_else (by omega)]; exact h.x0, by rw [set_else (by omega)]; exact h.x1⟩
theorem DS.put' {g j N : Nat} {x : Int} (hn : l.length = N) (h : DS w W p a b v (vs ++ [.slice (some ⟨g, 0, none⟩) N N]) (XS ++ [l]) bD bI) (hl : ∀ (i : Nat) (y : Value) (q : Nat), vs[i]? = some y → blkOf y = some q → q < g) (hg : w.heap.size + 2 ≤ g) (hx : u = .int .i64 x) :
    DS w (W.setCell ⟨g, j, none⟩ u) p a b v (vs ++ [.slice (some ⟨g, 0, none⟩) N N]) (XS ++ [l.set j x]) bD bI := by
  subst hn
  have := DS.put (j := j) h hl hg hx
  rwa [List.length_set] at this
theorem DS.cell {g j N : Nat} (h : DS w W p a b v (vs ++ [.slice (some ⟨g, 0, none⟩) N N]) (XS ++ [l]) bD bI) (hn : l.length = N) (hj : j < N) : W.cell? ⟨g, j, none⟩ = some (.int .i64 (l.getD j 0)) ∧ W.frozen? ⟨g, j, none⟩ = false := by
  have hlen : vs.length = XS.length := by have := h.ch.len; simp at this; exact this
  obtain ⟨g', e, hg⟩ := h.ch.its XS.length (.slice (some ⟨g, 0, none⟩) N N) l (by rw [← hlen]; simp) (by simp)
  injection e with e _ _
  injection e with e
  injection e with e _ _
  subst e
  subst hn
  exact ⟨by simp [World.cell?, hg, List.getD, hj], by simp [World.frozen?, hg]⟩
end
theorem getD_app {XS : List (List Int)} {L : List Int} {d : Nat} (h : d < XS.length) : (XS ++ [L]).getD d [] = XS.getD d [] := by simp [List.getD, List.getElem?_append_left h]
theorem getD_last (XS : List (List Int)) (L : List Int) : (XS ++ [L]).getD XS.length [] = L := by simp [List.getD]
theorem Ok.app {E : Nat → Nat → Bool} {XS : List (List Int)} {L : List Int} (h : Ok E XS XS.length) : Ok E (XS ++ [L]) XS.length := by
  intro d' hd
  have h1 := h d' hd
  unfold gt at h1 ⊢
  rw [getD_app hd]
  exact h1
theorem Ok.snoc {E : Nat → Nat → Bool} {XS : List (List Int)} {L : List Int} (h : Ok E XS XS.length) (hl : L.length = XS.length + 1) (ht : ∀ k, k ≤ XS.length → ∃ x y, Top E XS.length k x y ∧ L.getD k 0 = x + y) : Ok E (XS ++ [L]) (XS.length + 1) := by
  intro d' hd
  by_cases e : d' < XS.length
  · exact h.app d' e
  · obtain rfl : d' = XS.length := by omega
    unfold gt
    rw [getD_last]
    exact ⟨hl, ht⟩
/-- if a whole row of the chart misses both ends, they want more that differ -/
theorem not_yet {l r : List Tk.Tk} {n m D bI : Nat} {L : List Int} {M : Int} (hn : l.length = n) (hm : r.length = m) (hN : ∀ j, j < D → ¬ R (EE l r) j n m) (hT : ∀ k, k < D + 1 → ∃ x y, Top (EE l r) D k x y ∧ L.getD k 0 = x + y)
    (hX : ∀ k, k < D + 1 → L.getD k 0 ≤ M) (hb : bI ≤ D) (hM : L.getD bI 0 = M) (hne : M ≠ n + m) : ¬ R (EE l r) D n m := by
  intro hR
  have hle := lc_le (E := EE l r) n m
  have hodd : ¬ R (EE l r) (D - 1) n m ∨ D = 0 := by
    by_cases e : D = 0
    · exact .inr e
    · exact .inl (hN (D - 1) (by omega))
  have hnear := hR.near
  have hpar : ∃ k, n + D = m + 2 * k := by
    refine ⟨(n + D - m) / 2, ?_⟩
    unfold R at hR hodd
    omega
  obtain ⟨k, hk⟩ := hpar
  obtain ⟨x, y, ht, e⟩ := hT k (by omega)
  have h1 := ht.most n m hk hR
  have h2 := ht.diag
  have h3 := hX k (by omega)
  obtain ⟨x', y', ht', e'⟩ := hT bI (by omega)
  have h4 : n + m < x' + y' := by omega
  obtain ⟨h5, h6⟩ := R.over (n := n) (m := m) (fun a b h => by have := EE_in a b h; omega) ht'.comes h4
  exact hN (D - 1) (by omega) h6
/-- a row of D + 1 zeros -/
def zer (D : Nat) : List Int := List.replicate (D + 1) 0
set_option maxRecDepth 100000 in
set_option maxHeartbeats 4000000 in
theorem draw_any (p : Nat) (A B : Option Addr) (n m cA cB : Nat) (l r : List Tk.Tk) (w : World) (hnm : n + m ≤ 400) (hln : l.length = n) (hrm : r.length = m) (hp : p < w.heap.size)
    (hs : ∀ W', w.grownBy W' (some p) → TRow W' A n l ∧ TRow W' B m r) (h : ChAt w.heap.size w p (.slice A n cA) (.slice B m cB) (.slice none 0 0) [] []) :
    Calls Try.prog 79 #[.pointer (some ⟨p, 0, none⟩)] w fun e w' => ∃ (D I : Nat) (v : Value) (vs : List Value) (XS : List (List Int)), e = .returned (pnV D I) ∧ w.grownBy w' (some p) ∧ ChAt w.heap.size w' p (.slice A n cA) (.slice B m cB) v vs XS
      ∧ XS.length = D + 1 ∧ Ok (EE l r) XS (D + 1) ∧ I ≤ D ∧ gt XS D I = n + m ∧ ∀ j, j < D → ¬ R (EE l r) j n m := by
  have hmake : ∀ (W : World) (D : Nat), D ≤ 1000 → (Instr.makeSlice 36 (.int .i64 ((D : Int) + 1)) (.int .i64 ((D : Int) + 1))).run Try.prog W = .ok (.slice (some ⟨W.heap.size, 0, none⟩) (D + 1) (D + 1)) (W.alloc (.cells ((zer D).map (Value.int .i64)).toArray 3)) := fun W D hD => by
    obtain ⟨i0, hi, hz, hs1, hs2⟩ := info_parts iinfo9
    have := run_make (P := Try.prog) (w := W) 36 3 i0 (.int .i64 0) Try.underlying36 hi hz .i64 .i64 ((D : Int) + 1) ((D : Int) + 1) (by omega) (by omega) (by rw [hs2]; omega) (by omega)
    rw [this, hs1, Nat.mul_one]
    have e : ((D : Int) + 1).toNat = D + 1 := by omega
    rw [e]
    have e : madeCells (Value.int .i64 0).cells (D + 1) = ((zer D).map (Value.int .i64)).toArray := by
      apply Array.ext
      · simp [madeCells, zer]
      · intro j h1 h2; simp [madeCells, Value.cells, Nat.mod_one, zer]
    rw [e]
  have HMK := Lib.hid hmake
  have HS := Lib.hid hs
  have b1 := (Below.refl w.heap.size w).alloc (Nat.le_refl _) (.cells #[.int .i64 0, .int .i64 0] 145)
  have b2 := b1.alloc b1.size (.cells #[.int .i64 0, .int .i64 0] 145)
  have HD0 : Hid (DS w ((w.alloc (.cells #[.int .i64 0, .int .i64 0] 145)).alloc (.cells #[.int .i64 0, .int .i64 0] 145)) p (.slice A n cA) (.slice B m cB) (.slice none 0 0) [] [] 0 0) := Lib.hid
    ⟨hp, gb_below (World.grownBy.refl _ _) b2, h.step b2, by rw [Below.heap_alloc _ _ _ (by simp), heap_alloc_new], by
      have := heap_alloc_new (w.alloc (.cells #[.int .i64 0, .int .i64 0] 145)) (.cells #[.int .i64 0, .int .i64 0] 145)
      simpa using this⟩
  have HRE : Hid (R (EE l r) (n + m) n m) := Lib.hid (by unfold R; omega)
  have HLN := Lib.hid hln
  have HRM := Lib.hid hrm
  clear hmake hs b1 b2 h hln hrm hp
  go_enter Try.func79, Try.ntmps79
  go_wp2_with fail
  go_loopw [10] (fun dv wr => ∃ (D : Nat) (v : Value) (vs : List Value) (XS : List (List Int)) (bD bI : Nat), dv = .int .i64 D ∧ D ≤ n + m ∧ Hid (XS.length = D) ∧ Hid (Ok (EE l r) XS D) ∧ Hid (∀ j, j < D → ¬ R (EE l r) j n m) ∧ Hid (DS w wr p (.slice A n cA) (.slice B m cB) v vs XS bD bI)) (fun dv _ => 1000 - (intOf dv).toNat)
  case atStart => exact ⟨0, _, _, _, 0, 0, rfl, by omega, Lib.hid rfl, Lib.hid (fun d h => by omega), Lib.hid (fun d h => by omega), HD0⟩
  case round =>
    obtain ⟨D, v, vs, XS, bD, bI, rfl, hD, HXL, HOK, HNR, HD⟩ := hrel
    clear HD0
    have g1 : (D : Int) < 1001 := by omega
    have hmk := fun W => HMK.out W D (by omega)
    have hb1 := (Below.refl wr.heap.size wr).alloc (Nat.le_refl _) (.cells ((zer D).map (Value.int .i64)).toArray 3)
    have HIR := Lib.hid (heap_alloc_new wr (.cells ((zer D).map (Value.int .i64)).toArray 3))
    have HD1 := Lib.hid (HD.out.step hb1)
    have hb2 := (Below.refl _ (wr.alloc (.cells ((zer D).map (Value.int .i64)).toArray 3))).alloc (Nat.le_refl _) (.cells #[.slice (some ⟨wr.heap.size, 0, none⟩) (D + 1) (D + 1)] 36)
    have HD2 := Lib.hid (HD1.out.step hb2)
    have HV : Hid (VRow ((wr.alloc (.cells ((zer D).map (Value.int .i64)).toArray 3)).alloc (.cells #[.slice (some ⟨wr.heap.size, 0, none⟩) (D + 1) (D + 1)] 36)) (some ⟨wr.heap.size + 1, 0, none⟩) 1 [.slice (some ⟨wr.heap.size, 0, none⟩) (D + 1) (D + 1)]) := Lib.hid (by
      have := vrow_lit (wr.alloc (.cells ((zer D).map (Value.int .i64)).toArray 3)) (.slice (some ⟨wr.heap.size, 0, none⟩) (D + 1) (D + 1)) 36
      rwa [show (wr.alloc (.cells ((zer D).map (Value.int .i64)).toArray 3)).heap.size = wr.heap.size + 1 by simp] at this)
    have HI2 : Hid (IAt ((wr.alloc (.cells ((zer D).map (Value.int .i64)).toArray 3)).alloc (.cells #[.slice (some ⟨wr.heap.size, 0, none⟩) (D + 1) (D + 1)] 36)) (.slice (some ⟨wr.heap.size, 0, none⟩) (D + 1) (D + 1)) (zer D)) := Lib.hid ⟨wr.heap.size, by simp [zer], hkeep hb2 HIR.out⟩
    have hsz : w.heap.size ≤ ((wr.alloc (.cells ((zer D).map (Value.int .i64)).toArray 3)).alloc (.cells #[.slice (some ⟨wr.heap.size, 0, none⟩) (D + 1) (D + 1)] 36)).heap.size := HD2.out.gb.size
    have hgs : w.heap.size + 2 ≤ wr.heap.size := HD.out.size
    have HLT : Hid (∀ (i : Nat) (y : Value) (q : Nat), vs[i]? = some y → blkOf y = some q → q < wr.heap.size) := Lib.hid (fun i y q h1 h2 => by
      have hi := (List.getElem?_eq_some_iff.1 h1).1
      obtain ⟨g, e, hh⟩ := HD.out.ch.its i y _ h1 (List.getElem?_eq_getElem (by rw [← HD.out.ch.len]; exact hi))
      subst e
      simp only [blkOf, Option.some.injEq] at h2
      subst h2
      exact lt_some hh)
    have HRW : Hid (((wr.alloc (.cells ((zer D).map (Value.int .i64)).toArray 3)).alloc (.cells #[.slice (some ⟨wr.heap.size, 0, none⟩) (D + 1) (D + 1)] 36)).ownsRow w.heap.size 36 1 v D vs) := Lib.hid (by have := HD2.out.ch.row; rw [HXL.out] at this; exact this)
    obtain ⟨_, _, c2, _, _, f2⟩ := HD1.out.ch.cells
    clear hb1 hb2 HIR HD HD1
    go_upto_region 7 with (at_builtin; (refine wpList_app_v rfl (.tmp 20) (.tmp 22) 141 rfl w.heap.size 36 (.slice none 0 0) 24 Try.underlying141 sinfo9 (by omega) rfl _ D vs rfl HRW.out (some ⟨wr.heap.size + 1, 0, none⟩) 1 1 [.slice (some ⟨wr.heap.size, 0, none⟩) (D + 1) (D + 1)] rfl HV.out (fun u hu => by simp at hu; subst hu; rfl) (by omega) hsz ?_); intro v' w9 hown hg hat; obtain ⟨A9, c9, rfl, _⟩ := own_form hown; have HD3 := Lib.hid (HD2.out.push hg (by rw [HXL.out]; exact hown) HI2.out); obtain ⟨c2, f2⟩ := HD2.out.kept hg; clear hown hg hat HD2 HRW HV HI2 hsz)
    obtain ⟨x0, x1, y0, y1, _⟩ := HD3.out.bx
    have HD4 := Lib.hid (HD3.out.best D 0)
    go_upto_region 8 with fail
    go_wp2_with fail
    generalize hg9 : wr.heap.size = g at *
    clear c2 f2 x0 x1 y0 y1 hg9 HD3
    go_loopw [30] (fun iv wr => ∃ (i : Nat) (L : List Int) (bI : Nat), iv = .int .i64 i ∧ i ≤ D + 1 ∧ bI ≤ D ∧ Hid (L.length = D + 1) ∧ Hid (∀ k, k < i → ∃ x y, Top (EE l r) D k x y ∧ L.getD k 0 = x + y) ∧ Hid (∀ k, k < i → L.getD k 0 ≤ L.getD bI 0) ∧ Hid (bI < i ∨ bI = 0)
      ∧ Hid (DS w wr p (.slice A n cA) (.slice B m cB) (.slice A9 (D + 1) c9) (vs ++ [.slice (some ⟨g, 0, none⟩) (D + 1) (D + 1)]) (XS ++ [L]) D bI)) (fun iv _ => D + 1 - (intOf iv).toNat)
    case atStart => exact ⟨0, zer D, 0, rfl, by omega, by omega, Lib.hid (by simp [zer]), Lib.hid (fun k h => by omega), Lib.hid (fun k h => by omega), Lib.hid (.inr rfl), HD4⟩
    case round =>
      obtain ⟨i, L, bI, rfl, hi, hbI, HLL, HTP, HMX, HBI, HD⟩ := hrel
      clear HD4
      by_cases hlt : i < D + 1
      · have i1 : (i : Int) < (D : Int) + 1 := by omega
        obtain ⟨x, y, hent⟩ := ent_top (l := l) (m := r) (XS := XS ++ [L]) (d := D) (i := i) (by have := Ok.app (L := L) (by rw [HXL.out]; exact HOK.out : Ok (EE l r) XS XS.length); rw [HXL.out] at this; exact this) (by omega)
        have hOkA : Ok (EE l r) (XS ++ [L]) D := by have := Ok.app (L := L) (by rw [HXL.out]; exact HOK.out : Ok (EE l r) XS XS.length); rw [HXL.out] at this; exact this
        have CE := fun W' (h : ChAt w.heap.size W' p (.slice A n cA) (.slice B m cB) (.slice A9 (D + 1) c9) (vs ++ [.slice (some ⟨g, 0, none⟩) (D + 1) (D + 1)]) (XS ++ [L])) => enter_any w.heap.size p _ _ _ _ (XS ++ [L]) D i W' (by have := HXL.out; simp; omega) (by have := HXL.out; simp; omega) (by omega) (fun j hj => (hOkA j hj).1) (fun j k hj hk => by have := hOkA.bound j k hj hk; have := HLN.out; omega) h
        have hxy := hent.diag
        have htb := hent.top.bound
        have CS := fun W' (f : Int) (hf : f = x + y) (hg : w.grownBy W' (some p)) (h : ChAt w.heap.size W' p (.slice A n cA) (.slice B m cB) (.slice A9 (D + 1) c9) (vs ++ [.slice (some ⟨g, 0, none⟩) (D + 1) (D + 1)]) (XS ++ [L])) => slide_any w.heap.size p A B n m cA cB _ _ (XS ++ [L]) l r D i x y f W' (by omega) (by omega) (by have := HLN.out; omega) (by have := HLN.out; omega) hxy hf (by omega) (by omega) (HS.out _ hg).1 (HS.out _ hg).2 h
        obtain ⟨Z, hZ⟩ : ∃ Z : Nat, Z = x + y + 2 * SL l r x y := ⟨_, rfl⟩
        have HTZ : Hid (∃ x' y', Top (EE l r) D i x' y' ∧ (Z : Int) = x' + y') := Lib.hid ⟨_, _, hent.top, by omega⟩
        rw [← hZ] at CS
        rw [hent.far] at CE
        generalize hf : ((x : Int) + (y : Int)) = f at *
        have CS' := Lib.hid (fun W' => CS W' f rfl)
        generalize (entE (XS ++ [L]) D i).2.1 = D' at CE
        generalize (entE (XS ++ [L]) D i).2.2 = I' at CE
        have CE' := Lib.hid CE
        clear CE CS hent hxy htb hZ hOkA hf
        have hb1 := (Below.refl wr.heap.size wr).alloc (Nat.le_refl _) (.cells #[.int .i64 D, .int .i64 i] 145)
        have HBX := Lib.hid (heap_alloc_new wr (.cells #[.int .i64 D, .int .i64 i] 145))
        have HD1 := Lib.hid (HD.out.step hb1)
        have hbs1 := HD.out.size
        clear HD hb1
        unfold pnV at CE' CS'
        go_wp2_with fail
        refine (CE'.out _ HD1.out.ch).mono ?_
        rintro e w2 ⟨rfl, hb2⟩
        have HD2 := Lib.hid (HD1.out.step hb2)
        have hb3 := (Below.refl w2.heap.size w2).alloc (Nat.le_refl _) (.cells #[.int .i64 D', .int .i64 I'] 145)
        have HD3 := Lib.hid (HD2.out.step hb3)
        have HBX3 := Lib.hid (hkeep hb3 (hkeep hb2 HBX.out))
        have hbs2 : wr.heap.size < w2.heap.size := lt_some (hkeep hb2 HBX.out)
        have s0 : w2.cell? ⟨wr.heap.size, 0, none⟩ = some (.int .i64 D) := by simp [World.cell?, hkeep hb2 HBX.out]
        have s1 : w2.cell? ⟨wr.heap.size, 1, none⟩ = some (.int .i64 i) := by simp [World.cell?, hkeep hb2 HBX.out]
        have t0 : (w2.alloc (.cells #[.int .i64 D', .int .i64 I'] 145)).cell? ⟨wr.heap.size, 0, none⟩ = some (.int .i64 D) := by simp only [World.cell?, HBX3.out]; rfl
        have t1 : (w2.alloc (.cells #[.int .i64 D', .int .i64 I'] 145)).cell? ⟨wr.heap.size, 1, none⟩ = some (.int .i64 i) := by simp only [World.cell?, HBX3.out]; rfl
        clear hb2 hb3 HD1 HD2 CE' HBX
        go_wp2_with fail
        refine (CS'.out _ HD3.out.gb HD3.out.ch).mono ?_
        rintro e w4 ⟨rfl, hb4⟩
        have HD4 := Lib.hid (HD3.out.step hb4)
        have HBX4 := Lib.hid (hkeep hb4 HBX3.out)
        obtain ⟨q0, q1⟩ := HD4.out.cell HLL.out hlt
        have HD5 := Lib.hid (HD4.out.put' (j := i) HLL.out HLT.out hgs (rfl : Value.int .i64 (Z : Int) = .int .i64 (Z : Int)))
        have hgwr : wr.heap.size ≠ g := by
          rintro e
          have h1 := HBX4.out
          rw [e] at h1
          have hlen : vs.length = XS.length := by have := HD4.out.ch.len; simp at this; exact this
          obtain ⟨g', e', hg'⟩ := HD4.out.ch.its XS.length (.slice (some ⟨g, 0, none⟩) (D + 1) (D + 1)) L (by rw [← hlen]; simp) (by simp)
          injection e' with e' _ _
          injection e' with e'
          injection e' with e' _ _
          subst e'
          rw [hg'] at h1
          injection h1 with h1
          injection h1 with _ h6 _
          revert h6; decide
        have HBX5 : Hid ((w4.setCell ⟨g, i, none⟩ (.int .i64 Z)).heap[wr.heap.size]? = some (.cells #[.int .i64 D, .int .i64 i] 145 (0, 0))) := Lib.hid (by rw [set_else hgwr]; exact HBX4.out)
        have HLL5 : Hid ((L.set i (Z : Int)).length = D + 1) := Lib.hid (by rw [List.length_set]; exact HLL.out)
        clear hb4 HD3 HBX3 s0 s1 t0 t1 HD4 HBX4 hgwr
        go_upto_region 14 with fail
        generalize hw5 : w4.setCell ⟨g, i, none⟩ (.int .i64 Z) = w5 at *
        clear hw5 q0 q1
        obtain ⟨q0, q1⟩ := HD5.out.cell HLL5.out hlt
        have hZi : (L.set i (Z : Int)).getD i 0 = Z := by
          have := HLL.out
          simp [List.getD, show i < L.length by omega]
        rw [hZi] at q0
        have CF : ∀ q : Nat, Calls Try.prog 83 #[.pointer (some ⟨p, 0, none⟩), .agg #[.int .i64 D, .int .i64 bI]] (w5.drewN q) fun e W'' => e = .returned (.int .i64 ((L.set i (Z : Int)).getD bI 0)) ∧ Below (w5.drewN q).heap.size (w5.drewN q) W'' := by
          intro q
          have hk := HXL.out
          have e1 : gt (XS ++ [L.set i (Z : Int)]) D bI = (L.set i (Z : Int)).getD bI 0 := by unfold gt; rw [← hk, getD_last]
          have e2 : ((XS ++ [L.set i (Z : Int)]).getD D []).length = D + 1 := by rw [← hk, getD_last, hk]; exact HLL5.out
          have := far_any w.heap.size p _ _ _ _ (XS ++ [L.set i (Z : Int)]) D bI (w5.drewN q) (by simp; omega) (by simp; omega) (by rw [e2]; omega) (by rw [e2]; omega) (HD5.out.ch.step (below_drewN (Below.refl _ _) q))
          rw [e1] at this
          exact this
        obtain ⟨x0, x1, y0, y1, _⟩ := HD5.out.bx
        generalize hLn : L.set i (Z : Int) = Ln at *
        have HLn := Lib.hid hLn
        generalize hM : Ln.getD bI 0 = M at *
        have HM := Lib.hid hM
        have HCF := Lib.hid CF
        clear hLn hM CF
        go_cut [30, 56] from 49 to 56 (fun u0 u wx => u0 = .int .i64 i ∧ u = .bool (decide (M < Z)) ∧ Hid (Below w5.heap.size w5 wx))
        case first =>
          go_region_with (go_at_call 83; refine (HCF.out 1).mono ?_; rintro e w' ⟨rfl, hbf⟩; have q2 := below_cell (hbf.mono (Nat.le_refl _)) (show (w5.drewN 1).cell? ⟨g, i, none⟩ = _ from q0))
          all_goals go_wp2_with fail
          all_goals go_meet
          all_goals exact ⟨rfl, rfl, Lib.hid ((below_drewN (Below.refl _ w5) 1).trans (hbf.mono (Nat.le_refl _)))⟩
        case rest =>
          obtain ⟨rfl, rfl, HB⟩ := hcut
          clear q0 q1 x0 x1 y0 y1 HCF
          have HD6 := Lib.hid (HD5.out.step HB.out)
          have HBX6 := Lib.hid (hkeep HB.out HBX5.out)
          have HKE : Hid (∀ k, k ≠ i → Ln.getD k 0 = L.getD k 0) := Lib.hid (fun k hk => by
            rw [← HLn.out]; simp only [List.getD]; rw [List.getElem?_set_ne (Ne.symm hk)])
          have HTP' : Hid (∀ k, k < i + 1 → ∃ x y, Top (EE l r) D k x y ∧ Ln.getD k 0 = x + y) := Lib.hid (fun k hk => by
            by_cases e : k = i
            · subst e
              obtain ⟨x', y', ht, e⟩ := HTZ.out
              exact ⟨x', y', ht, by rw [hZi, e]⟩
            · rw [HKE.out k e]; exact HTP.out k (by omega))
          have HZI := Lib.hid hZi
          clear hZi HTP HTZ HLn HD5 HBX5 HLT CS'
          by_cases hMZ : M < (Z : Int)
          · have HMX' : Hid (∀ k, k < i + 1 → Ln.getD k 0 ≤ Ln.getD i 0) := Lib.hid (fun k hk => by
              rw [HZI.out]
              by_cases e : k = i
              · subst e; rw [HZI.out]; exact Int.le_refl _
              · rw [HKE.out k e]
                have h1 := HMX.out k (by omega)
                have h2 := HM.out
                rw [HKE.out bI (by rcases HBI.out with g | g <;> omega)] at h2
                omega)
            have s0 : wc.cell? ⟨wr.heap.size, 0, none⟩ = some (.int .i64 D) := by simp only [World.cell?, HBX6.out]; rfl
            have s1 : wc.cell? ⟨wr.heap.size, 1, none⟩ = some (.int .i64 i) := by simp only [World.cell?, HBX6.out]; rfl
            obtain ⟨x0, x1, y0, y1, _⟩ := HD6.out.bx
            have HD7 := Lib.hid (HD6.out.best D i)
            clear HMX HBI HBX6 HB HM HZI HKE
            go_wp2_with fail
            exact ⟨⟨i + 1, Ln, i, by push_cast; rfl, by omega, by omega, HLL5, HTP', HMX', Lib.hid (.inl (by omega)), HD7⟩, by simp only [intOf]; omega⟩
          · have HMX' : Hid (∀ k, k < i + 1 → Ln.getD k 0 ≤ Ln.getD bI 0) := Lib.hid (fun k hk => by
              rw [HM.out]
              by_cases e : k = i
              · subst e; rw [HZI.out]; omega
              · rw [HKE.out k e]
                have h1 := HMX.out k (by omega)
                have h2 := HM.out
                rw [HKE.out bI (by rcases HBI.out with g | g <;> omega)] at h2
                omega)
            have HBI' : Hid (bI < i + 1 ∨ bI = 0) := Lib.hid (by rcases HBI.out with g | g <;> omega)
            clear HMX HBI HBX6 HB HM HZI HKE
            go_wp2_with fail
            exact ⟨⟨i + 1, Ln, bI, by push_cast; rfl, by omega, by omega, HLL5, HTP', HMX', HBI', HD6⟩, by simp only [intOf]; omega⟩
      · obtain rfl : i = D + 1 := by omega
        have CF : ∀ q : Nat, Calls Try.prog 83 #[.pointer (some ⟨p, 0, none⟩), .agg #[.int .i64 D, .int .i64 bI]] (wr.drewN q) fun e W'' => e = .returned (.int .i64 (L.getD bI 0)) ∧ Below (wr.drewN q).heap.size (wr.drewN q) W'' := by
          intro q
          have hk := HXL.out
          have e1 : gt (XS ++ [L]) D bI = L.getD bI 0 := by unfold gt; rw [← hk, getD_last]
          have e2 : ((XS ++ [L]).getD D []).length = D + 1 := by rw [← hk, getD_last, hk]; exact HLL.out
          have := far_any w.heap.size p _ _ _ _ (XS ++ [L]) D bI (wr.drewN q) (by simp; omega) (by simp; omega) (by rw [e2]; omega) (by rw [e2]; omega) (HD.out.ch.step (below_drewN (Below.refl _ _) q))
          rw [e1] at this
          exact this
        have HGM : Hid (gt (XS ++ [L]) D bI = L.getD bI 0) := Lib.hid (by unfold gt; rw [← HXL.out, getD_last])
        have HO2 : Hid (Ok (EE l r) (XS ++ [L]) (D + 1)) := Lib.hid (by
          have hk := HXL.out
          have := Ok.snoc (L := L) (by rw [hk]; exact HOK.out : Ok (EE l r) XS XS.length) (by rw [hk]; exact HLL.out) (fun k h => by rw [hk]; exact HTP.out k (by omega))
          rw [hk] at this; exact this)
        obtain ⟨x0, x1, y0, y1, _⟩ := HD.out.bx
        obtain ⟨p0, p1, _⟩ := HD.out.ch.cells
        generalize hM : L.getD bI 0 = M at *
        have HM := Lib.hid hM
        have HCF := Lib.hid CF
        clear hM CF
        go_upto_region 17 with fail
        have HVV : Hid (Value.bool (M == IntKind.i64.wrap ((n : Int) + (m : Int))) = Value.bool (decide (M = (n : Int) + (m : Int)))) := Lib.hid (by rw [IntWalk.i64_in _ (by omega)]; rfl)
        go_cut [10, 73] from 59 to 73 (fun u0 u wx => u0 = .int .i64 D ∧ u = .bool (decide (M = (n : Int) + (m : Int))) ∧ Hid (Below wr.heap.size wr wx))
        case first =>
          go_region_with (go_at_call 83; refine (HCF.out 1).mono ?_; rintro e w' ⟨rfl, hbf⟩; have q2 := below_cell (hbf.mono (Nat.le_refl _)) (show (wr.drewN 1).cell? ⟨p, 0, none⟩ = _ from p0); have q3 := below_cell (hbf.mono (Nat.le_refl _)) (show (wr.drewN 1).cell? ⟨p, 1, none⟩ = _ from p1))
          all_goals go_wp2_with fail
          all_goals go_meet
          all_goals exact ⟨rfl, HVV.out, Lib.hid ((below_drewN (Below.refl _ wr) 1).trans (hbf.mono (Nat.le_refl _)))⟩
        case rest =>
          obtain ⟨rfl, rfl, HB⟩ := hcut
          clear x0 x1 y0 y1 p0 p1 HCF
          have HD6 := Lib.hid (HD.out.step HB.out)
          obtain ⟨x0, x1, y0, y1, z0, z1, z2, z3⟩ := HD6.out.bx
          by_cases hMn : M = (n : Int) + (m : Int)
          · have hgd : decide (M = (n : Int) + (m : Int)) = true := decide_eq_true hMn
            have HXX : Hid ((XS ++ [L]).length = D + 1) := Lib.hid (by simp [HXL.out])
            rw [hgd]
            clear hgd
            have HGM2 : Hid (gt (XS ++ [L]) D bI = (n : Int) + (m : Int)) := Lib.hid (by rw [HGM.out, hMn])
            clear hMn
            have HFG := Lib.hid (gb_set (j := 1) (gb_set (j := 0) HD6.out.gb (.inr (Nat.le_refl _)) (.int .i64 D)) (.inr (Nat.le_refl _)) (.int .i64 bI))
            have HFC := Lib.hid (HD6.out.ch.set2 HD6.out.x0 (.int .i64 D) (.int .i64 bI))
            have r0 : (wc.setCell ⟨w.heap.size, 0, none⟩ (.int .i64 D)).cell? ⟨w.heap.size, 0, none⟩ = some (.int .i64 D) := by simp [World.cell?, World.setCell, Array.getElem?_modify, HD6.out.x0]
            have r1 : ((wc.setCell ⟨w.heap.size, 0, none⟩ (.int .i64 D)).setCell ⟨w.heap.size, 1, none⟩ (.int .i64 bI)).cell? ⟨w.heap.size, 1, none⟩ = some (.int .i64 bI) := by simp [World.cell?, World.setCell, Array.getElem?_modify, HD6.out.x0]
            go_wp2
            exact bodyPost_ret (v := .agg #[.int .i64 D, .int .i64 bI]) (by simp [results, Try.results79, r0, r1, go_sem]) rfl ⟨D, bI, _, _, XS ++ [L], rfl, HFG.out, HFC.out, HXX.out, HO2.out, hbI, HGM2.out, HNR.out⟩
          · have hgd : decide (M = (n : Int) + (m : Int)) = false := decide_eq_false hMn
            have HNY : Hid (¬ R (EE l r) D n m) := Lib.hid (not_yet HLN.out HRM.out HNR.out HTP.out (fun k h => HMX.out k h) hbI HM.out hMn)
            have hDn : D + 1 ≤ n + m := by
              rcases Nat.lt_or_ge D (n + m) with g | g
              · exact g
              · have : D = n + m := by omega
                exact absurd HRE.out (by rw [← this]; exact HNY.out)
            rw [hgd]
            clear hgd
            have HXX : Hid ((XS ++ [L]).length = D + 1) := Lib.hid (by simp [HXL.out])
            have HNR' : Hid (∀ j, j < D + 1 → ¬ R (EE l r) j n m) := Lib.hid (fun j hj => by
              by_cases e : j = D
              · subst e; exact HNY.out
              · exact HNR.out j (by omega))
            go_wp2_with fail
            exact ⟨⟨D + 1, _, _, XS ++ [L], D, bI, by push_cast; rfl, hDn, HXX, HO2, HNR', HD6⟩, by simp only [intOf]; omega⟩
end Go.Proofs.Ytgodphfkhmahnaa.Df
