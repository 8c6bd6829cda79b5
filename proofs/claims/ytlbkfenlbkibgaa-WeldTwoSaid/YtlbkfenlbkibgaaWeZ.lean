/- Welding: All. -/
import Derived.Test.YtlbkfenlbkibgaaTkOpn
import Derived.Test.YtlbkfenlbkibgaaWeOp
set_option linter.unusedVariables false
set_option maxRecDepth 100000
set_option maxHeartbeats 8000000
namespace Go.Proofs.Ytlbkfenlbkibgaa.St
open Go.RowKit Mem Sm Tk Rt
set_option linter.unusedSimpArgs false
def trOf (q : Sq) : Tr := ⟨q.x, q.L, q.S⟩
theorem wm1 : wrap64 (-1) = -1 := by unfold wrap64; omega
theorem wm1' : wrap64 ((0 : Int) - 1) = -1 := by unfold wrap64; omega
structure AW (w : World) (SB : Nat) (oy : Obj) (W : World) : Prop where
 hb : Below w.heap.size w W
 hy : W.heap[SB]? = some oy
theorem AW.step {w : World} {SB : Nat} {oy : Obj} {W W' : World} (h : AW w SB oy W) (hb : Below W.heap.size W W') : AW w SB oy W' := ⟨h.hb.trans (hb.mono h.hb.size), hkeep hb h.hy⟩
theorem AW.grown {w : World} {SB : Nat} {oy : Obj} {W W' : World} {row : Option Nat} (h : AW w SB oy W) (hg : W.grownBy W' row) (h1 : ∀ g, row = some g → w.heap.size ≤ g ∧ g ≠ SB) : AW w SB oy W' :=
 ⟨grown_low h.hb h.hb.size hg (fun g e => (h1 g e).1), grown_at hg h.hy (fun e => (h1 _ e).2 rfl)⟩
theorem pi_head {n0 : Nat} {W : World} {g n cap : Nat} {ps : List Pi.Pt} {p : Pi.Pt} (h : Pi.Pts n0 W (.slice (some ⟨g, 0, none⟩) n cap) (ps ++ [p])) : Pi.At4 W g (ps.length * 11) p ∧ (∀ j, W.frozen? ⟨g, j, none⟩ = false) ∧ g < W.heap.size ∧ n0 ≤ g := by
 obtain ⟨A, c, e, _, hr⟩ := h.row
 simp only [Value.slice.injEq] at e
 obtain ⟨rfl, _, _⟩ := e
 obtain ⟨b, off, e2, hb, hc⟩ := hr.2 (by simp)
 simp only [Option.some.injEq, Addr.mk.injEq, and_true] at e2
 obtain ⟨rfl, rfl⟩ := e2
 have h1 := hc ps.length (by simp)
 have e3 : (ps ++ [p])[ps.length]'(by simp) = p := by simp
 rw [e3, Nat.zero_add] at h1
 refine ⟨h1, fun j => ?_, hb, (h.block g rfl).1⟩
 rcases h.2 with ⟨hv, _⟩ | ⟨g', cap', cur, hv, _, hg, _⟩
 ·cases hv
 ·simp only [Value.slice.injEq, Option.some.injEq, Addr.mk.injEq, and_true] at hv
  obtain ⟨rfl, _, _⟩ := hv
  unfold World.frozen?
  simp [hg]
theorem at4_keep {W W' : World} {g o : Nat} {p : Pi.Pt} (h : Pi.At4 W g o p) (hk : W'.heap[g]? = W.heap[g]?) : Pi.At4 W' g o p := h.keep (fun j => by unfold World.cell?; simp [hk])
theorem pi_form {n0 : Nat} {W : World} {pv : Value} {ps : List Pi.Pt} {p : Pi.Pt} (h : Pi.Pts n0 W pv (ps ++ [p])) : ∃ g cap, pv = .slice (some ⟨g, 0, none⟩) (ps.length + 1) cap := by
 rcases h.2 with ⟨_, hz⟩ | ⟨g, cap, cur, hv, _⟩
 ·simp at hz
 ·exact ⟨g, cap, by rw [hv]; simp⟩
theorem PInv.last {n0 : Nat} {W : World} {pv : Value} {ps : List Pi.Pt} {acc : List Tr} {p : Pi.Pt} {t : Tr} (h : PInv n0 W pv (ps ++ [p]) (acc ++ [t])) : PcOk n0 W p t := by
 have hlen : ps.length = acc.length := by have := h.len; simpa using this
 have := h.ok ps.length (by simp) (by simp [hlen])
 have e1 : (ps ++ [p])[ps.length]'(by simp) = p := by simp
 have e2 : (acc ++ [t])[ps.length]'(by simp [hlen]) = t := by simp [hlen]
 rwa [e1, e2] at this
theorem joined_ok {n0 : Nat} {W : World} {tx y : Sp} {tL K' : List Tk.Tk} {tS S' : List Mk} {Av : Option Addr} {cv : Nat} {NM : Nat} (hNM : (wayL tL K' (weldK tx y tL.length)).length = NM) (hok : pieceB tx y tL.length K'.length tS.length S'.length = true) (ht : Tks n0 W (.slice Av NM cv) (wayL tL K' (weldK tx y tL.length))) :
  PcOk n0 W ⟨wayN tx y (weldK tx y tL.length), Av, NM, cv, none, 0, 0, true⟩ (joinT ⟨tx, tL, tS⟩ ⟨y, K', S'⟩) :=
 ⟨rfl, hNM.symm, rfl, ht, Mks.nil, (joinT_shape (p := ⟨tx, tL, tS⟩) (q := ⟨y, K', S'⟩) hok).symm⟩
theorem all_any (l : List Sq) (A : Option Addr) (c : Nat) (w : World) (h : SqRow w A l.length l) (hsm : ∀ q ∈ l, q.n ≤ 20000 ∧ q.m ≤ 20000) (hl : l.length ≤ 1000) :
  Calls Try.prog 30 #[.slice A l.length c] w fun e w' => ∃ v pv ps, e = .returned v ∧ Ro.Pts w.heap.size w' v (ps.map stepOf) ∧ PInv w.heap.size w' pv ps (foldW (l.map trOf)) ∧ Below w.heap.size w w' := by
 have HR := Lib.hid h
 have HSM := Lib.hid hsm
 have hsmall : ∀ i, ∀ t ∈ foldW ((l.map trOf).take i), smallT t := fun i => foldW_small (fun t ht => by
  obtain ⟨q, hq, rfl⟩ := List.mem_map.1 (List.mem_of_mem_take ht)
  obtain ⟨j, hj, rfl⟩ := List.getElem_of_mem hq
  have h1 := hsm _ hq
  obtain ⟨b, off, _, _, hc⟩ := h.2 (by omega)
  have h2 := hc j hj
  rw [show sq l j = l[j] by simp [sq, List.getD, List.getElem?_eq_getElem hj]] at h2
  refine ⟨?_, ?_⟩
  ·show (l[j].L).length ≤ 20000; rw [h2.2.1.1]; exact h1.1
  ·show (l[j].S).length ≤ 20000; rw [h2.2.2.1.1]; exact h1.2)
 have hflen : ∀ i, (foldW ((l.map trOf).take i)).length ≤ i := fun i => Nat.le_trans (foldW_len _) (by rw [List.length_take]; omega)
 clear h hsm
 go_enter Try.func30, Try.ntmps30
 go_wp2_with fail
 go_loopw [3, 11] (fun pv iv wr => ∃ (i : Nat) (ps : List Pi.Pt), iv = .int .i64 i ∧ i ≤ l.length ∧ Hid (PInv w.heap.size wr pv ps (foldW ((l.map trOf).take i))) ∧ Hid (Below w.heap.size w wr)) (fun _ iv _ => l.length - (intOf iv).toNat)
 case atStart => exact ⟨0, [], rfl, by omega, Lib.hid PInv.nil, Lib.hid (Below.refl _ _)⟩
 case round =>
  obtain ⟨i, ps, rfl, hi, HP, HB⟩ := hrel
  by_cases h1 : (i : Int) < (l.length : Int)
  ·have hil : i < l.length := by omega
   have hsmi := hsmall i
   have hfl := hflen i
   have HTS : Hid (foldW ((l.map trOf).take (i + 1)) = wstep (foldW ((l.map trOf).take i)) (trOf (sq l i))) := Lib.hid (by
    rw [List.take_succ_eq_append_getElem (by simpa using hil), foldW_snoc]
    simp [sq, List.getD, List.getElem?_eq_getElem hil])
   have hqs : (sq l i).n ≤ 20000 ∧ (sq l i).m ≤ 20000 := by
    rw [show sq l i = l[i] by simp [sq, List.getD, List.getElem?_eq_getElem hil]]
    exact HSM.out _ (List.getElem_mem hil)
   obtain ⟨b, off, rfl, hbs, hc⟩ := (HR.out.below HB.out).2 (by omega)
   have hq := hc i hil
   obtain ⟨b0, off0, e0, _, hc0⟩ := HR.out.2 (by omega)
   have hq0 := hc0 i hil
   clear hc hc0 e0 hsmall hflen HSM HR
   generalize sq l i = q at hq hq0 hqs HTS
   generalize foldW ((l.map trOf).take i) = acc at *
   obtain ⟨⟨vk, vf, vt, vg, vh, vi, vm, vv⟩, K', S', A', B', n', m', c', d'⟩ := q
   obtain ⟨⟨y0, y1, y2, y3, y4⟩, y5, y6, y7, y8, y9⟩ := hq.cells
   have hKn := hq0.2.1.1
   have hSm := hq0.2.2.1.1
   simp only at hKn hSm hqs
   have HK0 := Lib.hid (show TRow w A' n' K' from hq0.2.1)
   have HM0 := Lib.hid (show MkRow w B' m' S' from hq0.2.2.1)
   clear hq hq0
   have hn' := hqs.1
   have hm' := hqs.2
   clear hqs
   simp only at y0 y1 y2 y3 y4 y5 y6 y7 y8 y9 HTS
   have i1 : (0 : Int) ≤ (i : Int) := by omega
   have hws := HB.out.size
   have hba := (Below.refl wr.heap.size wr).alloc (Nat.le_refl _) (.cells #[.int .i64 vk, .int .i64 vf, .int .i64 vt, .int .i64 vg, .int .i64 vh, .int .i64 vi, .int .i64 vm, .int .i64 vv, .slice A' n' c', .slice B' m' d'] 25)
   have HP1 := Lib.hid (HP.out.below hba)
   have HA1 := Lib.hid (show AW w wr.heap.size (.cells #[.int .i64 vk, .int .i64 vf, .int .i64 vt, .int .i64 vg, .int .i64 vh, .int .i64 vi, .int .i64 vm, .int .i64 vv, .slice A' n' c', .slice B' m' d'] 25) (wr.alloc (.cells #[.int .i64 vk, .int .i64 vf, .int .i64 vt, .int .i64 vg, .int .i64 vh, .int .i64 vi, .int .i64 vm, .int .i64 vv, .slice A' n' c', .slice B' m' d'] 25)) from ⟨HB.out.trans (hba.mono hws), heap_alloc_new wr (.cells #[.int .i64 vk, .int .i64 vf, .int .i64 vt, .int .i64 vg, .int .i64 vh, .int .i64 vi, .int .i64 vm, .int .i64 vv, .slice A' n' c', .slice B' m' d'] 25)⟩)
   have hsz : wr.heap.size < (wr.alloc (.cells #[.int .i64 vk, .int .i64 vf, .int .i64 vt, .int .i64 vg, .int .i64 vh, .int .i64 vi, .int .i64 vm, .int .i64 vv, .slice A' n' c', .slice B' m' d'] 25)).heap.size := by simp
   have CBG := fun W q1 q2 => begun_any ⟨vk, vf, vt, vg, vh, vi, vm, vv⟩ K' S' A' B' n' m' c' d' W (by omega) (by omega) q1 q2
   unfold BegunIs at CBG
   obtain ⟨SH, hSH⟩ : ∃ b, b = shapeB ⟨vk, vf, vt, vg, vh, vi, vm, vv⟩ n' m' := ⟨_, rfl⟩
   rw [← hSH] at CBG
   have HSH := Lib.hid hSH
   clear hSH hba HP HB
   unfold pcV pcC stV stC at CBG
   simp only at CBG
   go_upto_region 5 with fail
   clear y0 y1 y2 y3 y4 y5 y6 y7 y8 y9
   generalize wr.alloc (.cells #[.int .i64 vk, .int .i64 vf, .int .i64 vt, .int .i64 vg, .int .i64 vh, .int .i64 vi, .int .i64 vm, .int .i64 vv, .slice A' n' c', .slice B' m' d'] 25) = W1 at HP1 HA1 hsz ⊢
   generalize wr.heap.size = SB at HA1 hsz hws ⊢
   rcases List.eq_nil_or_concat ps with rfl | ⟨ps0, p, rfl⟩
   ·have hacc : acc = [] := List.eq_nil_of_length_eq_zero (by have := HP1.out.len; simpa using this.symm)
    subst hacc
    rw [wstep_nil] at HTS
    obtain ⟨A1, c1, hpv⟩ := HP1.out.row.form
    simp only [List.length_nil] at hpv
    subst hpv
    have hw0 := wm1
    have hw0' := wm1'
    obtain ⟨⟨o0, o1, o2, o3, o4⟩, o5, o6, o7, o8, o9⟩ := tenc HA1.out.hy
    go_wp2_with fail
    refine (CBG _ (HK0.out.below HA1.out.hb) (HM0.out.below HA1.out.hb)).mono ?_
    rintro e w7 ⟨s, t7, rfl, hs7, ht7, hb7⟩
    clear o0 o1 o2 o3 o4 o5 o6 o7 o8 o9
    obtain ⟨As, cs, hfs⟩ := hs7.form
    obtain ⟨Bt, ct, hft⟩ := ht7.form
    rw [hKn] at hfs
    rw [hSm] at hft
    subst hfs; subst hft
    have hws7 := HA1.out.hb.size
    have HA7 := Lib.hid (HA1.out.step hb7)
    have HP7 := Lib.hid (HP1.out.below hb7)
    have hnew : PcOk w.heap.size w7 ⟨⟨vk, vf, vt, vg, vh, vi, vm, vv⟩, As, n', cs, Bt, m', ct, SH⟩ ⟨⟨vk, vf, vt, vg, vh, vi, vm, vv⟩, K', S'⟩ := ⟨rfl, hKn.symm, hSm.symm, hs7.lower hws7, ht7.lower hws7, by show SH = shapeB _ K'.length S'.length; rw [hKn, hSm]; exact HSH.out⟩
    have hnewb : ∀ g, ownA ⟨⟨vk, vf, vt, vg, vh, vi, vm, vv⟩, As, n', cs, Bt, m', ct, SH⟩ = some g → ∀ j (hj : j < (([] : List Pi.Pt)).length), ownA (([] : List Pi.Pt))[j] ≠ some g := fun g e j hj e2 => by
     have h3 := (hs7.block g e).1
     have h4 := ((HP1.out.ok j hj (by rw [← HP1.out.len]; exact hj)).l.block g e2).2.1
     omega
    have hba8 := (Below.refl w7.heap.size w7).alloc (Nat.le_refl _) (.cells #[.int .i64 vk, .int .i64 vf, .int .i64 vt, .int .i64 vg, .int .i64 vh, .int .i64 vi, .int .i64 vm, .int .i64 vv, .slice As n' cs, .slice Bt m' ct, .bool SH] 103)
    have HAz := Lib.hid (HA7.out.step hba8)
    have HPz := Lib.hid (HP7.out.below hba8)
    have HNW8 := Lib.hid (hnew.below hba8)
    have HNB := Lib.hid hnewb
    have HPL := Lib.hid (piece_lit w7 ⟨⟨vk, vf, vt, vg, vh, vi, vm, vv⟩, As, n', cs, Bt, m', ct, SH⟩)
    have hlps : (([] : List Pi.Pt)).length ≤ 100000 := by simp
    clear hs7 ht7 hb7 hba8 hnew hnewb HA1 HP1 HA7 HP7 CBG
    go_wp2_with (at_builtin; (refine Pi.wpList_app_pt rfl (.tmp 34) (.tmp 37) rfl w.heap.size _ (([] : List Pi.Pt)) rfl HPz.out.row (some ⟨w7.heap.size, 0, none⟩) 1 1 [⟨⟨vk, vf, vt, vg, vh, vi, vm, vv⟩, As, n', cs, Bt, m', ct, SH⟩] rfl HPL.out (by omega) (HAz.out.hb.size) ?_); intro v' w9 hown' hg' hat)
    have HP9 := Lib.hid (HPz.out.more HNW8.out HNB.out hown' hg')
    have HB9 := Lib.hid (grown_low HAz.out.hb HAz.out.hb.size hg' (fun g e => (HPz.out.row.block g e).1))
    have HP10 : Hid (PInv w.heap.size w9 v' (([] : List Pi.Pt) ++ [⟨⟨vk, vf, vt, vg, vh, vi, vm, vv⟩, As, n', cs, Bt, m', ct, SH⟩]) (foldW ((l.map trOf).take (i + 1)))) := Lib.hid (by have h9 := HP9.out; have e9 := HTS.out; rw [e9]; exact h9)
    clear hown' hg' hat HAz HPz HNW8 HNB HPL HP9 HTS
    exact ⟨⟨i + 1, ([] : List Pi.Pt) ++ [⟨⟨vk, vf, vt, vg, vh, vi, vm, vv⟩, As, n', cs, Bt, m', ct, SH⟩], by push_cast; rfl, by omega, HP10, HB9⟩, by simp only [intOf]; omega⟩
   ·simp only [List.concat_eq_append] at HP1
    obtain ⟨acc0, t, rfl⟩ : ∃ a t, acc = a ++ [t] := by
     rcases List.eq_nil_or_concat acc with h | ⟨a, t, h⟩
     ·have := HP1.out.len; rw [h] at this; simp at this
     ·exact ⟨a, t, by rw [h, List.concat_eq_append]⟩
    have hst := hsmi t (by simp)
    obtain ⟨g0, cap0, hpv⟩ := pi_form HP1.out.row
    subst hpv
    have hlen0 : ps0.length = acc0.length := by have := HP1.out.len; simpa using this
    have hkb : ps0.length ≤ 1000 := by
     have h2 := hfl
     rw [List.length_append] at h2
     omega
    have hp0 : PcOk w.heap.size W1 p t := by
     have := HP1.out.ok ps0.length (by simp) (by simp [hlen0])
     have e1 : (ps0 ++ [p])[ps0.length]'(by simp) = p := by simp
     have e2 : (acc0 ++ [t])[ps0.length]'(by simp [hlen0]) = t := by simp [hlen0]
     rwa [e1, e2] at this
    obtain ⟨tx, pA, pn, pc, pB, pm, pd, pb⟩ := p
    obtain ⟨ty, tL, tS⟩ := t
    obtain ⟨e1, e2, e3, hpl, hpS, e6⟩ := hp0
    simp only at e1 e2 e3 e6 hpl hpS hst
    subst e1; subst e2; subst e3; subst e6
    have hst1 : tL.length ≤ 20000 := hst.1
    obtain ⟨hat, _, hgl, hgn⟩ := pi_head HP1.out.row
    have hne : g0 ≠ SB := fun e => by
     obtain ⟨cs, fr, e1⟩ := pi_block HP1.out.row (show _ = some g0 from rfl)
     rw [e, HA1.out.hy] at e1
     injection e1 with e1
     injection e1 with _ e6 _
     exact absurd e6 (by decide)
    have hlow : 0 < n' → ∀ b off, A' = some ⟨b, off, none⟩ → b < w.heap.size := fun h0 b off e => by
     obtain ⟨b2, off2, e2, hb2, _⟩ := HK0.out.2 h0
     rw [e] at e2; cases e2; exact hb2
    have CWT := fun W q1 q2 q3 q4 q5 => with_any tx ⟨vk, vf, vt, vg, vh, vi, vm, vv⟩ tL K' S' w.heap.size pA A' pB B' n' tS.length m' pc c' pd d' (shapeB tx tL.length tS.length) W (by omega) (by omega) (by omega) q1 rfl q2 q3 q4 q5
    unfold WithIs pcV pcC stV stC at CWT
    simp only at CWT
    obtain ⟨k, hk⟩ : ∃ k, ps0.length = k := ⟨_, rfl⟩
    rw [hk] at hat hkb HP1
    have hk0 : (0 : Int) ≤ (k : Int) := by omega
    have hk1 : (k : Int) < (k : Int) + 1 := by omega
    rw [hk]
    clear hpl hpS hws
    go_upto_region 7 with fail
    refine wp_region_held_drew (S := fun W => Pi.At4 W g0 (k * 11) ⟨tx, pA, tL.length, pc, pB, tS.length, pd, shapeB tx tL.length tS.length⟩ ∧ W.heap[SB]? = some (.cells #[.int .i64 vk, .int .i64 vf, .int .i64 vt, .int .i64 vg, .int .i64 vh, .int .i64 vi, .int .i64 vm, .int .i64 vv, .slice A' n' c', .slice B' m' d'] 25)) (by kernel_rfl) ⟨hat, HA1.out.hy⟩ (fun hHeld => ?_)
    have HA := Lib.hid (HA1.out.step (below_drewN (Below.refl _ _) 1))
    have HP := Lib.hid (HP1.out.below (below_drewN (Below.refl _ _) 1))
    change Hid (AW w SB _ W1.drew) at HA
    change Hid (PInv w.heap.size W1.drew _ _ _) at HP
    have hsz : SB < W1.drew.heap.size := hsz
    have hgl : g0 < W1.drew.heap.size := hgl
    clear HA1 HP1 hat
    generalize W1.drew = W at HA HP hHeld hsz hgl ⊢
    refine tk 0 (v := ?_) rfl (by kernel_rfl) (fun _ _ _ h => h) ?_ hHeld ?_
    rotate_left
    ·(intro W hSw; clear hSw; go_simp; try with_reducible rfl)
    refine tk 1 (v := ?_) rfl (by kernel_rfl) (fun _ _ _ h => h) ?_ hHeld ?_
    rotate_left
    ·(intro W hSw; clear hSw; go_simp; try with_reducible rfl)
    refine tk 2 (v := ?_) rfl (by kernel_rfl) (fun _ _ _ h => h) ?_ hHeld ?_
    rotate_left
    ·(intro W hSw; clear hSw; go_simp; try with_reducible rfl)
    refine tk 3 (v := ?_) rfl (by kernel_rfl) (fun _ _ _ h => h) ?_ hHeld ?_
    rotate_left
    ·(intro W hSw; (try dsimp only at hSw); obtain ⟨hs1, hs2⟩ := hSw; obtain ⟨p0, p1, p2, p3, p4, p5, p6, p7, p8, p9, p10⟩ := pi_cells hs1; clear hs1 hs2; go_simp; try with_reducible rfl)
    refine tk 4 (v := ?_) rfl (by kernel_rfl) (fun _ _ _ h => h) ?_ hHeld ?_
    rotate_left
    ·(intro W hSw; (try dsimp only at hSw); obtain ⟨hs1, hs2⟩ := hSw; obtain ⟨⟨z0, z1, z2, z3, z4⟩, z5, z6, z7, z8, z9⟩ := tenc hs2; clear hs1 hs2; go_simp; try with_reducible rfl)
    refine wpAnyH_ready (rs := [5, 9]) (by kernel_rfl) (by simp) ?_
    refine AllReadyH.cons rfl (fun K hK => ?_) (AllReadyH.cons rfl (fun K hK => ?_) AllReadyH.nil)
    ·go_simp
     have hlast := HP.out.last
     refine (CWT _ HA.out.hb.size hlast.l (HK0.out.below HA.out.hb) (HM0.out.below HA.out.hb) (fun h0 b off e e2 => by have := hlow h0 b off e; have := (hlast.l.block _ e2).1; omega)).mono ?_
     rintro e W2 hor
     have hrw : ∀ g, (Value.slice pA tL.length pc).ownBlock = some g → w.heap.size ≤ g ∧ g ≠ SB ∧ g ≠ g0 := fun g e => by
      obtain ⟨cs, fr, e1⟩ := tk_block hlast.l e
      refine ⟨(hlast.l.block g e).1, fun e2 => ?_, fun e2 => ?_⟩
      ·rw [e2, HA.out.hy] at e1
       injection e1 with e1
       injection e1 with _ e6 _
       exact absurd e6 (by decide)
      ·obtain ⟨cs', fr', e3⟩ := pi_block HP.out.row (show _ = some g0 from rfl)
       rw [e2, e3] at e1
       injection e1 with e1
       injection e1 with _ e6 _
       exact absurd e6 (by decide)
     rcases hor with ⟨hok, v, rfl, htv, hgv, hov⟩ | ⟨hok, rfl, hbv⟩
     ·obtain ⟨Av, cv, rfl⟩ := htv.form
      generalize hNM : (wayL tL K' (weldK tx ⟨vk, vf, vt, vg, vh, vi, vm, vv⟩ tL.length)).length = NM at *
      have hPC := joined_ok (tS := tS) (S' := S') hNM (by rw [hKn, hSm]; exact hok) htv
      have hokT : okT ⟨tx, tL, tS⟩ (trOf ⟨⟨vk, vf, vt, vg, vh, vi, vm, vv⟩, K', S', A', B', n', m', c', d'⟩) = true := by
       show pieceB tx _ tL.length K'.length tS.length S'.length = true
       rw [hKn, hSm]; exact hok
      have HTS2 := Lib.hid (HTS.out.trans (wstep_yes hokT))
      have HJ := Lib.hid (HP.out.join hgv hPC (fun g e => hov g e))
      have HAj := Lib.hid (HA.out.grown hgv (fun g e => ⟨(hrw g e).1, (hrw g e).2.1⟩))
      have hS1 := And.intro (at4_keep hHeld.1 (hgv.block g0 hgl (fun e => (hrw _ e.symm).2.2 rfl))) (grown_at hgv hHeld.2 (fun e => (hrw _ e).2.1 rfl))
      have hwsz := hgv.size
      clear htv hgv hov hok hPC hokT HP HA HTS hHeld hrw hlast CWT CBG
      have HA := HAj
      clear HAj
      generalize wayN tx ⟨vk, vf, vt, vg, vh, vi, vm, vv⟩ (weldK tx ⟨vk, vf, vt, vg, vh, vi, vm, vv⟩ tL.length) = Z at *
      have hsz3 : SB < W2.heap.size := by omega
      have hgl3 : g0 < W2.heap.size := by omega
      go_wp2_with fail
      refine hK.out _ _ hS1 (fun hHeld => ?_)
      clear hK K hS1
      refine tk 6 (v := ?_) rfl (by kernel_rfl) (fun _ _ _ h => h) ?_ hHeld ?_
      rotate_left
      ·(intro W hSw; clear hSw; go_simp; try with_reducible rfl)
      refine tk 7 (v := ?_) rfl (by kernel_rfl) (fun _ _ _ h => h) ?_ hHeld ?_
      rotate_left
      ·(intro W hSw; clear hSw; go_simp; try with_reducible rfl)
      refine tk 8 (v := ?_) rfl (by kernel_rfl) (fun _ _ _ h => h) ?_ hHeld ?_
      rotate_left
      ·(intro W hSw; clear hSw; go_simp; try with_reducible rfl)
      refine wpAnyH_ready (rs := [9]) (by kernel_rfl) (by simp) ?_
      refine AllReadyH.cons rfl (fun K hK => ?_) AllReadyH.nil
      clear hsz hgl
      have hsz := hsz3
      have hgl := hgl3
      clear hsz3 hgl3 hwsz
      have hba := (Below.refl W2.heap.size W2).alloc (Nat.le_refl _) (.cells #[.int .i64 0, .int .i64 0, .int .i64 0, .int .i64 0, .int .i64 0, .int .i64 0, .int .i64 0, .int .i64 0, .slice none 0 0, .slice none 0 0, .bool false] 103)
      have HP0 := Lib.hid (heap_alloc_new W2 (.cells #[.int .i64 0, .int .i64 0, .int .i64 0, .int .i64 0, .int .i64 0, .int .i64 0, .int .i64 0, .int .i64 0, .slice none 0 0, .slice none 0 0, .bool false] 103))
      have hlt : W2.heap.size < (W2.alloc (.cells #[.int .i64 0, .int .i64 0, .int .i64 0, .int .i64 0, .int .i64 0, .int .i64 0, .int .i64 0, .int .i64 0, .slice none 0 0, .slice none 0 0, .bool false] 103)).heap.size := by simp
      have HAa := Lib.hid (HA.out.step hba)
      have HPa := Lib.hid (HJ.out.below hba)
      have hS1 := And.intro (at4_keep hHeld.1 (hba.block g0 hgl)) (hkeep hba hHeld.2)
      have hPB1 : w.heap.size ≤ W2.heap.size := HA.out.hb.size
      clear HA HJ hHeld hba
      have HA := HAa
      have HJ := HPa
      clear HAa HPa
      go_simp
      refine hK.out _ _ hS1 (fun hHeld => ?_)
      clear hK K hS1
      generalize W2.alloc (.cells #[.int .i64 0, .int .i64 0, .int .i64 0, .int .i64 0, .int .i64 0, .int .i64 0, .int .i64 0, .int .i64 0, .slice none 0 0, .slice none 0 0, .bool false] 103) = WY at HA HJ HP0 hHeld hlt ⊢
      generalize W2.heap.size = PB at HP0 hlt hsz hgl hPB1 ⊢
      have hsz2 : SB < WY.heap.size := by omega
      have hgl2 : g0 < WY.heap.size := by omega
      have hPS : PB ≠ SB := by omega
      have hPG : PB ≠ g0 := by omega
      refine wpAnyH_ready (rs := [10]) (by kernel_rfl) (by simp) ?_
      refine AllReadyH.cons rfl (fun K hK => ?_) AllReadyH.nil
      have hfr := elevf HP0.out
      have f0 := hfr.1
      have f1 := hfr.2.1
      have f2 := hfr.2.2.1
      have f3 := hfr.2.2.2.1
      have f4 := hfr.2.2.2.2.1
      have f5 := hfr.2.2.2.2.2.1
      have f6 := hfr.2.2.2.2.2.2.1
      have f7 := hfr.2.2.2.2.2.2.2.1
      have f8 := hfr.2.2.2.2.2.2.2.2.1
      have f9 := hfr.2.2.2.2.2.2.2.2.2.1
      have f10 := hfr.2.2.2.2.2.2.2.2.2.2
      have hcl := elev HP0.out
      have z0 := hcl.1
      have z1 := hcl.2.1
      have z2 := hcl.2.2.1
      have z3 := hcl.2.2.2.1
      have z4 := hcl.2.2.2.2.1
      have z5 := hcl.2.2.2.2.2.1
      have z6 := hcl.2.2.2.2.2.2.1
      have z7 := hcl.2.2.2.2.2.2.2.1
      have z8 := hcl.2.2.2.2.2.2.2.2.1
      have z9 := hcl.2.2.2.2.2.2.2.2.2.1
      have z10 := hcl.2.2.2.2.2.2.2.2.2.2
      clear hfr hcl
      go_simp
      have hS8 := And.intro (at4_keep hHeld.1 (put11_else (B := PB) (k := g0) (.int .i64 Z.kind) (.int .i64 Z.from_) (.int .i64 Z.to_) (.int .i64 Z.gf) (.int .i64 Z.gt) (.int .i64 Z.ins) (.int .i64 Z.mark) (.int .i64 Z.val) (.slice Av NM cv) (.slice none 0 0) (.bool true) (fun e => hPG e.symm))) ((put11_else (B := PB) (k := SB) (.int .i64 Z.kind) (.int .i64 Z.from_) (.int .i64 Z.to_) (.int .i64 Z.gf) (.int .i64 Z.gt) (.int .i64 Z.ins) (.int .i64 Z.mark) (.int .i64 Z.val) (.slice Av NM cv) (.slice none 0 0) (.bool true) (fun e => hPS e.symm)).trans hHeld.2)
      have hP8 := put11_at HP0.out (.int .i64 Z.kind) (.int .i64 Z.from_) (.int .i64 Z.to_) (.int .i64 Z.gf) (.int .i64 Z.gt) (.int .i64 Z.ins) (.int .i64 Z.mark) (.int .i64 Z.val) (.slice Av NM cv) (.slice none 0 0) (.bool true)
      have hI8 := HJ.out.other (grown_put11 (W := WY) (B := PB) (.int .i64 Z.kind) (.int .i64 Z.from_) (.int .i64 Z.to_) (.int .i64 Z.gf) (.int .i64 Z.gt) (.int .i64 Z.ins) (.int .i64 Z.mark) (.int .i64 Z.val) (.slice Av NM cv) (.slice none 0 0) (.bool true)) HP0.out (fun e => hPG (Option.some.inj e).symm)
      have hA8 := HA.out.grown (grown_put11 (W := WY) (B := PB) (.int .i64 Z.kind) (.int .i64 Z.from_) (.int .i64 Z.to_) (.int .i64 Z.gf) (.int .i64 Z.gt) (.int .i64 Z.ins) (.int .i64 Z.mark) (.int .i64 Z.val) (.slice Av NM cv) (.slice none 0 0) (.bool true)) (fun g e => by cases e; exact ⟨hPB1, hPS⟩)
      have hz8 : (put11 WY PB (.int .i64 Z.kind) (.int .i64 Z.from_) (.int .i64 Z.to_) (.int .i64 Z.gf) (.int .i64 Z.gt) (.int .i64 Z.ins) (.int .i64 Z.mark) (.int .i64 Z.val) (.slice Av NM cv) (.slice none 0 0) (.bool true)).heap.size = WY.heap.size := by unfold put11; simp [World.setCell]
      unfold put11 at hS8 hP8 hI8 hA8 hz8
      have HP8 := Lib.hid hP8
      have HI8 := Lib.hid hI8
      have HA8 := Lib.hid hA8
      refine hK.out _ _ hS8 (fun hHeld => ?_)
      clear hK K hS8 hP8 hI8 hA8 HP0 HJ HA hz8 z0 z1 z2 z3 z4 z5 z6 z7 z8 z9 z10 f0 f1 f2 f3 f4 f5 f6 f7 f8 f9 f10
      generalize World.setCell _ _ _ = W8 at HP8 HI8 HA8 hHeld ⊢
      refine wpAnyH_ready (rs := [11]) (by kernel_rfl) (by simp) ?_
      refine AllReadyH.cons rfl (fun K hK => ?_) AllReadyH.nil
      go_simp
      refine hK.out _ _ hHeld (fun hHeld => ?_)
      clear hK K
      refine wpAnyH_done (by kernel_rfl) ?_ _
      have HST := HI8.out.store
      have hfz := (pi_head HI8.out.row).2.1
      have g0z := hfz (k * 11)
      have g1z := hfz (k * 11 + 1)
      have g2z := hfz (k * 11 + 2)
      have g3z := hfz (k * 11 + 3)
      have g4z := hfz (k * 11 + 4)
      have g5z := hfz (k * 11 + 5)
      have g6z := hfz (k * 11 + 6)
      have g7z := hfz (k * 11 + 7)
      have g8z := hfz (k * 11 + 8)
      have g9z := hfz (k * 11 + 9)
      have g10z := hfz (k * 11 + 10)
      obtain ⟨q0, q1, q2, q3, q4, q5, q6, q7, q8, q9, q10⟩ := pi_cells hHeld.1
      have hcl := elev HP8.out
      have p0 := hcl.1
      have p1 := hcl.2.1
      have p2 := hcl.2.2.1
      have p3 := hcl.2.2.2.1
      have p4 := hcl.2.2.2.2.1
      have p5 := hcl.2.2.2.2.2.1
      have p6 := hcl.2.2.2.2.2.2.1
      have p7 := hcl.2.2.2.2.2.2.2.1
      have p8 := hcl.2.2.2.2.2.2.2.2.1
      have p9 := hcl.2.2.2.2.2.2.2.2.2.1
      have p10 := hcl.2.2.2.2.2.2.2.2.2.2
      clear hcl hfz
      rw [hk] at HST
      have hBS := grown_low HA8.out.hb HA8.out.hb.size HST.2 (fun g e => by cases e; exact hgn)
      simp only [Pi.pcells, World.setCells, Nat.add_assoc, Nat.reduceAdd] at HST hBS
      have HPI : Hid (PInv w.heap.size _ (.slice (some ⟨g0, 0, none⟩) (k + 1) cap0) (ps0 ++ [⟨Z, Av, NM, cv, none, 0, 0, true⟩]) (foldW ((l.map trOf).take (i + 1)))) := Lib.hid (by rw [HTS2.out]; exact HST.1)
      have HBI := Lib.hid hBS
      clear HST hBS HI8 HA8 HP8 hHeld HTS2 HK0 HM0 HSH
      go_wp2_with fail
      exact ⟨⟨i + 1, ps0 ++ [⟨Z, Av, NM, cv, none, 0, 0, true⟩], by push_cast; rfl, by omega, HPI, HBI⟩, by simp only [intOf]; omega⟩
     ·have hokT : okT ⟨tx, tL, tS⟩ (trOf ⟨⟨vk, vf, vt, vg, vh, vi, vm, vv⟩, K', S', A', B', n', m', c', d'⟩) = false := by
       show pieceB tx _ tL.length K'.length tS.length S'.length = false
       rw [hKn, hSm]; exact hok
      have HTS2 := Lib.hid (HTS.out.trans (wstep_no hokT))
      have HJ := Lib.hid (HP.out.below hbv)
      have HAj := Lib.hid (HA.out.step hbv)
      have hS1 := And.intro (at4_keep hHeld.1 (hbv.block g0 hgl)) (hkeep hbv hHeld.2)
      have hwsz := hbv.size
      clear hbv hok hokT HP HA HTS hHeld hrw hlast CWT
      have HA := HAj
      clear HAj
      have hsz3 : SB < W2.heap.size := by omega
      have hgl3 : g0 < W2.heap.size := by omega
      go_wp2_with fail
      refine hK.out _ _ hS1 (fun hHeld => ?_)
      clear hK K hS1
      refine tk 6 (v := ?_) rfl (by kernel_rfl) (fun _ _ _ h => h) ?_ hHeld ?_
      rotate_left
      ·(intro W hSw; clear hSw; go_simp; try with_reducible rfl)
      refine tk 7 (v := ?_) rfl (by kernel_rfl) (fun _ _ _ h => h) ?_ hHeld ?_
      rotate_left
      ·(intro W hSw; clear hSw; go_simp; try with_reducible rfl)
      refine tk 8 (v := ?_) rfl (by kernel_rfl) (fun _ _ _ h => h) ?_ hHeld ?_
      rotate_left
      ·(intro W hSw; clear hSw; go_simp; try with_reducible rfl)
      refine wpAnyH_ready (rs := [9]) (by kernel_rfl) (by simp) ?_
      refine AllReadyH.cons rfl (fun K hK => ?_) AllReadyH.nil
      clear hsz hgl
      have hsz := hsz3
      have hgl := hgl3
      clear hsz3 hgl3 hwsz
      have hba := (Below.refl W2.heap.size W2).alloc (Nat.le_refl _) (.cells #[.int .i64 0, .int .i64 0, .int .i64 0, .int .i64 0, .int .i64 0, .int .i64 0, .int .i64 0, .int .i64 0, .slice none 0 0, .slice none 0 0, .bool false] 103)
      have HP0 := Lib.hid (heap_alloc_new W2 (.cells #[.int .i64 0, .int .i64 0, .int .i64 0, .int .i64 0, .int .i64 0, .int .i64 0, .int .i64 0, .int .i64 0, .slice none 0 0, .slice none 0 0, .bool false] 103))
      have hlt : W2.heap.size < (W2.alloc (.cells #[.int .i64 0, .int .i64 0, .int .i64 0, .int .i64 0, .int .i64 0, .int .i64 0, .int .i64 0, .int .i64 0, .slice none 0 0, .slice none 0 0, .bool false] 103)).heap.size := by simp
      have HAa := Lib.hid (HA.out.step hba)
      have HPa := Lib.hid (HJ.out.below hba)
      have hS1 := And.intro (at4_keep hHeld.1 (hba.block g0 hgl)) (hkeep hba hHeld.2)
      have hPB1 : w.heap.size ≤ W2.heap.size := HA.out.hb.size
      clear HA HJ hHeld hba
      have HA := HAa
      have HJ := HPa
      clear HAa HPa
      go_simp
      refine hK.out _ _ hS1 (fun hHeld => ?_)
      clear hK K hS1
      generalize W2.alloc (.cells #[.int .i64 0, .int .i64 0, .int .i64 0, .int .i64 0, .int .i64 0, .int .i64 0, .int .i64 0, .int .i64 0, .slice none 0 0, .slice none 0 0, .bool false] 103) = WY at HA HJ HP0 hHeld hlt ⊢
      generalize W2.heap.size = PB at HP0 hlt hsz hgl hPB1 ⊢
      have hsz2 : SB < WY.heap.size := by omega
      have hgl2 : g0 < WY.heap.size := by omega
      have hPS : PB ≠ SB := by omega
      have hPG : PB ≠ g0 := by omega
      refine wpAnyH_ready (rs := [10]) (by kernel_rfl) (by simp) ?_
      refine AllReadyH.cons rfl (fun K hK => ?_) AllReadyH.nil
      have hfr := elevf HP0.out
      have f0 := hfr.1
      have f1 := hfr.2.1
      have f2 := hfr.2.2.1
      have f3 := hfr.2.2.2.1
      have f4 := hfr.2.2.2.2.1
      have f5 := hfr.2.2.2.2.2.1
      have f6 := hfr.2.2.2.2.2.2.1
      have f7 := hfr.2.2.2.2.2.2.2.1
      have f8 := hfr.2.2.2.2.2.2.2.2.1
      have f9 := hfr.2.2.2.2.2.2.2.2.2.1
      have f10 := hfr.2.2.2.2.2.2.2.2.2.2
      have hcl := elev HP0.out
      have z0 := hcl.1
      have z1 := hcl.2.1
      have z2 := hcl.2.2.1
      have z3 := hcl.2.2.2.1
      have z4 := hcl.2.2.2.2.1
      have z5 := hcl.2.2.2.2.2.1
      have z6 := hcl.2.2.2.2.2.2.1
      have z7 := hcl.2.2.2.2.2.2.2.1
      have z8 := hcl.2.2.2.2.2.2.2.2.1
      have z9 := hcl.2.2.2.2.2.2.2.2.2.1
      have z10 := hcl.2.2.2.2.2.2.2.2.2.2
      clear hfr hcl
      go_simp
      have hS8 := And.intro (at4_keep hHeld.1 (put11_else (B := PB) (k := g0) (.int .i64 0) (.int .i64 0) (.int .i64 0) (.int .i64 0) (.int .i64 0) (.int .i64 0) (.int .i64 0) (.int .i64 0) (.slice none 0 0) (.slice none 0 0) (.bool false) (fun e => hPG e.symm))) ((put11_else (B := PB) (k := SB) (.int .i64 0) (.int .i64 0) (.int .i64 0) (.int .i64 0) (.int .i64 0) (.int .i64 0) (.int .i64 0) (.int .i64 0) (.slice none 0 0) (.slice none 0 0) (.bool false) (fun e => hPS e.symm)).trans hHeld.2)
      have hP8 := put11_at HP0.out (.int .i64 0) (.int .i64 0) (.int .i64 0) (.int .i64 0) (.int .i64 0) (.int .i64 0) (.int .i64 0) (.int .i64 0) (.slice none 0 0) (.slice none 0 0) (.bool false)
      have hI8 := HJ.out.other (grown_put11 (W := WY) (B := PB) (.int .i64 0) (.int .i64 0) (.int .i64 0) (.int .i64 0) (.int .i64 0) (.int .i64 0) (.int .i64 0) (.int .i64 0) (.slice none 0 0) (.slice none 0 0) (.bool false)) HP0.out (fun e => hPG (Option.some.inj e).symm)
      have hA8 := HA.out.grown (grown_put11 (W := WY) (B := PB) (.int .i64 0) (.int .i64 0) (.int .i64 0) (.int .i64 0) (.int .i64 0) (.int .i64 0) (.int .i64 0) (.int .i64 0) (.slice none 0 0) (.slice none 0 0) (.bool false)) (fun g e => by cases e; exact ⟨hPB1, hPS⟩)
      have hz8 : (put11 WY PB (.int .i64 0) (.int .i64 0) (.int .i64 0) (.int .i64 0) (.int .i64 0) (.int .i64 0) (.int .i64 0) (.int .i64 0) (.slice none 0 0) (.slice none 0 0) (.bool false)).heap.size = WY.heap.size := by unfold put11; simp [World.setCell]
      unfold put11 at hS8 hP8 hI8 hA8 hz8
      have HP8 := Lib.hid hP8
      have HI8 := Lib.hid hI8
      have HA8 := Lib.hid hA8
      refine hK.out _ _ hS8 (fun hHeld => ?_)
      clear hK K hS8 hP8 hI8 hA8 HP0 HJ HA hz8 z0 z1 z2 z3 z4 z5 z6 z7 z8 z9 z10 f0 f1 f2 f3 f4 f5 f6 f7 f8 f9 f10
      generalize World.setCell _ _ _ = W8 at HP8 HI8 HA8 hHeld ⊢
      refine wpAnyH_ready (rs := [11]) (by kernel_rfl) (by simp) ?_
      refine AllReadyH.cons rfl (fun K hK => ?_) AllReadyH.nil
      go_simp
      refine hK.out _ _ hHeld (fun hHeld => ?_)
      clear hK K
      refine wpAnyH_done (by kernel_rfl) ?_ _
      have HTS := HTS2
      clear HTS2
      obtain ⟨⟨o0, o1, o2, o3, o4⟩, o5, o6, o7, o8, o9⟩ := tenc HA8.out.hy
      go_wp2_with fail
      refine (CBG _ (HK0.out.below HA8.out.hb) (HM0.out.below HA8.out.hb)).mono ?_
      rintro e w7 ⟨s, t7, rfl, hs7, ht7, hb7⟩
      clear hHeld HP8
      clear o0 o1 o2 o3 o4 o5 o6 o7 o8 o9
      obtain ⟨As, cs, hfs⟩ := hs7.form
      obtain ⟨Bt, ct, hft⟩ := ht7.form
      rw [hKn] at hfs
      rw [hSm] at hft
      subst hfs; subst hft
      have hws7 := HA8.out.hb.size
      have HA7 := Lib.hid (HA8.out.step hb7)
      have HP7 := Lib.hid (HI8.out.below hb7)
      have hnew : PcOk w.heap.size w7 ⟨⟨vk, vf, vt, vg, vh, vi, vm, vv⟩, As, n', cs, Bt, m', ct, SH⟩ ⟨⟨vk, vf, vt, vg, vh, vi, vm, vv⟩, K', S'⟩ := ⟨rfl, hKn.symm, hSm.symm, hs7.lower hws7, ht7.lower hws7, by show SH = shapeB _ K'.length S'.length; rw [hKn, hSm]; exact HSH.out⟩
      have hnewb : ∀ g, ownA ⟨⟨vk, vf, vt, vg, vh, vi, vm, vv⟩, As, n', cs, Bt, m', ct, SH⟩ = some g → ∀ j (hj : j < (ps0 ++ [(⟨tx, pA, tL.length, pc, pB, tS.length, pd, shapeB tx tL.length tS.length⟩ : Pi.Pt)]).length), ownA (ps0 ++ [(⟨tx, pA, tL.length, pc, pB, tS.length, pd, shapeB tx tL.length tS.length⟩ : Pi.Pt)])[j] ≠ some g := fun g e j hj e2 => by
       have h3 := (hs7.block g e).1
       have h4 := ((HI8.out.ok j hj (by rw [← HI8.out.len]; exact hj)).l.block g e2).2.1
       omega
      have hba8 := (Below.refl w7.heap.size w7).alloc (Nat.le_refl _) (.cells #[.int .i64 vk, .int .i64 vf, .int .i64 vt, .int .i64 vg, .int .i64 vh, .int .i64 vi, .int .i64 vm, .int .i64 vv, .slice As n' cs, .slice Bt m' ct, .bool SH] 103)
      have HAz := Lib.hid (HA7.out.step hba8)
      have HPz := Lib.hid (HP7.out.below hba8)
      have HNW8 := Lib.hid (hnew.below hba8)
      have HNB := Lib.hid hnewb
      have HPL := Lib.hid (piece_lit w7 ⟨⟨vk, vf, vt, vg, vh, vi, vm, vv⟩, As, n', cs, Bt, m', ct, SH⟩)
      have hlps : (ps0 ++ [(⟨tx, pA, tL.length, pc, pB, tS.length, pd, shapeB tx tL.length tS.length⟩ : Pi.Pt)]).length ≤ 100000 := by rw [List.length_append, hk]; simp; omega
      clear hs7 ht7 hb7 hba8 hnew hnewb HA8 HI8 HA7 HP7 CBG
      go_wp2_with (at_builtin; (refine Pi.wpList_app_pt rfl (.tmp 34) (.tmp 37) rfl w.heap.size _ (ps0 ++ [(⟨tx, pA, tL.length, pc, pB, tS.length, pd, shapeB tx tL.length tS.length⟩ : Pi.Pt)]) rfl HPz.out.row (some ⟨w7.heap.size, 0, none⟩) 1 1 [⟨⟨vk, vf, vt, vg, vh, vi, vm, vv⟩, As, n', cs, Bt, m', ct, SH⟩] rfl HPL.out (by omega) (HAz.out.hb.size) ?_); intro v' w9 hown' hg' hat)
      have HP9 := Lib.hid (HPz.out.more HNW8.out HNB.out hown' hg')
      have HB9 := Lib.hid (grown_low HAz.out.hb HAz.out.hb.size hg' (fun g e => (HPz.out.row.block g e).1))
      have HP10 : Hid (PInv w.heap.size w9 v' (ps0 ++ [(⟨tx, pA, tL.length, pc, pB, tS.length, pd, shapeB tx tL.length tS.length⟩ : Pi.Pt)] ++ [⟨⟨vk, vf, vt, vg, vh, vi, vm, vv⟩, As, n', cs, Bt, m', ct, SH⟩]) (foldW ((l.map trOf).take (i + 1)))) := Lib.hid (by have h9 := HP9.out; have e9 := HTS.out; rw [e9]; exact h9)
      clear hown' hg' hat HAz HPz HNW8 HNB HPL HP9 HTS
      exact ⟨⟨i + 1, ps0 ++ [(⟨tx, pA, tL.length, pc, pB, tS.length, pd, shapeB tx tL.length tS.length⟩ : Pi.Pt)] ++ [⟨⟨vk, vf, vt, vg, vh, vi, vm, vv⟩, As, n', cs, Bt, m', ct, SH⟩], by push_cast; rfl, by omega, HP10, HB9⟩, by simp only [intOf]; omega⟩
    ·have hba := (Below.refl W.heap.size W).alloc (Nat.le_refl _) (.cells #[.int .i64 0, .int .i64 0, .int .i64 0, .int .i64 0, .int .i64 0, .int .i64 0, .int .i64 0, .int .i64 0, .slice none 0 0, .slice none 0 0, .bool false] 103)
     have HP0 := Lib.hid (heap_alloc_new W (.cells #[.int .i64 0, .int .i64 0, .int .i64 0, .int .i64 0, .int .i64 0, .int .i64 0, .int .i64 0, .int .i64 0, .slice none 0 0, .slice none 0 0, .bool false] 103))
     have hlt : W.heap.size < (W.alloc (.cells #[.int .i64 0, .int .i64 0, .int .i64 0, .int .i64 0, .int .i64 0, .int .i64 0, .int .i64 0, .int .i64 0, .slice none 0 0, .slice none 0 0, .bool false] 103)).heap.size := by simp
     have HAa := Lib.hid (HA.out.step hba)
     have HPa := Lib.hid (HP.out.below hba)
     have hS1 := And.intro (at4_keep hHeld.1 (hba.block g0 hgl)) (hkeep hba hHeld.2)
     have hPB1 : w.heap.size ≤ W.heap.size := HA.out.hb.size
     clear HA HP hHeld hba
     have HA := HAa
     have HP := HPa
     clear HAa HPa
     go_simp
     refine hK.out _ _ hS1 (fun hHeld => ?_)
     clear hK K hS1
     generalize W.alloc (.cells #[.int .i64 0, .int .i64 0, .int .i64 0, .int .i64 0, .int .i64 0, .int .i64 0, .int .i64 0, .int .i64 0, .slice none 0 0, .slice none 0 0, .bool false] 103) = W3 at HA HP HP0 hHeld hlt ⊢
     generalize W.heap.size = PB at HP0 hlt hsz hgl hPB1 ⊢
     have hsz2 : SB < W3.heap.size := by omega
     have hgl2 : g0 < W3.heap.size := by omega
     have hPS : PB ≠ SB := by omega
     have hPG : PB ≠ g0 := by omega
     clear hsz hgl
     have hsz := hsz2
     have hgl := hgl2
     clear hsz2 hgl2 hlt
     refine wpAnyH_ready (rs := [5]) (by kernel_rfl) (by simp) ?_
     refine AllReadyH.cons rfl (fun K hK => ?_) AllReadyH.nil
     go_simp
     have hlast := HP.out.last
     refine (CWT _ HA.out.hb.size hlast.l (HK0.out.below HA.out.hb) (HM0.out.below HA.out.hb) (fun h0 b off e e2 => by have := hlow h0 b off e; have := (hlast.l.block _ e2).1; omega)).mono ?_
     rintro e W2 hor
     have hrw : ∀ g, (Value.slice pA tL.length pc).ownBlock = some g → w.heap.size ≤ g ∧ g ≠ SB ∧ g ≠ g0 := fun g e => by
      obtain ⟨cs, fr, e1⟩ := tk_block hlast.l e
      refine ⟨(hlast.l.block g e).1, fun e2 => ?_, fun e2 => ?_⟩
      ·rw [e2, HA.out.hy] at e1
       injection e1 with e1
       injection e1 with _ e6 _
       exact absurd e6 (by decide)
      ·obtain ⟨cs', fr', e3⟩ := pi_block HP.out.row (show _ = some g0 from rfl)
       rw [e2, e3] at e1
       injection e1 with e1
       injection e1 with _ e6 _
       exact absurd e6 (by decide)
     have hrp : ∀ g, (Value.slice pA tL.length pc).ownBlock = some g → g ≠ PB := fun g e e2 => by
      obtain ⟨cs, fr, e1⟩ := tk_block hlast.l e
      rw [e2, HP0.out] at e1
      injection e1 with e1
      injection e1 with _ e6 _
      exact absurd e6 (by decide)
     rcases hor with ⟨hok, v, rfl, htv, hgv, hov⟩ | ⟨hok, rfl, hbv⟩
     ·obtain ⟨Av, cv, rfl⟩ := htv.form
      generalize hNM : (wayL tL K' (weldK tx ⟨vk, vf, vt, vg, vh, vi, vm, vv⟩ tL.length)).length = NM at *
      have hPC := joined_ok (tS := tS) (S' := S') hNM (by rw [hKn, hSm]; exact hok) htv
      have hokT : okT ⟨tx, tL, tS⟩ (trOf ⟨⟨vk, vf, vt, vg, vh, vi, vm, vv⟩, K', S', A', B', n', m', c', d'⟩) = true := by
       show pieceB tx _ tL.length K'.length tS.length S'.length = true
       rw [hKn, hSm]; exact hok
      have HTS2 := Lib.hid (HTS.out.trans (wstep_yes hokT))
      have HJ := Lib.hid (HP.out.join hgv hPC (fun g e => hov g e))
      have HAj := Lib.hid (HA.out.grown hgv (fun g e => ⟨(hrw g e).1, (hrw g e).2.1⟩))
      have hS1 := And.intro (at4_keep hHeld.1 (hgv.block g0 hgl (fun e => (hrw _ e.symm).2.2 rfl))) (grown_at hgv hHeld.2 (fun e => (hrw _ e).2.1 rfl))
      have hwsz := hgv.size
      have HPx := Lib.hid (grown_at hgv HP0.out (fun e => hrp _ e rfl))
      clear htv hgv hov hok hPC hokT HP HA HTS hHeld hrw hlast CWT CBG HP0 hrp
      have HP0 := HPx
      clear HPx
      have HA := HAj
      clear HAj
      generalize wayN tx ⟨vk, vf, vt, vg, vh, vi, vm, vv⟩ (weldK tx ⟨vk, vf, vt, vg, vh, vi, vm, vv⟩ tL.length) = Z at *
      have hsz3 : SB < W2.heap.size := by omega
      have hgl3 : g0 < W2.heap.size := by omega
      go_wp2_with fail
      refine hK.out _ _ hS1 (fun hHeld => ?_)
      clear hK K hS1
      refine tk 6 (v := ?_) rfl (by kernel_rfl) (fun _ _ _ h => h) ?_ hHeld ?_
      rotate_left
      ·(intro W hSw; clear hSw; go_simp; try with_reducible rfl)
      refine tk 7 (v := ?_) rfl (by kernel_rfl) (fun _ _ _ h => h) ?_ hHeld ?_
      rotate_left
      ·(intro W hSw; clear hSw; go_simp; try with_reducible rfl)
      refine tk 8 (v := ?_) rfl (by kernel_rfl) (fun _ _ _ h => h) ?_ hHeld ?_
      rotate_left
      ·(intro W hSw; clear hSw; go_simp; try with_reducible rfl)
      refine wpAnyH_ready (rs := [10]) (by kernel_rfl) (by simp) ?_
      refine AllReadyH.cons rfl (fun K hK => ?_) AllReadyH.nil
      have hfr := elevf HP0.out
      have f0 := hfr.1
      have f1 := hfr.2.1
      have f2 := hfr.2.2.1
      have f3 := hfr.2.2.2.1
      have f4 := hfr.2.2.2.2.1
      have f5 := hfr.2.2.2.2.2.1
      have f6 := hfr.2.2.2.2.2.2.1
      have f7 := hfr.2.2.2.2.2.2.2.1
      have f8 := hfr.2.2.2.2.2.2.2.2.1
      have f9 := hfr.2.2.2.2.2.2.2.2.2.1
      have f10 := hfr.2.2.2.2.2.2.2.2.2.2
      have hcl := elev HP0.out
      have z0 := hcl.1
      have z1 := hcl.2.1
      have z2 := hcl.2.2.1
      have z3 := hcl.2.2.2.1
      have z4 := hcl.2.2.2.2.1
      have z5 := hcl.2.2.2.2.2.1
      have z6 := hcl.2.2.2.2.2.2.1
      have z7 := hcl.2.2.2.2.2.2.2.1
      have z8 := hcl.2.2.2.2.2.2.2.2.1
      have z9 := hcl.2.2.2.2.2.2.2.2.2.1
      have z10 := hcl.2.2.2.2.2.2.2.2.2.2
      clear hfr hcl
      go_simp
      have hS8 := And.intro (at4_keep hHeld.1 (put11_else (B := PB) (k := g0) (.int .i64 Z.kind) (.int .i64 Z.from_) (.int .i64 Z.to_) (.int .i64 Z.gf) (.int .i64 Z.gt) (.int .i64 Z.ins) (.int .i64 Z.mark) (.int .i64 Z.val) (.slice Av NM cv) (.slice none 0 0) (.bool true) (fun e => hPG e.symm))) ((put11_else (B := PB) (k := SB) (.int .i64 Z.kind) (.int .i64 Z.from_) (.int .i64 Z.to_) (.int .i64 Z.gf) (.int .i64 Z.gt) (.int .i64 Z.ins) (.int .i64 Z.mark) (.int .i64 Z.val) (.slice Av NM cv) (.slice none 0 0) (.bool true) (fun e => hPS e.symm)).trans hHeld.2)
      have hP8 := put11_at HP0.out (.int .i64 Z.kind) (.int .i64 Z.from_) (.int .i64 Z.to_) (.int .i64 Z.gf) (.int .i64 Z.gt) (.int .i64 Z.ins) (.int .i64 Z.mark) (.int .i64 Z.val) (.slice Av NM cv) (.slice none 0 0) (.bool true)
      have hI8 := HJ.out.other (grown_put11 (W := W2) (B := PB) (.int .i64 Z.kind) (.int .i64 Z.from_) (.int .i64 Z.to_) (.int .i64 Z.gf) (.int .i64 Z.gt) (.int .i64 Z.ins) (.int .i64 Z.mark) (.int .i64 Z.val) (.slice Av NM cv) (.slice none 0 0) (.bool true)) HP0.out (fun e => hPG (Option.some.inj e).symm)
      have hA8 := HA.out.grown (grown_put11 (W := W2) (B := PB) (.int .i64 Z.kind) (.int .i64 Z.from_) (.int .i64 Z.to_) (.int .i64 Z.gf) (.int .i64 Z.gt) (.int .i64 Z.ins) (.int .i64 Z.mark) (.int .i64 Z.val) (.slice Av NM cv) (.slice none 0 0) (.bool true)) (fun g e => by cases e; exact ⟨hPB1, hPS⟩)
      have hz8 : (put11 W2 PB (.int .i64 Z.kind) (.int .i64 Z.from_) (.int .i64 Z.to_) (.int .i64 Z.gf) (.int .i64 Z.gt) (.int .i64 Z.ins) (.int .i64 Z.mark) (.int .i64 Z.val) (.slice Av NM cv) (.slice none 0 0) (.bool true)).heap.size = W2.heap.size := by unfold put11; simp [World.setCell]
      unfold put11 at hS8 hP8 hI8 hA8 hz8
      have HP8 := Lib.hid hP8
      have HI8 := Lib.hid hI8
      have HA8 := Lib.hid hA8
      refine hK.out _ _ hS8 (fun hHeld => ?_)
      clear hK K hS8 hP8 hI8 hA8 HP0 HJ HA hz8 z0 z1 z2 z3 z4 z5 z6 z7 z8 z9 z10 f0 f1 f2 f3 f4 f5 f6 f7 f8 f9 f10
      generalize World.setCell _ _ _ = W8 at HP8 HI8 HA8 hHeld ⊢
      refine wpAnyH_ready (rs := [11]) (by kernel_rfl) (by simp) ?_
      refine AllReadyH.cons rfl (fun K hK => ?_) AllReadyH.nil
      go_simp
      refine hK.out _ _ hHeld (fun hHeld => ?_)
      clear hK K
      refine wpAnyH_done (by kernel_rfl) ?_ _
      have HST := HI8.out.store
      have hfz := (pi_head HI8.out.row).2.1
      have g0z := hfz (k * 11)
      have g1z := hfz (k * 11 + 1)
      have g2z := hfz (k * 11 + 2)
      have g3z := hfz (k * 11 + 3)
      have g4z := hfz (k * 11 + 4)
      have g5z := hfz (k * 11 + 5)
      have g6z := hfz (k * 11 + 6)
      have g7z := hfz (k * 11 + 7)
      have g8z := hfz (k * 11 + 8)
      have g9z := hfz (k * 11 + 9)
      have g10z := hfz (k * 11 + 10)
      obtain ⟨q0, q1, q2, q3, q4, q5, q6, q7, q8, q9, q10⟩ := pi_cells hHeld.1
      have hcl := elev HP8.out
      have p0 := hcl.1
      have p1 := hcl.2.1
      have p2 := hcl.2.2.1
      have p3 := hcl.2.2.2.1
      have p4 := hcl.2.2.2.2.1
      have p5 := hcl.2.2.2.2.2.1
      have p6 := hcl.2.2.2.2.2.2.1
      have p7 := hcl.2.2.2.2.2.2.2.1
      have p8 := hcl.2.2.2.2.2.2.2.2.1
      have p9 := hcl.2.2.2.2.2.2.2.2.2.1
      have p10 := hcl.2.2.2.2.2.2.2.2.2.2
      clear hcl hfz
      rw [hk] at HST
      have hBS := grown_low HA8.out.hb HA8.out.hb.size HST.2 (fun g e => by cases e; exact hgn)
      simp only [Pi.pcells, World.setCells, Nat.add_assoc, Nat.reduceAdd] at HST hBS
      have HPI : Hid (PInv w.heap.size _ (.slice (some ⟨g0, 0, none⟩) (k + 1) cap0) (ps0 ++ [⟨Z, Av, NM, cv, none, 0, 0, true⟩]) (foldW ((l.map trOf).take (i + 1)))) := Lib.hid (by rw [HTS2.out]; exact HST.1)
      have HBI := Lib.hid hBS
      clear HST hBS HI8 HA8 HP8 hHeld HTS2 HK0 HM0 HSH
      go_wp2_with fail
      exact ⟨⟨i + 1, ps0 ++ [⟨Z, Av, NM, cv, none, 0, 0, true⟩], by push_cast; rfl, by omega, HPI, HBI⟩, by simp only [intOf]; omega⟩
     ·have hokT : okT ⟨tx, tL, tS⟩ (trOf ⟨⟨vk, vf, vt, vg, vh, vi, vm, vv⟩, K', S', A', B', n', m', c', d'⟩) = false := by
       show pieceB tx _ tL.length K'.length tS.length S'.length = false
       rw [hKn, hSm]; exact hok
      have HTS2 := Lib.hid (HTS.out.trans (wstep_no hokT))
      have HJ := Lib.hid (HP.out.below hbv)
      have HAj := Lib.hid (HA.out.step hbv)
      have hS1 := And.intro (at4_keep hHeld.1 (hbv.block g0 hgl)) (hkeep hbv hHeld.2)
      have hwsz := hbv.size
      have HPx := Lib.hid (hkeep hbv HP0.out)
      clear hbv hok hokT HP HA HTS hHeld hrw hlast CWT HP0 hrp
      have HP0 := HPx
      clear HPx
      have HA := HAj
      clear HAj
      have hsz3 : SB < W2.heap.size := by omega
      have hgl3 : g0 < W2.heap.size := by omega
      go_wp2_with fail
      refine hK.out _ _ hS1 (fun hHeld => ?_)
      clear hK K hS1
      refine tk 6 (v := ?_) rfl (by kernel_rfl) (fun _ _ _ h => h) ?_ hHeld ?_
      rotate_left
      ·(intro W hSw; clear hSw; go_simp; try with_reducible rfl)
      refine tk 7 (v := ?_) rfl (by kernel_rfl) (fun _ _ _ h => h) ?_ hHeld ?_
      rotate_left
      ·(intro W hSw; clear hSw; go_simp; try with_reducible rfl)
      refine tk 8 (v := ?_) rfl (by kernel_rfl) (fun _ _ _ h => h) ?_ hHeld ?_
      rotate_left
      ·(intro W hSw; clear hSw; go_simp; try with_reducible rfl)
      refine wpAnyH_ready (rs := [10]) (by kernel_rfl) (by simp) ?_
      refine AllReadyH.cons rfl (fun K hK => ?_) AllReadyH.nil
      have hfr := elevf HP0.out
      have f0 := hfr.1
      have f1 := hfr.2.1
      have f2 := hfr.2.2.1
      have f3 := hfr.2.2.2.1
      have f4 := hfr.2.2.2.2.1
      have f5 := hfr.2.2.2.2.2.1
      have f6 := hfr.2.2.2.2.2.2.1
      have f7 := hfr.2.2.2.2.2.2.2.1
      have f8 := hfr.2.2.2.2.2.2.2.2.1
      have f9 := hfr.2.2.2.2.2.2.2.2.2.1
      have f10 := hfr.2.2.2.2.2.2.2.2.2.2
      have hcl := elev HP0.out
      have z0 := hcl.1
      have z1 := hcl.2.1
      have z2 := hcl.2.2.1
      have z3 := hcl.2.2.2.1
      have z4 := hcl.2.2.2.2.1
      have z5 := hcl.2.2.2.2.2.1
      have z6 := hcl.2.2.2.2.2.2.1
      have z7 := hcl.2.2.2.2.2.2.2.1
      have z8 := hcl.2.2.2.2.2.2.2.2.1
      have z9 := hcl.2.2.2.2.2.2.2.2.2.1
      have z10 := hcl.2.2.2.2.2.2.2.2.2.2
      clear hfr hcl
      go_simp
      have hS8 := And.intro (at4_keep hHeld.1 (put11_else (B := PB) (k := g0) (.int .i64 0) (.int .i64 0) (.int .i64 0) (.int .i64 0) (.int .i64 0) (.int .i64 0) (.int .i64 0) (.int .i64 0) (.slice none 0 0) (.slice none 0 0) (.bool false) (fun e => hPG e.symm))) ((put11_else (B := PB) (k := SB) (.int .i64 0) (.int .i64 0) (.int .i64 0) (.int .i64 0) (.int .i64 0) (.int .i64 0) (.int .i64 0) (.int .i64 0) (.slice none 0 0) (.slice none 0 0) (.bool false) (fun e => hPS e.symm)).trans hHeld.2)
      have hP8 := put11_at HP0.out (.int .i64 0) (.int .i64 0) (.int .i64 0) (.int .i64 0) (.int .i64 0) (.int .i64 0) (.int .i64 0) (.int .i64 0) (.slice none 0 0) (.slice none 0 0) (.bool false)
      have hI8 := HJ.out.other (grown_put11 (W := W2) (B := PB) (.int .i64 0) (.int .i64 0) (.int .i64 0) (.int .i64 0) (.int .i64 0) (.int .i64 0) (.int .i64 0) (.int .i64 0) (.slice none 0 0) (.slice none 0 0) (.bool false)) HP0.out (fun e => hPG (Option.some.inj e).symm)
      have hA8 := HA.out.grown (grown_put11 (W := W2) (B := PB) (.int .i64 0) (.int .i64 0) (.int .i64 0) (.int .i64 0) (.int .i64 0) (.int .i64 0) (.int .i64 0) (.int .i64 0) (.slice none 0 0) (.slice none 0 0) (.bool false)) (fun g e => by cases e; exact ⟨hPB1, hPS⟩)
      have hz8 : (put11 W2 PB (.int .i64 0) (.int .i64 0) (.int .i64 0) (.int .i64 0) (.int .i64 0) (.int .i64 0) (.int .i64 0) (.int .i64 0) (.slice none 0 0) (.slice none 0 0) (.bool false)).heap.size = W2.heap.size := by unfold put11; simp [World.setCell]
      unfold put11 at hS8 hP8 hI8 hA8 hz8
      have HP8 := Lib.hid hP8
      have HI8 := Lib.hid hI8
      have HA8 := Lib.hid hA8
      refine hK.out _ _ hS8 (fun hHeld => ?_)
      clear hK K hS8 hP8 hI8 hA8 HP0 HJ HA hz8 z0 z1 z2 z3 z4 z5 z6 z7 z8 z9 z10 f0 f1 f2 f3 f4 f5 f6 f7 f8 f9 f10
      generalize World.setCell _ _ _ = W8 at HP8 HI8 HA8 hHeld ⊢
      refine wpAnyH_ready (rs := [11]) (by kernel_rfl) (by simp) ?_
      refine AllReadyH.cons rfl (fun K hK => ?_) AllReadyH.nil
      go_simp
      refine hK.out _ _ hHeld (fun hHeld => ?_)
      clear hK K
      refine wpAnyH_done (by kernel_rfl) ?_ _
      have HTS := HTS2
      clear HTS2
      obtain ⟨⟨o0, o1, o2, o3, o4⟩, o5, o6, o7, o8, o9⟩ := tenc HA8.out.hy
      go_wp2_with fail
      refine (CBG _ (HK0.out.below HA8.out.hb) (HM0.out.below HA8.out.hb)).mono ?_
      rintro e w7 ⟨s, t7, rfl, hs7, ht7, hb7⟩
      clear hHeld HP8
      clear o0 o1 o2 o3 o4 o5 o6 o7 o8 o9
      obtain ⟨As, cs, hfs⟩ := hs7.form
      obtain ⟨Bt, ct, hft⟩ := ht7.form
      rw [hKn] at hfs
      rw [hSm] at hft
      subst hfs; subst hft
      have hws7 := HA8.out.hb.size
      have HA7 := Lib.hid (HA8.out.step hb7)
      have HP7 := Lib.hid (HI8.out.below hb7)
      have hnew : PcOk w.heap.size w7 ⟨⟨vk, vf, vt, vg, vh, vi, vm, vv⟩, As, n', cs, Bt, m', ct, SH⟩ ⟨⟨vk, vf, vt, vg, vh, vi, vm, vv⟩, K', S'⟩ := ⟨rfl, hKn.symm, hSm.symm, hs7.lower hws7, ht7.lower hws7, by show SH = shapeB _ K'.length S'.length; rw [hKn, hSm]; exact HSH.out⟩
      have hnewb : ∀ g, ownA ⟨⟨vk, vf, vt, vg, vh, vi, vm, vv⟩, As, n', cs, Bt, m', ct, SH⟩ = some g → ∀ j (hj : j < (ps0 ++ [(⟨tx, pA, tL.length, pc, pB, tS.length, pd, shapeB tx tL.length tS.length⟩ : Pi.Pt)]).length), ownA (ps0 ++ [(⟨tx, pA, tL.length, pc, pB, tS.length, pd, shapeB tx tL.length tS.length⟩ : Pi.Pt)])[j] ≠ some g := fun g e j hj e2 => by
       have h3 := (hs7.block g e).1
       have h4 := ((HI8.out.ok j hj (by rw [← HI8.out.len]; exact hj)).l.block g e2).2.1
       omega
      have hba8 := (Below.refl w7.heap.size w7).alloc (Nat.le_refl _) (.cells #[.int .i64 vk, .int .i64 vf, .int .i64 vt, .int .i64 vg, .int .i64 vh, .int .i64 vi, .int .i64 vm, .int .i64 vv, .slice As n' cs, .slice Bt m' ct, .bool SH] 103)
      have HAz := Lib.hid (HA7.out.step hba8)
      have HPz := Lib.hid (HP7.out.below hba8)
      have HNW8 := Lib.hid (hnew.below hba8)
      have HNB := Lib.hid hnewb
      have HPL := Lib.hid (piece_lit w7 ⟨⟨vk, vf, vt, vg, vh, vi, vm, vv⟩, As, n', cs, Bt, m', ct, SH⟩)
      have hlps : (ps0 ++ [(⟨tx, pA, tL.length, pc, pB, tS.length, pd, shapeB tx tL.length tS.length⟩ : Pi.Pt)]).length ≤ 100000 := by rw [List.length_append, hk]; simp; omega
      clear hs7 ht7 hb7 hba8 hnew hnewb HA8 HI8 HA7 HP7 CBG
      go_wp2_with (at_builtin; (refine Pi.wpList_app_pt rfl (.tmp 34) (.tmp 37) rfl w.heap.size _ (ps0 ++ [(⟨tx, pA, tL.length, pc, pB, tS.length, pd, shapeB tx tL.length tS.length⟩ : Pi.Pt)]) rfl HPz.out.row (some ⟨w7.heap.size, 0, none⟩) 1 1 [⟨⟨vk, vf, vt, vg, vh, vi, vm, vv⟩, As, n', cs, Bt, m', ct, SH⟩] rfl HPL.out (by omega) (HAz.out.hb.size) ?_); intro v' w9 hown' hg' hat)
      have HP9 := Lib.hid (HPz.out.more HNW8.out HNB.out hown' hg')
      have HB9 := Lib.hid (grown_low HAz.out.hb HAz.out.hb.size hg' (fun g e => (HPz.out.row.block g e).1))
      have HP10 : Hid (PInv w.heap.size w9 v' (ps0 ++ [(⟨tx, pA, tL.length, pc, pB, tS.length, pd, shapeB tx tL.length tS.length⟩ : Pi.Pt)] ++ [⟨⟨vk, vf, vt, vg, vh, vi, vm, vv⟩, As, n', cs, Bt, m', ct, SH⟩]) (foldW ((l.map trOf).take (i + 1)))) := Lib.hid (by have h9 := HP9.out; have e9 := HTS.out; rw [e9]; exact h9)
      clear hown' hg' hat HAz HPz HNW8 HNB HPL HP9 HTS
      exact ⟨⟨i + 1, ps0 ++ [(⟨tx, pA, tL.length, pc, pB, tS.length, pd, shapeB tx tL.length tS.length⟩ : Pi.Pt)] ++ [⟨⟨vk, vf, vt, vg, vh, vi, vm, vv⟩, As, n', cs, Bt, m', ct, SH⟩], by push_cast; rfl, by omega, HP10, HB9⟩, by simp only [intOf]; omega⟩
  ·have hin : i = l.length := by omega
   have hfin : (l.map trOf).take i = l.map trOf := List.take_of_length_le (by simp; omega)
   have HPF : Hid (PInv w.heap.size wr u3 ps (foldW (l.map trOf))) := Lib.hid (by have := HP.out; rwa [hfin] at this)
   have hlenF : ps.length ≤ 1000 := by have h2 := HPF.out.len; have := foldW_len (l.map trOf); rw [List.length_map] at this; omega
   obtain ⟨A1, c1, hpv, _, hrow⟩ := HPF.out.row.row
   subst hpv
   have CST := steps_any ps A1 ps.length c1 wr hlenF hrow
   clear HP hfin hsmall hflen HSM HR hrow
   go_wp2_with fail
   refine CST.mono ?_
   rintro e w2 ⟨v, rfl, hv, hb2⟩
   have HF2 := Lib.hid (HPF.out.below hb2)
   have HB2 := Lib.hid (HB.out.trans (hb2.mono HB.out.size))
   have HV2 := Lib.hid (hv.lower HB.out.size)
   clear hv hb2 HPF HB CST
   go_wp2
   go_ret
   exact ⟨_, _, ps, rfl, HV2.out, HF2.out, HB2.out⟩
end Go.Proofs.Ytlbkfenlbkibgaa.St
