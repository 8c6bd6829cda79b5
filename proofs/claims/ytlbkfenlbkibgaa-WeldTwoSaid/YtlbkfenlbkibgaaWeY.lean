/- Welding: the reference's All. -/
import Derived.Test.YtlbkfenlbkibgaaWeJ
import Derived.Test.YtlbkfenlbkibgaaWeM
import Derived.Test.YtlbkfenlbkibgaaWeZ
set_option linter.unusedVariables false
set_option maxRecDepth 100000
set_option maxHeartbeats 8000000
namespace Go.Proofs.Ytlbkfenlbkibgaa.St
open Go.RowKit Mem Sm Tk Rt
set_option linter.unusedSimpArgs false
theorem ro_head {n0 : Nat} {W : World} {g n cap : Nat} {ps : List Ro.Pt} {p : Ro.Pt} (h : Ro.Pts n0 W (.slice (some ⟨g, 0, none⟩) n cap) (ps ++ [p])) : Ro.At4 W g (ps.length * 10) p ∧ g < W.heap.size ∧ n0 ≤ g ∧ Ro.PRow W (some ⟨g, 0, none⟩) ps.length ps := by
 obtain ⟨A, c, e, _, hr⟩ := h.row
 simp only [Value.slice.injEq] at e
 obtain ⟨rfl, _, _⟩ := e
 obtain ⟨b, off, e2, hb, hc⟩ := hr.2 (by simp)
 simp only [Option.some.injEq, Addr.mk.injEq, and_true] at e2
 obtain ⟨rfl, rfl⟩ := e2
 have h1 := hc ps.length (by simp)
 have e3 : (ps ++ [p])[ps.length]'(by simp) = p := by simp
 rw [e3, Nat.zero_add] at h1
 refine ⟨h1, hb, (h.block g rfl).1, rfl, fun hp => ⟨g, 0, rfl, hb, fun j hj => ?_⟩⟩
 have h2 := hc j (by simp; omega)
 rwa [List.getElem_append_left hj] at h2
theorem ro_form {n0 : Nat} {W : World} {pv : Value} {ps : List Ro.Pt} {p : Ro.Pt} (h : Ro.Pts n0 W pv (ps ++ [p])) : ∃ g cap, pv = .slice (some ⟨g, 0, none⟩) (ps.length + 1) cap ∧ ps.length + 1 ≤ cap := by
 rcases h.2 with ⟨_, hz⟩ | ⟨g, cap, cur, hv, _, _, hc, _⟩
 ·simp at hz
 ·exact ⟨g, cap, by rw [hv]; simp, by simpa using hc⟩
theorem ro_keep {W W' : World} {g o : Nat} {p : Ro.Pt} (h : Ro.At4 W g o p) (hk : W'.heap[g]? = W.heap[g]?) : Ro.At4 W' g o p := h.keep (fun j => by unfold World.cell?; simp [hk])
theorem ro_cells {w : World} {b o : Nat} {p : Ro.Pt} (h : Ro.At4 w b o p) : (w.cell? ⟨b, o, none⟩ = some (.int .i64 p.x.kind) ∧ w.cell? ⟨b, o + 1, none⟩ = some (.int .i64 p.x.from_) ∧ w.cell? ⟨b, o + 2, none⟩ = some (.int .i64 p.x.to_) ∧ w.cell? ⟨b, o + 3, none⟩ = some (.int .i64 p.x.gf) ∧ w.cell? ⟨b, o + 4, none⟩ = some (.int .i64 p.x.gt)) ∧ w.cell? ⟨b, o + 5, none⟩ = some (.int .i64 p.x.ins) ∧ w.cell? ⟨b, o + 6, none⟩ = some (.int .i64 p.x.mark) ∧ w.cell? ⟨b, o + 7, none⟩ = some (.int .i64 p.x.val) ∧ w.cell? ⟨b, o + 8, none⟩ = some (.slice p.A p.n p.c) ∧ w.cell? ⟨b, o + 9, none⟩ = some (.slice p.B p.m p.d) :=
 ⟨⟨h 0 _ rfl, h 1 _ rfl, h 2 _ rfl, h 3 _ rfl, h 4 _ rfl⟩, h 5 _ rfl, h 6 _ rfl, h 7 _ rfl, h 8 _ rfl, h 9 _ rfl⟩
theorem rall_any (l : List Sq) (A : Option Addr) (c : Nat) (w : World) (h : SqRow w A l.length l) (hsm : ∀ q ∈ l, q.n ≤ 20000 ∧ q.m ≤ 20000) (hl : l.length ≤ 1000) :
  Calls Try.prog 31 #[.slice A l.length c] w fun e w' => ∃ v ps, e = .returned v ∧ RInv w.heap.size w' v ps (foldW (l.map trOf)) ∧ Below w.heap.size w w' := by
 have HR := Lib.hid h
 have HSM := Lib.hid hsm
 have hsmall : ∀ i, ∀ t ∈ foldW ((l.map trOf).take i), smallT t := fun i => foldW_small (fun t ht => by
  obtain ⟨q, hq, rfl⟩ := List.mem_map.1 (List.mem_of_mem_take ht)
  obtain ⟨j, hj, rfl⟩ := List.getElem_of_mem hq
  have h1 := hsm _ hq
  obtain ⟨b, off, _, _, hc⟩ := h.2 (by omega)
  have h2 := hc j hj
  rw [show sq l j = l[j] by simp [sq, List.getD, List.getElem?_eq_getElem hj]] at h2
  refine ⟨?_, ?_⟩
  ·show (l[j].L).length ≤ 20000; rw [h2.2.1.1]; exact h1.1
  ·show (l[j].S).length ≤ 20000; rw [h2.2.2.1.1]; exact h1.2)
 have hflen : ∀ i, (foldW ((l.map trOf).take i)).length ≤ i := fun i => Nat.le_trans (foldW_len _) (by rw [List.length_take]; omega)
 clear h hsm
 go_enter Try.func31, Try.ntmps31
 go_wp2_with fail
 go_loopw [3, 4] (fun pv iv wr => ∃ (i : Nat) (ps : List Ro.Pt), iv = .int .i64 i ∧ i ≤ l.length ∧ Hid (RInv w.heap.size wr pv ps (foldW ((l.map trOf).take i))) ∧ Hid (Below w.heap.size w wr)) (fun _ iv _ => l.length - (intOf iv).toNat)
 case atStart => exact ⟨0, [], rfl, by omega, Lib.hid RInv.nil, Lib.hid (Below.refl _ _)⟩
 case round =>
  obtain ⟨i, ps, rfl, hi, HP, HB⟩ := hrel
  by_cases h1 : (i : Int) < (l.length : Int)
  ·have hil : i < l.length := by omega
   have hsmi := hsmall i
   have hfl := hflen i
   have HTS : Hid (foldW ((l.map trOf).take (i + 1)) = wstep (foldW ((l.map trOf).take i)) (trOf (sq l i))) := Lib.hid (by
    rw [List.take_succ_eq_append_getElem (by simpa using hil), foldW_snoc]
    simp [sq, List.getD, List.getElem?_eq_getElem hil])
   have hqs : (sq l i).n ≤ 20000 ∧ (sq l i).m ≤ 20000 := by
    rw [show sq l i = l[i] by simp [sq, List.getD, List.getElem?_eq_getElem hil]]
    exact HSM.out _ (List.getElem_mem hil)
   obtain ⟨b, off, rfl, hbs, hc⟩ := HR.out.2 (by omega)
   have hq := hc i hil
   clear hc hsmall hflen HSM HR
   generalize sq l i = q at hq hqs HTS
   generalize foldW ((l.map trOf).take i) = acc at *
   obtain ⟨⟨vk, vf, vt, vg, vh, vi, vm, vv⟩, K', S', A', B', n', m', c', d'⟩ := q
   have hKn := hq.2.1.1
   have hSm := hq.2.2.1.1
   simp only at hKn hSm hqs
   have HQ := Lib.hid hq
   have hn' := hqs.1
   have hm' := hqs.2
   clear hqs hq
   have i1 : (0 : Int) ≤ (i : Int) := by omega
   rcases List.eq_nil_or_concat ps with rfl | ⟨ps0, p, rfl⟩
   ·have hacc : acc = [] := List.eq_nil_of_length_eq_zero (by have := HP.out.len; simpa using this.symm)
    subst hacc
    rw [wstep_nil] at HTS
    obtain ⟨A1, c1, hpv⟩ := HP.out.row.form
    simp only [List.length_nil] at hpv
    subst hpv
    have hba := (Below.refl wr.heap.size wr).alloc (Nat.le_refl _) (.cells #[.int .i64 vk, .int .i64 vf, .int .i64 vt, .int .i64 vg, .int .i64 vh, .int .i64 vi, .int .i64 vm, .int .i64 vv, .slice A' n' c', .slice B' m' d'] 25)
    have HB1 := Lib.hid (HB.out.alloc HB.out.size (.cells #[.int .i64 vk, .int .i64 vf, .int .i64 vt, .int .i64 vg, .int .i64 vh, .int .i64 vi, .int .i64 vm, .int .i64 vv, .slice A' n' c', .slice B' m' d'] 25))
    have HP1 := Lib.hid (HP.out.below hba)
    have HPL := Lib.hid (step_lit wr ⟨⟨vk, vf, vt, vg, vh, vi, vm, vv⟩, A', n', c', B', m', d'⟩)
    have hnew : RcOk w.heap.size (wr.alloc (.cells #[.int .i64 vk, .int .i64 vf, .int .i64 vt, .int .i64 vg, .int .i64 vh, .int .i64 vi, .int .i64 vm, .int .i64 vv, .slice A' n' c', .slice B' m' d'] 25)) ⟨⟨vk, vf, vt, vg, vh, vi, vm, vv⟩, A', n', c', B', m', d'⟩ ⟨⟨vk, vf, vt, vg, vh, vi, vm, vv⟩, K', S'⟩ := RcOk.of_in rfl HQ.out.2.1 HQ.out.2.2.1 HB1.out
    have HNW := Lib.hid hnew
    have hlps : (([] : List Ro.Pt)).length ≤ 100000 := by simp
    obtain ⟨⟨y0, y1, y2, y3, y4⟩, y5, y6, y7, y8, y9⟩ := (HQ.out.below HB.out hbs).cells
    clear hba hnew HP HB HQ
    go_wp2_with (at_builtin; (refine Ro.wpList_app_pt rfl (.tmp 41) (.tmp 46) rfl w.heap.size _ (([] : List Ro.Pt)) rfl HP1.out.row (some ⟨wr.heap.size, 0, none⟩) 1 1 [⟨⟨vk, vf, vt, vg, vh, vi, vm, vv⟩, A', n', c', B', m', d'⟩] rfl HPL.out (by omega) (HB1.out.size) ?_); intro v' w9 hown' hg' hat)
    have HP9 := Lib.hid (RInv.more HP1.out.row HP1.out.len HP1.out.ok HNW.out hown' hg')
    have HB9 := Lib.hid (grown_low HB1.out HB1.out.size hg' (fun g e => (HP1.out.row.block g e).1))
    have HP10 : Hid (RInv w.heap.size w9 v' (([] : List Ro.Pt) ++ [⟨⟨vk, vf, vt, vg, vh, vi, vm, vv⟩, A', n', c', B', m', d'⟩]) (foldW ((l.map trOf).take (i + 1)))) := Lib.hid (by have h9 := HP9.out; have e9 := HTS.out; rw [e9]; exact h9)
    clear hown' hg' hat HP1 HB1 HNW HPL HP9 HTS y0 y1 y2 y3 y4 y5 y6 y7 y8 y9
    exact ⟨⟨i + 1, ([] : List Ro.Pt) ++ [⟨⟨vk, vf, vt, vg, vh, vi, vm, vv⟩, A', n', c', B', m', d'⟩], by push_cast; rfl, by omega, HP10, HB9⟩, by simp only [intOf]; omega⟩
   ·simp only [List.concat_eq_append] at HP
    obtain ⟨acc0, t, rfl⟩ : ∃ a t, acc = a ++ [t] := by
     rcases List.eq_nil_or_concat acc with h | ⟨a, t, h⟩
     ·have := HP.out.len; rw [h] at this; simp at this
     ·exact ⟨a, t, by rw [h, List.concat_eq_append]⟩
    have hst := hsmi t (by simp)
    obtain ⟨g0, cap0, hpv, hcap⟩ := ro_form HP.out.row
    subst hpv
    obtain ⟨hlast, hlen0, hok0⟩ := HP.out.last
    have hkb : ps0.length ≤ 1000 := by
     have h2 := hfl
     rw [List.length_append] at h2
     omega
    obtain ⟨tx, pA, pn, pc, pB, pm, pd⟩ := p
    obtain ⟨ty, tL, tS⟩ := t
    have e1 := hlast.x
    have e2 := hlast.l.1
    have e3 := hlast.s.1
    simp only at e1 e2 e3 hst
    subst e1; subst e2; subst e3
    have hst1 : tL.length ≤ 20000 := hst.1
    have hst2 : tS.length ≤ 20000 := hst.2
    obtain ⟨hat, hgl, hgn, hpre⟩ := ro_head HP.out.row
    have hatq : Ro.At4 wr b (off + i * 10) ⟨⟨vk, vf, vt, vg, vh, vi, vm, vv⟩, A', n', c', B', m', d'⟩ := (HQ.out.below HB.out hbs).1
    have hbl : b < wr.heap.size := Nat.lt_of_lt_of_le hbs HB.out.size
    obtain ⟨k, hk⟩ : ∃ k, ps0.length = k := ⟨_, rfl⟩
    rw [hk] at hat hkb HP hcap
    rw [hk]
    have hwe := weld_eq tx ⟨vk, vf, vt, vg, vh, vi, vm, vv⟩ tL K' tL.length n' tS.length m' rfl hKn
    have CTW := fun W q1 q2 => rtwo_any tx ⟨vk, vf, vt, vg, vh, vi, vm, vv⟩ tL K' pA A' pB B' tL.length n' tS.length m' pc c' pd d' W (by omega) (by omega) (by omega) (by omega) q1 q2
    unfold RTwoIs at CTW
    unfold stV stC at CTW
    simp only at CTW
    have hk0 : (0 : Int) ≤ (k : Int) := by omega
    have hk3 : (0 : Int) < (k : Int) + 1 := by omega
    have hk1 : (k : Int) < (k : Int) + 1 := by omega
    clear hlast hok0 hpre hst
    go_upto_region 7 with fail
    refine wp_region_held_drew (S := fun W => Ro.At4 W g0 (k * 10) ⟨tx, pA, tL.length, pc, pB, tS.length, pd⟩ ∧ Ro.At4 W b (off + i * 10) ⟨⟨vk, vf, vt, vg, vh, vi, vm, vv⟩, A', n', c', B', m', d'⟩) (by kernel_rfl) ⟨hat, hatq⟩ (fun hHeld => ?_)
    have HBd := Lib.hid (below_drewN HB.out 1)
    have HPd := Lib.hid (HP.out.below (below_drewN (Below.refl _ _) 1))
    change Hid (Below w.heap.size w wr.drew) at HBd
    change Hid (RInv w.heap.size wr.drew _ _ _) at HPd
    have hgl : g0 < wr.drew.heap.size := hgl
    have hbl : b < wr.drew.heap.size := hbl
    clear HB HP hat hatq
    have HB := HBd
    have HP := HPd
    clear HBd HPd
    generalize wr.drew = W at HB HP hHeld hgl hbl ⊢
    refine tk 0 (v := ?_) rfl (by kernel_rfl) (fun _ _ _ h => h) ?_ hHeld ?_
    rotate_left
    ·(intro W hSw; clear hSw; go_simp; try with_reducible rfl)
    refine tk 1 (v := ?_) rfl (by kernel_rfl) (fun _ _ _ h => h) ?_ hHeld ?_
    rotate_left
    ·(intro W hSw; clear hSw; go_simp; try with_reducible rfl)
    have hwq2 : IntKind.i64.wrap (k : Int) = (k : Int) := wrap_few' (by omega) (by omega)
    refine tk 2 (v := ?_) rfl (by kernel_rfl) (fun _ _ _ h => h) ?_ hHeld ?_
    rotate_left
    ·(intro W hSw; clear hSw; go_simp; try with_reducible rfl)
    clear hwq2
    refine tk 3 (v := ?_) rfl (by kernel_rfl) (fun _ _ _ h => h) ?_ hHeld ?_
    rotate_left
    ·(intro W hSw; clear hSw; go_simp; try with_reducible rfl)
    refine tk 4 (v := ?_) rfl (by kernel_rfl) (fun _ _ _ h => h) ?_ hHeld ?_
    rotate_left
    ·(intro W hSw; (try dsimp only at hSw); obtain ⟨hs1, hs2⟩ := hSw; obtain ⟨⟨y0, y1, y2, y3, y4⟩, y5, y6, y7, y8, y9⟩ := ro_cells hs1; clear hs1 hs2; go_simp; try with_reducible rfl)
    refine tk 5 (v := ?_) rfl (by kernel_rfl) (fun _ _ _ h => h) ?_ hHeld ?_
    rotate_left
    ·(intro W hSw; clear hSw; go_simp; try with_reducible rfl)
    refine tk 6 (v := ?_) rfl (by kernel_rfl) (fun _ _ _ h => h) ?_ hHeld ?_
    rotate_left
    ·(intro W hSw; clear hSw; go_simp; try with_reducible rfl)
    refine tk 7 (v := ?_) rfl (by kernel_rfl) (fun _ _ _ h => h) ?_ hHeld ?_
    rotate_left
    ·(intro W hSw; clear hSw; go_simp; try with_reducible rfl)
    refine tk 8 (v := ?_) rfl (by kernel_rfl) (fun _ _ _ h => h) ?_ hHeld ?_
    rotate_left
    ·(intro W hSw; (try dsimp only at hSw); obtain ⟨hs1, hs2⟩ := hSw; obtain ⟨⟨y0, y1, y2, y3, y4⟩, y5, y6, y7, y8, y9⟩ := ro_cells hs2; clear hs1 hs2; go_simp; try with_reducible rfl)
    refine wpAnyH_ready (rs := [9, 13]) (by kernel_rfl) (by simp) ?_
    refine AllReadyH.cons rfl (fun K hK => ?_) (AllReadyH.cons rfl (fun K hK => ?_) AllReadyH.nil)
    ·go_simp
     refine (CTW _ HP.out.last.1.l (HQ.out.2.1.below HB.out)).mono ?_
     rintro e W2 ⟨hor, hb2⟩
     have hS1 := And.intro (ro_keep hHeld.1 (hb2.block g0 hgl)) (ro_keep hHeld.2 (hb2.block b hbl))
     have HB2 := Lib.hid (HB.out.trans (hb2.mono HB.out.size))
     have HP2 := Lib.hid (HP.out.below hb2)
     have hsl := HB.out.size
     have hss := hb2.size
     rcases hor with ⟨hok, s, rfl, hs⟩ | ⟨hok, rfl⟩
     ·have hs' := hs.lower hsl
      obtain ⟨Av, cv, rfl⟩ := hs'.form
      have hpk : pieceB tx ⟨vk, vf, vt, vg, vh, vi, vm, vv⟩ tL.length n' tS.length m' = true := hwe.1.symm.trans hok
      have hwk := hwe.2 hpk
      have hokT : okT ⟨tx, tL, tS⟩ (trOf ⟨⟨vk, vf, vt, vg, vh, vi, vm, vv⟩, K', S', A', B', n', m', c', d'⟩) = true := by
       show pieceB tx _ tL.length K'.length tS.length S'.length = true
       rw [hKn, hSm]; exact hpk
      have HTS2 : Hid (foldW ((l.map trOf).take (i + 1)) = acc0 ++ [⟨wayN tx ⟨vk, vf, vt, vg, vh, vi, vm, vv⟩ (wayOf tx ⟨vk, vf, vt, vg, vh, vi, vm, vv⟩ tL.length), wayL tL K' (wayOf tx ⟨vk, vf, vt, vg, vh, vi, vm, vv⟩ tL.length), []⟩]) := Lib.hid (by
       rw [HTS.out, wstep_yes hokT]
       unfold joinT trOf
       simp only [hwk])
      have HN := Lib.hid (RcOk.of_own (x := wayN tx ⟨vk, vf, vt, vg, vh, vi, vm, vv⟩ (wayOf tx ⟨vk, vf, vt, vg, vh, vi, vm, vv⟩ tL.length)) hs' rfl)
      clear hs hs' hok hpk hwk hokT hwe CTW HTS HP HB hb2 hHeld
      generalize wayN tx ⟨vk, vf, vt, vg, vh, vi, vm, vv⟩ (wayOf tx ⟨vk, vf, vt, vg, vh, vi, vm, vv⟩ tL.length) = Z at *
      generalize wayL tL K' (wayOf tx ⟨vk, vf, vt, vg, vh, vi, vm, vv⟩ tL.length) = ML at *
      generalize ML.length = NM at *
      have HB := HB2
      have HP := HP2
      clear HB2 HP2
      go_wp2_with fail
      refine hK.out _ _ hS1 (fun hHeld => ?_)
      clear hK K hS1
      refine tk 10 (v := ?_) rfl (by kernel_rfl) (fun _ _ _ h => h) ?_ hHeld ?_
      rotate_left
      ·(intro W hSw; clear hSw; go_simp; try with_reducible rfl)
      refine tk 11 (v := ?_) rfl (by kernel_rfl) (fun _ _ _ h => h) ?_ hHeld ?_
      rotate_left
      ·(intro W hSw; clear hSw; go_simp; try with_reducible rfl)
      refine tk 12 (v := ?_) rfl (by kernel_rfl) (fun _ _ _ h => h) ?_ hHeld ?_
      rotate_left
      ·(intro W hSw; clear hSw; go_simp; try with_reducible rfl)
      have hgl2 := Nat.lt_of_lt_of_le hgl hss
      have hbl2 := Nat.lt_of_lt_of_le hbl hss
      clear hgl hbl hss
      have hgl := hgl2
      have hbl := hbl2
      clear hgl2 hbl2
      refine wpAnyH_ready (rs := [13]) (by kernel_rfl) (by simp) ?_
      refine AllReadyH.cons rfl (fun K hK => ?_) AllReadyH.nil
      have hba := (Below.refl W2.heap.size W2).alloc (Nat.le_refl _) (.cells #[.int .i64 0, .int .i64 0, .int .i64 0, .int .i64 0, .int .i64 0, .int .i64 0, .int .i64 0, .int .i64 0, .slice none 0 0, .slice none 0 0] 25)
      have HZ := Lib.hid (heap_alloc_new W2 (.cells #[.int .i64 0, .int .i64 0, .int .i64 0, .int .i64 0, .int .i64 0, .int .i64 0, .int .i64 0, .int .i64 0, .slice none 0 0, .slice none 0 0] 25))
      have hlt : W2.heap.size < (W2.alloc (.cells #[.int .i64 0, .int .i64 0, .int .i64 0, .int .i64 0, .int .i64 0, .int .i64 0, .int .i64 0, .int .i64 0, .slice none 0 0, .slice none 0 0] 25)).heap.size := by simp
      have hS1 := And.intro (ro_keep hHeld.1 (hba.block g0 hgl)) (ro_keep hHeld.2 (hba.block b hbl))
      have HB2 := Lib.hid (HB.out.trans (hba.mono HB.out.size))
      have HP2 := Lib.hid (HP.out.below hba)
      have hPB1 : w.heap.size ≤ W2.heap.size := HB.out.size
      have HN2 := Lib.hid (HN.out.below hba)
      clear HB HP hHeld hba HN
      have HN := HN2
      clear HN2
      have HB := HB2
      have HP := HP2
      clear HB2 HP2
      go_simp
      refine hK.out _ _ hS1 (fun hHeld => ?_)
      clear hK K hS1
      generalize W2.alloc (.cells #[.int .i64 0, .int .i64 0, .int .i64 0, .int .i64 0, .int .i64 0, .int .i64 0, .int .i64 0, .int .i64 0, .slice none 0 0, .slice none 0 0] 25) = WY at HB HP HZ HN hHeld hlt ⊢
      generalize W2.heap.size = PB at HZ hlt hgl hbl hPB1 ⊢
      have hPG : PB ≠ g0 := by omega
      have hgl2 : g0 < WY.heap.size := by omega
      have hbl2 : b < WY.heap.size := by omega
      clear hgl hbl
      have hgl := hgl2
      have hbl := hbl2
      clear hgl2 hbl2
      refine wpAnyH_ready (rs := [14]) (by kernel_rfl) (by simp) ?_
      refine AllReadyH.cons rfl (fun K hK => ?_) AllReadyH.nil
      have hz := tenc HZ.out
      have z0 := hz.1.1
      have z1 := hz.1.2.1
      have z2 := hz.1.2.2.1
      have z3 := hz.1.2.2.2.1
      have z4 := hz.1.2.2.2.2
      have z5 := hz.2.1
      have z6 := hz.2.2.1
      have z7 := hz.2.2.2.1
      have z8 := hz.2.2.2.2.1
      have z9 := hz.2.2.2.2.2
      have hf := froz HZ.out
      have f0 := hf.1
      have f1 := hf.2.1
      have f2 := hf.2.2.1
      have f3 := hf.2.2.2.1
      have f4 := hf.2.2.2.2.1
      have f5 := hf.2.2.2.2.2.1
      have f6 := hf.2.2.2.2.2.2.1
      have f7 := hf.2.2.2.2.2.2.2.1
      have f8 := hf.2.2.2.2.2.2.2.2.1
      have f9 := hf.2.2.2.2.2.2.2.2.2
      clear hz hf
      go_simp
      have hS8 := And.intro (ro_keep hHeld.1 (put10_else (B := PB) (k := g0) (.int .i64 Z.kind) (.int .i64 Z.from_) (.int .i64 Z.to_) (.int .i64 Z.gf) (.int .i64 Z.gt) (.int .i64 Z.ins) (.int .i64 Z.mark) (.int .i64 Z.val) (.slice Av NM cv) (.slice none 0 0) (fun e => hPG e.symm))) (ro_keep hHeld.2 (put10_else (B := PB) (k := b) (.int .i64 Z.kind) (.int .i64 Z.from_) (.int .i64 Z.to_) (.int .i64 Z.gf) (.int .i64 Z.gt) (.int .i64 Z.ins) (.int .i64 Z.mark) (.int .i64 Z.val) (.slice Av NM cv) (.slice none 0 0) (by omega)))
      have hZ8 := put10_at HZ.out (.int .i64 Z.kind) (.int .i64 Z.from_) (.int .i64 Z.to_) (.int .i64 Z.gf) (.int .i64 Z.gt) (.int .i64 Z.ins) (.int .i64 Z.mark) (.int .i64 Z.val) (.slice Av NM cv) (.slice none 0 0)
      have hP8 := HP.out.other (grown_put10 (W := WY) (B := PB) (.int .i64 Z.kind) (.int .i64 Z.from_) (.int .i64 Z.to_) (.int .i64 Z.gf) (.int .i64 Z.gt) (.int .i64 Z.ins) (.int .i64 Z.mark) (.int .i64 Z.val) (.slice Av NM cv) (.slice none 0 0)) HZ.out hPB1 (fun e => hPG (Option.some.inj e).symm)
      have hB8 := put10_below HB.out (B := PB) hPB1 (.int .i64 Z.kind) (.int .i64 Z.from_) (.int .i64 Z.to_) (.int .i64 Z.gf) (.int .i64 Z.gt) (.int .i64 Z.ins) (.int .i64 Z.mark) (.int .i64 Z.val) (.slice Av NM cv) (.slice none 0 0)
      have hN8 := HN.out.grown (grown_put10 (W := WY) (B := PB) (.int .i64 Z.kind) (.int .i64 Z.from_) (.int .i64 Z.to_) (.int .i64 Z.gf) (.int .i64 Z.gt) (.int .i64 Z.ins) (.int .i64 Z.mark) (.int .i64 Z.val) (.slice Av NM cv) (.slice none 0 0)) HZ.out hPB1
      unfold put10 at hS8 hZ8 hP8 hB8 hN8
      have HZ8 := Lib.hid hZ8
      have HP8 := Lib.hid hP8
      have HB8 := Lib.hid hB8
      have HN8 := Lib.hid hN8
      clear hN8 HN
      refine hK.out _ _ hS8 (fun hHeld => ?_)
      clear hK K hS8 hZ8 hP8 hB8 HZ HP HB z0 z1 z2 z3 z4 z5 z6 z7 z8 z9 f0 f1 f2 f3 f4 f5 f6 f7 f8 f9
      generalize World.setCell _ _ _ = W8 at HZ8 HP8 HB8 HN8 hHeld ⊢
      refine wpAnyH_ready (rs := [15]) (by kernel_rfl) (by simp) ?_
      refine AllReadyH.cons rfl (fun K hK => ?_) AllReadyH.nil
      go_simp
      refine hK.out _ _ hHeld (fun hHeld => ?_)
      clear hK K
      refine wpAnyH_done (by kernel_rfl) ?_ _
      have hsl1 : (k : Int) ≤ (cap0 : Int) := by omega
      have hsl2 : ¬ cap0 = 0 := by omega
      have hsl3 : (k : Int) ≤ (k : Int) + 1 := by omega
      clear hcap
      go_upto_region 9 with fail
      refine wp_region_held_drew (S := fun W => W.heap[PB]? = some (.cells #[.int .i64 Z.kind, .int .i64 Z.from_, .int .i64 Z.to_, .int .i64 Z.gf, .int .i64 Z.gt, .int .i64 Z.ins, .int .i64 Z.mark, .int .i64 Z.val, .slice Av NM cv, .slice none 0 0] 25)) (by kernel_rfl) HZ8.out (fun hHeld => ?_)
      have HR : Hid (R9 w W8.drew g0 PB k cap0 (.cells #[.int .i64 Z.kind, .int .i64 Z.from_, .int .i64 Z.to_, .int .i64 Z.gf, .int .i64 Z.gt, .int .i64 Z.ins, .int .i64 Z.mark, .int .i64 Z.val, .slice Av NM cv, .slice none 0 0] 25) ⟨tx, pA, tL.length, pc, pB, tS.length, pd⟩ ps0 _ (⟨Z, Av, NM, cv, none, 0, 0⟩ : Ro.Pt) ⟨Z, ML, []⟩) := Lib.hid ((R9.mk HP8.out HZ8.out HN8.out HB8.out).step (below_drewN (Below.refl W8.heap.size W8) 1))
      clear HP8 HZ8 HN8 HB8
      generalize W8.drew = V0 at HR hHeld ⊢
      refine tk 1 (v := ?_) rfl (by kernel_rfl) (fun _ _ _ h => h) ?_ hHeld ?_
      rotate_left
      ·(intro W hSw; clear hSw; go_simp; try with_reducible rfl)
      refine tk 2 (v := ?_) rfl (by kernel_rfl) (fun _ _ _ h => h) ?_ hHeld ?_
      rotate_left
      ·(intro W hSw; clear hSw; go_simp; try with_reducible rfl)
      have hwq2 : IntKind.i64.wrap (k : Int) = (k : Int) := wrap_few' (by omega) (by omega)
      refine tk 3 (v := ?_) rfl (by kernel_rfl) (fun _ _ _ h => h) ?_ hHeld ?_
      rotate_left
      ·(intro W hSw; clear hSw; go_simp; try with_reducible rfl)
      clear hwq2
      refine tk 4 (v := ?_) rfl (by kernel_rfl) (fun _ _ _ h => h) ?_ hHeld ?_
      rotate_left
      ·(intro W hSw; clear hSw; go_simp; try with_reducible rfl)
      refine tk 6 (v := ?_) rfl (by kernel_rfl) (fun _ _ _ h => h) ?_ hHeld ?_
      rotate_left
      ·(intro W hSw; (try dsimp only at hSw); obtain ⟨⟨y0, y1, y2, y3, y4⟩, y5, y6, y7, y8, y9⟩ := tenc hSw; go_simp; try with_reducible rfl)
      refine wpAnyH_ready (rs := [0, 7]) (by kernel_rfl) (by simp) ?_
      refine AllReadyH.cons rfl (fun K hK => ?_) (AllReadyH.cons rfl (fun K hK => ?_) AllReadyH.nil)
      ·go_simp
       have hba := (Below.refl V0.heap.size V0).alloc (Nat.le_refl _) (.cells #[] 25)
       have HE := Lib.hid (ro_empty V0 w.heap.size HR.out.hb.size)
       have HR2 := Lib.hid (HR.out.step hba)
       have hS := hkeep hba hHeld
       have hEg : V0.heap.size ≠ g0 := by have := HR.out.lt; omega
       have hEP : V0.heap.size ≠ PB := by have := lt_some hHeld; omega
       have hE0 : w.heap.size ≤ V0.heap.size := HR.out.hb.size
       clear HR hHeld hba
       have HR := HR2
       clear HR2
       refine hK.out _ _ hS (fun hHeld => ?_)
       clear hK K hS
       generalize V0.alloc (.cells #[] 25) = V1 at HE HR hHeld ⊢
       generalize V0.heap.size = EB at HE hEg hEP hE0 ⊢
       refine wpAnyH_ready (rs := [5, 7]) (by kernel_rfl) (by simp) ?_
       refine AllReadyH.cons rfl (fun K hK => ?_) (AllReadyH.cons rfl (fun K hK => ?_) AllReadyH.nil)
       ·refine ready_app_ro rfl (.tmp 32) (.tmp 36) rfl w.heap.size (.slice (some ⟨EB, 0, none⟩) 0 0) [] rfl HE.out (some ⟨g0, 0, none⟩) k cap0 ps0 rfl (HR.out.pre hk) (by simp; omega) HR.out.hb.size ?_
        intro v5 V2 hO hg hown
        rw [List.nil_append] at hO
        have hbl : (Value.slice (some ⟨EB, 0, none⟩) 0 0).ownBlock = some EB := rfl
        rw [hbl] at hg hown
        obtain ⟨_, _, csE, frE, hEE⟩ := HE.out.block EB rfl
        have HR2 := Lib.hid (HR.out.grown hg hEE hE0 hEg hEP)
        have hS := grown_at hg hHeld (fun e => hEP (Option.some.inj e))
        have hOP : ∀ g, v5.ownBlock = some g → g ≠ PB := fun g e => by
         rcases hown with h | h
         ·rw [h] at e; cases e; exact hEP
         ·rw [h] at e; cases e; have := lt_some hHeld; omega
        obtain ⟨A5, c5, rfl⟩ := hO.form
        rw [hk] at hO hOP ⊢
        have HO := Lib.hid hO
        clear HE hO hg hown hEE hbl hHeld HR hEg hEP hE0
        have HR := HR2
        clear HR2
        refine hK.out _ _ hS (fun hHeld => ?_)
        clear hK K hS
        refine wpAnyH_ready (rs := [7]) (by kernel_rfl) (by simp) ?_
        refine AllReadyH.cons rfl (fun K hK => ?_) AllReadyH.nil
        go_simp
        have hba := (Below.refl V2.heap.size V2).alloc (Nat.le_refl _) (.cells #[.int .i64 Z.kind, .int .i64 Z.from_, .int .i64 Z.to_, .int .i64 Z.gf, .int .i64 Z.gt, .int .i64 Z.ins, .int .i64 Z.mark, .int .i64 Z.val, .slice Av NM cv, .slice none 0 0] 25)
        have HL : Hid (Ro.PRow (V2.alloc (.cells #[.int .i64 Z.kind, .int .i64 Z.from_, .int .i64 Z.to_, .int .i64 Z.gf, .int .i64 Z.gt, .int .i64 Z.ins, .int .i64 Z.mark, .int .i64 Z.val, .slice Av NM cv, .slice none 0 0] 25)) (some ⟨V2.heap.size, 0, none⟩) 1 [(⟨Z, Av, NM, cv, none, 0, 0⟩ : Ro.Pt)]) := Lib.hid (step_lit V2 (⟨Z, Av, NM, cv, none, 0, 0⟩ : Ro.Pt))
        have HR2 := Lib.hid (HR.out.step hba)
        have hS := hkeep hba hHeld
        have hLs : V2.heap.size < (V2.alloc (.cells #[.int .i64 Z.kind, .int .i64 Z.from_, .int .i64 Z.to_, .int .i64 Z.gf, .int .i64 Z.gt, .int .i64 Z.ins, .int .i64 Z.mark, .int .i64 Z.val, .slice Av NM cv, .slice none 0 0] 25)).heap.size := by simp
        have HO2 := Lib.hid (HO.out.belowAll hba)
        clear HO
        have HO := HO2
        clear HO2
        clear HR hHeld hba
        have HR := HR2
        clear HR2
        refine hK.out _ _ hS (fun hHeld => ?_)
        clear hK K hS
        generalize V2.alloc (.cells #[.int .i64 Z.kind, .int .i64 Z.from_, .int .i64 Z.to_, .int .i64 Z.gf, .int .i64 Z.gt, .int .i64 Z.ins, .int .i64 Z.mark, .int .i64 Z.val, .slice Av NM cv, .slice none 0 0] 25) = V3 at HL HR hLs hHeld HO ⊢
        generalize V2.heap.size = LB at HL hLs ⊢
        refine wpAnyH_ready (rs := [8]) (by kernel_rfl) (by simp) ?_
        refine AllReadyH.cons rfl (fun K hK => ?_) AllReadyH.nil
        refine ready_app_ro rfl (.tmp 37) (.tmp 39) rfl w.heap.size (.slice A5 k c5) ps0 rfl HO.out (some ⟨LB, 0, none⟩) 1 1 [(⟨Z, Av, NM, cv, none, 0, 0⟩ : Ro.Pt)] rfl HL.out (by omega) HR.out.hb.size ?_
        intro v8 W9 h8 hg8 _
        have hF := HR.out.fin HO.out h8 hg8
        have hS := grown_at hg8 hHeld (fun e => hOP _ e rfl)
        have HP9 : Hid (RInv w.heap.size W9 v8 (ps0 ++ [(⟨Z, Av, NM, cv, none, 0, 0⟩ : Ro.Pt)]) (foldW ((l.map trOf).take (i + 1)))) := Lib.hid (by have h9 := hF.1; have e9 := HTS2.out; rw [e9]; exact h9)
        have HB9 := Lib.hid hF.2
        clear hF h8 hg8 HR HO HL HTS2 hOP hHeld
        refine hK.out _ _ hS (fun hHeld => ?_)
        clear hK K hS
        refine wpAnyH_ready (rs := [9]) (by kernel_rfl) (by simp) ?_
        refine AllReadyH.cons rfl (fun K hK => ?_) AllReadyH.nil
        go_simp
        refine hK.out _ _ hHeld (fun hHeld => ?_)
        clear hK K hHeld
        refine wpAnyH_done (by kernel_rfl) ?_ _
        go_wp2
        exact ⟨⟨i + 1, ps0 ++ [(⟨Z, Av, NM, cv, none, 0, 0⟩ : Ro.Pt)], by push_cast; rfl, by omega, HP9, HB9⟩, by simp only [intOf]; omega⟩
       ·go_simp
        have hba := (Below.refl V1.heap.size V1).alloc (Nat.le_refl _) (.cells #[.int .i64 Z.kind, .int .i64 Z.from_, .int .i64 Z.to_, .int .i64 Z.gf, .int .i64 Z.gt, .int .i64 Z.ins, .int .i64 Z.mark, .int .i64 Z.val, .slice Av NM cv, .slice none 0 0] 25)
        have HL : Hid (Ro.PRow (V1.alloc (.cells #[.int .i64 Z.kind, .int .i64 Z.from_, .int .i64 Z.to_, .int .i64 Z.gf, .int .i64 Z.gt, .int .i64 Z.ins, .int .i64 Z.mark, .int .i64 Z.val, .slice Av NM cv, .slice none 0 0] 25)) (some ⟨V1.heap.size, 0, none⟩) 1 [(⟨Z, Av, NM, cv, none, 0, 0⟩ : Ro.Pt)]) := Lib.hid (step_lit V1 (⟨Z, Av, NM, cv, none, 0, 0⟩ : Ro.Pt))
        have HR2 := Lib.hid (HR.out.step hba)
        have hS := hkeep hba hHeld
        have hLs : V1.heap.size < (V1.alloc (.cells #[.int .i64 Z.kind, .int .i64 Z.from_, .int .i64 Z.to_, .int .i64 Z.gf, .int .i64 Z.gt, .int .i64 Z.ins, .int .i64 Z.mark, .int .i64 Z.val, .slice Av NM cv, .slice none 0 0] 25)).heap.size := by simp
        have hEL : EB ≠ V1.heap.size := by have := (HE.out.block EB rfl).2.1; omega
        have HE2 := Lib.hid (HE.out.belowAll hba)
        clear HE
        have HE := HE2
        clear HE2
        clear HR hHeld hba
        have HR := HR2
        clear HR2
        refine hK.out _ _ hS (fun hHeld => ?_)
        clear hK K hS
        generalize V1.alloc (.cells #[.int .i64 Z.kind, .int .i64 Z.from_, .int .i64 Z.to_, .int .i64 Z.gf, .int .i64 Z.gt, .int .i64 Z.ins, .int .i64 Z.mark, .int .i64 Z.val, .slice Av NM cv, .slice none 0 0] 25) = V2 at HL HR hLs hHeld HE ⊢
        generalize V1.heap.size = LB at HL hLs hEL ⊢
        refine wpAnyH_ready (rs := [5]) (by kernel_rfl) (by simp) ?_
        refine AllReadyH.cons rfl (fun K hK => ?_) AllReadyH.nil
        refine ready_app_ro rfl (.tmp 32) (.tmp 36) rfl w.heap.size (.slice (some ⟨EB, 0, none⟩) 0 0) [] rfl HE.out (some ⟨g0, 0, none⟩) k cap0 ps0 rfl (HR.out.pre hk) (by simp; omega) HR.out.hb.size ?_
        intro v5 V3 hO hg hown
        rw [List.nil_append] at hO
        have hbl : (Value.slice (some ⟨EB, 0, none⟩) 0 0).ownBlock = some EB := rfl
        rw [hbl] at hg hown
        obtain ⟨_, _, csE, frE, hEE⟩ := HE.out.block EB rfl
        have HR2 := Lib.hid (HR.out.grown hg hEE hE0 hEg hEP)
        have hS := grown_at hg hHeld (fun e => hEP (Option.some.inj e))
        have hOP : ∀ g, v5.ownBlock = some g → g ≠ PB := fun g e => by
         rcases hown with h | h
         ·rw [h] at e; cases e; exact hEP
         ·rw [h] at e; cases e; have := lt_some hHeld; omega
        have HL2 := Lib.hid (prow_grown HL.out hg (fun e => hEL (Option.some.inj e)))
        clear HL
        have HL := HL2
        clear HL2
        obtain ⟨A5, c5, rfl⟩ := hO.form
        rw [hk] at hO hOP ⊢
        have HO := Lib.hid hO
        clear HE hO hg hown hEE hbl hHeld HR hEg hEP hE0 hEL hLs
        have HR := HR2
        clear HR2
        refine hK.out _ _ hS (fun hHeld => ?_)
        clear hK K hS
        refine wpAnyH_ready (rs := [8]) (by kernel_rfl) (by simp) ?_
        refine AllReadyH.cons rfl (fun K hK => ?_) AllReadyH.nil
        refine ready_app_ro rfl (.tmp 37) (.tmp 39) rfl w.heap.size (.slice A5 k c5) ps0 rfl HO.out (some ⟨LB, 0, none⟩) 1 1 [(⟨Z, Av, NM, cv, none, 0, 0⟩ : Ro.Pt)] rfl HL.out (by omega) HR.out.hb.size ?_
        intro v8 W9 h8 hg8 _
        have hF := HR.out.fin HO.out h8 hg8
        have hS := grown_at hg8 hHeld (fun e => hOP _ e rfl)
        have HP9 : Hid (RInv w.heap.size W9 v8 (ps0 ++ [(⟨Z, Av, NM, cv, none, 0, 0⟩ : Ro.Pt)]) (foldW ((l.map trOf).take (i + 1)))) := Lib.hid (by have h9 := hF.1; have e9 := HTS2.out; rw [e9]; exact h9)
        have HB9 := Lib.hid hF.2
        clear hF h8 hg8 HR HO HL HTS2 hOP hHeld
        refine hK.out _ _ hS (fun hHeld => ?_)
        clear hK K hS
        refine wpAnyH_ready (rs := [9]) (by kernel_rfl) (by simp) ?_
        refine AllReadyH.cons rfl (fun K hK => ?_) AllReadyH.nil
        go_simp
        refine hK.out _ _ hHeld (fun hHeld => ?_)
        clear hK K hHeld
        refine wpAnyH_done (by kernel_rfl) ?_ _
        go_wp2
        exact ⟨⟨i + 1, ps0 ++ [(⟨Z, Av, NM, cv, none, 0, 0⟩ : Ro.Pt)], by push_cast; rfl, by omega, HP9, HB9⟩, by simp only [intOf]; omega⟩
      ·go_simp
       have hba := (Below.refl V0.heap.size V0).alloc (Nat.le_refl _) (.cells #[.int .i64 Z.kind, .int .i64 Z.from_, .int .i64 Z.to_, .int .i64 Z.gf, .int .i64 Z.gt, .int .i64 Z.ins, .int .i64 Z.mark, .int .i64 Z.val, .slice Av NM cv, .slice none 0 0] 25)
       have HL : Hid (Ro.PRow (V0.alloc (.cells #[.int .i64 Z.kind, .int .i64 Z.from_, .int .i64 Z.to_, .int .i64 Z.gf, .int .i64 Z.gt, .int .i64 Z.ins, .int .i64 Z.mark, .int .i64 Z.val, .slice Av NM cv, .slice none 0 0] 25)) (some ⟨V0.heap.size, 0, none⟩) 1 [(⟨Z, Av, NM, cv, none, 0, 0⟩ : Ro.Pt)]) := Lib.hid (step_lit V0 (⟨Z, Av, NM, cv, none, 0, 0⟩ : Ro.Pt))
       have HR2 := Lib.hid (HR.out.step hba)
       have hS := hkeep hba hHeld
       have hLs : V0.heap.size < (V0.alloc (.cells #[.int .i64 Z.kind, .int .i64 Z.from_, .int .i64 Z.to_, .int .i64 Z.gf, .int .i64 Z.gt, .int .i64 Z.ins, .int .i64 Z.mark, .int .i64 Z.val, .slice Av NM cv, .slice none 0 0] 25)).heap.size := by simp
       clear HR hHeld hba
       have HR := HR2
       clear HR2
       refine hK.out _ _ hS (fun hHeld => ?_)
       clear hK K hS
       generalize V0.alloc (.cells #[.int .i64 Z.kind, .int .i64 Z.from_, .int .i64 Z.to_, .int .i64 Z.gf, .int .i64 Z.gt, .int .i64 Z.ins, .int .i64 Z.mark, .int .i64 Z.val, .slice Av NM cv, .slice none 0 0] 25) = V1 at HL HR hLs hHeld ⊢
       generalize V0.heap.size = LB at HL hLs ⊢
       refine wpAnyH_ready (rs := [0]) (by kernel_rfl) (by simp) ?_
       refine AllReadyH.cons rfl (fun K hK => ?_) AllReadyH.nil
       go_simp
       have hba := (Below.refl V1.heap.size V1).alloc (Nat.le_refl _) (.cells #[] 25)
       have HE := Lib.hid (ro_empty V1 w.heap.size HR.out.hb.size)
       have HR2 := Lib.hid (HR.out.step hba)
       have hS := hkeep hba hHeld
       have hEg : V1.heap.size ≠ g0 := by have := HR.out.lt; omega
       have hEP : V1.heap.size ≠ PB := by have := lt_some hHeld; omega
       have hE0 : w.heap.size ≤ V1.heap.size := HR.out.hb.size
       have hEL : V1.heap.size ≠ LB := by omega
       have hLs2 : LB < (V1.alloc (.cells #[] 25)).heap.size := by simp; omega
       have HL2 := Lib.hid (HL.out.below hba)
       clear HL hLs
       have HL := HL2
       have hLs := hLs2
       clear HL2 hLs2
       clear HR hHeld hba
       have HR := HR2
       clear HR2
       refine hK.out _ _ hS (fun hHeld => ?_)
       clear hK K hS
       generalize V1.alloc (.cells #[] 25) = V2 at HE HR hHeld HL hLs ⊢
       generalize V1.heap.size = EB at HE hEg hEP hE0 hEL ⊢
       refine wpAnyH_ready (rs := [5]) (by kernel_rfl) (by simp) ?_
       refine AllReadyH.cons rfl (fun K hK => ?_) AllReadyH.nil
       refine ready_app_ro rfl (.tmp 32) (.tmp 36) rfl w.heap.size (.slice (some ⟨EB, 0, none⟩) 0 0) [] rfl HE.out (some ⟨g0, 0, none⟩) k cap0 ps0 rfl (HR.out.pre hk) (by simp; omega) HR.out.hb.size ?_
       intro v5 V3 hO hg hown
       rw [List.nil_append] at hO
       have hbl : (Value.slice (some ⟨EB, 0, none⟩) 0 0).ownBlock = some EB := rfl
       rw [hbl] at hg hown
       obtain ⟨_, _, csE, frE, hEE⟩ := HE.out.block EB rfl
       have HR2 := Lib.hid (HR.out.grown hg hEE hE0 hEg hEP)
       have hS := grown_at hg hHeld (fun e => hEP (Option.some.inj e))
       have hOP : ∀ g, v5.ownBlock = some g → g ≠ PB := fun g e => by
        rcases hown with h | h
        ·rw [h] at e; cases e; exact hEP
        ·rw [h] at e; cases e; have := lt_some hHeld; omega
       have HL2 := Lib.hid (prow_grown HL.out hg (fun e => hEL (Option.some.inj e)))
       clear HL
       have HL := HL2
       clear HL2
       obtain ⟨A5, c5, rfl⟩ := hO.form
       rw [hk] at hO hOP ⊢
       have HO := Lib.hid hO
       clear HE hO hg hown hEE hbl hHeld HR hEg hEP hE0 hEL hLs
       have HR := HR2
       clear HR2
       refine hK.out _ _ hS (fun hHeld => ?_)
       clear hK K hS
       refine wpAnyH_ready (rs := [8]) (by kernel_rfl) (by simp) ?_
       refine AllReadyH.cons rfl (fun K hK => ?_) AllReadyH.nil
       refine ready_app_ro rfl (.tmp 37) (.tmp 39) rfl w.heap.size (.slice A5 k c5) ps0 rfl HO.out (some ⟨LB, 0, none⟩) 1 1 [(⟨Z, Av, NM, cv, none, 0, 0⟩ : Ro.Pt)] rfl HL.out (by omega) HR.out.hb.size ?_
       intro v8 W9 h8 hg8 _
       have hF := HR.out.fin HO.out h8 hg8
       have hS := grown_at hg8 hHeld (fun e => hOP _ e rfl)
       have HP9 : Hid (RInv w.heap.size W9 v8 (ps0 ++ [(⟨Z, Av, NM, cv, none, 0, 0⟩ : Ro.Pt)]) (foldW ((l.map trOf).take (i + 1)))) := Lib.hid (by have h9 := hF.1; have e9 := HTS2.out; rw [e9]; exact h9)
       have HB9 := Lib.hid hF.2
       clear hF h8 hg8 HR HO HL HTS2 hOP hHeld
       refine hK.out _ _ hS (fun hHeld => ?_)
       clear hK K hS
       refine wpAnyH_ready (rs := [9]) (by kernel_rfl) (by simp) ?_
       refine AllReadyH.cons rfl (fun K hK => ?_) AllReadyH.nil
       go_simp
       refine hK.out _ _ hHeld (fun hHeld => ?_)
       clear hK K hHeld
       refine wpAnyH_done (by kernel_rfl) ?_ _
       go_wp2
       exact ⟨⟨i + 1, ps0 ++ [(⟨Z, Av, NM, cv, none, 0, 0⟩ : Ro.Pt)], by push_cast; rfl, by omega, HP9, HB9⟩, by simp only [intOf]; omega⟩
     ·have hpk : pieceB tx ⟨vk, vf, vt, vg, vh, vi, vm, vv⟩ tL.length n' tS.length m' = false := hwe.1.symm.trans hok
      have hokT : okT ⟨tx, tL, tS⟩ (trOf ⟨⟨vk, vf, vt, vg, vh, vi, vm, vv⟩, K', S', A', B', n', m', c', d'⟩) = false := by
       show pieceB tx _ tL.length K'.length tS.length S'.length = false
       rw [hKn, hSm]; exact hpk
      have HTS2 := Lib.hid (HTS.out.trans (wstep_no hokT))
      clear hok hpk hokT hwe CTW HTS HP HB hb2 hHeld
      have HB := HB2
      have HP := HP2
      clear HB2 HP2
      go_wp2_with fail
      refine hK.out _ _ hS1 (fun hHeld => ?_)
      clear hK K hS1
      refine tk 10 (v := ?_) rfl (by kernel_rfl) (fun _ _ _ h => h) ?_ hHeld ?_
      rotate_left
      ·(intro W hSw; clear hSw; go_simp; try with_reducible rfl)
      refine tk 11 (v := ?_) rfl (by kernel_rfl) (fun _ _ _ h => h) ?_ hHeld ?_
      rotate_left
      ·(intro W hSw; clear hSw; go_simp; try with_reducible rfl)
      refine tk 12 (v := ?_) rfl (by kernel_rfl) (fun _ _ _ h => h) ?_ hHeld ?_
      rotate_left
      ·(intro W hSw; clear hSw; go_simp; try with_reducible rfl)
      have hgl2 := Nat.lt_of_lt_of_le hgl hss
      have hbl2 := Nat.lt_of_lt_of_le hbl hss
      clear hgl hbl hss
      have hgl := hgl2
      have hbl := hbl2
      clear hgl2 hbl2
      refine wpAnyH_ready (rs := [13]) (by kernel_rfl) (by simp) ?_
      refine AllReadyH.cons rfl (fun K hK => ?_) AllReadyH.nil
      have hba := (Below.refl W2.heap.size W2).alloc (Nat.le_refl _) (.cells #[.int .i64 0, .int .i64 0, .int .i64 0, .int .i64 0, .int .i64 0, .int .i64 0, .int .i64 0, .int .i64 0, .slice none 0 0, .slice none 0 0] 25)
      have HZ := Lib.hid (heap_alloc_new W2 (.cells #[.int .i64 0, .int .i64 0, .int .i64 0, .int .i64 0, .int .i64 0, .int .i64 0, .int .i64 0, .int .i64 0, .slice none 0 0, .slice none 0 0] 25))
      have hlt : W2.heap.size < (W2.alloc (.cells #[.int .i64 0, .int .i64 0, .int .i64 0, .int .i64 0, .int .i64 0, .int .i64 0, .int .i64 0, .int .i64 0, .slice none 0 0, .slice none 0 0] 25)).heap.size := by simp
      have hS1 := And.intro (ro_keep hHeld.1 (hba.block g0 hgl)) (ro_keep hHeld.2 (hba.block b hbl))
      have HB2 := Lib.hid (HB.out.trans (hba.mono HB.out.size))
      have HP2 := Lib.hid (HP.out.below hba)
      have hPB1 : w.heap.size ≤ W2.heap.size := HB.out.size
      clear HB HP hHeld hba
      have HB := HB2
      have HP := HP2
      clear HB2 HP2
      go_simp
      refine hK.out _ _ hS1 (fun hHeld => ?_)
      clear hK K hS1
      generalize W2.alloc (.cells #[.int .i64 0, .int .i64 0, .int .i64 0, .int .i64 0, .int .i64 0, .int .i64 0, .int .i64 0, .int .i64 0, .slice none 0 0, .slice none 0 0] 25) = WY at HB HP HZ hHeld hlt ⊢
      generalize W2.heap.size = PB at HZ hlt hgl hbl hPB1 ⊢
      have hPG : PB ≠ g0 := by omega
      have hgl2 : g0 < WY.heap.size := by omega
      have hbl2 : b < WY.heap.size := by omega
      clear hgl hbl
      have hgl := hgl2
      have hbl := hbl2
      clear hgl2 hbl2
      refine wpAnyH_ready (rs := [14]) (by kernel_rfl) (by simp) ?_
      refine AllReadyH.cons rfl (fun K hK => ?_) AllReadyH.nil
      have hz := tenc HZ.out
      have z0 := hz.1.1
      have z1 := hz.1.2.1
      have z2 := hz.1.2.2.1
      have z3 := hz.1.2.2.2.1
      have z4 := hz.1.2.2.2.2
      have z5 := hz.2.1
      have z6 := hz.2.2.1
      have z7 := hz.2.2.2.1
      have z8 := hz.2.2.2.2.1
      have z9 := hz.2.2.2.2.2
      have hf := froz HZ.out
      have f0 := hf.1
      have f1 := hf.2.1
      have f2 := hf.2.2.1
      have f3 := hf.2.2.2.1
      have f4 := hf.2.2.2.2.1
      have f5 := hf.2.2.2.2.2.1
      have f6 := hf.2.2.2.2.2.2.1
      have f7 := hf.2.2.2.2.2.2.2.1
      have f8 := hf.2.2.2.2.2.2.2.2.1
      have f9 := hf.2.2.2.2.2.2.2.2.2
      clear hz hf
      go_simp
      have hS8 := And.intro (ro_keep hHeld.1 (put10_else (B := PB) (k := g0) (.int .i64 0) (.int .i64 0) (.int .i64 0) (.int .i64 0) (.int .i64 0) (.int .i64 0) (.int .i64 0) (.int .i64 0) (.slice none 0 0) (.slice none 0 0) (fun e => hPG e.symm))) (ro_keep hHeld.2 (put10_else (B := PB) (k := b) (.int .i64 0) (.int .i64 0) (.int .i64 0) (.int .i64 0) (.int .i64 0) (.int .i64 0) (.int .i64 0) (.int .i64 0) (.slice none 0 0) (.slice none 0 0) (by omega)))
      have hZ8 := put10_at HZ.out (.int .i64 0) (.int .i64 0) (.int .i64 0) (.int .i64 0) (.int .i64 0) (.int .i64 0) (.int .i64 0) (.int .i64 0) (.slice none 0 0) (.slice none 0 0)
      have hP8 := HP.out.other (grown_put10 (W := WY) (B := PB) (.int .i64 0) (.int .i64 0) (.int .i64 0) (.int .i64 0) (.int .i64 0) (.int .i64 0) (.int .i64 0) (.int .i64 0) (.slice none 0 0) (.slice none 0 0)) HZ.out hPB1 (fun e => hPG (Option.some.inj e).symm)
      have hB8 := put10_below HB.out (B := PB) hPB1 (.int .i64 0) (.int .i64 0) (.int .i64 0) (.int .i64 0) (.int .i64 0) (.int .i64 0) (.int .i64 0) (.int .i64 0) (.slice none 0 0) (.slice none 0 0)
      skip
      unfold put10 at hS8 hZ8 hP8 hB8
      have HZ8 := Lib.hid hZ8
      have HP8 := Lib.hid hP8
      have HB8 := Lib.hid hB8
      skip
      refine hK.out _ _ hS8 (fun hHeld => ?_)
      clear hK K hS8 hZ8 hP8 hB8 HZ HP HB z0 z1 z2 z3 z4 z5 z6 z7 z8 z9 f0 f1 f2 f3 f4 f5 f6 f7 f8 f9
      generalize World.setCell _ _ _ = W8 at HZ8 HP8 HB8 hHeld ⊢
      refine wpAnyH_ready (rs := [15]) (by kernel_rfl) (by simp) ?_
      refine AllReadyH.cons rfl (fun K hK => ?_) AllReadyH.nil
      go_simp
      refine hK.out _ _ hHeld (fun hHeld => ?_)
      clear hK K
      refine wpAnyH_done (by kernel_rfl) ?_ _
      have HTS := HTS2
      have HP := HP8
      have HB := HB8
      clear HTS2 HP8 HB8 hHeld HZ8
      have hba := (Below.refl W8.heap.size W8).alloc (Nat.le_refl _) (.cells #[.int .i64 vk, .int .i64 vf, .int .i64 vt, .int .i64 vg, .int .i64 vh, .int .i64 vi, .int .i64 vm, .int .i64 vv, .slice A' n' c', .slice B' m' d'] 25)
      have HB1 := Lib.hid (HB.out.alloc HB.out.size (.cells #[.int .i64 vk, .int .i64 vf, .int .i64 vt, .int .i64 vg, .int .i64 vh, .int .i64 vi, .int .i64 vm, .int .i64 vv, .slice A' n' c', .slice B' m' d'] 25))
      have HP1 := Lib.hid (HP.out.below hba)
      have HPL := Lib.hid (step_lit W8 ⟨⟨vk, vf, vt, vg, vh, vi, vm, vv⟩, A', n', c', B', m', d'⟩)
      have hnew : RcOk w.heap.size (W8.alloc (.cells #[.int .i64 vk, .int .i64 vf, .int .i64 vt, .int .i64 vg, .int .i64 vh, .int .i64 vi, .int .i64 vm, .int .i64 vv, .slice A' n' c', .slice B' m' d'] 25)) ⟨⟨vk, vf, vt, vg, vh, vi, vm, vv⟩, A', n', c', B', m', d'⟩ ⟨⟨vk, vf, vt, vg, vh, vi, vm, vv⟩, K', S'⟩ := RcOk.of_in rfl HQ.out.2.1 HQ.out.2.2.1 HB1.out
      have HNW := Lib.hid hnew
      have hlps : (ps0 ++ [(⟨tx, pA, tL.length, pc, pB, tS.length, pd⟩ : Ro.Pt)]).length ≤ 100000 := by rw [List.length_append, hk]; simp; omega
      obtain ⟨⟨y0, y1, y2, y3, y4⟩, y5, y6, y7, y8, y9⟩ := (HQ.out.below HB.out hbs).cells
      clear hba hnew HP HB HQ
      go_wp2_with (at_builtin; (refine Ro.wpList_app_pt rfl (.tmp 41) (.tmp 46) rfl w.heap.size _ (ps0 ++ [(⟨tx, pA, tL.length, pc, pB, tS.length, pd⟩ : Ro.Pt)]) rfl HP1.out.row (some ⟨W8.heap.size, 0, none⟩) 1 1 [⟨⟨vk, vf, vt, vg, vh, vi, vm, vv⟩, A', n', c', B', m', d'⟩] rfl HPL.out (by omega) (HB1.out.size) ?_); intro v' w9 hown' hg' hat)
      have HP9 := Lib.hid (RInv.more HP1.out.row HP1.out.len HP1.out.ok HNW.out hown' hg')
      have HB9 := Lib.hid (grown_low HB1.out HB1.out.size hg' (fun g e => (HP1.out.row.block g e).1))
      have HP10 : Hid (RInv w.heap.size w9 v' (ps0 ++ [(⟨tx, pA, tL.length, pc, pB, tS.length, pd⟩ : Ro.Pt)] ++ [⟨⟨vk, vf, vt, vg, vh, vi, vm, vv⟩, A', n', c', B', m', d'⟩]) (foldW ((l.map trOf).take (i + 1)))) := Lib.hid (by have h9 := HP9.out; have e9 := HTS.out; rw [e9]; exact h9)
      clear hown' hg' hat HP1 HB1 HNW HPL HP9 HTS y0 y1 y2 y3 y4 y5 y6 y7 y8 y9
      exact ⟨⟨i + 1, ps0 ++ [(⟨tx, pA, tL.length, pc, pB, tS.length, pd⟩ : Ro.Pt)] ++ [⟨⟨vk, vf, vt, vg, vh, vi, vm, vv⟩, A', n', c', B', m', d'⟩], by push_cast; rfl, by omega, HP10, HB9⟩, by simp only [intOf]; omega⟩
    ·have hba := (Below.refl W.heap.size W).alloc (Nat.le_refl _) (.cells #[.int .i64 0, .int .i64 0, .int .i64 0, .int .i64 0, .int .i64 0, .int .i64 0, .int .i64 0, .int .i64 0, .slice none 0 0, .slice none 0 0] 25)
     have HZ := Lib.hid (heap_alloc_new W (.cells #[.int .i64 0, .int .i64 0, .int .i64 0, .int .i64 0, .int .i64 0, .int .i64 0, .int .i64 0, .int .i64 0, .slice none 0 0, .slice none 0 0] 25))
     have hlt : W.heap.size < (W.alloc (.cells #[.int .i64 0, .int .i64 0, .int .i64 0, .int .i64 0, .int .i64 0, .int .i64 0, .int .i64 0, .int .i64 0, .slice none 0 0, .slice none 0 0] 25)).heap.size := by simp
     have hS1 := And.intro (ro_keep hHeld.1 (hba.block g0 hgl)) (ro_keep hHeld.2 (hba.block b hbl))
     have HB2 := Lib.hid (HB.out.trans (hba.mono HB.out.size))
     have HP2 := Lib.hid (HP.out.below hba)
     have hPB1 : w.heap.size ≤ W.heap.size := HB.out.size
     clear HB HP hHeld hba
     have HB := HB2
     have HP := HP2
     clear HB2 HP2
     go_simp
     refine hK.out _ _ hS1 (fun hHeld => ?_)
     clear hK K hS1
     generalize W.alloc (.cells #[.int .i64 0, .int .i64 0, .int .i64 0, .int .i64 0, .int .i64 0, .int .i64 0, .int .i64 0, .int .i64 0, .slice none 0 0, .slice none 0 0] 25) = W3 at HB HP HZ hHeld hlt ⊢
     generalize W.heap.size = PB at HZ hlt hgl hbl hPB1 ⊢
     have hPG : PB ≠ g0 := by omega
     have hgl2 : g0 < W3.heap.size := by omega
     have hbl2 : b < W3.heap.size := by omega
     clear hgl hbl
     have hgl := hgl2
     have hbl := hbl2
     clear hgl2 hbl2
     refine wpAnyH_ready (rs := [9]) (by kernel_rfl) (by simp) ?_
     refine AllReadyH.cons rfl (fun K hK => ?_) AllReadyH.nil
     go_simp
     refine (CTW _ HP.out.last.1.l (HQ.out.2.1.below HB.out)).mono ?_
     rintro e W2 ⟨hor, hb2⟩
     have hS1 := And.intro (ro_keep hHeld.1 (hb2.block g0 hgl)) (ro_keep hHeld.2 (hb2.block b hbl))
     have HB2 := Lib.hid (HB.out.trans (hb2.mono HB.out.size))
     have HP2 := Lib.hid (HP.out.below hb2)
     have hsl := HB.out.size
     have hss := hb2.size
     have HZ2 := Lib.hid (hkeep hb2 HZ.out)
     rcases hor with ⟨hok, s, rfl, hs⟩ | ⟨hok, rfl⟩
     ·have hs' := hs.lower hsl
      obtain ⟨Av, cv, rfl⟩ := hs'.form
      have hpk : pieceB tx ⟨vk, vf, vt, vg, vh, vi, vm, vv⟩ tL.length n' tS.length m' = true := hwe.1.symm.trans hok
      have hwk := hwe.2 hpk
      have hokT : okT ⟨tx, tL, tS⟩ (trOf ⟨⟨vk, vf, vt, vg, vh, vi, vm, vv⟩, K', S', A', B', n', m', c', d'⟩) = true := by
       show pieceB tx _ tL.length K'.length tS.length S'.length = true
       rw [hKn, hSm]; exact hpk
      have HTS2 : Hid (foldW ((l.map trOf).take (i + 1)) = acc0 ++ [⟨wayN tx ⟨vk, vf, vt, vg, vh, vi, vm, vv⟩ (wayOf tx ⟨vk, vf, vt, vg, vh, vi, vm, vv⟩ tL.length), wayL tL K' (wayOf tx ⟨vk, vf, vt, vg, vh, vi, vm, vv⟩ tL.length), []⟩]) := Lib.hid (by
       rw [HTS.out, wstep_yes hokT]
       unfold joinT trOf
       simp only [hwk])
      have HN := Lib.hid (RcOk.of_own (x := wayN tx ⟨vk, vf, vt, vg, vh, vi, vm, vv⟩ (wayOf tx ⟨vk, vf, vt, vg, vh, vi, vm, vv⟩ tL.length)) hs' rfl)
      clear hs hs' hok hpk hwk hokT hwe CTW HTS HP HB hb2 hHeld
      generalize wayN tx ⟨vk, vf, vt, vg, vh, vi, vm, vv⟩ (wayOf tx ⟨vk, vf, vt, vg, vh, vi, vm, vv⟩ tL.length) = Z at *
      generalize wayL tL K' (wayOf tx ⟨vk, vf, vt, vg, vh, vi, vm, vv⟩ tL.length) = ML at *
      generalize ML.length = NM at *
      have HB := HB2
      have HP := HP2
      clear HB2 HP2
      have HZ := HZ2
      clear HZ2
      go_wp2_with fail
      refine hK.out _ _ hS1 (fun hHeld => ?_)
      clear hK K hS1
      refine tk 10 (v := ?_) rfl (by kernel_rfl) (fun _ _ _ h => h) ?_ hHeld ?_
      rotate_left
      ·(intro W hSw; clear hSw; go_simp; try with_reducible rfl)
      refine tk 11 (v := ?_) rfl (by kernel_rfl) (fun _ _ _ h => h) ?_ hHeld ?_
      rotate_left
      ·(intro W hSw; clear hSw; go_simp; try with_reducible rfl)
      refine tk 12 (v := ?_) rfl (by kernel_rfl) (fun _ _ _ h => h) ?_ hHeld ?_
      rotate_left
      ·(intro W hSw; clear hSw; go_simp; try with_reducible rfl)
      refine wpAnyH_ready (rs := [14]) (by kernel_rfl) (by simp) ?_
      refine AllReadyH.cons rfl (fun K hK => ?_) AllReadyH.nil
      have hz := tenc HZ.out
      have z0 := hz.1.1
      have z1 := hz.1.2.1
      have z2 := hz.1.2.2.1
      have z3 := hz.1.2.2.2.1
      have z4 := hz.1.2.2.2.2
      have z5 := hz.2.1
      have z6 := hz.2.2.1
      have z7 := hz.2.2.2.1
      have z8 := hz.2.2.2.2.1
      have z9 := hz.2.2.2.2.2
      have hf := froz HZ.out
      have f0 := hf.1
      have f1 := hf.2.1
      have f2 := hf.2.2.1
      have f3 := hf.2.2.2.1
      have f4 := hf.2.2.2.2.1
      have f5 := hf.2.2.2.2.2.1
      have f6 := hf.2.2.2.2.2.2.1
      have f7 := hf.2.2.2.2.2.2.2.1
      have f8 := hf.2.2.2.2.2.2.2.2.1
      have f9 := hf.2.2.2.2.2.2.2.2.2
      clear hz hf
      go_simp
      have hS8 := And.intro (ro_keep hHeld.1 (put10_else (B := PB) (k := g0) (.int .i64 Z.kind) (.int .i64 Z.from_) (.int .i64 Z.to_) (.int .i64 Z.gf) (.int .i64 Z.gt) (.int .i64 Z.ins) (.int .i64 Z.mark) (.int .i64 Z.val) (.slice Av NM cv) (.slice none 0 0) (fun e => hPG e.symm))) (ro_keep hHeld.2 (put10_else (B := PB) (k := b) (.int .i64 Z.kind) (.int .i64 Z.from_) (.int .i64 Z.to_) (.int .i64 Z.gf) (.int .i64 Z.gt) (.int .i64 Z.ins) (.int .i64 Z.mark) (.int .i64 Z.val) (.slice Av NM cv) (.slice none 0 0) (by omega)))
      have hZ8 := put10_at HZ.out (.int .i64 Z.kind) (.int .i64 Z.from_) (.int .i64 Z.to_) (.int .i64 Z.gf) (.int .i64 Z.gt) (.int .i64 Z.ins) (.int .i64 Z.mark) (.int .i64 Z.val) (.slice Av NM cv) (.slice none 0 0)
      have hP8 := HP.out.other (grown_put10 (W := W2) (B := PB) (.int .i64 Z.kind) (.int .i64 Z.from_) (.int .i64 Z.to_) (.int .i64 Z.gf) (.int .i64 Z.gt) (.int .i64 Z.ins) (.int .i64 Z.mark) (.int .i64 Z.val) (.slice Av NM cv) (.slice none 0 0)) HZ.out hPB1 (fun e => hPG (Option.some.inj e).symm)
      have hB8 := put10_below HB.out (B := PB) hPB1 (.int .i64 Z.kind) (.int .i64 Z.from_) (.int .i64 Z.to_) (.int .i64 Z.gf) (.int .i64 Z.gt) (.int .i64 Z.ins) (.int .i64 Z.mark) (.int .i64 Z.val) (.slice Av NM cv) (.slice none 0 0)
      have hN8 := HN.out.grown (grown_put10 (W := W2) (B := PB) (.int .i64 Z.kind) (.int .i64 Z.from_) (.int .i64 Z.to_) (.int .i64 Z.gf) (.int .i64 Z.gt) (.int .i64 Z.ins) (.int .i64 Z.mark) (.int .i64 Z.val) (.slice Av NM cv) (.slice none 0 0)) HZ.out hPB1
      unfold put10 at hS8 hZ8 hP8 hB8 hN8
      have HZ8 := Lib.hid hZ8
      have HP8 := Lib.hid hP8
      have HB8 := Lib.hid hB8
      have HN8 := Lib.hid hN8
      clear hN8 HN
      refine hK.out _ _ hS8 (fun hHeld => ?_)
      clear hK K hS8 hZ8 hP8 hB8 HZ HP HB z0 z1 z2 z3 z4 z5 z6 z7 z8 z9 f0 f1 f2 f3 f4 f5 f6 f7 f8 f9
      generalize World.setCell _ _ _ = W8 at HZ8 HP8 HB8 HN8 hHeld ⊢
      refine wpAnyH_ready (rs := [15]) (by kernel_rfl) (by simp) ?_
      refine AllReadyH.cons rfl (fun K hK => ?_) AllReadyH.nil
      go_simp
      refine hK.out _ _ hHeld (fun hHeld => ?_)
      clear hK K
      refine wpAnyH_done (by kernel_rfl) ?_ _
      have hsl1 : (k : Int) ≤ (cap0 : Int) := by omega
      have hsl2 : ¬ cap0 = 0 := by omega
      have hsl3 : (k : Int) ≤ (k : Int) + 1 := by omega
      clear hcap
      go_upto_region 9 with fail
      refine wp_region_held_drew (S := fun W => W.heap[PB]? = some (.cells #[.int .i64 Z.kind, .int .i64 Z.from_, .int .i64 Z.to_, .int .i64 Z.gf, .int .i64 Z.gt, .int .i64 Z.ins, .int .i64 Z.mark, .int .i64 Z.val, .slice Av NM cv, .slice none 0 0] 25)) (by kernel_rfl) HZ8.out (fun hHeld => ?_)
      have HR : Hid (R9 w W8.drew g0 PB k cap0 (.cells #[.int .i64 Z.kind, .int .i64 Z.from_, .int .i64 Z.to_, .int .i64 Z.gf, .int .i64 Z.gt, .int .i64 Z.ins, .int .i64 Z.mark, .int .i64 Z.val, .slice Av NM cv, .slice none 0 0] 25) ⟨tx, pA, tL.length, pc, pB, tS.length, pd⟩ ps0 _ (⟨Z, Av, NM, cv, none, 0, 0⟩ : Ro.Pt) ⟨Z, ML, []⟩) := Lib.hid ((R9.mk HP8.out HZ8.out HN8.out HB8.out).step (below_drewN (Below.refl W8.heap.size W8) 1))
      clear HP8 HZ8 HN8 HB8
      generalize W8.drew = V0 at HR hHeld ⊢
      refine tk 1 (v := ?_) rfl (by kernel_rfl) (fun _ _ _ h => h) ?_ hHeld ?_
      rotate_left
      ·(intro W hSw; clear hSw; go_simp; try with_reducible rfl)
      refine tk 2 (v := ?_) rfl (by kernel_rfl) (fun _ _ _ h => h) ?_ hHeld ?_
      rotate_left
      ·(intro W hSw; clear hSw; go_simp; try with_reducible rfl)
      have hwq2 : IntKind.i64.wrap (k : Int) = (k : Int) := wrap_few' (by omega) (by omega)
      refine tk 3 (v := ?_) rfl (by kernel_rfl) (fun _ _ _ h => h) ?_ hHeld ?_
      rotate_left
      ·(intro W hSw; clear hSw; go_simp; try with_reducible rfl)
      clear hwq2
      refine tk 4 (v := ?_) rfl (by kernel_rfl) (fun _ _ _ h => h) ?_ hHeld ?_
      rotate_left
      ·(intro W hSw; clear hSw; go_simp; try with_reducible rfl)
      refine tk 6 (v := ?_) rfl (by kernel_rfl) (fun _ _ _ h => h) ?_ hHeld ?_
      rotate_left
      ·(intro W hSw; (try dsimp only at hSw); obtain ⟨⟨y0, y1, y2, y3, y4⟩, y5, y6, y7, y8, y9⟩ := tenc hSw; go_simp; try with_reducible rfl)
      refine wpAnyH_ready (rs := [0, 7]) (by kernel_rfl) (by simp) ?_
      refine AllReadyH.cons rfl (fun K hK => ?_) (AllReadyH.cons rfl (fun K hK => ?_) AllReadyH.nil)
      ·go_simp
       have hba := (Below.refl V0.heap.size V0).alloc (Nat.le_refl _) (.cells #[] 25)
       have HE := Lib.hid (ro_empty V0 w.heap.size HR.out.hb.size)
       have HR2 := Lib.hid (HR.out.step hba)
       have hS := hkeep hba hHeld
       have hEg : V0.heap.size ≠ g0 := by have := HR.out.lt; omega
       have hEP : V0.heap.size ≠ PB := by have := lt_some hHeld; omega
       have hE0 : w.heap.size ≤ V0.heap.size := HR.out.hb.size
       clear HR hHeld hba
       have HR := HR2
       clear HR2
       refine hK.out _ _ hS (fun hHeld => ?_)
       clear hK K hS
       generalize V0.alloc (.cells #[] 25) = V1 at HE HR hHeld ⊢
       generalize V0.heap.size = EB at HE hEg hEP hE0 ⊢
       refine wpAnyH_ready (rs := [5, 7]) (by kernel_rfl) (by simp) ?_
       refine AllReadyH.cons rfl (fun K hK => ?_) (AllReadyH.cons rfl (fun K hK => ?_) AllReadyH.nil)
       ·refine ready_app_ro rfl (.tmp 32) (.tmp 36) rfl w.heap.size (.slice (some ⟨EB, 0, none⟩) 0 0) [] rfl HE.out (some ⟨g0, 0, none⟩) k cap0 ps0 rfl (HR.out.pre hk) (by simp; omega) HR.out.hb.size ?_
        intro v5 V2 hO hg hown
        rw [List.nil_append] at hO
        have hbl : (Value.slice (some ⟨EB, 0, none⟩) 0 0).ownBlock = some EB := rfl
        rw [hbl] at hg hown
        obtain ⟨_, _, csE, frE, hEE⟩ := HE.out.block EB rfl
        have HR2 := Lib.hid (HR.out.grown hg hEE hE0 hEg hEP)
        have hS := grown_at hg hHeld (fun e => hEP (Option.some.inj e))
        have hOP : ∀ g, v5.ownBlock = some g → g ≠ PB := fun g e => by
         rcases hown with h | h
         ·rw [h] at e; cases e; exact hEP
         ·rw [h] at e; cases e; have := lt_some hHeld; omega
        obtain ⟨A5, c5, rfl⟩ := hO.form
        rw [hk] at hO hOP ⊢
        have HO := Lib.hid hO
        clear HE hO hg hown hEE hbl hHeld HR hEg hEP hE0
        have HR := HR2
        clear HR2
        refine hK.out _ _ hS (fun hHeld => ?_)
        clear hK K hS
        refine wpAnyH_ready (rs := [7]) (by kernel_rfl) (by simp) ?_
        refine AllReadyH.cons rfl (fun K hK => ?_) AllReadyH.nil
        go_simp
        have hba := (Below.refl V2.heap.size V2).alloc (Nat.le_refl _) (.cells #[.int .i64 Z.kind, .int .i64 Z.from_, .int .i64 Z.to_, .int .i64 Z.gf, .int .i64 Z.gt, .int .i64 Z.ins, .int .i64 Z.mark, .int .i64 Z.val, .slice Av NM cv, .slice none 0 0] 25)
        have HL : Hid (Ro.PRow (V2.alloc (.cells #[.int .i64 Z.kind, .int .i64 Z.from_, .int .i64 Z.to_, .int .i64 Z.gf, .int .i64 Z.gt, .int .i64 Z.ins, .int .i64 Z.mark, .int .i64 Z.val, .slice Av NM cv, .slice none 0 0] 25)) (some ⟨V2.heap.size, 0, none⟩) 1 [(⟨Z, Av, NM, cv, none, 0, 0⟩ : Ro.Pt)]) := Lib.hid (step_lit V2 (⟨Z, Av, NM, cv, none, 0, 0⟩ : Ro.Pt))
        have HR2 := Lib.hid (HR.out.step hba)
        have hS := hkeep hba hHeld
        have hLs : V2.heap.size < (V2.alloc (.cells #[.int .i64 Z.kind, .int .i64 Z.from_, .int .i64 Z.to_, .int .i64 Z.gf, .int .i64 Z.gt, .int .i64 Z.ins, .int .i64 Z.mark, .int .i64 Z.val, .slice Av NM cv, .slice none 0 0] 25)).heap.size := by simp
        have HO2 := Lib.hid (HO.out.belowAll hba)
        clear HO
        have HO := HO2
        clear HO2
        clear HR hHeld hba
        have HR := HR2
        clear HR2
        refine hK.out _ _ hS (fun hHeld => ?_)
        clear hK K hS
        generalize V2.alloc (.cells #[.int .i64 Z.kind, .int .i64 Z.from_, .int .i64 Z.to_, .int .i64 Z.gf, .int .i64 Z.gt, .int .i64 Z.ins, .int .i64 Z.mark, .int .i64 Z.val, .slice Av NM cv, .slice none 0 0] 25) = V3 at HL HR hLs hHeld HO ⊢
        generalize V2.heap.size = LB at HL hLs ⊢
        refine wpAnyH_ready (rs := [8]) (by kernel_rfl) (by simp) ?_
        refine AllReadyH.cons rfl (fun K hK => ?_) AllReadyH.nil
        refine ready_app_ro rfl (.tmp 37) (.tmp 39) rfl w.heap.size (.slice A5 k c5) ps0 rfl HO.out (some ⟨LB, 0, none⟩) 1 1 [(⟨Z, Av, NM, cv, none, 0, 0⟩ : Ro.Pt)] rfl HL.out (by omega) HR.out.hb.size ?_
        intro v8 W9 h8 hg8 _
        have hF := HR.out.fin HO.out h8 hg8
        have hS := grown_at hg8 hHeld (fun e => hOP _ e rfl)
        have HP9 : Hid (RInv w.heap.size W9 v8 (ps0 ++ [(⟨Z, Av, NM, cv, none, 0, 0⟩ : Ro.Pt)]) (foldW ((l.map trOf).take (i + 1)))) := Lib.hid (by have h9 := hF.1; have e9 := HTS2.out; rw [e9]; exact h9)
        have HB9 := Lib.hid hF.2
        clear hF h8 hg8 HR HO HL HTS2 hOP hHeld
        refine hK.out _ _ hS (fun hHeld => ?_)
        clear hK K hS
        refine wpAnyH_ready (rs := [9]) (by kernel_rfl) (by simp) ?_
        refine AllReadyH.cons rfl (fun K hK => ?_) AllReadyH.nil
        go_simp
        refine hK.out _ _ hHeld (fun hHeld => ?_)
        clear hK K hHeld
        refine wpAnyH_done (by kernel_rfl) ?_ _
        go_wp2
        exact ⟨⟨i + 1, ps0 ++ [(⟨Z, Av, NM, cv, none, 0, 0⟩ : Ro.Pt)], by push_cast; rfl, by omega, HP9, HB9⟩, by simp only [intOf]; omega⟩
       ·go_simp
        have hba := (Below.refl V1.heap.size V1).alloc (Nat.le_refl _) (.cells #[.int .i64 Z.kind, .int .i64 Z.from_, .int .i64 Z.to_, .int .i64 Z.gf, .int .i64 Z.gt, .int .i64 Z.ins, .int .i64 Z.mark, .int .i64 Z.val, .slice Av NM cv, .slice none 0 0] 25)
        have HL : Hid (Ro.PRow (V1.alloc (.cells #[.int .i64 Z.kind, .int .i64 Z.from_, .int .i64 Z.to_, .int .i64 Z.gf, .int .i64 Z.gt, .int .i64 Z.ins, .int .i64 Z.mark, .int .i64 Z.val, .slice Av NM cv, .slice none 0 0] 25)) (some ⟨V1.heap.size, 0, none⟩) 1 [(⟨Z, Av, NM, cv, none, 0, 0⟩ : Ro.Pt)]) := Lib.hid (step_lit V1 (⟨Z, Av, NM, cv, none, 0, 0⟩ : Ro.Pt))
        have HR2 := Lib.hid (HR.out.step hba)
        have hS := hkeep hba hHeld
        have hLs : V1.heap.size < (V1.alloc (.cells #[.int .i64 Z.kind, .int .i64 Z.from_, .int .i64 Z.to_, .int .i64 Z.gf, .int .i64 Z.gt, .int .i64 Z.ins, .int .i64 Z.mark, .int .i64 Z.val, .slice Av NM cv, .slice none 0 0] 25)).heap.size := by simp
        have hEL : EB ≠ V1.heap.size := by have := (HE.out.block EB rfl).2.1; omega
        have HE2 := Lib.hid (HE.out.belowAll hba)
        clear HE
        have HE := HE2
        clear HE2
        clear HR hHeld hba
        have HR := HR2
        clear HR2
        refine hK.out _ _ hS (fun hHeld => ?_)
        clear hK K hS
        generalize V1.alloc (.cells #[.int .i64 Z.kind, .int .i64 Z.from_, .int .i64 Z.to_, .int .i64 Z.gf, .int .i64 Z.gt, .int .i64 Z.ins, .int .i64 Z.mark, .int .i64 Z.val, .slice Av NM cv, .slice none 0 0] 25) = V2 at HL HR hLs hHeld HE ⊢
        generalize V1.heap.size = LB at HL hLs hEL ⊢
        refine wpAnyH_ready (rs := [5]) (by kernel_rfl) (by simp) ?_
        refine AllReadyH.cons rfl (fun K hK => ?_) AllReadyH.nil
        refine ready_app_ro rfl (.tmp 32) (.tmp 36) rfl w.heap.size (.slice (some ⟨EB, 0, none⟩) 0 0) [] rfl HE.out (some ⟨g0, 0, none⟩) k cap0 ps0 rfl (HR.out.pre hk) (by simp; omega) HR.out.hb.size ?_
        intro v5 V3 hO hg hown
        rw [List.nil_append] at hO
        have hbl : (Value.slice (some ⟨EB, 0, none⟩) 0 0).ownBlock = some EB := rfl
        rw [hbl] at hg hown
        obtain ⟨_, _, csE, frE, hEE⟩ := HE.out.block EB rfl
        have HR2 := Lib.hid (HR.out.grown hg hEE hE0 hEg hEP)
        have hS := grown_at hg hHeld (fun e => hEP (Option.some.inj e))
        have hOP : ∀ g, v5.ownBlock = some g → g ≠ PB := fun g e => by
         rcases hown with h | h
         ·rw [h] at e; cases e; exact hEP
         ·rw [h] at e; cases e; have := lt_some hHeld; omega
        have HL2 := Lib.hid (prow_grown HL.out hg (fun e => hEL (Option.some.inj e)))
        clear HL
        have HL := HL2
        clear HL2
        obtain ⟨A5, c5, rfl⟩ := hO.form
        rw [hk] at hO hOP ⊢
        have HO := Lib.hid hO
        clear HE hO hg hown hEE hbl hHeld HR hEg hEP hE0 hEL hLs
        have HR := HR2
        clear HR2
        refine hK.out _ _ hS (fun hHeld => ?_)
        clear hK K hS
        refine wpAnyH_ready (rs := [8]) (by kernel_rfl) (by simp) ?_
        refine AllReadyH.cons rfl (fun K hK => ?_) AllReadyH.nil
        refine ready_app_ro rfl (.tmp 37) (.tmp 39) rfl w.heap.size (.slice A5 k c5) ps0 rfl HO.out (some ⟨LB, 0, none⟩) 1 1 [(⟨Z, Av, NM, cv, none, 0, 0⟩ : Ro.Pt)] rfl HL.out (by omega) HR.out.hb.size ?_
        intro v8 W9 h8 hg8 _
        have hF := HR.out.fin HO.out h8 hg8
        have hS := grown_at hg8 hHeld (fun e => hOP _ e rfl)
        have HP9 : Hid (RInv w.heap.size W9 v8 (ps0 ++ [(⟨Z, Av, NM, cv, none, 0, 0⟩ : Ro.Pt)]) (foldW ((l.map trOf).take (i + 1)))) := Lib.hid (by have h9 := hF.1; have e9 := HTS2.out; rw [e9]; exact h9)
        have HB9 := Lib.hid hF.2
        clear hF h8 hg8 HR HO HL HTS2 hOP hHeld
        refine hK.out _ _ hS (fun hHeld => ?_)
        clear hK K hS
        refine wpAnyH_ready (rs := [9]) (by kernel_rfl) (by simp) ?_
        refine AllReadyH.cons rfl (fun K hK => ?_) AllReadyH.nil
        go_simp
        refine hK.out _ _ hHeld (fun hHeld => ?_)
        clear hK K hHeld
        refine wpAnyH_done (by kernel_rfl) ?_ _
        go_wp2
        exact ⟨⟨i + 1, ps0 ++ [(⟨Z, Av, NM, cv, none, 0, 0⟩ : Ro.Pt)], by push_cast; rfl, by omega, HP9, HB9⟩, by simp only [intOf]; omega⟩
      ·go_simp
       have hba := (Below.refl V0.heap.size V0).alloc (Nat.le_refl _) (.cells #[.int .i64 Z.kind, .int .i64 Z.from_, .int .i64 Z.to_, .int .i64 Z.gf, .int .i64 Z.gt, .int .i64 Z.ins, .int .i64 Z.mark, .int .i64 Z.val, .slice Av NM cv, .slice none 0 0] 25)
       have HL : Hid (Ro.PRow (V0.alloc (.cells #[.int .i64 Z.kind, .int .i64 Z.from_, .int .i64 Z.to_, .int .i64 Z.gf, .int .i64 Z.gt, .int .i64 Z.ins, .int .i64 Z.mark, .int .i64 Z.val, .slice Av NM cv, .slice none 0 0] 25)) (some ⟨V0.heap.size, 0, none⟩) 1 [(⟨Z, Av, NM, cv, none, 0, 0⟩ : Ro.Pt)]) := Lib.hid (step_lit V0 (⟨Z, Av, NM, cv, none, 0, 0⟩ : Ro.Pt))
       have HR2 := Lib.hid (HR.out.step hba)
       have hS := hkeep hba hHeld
       have hLs : V0.heap.size < (V0.alloc (.cells #[.int .i64 Z.kind, .int .i64 Z.from_, .int .i64 Z.to_, .int .i64 Z.gf, .int .i64 Z.gt, .int .i64 Z.ins, .int .i64 Z.mark, .int .i64 Z.val, .slice Av NM cv, .slice none 0 0] 25)).heap.size := by simp
       clear HR hHeld hba
       have HR := HR2
       clear HR2
       refine hK.out _ _ hS (fun hHeld => ?_)
       clear hK K hS
       generalize V0.alloc (.cells #[.int .i64 Z.kind, .int .i64 Z.from_, .int .i64 Z.to_, .int .i64 Z.gf, .int .i64 Z.gt, .int .i64 Z.ins, .int .i64 Z.mark, .int .i64 Z.val, .slice Av NM cv, .slice none 0 0] 25) = V1 at HL HR hLs hHeld ⊢
       generalize V0.heap.size = LB at HL hLs ⊢
       refine wpAnyH_ready (rs := [0]) (by kernel_rfl) (by simp) ?_
       refine AllReadyH.cons rfl (fun K hK => ?_) AllReadyH.nil
       go_simp
       have hba := (Below.refl V1.heap.size V1).alloc (Nat.le_refl _) (.cells #[] 25)
       have HE := Lib.hid (ro_empty V1 w.heap.size HR.out.hb.size)
       have HR2 := Lib.hid (HR.out.step hba)
       have hS := hkeep hba hHeld
       have hEg : V1.heap.size ≠ g0 := by have := HR.out.lt; omega
       have hEP : V1.heap.size ≠ PB := by have := lt_some hHeld; omega
       have hE0 : w.heap.size ≤ V1.heap.size := HR.out.hb.size
       have hEL : V1.heap.size ≠ LB := by omega
       have hLs2 : LB < (V1.alloc (.cells #[] 25)).heap.size := by simp; omega
       have HL2 := Lib.hid (HL.out.below hba)
       clear HL hLs
       have HL := HL2
       have hLs := hLs2
       clear HL2 hLs2
       clear HR hHeld hba
       have HR := HR2
       clear HR2
       refine hK.out _ _ hS (fun hHeld => ?_)
       clear hK K hS
       generalize V1.alloc (.cells #[] 25) = V2 at HE HR hHeld HL hLs ⊢
       generalize V1.heap.size = EB at HE hEg hEP hE0 hEL ⊢
       refine wpAnyH_ready (rs := [5]) (by kernel_rfl) (by simp) ?_
       refine AllReadyH.cons rfl (fun K hK => ?_) AllReadyH.nil
       refine ready_app_ro rfl (.tmp 32) (.tmp 36) rfl w.heap.size (.slice (some ⟨EB, 0, none⟩) 0 0) [] rfl HE.out (some ⟨g0, 0, none⟩) k cap0 ps0 rfl (HR.out.pre hk) (by simp; omega) HR.out.hb.size ?_
       intro v5 V3 hO hg hown
       rw [List.nil_append] at hO
       have hbl : (Value.slice (some ⟨EB, 0, none⟩) 0 0).ownBlock = some EB := rfl
       rw [hbl] at hg hown
       obtain ⟨_, _, csE, frE, hEE⟩ := HE.out.block EB rfl
       have HR2 := Lib.hid (HR.out.grown hg hEE hE0 hEg hEP)
       have hS := grown_at hg hHeld (fun e => hEP (Option.some.inj e))
       have hOP : ∀ g, v5.ownBlock = some g → g ≠ PB := fun g e => by
        rcases hown with h | h
        ·rw [h] at e; cases e; exact hEP
        ·rw [h] at e; cases e; have := lt_some hHeld; omega
       have HL2 := Lib.hid (prow_grown HL.out hg (fun e => hEL (Option.some.inj e)))
       clear HL
       have HL := HL2
       clear HL2
       obtain ⟨A5, c5, rfl⟩ := hO.form
       rw [hk] at hO hOP ⊢
       have HO := Lib.hid hO
       clear HE hO hg hown hEE hbl hHeld HR hEg hEP hE0 hEL hLs
       have HR := HR2
       clear HR2
       refine hK.out _ _ hS (fun hHeld => ?_)
       clear hK K hS
       refine wpAnyH_ready (rs := [8]) (by kernel_rfl) (by simp) ?_
       refine AllReadyH.cons rfl (fun K hK => ?_) AllReadyH.nil
       refine ready_app_ro rfl (.tmp 37) (.tmp 39) rfl w.heap.size (.slice A5 k c5) ps0 rfl HO.out (some ⟨LB, 0, none⟩) 1 1 [(⟨Z, Av, NM, cv, none, 0, 0⟩ : Ro.Pt)] rfl HL.out (by omega) HR.out.hb.size ?_
       intro v8 W9 h8 hg8 _
       have hF := HR.out.fin HO.out h8 hg8
       have hS := grown_at hg8 hHeld (fun e => hOP _ e rfl)
       have HP9 : Hid (RInv w.heap.size W9 v8 (ps0 ++ [(⟨Z, Av, NM, cv, none, 0, 0⟩ : Ro.Pt)]) (foldW ((l.map trOf).take (i + 1)))) := Lib.hid (by have h9 := hF.1; have e9 := HTS2.out; rw [e9]; exact h9)
       have HB9 := Lib.hid hF.2
       clear hF h8 hg8 HR HO HL HTS2 hOP hHeld
       refine hK.out _ _ hS (fun hHeld => ?_)
       clear hK K hS
       refine wpAnyH_ready (rs := [9]) (by kernel_rfl) (by simp) ?_
       refine AllReadyH.cons rfl (fun K hK => ?_) AllReadyH.nil
       go_simp
       refine hK.out _ _ hHeld (fun hHeld => ?_)
       clear hK K hHeld
       refine wpAnyH_done (by kernel_rfl) ?_ _
       go_wp2
       exact ⟨⟨i + 1, ps0 ++ [(⟨Z, Av, NM, cv, none, 0, 0⟩ : Ro.Pt)], by push_cast; rfl, by omega, HP9, HB9⟩, by simp only [intOf]; omega⟩
     ·have hpk : pieceB tx ⟨vk, vf, vt, vg, vh, vi, vm, vv⟩ tL.length n' tS.length m' = false := hwe.1.symm.trans hok
      have hokT : okT ⟨tx, tL, tS⟩ (trOf ⟨⟨vk, vf, vt, vg, vh, vi, vm, vv⟩, K', S', A', B', n', m', c', d'⟩) = false := by
       show pieceB tx _ tL.length K'.length tS.length S'.length = false
       rw [hKn, hSm]; exact hpk
      have HTS2 := Lib.hid (HTS.out.trans (wstep_no hokT))
      clear hok hpk hokT hwe CTW HTS HP HB hb2 hHeld
      have HB := HB2
      have HP := HP2
      clear HB2 HP2
      have HZ := HZ2
      clear HZ2
      go_wp2_with fail
      refine hK.out _ _ hS1 (fun hHeld => ?_)
      clear hK K hS1
      refine tk 10 (v := ?_) rfl (by kernel_rfl) (fun _ _ _ h => h) ?_ hHeld ?_
      rotate_left
      ·(intro W hSw; clear hSw; go_simp; try with_reducible rfl)
      refine tk 11 (v := ?_) rfl (by kernel_rfl) (fun _ _ _ h => h) ?_ hHeld ?_
      rotate_left
      ·(intro W hSw; clear hSw; go_simp; try with_reducible rfl)
      refine tk 12 (v := ?_) rfl (by kernel_rfl) (fun _ _ _ h => h) ?_ hHeld ?_
      rotate_left
      ·(intro W hSw; clear hSw; go_simp; try with_reducible rfl)
      refine wpAnyH_ready (rs := [14]) (by kernel_rfl) (by simp) ?_
      refine AllReadyH.cons rfl (fun K hK => ?_) AllReadyH.nil
      have hz := tenc HZ.out
      have z0 := hz.1.1
      have z1 := hz.1.2.1
      have z2 := hz.1.2.2.1
      have z3 := hz.1.2.2.2.1
      have z4 := hz.1.2.2.2.2
      have z5 := hz.2.1
      have z6 := hz.2.2.1
      have z7 := hz.2.2.2.1
      have z8 := hz.2.2.2.2.1
      have z9 := hz.2.2.2.2.2
      have hf := froz HZ.out
      have f0 := hf.1
      have f1 := hf.2.1
      have f2 := hf.2.2.1
      have f3 := hf.2.2.2.1
      have f4 := hf.2.2.2.2.1
      have f5 := hf.2.2.2.2.2.1
      have f6 := hf.2.2.2.2.2.2.1
      have f7 := hf.2.2.2.2.2.2.2.1
      have f8 := hf.2.2.2.2.2.2.2.2.1
      have f9 := hf.2.2.2.2.2.2.2.2.2
      clear hz hf
      go_simp
      have hS8 := And.intro (ro_keep hHeld.1 (put10_else (B := PB) (k := g0) (.int .i64 0) (.int .i64 0) (.int .i64 0) (.int .i64 0) (.int .i64 0) (.int .i64 0) (.int .i64 0) (.int .i64 0) (.slice none 0 0) (.slice none 0 0) (fun e => hPG e.symm))) (ro_keep hHeld.2 (put10_else (B := PB) (k := b) (.int .i64 0) (.int .i64 0) (.int .i64 0) (.int .i64 0) (.int .i64 0) (.int .i64 0) (.int .i64 0) (.int .i64 0) (.slice none 0 0) (.slice none 0 0) (by omega)))
      have hZ8 := put10_at HZ.out (.int .i64 0) (.int .i64 0) (.int .i64 0) (.int .i64 0) (.int .i64 0) (.int .i64 0) (.int .i64 0) (.int .i64 0) (.slice none 0 0) (.slice none 0 0)
      have hP8 := HP.out.other (grown_put10 (W := W2) (B := PB) (.int .i64 0) (.int .i64 0) (.int .i64 0) (.int .i64 0) (.int .i64 0) (.int .i64 0) (.int .i64 0) (.int .i64 0) (.slice none 0 0) (.slice none 0 0)) HZ.out hPB1 (fun e => hPG (Option.some.inj e).symm)
      have hB8 := put10_below HB.out (B := PB) hPB1 (.int .i64 0) (.int .i64 0) (.int .i64 0) (.int .i64 0) (.int .i64 0) (.int .i64 0) (.int .i64 0) (.int .i64 0) (.slice none 0 0) (.slice none 0 0)
      skip
      unfold put10 at hS8 hZ8 hP8 hB8
      have HZ8 := Lib.hid hZ8
      have HP8 := Lib.hid hP8
      have HB8 := Lib.hid hB8
      skip
      refine hK.out _ _ hS8 (fun hHeld => ?_)
      clear hK K hS8 hZ8 hP8 hB8 HZ HP HB z0 z1 z2 z3 z4 z5 z6 z7 z8 z9 f0 f1 f2 f3 f4 f5 f6 f7 f8 f9
      generalize World.setCell _ _ _ = W8 at HZ8 HP8 HB8 hHeld ⊢
      refine wpAnyH_ready (rs := [15]) (by kernel_rfl) (by simp) ?_
      refine AllReadyH.cons rfl (fun K hK => ?_) AllReadyH.nil
      go_simp
      refine hK.out _ _ hHeld (fun hHeld => ?_)
      clear hK K
      refine wpAnyH_done (by kernel_rfl) ?_ _
      have HTS := HTS2
      have HP := HP8
      have HB := HB8
      clear HTS2 HP8 HB8 hHeld HZ8
      have hba := (Below.refl W8.heap.size W8).alloc (Nat.le_refl _) (.cells #[.int .i64 vk, .int .i64 vf, .int .i64 vt, .int .i64 vg, .int .i64 vh, .int .i64 vi, .int .i64 vm, .int .i64 vv, .slice A' n' c', .slice B' m' d'] 25)
      have HB1 := Lib.hid (HB.out.alloc HB.out.size (.cells #[.int .i64 vk, .int .i64 vf, .int .i64 vt, .int .i64 vg, .int .i64 vh, .int .i64 vi, .int .i64 vm, .int .i64 vv, .slice A' n' c', .slice B' m' d'] 25))
      have HP1 := Lib.hid (HP.out.below hba)
      have HPL := Lib.hid (step_lit W8 ⟨⟨vk, vf, vt, vg, vh, vi, vm, vv⟩, A', n', c', B', m', d'⟩)
      have hnew : RcOk w.heap.size (W8.alloc (.cells #[.int .i64 vk, .int .i64 vf, .int .i64 vt, .int .i64 vg, .int .i64 vh, .int .i64 vi, .int .i64 vm, .int .i64 vv, .slice A' n' c', .slice B' m' d'] 25)) ⟨⟨vk, vf, vt, vg, vh, vi, vm, vv⟩, A', n', c', B', m', d'⟩ ⟨⟨vk, vf, vt, vg, vh, vi, vm, vv⟩, K', S'⟩ := RcOk.of_in rfl HQ.out.2.1 HQ.out.2.2.1 HB1.out
      have HNW := Lib.hid hnew
      have hlps : (ps0 ++ [(⟨tx, pA, tL.length, pc, pB, tS.length, pd⟩ : Ro.Pt)]).length ≤ 100000 := by rw [List.length_append, hk]; simp; omega
      obtain ⟨⟨y0, y1, y2, y3, y4⟩, y5, y6, y7, y8, y9⟩ := (HQ.out.below HB.out hbs).cells
      clear hba hnew HP HB HQ
      go_wp2_with (at_builtin; (refine Ro.wpList_app_pt rfl (.tmp 41) (.tmp 46) rfl w.heap.size _ (ps0 ++ [(⟨tx, pA, tL.length, pc, pB, tS.length, pd⟩ : Ro.Pt)]) rfl HP1.out.row (some ⟨W8.heap.size, 0, none⟩) 1 1 [⟨⟨vk, vf, vt, vg, vh, vi, vm, vv⟩, A', n', c', B', m', d'⟩] rfl HPL.out (by omega) (HB1.out.size) ?_); intro v' w9 hown' hg' hat)
      have HP9 := Lib.hid (RInv.more HP1.out.row HP1.out.len HP1.out.ok HNW.out hown' hg')
      have HB9 := Lib.hid (grown_low HB1.out HB1.out.size hg' (fun g e => (HP1.out.row.block g e).1))
      have HP10 : Hid (RInv w.heap.size w9 v' (ps0 ++ [(⟨tx, pA, tL.length, pc, pB, tS.length, pd⟩ : Ro.Pt)] ++ [⟨⟨vk, vf, vt, vg, vh, vi, vm, vv⟩, A', n', c', B', m', d'⟩]) (foldW ((l.map trOf).take (i + 1)))) := Lib.hid (by have h9 := HP9.out; have e9 := HTS.out; rw [e9]; exact h9)
      clear hown' hg' hat HP1 HB1 HNW HPL HP9 HTS y0 y1 y2 y3 y4 y5 y6 y7 y8 y9
      exact ⟨⟨i + 1, ps0 ++ [(⟨tx, pA, tL.length, pc, pB, tS.length, pd⟩ : Ro.Pt)] ++ [⟨⟨vk, vf, vt, vg, vh, vi, vm, vv⟩, A', n', c', B', m', d'⟩], by push_cast; rfl, by omega, HP10, HB9⟩, by simp only [intOf]; omega⟩
  ·have hin : i = l.length := by omega
   have hfin : (l.map trOf).take i = l.map trOf := List.take_of_length_le (by simp; omega)
   have HPF : Hid (RInv w.heap.size wr u3 ps (foldW (l.map trOf))) := Lib.hid (by have := HP.out; rwa [hfin] at this)
   clear HP hfin hsmall hflen HSM HR
   go_wp2
   go_ret
   exact ⟨_, rfl, ⟨ps, HPF.out⟩, HB.out⟩
end Go.Proofs.Ytlbkfenlbkibgaa.St
