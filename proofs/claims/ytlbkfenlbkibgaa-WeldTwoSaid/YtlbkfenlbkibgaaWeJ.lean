/- Welding: the steps of pieces. -/
import Derived.Test.YtlbkfenlbkibgaaFlow
import Derived.Test.YtlbkfenlbkibgaaWeL
import Derived.Test.YtlbkfenlbkibgaaWeB
import Derived.Maps.Range
import Derived.Maps.RangeWalk
import Derived.Test.YtlbkfenlbkibgaaWeU
import Derived.Test.YtlbkfenlbkibgaaWeR
set_option linter.unusedVariables false
set_option maxRecDepth 100000
set_option maxHeartbeats 4000000
namespace Go.Proofs.Ytlbkfenlbkibgaa.St
open Go.RowKit Mem Sm Tk Rt
set_option linter.unusedSimpArgs false
def stepOf (p : Pi.Pt) : Ro.Pt := ⟨p.x, p.A, p.n, p.c, p.B, p.m, p.d⟩
theorem pi_cells {w : World} {b o : Nat} {p : Pi.Pt} (h : Pi.At4 w b o p) : w.cell? ⟨b, o, none⟩ = some (.int .i64 p.x.kind) ∧ w.cell? ⟨b, o + 1, none⟩ = some (.int .i64 p.x.from_) ∧ w.cell? ⟨b, o + 2, none⟩ = some (.int .i64 p.x.to_) ∧ w.cell? ⟨b, o + 3, none⟩ = some (.int .i64 p.x.gf) ∧ w.cell? ⟨b, o + 4, none⟩ = some (.int .i64 p.x.gt) ∧ w.cell? ⟨b, o + 5, none⟩ = some (.int .i64 p.x.ins) ∧ w.cell? ⟨b, o + 6, none⟩ = some (.int .i64 p.x.mark) ∧ w.cell? ⟨b, o + 7, none⟩ = some (.int .i64 p.x.val) ∧ w.cell? ⟨b, o + 8, none⟩ = some (.slice p.A p.n p.c) ∧ w.cell? ⟨b, o + 9, none⟩ = some (.slice p.B p.m p.d) ∧ w.cell? ⟨b, o + 10, none⟩ = some (.bool p.b) :=
 ⟨h 0 _ rfl, h 1 _ rfl, h 2 _ rfl, h 3 _ rfl, h 4 _ rfl, h 5 _ rfl, h 6 _ rfl, h 7 _ rfl, h 8 _ rfl, h 9 _ rfl, h 10 _ rfl⟩
theorem step_lit (w : World) (x : Ro.Pt) : Ro.PRow (w.alloc (.cells #[.int .i64 x.x.kind, .int .i64 x.x.from_, .int .i64 x.x.to_, .int .i64 x.x.gf, .int .i64 x.x.gt, .int .i64 x.x.ins, .int .i64 x.x.mark, .int .i64 x.x.val, .slice x.A x.n x.c, .slice x.B x.m x.d] 25)) (some ⟨w.heap.size, 0, none⟩) 1 [x] := by
 refine ⟨rfl, fun _ => ⟨w.heap.size, 0, rfl, by simp, fun j hj v u hv => ?_⟩⟩
 have hj0 : j = 0 := by simpa using hj
 subst hj0
 have hc := heap_alloc_new w (.cells #[.int .i64 x.x.kind, .int .i64 x.x.from_, .int .i64 x.x.to_, .int .i64 x.x.gf, .int .i64 x.x.gt, .int .i64 x.x.ins, .int .i64 x.x.mark, .int .i64 x.x.val, .slice x.A x.n x.c, .slice x.B x.m x.d] 25)
 have hv2 : (Ro.pcells x)[v]? = some u := hv
 show World.cell? _ ⟨w.heap.size, 0 + 0 * 10 + v, none⟩ = some u
 simp only [Nat.zero_add, Nat.zero_mul]
 unfold World.cell?
 simp only [hc]
 simpa [Ro.pcells] using hv2
theorem steps_any (l : List Pi.Pt) (A : Option Addr) (n c : Nat) (w : World) (hn : n ≤ 1000) (hr : Pi.PRow w A n l) :
  Calls Try.prog 55 #[.slice A n c] w fun e w' => ∃ v, e = .returned v ∧ Ro.Pts w.heap.size w' v (l.map stepOf) ∧ Below w.heap.size w w' := by
 have hnl := hr.1
 have HR := Lib.hid hr
 clear hr
 go_enter Try.func55, Try.ntmps55
 go_wp2_with fail
 go_loopw [3, 8] (fun lv iv wr => ∃ i : Nat, iv = .int .i64 i ∧ i ≤ n ∧ Hid (Ro.Pts w.heap.size wr lv ((l.take i).map stepOf)) ∧ Hid (Below w.heap.size w wr)) (fun _ iv _ => n - (intOf iv).toNat)
 case atStart => exact ⟨0, rfl, by omega, Lib.hid (by simpa using Ro.Pts.nil), Lib.hid (Below.refl _ _)⟩
 case round =>
  obtain ⟨i, rfl, hi, HT, HB⟩ := hrel
  by_cases h1 : (i : Int) < (n : Int)
  ·obtain ⟨b, off, rfl, hbs, hc⟩ := (HR.out.below HB.out).2 (by omega)
   have hil : i < l.length := by omega
   obtain ⟨c0, c1, c2, c3, c4, c5, c6, c7, c8, c9, c10⟩ := pi_cells (hc i hil)
   have HTS : Hid ((l.take (i + 1)).map stepOf = (l.take i).map stepOf ++ [stepOf l[i]]) := Lib.hid (by rw [List.take_succ_eq_append_getElem hil, List.map_append]; rfl)
   have hlen : ((l.take i).map stepOf).length = i := by simp; omega
   have i1 : (0 : Int) ≤ (i : Int) := by omega
   clear hc
   generalize l[i] = p at c0 c1 c2 c3 c4 c5 c6 c7 c8 c9 c10 HTS
   obtain ⟨⟨xk, xf, xt, xg, xh, xi, xm, xv⟩, A1, n1, k1, B1, m1, d1, b1⟩ := p
   simp only at c0 c1 c2 c3 c4 c5 c6 c7 c8 c9 c10
   have hws := HB.out.size
   have hb1 := (Below.refl wr.heap.size wr).alloc (Nat.le_refl _) (.cells #[.int .i64 xk, .int .i64 xf, .int .i64 xt, .int .i64 xg, .int .i64 xh, .int .i64 xi, .int .i64 xm, .int .i64 xv, .slice A1 n1 k1, .slice B1 m1 d1, .bool b1] 103)
   have hb2 := hb1.alloc (by simp) (.cells #[.int .i64 xk, .int .i64 xf, .int .i64 xt, .int .i64 xg, .int .i64 xh, .int .i64 xi, .int .i64 xm, .int .i64 xv, .slice A1 n1 k1, .slice B1 m1 d1] 25)
   have HTA := Lib.hid (HT.out.belowAll hb2)
   have HBA := Lib.hid (HB.out.trans (hb2.mono hws))
   have HSL := Lib.hid (step_lit (wr.alloc (.cells #[.int .i64 xk, .int .i64 xf, .int .i64 xt, .int .i64 xg, .int .i64 xh, .int .i64 xi, .int .i64 xm, .int .i64 xv, .slice A1 n1 k1, .slice B1 m1 d1, .bool b1] 103)) ⟨⟨xk, xf, xt, xg, xh, xi, xm, xv⟩, A1, n1, k1, B1, m1, d1⟩)
   have hown0 : ∀ q, u3.ownBlock = some q → w.heap.size ≤ q := fun q e => (HT.out.block q e).1
   have HPX := Lib.hid (heap_alloc_new wr (.cells #[.int .i64 xk, .int .i64 xf, .int .i64 xt, .int .i64 xg, .int .i64 xh, .int .i64 xi, .int .i64 xm, .int .i64 xv, .slice A1 n1 k1, .slice B1 m1 d1, .bool b1] 103))
   clear HT hb1 hb2 HB HR
   go_upto_region 5 with fail
   have hsz : (wr.alloc (.cells #[.int .i64 xk, .int .i64 xf, .int .i64 xt, .int .i64 xg, .int .i64 xh, .int .i64 xi, .int .i64 xm, .int .i64 xv, .slice A1 n1 k1, .slice B1 m1 d1, .bool b1] 103)).heap.size = wr.heap.size + 1 := by simp
   clear c0 c1 c2 c3 c4 c5 c6 c7 c8 c9 c10
   generalize wr.alloc (.cells #[.int .i64 xk, .int .i64 xf, .int .i64 xt, .int .i64 xg, .int .i64 xh, .int .i64 xi, .int .i64 xm, .int .i64 xv, .slice A1 n1 k1, .slice B1 m1 d1, .bool b1] 103) = W1 at HTA HBA HSL HPX hsz ⊢
   generalize wr.heap.size = PA at HPX hsz hws ⊢
   have hs2 : (W1.alloc (.cells #[.int .i64 xk, .int .i64 xf, .int .i64 xt, .int .i64 xg, .int .i64 xh, .int .i64 xi, .int .i64 xm, .int .i64 xv, .slice A1 n1 k1, .slice B1 m1 d1] 25)).heap.size = W1.heap.size + 1 := by simp
   have HSZ := Lib.hid hs2
   have HSZ1 := Lib.hid hsz
   clear hs2 hsz
   obtain ⟨p0, p1, p2, p3, p4, p5, p6, p7, p8, p9, p10⟩ := elev HPX.out
   go_wp2_with (at_builtin; (refine Ro.wpList_app_pt rfl (.tmp 12) (.tmp 15) rfl w.heap.size _ ((l.take i).map stepOf) rfl HTA.out (some ⟨W1.heap.size, 0, none⟩) 1 1 [⟨⟨xk, xf, xt, xg, xh, xi, xm, xv⟩, A1, n1, k1, B1, m1, d1⟩] rfl HSL.out (by omega) (by have := HSZ.out; have := HSZ1.out; omega) ?_); intro v' w2 hown' hg' hat)
   have HB2 := Lib.hid (grown_low HBA.out HBA.out.size hg' (fun q e => by have := hown0 q e; omega))
   have HT2 := Lib.hid (show Ro.Pts w.heap.size w2 v' ((l.take (i + 1)).map stepOf) by rw [HTS.out]; exact hown')
   clear hown' hg' hat
   exact ⟨⟨i + 1, by push_cast; rfl, by omega, HT2, HB2⟩, by simp only [intOf]; omega⟩
  ·have hi1 : i = n := by omega
   have HT1 : Hid (Ro.Pts w.heap.size wr u3 (l.map stepOf)) := Lib.hid (by
    have := HT.out
    rwa [List.take_of_length_le (by omega)] at this)
   clear HT
   go_wp2
   go_ret
   exact ⟨_, rfl, HT1.out, HB.out⟩
end Go.Proofs.Ytlbkfenlbkibgaa.St
namespace Go.Proofs.Ytlbkfenlbkibgaa.St
open Go.RowKit Mem Sm Tk Rt
theorem RInv.other {n0 : Nat} {W W' : World} {v : Value} {ps : List Ro.Pt} {acc : List Tr} {q : Nat} {cs : Array Value} {fr : Nat × Nat} (h : RInv n0 W v ps acc) (hg : W.grownBy W' (some q)) (hq : W.heap[q]? = some (.cells cs 25 fr)) (hn : n0 ≤ q) (hne : v.ownBlock ≠ some q) : RInv n0 W' v ps acc :=
 ⟨h.row.grown hg (fun g e e2 => hne (by rw [e]; exact e2)), h.len, fun j a b => (h.ok j a b).grown hg hq hn⟩
theorem ro_empty (w : World) (base : Nat) (hb : base ≤ w.heap.size) : Ro.Pts base (w.alloc (.cells #[] 25)) (.slice (some ⟨w.heap.size, 0, none⟩) 0 0) [] :=
 ⟨rfl, .inr ⟨w.heap.size, 0, #[], rfl, hb, heap_alloc_new w _, Nat.le_refl _, Nat.zero_le _, rfl, rfl⟩⟩
theorem prow_grown {W W' : World} {b off n : Nat} {l : List Ro.Pt} {row : Option Nat} (h : Ro.PRow W (some ⟨b, off, none⟩) n l) (hg : W.grownBy W' row) (hne : row ≠ some b) : Ro.PRow W' (some ⟨b, off, none⟩) n l :=
 ⟨h.1, fun hn => by
  obtain ⟨b', off', e, hl, hc⟩ := h.2 hn
  simp only [Option.some.injEq, Addr.mk.injEq, and_true] at e
  obtain ⟨rfl, rfl⟩ := e
  refine ⟨b, off, rfl, Nat.lt_of_lt_of_le hl hg.size, fun j hj => (hc j hj).keep (fun p => ?_)⟩
  unfold World.cell?
  simp only [hg.block b hl (fun e => hne e.symm)]⟩
structure R9 (w W : World) (g0 PB k cap : Nat) (oz : Obj) (P : Ro.Pt) (ps0 : List Ro.Pt) (acc : List Tr) (J : Ro.Pt) (JT : Tr) : Prop where
 hp : RInv w.heap.size W (.slice (some ⟨g0, 0, none⟩) (k + 1) cap) (ps0 ++ [P]) acc
 hz : W.heap[PB]? = some oz
 hn : RcOk w.heap.size W J JT
 hb : Below w.heap.size w W
section
variable {w W W' : World} {g0 PB k cap : Nat} {oz : Obj} {P : Ro.Pt} {ps0 : List Ro.Pt} {acc acc0 : List Tr} {J : Ro.Pt} {t JT : Tr}
theorem R9.step (h : R9 w W g0 PB k cap oz P ps0 acc J JT) (hb : Below W.heap.size W W') : R9 w W' g0 PB k cap oz P ps0 acc J JT :=
 ⟨h.hp.below hb, hkeep hb h.hz, h.hn.below hb, h.hb.trans (hb.mono h.hb.size)⟩
theorem R9.grown {E : Nat} {cs : Array Value} {fr : Nat × Nat} (h : R9 w W g0 PB k cap oz P ps0 acc J JT) (hg : W.grownBy W' (some E)) (hE : W.heap[E]? = some (.cells cs 25 fr)) (h0 : w.heap.size ≤ E) (h1 : E ≠ g0) (h2 : E ≠ PB) : R9 w W' g0 PB k cap oz P ps0 acc J JT :=
 ⟨h.hp.other hg hE h0 (fun e => h1 (Option.some.inj e).symm), grown_at hg h.hz (fun e => h2 (Option.some.inj e)), h.hn.grown hg hE h0, grown_low h.hb h.hb.size hg (fun g e => by cases e; exact h0)⟩
theorem R9.lt (h : R9 w W g0 PB k cap oz P ps0 acc J JT) : g0 < W.heap.size := (h.hp.row.block g0 rfl).2.1
theorem R9.pre (h : R9 w W g0 PB k cap oz P ps0 acc J JT) (hk : ps0.length = k) : Ro.PRow W (some ⟨g0, 0, none⟩) k ps0 := by
 obtain ⟨A, c, e, _, hr⟩ := h.hp.row.row
 simp only [Value.slice.injEq] at e
 obtain ⟨rfl, _, _⟩ := e
 obtain ⟨b, off, e2, hb, hc⟩ := hr.2 (by simp)
 simp only [Option.some.injEq, Addr.mk.injEq, and_true] at e2
 obtain ⟨rfl, rfl⟩ := e2
 refine ⟨hk, fun hp => ⟨g0, 0, rfl, hb, fun j hj => ?_⟩⟩
 have h2 := hc j (by simp; omega)
 rwa [List.getElem_append_left hj] at h2
theorem R9.fin {v5 v8 : Value} (h : R9 w W g0 PB k cap oz P ps0 (acc0 ++ [t]) J JT) (ho : Ro.Pts w.heap.size W v5 ps0) (hr : Ro.Pts w.heap.size W' v8 (ps0 ++ [J])) (hg : W.grownBy W' v5.ownBlock) : RInv w.heap.size W' v8 (ps0 ++ [J]) (acc0 ++ [JT]) ∧ Below w.heap.size w W' :=
 ⟨RInv.more ho h.hp.last.2.1 h.hp.last.2.2 h.hn hr hg, grown_low h.hb h.hb.size hg (fun g e => (ho.block g e).1)⟩
end
end Go.Proofs.Ytlbkfenlbkibgaa.St
