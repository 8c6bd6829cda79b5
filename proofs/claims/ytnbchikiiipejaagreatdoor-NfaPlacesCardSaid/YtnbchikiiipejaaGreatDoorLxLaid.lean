/- What the listed package-level variables hold when a call begins: the signs of one byte, the table of powers; and that the program's own start lays just that. -/
import Derived.Test.YtnbchikiiipejaaGreatDoorRows
import Derived.Test.YtnbchikiiipejaaGreatDoorTie
import Derived.ProofKit
import Derived.OpenShut
import Derived.LaidMore
import Derived.Lib.LaidTab
import Derived.Lib.ItoaNum
import Derived.Stop.Joined
import Derived.MakeChecks
import Derived.Below
import Derived.WalkKit
import Derived.Deep.Draws
set_option maxRecDepth 100000
namespace Go.Proofs.YtnbchikiiipejaaGreatDoor.Lx
open Go.RowKit
theorem lit_int {H : Type} {enc : TypeId × Value → H} {P : Program} {W : World} {base : Nat} {spare : Nat → Bool} {held : Bool} {m : Nat} {ti : TypeId} {cs : List Value} {y : DataW H × List MemPlace} {v : Int} (hi : P.underlying ti = some (.int .i64))
  (a : DataW.trod enc P W base spare held m ti cs = some y) (b : DataW.lit (.int .i64 v) = y.1) : cs = [.int .i64 v] := by
 obtain ⟨z, rfl, rfl, _⟩ := DataW.trod_int hi a
 simp only [DataW.lit.injEq, Lit.int.injEq] at b
 rw [b.2]
theorem signs_of_head {P : Program} {W : World} {name : String} {ls : List (Int × Int × Int × Int)} {rest : List (String × DataW Unit)} {g : Nat} {t e ti ts : TypeId} {n : Nat} {f0 f1 f2 f3 f4 : Field}
  (hg : P.globalNamed name = some g) (hty : (P.globals[g]?).map (·.type) = some t) (ht : P.underlying t = some (.array n e)) (he : P.underlying e = some (.struct #[f0, f1, f2, f3, f4])) (hce : P.cellsOf e = 5) (hn : ls.length = n)
  (hi : P.underlying ti = some (.int .i64)) (hs : P.underlying ts = some .string)
  (k0 : f0.type = ti ∧ f0.offset = 0) (k1 : f1.type = ti ∧ f1.offset = 1) (k2 : f2.type = ti ∧ f2.offset = 2) (k3 : f3.type = ti ∧ f3.offset = 3) (k4 : f4.type = ts ∧ f4.offset = 4)
  (ci : P.cellsOf ti = 1) (cst : P.cellsOf ts = 1)
  (h : laidMet P ((name, .agg (ls.map fun l => .agg [.lit (.int .i64 l.1), .lit (.int .i64 l.2.1), .lit (.int .i64 l.2.2.1), .lit (.int .i64 l.2.2.2), .lit (.string [])])) :: rest) W) :
  ∀ i l, ls[i]? = some l → W.cell? ⟨g, i * 5, none⟩ = some (.int .i64 l.1) ∧ W.cell? ⟨g, i * 5 + 1, none⟩ = some (.int .i64 l.2.1) ∧ W.cell? ⟨g, i * 5 + 2, none⟩ = some (.int .i64 l.2.2.1) ∧ W.cell? ⟨g, i * 5 + 3, none⟩ = some (.int .i64 l.2.2.2) ∧ W.cell? ⟨g, i * 5 + 4, none⟩ = some (.string ⟨#[]⟩) := by
 obtain ⟨ps, ⟨g', t', cs, fuel, p, q, hg', ht', hvar, hd, _, _⟩, _⟩ := h
 obtain rfl := Option.some.inj (hg.symm.trans hg')
 obtain rfl := Option.some.inj (hty.symm.trans ht')
 obtain ⟨xs, m, rfl, hx, hlen, hxs, hel⟩ := DataW.trod_array ht hd
 simp only [Prod.mk.injEq, DataW.agg.injEq] at hx
 intro i l hl
 have hin : i < n := by
  rcases Nat.lt_or_ge i ls.length with h1 | h1
  ·omega
  ·rw [List.getElem?_eq_none h1] at hl; cases hl
 have h1 := hel i hin
 have hxi : xs[i]? = some xs[i] := List.getElem?_eq_getElem (by omega)
 rw [hce, hxi] at h1
 have h2 : (xs.map (·.1))[i]? = some xs[i].1 := by rw [List.getElem?_map, hxi]; rfl
 rw [← hx.1, List.getElem?_map, hl] at h2
 simp only [Option.map_some, Option.some.injEq] at h2
 obtain ⟨ys, m2, _, hy, _, hylen, hyf⟩ := DataW.trod_struct he h1
 rw [hy] at h2
 simp only [DataW.agg.injEq] at h2
 match ys, hylen with
 | [y0, y1, y2, y3, y4], _ =>
  simp only [List.map_cons, List.map_nil, List.cons.injEq, and_true] at h2
  obtain ⟨v0, v1, v2, v3, v4⟩ := h2
  have g0 := hyf 0 f0 rfl
  have g1 := hyf 1 f1 rfl
  have g2 := hyf 2 f2 rfl
  have g3 := hyf 3 f3 rfl
  have g4 := hyf 4 f4 rfl
  rw [k0.1, k0.2, ci] at g0
  rw [k1.1, k1.2, ci] at g1
  rw [k2.1, k2.2, ci] at g2
  rw [k3.1, k3.2, ci] at g3
  rw [k4.1, k4.2, cst] at g4
  simp only [List.getElem?_cons_zero, List.getElem?_cons_succ] at g0 g1 g2 g3 g4
  have cell : ∀ (j : Nat) (v : Value), j < 5 → (((cs.toList.drop (i * 5)).take 5).drop j).take 1 = [v] → W.cell? ⟨g, i * 5 + j, none⟩ = some v := by
   intro j v hj hv
   have h3 := World.var?_cell hg hvar (i * 5 + j)
   have h5 : ((((cs.toList.drop (i * 5)).take 5).drop j).take 1)[0]? = some v := by rw [hv]; rfl
   rw [h3]
   simp only [List.getElem?_take, List.getElem?_drop, Nat.zero_lt_one, if_true, Nat.add_zero, if_pos hj] at h5
   simpa using h5
  obtain ⟨s, e4, hx4, _⟩ := DataW.trod_string hs g4
  rw [hx4] at v4
  simp only [DataW.lit.injEq, Lit.string.injEq] at v4
  have es : s = ⟨#[]⟩ := by
   cases s; simp at v4; simp [v4]
  subst es
  exact ⟨cell 0 _ (by omega) (lit_int hi g0 v0), cell 1 _ (by omega) (lit_int hi g1 v1), cell 2 _ (by omega) (lit_int hi g2 v2), cell 3 _ (by omega) (lit_int hi g3 v3), cell 4 _ (by omega) e4⟩
def singles : List (Int × Int × Int) := [(2, 0, 0), (3, 0, 0), (4, 0, 0), (5, 0, -1), (5, 1, -1), (5, 0, 1)]
structure Held (W : World) : Prop where
 sing : ∀ i l, singles[i]? = some l → W.cell? ⟨1, i * 5, none⟩ = some (.int .i64 l.1) ∧ W.cell? ⟨1, i * 5 + 1, none⟩ = some (.int .i64 0) ∧ W.cell? ⟨1, i * 5 + 2, none⟩ = some (.int .i64 l.2.1) ∧ W.cell? ⟨1, i * 5 + 3, none⟩ = some (.int .i64 l.2.2) ∧ W.cell? ⟨1, i * 5 + 4, none⟩ = some (.string ⟨#[]⟩)
 tab : Lib.TabIs Tryz.prog W "internal/strconv.uint64pow10" .u64 Lib.pow10Tab
theorem pow10_is : (Rows.laid_internal_strconv_uint64pow10 : DataW Unit) = Lib.tabData .u64 Lib.pow10Tab := by kernel_rfl
theorem single_is : (Rows.laid_stet_lex_single : DataW Unit) = .agg ((singles.map fun l => (l.1, (0 : Int), l.2.1, l.2.2)).map fun l => .agg [.lit (.int .i64 l.1), .lit (.int .i64 l.2.1), .lit (.int .i64 l.2.2.1), .lit (.int .i64 l.2.2.2), .lit (.string [])]) := by kernel_rfl
theorem gl (n : String) (cs : Array Value) (g : Nat) {W : World} (hg : Tryz.prog.globalNamed n = some g) (h : W.var? Tryz.prog n = some cs) : g < W.heap.size := by
 unfold World.var? at h
 simp only [hg, Option.bind_some] at h
 rcases Nat.lt_or_ge g W.heap.size with h1 | h1
 ·exact h1
 ·rw [Array.getElem?_eq_none h1] at h; simp at h
theorem var_below {P : Program} {B g : Nat} {W W' : World} {n : String} {cs : Array Value} (h : Below B W W') (hg : P.globalNamed n = some g) (hgB : g < B) (hv : W.var? P n = some cs) : W'.var? P n = some cs := by
 unfold World.var? at *
 simp only [hg, Option.bind_some] at *
 rw [h.block g hgB]; exact hv
theorem Held.lt {W : World} (h : Held W) : 1 < W.heap.size := World.block_lt_of_cell? W _ (h.sing 0 _ rfl).1
theorem Held.below {W W' : World} (h : Held W) (hb : Below W.heap.size W W') : Held W' := by
 refine ⟨fun i l hl => ?_, ?_⟩
 ·obtain ⟨a0, a1, a2, a3, a4⟩ := h.sing i l hl
  have hc := fun j => hb.cell (p := ⟨1, j, none⟩) h.lt
  exact ⟨(hc _).trans a0, (hc _).trans a1, (hc _).trans a2, (hc _).trans a3, (hc _).trans a4⟩
 ·have h1 := h.tab
  exact var_below (g := 7) hb (by kernel_rfl) (gl _ _ _ (by kernel_rfl) h1) h1
theorem Held.drewN {W : World} (h : Held W) (n : Nat) : Held (W.drewN n) := h.below ⟨rfl, rfl, rfl, Nat.le_refl _, fun _ _ => rfl⟩
end Go.Proofs.YtnbchikiiipejaaGreatDoor.Lx
