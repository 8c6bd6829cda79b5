/- Steps: gap, keeps. -/
import Derived.Test.YtlbkfenlbkibgaaStL
import Derived.Test.YtlbkfenlbkibgaaStK
import Derived.BigQuiet
import Derived.LoopTactic
import Derived.Lib.MinMax
set_option linter.unusedVariables false
set_option maxRecDepth 100000
set_option maxHeartbeats 4000000
namespace Go.Proofs.Ytlbkfenlbkibgaa.St
open Go.RowKit Mem Sm Tk Rt
set_option linter.unusedSimpArgs false
def KP (T : Int → Int → Option Rt.St) (x : Sp) (fr : Int) (i : Nat) : Prop := (T (x.from_ + i) 1).isSome = true ∧ (endP (T (x.from_ + i) 1)).gone = false ∧ (endP (T (x.from_ + i) 1)).pos = wrap64 (fr + i)
noncomputable def keepsB (T : Int → Int → Option Rt.St) (x : Sp) (fr : Int) : Bool := @decide (∀ i : Nat, (i : Int) < x.to_ - x.from_ → KP T x fr i) (Classical.propDecidable _)
theorem keeps_yes {T : Int → Int → Option Rt.St} {x : Sp} {fr : Int} (h : ∀ i : Nat, (i : Int) < x.to_ - x.from_ → KP T x fr i) : keepsB T x fr = true := @decide_eq_true _ (Classical.propDecidable _) h
theorem keeps_no {T : Int → Int → Option Rt.St} {x : Sp} {fr : Int} {i : Nat} (hi : (i : Int) < x.to_ - x.from_) (h : ¬ KP T x fr i) : keepsB T x fr = false := @decide_eq_false _ (Classical.propDecidable _) (fun g => h (g i hi))
end Go.Proofs.Ytlbkfenlbkibgaa.St
namespace Go.Proofs.Ytlbkfenlbkibgaa.St
open Go.RowKit Mem Sm Tk Rt
set_option linter.unusedSimpArgs false
structure RTells (rv : Value) (R : World → Prop) (T : Int → Int → Option Rt.St) : Prop where
 step : ∀ W W', R W → Below W.heap.size W W' → R W'
 call : ∀ W a s, R W → Calls Try.prog 43 #[rv, .int .i64 a, .int .i64 s] W fun e W' => e = .returned (.tuple #[plV (endP (T a s)), .bool (T a s).isSome]) ∧ Below W.heap.size W W'
abbrev plR (x : Pl) : Obj := .cells (pl5 x) 83 (0, 0)
abbrev rtO (x y : Value) : Obj := .cells #[x, y] 38 (0, 0)
theorem twoc {B : Nat} {W : World} {x0 x1 : Value} {t : TypeId} (e : W.heap[B]? = some (.cells #[x0, x1] t (0, 0))) : W.cell? ⟨B, 0, none⟩ = some x0 ∧ W.cell? ⟨B, 1, none⟩ = some x1 := by
 constructor <;> simp [World.cell?, e]
theorem row_any {A1 A2 : Option Addr} {n1 n2 c1 c2 : Nat} {R : World → Prop} {T : Int → Int → Option Rt.St} (HT : RTells (.agg #[.slice A1 n1 c1, .slice A2 n2 c2]) R T) (x : Sp) (A B : Option Addr) (n m c d : Nat) (fr : Int) (w : World) (hR : R w) (hf : 0 ≤ x.from_ ∧ x.from_ ≤ x.to_ ∧ x.to_ ≤ 1073741824) :
  Calls Try.prog 44 #[stV x (.slice A n c) (.slice B m d), .agg #[.slice A1 n1 c1, .slice A2 n2 c2], .int .i64 fr] w fun e w' => e = .returned (.bool (keepsB T x fr)) ∧ Below w.heap.size w w' := by
 have hstep := HT.step
 have CB := fun W (i : Nat) => HT.call W (x.from_ + i) 1
 have HKY : Hid ((∀ i : Nat, (i : Int) < x.to_ - x.from_ → KP T x fr i) → keepsB T x fr = true) := Lib.hid keeps_yes
 have HKN : Hid (∀ i : Nat, (i : Int) < x.to_ - x.from_ → ¬ KP T x fr i → keepsB T x fr = false) := Lib.hid (fun i => keeps_no)
 obtain ⟨F, hF⟩ : ∃ F, F = keepsB T x fr := ⟨_, rfl⟩
 rw [← hF] at HKY HKN ⊢
 clear HT hF
 have HKP : Hid (∀ i : Nat, KP T x fr i ↔ ((T (x.from_ + i) 1).isSome = true ∧ (endP (T (x.from_ + i) 1)).gone = false ∧ (endP (T (x.from_ + i) 1)).pos = wrap64 (fr + i))) := Lib.hid (fun i => Iff.rfl)
 obtain ⟨G, hG⟩ : ∃ G : Nat → Option Rt.St, ∀ i : Nat, T (x.from_ + i) 1 = G i := ⟨_, fun _ => rfl⟩
 obtain ⟨K, hK⟩ : ∃ K : Nat → Prop, ∀ i : Nat, KP T x fr i = K i := ⟨_, fun _ => rfl⟩
 simp only [hG, hK] at CB HKP HKY HKN
 clear hG hK
 obtain ⟨xk, xf, xt, xg, xh, xi, xm, xv⟩ := x
 unfold stV stC
 simp only at CB hf HKY HKN ⊢
 have hb0 := ((Below.refl _ w).alloc (Nat.le_refl _) (.cells #[.int .i64 xk, .int .i64 xf, .int .i64 xt, .int .i64 xg, .int .i64 xh, .int .i64 xi, .int .i64 xm, .int .i64 xv, .slice A n c, .slice B m d] 25)).alloc (by simp) (rtO (.slice A1 n1 c1) (.slice A2 n2 c2))
 have hx : ((w.alloc (.cells #[.int .i64 xk, .int .i64 xf, .int .i64 xt, .int .i64 xg, .int .i64 xh, .int .i64 xi, .int .i64 xm, .int .i64 xv, .slice A n c, .slice B m d] 25)).alloc (rtO (.slice A1 n1 c1) (.slice A2 n2 c2))).heap[w.heap.size]? = some (.cells #[.int .i64 xk, .int .i64 xf, .int .i64 xt, .int .i64 xg, .int .i64 xh, .int .i64 xi, .int .i64 xm, .int .i64 xv, .slice A n c, .slice B m d] 25) := by rw [Below.heap_alloc _ _ _ (by simp), heap_alloc_new]
 have hr := heap_alloc_new (w.alloc (.cells #[.int .i64 xk, .int .i64 xf, .int .i64 xt, .int .i64 xg, .int .i64 xh, .int .i64 xi, .int .i64 xm, .int .i64 xv, .slice A n c, .slice B m d] 25)) (rtO (.slice A1 n1 c1) (.slice A2 n2 c2))
 rw [show (w.alloc (.cells #[.int .i64 xk, .int .i64 xf, .int .i64 xt, .int .i64 xg, .int .i64 xh, .int .i64 xi, .int .i64 xm, .int .i64 xv, .slice A n c, .slice B m d] 25)).heap.size = w.heap.size + 1 by simp] at hr
 have HB := Lib.hid hb0
 have HX := Lib.hid hx
 have HR := Lib.hid hr
 clear hb0 hx hr
 obtain ⟨⟨y0, y1, y2, y3, y4⟩, y5, y6, y7, y8, y9⟩ := tenc HX.out
 go_enter Try.func44, Try.ntmps44
 go_wp2_with fail
 clear y0 y1 y2 y3 y4 y5 y6 y7 y8 y9
 go_loopw [7] (fun iv wr => ∃ i : Nat, iv = .int .i64 (xf + i) ∧ (i : Int) ≤ xt - xf ∧ Hid (∀ j : Nat, j < i → K j) ∧ Hid (Below w.heap.size w wr) ∧ Hid (wr.heap[w.heap.size]? = some (.cells #[.int .i64 xk, .int .i64 xf, .int .i64 xt, .int .i64 xg, .int .i64 xh, .int .i64 xi, .int .i64 xm, .int .i64 xv, .slice A n c, .slice B m d] 25)) ∧ Hid (wr.heap[w.heap.size + 1]? = some (rtO (.slice A1 n1 c1) (.slice A2 n2 c2)))) (fun iv _ => (xt - intOf iv).toNat)
 case atStart => exact ⟨0, by simp, by omega, Lib.hid (fun j h => by omega), HB, HX, HR⟩
 case round =>
  obtain ⟨i, rfl, hi, HK, HB1, HX1, HR1⟩ := hrel
  obtain ⟨⟨y0, y1, y2, y3, y4⟩, y5, y6, y7, y8, y9⟩ := tenc HX1.out
  by_cases hlt : (i : Int) < xt - xf
  ·have hlt2 : xf + (i : Int) < xt := by omega
   have hwi : wrap64 (xf + (i : Int) + 1) = xf + (i : Int) + 1 := by unfold wrap64; omega
   have hww : wrap64 (wrap64 (fr + (xf + i)) - xf) = wrap64 (fr + i) := by unfold wrap64; omega
   have CW := CB _ i (hstep _ _ hR HB1.out)
   obtain ⟨a0, a1⟩ := twoc HR1.out
   have hki := HKP.out i
   obtain ⟨P, hP⟩ : ∃ P, P = endP (G i) := ⟨_, rfl⟩
   obtain ⟨b, hbb⟩ : ∃ P, P = (G i).isSome := ⟨_, rfl⟩
   simp only [← hP, ← hbb] at CW hki
   clear hP hbb
   obtain ⟨p0, p1, p2, p3, p4⟩ := P
   have HKI := Lib.hid hki
   clear hki
   unfold plV at CW
   simp only at CW
   go_wp2_with fail
   refine CW.mono ?_
   rintro e w1 ⟨rfl, hb1⟩
   have HB2 := Lib.hid (HB1.out.trans (hb1.mono HB1.out.size))
   have HX2 := Lib.hid (hkeep hb1 HX1.out)
   have HR2 := Lib.hid (hkeep hb1 HR1.out)
   clear CW hb1 HB1 HX1 HR1 y0 y1 y2 y3 y4 y5 y6 y7 y8 y9 a0 a1
   have hbn : Below w1.heap.size w1 (w1.alloc (plR ⟨p0, p1, p2, p3, p4⟩)) := (Below.refl _ _).alloc (Nat.le_refl _) _
   have HB3 := Lib.hid (HB2.out.trans (hbn.mono HB2.out.size))
   have HX3 := Lib.hid (hkeep hbn HX2.out)
   have HR3 := Lib.hid (hkeep hbn HR2.out)
   obtain ⟨z0, z1, z2, z3, z4⟩ := five (heap_alloc_new w1 (plR ⟨p0, p1, p2, p3, p4⟩))
   obtain ⟨⟨y0, y1, y2, y3, y4⟩, y5, y6, y7, y8, y9⟩ := tenc HX3.out
   clear hbn HB2 HX2 HR2
   cases b with
   | false =>
    have hF : F = false := HKN.out i hlt (fun h => by have := (HKI.out.1 h).1; cases this)
    subst hF
    clear HKN HKY HKI HKP
    go_wp2
    go_ret
    exact ⟨rfl, HB3.out⟩
   | true =>
    cases p1 with
    | true =>
     have hF : F = false := HKN.out i hlt (fun h => by have := (HKI.out.1 h).2.1; cases this)
     subst hF
     clear HKN HKY HKI HKP
     go_wp2
     go_ret
     exact ⟨rfl, HB3.out⟩
    | false =>
     by_cases hp : p0 = wrap64 (fr + i)
     ·have hKi : K i := HKI.out.2 ⟨rfl, rfl, hp⟩
      have HK2 : Hid (∀ j : Nat, j < i + 1 → K j) := Lib.hid (fun j hj => by
       by_cases g : j = i
       ·subst g; exact hKi
       ·exact HK.out j (by omega))
      subst hp
      clear HKN HKY HKI HKP hKi HK
      go_wp2
      exact ⟨⟨i + 1, by rw [Int.natCast_add, ← Int.add_assoc]; rfl, by omega, HK2, HB3, HX3, HR3⟩, by simp only [intOf]; omega⟩
     ·have hF : F = false := HKN.out i hlt (fun h => hp (HKI.out.1 h).2.2)
      subst hF
      clear HKN HKY HKI HKP
      go_wp2
      go_ret
      exact ⟨rfl, HB3.out⟩
  ·have hlt2 : ¬ xf + (i : Int) < xt := by omega
   have hF : F = true := HKY.out (fun j hj => HK.out j (by omega))
   subst hF
   clear HKN HKY HKP CB
   go_wp2
   go_ret
   exact ⟨rfl, HB1.out⟩
end Go.Proofs.Ytlbkfenlbkibgaa.St
namespace Go.Proofs.Ytlbkfenlbkibgaa.St
open Go.RowKit Mem Sm Tk Rt
set_option linter.unusedSimpArgs false
noncomputable def goneB (T : Int → Int → Option Rt.St) (x : Sp) : Bool :=
 ((T x.from_ 1).isSome && (T x.to_ (-1)).isSome) && !((endP (T x.from_ 1)).inside && (endP (T x.to_ (-1))).inside) &&
 (if x.kind = 2 then ((T x.gf (-1)).isSome && (T x.gt 1).isSome) && decide ((endP (T x.gt 1)).pos ≤ (endP (T x.to_ (-1))).pos)
  else if x.kind = 1 then true
  else if x.kind = 5 then keepsB T x (endP (T x.from_ 1)).pos
  else decide ((endP (T x.to_ (-1))).pos > (endP (T x.from_ 1)).pos))
def goneN (T : Int → Int → Option Rt.St) (x : Sp) : Sp :=
 if x.kind = 2 then ⟨x.kind, (endP (T x.from_ 1)).pos, max (endP (T x.to_ (-1))).pos (endP (T x.from_ 1)).pos, (endP (T x.gf (-1))).pos, (endP (T x.gt 1)).pos, x.ins, x.mark, x.val⟩
 else if x.kind = 1 then ⟨x.kind, (endP (T x.from_ 1)).pos, max (endP (T x.to_ (-1))).pos (endP (T x.from_ 1)).pos, x.gf, x.gt, x.ins, x.mark, x.val⟩
 else if x.kind = 5 then ⟨x.kind, (endP (T x.from_ 1)).pos, wrap64 (wrap64 ((endP (T x.from_ 1)).pos + x.to_) - x.from_), x.gf, x.gt, x.ins, x.mark, x.val⟩
 else ⟨x.kind, (endP (T x.from_ 1)).pos, (endP (T x.to_ (-1))).pos, x.gf, x.gt, x.ins, x.mark, x.val⟩
end Go.Proofs.Ytlbkfenlbkibgaa.St
