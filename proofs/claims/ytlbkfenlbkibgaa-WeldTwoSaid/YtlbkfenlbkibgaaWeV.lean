/- Welding: what must be whatever is asked. -/
import Derived.Test.YtlbkfenlbkibgaaWeX
import Derived.Test.YtlbkfenlbkibgaaDfT
set_option linter.unusedVariables false
set_option maxRecDepth 100000
set_option maxHeartbeats 4000000
namespace Go.Proofs.Ytlbkfenlbkibgaa.St
open Go.RowKit Mem Sm Tk Rt
set_option linter.unusedSimpArgs false
theorem rune1 (W : World) (a : Int) (t : TypeId) (h : (Lit.int .i32 a).wf = true) : Row .i32 (W.alloc (.cells #[.int .i32 a] t)) (some ⟨W.heap.size, 0, none⟩) 1 [a] := by
 refine ⟨rfl, fun z hz => by simp at hz; rw [hz]; exact h, fun _ => ⟨W.heap.size, 0, rfl, fun j hj => ?_⟩⟩
 have hc := heap_alloc_new W (.cells #[.int .i32 a] t)
 unfold World.cell?
 simp only [hc]
 match j, hj with
 | 0, _ => rfl
def spA : Sp := ⟨1, 5, 5, 0, 0, 0, 0, 0⟩
def spB : Sp := ⟨1, 6, 6, 0, 0, 0, 0, 0⟩
theorem live_w (L K : List Tk.Tk) (hL : L.length = 1) (hK : K.length = 1) : weldB spA spB L K 1 1 0 0 = true ∧ wayN spA spB (wayOf spA spB 1) = ⟨1, 5, 5, 0, 0, 0, 0, 0⟩ ∧ wayL L K (wayOf spA spB 1) = L ++ K := by
 have e1 : wayOf spA spB 1 = 1 := by unfold wayOf spA spB; simp
 have hX : shapeB spA 1 0 = true := shape_yes (x := spA) ⟨⟨by decide, by decide, by decide, by decide, by decide⟩, .inl ⟨rfl, rfl, rfl, rfl⟩⟩
 have hY : shapeB spB 1 0 = true := shape_yes (x := spB) ⟨⟨by decide, by decide, by decide, by decide, by decide⟩, .inl ⟨rfl, rfl, rfl, rfl⟩⟩
 have e2 : wayN spA spB 1 = ⟨1, 5, 5, 0, 0, 0, 0, 0⟩ := rfl
 have e3 : wayL L K 1 = L ++ K := rfl
 rw [e1, e2, e3]
 refine ⟨?_, rfl, rfl⟩
 unfold weldB
 rw [hX, hY, e1, e2, e3]
 rw [shape_yes (x := ⟨1, 5, 5, 0, 0, 0, 0, 0⟩) (n := (L ++ K).length) (m := 0) ⟨⟨by decide, by decide, by decide, by rw [List.length_append, hL, hK]; decide, by decide⟩, .inl ⟨rfl, rfl, rfl, rfl⟩⟩]
 rfl
theorem live27_any (w : World) : Calls Try.prog 26 #[] w fun e w' => e = .returned (.bool true) ∧ Below w.heap.size w w' := by
 obtain ⟨hlw, hln, hll⟩ := live_w [Df.chr 97] [Df.chr 98] rfl rfl
 have CT := fun A B c d A' B' c' d' W h1 h2 h3 h4 => two_any spA spB [Df.chr 97] [Df.chr 98] [] [] A A' B B' 1 1 0 0 c c' d d' W (by omega) (by omega) (by omega) (by omega) h1 h2 h3 h4
 unfold RTwoIs at CT
 rw [hlw, hln, hll] at CT
 clear hlw hln hll
 unfold stV stC spA spB at CT
 simp only at CT
 go_enter Try.func26, Try.ntmps26
 go_wp2_with fail
 refine (Df.text_any [97] (some ⟨w.heap.size, 0, none⟩) 1 1 _ (by omega) (rune1 w 97 _ (by decide))).mono ?_
 rintro e w1 ⟨v1, rfl, hv1, hb1⟩
 have HB1 := Lib.hid (((Below.refl w.heap.size w).alloc (Nat.le_refl _) _).trans (hb1.mono (by simp)))
 have hv1' : Tks _ w1 v1 [Df.chr 97] := hv1
 obtain ⟨A1, c1, rfl, hc1, hr1⟩ := hv1'.row
 have hr1' : TRow w1 A1 1 [Df.chr 97] := hr1
 have hs1 := HB1.out.size
 have HB2 := Lib.hid (HB1.out.alloc hs1 (.cells #[.int .i64 1, .int .i64 5, .int .i64 5, .int .i64 0, .int .i64 0, .int .i64 0, .int .i64 0, .int .i64 0, .slice A1 1 c1, .slice none 0 0] 25))
 have HR1 := Lib.hid (hr1'.alloc (.cells #[.int .i64 1, .int .i64 5, .int .i64 5, .int .i64 0, .int .i64 0, .int .i64 0, .int .i64 0, .int .i64 0, .slice A1 1 c1, .slice none 0 0] 25))
 have HX := Lib.hid (heap_alloc_new w1 (.cells #[.int .i64 1, .int .i64 5, .int .i64 5, .int .i64 0, .int .i64 0, .int .i64 0, .int .i64 0, .int .i64 0, .slice A1 1 c1, .slice none 0 0] 25))
 have hlen1 : [Df.chr 97].length = 1 := rfl
 rw [hlen1]
 clear hv1 hv1' hb1 hr1 hr1' HB1 hlen1
 go_upto_region 2 with fail
 have hsz1 : (w1.alloc (.cells #[.int .i64 1, .int .i64 5, .int .i64 5, .int .i64 0, .int .i64 0, .int .i64 0, .int .i64 0, .int .i64 0, .slice A1 1 c1, .slice none 0 0] 25)).heap.size = w1.heap.size + 1 := by simp
 generalize w1.alloc (.cells #[.int .i64 1, .int .i64 5, .int .i64 5, .int .i64 0, .int .i64 0, .int .i64 0, .int .i64 0, .int .i64 0, .slice A1 1 c1, .slice none 0 0] 25) = w2 at HB2 HR1 HX hsz1 ⊢
 clear hsz1
 generalize w1.heap.size = PA at HX ⊢
 go_wp2_with fail
 refine (Df.text_any [98] (some ⟨w2.heap.size, 0, none⟩) 1 1 _ (by omega) (rune1 w2 98 _ (by decide))).mono ?_
 rintro e w3 ⟨v2, rfl, hv2, hb2⟩
 have hb23 := ((Below.refl w2.heap.size w2).alloc (Nat.le_refl _) _).trans (hb2.mono (by simp))
 have HB3 := Lib.hid (HB2.out.trans (hb23.mono HB2.out.size))
 have hv2' : Tks _ w3 v2 [Df.chr 98] := hv2
 obtain ⟨A2, c2, rfl, hc2, hr2⟩ := hv2'.row
 have hr2' : TRow w3 A2 1 [Df.chr 98] := hr2
 have hs3 := HB3.out.size
 have hba := (Below.refl w3.heap.size w3).alloc (Nat.le_refl _) (.cells #[.int .i64 1, .int .i64 6, .int .i64 6, .int .i64 0, .int .i64 0, .int .i64 0, .int .i64 0, .int .i64 0, .slice A2 1 c2, .slice none 0 0] 25)
 have HB4 := Lib.hid (HB3.out.trans (hba.mono hs3))
 have HX2 := Lib.hid (hkeep hba (hkeep hb23 HX.out))
 have HY := Lib.hid (heap_alloc_new w3 (.cells #[.int .i64 1, .int .i64 6, .int .i64 6, .int .i64 0, .int .i64 0, .int .i64 0, .int .i64 0, .int .i64 0, .slice A2 1 c2, .slice none 0 0] 25))
 have HR12 := Lib.hid ((HR1.out.below hb23).below hba)
 have HR2 := Lib.hid (hr2'.below hba)
 have hlen2 : [Df.chr 98].length = 1 := rfl
 rw [hlen2]
 clear hv2 hv2' hb2 hb23 hr2 hr2' HB2 HB3 HR1 HX hlen2 hba
 go_upto_region 3 with fail
 generalize w3.alloc (.cells #[.int .i64 1, .int .i64 6, .int .i64 6, .int .i64 0, .int .i64 0, .int .i64 0, .int .i64 0, .int .i64 0, .slice A2 1 c2, .slice none 0 0] 25) = w4 at HB4 HX2 HY HR12 HR2 ⊢
 generalize w3.heap.size = PB at HY ⊢
 obtain ⟨⟨y0, y1, y2, y3, y4⟩, y5, y6, y7, y8, y9⟩ := tenc HX2.out
 obtain ⟨⟨o0, o1, o2, o3, o4⟩, o5, o6, o7, o8, o9⟩ := tenc HY.out
 go_wp2_with fail
 refine (CT A1 none c1 0 A2 none c2 0 w4 HR12.out ⟨rfl, fun h => absurd h (by omega)⟩ HR2.out ⟨rfl, fun h => absurd h (by omega)⟩).mono ?_
 rintro e w5 ⟨h, hb5⟩
 rcases h with ⟨_, s, rfl, hs⟩ | ⟨h, _⟩
 case inr => cases h
 have HB5 := Lib.hid (HB4.out.trans (hb5.mono HB4.out.size))
 have hs5 := HB5.out.size
 obtain ⟨A3, c3, rfl, hc3, hr3⟩ := hs.row
 have hr3' : TRow w5 A3 2 [Df.chr 97, Df.chr 98] := hr3
 obtain ⟨b, off, rfl, hbs, hcell⟩ := (hr3'.alloc (.cells #[.int .i64 1, .int .i64 5, .int .i64 5, .int .i64 0, .int .i64 0, .int .i64 0, .int .i64 0, .int .i64 0, .slice A3 2 c3, .slice none 0 0] 25)).2 (by omega)
 have hch := (hcell 1 (by simp)) 3 (.int .i32 98) rfl
 have HB6 := Lib.hid (HB5.out.alloc hs5 (.cells #[.int .i64 1, .int .i64 5, .int .i64 5, .int .i64 0, .int .i64 0, .int .i64 0, .int .i64 0, .int .i64 0, .slice (some ⟨b, off, none⟩) 2 c3, .slice none 0 0] 25))
 have HZ := Lib.hid (heap_alloc_new w5 (.cells #[.int .i64 1, .int .i64 5, .int .i64 5, .int .i64 0, .int .i64 0, .int .i64 0, .int .i64 0, .int .i64 0, .slice (some ⟨b, off, none⟩) 2 c3, .slice none 0 0] 25))
 have hlen3 : ([Df.chr 97] ++ [Df.chr 98]).length = 2 := rfl
 rw [hlen3]
 clear y0 y1 y2 y3 y4 y5 y6 y7 y8 y9 o0 o1 o2 o3 o4 o5 o6 o7 o8 o9 hs hb5 hr3 hr3' hcell HB4 HB5 HX2 HY HR12 HR2 hbs CT hlen3
 have hz := tenc HZ.out
 have z0 := hz.1.1
 have z1 := hz.1.2.1
 have z2 := hz.1.2.2.1
 have z3 := hz.1.2.2.2.1
 have z4 := hz.1.2.2.2.2
 have z5 := hz.2.1
 have z6 := hz.2.2.1
 have z7 := hz.2.2.2.1
 have z8 := hz.2.2.2.2.1
 have z9 := hz.2.2.2.2.2
 have hf := froz HZ.out
 have f0 := hf.1
 have f1 := hf.2.1
 have f2 := hf.2.2.1
 have f3 := hf.2.2.2.1
 have f4 := hf.2.2.2.2.1
 have f5 := hf.2.2.2.2.2.1
 have f6 := hf.2.2.2.2.2.2.1
 have f7 := hf.2.2.2.2.2.2.2.1
 have f8 := hf.2.2.2.2.2.2.2.2.1
 have f9 := hf.2.2.2.2.2.2.2.2.2
 clear hz hf
 go_wp2
 go_ret
 exact ⟨rfl, HB6.out⟩
end Go.Proofs.Ytlbkfenlbkibgaa.St
