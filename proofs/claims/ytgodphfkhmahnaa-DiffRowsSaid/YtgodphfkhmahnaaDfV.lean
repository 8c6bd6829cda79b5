/- Diffs: the tokens of letters. Diffs: what must be whatever is asked. -/
import Derived.Test.YtgodphfkhmahnaaStJ
import Derived.Test.YtgodphfkhmahnaaMkOwn
import Derived.Maps.Range
import Derived.Maps.RangeWalk
import Derived.Test.YtgodphfkhmahnaaDfC
namespace Go.Proofs.Ytgodphfkhmahnaa.Df
open Go.RowKit Mem Sm Tk Rt St
set_option linter.unusedVariables false
set_option linter.unusedSimpArgs false
abbrev zMk : Value := .agg #[.int .u16 0, .int .u16 0, .int .u16 0, .int .u16 0, .int .u16 0, .int .u16 0, .int .u16 0, .int .u16 0]
abbrev zMkO : Obj := .cells #[.int .u16 0, .int .u16 0, .int .u16 0, .int .u16 0, .int .u16 0, .int .u16 0, .int .u16 0, .int .u16 0] 99 (0, 0)
theorem grown_low {k : Nat} {w W W' : World} {row : Option Nat} (hb : Below k w W) (hk : k ≤ W.heap.size) (hg : W.grownBy W' row) (hr : ∀ g, row = some g → k ≤ g) : Below k w W' := by
  refine hb.trans ⟨hg.os, hg.tape, hg.output, hg.size, fun j hj => ?_⟩
  refine hg.block j (by omega) (fun e => ?_)
  have := hr j e.symm
  omega
theorem grown_at {W W' : World} {row : Option Nat} {j : Nat} {ob : Obj} (hg : W.grownBy W' row) (h : W.heap[j]? = some ob) (hr : row ≠ some j) : W'.heap[j]? = some ob := by
  rw [hg.block j (lt_some h) (fun e => hr e.symm)]; exact h
def chr (r : Int) : Tk.Tk := ⟨4, 0, 0, r, 0, 0, 0, 0, 0, 0, 0, 0⟩
theorem tok_lit (w : World) (x : Tk.Tk) : TRow (w.alloc (.cells #[.int .i64 x.k, .int .i64 x.ty, .int .i64 x.at_, .int .i32 x.r, .int .u16 x.a, .int .u16 x.b, .int .u16 x.c, .int .u16 x.d, .int .u16 x.e, .int .u16 x.f, .int .u16 x.g, .int .u16 x.h] 101)) (some ⟨w.heap.size, 0, none⟩) 1 [x] := by
  refine ⟨rfl, fun _ => ⟨w.heap.size, 0, rfl, by simp, fun j hj v u hv => ?_⟩⟩
  have hj0 : j = 0 := by simpa using hj
  subst hj0
  have hc := heap_alloc_new w (.cells #[.int .i64 x.k, .int .i64 x.ty, .int .i64 x.at_, .int .i32 x.r, .int .u16 x.a, .int .u16 x.b, .int .u16 x.c, .int .u16 x.d, .int .u16 x.e, .int .u16 x.f, .int .u16 x.g, .int .u16 x.h] 101)
  have hv2 : (tcells x)[v]? = some u := hv
  show World.cell? _ ⟨w.heap.size, 0 + 0 * 12 + v, none⟩ = some u
  simp only [Nat.zero_add, Nat.zero_mul]
  unfold World.cell?
  simp only [hc]
  simpa [tcells] using hv2
set_option maxRecDepth 100000 in
set_option maxHeartbeats 4000000 in
theorem letters_any (rs : List Int) (A : Option Addr) (n c : Nat) (w : World) (hn : n ≤ 1000) (hr : Row .i32 w A n rs) :
    Calls Try.prog 76 #[zMk, .slice A n c] w (TksIs w (rs.map chr)) := by
  have hnl := hr.1
  have hb0 := (Below.refl w.heap.size w).alloc (Nat.le_refl _) zMkO
  have hx := heap_alloc_new w zMkO
  have HB := Lib.hid hb0
  have HX := Lib.hid hx
  have HR := Lib.hid hr
  clear hb0 hx hr
  go_enter Try.func76, Try.ntmps76
  go_wp2_with fail
  go_loopw [5, 10] (fun lv iv wr => ∃ i : Nat, iv = .int .i64 i ∧ i ≤ n ∧ Hid (Tks (w.heap.size + 1) wr lv ((rs.take i).map chr)) ∧ Hid (Below w.heap.size w wr) ∧ Hid (wr.heap[w.heap.size]? = some zMkO)) (fun _ iv _ => n - (intOf iv).toNat)
  case atStart => exact ⟨0, rfl, by omega, Lib.hid (by simpa using Tks.nil), HB, HX⟩
  case round =>
    obtain ⟨i, rfl, hi, HT, HB1, HX1⟩ := hrel
    by_cases h1 : (i : Int) < (n : Int)
    · obtain ⟨g, off, rfl, hg, hc⟩ := (HR.out.below HB1.out).at_ (by omega)
      have hcw := hc i (by omega)
      have hwf := HR.out.wf_getD i (by omega)
      have hTS : rs.take (i + 1) = rs.take i ++ [rs.getD i 0] := by
        rw [List.take_succ_eq_append_getElem (by omega)]
        simp [List.getD, List.getElem?_eq_getElem (show i < rs.length by omega)]
      have HTS : Hid ((rs.take (i + 1)).map chr = (rs.take i).map chr ++ [chr (rs.getD i 0)]) := Lib.hid (by rw [hTS]; simp)
      have hlen : ((rs.take i).map chr).length = i := by simp; omega
      clear hTS hc
      generalize hr0 : rs.getD i 0 = r at *
      clear hr0
      have hsz := lt_some HX1.out
      have i1 : (0 : Int) ≤ (i : Int) := by omega
      obtain ⟨e0, e1, e2, e3, e4, e5, e6, e7⟩ : wr.cell? ⟨w.heap.size, 0, none⟩ = some (.int .u16 0) ∧ wr.cell? ⟨w.heap.size, 1, none⟩ = some (.int .u16 0) ∧ wr.cell? ⟨w.heap.size, 2, none⟩ = some (.int .u16 0) ∧ wr.cell? ⟨w.heap.size, 3, none⟩ = some (.int .u16 0) ∧ wr.cell? ⟨w.heap.size, 4, none⟩ = some (.int .u16 0) ∧ wr.cell? ⟨w.heap.size, 5, none⟩ = some (.int .u16 0) ∧ wr.cell? ⟨w.heap.size, 6, none⟩ = some (.int .u16 0) ∧ wr.cell? ⟨w.heap.size, 7, none⟩ = some (.int .u16 0) := by
        refine ⟨?_, ?_, ?_, ?_, ?_, ?_, ?_, ?_⟩
        all_goals simp [World.cell?, HX1.out]
      have HTA := Lib.hid (HT.out.alloc (.cells #[.int .i64 4, .int .i64 0, .int .i64 0, .int .i32 r, .int .u16 0, .int .u16 0, .int .u16 0, .int .u16 0, .int .u16 0, .int .u16 0, .int .u16 0, .int .u16 0] 101))
      have HTL := Lib.hid (tok_lit wr (chr r))
      have hba : Below wr.heap.size wr (wr.alloc (.cells #[.int .i64 4, .int .i64 0, .int .i64 0, .int .i32 r, .int .u16 0, .int .u16 0, .int .u16 0, .int .u16 0, .int .u16 0, .int .u16 0, .int .u16 0, .int .u16 0] 101)) := (Below.refl _ _).alloc (Nat.le_refl _) _
      have HBA := Lib.hid (HB1.out.trans (hba.mono HB1.out.size))
      have HXA := Lib.hid (hkeep hba HX1.out)
      have hsa : (wr.alloc (.cells #[.int .i64 4, .int .i64 0, .int .i64 0, .int .i32 r, .int .u16 0, .int .u16 0, .int .u16 0, .int .u16 0, .int .u16 0, .int .u16 0, .int .u16 0, .int .u16 0] 101)).heap.size = wr.heap.size + 1 := by simp
      have hown0 : ∀ q, u5.ownBlock = some q → w.heap.size + 1 ≤ q := fun q e => (HT.out.block q e).1
      clear HT hba
      go_wp2_with (at_builtin; (refine wpList_app_tk rfl (.tmp 14) (.tmp 18) rfl (w.heap.size + 1) _ ((rs.take i).map chr) rfl HTA.out (some ⟨wr.heap.size, 0, none⟩) 1 1 [chr r] rfl HTL.out (by omega) (by simp; omega) ?_); intro v' w2 hown' hg' hat)
      have HB2 := Lib.hid (grown_low HBA.out HBA.out.size hg' (fun q e => by have := hown0 q e; omega))
      have HX2 := Lib.hid (grown_at hg' HXA.out (fun e => by have := hown0 _ e; omega))
      have HT2 := Lib.hid (show Tks (w.heap.size + 1) w2 v' ((rs.take (i + 1)).map chr) by rw [HTS.out]; exact hown')
      clear hown' hg' hat
      exact ⟨⟨i + 1, by go_num, by omega, HT2, HB2, HX2⟩, by simp [intOf]; omega⟩
    · have hi1 : i = n := by omega
      have HT1 : Hid (Tks (w.heap.size + 1) wr u5 (rs.map chr)) := Lib.hid (by
        have := HT.out
        rwa [List.take_of_length_le (by omega)] at this)
      clear HT
      go_wp2
      go_ret
      exact ⟨_, rfl, HT1.out.lower (by omega), HB1.out⟩
set_option maxRecDepth 100000 in
theorem text_any (rs : List Int) (A : Option Addr) (n c : Nat) (w : World) (hn : n ≤ 1000) (hr : Row .i32 w A n rs) :
    Calls Try.prog 52 #[.slice A n c] w (TksIs w (rs.map chr)) := by
  have CL := letters_any rs A n c w hn hr
  clear hr
  go_enter Try.func52, Try.ntmps52
  go_wp2_with fail
  refine CL.mono ?_
  rintro e w1 ⟨v, rfl, hv, hb⟩
  have HV := Lib.hid hv
  have HB := Lib.hid hb
  clear hv hb CL
  go_wp2
  go_ret
  exact ⟨_, rfl, HV.out, HB.out⟩
end Go.Proofs.Ytgodphfkhmahnaa.Df
namespace Go.Proofs.Ytgodphfkhmahnaa.Df
open Go.RowKit Mem Sm Tk Rt St
set_option linter.unusedVariables false
set_option linter.unusedSimpArgs false
theorem runes4 (W : World) (a b c d : Int) (t : TypeId) (h : ∀ z ∈ [a, b, c, d], (Lit.int .i32 z).wf = true) : Row .i32 (W.alloc (.cells #[.int .i32 a, .int .i32 b, .int .i32 c, .int .i32 d] t)) (some ⟨W.heap.size, 0, none⟩) 4 [a, b, c, d] := by
  refine ⟨rfl, h, fun _ => ⟨W.heap.size, 0, rfl, fun j hj => ?_⟩⟩
  have hc := heap_alloc_new W (.cells #[.int .i32 a, .int .i32 b, .int .i32 c, .int .i32 d] t)
  unfold World.cell?
  simp only [hc]
  match j, hj with
  | 0, _ => rfl
  | 1, _ => rfl
  | 2, _ => rfl
  | 3, _ => rfl
def L1 : List Tk.Tk := [97, 98, 99, 100].map chr
def L2 : List Tk.Tk := [97, 98, 120, 100].map chr
theorem one_L : oneS L1 L2 = ⟨1, 2, 3, 0, 0, 0, 0, 0⟩ ∧ oneL L1 L2 = [chr 120] ∧ L1 ≠ L2 := by
  refine ⟨by kernel_rfl, by kernel_rfl, ?_⟩
  unfold L1 L2
  simp [chr]
set_option maxRecDepth 100000 in
set_option maxHeartbeats 4000000 in
theorem live_any (w : World) : Calls Try.prog 32 #[] w fun e w' => e = .returned (.bool true) ∧ Below w.heap.size w w' := by
  go_enter Try.func32, Try.ntmps32
  go_wp2_with fail
  refine (text_any [97, 98, 99, 100] (some ⟨w.heap.size, 0, none⟩) 4 4 _ (by omega) (runes4 w 97 98 99 100 _ (by decide))).mono ?_
  rintro e w1 ⟨v1, rfl, hv1, hb1⟩
  have HB1 := Lib.hid (((Below.refl w.heap.size w).alloc (Nat.le_refl _) _).trans (hb1.mono (by simp)))
  have hv1' : Tks _ w1 v1 L1 := hv1
  obtain ⟨A1, c1, rfl, hc1, hr1⟩ := hv1'.row
  have HR1 : Hid (TRow w1 A1 4 L1) := Lib.hid hr1
  have hc1 : 4 ≤ c1 := hc1
  clear hv1 hv1' hb1 hr1
  have hlen1 : L1.length = 4 := rfl
  rw [hlen1]
  clear hlen1
  go_wp2_with fail
  refine (text_any [97, 98, 120, 100] (some ⟨w1.heap.size, 0, none⟩) 4 4 _ (by omega) (runes4 w1 97 98 120 100 _ (by decide))).mono ?_
  rintro e w2 ⟨v2, rfl, hv2, hb2⟩
  have hb12 := ((Below.refl w1.heap.size w1).alloc (Nat.le_refl _) _).trans (hb2.mono (by simp))
  have HB2 := Lib.hid (HB1.out.trans (hb12.mono HB1.out.size))
  have HR12 : Hid (TRow w2 A1 4 L1) := Lib.hid (HR1.out.below hb12)
  have hv2' : Tks _ w2 v2 L2 := hv2
  obtain ⟨A2, c2, rfl, hc2, hr2⟩ := hv2'.row
  have HR2 : Hid (TRow w2 A2 4 L2) := Lib.hid hr2
  have hc2 : 4 ≤ c2 := hc2
  clear hv2 hv2' hb2 hr2 HR1 HB1 hb12
  have hlen2 : L2.length = 4 := rfl
  rw [hlen2]
  clear hlen2
  go_wp2_with fail
  refine (one_any L1 L2 A1 A2 4 4 c1 c2 w2 (by omega) (by omega) hc2 HR12.out HR2.out).mono ?_
  rintro e w3 ⟨h, hb3⟩
  rcases h with ⟨h, _⟩ | ⟨_, v, rfl, hv⟩
  · exact absurd h one_L.2.2
  rw [one_L.1]
  rw [one_L.2.1] at hv
  have HB3 := Lib.hid (HB2.out.trans (hb3.mono HB2.out.size))
  have hws := HB3.out.size
  obtain ⟨A3, c3, rfl, hc3, hr3⟩ := hv.row
  obtain ⟨b, off, rfl, hbs, hcell⟩ := (hr3.alloc (.cells #[.int .i64 1, .int .i64 2, .int .i64 3, .int .i64 0, .int .i64 0, .int .i64 0, .int .i64 0, .int .i64 0, .slice A3 1 c3, .slice none 0 0] 25)).2 (by simp)
  have hch := (hcell 0 (by simp)) 3 (.int .i32 120) rfl
  simp only [Nat.zero_mul, Nat.add_zero] at hch
  have HB4 := Lib.hid (HB3.out.alloc hws (.cells #[.int .i64 1, .int .i64 2, .int .i64 3, .int .i64 0, .int .i64 0, .int .i64 0, .int .i64 0, .int .i64 0, .slice (some ⟨b, off, none⟩) 1 c3, .slice none 0 0] 25))
  have HZ := Lib.hid (heap_alloc_new w3 (.cells #[.int .i64 1, .int .i64 2, .int .i64 3, .int .i64 0, .int .i64 0, .int .i64 0, .int .i64 0, .int .i64 0, .slice (some ⟨b, off, none⟩) 1 c3, .slice none 0 0] 25))
  clear hv hb3 hr3 hcell HB2 HB3 HR12 HR2 hbs
  unfold stV stC
  have hz := tenc HZ.out
  have z0 := hz.1.1
  have z1 := hz.1.2.1
  have z2 := hz.1.2.2.1
  have z3 := hz.1.2.2.2.1
  have z4 := hz.1.2.2.2.2
  have z5 := hz.2.1
  have z6 := hz.2.2.1
  have z7 := hz.2.2.2.1
  have z8 := hz.2.2.2.2.1
  have z9 := hz.2.2.2.2.2
  have hf := froz HZ.out
  have f0 := hf.1
  have f1 := hf.2.1
  have f2 := hf.2.2.1
  have f3 := hf.2.2.2.1
  have f4 := hf.2.2.2.2.1
  have f5 := hf.2.2.2.2.2.1
  have f6 := hf.2.2.2.2.2.2.1
  have f7 := hf.2.2.2.2.2.2.2.1
  have f8 := hf.2.2.2.2.2.2.2.2.1
  have f9 := hf.2.2.2.2.2.2.2.2.2
  clear hz hf
  go_wp2
  go_ret
  exact ⟨rfl, HB4.out⟩
end Go.Proofs.Ytgodphfkhmahnaa.Df
