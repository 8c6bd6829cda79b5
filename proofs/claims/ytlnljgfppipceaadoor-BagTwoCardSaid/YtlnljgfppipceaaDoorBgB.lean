/- Walks of bag: Of. -/
import Derived.Test.YtlnljgfppipceaaDoorBgA
import Derived.Test.YtlnljgfppipceaaDoorMem
import Derived.LoopTactic
namespace Go.Proofs.YtlnljgfppipceaaDoor.Bg
open Go.RowKit Mem
set_option linter.unusedVariables false

/-- a block that holds a bag -/
def At (W : World) (g : Nat) (x : Bag) : Prop := W.heap[g]? = some (.cells #[.int .u64 x.a, .int .u64 x.b, .int .u64 x.c, .int .u64 x.d] 27 (0, 0))
theorem At.lt {W : World} {g : Nat} {x : Bag} (h : At W g x) : g < W.heap.size := (Array.getElem?_eq_some_iff.1 h).1
theorem At.below {W W' : World} {g n : Nat} {x : Bag} (h : At W g x) (hb : Below n W W') (hg : g < n) : At W' g x := by
  unfold At; rw [hb.block g hg]; exact h
theorem At.cell {W : World} {g : Nat} {x : Bag} (h : At W g x) : W.cell? ⟨g, 0, none⟩ = some (.int .u64 x.a) ∧ W.cell? ⟨g, 1, none⟩ = some (.int .u64 x.b) ∧ W.cell? ⟨g, 2, none⟩ = some (.int .u64 x.c) ∧ W.cell? ⟨g, 3, none⟩ = some (.int .u64 x.d) ∧ (∀ j, W.frozen? ⟨g, j, none⟩ = false) := by
  unfold At at h
  refine ⟨?_, ?_, ?_, ?_, fun j => ?_⟩
  all_goals first | (simp [World.cell?, h]; done) | (simp [World.frozen?, h]; done) | (simp [World.frozen?, h]; omega)
theorem At.new (W : World) (x : Bag) : At (W.alloc (.cells #[.int .u64 x.a, .int .u64 x.b, .int .u64 x.c, .int .u64 x.d] 27)) W.heap.size x := heap_alloc_new _ _
theorem At.alloc {W : World} {g : Nat} {x : Bag} (h : At W g x) (o : Obj) : At (W.alloc o) g x := h.below (n := W.heap.size) ((Below.refl _ W).alloc (Nat.le_refl _) o) h.lt

theorem At.store {W : World} {g : Nat} {x : Bag} (h : At W g x) (y : Bag) : At ((((W.setCell ⟨g, 0, none⟩ (.int .u64 y.a)).setCell ⟨g, 1, none⟩ (.int .u64 y.b)).setCell ⟨g, 2, none⟩ (.int .u64 y.c)).setCell ⟨g, 3, none⟩ (.int .u64 y.d)) g y := by
  unfold At at h ⊢
  simp [World.setCell, Array.getElem?_modify, h]
theorem At.other {W : World} {g k : Nat} {x : Bag} (h : At W g x) (hk : g ≠ k) (j : Nat) (v : Value) : At (W.setCell ⟨k, j, none⟩ v) g x := by
  unfold At; rw [Below.heap_setCell _ _ _ _ hk]; exact h

set_option maxRecDepth 100000 in
set_option maxHeartbeats 1000000 in
theorem of_any (A : Option Addr) (n c : Nat) (zs : List Int) (w : World) (hr : Row .i64 w A n zs) (hn : n ≤ 1000000) :
    Calls Tryd.prog 7 #[.slice A n c] w fun e w' => e = .returned (bagV (ofL zs)) ∧ Below w.heap.size w w' := by
  go_enter Tryd.func7, Tryd.ntmps7
  go_wp2
  have hw0 := At.new (w.alloc (.cells #[.int .u64 (0 : Nat), .int .u64 (0 : Nat), .int .u64 (0 : Nat), .int .u64 (0 : Nat)] 27)) nil
  rw [World.size_alloc] at hw0
  have hv0 := At.new w nil
  have hb0 : Below w.heap.size w _ := (((Below.refl _ w).alloc (Nat.le_refl _) (.cells #[.int .u64 (0 : Nat), .int .u64 (0 : Nat), .int .u64 (0 : Nat), .int .u64 (0 : Nat)] 27)).alloc (by simp) (.cells #[.int .u64 (0 : Nat), .int .u64 (0 : Nat), .int .u64 (0 : Nat), .int .u64 (0 : Nat)] 27))
  have HR := Lib.hid hr
  have H0 := Lib.hid hw0
  have HV := Lib.hid hv0
  have HB := Lib.hid hb0
  clear hr hw0 hv0 hb0
  go_loopw [8] (fun i wr => ∃ k : Nat, k ≤ n ∧ i = .int .i64 k ∧ Below w.heap.size w wr ∧ At wr (w.heap.size + 1) (ofL (zs.take k)) ∧ ∃ y, At wr w.heap.size y) (fun i _ => n - (intOf i).toNat)
  case atStart => exact ⟨0, Nat.zero_le _, rfl, HB.out, H0.out, nil, HV.out.alloc _⟩
  case round =>
    obtain ⟨k, hk, rfl, hb, ha, y, hy⟩ := hrel
    have hlt1 := ha.lt
    by_cases hlt : k < n
    · obtain ⟨c0, c1, c2, c3, hf⟩ := ha.cell
      have hf0 := hf 0; have hf1 := hf 1; have hf2 := hf 2; have hf3 := hf 3
      obtain ⟨bb, off, rfl, hbb, hc⟩ := (HR.out.below hb).at_ (show 0 < n by omega)
      have hck := hc k hlt
      have hok := Lib.hid (ofL_ok (zs.take k))
      have HA := Lib.hid ha; have HY := Lib.hid hy; have HB := Lib.hid hb
      clear ha hy hb hc hf
      go_wp2_with (go_at_call 15; refine (with_any (ofL (zs.take k)) hok.out _ _).mono ?_; rintro e w' ⟨rfl, hb1⟩; unfold bagV; have HA1 := Lib.hid (HA.out.below hb1 hlt1); have HB1 := Lib.hid hb1; obtain ⟨d0, d1, d2, d3, df⟩ := HA1.out.cell; have df0 := df 0; have df1 := df 1; have df2 := df 2; have df3 := df 3; clear hb1 df)
      go_roundw
      case rel =>
        have e : ofL (zs.take (k + 1)) = (ofL (zs.take k)).withI (zs[k]?.getD 0) := by
          have hl : k < zs.length := by have := HR.out.1; omega
          rw [List.take_succ_eq_append_getElem hl, ofL_snoc]
          simp [hl]
        refine ⟨k + 1, by omega, by go_num, ?_, ?_, y, ?_⟩
        · exact ((((HB.out.trans (HB1.out.mono HB.out.size)).setCell (by simp) _).setCell (by simp) _).setCell (by simp) _).setCell (by simp) _
        · rw [e]; exact HA1.out.store _
        · exact ((((HY.out.below HB1.out (by omega)).other (by omega) _ _).other (by omega) _ _).other (by omega) _ _).other (by omega) _ _
      case measure => simp [intOf]; omega
    · obtain rfl : k = n := by omega
      obtain ⟨c0, c1, c2, c3, hf⟩ := ha.cell
      obtain ⟨d0, d1, d2, d3, df⟩ := hy.cell
      have df0 := df 0; have df1 := df 1; have df2 := df 2; have df3 := df 3
      have HA := Lib.hid ha; have HY := Lib.hid hy; have HB := Lib.hid hb
      clear ha hy hb hf df
      go_wp2
      have e : zs.take k = zs := List.take_of_length_le (by have := HR.out.1; omega)
      have hs := HY.out.store (ofL (zs.take k))
      obtain ⟨s0, s1, s2, s3, _⟩ := hs.cell
      rw [e] at s0 s1 s2 s3
      refine bodyPost_ret (v := .agg #[.int .u64 (ofL zs).a, .int .u64 (ofL zs).b, .int .u64 (ofL zs).c, .int .u64 (ofL zs).d]) ?_ rfl ⟨rfl, ?_⟩
      · rw [e]; simp [results, Tryd.results7, go_sem, s0, s1, s2, s3]
      · exact ((((HB.out).setCell (by simp) _).setCell (by simp) _).setCell (by simp) _).setCell (by simp) _
end Go.Proofs.YtlnljgfppipceaaDoor.Bg
