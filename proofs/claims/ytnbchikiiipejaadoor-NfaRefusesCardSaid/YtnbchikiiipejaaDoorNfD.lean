/- Walks of nfa: often, lay. Walks of nfa: Places, First, Ends, at, Behind. A row of pieces in memory, nine cells each; walk of either. Walk of nfa: either. -/
import Derived.Test.YtnbchikiiipejaaDoorNfMem
import Derived.Test.YtnbchikiiipejaaDoorNbEq
import Derived.Deep.AppendLies
import Derived.Deep.RegionLaw
import Derived.LoopTactic
namespace Go.Proofs.YtnbchikiiipejaaDoor.Nf
open Go.RowKit Mem
open Bg (Bag bagV)
open Ex (Pt)
set_option linter.unusedVariables false

example : (Tryd.prog.info? 73).map (fun i => (i.zero, i.size, i.bytes)) = some (some (.agg #[.int .u64 0, .int .u64 0, .int .u64 0, .int .u64 0, .int .u64 0, .int .u64 0, .int .u64 0, .int .u64 0]), 8, 64) := by kernel_rfl

def oftenI (k lo hi : Int) : Nat := if k = 4 then (if hi < 0 then max lo.toNat 1 else hi.toNat) else 1
theorem often_ints (k lo hi : Int) (nm : ByteArray) (kv : Value) (w : World) : Calls Tryd.prog 32 #[.agg #[.int .i64 k, .int .i64 lo, .int .i64 hi, .string nm, kv]] w fun e w' => e = .returned (.int .i64 (oftenI k lo hi : Nat)) ∧ Below w.heap.size w w' := by
  have hb : Below w.heap.size w (w.alloc (.cells #[.int .i64 k, .int .i64 lo, .int .i64 hi, .string nm, kv] 29)) := (Below.refl _ w).alloc (Nat.le_refl _) _
  have HB := Lib.hid hb
  clear hb
  by_cases h4 : k = 4
  · subst h4
    by_cases hh : hi < 0
    · go_enter Tryd.func32, Tryd.ntmps32
      go_wp2
      all_goals
        go_ret
        refine ⟨?_, HB.out⟩
        simp [oftenI, hh, go_sem]
        omega
    · go_enter Tryd.func32, Tryd.ntmps32
      go_wp2
      go_ret
      refine ⟨?_, HB.out⟩
      simp [oftenI, go_sem]
      rw [if_neg (by omega)]; omega
  · have e4 : (k != 4) = true := by simp [h4]
    go_enter Tryd.func32, Tryd.ntmps32
    go_wp2
    go_ret
    refine ⟨?_, HB.out⟩
    simp [oftenI, if_neg h4]
theorem often_any (p : Pt) (kv : Value) (w : World) : Calls Tryd.prog 32 #[.agg #[.int .i64 p.kind, .int .i64 p.low, .int .i64 p.high, .string ⟨p.name.toArray⟩, kv]] w fun e w' => e = .returned (.int .i64 (often p : Nat)) ∧ Below w.heap.size w w' := often_ints _ _ _ _ _ w

theorem Ent.form {base : Nat} {W : World} {v : Value} {l : List En} (h : Ent base W v l) : ∃ A c, v = .slice A l.length c := by
  rcases h.2 with ⟨hv, h0⟩ | ⟨g, cap, cur, hv, _⟩
  · exact ⟨none, 0, by rw [hv, h0]⟩
  · exact ⟨_, _, hv⟩
/-- a piece as a value -/
def pcV (p : Pc) : Value := .agg #[.bool p.em, .int .u64 p.first.a, .int .u64 p.first.b, .int .u64 p.first.c, .int .u64 p.first.d, .int .u64 p.ends.a, .int .u64 p.ends.b, .int .u64 p.ends.c, .int .u64 p.ends.d]
def PAt (W : World) (g : Nat) (p : Pc) : Prop := W.heap[g]? = some (.cells #[.bool p.em, .int .u64 p.first.a, .int .u64 p.first.b, .int .u64 p.first.c, .int .u64 p.first.d, .int .u64 p.ends.a, .int .u64 p.ends.b, .int .u64 p.ends.c, .int .u64 p.ends.d] 51 (0, 0))
section
variable {W W' : World} {g : Nat} {p : Pc}
theorem PAt.lt (h : PAt W g p) : g < W.heap.size := lt_of_some h
theorem PAt.below (h : PAt W g p) {n : Nat} (hb : Below n W W') (hg : g < n) : PAt W' g p := by
  unfold PAt; rw [hb.block g hg]; exact h
theorem PAt.new (W : World) (p : Pc) : PAt (W.alloc (.cells #[.bool p.em, .int .u64 p.first.a, .int .u64 p.first.b, .int .u64 p.first.c, .int .u64 p.first.d, .int .u64 p.ends.a, .int .u64 p.ends.b, .int .u64 p.ends.c, .int .u64 p.ends.d] 51)) W.heap.size p := heap_alloc_new _ _
theorem PAt.alloc (h : PAt W g p) (o : Obj) : PAt (W.alloc o) g p := h.below (n := W.heap.size) ((Below.refl _ W).alloc (Nat.le_refl _) o) h.lt
theorem PAt.free (h : PAt W g p) (j : Nat) : W.frozen? ⟨g, j, none⟩ = false := by
  unfold PAt at h
  first | (simp [World.frozen?, h]; done) | (simp [World.frozen?, h]; omega)
theorem PAt.cell (h : PAt W g p) : W.cell? ⟨g, 0, none⟩ = some (.bool p.em) ∧
    (W.cell? ⟨g, 1, none⟩ = some (.int .u64 p.first.a) ∧ W.cell? ⟨g, 2, none⟩ = some (.int .u64 p.first.b) ∧ W.cell? ⟨g, 3, none⟩ = some (.int .u64 p.first.c) ∧ W.cell? ⟨g, 4, none⟩ = some (.int .u64 p.first.d)) ∧
    (W.cell? ⟨g, 5, none⟩ = some (.int .u64 p.ends.a) ∧ W.cell? ⟨g, 6, none⟩ = some (.int .u64 p.ends.b) ∧ W.cell? ⟨g, 7, none⟩ = some (.int .u64 p.ends.c) ∧ W.cell? ⟨g, 8, none⟩ = some (.int .u64 p.ends.d)) := by
  unfold PAt at h
  refine ⟨?_, ⟨?_, ?_, ?_, ?_⟩, ?_, ?_, ?_, ?_⟩
  all_goals simp [World.cell?, h]
end
theorem NBox.drew {W : World} {N : Nat} {v : Value} {p : Pc} (h : NBox W N v p) : NBox W.drew N v p := h
theorem PAt.drew {W : World} {g : Nat} {p : Pc} (h : PAt W g p) : PAt W.drew g p := h
theorem At_drew {W : World} {g : Nat} {x : Bag} (h : Bg.At W g x) : Bg.At W.drew g x := h
theorem PAt.store {W : World} {g : Nat} {p : Pc} (h : PAt W g p) (q : Pc) : PAt (((((((((W.setCell ⟨g, 0, none⟩ (.bool q.em)).setCell ⟨g, 1, none⟩ (.int .u64 q.first.a)).setCell ⟨g, 2, none⟩ (.int .u64 q.first.b)).setCell ⟨g, 3, none⟩ (.int .u64 q.first.c)).setCell ⟨g, 4, none⟩ (.int .u64 q.first.d)).setCell ⟨g, 5, none⟩ (.int .u64 q.ends.a)).setCell ⟨g, 6, none⟩ (.int .u64 q.ends.b)).setCell ⟨g, 7, none⟩ (.int .u64 q.ends.c)).setCell ⟨g, 8, none⟩ (.int .u64 q.ends.d)) g q := by
  unfold PAt at h ⊢
  simp [World.setCell, Array.getElem?_modify, h]
theorem PAt.other {W : World} {g : Nat} {p : Pc} (h : PAt W g p) {b : Nat} (hne : g ≠ b) (j : Nat) (u : Value) : PAt (W.setCell ⟨b, j, none⟩ u) g p := by
  unfold PAt; rw [Below.heap_setCell _ _ _ _ hne]; exact h
theorem PAt.kept {W W' : World} {g : Nat} {p : Pc} {row : Option Nat} (h : PAt W g p) (hg : W.grownBy W' row) (hne : some g ≠ row) : PAt W' g p := by
  unfold PAt; rw [hg.block g h.lt (fun e => hne e)]; exact h
theorem At_kept {W W' : World} {g : Nat} {x : Bag} {row : Option Nat} (h : Bg.At W g x) (hg : W.grownBy W' row) (hne : some g ≠ row) : Bg.At W' g x := by
  unfold Bg.At; rw [hg.block g h.lt (fun e => hne e)]; exact h
theorem NFrame.setNew {base N : Nat} {W W' : World} (a : NFrame base N W W') {g : Nat} (hg : W.heap.size ≤ g) (j : Nat) (u : Value) : NFrame base N W (W'.setCell ⟨g, j, none⟩ u) :=
  ⟨a.os, a.tape, a.output, by simpa using a.size, fun k hk hs => (Below.heap_setCell W' ⟨g, j, none⟩ u k (by simp only; omega)).trans (a.low k hk hs), fun k o h1 h2 h3 => (Below.heap_setCell W' ⟨g, j, none⟩ u k (by have := lt_of_some h1; simp only; omega)).trans (a.other k o h1 h2 h3)⟩
theorem info_en : (Tryd.prog.info? 73).map (fun i => (i.zero, i.size, i.bytes)) = some (some (.agg #[.int .u64 0, .int .u64 0, .int .u64 0, .int .u64 0, .int .u64 0, .int .u64 0, .int .u64 0, .int .u64 0]), 8, 64) := by kernel_rfl
theorem of_place (n : Nat) (h : n < 256) : Bg.ofL [(n : Int)] = Bg.nil.withN n := by
  have : (n : Int) < 256 := by omega
  simp [Bg.ofL, Bag.withI, Bg.inB, this]

set_option maxRecDepth 100000 in
set_option maxHeartbeats 2000000 in
theorem lay_any {base : Nat} (N : Nat) (l : List En) (p0 : Pc) (on : Bag) (w : World) (h : NS base N w l p0) (hb : base ≤ N) (hl : l.length < 256) :
    Calls Tryd.prog 33 #[.pointer (some ⟨N, 0, none⟩), bagV on] w fun e w' => e = .returned (pcV (lay on l).1) ∧ NS base N w' (lay on l).2 p0 ∧ NFrame base N w w' := by
  obtain ⟨v, hbx, hen, hne⟩ := h
  obtain ⟨A, c, rfl⟩ := hen.form
  have hNs := hbx.lt
  have hbase : base ≤ w.heap.size := by omega
  have c0 := hbx.cell.1
  have HX := Lib.hid hbx
  have HE := Lib.hid hen
  have HNE := Lib.hid hne
  have hr0 : Row .i64 (((w.alloc (.cells #[.int .u64 on.a, .int .u64 on.b, .int .u64 on.c, .int .u64 on.d] 33)).alloc (.cells #[.bool false, .int .u64 0, .int .u64 0, .int .u64 0, .int .u64 0, .int .u64 0, .int .u64 0, .int .u64 0, .int .u64 0] 51)).alloc (.cells #[.int .i64 (l.length : Int)] 3)) (some ⟨w.heap.size + 1 + 1, 0, none⟩) 1 [(l.length : Int)] := by
    have hwf : ∀ z ∈ [(l.length : Int)], (Lit.int .i64 z).wf = true := by
      intro z hz
      simp only [List.mem_singleton] at hz
      rw [hz]; exact WalkArith.wf_i64 (by omega)
    have := row_block (heap_alloc_new ((w.alloc (.cells #[.int .u64 on.a, .int .u64 on.b, .int .u64 on.c, .int .u64 on.d] 33)).alloc (.cells #[.bool false, .int .u64 0, .int .u64 0, .int .u64 0, .int .u64 0, .int .u64 0, .int .u64 0, .int .u64 0, .int .u64 0] 51)) (.cells #[.int .i64 (l.length : Int)] 3)) [(l.length : Int)] rfl 1 rfl hwf
    rw [World.size_alloc, World.size_alloc] at this
    exact this
  have HR := Lib.hid hr0
  clear hbx hen hne hr0
  unfold bagV
  go_enter Tryd.func33, Tryd.ntmps33
  go_wp2_with fail
  refine (Bg.of_any _ 1 1 [(l.length : Int)] _ HR.out (by omega)).mono ?_
  rintro e w1 ⟨rfl, hb1⟩
  rw [of_place _ hl]
  have hbw : Below w.heap.size w w1 := ((((Below.refl _ w).alloc (Nat.le_refl _) _).alloc (by simp) _).alloc (by simp; omega) _).trans (hb1.mono (by simp; omega))
  have hs1 : w.heap.size + 1 + 1 + 1 ≤ w1.heap.size := by have := hb1.size; simpa using this
  have hA1 : Bg.At w1 w.heap.size on := (((Bg.At.new w on).alloc _).alloc _).below hb1 (by simp; omega)
  have hP1 : PAt w1 (w.heap.size + 1) ⟨false, Bg.nil, Bg.nil⟩ := by
    have h1 := PAt.new (w.alloc (.cells #[.int .u64 on.a, .int .u64 on.b, .int .u64 on.c, .int .u64 on.d] 33)) ⟨false, Bg.nil, Bg.nil⟩
    rw [World.size_alloc] at h1
    exact (h1.alloc (.cells #[.int .i64 (l.length : Int)] 3)).below hb1 (by simp)
  have hX1 := HX.out.below hbw hNs
  have hE1 := HE.out.belowAll hbw
  have HB1 := Lib.hid hbw
  have HA1 := Lib.hid hA1
  have HP1 := Lib.hid hP1
  have HX1 := Lib.hid hX1
  have HE1 := Lib.hid hE1
  clear hbw hA1 hP1 hX1 hE1 hb1
  obtain ⟨hr, hhr⟩ : ∃ hr, Bg.nil.withN l.length = hr := ⟨_, rfl⟩
  rw [hhr]
  unfold bagV
  obtain ⟨i0, hi, hz, hz1, hz2⟩ := info_parts info_en
  have d0 := HX1.out.cell.1
  have dlt := HX1.out.lt
  have df := HX1.out.free 0
  obtain ⟨a0, a1, a2, a3, _⟩ := HA1.out.cell
  have hlt0 : w.heap.size < w1.heap.size := by omega
  have ho := ((HE1.out.alloc (.cells #[.int .u64 hr.a, .int .u64 hr.b, .int .u64 hr.c, .int .u64 hr.d] 33)).drew.alloc (.cells #[.int .u64 on.a, .int .u64 on.b, .int .u64 on.c, .int .u64 on.d, .int .u64 0, .int .u64 0, .int .u64 0, .int .u64 0] 73))
  have HO := Lib.hid ho
  have hnews : ∀ j u, (ecells ⟨on, Bg.nil⟩)[j]? = some u → (((w1.alloc (.cells #[.int .u64 hr.a, .int .u64 hr.b, .int .u64 hr.c, .int .u64 hr.d] 33)).drew).alloc (.cells #[.int .u64 on.a, .int .u64 on.b, .int .u64 on.c, .int .u64 on.d, .int .u64 0, .int .u64 0, .int .u64 0, .int .u64 0] 73)).cell? ((⟨((w1.alloc (.cells #[.int .u64 hr.a, .int .u64 hr.b, .int .u64 hr.c, .int .u64 hr.d] 33)).drew).heap.size, 0, none⟩ : Addr).add j) = some u := World.news_of_block (heap_alloc_new ((w1.alloc (.cells #[.int .u64 hr.a, .int .u64 hr.b, .int .u64 hr.c, .int .u64 hr.d] 33)).drew) (.cells #[.int .u64 on.a, .int .u64 on.b, .int .u64 on.c, .int .u64 on.d, .int .u64 0, .int .u64 0, .int .u64 0, .int .u64 0] 73))
  have HN := Lib.hid hnews
  clear ho hnews
  go_wp2
  go_region_law (refine step_append_lies _ (by rfl) (.tmp 17) (.tmp 20) 52 (by rfl) base 73 i0 (.agg #[.int .u64 0, .int .u64 0, .int .u64 0, .int .u64 0, .int .u64 0, .int .u64 0, .int .u64 0, .int .u64 0]) 8 64 Tryd.underlying52 hi hz hz1 hz2 rfl (by omega) (.slice A l.length c) l.length (cells8 l) (by simp [Act.eval]) HO.out _ 1 1 (ecells ⟨on, Bg.nil⟩) (by simp [Act.eval]) rfl HN.out (by simp [ecells, Value.oneCell']) (by omega) (by unfold maxLen; omega) (by omega) (by simp; omega) _ rfl ?_; intro gg cap w2 hown1 hgrow hat hlt; have hq1 := Lib.hid (((HX1.out.alloc (.cells #[.int .u64 hr.a, .int .u64 hr.b, .int .u64 hr.c, .int .u64 hr.d] 33)).drew.alloc (.cells #[.int .u64 on.a, .int .u64 on.b, .int .u64 on.c, .int .u64 on.d, .int .u64 0, .int .u64 0, .int .u64 0, .int .u64 0] 73)).kept hgrow HNE.out); have hc1 := hq1.out.cell.1; have hf1 := hq1.out.free 0)
  all_goals
    have hob : ∀ g, (Value.slice A l.length c).ownBlock = some g → g < w.heap.size := fun g hg => (HE.out.block g hg).2.1
    have hsz2 : (((w1.alloc (.cells #[.int .u64 hr.a, .int .u64 hr.b, .int .u64 hr.c, .int .u64 hr.d] 33)).drew.alloc (.cells #[.int .u64 on.a, .int .u64 on.b, .int .u64 on.c, .int .u64 on.d, .int .u64 0, .int .u64 0, .int .u64 0, .int .u64 0] 73))).heap.size = w1.heap.size + 1 + 1 := by simp
    have hgg : gg < w.heap.size ∨ w1.heap.size + 1 + 1 ≤ gg := by
      rcases hat with e | e
      · exact .inl (hob gg e)
      · right; simp at e; omega
    have hgN : N ≠ gg := by
      rcases hat with e | e
      · intro e2; exact HNE.out (by rw [e, e2])
      · simp at e; omega
    have hE2 : Ent base w2 (.slice (some ⟨gg, 0, none⟩) (l.length + 1) cap) (l ++ [⟨on, Bg.nil⟩]) := by
      unfold Ent
      rw [cells8_append, List.length_append]
      exact hown1
    have hA2 := At_kept (At_drew (Bg.At.new w1 hr) |>.alloc (.cells #[.int .u64 on.a, .int .u64 on.b, .int .u64 on.c, .int .u64 on.d, .int .u64 0, .int .u64 0, .int .u64 0, .int .u64 0] 73)) hgrow (fun e => by have := hob _ e.symm; omega)
    have hP2 := (((HP1.out.alloc (.cells #[.int .u64 hr.a, .int .u64 hr.b, .int .u64 hr.c, .int .u64 hr.d] 33)).drew.alloc (.cells #[.int .u64 on.a, .int .u64 on.b, .int .u64 on.c, .int .u64 on.d, .int .u64 0, .int .u64 0, .int .u64 0, .int .u64 0] 73))).kept hgrow (fun e => by have := hob _ e.symm; omega)
    have hF2 : NFrame base N w w2 := (((NFrame.of_below HB1.out).trans (NFrame.alloc _)).drew.trans (NFrame.alloc _)).trans (NFrame.of_grown HO.out hgrow)
    have hA3 := hA2.other (k := N) (by omega) 0 (.slice (some ⟨gg, 0, none⟩) (l.length + 1) cap)
    have hP3 := hP2.other (b := N) (by omega) 0 (.slice (some ⟨gg, 0, none⟩) (l.length + 1) cap)
    have HX3 := Lib.hid (hq1.out.set0 (.slice (some ⟨gg, 0, none⟩) (l.length + 1) cap))
    have HE3 := Lib.hid (hE2.other (b := N) (by simp [Value.ownBlock]; omega) 0 (.slice (some ⟨gg, 0, none⟩) (l.length + 1) cap))
    have HF3 := Lib.hid (hF2.trans (NFrame.setOwn hb 0 (.slice (some ⟨gg, 0, none⟩) (l.length + 1) cap)))
    obtain ⟨b0, b1, b2, b3, _⟩ := hA3.cell
    obtain ⟨k0, ⟨k1, k2, k3, k4⟩, k5, k6, k7, k8⟩ := hP3.cell
    have f0 := hP3.free 0
    have f1 := hP3.free 1
    have f2 := hP3.free 2
    have f3 := hP3.free 3
    have f4 := hP3.free 4
    have f5 := hP3.free 5
    have f6 := hP3.free 6
    have f7 := hP3.free 7
    have f8 := hP3.free 8
    have HP3 := Lib.hid hP3
    have hsz3 := hP3.lt
    clear hE2 hA2 hP2 hF2 hA3 hP3 hown1 hgrow hc1 hf1 hq1 hat
    generalize w2.setCell ⟨N, 0, none⟩ (.slice (some ⟨gg, 0, none⟩) (l.length + 1) cap) = w3 at b0 b1 b2 b3 k0 k1 k2 k3 k4 k5 k6 k7 k8 f0 f1 f2 f3 f4 f5 f6 f7 f8 HP3 HX3 HE3 HF3 hsz3 ⊢
    go_wp2
    have hs := HP3.out.store ⟨false, hr, hr⟩
    have hle : (lay on l) = (⟨false, hr, hr⟩, l ++ [⟨on, Bg.nil⟩]) := by unfold lay; rw [hhr]
    have hgP : gg ≠ w.heap.size + 1 := by omega
    obtain ⟨m0, ⟨m1, m2, m3, m4⟩, m5, m6, m7, m8⟩ := hs.cell
    refine bodyPost_ret (v := pcV ⟨false, hr, hr⟩) ?_ rfl ⟨by rw [hle], ?_, ?_⟩
    · simp [pcV, results, Tryd.results33, go_sem, m0, m1, m2, m3, m4, m5, m6, m7, m8]
    · rw [hle]
      refine ⟨.slice (some ⟨gg, 0, none⟩) (l.length + 1) cap, ?_, ?_, by simp [Value.ownBlock]; omega⟩
      · exact ((((((((HX3.out.other (by omega) _ _).other (by omega) _ _).other (by omega) _ _).other (by omega) _ _).other (by omega) _ _).other (by omega) _ _).other (by omega) _ _).other (by omega) _ _).other (by omega) _ _
      · have hn : (Value.slice (some ⟨gg, 0, none⟩) (l.length + 1) cap).ownBlock ≠ some (w.heap.size + 1) := by simp [Value.ownBlock]; omega
        exact ((((((((HE3.out.other hn _ _).other hn _ _).other hn _ _).other hn _ _).other hn _ _).other hn _ _).other hn _ _).other hn _ _).other hn _ _
    · exact ((((((((HF3.out.setNew (by omega) _ _).setNew (by omega) _ _).setNew (by omega) _ _).setNew (by omega) _ _).setNew (by omega) _ _).setNew (by omega) _ _).setNew (by omega) _ _).setNew (by omega) _ _).setNew (by omega) _ _
end Go.Proofs.YtnbchikiiipejaaDoor.Nf
namespace Go.Proofs.YtnbchikiiipejaaDoor.Nf
open Go.RowKit Mem
open Bg (Bag bagV)
set_option linter.unusedVariables false

/-- what is told of a place, if there is one -/
def atE (l : List En) (i : Int) : En := if 0 ≤ i then l.getD i.toNat ⟨Bg.nil, Bg.nil⟩ else ⟨Bg.nil, Bg.nil⟩
variable {base : Nat}

theorem places_any (N : Nat) (l : List En) (p : Pc) (w : World) (h : NS base N w l p) :
    Calls Tryd.prog 12 #[.pointer (some ⟨N, 0, none⟩)] w fun e w' => e = .returned (.int .i64 (l.length : Int)) ∧ w = w' := by
  obtain ⟨v, hbx, hen, hne⟩ := h
  obtain ⟨A, c, rfl⟩ := hen.form
  have c0 := hbx.cell.1
  clear hbx hen hne
  go_enter Tryd.func12, Tryd.ntmps12
  go_wp2
  go_ret
  exact ⟨rfl, rfl⟩

set_option maxRecDepth 100000 in
set_option maxHeartbeats 1000000 in
theorem first_any (N : Nat) (l : List En) (p : Pc) (w : World) (h : NS base N w l p) :
    Calls Tryd.prog 13 #[.pointer (some ⟨N, 0, none⟩)] w fun e w' => e = .returned (bagV p.first) ∧ Below w.heap.size w w' := by
  obtain ⟨v, hbx, hen, hne⟩ := h
  obtain ⟨_, _, ⟨c2, c3, c4, c5⟩, _⟩ := hbx.cell
  have hlt := hbx.lt
  have HV := Lib.hid (Bg.At.new w Bg.nil)
  have HB := Lib.hid ((Below.refl _ w).alloc (Nat.le_refl _) (.cells #[.int .u64 0, .int .u64 0, .int .u64 0, .int .u64 0] 33))
  clear hbx hen hne
  go_enter Tryd.func13, Tryd.ntmps13
  go_wp2
  refine bodyPost_ret (v := bagV p.first) ?_ rfl ⟨rfl, ?_⟩
  · simp [bagV, results, Tryd.results13, go_sem]
  · exact (Below.refl _ w).alloc (Nat.le_refl _) _

set_option maxRecDepth 100000 in
set_option maxHeartbeats 1000000 in
theorem ends_any (N : Nat) (l : List En) (p : Pc) (w : World) (h : NS base N w l p) :
    Calls Tryd.prog 14 #[.pointer (some ⟨N, 0, none⟩)] w fun e w' => e = .returned (bagV p.ends) ∧ Below w.heap.size w w' := by
  obtain ⟨v, hbx, hen, hne⟩ := h
  obtain ⟨_, _, _, c2, c3, c4, c5⟩ := hbx.cell
  have hlt := hbx.lt
  have HV := Lib.hid (Bg.At.new w Bg.nil)
  have HB := Lib.hid ((Below.refl _ w).alloc (Nat.le_refl _) (.cells #[.int .u64 0, .int .u64 0, .int .u64 0, .int .u64 0] 33))
  clear hbx hen hne
  go_enter Tryd.func14, Tryd.ntmps14
  go_wp2
  refine bodyPost_ret (v := bagV p.ends) ?_ rfl ⟨rfl, ?_⟩
  · simp [bagV, results, Tryd.results14, go_sem]
  · exact (Below.refl _ w).alloc (Nat.le_refl _) _

def enV (x : En) : Value := .agg #[.int .u64 x.on.a, .int .u64 x.on.b, .int .u64 x.on.c, .int .u64 x.on.d, .int .u64 x.behind.a, .int .u64 x.behind.b, .int .u64 x.behind.c, .int .u64 x.behind.d]
/-- a block that holds what is told of a place -/
def EAt (W : World) (g : Nat) (x : En) : Prop := W.heap[g]? = some (.cells #[.int .u64 x.on.a, .int .u64 x.on.b, .int .u64 x.on.c, .int .u64 x.on.d, .int .u64 x.behind.a, .int .u64 x.behind.b, .int .u64 x.behind.c, .int .u64 x.behind.d] 73 (0, 0))
theorem EAt.new (W : World) (x : En) : EAt (W.alloc (.cells #[.int .u64 x.on.a, .int .u64 x.on.b, .int .u64 x.on.c, .int .u64 x.on.d, .int .u64 x.behind.a, .int .u64 x.behind.b, .int .u64 x.behind.c, .int .u64 x.behind.d] 73)) W.heap.size x := heap_alloc_new _ _
theorem EAt.cell {W : World} {g : Nat} {x : En} (h : EAt W g x) :
    (W.cell? ⟨g, 0, none⟩ = some (.int .u64 x.on.a) ∧ W.cell? ⟨g, 1, none⟩ = some (.int .u64 x.on.b) ∧ W.cell? ⟨g, 2, none⟩ = some (.int .u64 x.on.c) ∧ W.cell? ⟨g, 3, none⟩ = some (.int .u64 x.on.d)) ∧
    (W.cell? ⟨g, 4, none⟩ = some (.int .u64 x.behind.a) ∧ W.cell? ⟨g, 5, none⟩ = some (.int .u64 x.behind.b) ∧ W.cell? ⟨g, 6, none⟩ = some (.int .u64 x.behind.c) ∧ W.cell? ⟨g, 7, none⟩ = some (.int .u64 x.behind.d)) := by
  unfold EAt at h
  refine ⟨⟨?_, ?_, ?_, ?_⟩, ?_, ?_, ?_, ?_⟩
  all_goals simp [World.cell?, h]
theorem EAt.store {W : World} {g : Nat} {x : En} (h : EAt W g x) (y : En) : EAt ((((((((W.setCell ⟨g, 0, none⟩ (.int .u64 y.on.a)).setCell ⟨g, 1, none⟩ (.int .u64 y.on.b)).setCell ⟨g, 2, none⟩ (.int .u64 y.on.c)).setCell ⟨g, 3, none⟩ (.int .u64 y.on.d)).setCell ⟨g, 4, none⟩ (.int .u64 y.behind.a)).setCell ⟨g, 5, none⟩ (.int .u64 y.behind.b)).setCell ⟨g, 6, none⟩ (.int .u64 y.behind.c)).setCell ⟨g, 7, none⟩ (.int .u64 y.behind.d)) g y := by
  unfold EAt at h ⊢
  simp [World.setCell, Array.getElem?_modify, h]

set_option maxRecDepth 100000 in
set_option maxHeartbeats 2000000 in
theorem at_any (N : Nat) (l : List En) (p : Pc) (i : Int) (w : World) (h : NS base N w l p) :
    Calls Tryd.prog 27 #[.pointer (some ⟨N, 0, none⟩), .int .i64 i] w fun e w' => e = .returned (enV (atE l i)) ∧ Below w.heap.size w w' := by
  have hb0 := (Below.refl _ w).alloc (Nat.le_refl _) (.cells #[.int .u64 0, .int .u64 0, .int .u64 0, .int .u64 0, .int .u64 0, .int .u64 0, .int .u64 0, .int .u64 0] 73)
  have HB := Lib.hid hb0
  have HS := Lib.hid (h.belowAll hb0)
  obtain ⟨v, hbx, hen, hne⟩ := h
  have c0 := hbx.cell.1
  have hlt := hbx.lt
  have HE := Lib.hid hen
  clear hbx hen hne hb0
  by_cases hi : i < 0
  · go_enter Tryd.func27, Tryd.ntmps27
    go_wp2
    have e : atE l i = ⟨Bg.nil, Bg.nil⟩ := by unfold atE; rw [if_neg (by omega)]
    refine bodyPost_ret (v := enV ⟨Bg.nil, Bg.nil⟩) ?_ rfl ⟨by rw [e], (Below.refl _ w).alloc (Nat.le_refl _) _⟩
    exact (by simp [enV, results, Tryd.results27, go_sem, Bg.nil])
  · by_cases hl : i < (l.length : Int)
    · obtain ⟨k, rfl⟩ : ∃ k : Nat, i = k := ⟨i.toNat, by omega⟩
      have hk : k < l.length := by omega
      obtain ⟨g, cap, rfl, hbg, hg, hcap, hcm, hfr, hcs⟩ := HE.out.opn (by omega)
      obtain ⟨⟨q0, q1, q2, q3⟩, q4, q5, q6, q7⟩ := hcs k hk
      have e : atE l (k : Int) = l[k] := by unfold atE; rw [if_pos (by omega)]; simp [hk]
      generalize l[k] = x at *
      clear hcs
      go_enter Tryd.func27, Tryd.ntmps27
      go_wp2_with (go_at_call 12; refine (places_any N l p _ HS.out).mono ?_; rintro e w' ⟨rfl, rfl⟩)
      refine bodyPost_ret (v := enV x) ?_ rfl ⟨by rw [e], (Below.refl _ w).alloc (Nat.le_refl _) _⟩
      simp [enV, results, Tryd.results27, go_sem]
    · go_enter Tryd.func27, Tryd.ntmps27
      go_wp2_with (go_at_call 12; refine (places_any N l p _ HS.out).mono ?_; rintro e w' ⟨rfl, rfl⟩)
      have e : atE l i = ⟨Bg.nil, Bg.nil⟩ := by
        unfold atE; rw [if_pos (by omega)]
        have : l.length ≤ i.toNat := by omega
        simp [List.getD, List.getElem?_eq_none this]
      refine bodyPost_ret (v := enV ⟨Bg.nil, Bg.nil⟩) ?_ rfl ⟨by rw [e], (Below.refl _ w).alloc (Nat.le_refl _) _⟩
      exact (by simp [enV, results, Tryd.results27, go_sem, Bg.nil])

theorem fld_behind (a b c d p q r t : Int) (w : World) : (Instr.field 73 (.agg #[.int .u64 a, .int .u64 b, .int .u64 c, .int .u64 d, .int .u64 p, .int .u64 q, .int .u64 r, .int .u64 t]) 1).run Tryd.prog w = .ok (.agg #[.int .u64 p, .int .u64 q, .int .u64 r, .int .u64 t]) w := by kernel_rfl

set_option maxRecDepth 100000 in
set_option maxHeartbeats 1000000 in
theorem behind_any (N : Nat) (l : List En) (p : Pc) (i : Int) (w : World) (h : NS base N w l p) :
    Calls Tryd.prog 15 #[.pointer (some ⟨N, 0, none⟩), .int .i64 i] w fun e w' => e = .returned (bagV (atE l i).behind) ∧ Below w.heap.size w w' := by
  have hb0 := (Below.refl _ w).alloc (Nat.le_refl _) (.cells #[.int .u64 0, .int .u64 0, .int .u64 0, .int .u64 0] 33)
  have HV := Lib.hid (Bg.At.new w Bg.nil)
  have HB := Lib.hid hb0
  have HS := Lib.hid (h.belowAll hb0)
  clear h hb0
  go_enter Tryd.func15, Tryd.ntmps15
  obtain ⟨x, hx⟩ : ∃ x, atE l i = x := ⟨_, rfl⟩
  have hfl := fld_behind x.on.a x.on.b x.on.c x.on.d x.behind.a x.behind.b x.behind.c x.behind.d
  go_wp2_with (go_at_call 27; refine (at_any N l p i _ HS.out).mono ?_; rw [hx]; unfold enV; rintro e w1 ⟨rfl, hb1⟩; have HA := Lib.hid (HV.out.below hb1 (by simp)); have HB1 := Lib.hid (HB.out.trans (hb1.mono (by simp))); obtain ⟨d0, d1, d2, d3, hf⟩ := HA.out.cell; have f0 := hf 0; have f1 := hf 1; have f2 := hf 2; have f3 := hf 3; clear hb1 hf)
  have hs := HA.out.store x.behind
  obtain ⟨s0, s1, s2, s3, _⟩ := hs.cell
  refine bodyPost_ret (v := bagV x.behind) ?_ rfl ⟨by rw [hx], ?_⟩
  · simp [bagV, results, Tryd.results15, go_sem, s0, s1, s2, s3]
  · exact ((((HB1.out).setCell (Nat.le_refl _) _).setCell (Nat.le_refl _) _).setCell (Nat.le_refl _) _).setCell (Nat.le_refl _) _
end Go.Proofs.YtnbchikiiipejaaDoor.Nf
namespace Go.Proofs.YtnbchikiiipejaaDoor.Nf
open Go.RowKit Mem
open Bg (Bag bagV)
set_option linter.unusedVariables false

def pccells (x : Pc) : List Value := [.bool x.em, .int .u64 x.first.a, .int .u64 x.first.b, .int .u64 x.first.c, .int .u64 x.first.d, .int .u64 x.ends.a, .int .u64 x.ends.b, .int .u64 x.ends.c, .int .u64 x.ends.d]
def cells9 (l : List Pc) : List Value := l.flatMap pccells
theorem cells9_cons (a : Pc) (l : List Pc) : cells9 (a :: l) = .bool a.em :: .int .u64 a.first.a :: .int .u64 a.first.b :: .int .u64 a.first.c :: .int .u64 a.first.d :: .int .u64 a.ends.a :: .int .u64 a.ends.b :: .int .u64 a.ends.c :: .int .u64 a.ends.d :: cells9 l := rfl
theorem cells9_append (h k : List Pc) : cells9 (h ++ k) = cells9 h ++ cells9 k := by simp [cells9]
theorem cells9_length (l : List Pc) : (cells9 l).length = l.length * 9 := by
  induction l with
  | nil => rfl
  | cons a l ih => rw [cells9_cons]; simp [ih]; omega
theorem cells9_at (l : List Pc) : ∀ i (hi : i < l.length),
    (cells9 l)[i * 9]? = some (.bool l[i].em) ∧
    ((cells9 l)[i * 9 + 1]? = some (.int .u64 l[i].first.a) ∧ (cells9 l)[i * 9 + 2]? = some (.int .u64 l[i].first.b) ∧ (cells9 l)[i * 9 + 3]? = some (.int .u64 l[i].first.c) ∧ (cells9 l)[i * 9 + 4]? = some (.int .u64 l[i].first.d)) ∧
    ((cells9 l)[i * 9 + 5]? = some (.int .u64 l[i].ends.a) ∧ (cells9 l)[i * 9 + 6]? = some (.int .u64 l[i].ends.b) ∧ (cells9 l)[i * 9 + 7]? = some (.int .u64 l[i].ends.c) ∧ (cells9 l)[i * 9 + 8]? = some (.int .u64 l[i].ends.d)) := by
  induction l with
  | nil => intro i hi; simp at hi
  | cons a l ih =>
    intro i hi
    cases i with
    | zero => exact ⟨rfl, ⟨rfl, rfl, rfl, rfl⟩, rfl, rfl, rfl, rfl⟩
    | succ i =>
      have := ih i (by simpa using hi)
      rw [cells9_cons, show (i + 1) * 9 = i * 9 + 1 + 1 + 1 + 1 + 1 + 1 + 1 + 1 + 1 from by omega]
      simpa using this
/-- pieces, a row of the call's own -/
def Pcs (base : Nat) (W : World) (v : Value) (l : List Pc) : Prop := W.ownsRow base 51 9 v l.length (cells9 l)
section
variable {base : Nat} {W W' : World} {v : Value} {l : List Pc}
theorem Pcs.nil : Pcs base W (.slice none 0 0) [] := World.ownsRow_nil _ _ _ _
theorem Pcs.drew (h : Pcs base W v l) : Pcs base W.drew v l := h
theorem Pcs.drewN (h : Pcs base W v l) (m : Nat) : Pcs base (W.drewN m) v l := h
theorem Pcs.form (h : Pcs base W v l) : ∃ A c, v = .slice A l.length c := by
  rcases h.2 with ⟨hv, h0⟩ | ⟨g, cap, cur, hv, _⟩
  · exact ⟨none, 0, by rw [hv, h0]⟩
  · exact ⟨_, _, hv⟩
theorem Pcs.block (h : Pcs base W v l) : ∀ g, v.ownBlock = some g → base ≤ g ∧ g < W.heap.size ∧ ∃ cs fr, W.heap[g]? = some (.cells cs 51 fr) := by
  intro g hg
  rcases h.2 with ⟨hv, _⟩ | ⟨g', cap, cur, hv, hb, hh, _⟩
  · subst hv; cases hg
  · subst hv
    simp only [Value.ownBlock, Option.some.injEq] at hg
    subst hg
    exact ⟨hb, lt_of_some hh, _, _, hh⟩
theorem Pcs.belowAll (h : Pcs base W v l) (hb : Below W.heap.size W W') : Pcs base W' v l := by
  refine ⟨h.1, ?_⟩
  rcases h.2 with hn | ⟨g, cap, cur, hv, h1, h2, r⟩
  · exact .inl hn
  · subst hv
    exact .inr ⟨g, cap, cur, rfl, h1, by rw [hb.block g (lt_of_some h2)]; exact h2, r⟩
theorem Pcs.alloc (h : Pcs base W v l) (o : Obj) : Pcs base (W.alloc o) v l := h.belowAll ((Below.refl _ W).alloc (Nat.le_refl _) o)
/-- a net's calls leave a row of pieces alone -/
theorem Pcs.frame {base' N : Nat} (h : Pcs base W v l) (hf : NFrame base' N W W') (hN : ∀ g, v.ownBlock = some g → g ≠ N) : Pcs base W' v l := by
  refine ⟨h.1, ?_⟩
  rcases h.2 with hn | ⟨g, cap, cur, hv, h1, h2, r⟩
  · exact .inl hn
  · subst hv
    exact .inr ⟨g, cap, cur, rfl, h1, hf.other g _ h2 (hN g rfl) (fun cs fr e => by injection e with _ e _; exact absurd e (by decide)), r⟩
theorem Pcs.opn (h : Pcs base W v l) (hp : 0 < l.length) : ∃ g cap, v = .slice (some ⟨g, 0, none⟩) l.length cap ∧ base ≤ g ∧ g < W.heap.size ∧ l.length ≤ cap ∧
    (∀ i (hi : i < l.length), W.cell? ⟨g, i * 9, none⟩ = some (.bool l[i].em) ∧
      (W.cell? ⟨g, i * 9 + 1, none⟩ = some (.int .u64 l[i].first.a) ∧ W.cell? ⟨g, i * 9 + 2, none⟩ = some (.int .u64 l[i].first.b) ∧ W.cell? ⟨g, i * 9 + 3, none⟩ = some (.int .u64 l[i].first.c) ∧ W.cell? ⟨g, i * 9 + 4, none⟩ = some (.int .u64 l[i].first.d)) ∧
      (W.cell? ⟨g, i * 9 + 5, none⟩ = some (.int .u64 l[i].ends.a) ∧ W.cell? ⟨g, i * 9 + 6, none⟩ = some (.int .u64 l[i].ends.b) ∧ W.cell? ⟨g, i * 9 + 7, none⟩ = some (.int .u64 l[i].ends.c) ∧ W.cell? ⟨g, i * 9 + 8, none⟩ = some (.int .u64 l[i].ends.d))) := by
  have h' := h
  rcases h.2 with ⟨_, h0⟩ | ⟨g, cap, cur, hv, hb, hg, hnc, hcm, hs, ht⟩
  · omega
  · subst hv
    refine ⟨g, cap, rfl, hb, (Array.getElem?_eq_some_iff.1 hg).1, hnc, fun i hi => ?_⟩
    obtain ⟨e0, ⟨e1, e2, e3, e4⟩, e5, e6, e7, e8⟩ := cells9_at l i hi
    refine ⟨?_, ⟨?_, ?_, ?_, ?_⟩, ?_, ?_, ?_, ?_⟩
    all_goals rw [World.ownsRow.cellAt h' _ (by omega)]; assumption
end
theorem Below.frame {base N : Nat} {W W' : World} (a : NFrame base N W W') {g : Nat} (hg : g < W.heap.size) (hl : g < base) : W'.heap[g]? = W.heap[g]? := a.low g hl hg
theorem either_snoc (l : List Pc) (p : Pc) : either (l ++ [p]) = or1 (either l) p := by simp [either]
end Go.Proofs.YtnbchikiiipejaaDoor.Nf
namespace Go.Proofs.YtnbchikiiipejaaDoor.Nf
open Go.RowKit Mem
open Bg (Bag bagV)
set_option linter.unusedVariables false

def Pc.ok (p : Pc) : Prop := p.first.ok ∧ p.ends.ok
theorem or1_ok {a b : Pc} (h : a.ok) (g : b.ok) : (or1 a b).ok := ⟨Bg.or_ok h.1 g.1, Bg.or_ok h.2 g.2⟩
theorem either_ok (s : List Pc) (h : ∀ p ∈ s, p.ok) : (either s).ok := by
  unfold either
  generalize hz : (⟨false, Bg.nil, Bg.nil⟩ : Pc) = z
  have h0 : z.ok := by rw [← hz]; exact ⟨Bg.nil_ok, Bg.nil_ok⟩
  clear hz
  induction s generalizing z with
  | nil => exact h0
  | cons p s ih => exact ih (fun q hq => h q (List.mem_cons_of_mem _ hq)) (or1 z p) (or1_ok h0 (h p List.mem_cons_self))
section
variable {W : World} {g : Nat} {p : Pc}
theorem PAt.setEm (h : PAt W g p) (b : Bool) : PAt (W.setCell ⟨g, 0, none⟩ (.bool b)) g { p with em := b } := by
  unfold PAt at h ⊢
  simp [World.setCell, Array.getElem?_modify, h]
theorem PAt.setFirst (h : PAt W g p) (x : Bag) : PAt ((((W.setCell ⟨g, 1, none⟩ (.int .u64 x.a)).setCell ⟨g, 2, none⟩ (.int .u64 x.b)).setCell ⟨g, 3, none⟩ (.int .u64 x.c)).setCell ⟨g, 4, none⟩ (.int .u64 x.d)) g { p with first := x } := by
  unfold PAt at h ⊢
  simp [World.setCell, Array.getElem?_modify, h]
theorem PAt.setEnds (h : PAt W g p) (x : Bag) : PAt ((((W.setCell ⟨g, 5, none⟩ (.int .u64 x.a)).setCell ⟨g, 6, none⟩ (.int .u64 x.b)).setCell ⟨g, 7, none⟩ (.int .u64 x.c)).setCell ⟨g, 8, none⟩ (.int .u64 x.d)) g { p with ends := x } := by
  unfold PAt at h ⊢
  simp [World.setCell, Array.getElem?_modify, h]
end
set_option maxRecDepth 100000 in
set_option maxHeartbeats 2000000 in
theorem either_any {base : Nat} (A : Option Addr) (c : Nat) (s : List Pc) (w : World) (h : Pcs base w (.slice A s.length c) s) (hok : ∀ p ∈ s, p.ok) (hn : s.length ≤ 1000000) :
    Calls Tryd.prog 35 #[.slice A s.length c] w fun e w' => e = .returned (pcV (either s)) ∧ Below w.heap.size w w' := by
  have HR := Lib.hid h
  have HOK := Lib.hid hok
  obtain ⟨n, hnn⟩ : ∃ n, n = s.length := ⟨_, rfl⟩
  rw [← hnn] at hn HR
  rw [← hnn]
  have hv0 := PAt.new w ⟨false, Bg.nil, Bg.nil⟩
  have hw0 := PAt.new (w.alloc (.cells #[.bool false, .int .u64 0, .int .u64 0, .int .u64 0, .int .u64 0, .int .u64 0, .int .u64 0, .int .u64 0, .int .u64 0] 51)) ⟨false, Bg.nil, Bg.nil⟩
  rw [World.size_alloc] at hw0
  have hb0 := ((Below.refl _ w).alloc (Nat.le_refl _) (.cells #[.bool false, .int .u64 0, .int .u64 0, .int .u64 0, .int .u64 0, .int .u64 0, .int .u64 0, .int .u64 0, .int .u64 0] 51)).alloc (by simp) (.cells #[.bool false, .int .u64 0, .int .u64 0, .int .u64 0, .int .u64 0, .int .u64 0, .int .u64 0, .int .u64 0, .int .u64 0] 51)
  have H0 := Lib.hid hw0
  have HV := Lib.hid hv0
  have HB := Lib.hid hb0
  clear h hok hw0 hv0 hb0
  go_enter Tryd.func35, Tryd.ntmps35
  go_wp2
  go_loopw [8] (fun i wr => ∃ k : Nat, k ≤ n ∧ i = .int .i64 k ∧ Below w.heap.size w wr ∧ PAt wr (w.heap.size + 1) (either (s.take k)) ∧ ∃ y, PAt wr w.heap.size y) (fun i _ => n - (intOf i).toNat)
  case atStart => exact ⟨0, Nat.zero_le _, rfl, HB.out, H0.out, _, HV.out.alloc _⟩
  case round =>
    obtain ⟨k, hk, rfl, hb, ha, y, hy⟩ := hrel
    have hlt1 := ha.lt
    by_cases hlt : k < n
    · have hks : k < s.length := by omega
      obtain ⟨g, cap, hA, hbg, hg, hcap, hcs⟩ := (HR.out.belowAll hb).opn (by omega)
      obtain ⟨rfl, _, rfl⟩ : A = some ⟨g, 0, none⟩ ∧ n = s.length ∧ c = cap := by simpa using hA
      obtain ⟨q0, ⟨q1, q2, q3, q4⟩, q5, q6, q7, q8⟩ := hcs k hks
      have hsn : either (s.take (k + 1)) = or1 (either (s.take k)) s[k] := by rw [List.take_succ_eq_append_getElem hks, either_snoc]
      have hzo := either_ok (s.take k) (fun p hp => HOK.out p (List.mem_of_mem_take hp))
      have hxo := HOK.out s[k] (List.getElem_mem hks)
      obtain ⟨x, hx⟩ : ∃ x, s[k] = x := ⟨_, rfl⟩
      obtain ⟨z, hz⟩ : ∃ z, either (s.take k) = z := ⟨_, rfl⟩
      rw [hx] at q0 q1 q2 q3 q4 q5 q6 q7 q8 hsn hxo
      rw [hz] at ha hsn hzo
      obtain ⟨ze, zf, zn⟩ := z
      have HXO := Lib.hid hxo
      have HZO := Lib.hid hzo
      have HSN := Lib.hid hsn
      obtain ⟨m0, ⟨m1, m2, m3, m4⟩, m5, m6, m7, m8⟩ := ha.cell
      have f0 := ha.free 0
      have HA := Lib.hid ha; have HY := Lib.hid hy; have HB := Lib.hid hb
      have hsz : w.heap.size + 1 < wr.heap.size := hlt1
      clear ha hy hb hcs hA hxo hzo hsn hx hz
      cases ze
      all_goals
        go_wp2_with (first
          | (have hg := HA1; clear hg; go_at_call 50; refine (Bg.or_any zn x.ends HZO.out.2 HXO.out.2 _).mono ?_; rintro e w2 ⟨rfl, hb2⟩; unfold bagV; have HA2 := Lib.hid ((HA1.out.setFirst (zf.orB x.first)).below hb2 (by simp; omega)); have HY2 := Lib.hid (((((HY1.out.other (by omega) _ _).other (by omega) _ _).other (by omega) _ _).other (by omega) _ _).below hb2 (by simp; omega)); have HB2 := Lib.hid (((((HB1.out.setCell (by simp) _).setCell (by simp) _).setCell (by simp) _).setCell (by simp) _).trans (hb2.mono (by simp; omega))); obtain ⟨_, ⟨_, _, _, _⟩, u5, u6, u7, u8⟩ := HA2.out.cell; have h5 := HA2.out.free 5; have h6 := HA2.out.free 6; have h7 := HA2.out.free 7; have h8 := HA2.out.free 8; clear hb2)
          | (go_at_call 50; refine (Bg.or_any zf x.first HZO.out.1 HXO.out.1 _).mono ?_; rintro e w1 ⟨rfl, hb1⟩; unfold bagV; have HA1 := Lib.hid (((HA.out.setEm _).alloc _).below hb1 (by simp; omega)); have hn1 := (PAt.new _ x).below hb1 (by simp); rw [World.size_setCell] at hn1; have HN1 := Lib.hid hn1; clear hn1; have HY1 := Lib.hid (((HY.out.other (by omega) _ _).alloc _).below hb1 (by have := HY.out.lt; simp; omega)); have HB1 := Lib.hid (((HB.out.setCell (by simp) _).alloc (by simp; omega) _).trans (hb1.mono (by simp; omega))); obtain ⟨_, ⟨n1, n2, n3, n4⟩, n5, n6, n7, n8⟩ := HN1.out.cell; obtain ⟨_, ⟨o1, o2, o3, o4⟩, o5, o6, o7, o8⟩ := HA1.out.cell; have h1 := HA1.out.free 1; have h2 := HA1.out.free 2; have h3 := HA1.out.free 3; have h4 := HA1.out.free 4; have hs1 := HN1.out.lt; clear hb1))
        go_roundw
        case rel =>
          refine ⟨k + 1, by omega, by go_num, ?_, ?_, y, ?_⟩
          · exact ((((HB2.out).setCell (by simp) _).setCell (by simp) _).setCell (by simp) _).setCell (by simp) _
          · rw [HSN.out]; exact HA2.out.setEnds (zn.orB x.ends)
          · exact (((HY2.out.other (by omega) _ _).other (by omega) _ _).other (by omega) _ _).other (by omega) _ _
        case measure => simp [intOf]; omega
    · obtain rfl : k = n := by omega
      have e : s.take k = s := List.take_of_length_le (by omega)
      rw [e] at ha
      obtain ⟨m0, ⟨m1, m2, m3, m4⟩, m5, m6, m7, m8⟩ := ha.cell
      obtain ⟨r0, ⟨r1, r2, r3, r4⟩, r5, r6, r7, r8⟩ := hy.cell
      have f0 := hy.free 0; have f1 := hy.free 1; have f2 := hy.free 2; have f3 := hy.free 3; have f4 := hy.free 4; have f5 := hy.free 5; have f6 := hy.free 6; have f7 := hy.free 7; have f8 := hy.free 8
      have HA := Lib.hid ha; have HY := Lib.hid hy; have HB := Lib.hid hb
      clear ha hb hy
      go_wp2
      have hs := HY.out.store (either s)
      obtain ⟨s0, ⟨s1, s2, s3, s4⟩, s5, s6, s7, s8⟩ := hs.cell
      refine bodyPost_ret (v := pcV (either s)) ?_ rfl ⟨rfl, ?_⟩
      · simp [pcV, results, Tryd.results35, go_sem, s0, s1, s2, s3, s4, s5, s6, s7, s8]
      · exact (((((((((HB.out).setCell (Nat.le_refl _) _).setCell (Nat.le_refl _) _).setCell (Nat.le_refl _) _).setCell (Nat.le_refl _) _).setCell (Nat.le_refl _) _).setCell (Nat.le_refl _) _).setCell (Nat.le_refl _) _).setCell (Nat.le_refl _) _).setCell (Nat.le_refl _) _
end Go.Proofs.YtnbchikiiipejaaDoor.Nf
