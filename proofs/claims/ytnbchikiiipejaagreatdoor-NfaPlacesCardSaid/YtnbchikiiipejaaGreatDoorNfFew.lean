/- Walk of nfa: few. -/
import Derived.Test.YtnbchikiiipejaaGreatDoorNfH
import Derived.IntWalk
set_option linter.unusedVariables false
set_option maxRecDepth 100000
set_option maxHeartbeats 8000000
namespace Go.Proofs.YtnbchikiiipejaaGreatDoor.Nf
open Go.RowKit Mem
open Bg (Bag bagV Tab)
open Ex (Pt PI PR KR pl)
def RowN (W : World) (g : Nat) (L : List Nat) : Prop := W.heap[g]? = some (.cells (L.map fun z : Nat => Value.int .i64 (z : Int)).toArray 3 (0, 0))
section
variable {W W' : World} {g : Nat} {L : List Nat}
theorem RowN.lt (h : RowN W g L) : g < W.heap.size := lt_of_some h
theorem RowN.below (h : RowN W g L) {n : Nat} (hb : Below n W W') (hg : g < n) : RowN W' g L := by
 unfold RowN; rw [hb.block g hg]; exact h
theorem RowN.cell (h : RowN W g L) (j : Nat) (hj : j < L.length) : W.cell? ⟨g, j, none⟩ = some (.int .i64 (L[j] : Nat)) := by
 unfold RowN at h
 simp [World.cell?, h, hj]
theorem RowN.free (h : RowN W g L) (j : Nat) : W.frozen? ⟨g, j, none⟩ = false := by
 unfold RowN at h
 first | (simp [World.frozen?, h]; done) | (simp [World.frozen?, h]; omega)
theorem RowN.set (h : RowN W g L) (j z : Nat) : RowN (W.setCell ⟨g, j, none⟩ (.int .i64 (z : Int))) g (L.set j z) := by
 unfold RowN at h ⊢
 simp [World.setCell, Array.getElem?_modify, h, List.map_set]
end
structure CS (w : World) (e : List Pt) (n i : Nat) (L : List Nat) (W : World) : Prop where
 below : Below w.heap.size w W
 row : RowN W w.heap.size L
 len : L.length = n
 got : ∀ j, j < i → L[j]? = some (pl1 e j) ∧ pl1 e j ≤ 256
structure IS (w : World) (e : List Pt) (i : Nat) (L : List Nat) (p : PI) (kv : Value) (B b0 o : Nat) (ks : List Nat) (t : Nat) (W : World) : Prop where
 below : Below w.heap.size w W
 row : RowN W w.heap.size (L.set i (b0 + o * ((ks.take t).map (pl1 e)).sum))
 part : PtAt W B p kv
theorem sum_bound {P : Nat → Nat} : ∀ {l : List Nat}, (∀ k ∈ l, P k ≤ 256) → (l.map P).sum ≤ 256 * l.length
 | [], _ => by simp
 | x :: l, h => by
  have h1 := h x List.mem_cons_self
  have h2 := sum_bound (P := P) (l := l) (fun k hk => h k (List.mem_cons_of_mem _ hk))
  simp only [List.map_cons, List.sum_cons, List.length_cons]; omega
def fewE (E : List PI) : Bool := decide (∀ i, i < E.length → pl1 (E.map PI.toP) i ≤ 256)
theorem info_int : (Tryz.prog.info? 3).map (fun i => (i.zero, i.size, i.bytes)) = some (some (.int .i64 0), 1, 8) := by kernel_rfl
theorem few_any (A : Option Addr) (n c : Nat) (E : List PI) (w : World) (hE : PR w A n E) (hX : Expr E) (hn : n ≤ 100000) (hsm : ∀ p ∈ E, Ex.Small p ∧ p.kids.length ≤ 10000) :
  Calls Tryz.prog 119 #[.slice A n c] w fun e w' => e = .returned (.bool (fewE E)) ∧ Below w.heap.size w w' := by
 obtain ⟨i0, hi, hz, hs1, hs2⟩ := info_parts info_int
 obtain ⟨C, hC⟩ : ∃ C : List Value, C = (List.replicate n 0).map fun z : Nat => Value.int .i64 (z : Int) := ⟨_, rfl⟩
 have hmake : ∀ W : World, (Instr.makeSlice 39 (.int .i64 n) (.int .i64 n)).run Tryz.prog W = .ok (.slice (some ⟨W.heap.size, 0, none⟩) n n) (W.alloc (.cells C.toArray 3)) := fun W => by
  have := run_make (P := Tryz.prog) (w := W) 39 3 i0 (.int .i64 0) Tryz.underlying39 hi hz .i64 .i64 (n : Int) (n : Int) (by omega) (by omega) (by rw [hs2]; omega) (by omega)
  rw [this, hs1, Nat.mul_one]
  have e : madeCells (Value.int .i64 0).cells n = C.toArray := by
   rw [hC]
   apply Array.ext
   ·simp [madeCells]
   ·intro j h1 h2; simp [madeCells, Value.cells, Nat.mod_one]
  simp only [Int.toNat_natCast, e]
 have hrow : RowN (w.alloc (.cells C.toArray 3)) w.heap.size (List.replicate n 0) := by rw [hC]; exact heap_alloc_new _ _
 have HS0 : Hid (CS w (E.map PI.toP) n 0 (List.replicate n 0) (w.alloc (.cells C.toArray 3))) :=
  ⟨(Below.refl _ w).alloc (Nat.le_refl _) _, hrow, by simp, fun j hj => by omega⟩
 clear hC
 have HE := Lib.hid hE
 have HX := Lib.hid hX
 have HSM := Lib.hid hsm
 have HLN := Lib.hid hE.1
 clear hrow hE hX hsm
 go_enter Tryz.func119, Tryz.ntmps119
 go_wp2_with fail
 clear hmake
 go_loopw [13] (fun iv wr => ∃ (i : Nat) (L : List Nat), iv = .int .i64 i ∧ i ≤ n ∧ Hid (CS w (E.map PI.toP) n i L wr)) (fun iv _ => n - (intOf iv).toNat)
 case atStart => exact ⟨0, _, rfl, by omega, HS0⟩
 case round =>
  obtain ⟨i, L, rfl, hin, hS⟩ := hrel
  obtain ⟨wo, rfl⟩ : ∃ wo : World, wo = wr := ⟨_, rfl⟩
  by_cases hlt : i < n
  ·have k1 : i < E.length := by have := HLN.out; omega
   obtain ⟨b, off, rfl, hb, hc⟩ := HE.out.2 (by omega)
   obtain ⟨a0, a1, a2, a3, kv, a4, ra⟩ := hc i k1
   rw [← hS.out.below.cell (p := ⟨b, off + i * 5, none⟩) hb] at a0
   rw [← hS.out.below.cell (p := ⟨b, off + i * 5 + 1, none⟩) hb] at a1
   rw [← hS.out.below.cell (p := ⟨b, off + i * 5 + 2, none⟩) hb] at a2
   rw [← hS.out.below.cell (p := ⟨b, off + i * 5 + 3, none⟩) hb] at a3
   rw [← hS.out.below.cell (p := ⟨b, off + i * 5 + 4, none⟩) hb] at a4
   have hpe : (E.map PI.toP)[i]? = some E[i].toP := by rw [List.getElem?_map, List.getElem?_eq_getElem k1]; rfl
   have hmem := List.getElem_mem k1
   have hpt : E[i].toP ∈ E.map PI.toP := List.mem_map.2 ⟨_, hmem, rfl⟩
   have hoft := HX.out.often _ hpt
   have hgood := HX.out.good i _ hpe
   have hback : pl E[i].toP.kids = E[i].kids := by
    have h1 := congrArg (fun L : List PI => L[i]?) HX.out.back
    simp only [List.getElem?_map, List.getElem?_eq_getElem k1, Option.map_some, Option.some.injEq] at h1
    exact congrArg PI.kids h1
   have hpl := pl1_eq HX.out.good hpe
   have hsmk := HSM.out _ hmem
   generalize E[i] = p at *
   obtain ⟨kd, lo, hi, nm, kz⟩ := p
   obtain ⟨ks, hks⟩ : ∃ ks, ks = (PI.toP ⟨kd, lo, hi, nm, kz⟩).kids := ⟨_, rfl⟩
   obtain ⟨o, ho⟩ : ∃ o, o = oftenI kd lo hi := ⟨_, rfl⟩
   have hoi : Nf.often (PI.toP ⟨kd, lo, hi, nm, kz⟩) = o := by rw [ho]; rfl
   rw [← hks, hoi] at hpl
   rw [← hks] at hback hgood
   rw [hoi] at hoft
   obtain ⟨b0, hb0⟩ : ∃ b0 : Nat, b0 = if kd = 1 then 1 else 0 := ⟨_, rfl⟩
   have hpl' : pl1 (E.map PI.toP) i = b0 + o * (ks.map (pl1 (E.map PI.toP))).sum := by rw [hb0]; exact hpl
   dsimp only at a0 a1 a2 a3 a4 ra hback hsmk
   obtain ⟨Ak, ck, rfl, hck, hrk⟩ := ra
   have hcell := hS.out.row.cell i (by rw [hS.out.len]; exact hlt)
   have hfree := hS.out.row.free i
   generalize L[i]'(by rw [hS.out.len]; exact hlt) = zc at hcell
   have hwz : w.heap.size < wo.heap.size := hS.out.row.lt
   have hbal := (Below.refl _ wo).alloc (Nat.le_refl _) (.cells #[.int .i64 kd, .int .i64 lo, .int .i64 hi, .string ⟨nm.toArray⟩, .slice Ak kz.length ck] 217)
   have hpart : PtAt (wo.alloc (.cells #[.int .i64 kd, .int .i64 lo, .int .i64 hi, .string ⟨nm.toArray⟩, .slice Ak kz.length ck] 217)) wo.heap.size ⟨kd, lo, hi, nm, kz⟩ (.slice Ak kz.length ck) := heap_alloc_new _ _
   have hset : ∀ z : Nat, IS w (E.map PI.toP) i L ⟨kd, lo, hi, nm, kz⟩ (.slice Ak kz.length ck) wo.heap.size z o ks 0 ((wo.setCell ⟨w.heap.size, i, none⟩ (.int .i64 (z : Int))).alloc (.cells #[.int .i64 kd, .int .i64 lo, .int .i64 hi, .string ⟨nm.toArray⟩, .slice Ak kz.length ck] 217)) := by
    intro z
    refine ⟨(hS.out.below.setCell (p := ⟨w.heap.size, i, none⟩) (Nat.le_refl _) _).alloc (by simp; omega) _, ?_, ?_⟩
    ·have h1 := (hS.out.row.set i z).below (n := (wo.setCell ⟨w.heap.size, i, none⟩ (.int .i64 (z : Int))).heap.size) ((Below.refl _ _).alloc (Nat.le_refl _) (.cells #[.int .i64 kd, .int .i64 lo, .int .i64 hi, .string ⟨nm.toArray⟩, .slice Ak kz.length ck] 217)) (by simp; omega)
     simpa using h1
    ·have h1 := heap_alloc_new (wo.setCell ⟨w.heap.size, i, none⟩ (.int .i64 (z : Int))) (.cells #[.int .i64 kd, .int .i64 lo, .int .i64 hi, .string ⟨nm.toArray⟩, .slice Ak kz.length ck] 217)
     rw [World.size_setCell] at h1
     exact h1
   have hset2 : ∀ (y : Int) (z : Nat), IS w (E.map PI.toP) i L ⟨kd, lo, hi, nm, kz⟩ (.slice Ak kz.length ck) wo.heap.size z o ks 0 (((wo.setCell ⟨w.heap.size, i, none⟩ (.int .i64 y)).setCell ⟨w.heap.size, i, none⟩ (.int .i64 (z : Int))).alloc (.cells #[.int .i64 kd, .int .i64 lo, .int .i64 hi, .string ⟨nm.toArray⟩, .slice Ak kz.length ck] 217)) := by
    intro y z
    refine ⟨((hS.out.below.setCell (p := ⟨w.heap.size, i, none⟩) (Nat.le_refl _) _).setCell (p := ⟨w.heap.size, i, none⟩) (Nat.le_refl _) _).alloc (by simp; omega) _, ?_, ?_⟩
    ·have h0 : RowN ((wo.setCell ⟨w.heap.size, i, none⟩ (.int .i64 y)).setCell ⟨w.heap.size, i, none⟩ (.int .i64 (z : Int))) w.heap.size (L.set i z) := by
      have h1 := hS.out.row
      unfold RowN at h1 ⊢
      simp [World.setCell, Array.getElem?_modify, h1, List.map_set]
     have h1 := h0.below (n := ((wo.setCell ⟨w.heap.size, i, none⟩ (.int .i64 y)).setCell ⟨w.heap.size, i, none⟩ (.int .i64 (z : Int))).heap.size) ((Below.refl _ _).alloc (Nat.le_refl _) (.cells #[.int .i64 kd, .int .i64 lo, .int .i64 hi, .string ⟨nm.toArray⟩, .slice Ak kz.length ck] 217)) (by simp; omega)
     simpa using h1
    ·have h1 := heap_alloc_new ((wo.setCell ⟨w.heap.size, i, none⟩ (.int .i64 y)).setCell ⟨w.heap.size, i, none⟩ (.int .i64 (z : Int))) (.cells #[.int .i64 kd, .int .i64 lo, .int .i64 hi, .string ⟨nm.toArray⟩, .slice Ak kz.length ck] 217)
     rw [World.size_setCell, World.size_setCell] at h1
     exact h1
   have hlw : wo.heap.size < (wo.alloc (.cells #[.int .i64 kd, .int .i64 lo, .int .i64 hi, .string ⟨nm.toArray⟩, .slice Ak kz.length ck] 217)).heap.size := by simp
   have hl1 : decide ((i : Int) < (n : Int)) = true := by simp; omega
   have hbw : b < wo.heap.size := Nat.lt_of_lt_of_le hb hS.out.below.size
   have HS := Lib.hid hS.out
   have HRK := Lib.hid hrk
   have HGD := Lib.hid hgood
   have HKS := Lib.hid hback
   have HPL := Lib.hid hpl'
   have HOF := Lib.hid hoft
   have HO := Lib.hid ho
   have hkl : kz.length ≤ 10000 := hsmk.2
   have hbz : b0 ≤ 1 := by rw [hb0]; split <;> omega
   by_cases hk : kd = 1
   ·have HI : Hid (IS w (E.map PI.toP) i L ⟨kd, lo, hi, nm, kz⟩ (.slice Ak kz.length ck) wo.heap.size b0 o ks 0 ((wo.setCell ⟨w.heap.size, i, none⟩ (.int .i64 1)).alloc (.cells #[.int .i64 kd, .int .i64 lo, .int .i64 hi, .string ⟨nm.toArray⟩, .slice Ak kz.length ck] 217))) := by
     have := hset 1
     rw [hb0, if_pos hk]; exact this
    have ht : (kd != 1) = false := by simp [hk]
    clear hset hset2 hpart hbal hS hrk hgood hback hpl' hpl hoft ho hb0 hoi hpt hpe hmem hks hc hk hsmk
    go_wp2_with fail
    clear a0 a1 a2 a3 a4 hcell hfree
    generalize ((wo.setCell ⟨w.heap.size, i, none⟩ (.int .i64 1)).alloc (.cells #[.int .i64 kd, .int .i64 lo, .int .i64 hi, .string ⟨nm.toArray⟩, .slice Ak kz.length ck] 217)) = W2 at HI ⊢
    go_loopw [30] (fun tv wr => ∃ t : Nat, t ≤ kz.length ∧ tv = .int .i64 t ∧ Hid (IS w (E.map PI.toP) i L ⟨kd, lo, hi, nm, kz⟩ (.slice Ak kz.length ck) wo.heap.size b0 o ks t wr)) (fun tv _ => kz.length - (intOf tv).toNat)
    case atStart => exact ⟨0, by omega, rfl, HI⟩
    case round =>
     obtain ⟨t, ht1, rfl, hI⟩ := hrel
     by_cases hlt2 : t < kz.length
     ·have hI := hI
      have htk : t < ks.length := by have := HKS.out; rw [← this] at hlt2; simpa [pl] using hlt2
      obtain ⟨kb, ko, hAk, hkc⟩ := (HRK.out.below hI.out.below).2.2 (by omega)
      subst hAk
      have hkc1 := hkc t hlt2
      have hzi : kz[t] = ((ks[t] : Nat) : Int) := by
       have h2 : (pl ks)[t]? = kz[t]? := by rw [HKS.out]
       rw [List.getElem?_eq_getElem hlt2, List.getElem?_eq_getElem (by simp [pl]; omega)] at h2
       simp only [pl, List.getElem_map, Option.some.injEq] at h2
       exact h2.symm
      rw [List.getD_eq_getElem?_getD, List.getElem?_eq_getElem hlt2, Option.getD_some, hzi] at hkc1
      have hkk : ks[t] < i := HGD.out ks[t] (List.getElem_mem htk)
      have hgot := HS.out.got ks[t] hkk
      have htake : ks.take (t + 1) = ks.take t ++ [ks[t]] := by rw [List.take_succ_eq_append_getElem htk]
      obtain ⟨X, hX⟩ : ∃ X, X = b0 + o * ((ks.take t).map (pl1 (E.map PI.toP))).sum := ⟨_, rfl⟩
      obtain ⟨y, hy⟩ : ∃ y, y = pl1 (E.map PI.toP) ks[t] := ⟨_, rfl⟩
      have hxy : X + y * o = b0 + o * ((ks.take (t + 1)).map (pl1 (E.map PI.toP))).sum := by
       rw [htake, List.map_append, List.sum_append, hX, hy]
       simp only [List.map_cons, List.map_nil, List.sum_cons, List.sum_nil, Nat.add_zero]
       rw [Nat.mul_add, Nat.mul_comm (pl1 (E.map PI.toP) ks[t]) o, Nat.add_assoc]
      have hsb : ((ks.take t).map (pl1 (E.map PI.toP))).sum ≤ 256 * (ks.take t).length := sum_bound (fun k hk => (HS.out.got k (HGD.out k (List.mem_of_mem_take hk))).2)
      have hXb : X ≤ 60000000 := by
       have h1 : (ks.take t).length ≤ 10000 := by simp; omega
       have h2 : o * ((ks.take t).map (pl1 (E.map PI.toP))).sum ≤ 20 * ((ks.take t).map (pl1 (E.map PI.toP))).sum := Nat.mul_le_mul_right _ HOF.out.2
       omega
      have hyb : y ≤ 256 := by rw [hy]; exact hgot.2
      have hrow := hI.out.row
      rw [← hX] at hrow
      generalize ks[t] = kk at *
      have hlen : (L.set i X).length = n := by rw [List.length_set]; exact HS.out.len
      have hg1 : (L.set i X)[i]'(by omega) = X := by simp
      have hg2 : (L.set i X)[kk]'(by omega) = y := by
       rw [List.getElem_set_ne (by omega), hy]
       have h1 := hgot.1
       rw [List.getElem?_eq_getElem (by rw [HS.out.len]; omega)] at h1
       exact Option.some.inj h1
      have HGX : Hid (∀ W, RowN W w.heap.size (L.set i X) → W.cell? ⟨w.heap.size, i, none⟩ = some (.int .i64 (X : Int))) := fun W h => by rw [h.cell i (by omega), hg1]
      have HGY : Hid (∀ W, RowN W w.heap.size (L.set i X) → W.cell? ⟨w.heap.size, kk, none⟩ = some (.int .i64 (y : Int))) := fun W h => by rw [h.cell kk (by omega), hg2]
      have HSX : Hid (∀ t2 W, IS w (E.map PI.toP) i L ⟨kd, lo, hi, nm, kz⟩ (.slice (some ⟨kb, ko, none⟩) kz.length ck) wo.heap.size b0 o ks t2 W → (W.cell? ⟨w.heap.size, kk, none⟩ = some (.int .i64 (y : Int))) ∧ (W.cell? ⟨wo.heap.size, 0, none⟩ = some (.int .i64 kd) ∧ W.cell? ⟨wo.heap.size, 1, none⟩ = some (.int .i64 lo) ∧ W.cell? ⟨wo.heap.size, 2, none⟩ = some (.int .i64 hi) ∧ W.cell? ⟨wo.heap.size, 3, none⟩ = some (.string ⟨nm.toArray⟩) ∧ W.cell? ⟨wo.heap.size, 4, none⟩ = some (.slice (some ⟨kb, ko, none⟩) kz.length ck))) := by
       intro t2 W h
       obtain ⟨p0, p1, p2, p3, p4⟩ := h.part.cell
       refine ⟨?_, p0, p1, p2, p3, p4⟩
       have hr := h.row
       generalize b0 + o * ((ks.take t2).map (pl1 (E.map PI.toP))).sum = z at hr
       have hl2 : (L.set i z).length = n := by rw [List.length_set]; exact HS.out.len
       rw [hr.cell kk (by omega), List.getElem_set_ne (by omega)]
       have h1 := hgot.1
       rw [List.getElem?_eq_getElem (by rw [HS.out.len]; omega)] at h1
       rw [Option.some.inj h1, hy]
      have HI2 : Hid (IS w (E.map PI.toP) i L ⟨kd, lo, hi, nm, kz⟩ (.slice (some ⟨kb, ko, none⟩) kz.length ck) wo.heap.size b0 o ks t wr) := hI
      have HXY : Hid (X + y * o = b0 + o * ((ks.take (t + 1)).map (pl1 (E.map PI.toP))).sum) := hxy
      have HRX := Lib.hid hrow
      have hwz2 : w.heap.size ≤ wr.heap.size := hI.out.below.size
      have hwz3 : wo.heap.size < wr.heap.size := hI.out.part.lt
      have x0 := HGX.out _ hrow
      have hob : o ≤ 20 := HOF.out.2
      have HXD := Lib.hid hX
      clear hkc hzi hgot htake hxy hsb hlen hg1 hg2 hI hrow hX hy
      have hyo : (y : Int) * (o : Int) ≤ 5120 := by
       have h1 : y * o ≤ 256 * 20 := Nat.mul_le_mul hyb hob
       exact_mod_cast h1
      have hyo0 : 0 ≤ (y : Int) * (o : Int) := Int.mul_nonneg (by omega) (by omega)
      have w1 : IntKind.i64.wrap ((y : Int) * (o : Int)) = (y : Int) * (o : Int) := IntWalk.i64_in _ (by omega)
      have w2 : IntKind.i64.wrap ((X : Int) + (y : Int) * (o : Int)) = (X : Int) + (y : Int) * (o : Int) := IntWalk.i64_in _ (by omega)
      have hkn : kk < n := by omega
      have lt2 : decide ((t : Int) < (kz.length : Int)) = true := by simp; omega
      have lt3 : decide (t < kz.length) = true := by simp; omega
      go_wp2_with fail
      refine wp_region_held_drew (S := fun W => (W.cell? ⟨w.heap.size, kk, none⟩ = some (.int .i64 (y : Int))) ∧ (W.cell? ⟨wo.heap.size, 0, none⟩ = some (.int .i64 kd) ∧ W.cell? ⟨wo.heap.size, 1, none⟩ = some (.int .i64 lo) ∧ W.cell? ⟨wo.heap.size, 2, none⟩ = some (.int .i64 hi) ∧ W.cell? ⟨wo.heap.size, 3, none⟩ = some (.string ⟨nm.toArray⟩) ∧ W.cell? ⟨wo.heap.size, 4, none⟩ = some (.slice (some ⟨kb, ko, none⟩) kz.length ck))) (by kernel_rfl) (HSX.out t wr HI2.out) (fun hHeld => ?_)
      refine tk 0 (v := ?_) rfl (by kernel_rfl) (fun _ _ _ h => h) ?_ hHeld ?_
      rotate_left
      ·(intro W hSw; (try dsimp only at hSw); go_simp; try with_reducible rfl)
      refine tk 1 (v := ?_) rfl (by kernel_rfl) (fun _ _ _ h => h) ?_ hHeld ?_
      rotate_left
      ·(intro W hSw; (try dsimp only at hSw); go_simp; try with_reducible rfl)
      refine tk 2 (v := ?_) rfl (by kernel_rfl) (fun _ _ _ h => h) ?_ hHeld ?_
      rotate_left
      ·(intro W hSw; (try dsimp only at hSw); go_simp; try with_reducible rfl)
      refine tk 4 (v := ?_) rfl (by kernel_rfl) (fun _ _ _ h => h) ?_ hHeld ?_
      rotate_left
      ·(intro W hSw; (try dsimp only at hSw); go_simp; try with_reducible rfl)
      refine tk 5 (v := ?_) rfl (by kernel_rfl) (fun _ _ _ h => h) ?_ hHeld ?_
      rotate_left
      ·(intro W hSw; (try dsimp only at hSw); go_simp; try with_reducible rfl)
      refine tk 6 (v := ?_) rfl (by kernel_rfl) (fun _ _ _ h => h) ?_ hHeld ?_
      rotate_left
      ·(intro W hSw; (try dsimp only at hSw); go_simp; try with_reducible rfl)
      refine tk 7 (v := ?_) rfl (by kernel_rfl) (fun _ _ _ h => h) ?_ hHeld ?_
      rotate_left
      ·(intro W hSw; (try dsimp only at hSw); go_simp; try with_reducible rfl)
      refine tk 8 (v := ?_) rfl (by kernel_rfl) (fun _ _ _ h => h) ?_ hHeld ?_
      rotate_left
      ·(intro W hSw; (try dsimp only at hSw); go_simp; try with_reducible rfl)
      refine wpAnyH_ready (rs := [3, 9]) (by kernel_rfl) (by simp) ?_
      refine AllReadyH.cons rfl (fun K hK => ?_) (AllReadyH.cons rfl (fun K hK => ?_) AllReadyH.nil)
      ·go_simp
       refine hK.out _ _ hHeld (fun hHeld => ?_)
       clear hK K
       refine wpAnyH_ready (rs := [9]) (by kernel_rfl) (by simp) ?_
       refine AllReadyH.cons rfl (fun K hK => ?_) AllReadyH.nil
       go_simp
       go_at_call 172
       refine (often_ints kd lo hi ⟨nm.toArray⟩ (.slice (some ⟨kb, ko, none⟩) kz.length ck) _).mono ?_
       rw [← HO.out]
       rintro en w9 ⟨rfl, hb9⟩
       have hbw9 : Below wr.heap.size wr w9 := (below_drewN (Below.refl _ _) 1).trans hb9
       have HR9 := Lib.hid (HRX.out.below hbw9 HRX.out.lt)
       have HP9 := Lib.hid (HI2.out.part.below hbw9 HI2.out.part.lt)
       have HB9 := Lib.hid (HI2.out.below.trans (hbw9.mono hwz2))
       clear hb9 hbw9
       have x9 := HGX.out w9 HR9.out
       have f9 := HR9.out.free i
       go_wp2_with fail
       refine hK.out _ _ ⟨HGY.out w9 HR9.out, HP9.out.cell⟩ (fun hHeld => ?_)
       clear hK K
       refine tk 10 (v := ?_) rfl (by kernel_rfl) (fun _ _ _ h => h) ?_ hHeld ?_
       rotate_left
       ·(intro W hSw; (try dsimp only at hSw); go_simp; try with_reducible rfl)
       refine tk 11 (v := ?_) rfl (by kernel_rfl) (fun _ _ _ h => h) ?_ hHeld ?_
       rotate_left
       ·(intro W hSw; (try dsimp only at hSw); go_simp; try with_reducible rfl)
       refine tk 12 (v := ?_) rfl (by kernel_rfl) (fun _ _ _ h => h) ?_ hHeld ?_
       rotate_left
       ·(intro W hSw; (try dsimp only at hSw); go_simp; try with_reducible rfl)
       refine wpAnyH_ready (rs := [13]) (by kernel_rfl) (by simp) ?_
       refine AllReadyH.cons rfl (fun K hK => ?_) AllReadyH.nil
       go_simp
       have HN : Hid (IS w (E.map PI.toP) i L ⟨kd, lo, hi, nm, kz⟩ (.slice (some ⟨kb, ko, none⟩) kz.length ck) wo.heap.size b0 o ks (t + 1) (w9.setCell ⟨w.heap.size, i, none⟩ (.int .i64 ((X : Int) + (y : Int) * (o : Int))))) := by
        refine ⟨HB9.out.setCell (Nat.le_refl _) _, ?_, ?_⟩
        ·have h1 := HR9.out.set i (X + y * o)
         have e : ((X + y * o : Nat) : Int) = (X : Int) + (y : Int) * (o : Int) := by push_cast; rfl
         rw [e, List.set_set, HXY.out] at h1
         exact h1
        ·unfold PtAt; rw [Below.heap_setCell _ _ _ _ (by simp; omega)]; exact HP9.out
       refine hK.out _ _ (HSX.out _ _ HN.out) (fun hHeld => ?_)
       clear hK K hHeld
       refine wpAnyH_done (by kernel_rfl) ?_ _
       go_wp2_with fail
       go_roundw
       case rel => exact ⟨t + 1, by omega, by go_num, HN⟩
       case measure => simp [intOf]; omega
      ·go_simp
       go_at_call 172
       refine (often_ints kd lo hi ⟨nm.toArray⟩ (.slice (some ⟨kb, ko, none⟩) kz.length ck) _).mono ?_
       rw [← HO.out]
       rintro en w9 ⟨rfl, hb9⟩
       have hbw9 : Below wr.heap.size wr w9 := (below_drewN (Below.refl _ _) 1).trans hb9
       have HR9 := Lib.hid (HRX.out.below hbw9 HRX.out.lt)
       have HP9 := Lib.hid (HI2.out.part.below hbw9 HI2.out.part.lt)
       have HB9 := Lib.hid (HI2.out.below.trans (hbw9.mono hwz2))
       clear hb9 hbw9
       have x9 := HGX.out w9 HR9.out
       have f9 := HR9.out.free i
       go_wp2_with fail
       refine hK.out _ _ ⟨HGY.out w9 HR9.out, HP9.out.cell⟩ (fun hHeld => ?_)
       clear hK K
       refine tk 10 (v := ?_) rfl (by kernel_rfl) (fun _ _ _ h => h) ?_ hHeld ?_
       rotate_left
       ·(intro W hSw; (try dsimp only at hSw); go_simp; try with_reducible rfl)
       refine wpAnyH_ready (rs := [3]) (by kernel_rfl) (by simp) ?_
       refine AllReadyH.cons rfl (fun K hK => ?_) AllReadyH.nil
       go_simp
       refine hK.out _ _ hHeld (fun hHeld => ?_)
       clear hK K
       refine tk 11 (v := ?_) rfl (by kernel_rfl) (fun _ _ _ h => h) ?_ hHeld ?_
       rotate_left
       ·(intro W hSw; (try dsimp only at hSw); go_simp; try with_reducible rfl)
       refine tk 12 (v := ?_) rfl (by kernel_rfl) (fun _ _ _ h => h) ?_ hHeld ?_
       rotate_left
       ·(intro W hSw; (try dsimp only at hSw); go_simp; try with_reducible rfl)
       refine wpAnyH_ready (rs := [13]) (by kernel_rfl) (by simp) ?_
       refine AllReadyH.cons rfl (fun K hK => ?_) AllReadyH.nil
       go_simp
       have HN : Hid (IS w (E.map PI.toP) i L ⟨kd, lo, hi, nm, kz⟩ (.slice (some ⟨kb, ko, none⟩) kz.length ck) wo.heap.size b0 o ks (t + 1) (w9.setCell ⟨w.heap.size, i, none⟩ (.int .i64 ((X : Int) + (y : Int) * (o : Int))))) := by
        refine ⟨HB9.out.setCell (Nat.le_refl _) _, ?_, ?_⟩
        ·have h1 := HR9.out.set i (X + y * o)
         have e : ((X + y * o : Nat) : Int) = (X : Int) + (y : Int) * (o : Int) := by push_cast; rfl
         rw [e, List.set_set, HXY.out] at h1
         exact h1
        ·unfold PtAt; rw [Below.heap_setCell _ _ _ _ (by simp; omega)]; exact HP9.out
       refine hK.out _ _ (HSX.out _ _ HN.out) (fun hHeld => ?_)
       clear hK K hHeld
       refine wpAnyH_done (by kernel_rfl) ?_ _
       go_wp2_with fail
       go_roundw
       case rel => exact ⟨t + 1, by omega, by go_num, HN⟩
       case measure => simp [intOf]; omega
     ·obtain rfl : t = kz.length := by omega
      have hts : ks.take kz.length = ks := List.take_of_length_le (by have := HKS.out; rw [← this]; simp [pl])
      have hrow := hI.out.row
      rw [hts, ← HPL.out] at hrow
      have HB2 := Lib.hid hI.out.below
      have HR2 := Lib.hid hrow
      have hlen : (L.set i (pl1 (E.map PI.toP) i)).length = n := by rw [List.length_set]; exact HS.out.len
      have hci := hrow.cell i (by omega)
      rw [List.getElem_set_self] at hci
      have HNX : Hid (pl1 (E.map PI.toP) i ≤ 256 → CS w (E.map PI.toP) n (i + 1) (L.set i (pl1 (E.map PI.toP) i)) wr) := fun h => by
       refine ⟨hI.out.below, hrow, hlen, fun j hj => ?_⟩
       by_cases hji : j = i
       ·subst hji
        exact ⟨by rw [List.getElem?_set_self (by rw [HS.out.len]; omega)], h⟩
       ·rw [List.getElem?_set_ne (by omega)]
        exact HS.out.got j (by omega)
      have HFN : Hid (256 < pl1 (E.map PI.toP) i → fewE E = false) := fun h => by
       unfold fewE
       rw [decide_eq_false_iff_not]
       intro g
       have := g i (by have := HLN.out; omega)
       omega
      generalize pl1 (E.map PI.toP) i = z at hci HNX HFN
      clear hts hrow hI hlen hlt2
      have lt2 : decide ((kz.length : Int) < (kz.length : Int)) = false := by simp
      have lt3 : decide (kz.length < kz.length) = false := by simp
      by_cases hz3 : 256 < z
      ·have ht3 : decide ((256 : Int) < (z : Int)) = true := by simp; omega
       go_wp2_with fail
       go_ret
       exact ⟨by rw [HFN.out hz3]; rfl, HB2.out⟩
      ·have ht3 : decide ((256 : Int) < (z : Int)) = false := by simp; omega
       have HN1 := Lib.hid (HNX.out (by omega))
       go_wp2_with fail
       go_roundw
       case rel => exact ⟨i + 1, _, by go_num, by omega, HN1⟩
       case measure => simp [intOf]; omega
   ·have HI : Hid (IS w (E.map PI.toP) i L ⟨kd, lo, hi, nm, kz⟩ (.slice Ak kz.length ck) wo.heap.size b0 o ks 0 (((wo.setCell ⟨w.heap.size, i, none⟩ (.int .i64 1)).setCell ⟨w.heap.size, i, none⟩ (.int .i64 0)).alloc (.cells #[.int .i64 kd, .int .i64 lo, .int .i64 hi, .string ⟨nm.toArray⟩, .slice Ak kz.length ck] 217))) := by
     have := hset2 1 0
     rw [hb0, if_neg hk]; exact this
    have ht : (kd != 1) = true := by simpa using hk
    clear hset hset2 hpart hbal hS hrk hgood hback hpl' hpl hoft ho hb0 hoi hpt hpe hmem hks hc hk hsmk
    go_wp2_with fail
    clear a0 a1 a2 a3 a4 hcell hfree
    generalize (((wo.setCell ⟨w.heap.size, i, none⟩ (.int .i64 1)).setCell ⟨w.heap.size, i, none⟩ (.int .i64 0)).alloc (.cells #[.int .i64 kd, .int .i64 lo, .int .i64 hi, .string ⟨nm.toArray⟩, .slice Ak kz.length ck] 217)) = W2 at HI ⊢
    go_loopw [30] (fun tv wr => ∃ t : Nat, t ≤ kz.length ∧ tv = .int .i64 t ∧ Hid (IS w (E.map PI.toP) i L ⟨kd, lo, hi, nm, kz⟩ (.slice Ak kz.length ck) wo.heap.size b0 o ks t wr)) (fun tv _ => kz.length - (intOf tv).toNat)
    case atStart => exact ⟨0, by omega, rfl, HI⟩
    case round =>
     obtain ⟨t, ht1, rfl, hI⟩ := hrel
     by_cases hlt2 : t < kz.length
     ·have hI := hI
      have htk : t < ks.length := by have := HKS.out; rw [← this] at hlt2; simpa [pl] using hlt2
      obtain ⟨kb, ko, hAk, hkc⟩ := (HRK.out.below hI.out.below).2.2 (by omega)
      subst hAk
      have hkc1 := hkc t hlt2
      have hzi : kz[t] = ((ks[t] : Nat) : Int) := by
       have h2 : (pl ks)[t]? = kz[t]? := by rw [HKS.out]
       rw [List.getElem?_eq_getElem hlt2, List.getElem?_eq_getElem (by simp [pl]; omega)] at h2
       simp only [pl, List.getElem_map, Option.some.injEq] at h2
       exact h2.symm
      rw [List.getD_eq_getElem?_getD, List.getElem?_eq_getElem hlt2, Option.getD_some, hzi] at hkc1
      have hkk : ks[t] < i := HGD.out ks[t] (List.getElem_mem htk)
      have hgot := HS.out.got ks[t] hkk
      have htake : ks.take (t + 1) = ks.take t ++ [ks[t]] := by rw [List.take_succ_eq_append_getElem htk]
      obtain ⟨X, hX⟩ : ∃ X, X = b0 + o * ((ks.take t).map (pl1 (E.map PI.toP))).sum := ⟨_, rfl⟩
      obtain ⟨y, hy⟩ : ∃ y, y = pl1 (E.map PI.toP) ks[t] := ⟨_, rfl⟩
      have hxy : X + y * o = b0 + o * ((ks.take (t + 1)).map (pl1 (E.map PI.toP))).sum := by
       rw [htake, List.map_append, List.sum_append, hX, hy]
       simp only [List.map_cons, List.map_nil, List.sum_cons, List.sum_nil, Nat.add_zero]
       rw [Nat.mul_add, Nat.mul_comm (pl1 (E.map PI.toP) ks[t]) o, Nat.add_assoc]
      have hsb : ((ks.take t).map (pl1 (E.map PI.toP))).sum ≤ 256 * (ks.take t).length := sum_bound (fun k hk => (HS.out.got k (HGD.out k (List.mem_of_mem_take hk))).2)
      have hXb : X ≤ 60000000 := by
       have h1 : (ks.take t).length ≤ 10000 := by simp; omega
       have h2 : o * ((ks.take t).map (pl1 (E.map PI.toP))).sum ≤ 20 * ((ks.take t).map (pl1 (E.map PI.toP))).sum := Nat.mul_le_mul_right _ HOF.out.2
       omega
      have hyb : y ≤ 256 := by rw [hy]; exact hgot.2
      have hrow := hI.out.row
      rw [← hX] at hrow
      generalize ks[t] = kk at *
      have hlen : (L.set i X).length = n := by rw [List.length_set]; exact HS.out.len
      have hg1 : (L.set i X)[i]'(by omega) = X := by simp
      have hg2 : (L.set i X)[kk]'(by omega) = y := by
       rw [List.getElem_set_ne (by omega), hy]
       have h1 := hgot.1
       rw [List.getElem?_eq_getElem (by rw [HS.out.len]; omega)] at h1
       exact Option.some.inj h1
      have HGX : Hid (∀ W, RowN W w.heap.size (L.set i X) → W.cell? ⟨w.heap.size, i, none⟩ = some (.int .i64 (X : Int))) := fun W h => by rw [h.cell i (by omega), hg1]
      have HGY : Hid (∀ W, RowN W w.heap.size (L.set i X) → W.cell? ⟨w.heap.size, kk, none⟩ = some (.int .i64 (y : Int))) := fun W h => by rw [h.cell kk (by omega), hg2]
      have HSX : Hid (∀ t2 W, IS w (E.map PI.toP) i L ⟨kd, lo, hi, nm, kz⟩ (.slice (some ⟨kb, ko, none⟩) kz.length ck) wo.heap.size b0 o ks t2 W → (W.cell? ⟨w.heap.size, kk, none⟩ = some (.int .i64 (y : Int))) ∧ (W.cell? ⟨wo.heap.size, 0, none⟩ = some (.int .i64 kd) ∧ W.cell? ⟨wo.heap.size, 1, none⟩ = some (.int .i64 lo) ∧ W.cell? ⟨wo.heap.size, 2, none⟩ = some (.int .i64 hi) ∧ W.cell? ⟨wo.heap.size, 3, none⟩ = some (.string ⟨nm.toArray⟩) ∧ W.cell? ⟨wo.heap.size, 4, none⟩ = some (.slice (some ⟨kb, ko, none⟩) kz.length ck))) := by
       intro t2 W h
       obtain ⟨p0, p1, p2, p3, p4⟩ := h.part.cell
       refine ⟨?_, p0, p1, p2, p3, p4⟩
       have hr := h.row
       generalize b0 + o * ((ks.take t2).map (pl1 (E.map PI.toP))).sum = z at hr
       have hl2 : (L.set i z).length = n := by rw [List.length_set]; exact HS.out.len
       rw [hr.cell kk (by omega), List.getElem_set_ne (by omega)]
       have h1 := hgot.1
       rw [List.getElem?_eq_getElem (by rw [HS.out.len]; omega)] at h1
       rw [Option.some.inj h1, hy]
      have HI2 : Hid (IS w (E.map PI.toP) i L ⟨kd, lo, hi, nm, kz⟩ (.slice (some ⟨kb, ko, none⟩) kz.length ck) wo.heap.size b0 o ks t wr) := hI
      have HXY : Hid (X + y * o = b0 + o * ((ks.take (t + 1)).map (pl1 (E.map PI.toP))).sum) := hxy
      have HRX := Lib.hid hrow
      have hwz2 : w.heap.size ≤ wr.heap.size := hI.out.below.size
      have hwz3 : wo.heap.size < wr.heap.size := hI.out.part.lt
      have x0 := HGX.out _ hrow
      have hob : o ≤ 20 := HOF.out.2
      have HXD := Lib.hid hX
      clear hkc hzi hgot htake hxy hsb hlen hg1 hg2 hI hrow hX hy
      have hyo : (y : Int) * (o : Int) ≤ 5120 := by
       have h1 : y * o ≤ 256 * 20 := Nat.mul_le_mul hyb hob
       exact_mod_cast h1
      have hyo0 : 0 ≤ (y : Int) * (o : Int) := Int.mul_nonneg (by omega) (by omega)
      have w1 : IntKind.i64.wrap ((y : Int) * (o : Int)) = (y : Int) * (o : Int) := IntWalk.i64_in _ (by omega)
      have w2 : IntKind.i64.wrap ((X : Int) + (y : Int) * (o : Int)) = (X : Int) + (y : Int) * (o : Int) := IntWalk.i64_in _ (by omega)
      have hkn : kk < n := by omega
      have lt2 : decide ((t : Int) < (kz.length : Int)) = true := by simp; omega
      have lt3 : decide (t < kz.length) = true := by simp; omega
      go_wp2_with fail
      refine wp_region_held_drew (S := fun W => (W.cell? ⟨w.heap.size, kk, none⟩ = some (.int .i64 (y : Int))) ∧ (W.cell? ⟨wo.heap.size, 0, none⟩ = some (.int .i64 kd) ∧ W.cell? ⟨wo.heap.size, 1, none⟩ = some (.int .i64 lo) ∧ W.cell? ⟨wo.heap.size, 2, none⟩ = some (.int .i64 hi) ∧ W.cell? ⟨wo.heap.size, 3, none⟩ = some (.string ⟨nm.toArray⟩) ∧ W.cell? ⟨wo.heap.size, 4, none⟩ = some (.slice (some ⟨kb, ko, none⟩) kz.length ck))) (by kernel_rfl) (HSX.out t wr HI2.out) (fun hHeld => ?_)
      refine tk 0 (v := ?_) rfl (by kernel_rfl) (fun _ _ _ h => h) ?_ hHeld ?_
      rotate_left
      ·(intro W hSw; (try dsimp only at hSw); go_simp; try with_reducible rfl)
      refine tk 1 (v := ?_) rfl (by kernel_rfl) (fun _ _ _ h => h) ?_ hHeld ?_
      rotate_left
      ·(intro W hSw; (try dsimp only at hSw); go_simp; try with_reducible rfl)
      refine tk 2 (v := ?_) rfl (by kernel_rfl) (fun _ _ _ h => h) ?_ hHeld ?_
      rotate_left
      ·(intro W hSw; (try dsimp only at hSw); go_simp; try with_reducible rfl)
      refine tk 4 (v := ?_) rfl (by kernel_rfl) (fun _ _ _ h => h) ?_ hHeld ?_
      rotate_left
      ·(intro W hSw; (try dsimp only at hSw); go_simp; try with_reducible rfl)
      refine tk 5 (v := ?_) rfl (by kernel_rfl) (fun _ _ _ h => h) ?_ hHeld ?_
      rotate_left
      ·(intro W hSw; (try dsimp only at hSw); go_simp; try with_reducible rfl)
      refine tk 6 (v := ?_) rfl (by kernel_rfl) (fun _ _ _ h => h) ?_ hHeld ?_
      rotate_left
      ·(intro W hSw; (try dsimp only at hSw); go_simp; try with_reducible rfl)
      refine tk 7 (v := ?_) rfl (by kernel_rfl) (fun _ _ _ h => h) ?_ hHeld ?_
      rotate_left
      ·(intro W hSw; (try dsimp only at hSw); go_simp; try with_reducible rfl)
      refine tk 8 (v := ?_) rfl (by kernel_rfl) (fun _ _ _ h => h) ?_ hHeld ?_
      rotate_left
      ·(intro W hSw; (try dsimp only at hSw); go_simp; try with_reducible rfl)
      refine wpAnyH_ready (rs := [3, 9]) (by kernel_rfl) (by simp) ?_
      refine AllReadyH.cons rfl (fun K hK => ?_) (AllReadyH.cons rfl (fun K hK => ?_) AllReadyH.nil)
      ·go_simp
       refine hK.out _ _ hHeld (fun hHeld => ?_)
       clear hK K
       refine wpAnyH_ready (rs := [9]) (by kernel_rfl) (by simp) ?_
       refine AllReadyH.cons rfl (fun K hK => ?_) AllReadyH.nil
       go_simp
       go_at_call 172
       refine (often_ints kd lo hi ⟨nm.toArray⟩ (.slice (some ⟨kb, ko, none⟩) kz.length ck) _).mono ?_
       rw [← HO.out]
       rintro en w9 ⟨rfl, hb9⟩
       have hbw9 : Below wr.heap.size wr w9 := (below_drewN (Below.refl _ _) 1).trans hb9
       have HR9 := Lib.hid (HRX.out.below hbw9 HRX.out.lt)
       have HP9 := Lib.hid (HI2.out.part.below hbw9 HI2.out.part.lt)
       have HB9 := Lib.hid (HI2.out.below.trans (hbw9.mono hwz2))
       clear hb9 hbw9
       have x9 := HGX.out w9 HR9.out
       have f9 := HR9.out.free i
       go_wp2_with fail
       refine hK.out _ _ ⟨HGY.out w9 HR9.out, HP9.out.cell⟩ (fun hHeld => ?_)
       clear hK K
       refine tk 10 (v := ?_) rfl (by kernel_rfl) (fun _ _ _ h => h) ?_ hHeld ?_
       rotate_left
       ·(intro W hSw; (try dsimp only at hSw); go_simp; try with_reducible rfl)
       refine tk 11 (v := ?_) rfl (by kernel_rfl) (fun _ _ _ h => h) ?_ hHeld ?_
       rotate_left
       ·(intro W hSw; (try dsimp only at hSw); go_simp; try with_reducible rfl)
       refine tk 12 (v := ?_) rfl (by kernel_rfl) (fun _ _ _ h => h) ?_ hHeld ?_
       rotate_left
       ·(intro W hSw; (try dsimp only at hSw); go_simp; try with_reducible rfl)
       refine wpAnyH_ready (rs := [13]) (by kernel_rfl) (by simp) ?_
       refine AllReadyH.cons rfl (fun K hK => ?_) AllReadyH.nil
       go_simp
       have HN : Hid (IS w (E.map PI.toP) i L ⟨kd, lo, hi, nm, kz⟩ (.slice (some ⟨kb, ko, none⟩) kz.length ck) wo.heap.size b0 o ks (t + 1) (w9.setCell ⟨w.heap.size, i, none⟩ (.int .i64 ((X : Int) + (y : Int) * (o : Int))))) := by
        refine ⟨HB9.out.setCell (Nat.le_refl _) _, ?_, ?_⟩
        ·have h1 := HR9.out.set i (X + y * o)
         have e : ((X + y * o : Nat) : Int) = (X : Int) + (y : Int) * (o : Int) := by push_cast; rfl
         rw [e, List.set_set, HXY.out] at h1
         exact h1
        ·unfold PtAt; rw [Below.heap_setCell _ _ _ _ (by simp; omega)]; exact HP9.out
       refine hK.out _ _ (HSX.out _ _ HN.out) (fun hHeld => ?_)
       clear hK K hHeld
       refine wpAnyH_done (by kernel_rfl) ?_ _
       go_wp2_with fail
       go_roundw
       case rel => exact ⟨t + 1, by omega, by go_num, HN⟩
       case measure => simp [intOf]; omega
      ·go_simp
       go_at_call 172
       refine (often_ints kd lo hi ⟨nm.toArray⟩ (.slice (some ⟨kb, ko, none⟩) kz.length ck) _).mono ?_
       rw [← HO.out]
       rintro en w9 ⟨rfl, hb9⟩
       have hbw9 : Below wr.heap.size wr w9 := (below_drewN (Below.refl _ _) 1).trans hb9
       have HR9 := Lib.hid (HRX.out.below hbw9 HRX.out.lt)
       have HP9 := Lib.hid (HI2.out.part.below hbw9 HI2.out.part.lt)
       have HB9 := Lib.hid (HI2.out.below.trans (hbw9.mono hwz2))
       clear hb9 hbw9
       have x9 := HGX.out w9 HR9.out
       have f9 := HR9.out.free i
       go_wp2_with fail
       refine hK.out _ _ ⟨HGY.out w9 HR9.out, HP9.out.cell⟩ (fun hHeld => ?_)
       clear hK K
       refine tk 10 (v := ?_) rfl (by kernel_rfl) (fun _ _ _ h => h) ?_ hHeld ?_
       rotate_left
       ·(intro W hSw; (try dsimp only at hSw); go_simp; try with_reducible rfl)
       refine wpAnyH_ready (rs := [3]) (by kernel_rfl) (by simp) ?_
       refine AllReadyH.cons rfl (fun K hK => ?_) AllReadyH.nil
       go_simp
       refine hK.out _ _ hHeld (fun hHeld => ?_)
       clear hK K
       refine tk 11 (v := ?_) rfl (by kernel_rfl) (fun _ _ _ h => h) ?_ hHeld ?_
       rotate_left
       ·(intro W hSw; (try dsimp only at hSw); go_simp; try with_reducible rfl)
       refine tk 12 (v := ?_) rfl (by kernel_rfl) (fun _ _ _ h => h) ?_ hHeld ?_
       rotate_left
       ·(intro W hSw; (try dsimp only at hSw); go_simp; try with_reducible rfl)
       refine wpAnyH_ready (rs := [13]) (by kernel_rfl) (by simp) ?_
       refine AllReadyH.cons rfl (fun K hK => ?_) AllReadyH.nil
       go_simp
       have HN : Hid (IS w (E.map PI.toP) i L ⟨kd, lo, hi, nm, kz⟩ (.slice (some ⟨kb, ko, none⟩) kz.length ck) wo.heap.size b0 o ks (t + 1) (w9.setCell ⟨w.heap.size, i, none⟩ (.int .i64 ((X : Int) + (y : Int) * (o : Int))))) := by
        refine ⟨HB9.out.setCell (Nat.le_refl _) _, ?_, ?_⟩
        ·have h1 := HR9.out.set i (X + y * o)
         have e : ((X + y * o : Nat) : Int) = (X : Int) + (y : Int) * (o : Int) := by push_cast; rfl
         rw [e, List.set_set, HXY.out] at h1
         exact h1
        ·unfold PtAt; rw [Below.heap_setCell _ _ _ _ (by simp; omega)]; exact HP9.out
       refine hK.out _ _ (HSX.out _ _ HN.out) (fun hHeld => ?_)
       clear hK K hHeld
       refine wpAnyH_done (by kernel_rfl) ?_ _
       go_wp2_with fail
       go_roundw
       case rel => exact ⟨t + 1, by omega, by go_num, HN⟩
       case measure => simp [intOf]; omega
     ·obtain rfl : t = kz.length := by omega
      have hts : ks.take kz.length = ks := List.take_of_length_le (by have := HKS.out; rw [← this]; simp [pl])
      have hrow := hI.out.row
      rw [hts, ← HPL.out] at hrow
      have HB2 := Lib.hid hI.out.below
      have HR2 := Lib.hid hrow
      have hlen : (L.set i (pl1 (E.map PI.toP) i)).length = n := by rw [List.length_set]; exact HS.out.len
      have hci := hrow.cell i (by omega)
      rw [List.getElem_set_self] at hci
      have HNX : Hid (pl1 (E.map PI.toP) i ≤ 256 → CS w (E.map PI.toP) n (i + 1) (L.set i (pl1 (E.map PI.toP) i)) wr) := fun h => by
       refine ⟨hI.out.below, hrow, hlen, fun j hj => ?_⟩
       by_cases hji : j = i
       ·subst hji
        exact ⟨by rw [List.getElem?_set_self (by rw [HS.out.len]; omega)], h⟩
       ·rw [List.getElem?_set_ne (by omega)]
        exact HS.out.got j (by omega)
      have HFN : Hid (256 < pl1 (E.map PI.toP) i → fewE E = false) := fun h => by
       unfold fewE
       rw [decide_eq_false_iff_not]
       intro g
       have := g i (by have := HLN.out; omega)
       omega
      generalize pl1 (E.map PI.toP) i = z at hci HNX HFN
      clear hts hrow hI hlen hlt2
      have lt2 : decide ((kz.length : Int) < (kz.length : Int)) = false := by simp
      have lt3 : decide (kz.length < kz.length) = false := by simp
      by_cases hz3 : 256 < z
      ·have ht3 : decide ((256 : Int) < (z : Int)) = true := by simp; omega
       go_wp2_with fail
       go_ret
       exact ⟨by rw [HFN.out hz3]; rfl, HB2.out⟩
      ·have ht3 : decide ((256 : Int) < (z : Int)) = false := by simp; omega
       have HN1 := Lib.hid (HNX.out (by omega))
       go_wp2_with fail
       go_roundw
       case rel => exact ⟨i + 1, _, by go_num, by omega, HN1⟩
       case measure => simp [intOf]; omega
  ·obtain rfl : i = n := by omega
   have hl : decide ((i : Int) < (i : Int)) = false := by simp
   have HFE : Hid (fewE E = true) := by
    show _ = _
    unfold fewE
    rw [decide_eq_true_iff]
    intro j hj
    exact (hS.out.got j (by have := HLN.out; omega)).2
   go_wp2_with fail
   go_ret
   exact ⟨by rw [HFE.out]; rfl, hS.out.below⟩
end Go.Proofs.YtnbchikiiipejaaGreatDoor.Nf
