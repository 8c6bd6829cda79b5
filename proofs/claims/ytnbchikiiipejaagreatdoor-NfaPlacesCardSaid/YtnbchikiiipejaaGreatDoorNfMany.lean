/- Walk of the reference of nfa: Many. -/
import Derived.Test.YtnbchikiiipejaaGreatDoorNfH
import Derived.Test.YtnbchikiiipejaaGreatDoorNfFew
set_option linter.unusedVariables false
set_option maxRecDepth 100000
set_option maxHeartbeats 8000000
namespace Go.Proofs.YtnbchikiiipejaaGreatDoor.Nf
open Go.RowKit Mem
open Bg (Bag bagV Tab)
open Ex (Pt PI PR KR pl)
def cap257 (x : Nat) : Nat := if x < 257 then x else 257
theorem cap_add (s y : Nat) : cap257 (cap257 s + cap257 y) = cap257 (s + y) := by
 unfold cap257
 by_cases h1 : s < 257
 ·by_cases h2 : y < 257
  ·rw [if_pos h1, if_pos h2]
  ·rw [if_pos h1, if_neg h2, if_neg (by omega), if_neg (by omega)]
 ·by_cases h2 : y < 257
  ·rw [if_neg h1, if_pos h2, if_neg (by omega), if_neg (by omega)]
  ·rw [if_neg h1, if_neg h2, if_neg (by omega), if_neg (by omega)]
theorem cap_mul (s o : Nat) (h : 1 ≤ o) : cap257 (cap257 s * o) = cap257 (s * o) := by
 unfold cap257
 by_cases hs : s < 257
 ·rw [if_pos hs]
 ·rw [if_neg hs]
  have h1 : 257 ≤ 257 * o := Nat.le_mul_of_pos_right _ h
  have h2 : 257 * o ≤ s * o := Nat.mul_le_mul_right _ (by omega)
  rw [if_neg (by omega), if_neg (by omega)]
theorem cap_fin' (z : Nat) (h : z ≤ 100000) : min (z : Int) 257 = ((cap257 z : Nat) : Int) := by
 unfold cap257; split <;> omega
def ManyAt (w0 : World) (A : Option Addr) (n c : Nat) (E : List PI) (f : Nat) : Prop := ∀ (k : Nat) (w : World), k < f → k < n → Below w0.heap.size w0 w →
 Calls Tryz.prog 67 #[.slice A n c, .int .i64 k] w fun en w' => en = .returned (.int .i64 (cap257 (pl1 (E.map PI.toP) k) : Nat)) ∧ Below w.heap.size w w'
def RtAt (W : World) (b : Nat) (p : PI) (kv : Value) : Prop := W.heap[b]? = some (.cells #[.int .i64 p.kind, .int .i64 p.low, .int .i64 p.high, .string ⟨p.name.toArray⟩, kv] 124 (0, 0))
theorem RtAt.cell {W : World} {g : Nat} {p : PI} {kv : Value} (h : RtAt W g p kv) : W.cell? ⟨g, 0, none⟩ = some (.int .i64 p.kind) ∧ W.cell? ⟨g, 1, none⟩ = some (.int .i64 p.low) ∧ W.cell? ⟨g, 2, none⟩ = some (.int .i64 p.high) ∧ W.cell? ⟨g, 3, none⟩ = some (.string ⟨p.name.toArray⟩) ∧ W.cell? ⟨g, 4, none⟩ = some kv := by
 unfold RtAt at h
 refine ⟨?_, ?_, ?_, ?_, ?_⟩
 all_goals simp [World.cell?, h]
theorem RtAt.below {W W' : World} {g n : Nat} {p : PI} {kv : Value} (h : RtAt W g p kv) (hb : Below n W W') (hg : g < n) : RtAt W' g p kv := by
 unfold RtAt; rw [hb.block g hg]; exact h
theorem RtAt.lt {W : World} {g : Nat} {p : PI} {kv : Value} (h : RtAt W g p kv) : g < W.heap.size := lt_of_some h
theorem many_step (w0 : World) (A : Option Addr) (n c : Nat) (E : List PI) (hE : PR w0 A n E) (hX : Expr E) (hsm : ∀ p ∈ E, p.kids.length ≤ 10000) (hn : n ≤ 100000) (f : Nat) (IH : ManyAt w0 A n c E f) : ManyAt w0 A n c E (f + 1) := by
 intro k w hkf hkn hbw
 have k1 : k < E.length := by have := hE.1; omega
 obtain ⟨b, off, rfl, hb0', hc⟩ := hE.2 (by omega)
 obtain ⟨a0, a1, a2, a3, kv, a4, ra⟩ := hc k k1
 have hb : b < w.heap.size := Nat.lt_of_lt_of_le hb0' hbw.size
 rw [← hbw.cell (p := ⟨b, off + k * 5, none⟩) hb0'] at a0
 rw [← hbw.cell (p := ⟨b, off + k * 5 + 1, none⟩) hb0'] at a1
 rw [← hbw.cell (p := ⟨b, off + k * 5 + 2, none⟩) hb0'] at a2
 rw [← hbw.cell (p := ⟨b, off + k * 5 + 3, none⟩) hb0'] at a3
 rw [← hbw.cell (p := ⟨b, off + k * 5 + 4, none⟩) hb0'] at a4
 have hpe : (E.map PI.toP)[k]? = some E[k].toP := by rw [List.getElem?_map, List.getElem?_eq_getElem k1]; rfl
 have hmem := List.getElem_mem k1
 have hpt : E[k].toP ∈ E.map PI.toP := List.mem_map.2 ⟨_, hmem, rfl⟩
 have hfour := hX.four _ hpt
 have hoft := hX.often _ hpt
 have hnum := hX.nums _ hpt
 have hfit := hX.fit _ hpt
 have hgood := hX.good k _ hpe
 have hback : pl E[k].toP.kids = E[k].kids := by
  have h1 := congrArg (fun L : List PI => L[k]?) hX.back
  simp only [List.getElem?_map, List.getElem?_eq_getElem k1, Option.map_some, Option.some.injEq] at h1
  exact congrArg PI.kids h1
 have hpl := pl1_eq hX.good hpe
 have hsmk := hsm _ hmem
 generalize E[k] = p at *
 obtain ⟨kd, lo, hi, nm, kz⟩ := p
 obtain ⟨ks, hks⟩ : ∃ ks, ks = (PI.toP ⟨kd, lo, hi, nm, kz⟩).kids := ⟨_, rfl⟩
 have hoi : Nf.often (PI.toP ⟨kd, lo, hi, nm, kz⟩) = oftenI kd lo hi := rfl
 rw [← hks, hoi] at hpl
 rw [← hks] at hback hgood
 rw [hoi] at hoft
 have hfit1 : kd = 1 → ks = [] := fun h => by rw [hks]; exact hfit.1 h
 replace hfour : kd = 1 ∨ kd = 2 ∨ kd = 3 ∨ kd = 4 := hfour
 replace hnum : 0 ≤ lo ∧ lo ≤ 20 ∧ hi ≤ 20 := hnum
 replace hpl : pl1 (E.map PI.toP) k = (if kd = 1 then 1 else 0) + oftenI kd lo hi * (ks.map (pl1 (E.map PI.toP))).sum := hpl
 dsimp only at a0 a1 a2 a3 a4 ra hback hsmk
 obtain ⟨Ak, ck, rfl, hck, hrk⟩ := ra
 have hpart : RtAt (w.alloc (.cells #[.int .i64 kd, .int .i64 lo, .int .i64 hi, .string ⟨nm.toArray⟩, .slice Ak kz.length ck] 124)) w.heap.size ⟨kd, lo, hi, nm, kz⟩ (.slice Ak kz.length ck) := heap_alloc_new _ _
 have hb1 := (Below.refl _ w).alloc (Nat.le_refl _) (.cells #[.int .i64 kd, .int .i64 lo, .int .i64 hi, .string ⟨nm.toArray⟩, .slice Ak kz.length ck] 124)
 have HPART := Lib.hid hpart
 have HB1 := Lib.hid hb1
 have HBW := Lib.hid hbw
 have HRK := Lib.hid hrk
 have HPL := Lib.hid hpl
 have HKS := Lib.hid hback
 have HGD := Lib.hid hgood
 have HOF := Lib.hid hoft
 have HF1 := Lib.hid hfit1
 have HIH := hide (fun (k : Nat) (w : World) (h1 : k < f) (h2 : k < n) (h3 : Below w0.heap.size w0 w) => IH k w h1 h2 h3)
 obtain ⟨hn1, hn2, hn3⟩ := hnum
 clear hpart hb1 hbw hrk hpl hback hgood hoft hfit hfit1 IH hc hpt hmem hpe hoi hks hX hsm hE
 have hkind := hfour
 clear hfour
 by_cases h1 : kd = 1
 ·subst h1
  go_enter Tryz.func67, Tryz.ntmps67
  go_wp2
  go_ret
  refine ⟨?_, HB1.out⟩
  rw [HPL.out, HF1.out (by trivial)]
  rfl
 ·have ht1 : (kd == 1) = false := by simpa using h1
  go_enter Tryz.func67, Tryz.ntmps67
  go_wp2
  clear a0 a1 a2 a3 a4
  go_loopw [6, 7] (fun v iv wr => ∃ i x : Nat, i ≤ kz.length ∧ iv = .int .i64 i ∧ v = .int .i64 (x : Int) ∧ x ≤ 257 ∧ Hid (x = cap257 ((ks.take i).map (pl1 (E.map PI.toP))).sum) ∧ Hid (Below w.heap.size w wr) ∧ Hid (RtAt wr w.heap.size ⟨kd, lo, hi, nm, kz⟩ (.slice Ak kz.length ck))) (fun _ iv _ => kz.length - (intOf iv).toNat)
  case atStart => exact ⟨0, 0, by omega, rfl, rfl, by omega, Lib.hid (by simp [cap257]), HB1, HPART⟩
  case round =>
   obtain ⟨i, x, hi1, rfl, rfl, hx, hX, hB, hP⟩ := hrel
   obtain ⟨p0, p1, p2, p3, p4⟩ := hP.out.cell
   dsimp only at p0 p1 p2 p3
   have HKL : Hid (kz.length = ks.length) := by show _ = _; rw [← HKS.out]; simp [pl]
   have hwz : w.heap.size < wr.heap.size := hP.out.lt
   by_cases hlt : i < kz.length
   ·have hiks : i < ks.length := by have := HKL.out; omega
    have hb2 : Below w0.heap.size w0 wr := HBW.out.trans (hB.out.mono HBW.out.size)
    obtain ⟨kb, ko, hAk, hkc⟩ := (HRK.out.below hb2).2.2 (by omega)
    subst hAk
    have hkc1 := hkc i hlt
    have hzi : kz[i] = ((ks[i] : Nat) : Int) := by
     have h2 : (pl ks)[i]? = kz[i]? := by rw [HKS.out]
     rw [List.getElem?_eq_getElem hlt, List.getElem?_eq_getElem (by simp [pl]; omega)] at h2
     simp only [pl, List.getElem_map, Option.some.injEq] at h2
     exact h2.symm
    rw [List.getD_eq_getElem?_getD, List.getElem?_eq_getElem hlt, Option.getD_some, hzi] at hkc1
    have hkk : ks[i] < k := HGD.out ks[i] (List.getElem_mem hiks)
    have htk : ks.take (i + 1) = ks.take i ++ [ks[i]] := by rw [List.take_succ_eq_append_getElem hiks]
    have hcall := HIH.out ks[i] wr (by omega) (by omega) hb2
    have HNX : Hid (cap257 (x + cap257 (pl1 (E.map PI.toP) ks[i])) = cap257 ((ks.take (i + 1)).map (pl1 (E.map PI.toP))).sum) := by
     show _ = _
     rw [htk, List.map_append, List.sum_append, hX.out, cap_add]
     simp
    generalize ks[i] = kk at *
    obtain ⟨y, hy⟩ : ∃ y, cap257 (pl1 (E.map PI.toP) kk) = y := ⟨_, rfl⟩
    have hyb : y ≤ 257 := by rw [← hy]; unfold cap257; split <;> omega
    rw [hy] at hcall HNX
    have HC := hide hcall
    have hl1 : decide ((i : Int) < (kz.length : Int)) = true := by simp; omega
    clear hcall hy htk hzi hkc hb2 hX
    by_cases hs : x + y < 257
    ·have HNX2 : Hid (x + y = cap257 ((ks.take (i + 1)).map (pl1 (E.map PI.toP))).sum) := by
      show _ = _
      rw [← HNX.out]; unfold cap257; rw [if_pos hs]
     have hd1 : decide ((x : Int) + (y : Int) < 257) = true := by simp; omega
     have hd2 : decide ((257 : Int) < (x : Int) + (y : Int)) = false := by simp; omega
     go_wp2_with (go_at_call 67; (with_reducible refine (HC.out).mono ?_); rintro en w2 ⟨rfl, hb3⟩; have HB3 := Lib.hid (hB.out.trans (hb3.mono hB.out.size)); have HP3 := Lib.hid (hP.out.below hb3 hwz); clear hb3)
     all_goals
      go_roundw
      case rel => exact ⟨i + 1, x + y, by omega, by go_num, by first | go_num | exact congrArg (Value.int .i64) (by omega), by omega, HNX2, HB3, HP3⟩
      case measure => simp [intOf]; omega
    ·have HNX2 : Hid (257 = cap257 ((ks.take (i + 1)).map (pl1 (E.map PI.toP))).sum) := by
      show _ = _
      rw [← HNX.out]; unfold cap257; rw [if_neg hs]
     have hs2 : 257 ≤ x + y := by omega
     go_wp2_with (go_at_call 67; (with_reducible refine (HC.out).mono ?_); rintro en w2 ⟨rfl, hb3⟩; have HB3 := Lib.hid (hB.out.trans (hb3.mono hB.out.size)); have HP3 := Lib.hid (hP.out.below hb3 hwz); clear hb3)
     all_goals
      go_roundw
      case rel => exact ⟨i + 1, 257, by omega, by go_num, by exact congrArg (Value.int .i64) (by omega), by omega, HNX2, HB3, HP3⟩
      case measure => simp [intOf]; omega
   ·obtain rfl : i = kz.length := by omega
    have HS : Hid (x = cap257 (ks.map (pl1 (E.map PI.toP))).sum) := by
     have h1 := hX.out
     rwa [List.take_of_length_le (by rw [HKL.out]; exact Nat.le_refl _)] at h1
    have hl1 : decide ((kz.length : Int) < (kz.length : Int)) = false := by simp
    have HR : Hid (cap257 (x * oftenI kd lo hi) = cap257 (pl1 (E.map PI.toP) k)) := by
     show _ = _
     rw [HPL.out, if_neg h1, Nat.zero_add, HS.out, cap_mul _ _ HOF.out.1, Nat.mul_comm]
    have ho20 := HOF.out.2
    have HB2 := hB
    clear hX hlt
    rcases hkind with rfl | rfl | rfl | rfl
    ·omega
    ·have HQ : Hid (cap257 x = cap257 (pl1 (E.map PI.toP) k)) := by
      have h := HR.out
      rwa [show oftenI 2 lo hi = 1 from rfl, Nat.mul_one] at h
     go_wp2
     go_ret
     refine ⟨?_, HB2.out⟩
     rw [← HQ.out]
     exact congrArg (fun z => Ending.returned (.int .i64 z)) (cap_fin' _ (by omega))
    ·have HQ : Hid (cap257 x = cap257 (pl1 (E.map PI.toP) k)) := by
      have h := HR.out
      rwa [show oftenI 3 lo hi = 1 from rfl, Nat.mul_one] at h
     go_wp2
     go_ret
     refine ⟨?_, HB2.out⟩
     rw [← HQ.out]
     exact congrArg (fun z => Ending.returned (.int .i64 z)) (cap_fin' _ (by omega))
    ·by_cases hh : hi < 0
     ·have hd : decide (hi < 0) = true := by simpa using hh
      obtain ⟨o, ho⟩ : ∃ o : Nat, (o : Int) = max lo 1 := ⟨(max lo 1).toNat, by omega⟩
      have hoo : oftenI 4 lo hi = o := by unfold oftenI; rw [if_pos rfl, if_pos hh]; omega
      have HQ : Hid (cap257 (x * o) = cap257 (pl1 (E.map PI.toP) k)) := by rw [← hoo]; exact HR
      have HOO := Lib.hid ho
      have hob : o ≤ 20 := by omega
      have hxo : x * o ≤ 257 * 20 := Nat.mul_le_mul hx hob
      have hxi : (x : Int) * max lo 1 = ((x * o : Nat) : Int) := by rw [← ho]; push_cast; rfl
      have hw : IntKind.i64.wrap ((x : Int) * max lo 1) = ((x * o : Nat) : Int) := by rw [hxi]; exact IntWalk.i64_in _ (by omega)
      have hw2 : wrap64 ((x : Int) * max lo 1) = ((x * o : Nat) : Int) := by rw [hxi]; unfold wrap64; omega
      generalize x * o = z at *
      clear ho hoo
      go_wp2
      go_ret
      refine ⟨?_, HB2.out⟩
      rw [← HQ.out]
      exact congrArg (fun z => Ending.returned (.int .i64 z)) (cap_fin' _ (by omega))
     ·have hd : decide (hi < 0) = false := by simpa using hh
      have hoo : oftenI 4 lo hi = hi.toNat := by unfold oftenI; rw [if_pos rfl, if_neg hh]
      have hob : hi.toNat ≤ 20 := by omega
      have hxo : x * hi.toNat ≤ 257 * 20 := Nat.mul_le_mul hx hob
      have hxi : (x : Int) * hi = ((x * hi.toNat : Nat) : Int) := by push_cast; rw [Int.toNat_of_nonneg (by omega)]
      obtain ⟨z, hz⟩ : ∃ z, x * hi.toNat = z := ⟨_, rfl⟩
      rw [hz] at hxi hxo
      have HQ : Hid (cap257 z = cap257 (pl1 (E.map PI.toP) k)) := by have := HR.out; rwa [hoo, hz] at this
      have hw : IntKind.i64.wrap ((x : Int) * hi) = (z : Int) := by rw [hxi]; exact IntWalk.i64_in _ (by omega)
      have hw2 : wrap64 ((x : Int) * hi) = (z : Int) := by rw [hxi]; unfold wrap64; omega
      clear hoo hob hxi hz hh hn3
      go_wp2
      go_ret
      refine ⟨?_, HB2.out⟩
      rw [← HQ.out]
      exact congrArg (fun z => Ending.returned (.int .i64 z)) (cap_fin' z (by omega))
theorem many_any (w0 : World) (A : Option Addr) (n c : Nat) (E : List PI) (hE : PR w0 A n E) (hX : Expr E) (hsm : ∀ p ∈ E, p.kids.length ≤ 10000) (hn : n ≤ 100000) : ∀ f, ManyAt w0 A n c E f
 | 0 => fun k w h => by omega
 | f + 1 => many_step w0 A n c E hE hX hsm hn f (many_any w0 A n c E hE hX hsm hn f)
end Go.Proofs.YtnbchikiiipejaaGreatDoor.Nf
