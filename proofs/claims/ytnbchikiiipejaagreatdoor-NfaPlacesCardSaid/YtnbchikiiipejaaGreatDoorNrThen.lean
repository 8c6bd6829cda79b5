/- Walk of the reference of nfa: or. -/
import Derived.Test.YtnbchikiiipejaaGreatDoorNfH
import Derived.OrdersHeld
import Derived.Deep.RegionHeld
set_option linter.unusedVariables false
set_option maxRecDepth 100000
set_option maxHeartbeats 8000000
namespace Go.Proofs.YtnbchikiiipejaaGreatDoor.Nf
open Go.RowKit Mem
open Bg (Bag bagV Tab)
def orL : List Int → List Int → List Int
 | [], b => b
 | x :: a, [] => x :: a
 | x :: a, y :: b => if x < y then x :: orL a (y :: b) else if x = y then y :: orL a b else y :: orL (x :: a) b
termination_by a b => a.length + b.length
theorem orL_nil (a : List Int) : orL a [] = a := by cases a <;> simp [orL]
theorem orL_mem : ∀ (a b : List Int) (z : Int), z ∈ orL a b ↔ (z ∈ a ∨ z ∈ b)
 | [], b, z => by simp [orL]
 | x :: a, [], z => by simp [orL]
 | x :: a, y :: b, z => by
  rw [orL]
  split
  ·rw [List.mem_cons, orL_mem a (y :: b) z, List.mem_cons, List.mem_cons, or_assoc]
  ·split
   ·rename_i h
    rw [List.mem_cons, orL_mem a b z, List.mem_cons, List.mem_cons, h]
    constructor
    ·rintro (h | h | h)
     ·exact .inl (.inl h)
     ·exact .inl (.inr h)
     ·exact .inr (.inr h)
    ·rintro ((h | h) | (h | h))
     ·exact .inl h
     ·exact .inr (.inl h)
     ·exact .inl h
     ·exact .inr (.inr h)
   ·rw [List.mem_cons, orL_mem (x :: a) b z, List.mem_cons, List.mem_cons]
    constructor
    ·rintro (h | h | h)
     ·exact .inr (.inl h)
     ·exact .inl h
     ·exact .inr (.inr h)
    ·rintro (h | (h | h))
     ·exact .inr (.inl h)
     ·exact .inl h
     ·exact .inr (.inr h)
termination_by a b => a.length + b.length
theorem orL_rise : ∀ (a b : List Int), a.Pairwise (· < ·) → b.Pairwise (· < ·) → (orL a b).Pairwise (· < ·)
 | [], b, _, hb => by simpa [orL] using hb
 | x :: a, [], ha, _ => by simpa [orL] using ha
 | x :: a, y :: b, ha, hb => by
  have ha' := List.pairwise_cons.1 ha
  have hb' := List.pairwise_cons.1 hb
  rw [orL]
  split
  ·rename_i h
   refine List.pairwise_cons.2 ⟨fun z hz => ?_, orL_rise a (y :: b) ha'.2 hb⟩
   rcases (orL_mem _ _ _).1 hz with g | g
   ·exact ha'.1 z g
   ·rcases List.mem_cons.1 g with rfl | g
    ·exact h
    ·have := hb'.1 z g; omega
  ·split
   ·rename_i h1 h
    refine List.pairwise_cons.2 ⟨fun z hz => ?_, orL_rise a b ha'.2 hb'.2⟩
    rcases (orL_mem _ _ _).1 hz with g | g
    ·have := ha'.1 z g; omega
    ·exact hb'.1 z g
   ·rename_i h1 h2
    refine List.pairwise_cons.2 ⟨fun z hz => ?_, orL_rise (x :: a) b ha hb'.2⟩
    rcases (orL_mem _ _ _).1 hz with g | g
    ·rcases List.mem_cons.1 g with rfl | g
     ·omega
     ·have := ha'.1 z g; omega
    ·exact hb'.1 z g
termination_by a b => a.length + b.length
theorem rise_ext : ∀ {a b : List Int}, a.Pairwise (· < ·) → b.Pairwise (· < ·) → (∀ z, z ∈ a ↔ z ∈ b) → a = b
 | [], [], _, _, _ => rfl
 | [], y :: b, _, _, h => by have := (h y).2 List.mem_cons_self; simp at this
 | x :: a, [], _, _, h => by have := (h x).1 List.mem_cons_self; simp at this
 | x :: a, y :: b, ha, hb, h => by
  have ha' := List.pairwise_cons.1 ha
  have hb' := List.pairwise_cons.1 hb
  have hxy : x = y := by
   rcases List.mem_cons.1 ((h x).1 List.mem_cons_self) with g | g
   ·exact g
   ·rcases List.mem_cons.1 ((h y).2 List.mem_cons_self) with g2 | g2
    ·exact g2.symm
    ·have := hb'.1 x g; have := ha'.1 y g2; omega
  subst hxy
  congr 1
  refine rise_ext ha'.2 hb'.2 fun z => ?_
  have hz := h z
  simp only [List.mem_cons] at hz
  constructor
  ·intro g
   rcases hz.1 (.inr g) with g2 | g2
   ·have := ha'.1 z g; omega
   ·exact g2
  ·intro g
   rcases hz.2 (.inr g) with g2 | g2
   ·have := hb'.1 z g; omega
   ·exact g2
theorem list_rise (x : Bag) : x.list.Pairwise (· < ·) := by
 unfold Bag.list
 rw [List.pairwise_map]
 refine List.Pairwise.imp (R := (· < ·)) (fun h => by simpa using h) ?_
 exact List.Pairwise.filter _ List.pairwise_lt_range
theorem orL_bags (x y : Bag) : orL x.list y.list = (x.orB y).list := by
 refine rise_ext (orL_rise _ _ (list_rise x) (list_rise y)) (list_rise _) fun z => ?_
 rw [orL_mem, Bg.mem_list, Bg.mem_list, Bg.mem_list]
 unfold Bag.hasI
 cases Bg.inB z <;> simp [has_or]
theorem Ent.form1 {w : World} {base : Nat} {e : TypeId} {size n : Nat} {v : Value} {xs : List Value} (h : w.ownsRow base e size v n xs) : ∃ A c, v = .slice A n c := by
 rcases h.2 with ⟨rfl, rfl⟩ | ⟨g, cap, cur, rfl, _⟩
 ·exact ⟨none, 0, rfl⟩
 ·exact ⟨_, _, rfl⟩
def IsSl' (W : World) (zs : List Int) (e : Ending) (w' : World) : Prop := ∃ A c, e = .returned (.slice A zs.length c) ∧ w'.ownsRow W.heap.size 3 1 (.slice A zs.length c) zs.length (zs.map (Value.int .i64)) ∧ (∀ z ∈ zs, (Lit.int .i64 z).wf = true) ∧ Below W.heap.size W w'
theorem inf64 : (Tryz.prog.info? 3).map (fun i => (i.zero, i.size, i.bytes)) = some (some (.int .i64 0), 1, 8) := by kernel_rfl
theorem one_row (W : World) (z : Int) (hz : (Lit.int .i64 z).wf = true) : Row .i64 (W.alloc (.cells #[.int .i64 z] 3)) (some ⟨W.heap.size, 0, none⟩) 1 [z] :=
 row_block (heap_alloc_new W _) [z] rfl 1 rfl (fun y hy => by simp at hy; subst hy; exact hz)
theorem drop_at {l : List Int} {i : Nat} (h : i < l.length) : l.drop i = l.getD i 0 :: l.drop (i + 1) := by
 rw [List.drop_eq_getElem_cons h, List.getD_eq_getElem?_getD, List.getElem?_eq_getElem h]; rfl
theorem or_any (A A' : Option Addr) (n m c c' : Nat) (za zb : List Int) (w : World) (h1 : Row .i64 w A n za) (h2 : Row .i64 w A' m zb) (hn : n ≤ 1000) (hm : m ≤ 1000) :
  Calls Tryz.prog 82 #[.slice A n c, .slice A' m c'] w (IsSl' w (orL za zb)) := by
 obtain ⟨i0, hi, hz, hs1, hs2⟩ := info_parts inf64
 have H1 := Lib.hid h1
 have H2 := Lib.hid h2
 have hla := h1.1
 have hlb := h2.1
 have HLA := Lib.hid hla
 have HLB := Lib.hid hlb
 have HWA := Lib.hid h1.2.1
 have HWB := Lib.hid h2.2.1
 clear h1 h2 hla hlb
 go_enter Tryz.func82, Tryz.ntmps82
 go_wp2_with fail
 go_loopw [5, 6, 7] (fun v iv kv wr => ∃ (i k : Nat) (A1 : Option Addr) (c1 ln : Nat) (out : List Int), v = .slice A1 ln c1 ∧ iv = .int .i64 i ∧ kv = .int .i64 k ∧ i ≤ n ∧ k ≤ m ∧ ln ≤ i + k ∧ Hid (ln = out.length) ∧ Hid (out ++ orL (za.drop i) (zb.drop k) = orL za zb) ∧ Hid (wr.ownsRow w.heap.size 3 1 (.slice A1 ln c1) ln (out.map (Value.int .i64))) ∧ Hid (Below w.heap.size w wr)) (fun _ iv kv _ => (n - (intOf iv).toNat) + (m - (intOf kv).toNat))
 case atStart => exact ⟨0, 0, none, 0, 0, [], rfl, rfl, rfl, by omega, by omega, by omega, Lib.hid rfl, Lib.hid (by simp), Lib.hid (World.ownsRow_nil _ _ _ _), Lib.hid (Below.refl _ _)⟩
 case round =>
  obtain ⟨i, k, A1, c1, ln, out, rfl, rfl, rfl, hi1, hk1, hln, hL, hQ, hO, hB⟩ := hrel
  by_cases hia : i < n
  ·by_cases hkb : k < m
   ·have hza : za.drop i = za.getD i 0 :: za.drop (i + 1) := drop_at (by have := HLA.out; omega)
    have hwx := Row.wf_getD H1.out i hia
    obtain ⟨ga, oa, rfl, hca⟩ := (H1.out.below hB.out).2.2 (by omega)
    have xa := hca i hia
    obtain ⟨x, hx⟩ : ∃ x, za.getD i 0 = x := ⟨_, rfl⟩
    rw [hx] at hza hwx xa
    have HZA := Lib.hid hza
    have HWX := Lib.hid hwx
    clear hca hx hza hwx
    have hzb : zb.drop k = zb.getD k 0 :: zb.drop (k + 1) := drop_at (by have := HLB.out; omega)
    have hwy := Row.wf_getD H2.out k hkb
    obtain ⟨gb, ob, rfl, hcb⟩ := (H2.out.below hB.out).2.2 (by omega)
    have yb := hcb k hkb
    obtain ⟨y, hy⟩ : ∃ y, zb.getD k 0 = y := ⟨_, rfl⟩
    rw [hy] at hzb hwy yb
    have HZB := Lib.hid hzb
    have HWY := Lib.hid hwy
    clear hcb hy hzb hwy
    have ni1 : decide ((i : Int) < (n : Int)) = true := by first | (simp; omega) | simp
    have nk1 : decide ((k : Int) < (m : Int)) = true := by first | (simp; omega) | simp
    have nk2 : ((k : Int) == (m : Int)) = false := by first | (simp; omega) | simp
    have nk3 : (k == m) = false := by first | (simp; omega) | simp
    have HO1 : Hid (wr.drew.ownsRow w.heap.size 3 1 (.slice A1 ln c1) ln (out.map (Value.int .i64))) := hO
    have HB1 : Hid (Below w.heap.size w wr.drew) := Lib.hid (hB.out.trans (below_drewN (Below.refl _ _) 1))
    go_wp2_with fail
    refine wp_region_held_drew (S := fun W => W.cell? ⟨ga, oa + i, none⟩ = some (.int .i64 x) ∧ W.cell? ⟨gb, ob + k, none⟩ = some (.int .i64 y)) (by kernel_rfl) (⟨xa, yb⟩) (fun hHeld => ?_)
    refine tk 0 (v := ?_) rfl (by kernel_rfl) (fun _ _ _ h => h) ?_ hHeld ?_
    rotate_left
    ·(intro W hSw; (try dsimp only at hSw); go_simp; try with_reducible rfl)
    refine tk 1 (v := ?_) rfl (by kernel_rfl) (fun _ _ _ h => h) ?_ hHeld ?_
    rotate_left
    ·(intro W hSw; (try dsimp only at hSw); go_simp; try with_reducible rfl)
    refine tk 2 (v := ?_) rfl (by kernel_rfl) (fun _ _ _ h => h) ?_ hHeld ?_
    rotate_left
    ·(intro W hSw; (try dsimp only at hSw); go_simp; try with_reducible rfl)
    refine tk 3 (v := ?_) rfl (by kernel_rfl) (fun _ _ _ h => h) ?_ hHeld ?_
    rotate_left
    ·(intro W hSw; (try dsimp only at hSw); go_simp; try with_reducible rfl)
    refine tk 4 (v := ?_) rfl (by kernel_rfl) (fun _ _ _ h => h) ?_ hHeld ?_
    rotate_left
    ·(intro W hSw; (try dsimp only at hSw); go_simp; try with_reducible rfl)
    refine tk 5 (v := ?_) rfl (by kernel_rfl) (fun _ _ _ h => h) ?_ hHeld ?_
    rotate_left
    ·(intro W hSw; (try dsimp only at hSw); go_simp; try with_reducible rfl)
    refine tk 6 (v := ?_) rfl (by kernel_rfl) (fun _ _ _ h => h) ?_ hHeld ?_
    rotate_left
    ·(intro W hSw; (try dsimp only at hSw); go_simp; try with_reducible rfl)
    refine tk 7 (v := ?_) rfl (by kernel_rfl) (fun _ _ _ h => h) ?_ hHeld ?_
    rotate_left
    ·(intro W hSw; (try dsimp only at hSw); go_simp; try with_reducible rfl)
    refine tk 8 (v := ?_) rfl (by kernel_rfl) (fun _ _ _ h => h) ?_ hHeld ?_
    rotate_left
    ·(intro W hSw; (try dsimp only at hSw); go_simp; try with_reducible rfl)
    refine tk 9 (v := ?_) rfl (by kernel_rfl) (fun _ _ _ h => h) ?_ hHeld ?_
    rotate_left
    ·(intro W hSw; (try dsimp only at hSw); go_simp; try with_reducible rfl)
    refine tk 10 (v := ?_) rfl (by kernel_rfl) (fun _ _ _ h => h) ?_ hHeld ?_
    rotate_left
    ·(intro W hSw; (try dsimp only at hSw); go_simp; try with_reducible rfl)
    refine tk 11 (v := ?_) rfl (by kernel_rfl) (fun _ _ _ h => h) ?_ hHeld ?_
    rotate_left
    ·(intro W hSw; (try dsimp only at hSw); go_simp; try with_reducible rfl)
    refine tk 12 (v := ?_) rfl (by kernel_rfl) (fun _ _ _ h => h) ?_ hHeld ?_
    rotate_left
    ·(intro W hSw; (try dsimp only at hSw); go_simp; try with_reducible rfl)
    refine tk 13 (v := ?_) rfl (by kernel_rfl) (fun _ _ _ h => h) ?_ hHeld ?_
    rotate_left
    ·(intro W hSw; (try dsimp only at hSw); go_simp; try with_reducible rfl)
    refine tk 14 (v := ?_) rfl (by kernel_rfl) (fun _ _ _ h => h) ?_ hHeld ?_
    rotate_left
    ·(intro W hSw; (try dsimp only at hSw); go_simp; try with_reducible rfl)
    refine tk 15 (v := ?_) rfl (by kernel_rfl) (fun _ _ _ h => h) ?_ hHeld ?_
    rotate_left
    ·(intro W hSw; (try dsimp only at hSw); go_simp; try with_reducible rfl)
    refine tk 16 (v := ?_) rfl (by kernel_rfl) (fun _ _ _ h => h) ?_ hHeld ?_
    rotate_left
    ·(intro W hSw; (try dsimp only at hSw); go_simp; try with_reducible rfl)
    refine tk 17 (v := ?_) rfl (by kernel_rfl) (fun _ _ _ h => h) ?_ hHeld ?_
    rotate_left
    ·(intro W hSw; (try dsimp only at hSw); go_simp; try with_reducible rfl)
    refine tk 18 (v := ?_) rfl (by kernel_rfl) (fun _ _ _ h => h) ?_ hHeld ?_
    rotate_left
    ·(intro W hSw; (try dsimp only at hSw); go_simp; try with_reducible rfl)
    refine tk 19 (v := ?_) rfl (by kernel_rfl) (fun _ _ _ h => h) ?_ hHeld ?_
    rotate_left
    ·(intro W hSw; (try dsimp only at hSw); go_simp; try with_reducible rfl)
    refine tk 20 (v := ?_) rfl (by kernel_rfl) (fun _ _ _ h => h) ?_ hHeld ?_
    rotate_left
    ·(intro W hSw; (try dsimp only at hSw); go_simp; try with_reducible rfl)
    refine wpAnyH_done (by kernel_rfl) ?_ _
    clear hHeld
    replace xa : wr.drew.cell? ⟨ga, oa + i, none⟩ = some (.int .i64 x) := xa
    replace yb : wr.drew.cell? ⟨gb, ob + k, none⟩ = some (.int .i64 y) := yb
    generalize wr.drew = W1 at HO1 HB1 xa yb ⊢
    go_simp
    rename_i KK hKK
    refine hKK _ _ ?_
    clear hKK
    by_cases hxy : x < y
    ·have tx : decide (x < y) = true := by simpa using hxy
     have HWF := HWX
     go_wp2_with (at_builtin; (refine wpList_app rfl (.tmp 39) (.tmp 44) 39 rfl .i64 w.heap.size 3 i0 8 Tryz.underlying39 hi hz hs1 hs2 (by omega) _ ln out (by rfl) (World.ownsRow.alloc HO1.out _) (some ⟨W1.heap.size, 0, none⟩) 1 1 [x] (by rfl) (one_row W1 x HWF.out) (by omega) (by have := HB1.out.size; simp; omega) ?_); intro v' w2 hown hg hat; obtain ⟨A2, c2, hv2⟩ := Ent.form1 hown; subst hv2; have HOW := Lib.hid hown; have HB3 : Hid (Below w.heap.size w w2) := (HB1.out.alloc HB1.out.size _).grown hg (by have := HB1.out.size; simp; omega) (fun g hg => (HO1.out.lt g hg).1); clear hown hg hat)
     have HQ3 : Hid ((out ++ [x]) ++ orL (za.drop (i + 1)) (zb.drop (k)) = orL za zb) := by
      show _ = _
      rw [← hQ.out, List.append_assoc]
      rw [HZA.out, HZB.out, orL, if_pos hxy]
      rfl
     go_roundw
     case rel => exact ⟨i + 1, k, A2, c2, ln + 1, out ++ [x], rfl, by go_num, by go_num, by omega, by omega, by omega, Lib.hid (by rw [List.length_append, ← hL.out]; rfl), HQ3, HOW, HB3⟩
     case measure => simp [intOf]; omega
    ·have tx : decide (x < y) = false := by simpa using hxy
     have HWF := HWY
     have HO2 : Hid (W1.drew.ownsRow w.heap.size 3 1 (.slice A1 ln c1) ln (out.map (Value.int .i64))) := HO1
     have HB2 : Hid (Below w.heap.size w W1.drew) := Lib.hid (HB1.out.trans (below_drewN (Below.refl _ _) 1))
     go_wp2_with fail
     refine wp_region_held_drew (S := fun W => W.cell? ⟨ga, oa + i, none⟩ = some (.int .i64 x) ∧ W.cell? ⟨gb, ob + k, none⟩ = some (.int .i64 y)) (by kernel_rfl) (⟨xa, yb⟩) (fun hHeld => ?_)
     refine tk 0 (v := ?_) rfl (by kernel_rfl) (fun _ _ _ h => h) ?_ hHeld ?_
     rotate_left
     ·(intro W hSw; (try dsimp only at hSw); go_simp; try with_reducible rfl)
     refine tk 1 (v := ?_) rfl (by kernel_rfl) (fun _ _ _ h => h) ?_ hHeld ?_
     rotate_left
     ·(intro W hSw; (try dsimp only at hSw); go_simp; try with_reducible rfl)
     refine tk 2 (v := ?_) rfl (by kernel_rfl) (fun _ _ _ h => h) ?_ hHeld ?_
     rotate_left
     ·(intro W hSw; (try dsimp only at hSw); go_simp; try with_reducible rfl)
     refine tk 3 (v := ?_) rfl (by kernel_rfl) (fun _ _ _ h => h) ?_ hHeld ?_
     rotate_left
     ·(intro W hSw; (try dsimp only at hSw); go_simp; try with_reducible rfl)
     refine tk 4 (v := ?_) rfl (by kernel_rfl) (fun _ _ _ h => h) ?_ hHeld ?_
     rotate_left
     ·(intro W hSw; (try dsimp only at hSw); go_simp; try with_reducible rfl)
     refine tk 5 (v := ?_) rfl (by kernel_rfl) (fun _ _ _ h => h) ?_ hHeld ?_
     rotate_left
     ·(intro W hSw; (try dsimp only at hSw); go_simp; try with_reducible rfl)
     refine tk 6 (v := ?_) rfl (by kernel_rfl) (fun _ _ _ h => h) ?_ hHeld ?_
     rotate_left
     ·(intro W hSw; (try dsimp only at hSw); go_simp; try with_reducible rfl)
     refine tk 7 (v := ?_) rfl (by kernel_rfl) (fun _ _ _ h => h) ?_ hHeld ?_
     rotate_left
     ·(intro W hSw; (try dsimp only at hSw); go_simp; try with_reducible rfl)
     refine tk 8 (v := ?_) rfl (by kernel_rfl) (fun _ _ _ h => h) ?_ hHeld ?_
     rotate_left
     ·(intro W hSw; (try dsimp only at hSw); go_simp; try with_reducible rfl)
     refine tk 9 (v := ?_) rfl (by kernel_rfl) (fun _ _ _ h => h) ?_ hHeld ?_
     rotate_left
     ·(intro W hSw; (try dsimp only at hSw); go_simp; try with_reducible rfl)
     refine tk 10 (v := ?_) rfl (by kernel_rfl) (fun _ _ _ h => h) ?_ hHeld ?_
     rotate_left
     ·(intro W hSw; (try dsimp only at hSw); go_simp; try with_reducible rfl)
     refine tk 11 (v := ?_) rfl (by kernel_rfl) (fun _ _ _ h => h) ?_ hHeld ?_
     rotate_left
     ·(intro W hSw; (try dsimp only at hSw); go_simp; try with_reducible rfl)
     refine tk 12 (v := ?_) rfl (by kernel_rfl) (fun _ _ _ h => h) ?_ hHeld ?_
     rotate_left
     ·(intro W hSw; (try dsimp only at hSw); go_simp; try with_reducible rfl)
     refine tk 13 (v := ?_) rfl (by kernel_rfl) (fun _ _ _ h => h) ?_ hHeld ?_
     rotate_left
     ·(intro W hSw; (try dsimp only at hSw); go_simp; try with_reducible rfl)
     refine tk 14 (v := ?_) rfl (by kernel_rfl) (fun _ _ _ h => h) ?_ hHeld ?_
     rotate_left
     ·(intro W hSw; (try dsimp only at hSw); go_simp; try with_reducible rfl)
     refine wpAnyH_done (by kernel_rfl) ?_ _
     clear hHeld
     replace yb : W1.drew.cell? ⟨gb, ob + k, none⟩ = some (.int .i64 y) := yb
     clear xa
     generalize W1.drew = W2 at HO2 HB2 yb ⊢
     go_simp
     rename_i KK hKK
     refine hKK _ _ ?_
     clear hKK
     by_cases hxe : x = y
     ·have te : (x == y) = true := by simpa using hxe
      go_wp2_with (at_builtin; (refine wpList_app rfl (.tmp 65) (.tmp 70) 39 rfl .i64 w.heap.size 3 i0 8 Tryz.underlying39 hi hz hs1 hs2 (by omega) _ ln out (by rfl) (World.ownsRow.alloc HO2.out _) (some ⟨W2.heap.size, 0, none⟩) 1 1 [y] (by rfl) (one_row W2 y HWF.out) (by omega) (by have := HB2.out.size; simp; omega) ?_); intro v' w2 hown hg hat; obtain ⟨A2, c2, hv2⟩ := Ent.form1 hown; subst hv2; have HOW := Lib.hid hown; have HB3 : Hid (Below w.heap.size w w2) := (HB2.out.alloc HB2.out.size _).grown hg (by have := HB2.out.size; simp; omega) (fun g hg => (HO2.out.lt g hg).1); clear hown hg hat)
      have HQ3 : Hid ((out ++ [y]) ++ orL (za.drop (i + 1)) (zb.drop (k + 1)) = orL za zb) := by
       show _ = _
       rw [← hQ.out, List.append_assoc]
       rw [HZA.out, HZB.out, orL, if_neg (show ¬ x < y by omega), if_pos hxe]
       rfl
      go_roundw
      case rel => exact ⟨i + 1, k + 1, A2, c2, ln + 1, out ++ [y], rfl, by go_num, by go_num, by omega, by omega, by omega, Lib.hid (by rw [List.length_append, ← hL.out]; rfl), HQ3, HOW, HB3⟩
      case measure => simp [intOf]; omega
     ·have te : (x == y) = false := by simpa using hxe
      go_wp2_with (at_builtin; (refine wpList_app rfl (.tmp 65) (.tmp 70) 39 rfl .i64 w.heap.size 3 i0 8 Tryz.underlying39 hi hz hs1 hs2 (by omega) _ ln out (by rfl) (World.ownsRow.alloc HO2.out _) (some ⟨W2.heap.size, 0, none⟩) 1 1 [y] (by rfl) (one_row W2 y HWF.out) (by omega) (by have := HB2.out.size; simp; omega) ?_); intro v' w2 hown hg hat; obtain ⟨A2, c2, hv2⟩ := Ent.form1 hown; subst hv2; have HOW := Lib.hid hown; have HB3 : Hid (Below w.heap.size w w2) := (HB2.out.alloc HB2.out.size _).grown hg (by have := HB2.out.size; simp; omega) (fun g hg => (HO2.out.lt g hg).1); clear hown hg hat)
      have HQ3 : Hid ((out ++ [y]) ++ orL (za.drop (i)) (zb.drop (k + 1)) = orL za zb) := by
       show _ = _
       rw [← hQ.out, List.append_assoc]
       rw [HZA.out, HZB.out, orL, if_neg (show ¬ x < y by omega), if_neg hxe, ← HZA.out]
       rfl
      go_roundw
      case rel => exact ⟨i, k + 1, A2, c2, ln + 1, out ++ [y], rfl, by go_num, by go_num, by omega, by omega, by omega, Lib.hid (by rw [List.length_append, ← hL.out]; rfl), HQ3, HOW, HB3⟩
      case measure => simp [intOf]; omega
   ·have hza : za.drop i = za.getD i 0 :: za.drop (i + 1) := drop_at (by have := HLA.out; omega)
    have hwx := Row.wf_getD H1.out i hia
    obtain ⟨ga, oa, rfl, hca⟩ := (H1.out.below hB.out).2.2 (by omega)
    have xa := hca i hia
    obtain ⟨x, hx⟩ : ∃ x, za.getD i 0 = x := ⟨_, rfl⟩
    rw [hx] at hza hwx xa
    have HZA := Lib.hid hza
    have HWX := Lib.hid hwx
    clear hca hx hza hwx
    obtain rfl : k = m := by omega
    have ni1 : decide ((i : Int) < (n : Int)) = true := by first | (simp; omega) | simp
    have nk1 : decide ((k : Int) < (k : Int)) = false := by first | (simp; omega) | simp
    have nk2 : ((k : Int) == (k : Int)) = true := by first | (simp; omega) | simp
    have nk3 : (k == k) = true := by first | (simp; omega) | simp
    have HO1 : Hid (wr.drew.ownsRow w.heap.size 3 1 (.slice A1 ln c1) ln (out.map (Value.int .i64))) := hO
    have HB1 : Hid (Below w.heap.size w wr.drew) := Lib.hid (hB.out.trans (below_drewN (Below.refl _ _) 1))
    have HWF := HWX
    go_wp2_with fail
    refine wp_region_held_drew (S := fun _ => True) (by kernel_rfl) (trivial) (fun hHeld => ?_)
    refine tk 0 (v := ?_) rfl (by kernel_rfl) (fun _ _ _ h => h) ?_ hHeld ?_
    rotate_left
    ·(intro W hSw; (try dsimp only at hSw); go_simp; try with_reducible rfl)
    refine tk 1 (v := ?_) rfl (by kernel_rfl) (fun _ _ _ h => h) ?_ hHeld ?_
    rotate_left
    ·(intro W hSw; (try dsimp only at hSw); go_simp; try with_reducible rfl)
    refine tk 2 (v := ?_) rfl (by kernel_rfl) (fun _ _ _ h => h) ?_ hHeld ?_
    rotate_left
    ·(intro W hSw; (try dsimp only at hSw); go_simp; try with_reducible rfl)
    refine tk 3 (v := ?_) rfl (by kernel_rfl) (fun _ _ _ h => h) ?_ hHeld ?_
    rotate_left
    ·(intro W hSw; (try dsimp only at hSw); go_simp; try with_reducible rfl)
    refine tk 4 (v := ?_) rfl (by kernel_rfl) (fun _ _ _ h => h) ?_ hHeld ?_
    rotate_left
    ·(intro W hSw; (try dsimp only at hSw); go_simp; try with_reducible rfl)
    refine wpAnyH_take (i := 5) (v := undef) rfl (by kernel_rfl) (by kernel_rfl) (by kernel_rfl) (fun _ _ _ h => h) (Or.inr ⟨by kernel_rfl, rfl⟩) hHeld ?_
    refine wpAnyH_take (i := 6) (v := undef) rfl (by kernel_rfl) (by kernel_rfl) (by kernel_rfl) (fun _ _ _ h => h) (Or.inr ⟨by kernel_rfl, rfl⟩) hHeld ?_
    refine wpAnyH_take (i := 7) (v := undef) rfl (by kernel_rfl) (by kernel_rfl) (by kernel_rfl) (fun _ _ _ h => h) (Or.inr ⟨by kernel_rfl, rfl⟩) hHeld ?_
    refine wpAnyH_take (i := 8) (v := undef) rfl (by kernel_rfl) (by kernel_rfl) (by kernel_rfl) (fun _ _ _ h => h) (Or.inr ⟨by kernel_rfl, rfl⟩) hHeld ?_
    refine wpAnyH_take (i := 9) (v := undef) rfl (by kernel_rfl) (by kernel_rfl) (by kernel_rfl) (fun _ _ _ h => h) (Or.inr ⟨by kernel_rfl, rfl⟩) hHeld ?_
    refine wpAnyH_take (i := 10) (v := undef) rfl (by kernel_rfl) (by kernel_rfl) (by kernel_rfl) (fun _ _ _ h => h) (Or.inr ⟨by kernel_rfl, rfl⟩) hHeld ?_
    refine wpAnyH_take (i := 11) (v := undef) rfl (by kernel_rfl) (by kernel_rfl) (by kernel_rfl) (fun _ _ _ h => h) (Or.inr ⟨by kernel_rfl, rfl⟩) hHeld ?_
    refine wpAnyH_take (i := 12) (v := undef) rfl (by kernel_rfl) (by kernel_rfl) (by kernel_rfl) (fun _ _ _ h => h) (Or.inr ⟨by kernel_rfl, rfl⟩) hHeld ?_
    refine wpAnyH_take (i := 13) (v := undef) rfl (by kernel_rfl) (by kernel_rfl) (by kernel_rfl) (fun _ _ _ h => h) (Or.inr ⟨by kernel_rfl, rfl⟩) hHeld ?_
    refine wpAnyH_take (i := 14) (v := undef) rfl (by kernel_rfl) (by kernel_rfl) (by kernel_rfl) (fun _ _ _ h => h) (Or.inr ⟨by kernel_rfl, rfl⟩) hHeld ?_
    refine wpAnyH_take (i := 15) (v := undef) rfl (by kernel_rfl) (by kernel_rfl) (by kernel_rfl) (fun _ _ _ h => h) (Or.inr ⟨by kernel_rfl, rfl⟩) hHeld ?_
    refine wpAnyH_take (i := 16) (v := undef) rfl (by kernel_rfl) (by kernel_rfl) (by kernel_rfl) (fun _ _ _ h => h) (Or.inr ⟨by kernel_rfl, rfl⟩) hHeld ?_
    refine wpAnyH_take (i := 17) (v := undef) rfl (by kernel_rfl) (by kernel_rfl) (by kernel_rfl) (fun _ _ _ h => h) (Or.inr ⟨by kernel_rfl, rfl⟩) hHeld ?_
    refine wpAnyH_take (i := 18) (v := undef) rfl (by kernel_rfl) (by kernel_rfl) (by kernel_rfl) (fun _ _ _ h => h) (Or.inr ⟨by kernel_rfl, rfl⟩) hHeld ?_
    refine wpAnyH_take (i := 19) (v := undef) rfl (by kernel_rfl) (by kernel_rfl) (by kernel_rfl) (fun _ _ _ h => h) (Or.inr ⟨by kernel_rfl, rfl⟩) hHeld ?_
    refine tk 20 (v := ?_) rfl (by kernel_rfl) (fun _ _ _ h => h) ?_ hHeld ?_
    rotate_left
    ·(intro W hSw; (try dsimp only at hSw); go_simp; try with_reducible rfl)
    refine wpAnyH_done (by kernel_rfl) ?_ _
    clear hHeld
    replace xa : wr.drew.cell? ⟨ga, oa + i, none⟩ = some (.int .i64 x) := xa
    generalize wr.drew = W1 at HO1 HB1 xa ⊢
    go_simp
    rename_i KK hKK
    refine hKK _ _ ?_
    clear hKK
    go_wp2_with (at_builtin; (refine wpList_app rfl (.tmp 39) (.tmp 44) 39 rfl .i64 w.heap.size 3 i0 8 Tryz.underlying39 hi hz hs1 hs2 (by omega) _ ln out (by rfl) (World.ownsRow.alloc HO1.out _) (some ⟨W1.heap.size, 0, none⟩) 1 1 [x] (by rfl) (one_row W1 x HWF.out) (by omega) (by have := HB1.out.size; simp; omega) ?_); intro v' w2 hown hg hat; obtain ⟨A2, c2, hv2⟩ := Ent.form1 hown; subst hv2; have HOW := Lib.hid hown; have HB3 : Hid (Below w.heap.size w w2) := (HB1.out.alloc HB1.out.size _).grown hg (by have := HB1.out.size; simp; omega) (fun g hg => (HO1.out.lt g hg).1); clear hown hg hat)
    have HQ3 : Hid ((out ++ [x]) ++ orL (za.drop (i + 1)) (zb.drop (k)) = orL za zb) := by
     show _ = _
     rw [← hQ.out, List.append_assoc]
     rw [HZA.out, List.drop_eq_nil_of_le (show zb.length ≤ k by have := HLB.out; omega), orL_nil, orL_nil]
     rfl
    go_roundw
    case rel => exact ⟨i + 1, k, A2, c2, ln + 1, out ++ [x], rfl, by go_num, by go_num, by omega, by omega, by omega, Lib.hid (by rw [List.length_append, ← hL.out]; rfl), HQ3, HOW, HB3⟩
    case measure => simp [intOf]; omega
  ·by_cases hkb : k < m
   ·have hzb : zb.drop k = zb.getD k 0 :: zb.drop (k + 1) := drop_at (by have := HLB.out; omega)
    have hwy := Row.wf_getD H2.out k hkb
    obtain ⟨gb, ob, rfl, hcb⟩ := (H2.out.below hB.out).2.2 (by omega)
    have yb := hcb k hkb
    obtain ⟨y, hy⟩ : ∃ y, zb.getD k 0 = y := ⟨_, rfl⟩
    rw [hy] at hzb hwy yb
    have HZB := Lib.hid hzb
    have HWY := Lib.hid hwy
    clear hcb hy hzb hwy
    obtain rfl : i = n := by omega
    have ni1 : decide ((i : Int) < (i : Int)) = false := by first | (simp; omega) | simp
    have nk1 : decide ((k : Int) < (m : Int)) = true := by first | (simp; omega) | simp
    have nk2 : ((k : Int) == (m : Int)) = false := by first | (simp; omega) | simp
    have nk3 : (k == m) = false := by first | (simp; omega) | simp
    have HO1 : Hid (wr.drew.ownsRow w.heap.size 3 1 (.slice A1 ln c1) ln (out.map (Value.int .i64))) := hO
    have HB1 : Hid (Below w.heap.size w wr.drew) := Lib.hid (hB.out.trans (below_drewN (Below.refl _ _) 1))
    have HWF := HWY
    go_wp2_with fail
    refine wp_region_held_drew (S := fun _ => True) (by kernel_rfl) (trivial) (fun hHeld => ?_)
    refine tk 0 (v := ?_) rfl (by kernel_rfl) (fun _ _ _ h => h) ?_ hHeld ?_
    rotate_left
    ·(intro W hSw; (try dsimp only at hSw); go_simp; try with_reducible rfl)
    refine tk 1 (v := ?_) rfl (by kernel_rfl) (fun _ _ _ h => h) ?_ hHeld ?_
    rotate_left
    ·(intro W hSw; (try dsimp only at hSw); go_simp; try with_reducible rfl)
    refine tk 2 (v := ?_) rfl (by kernel_rfl) (fun _ _ _ h => h) ?_ hHeld ?_
    rotate_left
    ·(intro W hSw; (try dsimp only at hSw); go_simp; try with_reducible rfl)
    refine tk 3 (v := ?_) rfl (by kernel_rfl) (fun _ _ _ h => h) ?_ hHeld ?_
    rotate_left
    ·(intro W hSw; (try dsimp only at hSw); go_simp; try with_reducible rfl)
    refine tk 4 (v := ?_) rfl (by kernel_rfl) (fun _ _ _ h => h) ?_ hHeld ?_
    rotate_left
    ·(intro W hSw; (try dsimp only at hSw); go_simp; try with_reducible rfl)
    refine tk 5 (v := ?_) rfl (by kernel_rfl) (fun _ _ _ h => h) ?_ hHeld ?_
    rotate_left
    ·(intro W hSw; (try dsimp only at hSw); go_simp; try with_reducible rfl)
    refine tk 6 (v := ?_) rfl (by kernel_rfl) (fun _ _ _ h => h) ?_ hHeld ?_
    rotate_left
    ·(intro W hSw; (try dsimp only at hSw); go_simp; try with_reducible rfl)
    refine tk 7 (v := ?_) rfl (by kernel_rfl) (fun _ _ _ h => h) ?_ hHeld ?_
    rotate_left
    ·(intro W hSw; (try dsimp only at hSw); go_simp; try with_reducible rfl)
    refine tk 8 (v := ?_) rfl (by kernel_rfl) (fun _ _ _ h => h) ?_ hHeld ?_
    rotate_left
    ·(intro W hSw; (try dsimp only at hSw); go_simp; try with_reducible rfl)
    refine tk 9 (v := ?_) rfl (by kernel_rfl) (fun _ _ _ h => h) ?_ hHeld ?_
    rotate_left
    ·(intro W hSw; (try dsimp only at hSw); go_simp; try with_reducible rfl)
    refine wpAnyH_take (i := 10) (v := undef) rfl (by kernel_rfl) (by kernel_rfl) (by kernel_rfl) (fun _ _ _ h => h) (Or.inr ⟨by kernel_rfl, rfl⟩) hHeld ?_
    refine wpAnyH_take (i := 11) (v := undef) rfl (by kernel_rfl) (by kernel_rfl) (by kernel_rfl) (fun _ _ _ h => h) (Or.inr ⟨by kernel_rfl, rfl⟩) hHeld ?_
    refine wpAnyH_take (i := 12) (v := undef) rfl (by kernel_rfl) (by kernel_rfl) (by kernel_rfl) (fun _ _ _ h => h) (Or.inr ⟨by kernel_rfl, rfl⟩) hHeld ?_
    refine wpAnyH_take (i := 13) (v := undef) rfl (by kernel_rfl) (by kernel_rfl) (by kernel_rfl) (fun _ _ _ h => h) (Or.inr ⟨by kernel_rfl, rfl⟩) hHeld ?_
    refine wpAnyH_take (i := 14) (v := undef) rfl (by kernel_rfl) (by kernel_rfl) (by kernel_rfl) (fun _ _ _ h => h) (Or.inr ⟨by kernel_rfl, rfl⟩) hHeld ?_
    refine wpAnyH_take (i := 15) (v := undef) rfl (by kernel_rfl) (by kernel_rfl) (by kernel_rfl) (fun _ _ _ h => h) (Or.inr ⟨by kernel_rfl, rfl⟩) hHeld ?_
    refine wpAnyH_take (i := 16) (v := undef) rfl (by kernel_rfl) (by kernel_rfl) (by kernel_rfl) (fun _ _ _ h => h) (Or.inr ⟨by kernel_rfl, rfl⟩) hHeld ?_
    refine wpAnyH_take (i := 17) (v := undef) rfl (by kernel_rfl) (by kernel_rfl) (by kernel_rfl) (fun _ _ _ h => h) (Or.inr ⟨by kernel_rfl, rfl⟩) hHeld ?_
    refine wpAnyH_take (i := 18) (v := undef) rfl (by kernel_rfl) (by kernel_rfl) (by kernel_rfl) (fun _ _ _ h => h) (Or.inr ⟨by kernel_rfl, rfl⟩) hHeld ?_
    refine tk 19 (v := ?_) rfl (by kernel_rfl) (fun _ _ _ h => h) ?_ hHeld ?_
    rotate_left
    ·(intro W hSw; (try dsimp only at hSw); go_simp; try with_reducible rfl)
    refine tk 20 (v := ?_) rfl (by kernel_rfl) (fun _ _ _ h => h) ?_ hHeld ?_
    rotate_left
    ·(intro W hSw; (try dsimp only at hSw); go_simp; try with_reducible rfl)
    refine wpAnyH_done (by kernel_rfl) ?_ _
    clear hHeld
    replace yb : wr.drew.cell? ⟨gb, ob + k, none⟩ = some (.int .i64 y) := yb
    generalize wr.drew = W1 at HO1 HB1 yb ⊢
    go_simp
    rename_i KK hKK
    refine hKK _ _ ?_
    clear hKK
    have HO2 : Hid (W1.drew.ownsRow w.heap.size 3 1 (.slice A1 ln c1) ln (out.map (Value.int .i64))) := HO1
    have HB2 : Hid (Below w.heap.size w W1.drew) := Lib.hid (HB1.out.trans (below_drewN (Below.refl _ _) 1))
    go_wp2_with fail
    refine wp_region_held_drew (S := fun _ => True) (by kernel_rfl) (trivial) (fun hHeld => ?_)
    refine tk 0 (v := ?_) rfl (by kernel_rfl) (fun _ _ _ h => h) ?_ hHeld ?_
    rotate_left
    ·(intro W hSw; (try dsimp only at hSw); go_simp; try with_reducible rfl)
    refine tk 1 (v := ?_) rfl (by kernel_rfl) (fun _ _ _ h => h) ?_ hHeld ?_
    rotate_left
    ·(intro W hSw; (try dsimp only at hSw); go_simp; try with_reducible rfl)
    refine tk 2 (v := ?_) rfl (by kernel_rfl) (fun _ _ _ h => h) ?_ hHeld ?_
    rotate_left
    ·(intro W hSw; (try dsimp only at hSw); go_simp; try with_reducible rfl)
    refine tk 3 (v := ?_) rfl (by kernel_rfl) (fun _ _ _ h => h) ?_ hHeld ?_
    rotate_left
    ·(intro W hSw; (try dsimp only at hSw); go_simp; try with_reducible rfl)
    refine tk 4 (v := ?_) rfl (by kernel_rfl) (fun _ _ _ h => h) ?_ hHeld ?_
    rotate_left
    ·(intro W hSw; (try dsimp only at hSw); go_simp; try with_reducible rfl)
    refine wpAnyH_take (i := 5) (v := undef) rfl (by kernel_rfl) (by kernel_rfl) (by kernel_rfl) (fun _ _ _ h => h) (Or.inr ⟨by kernel_rfl, rfl⟩) hHeld ?_
    refine wpAnyH_take (i := 6) (v := undef) rfl (by kernel_rfl) (by kernel_rfl) (by kernel_rfl) (fun _ _ _ h => h) (Or.inr ⟨by kernel_rfl, rfl⟩) hHeld ?_
    refine wpAnyH_take (i := 7) (v := undef) rfl (by kernel_rfl) (by kernel_rfl) (by kernel_rfl) (fun _ _ _ h => h) (Or.inr ⟨by kernel_rfl, rfl⟩) hHeld ?_
    refine wpAnyH_take (i := 8) (v := undef) rfl (by kernel_rfl) (by kernel_rfl) (by kernel_rfl) (fun _ _ _ h => h) (Or.inr ⟨by kernel_rfl, rfl⟩) hHeld ?_
    refine wpAnyH_take (i := 9) (v := undef) rfl (by kernel_rfl) (by kernel_rfl) (by kernel_rfl) (fun _ _ _ h => h) (Or.inr ⟨by kernel_rfl, rfl⟩) hHeld ?_
    refine wpAnyH_take (i := 10) (v := undef) rfl (by kernel_rfl) (by kernel_rfl) (by kernel_rfl) (fun _ _ _ h => h) (Or.inr ⟨by kernel_rfl, rfl⟩) hHeld ?_
    refine wpAnyH_take (i := 11) (v := undef) rfl (by kernel_rfl) (by kernel_rfl) (by kernel_rfl) (fun _ _ _ h => h) (Or.inr ⟨by kernel_rfl, rfl⟩) hHeld ?_
    refine wpAnyH_take (i := 12) (v := undef) rfl (by kernel_rfl) (by kernel_rfl) (by kernel_rfl) (fun _ _ _ h => h) (Or.inr ⟨by kernel_rfl, rfl⟩) hHeld ?_
    refine wpAnyH_take (i := 13) (v := undef) rfl (by kernel_rfl) (by kernel_rfl) (by kernel_rfl) (fun _ _ _ h => h) (Or.inr ⟨by kernel_rfl, rfl⟩) hHeld ?_
    refine tk 14 (v := ?_) rfl (by kernel_rfl) (fun _ _ _ h => h) ?_ hHeld ?_
    rotate_left
    ·(intro W hSw; (try dsimp only at hSw); go_simp; try with_reducible rfl)
    refine wpAnyH_done (by kernel_rfl) ?_ _
    clear hHeld
    replace yb : W1.drew.cell? ⟨gb, ob + k, none⟩ = some (.int .i64 y) := yb
    generalize W1.drew = W2 at HO2 HB2 yb ⊢
    go_simp
    rename_i KK hKK
    refine hKK _ _ ?_
    clear hKK
    go_wp2_with (at_builtin; (refine wpList_app rfl (.tmp 65) (.tmp 70) 39 rfl .i64 w.heap.size 3 i0 8 Tryz.underlying39 hi hz hs1 hs2 (by omega) _ ln out (by rfl) (World.ownsRow.alloc HO2.out _) (some ⟨W2.heap.size, 0, none⟩) 1 1 [y] (by rfl) (one_row W2 y HWF.out) (by omega) (by have := HB2.out.size; simp; omega) ?_); intro v' w2 hown hg hat; obtain ⟨A2, c2, hv2⟩ := Ent.form1 hown; subst hv2; have HOW := Lib.hid hown; have HB3 : Hid (Below w.heap.size w w2) := (HB2.out.alloc HB2.out.size _).grown hg (by have := HB2.out.size; simp; omega) (fun g hg => (HO2.out.lt g hg).1); clear hown hg hat)
    have HQ3 : Hid ((out ++ [y]) ++ orL (za.drop (i)) (zb.drop (k + 1)) = orL za zb) := by
     show _ = _
     rw [← hQ.out, List.append_assoc]
     rw [HZB.out, List.drop_eq_nil_of_le (show za.length ≤ i by have := HLA.out; omega), orL, orL]
     rfl
    go_roundw
    case rel => exact ⟨i, k + 1, A2, c2, ln + 1, out ++ [y], rfl, by go_num, by go_num, by omega, by omega, by omega, Lib.hid (by rw [List.length_append, ← hL.out]; rfl), HQ3, HOW, HB3⟩
    case measure => simp [intOf]; omega
   ·obtain rfl : i = n := by omega
    obtain rfl : k = m := by omega
    have l1 : decide ((i : Int) < (i : Int)) = false := by simp
    have l2 : decide ((k : Int) < (k : Int)) = false := by simp
    have HE : Hid (out = orL za zb) := by
     show _ = _
     have h := hQ.out
     rw [List.drop_eq_nil_of_le (by have := HLA.out; omega), List.drop_eq_nil_of_le (by have := HLB.out; omega)] at h
     simpa [orL] using h
    have hwf : ∀ z ∈ orL za zb, (Lit.int .i64 z).wf = true := by
     intro z hz
     rcases (orL_mem _ _ _).1 hz with g | g
     ·exact HWA.out z g
     ·exact HWB.out z g
    have HO2 : Hid (wr.ownsRow w.heap.size 3 1 (.slice A1 ln c1) ln ((orL za zb).map (Value.int .i64))) := by
     have h := hO.out
     rwa [HE.out] at h
    have HWF := Lib.hid hwf
    have HLN : Hid (ln = (orL za zb).length) := by show _ = _; rw [hL.out, HE.out]
    clear hwf hia hkb hQ hO
    go_wp2_with fail
    go_ret
    refine ⟨A1, c1, ?_, ?_, HWF.out, hB.out⟩
    ·rw [← HLN.out]; rfl
    ·have h := HO2.out
     rwa [HLN.out] at h
end Go.Proofs.YtnbchikiiipejaaGreatDoor.Nf
namespace Go.Proofs.YtnbchikiiipejaaGreatDoor.Nf
open Go.RowKit Mem
open Bg (Bag)
structure RFrame (X : Nat → Prop) (W W' : World) : Prop where
 os : W'.os = W.os
 tape : W'.tape = W.tape
 output : W'.output = W.output
 size : W.heap.size ≤ W'.heap.size
 block : ∀ k, k < W.heap.size → ¬ X k → W'.heap[k]? = W.heap[k]?
section
variable {X Y : Nat → Prop} {w W W1 W2 W' : World}
theorem RFrame.refl (X : Nat → Prop) (W : World) : RFrame X W W := ⟨rfl, rfl, rfl, Nat.le_refl _, fun _ _ _ => rfl⟩
theorem RFrame.of_below (h : Below W.heap.size W W') : RFrame X W W' := ⟨h.os, h.tape, h.output, h.size, fun k hk _ => h.block k hk⟩
theorem RFrame.trans (h : RFrame X W W1) (g : RFrame Y W1 W2) (hy : ∀ k, k < W.heap.size → Y k → X k) : RFrame X W W2 :=
 ⟨g.os.trans h.os, g.tape.trans h.tape, g.output.trans h.output, Nat.le_trans h.size g.size, fun k hk hx =>
  (g.block k (Nat.lt_of_lt_of_le hk h.size) (fun e => hx (hy k hk e))).trans (h.block k hk hx)⟩
theorem RFrame.then (h : RFrame X W W1) (g : Below W1.heap.size W1 W2) : RFrame X W W2 := h.trans (RFrame.of_below (X := fun _ => False) g) (fun _ _ e => e.elim)
theorem RFrame.below {B : Nat} (h : RFrame X W W') (hX : ∀ k, X k → B ≤ k) (hB : B ≤ W.heap.size) : Below B W W' :=
 ⟨h.os, h.tape, h.output, h.size, fun k hk => h.block k (Nat.lt_of_lt_of_le hk hB) (fun e => by have := hX k e; omega)⟩
theorem RFrame.alloc (h : RFrame X w W) (o : Obj) : RFrame X w (W.alloc o) := h.then ((Below.refl _ W).alloc (Nat.le_refl _) o)
theorem RFrame.setCell (h : RFrame X w W) {b : Nat} (hb : b < w.heap.size → X b) (j : Nat) (u : Value) : RFrame X w (W.setCell ⟨b, j, none⟩ u) :=
 ⟨h.os, h.tape, h.output, by simpa [World.setCell] using h.size, fun k hk hx => by
  rw [Below.heap_setCell _ _ _ _ (fun e => hx (by subst e; exact hb hk))]
  exact h.block k hk hx⟩
theorem RFrame.grown {row : Option Nat} (h : RFrame X w W) (hg : W.grownBy W' row) (hr : ∀ r, row = some r → r < w.heap.size → X r) : RFrame X w W' :=
 ⟨hg.os.trans h.os, hg.tape.trans h.tape, hg.output.trans h.output, Nat.le_trans h.size hg.size, fun k hk hx =>
  (hg.block k (Nat.lt_of_lt_of_le hk h.size) (fun e => hx (hr k e.symm hk))).trans (h.block k hk hx)⟩
theorem RFrame.mono (h : RFrame X w W) (hx : ∀ k, k < w.heap.size → X k → Y k) : RFrame Y w W := ⟨h.os, h.tape, h.output, h.size, fun k hk hy => h.block k hk (fun e => hy (hx k hk e))⟩
def LRow (W : World) (v : Value) (zs : List Int) : Prop := ∃ A c, v = .slice A zs.length c ∧ Row .i64 W A zs.length zs ∧ ∀ b off s, A = some ⟨b, off, s⟩ → ∃ cs fr, W.heap[b]? = some (.cells cs 3 fr)
def NoInts (W : World) (X : Nat → Prop) : Prop := ∀ k, X k → ∀ cs fr, W.heap[k]? ≠ some (.cells cs 3 fr)
theorem LRow.frame {v : Value} {zs : List Int} (h : LRow W v zs) (f : RFrame X W W') (hx : NoInts W X) : LRow W' v zs := by
 obtain ⟨A, c, rfl, hr, ht⟩ := h
 have hb : ∀ b off s, A = some ⟨b, off, s⟩ → W'.heap[b]? = W.heap[b]? := by
  intro b off s e
  obtain ⟨cs, fr, hh⟩ := ht b off s e
  exact f.block b (lt_of_some hh) (fun g => hx b g cs fr hh)
 refine ⟨A, c, rfl, ⟨hr.1, hr.2.1, fun hn => ?_⟩, fun b off s e => ?_⟩
 ·obtain ⟨b, off, e, hc⟩ := hr.2.2 hn
  refine ⟨b, off, e, fun j hj => ?_⟩
  rw [← hc j hj]
  exact World.cell?_of_block (w := W) (a := ⟨b, off + j, none⟩) (hb b off none e)
 ·rw [hb b off s e]; exact ht b off s e
theorem LRow.below {v : Value} {zs : List Int} (h : LRow W v zs) (f : Below W.heap.size W W') : LRow W' v zs := h.frame (RFrame.of_below (X := fun _ => False) f) (fun _ e => e.elim)
theorem LRow.alloc {v : Value} {zs : List Int} (h : LRow W v zs) (o : Obj) : LRow (W.alloc o) v zs := h.below ((Below.refl _ W).alloc (Nat.le_refl _) o)
theorem LRow.drew {v : Value} {zs : List Int} (h : LRow W v zs) : LRow W.drew v zs := h
theorem LRow.nil (W : World) (c : Nat) : LRow W (.slice none 0 c) [] := ⟨none, c, rfl, Row.nil, fun _ _ _ e => by cases e⟩
theorem LRow.of_own {base n : Nat} {v : Value} {zs : List Int} (h : W.ownsRow base 3 1 v n (zs.map (Value.int .i64))) (hz : ∀ z ∈ zs, (Lit.int .i64 z).wf = true) : LRow W v zs := by
 have hl : zs.length = n := by simpa using h.1
 subst hl
 obtain ⟨A, c, rfl, _, hr⟩ := Row.of_own h hz
 refine ⟨A, c, rfl, hr, fun b off s e => ?_⟩
 rcases h.2 with ⟨hv, _⟩ | ⟨g, cap, cur, hv, _, hg, _⟩
 ·simp only [Value.slice.injEq] at hv
  rw [hv.1] at e; cases e
 ·simp only [Value.slice.injEq] at hv
  rw [hv.1] at e
  simp only [Option.some.injEq, Addr.mk.injEq] at e
  rw [← e.1]
  exact ⟨_, _, hg⟩
theorem LRow.form {v : Value} {zs : List Int} (h : LRow W v zs) : ∃ A c, v = .slice A zs.length c := by obtain ⟨A, c, e, _⟩ := h; exact ⟨A, c, e⟩
theorem LRow.row {A : Option Addr} {n c : Nat} {zs : List Int} (h : LRow W (.slice A n c) zs) : n = zs.length ∧ Row .i64 W A zs.length zs := by
 obtain ⟨A', c', e, hr, _⟩ := h
 simp only [Value.slice.injEq] at e
 obtain ⟨rfl, rfl, rfl⟩ := e
 exact ⟨rfl, hr⟩
def LRows (base : Nat) (W : World) (v : Value) (ls : List (List Int)) : Prop := ∃ vs : List Value, W.ownsRow base 39 1 v ls.length vs ∧ ∀ (i : Nat) (l : List Int), ls[i]? = some l → ∃ u, vs[i]? = some u ∧ LRow W u l
variable {base : Nat} {v : Value} {ls : List (List Int)}
theorem LRows.nil (base : Nat) (W : World) : LRows base W (.slice none 0 0) [] := ⟨[], World.ownsRow_nil _ _ _ _, fun i l h => by simp at h⟩
theorem LRows.form (h : LRows base W v ls) : ∃ A c, v = .slice A ls.length c := by obtain ⟨vs, ho, _⟩ := h; exact Ent.form1 ho
theorem LRows.block (h : LRows base W v ls) : ∀ g, v.ownBlock = some g → base ≤ g ∧ g < W.heap.size ∧ ∃ cs fr, W.heap[g]? = some (.cells cs 39 fr) := by
 obtain ⟨vs, ho, _⟩ := h
 intro g hg
 rcases ho.2 with ⟨hv, _⟩ | ⟨g', cap, cur, hv, hb, hh, _⟩
 ·subst hv; cases hg
 ·subst hv
  simp only [Value.ownBlock, Option.some.injEq] at hg
  subst hg
  exact ⟨hb, lt_of_some hh, _, _, hh⟩
theorem LRows.frame (h : LRows base W v ls) (f : RFrame X W W') (hx : NoInts W X) (hb : ∀ g, v.ownBlock = some g → ¬ X g) : LRows base W' v ls := by
 obtain ⟨vs, ho, hv⟩ := h
 refine ⟨vs, ⟨ho.1, ?_⟩, fun i l hl => ?_⟩
 ·rcases ho.2 with hn | ⟨g, cap, cur, rfl, h1, h2, r⟩
  ·exact .inl hn
  ·exact .inr ⟨g, cap, cur, rfl, h1, by rw [f.block g (lt_of_some h2) (hb g rfl)]; exact h2, r⟩
 ·obtain ⟨u, hu, hr⟩ := hv i l hl
  exact ⟨u, hu, hr.frame f hx⟩
theorem LRows.below (h : LRows base W v ls) (f : Below W.heap.size W W') : LRows base W' v ls := h.frame (RFrame.of_below (X := fun _ => False) f) (fun _ e => e.elim) (fun _ _ e => e.elim)
theorem LRows.opn (h : LRows base W v ls) (hp : 0 < ls.length) : ∃ g cap, v = .slice (some ⟨g, 0, none⟩) ls.length cap ∧ base ≤ g ∧ g < W.heap.size ∧ (∀ j, W.frozen? ⟨g, j, none⟩ = false) ∧
  ∀ i (hi : i < ls.length), ∃ u, W.cell? ⟨g, i, none⟩ = some u ∧ LRow W u ls[i] := by
 obtain ⟨vs, ho, hv⟩ := h
 have ho' := ho
 rcases ho.2 with ⟨_, h0⟩ | ⟨g, cap, cur, rfl, hb, hg, hnc, hcm, hs, ht⟩
 ·omega
 ·refine ⟨g, cap, rfl, hb, lt_of_some hg, fun j => World.ownsRow.frozenAt ho' j, fun i hi => ?_⟩
  obtain ⟨u, hu, hr⟩ := hv i ls[i] (List.getElem?_eq_getElem hi)
  exact ⟨u, by rw [World.ownsRow.cellAt ho' _ (by omega)]; exact hu, hr⟩
theorem noints_ty {b : Nat} {T : TypeId} (hT : T ≠ 3) (hb : ∃ cs fr, W.heap[b]? = some (.cells cs T fr)) : NoInts W (fun k => k = b) := by
 rintro k rfl cs fr e
 obtain ⟨cs', fr', h⟩ := hb
 rw [h] at e
 simp only [Option.some.injEq, Obj.cells.injEq] at e
 exact hT e.2.1
theorem LRow.setCell {v : Value} {zs : List Int} (h : LRow W v zs) {b : Nat} {T : TypeId} (hT : T ≠ 3) (hb : ∃ cs fr, W.heap[b]? = some (.cells cs T fr)) (j : Nat) (u : Value) : LRow (W.setCell ⟨b, j, none⟩ u) v zs :=
 h.frame (X := fun k => k = b) ((RFrame.refl (fun k => k = b) W).setCell (fun _ => rfl) j u) (noints_ty hT hb)
theorem LRows.setCell (h : LRows base W v ls) {b : Nat} {T : TypeId} (hT : T ≠ 3) (hb : ∃ cs fr, W.heap[b]? = some (.cells cs T fr)) (hv : v.ownBlock ≠ some b) (j : Nat) (u : Value) : LRows base (W.setCell ⟨b, j, none⟩ u) v ls :=
 h.frame (X := fun k => k = b) ((RFrame.refl (fun k => k = b) W).setCell (fun _ => rfl) j u) (noints_ty hT hb) (fun g hg e => hv (by rw [hg, e]))
theorem LRows.store {g cap n : Nat} (hn : n = ls.length) (h : LRows base W (.slice (some ⟨g, 0, none⟩) n cap) ls) (i : Nat) (u : Value) (zs : List Int) (hu : LRow W u zs) (hl : (W.frozen? ⟨g, i, none⟩) = false) :
  LRows base (W.setCell ⟨g, i, none⟩ u) (.slice (some ⟨g, 0, none⟩) n cap) (ls.set i zs) := by
 subst hn
 have hty : ∃ cs fr, W.heap[g]? = some (.cells cs 39 fr) := (h.block g rfl).2.2
 have hne : (39 : TypeId) ≠ 3 := by decide
 obtain ⟨vs, ho, hv⟩ := h
 have s1 := (World.ownsRow.stored ho i u).1
 refine ⟨vs.set i u, by rw [List.length_set]; exact s1, fun j l hj => ?_⟩
 rw [List.getElem?_set] at hj
 by_cases hij : i = j
 ·subst hij
  rw [if_pos rfl] at hj
  split at hj
  ·rename_i hlt
   simp only [Option.some.injEq] at hj
   subst hj
   have hvl : i < vs.length := by rw [ho.1]; omega
   exact ⟨u, by rw [List.getElem?_set, if_pos rfl, if_pos hvl], hu.setCell hne hty _ _⟩
  ·cases hj
 ·rw [if_neg hij] at hj
  obtain ⟨u', hu', hr⟩ := hv j l hj
  exact ⟨u', by rw [List.getElem?_set, if_neg hij]; exact hu', hr.setCell hne hty _ _⟩
end
section
variable {P : Program}
theorem wpList_app_one {w : World} {ops : Array Oper} {rest : List Oper} {o : Oper} {a : Act} {Q : Exit → Act → World → Prop} (hgd : o.guard = none) (s x : Operand) (t : TypeId)
  (ho : o.op = .call { callee := .builtin .append, args := #[s, x], argTypes := #[t, t] })
  (base : Nat) (e : TypeId) (i : TypeInfo) (z : Value) (bytes : Nat) (ht : P.underlying t = some (.slice e)) (hi : P.info? e = some i) (hz : i.zero = some z) (hz1 : z.cells.size = 1)
  (hsize : i.size = 1) (hby : i.bytes = bytes) (hb8 : bytes ≤ 64) (v : Value) (n : Nat) (xs : List Value) (hs : a.eval s = v) (hown : w.ownsRow base e 1 v n xs)
  (g c : Nat) (y : Value) (hx : a.eval x = .slice (some ⟨g, 0, none⟩) 1 c) (hc : w.cell? ⟨g, 0, none⟩ = some y) (hy : y.oneCell' = true) (hbig : n ≤ 1000000) (hbase : base ≤ w.heap.size)
  (h : ∀ v' w', w'.ownsRow base e 1 v' (n + 1) (xs ++ [y]) → w.grownBy w' v.ownBlock → (v'.ownBlock = v.ownBlock ∨ v'.ownBlock = some w.heap.size) → wpList P ops Q rest (a.put o.dst v') w') :
  wpList P ops Q (o :: rest) a w := by
 refine wpList_plain hgd fun K hK => ?_
 have hsum : (n + 1) * bytes ≤ 140737488355328 := by
  have := Nat.mul_le_mul (show n + 1 ≤ 1000001 by omega) hb8
  omega
 obtain ⟨v', w', hrun, h2, h3, _, h5⟩ := run_append_own_at (P := P) w base t o.type e i z 1 bytes ht hi hz hsize hby hz1 (by omega) v n xs hown ⟨g, 0, none⟩ 1 c [y]
  (by simp) (fun j u hu => by
    match j with
    | 0 =>
     simp at hu; subst hu
     have hp : (⟨g, 0, none⟩ : Addr).add 0 = ⟨g, 0, none⟩ := by unfold Addr.add; split <;> simp_all
     rw [hp]; exact hc
    | j + 1 => simp at hu) (by intro u hu; simp at hu; subst hu; exact hy) (by simp only [maxLen]; omega) hsum hbase
 unfold Oper.wp
 simp [execOp, ho, resolve, invoke, builtin, hs, hx, hrun, Result.andThen]
 exact hK _ _ (h v' w' h2 h3 h5)
end
section
variable {X Y : Nat → Prop} {w W W1 W2 W' : World} {base : Nat} {v : Value} {ls : List (List Int)}
theorem LRows.snoc {vs : List Value} {v' u : Value} {l : List Int} (hv : ∀ (i : Nat) (l : List Int), ls[i]? = some l → ∃ u, vs[i]? = some u ∧ LRow W u l) (hl : vs.length = ls.length)
  (ho : W'.ownsRow base 39 1 v' (ls.length + 1) (vs ++ [u])) (hu : LRow W u l) (f : RFrame X W W') (hx : NoInts W X) : LRows base W' v' (ls ++ [l]) := by
 refine ⟨vs ++ [u], by simpa using ho, fun i k hk => ?_⟩
 by_cases hi : i < ls.length
 ·rw [List.getElem?_append_left hi] at hk
  obtain ⟨y, hy, hr⟩ := hv i k hk
  exact ⟨y, by rw [List.getElem?_append_left (by omega)]; exact hy, hr.frame f hx⟩
 ·rw [List.getElem?_append_right (by omega)] at hk
  have h0 : i - ls.length = 0 := by
   rcases Nat.eq_zero_or_pos (i - ls.length) with h | h
   ·exact h
   ·rw [List.getElem?_eq_none (by simp; omega)] at hk; cases hk
  rw [h0] at hk
  simp only [List.getElem?_cons_zero, Option.some.injEq] at hk
  subst hk
  exact ⟨u, by rw [List.getElem?_append_right (by omega), hl, h0]; rfl, hu.frame f hx⟩
def RBox (W : World) (N : Nat) (vo vb vf ve : Value) (em : Bool) : Prop := W.heap[N]? = some (.cells #[vo, vb, vf, ve, .bool em] 41 (0, 0))
variable {N : Nat} {vo vb vf ve : Value} {em : Bool}
theorem RBox.lt (h : RBox W N vo vb vf ve em) : N < W.heap.size := lt_of_some h
theorem RBox.ty (h : RBox W N vo vb vf ve em) : ∃ cs fr, W.heap[N]? = some (.cells cs 41 fr) := ⟨_, _, h⟩
theorem RBox.cell (h : RBox W N vo vb vf ve em) : W.cell? ⟨N, 0, none⟩ = some vo ∧ W.cell? ⟨N, 1, none⟩ = some vb ∧ W.cell? ⟨N, 2, none⟩ = some vf ∧ W.cell? ⟨N, 3, none⟩ = some ve ∧ W.cell? ⟨N, 4, none⟩ = some (.bool em) := by
 unfold RBox at h
 refine ⟨?_, ?_, ?_, ?_, ?_⟩
 all_goals simp [World.cell?, h]
theorem RBox.free (h : RBox W N vo vb vf ve em) (j : Nat) : W.frozen? ⟨N, j, none⟩ = false := by
 unfold RBox at h
 simp [World.frozen?, h]
theorem RBox.frame (h : RBox W N vo vb vf ve em) (f : RFrame X W W') (hx : ¬ X N) : RBox W' N vo vb vf ve em := by
 unfold RBox; rw [f.block N h.lt hx]; exact h
theorem RBox.below (h : RBox W N vo vb vf ve em) (f : Below W.heap.size W W') : RBox W' N vo vb vf ve em := by
 unfold RBox; rw [f.block N h.lt]; exact h
theorem RBox.new (W : World) (vo vb vf ve : Value) (em : Bool) : RBox (W.alloc (.cells #[vo, vb, vf, ve, .bool em] 41)) W.heap.size vo vb vf ve em := heap_alloc_new _ _
theorem RBox.set0 (h : RBox W N vo vb vf ve em) (u : Value) : RBox (W.setCell ⟨N, 0, none⟩ u) N u vb vf ve em := by
 unfold RBox at h ⊢; simp [World.setCell, Array.getElem?_modify, h]
theorem RBox.set1 (h : RBox W N vo vb vf ve em) (u : Value) : RBox (W.setCell ⟨N, 1, none⟩ u) N vo u vf ve em := by
 unfold RBox at h ⊢; simp [World.setCell, Array.getElem?_modify, h]
theorem RBox.set2 (h : RBox W N vo vb vf ve em) (u : Value) : RBox (W.setCell ⟨N, 2, none⟩ u) N vo vb u ve em := by
 unfold RBox at h ⊢; simp [World.setCell, Array.getElem?_modify, h]
theorem RBox.set3 (h : RBox W N vo vb vf ve em) (u : Value) : RBox (W.setCell ⟨N, 3, none⟩ u) N vo vb vf u em := by
 unfold RBox at h ⊢; simp [World.setCell, Array.getElem?_modify, h]
theorem RBox.set4 (h : RBox W N vo vb vf ve em) (b : Bool) : RBox (W.setCell ⟨N, 4, none⟩ (.bool b)) N vo vb vf ve b := by
 unfold RBox at h ⊢; simp [World.setCell, Array.getElem?_modify, h]
theorem RBox.other (h : RBox W N vo vb vf ve em) {b : Nat} (hne : b ≠ N) (j : Nat) (u : Value) : RBox (W.setCell ⟨b, j, none⟩ u) N vo vb vf ve em :=
 h.frame (X := fun k => k = b) ((RFrame.refl (fun k => k = b) W).setCell (fun _ => rfl) j u) (fun e => hne e.symm)
def XS (N : Nat) (vo vb : Value) (k : Nat) : Prop := k = N ∨ vo.ownBlock = some k ∨ vb.ownBlock = some k
structure RS (base N : Nat) (W : World) (l : List En) (vo vb : Value) : Prop where
 box : ∃ vf ve em, RBox W N vo vb vf ve em
 on : LRows base W vo (l.map fun x => x.on.list)
 be : LRows base W vb (l.map fun x => x.behind.list)
 apart : ∀ g, vo.ownBlock = some g → vb.ownBlock ≠ some g
variable {l : List En}
theorem RS.noints (h : RS base N W l vo vb) : NoInts W (XS N vo vb) := by
 intro k hk cs fr e
 obtain ⟨vf, ve, em, hb⟩ := h.box
 rcases hk with rfl | hk | hk
 ·exact noints_ty (T := 41) (by decide) hb.ty k rfl cs fr e
 ·exact noints_ty (T := 39) (by decide) (h.on.block k hk).2.2 k rfl cs fr e
 ·exact noints_ty (T := 39) (by decide) (h.be.block k hk).2.2 k rfl cs fr e
theorem RS.frame (h : RS base N W l vo vb) (f : RFrame X W W') (hx : ∀ k, XS N vo vb k → ¬ X k) (hn : NoInts W X) : RS base N W' l vo vb := by
 obtain ⟨vf, ve, em, hb⟩ := h.box
 exact ⟨⟨vf, ve, em, hb.frame f (hx N (.inl rfl))⟩, h.on.frame f hn (fun g hg => hx g (.inr (.inl hg))), h.be.frame f hn (fun g hg => hx g (.inr (.inr hg))), h.apart⟩
theorem RS.below (h : RS base N W l vo vb) (f : Below W.heap.size W W') : RS base N W' l vo vb := h.frame (RFrame.of_below (X := fun _ => False) f) (fun _ _ e => e) (fun _ e => e.elim)
theorem RS.lt (h : RS base N W l vo vb) : ∀ k, XS N vo vb k → k < W.heap.size := by
 obtain ⟨vf, ve, em, hb⟩ := h.box
 rintro k (rfl | hk | hk)
 ·exact hb.lt
 ·exact (h.on.block k hk).2.1
 ·exact (h.be.block k hk).2.1
theorem RS.base_le (h : RS base N W l vo vb) (hN : base ≤ N) : ∀ k, XS N vo vb k → base ≤ k := by
 rintro k (rfl | hk | hk)
 ·exact hN
 ·exact (h.on.block k hk).1
 ·exact (h.be.block k hk).1
def rpV (vf ve : Value) (em : Bool) : Value := .agg #[.slice none 0 0, .slice none 0 0, vf, ve, .bool em]
def PcR (W : World) (vf ve : Value) (p : Pc) : Prop := LRow W vf p.first.list ∧ LRow W ve p.ends.list
theorem PcR.frame {p : Pc} (h : PcR W vf ve p) (f : RFrame X W W') (hx : NoInts W X) : PcR W' vf ve p := ⟨h.1.frame f hx, h.2.frame f hx⟩
theorem PcR.below {p : Pc} (h : PcR W vf ve p) (f : Below W.heap.size W W') : PcR W' vf ve p := ⟨h.1.below f, h.2.below f⟩
end
end Go.Proofs.YtnbchikiiipejaaGreatDoor.Nf
namespace Go.Proofs.YtnbchikiiipejaaGreatDoor.Nf
open Go.RowKit Mem
open Bg (Bag)
theorem behinds_lead (to : Bag) (L : List En) (k : Nat) (hk : k < L.length) : (L.modify k (lead1 to)).map (fun x => x.behind.list) = (L.map fun x => x.behind.list).set k (L[k].behind.orB to).list := by
 apply List.ext_getElem?
 intro j
 rw [List.getElem?_map, List.getElem?_modify, List.getElem?_set, List.getElem?_map]
 by_cases hj : k = j
 ·subst hj
  simp [lead1, hk]
 ·simp [hj]
theorem ons_leadL (to : Bag) : ∀ (is : List Int) (l : List En), (leadL is to l).map (fun x => x.on.list) = l.map (fun x => x.on.list)
 | [], l => rfl
 | i :: is, l => by
  have e : leadL (i :: is) to l = leadL is to (l.modify i.toNat (lead1 to)) := rfl
  rw [e, ons_leadL to is]
  apply List.ext_getElem?
  intro j
  rw [List.getElem?_map, List.getElem?_modify, List.getElem?_map]
  by_cases hj : i.toNat = j
  ·subst hj
   cases l[i.toNat]? <;> simp [lead1]
  ·simp [hj]
structure TT (base b : Nat) (w : World) (x : Pc) (v0 vb xo xb xf xe : Value) (ls : List (List Int)) (W : World) (vf ve : Value) (em : Bool) (zf ze : List Int) : Prop where
 box : RBox W b v0 vb vf ve em
 arg : RBox W w.heap.size xo xb xf xe x.em
 f : LRow W vf zf
 e : LRow W ve ze
 xf : LRow W xf x.first.list
 xe : LRow W xe x.ends.list
 be : LRows base W vb ls
 fr : RFrame (fun k => k = b ∨ vb.ownBlock = some k) w W
 bx : b < w.heap.size
section
variable {base b : Nat} {w W W' : World} {x : Pc} {v0 vb xo xb xf xe vf ve : Value} {ls : List (List Int)} {em : Bool} {zf ze : List Int}
theorem TT.below (h : TT base b w x v0 vb xo xb xf xe ls W vf ve em zf ze) (f : Below W.heap.size W W') : TT base b w x v0 vb xo xb xf xe ls W' vf ve em zf ze :=
 ⟨h.box.below f, h.arg.below f, h.f.below f, h.e.below f, h.xf.below f, h.xe.below f, h.be.below f, h.fr.then f, h.bx⟩
theorem TT.vbb (h : TT base b w x v0 vb xo xb xf xe ls W vf ve em zf ze) : vb.ownBlock ≠ some b := by
 intro e
 obtain ⟨_, _, cs, fr, hh⟩ := h.be.block b e
 have := h.box
 unfold RBox at this
 rw [hh] at this
 simp only [Option.some.injEq, Obj.cells.injEq] at this
 exact absurd this.2.1 (by decide)
theorem TT.vba (h : TT base b w x v0 vb xo xb xf xe ls W vf ve em zf ze) : vb.ownBlock ≠ some w.heap.size := by
 intro e
 obtain ⟨_, _, cs, fr, hh⟩ := h.be.block _ e
 have := h.arg
 unfold RBox at this
 rw [hh] at this
 simp only [Option.some.injEq, Obj.cells.injEq] at this
 exact absurd this.2.1 (by decide)
theorem TT.setF (h : TT base b w x v0 vb xo xb xf xe ls W vf ve em zf ze) {u : Value} {zs : List Int} (hu : LRow W u zs) : TT base b w x v0 vb xo xb xf xe ls (W.setCell ⟨b, 2, none⟩ u) u ve em zs ze :=
 have ne : (41 : TypeId) ≠ 3 := by decide
 ⟨h.box.set2 u, h.arg.other (by have := h.bx; omega) _ _, hu.setCell ne h.box.ty _ _, h.e.setCell ne h.box.ty _ _, h.xf.setCell ne h.box.ty _ _, h.xe.setCell ne h.box.ty _ _, h.be.setCell ne h.box.ty h.vbb _ _, h.fr.setCell (fun _ => .inl rfl) _ _, h.bx⟩
theorem TT.setE (h : TT base b w x v0 vb xo xb xf xe ls W vf ve em zf ze) {u : Value} {zs : List Int} (hu : LRow W u zs) : TT base b w x v0 vb xo xb xf xe ls (W.setCell ⟨b, 3, none⟩ u) vf u em zf zs :=
 have ne : (41 : TypeId) ≠ 3 := by decide
 ⟨h.box.set3 u, h.arg.other (by have := h.bx; omega) _ _, h.f.setCell ne h.box.ty _ _, hu.setCell ne h.box.ty _ _, h.xf.setCell ne h.box.ty _ _, h.xe.setCell ne h.box.ty _ _, h.be.setCell ne h.box.ty h.vbb _ _, h.fr.setCell (fun _ => .inl rfl) _ _, h.bx⟩
theorem TT.setM (h : TT base b w x v0 vb xo xb xf xe ls W vf ve em zf ze) (em' : Bool) : TT base b w x v0 vb xo xb xf xe ls (W.setCell ⟨b, 4, none⟩ (.bool em')) vf ve em' zf ze :=
 have ne : (41 : TypeId) ≠ 3 := by decide
 ⟨h.box.set4 em', h.arg.other (by have := h.bx; omega) _ _, h.f.setCell ne h.box.ty _ _, h.e.setCell ne h.box.ty _ _, h.xf.setCell ne h.box.ty _ _, h.xe.setCell ne h.box.ty _ _, h.be.setCell ne h.box.ty h.vbb _ _, h.fr.setCell (fun _ => .inl rfl) _ _, h.bx⟩
theorem TT.store {g n cap : Nat} (h : TT base b w x v0 (.slice (some ⟨g, 0, none⟩) n cap) xo xb xf xe ls W vf ve em zf ze) (hn : n = ls.length) (i : Nat) {u : Value} {zs : List Int} (hu : LRow W u zs) (hfz : W.frozen? ⟨g, i, none⟩ = false) : TT base b w x v0 (.slice (some ⟨g, 0, none⟩) n cap) xo xb xf xe (ls.set i zs) (W.setCell ⟨g, i, none⟩ u) vf ve em zf ze :=
 have ne : (39 : TypeId) ≠ 3 := by decide
 have ty := (h.be.block g rfl).2.2
 ⟨h.box.other (fun e => h.vbb (by rw [← e]; rfl)) _ _, h.arg.other (fun e => h.vba (by rw [← e]; rfl)) _ _, h.f.setCell ne ty _ _, h.e.setCell ne ty _ _, h.xf.setCell ne ty _ _, h.xe.setCell ne ty _ _, h.be.store hn i u zs hu hfz, h.fr.setCell (fun _ => .inr rfl) _ _, h.bx⟩
end
theorem len_list (x : Bag) : x.list.length ≤ 256 := Bg.list_length_le x
theorem sl_row {W W' : World} {zs : List Int} {e : Ending} (h : IsSl' W zs e W') : ∃ u, e = .returned u ∧ LRow W' u zs ∧ Below W.heap.size W W' := by
 obtain ⟨A, c, rfl, ho, hw, hb⟩ := h
 exact ⟨_, rfl, LRow.of_own ho hw, hb⟩
theorem or_bags (x y : Bag) (u v : Value) (w : World) (hu : LRow w u x.list) (hv : LRow w v y.list) :
  Calls Tryz.prog 82 #[u, v] w fun e w' => ∃ A n c, e = .returned (.slice A n c) ∧ LRow w' (.slice A n c) (x.orB y).list ∧ Below w.heap.size w w' := by
 obtain ⟨A, c, rfl, hr, _⟩ := hu
 obtain ⟨A', c', rfl, hr', _⟩ := hv
 refine (or_any A A' _ _ c c' _ _ w hr hr' (by have := len_list x; omega) (by have := len_list y; omega)).mono ?_
 intro e w' h
 rw [orL_bags] at h
 obtain ⟨u, rfl, hl, hb⟩ := sl_row h
 obtain ⟨A, c, rfl⟩ := hl.form
 exact ⟨A, _, c, rfl, hl, hb⟩
theorem then_any {base : Nat} (b : Nat) (l : List En) (out x : Pc) (v0 vb vf ve xo xb xf xe : Value) (w : World) (hbox : RBox w b v0 vb vf ve out.em) (hp : PcR w vf ve out) (hx : PcR w xf xe x) (hl : LRows base w vb (l.map fun x => x.behind.list))
  (hw : ∀ j, out.ends.has j = true → j < l.length) :
  Calls Tryz.prog 177 #[.pointer (some ⟨b, 0, none⟩), .agg #[xo, xb, xf, xe, .bool x.em]] w fun en w' => (∃ v, en = .returned v) ∧ ∃ vf' ve', RBox w' b v0 vb vf' ve' (join out x).em ∧ PcR w' vf' ve' (join out x) ∧ LRows base w' vb ((lead out.ends x.first l).map fun x => x.behind.list) ∧ RFrame (fun k => k = b ∨ vb.ownBlock = some k) w w' := by
 have hb0 := (Below.refl _ w).alloc (Nat.le_refl _) (.cells #[xo, xb, xf, xe, .bool x.em] 41)
 have htt : TT base b w x v0 vb xo xb xf xe (l.map fun x => x.behind.list) (w.alloc (.cells #[xo, xb, xf, xe, .bool x.em] 41)) vf ve out.em out.first.list out.ends.list :=
  ⟨hbox.below hb0, RBox.new _ _ _ _ _ _, hp.1.below hb0, hp.2.below hb0, hx.1.below hb0, hx.2.below hb0, hl.below hb0, RFrame.of_below hb0, hbox.lt⟩
 have hbs := hbox.lt
 have HTT := Lib.hid htt
 obtain ⟨n, hn⟩ : ∃ n, out.ends.list.length = n := ⟨_, rfl⟩
 obtain ⟨Ae, ce, rfl⟩ := hp.2.form
 obtain ⟨Ax, cx, hxe⟩ := hx.2.form
 obtain ⟨nx, hnx⟩ : ∃ nx, x.ends.list.length = nx := ⟨_, rfl⟩
 rw [hnx] at hxe
 subst hxe
 rw [hn] at HTT
 have hnb : n ≤ 256 := by rw [← hn]; exact len_list _
 have HN := Lib.hid hn
 have HW := Lib.hid hw
 clear hb0 htt hbox hp hx hl hn hw hnx
 go_enter Tryz.func177, Tryz.ntmps177
 go_wp2_with fail
 go_loopw [4] (fun iv wr => ∃ i : Nat, iv = .int .i64 i ∧ i ≤ n ∧ Hid (TT base b w x v0 vb xo xb xf (.slice Ax nx cx) ((leadL (out.ends.list.take i) x.first l).map fun x => x.behind.list) wr vf (.slice Ae n ce) out.em out.first.list out.ends.list)) (fun iv _ => n - (intOf iv).toNat)
 case atStart => exact ⟨0, rfl, by omega, HTT⟩
 case round =>
  obtain ⟨i, rfl, hi, hT⟩ := hrel
  obtain ⟨c0, c1, c2, c3, c4⟩ := hT.out.box.cell
  obtain ⟨x0, x1, x2, x3, x4⟩ := hT.out.arg.cell
  by_cases hlt : i < n
  ·obtain ⟨hn1, hrow⟩ := hT.out.e.row
   obtain ⟨ge, oe, rfl, hce⟩ := hrow.2.2 (by omega)
   have ce1 := hce i (by omega)
   have hil : i < out.ends.list.length := by omega
   have hmem := List.getElem_mem hil
   obtain ⟨k, hk⟩ : ∃ k : Nat, out.ends.list[i] = (k : Int) := ⟨(out.ends.list[i]).toNat, by have := list_nonneg out.ends _ hmem; omega⟩
   have hkl : k < l.length := HW.out k (by rw [Bg.has_hasI]; rw [hk] at hmem; exact (Bg.mem_list _ _).1 hmem)
   rw [List.getD_eq_getElem?_getD, List.getElem?_eq_getElem hil, Option.getD_some, hk] at ce1
   have htk : out.ends.list.take (i + 1) = out.ends.list.take i ++ [(k : Int)] := by rw [List.take_succ_eq_append_getElem hil, hk]
   obtain ⟨L, hL⟩ : ∃ L, L = leadL (out.ends.list.take i) x.first l := ⟨_, rfl⟩
   have hLl : L.length = l.length := by rw [hL, leadL_length]
   have hnext : leadL (out.ends.list.take (i + 1)) x.first l = L.modify k (lead1 x.first) := by rw [htk, leadL_append, ← hL]; rfl
   rw [← hL] at hT
   have hkL : k < L.length := by omega
   have hbl := behinds_lead x.first L k hkL
   rw [← hnext] at hbl
   obtain ⟨m, hm⟩ : ∃ m, (L.map fun x => x.behind.list).length = m := ⟨_, rfl⟩
   have hmL : L.length = m := by rw [← hm, List.length_map]
   obtain ⟨g, cap, hv, hgb, hg, hfz, hcs⟩ := hT.out.be.opn (by rw [hm]; omega)
   rw [hm] at hv
   subst hv
   obtain ⟨u, hu, hur⟩ := hcs k (by rw [hm]; omega)
   rw [List.getElem_map] at hur
   generalize L[k] = yk at hur hbl
   have HNX := Lib.hid hbl
   have hkm : k < m := by omega
   have HUR := Lib.hid hur
   obtain ⟨Au, cu, rfl⟩ := hur.form
   have HM := Lib.hid hm
   have hbg : b ≠ g := fun e => hT.out.vbb (by rw [e]; rfl)
   have hag : w.heap.size ≠ g := fun e => hT.out.vba (by rw [e]; rfl)
   have hge : ge ≠ g := by
    rintro rfl
    obtain ⟨_, _, cs, fr, h1⟩ := hT.out.be.block ge rfl
    obtain ⟨_, _, _, _, hty⟩ := hT.out.e
    simp only [Value.slice.injEq] at *
    rename_i hh
    obtain ⟨cs', fr', h2⟩ := hty ge oe none hh.1.symm
    rw [h1] at h2
    simp only [Option.some.injEq, Obj.cells.injEq] at h2
    exact absurd h2.2.1 (by decide)
   obtain ⟨nb, hnb⟩ : ∃ nb, yk.behind.list.length = nb := ⟨_, rfl⟩
   rw [hnb] at hu HUR
   have hgz := hfz k
   have l1 : decide ((i : Int) < (n : Int)) = true := by simp; omega
   have HT := hT
   clear hgb hL hLl hnext hbl hm hmL hkL hcs hur hfz hT hnb hk hmem hil htk hn1 hrow hce
   go_wp2_with fail
   refine wp_region_held_drew (S := fun W' => (W'.cell? ⟨b, 1, none⟩ = some (.slice (some ⟨g, 0, none⟩) m cap) ∧ W'.cell? ⟨b, 3, none⟩ = some (.slice (some ⟨ge, oe, none⟩) n ce)) ∧ W'.cell? ⟨ge, oe + i, none⟩ = some (.int .i64 k) ∧ W'.cell? ⟨w.heap.size, 2, none⟩ = some xf) (by kernel_rfl) ⟨⟨c1, c3⟩, ce1, x2⟩ (fun hHeld => ?_)
   refine tk 0 (v := ?_) rfl (by kernel_rfl) (fun _ _ _ h => h) ?_ hHeld ?_
   rotate_left
   ·(intro W hSw; (try dsimp only at hSw); go_simp; try with_reducible rfl)
   refine tk 1 (v := ?_) rfl (by kernel_rfl) (fun _ _ _ h => h) ?_ hHeld ?_
   rotate_left
   ·(intro W hSw; (try dsimp only at hSw); go_simp; try with_reducible rfl)
   refine tk 2 (v := ?_) rfl (by kernel_rfl) (fun _ _ _ h => h) ?_ hHeld ?_
   rotate_left
   ·(intro W hSw; (try dsimp only at hSw); go_simp; try with_reducible rfl)
   refine tk 3 (v := ?_) rfl (by kernel_rfl) (fun _ _ _ h => h) ?_ hHeld ?_
   rotate_left
   ·(intro W hSw; (try dsimp only at hSw); go_simp; try with_reducible rfl)
   refine tk 4 (v := ?_) rfl (by kernel_rfl) (fun _ _ _ h => h) ?_ hHeld ?_
   rotate_left
   ·(intro W hSw; (try dsimp only at hSw); go_simp; try with_reducible rfl)
   refine tk 5 (v := ?_) rfl (by kernel_rfl) (fun _ _ _ h => h) ?_ hHeld ?_
   rotate_left
   ·(intro W hSw; (try dsimp only at hSw); go_simp; try with_reducible rfl)
   refine tk 6 (v := ?_) rfl (by kernel_rfl) (fun _ _ _ h => h) ?_ hHeld ?_
   rotate_left
   ·(intro W hSw; (try dsimp only at hSw); go_simp; try with_reducible rfl)
   refine tk 7 (v := ?_) rfl (by kernel_rfl) (fun _ _ _ h => h) ?_ hHeld ?_
   rotate_left
   ·(intro W hSw; (try dsimp only at hSw); go_simp; try with_reducible rfl)
   refine tk 8 (v := ?_) rfl (by kernel_rfl) (fun _ _ _ h => h) ?_ hHeld ?_
   rotate_left
   ·(intro W hSw; (try dsimp only at hSw); go_simp; try with_reducible rfl)
   refine tk 9 (v := ?_) rfl (by kernel_rfl) (fun _ _ _ h => h) ?_ hHeld ?_
   rotate_left
   ·(intro W hSw; (try dsimp only at hSw); go_simp; try with_reducible rfl)
   refine tk 10 (v := ?_) rfl (by kernel_rfl) (fun _ _ _ h => h) ?_ hHeld ?_
   rotate_left
   ·(intro W hSw; (try dsimp only at hSw); go_simp; try with_reducible rfl)
   refine tk 11 (v := ?_) rfl (by kernel_rfl) (fun _ _ _ h => h) ?_ hHeld ?_
   rotate_left
   ·(intro W hSw; (try dsimp only at hSw); go_simp; try with_reducible rfl)
   refine tk 12 (v := ?_) rfl (by kernel_rfl) (fun _ _ _ h => h) ?_ hHeld ?_
   rotate_left
   ·(intro W hSw; (try dsimp only at hSw); go_simp; try with_reducible rfl)
   refine tk 13 (v := ?_) rfl (by kernel_rfl) (fun _ _ _ h => h) ?_ hHeld ?_
   rotate_left
   ·(intro W hSw; (try dsimp only at hSw); go_simp; try with_reducible rfl)
   refine tk 14 (v := ?_) rfl (by kernel_rfl) (fun _ _ _ h => h) ?_ hHeld ?_
   rotate_left
   ·(intro W hSw; (try dsimp only at hSw); go_simp; try with_reducible rfl)
   refine tk 15 (v := ?_) rfl (by kernel_rfl) (fun _ _ _ h => h) ?_ hHeld ?_
   rotate_left
   ·(intro W hSw; (try dsimp only at hSw); go_simp; try with_reducible rfl)
   refine tk 16 (v := ?_) rfl (by kernel_rfl) (fun _ _ _ h => h) ?_ hHeld ?_
   rotate_left
   ·(intro W hSw; (try dsimp only at hSw); go_simp; try with_reducible rfl)
   refine tk 17 (v := ?_) rfl (by kernel_rfl) (fun _ _ _ h => h) ?_ hHeld ?_
   rotate_left
   ·(intro W hSw; (try dsimp only at hSw); go_simp; try with_reducible rfl)
   refine tk 18 (v := ?_) rfl (by kernel_rfl) (fun _ _ _ h => h) ?_ hHeld ?_
   rotate_left
   ·(intro W hSw; (try dsimp only at hSw); go_simp; try with_reducible rfl)
   refine tk 19 (v := ?_) rfl (by kernel_rfl) (fun _ _ _ h => h) ?_ hHeld ?_
   rotate_left
   ·(intro W hSw; (try dsimp only at hSw); go_simp; try with_reducible rfl)
   refine tk 20 (v := ?_) rfl (by kernel_rfl) (fun _ _ _ h => h) ?_ hHeld ?_
   rotate_left
   ·(intro W hSw; (try dsimp only at hSw); go_simp; try with_reducible rfl)
   refine tk 21 (v := ?_) rfl (by kernel_rfl) (fun _ _ _ h => h) ?_ hHeld ?_
   rotate_left
   ·(intro W hSw; (try dsimp only at hSw); go_simp; try with_reducible rfl)
   refine tk 22 (v := ?_) rfl (by kernel_rfl) (fun _ _ _ h => h) ?_ hHeld ?_
   rotate_left
   ·(intro W hSw; (try dsimp only at hSw); go_simp; try with_reducible rfl)
   refine tk 24 (v := ?_) rfl (by kernel_rfl) (fun _ _ _ h => h) ?_ hHeld ?_
   rotate_left
   ·(intro W hSw; (try dsimp only at hSw); go_simp; try with_reducible rfl)
   refine tk 25 (v := ?_) rfl (by kernel_rfl) (fun _ _ _ h => h) ?_ hHeld ?_
   rotate_left
   ·(intro W hSw; (try dsimp only at hSw); go_simp; try with_reducible rfl)
   refine wpAnyH_ready (rs := [23]) (by kernel_rfl) (by simp) ?_
   refine AllReadyH.cons rfl (fun K hK => ?_) AllReadyH.nil
   go_simp
   refine hK.out _ _ hHeld (fun hH2 => ?_)
   clear hHeld hK K
   have hHeld := hH2
   clear hH2
   refine wpAnyH_ready (rs := [26]) (by kernel_rfl) (by simp) ?_
   refine AllReadyH.cons rfl (fun K hK => ?_) AllReadyH.nil
   go_simp
   go_at_call 82
   refine (or_bags yk.behind x.first _ _ _ (HUR.out.drew) (HT.out.xf.drew)).mono ?_
   rintro en w9 ⟨Ar, nr, cr, rfl, hr, hb9⟩
   have hb8 : Below wr.heap.size wr w9 := (below_drewN (Below.refl _ _) 1).trans hb9
   have HT9 := Lib.hid (HT.out.below hb8)
   obtain ⟨d0, d1, d2, d3, d4⟩ := HT9.out.box.cell
   obtain ⟨y0, y1, y2, y3, y4⟩ := HT9.out.arg.cell
   have ce9 : w9.cell? ⟨ge, oe + i, none⟩ = some (.int .i64 k) := by rw [← ce1]; exact hb8.cell (p := ⟨ge, oe + i, none⟩) (World.block_lt_of_cell? wr _ ce1)
   have HR := Lib.hid hr
   obtain ⟨g', cap', hv', hgb9, hg9, hfz9, hcs9⟩ := HT9.out.be.opn (by rw [HM.out]; omega)
   rw [HM.out] at hv'
   simp only [Value.slice.injEq, Option.some.injEq, Addr.mk.injEq, and_true, true_and] at hv'
   obtain ⟨rfl, rfl⟩ := hv'
   obtain ⟨u9, hu9, hu9r⟩ := hcs9 k (by rw [HM.out]; exact hkm)
   have hf9 := hfz9 k
   have HS9 := Lib.hid (show (w9.cell? ⟨b, 1, none⟩ = some (.slice (some ⟨g, 0, none⟩) m cap) ∧ w9.cell? ⟨b, 3, none⟩ = some (.slice (some ⟨ge, oe, none⟩) n ce)) ∧ w9.cell? ⟨ge, oe + i, none⟩ = some (.int .i64 k) ∧ w9.cell? ⟨w.heap.size, 2, none⟩ = some xf from ⟨⟨d1, d3⟩, ce9, y2⟩)
   clear hb9 hb8 hr hfz9 hcs9 hHeld hu9r hgb9
   go_wp2_with fail
   refine hK.out _ _ HS9.out (fun hHeld => ?_)
   clear hK K
   refine tk 27 (v := ?_) rfl (by kernel_rfl) (fun _ _ _ h => h) ?_ hHeld ?_
   rotate_left
   ·(intro W hSw; (try dsimp only at hSw); go_simp; try with_reducible rfl)
   refine wpAnyH_ready (rs := [28]) (by kernel_rfl) (by simp) ?_
   refine AllReadyH.cons rfl (fun K hK => ?_) AllReadyH.nil
   go_simp
   have hT10 := HT9.out.store HM.out.symm k HR.out hf9
   rw [← HNX.out] at hT10
   obtain ⟨e0, e1, e2, e3, e4⟩ := hT10.box.cell
   obtain ⟨z0, z1, z2, z3, z4⟩ := hT10.arg.cell
   have ce10 : (w9.setCell ⟨g, k, none⟩ (.slice Ar nr cr)).cell? ⟨ge, oe + i, none⟩ = some (.int .i64 k) := by
    rw [← ce9]; exact World.cell?_of_block (w := w9) (a := ⟨ge, oe + i, none⟩) (Below.heap_setCell w9 ⟨g, k, none⟩ _ ge hge)
   have HT10 := Lib.hid hT10
   clear hT10
   refine hK.out _ _ ⟨⟨e1, e3⟩, ce10, z2⟩ (fun hHeld => ?_)
   clear hK K hHeld e0 e1 e2 e3 e4 z0 z1 z2 z3 z4
   refine wpAnyH_done (by kernel_rfl) ?_ _
   go_simp
   rename_i KK hKK
   refine hKK _ _ ?_
   clear hKK
   go_wp2_with fail
   go_roundw
   case rel => exact ⟨i + 1, by go_num, by omega, HT10⟩
   case measure => simp [intOf]; omega
  ·obtain rfl : i = n := by omega
   have l1 : decide ((i : Int) < (i : Int)) = false := by simp
   have HT : Hid (TT base b w x v0 vb xo xb xf (.slice Ax nx cx) ((lead out.ends x.first l).map fun x => x.behind.list) wr vf (.slice Ae i ce) out.em out.first.list out.ends.list) := by
    have h := hT.out
    rw [List.take_of_length_le (by rw [HN.out]; exact Nat.le_refl _)] at h
    exact h
   clear hT hlt x0 x1 x2 x3 x4 c0 c1 c2
   obtain ⟨em, hem⟩ : ∃ em, out.em = em := ⟨_, rfl⟩
   rw [hem] at HT c4
   have HEM := Lib.hid hem
   clear hem
   obtain ⟨xm, hxm⟩ : ∃ xm, x.em = xm := ⟨_, rfl⟩
   have HXM := Lib.hid hxm
   clear hxm
   cases em
   ·skip
    have x4 := HT.out.arg.cell.2.2.2.2
    rw [HXM.out] at x4
    cases xm
    ·skip
     have c3 := HT.out.box.cell.2.2.2.1
     have x3 := HT.out.arg.cell.2.2.2.1
     have c4 := HT.out.box.cell.2.2.2.2
     have f3 := HT.out.box.free 3
     have f4 := HT.out.box.free 4
     go_wp2
     go_end0
     have hF := (HT.out.setE HT.out.xe).setM false
     refine ⟨⟨_, rfl⟩, vf, (.slice Ax nx cx), ?_, ⟨?_, ?_⟩, hF.be, hF.fr⟩
     ·have h := hF.box
      unfold join; dsimp only; rw [HEM.out, HXM.out]; exact h
     ·have h := hF.f
      unfold join; dsimp only; rw [HEM.out]; exact h
     ·have h := hF.e
      unfold join; dsimp only; rw [HXM.out]; exact h
    ·skip
     go_wp2_with fail
     clear x4
     obtain ⟨c0, c1, c2, c3, c4⟩ := HT.out.box.cell
     obtain ⟨x0, x1, x2, x3, x4⟩ := HT.out.arg.cell
     refine wp_region_held_drew (S := fun W' => W'.cell? ⟨w.heap.size, 3, none⟩ = some (.slice Ax nx cx)) (by kernel_rfl) x3 (fun hHeld => ?_)
     refine tk 0 (v := ?_) rfl (by kernel_rfl) (fun _ _ _ h => h) ?_ hHeld ?_
     rotate_left
     ·(intro W hSw; (try dsimp only at hSw); go_simp; try with_reducible rfl)
     refine tk 1 (v := ?_) rfl (by kernel_rfl) (fun _ _ _ h => h) ?_ hHeld ?_
     rotate_left
     ·(intro W hSw; (try dsimp only at hSw); go_simp; try with_reducible rfl)
     refine tk 2 (v := ?_) rfl (by kernel_rfl) (fun _ _ _ h => h) ?_ hHeld ?_
     rotate_left
     ·(intro W hSw; (try dsimp only at hSw); go_simp; try with_reducible rfl)
     refine tk 3 (v := ?_) rfl (by kernel_rfl) (fun _ _ _ h => h) ?_ hHeld ?_
     rotate_left
     ·(intro W hSw; (try dsimp only at hSw); go_simp; try with_reducible rfl)
     refine tk 5 (v := ?_) rfl (by kernel_rfl) (fun _ _ _ h => h) ?_ hHeld ?_
     rotate_left
     ·(intro W hSw; (try dsimp only at hSw); go_simp; try with_reducible rfl)
     refine tk 6 (v := ?_) rfl (by kernel_rfl) (fun _ _ _ h => h) ?_ hHeld ?_
     rotate_left
     ·(intro W hSw; (try dsimp only at hSw); go_simp; try with_reducible rfl)
     refine wpAnyH_ready (rs := [4]) (by kernel_rfl) (by simp) ?_
     refine AllReadyH.cons rfl (fun K hK => ?_) AllReadyH.nil
     go_simp
     refine hK.out _ _ hHeld (fun hH2 => ?_)
     clear hHeld hK K
     have hHeld := hH2
     clear hH2
     refine wpAnyH_ready (rs := [7]) (by kernel_rfl) (by simp) ?_
     refine AllReadyH.cons rfl (fun K hK => ?_) AllReadyH.nil
     go_simp
     go_at_call 82
     refine (or_bags out.ends x.ends _ _ _ (HT.out.e.drew) (HT.out.xe.drew)).mono ?_
     rintro en w4 ⟨Ar4, nr4, cr4, rfl, hr, hb9⟩
     have HT4a := Lib.hid (HT.out.below ((below_drewN (Below.refl _ _) 1).trans hb9))
     obtain ⟨d0, d1, d2, d3, d4⟩ := HT4a.out.box.cell
     obtain ⟨y0, y1, y2, y3, y4⟩ := HT4a.out.arg.cell
     have hf9 := HT4a.out.box.free 3
     have hT10 := HT4a.out.setE hr
     obtain ⟨z0, z1, z2, z3, z4⟩ := hT10.arg.cell
     have HT4 := Lib.hid hT10
     have HS9 := Lib.hid z3
     clear hb9 hr hT10 hHeld z0 z1 z2 z3 z4 c0 c1 c2 c3 c4 x0 x1 x2 x3 x4
     go_wp2_with fail
     refine hK.out _ _ y3 (fun hHeld => ?_)
     clear hK K
     refine tk 8 (v := ?_) rfl (by kernel_rfl) (fun _ _ _ h => h) ?_ hHeld ?_
     rotate_left
     ·(intro W hSw; (try dsimp only at hSw); go_simp; try with_reducible rfl)
     refine tk 9 (v := ?_) rfl (by kernel_rfl) (fun _ _ _ h => h) ?_ hHeld ?_
     rotate_left
     ·(intro W hSw; (try dsimp only at hSw); go_simp; try with_reducible rfl)
     refine wpAnyH_ready (rs := [10]) (by kernel_rfl) (by simp) ?_
     refine AllReadyH.cons rfl (fun K hK => ?_) AllReadyH.nil
     go_simp
     refine hK.out _ _ HS9.out (fun hHeld => ?_)
     clear hK K hHeld d0 d1 d2 d3 d4 y0 y1 y2 y3 y4
     refine wpAnyH_done (by kernel_rfl) ?_ _
     go_simp
     rename_i KK hKK
     refine hKK _ _ ?_
     clear hKK
     generalize w4.setCell ⟨b, 3, none⟩ (.slice Ar4 nr4 cr4) = W4 at HT4 ⊢
     have c4 := HT4.out.box.cell.2.2.2.2
     have x4 := HT4.out.arg.cell.2.2.2.2
     rw [HXM.out] at x4
     have f4 := HT4.out.box.free 4
     go_wp2
     go_end0
     have hF := HT4.out.setM false
     refine ⟨⟨_, rfl⟩, vf, (.slice Ar4 nr4 cr4), ?_, ⟨?_, ?_⟩, hF.be, hF.fr⟩
     ·have h := hF.box
      unfold join; dsimp only; rw [HEM.out, HXM.out]; exact h
     ·have h := hF.f
      unfold join; dsimp only; rw [HEM.out]; exact h
     ·have h := hF.e
      unfold join; dsimp only; rw [HXM.out]; rw [if_pos rfl, orB_comm]; exact h
   ·go_wp2_with fail
    clear c4
    obtain ⟨c0, c1, c2, c3, c4⟩ := HT.out.box.cell
    obtain ⟨x0, x1, x2, x3, x4⟩ := HT.out.arg.cell
    refine wp_region_held_drew (S := fun W' => W'.cell? ⟨w.heap.size, 2, none⟩ = some xf) (by kernel_rfl) x2 (fun hHeld => ?_)
    refine tk 0 (v := ?_) rfl (by kernel_rfl) (fun _ _ _ h => h) ?_ hHeld ?_
    rotate_left
    ·(intro W hSw; (try dsimp only at hSw); go_simp; try with_reducible rfl)
    refine tk 1 (v := ?_) rfl (by kernel_rfl) (fun _ _ _ h => h) ?_ hHeld ?_
    rotate_left
    ·(intro W hSw; (try dsimp only at hSw); go_simp; try with_reducible rfl)
    refine tk 2 (v := ?_) rfl (by kernel_rfl) (fun _ _ _ h => h) ?_ hHeld ?_
    rotate_left
    ·(intro W hSw; (try dsimp only at hSw); go_simp; try with_reducible rfl)
    refine tk 3 (v := ?_) rfl (by kernel_rfl) (fun _ _ _ h => h) ?_ hHeld ?_
    rotate_left
    ·(intro W hSw; (try dsimp only at hSw); go_simp; try with_reducible rfl)
    refine tk 5 (v := ?_) rfl (by kernel_rfl) (fun _ _ _ h => h) ?_ hHeld ?_
    rotate_left
    ·(intro W hSw; (try dsimp only at hSw); go_simp; try with_reducible rfl)
    refine tk 6 (v := ?_) rfl (by kernel_rfl) (fun _ _ _ h => h) ?_ hHeld ?_
    rotate_left
    ·(intro W hSw; (try dsimp only at hSw); go_simp; try with_reducible rfl)
    refine wpAnyH_ready (rs := [4]) (by kernel_rfl) (by simp) ?_
    refine AllReadyH.cons rfl (fun K hK => ?_) AllReadyH.nil
    go_simp
    refine hK.out _ _ hHeld (fun hH2 => ?_)
    clear hHeld hK K
    have hHeld := hH2
    clear hH2
    refine wpAnyH_ready (rs := [7]) (by kernel_rfl) (by simp) ?_
    refine AllReadyH.cons rfl (fun K hK => ?_) AllReadyH.nil
    go_simp
    go_at_call 82
    refine (or_bags out.first x.first _ _ _ (HT.out.f.drew) (HT.out.xf.drew)).mono ?_
    rintro en w3 ⟨Ar3, nr3, cr3, rfl, hr, hb9⟩
    have HT3a := Lib.hid (HT.out.below ((below_drewN (Below.refl _ _) 1).trans hb9))
    obtain ⟨d0, d1, d2, d3, d4⟩ := HT3a.out.box.cell
    obtain ⟨y0, y1, y2, y3, y4⟩ := HT3a.out.arg.cell
    have hf9 := HT3a.out.box.free 2
    have hT10 := HT3a.out.setF hr
    obtain ⟨z0, z1, z2, z3, z4⟩ := hT10.arg.cell
    have HT3 := Lib.hid hT10
    have HS9 := Lib.hid z2
    clear hb9 hr hT10 hHeld z0 z1 z2 z3 z4 c0 c1 c2 c3 c4 x0 x1 x2 x3 x4
    go_wp2_with fail
    refine hK.out _ _ y2 (fun hHeld => ?_)
    clear hK K
    refine tk 8 (v := ?_) rfl (by kernel_rfl) (fun _ _ _ h => h) ?_ hHeld ?_
    rotate_left
    ·(intro W hSw; (try dsimp only at hSw); go_simp; try with_reducible rfl)
    refine tk 9 (v := ?_) rfl (by kernel_rfl) (fun _ _ _ h => h) ?_ hHeld ?_
    rotate_left
    ·(intro W hSw; (try dsimp only at hSw); go_simp; try with_reducible rfl)
    refine wpAnyH_ready (rs := [10]) (by kernel_rfl) (by simp) ?_
    refine AllReadyH.cons rfl (fun K hK => ?_) AllReadyH.nil
    go_simp
    refine hK.out _ _ HS9.out (fun hHeld => ?_)
    clear hK K hHeld d0 d1 d2 d3 d4 y0 y1 y2 y3 y4
    refine wpAnyH_done (by kernel_rfl) ?_ _
    go_simp
    rename_i KK hKK
    refine hKK _ _ ?_
    clear hKK
    generalize w3.setCell ⟨b, 2, none⟩ (.slice Ar3 nr3 cr3) = W3 at HT3 ⊢
    have x4 := HT3.out.arg.cell.2.2.2.2
    rw [HXM.out] at x4
    cases xm
    ·skip
     have c3 := HT3.out.box.cell.2.2.2.1
     have x3 := HT3.out.arg.cell.2.2.2.1
     have c4 := HT3.out.box.cell.2.2.2.2
     have f3 := HT3.out.box.free 3
     have f4 := HT3.out.box.free 4
     go_wp2
     go_end0
     have hF := (HT3.out.setE HT3.out.xe).setM false
     refine ⟨⟨_, rfl⟩, (.slice Ar3 nr3 cr3), (.slice Ax nx cx), ?_, ⟨?_, ?_⟩, hF.be, hF.fr⟩
     ·have h := hF.box
      unfold join; dsimp only; rw [HEM.out, HXM.out]; exact h
     ·have h := hF.f
      unfold join; dsimp only; rw [HEM.out]; exact h
     ·have h := hF.e
      unfold join; dsimp only; rw [HXM.out]; exact h
    ·skip
     go_wp2_with fail
     clear x4
     obtain ⟨c0, c1, c2, c3, c4⟩ := HT3.out.box.cell
     obtain ⟨x0, x1, x2, x3, x4⟩ := HT3.out.arg.cell
     refine wp_region_held_drew (S := fun W' => W'.cell? ⟨w.heap.size, 3, none⟩ = some (.slice Ax nx cx)) (by kernel_rfl) x3 (fun hHeld => ?_)
     refine tk 0 (v := ?_) rfl (by kernel_rfl) (fun _ _ _ h => h) ?_ hHeld ?_
     rotate_left
     ·(intro W hSw; (try dsimp only at hSw); go_simp; try with_reducible rfl)
     refine tk 1 (v := ?_) rfl (by kernel_rfl) (fun _ _ _ h => h) ?_ hHeld ?_
     rotate_left
     ·(intro W hSw; (try dsimp only at hSw); go_simp; try with_reducible rfl)
     refine tk 2 (v := ?_) rfl (by kernel_rfl) (fun _ _ _ h => h) ?_ hHeld ?_
     rotate_left
     ·(intro W hSw; (try dsimp only at hSw); go_simp; try with_reducible rfl)
     refine tk 3 (v := ?_) rfl (by kernel_rfl) (fun _ _ _ h => h) ?_ hHeld ?_
     rotate_left
     ·(intro W hSw; (try dsimp only at hSw); go_simp; try with_reducible rfl)
     refine tk 5 (v := ?_) rfl (by kernel_rfl) (fun _ _ _ h => h) ?_ hHeld ?_
     rotate_left
     ·(intro W hSw; (try dsimp only at hSw); go_simp; try with_reducible rfl)
     refine tk 6 (v := ?_) rfl (by kernel_rfl) (fun _ _ _ h => h) ?_ hHeld ?_
     rotate_left
     ·(intro W hSw; (try dsimp only at hSw); go_simp; try with_reducible rfl)
     refine wpAnyH_ready (rs := [4]) (by kernel_rfl) (by simp) ?_
     refine AllReadyH.cons rfl (fun K hK => ?_) AllReadyH.nil
     go_simp
     refine hK.out _ _ hHeld (fun hH2 => ?_)
     clear hHeld hK K
     have hHeld := hH2
     clear hH2
     refine wpAnyH_ready (rs := [7]) (by kernel_rfl) (by simp) ?_
     refine AllReadyH.cons rfl (fun K hK => ?_) AllReadyH.nil
     go_simp
     go_at_call 82
     refine (or_bags out.ends x.ends _ _ _ (HT3.out.e.drew) (HT3.out.xe.drew)).mono ?_
     rintro en w4 ⟨Ar4, nr4, cr4, rfl, hr, hb9⟩
     have HT4a := Lib.hid (HT3.out.below ((below_drewN (Below.refl _ _) 1).trans hb9))
     obtain ⟨d0, d1, d2, d3, d4⟩ := HT4a.out.box.cell
     obtain ⟨y0, y1, y2, y3, y4⟩ := HT4a.out.arg.cell
     have hf9 := HT4a.out.box.free 3
     have hT10 := HT4a.out.setE hr
     obtain ⟨z0, z1, z2, z3, z4⟩ := hT10.arg.cell
     have HT4 := Lib.hid hT10
     have HS9 := Lib.hid z3
     clear hb9 hr hT10 hHeld z0 z1 z2 z3 z4 c0 c1 c2 c3 c4 x0 x1 x2 x3 x4
     go_wp2_with fail
     refine hK.out _ _ y3 (fun hHeld => ?_)
     clear hK K
     refine tk 8 (v := ?_) rfl (by kernel_rfl) (fun _ _ _ h => h) ?_ hHeld ?_
     rotate_left
     ·(intro W hSw; (try dsimp only at hSw); go_simp; try with_reducible rfl)
     refine tk 9 (v := ?_) rfl (by kernel_rfl) (fun _ _ _ h => h) ?_ hHeld ?_
     rotate_left
     ·(intro W hSw; (try dsimp only at hSw); go_simp; try with_reducible rfl)
     refine wpAnyH_ready (rs := [10]) (by kernel_rfl) (by simp) ?_
     refine AllReadyH.cons rfl (fun K hK => ?_) AllReadyH.nil
     go_simp
     refine hK.out _ _ HS9.out (fun hHeld => ?_)
     clear hK K hHeld d0 d1 d2 d3 d4 y0 y1 y2 y3 y4
     refine wpAnyH_done (by kernel_rfl) ?_ _
     go_simp
     rename_i KK hKK
     refine hKK _ _ ?_
     clear hKK
     generalize w4.setCell ⟨b, 3, none⟩ (.slice Ar4 nr4 cr4) = W4 at HT4 ⊢
     have c4 := HT4.out.box.cell.2.2.2.2
     have x4 := HT4.out.arg.cell.2.2.2.2
     rw [HXM.out] at x4
     have f4 := HT4.out.box.free 4
     go_wp2
     go_end0
     have hF := HT4.out.setM true
     refine ⟨⟨_, rfl⟩, (.slice Ar3 nr3 cr3), (.slice Ar4 nr4 cr4), ?_, ⟨?_, ?_⟩, hF.be, hF.fr⟩
     ·have h := hF.box
      unfold join; dsimp only; rw [HEM.out, HXM.out]; exact h
     ·have h := hF.f
      unfold join; dsimp only; rw [HEM.out]; exact h
     ·have h := hF.e
      unfold join; dsimp only; rw [HXM.out]; rw [if_pos rfl, orB_comm]; exact h
end Go.Proofs.YtnbchikiiipejaaGreatDoor.Nf
