/- Walk of the reference's Same of two rows of numbers. -/
import Derived.Test.YtnbchikiiipejaaGreatDoorExPR
import Derived.Test.YtnbchikiiipejaaGreatDoorNfNe
import Derived.Test.YtnbchikiiipejaaGreatDoorNfQ
import Derived.Test.YtnbchikiiipejaaGreatDoorLxLaid
import Derived.Test.YtnbchikiiipejaaGreatDoorTie
import Derived.Stop.LaidErr
import Derived.Test.YtnbchikiiipejaaGreatDoorNbList
import Derived.LaidMore
import Derived.Lib.LaidTab
import Derived.Test.YtnbchikiiipejaaGreatDoorNfOpn
set_option linter.unusedVariables false
set_option maxRecDepth 100000
set_option maxHeartbeats 8000000
namespace Go.Proofs.YtnbchikiiipejaaGreatDoor.Ex
open Go.RowKit Mem Lx
theorem ints_any (A A' : Option Addr) (n m c c' : Nat) (zs ys : List Int) (w : World) (h1 : Row .i64 w A n zs) (h2 : Row .i64 w A' m ys) (hn : n ≤ 1000000) :
  Calls Tryz.prog 24 #[.slice A n c, .slice A' m c'] w fun e w' => e = .returned (.bool (decide (zs = ys))) ∧ Drawn w w' := by
 have hl1 := h1.1
 have hl2 := h2.1
 by_cases hnm : n = m
 ·subst hnm
  have H1 := hide h1
  have H2 := hide h2
  have HL := Lib.hid (⟨hl1, hl2⟩ : zs.length = n ∧ ys.length = n)
  clear h1 h2 hl1 hl2
  go_enter Tryz.func24, Tryz.ntmps24
  go_wp2_with fail
  go_loopw [5] (fun iv wr => ∃ j : Nat, iv = .int .i64 j ∧ j ≤ n ∧ Hid (Drawn w wr) ∧ Hid (∀ i, i < j → zs.getD i 0 = ys.getD i 0)) (fun iv _ => n - (intOf iv).toNat)
  case atStart => exact ⟨0, rfl, by omega, Lib.hid (drawn_refl w), Lib.hid (fun i hi => by omega)⟩
  case round =>
   obtain ⟨j, rfl, hj, hD, hE⟩ := hrel
   by_cases hlt : j < n
   ·obtain ⟨b, off, rfl, hc⟩ := (H1.out.below (drawn_below hD.out)).2.2 (by omega)
    obtain ⟨b', off', rfl, hc'⟩ := (H2.out.below (drawn_below hD.out)).2.2 (by omega)
    have a0 := hc j hlt
    have b0 := hc' j hlt
    have l1 : decide ((j : Int) < (n : Int)) = true := by simp; omega
    have l2 : decide (j < n) = true := by simp; omega
    have g0 : (j : Int) < (n : Int) := by omega
    clear hc hc'
    by_cases he : zs.getD j 0 = ys.getD j 0
    ·have HE : Hid (∀ i, i < j + 1 → zs.getD i 0 = ys.getD i 0) := fun i hi => by
      rcases Nat.lt_or_ge i j with h | h
      ·exact hE.out i h
      ·rw [show i = j from by omega]; exact he
     rw [he] at a0
     have t2 : (ys.getD j 0 != ys.getD j 0) = false := by simp
     generalize ys.getD j 0 = y at a0 b0 t2
     clear he hE
     go_wp2_with fail
     go_quiet (fail)
     go_wp2_with fail
     go_roundw
     case rel => exact ⟨j + 1, by go_num, by omega, Lib.hid (Drawn.trans hD.out ⟨_, rfl⟩), HE⟩
     case measure => simp [intOf]; omega
    ·have t1 : (zs.getD j 0 != ys.getD j 0) = true := by simpa using he
     have HNE : Hid (decide (zs = ys) = false) := by
      show _ = _
      simp only [decide_eq_false_iff_not]
      rintro rfl
      exact he rfl
     generalize zs.getD j 0 = z at a0 t1
     generalize ys.getD j 0 = y at b0 t1
     clear he hE
     go_wp2_with fail
     go_quiet (fail)
     go_wp2_with fail
     go_ret
     exact ⟨by rw [HNE.out]; rfl, Drawn.trans hD.out ⟨_, rfl⟩⟩
   ·have l1 : decide ((j : Int) < (n : Int)) = false := by simp; omega
    have l2 : decide (j < n) = false := by simp; omega
    have HEQ : Hid (decide (zs = ys) = true) := by
     show _ = _
     simp only [decide_eq_true_eq]
     refine List.ext_getElem (by rw [HL.out.1, HL.out.2]) (fun i h1 h2 => ?_)
     have := hE.out i (by have := HL.out.1; omega)
     simpa [List.getD, List.getElem?_eq_getElem h1, List.getElem?_eq_getElem h2] using this
    clear hlt
    go_wp2_with fail
    go_ret
    exact ⟨by rw [HEQ.out]; rfl, hD.out⟩
 ·have HNE : Hid (decide (zs = ys) = false) := by
   show _ = _
   simp only [decide_eq_false_iff_not]
   rintro rfl
   omega
  have t1 : ((n : Int) != (m : Int)) = true := by simp; omega
  have t2 : (n != m) = true := by simpa using hnm
  clear hnm hl1 hl2 h1 h2
  go_enter Tryz.func24, Tryz.ntmps24
  go_wp2_with fail
  go_ret
  exact ⟨by rw [HNE.out]; rfl, drawn_refl w⟩
end Go.Proofs.YtnbchikiiipejaaGreatDoor.Ex
namespace Go.Proofs.YtnbchikiiipejaaGreatDoor.Nf
open Go.RowKit Mem
open Bg (Bag bagV Tab)
open Lx (Held)
open Ex (Pt PI PR KR pl rightI)
structure PB (w : World) (A : Option Addr) (n : Nat) (l : List MI) (W : World) : Prop where
 bel : Below w.heap.size w W
 held : Held W
 tab : Tab W
 mr : MR W A n l
structure LP (w : World) (A : Option Addr) (n : Nat) (l : List MI) (b N X B : Nat) (p : Pc) (L : List En) (vo vb vf ve : Value) (W : World) : Prop where
 pb : PB w A n l W
 ns : NS b N W L p
 bx : RBox W X vo vb vf ve p.em
 on : LRows B W vo (L.map fun x => x.on.list)
 be : LRows B W vb (L.map fun x => x.behind.list)
 pc : PcR W vf ve p
section
variable {w W W' : World} {A : Option Addr} {n : Nat} {l : List MI} {b N X B : Nat} {p : Pc} {L : List En} {vo vb vf ve : Value}
theorem PB.below (h : PB w A n l W) (f : Below W.heap.size W W') : PB w A n l W' := ⟨h.bel.trans (f.mono h.bel.size), h.held.below f, h.tab.below f h.tab.2, h.mr.below f⟩
theorem LP.below (h : LP w A n l b N X B p L vo vb vf ve W) (f : Below W.heap.size W W') : LP w A n l b N X B p L vo vb vf ve W' :=
 ⟨h.pb.below f, h.ns.belowAll f, h.bx.below f, h.on.below f, h.be.below f, h.pc.below f⟩
theorem LP.drew (h : LP w A n l b N X B p L vo vb vf ve W) : LP w A n l b N X B p L vo vb vf ve W.drew := h.below (below_drewN (Below.refl _ _) 1)
theorem LP.cells (h : LP w A n l b N X B p L vo vb vf ve W) : (W.cell? ⟨X, 0, none⟩ = some vo ∧ W.cell? ⟨X, 1, none⟩ = some vb) ∧ (W.cell? ⟨X, 2, none⟩ = some vf ∧ W.cell? ⟨X, 3, none⟩ = some ve) ∧ W.cell? ⟨X, 4, none⟩ = some (.bool p.em) := by
 obtain ⟨c0, c1, c2, c3, c4⟩ := h.bx.cell
 exact ⟨⟨c0, c1⟩, ⟨c2, c3⟩, c4⟩
end
theorem LRow.rown {W : World} {A : Option Addr} {n c : Nat} {zs : List Int} (h : LRow W (.slice A n c) zs) : Row .i64 W A n zs := by
 obtain ⟨e, r⟩ := h.row; rw [e]; exact r
theorem LP.rf {w W : World} {A : Option Addr} {n : Nat} {l : List MI} {b N X B : Nat} {p : Pc} {L : List En} {vo vb ve : Value} {Af : Option Addr} {nf cf : Nat} (h : LP w A n l b N X B p L vo vb (.slice Af nf cf) ve W) : Row .i64 W Af nf p.first.list := h.pc.1.rown
theorem LP.re {w W : World} {A : Option Addr} {n : Nat} {l : List MI} {b N X B : Nat} {p : Pc} {L : List En} {vo vb vf : Value} {Af : Option Addr} {nf cf : Nat} (h : LP w A n l b N X B p L vo vb vf (.slice Af nf cf) W) : Row .i64 W Af nf p.ends.list := h.pc.2.rown
theorem places_len {b N nl : Nat} {L : List En} {p : Pc} {W : World} (h : NS b N W L p) (hl : L.length = nl) :
  Calls Tryz.prog 13 #[.pointer (some ⟨N, 0, none⟩)] W fun e w' => e = .returned (.int .i64 (nl : Int)) ∧ W = w' := by rw [← hl]; exact places_any N L p W h
theorem zeros_eq (w : World) : (Op.equalIn 9999 27 (.agg #[.int .u64 0, .int .u64 0, .int .u64 0, .int .u64 0]) (.agg #[.int .u64 0, .int .u64 0, .int .u64 0, .int .u64 0])).run Tryz.prog w = .ok true w := by
 have h := Bg.eq_bags Bg.nil Bg.nil w
 rw [Bg.sameB_refl] at h
 exact h
theorem whole_ok {E : List PI} {m : List UInt8 → Bag} (hm : ∀ nm, (m nm).ok) : (wholeN E m).1.ok ∧ ∀ x ∈ (wholeN E m).2, x.ok := by
 unfold wholeN
 split
 ·exact ⟨⟨Bg.nil_ok, Bg.nil_ok⟩, fun x hx => by simp at hx⟩
 ·exact write_ok (fun p _ _ => hm p.name) _ _ [] (fun x hx => by simp at hx)
theorem whole_len {E : List PI} {m : List UInt8 → Bag} (hX : Expr E) (hf : fewE E = true) : (wholeN E m).2.length ≤ 256 := by
 unfold wholeN
 split
 ·simp
 ·rename_i h0
  rcases few_places hX hf with h | h
  ·exact absurd h h0
  ·rw [write_length _ _ _ _ _ (by simpa using h)]; simpa using h
theorem at_out {L : List En} {i : Int} (h : i < 0 ∨ (L.length : Int) ≤ i) : atE L i = ⟨Bg.nil, Bg.nil⟩ := by
 unfold atE
 split
 ·rw [List.getD_eq_getElem?_getD, List.getElem?_eq_none (by omega)]; rfl
 ·rfl
theorem at_in {L : List En} {i : Nat} (h : i < L.length) : atE L (i : Int) = L[i] := by
 unfold atE
 rw [if_pos (by omega), List.getD_eq_getElem?_getD]
 simp [h]
section
variable {w W W' : World} {A : Option Addr} {n : Nat} {l : List MI} {b N X B : Nat} {p : Pc} {L : List En} {vo vb vf ve u v : Value} {ga gb i : Nat} {x : En}
structure QP (w : World) (A : Option Addr) (n : Nat) (l : List MI) (b N X B : Nat) (p : Pc) (L : List En) (vo vb vf ve : Value) (ga gb i : Nat) (u v : Value) (x : En) (W : World) : Prop where
 lp : LP w A n l b N X B p L vo vb vf ve W
 c1 : W.cell? ⟨ga, i, none⟩ = some u
 c2 : W.cell? ⟨gb, i, none⟩ = some v
 r1 : LRow W u x.on.list
 r2 : LRow W v x.behind.list
theorem QP.below (h : QP w A n l b N X B p L vo vb vf ve ga gb i u v x W) (f : Below W.heap.size W W') : QP w A n l b N X B p L vo vb vf ve ga gb i u v x W' :=
 ⟨h.lp.below f, (f.cell (p := ⟨ga, i, none⟩) (World.block_lt_of_cell? W _ h.c1)).trans h.c1, (f.cell (p := ⟨gb, i, none⟩) (World.block_lt_of_cell? W _ h.c2)).trans h.c2, h.r1.below f, h.r2.below f⟩
theorem QP.drew (h : QP w A n l b N X B p L vo vb vf ve ga gb i u v x W) : QP w A n l b N X B p L vo vb vf ve ga gb i u v x W.drew := h.below (below_drewN (Below.refl _ _) 1)
theorem QP.cells (h : QP w A n l b N X B p L vo vb vf ve ga gb i u v x W) : (W.cell? ⟨X, 0, none⟩ = some vo ∧ W.cell? ⟨X, 1, none⟩ = some vb) ∧ W.cell? ⟨ga, i, none⟩ = some u ∧ W.cell? ⟨gb, i, none⟩ = some v := ⟨h.lp.cells.1, h.c1, h.c2⟩
theorem QP.r1n {Au : Option Addr} {nu cu : Nat} (h : QP w A n l b N X B p L vo vb vf ve ga gb i (.slice Au nu cu) v x W) : Row .i64 W Au nu x.on.list := h.r1.rown
theorem QP.r2n {Au : Option Addr} {nu cu : Nat} (h : QP w A n l b N X B p L vo vb vf ve ga gb i u (.slice Au nu cu) x W) : Row .i64 W Au nu x.behind.list := h.r2.rown
theorem on_at {j : Int} (h : NS b N W L p) (ha : atE L j = x) : Calls Tryz.prog 18 #[.pointer (some ⟨N, 0, none⟩), .int .i64 j] W fun e w' => e = .returned (bagV x.on) ∧ Below W.heap.size W w' := by rw [← ha]; exact on_any N L p j W h
theorem behind_at {j : Int} (h : NS b N W L p) (ha : atE L j = x) : Calls Tryz.prog 17 #[.pointer (some ⟨N, 0, none⟩), .int .i64 j] W fun e w' => e = .returned (bagV x.behind) ∧ Below W.heap.size W w' := by rw [← ha]; exact behind_any N L p j W h
theorem on_zero {i : Int} (h : NS b N W L p) (ho : i < 0 ∨ (L.length : Int) ≤ i) : Calls Tryz.prog 18 #[.pointer (some ⟨N, 0, none⟩), .int .i64 i] W fun e w' => e = .returned (.agg #[.int .u64 0, .int .u64 0, .int .u64 0, .int .u64 0]) ∧ Below W.heap.size W w' := on_at (x := ⟨Bg.nil, Bg.nil⟩) h (at_out ho)
theorem behind_zero {i : Int} (h : NS b N W L p) (ho : i < 0 ∨ (L.length : Int) ≤ i) : Calls Tryz.prog 17 #[.pointer (some ⟨N, 0, none⟩), .int .i64 i] W fun e w' => e = .returned (.agg #[.int .u64 0, .int .u64 0, .int .u64 0, .int .u64 0]) ∧ Below W.heap.size W w' := behind_at (x := ⟨Bg.nil, Bg.nil⟩) h (at_out ho)
end
theorem npl_any (s : ByteArray) (A : Option Addr) (n c : Nat) (l : List MI) (pl : Int) (w : World) (hs : s.size ≤ maxLen) (h : MR w A n l) (hn : n ≤ maxLen) (hk : ∀ p ∈ l, p.name.length ≤ maxLen ∧ p.on.length ≤ maxLen) (H : Held w) (hT : Tab w) :
  Calls Tryz.prog 3 #[.string s, .slice A n c, .int .i64 pl] w fun en w' => en = .returned (.bool true) ∧ Below w.heap.size w w' := by
 have P0 : Hid (PB w A n l w) := ⟨Below.refl _ _, H, hT, h⟩
 have hq0 := zeros_eq
 have HLV := hide (fun W (HW : Held W) (hT : Tab W) => live_any W HW hT)
 have HNT := hide (fun W (h : MR W A n l) (H : Held W) (hT : Tab W) => net_any s A n c l W hs h hn hk H hT)
 have HLL := Lib.hid h.1
 clear h H hT hs hk
 go_enter Tryz.func3, Tryz.ntmps3
 go_upto_region 4 with (first
  | (go_at_call 13; refine (places_nil _).mono ?_; rintro en w' ⟨rfl, rfl⟩)
  | (go_at_call 14; refine (empty_nil _).mono ?_; rintro en w' ⟨rfl, rfl⟩)
  | (go_at_call 15; refine (first_nil _).mono ?_; rintro en w1 ⟨rfl, hb⟩; have P1 := Lib.hid (P0.out.below hb); clear hb)
  | (go_at_call 16; refine (ends_nil _).mono ?_; rintro en w2 ⟨rfl, hb⟩; have P2 := Lib.hid (P1.out.below hb); clear hb)
  | (go_at_call 17; refine (behind_nil _ _).mono ?_; rintro en w3 ⟨rfl, hb⟩; have P3 := Lib.hid (P2.out.below hb); clear hb)
  | (go_at_call 18; refine (on_nil _ _).mono ?_; rintro en w4 ⟨rfl, hb⟩; have P4 := Lib.hid (P3.out.below hb); clear hb)
  | (go_at_call 19; refine (fits_nil _).mono ?_; rintro en w5 ⟨rfl, hb⟩; have P5 := Lib.hid (P4.out.below hb); clear hb))
 go_wp2_with fail
 refine (HNT.out w5 P5.out.mr P5.out.held P5.out.tab).mono ?_
 rintro en w6 ⟨hb6, hor⟩
 have P6 := Lib.hid (P5.out.below hb6)
 have HB6 := Lib.hid hb6
 clear P0 P1 P2 P3 P4 hb6 HNT
 rcases hor with ⟨f, rfl⟩ | ⟨e, A', c', hfm, hs5, hgood, hright, hlen, hfew, hpr, hor⟩
 ·go_wp2_with (go_at_call 21; refine (HLV.out _ P6.out.held P6.out.tab).mono ?_; rintro en w7 ⟨rfl, hb⟩; have P7 := Lib.hid (P6.out.below hb); clear hb)
  go_ret
  exact ⟨rfl, P7.out.bel⟩
 ·have hl20 : l.length ≤ 20 ∧ ∀ p ∈ l, p.on.length ≤ 50 := by
   unfold fewM at hfm
   simp only [Bool.and_eq_true, decide_eq_true_eq, List.all_eq_true] at hfm
   exact ⟨hfm.1, fun p hp => (hfm.2 p hp).1⟩
  have hn20 : n ≤ 20 := by rw [← HLL.out]; exact hl20.1
  have hmn : ∀ p ∈ l, p.on.length ≤ 1000000 := fun p hp => Nat.le_trans (hl20.2 p hp) (by decide)
  have hX : Expr (e.map Pt.toI) := right_expr hright
  obtain ⟨nz, hnz⟩ : ∃ nz, e.length = nz := ⟨_, rfl⟩
  have hkz : ∀ p ∈ e.map Pt.toI, p.kids.length ≤ 10000 := fun p hp => Nat.le_trans (hgood.small p hp).2 (by omega)
  rw [hnz] at hpr hlen hor
  have HNN := hide (none_any A' nz c' (e.map Pt.toI) (mOf l) A n c w6 hpr (by omega) (mnr_any w6 A n c l _ P6.out.mr (by omega) hmn))
  have HOF := hide (fun w7 (f : Below w6.heap.size w6 w7) => of_any' A' nz c' (e.map Pt.toI) (mOf l) A n c w7 (hpr.below f) hX hfew hkz (by omega) (mnr_any w7 A n c l _ (P6.out.mr.below f) (by omega) hmn))
  have HOK := Lib.hid (whole_ok (E := e.map Pt.toI) (m := mOf l) (fun nm => mOf_ok l nm))
  have HLE := Lib.hid (whole_len (m := mOf l) hX hfew)
  clear hfm hs5 hgood hright hfew hpr hX hkz hl20 hmn hnz
  rcases hor with ⟨hno, rfl⟩ | ⟨hno, N, b, rfl, hwb, hbN, hns⟩
  ·rw [hno] at HNN
   clear hno HOF HOK HLE
   go_wp2_with (first
    | (go_at_call 22; (with_reducible refine (HNN.out).mono ?_); rintro en w7 ⟨rfl, hb⟩; have P7 := Lib.hid (P6.out.below hb); clear hb)
    | (go_at_call 21; refine (HLV.out _ P7.out.held P7.out.tab).mono ?_; rintro en w8 ⟨rfl, hb⟩; have P8 := Lib.hid (P7.out.below hb); clear hb))
   go_ret
   exact ⟨rfl, P8.out.bel⟩
  ·rw [hno] at HNN
   have HNS := Lib.hid hns
   clear hno hns
   go_upto_region 9 with (go_at_call 22; (with_reducible refine (HNN.out).mono ?_); rintro en w7 ⟨rfl, hb⟩; have P7 := Lib.hid (P6.out.below hb); have HNS7 := Lib.hid (HNS.out.belowAll hb); have HOF7 := hide (HOF.out _ hb); clear hb)
   have HOF8 : Hid (Calls Tryz.prog 23 #[.slice A' nz c', .slice A n c] w7 (OfR (e.map Pt.toI) (mOf l) w7)) := HOF7.out
   clear HNN HOF HOF7
   unfold OfR at HOF8
   generalize wholeN (e.map Pt.toI) (mOf l) = PL at HNS7 HOK HLE HOF8
   obtain ⟨p, L⟩ := PL
   dsimp only at HNS7 HOK HLE HOF8
   obtain ⟨nl, hnl⟩ : ∃ nl, L.length = nl := ⟨_, rfl⟩
   have HNL := Lib.hid hnl
   have hnl256 : nl ≤ 256 := by rw [← hnl]; exact HLE.out
   go_upto_region 10 with (go_at_call 23; refine (HOF8.out).mono ?_; rintro en w8 ⟨hb8, vo, vb, vf, ve, rfl, hvo, hvb, hpc⟩; obtain ⟨Af, cf, hvf⟩ := hpc.1.form; obtain ⟨Ae, ce, hve⟩ := hpc.2.form; obtain ⟨Ao, co, hvo'⟩ := hvo.form; obtain ⟨Ab, cb, hvb'⟩ := hvb.form; rw [List.length_map, hnl] at hvo' hvb'; obtain ⟨nf, hnf⟩ : ∃ nf, p.first.list.length = nf := ⟨_, rfl⟩; obtain ⟨ne', hne'⟩ : ∃ ne', p.ends.list.length = ne' := ⟨_, rfl⟩; rw [hnf] at hvf; rw [hne'] at hve; subst hvf; subst hve; subst hvo'; subst hvb'; have HO8 := Lib.hid hvo; have HB8 := Lib.hid hvb; have HP8 := Lib.hid hpc; have P8 := Lib.hid (P7.out.below hb8); have HNS8 := Lib.hid (HNS7.out.belowAll hb8); clear hb8 hvo hvb hpc hnf hne')
   have hba := (Below.refl _ w8).alloc (Nat.le_refl _) (.cells #[.slice Ao nl co, .slice Ab nl cb, .slice Af nf cf, .slice Ae ne' ce, .bool p.em] 41)
   have HL : Hid (LP w A n l b N w8.heap.size w7.heap.size p L (.slice Ao nl co) (.slice Ab nl cb) (.slice Af nf cf) (.slice Ae ne' ce) (w8.alloc (.cells #[.slice Ao nl co, .slice Ab nl cb, .slice Af nf cf, .slice Ae ne' ce, .bool p.em] 41))) :=
    ⟨P8.out.below hba, HNS8.out.belowAll hba, RBox.new _ _ _ _ _ _, HO8.out.below hba, HB8.out.below hba, HP8.out.below hba⟩
   clear hba HO8 HB8 HP8 HNS8 P8 HNS7 P7 P6 HOF8
   generalize w8.alloc (.cells #[.slice Ao nl co, .slice Ab nl cb, .slice Af nf cf, .slice Ae ne' ce, .bool p.em] 41) = W9 at HL ⊢
   obtain ⟨X, hX⟩ : ∃ X, X = w8.heap.size := ⟨_, rfl⟩
   rw [← hX] at HL ⊢
   clear hX
   have hXl : X < W9.heap.size := HL.out.bx.lt
   clear hnl
   refine wp_region_held_drew (S := (fun W' => (W'.cell? ⟨X, 0, none⟩ = some (.slice Ao nl co) ∧ W'.cell? ⟨X, 1, none⟩ = some (.slice Ab nl cb)) ∧ (W'.cell? ⟨X, 2, none⟩ = some (.slice Af nf cf) ∧ W'.cell? ⟨X, 3, none⟩ = some (.slice Ae ne' ce)) ∧ W'.cell? ⟨X, 4, none⟩ = some (.bool p.em))) (by kernel_rfl) HL.out.cells (fun hHeld => ?_)
   have HC0 := Lib.hid HL.out.drew
   refine tk 0 (v := ?_) rfl (by kernel_rfl) (fun _ _ _ h => h) ?_ hHeld ?_
   rotate_left
   ·(intro W hSw; (try dsimp only at hSw); go_simp; try with_reducible rfl)
   refine tk 1 (v := ?_) rfl (by kernel_rfl) (fun _ _ _ h => h) ?_ hHeld ?_
   rotate_left
   ·(intro W hSw; (try dsimp only at hSw); go_simp; try with_reducible rfl)
   refine tk 2 (v := ?_) rfl (by kernel_rfl) (fun _ _ _ h => h) ?_ hHeld ?_
   rotate_left
   ·(intro W hSw; (try dsimp only at hSw); go_simp; try with_reducible rfl)
   refine tk 3 (v := ?_) rfl (by kernel_rfl) (fun _ _ _ h => h) ?_ hHeld ?_
   rotate_left
   ·(intro W hSw; (try dsimp only at hSw); go_simp; try with_reducible rfl)
   refine tk 5 (v := ?_) rfl (by kernel_rfl) (fun _ _ _ h => h) ?_ hHeld ?_
   rotate_left
   ·(intro W hSw; (try dsimp only at hSw); go_simp; try with_reducible rfl)
   refine tk 6 (v := ?_) rfl (by kernel_rfl) (fun _ _ _ h => h) ?_ hHeld ?_
   rotate_left
   ·(intro W hSw; (try dsimp only at hSw); go_simp; try with_reducible rfl)
   refine tk 7 (v := ?_) rfl (by kernel_rfl) (fun _ _ _ h => h) ?_ hHeld ?_
   rotate_left
   ·(intro W hSw; (try dsimp only at hSw); go_simp; try with_reducible rfl)
   refine wpAnyH_ready (rs := [4]) (by kernel_rfl) (by simp) ?_
   refine AllReadyH.cons rfl (fun K hK => ?_) AllReadyH.nil
   go_simp
   go_at_call 13
   refine (places_len HC0.out.ns HNL.out).mono ?_
   rintro en wq1 ⟨rfl, rfl⟩
   have HC1 := HC0
   have HS1 := HC1.out.cells
   clear hHeld
   go_wp2_with fail
   refine hK.out _ _ HS1 (fun hHeld => ?_)
   clear hK K HS1
   refine tk 8 (v := ?_) rfl (by kernel_rfl) (fun _ _ _ h => h) ?_ hHeld ?_
   rotate_left
   ·(intro W hSw; (try dsimp only at hSw); go_simp; try with_reducible rfl)
   refine tk 9 (v := ?_) rfl (by kernel_rfl) (fun _ _ _ h => h) ?_ hHeld ?_
   rotate_left
   ·(intro W hSw; (try dsimp only at hSw); go_simp; try with_reducible rfl)
   refine tk 10 (v := ?_) rfl (by kernel_rfl) (fun _ _ _ h => h) ?_ hHeld ?_
   rotate_left
   ·(intro W hSw; (try dsimp only at hSw); go_simp; try with_reducible rfl)
   refine tk 11 (v := ?_) rfl (by kernel_rfl) (fun _ _ _ h => h) ?_ hHeld ?_
   rotate_left
   ·(intro W hSw; (try dsimp only at hSw); go_simp; try with_reducible rfl)
   refine tk 13 (v := ?_) rfl (by kernel_rfl) (fun _ _ _ h => h) ?_ hHeld ?_
   rotate_left
   ·(intro W hSw; (try dsimp only at hSw); go_simp; try with_reducible rfl)
   refine tk 14 (v := ?_) rfl (by kernel_rfl) (fun _ _ _ h => h) ?_ hHeld ?_
   rotate_left
   ·(intro W hSw; (try dsimp only at hSw); go_simp; try with_reducible rfl)
   refine wpAnyH_ready (rs := [12]) (by kernel_rfl) (by simp) ?_
   refine AllReadyH.cons rfl (fun K hK => ?_) AllReadyH.nil
   go_simp
   go_at_call 14
   refine (empty_any N L p _ HC1.out.ns).mono ?_
   rintro en wq2 ⟨rfl, rfl⟩
   have HC2 := HC1
   have HS2 := HC2.out.cells
   clear hHeld
   go_wp2_with fail
   refine hK.out _ _ HS2 (fun hHeld => ?_)
   clear hK K HS2
   refine tk 15 (v := ?_) rfl (by kernel_rfl) (fun _ _ _ h => h) ?_ hHeld ?_
   rotate_left
   ·(intro W hSw; (try dsimp only at hSw); go_simp; try with_reducible rfl)
   refine tk 16 (v := ?_) rfl (by kernel_rfl) (fun _ _ _ h => h) ?_ hHeld ?_
   rotate_left
   ·(intro W hSw; (try dsimp only at hSw); go_simp; try with_reducible rfl)
   refine tk 17 (v := ?_) rfl (by kernel_rfl) (fun _ _ _ h => h) ?_ hHeld ?_
   rotate_left
   ·(intro W hSw; (try dsimp only at hSw); go_simp; try with_reducible rfl)
   refine tk 18 (v := ?_) rfl (by kernel_rfl) (fun _ _ _ h => h) ?_ hHeld ?_
   rotate_left
   ·(intro W hSw; (try dsimp only at hSw); go_simp; try with_reducible rfl)
   refine tk 21 (v := ?_) rfl (by kernel_rfl) (fun _ _ _ h => h) ?_ hHeld ?_
   rotate_left
   ·(intro W hSw; (try dsimp only at hSw); go_simp; try with_reducible rfl)
   refine tk 22 (v := ?_) rfl (by kernel_rfl) (fun _ _ _ h => h) ?_ hHeld ?_
   rotate_left
   ·(intro W hSw; (try dsimp only at hSw); go_simp; try with_reducible rfl)
   refine wpAnyH_ready (rs := [19]) (by kernel_rfl) (by simp) ?_
   refine AllReadyH.cons rfl (fun K hK => ?_) AllReadyH.nil
   go_simp
   go_at_call 15
   refine (first_any N L p _ HC2.out.ns).mono ?_
   rintro en wq3 ⟨rfl, hb⟩
   have HC3 := Lib.hid (HC2.out.below hb)
   clear hb
   unfold bagV
   have HS3 := HC3.out.cells
   clear hHeld
   go_wp2_with fail
   refine hK.out _ _ HS3 (fun hHeld => ?_)
   clear hK K HS3
   refine wpAnyH_ready (rs := [20]) (by kernel_rfl) (by simp) ?_
   refine AllReadyH.cons rfl (fun K hK => ?_) AllReadyH.nil
   go_simp
   go_at_call 25
   refine (Bg.list_any p.first HOK.out.1.1 _ HC3.out.pb.tab).mono ?_
   rintro en wq4 ⟨Az4, cz4, rfl, hzc, hzr, hb⟩
   have HC4 := Lib.hid (HC3.out.below hb)
   have HZ4 := Lib.hid hzr
   have HS4 := HC4.out.cells
   clear hHeld hb hzr hzc
   go_wp2_with fail
   refine hK.out _ _ HS4 (fun hHeld => ?_)
   clear hK K HS4
   refine wpAnyH_ready (rs := [23]) (by kernel_rfl) (by simp) ?_
   refine AllReadyH.cons rfl (fun K hK => ?_) AllReadyH.nil
   go_simp
   go_at_call 24
   with_reducible refine (Ex.ints_any _ _ _ _ _ _ p.first.list p.first.list _ HZ4.out (LP.rf HC4.out) (Nat.le_trans (len_list _) (by decide))).mono ?_
   rw [show decide (p.first.list = p.first.list) = true from decide_eq_true rfl]
   rintro en wq5 ⟨rfl, hb⟩
   have HC5 := Lib.hid (HC4.out.below (Ex.drawn_below hb))
   have HS5 := HC5.out.cells
   clear hHeld hb
   go_wp2_with fail
   refine hK.out _ _ HS5 (fun hHeld => ?_)
   clear hK K HS5
   refine tk 24 (v := ?_) rfl (by kernel_rfl) (fun _ _ _ h => h) ?_ hHeld ?_
   rotate_left
   ·(intro W hSw; (try dsimp only at hSw); go_simp; try with_reducible rfl)
   refine tk 25 (v := ?_) rfl (by kernel_rfl) (fun _ _ _ h => h) ?_ hHeld ?_
   rotate_left
   ·(intro W hSw; (try dsimp only at hSw); go_simp; try with_reducible rfl)
   refine tk 26 (v := ?_) rfl (by kernel_rfl) (fun _ _ _ h => h) ?_ hHeld ?_
   rotate_left
   ·(intro W hSw; (try dsimp only at hSw); go_simp; try with_reducible rfl)
   refine tk 27 (v := ?_) rfl (by kernel_rfl) (fun _ _ _ h => h) ?_ hHeld ?_
   rotate_left
   ·(intro W hSw; (try dsimp only at hSw); go_simp; try with_reducible rfl)
   refine tk 30 (v := ?_) rfl (by kernel_rfl) (fun _ _ _ h => h) ?_ hHeld ?_
   rotate_left
   ·(intro W hSw; (try dsimp only at hSw); go_simp; try with_reducible rfl)
   refine tk 31 (v := ?_) rfl (by kernel_rfl) (fun _ _ _ h => h) ?_ hHeld ?_
   rotate_left
   ·(intro W hSw; (try dsimp only at hSw); go_simp; try with_reducible rfl)
   refine wpAnyH_ready (rs := [28]) (by kernel_rfl) (by simp) ?_
   refine AllReadyH.cons rfl (fun K hK => ?_) AllReadyH.nil
   go_simp
   go_at_call 16
   refine (ends_any N L p _ HC5.out.ns).mono ?_
   rintro en wq6 ⟨rfl, hb⟩
   have HC6 := Lib.hid (HC5.out.below hb)
   clear hb
   unfold bagV
   have HS6 := HC6.out.cells
   clear hHeld
   go_wp2_with fail
   refine hK.out _ _ HS6 (fun hHeld => ?_)
   clear hK K HS6
   refine wpAnyH_ready (rs := [29]) (by kernel_rfl) (by simp) ?_
   refine AllReadyH.cons rfl (fun K hK => ?_) AllReadyH.nil
   go_simp
   go_at_call 25
   refine (Bg.list_any p.ends HOK.out.1.2 _ HC6.out.pb.tab).mono ?_
   rintro en wq7 ⟨Az7, cz7, rfl, hzc, hzr, hb⟩
   have HC7 := Lib.hid (HC6.out.below hb)
   have HZ7 := Lib.hid hzr
   have HS7 := HC7.out.cells
   clear hHeld hb hzr hzc
   go_wp2_with fail
   refine hK.out _ _ HS7 (fun hHeld => ?_)
   clear hK K HS7
   refine wpAnyH_ready (rs := [32]) (by kernel_rfl) (by simp) ?_
   refine AllReadyH.cons rfl (fun K hK => ?_) AllReadyH.nil
   go_simp
   go_at_call 24
   with_reducible refine (Ex.ints_any _ _ _ _ _ _ p.ends.list p.ends.list _ HZ7.out (LP.re HC7.out) (Nat.le_trans (len_list _) (by decide))).mono ?_
   rw [show decide (p.ends.list = p.ends.list) = true from decide_eq_true rfl]
   rintro en wq8 ⟨rfl, hb⟩
   have HC8 := Lib.hid (HC7.out.below (Ex.drawn_below hb))
   have HS8 := HC8.out.cells
   clear hHeld hb
   go_wp2_with fail
   refine hK.out _ _ HS8 (fun hHeld => ?_)
   clear hK K HS8
   refine tk 33 (v := ?_) rfl (by kernel_rfl) (fun _ _ _ h => h) ?_ hHeld ?_
   rotate_left
   ·(intro W hSw; (try dsimp only at hSw); go_simp; try with_reducible rfl)
   refine tk 34 (v := ?_) rfl (by kernel_rfl) (fun _ _ _ h => h) ?_ hHeld ?_
   rotate_left
   ·(intro W hSw; (try dsimp only at hSw); go_simp; try with_reducible rfl)
   refine wpAnyH_done (by kernel_rfl) ?_ _
   go_simp
   rename_i KK hKK
   refine hKK _ _ ?_
   clear hKK
   have HLQ := HC8
   clear HC0 HC1 HC2 HC3 HC4 HC5 HC6 HC7 HC8 HZ4 HZ7 hHeld HL hXl
   go_wp2_with fail
   go_loopw [13] (fun iv wr => ∃ i : Nat, iv = .int .i64 i ∧ i ≤ nl ∧ Hid (LP w A n l b N X w7.heap.size p L (.slice Ao nl co) (.slice Ab nl cb) (.slice Af nf cf) (.slice Ae ne' ce) wr)) (fun iv _ => nl - (intOf iv).toNat)
   case atStart => exact ⟨0, rfl, by omega, HLQ⟩
   case round =>
    clear HLQ
    obtain ⟨i, rfl, hi, HL⟩ := hrel
    obtain ⟨⟨c0, c1⟩, ⟨c2, c3⟩, c4⟩ := HL.out.cells
    have hXr : X < wr.heap.size := HL.out.bx.lt
    by_cases hlt : i < nl
    ·have hiL : i < L.length := by rw [HNL.out]; exact hlt
     have l1 : decide ((i : Int) < (nl : Int)) = true := by simp; omega
     have hiLa : i < (L.map fun x => x.on.list).length := by rw [List.length_map]; exact hiL
     have hiLb : i < (L.map fun x => x.behind.list).length := by rw [List.length_map]; exact hiL
     obtain ⟨ga, ca, hva, _, hga, _, hca⟩ := HL.out.on.opn (by omega)
     obtain ⟨gb, cb', hvb, _, hgb, _, hcb⟩ := HL.out.be.opn (by omega)
     rw [List.length_map, HNL.out] at hva hvb
     simp only [Value.slice.injEq, true_and] at hva hvb
     obtain ⟨hva1, hva2⟩ := hva
     obtain ⟨hvb1, hvb2⟩ := hvb
     subst hva1
     subst hvb1
     obtain ⟨u, hu, hur⟩ := hca i hiLa
     obtain ⟨v, hv, hvr⟩ := hcb i hiLb
     rw [List.getElem_map] at hur hvr
     have HAT0 := at_in hiL
     have HXO0 := HOK.out.2 _ (List.getElem_mem hiL)
     obtain ⟨x, hx⟩ : ∃ x, L[i]'hiL = x := ⟨_, rfl⟩
     rw [hx] at HAT0 HXO0
     replace hur : LRow wr u x.on.list := by rw [← hx]; exact hur
     replace hvr : LRow wr v x.behind.list := by rw [← hx]; exact hvr
     have HAT := Lib.hid HAT0
     have HXO := Lib.hid HXO0
     obtain ⟨Au, cu, rfl⟩ := hur.form
     obtain ⟨Av, cv, rfl⟩ := hvr.form
     obtain ⟨nu, hnu⟩ : ∃ nu, x.on.list.length = nu := ⟨_, rfl⟩
     obtain ⟨nv, hnv⟩ : ∃ nv, x.behind.list.length = nv := ⟨_, rfl⟩
     rw [hnu] at hur hu
     rw [hnv] at hvr hv
     have HQ : Hid (QP w A n l b N X w7.heap.size p L (.slice (some ⟨ga, 0, none⟩) nl co) (.slice (some ⟨gb, 0, none⟩) nl cb) (.slice Af nf cf) (.slice Ae ne' ce) ga gb i (.slice Au nu cu) (.slice Av nv cv) x wr) := ⟨HL.out, hu, hv, hur, hvr⟩
     clear HL hu hv hur hvr hx HAT0 HXO0 hca hcb hiLa hiLb hva2 hvb2 hnu hnv hiL c2 c3 c4
     go_upto_region 15 with fail
     refine wp_region_held_drew (S := (fun W' => (W'.cell? ⟨X, 0, none⟩ = some (.slice (some ⟨ga, 0, none⟩) nl co) ∧ W'.cell? ⟨X, 1, none⟩ = some (.slice (some ⟨gb, 0, none⟩) nl cb)) ∧ W'.cell? ⟨ga, i, none⟩ = some (.slice Au nu cu) ∧ W'.cell? ⟨gb, i, none⟩ = some (.slice Av nv cv))) (by kernel_rfl) HQ.out.cells (fun hHeld => ?_)
     have HC0 := Lib.hid HQ.out.drew
     refine tk 0 (v := ?_) rfl (by kernel_rfl) (fun _ _ _ h => h) ?_ hHeld ?_
     rotate_left
     ·(intro W hSw; (try dsimp only at hSw); go_simp; try with_reducible rfl)
     refine tk 1 (v := ?_) rfl (by kernel_rfl) (fun _ _ _ h => h) ?_ hHeld ?_
     rotate_left
     ·(intro W hSw; (try dsimp only at hSw); go_simp; try with_reducible rfl)
     refine tk 4 (v := ?_) rfl (by kernel_rfl) (fun _ _ _ h => h) ?_ hHeld ?_
     rotate_left
     ·(intro W hSw; (try dsimp only at hSw); go_simp; try with_reducible rfl)
     refine tk 5 (v := ?_) rfl (by kernel_rfl) (fun _ _ _ h => h) ?_ hHeld ?_
     rotate_left
     ·(intro W hSw; (try dsimp only at hSw); go_simp; try with_reducible rfl)
     refine tk 6 (v := ?_) rfl (by kernel_rfl) (fun _ _ _ h => h) ?_ hHeld ?_
     rotate_left
     ·(intro W hSw; (try dsimp only at hSw); go_simp; try with_reducible rfl)
     refine tk 7 (v := ?_) rfl (by kernel_rfl) (fun _ _ _ h => h) ?_ hHeld ?_
     rotate_left
     ·(intro W hSw; (try dsimp only at hSw); go_simp; try with_reducible rfl)
     refine tk 8 (v := ?_) rfl (by kernel_rfl) (fun _ _ _ h => h) ?_ hHeld ?_
     rotate_left
     ·(intro W hSw; (try dsimp only at hSw); go_simp; try with_reducible rfl)
     refine wpAnyH_ready (rs := [2]) (by kernel_rfl) (by simp) ?_
     refine AllReadyH.cons rfl (fun K hK => ?_) AllReadyH.nil
     go_simp
     go_at_call 18
     refine ((on_at HC0.out.lp.ns HAT.out)).mono ?_
     rintro en wq1 ⟨rfl, hb⟩
     have HC1 := Lib.hid (HC0.out.below hb)
     clear hb
     unfold bagV
     have HS1 := HC1.out.cells
     clear hHeld
     go_wp2_with fail
     refine hK.out _ _ HS1 (fun hHeld => ?_)
     clear hK K HS1
     refine wpAnyH_ready (rs := [3]) (by kernel_rfl) (by simp) ?_
     refine AllReadyH.cons rfl (fun K hK => ?_) AllReadyH.nil
     go_simp
     go_at_call 25
     refine (Bg.list_any x.on HXO.out.1 _ HC1.out.lp.pb.tab).mono ?_
     rintro en wq2 ⟨Az2, cz2, rfl, hzc, hzr, hb⟩
     have HC2 := Lib.hid (HC1.out.below hb)
     have HZ2 := Lib.hid hzr
     have HS2 := HC2.out.cells
     clear hHeld hb hzr hzc
     go_wp2_with fail
     refine hK.out _ _ HS2 (fun hHeld => ?_)
     clear hK K HS2
     refine wpAnyH_ready (rs := [9]) (by kernel_rfl) (by simp) ?_
     refine AllReadyH.cons rfl (fun K hK => ?_) AllReadyH.nil
     go_simp
     go_at_call 24
     with_reducible refine (Ex.ints_any _ _ _ _ _ _ x.on.list x.on.list _ HZ2.out (HC2.out.r1n) (Nat.le_trans (len_list _) (by decide))).mono ?_
     rw [show decide (x.on.list = x.on.list) = true from decide_eq_true rfl]
     rintro en wq3 ⟨rfl, hb⟩
     have HC3 := Lib.hid (HC2.out.below (Ex.drawn_below hb))
     have HS3 := HC3.out.cells
     clear hHeld hb
     go_wp2_with fail
     refine hK.out _ _ HS3 (fun hHeld => ?_)
     clear hK K HS3
     refine tk 10 (v := ?_) rfl (by kernel_rfl) (fun _ _ _ h => h) ?_ hHeld ?_
     rotate_left
     ·(intro W hSw; (try dsimp only at hSw); go_simp; try with_reducible rfl)
     refine tk 11 (v := ?_) rfl (by kernel_rfl) (fun _ _ _ h => h) ?_ hHeld ?_
     rotate_left
     ·(intro W hSw; (try dsimp only at hSw); go_simp; try with_reducible rfl)
     refine tk 12 (v := ?_) rfl (by kernel_rfl) (fun _ _ _ h => h) ?_ hHeld ?_
     rotate_left
     ·(intro W hSw; (try dsimp only at hSw); go_simp; try with_reducible rfl)
     refine tk 13 (v := ?_) rfl (by kernel_rfl) (fun _ _ _ h => h) ?_ hHeld ?_
     rotate_left
     ·(intro W hSw; (try dsimp only at hSw); go_simp; try with_reducible rfl)
     refine tk 16 (v := ?_) rfl (by kernel_rfl) (fun _ _ _ h => h) ?_ hHeld ?_
     rotate_left
     ·(intro W hSw; (try dsimp only at hSw); go_simp; try with_reducible rfl)
     refine tk 17 (v := ?_) rfl (by kernel_rfl) (fun _ _ _ h => h) ?_ hHeld ?_
     rotate_left
     ·(intro W hSw; (try dsimp only at hSw); go_simp; try with_reducible rfl)
     refine tk 18 (v := ?_) rfl (by kernel_rfl) (fun _ _ _ h => h) ?_ hHeld ?_
     rotate_left
     ·(intro W hSw; (try dsimp only at hSw); go_simp; try with_reducible rfl)
     refine tk 19 (v := ?_) rfl (by kernel_rfl) (fun _ _ _ h => h) ?_ hHeld ?_
     rotate_left
     ·(intro W hSw; (try dsimp only at hSw); go_simp; try with_reducible rfl)
     refine tk 20 (v := ?_) rfl (by kernel_rfl) (fun _ _ _ h => h) ?_ hHeld ?_
     rotate_left
     ·(intro W hSw; (try dsimp only at hSw); go_simp; try with_reducible rfl)
     refine wpAnyH_ready (rs := [14]) (by kernel_rfl) (by simp) ?_
     refine AllReadyH.cons rfl (fun K hK => ?_) AllReadyH.nil
     go_simp
     go_at_call 17
     refine ((behind_at HC3.out.lp.ns HAT.out)).mono ?_
     rintro en wq4 ⟨rfl, hb⟩
     have HC4 := Lib.hid (HC3.out.below hb)
     clear hb
     unfold bagV
     have HS4 := HC4.out.cells
     clear hHeld
     go_wp2_with fail
     refine hK.out _ _ HS4 (fun hHeld => ?_)
     clear hK K HS4
     refine wpAnyH_ready (rs := [15]) (by kernel_rfl) (by simp) ?_
     refine AllReadyH.cons rfl (fun K hK => ?_) AllReadyH.nil
     go_simp
     go_at_call 25
     refine (Bg.list_any x.behind HXO.out.2 _ HC4.out.lp.pb.tab).mono ?_
     rintro en wq5 ⟨Az5, cz5, rfl, hzc, hzr, hb⟩
     have HC5 := Lib.hid (HC4.out.below hb)
     have HZ5 := Lib.hid hzr
     have HS5 := HC5.out.cells
     clear hHeld hb hzr hzc
     go_wp2_with fail
     refine hK.out _ _ HS5 (fun hHeld => ?_)
     clear hK K HS5
     refine wpAnyH_ready (rs := [21]) (by kernel_rfl) (by simp) ?_
     refine AllReadyH.cons rfl (fun K hK => ?_) AllReadyH.nil
     go_simp
     go_at_call 24
     with_reducible refine (Ex.ints_any _ _ _ _ _ _ x.behind.list x.behind.list _ HZ5.out (HC5.out.r2n) (Nat.le_trans (len_list _) (by decide))).mono ?_
     rw [show decide (x.behind.list = x.behind.list) = true from decide_eq_true rfl]
     rintro en wq6 ⟨rfl, hb⟩
     have HC6 := Lib.hid (HC5.out.below (Ex.drawn_below hb))
     have HS6 := HC6.out.cells
     clear hHeld hb
     go_wp2_with fail
     refine hK.out _ _ HS6 (fun hHeld => ?_)
     clear hK K HS6
     refine tk 22 (v := ?_) rfl (by kernel_rfl) (fun _ _ _ h => h) ?_ hHeld ?_
     rotate_left
     ·(intro W hSw; (try dsimp only at hSw); go_simp; try with_reducible rfl)
     refine tk 23 (v := ?_) rfl (by kernel_rfl) (fun _ _ _ h => h) ?_ hHeld ?_
     rotate_left
     ·(intro W hSw; (try dsimp only at hSw); go_simp; try with_reducible rfl)
     refine wpAnyH_done (by kernel_rfl) ?_ _
     go_simp
     rename_i KK hKK
     refine hKK _ _ ?_
     clear hKK
     go_wp2_with fail
     go_roundw
     case rel => exact ⟨i + 1, by go_num, by omega, Lib.hid HC6.out.lp⟩
     case measure => simp [intOf]; omega
    ·have hin : nl = i := by omega
     subst hin
     have l1 : decide ((nl : Int) < (nl : Int)) = false := by simp
     by_cases hp : pl < 0 ∨ (nl : Int) ≤ pl
     ·have HON := hide (fun W (h : NS b N W L p) => on_zero h (i := pl) (by rw [HNL.out]; exact hp))
      have HBN := hide (fun W (h : NS b N W L p) => behind_zero h (i := pl) (by rw [HNL.out]; exact hp))
      by_cases hp1 : pl < 0
      ·have d1 : decide (pl < 0) = true := by simp [hp1]
       clear hp hlt
       go_wp2_with (first
        | (go_at_call 18; (with_reducible refine (HON.out _ HL.out.ns).mono ?_); rintro en wx ⟨rfl, hb⟩; have HL1 := Lib.hid (HL.out.below hb); clear hb)
        | (go_at_call 17; (with_reducible refine (HBN.out _ HL1.out.ns).mono ?_); rintro en wy ⟨rfl, hb⟩; have HL2 := Lib.hid (HL1.out.below hb); clear hb)
        | (go_at_call 21; refine (HLV.out _ HL2.out.pb.held HL2.out.pb.tab).mono ?_; rintro en wz ⟨rfl, hb⟩; have PZ := Lib.hid (HL2.out.pb.below hb); clear hb))
       go_ret
       exact ⟨rfl, PZ.out.bel⟩
      ·have d1 : decide (pl < 0) = false := by simp; omega
       have d2 : decide ((nl : Int) ≤ pl) = true := by simp; omega
       clear hp hlt
       go_wp2_with (first
        | (go_at_call 18; (with_reducible refine (HON.out _ HL.out.ns).mono ?_); rintro en wx ⟨rfl, hb⟩; have HL1 := Lib.hid (HL.out.below hb); clear hb)
        | (go_at_call 17; (with_reducible refine (HBN.out _ HL1.out.ns).mono ?_); rintro en wy ⟨rfl, hb⟩; have HL2 := Lib.hid (HL1.out.below hb); clear hb)
        | (go_at_call 21; refine (HLV.out _ HL2.out.pb.held HL2.out.pb.tab).mono ?_; rintro en wz ⟨rfl, hb⟩; have PZ := Lib.hid (HL2.out.pb.below hb); clear hb))
       go_ret
       exact ⟨rfl, PZ.out.bel⟩
     ·have d1 : decide (pl < 0) = false := by simp; omega
      have d2 : decide ((nl : Int) ≤ pl) = false := by simp; omega
      clear hp hlt
      go_wp2_with (go_at_call 21; refine (HLV.out _ HL.out.pb.held HL.out.pb.tab).mono ?_; rintro en wz ⟨rfl, hb⟩; have PZ := Lib.hid (HL.out.pb.below hb); clear hb)
      go_ret
      exact ⟨rfl, PZ.out.bel⟩
end Go.Proofs.YtnbchikiiipejaaGreatDoor.Nf
namespace Go.Proofs.YtnbchikiiipejaaGreatDoor.Lx
open Go.RowKit
abbrev laidL : List (String × DataW Unit) := Rows.nfaPlacesRow.laid
theorem of_laid1 {W : World} (h : laidMetH Tryz.prog laidL W) : Held W := by
 rw [MakeChecks.laidMetH_plain _ _ _ (by kernel_rfl)] at h
 have h3 := h.tail.tail
 rw [show (Rows.laid_internal_strconv_uint64pow10 : DataW Unit) = Lib.tabData .u64 Lib.pow10Tab from pow10_is] at h3
 have h4 := h3.tail
 rw [single_is] at h4
 refine ⟨fun i l hl => ?_, Lib.tabIs_of_head (g := 7) (t := 407) (e := 26) (n := 20) (by kernel_rfl) (by kernel_rfl) (by kernel_rfl) (by kernel_rfl) (by kernel_rfl) (by kernel_rfl) h3⟩
 have hf := Tryz.underlying222
 have main := signs_of_head (g := 1) (t := 356) (e := 222) (ti := 3) (ts := 9) (n := 6) (by kernel_rfl) (by kernel_rfl) (by kernel_rfl) hf (by kernel_rfl) (by kernel_rfl) (by kernel_rfl) (by kernel_rfl) ⟨rfl, rfl⟩ ⟨rfl, rfl⟩ ⟨rfl, rfl⟩ ⟨rfl, rfl⟩ ⟨rfl, rfl⟩ (by kernel_rfl) (by kernel_rfl) h4 i (l.1, 0, l.2.1, l.2.2) (by rw [List.getElem?_map, hl]; rfl)
 exact main
theorem tab_is : (Rows.laid_math_bits_deBruijn64tab : DataW Unit) = Lib.tabData .u8 (Lib.deBruijn64tab.map Int.ofNat) := by kernel_rfl
theorem of_laid2 {W : World} (h : laidMetH Tryz.prog laidL W) : Bg.Tab W := by
 rw [MakeChecks.laidMetH_plain _ _ _ (by kernel_rfl)] at h
 have h1 := h.tail
 rw [tab_is] at h1
 have h2 := Lib.tabIs_of_head (g := 0) (t := 283) (e := 5) (n := 64) (by kernel_rfl) (by kernel_rfl) (by kernel_rfl) (by kernel_rfl) (by kernel_rfl) (by kernel_rfl) h1
 have hg : Tryz.prog.globalNamed "math/bits.deBruijn64tab" = some 0 := by kernel_rfl
 have hc : ∀ j, j < Lib.deBruijn64tab.length → W.cell? ⟨0, j, none⟩ = some (.int .u8 (Lib.deBruijn64tab.getD j 0)) := by
  intro j hj
  have h3 := World.var?_cell hg h2 j
  rw [h3]
  simp only [List.getElem?_toArray, List.getElem?_map, List.getElem?_eq_getElem hj, Option.map_some, List.getD, Option.getD_some]
  rfl
 exact ⟨hc, World.block_lt_of_cell? W _ (hc 0 (by decide))⟩
theorem of_laid {W : World} (h : laidMetH Tryz.prog laidL W) : Held W ∧ Bg.Tab W := ⟨of_laid1 h, of_laid2 h⟩
theorem door_met (os : Os) (args : Array Value) : laidMetH Tryz.prog laidL ((World.doorLaid Tryz.prog 400 os).forCall (fun _ _ => 0) ⟨#[], args, []⟩).memory :=
 laidMetH_of_parts3 (fuel := 8) (laidMet_of_run' 8 (by kernel_rfl) (by kernel_rfl)) (by kernel_rfl) (by kernel_rfl)
end Go.Proofs.YtnbchikiiipejaaGreatDoor.Lx
namespace Go.Proofs.YtnbchikiiipejaaGreatDoor.Nf
open Go.RowKit Mem
theorem places_walk (s : ByteArray) (A : Option Addr) (n c : Nat) (l : List MI) (pl : Int) (w : World) (hs : s.size ≤ maxLen) (h : MR w A n l) (hn : n ≤ maxLen) (hk : ∀ p ∈ l, p.name.length ≤ maxLen ∧ p.on.length ≤ maxLen)
  (hpl : (Lit.int .i64 pl).wf = true) (hL : Lx.Held w ∧ Bg.Tab w) :
  Calls Tryz.prog 3 #[.string s, .slice A n c, .int .i64 pl] w fun en w' => en = .returned (.bool true) ∧ Below w.heap.size w w' := npl_any s A n c l pl w hs h hn hk hL.1 hL.2
end Go.Proofs.YtnbchikiiipejaaGreatDoor.Nf
