/- What must be whatever is asked of nets: the example, walked. -/
import Derived.Test.YtnbchikiiipejaaGreatDoorNfNew
import Derived.Test.YtnbchikiiipejaaGreatDoorExPu
import Derived.Test.YtnbchikiiipejaaGreatDoorExParse
set_option linter.unusedVariables false
set_option maxRecDepth 100000
set_option maxHeartbeats 8000000
namespace Go.Proofs.YtnbchikiiipejaaGreatDoor.Nf
open Go.RowKit Mem
open Bg (Bag bagV Tab)
open Ex (Pt PI PR pl rightI Rd Good)
open Lx (Held Sg Lex)
def lvT : List UInt8 := [97, 123, 49, 44, 50, 125, 32, 98, 42]
def lvS : List Sg := [⟨1, 0, 0, 0, [97]⟩, ⟨5, 1, 1, 2, []⟩, ⟨1, 7, 0, 0, [98]⟩, ⟨5, 8, 0, -1, []⟩]
def lvE : List Pt := [⟨1, 0, 0, [97], []⟩, ⟨4, 1, 2, [], [0]⟩, ⟨1, 0, 0, [98], []⟩, ⟨4, 0, -1, [], [2]⟩, ⟨2, 0, 0, [], [1, 3]⟩]
theorem lv_lex : Lex lvT = .ok lvS 0 := by decide
theorem lv_rd : Rd (.choice []) lvS [] true 4 [] lvE := by
 have ra : Rd .item lvS [] true 1 (lvS.drop 2) (lvE.take 2) := .times (x := ⟨5, 1, 1, 2, []⟩) (.name rfl) rfl
 have rb : Rd .item (lvS.drop 2) (lvE.take 2) true 3 [] (lvE.take 4) := .times (x := ⟨5, 8, 0, -1, []⟩) (.name rfl) rfl
 have rr : Rd (.row []) lvS [] true 4 [] lvE := .rowMore ra (by decide) (.rowEnd (ks := [1]) rb (by decide) (by decide))
 exact .chEnd (ks := []) rr (by decide)
theorem lv_sn : ∃ s, Ex.Sn (.choice []) lvS [] 4 lvE ∧ s = lvS ∧ ∀ x ∈ lvS, Lx.Fine x := by
 obtain ⟨s, hs, hsn⟩ := lv_rd.seg rfl
 rw [List.append_nil] at hs
 subst hs
 refine ⟨_, hsn, rfl, fun x hx => ?_⟩
 rcases Lx.lex_ends lvT with ⟨l, hl, hf, _⟩ | ⟨p, e, hl, _⟩
 ·rw [lv_lex] at hl
  injection hl with h1
  subst h1
  exact hf x hx
 ·rw [lv_lex] at hl; cases hl
theorem lv_right : rightI (lvE.map Pt.toI) = true := by
 obtain ⟨s, hsn, _, hf⟩ := lv_sn
 exact hsn.right hf
theorem lv_good : Ex.Good lvE := by
 obtain ⟨s, hsn, _, hf⟩ := lv_sn
 exact hsn.good' hf
theorem lv_parse (w : World) (H : Held w) : Calls Tryz.prog 68 #[.string ⟨#[97, 123, 49, 44, 50, 125, 32, 98, 42]⟩] w fun en w' => Below w.heap.size w w' ∧ ∃ A c, en = .returned (.tuple #[.slice A 5 c, .int .i64 0, .int .i64 0]) ∧ PR w' A 5 (lvE.map Pt.toI) := by
 refine (Ex.parse_any ⟨#[97, 123, 49, 44, 50, 125, 32, 98, 42]⟩ w (by decide) H).mono fun en w' ⟨hb, h⟩ => ⟨hb, ?_⟩
 rw [show Lex (⟨#[97, 123, 49, 44, 50, 125, 32, 98, 42]⟩ : ByteArray).data.toList = .ok lvS 0 from lv_lex] at h
 obtain ⟨ok, k, l', e', hr, ho⟩ := h
 obtain ⟨rfl, rfl, rfl, rfl⟩ := lv_rd.det hr
 obtain ⟨v, vs, rfl, hrow, hpv⟩ := ho
 have hpw := hpv.pw (lv_good.kids (by decide))
 have hl : (lvE.map Pt.toI).length = lvE.length := by simp
 rw [← hl] at hrow
 obtain ⟨A, c, rfl, _, hpr⟩ := PR.of_own hrow hpw
 exact ⟨A, c, rfl, hpr⟩
def lvM (nm : List UInt8) : Bag := Bg.ofL [(nm.length : Int), ((nm.headD 0).toNat : Int) - 97]
def lvX : List PI := lvE.map Pt.toI
theorem lv_idle : idle lvX lvM = false := by decide +kernel
theorem lv_few : fewE lvX = true := by decide +kernel
def lvOk : Bool := (wholeN lvX lvM).2.length == 3 && (Bg.sameB (wholeN lvX lvM).1.first (Bg.ofL [0]) && (Bg.sameB (wholeN lvX lvM).1.ends (Bg.ofL [0, 1, 2]) && (Bg.sameB (atE (wholeN lvX lvM).2 0).behind (Bg.ofL [1, 2]) && Bg.sameB (atE (wholeN lvX lvM).2 2).behind (Bg.ofL [2]))))
theorem lv_ok : lvOk = true := by decide +kernel
theorem lv_facts : (wholeN lvX lvM).2.length = 3 ∧ (wholeN lvX lvM).1.first = Bg.ofL [0] ∧ (wholeN lvX lvM).1.ends = Bg.ofL [0, 1, 2] ∧ (atE (wholeN lvX lvM).2 0).behind = Bg.ofL [1, 2] ∧ (atE (wholeN lvX lvM).2 2).behind = Bg.ofL [2] := by
 have h := lv_ok
 unfold lvOk at h
 simp only [Bool.and_eq_true, beq_iff_eq, Bg.sameB_iff] at h
 exact h
theorem lv_means (s : List UInt8) (h0 : 0 < s.length) (hl : s.length ≤ 1000) (w : World) : Calls Tryz.prog 72 #[.string ⟨s.toArray⟩] w fun e w' => e = .returned (bagV (lvM s)) ∧ Below w.heap.size w w' := by
 obtain ⟨b, t, rfl⟩ : ∃ b t, s = b :: t := by cases s with | nil => simp at h0 | cons b t => exact ⟨b, t, rfl⟩
 have hm : lvM (b :: t) = Bg.ofL [((t.length + 1 : Nat) : Int), (b.toNat : Int) - 97] := rfl
 have hb8 : b.toNat < 256 := b.toNat_lt
 have hsz : (⟨(b :: t).toArray⟩ : ByteArray).size = t.length + 1 := by simp [ByteArray.size]
 have hln : t.length + 1 ≤ 1000 := by simpa using hl
 have HM := Lib.hid hm
 clear hm h0 hl
 go_enter Tryz.func72, Tryz.ntmps72
 go_wp2_with fail
 have e : wrap64 (wrap64 ((⟨(b :: t).toArray⟩ : ByteArray)[0].toNat : Int) - 97) = (b.toNat : Int) - 97 := by
  show wrap64 (wrap64 (b.toNat : Int) - 97) = _
  unfold wrap64; omega
 simp only [e]
 have hr : Row .i64 ((w.alloc (.cells #[.int .u64 0, .int .u64 0, .int .u64 0, .int .u64 0] 29)).alloc (.cells #[.int .i64 ((t.length : Int) + 1), .int .i64 ((b.toNat : Int) - 97)] 3)) (some ⟨w.heap.size + 1, 0, none⟩) 2 [(t.length : Int) + 1, (b.toNat : Int) - 97] := by
  have := row_block (heap_alloc_new (w.alloc (.cells #[.int .u64 0, .int .u64 0, .int .u64 0, .int .u64 0] 29)) (.cells #[.int .i64 ((t.length : Int) + 1), .int .i64 ((b.toNat : Int) - 97)] 3)) [(t.length : Int) + 1, (b.toNat : Int) - 97] rfl 2 rfl (by
   intro z hz
   simp only [List.mem_cons, List.not_mem_nil, or_false] at hz
   rcases hz with rfl | rfl
   ·exact WalkArith.wf_i64 (by omega)
   ·exact WalkArith.wf_i64 (by omega))
  rw [World.size_alloc] at this
  exact this
 have hA := (Bg.At.new w Bg.nil).alloc (.cells #[.int .i64 ((t.length : Int) + 1), .int .i64 ((b.toNat : Int) - 97)] 3)
 have hB := ((Below.refl _ w).alloc (Nat.le_refl _) (.cells #[.int .u64 0, .int .u64 0, .int .u64 0, .int .u64 0] 29)).alloc (by simp) (.cells #[.int .i64 ((t.length : Int) + 1), .int .i64 ((b.toNat : Int) - 97)] 3)
 refine (Bg.of_any _ 2 2 _ _ hr (by omega)).mono ?_
 rw [show Bg.ofL [(t.length : Int) + 1, (b.toNat : Int) - 97] = lvM (b :: t) from HM.out.symm]
 rintro en w1 ⟨rfl, hb1⟩
 have HA := Lib.hid (hA.below hb1 (by simp; omega))
 have HB := Lib.hid (hB.trans (hb1.mono (by simp; omega)))
 obtain ⟨x, hx⟩ : ∃ x, lvM (b :: t) = x := ⟨_, rfl⟩
 rw [hx]
 have HXX := Lib.hid hx
 clear hx
 obtain ⟨c0, c1, c2, c3, cf⟩ := HA.out.cell
 have f0 := cf 0; have f1 := cf 1; have f2 := cf 2; have f3 := cf 3
 have hlt : w.heap.size < w1.heap.size := HA.out.lt
 clear hr hA hB hb1 cf e hln hb8
 unfold bagV
 go_wp2
 have hs := HA.out.store x
 obtain ⟨s0, s1, s2, s3, _⟩ := hs.cell
 refine bodyPost_ret (v := bagV x) ?_ rfl ⟨by rw [HXX.out], ?_⟩
 ·simp [bagV, results, Tryz.results72, go_sem, s0, s1, s2, s3]
 ·exact ((((HB.out).setCell (Nat.le_refl _) _).setCell (Nat.le_refl _) _).setCell (Nat.le_refl _) _).setCell (Nat.le_refl _) _
theorem lv_new (w0 : World) (H : Held w0) (hT : Tab w0) (A : Option Addr) (c : Nat) (hp : PR w0 A 5 lvX) : Calls Tryz.prog 69 #[.slice A 5 c, .func (.func 72) #[] #[]] w0 fun en w' => Below w0.heap.size w0 w' ∧ ∃ N, en = .returned (.tuple #[.pointer (some ⟨N, 0, none⟩), .int .i64 0]) ∧ NS w0.heap.size N w' (wholeN lvX lvM).2 (wholeN lvX lvM).1 := by
 refine (new_any A 5 c lvX lvM 72 #[] w0 hp H hT (by omega) (fun p hp => ⟨(lv_good.small p hp).1, Nat.le_trans (lv_good.small p hp).2 (by decide)⟩)
  (fun p hp hk W' hb => by
    have h1 : 0 < p.name.length ∧ p.name.length ≤ 1000 := by
     simp only [lvX, lvE, List.map_cons, List.map_nil, List.mem_cons, List.not_mem_nil, or_false] at hp
     rcases hp with rfl | rfl | rfl | rfl | rfl <;> simp [Pt.toI] at hk ⊢
    exact lv_means p.name h1.1 h1.2 W') (fun p _ _ => Bg.ofL_ok _) (fun args w => by first | kernel_rfl | rfl)).mono ?_
 rintro en w' ⟨hb, h⟩
 rw [if_neg (by rw [show rightI lvX = true from lv_right]; simp), if_neg (by rw [lv_idle]; simp), if_neg (by rw [lv_few]; simp)] at h
 obtain ⟨N, _, h1, h2⟩ := h
 exact ⟨hb, N, h1, h2⟩
theorem live_any (w : World) (H : Held w) (hT : Tab w) : Calls Tryz.prog 21 #[] w fun en w' => en = .returned (.bool true) ∧ Below w.heap.size w w' := by
 obtain ⟨hf1, hf2, hf3, hf4, hf5⟩ := lv_facts
 have HP := hide (lv_parse w H)
 have HH := hide H
 have HTT := Lib.hid hT
 have hTlt : 0 < w.heap.size := hT.2
 obtain ⟨P, hP⟩ : ∃ P, (wholeN lvX lvM).1 = P := ⟨_, rfl⟩
 obtain ⟨L, hL⟩ : ∃ L, (wholeN lvX lvM).2 = L := ⟨_, rfl⟩
 have HNW := hide (fun A c W (g : PR W A 5 lvX) (HW : Held W) (hT : Tab W) => lv_new W HW hT A c g)
 rw [hL] at hf1 hf4 hf5
 rw [hP] at hf2 hf3
 simp only [hL, hP] at HNW
 obtain ⟨x1, hx1⟩ : ∃ x, Bg.ofL [0] = x := ⟨_, rfl⟩
 obtain ⟨x2, hx2⟩ : ∃ x, Bg.ofL [0, 1, 2] = x := ⟨_, rfl⟩
 obtain ⟨x3, hx3⟩ : ∃ x, Bg.ofL [1, 2] = x := ⟨_, rfl⟩
 obtain ⟨x4, hx4⟩ : ∃ x, Bg.ofL [2] = x := ⟨_, rfl⟩
 rw [hx1] at hf2
 rw [hx2] at hf3
 rw [hx3] at hf4
 rw [hx4] at hf5
 have x1e := Lib.hid hx1
 have x2e := Lib.hid hx2
 have x3e := Lib.hid hx3
 have x4e := Lib.hid hx4
 have HF1 := Lib.hid hf1
 have HF2 := Lib.hid hf2
 have HF3 := Lib.hid hf3
 have HF4 := Lib.hid hf4
 have HF5 := Lib.hid hf5
 have hq : ∀ (x : Bag) (w : World), (Op.equalIn 9999 27 (.agg #[.int .u64 x.a, .int .u64 x.b, .int .u64 x.c, .int .u64 x.d]) (.agg #[.int .u64 x.a, .int .u64 x.b, .int .u64 x.c, .int .u64 x.d])).run Tryz.prog w = .ok true w := fun x w => by rw [Bg.eq_bags x x w, Bg.sameB_refl]
 have q1 := hq x1
 have q2 := hq x2
 have q3 := hq x3
 have q4 := hq x4
 clear H hT hP hL hx1 hx2 hx3 hx4 hf1 hf2 hf3 hf4 hf5 hq
 go_enter Tryz.func21, Tryz.ntmps21
 go_wp2_with fail
 (with_reducible refine (HP.out).mono ?_)
 rintro en w1 ⟨hb1, A, c, rfl, hpr⟩
 have HPR := Lib.hid hpr
 have HBw1 := Lib.hid hb1
 clear hb1 hpr
 go_wp2_with fail
 (with_reducible refine (HNW.out A c w1 (by unfold lvX; exact HPR.out) (HH.out.below HBw1.out) (HTT.out.below HBw1.out hTlt)).mono ?_)
 rintro en w2 ⟨hb2, N, rfl, hns⟩
 have HN2 := Lib.hid hns
 have HBw2 := Lib.hid (HBw1.out.trans (hb2.mono HBw1.out.size))
 clear hb2 hns
 go_wp2_with fail
 refine (places_any N L P w2 HN2.out).mono ?_
 rw [HF1.out]
 rintro en w' ⟨rfl, rfl⟩
 go_wp2_with fail
 refine (first_any N L P w2 HN2.out).mono ?_
 rw [HF2.out]
 rintro en w3 ⟨rfl, hb⟩
 have HN3 := Lib.hid (HN2.out.belowAll hb)
 have HBw3 := Lib.hid (HBw2.out.trans (hb.mono HBw2.out.size))
 clear hb
 unfold bagV
 go_wp2_with fail
 refine (Bg.of_any _ 1 1 [0] _ (row_block (heap_alloc_new w3 (.cells #[.int .i64 0] 3)) [0] rfl 1 rfl (by intro z hz; simp only [List.mem_cons, List.not_mem_nil, or_false] at hz; exact WalkArith.wf_i64 (by omega))) (by omega)).mono ?_
 rw [x1e.out]
 rintro en w4 ⟨rfl, hb⟩
 have HN4 := Lib.hid ((HN3.out.belowAll ((Below.refl _ w3).alloc (Nat.le_refl _) (.cells #[.int .i64 0] 3))).belowAll hb)
 have HBw4 := Lib.hid ((HBw3.out.alloc HBw3.out.size (.cells #[.int .i64 0] 3)).trans (hb.mono (by have := HBw3.out.size; simp; omega)))
 clear hb
 unfold bagV
 go_wp2_with fail
 refine (ends_any N L P w4 HN4.out).mono ?_
 rw [HF3.out]
 rintro en w5 ⟨rfl, hb⟩
 have HN5 := Lib.hid (HN4.out.belowAll hb)
 have HBw5 := Lib.hid (HBw4.out.trans (hb.mono HBw4.out.size))
 clear hb
 unfold bagV
 go_wp2_with fail
 refine (Bg.of_any _ 3 3 [0, 1, 2] _ (row_block (heap_alloc_new w5 (.cells #[.int .i64 0, .int .i64 1, .int .i64 2] 3)) [0, 1, 2] rfl 3 rfl (by intro z hz; simp only [List.mem_cons, List.not_mem_nil, or_false] at hz; exact WalkArith.wf_i64 (by omega))) (by omega)).mono ?_
 rw [x2e.out]
 rintro en w6 ⟨rfl, hb⟩
 have HN6 := Lib.hid ((HN5.out.belowAll ((Below.refl _ w5).alloc (Nat.le_refl _) (.cells #[.int .i64 0, .int .i64 1, .int .i64 2] 3))).belowAll hb)
 have HBw6 := Lib.hid ((HBw5.out.alloc HBw5.out.size (.cells #[.int .i64 0, .int .i64 1, .int .i64 2] 3)).trans (hb.mono (by have := HBw5.out.size; simp; omega)))
 clear hb
 unfold bagV
 go_wp2_with fail
 refine (behind_any N L P 0 w6 HN6.out).mono ?_
 rw [HF4.out]
 rintro en w7 ⟨rfl, hb⟩
 have HN7 := Lib.hid (HN6.out.belowAll hb)
 have HBw7 := Lib.hid (HBw6.out.trans (hb.mono HBw6.out.size))
 clear hb
 unfold bagV
 go_wp2_with fail
 refine (Bg.of_any _ 2 2 [1, 2] _ (row_block (heap_alloc_new w7 (.cells #[.int .i64 1, .int .i64 2] 3)) [1, 2] rfl 2 rfl (by intro z hz; simp only [List.mem_cons, List.not_mem_nil, or_false] at hz; exact WalkArith.wf_i64 (by omega))) (by omega)).mono ?_
 rw [x3e.out]
 rintro en w8 ⟨rfl, hb⟩
 have HN8 := Lib.hid ((HN7.out.belowAll ((Below.refl _ w7).alloc (Nat.le_refl _) (.cells #[.int .i64 1, .int .i64 2] 3))).belowAll hb)
 have HBw8 := Lib.hid ((HBw7.out.alloc HBw7.out.size (.cells #[.int .i64 1, .int .i64 2] 3)).trans (hb.mono (by have := HBw7.out.size; simp; omega)))
 clear hb
 unfold bagV
 go_wp2_with fail
 refine (behind_any N L P 2 w8 HN8.out).mono ?_
 rw [HF5.out]
 rintro en w9 ⟨rfl, hb⟩
 have HN9 := Lib.hid (HN8.out.belowAll hb)
 have HBw9 := Lib.hid (HBw8.out.trans (hb.mono HBw8.out.size))
 clear hb
 unfold bagV
 go_wp2_with fail
 refine (Bg.of_any _ 1 1 [2] _ (row_block (heap_alloc_new w9 (.cells #[.int .i64 2] 3)) [2] rfl 1 rfl (by intro z hz; simp only [List.mem_cons, List.not_mem_nil, or_false] at hz; exact WalkArith.wf_i64 (by omega))) (by omega)).mono ?_
 rw [x4e.out]
 rintro en w10 ⟨rfl, hb⟩
 have HN10 := Lib.hid ((HN9.out.belowAll ((Below.refl _ w9).alloc (Nat.le_refl _) (.cells #[.int .i64 2] 3))).belowAll hb)
 have HBw10 := Lib.hid ((HBw9.out.alloc HBw9.out.size (.cells #[.int .i64 2] 3)).trans (hb.mono (by have := HBw9.out.size; simp; omega)))
 clear hb
 unfold bagV
 go_wp2
 go_ret
 exact ⟨rfl, HBw10.out⟩
end Go.Proofs.YtnbchikiiipejaaGreatDoor.Nf
