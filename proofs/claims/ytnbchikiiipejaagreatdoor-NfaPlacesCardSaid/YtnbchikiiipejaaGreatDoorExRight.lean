/- Walks of the expressions' Right: is a sign one that a text may have (lexed)? Walks of the expressions' Right: is a part as its kind must be (fits)? Walks of the expressions' Right. -/
import Derived.Test.YtnbchikiiipejaaGreatDoorExPR
import Derived.Test.YtnbchikiiipejaaGreatDoorLxEnds
import Derived.Deep.Cut
import Derived.Deep.RegionWith
set_option linter.unusedVariables false
set_option maxRecDepth 100000
set_option maxHeartbeats 8000000
namespace Go.Proofs.YtnbchikiiipejaaGreatDoor.Ex
open Go.RowKit Mem Lx
theorem eqf_cons (d : Nat) (xs ys : Array Value) (f : Field) (fs : List Field) (a b : Value) (r : Bool) (w : World) (hn : f.name ≠ "_") (h1 : (part f.type xs f.offset).run Tryz.prog w = .ok a w) (h2 : (part f.type ys f.offset).run Tryz.prog w = .ok b w) (h3 : (Op.equalIn d f.type a b).run Tryz.prog w = .ok r w) :
  (Op.eqFields d xs ys (f :: fs)).run Tryz.prog w = if r then (Op.eqFields d xs ys fs).run Tryz.prog w else .ok false w := by
 simp only [Op.eqFields, hn, ne_eq, not_false_eq_true, if_true, Sem.run_bind, h1, h2, h3, Result.andThen_ok]
 cases r <;> simp
def sgEq (x y : Sg) : Bool := (x.kind == y.kind) && ((x.at_ == y.at_) && ((x.low == y.low) && ((x.high == y.high) && (x.name == y.name))))
theorem sgEq_eq (x y : Sg) : sgEq x y = decide (x = y) := by
 obtain ⟨a, b, c, d, e⟩ := x
 obtain ⟨a', b', c', d', e'⟩ := y
 unfold sgEq
 rw [Bool.eq_iff_iff]
 simp
theorem sg_fields : (Tryz.prog.fieldsOf 222).toList.map (fun f => (f.type, f.offset)) = [(3, 0), (3, 1), (3, 2), (3, 3), (9, 4)] ∧ (Tryz.prog.fieldsOf 222).toList.all (fun f => f.name != "_") = true := by constructor <;> kernel_rfl
theorem eq_sg (d : Nat) (x y : Sg) (w : World) : (Op.equalIn (d + 1 + 1) 222 (.agg #[.int .i64 x.kind, .int .i64 x.at_, .int .i64 x.low, .int .i64 x.high, .string ⟨x.name.toArray⟩]) (.agg #[.int .i64 y.kind, .int .i64 y.at_, .int .i64 y.low, .int .i64 y.high, .string ⟨y.name.toArray⟩])).run Tryz.prog w = .ok (decide (x = y)) w := by
 rw [run_equalIn_agg w (d + 1) 222 _ _ (by kernel_rfl) (by kernel_rfl), ← sgEq_eq]
 obtain ⟨h1, h2⟩ := sg_fields
 generalize (Tryz.prog.fieldsOf 222).toList = fs at h1 h2
 rcases fs with _ | ⟨f0, _ | ⟨f1, _ | ⟨f2, _ | ⟨f3, _ | ⟨f4, _ | ⟨f5, fs⟩⟩⟩⟩⟩⟩ <;> simp at h1
 obtain ⟨⟨t0, o0⟩, ⟨t1, o1⟩, ⟨t2, o2⟩, ⟨t3, o3⟩, ⟨t4, o4⟩⟩ := h1
 simp only [List.all_cons, List.all_nil, Bool.and_true, Bool.and_eq_true, bne_iff_ne] at h2
 obtain ⟨n0, n1, n2, n3, n4⟩ := h2
 have p : ∀ (z : Sg) (w : World), (part 3 #[.int .i64 z.kind, .int .i64 z.at_, .int .i64 z.low, .int .i64 z.high, .string ⟨z.name.toArray⟩] 0).run Tryz.prog w = .ok (.int .i64 z.kind) w ∧ (part 3 #[.int .i64 z.kind, .int .i64 z.at_, .int .i64 z.low, .int .i64 z.high, .string ⟨z.name.toArray⟩] 1).run Tryz.prog w = .ok (.int .i64 z.at_) w ∧ (part 3 #[.int .i64 z.kind, .int .i64 z.at_, .int .i64 z.low, .int .i64 z.high, .string ⟨z.name.toArray⟩] 2).run Tryz.prog w = .ok (.int .i64 z.low) w ∧ (part 3 #[.int .i64 z.kind, .int .i64 z.at_, .int .i64 z.low, .int .i64 z.high, .string ⟨z.name.toArray⟩] 3).run Tryz.prog w = .ok (.int .i64 z.high) w ∧ (part 9 #[.int .i64 z.kind, .int .i64 z.at_, .int .i64 z.low, .int .i64 z.high, .string ⟨z.name.toArray⟩] 4).run Tryz.prog w = .ok (.string ⟨z.name.toArray⟩) w := fun z w => ⟨by kernel_rfl, by kernel_rfl, by kernel_rfl, by kernel_rfl, by kernel_rfl⟩
 have ei : ∀ (a b : Int) (w : World), (Op.equalIn (d + 1) 3 (.int .i64 a) (.int .i64 b)).run Tryz.prog w = .ok (a == b) w := fun a b w => run_equalIn_int w d 3 .i64 .i64 a b Tryz.underlying3
 have es : ∀ (a b : List UInt8) (w : World), (Op.equalIn (d + 1) 9 (.string ⟨a.toArray⟩) (.string ⟨b.toArray⟩)).run Tryz.prog w = .ok (a == b) w := fun a b w => by
  have := run_equalIn_string (P := Tryz.prog) w d 9 ⟨a.toArray⟩ ⟨b.toArray⟩ Tryz.underlying9
  simpa using this
 obtain ⟨a0, a1, a2, a3, a4⟩ := p x w
 obtain ⟨b0, b1, b2, b3, b4⟩ := p y w
 rw [eqf_cons (d + 1) _ _ f0 _ _ _ _ w n0 (by rw [t0, o0]; exact a0) (by rw [t0, o0]; exact b0) (by rw [t0]; exact ei _ _ _)]
 rw [eqf_cons (d + 1) _ _ f1 _ _ _ _ w n1 (by rw [t1, o1]; exact a1) (by rw [t1, o1]; exact b1) (by rw [t1]; exact ei _ _ _)]
 rw [eqf_cons (d + 1) _ _ f2 _ _ _ _ w n2 (by rw [t2, o2]; exact a2) (by rw [t2, o2]; exact b2) (by rw [t2]; exact ei _ _ _)]
 rw [eqf_cons (d + 1) _ _ f3 _ _ _ _ w n3 (by rw [t3, o3]; exact a3) (by rw [t3, o3]; exact b3) (by rw [t3]; exact ei _ _ _)]
 rw [eqf_cons (d + 1) _ _ f4 _ _ _ _ w n4 (by rw [t4, o4]; exact a4) (by rw [t4, o4]; exact b4) (by rw [t4]; exact es _ _ _)]
 unfold sgEq
 cases x.kind == y.kind <;> cases x.at_ == y.at_ <;> cases x.low == y.low <;> cases x.high == y.high <;> cases x.name == y.name <;> simp [Op.eqFields]
def lexedI (x : Sg) : Bool :=
 match Lex (show1 x) with
 | .ok [y] _ => decide (y = x)
 | _ => false
def LexOut (L : Res (List Sg)) (W : World) (e : Ending) (w' : World) : Prop :=
 Below W.heap.size W w' ∧ match L with
  | .ok l _ => ∃ A c, e = .returned (.tuple #[.slice A l.length c, .int .i64 0, .int .i64 0]) ∧ l.length ≤ c ∧ GRow w' A l.length l
  | .bad p c => e = .returned (.tuple #[.slice none 0 0, .int .i64 p, .int .i64 c])
theorem lexOut_of {s : List UInt8} {L : Res (List Sg)} {W : World} (hL : L = Lex s) (h : Calls Tryz.prog 114 #[.string ⟨s.toArray⟩] W (LexIs ⟨s.toArray⟩ W)) : Calls Tryz.prog 114 #[.string ⟨s.toArray⟩] W (LexOut L W) := by
 subst hL
 exact h
theorem show_one (x : Sg) : showN 0 [x] = show1 x := by simp [showN, piece]
theorem lexed_any (x : Sg) (w : World) (H : Held w) (hx : (I64 x.low ∧ I64 x.high) ∧ x.name.length ≤ 100) (hl : (show1 x).length ≤ 1000) :
  Calls Tryz.prog 217 #[.agg #[.int .i64 x.kind, .int .i64 x.at_, .int .i64 x.low, .int .i64 x.high, .string ⟨x.name.toArray⟩]] w fun en w' => en = .returned (.bool (lexedI x)) ∧ Below w.heap.size w w' := by
 obtain ⟨R, hR⟩ : ∃ R, R = lexedI x := ⟨_, rfl⟩
 rw [← hR]
 unfold lexedI at hR
 have HSH := hide (fun A c W (g : GRow W A 1 [x]) (HW : Held W) => Show_any A 1 c [x] W g (by omega) (by simpa using hx) HW)
 rw [show_one] at HSH
 have HLX := hide (fun W (HW : Held W) => lex_any ⟨(show1 x).toArray⟩ W (by simp [ByteArray.size]; omega) HW)
 have HH := hide H
 have HX := hide hx
 clear H hx hl
 obtain ⟨L, hL⟩ : ∃ L, L = Lex (show1 x) := ⟨_, rfl⟩
 rw [← hL] at hR
 have hLX : Hid (∀ W, Held W → Calls Tryz.prog 114 #[.string ⟨(show1 x).toArray⟩] W (LexOut L W)) := fun W HW => lexOut_of hL (HLX.out W HW)
 have HE := lex_ends (show1 x)
 rw [← hL] at HE
 have hxf : (x.kind, x.at_, x.low, x.high, x.name) = (x.kind, x.at_, x.low, x.high, x.name) := rfl
 clear HLX hL hxf
 obtain ⟨S, hS⟩ : ∃ S, S = show1 x := ⟨_, rfl⟩
 rw [← hS] at HSH hLX
 clear hS
 have HQ : Hid (∀ (y : Sg) (W : World), (Op.equalIn 10000 222 (.agg #[.int .i64 y.kind, .int .i64 y.at_, .int .i64 y.low, .int .i64 y.high, .string ⟨y.name.toArray⟩]) (.agg #[.int .i64 x.kind, .int .i64 x.at_, .int .i64 x.low, .int .i64 x.high, .string ⟨x.name.toArray⟩])).run Tryz.prog W = .ok (decide (y = x)) W) := fun y W => eq_sg 9998 y x W
 have hG0 : Hid (GRow ((w.alloc (.cells #[.int .i64 x.kind, .int .i64 x.at_, .int .i64 x.low, .int .i64 x.high, .string ⟨x.name.toArray⟩] 222)).alloc (.cells #[.int .i64 x.kind, .int .i64 x.at_, .int .i64 x.low, .int .i64 x.high, .string ⟨x.name.toArray⟩] 222)) (some ⟨w.heap.size + 1, 0, none⟩) 1 [x]) := by
  refine ⟨rfl, fun _ => ⟨w.heap.size + 1, 0, rfl, by simp, fun j hj => ?_⟩⟩
  obtain rfl : j = 0 := by simpa using hj
  have h := new_cells w (.cells #[.int .i64 x.kind, .int .i64 x.at_, .int .i64 x.low, .int .i64 x.high, .string ⟨x.name.toArray⟩] 222) #[.int .i64 x.kind, .int .i64 x.at_, .int .i64 x.low, .int .i64 x.high, .string ⟨x.name.toArray⟩] _ rfl (t := 222)
  exact ⟨h 0 _ rfl, h 1 _ rfl, h 2 _ rfl, h 3 _ rfl, h 4 _ rfl⟩
 have hS0 := Lib.hid (SB.new w x.kind x.at_ x.low x.high ⟨x.name.toArray⟩)
 have HW0 : Hid (Below w.heap.size w ((w.alloc (.cells #[.int .i64 x.kind, .int .i64 x.at_, .int .i64 x.low, .int .i64 x.high, .string ⟨x.name.toArray⟩] 222)).alloc (.cells #[.int .i64 x.kind, .int .i64 x.at_, .int .i64 x.low, .int .i64 x.high, .string ⟨x.name.toArray⟩] 222))) := ((Below.refl _ _).alloc (Nat.le_refl _) _).alloc (by simp) _
 have HH0 := Lib.hid (HH.out.below HW0.out)
 have hS1 : Hid (SB ((w.alloc (.cells #[.int .i64 x.kind, .int .i64 x.at_, .int .i64 x.low, .int .i64 x.high, .string ⟨x.name.toArray⟩] 222)).alloc (.cells #[.int .i64 x.kind, .int .i64 x.at_, .int .i64 x.low, .int .i64 x.high, .string ⟨x.name.toArray⟩] 222)) w.heap.size x.kind x.at_ x.low x.high ⟨x.name.toArray⟩) := hS0.out.kept (World.grownBy_alloc _ _ none) (by simp)
 rcases HE with ⟨l, rfl, hfine, h200⟩ | ⟨p, c, rfl, hc⟩
 ·by_cases h1 : l.length = 1
  ·obtain ⟨y, rfl⟩ := List.length_eq_one_iff.1 h1
   have HR9 : Hid (R = decide (y = x)) := hR
   clear hR h1 hfine h200
   go_enter Tryz.func217, Tryz.ntmps217
   go_upto_region 2 with (first
    | (go_at_call 247; (with_reducible refine (HSH.out (some ⟨w.heap.size + 1, 0, none⟩) 1 _ hG0.out HH0.out).mono ?_); rintro en w1 ⟨rfl, hb1⟩; have HB1 : Hid (Below w.heap.size w w1) := HW0.out.trans (hb1.mono HW0.out.size); have HH1 := Lib.hid (HH0.out.below hb1); have HS1 : Hid (SB w1 w.heap.size x.kind x.at_ x.low x.high ⟨x.name.toArray⟩) := (hb1.block _ (by simp; omega)).trans hS1.out; clear hb1)
    | (go_at_call 114; (with_reducible refine (hLX.out w1 HH1.out).mono ?_); rintro en w2 ⟨hb2, A2, c2, rfl, _, hg2⟩; have HB2 : Hid (Below w.heap.size w w2) := HB1.out.trans (hb2.mono HB1.out.size); have HS2 : Hid (SB w2 w.heap.size x.kind x.at_ x.low x.high ⟨x.name.toArray⟩) := (hb2.block _ HS1.out.lt).trans HS1.out; clear hb2))
   obtain ⟨b, off, rfl, hb, hcell⟩ := hg2.2 (by simp)
   obtain ⟨a0, a1, a2, a3, a4⟩ := hcell 0 (by simp)
   simp only [List.getElem_cons_zero, Nat.zero_mul, Nat.add_zero] at a0 a1 a2 a3 a4
   obtain ⟨b0, b1, b2, b3, b4⟩ := HS2.out.cells
   have hq := hide (HQ.out y)
   clear hcell hg2
   by_cases hyx : y = x
   ·have HQ2 : ∀ W : World, (Op.equalIn 10000 222 (.agg #[.int .i64 y.kind, .int .i64 y.at_, .int .i64 y.low, .int .i64 y.high, .string ⟨y.name.toArray⟩]) (.agg #[.int .i64 x.kind, .int .i64 x.at_, .int .i64 x.low, .int .i64 x.high, .string ⟨x.name.toArray⟩])).run Tryz.prog W = .ok true W := fun W => by rw [hq.out W]; simp [hyx]
    have HR8 : Hid (R = true) := by show _ = _; rw [HR9.out]; simpa using hyx
    clear hyx
    go_quiet (fail)
    go_wp2_with fail
    go_ret
    exact ⟨by rw [HR8.out]; rfl, below_drewN HB2.out nq⟩
   ·have HQ2 : ∀ W : World, (Op.equalIn 10000 222 (.agg #[.int .i64 y.kind, .int .i64 y.at_, .int .i64 y.low, .int .i64 y.high, .string ⟨y.name.toArray⟩]) (.agg #[.int .i64 x.kind, .int .i64 x.at_, .int .i64 x.low, .int .i64 x.high, .string ⟨x.name.toArray⟩])).run Tryz.prog W = .ok false W := fun W => by rw [hq.out W]; simp [hyx]
    have HR8 : Hid (R = false) := by show _ = _; rw [HR9.out]; simpa using hyx
    clear hyx
    go_quiet (fail)
    go_wp2_with fail
    go_ret
    exact ⟨by rw [HR8.out]; rfl, below_drewN HB2.out nq⟩
  ·have HR9 : Hid (R = false) := by
    rcases l with _ | ⟨a, _ | ⟨b, l⟩⟩
    ·exact hR
    ·simp at h1
    ·exact hR
   have t1 : ((l.length : Int) == 1) = false := by simp; omega
   have t2 : (l.length == 1) = false := by simpa using h1
   clear hR hfine h1
   go_enter Tryz.func217, Tryz.ntmps217
   go_upto_region 2 with (first
    | (go_at_call 247; (with_reducible refine (HSH.out (some ⟨w.heap.size + 1, 0, none⟩) 1 _ hG0.out HH0.out).mono ?_); rintro en w1 ⟨rfl, hb1⟩; have HB1 : Hid (Below w.heap.size w w1) := HW0.out.trans (hb1.mono HW0.out.size); have HH1 := Lib.hid (HH0.out.below hb1); have HS1 : Hid (SB w1 w.heap.size x.kind x.at_ x.low x.high ⟨x.name.toArray⟩) := (hb1.block _ (by simp; omega)).trans hS1.out; clear hb1)
    | (go_at_call 114; (with_reducible refine (hLX.out w1 HH1.out).mono ?_); rintro en w2 ⟨hb2, A2, c2, rfl, _, hg2⟩; have HB2 : Hid (Below w.heap.size w w2) := HB1.out.trans (hb2.mono HB1.out.size); have HS2 : Hid (SB w2 w.heap.size x.kind x.at_ x.low x.high ⟨x.name.toArray⟩) := (hb2.block _ HS1.out.lt).trans HS1.out; clear hb2))
   go_quiet (fail)
   go_wp2_with fail
   go_ret
   exact ⟨by rw [HR9.out]; rfl, below_drewN HB2.out nq⟩
 ·have HR9 : Hid (R = false) := hR
  have t1 : (c == 0) = false := by simpa using hc
  clear hR hc
  go_enter Tryz.func217, Tryz.ntmps217
  go_upto_region 2 with (first
    | (go_at_call 247; (with_reducible refine (HSH.out (some ⟨w.heap.size + 1, 0, none⟩) 1 _ hG0.out HH0.out).mono ?_); rintro en w1 ⟨rfl, hb1⟩; have HB1 : Hid (Below w.heap.size w w1) := HW0.out.trans (hb1.mono HW0.out.size); have HH1 := Lib.hid (HH0.out.below hb1); have HS1 : Hid (SB w1 w.heap.size x.kind x.at_ x.low x.high ⟨x.name.toArray⟩) := (hb1.block _ (by simp; omega)).trans hS1.out; clear hb1)
    | (go_at_call 114; (with_reducible refine (hLX.out w1 HH1.out).mono ?_); rintro en w2 ⟨hb2, rfl⟩; have HB2 : Hid (Below w.heap.size w w2) := HB1.out.trans (hb2.mono HB1.out.size); have HS2 : Hid (SB w2 w.heap.size x.kind x.at_ x.low x.high ⟨x.name.toArray⟩) := (hb2.block _ HS1.out.lt).trans HS1.out; clear hb2))
  go_quiet (fail)
  go_wp2_with fail
  go_ret
  exact ⟨by rw [HR9.out]; rfl, below_drewN HB2.out nq⟩
end Go.Proofs.YtnbchikiiipejaaGreatDoor.Ex
namespace Go.Proofs.YtnbchikiiipejaaGreatDoor.Ex
open Go.RowKit Mem Lx
def fitsI (p : PI) : Bool :=
 if p.kind = 1 then p.kids.length == 0 && lexedI ⟨1, 0, p.low, p.high, p.name⟩
 else if p.kind = 2 ∨ p.kind = 3 then decide (2 ≤ p.kids.length) && decide ((⟨0, 0, p.low, p.high, p.name⟩ : Sg) = ⟨0, 0, 0, 0, []⟩)
 else if p.kind = 4 then p.kids.length == 1 && lexedI ⟨5, 0, p.low, p.high, p.name⟩
 else false
def Small (p : PI) : Prop := (I64 p.low ∧ I64 p.high) ∧ p.name.length ≤ 100
theorem fits_any (p : PI) (A : Option Addr) (c : Nat) (w : World) (H : Held w) (hs : Small p) (hk : p.kids.length ≤ 1000000) :
  Calls Tryz.prog 171 #[.agg #[.int .i64 p.kind, .int .i64 p.low, .int .i64 p.high, .string ⟨p.name.toArray⟩, .slice A p.kids.length c]] w fun en w' => en = .returned (.bool (fitsI p)) ∧ Below w.heap.size w w' := by
 obtain ⟨kd, lo, hi, nm, ks⟩ := p
 obtain ⟨R, hR⟩ : ∃ R, R = fitsI ⟨kd, lo, hi, nm, ks⟩ := ⟨_, rfl⟩
 rw [← hR]
 unfold fitsI at hR
 dsimp only at hR hk hs ⊢
 have HL := hide (fun (k : Int) W (HW : Held W) => lexed_any ⟨k, 0, lo, hi, nm⟩ W HW hs (Nat.le_trans (show1_len hs.1 hs.2) (by omega)))
 have HQ : Hid (∀ (W : World), (Op.equalIn 10000 222 (.agg #[.int .i64 0, .int .i64 0, .int .i64 lo, .int .i64 hi, .string ⟨nm.toArray⟩]) (.agg #[.int .i64 0, .int .i64 0, .int .i64 0, .int .i64 0, .string ⟨#[]⟩])).run Tryz.prog W = .ok (decide ((⟨0, 0, lo, hi, nm⟩ : Sg) = ⟨0, 0, 0, 0, []⟩)) W) := fun W => eq_sg 9998 ⟨0, 0, lo, hi, nm⟩ ⟨0, 0, 0, 0, []⟩ W
 have HH := hide H
 obtain ⟨n, hn⟩ : ∃ n, n = ks.length := ⟨_, rfl⟩
 rw [← hn] at hR hk ⊢
 clear H hs hn
 have HW2 : Hid (∀ (a b : Obj), Below w.heap.size w ((w.alloc a).alloc b)) := fun a b => ((Below.refl _ _).alloc (Nat.le_refl _) _).alloc (by simp) _
 by_cases k1 : kd = 1
 ·subst k1
  by_cases n0 : n = 0
  ·subst n0
   have HR : Hid (R = lexedI ⟨1, 0, lo, hi, nm⟩) := by show _ = _; rw [hR]; simp
   clear hR
   go_enter Tryz.func171, Tryz.ntmps171
   go_wp2_with (go_at_call 217; (with_reducible refine (HL.out 1 _ (HH.out.below (HW2.out (.cells #[.int .i64 1, .int .i64 lo, .int .i64 hi, .string ⟨nm.toArray⟩, .slice A 0 c] 217) (.cells #[.int .i64 1, .int .i64 0, .int .i64 lo, .int .i64 hi, .string ⟨nm.toArray⟩] 222)))).mono ?_); rintro en w1 ⟨rfl, hb1⟩; have HB1 : Hid (Below w.heap.size w w1) := (HW2.out _ _).trans (hb1.mono (HW2.out _ _).size); clear hb1)
   go_ret
   exact ⟨by rw [HR.out]; rfl, HB1.out⟩
  ·have HR : Hid (R = false) := by show _ = _; rw [hR]; simp [n0]
   have t1 : ((n : Int) == 0) = false := by simp; omega
   have t2 : (n == 0) = false := by simpa using n0
   clear hR n0
   go_enter Tryz.func171, Tryz.ntmps171
   go_wp2_with fail
   go_ret
   exact ⟨by rw [HR.out]; rfl, HW2.out _ _⟩
 ·have a1 : (kd == 1) = false := by simpa using k1
  by_cases k4 : kd = 4
  ·subst k4
   by_cases n1 : n = 1
   ·subst n1
    have HR : Hid (R = lexedI ⟨5, 0, lo, hi, nm⟩) := by show _ = _; rw [hR]; simp
    clear hR k1 a1
    go_enter Tryz.func171, Tryz.ntmps171
    go_wp2_with (go_at_call 217; (with_reducible refine (HL.out 5 _ (HH.out.below (HW2.out (.cells #[.int .i64 4, .int .i64 lo, .int .i64 hi, .string ⟨nm.toArray⟩, .slice A 1 c] 217) (.cells #[.int .i64 5, .int .i64 0, .int .i64 lo, .int .i64 hi, .string ⟨nm.toArray⟩] 222)))).mono ?_); rintro en w1 ⟨rfl, hb1⟩; have HB1 : Hid (Below w.heap.size w w1) := (HW2.out _ _).trans (hb1.mono (HW2.out _ _).size); clear hb1)
    go_ret
    exact ⟨by rw [HR.out]; rfl, HB1.out⟩
   ·have HR : Hid (R = false) := by show _ = _; rw [hR]; simp [n1]
    have t1 : ((n : Int) == 1) = false := by simp; omega
    have t2 : (n == 1) = false := by simpa using n1
    clear hR n1 k1 a1
    go_enter Tryz.func171, Tryz.ntmps171
    go_wp2_with fail
    go_ret
    exact ⟨by rw [HR.out]; rfl, HW2.out _ _⟩
  ·have a4 : (kd == 4) = false := by simpa using k4
   by_cases k23 : kd = 2 ∨ kd = 3
   ·have key : ∀ kd : Int, kd = 2 ∨ kd = 3 → True := fun _ _ => trivial
    by_cases n2 : 2 ≤ n
    ·have HR : Hid (R = decide ((⟨0, 0, lo, hi, nm⟩ : Sg) = ⟨0, 0, 0, 0, []⟩)) := by show _ = _; rw [hR, if_neg k1, if_pos k23]; simp [n2]
     have t1 : decide ((2 : Int) ≤ (n : Int)) = true := by simp; omega
     have t2 : decide (2 ≤ n) = true := by simpa using n2
     generalize decide ((⟨0, 0, lo, hi, nm⟩ : Sg) = ⟨0, 0, 0, 0, []⟩) = Q at HQ HR
     have HQ2 := HQ.out
     clear hR n2 k1 k4
     rcases k23 with rfl | rfl
     ·go_enter Tryz.func171, Tryz.ntmps171
      go_wp2_with fail
      go_ret
      exact ⟨by rw [HR.out]; rfl, HW2.out _ _⟩
     ·go_enter Tryz.func171, Tryz.ntmps171
      go_wp2_with fail
      go_ret
      exact ⟨by rw [HR.out]; rfl, HW2.out _ _⟩
    ·have HR : Hid (R = false) := by show _ = _; rw [hR, if_neg k1, if_pos k23]; simp [n2]
     have t1 : decide ((2 : Int) ≤ (n : Int)) = false := by simp; omega
     have t2 : decide (2 ≤ n) = false := by simpa using n2
     clear hR n2 k1 k4
     rcases k23 with rfl | rfl
     ·go_enter Tryz.func171, Tryz.ntmps171
      go_wp2_with fail
      go_ret
      exact ⟨by rw [HR.out]; rfl, HW2.out _ _⟩
     ·go_enter Tryz.func171, Tryz.ntmps171
      go_wp2_with fail
      go_ret
      exact ⟨by rw [HR.out]; rfl, HW2.out _ _⟩
   ·have HR : Hid (R = false) := by show _ = _; rw [hR, if_neg k1, if_neg k23, if_neg k4]
    have a2 : (kd == 2) = false := by simp; omega
    have a3 : (kd == 3) = false := by simp; omega
    clear hR k1 k4 k23
    go_enter Tryz.func171, Tryz.ntmps171
    go_wp2_with fail
    go_ret
    exact ⟨by rw [HR.out]; rfl, HW2.out _ _⟩
end Go.Proofs.YtnbchikiiipejaaGreatDoor.Ex
namespace Go.Proofs.YtnbchikiiipejaaGreatDoor.Ex
open Go.RowKit Mem Lx
theorem equal_any (A A' : Option Addr) (n m c c' : Nat) (zs ys : List Int) (w : World) (h1 : Row .i64 w A n zs) (h2 : Row .i64 w A' m ys) (hn : n ≤ 1000000) :
  Calls Tryz.prog 170 #[.slice A n c, .slice A' m c'] w fun e w' => e = .returned (.bool (decide (zs = ys))) ∧ Drawn w w' := by
 have hl1 := h1.1
 have hl2 := h2.1
 by_cases hnm : n = m
 ·subst hnm
  have H1 := hide h1
  have H2 := hide h2
  have HL := Lib.hid (⟨hl1, hl2⟩ : zs.length = n ∧ ys.length = n)
  clear h1 h2 hl1 hl2
  go_enter Tryz.func170, Tryz.ntmps170
  go_wp2_with fail
  go_loopw [13] (fun iv wr => ∃ j : Nat, iv = .int .i64 j ∧ j ≤ n ∧ Hid (Drawn w wr) ∧ Hid (∀ i, i < j → zs.getD i 0 = ys.getD i 0)) (fun iv _ => n - (intOf iv).toNat)
  case atStart => exact ⟨0, rfl, by omega, Lib.hid (drawn_refl w), Lib.hid (fun i hi => by omega)⟩
  case round =>
   obtain ⟨j, rfl, hj, hD, hE⟩ := hrel
   by_cases hlt : j < n
   ·obtain ⟨b, off, rfl, hc⟩ := (H1.out.below (drawn_below hD.out)).2.2 (by omega)
    obtain ⟨b', off', rfl, hc'⟩ := (H2.out.below (drawn_below hD.out)).2.2 (by omega)
    have a0 := hc j hlt
    have b0 := hc' j hlt
    have l1 : decide ((j : Int) < (n : Int)) = true := by simp; omega
    have l2 : decide (j < n) = true := by simp; omega
    have g0 : (j : Int) < (n : Int) := by omega
    clear hc hc'
    by_cases he : zs.getD j 0 = ys.getD j 0
    ·have HE : Hid (∀ i, i < j + 1 → zs.getD i 0 = ys.getD i 0) := fun i hi => by
      rcases Nat.lt_or_ge i j with h | h
      ·exact hE.out i h
      ·rw [show i = j from by omega]; exact he
     rw [he] at a0
     have t2 : (ys.getD j 0 != ys.getD j 0) = false := by simp
     generalize ys.getD j 0 = y at a0 b0 t2
     clear he hE
     go_wp2_with fail
     go_quiet (fail)
     go_wp2_with fail
     go_roundw
     case rel => exact ⟨j + 1, by go_num, by omega, Lib.hid (Drawn.trans hD.out ⟨_, rfl⟩), HE⟩
     case measure => simp [intOf]; omega
    ·have t1 : (zs.getD j 0 != ys.getD j 0) = true := by simpa using he
     have HNE : Hid (decide (zs = ys) = false) := by
      show _ = _
      simp only [decide_eq_false_iff_not]
      rintro rfl
      exact he rfl
     generalize zs.getD j 0 = z at a0 t1
     generalize ys.getD j 0 = y at b0 t1
     clear he hE
     go_wp2_with fail
     go_quiet (fail)
     go_wp2_with fail
     go_ret
     exact ⟨by rw [HNE.out]; rfl, Drawn.trans hD.out ⟨_, rfl⟩⟩
   ·have l1 : decide ((j : Int) < (n : Int)) = false := by simp; omega
    have l2 : decide (j < n) = false := by simp; omega
    have HEQ : Hid (decide (zs = ys) = true) := by
     show _ = _
     simp only [decide_eq_true_eq]
     refine List.ext_getElem (by rw [HL.out.1, HL.out.2]) (fun i h1 h2 => ?_)
     have := hE.out i (by have := HL.out.1; omega)
     simpa [List.getD, List.getElem?_eq_getElem h1, List.getElem?_eq_getElem h2] using this
    clear hlt
    go_wp2_with fail
    go_ret
    exact ⟨by rw [HEQ.out]; rfl, hD.out⟩
 ·have HNE : Hid (decide (zs = ys) = false) := by
   show _ = _
   simp only [decide_eq_false_iff_not]
   rintro rfl
   omega
  have t1 : ((n : Int) != (m : Int)) = true := by simp; omega
  have t2 : (n != m) = true := by simpa using hnm
  clear hnm hl1 hl2 h1 h2
  go_enter Tryz.func170, Tryz.ntmps170
  go_wp2_with fail
  go_ret
  exact ⟨by rw [HNE.out]; rfl, drawn_refl w⟩
def stepR (free : List Int) (i : Nat) (p : PI) : Option (List Int) :=
 if p.kids.length ≤ free.length ∧ free.drop (free.length - p.kids.length) = p.kids ∧ fitsI p = true then some (free.take (free.length - p.kids.length) ++ [(i : Int)]) else none
def runR : Nat → List Int → List PI → Option (List Int)
 | _, free, [] => some free
 | i, free, p :: ps => match stepR free i p with
  | some f => runR (i + 1) f ps
  | none => none
def rightI (e : List PI) : Bool := match runR 0 [] e with
 | some f => f.length == 1 || e.length == 0
 | none => false
theorem right_end {e : List PI} {free : List Int} {j : Nat} (h : runR 0 [] e = runR j free (e.drop j)) (hj : e.length ≤ j) : rightI e = (free.length == 1 || e.length == 0) := by
 rw [List.drop_eq_nil_of_le hj] at h
 unfold rightI
 rw [h]
 rfl
theorem right_bad {e : List PI} {free : List Int} {j : Nat} (h : runR 0 [] e = runR j free (e.drop j)) (hj : j < e.length) (hs : stepR free j e[j] = none) : rightI e = false := by
 rw [List.drop_eq_getElem_cons hj, runR, hs] at h
 unfold rightI
 rw [h]
theorem right_step {e : List PI} {free f : List Int} {j : Nat} (h : runR 0 [] e = runR j free (e.drop j)) (hj : j < e.length) (hs : stepR free j e[j] = some f) : runR 0 [] e = runR (j + 1) f (e.drop (j + 1)) := by
 rw [List.drop_eq_getElem_cons hj, runR, hs] at h
 exact h
theorem own_cut {w : World} {base n m : Nat} {A : Option Addr} {c : Nat} {zs : List Int} (h : w.ownsRow base 3 1 (.slice A n c) n (zs.map (Value.int .i64))) (hm : m ≤ n) : w.ownsRow base 3 1 (.slice A m c) m ((zs.take m).map (Value.int .i64)) := by
 have hl : zs.length = n := by simpa using h.1
 refine ⟨by simp; omega, ?_⟩
 rcases h.2 with ⟨h1, h0⟩ | ⟨g, cap, cur, hv, hb, hg, hnc, hmx, hs, ht⟩
 ·simp only [Value.slice.injEq] at h1
  obtain ⟨rfl, rfl, rfl⟩ := h1
  exact .inl ⟨by rw [show m = 0 from by omega], by omega⟩
 ·simp only [Value.slice.injEq] at hv
  obtain ⟨rfl, -, rfl⟩ := hv
  refine .inr ⟨g, c, cur, rfl, hb, hg, by omega, hmx, hs, ?_⟩
  rw [List.map_take, ← ht, List.take_take, Nat.mul_one, Nat.mul_one, Nat.min_eq_left hm]
theorem own_rest {w : World} {base n : Nat} {A : Option Addr} {c : Nat} {zs : List Int} (h : w.ownsRow base 3 1 (.slice A n c) n (zs.map (Value.int .i64))) (hz : ∀ z ∈ zs, (Lit.int .i64 z).wf = true) (o : Nat) (ho : o ≤ n) (A' : Option Addr) (hA : o < n → ∀ g, A = some ⟨g, 0, none⟩ → A' = some ⟨g, o, none⟩) : Row .i64 w A' (n - o) (zs.drop o) := by
 have hl : zs.length = n := by simpa using h.1
 refine ⟨by simp; omega, fun z hz2 => hz z (List.mem_of_mem_drop hz2), fun hn => ?_⟩
 rcases h.2 with ⟨h1, h0⟩ | ⟨g, cap, cur, hv, hb, hg, hnc, hmx, hs, ht⟩
 ·omega
 ·simp only [Value.slice.injEq] at hv
  obtain ⟨rfl, -, rfl⟩ := hv
  refine ⟨g, o, hA (by omega) g rfl, fun j hj => ?_⟩
  have hlt : o + j < zs.length := by omega
  have := World.ownsRow.cells h (g := g) rfl (o + j) (.int .i64 (zs[o + j])) (by simp [hlt])
  have hp : (⟨g, 0, none⟩ : Addr).add (o + j) = ⟨g, o + j, none⟩ := by unfold Addr.add; split <;> simp_all
  rw [hp] at this
  rw [this]
  simp [List.getD, List.getElem?_drop, List.getElem?_eq_getElem hlt]
theorem own_room {w : World} {base size n m : Nat} {e : TypeId} {A : Option Addr} {c : Nat} {xs : List Value} (h : w.ownsRow base e size (.slice A n c) m xs) : m ≤ c := by
 rcases h.2 with ⟨h1, h0⟩ | ⟨g, cap, cur, hv, hb, hg, hnc, hmx, hs, ht⟩
 ·omega
 ·simp only [Value.slice.injEq] at hv
  omega
theorem own_rest_if {w : World} {base n : Nat} {A : Option Addr} {c : Nat} {zs : List Int} (h : w.ownsRow base 3 1 (.slice A n c) n (zs.map (Value.int .i64))) (hz : ∀ z ∈ zs, (Lit.int .i64 z).wf = true) (o : Nat) (ho : o ≤ n) : Row .i64 w (if c = o then A else Option.map (fun x => x.add o) A) (n - o) (zs.drop o) := by
 refine own_rest h hz o ho _ (fun hlt g hA => ?_)
 rcases h.2 with ⟨h1, h0⟩ | ⟨g', cap, cur, hv, hb, hg, hnc, hmx, hs, ht⟩
 ·omega
 ·simp only [Value.slice.injEq] at hv
  obtain ⟨h1, -, rfl⟩ := hv
  rw [if_neg (by omega), hA]
  have hp : (⟨g, 0, none⟩ : Addr).add o = ⟨g, o, none⟩ := by unfold Addr.add; split <;> simp_all
  simp [hp]
theorem right_any (A : Option Addr) (n c : Nat) (e : List PI) (w : World) (h : PR w A n e) (H : Held w) (hn : n ≤ 100000) (hs : ∀ p ∈ e, Small p ∧ p.kids.length ≤ 1000000) :
  Calls Tryz.prog 117 #[.slice A n c] w fun en w' => en = .returned (.bool (rightI e)) ∧ Below w.heap.size w w' := by
 obtain ⟨i0, hi0, hz0, hsz1, hsz2⟩ := info_parts info_i64
 have HR := hide h
 have HLN := Lib.hid h.1
 have HH := hide H
 have HS := hide hs
 clear h H hs
 go_enter Tryz.func117, Tryz.ntmps117
 go_wp2_with fail
 go_loopw [3, 9] (fun v iv wr => ∃ (j : Nat) (free : List Int) (A1 : Option Addr) (c1 : Nat), v = .slice A1 free.length c1 ∧ iv = .int .i64 j ∧ j ≤ n ∧ free.length ≤ j ∧ Hid (∀ z ∈ free, (Lit.int .i64 z).wf = true) ∧ Hid (wr.ownsRow w.heap.size 3 1 (.slice A1 free.length c1) free.length (free.map (Value.int .i64))) ∧ Hid (Below w.heap.size w wr) ∧ Hid (runR 0 [] e = runR j free (e.drop j))) (fun _ iv _ => n - (intOf iv).toNat)
 case atStart => exact ⟨0, [], none, 0, rfl, rfl, by omega, by simp, Lib.hid (by simp), Lib.hid (World.ownsRow_nil _ _ _ _), Lib.hid (Below.refl _ _), Lib.hid rfl⟩
 case round =>
  obtain ⟨j, free, A1, c1, rfl, rfl, hj, hfl, hwf, hO, hB, hE⟩ := hrel
  by_cases hlt : j < n
  ·have j1 : j < e.length := by have := HLN.out; omega
   obtain ⟨b, off, rfl, hb, hc⟩ := (HR.out.below hB.out).2 (by omega)
   obtain ⟨a0, a1, a2, a3, kv, a4, ra⟩ := hc j j1
   have l1 : decide ((j : Int) < (n : Int)) = true := by simp; omega
   have l2 : decide (j < n) = true := by simp; omega
   have g0 : (j : Int) < (n : Int) := by omega
   have HSM := Lib.hid (HS.out _ (List.getElem_mem j1))
   have HBAD := hide (right_bad hE.out j1)
   have HSTEP := hide (fun f => right_step (f := f) hE.out j1)
   generalize e[j] = p at a0 a1 a2 a3 ra HSM HBAD HSTEP
   obtain ⟨Ak, ck, rfl, hck, hrk⟩ := ra
   obtain ⟨kd, lo, hi, nm, ks⟩ := p
   dsimp only at a0 a1 a2 a3 a4 hck hrk HSM
   have HRK := Lib.hid hrk
   have HB1 : Hid (Below w.heap.size w (wr.alloc (.cells #[.int .i64 kd, .int .i64 lo, .int .i64 hi, .string ⟨nm.toArray⟩, .slice Ak ks.length ck] 217))) := hB.out.alloc hB.out.size _
   have HO1 := Lib.hid (World.ownsRow.alloc hO.out (.cells #[.int .i64 kd, .int .i64 lo, .int .i64 hi, .string ⟨nm.toArray⟩, .slice Ak ks.length ck] 217))
   have HRK1 := Lib.hid (Row.alloc hrk (.cells #[.int .i64 kd, .int .i64 lo, .int .i64 hi, .string ⟨nm.toArray⟩, .slice Ak ks.length ck] 217))
   clear hc hrk
   by_cases h1 : ks.length ≤ free.length
   ·obtain ⟨o, ho⟩ : ∃ o, o = free.length - ks.length := ⟨_, rfl⟩
    have hfw : IntKind.i64.wrap ((free.length : Int) - (ks.length : Int)) = (o : Int) := by rw [IntWalk.i64_in _ (by have := HSM.out.2; omega)]; omega
    have hol : o ≤ free.length := by omega
    have hol' : (o : Int) ≤ (free.length : Int) := by omega
    have hoc : o ≤ c1 := Nat.le_trans hol (own_room hO.out)
    have hoc' : (o : Int) ≤ (c1 : Int) := by omega
    have hkl : ks.length = free.length - o := by omega
    have hrf0 := own_rest_if HO1.out hwf.out o hol
    obtain ⟨A9, hA9⟩ : ∃ A9, (if c1 = o then A1 else Option.map (fun x => x.add o) A1) = A9 := ⟨_, rfl⟩
    rw [hA9] at hrf0
    have HRF := Lib.hid hrf0
    clear hrf0
    have HEQ := hide (fun q => equal_any A9 Ak (free.length - o) ks.length (c1 - o) ck (free.drop o) ks ((wr.alloc (.cells #[.int .i64 kd, .int .i64 lo, .int .i64 hi, .string ⟨nm.toArray⟩, .slice Ak ks.length ck] 217)).drewN q) (HRF.out.drewN q) (HRK1.out.drewN q) (by omega))
    by_cases he : free.drop o = ks
    ·by_cases hf : fitsI ⟨kd, lo, hi, nm, ks⟩ = true
     ·have HNX := Lib.hid (HSTEP.out (free.take o ++ [(j : Int)]) (by rw [stepR, if_pos ⟨h1, by rw [← ho]; exact he, hf⟩, ← ho]))
      have hdc : decide (free.drop o = ks) = true := by simpa using he
      rw [hdc] at HEQ
      have HFT0 : ∀ W, Held W → Calls Tryz.prog 171 #[.agg #[.int .i64 kd, .int .i64 lo, .int .i64 hi, .string ⟨nm.toArray⟩, .slice Ak ks.length ck]] W fun en w' => en = .returned (.bool (fitsI ⟨kd, lo, hi, nm, ks⟩)) ∧ Below W.heap.size W w' := fun W HW => fits_any ⟨kd, lo, hi, nm, ks⟩ Ak ck W HW HSM.out.1 HSM.out.2
      rw [hf] at HFT0
      have HFT := hide HFT0
      clear HFT0
      have HH1 := Lib.hid (HH.out.below HB1.out)
      clear h1 ho hkl he hdc hf
      go_upto_region 6 with fail
      have hHHD : Hid (∀ m, Held ((wr.alloc (.cells #[.int .i64 kd, .int .i64 lo, .int .i64 hi, .string ⟨nm.toArray⟩, .slice Ak ks.length ck] 217)).drewN m)) := fun m => HH1.out.below (below_drewN (Below.refl _ _) m)
      have hBD : Hid (∀ m, Below w.heap.size w ((wr.alloc (.cells #[.int .i64 kd, .int .i64 lo, .int .i64 hi, .string ⟨nm.toArray⟩, .slice Ak ks.length ck] 217)).drewN m)) := fun m => below_drewN HB1.out m
      have HEQ1 : Hid (Calls Tryz.prog 170 #[.slice A9 (free.length - o) (c1 - o), .slice Ak ks.length ck] (wr.alloc (.cells #[.int .i64 kd, .int .i64 lo, .int .i64 hi, .string ⟨nm.toArray⟩, .slice Ak ks.length ck] 217)).drew fun e w' => e = .returned (.bool true) ∧ ∃ m, w' = (wr.alloc (.cells #[.int .i64 kd, .int .i64 lo, .int .i64 hi, .string ⟨nm.toArray⟩, .slice Ak ks.length ck] 217)).drew.drewN m) := HEQ.out 1
      clear HEQ
      go_region_with (first
       | (go_at_call 170; (with_reducible refine (HEQ1.out).mono ?_); rintro en w5 ⟨rfl, m5, rfl⟩)
       | (go_at_call 171; (with_reducible refine (HFT.out _ (hHHD.out _)).mono ?_); rintro en w6 ⟨rfl, hb6⟩; have HB6 : Hid (Below w.heap.size w w6) := (hBD.out _).trans (hb6.mono (hBD.out _).size); have HO6 : Hid (w6.ownsRow w.heap.size 3 1 (.slice A1 free.length c1) free.length (free.map (Value.int .i64))) := World.ownsRow.kept HO1.out (row := none) ⟨hb6.os, hb6.tape, hb6.output, hb6.size, fun i hi _ => hb6.block i hi⟩ (Classical.em _); clear hb6))
      all_goals
       have HOC := Lib.hid (World.ownsRow.alloc (own_cut HO6.out hol) (.cells #[.int .i64 (j : Int)] 3))
       have HROW := Lib.hid (row_one w6 (j : Int) (WalkArith.wf_i64 (by omega)))
       have hz6 := HB6.out.size
       have HWF : Hid (∀ z ∈ free.take o ++ [(j : Int)], (Lit.int .i64 z).wf = true) := fun z hz => by
        rcases List.mem_append.1 hz with hz | hz
        ·exact hwf.out z (List.mem_of_mem_take hz)
        ·simp at hz; subst hz; exact WalkArith.wf_i64 (by omega)
       have hlen : Hid ((free.take o ++ [(j : Int)]).length = o + 1) := by show _ = _; simp; omega
       have hoj : o + 1 ≤ j + 1 := by omega
       go_wp2_with (at_builtin; (refine wpList_app rfl (.tmp 38) (.tmp 40) _ rfl .i64 w.heap.size 3 i0 8 Tryz.underlying39 hi0 hz0 hsz1 hsz2 (by omega) _ o (free.take o) rfl HOC.out _ 1 1 [(j : Int)] rfl HROW.out (by omega) (by simp; omega) ?_); intro v' w7 hown hg hat; obtain ⟨A7, c7, hv7⟩ := own_form5 hown; subst hv7; have HO7 := Lib.hid hown; have HB7 : Hid (Below w.heap.size w w7) := (HB6.out.alloc hz6 _).grown hg (by simp; omega) (fun g hg => (World.ownsRow.lt HOC.out g hg).1); clear hown hg hat)
       go_roundw
       case rel => exact ⟨j + 1, free.take o ++ [(j : Int)], A7, c7, by rw [hlen.out], by go_num, by omega, by rw [hlen.out]; exact hoj, HWF, by rw [hlen.out]; exact HO7, HB7, HNX⟩
       case measure => simp [intOf]; omega
     ·have HX := Lib.hid (HBAD.out (by simp [stepR]; intro _ _; simpa using hf))
      have hdc : decide (free.drop o = ks) = true := by simpa using he
      rw [hdc] at HEQ
      have HFT0 : ∀ W, Held W → Calls Tryz.prog 171 #[.agg #[.int .i64 kd, .int .i64 lo, .int .i64 hi, .string ⟨nm.toArray⟩, .slice Ak ks.length ck]] W fun en w' => en = .returned (.bool (fitsI ⟨kd, lo, hi, nm, ks⟩)) ∧ Below W.heap.size W w' := fun W HW => fits_any ⟨kd, lo, hi, nm, ks⟩ Ak ck W HW HSM.out.1 HSM.out.2
      rw [show fitsI ⟨kd, lo, hi, nm, ks⟩ = false from by simpa using hf] at HFT0
      have HFT := hide HFT0
      clear HFT0
      have HH1 := Lib.hid (HH.out.below HB1.out)
      clear h1 ho hkl he hdc hf
      go_upto_region 6 with fail
      have hHHD : Hid (∀ m, Held ((wr.alloc (.cells #[.int .i64 kd, .int .i64 lo, .int .i64 hi, .string ⟨nm.toArray⟩, .slice Ak ks.length ck] 217)).drewN m)) := fun m => HH1.out.below (below_drewN (Below.refl _ _) m)
      have hBD : Hid (∀ m, Below w.heap.size w ((wr.alloc (.cells #[.int .i64 kd, .int .i64 lo, .int .i64 hi, .string ⟨nm.toArray⟩, .slice Ak ks.length ck] 217)).drewN m)) := fun m => below_drewN HB1.out m
      have HEQ1 : Hid (Calls Tryz.prog 170 #[.slice A9 (free.length - o) (c1 - o), .slice Ak ks.length ck] (wr.alloc (.cells #[.int .i64 kd, .int .i64 lo, .int .i64 hi, .string ⟨nm.toArray⟩, .slice Ak ks.length ck] 217)).drew fun e w' => e = .returned (.bool true) ∧ ∃ m, w' = (wr.alloc (.cells #[.int .i64 kd, .int .i64 lo, .int .i64 hi, .string ⟨nm.toArray⟩, .slice Ak ks.length ck] 217)).drew.drewN m) := HEQ.out 1
      clear HEQ
      go_region_with (first
       | (go_at_call 170; (with_reducible refine (HEQ1.out).mono ?_); rintro en w5 ⟨rfl, m5, rfl⟩)
       | (go_at_call 171; (with_reducible refine (HFT.out _ (hHHD.out _)).mono ?_); rintro en w6 ⟨rfl, hb6⟩; have HB6 : Hid (Below w.heap.size w w6) := (hBD.out _).trans (hb6.mono (hBD.out _).size); have HO6 : Hid (w6.ownsRow w.heap.size 3 1 (.slice A1 free.length c1) free.length (free.map (Value.int .i64))) := World.ownsRow.kept HO1.out (row := none) ⟨hb6.os, hb6.tape, hb6.output, hb6.size, fun i hi _ => hb6.block i hi⟩ (Classical.em _); clear hb6))
      all_goals
       go_wp2_with fail
       go_ret
       exact ⟨by rw [HX.out]; rfl, HB6.out⟩
    ·have HX := Lib.hid (HBAD.out (by simp [stepR]; intro _ h; exact absurd (by rw [ho]; exact h) he))
     have hdc : decide (free.drop o = ks) = false := by simpa using he
     rw [hdc] at HEQ
     clear h1 ho hkl he hdc
     go_upto_region 6 with fail
     go_quiet ((go_at_call 170; exact Calls.quiet_of (HEQ.out _)))
     go_wp2_with fail
     go_ret
     exact ⟨by rw [HX.out]; rfl, below_drewN HB1.out nq⟩
   ·have hfw : IntKind.i64.wrap ((free.length : Int) - (ks.length : Int)) = (free.length : Int) - (ks.length : Int) := IntWalk.i64_in _ (by have := HSM.out.2; omega)
    have t1 : decide ((free.length : Int) - (ks.length : Int) < 0) = true := by simp; omega
    have HX := Lib.hid (HBAD.out (by simp [stepR, h1]))
    clear h1
    go_upto_region 6 with fail
    go_quiet (fail)
    go_wp2_with fail
    go_ret
    exact ⟨by rw [HX.out]; rfl, below_drewN HB1.out nq⟩
  ·have hjn : e.length ≤ j := by have := HLN.out; omega
   have HX := Lib.hid (right_end hE.out hjn)
   have l1 : decide ((j : Int) < (n : Int)) = false := by simp; omega
   have l2 : decide (j < n) = false := by simp; omega
   have hnn : Hid (e.length = n) := HLN.out
   clear hjn hlt
   by_cases q1 : free.length = 1
   ·have t1 : ((free.length : Int) == 1) = true := by simp; omega
    have t2 : (free.length == 1) = true := by simpa using q1
    have HX2 : Hid (rightI e = true) := by show _ = _; rw [HX.out, t2]; rfl
    clear q1
    go_wp2_with fail
    go_ret
    exact ⟨by rw [HX2.out]; rfl, hB.out⟩
   ·have t1 : ((free.length : Int) == 1) = false := by simp; omega
    have t2 : (free.length == 1) = false := by simpa using q1
    have HX2 : Hid (rightI e = (n == 0)) := by show _ = _; rw [HX.out, t2, hnn.out]; rfl
    clear q1
    go_wp2_with fail
    go_ret
    refine ⟨?_, hB.out⟩
    rw [HX2.out]
    have hnz : ((n : Int) == 0) = (n == 0) := by rw [Bool.eq_iff_iff]; simp
    rw [← hnz]
    rfl
end Go.Proofs.YtnbchikiiipejaaGreatDoor.Ex
