/- Walks of the expressions' Right: is a sign one that a text may have (lexed)? -/
import Derived.Test.YtegkimcfmdckbabDoorExPR
import Derived.Test.YtegkimcfmdckbabDoorLxEnds
import Derived.Deep.Cut
namespace Go.Proofs.YtegkimcfmdckbabDoor.Ex
open Go.RowKit Mem Lx
set_option linter.unusedVariables false

theorem eqf_cons (d : Nat) (xs ys : Array Value) (f : Field) (fs : List Field) (a b : Value) (r : Bool) (w : World) (hn : f.name ≠ "_") (h1 : (part f.type xs f.offset).run Tryd.prog w = .ok a w) (h2 : (part f.type ys f.offset).run Tryd.prog w = .ok b w) (h3 : (Op.equalIn d f.type a b).run Tryd.prog w = .ok r w) :
    (Op.eqFields d xs ys (f :: fs)).run Tryd.prog w = if r then (Op.eqFields d xs ys fs).run Tryd.prog w else .ok false w := by
  simp only [Op.eqFields, hn, ne_eq, not_false_eq_true, if_true, Sem.run_bind, h1, h2, h3, Result.andThen_ok]
  cases r <;> simp
def sgEq (x y : Sg) : Bool := (x.kind == y.kind) && ((x.at_ == y.at_) && ((x.low == y.low) && ((x.high == y.high) && (x.name == y.name))))
theorem sgEq_eq (x y : Sg) : sgEq x y = decide (x = y) := by
  obtain ⟨a, b, c, d, e⟩ := x
  obtain ⟨a', b', c', d', e'⟩ := y
  unfold sgEq
  rw [Bool.eq_iff_iff]
  simp
theorem sg_fields : (Tryd.prog.fieldsOf 58).toList.map (fun f => (f.type, f.offset)) = [(3, 0), (3, 1), (3, 2), (3, 3), (9, 4)] ∧ (Tryd.prog.fieldsOf 58).toList.all (fun f => f.name != "_") = true := by constructor <;> kernel_rfl
theorem eq_sg (d : Nat) (x y : Sg) (w : World) : (Op.equalIn (d + 1 + 1) 58 (.agg #[.int .i64 x.kind, .int .i64 x.at_, .int .i64 x.low, .int .i64 x.high, .string ⟨x.name.toArray⟩]) (.agg #[.int .i64 y.kind, .int .i64 y.at_, .int .i64 y.low, .int .i64 y.high, .string ⟨y.name.toArray⟩])).run Tryd.prog w = .ok (decide (x = y)) w := by
  rw [run_equalIn_agg w (d + 1) 58 _ _ (by kernel_rfl) (by kernel_rfl), ← sgEq_eq]
  obtain ⟨h1, h2⟩ := sg_fields
  generalize (Tryd.prog.fieldsOf 58).toList = fs at h1 h2
  rcases fs with _ | ⟨f0, _ | ⟨f1, _ | ⟨f2, _ | ⟨f3, _ | ⟨f4, _ | ⟨f5, fs⟩⟩⟩⟩⟩⟩ <;> simp at h1
  obtain ⟨⟨t0, o0⟩, ⟨t1, o1⟩, ⟨t2, o2⟩, ⟨t3, o3⟩, ⟨t4, o4⟩⟩ := h1
  simp only [List.all_cons, List.all_nil, Bool.and_true, Bool.and_eq_true, bne_iff_ne] at h2
  obtain ⟨n0, n1, n2, n3, n4⟩ := h2
  have p : ∀ (z : Sg) (w : World), (part 3 #[.int .i64 z.kind, .int .i64 z.at_, .int .i64 z.low, .int .i64 z.high, .string ⟨z.name.toArray⟩] 0).run Tryd.prog w = .ok (.int .i64 z.kind) w ∧ (part 3 #[.int .i64 z.kind, .int .i64 z.at_, .int .i64 z.low, .int .i64 z.high, .string ⟨z.name.toArray⟩] 1).run Tryd.prog w = .ok (.int .i64 z.at_) w ∧ (part 3 #[.int .i64 z.kind, .int .i64 z.at_, .int .i64 z.low, .int .i64 z.high, .string ⟨z.name.toArray⟩] 2).run Tryd.prog w = .ok (.int .i64 z.low) w ∧ (part 3 #[.int .i64 z.kind, .int .i64 z.at_, .int .i64 z.low, .int .i64 z.high, .string ⟨z.name.toArray⟩] 3).run Tryd.prog w = .ok (.int .i64 z.high) w ∧ (part 9 #[.int .i64 z.kind, .int .i64 z.at_, .int .i64 z.low, .int .i64 z.high, .string ⟨z.name.toArray⟩] 4).run Tryd.prog w = .ok (.string ⟨z.name.toArray⟩) w := fun z w => ⟨by kernel_rfl, by kernel_rfl, by kernel_rfl, by kernel_rfl, by kernel_rfl⟩
  have ei : ∀ (a b : Int) (w : World), (Op.equalIn (d + 1) 3 (.int .i64 a) (.int .i64 b)).run Tryd.prog w = .ok (a == b) w := fun a b w => run_equalIn_int w d 3 .i64 .i64 a b Tryd.underlying3
  have es : ∀ (a b : List UInt8) (w : World), (Op.equalIn (d + 1) 9 (.string ⟨a.toArray⟩) (.string ⟨b.toArray⟩)).run Tryd.prog w = .ok (a == b) w := fun a b w => by
    have := run_equalIn_string (P := Tryd.prog) w d 9 ⟨a.toArray⟩ ⟨b.toArray⟩ Tryd.underlying9
    simpa using this
  obtain ⟨a0, a1, a2, a3, a4⟩ := p x w
  obtain ⟨b0, b1, b2, b3, b4⟩ := p y w
  rw [eqf_cons (d + 1) _ _ f0 _ _ _ _ w n0 (by rw [t0, o0]; exact a0) (by rw [t0, o0]; exact b0) (by rw [t0]; exact ei _ _ _)]
  rw [eqf_cons (d + 1) _ _ f1 _ _ _ _ w n1 (by rw [t1, o1]; exact a1) (by rw [t1, o1]; exact b1) (by rw [t1]; exact ei _ _ _)]
  rw [eqf_cons (d + 1) _ _ f2 _ _ _ _ w n2 (by rw [t2, o2]; exact a2) (by rw [t2, o2]; exact b2) (by rw [t2]; exact ei _ _ _)]
  rw [eqf_cons (d + 1) _ _ f3 _ _ _ _ w n3 (by rw [t3, o3]; exact a3) (by rw [t3, o3]; exact b3) (by rw [t3]; exact ei _ _ _)]
  rw [eqf_cons (d + 1) _ _ f4 _ _ _ _ w n4 (by rw [t4, o4]; exact a4) (by rw [t4, o4]; exact b4) (by rw [t4]; exact es _ _ _)]
  unfold sgEq
  cases x.kind == y.kind <;> cases x.at_ == y.at_ <;> cases x.low == y.low <;> cases x.high == y.high <;> cases x.name == y.name <;> simp [Op.eqFields]

/-- is it one that a text may have? -/
def lexedI (x : Sg) : Bool :=
  match Lex (show1 x) with
  | .ok [y] _ => decide (y = x)
  | _ => false
def LexOut (L : Res (List Sg)) (W : World) (e : Ending) (w' : World) : Prop :=
  Below W.heap.size W w' ∧ match L with
    | .ok l _ => ∃ A c, e = .returned (.tuple #[.slice A l.length c, .int .i64 0, .int .i64 0]) ∧ l.length ≤ c ∧ GRow w' A l.length l
    | .bad p c => e = .returned (.tuple #[.slice none 0 0, .int .i64 p, .int .i64 c])
theorem lexOut_of {s : List UInt8} {L : Res (List Sg)} {W : World} (hL : L = Lex s) (h : Calls Tryd.prog 20 #[.string ⟨s.toArray⟩] W (LexIs ⟨s.toArray⟩ W)) : Calls Tryd.prog 20 #[.string ⟨s.toArray⟩] W (LexOut L W) := by
  subst hL
  exact h
theorem show_one (x : Sg) : showN 0 [x] = show1 x := by simp [showN, piece]
set_option maxRecDepth 100000 in
set_option maxHeartbeats 4000000 in
theorem lexed_any (x : Sg) (w : World) (H : Held w) (hx : (I64 x.low ∧ I64 x.high) ∧ x.name.length ≤ 100) (hl : (show1 x).length ≤ 1000) :
    Calls Tryd.prog 49 #[.agg #[.int .i64 x.kind, .int .i64 x.at_, .int .i64 x.low, .int .i64 x.high, .string ⟨x.name.toArray⟩]] w fun en w' => en = .returned (.bool (lexedI x)) ∧ Below w.heap.size w w' := by
  obtain ⟨R, hR⟩ : ∃ R, R = lexedI x := ⟨_, rfl⟩
  rw [← hR]
  unfold lexedI at hR
  have HSH := hide (fun A c W (g : GRow W A 1 [x]) (HW : Held W) => Show_any A 1 c [x] W g (by omega) (by simpa using hx) HW)
  rw [show_one] at HSH
  have HLX := hide (fun W (HW : Held W) => lex_any ⟨(show1 x).toArray⟩ W (by simp [ByteArray.size]; omega) HW)
  have HH := hide H
  have HX := hide hx
  clear H hx hl
  obtain ⟨L, hL⟩ : ∃ L, L = Lex (show1 x) := ⟨_, rfl⟩
  rw [← hL] at hR
  have hLX : Hid (∀ W, Held W → Calls Tryd.prog 20 #[.string ⟨(show1 x).toArray⟩] W (LexOut L W)) := fun W HW => lexOut_of hL (HLX.out W HW)
  have HE := lex_ends (show1 x)
  rw [← hL] at HE
  have hxf : (x.kind, x.at_, x.low, x.high, x.name) = (x.kind, x.at_, x.low, x.high, x.name) := rfl
  clear HLX hL hxf
  obtain ⟨S, hS⟩ : ∃ S, S = show1 x := ⟨_, rfl⟩
  rw [← hS] at HSH hLX
  clear hS
  have HQ : Hid (∀ (y : Sg) (W : World), (Op.equalIn 10000 58 (.agg #[.int .i64 y.kind, .int .i64 y.at_, .int .i64 y.low, .int .i64 y.high, .string ⟨y.name.toArray⟩]) (.agg #[.int .i64 x.kind, .int .i64 x.at_, .int .i64 x.low, .int .i64 x.high, .string ⟨x.name.toArray⟩])).run Tryd.prog W = .ok (decide (y = x)) W) := fun y W => eq_sg 9998 y x W
  have hG0 : Hid (GRow ((w.alloc (.cells #[.int .i64 x.kind, .int .i64 x.at_, .int .i64 x.low, .int .i64 x.high, .string ⟨x.name.toArray⟩] 58)).alloc (.cells #[.int .i64 x.kind, .int .i64 x.at_, .int .i64 x.low, .int .i64 x.high, .string ⟨x.name.toArray⟩] 58)) (some ⟨w.heap.size + 1, 0, none⟩) 1 [x]) := by
    refine ⟨rfl, fun _ => ⟨w.heap.size + 1, 0, rfl, by simp, fun j hj => ?_⟩⟩
    obtain rfl : j = 0 := by simpa using hj
    have h := new_cells w (.cells #[.int .i64 x.kind, .int .i64 x.at_, .int .i64 x.low, .int .i64 x.high, .string ⟨x.name.toArray⟩] 58) #[.int .i64 x.kind, .int .i64 x.at_, .int .i64 x.low, .int .i64 x.high, .string ⟨x.name.toArray⟩] _ rfl (t := 58)
    exact ⟨h 0 _ rfl, h 1 _ rfl, h 2 _ rfl, h 3 _ rfl, h 4 _ rfl⟩
  have hS0 := Lib.hid (SB.new w x.kind x.at_ x.low x.high ⟨x.name.toArray⟩)
  have HW0 : Hid (Below w.heap.size w ((w.alloc (.cells #[.int .i64 x.kind, .int .i64 x.at_, .int .i64 x.low, .int .i64 x.high, .string ⟨x.name.toArray⟩] 58)).alloc (.cells #[.int .i64 x.kind, .int .i64 x.at_, .int .i64 x.low, .int .i64 x.high, .string ⟨x.name.toArray⟩] 58))) := ((Below.refl _ _).alloc (Nat.le_refl _) _).alloc (by simp) _
  have HH0 := Lib.hid (HH.out.below HW0.out)
  have hS1 : Hid (SB ((w.alloc (.cells #[.int .i64 x.kind, .int .i64 x.at_, .int .i64 x.low, .int .i64 x.high, .string ⟨x.name.toArray⟩] 58)).alloc (.cells #[.int .i64 x.kind, .int .i64 x.at_, .int .i64 x.low, .int .i64 x.high, .string ⟨x.name.toArray⟩] 58)) w.heap.size x.kind x.at_ x.low x.high ⟨x.name.toArray⟩) := hS0.out.kept (World.grownBy_alloc _ _ none) (by simp)
  rcases HE with ⟨l, rfl, hfine, h200⟩ | ⟨p, c, rfl, hc⟩
  · by_cases h1 : l.length = 1
    · obtain ⟨y, rfl⟩ := List.length_eq_one_iff.1 h1
      have HR9 : Hid (R = decide (y = x)) := hR
      clear hR h1 hfine h200
      go_enter Tryd.func49, Tryd.ntmps49
      go_upto_region 2 with (first
        | (go_at_call 34; (with_reducible refine (HSH.out (some ⟨w.heap.size + 1, 0, none⟩) 1 _ hG0.out HH0.out).mono ?_); rintro en w1 ⟨rfl, hb1⟩; have HB1 : Hid (Below w.heap.size w w1) := HW0.out.trans (hb1.mono HW0.out.size); have HH1 := Lib.hid (HH0.out.below hb1); have HS1 : Hid (SB w1 w.heap.size x.kind x.at_ x.low x.high ⟨x.name.toArray⟩) := (hb1.block _ (by simp; omega)).trans hS1.out; clear hb1)
        | (go_at_call 20; (with_reducible refine (hLX.out w1 HH1.out).mono ?_); rintro en w2 ⟨hb2, A2, c2, rfl, _, hg2⟩; have HB2 : Hid (Below w.heap.size w w2) := HB1.out.trans (hb2.mono HB1.out.size); have HS2 : Hid (SB w2 w.heap.size x.kind x.at_ x.low x.high ⟨x.name.toArray⟩) := (hb2.block _ HS1.out.lt).trans HS1.out; clear hb2))
      obtain ⟨b, off, rfl, hb, hcell⟩ := hg2.2 (by simp)
      obtain ⟨a0, a1, a2, a3, a4⟩ := hcell 0 (by simp)
      simp only [List.getElem_cons_zero, Nat.zero_mul, Nat.add_zero] at a0 a1 a2 a3 a4
      obtain ⟨b0, b1, b2, b3, b4⟩ := HS2.out.cells
      have hq := hide (HQ.out y)
      clear hcell hg2
      by_cases hyx : y = x
      · have HQ2 : ∀ W : World, (Op.equalIn 10000 58 (.agg #[.int .i64 y.kind, .int .i64 y.at_, .int .i64 y.low, .int .i64 y.high, .string ⟨y.name.toArray⟩]) (.agg #[.int .i64 x.kind, .int .i64 x.at_, .int .i64 x.low, .int .i64 x.high, .string ⟨x.name.toArray⟩])).run Tryd.prog W = .ok true W := fun W => by rw [hq.out W]; simp [hyx]
        have HR8 : Hid (R = true) := by show _ = _; rw [HR9.out]; simpa using hyx
        clear hyx
        go_quiet (fail)
        go_wp2_with fail
        go_ret
        exact ⟨by rw [HR8.out]; rfl, below_drewN HB2.out nq⟩
      · have HQ2 : ∀ W : World, (Op.equalIn 10000 58 (.agg #[.int .i64 y.kind, .int .i64 y.at_, .int .i64 y.low, .int .i64 y.high, .string ⟨y.name.toArray⟩]) (.agg #[.int .i64 x.kind, .int .i64 x.at_, .int .i64 x.low, .int .i64 x.high, .string ⟨x.name.toArray⟩])).run Tryd.prog W = .ok false W := fun W => by rw [hq.out W]; simp [hyx]
        have HR8 : Hid (R = false) := by show _ = _; rw [HR9.out]; simpa using hyx
        clear hyx
        go_quiet (fail)
        go_wp2_with fail
        go_ret
        exact ⟨by rw [HR8.out]; rfl, below_drewN HB2.out nq⟩
    · have HR9 : Hid (R = false) := by
        rcases l with _ | ⟨a, _ | ⟨b, l⟩⟩
        · exact hR
        · simp at h1
        · exact hR
      have t1 : ((l.length : Int) == 1) = false := by simp; omega
      have t2 : (l.length == 1) = false := by simpa using h1
      clear hR hfine h1
      go_enter Tryd.func49, Tryd.ntmps49
      go_upto_region 2 with (first
        | (go_at_call 34; (with_reducible refine (HSH.out (some ⟨w.heap.size + 1, 0, none⟩) 1 _ hG0.out HH0.out).mono ?_); rintro en w1 ⟨rfl, hb1⟩; have HB1 : Hid (Below w.heap.size w w1) := HW0.out.trans (hb1.mono HW0.out.size); have HH1 := Lib.hid (HH0.out.below hb1); have HS1 : Hid (SB w1 w.heap.size x.kind x.at_ x.low x.high ⟨x.name.toArray⟩) := (hb1.block _ (by simp; omega)).trans hS1.out; clear hb1)
        | (go_at_call 20; (with_reducible refine (hLX.out w1 HH1.out).mono ?_); rintro en w2 ⟨hb2, A2, c2, rfl, _, hg2⟩; have HB2 : Hid (Below w.heap.size w w2) := HB1.out.trans (hb2.mono HB1.out.size); have HS2 : Hid (SB w2 w.heap.size x.kind x.at_ x.low x.high ⟨x.name.toArray⟩) := (hb2.block _ HS1.out.lt).trans HS1.out; clear hb2))
      go_quiet (fail)
      go_wp2_with fail
      go_ret
      exact ⟨by rw [HR9.out]; rfl, below_drewN HB2.out nq⟩
  · have HR9 : Hid (R = false) := hR
    have t1 : (c == 0) = false := by simpa using hc
    clear hR hc
    go_enter Tryd.func49, Tryd.ntmps49
    go_upto_region 2 with (first
        | (go_at_call 34; (with_reducible refine (HSH.out (some ⟨w.heap.size + 1, 0, none⟩) 1 _ hG0.out HH0.out).mono ?_); rintro en w1 ⟨rfl, hb1⟩; have HB1 : Hid (Below w.heap.size w w1) := HW0.out.trans (hb1.mono HW0.out.size); have HH1 := Lib.hid (HH0.out.below hb1); have HS1 : Hid (SB w1 w.heap.size x.kind x.at_ x.low x.high ⟨x.name.toArray⟩) := (hb1.block _ (by simp; omega)).trans hS1.out; clear hb1)
        | (go_at_call 20; (with_reducible refine (hLX.out w1 HH1.out).mono ?_); rintro en w2 ⟨hb2, rfl⟩; have HB2 : Hid (Below w.heap.size w w2) := HB1.out.trans (hb2.mono HB1.out.size); have HS2 : Hid (SB w2 w.heap.size x.kind x.at_ x.low x.high ⟨x.name.toArray⟩) := (hb2.block _ HS1.out.lt).trans HS1.out; clear hb2))
    go_quiet (fail)
    go_wp2_with fail
    go_ret
    exact ⟨by rw [HR9.out]; rfl, below_drewN HB2.out nq⟩
end Go.Proofs.YtegkimcfmdckbabDoor.Ex
