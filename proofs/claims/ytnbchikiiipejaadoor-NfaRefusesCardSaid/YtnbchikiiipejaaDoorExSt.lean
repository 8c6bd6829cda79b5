/- Walks of the expressions' reader: what lies in memory while it reads; the sign ahead; laying a part. -/
import Derived.Test.YtnbchikiiipejaaDoorExTm
import Derived.Test.YtnbchikiiipejaaDoorLxI
import Derived.Deep.Cut
namespace Go.Proofs.YtnbchikiiipejaaDoor.Ex
open Go.RowKit Mem Lx
set_option linter.unusedVariables false

/-- what may change while a reader at R reads: its block, its list's box at E, and blocks of parts from B on -/
structure Gr (B R E : Nat) (w w' : World) : Prop where
  os : w'.os = w.os
  tape : w'.tape = w.tape
  output : w'.output = w.output
  size : w.heap.size ≤ w'.heap.size
  block : ∀ i, i < w.heap.size → i ≠ R → i ≠ E → (i < B ∨ ∀ cs fr, w.heap[i]? ≠ some (.cells cs 29 fr)) → w'.heap[i]? = w.heap[i]?
section
variable {B R E : Nat} {w w' w'' : World}
theorem Gr.refl (w : World) : Gr B R E w w := ⟨rfl, rfl, rfl, Nat.le_refl _, fun _ _ _ _ _ => rfl⟩
theorem Gr.trans (h : Gr B R E w w') (g : Gr B R E w' w'') : Gr B R E w w'' :=
  ⟨g.os.trans h.os, g.tape.trans h.tape, g.output.trans h.output, Nat.le_trans h.size g.size, fun i hi h1 h2 h3 => by
    have e := h.block i hi h1 h2 h3
    exact (g.block i (Nat.lt_of_lt_of_le hi h.size) h1 h2 (by rw [e]; exact h3)).trans e⟩
theorem Gr.of_below (h : Below w.heap.size w w') : Gr B R E w w' := ⟨h.os, h.tape, h.output, h.size, fun i hi _ _ _ => h.block i hi⟩
theorem Gr.of_grown {row : Option Nat} (h : w.grownBy w' row) (hr : ∀ i, row = some i → i = R ∨ i = E ∨ (B ≤ i ∧ (i < w.heap.size → ∃ cs fr, w.heap[i]? = some (.cells cs 29 fr)))) : Gr B R E w w' :=
  ⟨h.os, h.tape, h.output, h.size, fun i hi h1 h2 h3 => h.block i hi (by
    intro e
    rcases hr i e.symm with h4 | h4 | ⟨h4, h5⟩
    · exact h1 h4
    · exact h2 h4
    · obtain ⟨cs, fr, h6⟩ := h5 hi
      rcases h3 with h3 | h3
      · omega
      · exact h3 cs fr h6)⟩
theorem Gr.alloc (h : Gr B R E w w') (o : Obj) : Gr B R E w (w'.alloc o) := h.trans (Gr.of_grown (World.grownBy_alloc w' o none) (fun i e => by cases e))
theorem Gr.drewN (h : Gr B R E w w') (n : Nat) : Gr B R E w (w'.drewN n) := ⟨h.os, h.tape, h.output, h.size, h.block⟩
theorem Gr.below (h : Gr B R E w w') {b : Nat} (h1 : b ≤ B) (h2 : b ≤ R) (h3 : b ≤ E) (hb : b ≤ w.heap.size) : Below b w w' :=
  ⟨h.os, h.tape, h.output, h.size, fun i hi => h.block i (by omega) (by omega) (by omega) (.inl (by omega))⟩
theorem below_grown' (h : Below w.heap.size w w') : w.grownBy w' none := ⟨h.os, h.tape, h.output, h.size, fun k hk _ => h.block k hk⟩
theorem Gr.kd (h : Gr B R E w w') (h1 : R < B) (h2 : E < B) {kv : Value} {ks : List Nat} (hk : Kd w B kv ks) : Kd w' B kv ks := by
  refine ⟨hk.1, ?_⟩
  rcases hk.2 with hn | ⟨g, cap, cur, rfl, hb, hg, rest⟩
  · exact .inl hn
  · refine .inr ⟨g, cap, cur, rfl, hb, ?_, rest⟩
    rw [h.block g (Array.getElem?_eq_some_iff.1 hg).1 (by omega) (by omega) (.inr fun cs fr e => by rw [hg] at e; simp at e)]
    exact hg
theorem Gr.pvs (h : Gr B R E w w') (h1 : R < B) (h2 : E < B) : ∀ {ps : List Pt} {vs : List Value}, PVs w B ps vs → PVs w' B ps vs
  | [], _, g => g
  | p :: ps, _, ⟨kv, rest, e, h3, h4⟩ => ⟨kv, rest, e, h.kd h1 h2 h3, Gr.pvs h h1 h2 h4⟩
/-- a block that isn't one of parts -/
theorem Gr.same (h : Gr B R E w w') {i : Nat} (hi : i < w.heap.size) (h1 : i ≠ R) (h2 : i ≠ E) {cs : Array Value} {t : TypeId} {fr : Nat × Nat} (hc : w.heap[i]? = some (.cells cs t fr)) (ht : t ≠ 29) : w'.heap[i]? = some (.cells cs t fr) := by
  rw [h.block i hi h1 h2 (.inr fun cs' fr' e => by rw [hc] at e; simp at e; exact ht e.2.1)]
  exact hc
end

/-- the reader's block, and signs that are left -/
def RB (w : World) (R E : Nat) (l : List Sg) : Prop :=
  ∃ A c, w.heap[R]? = some (.cells #[.slice A l.length c, .func (.func 25) #[] #[.pointer (some ⟨E, 0, none⟩)]] 68 (0, 0)) ∧ l.length ≤ c ∧ GRow w A l.length l ∧ (0 < l.length → ∃ b off, A = some ⟨b, off, none⟩ ∧ b < E)
/-- no value of these lies in a block of F -/
def Av (F : Nat → Prop) (vs : List Value) : Prop := ∀ u ∈ vs, ∀ g, u.ownBlock = some g → ¬ F g
/-- the list's box, and its parts; no part's kids lie in a block of F -/
def LB (w : World) (B E : Nat) (F : Nat → Prop) (e : List Pt) : Prop :=
  ∃ v vs, Boxed w E 24 v ∧ w.ownsRow B 29 5 v e.length vs ∧ PVs w B e vs ∧ Av F vs
structure PS (w : World) (B R E : Nat) (F : Nat → Prop) (l : List Sg) (e : List Pt) : Prop where
  rb : RB w R E l
  lb : LB w B E F e
  eR : E < R
  rB : R < B
  bw : B ≤ w.heap.size
  fw : ∀ g, F g → g < w.heap.size
theorem PS.below {w w' : World} {B R E : Nat} {F : Nat → Prop} {l : List Sg} {e : List Pt} (h : PS w B R E F l e) (hb : Below w.heap.size w w') : PS w' B R E F l e := by
  obtain ⟨⟨A, c, h1, h2, h3, h4⟩, ⟨v, vs, g1, g2, g3, g4⟩, d1, d2, d3, d4⟩ := h
  refine ⟨⟨A, c, (hb.block R (by omega)).trans h1, h2, h3.below hb, h4⟩, ⟨v, vs, (hb.block E (by omega)).trans g1, g2.kept (below_grown' hb) (Classical.em _), PVs.kept (below_grown' hb) (by intro g hg; cases hg) g3, g4⟩, d1, d2, Nat.le_trans d3 hb.size, fun g hg => Nat.lt_of_lt_of_le (d4 g hg) hb.size⟩
theorem PS.alloc {w : World} {B R E : Nat} {F : Nat → Prop} {l : List Sg} {e : List Pt} (h : PS w B R E F l e) (o : Obj) : PS (w.alloc o) B R E F l e := h.below ((Below.refl _ _).alloc (Nat.le_refl _) o)
theorem PS.drewN {w : World} {B R E : Nat} {F : Nat → Prop} {l : List Sg} {e : List Pt} (h : PS w B R E F l e) (n : Nat) : PS (w.drewN n) B R E F l e := h.below (below_drewN (Below.refl _ _) n)

/-- the sign ahead -/
def hdS : List Sg → Sg
  | [] => ⟨0, 0, 0, 0, []⟩
  | x :: _ => x
theorem hdS_kind (l : List Sg) : (hdS l).kind = hd l := by cases l <;> rfl

set_option maxRecDepth 100000 in
set_option maxHeartbeats 1000000 in
theorem next_any (B R E : Nat) (F : Nat → Prop) (l : List Sg) (e : List Pt) (w : World) (h : PS w B R E F l e) (hl : l.length ≤ 1000) :
    Calls Tryd.prog 63 #[.pointer (some ⟨R, 0, none⟩)] w fun en w' => en = .returned (sgV (hdS l)) ∧ Below w.heap.size w w' := by
  obtain ⟨A, c, h1, h2, h3, h4⟩ := h.rb
  have c0 : w.cell? ⟨R, 0, none⟩ = some (.slice A l.length c) := by simp [World.cell?, h1]
  have hRw : R < w.heap.size := by have := h.rB; have := h.bw; omega
  have HG := hide h3
  clear h h1 h4 h3
  cases l with
  | nil =>
    have e1 : Hid (hdS [] = ⟨0, 0, 0, 0, []⟩) := rfl
    go_enter Tryd.func63, Tryd.ntmps63
    go_wp2_with fail
    have HB := Lib.hid (SB.new w 0 0 0 0 ⟨#[]⟩)
    have HG3 := Lib.hid ((Below.refl w.heap.size w).alloc (Nat.le_refl _) (.cells #[.int .i64 0, .int .i64 0, .int .i64 0, .int .i64 0, .string ⟨#[]⟩] 71))
    obtain ⟨b0, b1, b2, b3, b4⟩ := HB.out.cells
    exact bodyPost_ret (v := .agg #[.int .i64 0, .int .i64 0, .int .i64 0, .int .i64 0, .string ⟨#[]⟩]) (by simp [results, Tryd.results63, go_sem, b0, b1, b2, b3, b4]) rfl ⟨by rw [e1.out]; rfl, HG3.out⟩
  | cons x l =>
    obtain ⟨b, off, rfl, hb, hc⟩ := HG.out.2 (by simp)
    obtain ⟨a0, a1, a2, a3, a4⟩ := hc 0 (by simp)
    simp only [List.getElem_cons_zero, Nat.zero_mul, Nat.add_zero] at a0 a1 a2 a3 a4
    obtain ⟨kd, at_, lo, hi, nm⟩ := x
    dsimp only at a0 a1 a2 a3 a4
    clear hc
    go_enter Tryd.func63, Tryd.ntmps63
    go_wp2_with fail
    have HB := Lib.hid (SB.new w kd at_ lo hi ⟨nm.toArray⟩)
    have HG3 := Lib.hid ((Below.refl w.heap.size w).alloc (Nat.le_refl _) (.cells #[.int .i64 kd, .int .i64 at_, .int .i64 lo, .int .i64 hi, .string ⟨nm.toArray⟩] 71))
    obtain ⟨b0, b1, b2, b3, b4⟩ := HB.out.cells
    exact bodyPost_ret (v := .agg #[.int .i64 kd, .int .i64 at_, .int .i64 lo, .int .i64 hi, .string ⟨nm.toArray⟩]) (by simp [results, Tryd.results63, go_sem, b0, b1, b2, b3, b4]) rfl ⟨rfl, HG3.out⟩

theorem below_of_none {w w' : World} (h : w.grownBy w' none) : Below w.heap.size w w' := ⟨h.os, h.tape, h.output, h.size, fun i hi => h.block i hi (by simp)⟩
/-- the reader goes on to the next sign -/
theorem PS.step {w : World} {B R E : Nat} {F : Nat → Prop} {x : Sg} {l : List Sg} {e : List Pt} {b off c : Nat} (h : PS w B R E F (x :: l) e) (hc : l.length + 1 ≤ c)
    (hA : w.cell? ⟨R, 0, none⟩ = some (.slice (some ⟨b, off, none⟩) (l.length + 1) c)) (o' : Nat) (ho : l ≠ [] → o' = off + 5) : PS (w.setCell ⟨R, 0, none⟩ (.slice (some ⟨b, o', none⟩) l.length (c - 1))) B R E F l e := by
  have hg : w.grownBy (w.setCell ⟨R, 0, none⟩ (.slice (some ⟨b, o', none⟩) l.length (c - 1))) (some R) := grown_set _ _ _ _
  obtain ⟨⟨A, c', h1, h2, h3, h4⟩, ⟨v, vs, g1, g2, g3, g4⟩, d1, d2, d3, d4⟩ := h
  have hA' : w.cell? ⟨R, 0, none⟩ = some (.slice A (l.length + 1) c') := by simp [World.cell?, h1]
  rw [hA] at hA'
  simp only [Option.some.injEq, Value.slice.injEq] at hA'
  obtain ⟨rfl, -, rfl⟩ := hA'
  have hbE : b < E := by
    obtain ⟨b', off', e1, e2⟩ := h4 (by simp)
    simp at e1; omega
  refine ⟨⟨_, c - 1, ?_, by omega, ⟨rfl, fun hn => ?_⟩, fun hn => ⟨b, o', rfl, hbE⟩⟩, ⟨v, vs, g1.kept hg (by simp; omega), g2.kept hg ?_, PVs.kept hg ?_ g3, g4⟩, d1, d2, Nat.le_trans d3 hg.size, fun g hf => Nat.lt_of_lt_of_le (d4 g hf) hg.size⟩
  · simp [World.setCell, Array.getElem?_modify, h1]
  · obtain ⟨b', off', e1, e2, e3⟩ := h3.2 (by simp)
    simp only [Option.some.injEq, Addr.mk.injEq] at e1
    obtain ⟨rfl, rfl, -⟩ := e1
    have hne : l ≠ [] := by intro e; subst e; simp at hn
    obtain rfl := ho hne
    refine ⟨b, off + 5, rfl, Nat.lt_of_lt_of_le e2 hg.size, fun j hj => ?_⟩
    obtain ⟨a0, a1, a2, a3, a4⟩ := e3 (j + 1) (by simpa using hj)
    have hb : ∀ o, some (⟨b, o, none⟩ : Addr).block ≠ some R := by intro o; simp; omega
    rw [show off + (j + 1) * 5 = off + 5 + j * 5 from by omega] at a0 a1 a2 a3 a4
    exact ⟨hg.cell a0 (hb _), hg.cell a1 (hb _), hg.cell a2 (hb _), hg.cell a3 (hb _), hg.cell a4 (hb _)⟩
  · rcases g2.2 with ⟨rfl, _⟩ | ⟨g, cap, cur, rfl, hb, hg, _⟩
    · exact .inl rfl
    · exact .inr (by simp [Value.ownBlock]; omega)
  · intro g hg cur fr hk
    injection hg with hg
    subst hg
    rw [h1] at hk
    simp at hk

/-- a sign stored in a block of the call's own -/
theorem PS.st5 {w : World} {B R E b : Nat} {F : Nat → Prop} {l : List Sg} {e : List Pt} {k1 at1 lo1 hi1 : Int} {nm1 : ByteArray} (h : PS w B R E F l e) (hs : SB w b k1 at1 lo1 hi1 nm1) (hb : B ≤ b) (k at_ lo hi : Int) (nm : ByteArray) : PS (Lx.st5 w b k at_ lo hi nm) B R E F l e := by
  have hg := st5_grown w b k at_ lo hi nm
  obtain ⟨⟨A, c, h1, h2, h3, h4⟩, ⟨v, vs, g1, g2, g3, g4⟩, d1, d2, d3, d4⟩ := h
  have hne : some R ≠ some b := by simp; omega
  refine ⟨⟨A, c, (hg.block R (by omega) hne).trans h1, h2, ⟨h3.1, fun hn => ?_⟩, h4⟩, ⟨v, vs, g1.kept hg (by simp; omega), g2.kept hg ?_, PVs.kept hg ?_ g3, g4⟩, d1, d2, Nat.le_trans d3 hg.size, fun g hf => Nat.lt_of_lt_of_le (d4 g hf) hg.size⟩
  · obtain ⟨b', off', e1, e2, e3⟩ := h3.2 hn
    obtain ⟨b'', off'', e4, e5⟩ := h4 hn
    have hbb : b' < E := by rw [e1] at e4; simp at e4; omega
    refine ⟨b', off', e1, Nat.lt_of_lt_of_le e2 hg.size, fun j hj => ?_⟩
    obtain ⟨a0, a1, a2, a3, a4⟩ := e3 j hj
    have hb : ∀ o, some (⟨b', o, none⟩ : Addr).block ≠ some b := by intro o; simp; omega
    exact ⟨hg.cell a0 (hb _), hg.cell a1 (hb _), hg.cell a2 (hb _), hg.cell a3 (hb _), hg.cell a4 (hb _)⟩
  · rcases g2.2 with ⟨rfl, _⟩ | ⟨g, cap, cur, rfl, hb2, hg2, _⟩
    · exact .inl rfl
    · refine .inr ?_
      simp only [Value.ownBlock, ne_eq, Option.some.injEq]
      rintro rfl
      unfold SB at hs
      rw [hs] at hg2
      simp at hg2
  · intro g hg2 cur fr hk
    injection hg2 with hg2
    subst hg2
    unfold SB at hs
    rw [hs] at hk
    simp at hk
theorem Gr.st5 {w w' : World} {B R E : Nat} (h : Gr B R E w w') (hB : B ≤ w.heap.size) {k1 at1 lo1 hi1 : Int} {nm1 : ByteArray} (hs : SB w' w.heap.size k1 at1 lo1 hi1 nm1) (k at_ lo hi : Int) (nm : ByteArray) : Gr B R E w (Lx.st5 w' w.heap.size k at_ lo hi nm) := by
  have hg := st5_grown w' w.heap.size k at_ lo hi nm
  exact ⟨hg.os.trans h.os, hg.tape.trans h.tape, hg.output.trans h.output, Nat.le_trans h.size hg.size, fun i hi h1 h2 h3 => (hg.block i (Nat.lt_of_lt_of_le hi h.size) (by simp; omega)).trans (h.block i hi h1 h2 h3)⟩
theorem PS.opens {w : World} {B R E : Nat} {F : Nat → Prop} {l : List Sg} {e : List Pt} (h : PS w B R E F l e) : ∃ A c, w.cell? ⟨R, 0, none⟩ = some (.slice A l.length c) ∧ w.cell? ⟨R, 1, none⟩ = some (.func (.func 25) #[] #[.pointer (some ⟨E, 0, none⟩)]) ∧ l.length ≤ c ∧ w.frozen? ⟨R, 0, none⟩ = false ∧ R < w.heap.size ∧ (0 < l.length → ∃ b off, A = some ⟨b, off, none⟩) := by
  obtain ⟨⟨A, c, h1, h2, h3, h4⟩, _, _, d2, d3, _⟩ := h
  exact ⟨A, c, by simp [World.cell?, h1], by simp [World.cell?, h1], h2, by simp [World.frozen?, h1], by omega, fun hn => by obtain ⟨b, off, e, _⟩ := h4 hn; exact ⟨b, off, e⟩⟩

set_option maxRecDepth 100000 in
set_option maxHeartbeats 1000000 in
theorem take_yes (B R E : Nat) (F : Nat → Prop) (x : Sg) (l : List Sg) (e : List Pt) (w : World) (h : PS w B R E F (x :: l) e) (hl : l.length ≤ 900) (kd : Int) (hk : x.kind = kd) :
    Calls Tryd.prog 47 #[.pointer (some ⟨R, 0, none⟩), .int .i64 kd] w fun en w' => en = .returned (.tuple #[sgV x, .bool true]) ∧ PS w' B R E F l e ∧ Gr B R E w w' := by
  have HP := hide h
  have HN := hide (fun W (g : PS W B R E F (x :: l) e) => next_any B R E F (x :: l) e W g (by simp; omega))
  have t1 : (x.kind != kd) = false := by simp [hk]
  clear h hk
  obtain ⟨k1, at_, lo, hi, nm⟩ := x
  dsimp only at t1
  go_enter Tryd.func47, Tryd.ntmps47
  have HP1 := Lib.hid (HP.out.alloc (.cells #[.int .i64 0, .int .i64 0, .int .i64 0, .int .i64 0, .string ⟨#[]⟩] 71))
  have HS1 := Lib.hid (SB.new w 0 0 0 0 ⟨#[]⟩)
  go_upto_region 2 with (go_at_call 63; (with_reducible refine (HN.out _ HP1.out).mono ?_); rintro en w1 ⟨rfl, hb1⟩; have HB1 := Lib.hid hb1; clear hb1; dsimp only [sgV, hdS])
  have HS2 : Hid (SB (w1.alloc (.cells #[.int .i64 k1, .int .i64 at_, .int .i64 lo, .int .i64 hi, .string ⟨nm.toArray⟩] 71)) w.heap.size 0 0 0 0 ⟨#[]⟩) := by
    show SB _ _ _ _ _ _ _
    have h0 : SB w1 w.heap.size 0 0 0 0 ⟨#[]⟩ := (HB1.out.block _ (by simp)).trans HS1.out
    exact h0.kept (World.grownBy_alloc _ _ none) (by simp)
  have HX2 := Lib.hid (SB.new w1 k1 at_ lo hi ⟨nm.toArray⟩)
  have HP2 := Lib.hid ((HP1.out.below HB1.out).alloc (.cells #[.int .i64 k1, .int .i64 at_, .int .i64 lo, .int .i64 hi, .string ⟨nm.toArray⟩] 71))
  have hz1 := HB1.out.size
  rw [World.size_alloc] at hz1
  have HW2 : Hid (Below w.heap.size w (w1.alloc (.cells #[.int .i64 k1, .int .i64 at_, .int .i64 lo, .int .i64 hi, .string ⟨nm.toArray⟩] 71))) := by
    show Below _ _ _
    exact ((((Below.refl _ _).alloc (Nat.le_refl _) _).trans (HB1.out.mono (by simp))).alloc (by omega) _)
  obtain ⟨W2, hW2⟩ : ∃ W2, W2 = w1.alloc (.cells #[.int .i64 k1, .int .i64 at_, .int .i64 lo, .int .i64 hi, .string ⟨nm.toArray⟩] 71) := ⟨_, rfl⟩
  rw [← hW2] at HS2 HX2 HP2 HW2 ⊢
  have hz2 : w1.heap.size < W2.heap.size := by rw [hW2]; simp
  clear hW2 HB1 HP1 HS1
  obtain ⟨A, c, c0, -, hc, f0, hR, hA⟩ := HP2.out.opens
  obtain ⟨b, off, rfl⟩ := hA (by simp)
  have HG0 := hide (fun o' ho => HP2.out.step hc c0 o' ho)
  obtain ⟨s0, s1, s2, s3, s4⟩ := HX2.out.cells
  obtain ⟨b0, b1, b2, b3, b4⟩ := HS2.out.cells
  have g0 := HS2.out.free 0
  have g1 := HS2.out.free 1
  have g2 := HS2.out.free 2
  have g3 := HS2.out.free 3
  have g4 := HS2.out.free 4
  have hRn : Hid (R ≠ w.heap.size) := by have := HP.out.rB; have := HP.out.bw; show _ ≠ _; omega
  have hBw : B ≤ w.heap.size := HP.out.bw
  have hRB : R < B := HP.out.rB
  have n1 : ¬ R = w.heap.size := by omega
  have n1' : ¬ w.heap.size = R := by omega
  have n2 : ¬ R = w1.heap.size := by omega
  have n2' : ¬ w1.heap.size = R := by omega
  have n3 : ¬ w.heap.size = w1.heap.size := by omega
  have n3' : ¬ w1.heap.size = w.heap.size := by omega
  by_cases h1 : c = 1
  · have hl0 : l.length = 0 := by simp at hc; omega
    go_wp2_with fail
    have HP3 := Lib.hid (HG0.out (off) (fun h => absurd (List.eq_nil_of_length_eq_zero hl0) h))
    change bodyPost _ _ _ _ _ (st5 (W2.setCell ⟨R, 0, none⟩ (.slice (some ⟨b, off, none⟩) 0 0)) w.heap.size k1 at_ lo hi ⟨nm.toArray⟩)
    have e9 : (W2.setCell ⟨R, 0, none⟩ (.slice (some ⟨b, off, none⟩) 0 0)) = (W2.setCell ⟨R, 0, none⟩ (.slice (some ⟨b, off, none⟩) l.length (c - 1))) := by rw [h1, hl0]
    rw [e9]
    have HS3 := Lib.hid ((HS2.out.kept (grown_set W2 R 0 (.slice (some ⟨b, off, none⟩) l.length (c - 1))) (by simp; omega)))
    have HG3 := Lib.hid ((Gr.of_below HW2.out (B := B) (R := R) (E := E)).trans (Gr.of_grown (grown_set W2 R 0 (.slice (some ⟨b, off, none⟩) l.length (c - 1))) (fun i hi => .inl (by injection hi with hi; exact hi.symm))))
    generalize W2.setCell ⟨R, 0, none⟩ (.slice (some ⟨b, off, none⟩) l.length (c - 1)) = W3 at HP3 HS3 HG3 ⊢
    have HS4 := Lib.hid (HS3.out.st5 k1 at_ lo hi ⟨nm.toArray⟩)
    have HP4 := Lib.hid (PS.st5 HP3.out HS3.out hBw k1 at_ lo hi ⟨nm.toArray⟩)
    have HG4 := Lib.hid (Gr.st5 HG3.out hBw HS3.out k1 at_ lo hi ⟨nm.toArray⟩)
    generalize st5 W3 w.heap.size k1 at_ lo hi ⟨nm.toArray⟩ = W4 at HS4 HP4 HG4 ⊢
    obtain ⟨b0, b1, b2, b3, b4⟩ := HS4.out.cells
    exact bodyPost_ret (v := .tuple #[.agg #[.int .i64 k1, .int .i64 at_, .int .i64 lo, .int .i64 hi, .string ⟨nm.toArray⟩], .bool true]) (by simp [results, Tryd.results47, go_sem, b0, b1, b2, b3, b4]) rfl ⟨rfl, HP4.out, HG4.out⟩
  · go_wp2_with fail
    have HP3 := Lib.hid (HG0.out (off + 5) (fun _ => rfl))
    change bodyPost _ _ _ _ _ (st5 (W2.setCell ⟨R, 0, none⟩ (.slice (some ⟨b, (off + 5), none⟩) l.length (c - 1))) w.heap.size k1 at_ lo hi ⟨nm.toArray⟩)
    have e9 : (W2.setCell ⟨R, 0, none⟩ (.slice (some ⟨b, (off + 5), none⟩) l.length (c - 1))) = (W2.setCell ⟨R, 0, none⟩ (.slice (some ⟨b, (off + 5), none⟩) l.length (c - 1))) := by rfl
    rw [e9]
    have HS3 := Lib.hid ((HS2.out.kept (grown_set W2 R 0 (.slice (some ⟨b, (off + 5), none⟩) l.length (c - 1))) (by simp; omega)))
    have HG3 := Lib.hid ((Gr.of_below HW2.out (B := B) (R := R) (E := E)).trans (Gr.of_grown (grown_set W2 R 0 (.slice (some ⟨b, (off + 5), none⟩) l.length (c - 1))) (fun i hi => .inl (by injection hi with hi; exact hi.symm))))
    generalize W2.setCell ⟨R, 0, none⟩ (.slice (some ⟨b, (off + 5), none⟩) l.length (c - 1)) = W3 at HP3 HS3 HG3 ⊢
    have HS4 := Lib.hid (HS3.out.st5 k1 at_ lo hi ⟨nm.toArray⟩)
    have HP4 := Lib.hid (PS.st5 HP3.out HS3.out hBw k1 at_ lo hi ⟨nm.toArray⟩)
    have HG4 := Lib.hid (Gr.st5 HG3.out hBw HS3.out k1 at_ lo hi ⟨nm.toArray⟩)
    generalize st5 W3 w.heap.size k1 at_ lo hi ⟨nm.toArray⟩ = W4 at HS4 HP4 HG4 ⊢
    obtain ⟨b0, b1, b2, b3, b4⟩ := HS4.out.cells
    exact bodyPost_ret (v := .tuple #[.agg #[.int .i64 k1, .int .i64 at_, .int .i64 lo, .int .i64 hi, .string ⟨nm.toArray⟩], .bool true]) (by simp [results, Tryd.results47, go_sem, b0, b1, b2, b3, b4]) rfl ⟨rfl, HP4.out, HG4.out⟩

set_option maxRecDepth 100000 in
set_option maxHeartbeats 1000000 in
theorem take_no (B R E : Nat) (F : Nat → Prop) (l : List Sg) (e : List Pt) (w : World) (h : PS w B R E F l e) (hl : l.length ≤ 1000) (kd : Int) (hk : hd l ≠ kd) :
    Calls Tryd.prog 47 #[.pointer (some ⟨R, 0, none⟩), .int .i64 kd] w fun en w' => en = .returned (.tuple #[sgV ⟨0, 0, 0, 0, []⟩, .bool false]) ∧ PS w' B R E F l e ∧ Gr B R E w w' := by
  have HP := hide h
  have HN := hide (fun W (g : PS W B R E F l e) => next_any B R E F l e W g hl)
  rw [← hdS_kind] at hk
  generalize hdS l = x at HN hk
  have t1 : (x.kind != kd) = true := by simp [hk]
  clear h hk
  obtain ⟨k1, at_, lo, hi, nm⟩ := x
  dsimp only at t1
  go_enter Tryd.func47, Tryd.ntmps47
  have HP1 := Lib.hid (HP.out.alloc (.cells #[.int .i64 0, .int .i64 0, .int .i64 0, .int .i64 0, .string ⟨#[]⟩] 71))
  have HS1 := Lib.hid (SB.new w 0 0 0 0 ⟨#[]⟩)
  go_upto_region 2 with (go_at_call 63; (with_reducible refine (HN.out _ HP1.out).mono ?_); rintro en w1 ⟨rfl, hb1⟩; have HB1 := Lib.hid hb1; clear hb1; dsimp only [sgV, hdS])
  have HS2 : Hid (SB (w1.alloc (.cells #[.int .i64 k1, .int .i64 at_, .int .i64 lo, .int .i64 hi, .string ⟨nm.toArray⟩] 71)) w.heap.size 0 0 0 0 ⟨#[]⟩) := by
    show SB _ _ _ _ _ _ _
    have h0 : SB w1 w.heap.size 0 0 0 0 ⟨#[]⟩ := (HB1.out.block _ (by simp)).trans HS1.out
    exact h0.kept (World.grownBy_alloc _ _ none) (by simp)
  have HX2 := Lib.hid (SB.new w1 k1 at_ lo hi ⟨nm.toArray⟩)
  have HP2 := Lib.hid ((HP1.out.below HB1.out).alloc (.cells #[.int .i64 k1, .int .i64 at_, .int .i64 lo, .int .i64 hi, .string ⟨nm.toArray⟩] 71))
  have hz1 := HB1.out.size
  rw [World.size_alloc] at hz1
  have HW2 : Hid (Below w.heap.size w (w1.alloc (.cells #[.int .i64 k1, .int .i64 at_, .int .i64 lo, .int .i64 hi, .string ⟨nm.toArray⟩] 71))) := by
    show Below _ _ _
    exact ((((Below.refl _ _).alloc (Nat.le_refl _) _).trans (HB1.out.mono (by simp))).alloc (by omega) _)
  obtain ⟨W2, hW2⟩ : ∃ W2, W2 = w1.alloc (.cells #[.int .i64 k1, .int .i64 at_, .int .i64 lo, .int .i64 hi, .string ⟨nm.toArray⟩] 71) := ⟨_, rfl⟩
  rw [← hW2] at HS2 HX2 HP2 HW2 ⊢
  have hz2 : w1.heap.size < W2.heap.size := by rw [hW2]; simp
  clear hW2 HB1 HP1 HS1
  obtain ⟨s0, s1, s2, s3, s4⟩ := HX2.out.cells
  obtain ⟨b0, b1, b2, b3, b4⟩ := HS2.out.cells
  have g0 := HS2.out.free 0
  have g1 := HS2.out.free 1
  have g2 := HS2.out.free 2
  have g3 := HS2.out.free 3
  have g4 := HS2.out.free 4
  have hBw : B ≤ w.heap.size := HP.out.bw
  have n3 : ¬ w.heap.size = w1.heap.size := by omega
  have n3' : ¬ w1.heap.size = w.heap.size := by omega
  go_wp2_with fail
  change bodyPost _ _ _ _ _ (st5 W2 w.heap.size 0 0 0 0 ⟨#[]⟩)
  have HS4 := Lib.hid (HS2.out.st5 0 0 0 0 ⟨#[]⟩)
  have HP4 := Lib.hid (PS.st5 HP2.out HS2.out hBw 0 0 0 0 ⟨#[]⟩)
  have HG4 := Lib.hid (Gr.st5 (Gr.of_below HW2.out (B := B) (R := R) (E := E)) hBw HS2.out 0 0 0 0 ⟨#[]⟩)
  clear b0 b1 b2 b3 b4
  generalize st5 W2 w.heap.size 0 0 0 0 ⟨#[]⟩ = W4 at HS4 HP4 HG4 ⊢
  obtain ⟨b0, b1, b2, b3, b4⟩ := HS4.out.cells
  exact bodyPost_ret (v := .tuple #[.agg #[.int .i64 0, .int .i64 0, .int .i64 0, .int .i64 0, .string ⟨#[]⟩], .bool false]) (by simp [results, Tryd.results47, go_sem, b0, b1, b2, b3, b4]) rfl ⟨rfl, HP4.out, HG4.out⟩

/-- the kids of a part that is laid -/
theorem Kd.one {w : World} {B : Nat} {kv : Value} {ks : List Nat} (h : Kd w B kv ks) : ∃ A c, kv = .slice A ks.length c := by
  rcases h.2 with ⟨rfl, h0⟩ | ⟨g, cap, cur, rfl, _⟩
  · exact ⟨none, 0, by rw [h0]⟩
  · exact ⟨_, cap, rfl⟩
theorem ownsRow_row {w : World} {base : Nat} {e : TypeId} {size n : Nat} {v : Value} {xs : List Value} (h : w.ownsRow base e size v n xs) : ∀ g, v.ownBlock = some g → base ≤ g ∧ ∃ cs fr, w.heap[g]? = some (.cells cs e fr) := by
  intro g hg
  rcases h.2 with ⟨rfl, _⟩ | ⟨g', cap, cur, rfl, hb, hc, _⟩
  · simp [Value.ownBlock] at hg
  · simp [Value.ownBlock] at hg
    subst hg
    exact ⟨hb, _, _, hc⟩
theorem PS.laid {w w2 : World} {B R E : Nat} {F : Nat → Prop} {l : List Sg} {e : List Pt} {v v' : Value} {vs : List Value} (h : PS w B R E F l e) (hr : w.ownsRow B 29 5 v e.length vs) (hp : PVs w B e vs) (hav : Av F vs) (p : Pt) (kv : Value) (hk : Kd w B kv p.kids) (hkf : ∀ g, kv.ownBlock = some g → ¬ F g)
    (hg : w.grownBy w2 v.ownBlock) (ho : w2.ownsRow B 29 5 v' (e.length + 1) (vs ++ pcells p kv)) : PS (w2.setCell ⟨E, 0, none⟩ v') B R E F l (e ++ [p]) := by
  have hg2 := grown_set w2 E 0 v'
  obtain ⟨⟨A, c, h1, h2, h3, h4⟩, ⟨v0, vs0, g1, _, _, _⟩, d1, d2, d3, d4⟩ := h
  have hown : ∀ i, v.ownBlock = some i → B ≤ i ∧ ∃ cs fr, w.heap[i]? = some (.cells cs 29 fr) := ownsRow_row hr
  have hno : ∀ i, i < B → some i ≠ v.ownBlock := fun i hi e => by have := (hown i e.symm).1; omega
  have hE2 : Boxed w2 E 24 v0 := g1.kept hg (hno E (by omega))
  have hno' : ∀ i, i < B → some i ≠ v'.ownBlock := fun i hi e => by have := (ho.lt i e.symm).1; omega
  refine ⟨⟨A, c, ?_, h2, ⟨h3.1, fun hn => ?_⟩, h4⟩, ⟨v', vs ++ pcells p kv, hE2.set v', ?_, ?_, ?_⟩, d1, d2, Nat.le_trans (Nat.le_trans d3 hg.size) hg2.size, fun g hf => Nat.lt_of_lt_of_le (Nat.lt_of_lt_of_le (d4 g hf) hg.size) hg2.size⟩
  · exact (hg2.block R (by have := hg.size; omega) (by simp; omega)).trans ((hg.block R (by omega) (hno R (by omega))).trans h1)
  · obtain ⟨b', off', e1, e2, e3⟩ := h3.2 hn
    obtain ⟨b'', off'', e4, e5⟩ := h4 hn
    have hbb : b' < E := by rw [e1] at e4; simp at e4; omega
    refine ⟨b', off', e1, Nat.lt_of_lt_of_le e2 (Nat.le_trans hg.size hg2.size), fun j hj => ?_⟩
    obtain ⟨a0, a1, a2, a3, a4⟩ := e3 j hj
    have k : ∀ o u, w.cell? ⟨b', o, none⟩ = some u → (w2.setCell ⟨E, 0, none⟩ v').cell? ⟨b', o, none⟩ = some u := fun o u hu => hg2.cell (hg.cell hu (hno b' (by omega))) (by simp; omega)
    exact ⟨k _ _ a0, k _ _ a1, k _ _ a2, k _ _ a3, k _ _ a4⟩
  · rw [List.length_append]
    refine ho.kept hg2 (.inr ?_)
    intro e
    exact hno' E (by omega) e.symm
  · refine PVs.kept hg2 ?_ (PVs.more (hk.kept hg ?_) (PVs.kept hg ?_ hp))
    · intro g hg3 cur fr hk2
      injection hg3 with hg3
      subst hg3
      rw [show w2.heap[E]? = _ from hE2] at hk2
      simp at hk2
    · intro g hg3 cur fr hk2
      obtain ⟨_, cs, fr2, h5⟩ := hown g hg3
      rw [h5] at hk2
      simp at hk2
    · intro g hg3 cur fr hk2
      obtain ⟨_, cs, fr2, h5⟩ := hown g hg3
      rw [h5] at hk2
      simp at hk2
  · intro u hu g hg3
    rcases List.mem_append.1 hu with hu | hu
    · exact hav u hu g hg3
    · simp only [pcells, List.mem_cons, List.not_mem_nil, or_false] at hu
      rcases hu with rfl | rfl | rfl | rfl | rfl
      · simp [Value.ownBlock] at hg3
      · simp [Value.ownBlock] at hg3
      · simp [Value.ownBlock] at hg3
      · simp [Value.ownBlock] at hg3
      · exact hkf g hg3
set_option maxRecDepth 100000 in
set_option maxHeartbeats 1000000 in
theorem lay_any (B R E : Nat) (F : Nat → Prop) (l : List Sg) (e : List Pt) (w : World) (h : PS w B R E F l e) (he : e.length ≤ 100000) (kd lo hi : Int) (nm : List UInt8) (ks : List Nat) (kv : Value) (hk : Kd w B kv ks) (hkf : ∀ g, kv.ownBlock = some g → ¬ F g) :
    Calls Tryd.prog 25 #[.agg #[.int .i64 kd, .int .i64 lo, .int .i64 hi, .string ⟨nm.toArray⟩, kv], .pointer (some ⟨E, 0, none⟩)] w fun en w' => en = .returned (.int .i64 (e.length : Int)) ∧ PS w' B R E F l (e ++ [⟨kd, lo, hi, nm, ks⟩]) ∧ Gr B R E w w' := by
  obtain ⟨A, c, rfl⟩ := hk.one
  have HP := hide h
  have HK := hide hk
  clear h hk
  go_enter Tryd.func25, Tryd.ntmps25
  have HP1 := Lib.hid (HP.out.alloc (.cells #[.int .i64 kd, .int .i64 lo, .int .i64 hi, .string ⟨nm.toArray⟩, .slice A ks.length c] 29))
  obtain ⟨v, vs, hbx, hrow, hpv, hav⟩ := HP1.out.lb
  have HAV := Lib.hid hav
  have HKF := Lib.hid hkf
  obtain ⟨A0, c0, rfl⟩ := own_form5 hrow
  have e0 := hbx.cell
  have f0 := hbx.frozen
  obtain ⟨i0, hi0, hz, hs1, hs2⟩ := info_parts info_pt
  have hbw : B ≤ w.heap.size := HP.out.bw
  have HR1 := Lib.hid (hrow.alloc (.cells #[.int .i64 kd, .int .i64 lo, .int .i64 hi, .string ⟨nm.toArray⟩, .slice A ks.length c] 29))
  have HX1 := Lib.hid hbx
  have HROW := Lib.hid hrow
  have HPV := Lib.hid hpv
  clear hbx hrow hpv hav hkf
  go_wp2_with (at_builtin; (refine wpList_app_pt rfl (.tmp 4) (.tmp 6) 24 rfl B 29 i0 _ Tryd.underlying24 hi0 hz rfl hs1 hs2 _ e.length vs rfl HR1.out (w.heap.size + 1) 1 ⟨kd, lo, hi, nm, ks⟩ (.slice A ks.length c) rfl rfl (new_cells w (.cells #[.int .i64 kd, .int .i64 lo, .int .i64 hi, .string ⟨nm.toArray⟩, .slice A ks.length c] 29) _ _ rfl) (by omega) (by simp; omega) ?_); intro v' w2 hown hg hat; obtain ⟨A2, c2, rfl⟩ := own_form5 hown; have HX2 := Lib.hid ((HX1.out.alloc (.cells #[.int .i64 kd, .int .i64 lo, .int .i64 hi, .string ⟨nm.toArray⟩, .slice A ks.length c] 29)).kept hg (HX1.out.not_row (by decide) HROW.out)); have e2 := HX2.out.cell; have f2 := HX2.out.frozen)
  have HP9 := Lib.hid (PS.laid ((HP1.out.alloc (.cells #[.int .i64 kd, .int .i64 lo, .int .i64 hi, .string ⟨nm.toArray⟩, .slice A ks.length c] 29))) (HR1.out) ((PVs.kept (World.grownBy_alloc _ _ none) (by intro g hg; cases hg) HPV.out)) HAV.out ⟨kd, lo, hi, nm, ks⟩ (.slice A ks.length c) ((HK.out.kept (World.grownBy_alloc w _ none) (by intro g hg; cases hg)).kept (World.grownBy_alloc _ _ none) (by intro g hg; cases hg)) HKF.out hg hown)
  have q1 := ((Gr.refl (B := B) (R := R) (E := E) w).alloc (.cells #[.int .i64 kd, .int .i64 lo, .int .i64 hi, .string ⟨nm.toArray⟩, .slice A ks.length c] 29)).alloc (.cells #[.int .i64 kd, .int .i64 lo, .int .i64 hi, .string ⟨nm.toArray⟩, .slice A ks.length c] 29)
  have q2 := Gr.of_grown (B := B) (R := R) (E := E) hg (fun i hi => by
    obtain ⟨h1, h2⟩ := ownsRow_row HR1.out i hi
    exact .inr (.inr ⟨h1, fun _ => h2⟩))
  have q3 := Gr.of_grown (B := B) (R := R) (E := E) (grown_set w2 E 0 (.slice A2 (e.length + 1) c2)) (fun i hi => .inr (.inl (by injection hi with hi; exact hi.symm)))
  have HG9 := Lib.hid ((q1.trans q2).trans q3)
  go_ret
  exact ⟨rfl, HP9.out, HG9.out⟩

set_option maxRecDepth 100000 in
set_option maxHeartbeats 1000000 in
theorem more_choice (B R E X : Nat) (F : Nat → Prop) (l : List Sg) (e : List Pt) (w : World) (h : PS w B R E F l e) (hl : l.length ≤ 900) (hx : Boxed w X 97 (.pointer (some ⟨R, 0, none⟩))) :
    Calls Tryd.prog 46 #[.pointer (some ⟨X, 0, none⟩)] w fun en w' => ∃ b l', en = .returned (.bool b) ∧ PS w' B R E F l' e ∧ Gr B R E w w' ∧ ((b = true ∧ ∃ x, l = x :: l' ∧ x.kind = 4) ∨ (b = false ∧ l' = l ∧ hd l ≠ 4)) := by
  have HP := hide h
  have x0 := hx.cell
  clear hx
  by_cases hk : hd l = 4
  · cases l with
    | nil => simp [hd] at hk
    | cons x l =>
      have hk' : x.kind = 4 := hk
      have HT := hide (take_yes B R E F x l e w h (by simp at hl; omega) 4 hk')
      have HK := Lib.hid hk'
      clear h hk hk'
      go_enter Tryd.func46, Tryd.ntmps46
      go_wp2_with (go_at_call 47; (with_reducible refine (HT.out).mono ?_); rintro en w1 ⟨rfl, hp1, hg1⟩; have HP1 := Lib.hid hp1; have HG1 := Lib.hid hg1; clear hp1 hg1; dsimp only [sgV])
      go_ret
      exact ⟨true, l, rfl, HP1.out.alloc _, HG1.out.alloc _, .inl ⟨rfl, x, rfl, HK.out⟩⟩
  · have HT := hide (take_no B R E F l e w h (by omega) 4 hk)
    have HK := Lib.hid hk
    clear h hk
    go_enter Tryd.func46, Tryd.ntmps46
    go_wp2_with (go_at_call 47; (with_reducible refine (HT.out).mono ?_); rintro en w1 ⟨rfl, hp1, hg1⟩; have HP1 := Lib.hid hp1; have HG1 := Lib.hid hg1; clear hp1 hg1; dsimp only [sgV])
    go_ret
    exact ⟨false, l, rfl, HP1.out.alloc _, HG1.out.alloc _, .inr ⟨rfl, rfl, HK.out⟩⟩
set_option maxRecDepth 100000 in
set_option maxHeartbeats 1000000 in
theorem more_row (B R E X : Nat) (F : Nat → Prop) (l : List Sg) (e : List Pt) (w : World) (h : PS w B R E F l e) (hl : l.length ≤ 900) (hx : Boxed w X 97 (.pointer (some ⟨R, 0, none⟩))) :
    Calls Tryd.prog 62 #[.pointer (some ⟨X, 0, none⟩)] w fun en w' => ∃ b l', en = .returned (.bool b) ∧ PS w' B R E F l' e ∧ Gr B R E w w' ∧ ((b = true ∧ l' = l ∧ (hd l = 1 ∨ hd l = 2)) ∨ (b = false ∧ l' = l ∧ hd l ≠ 1 ∧ hd l ≠ 2)) := by
  have HP := hide h
  have x0 := hx.cell
  have HN := hide (next_any B R E F l e w h (by omega))
  have hk : (hd l = 1 ∨ hd l = 2) ∨ hd l ≠ 1 ∧ hd l ≠ 2 := by omega
  have hx1 := hdS_kind l
  rw [← hdS_kind] at hk
  generalize hdS l = x at HN hk hx1
  obtain ⟨kd, at_, lo, hi, nm⟩ := x
  dsimp only at hk hx1
  have HX1 := Lib.hid hx1
  have hfd : ∀ W : World, (Instr.field 71 (.agg #[.int .i64 kd, .int .i64 at_, .int .i64 lo, .int .i64 hi, .string ⟨nm.toArray⟩]) 0).run Tryd.prog W = .ok (.int .i64 kd) W := fun _ => by kernel_rfl
  clear hx h hx1
  rcases hk with (rfl | rfl) | ⟨h1, h2⟩
  · go_enter Tryd.func62, Tryd.ntmps62
    go_wp2_with (go_at_call 63; (with_reducible refine (HN.out).mono ?_); rintro en w1 ⟨rfl, hb1⟩; have HB1 := Lib.hid hb1; clear hb1; dsimp only [sgV])
    go_ret
    exact ⟨true, l, rfl, HP.out.below HB1.out, Gr.of_below HB1.out, .inl ⟨rfl, rfl, by have := HX1.out; omega⟩⟩
  · go_enter Tryd.func62, Tryd.ntmps62
    go_wp2_with (go_at_call 63; (with_reducible refine (HN.out).mono ?_); rintro en w1 ⟨rfl, hb1⟩; have HB1 := Lib.hid hb1; clear hb1; dsimp only [sgV])
    go_ret
    exact ⟨true, l, rfl, HP.out.below HB1.out, Gr.of_below HB1.out, .inl ⟨rfl, rfl, by have := HX1.out; omega⟩⟩
  · have t1 : (kd == 1) = false := by simp [h1]
    have t2 : (kd == 2) = false := by simp [h2]
    have HK := Lib.hid (⟨h1, h2⟩ : kd ≠ 1 ∧ kd ≠ 2)
    clear h1 h2
    go_enter Tryd.func62, Tryd.ntmps62
    go_wp2_with (go_at_call 63; (with_reducible refine (HN.out).mono ?_); rintro en w1 ⟨rfl, hb1⟩; have HB1 := Lib.hid hb1; clear hb1; dsimp only [sgV])
    go_ret
    exact ⟨false, l, rfl, HP.out.below HB1.out, Gr.of_below HB1.out, .inr ⟨rfl, rfl, by have := HX1.out; have := HK.out; omega⟩⟩
end Go.Proofs.YtnbchikiiipejaaDoor.Ex
