/- Walks of the expressions' reader: what lies in memory while it reads; the sign ahead; laying a part. -/
import Derived.Test.YtnbchikiiipejaaGreatDoorExPR
import Derived.Test.YtnbchikiiipejaaGreatDoorLxI
import Derived.Deep.Cut
import Derived.Deep.RegionWith
import Derived.Test.YtnbchikiiipejaaGreatDoorLxEnds
import Derived.Laws.EntriesVeiled
set_option linter.unusedVariables false
set_option maxRecDepth 100000
set_option maxHeartbeats 8000000
namespace Go.Proofs.YtnbchikiiipejaaGreatDoor.Ex
open Go.RowKit Mem Lx
structure Gr (B R E : Nat) (w w' : World) : Prop where
 os : w'.os = w.os
 tape : w'.tape = w.tape
 output : w'.output = w.output
 size : w.heap.size ≤ w'.heap.size
 block : ∀ i, i < w.heap.size → i ≠ R → i ≠ E → (i < B ∨ ∀ cs fr, w.heap[i]? ≠ some (.cells cs 217 fr)) → w'.heap[i]? = w.heap[i]?
section
variable {B R E : Nat} {w w' w'' : World}
theorem Gr.refl (w : World) : Gr B R E w w := ⟨rfl, rfl, rfl, Nat.le_refl _, fun _ _ _ _ _ => rfl⟩
theorem Gr.trans (h : Gr B R E w w') (g : Gr B R E w' w'') : Gr B R E w w'' :=
 ⟨g.os.trans h.os, g.tape.trans h.tape, g.output.trans h.output, Nat.le_trans h.size g.size, fun i hi h1 h2 h3 => by
  have e := h.block i hi h1 h2 h3
  exact (g.block i (Nat.lt_of_lt_of_le hi h.size) h1 h2 (by rw [e]; exact h3)).trans e⟩
theorem Gr.of_below (h : Below w.heap.size w w') : Gr B R E w w' := ⟨h.os, h.tape, h.output, h.size, fun i hi _ _ _ => h.block i hi⟩
theorem Gr.of_grown {row : Option Nat} (h : w.grownBy w' row) (hr : ∀ i, row = some i → i = R ∨ i = E ∨ (B ≤ i ∧ (i < w.heap.size → ∃ cs fr, w.heap[i]? = some (.cells cs 217 fr)))) : Gr B R E w w' :=
 ⟨h.os, h.tape, h.output, h.size, fun i hi h1 h2 h3 => h.block i hi (by
  intro e
  rcases hr i e.symm with h4 | h4 | ⟨h4, h5⟩
  ·exact h1 h4
  ·exact h2 h4
  ·obtain ⟨cs, fr, h6⟩ := h5 hi
   rcases h3 with h3 | h3
   ·omega
   ·exact h3 cs fr h6)⟩
theorem Gr.alloc (h : Gr B R E w w') (o : Obj) : Gr B R E w (w'.alloc o) := h.trans (Gr.of_grown (World.grownBy_alloc w' o none) (fun i e => by cases e))
theorem Gr.drewN (h : Gr B R E w w') (n : Nat) : Gr B R E w (w'.drewN n) := ⟨h.os, h.tape, h.output, h.size, h.block⟩
theorem Gr.below (h : Gr B R E w w') {b : Nat} (h1 : b ≤ B) (h2 : b ≤ R) (h3 : b ≤ E) (hb : b ≤ w.heap.size) : Below b w w' :=
 ⟨h.os, h.tape, h.output, h.size, fun i hi => h.block i (by omega) (by omega) (by omega) (.inl (by omega))⟩
theorem below_grown' (h : Below w.heap.size w w') : w.grownBy w' none := ⟨h.os, h.tape, h.output, h.size, fun k hk _ => h.block k hk⟩
theorem Gr.kd (h : Gr B R E w w') (h1 : R < B) (h2 : E < B) {kv : Value} {ks : List Nat} (hk : Kd w B kv ks) : Kd w' B kv ks := by
 refine ⟨hk.1, ?_⟩
 rcases hk.2 with hn | ⟨g, cap, cur, rfl, hb, hg, rest⟩
 ·exact .inl hn
 ·refine .inr ⟨g, cap, cur, rfl, hb, ?_, rest⟩
  rw [h.block g (Array.getElem?_eq_some_iff.1 hg).1 (by omega) (by omega) (.inr fun cs fr e => by rw [hg] at e; simp at e)]
  exact hg
theorem Gr.same (h : Gr B R E w w') {i : Nat} (hi : i < w.heap.size) (h1 : i ≠ R) (h2 : i ≠ E) {cs : Array Value} {t : TypeId} {fr : Nat × Nat} (hc : w.heap[i]? = some (.cells cs t fr)) (ht : t ≠ 217) : w'.heap[i]? = some (.cells cs t fr) := by
 rw [h.block i hi h1 h2 (.inr fun cs' fr' e => by rw [hc] at e; simp at e; exact ht e.2.1)]
 exact hc
end
def RB (w : World) (R E : Nat) (l : List Sg) : Prop :=
 ∃ A c, w.heap[R]? = some (.cells #[.slice A l.length c, .func (.func 115) #[] #[.pointer (some ⟨E, 0, none⟩)]] 220 (0, 0)) ∧ l.length ≤ c ∧ GRow w A l.length l ∧ (0 < l.length → ∃ b off, A = some ⟨b, off, none⟩ ∧ b < E)
def Av (F : Nat → Prop) (vs : List Value) : Prop := ∀ u ∈ vs, ∀ g, u.ownBlock = some g → ¬ F g
def LB (w : World) (B E : Nat) (F : Nat → Prop) (e : List Pt) : Prop :=
 ∃ v vs, Boxed w E 116 v ∧ w.ownsRow B 217 5 v e.length vs ∧ PVs w B e vs ∧ Av F vs
structure PS (w : World) (B R E : Nat) (F : Nat → Prop) (l : List Sg) (e : List Pt) : Prop where
 rb : RB w R E l
 lb : LB w B E F e
 eR : E < R
 rB : R < B
 bw : B ≤ w.heap.size
 fw : ∀ g, F g → g < w.heap.size
theorem PS.below {w w' : World} {B R E : Nat} {F : Nat → Prop} {l : List Sg} {e : List Pt} (h : PS w B R E F l e) (hb : Below w.heap.size w w') : PS w' B R E F l e := by
 obtain ⟨⟨A, c, h1, h2, h3, h4⟩, ⟨v, vs, g1, g2, g3, g4⟩, d1, d2, d3, d4⟩ := h
 refine ⟨⟨A, c, (hb.block R (by omega)).trans h1, h2, h3.below hb, h4⟩, ⟨v, vs, (hb.block E (by omega)).trans g1, g2.kept (below_grown' hb) (Classical.em _), PVs.kept (below_grown' hb) (by intro g hg; cases hg) g3, g4⟩, d1, d2, Nat.le_trans d3 hb.size, fun g hg => Nat.lt_of_lt_of_le (d4 g hg) hb.size⟩
theorem PS.alloc {w : World} {B R E : Nat} {F : Nat → Prop} {l : List Sg} {e : List Pt} (h : PS w B R E F l e) (o : Obj) : PS (w.alloc o) B R E F l e := h.below ((Below.refl _ _).alloc (Nat.le_refl _) o)
theorem PS.drewN {w : World} {B R E : Nat} {F : Nat → Prop} {l : List Sg} {e : List Pt} (h : PS w B R E F l e) (n : Nat) : PS (w.drewN n) B R E F l e := h.below (below_drewN (Below.refl _ _) n)
def hdS : List Sg → Sg
 | [] => ⟨0, 0, 0, 0, []⟩
 | x :: _ => x
theorem hdS_kind (l : List Sg) : (hdS l).kind = hd l := by cases l <;> rfl
theorem next_any (B R E : Nat) (F : Nat → Prop) (l : List Sg) (e : List Pt) (w : World) (h : PS w B R E F l e) (hl : l.length ≤ 1000) :
  Calls Tryz.prog 216 #[.pointer (some ⟨R, 0, none⟩)] w fun en w' => en = .returned (sgV (hdS l)) ∧ Below w.heap.size w w' := by
 obtain ⟨A, c, h1, h2, h3, h4⟩ := h.rb
 have c0 : w.cell? ⟨R, 0, none⟩ = some (.slice A l.length c) := by simp [World.cell?, h1]
 have hRw : R < w.heap.size := by have := h.rB; have := h.bw; omega
 have HG := hide h3
 clear h h1 h4 h3
 cases l with
 | nil =>
  have e1 : Hid (hdS [] = ⟨0, 0, 0, 0, []⟩) := rfl
  go_enter Tryz.func216, Tryz.ntmps216
  go_wp2_with fail
  have HB := Lib.hid (SB.new w 0 0 0 0 ⟨#[]⟩)
  have HG3 := Lib.hid ((Below.refl w.heap.size w).alloc (Nat.le_refl _) (.cells #[.int .i64 0, .int .i64 0, .int .i64 0, .int .i64 0, .string ⟨#[]⟩] 222))
  obtain ⟨b0, b1, b2, b3, b4⟩ := HB.out.cells
  exact bodyPost_ret (v := .agg #[.int .i64 0, .int .i64 0, .int .i64 0, .int .i64 0, .string ⟨#[]⟩]) (by simp [results, Tryz.results216, go_sem, b0, b1, b2, b3, b4]) rfl ⟨by rw [e1.out]; rfl, HG3.out⟩
 | cons x l =>
  obtain ⟨b, off, rfl, hb, hc⟩ := HG.out.2 (by simp)
  obtain ⟨a0, a1, a2, a3, a4⟩ := hc 0 (by simp)
  simp only [List.getElem_cons_zero, Nat.zero_mul, Nat.add_zero] at a0 a1 a2 a3 a4
  obtain ⟨kd, at_, lo, hi, nm⟩ := x
  dsimp only at a0 a1 a2 a3 a4
  clear hc
  go_enter Tryz.func216, Tryz.ntmps216
  go_wp2_with fail
  have HB := Lib.hid (SB.new w kd at_ lo hi ⟨nm.toArray⟩)
  have HG3 := Lib.hid ((Below.refl w.heap.size w).alloc (Nat.le_refl _) (.cells #[.int .i64 kd, .int .i64 at_, .int .i64 lo, .int .i64 hi, .string ⟨nm.toArray⟩] 222))
  obtain ⟨b0, b1, b2, b3, b4⟩ := HB.out.cells
  exact bodyPost_ret (v := .agg #[.int .i64 kd, .int .i64 at_, .int .i64 lo, .int .i64 hi, .string ⟨nm.toArray⟩]) (by simp [results, Tryz.results216, go_sem, b0, b1, b2, b3, b4]) rfl ⟨rfl, HG3.out⟩
theorem below_of_none {w w' : World} (h : w.grownBy w' none) : Below w.heap.size w w' := ⟨h.os, h.tape, h.output, h.size, fun i hi => h.block i hi (by simp)⟩
theorem PS.step {w : World} {B R E : Nat} {F : Nat → Prop} {x : Sg} {l : List Sg} {e : List Pt} {b off c : Nat} (h : PS w B R E F (x :: l) e) (hc : l.length + 1 ≤ c)
  (hA : w.cell? ⟨R, 0, none⟩ = some (.slice (some ⟨b, off, none⟩) (l.length + 1) c)) (o' : Nat) (ho : l ≠ [] → o' = off + 5) : PS (w.setCell ⟨R, 0, none⟩ (.slice (some ⟨b, o', none⟩) l.length (c - 1))) B R E F l e := by
 have hg : w.grownBy (w.setCell ⟨R, 0, none⟩ (.slice (some ⟨b, o', none⟩) l.length (c - 1))) (some R) := grown_set _ _ _ _
 obtain ⟨⟨A, c', h1, h2, h3, h4⟩, ⟨v, vs, g1, g2, g3, g4⟩, d1, d2, d3, d4⟩ := h
 have hA' : w.cell? ⟨R, 0, none⟩ = some (.slice A (l.length + 1) c') := by simp [World.cell?, h1]
 rw [hA] at hA'
 simp only [Option.some.injEq, Value.slice.injEq] at hA'
 obtain ⟨rfl, -, rfl⟩ := hA'
 have hbE : b < E := by
  obtain ⟨b', off', e1, e2⟩ := h4 (by simp)
  simp at e1; omega
 refine ⟨⟨_, c - 1, ?_, by omega, ⟨rfl, fun hn => ?_⟩, fun hn => ⟨b, o', rfl, hbE⟩⟩, ⟨v, vs, g1.kept hg (by simp; omega), g2.kept hg ?_, PVs.kept hg ?_ g3, g4⟩, d1, d2, Nat.le_trans d3 hg.size, fun g hf => Nat.lt_of_lt_of_le (d4 g hf) hg.size⟩
 ·simp [World.setCell, Array.getElem?_modify, h1]
 ·obtain ⟨b', off', e1, e2, e3⟩ := h3.2 (by simp)
  simp only [Option.some.injEq, Addr.mk.injEq] at e1
  obtain ⟨rfl, rfl, -⟩ := e1
  have hne : l ≠ [] := by intro e; subst e; simp at hn
  obtain rfl := ho hne
  refine ⟨b, off + 5, rfl, Nat.lt_of_lt_of_le e2 hg.size, fun j hj => ?_⟩
  obtain ⟨a0, a1, a2, a3, a4⟩ := e3 (j + 1) (by simpa using hj)
  have hb : ∀ o, some (⟨b, o, none⟩ : Addr).block ≠ some R := by intro o; simp; omega
  rw [show off + (j + 1) * 5 = off + 5 + j * 5 from by omega] at a0 a1 a2 a3 a4
  exact ⟨hg.cell a0 (hb _), hg.cell a1 (hb _), hg.cell a2 (hb _), hg.cell a3 (hb _), hg.cell a4 (hb _)⟩
 ·rcases g2.2 with ⟨rfl, _⟩ | ⟨g, cap, cur, rfl, hb, hg, _⟩
  ·exact .inl rfl
  ·exact .inr (by simp [Value.ownBlock]; omega)
 ·intro g hg cur fr hk
  injection hg with hg
  subst hg
  rw [h1] at hk
  simp at hk
theorem PS.st5 {w : World} {B R E b : Nat} {F : Nat → Prop} {l : List Sg} {e : List Pt} {k1 at1 lo1 hi1 : Int} {nm1 : ByteArray} (h : PS w B R E F l e) (hs : SB w b k1 at1 lo1 hi1 nm1) (hb : B ≤ b) (k at_ lo hi : Int) (nm : ByteArray) : PS (Lx.st5 w b k at_ lo hi nm) B R E F l e := by
 have hg := st5_grown w b k at_ lo hi nm
 obtain ⟨⟨A, c, h1, h2, h3, h4⟩, ⟨v, vs, g1, g2, g3, g4⟩, d1, d2, d3, d4⟩ := h
 have hne : some R ≠ some b := by simp; omega
 refine ⟨⟨A, c, (hg.block R (by omega) hne).trans h1, h2, ⟨h3.1, fun hn => ?_⟩, h4⟩, ⟨v, vs, g1.kept hg (by simp; omega), g2.kept hg ?_, PVs.kept hg ?_ g3, g4⟩, d1, d2, Nat.le_trans d3 hg.size, fun g hf => Nat.lt_of_lt_of_le (d4 g hf) hg.size⟩
 ·obtain ⟨b', off', e1, e2, e3⟩ := h3.2 hn
  obtain ⟨b'', off'', e4, e5⟩ := h4 hn
  have hbb : b' < E := by rw [e1] at e4; simp at e4; omega
  refine ⟨b', off', e1, Nat.lt_of_lt_of_le e2 hg.size, fun j hj => ?_⟩
  obtain ⟨a0, a1, a2, a3, a4⟩ := e3 j hj
  have hb : ∀ o, some (⟨b', o, none⟩ : Addr).block ≠ some b := by intro o; simp; omega
  exact ⟨hg.cell a0 (hb _), hg.cell a1 (hb _), hg.cell a2 (hb _), hg.cell a3 (hb _), hg.cell a4 (hb _)⟩
 ·rcases g2.2 with ⟨rfl, _⟩ | ⟨g, cap, cur, rfl, hb2, hg2, _⟩
  ·exact .inl rfl
  ·refine .inr ?_
   simp only [Value.ownBlock, ne_eq, Option.some.injEq]
   rintro rfl
   unfold SB at hs
   rw [hs] at hg2
   simp at hg2
 ·intro g hg2 cur fr hk
  injection hg2 with hg2
  subst hg2
  unfold SB at hs
  rw [hs] at hk
  simp at hk
theorem Gr.st5 {w w' : World} {B R E : Nat} (h : Gr B R E w w') (hB : B ≤ w.heap.size) {k1 at1 lo1 hi1 : Int} {nm1 : ByteArray} (hs : SB w' w.heap.size k1 at1 lo1 hi1 nm1) (k at_ lo hi : Int) (nm : ByteArray) : Gr B R E w (Lx.st5 w' w.heap.size k at_ lo hi nm) := by
 have hg := st5_grown w' w.heap.size k at_ lo hi nm
 exact ⟨hg.os.trans h.os, hg.tape.trans h.tape, hg.output.trans h.output, Nat.le_trans h.size hg.size, fun i hi h1 h2 h3 => (hg.block i (Nat.lt_of_lt_of_le hi h.size) (by simp; omega)).trans (h.block i hi h1 h2 h3)⟩
theorem PS.opens {w : World} {B R E : Nat} {F : Nat → Prop} {l : List Sg} {e : List Pt} (h : PS w B R E F l e) : ∃ A c, w.cell? ⟨R, 0, none⟩ = some (.slice A l.length c) ∧ w.cell? ⟨R, 1, none⟩ = some (.func (.func 115) #[] #[.pointer (some ⟨E, 0, none⟩)]) ∧ l.length ≤ c ∧ w.frozen? ⟨R, 0, none⟩ = false ∧ R < w.heap.size ∧ (0 < l.length → ∃ b off, A = some ⟨b, off, none⟩) := by
 obtain ⟨⟨A, c, h1, h2, h3, h4⟩, _, _, d2, d3, _⟩ := h
 exact ⟨A, c, by simp [World.cell?, h1], by simp [World.cell?, h1], h2, by simp [World.frozen?, h1], by omega, fun hn => by obtain ⟨b, off, e, _⟩ := h4 hn; exact ⟨b, off, e⟩⟩
theorem take_yes (B R E : Nat) (F : Nat → Prop) (x : Sg) (l : List Sg) (e : List Pt) (w : World) (h : PS w B R E F (x :: l) e) (hl : l.length ≤ 900) (kd : Int) (hk : x.kind = kd) :
  Calls Tryz.prog 169 #[.pointer (some ⟨R, 0, none⟩), .int .i64 kd] w fun en w' => en = .returned (.tuple #[sgV x, .bool true]) ∧ PS w' B R E F l e ∧ Gr B R E w w' := by
 have HP := hide h
 have HN := hide (fun W (g : PS W B R E F (x :: l) e) => next_any B R E F (x :: l) e W g (by simp; omega))
 have t1 : (x.kind != kd) = false := by simp [hk]
 clear h hk
 obtain ⟨k1, at_, lo, hi, nm⟩ := x
 dsimp only at t1
 go_enter Tryz.func169, Tryz.ntmps169
 have HP1 := Lib.hid (HP.out.alloc (.cells #[.int .i64 0, .int .i64 0, .int .i64 0, .int .i64 0, .string ⟨#[]⟩] 222))
 have HS1 := Lib.hid (SB.new w 0 0 0 0 ⟨#[]⟩)
 go_upto_region 2 with (go_at_call 216; (with_reducible refine (HN.out _ HP1.out).mono ?_); rintro en w1 ⟨rfl, hb1⟩; have HB1 := Lib.hid hb1; clear hb1; dsimp only [sgV, hdS])
 have HS2 : Hid (SB (w1.alloc (.cells #[.int .i64 k1, .int .i64 at_, .int .i64 lo, .int .i64 hi, .string ⟨nm.toArray⟩] 222)) w.heap.size 0 0 0 0 ⟨#[]⟩) := by
  show SB _ _ _ _ _ _ _
  have h0 : SB w1 w.heap.size 0 0 0 0 ⟨#[]⟩ := (HB1.out.block _ (by simp)).trans HS1.out
  exact h0.kept (World.grownBy_alloc _ _ none) (by simp)
 have HX2 := Lib.hid (SB.new w1 k1 at_ lo hi ⟨nm.toArray⟩)
 have HP2 := Lib.hid ((HP1.out.below HB1.out).alloc (.cells #[.int .i64 k1, .int .i64 at_, .int .i64 lo, .int .i64 hi, .string ⟨nm.toArray⟩] 222))
 have hz1 := HB1.out.size
 rw [World.size_alloc] at hz1
 have HW2 : Hid (Below w.heap.size w (w1.alloc (.cells #[.int .i64 k1, .int .i64 at_, .int .i64 lo, .int .i64 hi, .string ⟨nm.toArray⟩] 222))) := by
  show Below _ _ _
  exact ((((Below.refl _ _).alloc (Nat.le_refl _) _).trans (HB1.out.mono (by simp))).alloc (by omega) _)
 obtain ⟨W2, hW2⟩ : ∃ W2, W2 = w1.alloc (.cells #[.int .i64 k1, .int .i64 at_, .int .i64 lo, .int .i64 hi, .string ⟨nm.toArray⟩] 222) := ⟨_, rfl⟩
 rw [← hW2] at HS2 HX2 HP2 HW2 ⊢
 have hz2 : w1.heap.size < W2.heap.size := by rw [hW2]; simp
 clear hW2 HB1 HP1 HS1
 obtain ⟨A, c, c0, -, hc, f0, hR, hA⟩ := HP2.out.opens
 obtain ⟨b, off, rfl⟩ := hA (by simp)
 have HG0 := hide (fun o' ho => HP2.out.step hc c0 o' ho)
 obtain ⟨s0, s1, s2, s3, s4⟩ := HX2.out.cells
 obtain ⟨b0, b1, b2, b3, b4⟩ := HS2.out.cells
 have g0 := HS2.out.free 0
 have g1 := HS2.out.free 1
 have g2 := HS2.out.free 2
 have g3 := HS2.out.free 3
 have g4 := HS2.out.free 4
 have hRn : Hid (R ≠ w.heap.size) := by have := HP.out.rB; have := HP.out.bw; show _ ≠ _; omega
 have hBw : B ≤ w.heap.size := HP.out.bw
 have hRB : R < B := HP.out.rB
 have n1 : ¬ R = w.heap.size := by omega
 have n1' : ¬ w.heap.size = R := by omega
 have n2 : ¬ R = w1.heap.size := by omega
 have n2' : ¬ w1.heap.size = R := by omega
 have n3 : ¬ w.heap.size = w1.heap.size := by omega
 have n3' : ¬ w1.heap.size = w.heap.size := by omega
 by_cases h1 : c = 1
 ·have hl0 : l.length = 0 := by simp at hc; omega
  go_wp2_with fail
  have HP3 := Lib.hid (HG0.out (off) (fun h => absurd (List.eq_nil_of_length_eq_zero hl0) h))
  change bodyPost _ _ _ _ _ (st5 (W2.setCell ⟨R, 0, none⟩ (.slice (some ⟨b, off, none⟩) 0 0)) w.heap.size k1 at_ lo hi ⟨nm.toArray⟩)
  have e9 : (W2.setCell ⟨R, 0, none⟩ (.slice (some ⟨b, off, none⟩) 0 0)) = (W2.setCell ⟨R, 0, none⟩ (.slice (some ⟨b, off, none⟩) l.length (c - 1))) := by rw [h1, hl0]
  rw [e9]
  have HS3 := Lib.hid ((HS2.out.kept (grown_set W2 R 0 (.slice (some ⟨b, off, none⟩) l.length (c - 1))) (by simp; omega)))
  have HG3 := Lib.hid ((Gr.of_below HW2.out (B := B) (R := R) (E := E)).trans (Gr.of_grown (grown_set W2 R 0 (.slice (some ⟨b, off, none⟩) l.length (c - 1))) (fun i hi => .inl (by injection hi with hi; exact hi.symm))))
  generalize W2.setCell ⟨R, 0, none⟩ (.slice (some ⟨b, off, none⟩) l.length (c - 1)) = W3 at HP3 HS3 HG3 ⊢
  have HS4 := Lib.hid (HS3.out.st5 k1 at_ lo hi ⟨nm.toArray⟩)
  have HP4 := Lib.hid (PS.st5 HP3.out HS3.out hBw k1 at_ lo hi ⟨nm.toArray⟩)
  have HG4 := Lib.hid (Gr.st5 HG3.out hBw HS3.out k1 at_ lo hi ⟨nm.toArray⟩)
  generalize st5 W3 w.heap.size k1 at_ lo hi ⟨nm.toArray⟩ = W4 at HS4 HP4 HG4 ⊢
  obtain ⟨b0, b1, b2, b3, b4⟩ := HS4.out.cells
  exact bodyPost_ret (v := .tuple #[.agg #[.int .i64 k1, .int .i64 at_, .int .i64 lo, .int .i64 hi, .string ⟨nm.toArray⟩], .bool true]) (by simp [results, Tryz.results169, go_sem, b0, b1, b2, b3, b4]) rfl ⟨rfl, HP4.out, HG4.out⟩
 ·go_wp2_with fail
  have HP3 := Lib.hid (HG0.out (off + 5) (fun _ => rfl))
  change bodyPost _ _ _ _ _ (st5 (W2.setCell ⟨R, 0, none⟩ (.slice (some ⟨b, (off + 5), none⟩) l.length (c - 1))) w.heap.size k1 at_ lo hi ⟨nm.toArray⟩)
  have e9 : (W2.setCell ⟨R, 0, none⟩ (.slice (some ⟨b, (off + 5), none⟩) l.length (c - 1))) = (W2.setCell ⟨R, 0, none⟩ (.slice (some ⟨b, (off + 5), none⟩) l.length (c - 1))) := by rfl
  rw [e9]
  have HS3 := Lib.hid ((HS2.out.kept (grown_set W2 R 0 (.slice (some ⟨b, (off + 5), none⟩) l.length (c - 1))) (by simp; omega)))
  have HG3 := Lib.hid ((Gr.of_below HW2.out (B := B) (R := R) (E := E)).trans (Gr.of_grown (grown_set W2 R 0 (.slice (some ⟨b, (off + 5), none⟩) l.length (c - 1))) (fun i hi => .inl (by injection hi with hi; exact hi.symm))))
  generalize W2.setCell ⟨R, 0, none⟩ (.slice (some ⟨b, (off + 5), none⟩) l.length (c - 1)) = W3 at HP3 HS3 HG3 ⊢
  have HS4 := Lib.hid (HS3.out.st5 k1 at_ lo hi ⟨nm.toArray⟩)
  have HP4 := Lib.hid (PS.st5 HP3.out HS3.out hBw k1 at_ lo hi ⟨nm.toArray⟩)
  have HG4 := Lib.hid (Gr.st5 HG3.out hBw HS3.out k1 at_ lo hi ⟨nm.toArray⟩)
  generalize st5 W3 w.heap.size k1 at_ lo hi ⟨nm.toArray⟩ = W4 at HS4 HP4 HG4 ⊢
  obtain ⟨b0, b1, b2, b3, b4⟩ := HS4.out.cells
  exact bodyPost_ret (v := .tuple #[.agg #[.int .i64 k1, .int .i64 at_, .int .i64 lo, .int .i64 hi, .string ⟨nm.toArray⟩], .bool true]) (by simp [results, Tryz.results169, go_sem, b0, b1, b2, b3, b4]) rfl ⟨rfl, HP4.out, HG4.out⟩
theorem take_no (B R E : Nat) (F : Nat → Prop) (l : List Sg) (e : List Pt) (w : World) (h : PS w B R E F l e) (hl : l.length ≤ 1000) (kd : Int) (hk : hd l ≠ kd) :
  Calls Tryz.prog 169 #[.pointer (some ⟨R, 0, none⟩), .int .i64 kd] w fun en w' => en = .returned (.tuple #[sgV ⟨0, 0, 0, 0, []⟩, .bool false]) ∧ PS w' B R E F l e ∧ Gr B R E w w' := by
 have HP := hide h
 have HN := hide (fun W (g : PS W B R E F l e) => next_any B R E F l e W g hl)
 rw [← hdS_kind] at hk
 generalize hdS l = x at HN hk
 have t1 : (x.kind != kd) = true := by simp [hk]
 clear h hk
 obtain ⟨k1, at_, lo, hi, nm⟩ := x
 dsimp only at t1
 go_enter Tryz.func169, Tryz.ntmps169
 have HP1 := Lib.hid (HP.out.alloc (.cells #[.int .i64 0, .int .i64 0, .int .i64 0, .int .i64 0, .string ⟨#[]⟩] 222))
 have HS1 := Lib.hid (SB.new w 0 0 0 0 ⟨#[]⟩)
 go_upto_region 2 with (go_at_call 216; (with_reducible refine (HN.out _ HP1.out).mono ?_); rintro en w1 ⟨rfl, hb1⟩; have HB1 := Lib.hid hb1; clear hb1; dsimp only [sgV, hdS])
 have HS2 : Hid (SB (w1.alloc (.cells #[.int .i64 k1, .int .i64 at_, .int .i64 lo, .int .i64 hi, .string ⟨nm.toArray⟩] 222)) w.heap.size 0 0 0 0 ⟨#[]⟩) := by
  show SB _ _ _ _ _ _ _
  have h0 : SB w1 w.heap.size 0 0 0 0 ⟨#[]⟩ := (HB1.out.block _ (by simp)).trans HS1.out
  exact h0.kept (World.grownBy_alloc _ _ none) (by simp)
 have HX2 := Lib.hid (SB.new w1 k1 at_ lo hi ⟨nm.toArray⟩)
 have HP2 := Lib.hid ((HP1.out.below HB1.out).alloc (.cells #[.int .i64 k1, .int .i64 at_, .int .i64 lo, .int .i64 hi, .string ⟨nm.toArray⟩] 222))
 have hz1 := HB1.out.size
 rw [World.size_alloc] at hz1
 have HW2 : Hid (Below w.heap.size w (w1.alloc (.cells #[.int .i64 k1, .int .i64 at_, .int .i64 lo, .int .i64 hi, .string ⟨nm.toArray⟩] 222))) := by
  show Below _ _ _
  exact ((((Below.refl _ _).alloc (Nat.le_refl _) _).trans (HB1.out.mono (by simp))).alloc (by omega) _)
 obtain ⟨W2, hW2⟩ : ∃ W2, W2 = w1.alloc (.cells #[.int .i64 k1, .int .i64 at_, .int .i64 lo, .int .i64 hi, .string ⟨nm.toArray⟩] 222) := ⟨_, rfl⟩
 rw [← hW2] at HS2 HX2 HP2 HW2 ⊢
 have hz2 : w1.heap.size < W2.heap.size := by rw [hW2]; simp
 clear hW2 HB1 HP1 HS1
 obtain ⟨s0, s1, s2, s3, s4⟩ := HX2.out.cells
 obtain ⟨b0, b1, b2, b3, b4⟩ := HS2.out.cells
 have g0 := HS2.out.free 0
 have g1 := HS2.out.free 1
 have g2 := HS2.out.free 2
 have g3 := HS2.out.free 3
 have g4 := HS2.out.free 4
 have hBw : B ≤ w.heap.size := HP.out.bw
 have n3 : ¬ w.heap.size = w1.heap.size := by omega
 have n3' : ¬ w1.heap.size = w.heap.size := by omega
 go_wp2_with fail
 change bodyPost _ _ _ _ _ (st5 W2 w.heap.size 0 0 0 0 ⟨#[]⟩)
 have HS4 := Lib.hid (HS2.out.st5 0 0 0 0 ⟨#[]⟩)
 have HP4 := Lib.hid (PS.st5 HP2.out HS2.out hBw 0 0 0 0 ⟨#[]⟩)
 have HG4 := Lib.hid (Gr.st5 (Gr.of_below HW2.out (B := B) (R := R) (E := E)) hBw HS2.out 0 0 0 0 ⟨#[]⟩)
 clear b0 b1 b2 b3 b4
 generalize st5 W2 w.heap.size 0 0 0 0 ⟨#[]⟩ = W4 at HS4 HP4 HG4 ⊢
 obtain ⟨b0, b1, b2, b3, b4⟩ := HS4.out.cells
 exact bodyPost_ret (v := .tuple #[.agg #[.int .i64 0, .int .i64 0, .int .i64 0, .int .i64 0, .string ⟨#[]⟩], .bool false]) (by simp [results, Tryz.results169, go_sem, b0, b1, b2, b3, b4]) rfl ⟨rfl, HP4.out, HG4.out⟩
theorem Kd.one {w : World} {B : Nat} {kv : Value} {ks : List Nat} (h : Kd w B kv ks) : ∃ A c, kv = .slice A ks.length c := by
 rcases h.2 with ⟨rfl, h0⟩ | ⟨g, cap, cur, rfl, _⟩
 ·exact ⟨none, 0, by rw [h0]⟩
 ·exact ⟨_, cap, rfl⟩
theorem ownsRow_row {w : World} {base : Nat} {e : TypeId} {size n : Nat} {v : Value} {xs : List Value} (h : w.ownsRow base e size v n xs) : ∀ g, v.ownBlock = some g → base ≤ g ∧ ∃ cs fr, w.heap[g]? = some (.cells cs e fr) := by
 intro g hg
 rcases h.2 with ⟨rfl, _⟩ | ⟨g', cap, cur, rfl, hb, hc, _⟩
 ·simp [Value.ownBlock] at hg
 ·simp [Value.ownBlock] at hg
  subst hg
  exact ⟨hb, _, _, hc⟩
theorem PS.laid {w w2 : World} {B R E : Nat} {F : Nat → Prop} {l : List Sg} {e : List Pt} {v v' : Value} {vs : List Value} (h : PS w B R E F l e) (hr : w.ownsRow B 217 5 v e.length vs) (hp : PVs w B e vs) (hav : Av F vs) (p : Pt) (kv : Value) (hk : Kd w B kv p.kids) (hkf : ∀ g, kv.ownBlock = some g → ¬ F g)
  (hg : w.grownBy w2 v.ownBlock) (ho : w2.ownsRow B 217 5 v' (e.length + 1) (vs ++ pcells p kv)) : PS (w2.setCell ⟨E, 0, none⟩ v') B R E F l (e ++ [p]) := by
 have hg2 := grown_set w2 E 0 v'
 obtain ⟨⟨A, c, h1, h2, h3, h4⟩, ⟨v0, vs0, g1, _, _, _⟩, d1, d2, d3, d4⟩ := h
 have hown : ∀ i, v.ownBlock = some i → B ≤ i ∧ ∃ cs fr, w.heap[i]? = some (.cells cs 217 fr) := ownsRow_row hr
 have hno : ∀ i, i < B → some i ≠ v.ownBlock := fun i hi e => by have := (hown i e.symm).1; omega
 have hE2 : Boxed w2 E 116 v0 := g1.kept hg (hno E (by omega))
 have hno' : ∀ i, i < B → some i ≠ v'.ownBlock := fun i hi e => by have := (ho.lt i e.symm).1; omega
 refine ⟨⟨A, c, ?_, h2, ⟨h3.1, fun hn => ?_⟩, h4⟩, ⟨v', vs ++ pcells p kv, hE2.set v', ?_, ?_, ?_⟩, d1, d2, Nat.le_trans (Nat.le_trans d3 hg.size) hg2.size, fun g hf => Nat.lt_of_lt_of_le (Nat.lt_of_lt_of_le (d4 g hf) hg.size) hg2.size⟩
 ·exact (hg2.block R (by have := hg.size; omega) (by simp; omega)).trans ((hg.block R (by omega) (hno R (by omega))).trans h1)
 ·obtain ⟨b', off', e1, e2, e3⟩ := h3.2 hn
  obtain ⟨b'', off'', e4, e5⟩ := h4 hn
  have hbb : b' < E := by rw [e1] at e4; simp at e4; omega
  refine ⟨b', off', e1, Nat.lt_of_lt_of_le e2 (Nat.le_trans hg.size hg2.size), fun j hj => ?_⟩
  obtain ⟨a0, a1, a2, a3, a4⟩ := e3 j hj
  have k : ∀ o u, w.cell? ⟨b', o, none⟩ = some u → (w2.setCell ⟨E, 0, none⟩ v').cell? ⟨b', o, none⟩ = some u := fun o u hu => hg2.cell (hg.cell hu (hno b' (by omega))) (by simp; omega)
  exact ⟨k _ _ a0, k _ _ a1, k _ _ a2, k _ _ a3, k _ _ a4⟩
 ·rw [List.length_append]
  refine ho.kept hg2 (.inr ?_)
  intro e
  exact hno' E (by omega) e.symm
 ·refine PVs.kept hg2 ?_ (PVs.more (hk.kept hg ?_) (PVs.kept hg ?_ hp))
  ·intro g hg3 cur fr hk2
   injection hg3 with hg3
   subst hg3
   rw [show w2.heap[E]? = _ from hE2] at hk2
   simp at hk2
  ·intro g hg3 cur fr hk2
   obtain ⟨_, cs, fr2, h5⟩ := hown g hg3
   rw [h5] at hk2
   simp at hk2
  ·intro g hg3 cur fr hk2
   obtain ⟨_, cs, fr2, h5⟩ := hown g hg3
   rw [h5] at hk2
   simp at hk2
 ·intro u hu g hg3
  rcases List.mem_append.1 hu with hu | hu
  ·exact hav u hu g hg3
  ·simp only [pcells, List.mem_cons, List.not_mem_nil, or_false] at hu
   rcases hu with rfl | rfl | rfl | rfl | rfl
   ·simp [Value.ownBlock] at hg3
   ·simp [Value.ownBlock] at hg3
   ·simp [Value.ownBlock] at hg3
   ·simp [Value.ownBlock] at hg3
   ·exact hkf g hg3
theorem lay_any (B R E : Nat) (F : Nat → Prop) (l : List Sg) (e : List Pt) (w : World) (h : PS w B R E F l e) (he : e.length ≤ 100000) (kd lo hi : Int) (nm : List UInt8) (ks : List Nat) (kv : Value) (hk : Kd w B kv ks) (hkf : ∀ g, kv.ownBlock = some g → ¬ F g) :
  Calls Tryz.prog 115 #[.agg #[.int .i64 kd, .int .i64 lo, .int .i64 hi, .string ⟨nm.toArray⟩, kv], .pointer (some ⟨E, 0, none⟩)] w fun en w' => en = .returned (.int .i64 (e.length : Int)) ∧ PS w' B R E F l (e ++ [⟨kd, lo, hi, nm, ks⟩]) ∧ Gr B R E w w' := by
 obtain ⟨A, c, rfl⟩ := hk.one
 have HP := hide h
 have HK := hide hk
 clear h hk
 go_enter Tryz.func115, Tryz.ntmps115
 have HP1 := Lib.hid (HP.out.alloc (.cells #[.int .i64 kd, .int .i64 lo, .int .i64 hi, .string ⟨nm.toArray⟩, .slice A ks.length c] 217))
 obtain ⟨v, vs, hbx, hrow, hpv, hav⟩ := HP1.out.lb
 have HAV := Lib.hid hav
 have HKF := Lib.hid hkf
 obtain ⟨A0, c0, rfl⟩ := own_form5 hrow
 have e0 := hbx.cell
 have f0 := hbx.frozen
 obtain ⟨i0, hi0, hz, hs1, hs2⟩ := info_parts info_pt
 have hbw : B ≤ w.heap.size := HP.out.bw
 have HR1 := Lib.hid (hrow.alloc (.cells #[.int .i64 kd, .int .i64 lo, .int .i64 hi, .string ⟨nm.toArray⟩, .slice A ks.length c] 217))
 have HX1 := Lib.hid hbx
 have HROW := Lib.hid hrow
 have HPV := Lib.hid hpv
 clear hbx hrow hpv hav hkf
 go_wp2_with (at_builtin; (refine wpList_app_pt rfl (.tmp 4) (.tmp 6) 116 rfl B 217 i0 _ Tryz.underlying116 hi0 hz rfl hs1 hs2 _ e.length vs rfl HR1.out (w.heap.size + 1) 1 ⟨kd, lo, hi, nm, ks⟩ (.slice A ks.length c) rfl rfl (new_cells w (.cells #[.int .i64 kd, .int .i64 lo, .int .i64 hi, .string ⟨nm.toArray⟩, .slice A ks.length c] 217) _ _ rfl) (by omega) (by simp; omega) ?_); intro v' w2 hown hg hat; obtain ⟨A2, c2, rfl⟩ := own_form5 hown; have HX2 := Lib.hid ((HX1.out.alloc (.cells #[.int .i64 kd, .int .i64 lo, .int .i64 hi, .string ⟨nm.toArray⟩, .slice A ks.length c] 217)).kept hg (HX1.out.not_row (by decide) HROW.out)); have e2 := HX2.out.cell; have f2 := HX2.out.frozen)
 have HP9 := Lib.hid (PS.laid ((HP1.out.alloc (.cells #[.int .i64 kd, .int .i64 lo, .int .i64 hi, .string ⟨nm.toArray⟩, .slice A ks.length c] 217))) (HR1.out) ((PVs.kept (World.grownBy_alloc _ _ none) (by intro g hg; cases hg) HPV.out)) HAV.out ⟨kd, lo, hi, nm, ks⟩ (.slice A ks.length c) ((HK.out.kept (World.grownBy_alloc w _ none) (by intro g hg; cases hg)).kept (World.grownBy_alloc _ _ none) (by intro g hg; cases hg)) HKF.out hg hown)
 have q1 := ((Gr.refl (B := B) (R := R) (E := E) w).alloc (.cells #[.int .i64 kd, .int .i64 lo, .int .i64 hi, .string ⟨nm.toArray⟩, .slice A ks.length c] 217)).alloc (.cells #[.int .i64 kd, .int .i64 lo, .int .i64 hi, .string ⟨nm.toArray⟩, .slice A ks.length c] 217)
 have q2 := Gr.of_grown (B := B) (R := R) (E := E) hg (fun i hi => by
  obtain ⟨h1, h2⟩ := ownsRow_row HR1.out i hi
  exact .inr (.inr ⟨h1, fun _ => h2⟩))
 have q3 := Gr.of_grown (B := B) (R := R) (E := E) (grown_set w2 E 0 (.slice A2 (e.length + 1) c2)) (fun i hi => .inr (.inl (by injection hi with hi; exact hi.symm)))
 have HG9 := Lib.hid ((q1.trans q2).trans q3)
 go_ret
 exact ⟨rfl, HP9.out, HG9.out⟩
theorem more_choice (B R E X : Nat) (F : Nat → Prop) (l : List Sg) (e : List Pt) (w : World) (h : PS w B R E F l e) (hl : l.length ≤ 900) (hx : Boxed w X 271 (.pointer (some ⟨R, 0, none⟩))) :
  Calls Tryz.prog 168 #[.pointer (some ⟨X, 0, none⟩)] w fun en w' => ∃ b l', en = .returned (.bool b) ∧ PS w' B R E F l' e ∧ Gr B R E w w' ∧ ((b = true ∧ ∃ x, l = x :: l' ∧ x.kind = 4) ∨ (b = false ∧ l' = l ∧ hd l ≠ 4)) := by
 have HP := hide h
 have x0 := hx.cell
 clear hx
 by_cases hk : hd l = 4
 ·cases l with
  | nil => simp [hd] at hk
  | cons x l =>
   have hk' : x.kind = 4 := hk
   have HT := hide (take_yes B R E F x l e w h (by simp at hl; omega) 4 hk')
   have HK := Lib.hid hk'
   clear h hk hk'
   go_enter Tryz.func168, Tryz.ntmps168
   go_wp2_with (go_at_call 169; (with_reducible refine (HT.out).mono ?_); rintro en w1 ⟨rfl, hp1, hg1⟩; have HP1 := Lib.hid hp1; have HG1 := Lib.hid hg1; clear hp1 hg1; dsimp only [sgV])
   go_ret
   exact ⟨true, l, rfl, HP1.out.alloc _, HG1.out.alloc _, .inl ⟨rfl, x, rfl, HK.out⟩⟩
 ·have HT := hide (take_no B R E F l e w h (by omega) 4 hk)
  have HK := Lib.hid hk
  clear h hk
  go_enter Tryz.func168, Tryz.ntmps168
  go_wp2_with (go_at_call 169; (with_reducible refine (HT.out).mono ?_); rintro en w1 ⟨rfl, hp1, hg1⟩; have HP1 := Lib.hid hp1; have HG1 := Lib.hid hg1; clear hp1 hg1; dsimp only [sgV])
  go_ret
  exact ⟨false, l, rfl, HP1.out.alloc _, HG1.out.alloc _, .inr ⟨rfl, rfl, HK.out⟩⟩
theorem more_row (B R E X : Nat) (F : Nat → Prop) (l : List Sg) (e : List Pt) (w : World) (h : PS w B R E F l e) (hl : l.length ≤ 900) (hx : Boxed w X 271 (.pointer (some ⟨R, 0, none⟩))) :
  Calls Tryz.prog 215 #[.pointer (some ⟨X, 0, none⟩)] w fun en w' => ∃ b l', en = .returned (.bool b) ∧ PS w' B R E F l' e ∧ Gr B R E w w' ∧ ((b = true ∧ l' = l ∧ (hd l = 1 ∨ hd l = 2)) ∨ (b = false ∧ l' = l ∧ hd l ≠ 1 ∧ hd l ≠ 2)) := by
 have HP := hide h
 have x0 := hx.cell
 have HN := hide (next_any B R E F l e w h (by omega))
 have hk : (hd l = 1 ∨ hd l = 2) ∨ hd l ≠ 1 ∧ hd l ≠ 2 := by omega
 have hx1 := hdS_kind l
 rw [← hdS_kind] at hk
 generalize hdS l = x at HN hk hx1
 obtain ⟨kd, at_, lo, hi, nm⟩ := x
 dsimp only at hk hx1
 have HX1 := Lib.hid hx1
 have hfd : ∀ W : World, (Instr.field 222 (.agg #[.int .i64 kd, .int .i64 at_, .int .i64 lo, .int .i64 hi, .string ⟨nm.toArray⟩]) 0).run Tryz.prog W = .ok (.int .i64 kd) W := fun _ => by kernel_rfl
 clear hx h hx1
 rcases hk with (rfl | rfl) | ⟨h1, h2⟩
 ·go_enter Tryz.func215, Tryz.ntmps215
  go_wp2_with (go_at_call 216; (with_reducible refine (HN.out).mono ?_); rintro en w1 ⟨rfl, hb1⟩; have HB1 := Lib.hid hb1; clear hb1; dsimp only [sgV])
  go_ret
  exact ⟨true, l, rfl, HP.out.below HB1.out, Gr.of_below HB1.out, .inl ⟨rfl, rfl, by have := HX1.out; omega⟩⟩
 ·go_enter Tryz.func215, Tryz.ntmps215
  go_wp2_with (go_at_call 216; (with_reducible refine (HN.out).mono ?_); rintro en w1 ⟨rfl, hb1⟩; have HB1 := Lib.hid hb1; clear hb1; dsimp only [sgV])
  go_ret
  exact ⟨true, l, rfl, HP.out.below HB1.out, Gr.of_below HB1.out, .inl ⟨rfl, rfl, by have := HX1.out; omega⟩⟩
 ·have t1 : (kd == 1) = false := by simp [h1]
  have t2 : (kd == 2) = false := by simp [h2]
  have HK := Lib.hid (⟨h1, h2⟩ : kd ≠ 1 ∧ kd ≠ 2)
  clear h1 h2
  go_enter Tryz.func215, Tryz.ntmps215
  go_wp2_with (go_at_call 216; (with_reducible refine (HN.out).mono ?_); rintro en w1 ⟨rfl, hb1⟩; have HB1 := Lib.hid hb1; clear hb1; dsimp only [sgV])
  go_ret
  exact ⟨false, l, rfl, HP.out.below HB1.out, Gr.of_below HB1.out, .inr ⟨rfl, rfl, by have := HX1.out; have := HK.out; omega⟩⟩
end Go.Proofs.YtnbchikiiipejaaGreatDoor.Ex
namespace Go.Proofs.YtnbchikiiipejaaGreatDoor.Ex
open Go.RowKit Mem Lx
theorem Rd.pot {v : Lv} {l l' : List Sg} {e e' : List Pt} {ok : Bool} {k : Nat} (h : Rd v l e ok k l' e') : e'.length + 2 * l'.length + (if ok then slack v else 0) ≤ e.length + 2 * l.length := by
 have sr : ∀ ks, slack (.row ks) ≤ 1 := fun ks => slack_le _
 have wh : ∀ (kd : Int) (ks : List Nat) (k : Nat) (e' : List Pt), (whole kd e' (ks ++ [k])).2.length + (match ks with | [] => 1 | _ => 0) ≤ e'.length + 1 := by
  intro kd ks k e'
  cases ks with
  | nil => simp [whole]
  | cons a ks => cases ks <;> simp [whole]
 have sr' : ∀ ks, slack (.row ks) = (match ks with | [] => 1 | _ => 0) := by intro ks; cases ks <;> rfl
 have sc' : ∀ ks, slack (.choice ks) = (match ks with | [] => 1 | _ => 0) := by intro ks; cases ks <;> rfl
 have s0 : ∀ (ks : List Nat) (k : Nat), slack (.row (ks ++ [k])) = 0 := by intro ks k; cases ks <;> rfl
 have c0 : ∀ (ks : List Nat) (k : Nat), slack (.choice (ks ++ [k])) = 0 := by intro ks k; cases ks <;> rfl
 induction h with
 | name _ => simp [slack]; omega
 | none _ _ => simp
 | inBad _ _ ih => simp at ih ⊢; omega
 | noShut _ _ _ ih => simp at ih ⊢; omega
 | shut _ _ _ ih => simp [slack] at ih ⊢; omega
 | itemBad _ ih => simpa using ih
 | item _ _ ih => simpa [slack] using ih
 | times _ _ ih => simp [slack] at ih ⊢; omega
 | rowBad _ ih => simpa using ih
 | @rowMore ks l l' l'' e e' e'' k k' ok _ _ _ ih1 ih2 =>
  rw [s0] at ih2
  have := sr ks
  simp [slack] at ih1
  simp at ih2
  split <;> omega
 | @rowEnd ks l l' e e' k _ _ _ ih =>
  have := wh 2 ks k e'
  rw [sr']
  simp [slack] at ih ⊢
  omega
 | chBad _ ih => simp at ih ⊢; omega
 | @chMore ks x l l' l'' e e' e'' k k' ok _ _ _ ih1 ih2 =>
  rw [c0] at ih2
  have := slack_le (.choice ks)
  simp [slack] at ih1
  simp at ih2
  split <;> omega
 | @chEnd ks l l' e e' k _ _ ih =>
  have := wh 3 ks k e'
  rw [sc']
  simp [slack] at ih ⊢
  omega
theorem Rd.fewer {v : Lv} {l l' : List Sg} {e e' : List Pt} {ok : Bool} {k : Nat} (h : Rd v l e ok k l' e') : l'.length ≤ l.length := h.left.length_le
theorem Rd.less {v : Lv} {l l' : List Sg} {e e' : List Pt} {ok : Bool} {k : Nat} (h : Rd v l e ok k l' e') (ho : ok = true) : l'.length < l.length := by
 obtain ⟨s, rfl, hs⟩ := h.seg ho
 have := hs.ne
 simp; omega
def RdP (v : Lv) (B R E : Nat) (F : Nat → Prop) (l : List Sg) (e : List Pt) (w : World) (en : Ending) (w' : World) : Prop :=
 ∃ ok k l' e', en = .returned (.tuple #[.int .i64 (k : Nat), .bool ok]) ∧ Rd v l e ok k l' e' ∧ PS w' B R E F l' e' ∧ Gr B R E w w'
def Reads (f : Nat) (v : Lv) (B R E N : Nat) : Prop := ∀ (F : Nat → Prop) (l : List Sg) (e : List Pt) (w : World), PS w B R E F l e → l.length ≤ N → e.length + 2 * l.length ≤ 1000 →
 Calls Tryz.prog f #[.pointer (some ⟨R, 0, none⟩)] w (RdP v B R E F l e w)
theorem bare_name (B R E : Nat) (F : Nat → Prop) (x : Sg) (l : List Sg) (e : List Pt) (w : World) (h : PS w B R E F (x :: l) e) (he : e.length + 2 * l.length ≤ 1000) (hk : x.kind = 1) :
  Calls Tryz.prog 246 #[.pointer (some ⟨R, 0, none⟩)] w (RdP .bare B R E F (x :: l) e w) := by
 have HT := hide (take_yes B R E F x l e w h (by omega) 1 hk)
 have HK := hide hk
 clear h hk
 obtain ⟨k1, at_, lo, hi, nm⟩ := x
 go_enter Tryz.func246, Tryz.ntmps246
 go_wp2_with (go_at_call 169; (with_reducible refine (HT.out).mono ?_); rintro en w1 ⟨rfl, hp1, hg1⟩; have HP1 := Lib.hid hp1; have HG1 := Lib.hid hg1; clear hp1 hg1; dsimp only [sgV])
 have HP2 := Lib.hid (HP1.out.alloc (.cells #[.int .i64 k1, .int .i64 at_, .int .i64 lo, .int .i64 hi, .string ⟨nm.toArray⟩] 222))
 obtain ⟨A, c, -, c1, -, -, hR, -⟩ := HP2.out.opens
 have HX2 := Lib.hid (SB.new w1 k1 at_ lo hi ⟨nm.toArray⟩)
 have HP3 : Hid (PS (w1.alloc (.cells #[.int .i64 k1, .int .i64 at_, .int .i64 lo, .int .i64 hi, .string ⟨nm.toArray⟩] 222)).drew B R E F l e) := HP2.out.drewN 1
 have HG3 : Hid (Gr B R E w (w1.alloc (.cells #[.int .i64 k1, .int .i64 at_, .int .i64 lo, .int .i64 hi, .string ⟨nm.toArray⟩] 222)).drew) := (HG1.out.alloc _).drewN 1
 obtain ⟨b0, b1, b2, b3, b4⟩ := HX2.out.cells
 generalize w1.alloc (.cells #[.int .i64 k1, .int .i64 at_, .int .i64 lo, .int .i64 hi, .string ⟨nm.toArray⟩] 222) = W2 at *
 have HL := hide (fun W (g : PS W B R E F l e) => lay_any B R E F l e W g (by omega) 1 0 0 nm [] (.slice none 0 0) (Kd.nil _ _) (by simp [Value.ownBlock]))
 clear HP1 HG1 HT
 go_still_tail 7, (by kernel_rfl)
 change wpList _ _ _ _ _ W2.drew
 go_wp2_with (go_at_call 115; (with_reducible refine (HL.out _ HP3.out).mono ?_); rintro en w9 ⟨rfl, hp9, hg9⟩; have HP9 := Lib.hid hp9; have HG9 := Lib.hid (HG3.out.trans hg9); clear hp9 hg9)
 exact bodyPost_ret (v := .tuple #[.int .i64 (e.length : Int), .bool true]) (by simp [results, Tryz.results246, go_sem]) rfl ⟨true, e.length, l, _, rfl, .name HK.out, HP9.out, HG9.out⟩
theorem bare_none (B R E : Nat) (F : Nat → Prop) (l : List Sg) (e : List Pt) (w : World) (h : PS w B R E F l e) (hl : l.length ≤ 900) (h1 : hd l ≠ 1) (h2 : hd l ≠ 2) :
  Calls Tryz.prog 246 #[.pointer (some ⟨R, 0, none⟩)] w (RdP .bare B R E F l e w) := by
 have HT := hide (take_no B R E F l e w h (by omega) 1 h1)
 have HT2 := hide (fun W (g : PS W B R E F l e) => take_no B R E F l e W g (by omega) 2 h2)
 have HK := Lib.hid (⟨h1, h2⟩ : hd l ≠ 1 ∧ hd l ≠ 2)
 clear h h1 h2
 go_enter Tryz.func246, Tryz.ntmps246
 go_wp2_with (go_at_call 169; first
  | ((with_reducible refine (HT.out).mono ?_); rintro en w1 ⟨rfl, hp1, hg1⟩; have HP1 := Lib.hid (hp1.alloc (.cells #[.int .i64 0, .int .i64 0, .int .i64 0, .int .i64 0, .string ⟨#[]⟩] 222)); have HG1 := Lib.hid (hg1.alloc (.cells #[.int .i64 0, .int .i64 0, .int .i64 0, .int .i64 0, .string ⟨#[]⟩] 222)); clear hp1 hg1; dsimp only [sgV])
  | ((with_reducible refine (HT2.out _ HP1.out).mono ?_); rintro en w2 ⟨rfl, hp1, hg1⟩; have HP2 := Lib.hid (hp1.alloc (.cells #[.int .i64 0, .int .i64 0, .int .i64 0, .int .i64 0, .string ⟨#[]⟩] 222)); have HG2 := Lib.hid (HG1.out.trans (hg1.alloc (.cells #[.int .i64 0, .int .i64 0, .int .i64 0, .int .i64 0, .string ⟨#[]⟩] 222))); clear hp1 hg1; dsimp only [sgV]))
 exact bodyPost_ret (v := .tuple #[.int .i64 0, .bool false]) (by simp [results, Tryz.results246, go_sem]) rfl ⟨false, 0, l, e, rfl, .none HK.out.1 HK.out.2, HP2.out, HG2.out⟩
theorem bare_open (B R E : Nat) (F : Nat → Prop) (x : Sg) (l : List Sg) (e : List Pt) (w : World) (h : PS w B R E F (x :: l) e) (he : e.length + 2 * (l.length + 1) ≤ 1000) (hk : x.kind = 2) (N : Nat) (hN : l.length ≤ N) (HC : Reads 116 (.choice []) B R E N) :
  Calls Tryz.prog 246 #[.pointer (some ⟨R, 0, none⟩)] w (RdP .bare B R E F (x :: l) e w) := by
 have HT := hide (take_no B R E F (x :: l) e w h (by simp; omega) 1 (by simp [hd, hk]))
 have HT2 := hide (fun W (g : PS W B R E F (x :: l) e) => take_yes B R E F x l e W g (by omega) 2 hk)
 have HCC := hide (fun W (g : PS W B R E F l e) => HC F l e W g hN (by omega))
 have HK := hide hk
 clear h hk HC
 obtain ⟨k1, at_, lo, hi, nm⟩ := x
 go_enter Tryz.func246, Tryz.ntmps246
 go_upto_region 8 with (first
  | (go_at_call 169; first
   | ((with_reducible refine (HT.out).mono ?_); rintro en w1 ⟨rfl, hp1, hg1⟩; have HP1 := Lib.hid (hp1.alloc (.cells #[.int .i64 0, .int .i64 0, .int .i64 0, .int .i64 0, .string ⟨#[]⟩] 222)); have HG1 := Lib.hid (hg1.alloc (.cells #[.int .i64 0, .int .i64 0, .int .i64 0, .int .i64 0, .string ⟨#[]⟩] 222)); clear hp1 hg1; dsimp only [sgV])
   | ((with_reducible refine (HT2.out _ HP1.out).mono ?_); rintro en w2 ⟨rfl, hp1, hg1⟩; have HP2 := Lib.hid (hp1.alloc (.cells #[.int .i64 k1, .int .i64 at_, .int .i64 lo, .int .i64 hi, .string ⟨nm.toArray⟩] 222)); have HG2 := Lib.hid (HG1.out.trans (hg1.alloc (.cells #[.int .i64 k1, .int .i64 at_, .int .i64 lo, .int .i64 hi, .string ⟨nm.toArray⟩] 222))); clear hp1 hg1; dsimp only [sgV]))
  | (go_at_call 116; (with_reducible refine (HCC.out _ HP2.out).mono ?_); rintro en w3 ⟨ok, k, l', e', rfl, hr, hp3, hg3⟩; have HR := Lib.hid hr; have HP3 := Lib.hid hp3; have HG3 := Lib.hid (HG2.out.trans hg3); clear hp3 hg3 hr))
 cases ok with
 | false =>
  go_wp2_with fail
  exact bodyPost_ret (v := .tuple #[.int .i64 0, .bool false]) (by simp [results, Tryz.results246, go_sem]) rfl ⟨false, 0, l', e', rfl, .inBad HK.out HR.out, HP3.out, HG3.out⟩
 | true =>
  have hl' : l'.length ≤ l.length := HR.out.fewer
  by_cases h3 : hd l' = 3
  ·cases l' with
   | nil => simp [hd] at h3
   | cons y l' =>
    have h3' : y.kind = 3 := h3
    have HT3 := hide (take_yes B R E F y l' e' w3 HP3.out (by simp at hl'; omega) 3 h3')
    have HY := Lib.hid h3'
    clear h3 h3'
    obtain ⟨y1, y2, y3, y4, y5⟩ := y
    go_wp2_with (go_at_call 169; (with_reducible refine (HT3.out).mono ?_); rintro en w4 ⟨rfl, hp4, hg4⟩; have HP4 := Lib.hid hp4; have HG4 := Lib.hid (HG3.out.trans hg4); clear hp4 hg4; dsimp only [sgV])
    exact bodyPost_ret (v := .tuple #[.int .i64 (k : Int), .bool true]) (by simp [results, Tryz.results246, go_sem]) rfl ⟨true, k, l', e', rfl, .shut HK.out HR.out HY.out, HP4.out, HG4.out⟩
  ·have HT3 := hide (take_no B R E F l' e' w3 HP3.out (by omega) 3 h3)
   have HY := Lib.hid h3
   clear h3
   go_wp2_with (go_at_call 169; (with_reducible refine (HT3.out).mono ?_); rintro en w4 ⟨rfl, hp4, hg4⟩; have HP4 := Lib.hid hp4; have HG4 := Lib.hid (HG3.out.trans hg4); clear hp4 hg4; dsimp only [sgV])
   exact bodyPost_ret (v := .tuple #[.int .i64 0, .bool false]) (by simp [results, Tryz.results246, go_sem]) rfl ⟨false, 0, l', e', rfl, .noShut HK.out HR.out HY.out, HP4.out, HG4.out⟩
theorem bare_any (B R E N : Nat) (HC : ∀ M, M < N → Reads 116 (.choice []) B R E M) : Reads 246 .bare B R E N := by
 intro F l e w hp hl he
 by_cases h1 : hd l = 1
 ·cases l with
  | nil => simp [hd] at h1
  | cons x l => exact bare_name B R E F x l e w hp (by simp at he; omega) h1
 ·by_cases h2 : hd l = 2
  ·cases l with
   | nil => simp [hd] at h2
   | cons x l =>
    simp only [List.length_cons] at hl he
    exact bare_open B R E F x l e w hp he h2 (N - 1) (by omega) (HC (N - 1) (by omega))
  ·exact bare_none B R E F l e w hp (by omega) h1 h2
theorem one_kid (w : World) (B : Nat) (k : Nat) (hB : B ≤ w.heap.size) : Kd (w.alloc (.cells #[.int .i64 (k : Int)] 3)) B (.slice (some ⟨w.heap.size, 0, none⟩) 1 1) [k] :=
 ⟨rfl, .inr ⟨w.heap.size, 1, #[.int .i64 (k : Int)], rfl, hB, World.alloc_heap_new w _, Nat.le_refl _, by simp [maxLen], rfl, rfl⟩⟩
theorem item_any (B R E N : Nat) (HC : Reads 246 .bare B R E N) : Reads 214 .item B R E N := by
 intro F l e w hp hl he
 have HCC := hide (HC F l e w hp hl he)
 have hbw : B ≤ w.heap.size := hp.bw
 clear HC hp
 go_enter Tryz.func214, Tryz.ntmps214
 go_upto_region 2 with (go_at_call 246; (with_reducible refine (HCC.out).mono ?_); rintro en w3 ⟨ok, k, l', e', rfl, hr, hp3, hg3⟩; have HR := Lib.hid hr; have HP3 := Lib.hid hp3; have HG3 := Lib.hid hg3; clear hp3 hg3 hr)
 have hpot := HR.out.pot
 have hfew := HR.out.fewer
 cases ok with
 | false =>
  go_wp2_with fail
  exact bodyPost_ret (v := .tuple #[.int .i64 0, .bool false]) (by simp [results, Tryz.results214, go_sem]) rfl ⟨false, 0, l', e', rfl, .itemBad HR.out, HP3.out, HG3.out⟩
 | true =>
  by_cases h5 : hd l' = 5
  ·cases l' with
   | nil => simp [hd] at h5
   | cons x l' =>
    have h5' : x.kind = 5 := h5
    simp only [List.length_cons] at hpot hfew
    have HT := hide (take_yes B R E F x l' e' w3 HP3.out (by omega) 5 h5')
    have HX := Lib.hid h5'
    have hel : e'.length ≤ 1000 := by omega
    clear h5 h5' hpot hfew
    obtain ⟨k1, at_, lo, hi, nm⟩ := x
    go_upto_region 6 with (go_at_call 169; (with_reducible refine (HT.out).mono ?_); rintro en w4 ⟨rfl, hp4, hg4⟩; have HP4 := Lib.hid hp4; have HG4 := Lib.hid (HG3.out.trans hg4); clear hp4 hg4; dsimp only [sgV])
    have HP5 := Lib.hid (HP4.out.alloc (.cells #[.int .i64 k1, .int .i64 at_, .int .i64 lo, .int .i64 hi, .string ⟨nm.toArray⟩] 222))
    have HX5 := Lib.hid (SB.new w4 k1 at_ lo hi ⟨nm.toArray⟩)
    have HG5 : Hid (Gr B R E w (w4.alloc (.cells #[.int .i64 k1, .int .i64 at_, .int .i64 lo, .int .i64 hi, .string ⟨nm.toArray⟩] 222))) := HG4.out.alloc _
    generalize w4.alloc (.cells #[.int .i64 k1, .int .i64 at_, .int .i64 lo, .int .i64 hi, .string ⟨nm.toArray⟩] 222) = W5 at *
    obtain ⟨A, c, -, c1, -, -, hR, -⟩ := HP5.out.opens
    obtain ⟨b0, b1, b2, b3, b4⟩ := HX5.out.cells
    have hx5 := HX5.out.lt
    have HP6 : Hid (PS (W5.alloc (.cells #[.int .i64 (k : Int)] 3)).drew B R E F l' e') := (HP5.out.alloc _).drewN 1
    have HG6 : Hid (Gr B R E w (W5.alloc (.cells #[.int .i64 (k : Int)] 3)).drew) := (HG5.out.alloc _).drewN 1
    have HK6 : Hid (Kd (W5.alloc (.cells #[.int .i64 (k : Int)] 3)).drew B (.slice (some ⟨W5.heap.size, 0, none⟩) 1 1) [k]) := one_kid W5 B k HP5.out.bw
    have HL := hide (lay_any B R E F l' e' _ HP6.out (by omega) 4 lo hi [] [k] _ HK6.out (by intro g hg hf; have := HP5.out.fw g hf; simp [Value.ownBlock] at hg; omega))
    clear HT HP4 HG4 HG3 HP3 HCC
    go_cut [4] from 23 (fun v wx => v = .int .i64 (e'.length : Int) ∧ Hid (PS wx B R E F l' (e' ++ [⟨4, lo, hi, [], [k]⟩])) ∧ Hid (Gr B R E w wx))
    case first =>
     go_region_with (go_at_call 115; (with_reducible refine (HL.out).mono ?_); rintro en w9 ⟨rfl, hp9, hg9⟩; have HP9 := Lib.hid hp9; have HG9 := Lib.hid (HG6.out.trans hg9); clear hp9 hg9)
     all_goals (go_wp2_with fail; go_meet; exact ⟨rfl, HP9, HG9⟩)
    case rest =>
     obtain ⟨rfl, HP9, HG9⟩ := hcut
     go_wp2_with fail
     exact bodyPost_ret (v := .tuple #[.int .i64 (e'.length : Int), .bool true]) (by simp [results, Tryz.results214, go_sem]) rfl ⟨true, e'.length, l', _, rfl, .times HR.out HX.out, HP9.out, HG9.out⟩
  ·have HT := hide (take_no B R E F l' e' w3 HP3.out (by omega) 5 h5)
   have HY := Lib.hid h5
   clear h5
   go_wp2_with (go_at_call 169; (with_reducible refine (HT.out).mono ?_); rintro en w4 ⟨rfl, hp4, hg4⟩; have HP4 := Lib.hid hp4; have HG4 := Lib.hid (HG3.out.trans hg4); clear hp4 hg4; dsimp only [sgV])
   exact bodyPost_ret (v := .tuple #[.int .i64 (k : Int), .bool true]) (by simp [results, Tryz.results214, go_sem]) rfl ⟨true, k, l', e', rfl, .item HR.out HY.out, HP4.out.alloc _, HG4.out.alloc _⟩
end Go.Proofs.YtnbchikiiipejaaGreatDoor.Ex
namespace Go.Proofs.YtnbchikiiipejaaGreatDoor.Ex
open Go.RowKit Mem Lx
def left (w : World) (R : Nat) : Nat := match w.cell? ⟨R, 0, none⟩ with | some (.slice _ n _) => n | _ => 0
theorem PS.left {w : World} {B R E : Nat} {F : Nat → Prop} {l : List Sg} {e : List Pt} (h : PS w B R E F l e) : Ex.left w R = l.length := by
 obtain ⟨A, c, h0, _⟩ := h.opens
 simp [Ex.left, h0]
theorem Rd.place {v : Lv} {l l' : List Sg} {e e' : List Pt} {k : Nat} (h : Rd v l e true k l' e') : e'.length = k + 1 := by
 obtain ⟨s, _, hs⟩ := h.seg rfl
 exact hs.last
theorem Gr.boxed {B R E : Nat} {w w' : World} (h : Gr B R E w w') {X : Nat} {t : TypeId} {v : Value} (hx : Boxed w X t v) (h1 : X ≠ R) (h2 : X ≠ E) (ht : t ≠ 217) : Boxed w' X t v := h.same hx.lt h1 h2 hx ht
theorem Kd.first {w : World} {B : Nat} {A : Option Addr} {n c k : Nat} {ks : List Nat} (h : Kd w B (.slice A n c) (k :: ks)) : ∃ g, A = some ⟨g, 0, none⟩ ∧ n = ks.length + 1 ∧ w.cell? ⟨g, 0, none⟩ = some (.int .i64 (k : Int)) := by
 rcases h.2 with ⟨h1, h0⟩ | ⟨g, cap, cur, e, hb, hg, hnc, hm, hs, ht⟩
 ·simp at h0
 ·have e' := e
  simp only [Value.slice.injEq] at e'
  obtain ⟨rfl, rfl, rfl⟩ := e'
  refine ⟨g, rfl, by simp, ?_⟩
  have := World.ownsRow.cells h (g := g) rfl 0 (.int .i64 (k : Int)) (by simp [pl])
  exact this
theorem Kd.base {w : World} {B B' : Nat} {v : Value} {ks : List Nat} (h : Kd w B v ks) (hb : B' ≤ B) : Kd w B' v ks := by
 refine ⟨h.1, ?_⟩
 rcases h.2 with h0 | ⟨g, cap, cur, e, hb2, rest⟩
 ·exact .inl h0
 ·exact .inr ⟨g, cap, cur, e, by omega, rest⟩
theorem PVs.av_new {w : World} {B : Nat} : ∀ {ps : List Pt} {vs : List Value}, PVs w B ps vs → ∀ u ∈ vs, ∀ g, u.ownBlock = some g → g < w.heap.size
 | [], vs, h => by
  have h' : vs = [] := h
  subst h'
  intro u hu; simp at hu
 | p :: ps, _, ⟨kv, rest, e, h3, h4⟩ => by
  subst e
  intro u hu g hg
  rcases List.mem_append.1 hu with hu | hu
  ·simp only [pcells, List.mem_cons, List.not_mem_nil, or_false] at hu
   rcases hu with rfl | rfl | rfl | rfl | rfl
   ·simp [Value.ownBlock] at hg
   ·simp [Value.ownBlock] at hg
   ·simp [Value.ownBlock] at hg
   ·simp [Value.ownBlock] at hg
   ·exact (World.ownsRow.lt h3 g hg).2
  ·exact PVs.av_new h4 u hu g hg
def And1 (F : Nat → Prop) (v : Value) (g : Nat) : Prop := F g ∨ v.ownBlock = some g
theorem PS.weaken {w : World} {B R E : Nat} {F G : Nat → Prop} {l : List Sg} {e : List Pt} (h : PS w B R E F l e) (hg : ∀ g, G g → F g) : PS w B R E G l e := by
 obtain ⟨h1, ⟨v, vs, g1, g2, g3, g4⟩, d1, d2, d3, d4⟩ := h
 exact ⟨h1, ⟨v, vs, g1, g2, g3, fun u hu g hg2 hf => g4 u hu g hg2 (hg g hf)⟩, d1, d2, d3, fun g hf => d4 g (hg g hf)⟩
theorem PS.of_nil {w : World} {B R E : Nat} {F : Nat → Prop} {l : List Sg} {e : List Pt} (h : PS w B R E F l e) : PS w B R E (And1 F (.slice none 0 0)) l e :=
 h.weaken (fun g hg => by rcases hg with hg | hg; exact hg; simp [Value.ownBlock] at hg)
theorem PS.kids {w w' : World} {B R E : Nat} {F : Nat → Prop} {l : List Sg} {e : List Pt} {v v' : Value} {ks ks' : List Nat} (h : PS w B R E (And1 F v) l e) (hk : Kd w B v ks) (hg : w.grownBy w' v.ownBlock) (hk' : Kd w' B v' ks') (ha : v'.ownBlock = v.ownBlock ∨ v'.ownBlock = some w.heap.size) : PS w' B R E (And1 F v') l e := by
 obtain ⟨⟨A, c, h1, h2, h3, h4⟩, ⟨x, vs, g1, g2, g3, g4⟩, d1, d2, d3, d4⟩ := h
 have hno : ∀ i, i < B → some i ≠ v.ownBlock := fun i hi e => by have := (World.ownsRow.lt hk i e.symm).1; omega
 have hint : ∀ i, v.ownBlock = some i → ∃ cs fr, w.heap[i]? = some (.cells cs 3 fr) := fun i hi => (ownsRow_row hk i hi).2
 refine ⟨⟨A, c, (hg.block R (by omega) (hno R d2)).trans h1, h2, ⟨h3.1, fun hn => ?_⟩, h4⟩, ⟨x, vs, g1.kept hg (hno E (by omega)), g2.kept hg ?_, ?_, ?_⟩, d1, d2, Nat.le_trans d3 hg.size, ?_⟩
 ·obtain ⟨b', off', e1, e2, e3⟩ := h3.2 hn
  obtain ⟨b'', off'', e4, e5⟩ := h4 hn
  have hbb : b' < E := by rw [e1] at e4; simp at e4; omega
  refine ⟨b', off', e1, Nat.lt_of_lt_of_le e2 hg.size, fun j hj => ?_⟩
  obtain ⟨a0, a1, a2, a3, a4⟩ := e3 j hj
  have k : ∀ o u, w.cell? ⟨b', o, none⟩ = some u → w'.cell? ⟨b', o, none⟩ = some u := fun o u hu => hg.cell hu (hno b' (by omega))
  exact ⟨k _ _ a0, k _ _ a1, k _ _ a2, k _ _ a3, k _ _ a4⟩
 ·rcases hx : x.ownBlock with _ | i
  ·exact .inl rfl
  ·refine .inr fun e => ?_
   obtain ⟨_, cs, fr, e1⟩ := ownsRow_row g2 i hx
   obtain ⟨cs', fr', e2⟩ := hint i e.symm
   rw [e1] at e2; simp at e2
 ·have key : ∀ {ps : List Pt} {vs : List Value}, PVs w B ps vs → Av (And1 F v) vs → PVs w' B ps vs := by
   intro ps
   induction ps with
   | nil => intro vs h _; exact h
   | cons p ps ih =>
    rintro _ ⟨kv, rest, rfl, q1, q2⟩ hav
    refine ⟨kv, rest, rfl, World.ownsRow.kept q1 hg ?_, ih q2 (fun u hu => hav u (List.mem_append_right _ hu))⟩
    rcases hkv : kv.ownBlock with _ | i
    ·exact .inl rfl
    ·refine .inr fun e => ?_
     exact hav kv (List.mem_append_left _ (by simp [pcells])) i hkv (.inr e.symm)
  exact key g3 g4
 ·intro u hu g hg2 hf
  rcases hf with hf | hf
  ·exact g4 u hu g hg2 (.inl hf)
  ·rcases ha with ha | ha
   ·exact g4 u hu g hg2 (.inr (by rw [← ha]; exact hf))
   ·rw [ha] at hf
    injection hf with hf
    have := PVs.av_new g3 u hu g hg2
    omega
 ·intro g hf
  rcases hf with hf | hf
  ·exact Nat.lt_of_lt_of_le (d4 g (.inl hf)) hg.size
  ·exact (World.ownsRow.lt hk' g hf).2
theorem Gr.own {B R E : Nat} {w w' w'' : World} (h : Gr B R E w w') {row : Option Nat} (g : w'.grownBy w'' row) (hr : ∀ i, row = some i → w.heap.size ≤ i) : Gr B R E w w'' :=
 ⟨g.os.trans h.os, g.tape.trans h.tape, g.output.trans h.output, Nat.le_trans h.size g.size, fun i hi h1 h2 h3 => (g.block i (Nat.lt_of_lt_of_le hi h.size) (fun e => by have := hr i e.symm; omega)).trans (h.block i hi h1 h2 h3)⟩
theorem Kd.gr {B R E b : Nat} {w w' : World} (h : Gr B R E w w') (h1 : R < B) (h2 : E < B) (hb : B ≤ b) {kv : Value} {ks : List Nat} (hk : Kd w b kv ks) : Kd w' b kv ks := by
 have h3 := h.kd h1 h2 (hk.base hb)
 refine ⟨h3.1, ?_⟩
 rcases h3.2 with h0 | ⟨g, cap, cur, e, hb2, rest⟩
 ·exact .inl h0
 ·refine .inr ⟨g, cap, cur, e, ?_, rest⟩
  exact (World.ownsRow.lt hk g (by rw [e]; rfl)).1
theorem more_row_yes (B R E X : Nat) (F : Nat → Prop) (l : List Sg) (e : List Pt) (w : World) (h : PS w B R E F l e) (hl : l.length ≤ 900) (hx : Boxed w X 271 (.pointer (some ⟨R, 0, none⟩))) (hy : hd l = 1 ∨ hd l = 2) :
  Calls Tryz.prog 215 #[.pointer (some ⟨X, 0, none⟩)] w fun en w' => en = .returned (.bool true) ∧ PS w' B R E F l e ∧ Gr B R E w w' :=
 (more_row B R E X F l e w h hl hx).mono fun en w' ⟨b, l', h1, h2, h3, h4⟩ => by
  rcases h4 with ⟨rfl, rfl, _⟩ | ⟨_, _, h5⟩
  ·exact ⟨h1, h2, h3⟩
  ·omega
theorem more_row_no (B R E X : Nat) (F : Nat → Prop) (l : List Sg) (e : List Pt) (w : World) (h : PS w B R E F l e) (hl : l.length ≤ 900) (hx : Boxed w X 271 (.pointer (some ⟨R, 0, none⟩))) (hy : hd l ≠ 1) (hy2 : hd l ≠ 2) :
  Calls Tryz.prog 215 #[.pointer (some ⟨X, 0, none⟩)] w fun en w' => en = .returned (.bool false) ∧ PS w' B R E F l e ∧ Gr B R E w w' :=
 (more_row B R E X F l e w h hl hx).mono fun en w' ⟨b, l', h1, h2, h3, h4⟩ => by
  rcases h4 with ⟨_, _, h5⟩ | ⟨rfl, rfl, _⟩
  ·omega
  ·exact ⟨h1, h2, h3⟩
theorem more_choice_yes (B R E X : Nat) (F : Nat → Prop) (x : Sg) (l : List Sg) (e : List Pt) (w : World) (h : PS w B R E F (x :: l) e) (hl : l.length ≤ 800) (hx : Boxed w X 271 (.pointer (some ⟨R, 0, none⟩))) (hy : x.kind = 4) :
  Calls Tryz.prog 168 #[.pointer (some ⟨X, 0, none⟩)] w fun en w' => en = .returned (.bool true) ∧ PS w' B R E F l e ∧ Gr B R E w w' :=
 (more_choice B R E X F (x :: l) e w h (by simp; omega) hx).mono fun en w' ⟨b, l', h1, h2, h3, h4⟩ => by
  rcases h4 with ⟨rfl, y, h5, _⟩ | ⟨_, _, h5⟩
  ·simp only [List.cons.injEq] at h5
   obtain ⟨rfl, rfl⟩ := h5
   exact ⟨h1, h2, h3⟩
  ·exact absurd hy h5
theorem more_choice_no (B R E X : Nat) (F : Nat → Prop) (l : List Sg) (e : List Pt) (w : World) (h : PS w B R E F l e) (hl : l.length ≤ 900) (hx : Boxed w X 271 (.pointer (some ⟨R, 0, none⟩))) (hy : hd l ≠ 4) :
  Calls Tryz.prog 168 #[.pointer (some ⟨X, 0, none⟩)] w fun en w' => en = .returned (.bool false) ∧ PS w' B R E F l e ∧ Gr B R E w w' :=
 (more_choice B R E X F l e w h hl hx).mono fun en w' ⟨b, l', h1, h2, h3, h4⟩ => by
  rcases h4 with ⟨_, y, h5, h6⟩ | ⟨rfl, rfl, _⟩
  ·subst h5; exact absurd h6 hy
  ·exact ⟨h1, h2, h3⟩
def Entrow (ks : List Nat) (l1 : List Sg) (e1 : List Pt) (l : List Sg) (e : List Pt) : Prop := ∀ ok k l' e', Rd (.row ks) l1 e1 ok k l' e' → Rd (.row []) l e ok k l' e'
def Behrow (ks : List Nat) (l1 : List Sg) (e1 : List Pt) (l : List Sg) (e : List Pt) : Prop := ks ≠ [] ∧ ((hd l1 = 1 ∨ hd l1 = 2) → Entrow ks l1 e1 l e) ∧ (hd l1 ≠ 1 → hd l1 ≠ 2 → Rd (.row []) l e true (whole 2 e1 ks).1 l1 (whole 2 e1 ks).2)
theorem Entrow.next {ks : List Nat} {l1 l2 l : List Sg} {e1 e2 e : List Pt} {k : Nat} (h : Entrow ks l1 e1 l e) (hr : Rd .item l1 e1 true k l2 e2) : Behrow (ks ++ [k]) l2 e2 l e :=
 ⟨by simp, fun h12 ok k' l' e' h' => h _ _ _ _ (.rowMore hr h12 h'), fun h1 h2 => h _ _ _ _ (.rowEnd hr h1 h2)⟩
theorem Entrow.bad {ks : List Nat} {l1 l2 l : List Sg} {e1 e2 e : List Pt} {k : Nat} (h : Entrow ks l1 e1 l e) (hr : Rd .item l1 e1 false k l2 e2) : Rd (.row []) l e false 0 l2 e2 := h _ _ _ _ (.rowBad hr)
theorem several_row (B R E N X : Nat) (HI : Reads 214 .item B R E N) (F : Nat → Prop) (l : List Sg) (e : List Pt) (w : World) (hp : PS w B R E F l e) (hl : l.length ≤ N) (he : e.length + 2 * l.length ≤ 1000) (hx : Boxed w X 271 (.pointer (some ⟨R, 0, none⟩))) (hX : B ≤ X) :
  Calls Tryz.prog 166 #[.pointer (some ⟨R, 0, none⟩), .int .i64 2, .func (.func 214) #[.pointer (some ⟨R, 0, none⟩)] #[], .func (.func 215) #[] #[.pointer (some ⟨X, 0, none⟩)]] w (RdP (.row []) B R E F l e w) := by
 obtain ⟨i0, hi, hz, hs1, hs2⟩ := info_parts info_i64
 have HI2 := hide HI
 have hRB := hp.rB
 have hER := hp.eR
 have hBw := hp.bw
 have HP0 := hide hp
 have HX0 := hide hx
 clear HI hp hx
 go_enter Tryz.func166, Tryz.ntmps166
 go_wp2_with fail
 go_loopw [10, 11] (fun v bv wr => ∃ (A : Option Addr) (c : Nat) (b : Bool) (ks : List Nat) (l1 : List Sg) (e1 : List Pt), v = .slice A ks.length c ∧ bv = .bool b ∧ ks.length + l1.length ≤ l.length ∧ e1.length + 2 * l1.length ≤ 1000 ∧ Hid (Kd wr w.heap.size (.slice A ks.length c) ks) ∧ Hid (PS wr B R E (And1 F (.slice A ks.length c)) l1 e1) ∧ Hid (Gr B R E w wr) ∧ Hid (if b then Behrow ks l1 e1 l e else Entrow ks l1 e1 l e ∧ ks = [])) (fun _ _ wr => left wr R)
 case atStart => exact ⟨none, 0, false, [], l, e, rfl, rfl, by simp, he, Lib.hid (Kd.nil _ _), Lib.hid HP0.out.of_nil, Lib.hid (Gr.refl w), Lib.hid ⟨fun ok k l' e' h => h, rfl⟩⟩
 case round =>
  obtain ⟨A, c, b, ks, l1, e1, rfl, rfl, hks, hpot, hK, hP, hG, hC⟩ := hrel
  have hKS : Hid (ks.length ≤ 1000) := by show _ ≤ _; omega
  have hleft := Lib.hid hP.out.left
  cases b with
  | false =>
   have hE : Hid (Entrow ks l1 e1 l e) := hC.out.1
   have hIt := hide (HI2.out (And1 F (.slice A ks.length c)) l1 e1 wr hP.out (by omega) hpot)
   clear hC
   go_upto_region 6 with (go_at_call 214; (with_reducible refine (hIt.out).mono ?_); rintro en w3 ⟨ok, k, l2, e2, rfl, hr, hp3, hg3⟩; have HR := Lib.hid hr; have HP3 := Lib.hid hp3; have HG3 := Lib.hid (hG.out.trans hg3); have HK3 := Lib.hid (Kd.gr hg3 hRB (by omega) hBw hK.out); clear hp3 hg3 hr)
   have hpot2 := HR.out.pot
   have hfew := HR.out.fewer
   cases ok with
   | false =>
    go_wp2_with fail
    exact bodyPost_ret (v := .tuple #[.int .i64 0, .bool false]) (by simp [results, Tryz.results166, go_sem]) rfl ⟨false, 0, l2, e2, rfl, hE.out.bad HR.out, HP3.out.weaken (fun g h => .inl h), HG3.out⟩
   | true =>
    have hless := HR.out.less rfl
    have hk1 : (k : Int) < 1000 ∧ e2.length + 2 * l2.length ≤ 1000 := by have := HR.out.place; omega
    have HROW := Lib.hid (row_one w3 (k : Int) (WalkArith.wf_i64 (by omega)))
    have HO2 := Lib.hid (World.ownsRow.alloc HK3.out (.cells #[.int .i64 (k : Int)] 3))
    have HP4 := Lib.hid (HP3.out.alloc (.cells #[.int .i64 (k : Int)] 3))
    have hz3 := HG3.out.size
    have HBeh := Lib.hid (hE.out.next HR.out)
    clear hpot2 hfew
    go_wp2_with (at_builtin; (refine wpList_app rfl (.tmp 27) (.tmp 29) _ rfl .i64 w.heap.size 3 i0 8 Tryz.underlying39 hi hz hs1 hs2 (by omega) _ ks.length (pl ks) rfl HO2.out _ 1 1 [(k : Int)] rfl HROW.out (by have := hKS.out; omega) (by simp; omega) ?_); intro v' w4 hown hg hat; have HK5 : Hid (Kd w4 w.heap.size v' (ks ++ [k])) := (by show World.ownsRow _ _ _ _ _ _ _; simpa [pl] using hown); have HP5 := Lib.hid (PS.kids HP4.out (Kd.base HO2.out hBw) hg (Kd.base HK5.out hBw) hat); have HG5 := Lib.hid (Gr.own (HG3.out.alloc (.cells #[.int .i64 (k : Int)] 3)) hg (fun i hi => (World.ownsRow.lt HK3.out i hi).1)); obtain ⟨A5, c5, hv5⟩ := HK5.out.one; subst hv5; clear hown hg hat)
    go_roundw
    case rel => exact ⟨A5, c5, true, ks ++ [k], l2, e2, by simp, rfl, by simp; omega, hk1.2, HK5, HP5, HG5, HBeh⟩
    case measure => rw [hleft.out, HP5.out.left]; first | exact hless | (simp only [List.length_cons]; omega)
  | true =>
   have hB : Hid (Behrow ks l1 e1 l e) := hC.out
   clear hC
   by_cases hmo : hd l1 = 1 ∨ hd l1 = 2
   ·have hMo := hide (more_row_yes B R E X (And1 F (.slice A ks.length c)) l1 e1 wr hP.out (by omega) (hG.out.boxed HX0.out (by omega) (by omega) (by decide)) hmo)
    have hE : Hid (Entrow ks l1 e1 l e) := hB.out.2.1 hmo
    have hlow : l1.length ≤ l1.length := Nat.le_refl _
    clear hmo
    have hIt := hide (fun W (g : PS W B R E (And1 F (.slice A ks.length c)) l1 e1) => HI2.out (And1 F (.slice A ks.length c)) l1 e1 W g (by omega) (by omega))
    go_upto_region 6 with (first
     | (go_at_call 215; (with_reducible refine (hMo.out).mono ?_); rintro en w2 ⟨rfl, hp2, hg2⟩; have HP2 := Lib.hid hp2; have HG2 := Lib.hid (hG.out.trans hg2); have HK2 := Lib.hid (Kd.gr hg2 hRB (by omega) hBw hK.out); clear hp2 hg2)
     | (go_at_call 214; (with_reducible refine (hIt.out _ HP2.out).mono ?_); rintro en w3 ⟨ok, k, l2, e2, rfl, hr, hp3, hg3⟩; have HR := Lib.hid hr; have HP3 := Lib.hid hp3; have HG3 := Lib.hid (HG2.out.trans hg3); have HK3 := Lib.hid (Kd.gr hg3 hRB (by omega) (Nat.le_trans hBw (Nat.le_refl _)) HK2.out); clear hp3 hg3 hr))
    have hpot2 := HR.out.pot
    have hfew := HR.out.fewer
    cases ok with
    | false =>
     go_wp2_with fail
     exact bodyPost_ret (v := .tuple #[.int .i64 0, .bool false]) (by simp [results, Tryz.results166, go_sem]) rfl ⟨false, 0, l2, e2, rfl, hE.out.bad HR.out, HP3.out.weaken (fun g h => .inl h), HG3.out⟩
    | true =>
     have hless := HR.out.less rfl
     have hk1 : (k : Int) < 1000 ∧ e2.length + 2 * l2.length ≤ 1000 := by have := HR.out.place; omega
     have HROW := Lib.hid (row_one w3 (k : Int) (WalkArith.wf_i64 (by omega)))
     have HO2 := Lib.hid (World.ownsRow.alloc HK3.out (.cells #[.int .i64 (k : Int)] 3))
     have HP4 := Lib.hid (HP3.out.alloc (.cells #[.int .i64 (k : Int)] 3))
     have hz3 := HG3.out.size
     have HBeh := Lib.hid (hE.out.next HR.out)
     clear hpot2 hfew
     go_wp2_with (at_builtin; (refine wpList_app rfl (.tmp 27) (.tmp 29) _ rfl .i64 w.heap.size 3 i0 8 Tryz.underlying39 hi hz hs1 hs2 (by omega) _ ks.length (pl ks) rfl HO2.out _ 1 1 [(k : Int)] rfl HROW.out (by have := hKS.out; omega) (by simp; omega) ?_); intro v' w4 hown hg hat; have HK5 : Hid (Kd w4 w.heap.size v' (ks ++ [k])) := (by show World.ownsRow _ _ _ _ _ _ _; simpa [pl] using hown); have HP5 := Lib.hid (PS.kids HP4.out (Kd.base HO2.out hBw) hg (Kd.base HK5.out hBw) hat); have HG5 := Lib.hid (Gr.own (HG3.out.alloc (.cells #[.int .i64 (k : Int)] 3)) hg (fun i hi => (World.ownsRow.lt HK3.out i hi).1)); obtain ⟨A5, c5, hv5⟩ := HK5.out.one; subst hv5; clear hown hg hat)
     go_roundw
     case rel => exact ⟨A5, c5, true, ks ++ [k], l2, e2, by simp, rfl, by simp; omega, hk1.2, HK5, HP5, HG5, HBeh⟩
     case measure => rw [hleft.out, HP5.out.left]; first | exact hless | (simp only [List.length_cons]; omega)
   ·have hMo := hide (more_row_no B R E X (And1 F (.slice A ks.length c)) l1 e1 wr hP.out (by omega) (hG.out.boxed HX0.out (by omega) (by omega) (by decide)) (by omega) (by omega))
    have hE : Hid (Rd (.row []) l e true (whole 2 e1 ks).1 l1 (whole 2 e1 ks).2) := hB.out.2.2 (by omega) (by omega)
    clear hmo
    have hne : Hid (ks ≠ []) := hB.out.1
    go_upto_region 9 with (go_at_call 215; (with_reducible refine (hMo.out).mono ?_); rintro en w2 ⟨rfl, hp2, hg2⟩; have HP2 := Lib.hid hp2; have HG2 := Lib.hid (hG.out.trans hg2); have HK2 := Lib.hid (Kd.gr hg2 hRB (by omega) hBw hK.out); clear hp2 hg2)
    by_cases h1 : ks.length = 1
    ·obtain ⟨k0, rfl⟩ : ∃ k0, ks = [k0] := List.length_eq_one_iff.1 h1
     obtain ⟨g, rfl, _, hc0⟩ := HK2.out.first
     clear h1
     go_wp2_with fail
     exact bodyPost_ret (v := .tuple #[.int .i64 (k0 : Int), .bool true]) (by simp [results, Tryz.results166, go_sem]) rfl ⟨true, k0, l1, e1, rfl, hE.out, HP2.out.weaken (fun g h => .inl h), HG2.out⟩
    ·have t1 : ((ks.length : Int) == 1) = false := by simp; omega
     have t2 : (ks.length == 1) = false := by simp; omega
     have HW : Hid (whole 2 e1 ks = (e1.length, e1 ++ [⟨2, 0, 0, [], ks⟩])) := by
      show _ = _
      unfold whole
      split
      ·rename_i k0; simp at h1
      ·rfl
     obtain ⟨_, _, _, c1, _, _, hR2, _⟩ := HP2.out.opens
     have HL := hide (lay_any B R E F l1 e1 w2 (HP2.out.weaken (fun g h => .inl h)) (by omega) 2 0 0 [] ks (.slice A ks.length c) (Kd.base HK2.out hBw) (fun g hg hf => by have := (World.ownsRow.lt HK2.out g hg).1; have := HP0.out.fw g hf; omega))
     clear h1
     go_wp2_with (go_at_call 115; (with_reducible refine (HL.out).mono ?_); rintro en w9 ⟨rfl, hp9, hg9⟩; have HP9 := Lib.hid hp9; have HG9 := Lib.hid (HG2.out.trans hg9); clear hp9 hg9)
     have hE2 := hE.out
     rw [HW.out] at hE2
     exact bodyPost_ret (v := .tuple #[.int .i64 (e1.length : Int), .bool true]) (by simp [results, Tryz.results166, go_sem]) rfl ⟨true, e1.length, l1, _, rfl, hE2, HP9.out, HG9.out⟩
def Entchoice (ks : List Nat) (l1 : List Sg) (e1 : List Pt) (l : List Sg) (e : List Pt) : Prop := ∀ ok k l' e', Rd (.choice ks) l1 e1 ok k l' e' → Rd (.choice []) l e ok k l' e'
def Behchoice (ks : List Nat) (l1 : List Sg) (e1 : List Pt) (l : List Sg) (e : List Pt) : Prop := ks ≠ [] ∧ (∀ x l0, l1 = x :: l0 → x.kind = 4 → Entchoice ks l0 e1 l e) ∧ (hd l1 ≠ 4 → Rd (.choice []) l e true (whole 3 e1 ks).1 l1 (whole 3 e1 ks).2)
theorem Entchoice.next {ks : List Nat} {l1 l2 l : List Sg} {e1 e2 e : List Pt} {k : Nat} (h : Entchoice ks l1 e1 l e) (hr : Rd (.row []) l1 e1 true k l2 e2) : Behchoice (ks ++ [k]) l2 e2 l e :=
 ⟨by simp, fun x l0 h4 hk ok k' l' e' h' => by subst h4; exact h _ _ _ _ (.chMore hr hk h'), fun h4 => h _ _ _ _ (.chEnd hr h4)⟩
theorem Entchoice.bad {ks : List Nat} {l1 l2 l : List Sg} {e1 e2 e : List Pt} {k : Nat} (h : Entchoice ks l1 e1 l e) (hr : Rd (.row []) l1 e1 false k l2 e2) : Rd (.choice []) l e false 0 l2 e2 := h _ _ _ _ (.chBad hr)
theorem several_choice (B R E N X : Nat) (HI : Reads 167 (.row []) B R E N) (F : Nat → Prop) (l : List Sg) (e : List Pt) (w : World) (hp : PS w B R E F l e) (hl : l.length ≤ N) (he : e.length + 2 * l.length ≤ 1000) (hx : Boxed w X 271 (.pointer (some ⟨R, 0, none⟩))) (hX : B ≤ X) :
  Calls Tryz.prog 166 #[.pointer (some ⟨R, 0, none⟩), .int .i64 3, .func (.func 167) #[.pointer (some ⟨R, 0, none⟩)] #[], .func (.func 168) #[] #[.pointer (some ⟨X, 0, none⟩)]] w (RdP (.choice []) B R E F l e w) := by
 obtain ⟨i0, hi, hz, hs1, hs2⟩ := info_parts info_i64
 have HI2 := hide HI
 have hRB := hp.rB
 have hER := hp.eR
 have hBw := hp.bw
 have HP0 := hide hp
 have HX0 := hide hx
 clear HI hp hx
 go_enter Tryz.func166, Tryz.ntmps166
 go_wp2_with fail
 go_loopw [10, 11] (fun v bv wr => ∃ (A : Option Addr) (c : Nat) (b : Bool) (ks : List Nat) (l1 : List Sg) (e1 : List Pt), v = .slice A ks.length c ∧ bv = .bool b ∧ ks.length + l1.length ≤ l.length ∧ e1.length + 2 * l1.length ≤ 1000 ∧ Hid (Kd wr w.heap.size (.slice A ks.length c) ks) ∧ Hid (PS wr B R E (And1 F (.slice A ks.length c)) l1 e1) ∧ Hid (Gr B R E w wr) ∧ Hid (if b then Behchoice ks l1 e1 l e else Entchoice ks l1 e1 l e ∧ ks = [])) (fun _ _ wr => left wr R)
 case atStart => exact ⟨none, 0, false, [], l, e, rfl, rfl, by simp, he, Lib.hid (Kd.nil _ _), Lib.hid HP0.out.of_nil, Lib.hid (Gr.refl w), Lib.hid ⟨fun ok k l' e' h => h, rfl⟩⟩
 case round =>
  obtain ⟨A, c, b, ks, l1, e1, rfl, rfl, hks, hpot, hK, hP, hG, hC⟩ := hrel
  have hKS : Hid (ks.length ≤ 1000) := by show _ ≤ _; omega
  have hleft := Lib.hid hP.out.left
  cases b with
  | false =>
   have hE : Hid (Entchoice ks l1 e1 l e) := hC.out.1
   have hIt := hide (HI2.out (And1 F (.slice A ks.length c)) l1 e1 wr hP.out (by omega) hpot)
   clear hC
   go_upto_region 6 with (go_at_call 167; (with_reducible refine (hIt.out).mono ?_); rintro en w3 ⟨ok, k, l2, e2, rfl, hr, hp3, hg3⟩; have HR := Lib.hid hr; have HP3 := Lib.hid hp3; have HG3 := Lib.hid (hG.out.trans hg3); have HK3 := Lib.hid (Kd.gr hg3 hRB (by omega) hBw hK.out); clear hp3 hg3 hr)
   have hpot2 := HR.out.pot
   have hfew := HR.out.fewer
   cases ok with
   | false =>
    go_wp2_with fail
    exact bodyPost_ret (v := .tuple #[.int .i64 0, .bool false]) (by simp [results, Tryz.results166, go_sem]) rfl ⟨false, 0, l2, e2, rfl, hE.out.bad HR.out, HP3.out.weaken (fun g h => .inl h), HG3.out⟩
   | true =>
    have hless := HR.out.less rfl
    have hk1 : (k : Int) < 1000 ∧ e2.length + 2 * l2.length ≤ 1000 := by have := HR.out.place; omega
    have HROW := Lib.hid (row_one w3 (k : Int) (WalkArith.wf_i64 (by omega)))
    have HO2 := Lib.hid (World.ownsRow.alloc HK3.out (.cells #[.int .i64 (k : Int)] 3))
    have HP4 := Lib.hid (HP3.out.alloc (.cells #[.int .i64 (k : Int)] 3))
    have hz3 := HG3.out.size
    have HBeh := Lib.hid (hE.out.next HR.out)
    clear hpot2 hfew
    go_wp2_with (at_builtin; (refine wpList_app rfl (.tmp 27) (.tmp 29) _ rfl .i64 w.heap.size 3 i0 8 Tryz.underlying39 hi hz hs1 hs2 (by omega) _ ks.length (pl ks) rfl HO2.out _ 1 1 [(k : Int)] rfl HROW.out (by have := hKS.out; omega) (by simp; omega) ?_); intro v' w4 hown hg hat; have HK5 : Hid (Kd w4 w.heap.size v' (ks ++ [k])) := (by show World.ownsRow _ _ _ _ _ _ _; simpa [pl] using hown); have HP5 := Lib.hid (PS.kids HP4.out (Kd.base HO2.out hBw) hg (Kd.base HK5.out hBw) hat); have HG5 := Lib.hid (Gr.own (HG3.out.alloc (.cells #[.int .i64 (k : Int)] 3)) hg (fun i hi => (World.ownsRow.lt HK3.out i hi).1)); obtain ⟨A5, c5, hv5⟩ := HK5.out.one; subst hv5; clear hown hg hat)
    go_roundw
    case rel => exact ⟨A5, c5, true, ks ++ [k], l2, e2, by simp, rfl, by simp; omega, hk1.2, HK5, HP5, HG5, HBeh⟩
    case measure => rw [hleft.out, HP5.out.left]; first | exact hless | (simp only [List.length_cons]; omega)
  | true =>
   have hB : Hid (Behchoice ks l1 e1 l e) := hC.out
   clear hC
   by_cases hmo : hd l1 = 4
   ·cases l1 with
    | nil => simp [hd] at hmo
    | cons x l1 =>
    have hx4 : x.kind = 4 := hmo
    simp only [List.length_cons] at hks hpot
    have hMo := hide (more_choice_yes B R E X (And1 F (.slice A ks.length c)) x l1 e1 wr hP.out (by omega) (hG.out.boxed HX0.out (by omega) (by omega) (by decide)) hx4)
    have hE : Hid (Entchoice ks l1 e1 l e) := hB.out.2.1 x l1 rfl hx4
    clear hmo hx4
    have hIt := hide (fun W (g : PS W B R E (And1 F (.slice A ks.length c)) l1 e1) => HI2.out (And1 F (.slice A ks.length c)) l1 e1 W g (by omega) (by omega))
    go_upto_region 6 with (first
     | (go_at_call 168; (with_reducible refine (hMo.out).mono ?_); rintro en w2 ⟨rfl, hp2, hg2⟩; have HP2 := Lib.hid hp2; have HG2 := Lib.hid (hG.out.trans hg2); have HK2 := Lib.hid (Kd.gr hg2 hRB (by omega) hBw hK.out); clear hp2 hg2)
     | (go_at_call 167; (with_reducible refine (hIt.out _ HP2.out).mono ?_); rintro en w3 ⟨ok, k, l2, e2, rfl, hr, hp3, hg3⟩; have HR := Lib.hid hr; have HP3 := Lib.hid hp3; have HG3 := Lib.hid (HG2.out.trans hg3); have HK3 := Lib.hid (Kd.gr hg3 hRB (by omega) (Nat.le_trans hBw (Nat.le_refl _)) HK2.out); clear hp3 hg3 hr))
    have hpot2 := HR.out.pot
    have hfew := HR.out.fewer
    cases ok with
    | false =>
     go_wp2_with fail
     exact bodyPost_ret (v := .tuple #[.int .i64 0, .bool false]) (by simp [results, Tryz.results166, go_sem]) rfl ⟨false, 0, l2, e2, rfl, hE.out.bad HR.out, HP3.out.weaken (fun g h => .inl h), HG3.out⟩
    | true =>
     have hless := HR.out.less rfl
     have hk1 : (k : Int) < 1000 ∧ e2.length + 2 * l2.length ≤ 1000 := by have := HR.out.place; omega
     have HROW := Lib.hid (row_one w3 (k : Int) (WalkArith.wf_i64 (by omega)))
     have HO2 := Lib.hid (World.ownsRow.alloc HK3.out (.cells #[.int .i64 (k : Int)] 3))
     have HP4 := Lib.hid (HP3.out.alloc (.cells #[.int .i64 (k : Int)] 3))
     have hz3 := HG3.out.size
     have HBeh := Lib.hid (hE.out.next HR.out)
     clear hpot2 hfew
     go_wp2_with (at_builtin; (refine wpList_app rfl (.tmp 27) (.tmp 29) _ rfl .i64 w.heap.size 3 i0 8 Tryz.underlying39 hi hz hs1 hs2 (by omega) _ ks.length (pl ks) rfl HO2.out _ 1 1 [(k : Int)] rfl HROW.out (by have := hKS.out; omega) (by simp; omega) ?_); intro v' w4 hown hg hat; have HK5 : Hid (Kd w4 w.heap.size v' (ks ++ [k])) := (by show World.ownsRow _ _ _ _ _ _ _; simpa [pl] using hown); have HP5 := Lib.hid (PS.kids HP4.out (Kd.base HO2.out hBw) hg (Kd.base HK5.out hBw) hat); have HG5 := Lib.hid (Gr.own (HG3.out.alloc (.cells #[.int .i64 (k : Int)] 3)) hg (fun i hi => (World.ownsRow.lt HK3.out i hi).1)); obtain ⟨A5, c5, hv5⟩ := HK5.out.one; subst hv5; clear hown hg hat)
     go_roundw
     case rel => exact ⟨A5, c5, true, ks ++ [k], l2, e2, by simp, rfl, by simp; omega, hk1.2, HK5, HP5, HG5, HBeh⟩
     case measure => rw [hleft.out, HP5.out.left]; first | exact hless | (simp only [List.length_cons]; omega)
   ·have hMo := hide (more_choice_no B R E X (And1 F (.slice A ks.length c)) l1 e1 wr hP.out (by omega) (hG.out.boxed HX0.out (by omega) (by omega) (by decide)) hmo)
    have hE : Hid (Rd (.choice []) l e true (whole 3 e1 ks).1 l1 (whole 3 e1 ks).2) := hB.out.2.2 hmo
    clear hmo
    have hne : Hid (ks ≠ []) := hB.out.1
    go_upto_region 9 with (go_at_call 168; (with_reducible refine (hMo.out).mono ?_); rintro en w2 ⟨rfl, hp2, hg2⟩; have HP2 := Lib.hid hp2; have HG2 := Lib.hid (hG.out.trans hg2); have HK2 := Lib.hid (Kd.gr hg2 hRB (by omega) hBw hK.out); clear hp2 hg2)
    by_cases h1 : ks.length = 1
    ·obtain ⟨k0, rfl⟩ : ∃ k0, ks = [k0] := List.length_eq_one_iff.1 h1
     obtain ⟨g, rfl, _, hc0⟩ := HK2.out.first
     clear h1
     go_wp2_with fail
     exact bodyPost_ret (v := .tuple #[.int .i64 (k0 : Int), .bool true]) (by simp [results, Tryz.results166, go_sem]) rfl ⟨true, k0, l1, e1, rfl, hE.out, HP2.out.weaken (fun g h => .inl h), HG2.out⟩
    ·have t1 : ((ks.length : Int) == 1) = false := by simp; omega
     have t2 : (ks.length == 1) = false := by simp; omega
     have HW : Hid (whole 3 e1 ks = (e1.length, e1 ++ [⟨3, 0, 0, [], ks⟩])) := by
      show _ = _
      unfold whole
      split
      ·rename_i k0; simp at h1
      ·rfl
     obtain ⟨_, _, _, c1, _, _, hR2, _⟩ := HP2.out.opens
     have HL := hide (lay_any B R E F l1 e1 w2 (HP2.out.weaken (fun g h => .inl h)) (by omega) 3 0 0 [] ks (.slice A ks.length c) (Kd.base HK2.out hBw) (fun g hg hf => by have := (World.ownsRow.lt HK2.out g hg).1; have := HP0.out.fw g hf; omega))
     clear h1
     go_wp2_with (go_at_call 115; (with_reducible refine (HL.out).mono ?_); rintro en w9 ⟨rfl, hp9, hg9⟩; have HP9 := Lib.hid hp9; have HG9 := Lib.hid (HG2.out.trans hg9); clear hp9 hg9)
     have hE2 := hE.out
     rw [HW.out] at hE2
     exact bodyPost_ret (v := .tuple #[.int .i64 (e1.length : Int), .bool true]) (by simp [results, Tryz.results166, go_sem]) rfl ⟨true, e1.length, l1, _, rfl, hE2, HP9.out, HG9.out⟩
theorem row_any (B R E N : Nat) (HI : Reads 214 .item B R E N) : Reads 167 (.row []) B R E N := by
 intro F l e w hp hl he
 have HP := Lib.hid (hp.alloc (.cells #[.pointer (some ⟨R, 0, none⟩)] 271))
 have HS := hide (several_row B R E N w.heap.size HI F l e _ HP.out hl he (Boxed.new w _ _) hp.bw)
 clear HI hp
 go_enter Tryz.func167, Tryz.ntmps167
 go_wp2_with (go_at_call 166; (with_reducible refine (HS.out).mono ?_); rintro en w3 ⟨ok, k, l2, e2, rfl, hr, hp3, hg3⟩; have HR := Lib.hid hr; have HP3 := Lib.hid hp3; have HG3 := Lib.hid (((Gr.refl w).alloc _).trans hg3); clear hp3 hg3 hr)
 exact bodyPost_ret (v := .tuple #[.int .i64 (k : Int), .bool ok]) (by simp [results, Tryz.results167, go_sem]) rfl ⟨ok, k, l2, e2, rfl, HR.out, HP3.out, HG3.out⟩
theorem choice_any (B R E N : Nat) (HI : Reads 167 (.row []) B R E N) : Reads 116 (.choice []) B R E N := by
 intro F l e w hp hl he
 have HP := Lib.hid (hp.alloc (.cells #[.pointer (some ⟨R, 0, none⟩)] 271))
 have HS := hide (several_choice B R E N w.heap.size HI F l e _ HP.out hl he (Boxed.new w _ _) hp.bw)
 clear HI hp
 go_enter Tryz.func116, Tryz.ntmps116
 go_wp2_with (go_at_call 166; (with_reducible refine (HS.out).mono ?_); rintro en w3 ⟨ok, k, l2, e2, rfl, hr, hp3, hg3⟩; have HR := Lib.hid hr; have HP3 := Lib.hid hp3; have HG3 := Lib.hid (((Gr.refl w).alloc _).trans hg3); clear hp3 hg3 hr)
 exact bodyPost_ret (v := .tuple #[.int .i64 (k : Int), .bool ok]) (by simp [results, Tryz.results116, go_sem]) rfl ⟨ok, k, l2, e2, rfl, HR.out, HP3.out, HG3.out⟩
theorem choice_reads (B R E : Nat) : ∀ N, Reads 116 (.choice []) B R E N := by
 intro N
 induction N using Nat.strongRecOn with
 | _ N ih => exact choice_any B R E N (row_any B R E N (item_any B R E N (bare_any B R E N ih)))
end Go.Proofs.YtnbchikiiipejaaGreatDoor.Ex
namespace Go.Proofs.YtnbchikiiipejaaGreatDoor.Ex
open Go.RowKit Mem Lx
def ParseOut (n : Nat) (w : World) (en : Ending) (w' : World) (ok : Bool) (l' : List Sg) (e' : List Pt) : Prop :=
 match l' with
 | x :: _ => en = .returned (.tuple #[.slice none 0 0, .int .i64 x.at_, .int .i64 2])
 | [] => if ok then ∃ v vs, en = .returned (.tuple #[v, .int .i64 0, .int .i64 0]) ∧ w'.ownsRow w.heap.size 217 5 v e'.length vs ∧ PVs w' w.heap.size e' vs
  else en = .returned (.tuple #[.slice none 0 0, .int .i64 n, .int .i64 5])
def ParseIs (s : ByteArray) (w : World) (en : Ending) (w' : World) : Prop :=
 Below w.heap.size w w' ∧ match Lex s.data.toList with
  | .bad p c => en = .returned (.tuple #[.slice none 0 0, .int .i64 p, .int .i64 c])
  | .ok [] _ => en = .returned (.tuple #[.slice none 0 0, .int .i64 0, .int .i64 0])
  | .ok l _ => ∃ ok k l' e', Rd (.choice []) l [] ok k l' e' ∧ ParseOut s.size w en w' ok l' e'
theorem PVs.base {w : World} {B B' : Nat} (hb : B' ≤ B) : ∀ {ps : List Pt} {vs : List Value}, PVs w B ps vs → PVs w B' ps vs
 | [], _, h => h
 | p :: ps, _, ⟨kv, rest, e, h3, h4⟩ => ⟨kv, rest, e, h3.base hb, PVs.base hb h4⟩
theorem ownsRow_base {w : World} {B B' : Nat} {e : TypeId} {size n : Nat} {v : Value} {xs : List Value} (h : w.ownsRow B e size v n xs) (hb : B' ≤ B) : w.ownsRow B' e size v n xs := by
 refine ⟨h.1, ?_⟩
 rcases h.2 with h0 | ⟨g, cap, cur, e, hb2, rest⟩
 ·exact .inl h0
 ·exact .inr ⟨g, cap, cur, e, by omega, rest⟩
theorem PS.new {w : World} {l : List Sg} {A : Option Addr} {c : Nat} (hl : l.length ≤ c) (hg : GRow w A l.length l) :
  PS ((w.alloc (.cells #[.slice none 0 0] 116)).alloc (.cells #[.slice A l.length c, .func (.func 115) #[] #[.pointer (some ⟨w.heap.size, 0, none⟩)]] 220)) (w.heap.size + 2) (w.heap.size + 1) w.heap.size (fun _ => False) l [] := by
 have hb : Below w.heap.size w ((w.alloc (.cells #[.slice none 0 0] 116)).alloc (.cells #[.slice A l.length c, .func (.func 115) #[] #[.pointer (some ⟨w.heap.size, 0, none⟩)]] 220)) := ((Below.refl _ _).alloc (Nat.le_refl _) _).alloc (by simp) _
 refine ⟨⟨A, c, ?_, hl, hg.below hb, fun hn => ?_⟩, ⟨.slice none 0 0, [], (Boxed.new w _ _).alloc _, World.ownsRow_nil _ _ _ _, rfl, ?_⟩, by omega, by omega, by simp, fun g h => h.elim⟩
 ·have := World.alloc_heap_new (w.alloc (.cells #[.slice none 0 0] 116)) (.cells #[.slice A l.length c, .func (.func 115) #[] #[.pointer (some ⟨w.heap.size, 0, none⟩)]] 220)
  rw [World.size_alloc] at this
  exact this
 ·obtain ⟨b, off, e, hb2, _⟩ := hg.2 hn
  exact ⟨b, off, e, hb2⟩
 ·intro u hu; simp at hu
theorem parse_any (s : ByteArray) (w : World) (hs : s.size ≤ 100000) (H : Held w) : Calls Tryz.prog 68 #[.string s] w (ParseIs s w) := by
 have HL := hide (lex_any s w hs H)
 obtain ⟨L, hL⟩ : ∃ L, L = Lex s.data.toList := ⟨_, rfl⟩
 have HE := lex_ends s.data.toList
 rw [← hL] at HE
 have HLL := Lib.hid hL
 clear H
 rcases HE with ⟨l, rfl, hfine, h200⟩ | ⟨p, c, rfl, hc⟩
 ·have hHL : Hid (Calls Tryz.prog 114 #[.string s] w fun e w' => Below w.heap.size w w' ∧ ∃ A c, e = .returned (.tuple #[.slice A l.length c, .int .i64 0, .int .i64 0]) ∧ l.length ≤ c ∧ GRow w' A l.length l) := by
   show Calls _ _ _ _ _
   refine HL.out.mono fun e w' ⟨h1, h2⟩ => ⟨h1, ?_⟩
   rw [← HLL.out] at h2
   exact h2
  clear HL
  cases l with
  | nil =>
   go_enter Tryz.func68, Tryz.ntmps68
   go_wp2_with (go_at_call 114; (with_reducible refine (hHL.out).mono ?_); rintro en w1 ⟨hb1, A, c, rfl, hlc, hgr⟩; have HB1 := Lib.hid hb1; clear hb1)
   exact bodyPost_ret (v := .tuple #[.slice none 0 0, .int .i64 0, .int .i64 0]) (by simp [results, Tryz.results68, go_sem]) rfl ⟨HB1.out, by rw [← HLL.out]⟩
  | cons x l =>
   have hn1 : ((((x :: l).length : Nat) : Int) == 0) = false := by simp; omega
   go_enter Tryz.func68, Tryz.ntmps68
   go_upto_region 6 with (go_at_call 114; (with_reducible refine (hHL.out).mono ?_); rintro en w1 ⟨hb1, A, c, rfl, hlc, hgr⟩; have HB1 := Lib.hid hb1; clear hb1)
   have HP0 : Hid (PS ((w1.alloc (.cells #[.slice none 0 0] 116)).alloc (.cells #[.slice A (l.length + 1) c, .func (.func 115) #[] #[.pointer (some ⟨w1.heap.size, 0, none⟩)]] 220)) (w1.heap.size + 2) (w1.heap.size + 1) w1.heap.size (fun _ => False) (x :: l) []) := PS.new (A := A) (c := c) hlc hgr
   have HB0 : Hid (Below w.heap.size w ((w1.alloc (.cells #[.slice none 0 0] 116)).alloc (.cells #[.slice A (l.length + 1) c, .func (.func 115) #[] #[.pointer (some ⟨w1.heap.size, 0, none⟩)]] 220))) := ((HB1.out.alloc HB1.out.size _).alloc (by have := HB1.out.size; simp; omega) _)
   have HCH := hide (choice_reads (w1.heap.size + 2) (w1.heap.size + 1) w1.heap.size 200 (fun _ => False) (x :: l) [] _ HP0.out h200 (by simp at h200 ⊢; omega))
   have hz1 := HB1.out.size
   clear hgr
   go_upto_region 7 with (go_at_call 116; (with_reducible refine (HCH.out).mono ?_); rintro en w3 ⟨ok, k, l2, e2, rfl, hr, hp3, hg3⟩; have HR := Lib.hid hr; have HP3 := Lib.hid hp3; have HG3 := Lib.hid hg3; clear hp3 hg3 hr)
   have HB3 : Hid (Below w.heap.size w w3) := HB0.out.trans (HG3.out.below (b := w.heap.size) (by omega) (by omega) (by omega) HB0.out.size)
   have fin : ∀ en w', ParseOut s.size w en w' ok l2 e2 → Below w.heap.size w w' → ParseIs s w en w' := by
    intro en w' h hb
    refine ⟨hb, ?_⟩
    rw [← HLL.out]
    exact ⟨ok, k, l2, e2, HR.out, h⟩
   have FIN := hide fin
   clear fin
   obtain ⟨A3, c3, c0, _, hc3, f0, hR3, hA3⟩ := HP3.out.opens
   cases l2 with
   | nil =>
    cases ok with
    | false =>
     go_wp2_with fail
     exact bodyPost_ret (v := .tuple #[.slice none 0 0, .int .i64 s.size, .int .i64 5]) (by simp [results, Tryz.results68, go_sem]) rfl (FIN.out _ _ rfl HB3.out)
    | true =>
     obtain ⟨v, vs, hbx, hrow, hpv, _⟩ := HP3.out.lb
     obtain ⟨A4, c4, rfl⟩ := own_form5 hrow
     have e0 := hbx.cell
     have HROW := Lib.hid (ownsRow_base hrow (show w.heap.size ≤ w1.heap.size + 2 from by omega))
     have HPV := Lib.hid (PVs.base (show w.heap.size ≤ w1.heap.size + 2 from by omega) hpv)
     clear hbx hrow hpv
     go_wp2_with fail
     exact bodyPost_ret (v := .tuple #[.slice A4 e2.length c4, .int .i64 0, .int .i64 0]) (by simp [results, Tryz.results68, go_sem]) rfl (FIN.out _ _ ⟨_, vs, rfl, HROW.out, HPV.out⟩ HB3.out)
   | cons y l2 =>
    obtain ⟨b, off, rfl⟩ := hA3 (by simp)
    obtain ⟨A5, c5, hh, _, hg5, _⟩ := HP3.out.rb
    have hh0 : w3.cell? ⟨w1.heap.size + 1, 0, none⟩ = some (.slice A5 (y :: l2).length c5) := by simp [World.cell?, hh]
    rw [c0] at hh0
    simp only [Option.some.injEq, Value.slice.injEq] at hh0
    obtain ⟨rfl, -, -⟩ := hh0
    obtain ⟨b', off', e1, hb5, hcell⟩ := hg5.2 (by simp)
    simp only [Option.some.injEq, Addr.mk.injEq] at e1
    obtain ⟨rfl, rfl, -⟩ := e1
    have a1 := (hcell 0 (by simp)).2.1
    simp only [List.getElem_cons_zero, Nat.zero_mul, Nat.add_zero] at a1
    have t1 : decide ((0 : Int) < (l2.length : Int) + 1) = true := by simp
    have t2 : decide (0 < l2.length + 1) = true := by simp
    clear hcell hg5 hh
    go_wp2_with fail
    go_quiet (fail)
    go_wp2_with fail
    exact bodyPost_ret (v := .tuple #[.slice none 0 0, .int .i64 y.at_, .int .i64 2]) (by simp [results, Tryz.results68, go_sem]) rfl (FIN.out _ _ rfl (below_drewN HB3.out nq))
 ·have hHL : Hid (Calls Tryz.prog 114 #[.string s] w fun e w' => Below w.heap.size w w' ∧ e = .returned (.tuple #[.slice none 0 0, .int .i64 p, .int .i64 c])) := by
   show Calls _ _ _ _ _
   refine HL.out.mono fun e w' ⟨h1, h2⟩ => ⟨h1, ?_⟩
   rw [← HLL.out] at h2
   exact h2
  have t1 : (c != 0) = true := by simpa using hc
  clear HL hc
  go_enter Tryz.func68, Tryz.ntmps68
  go_wp2_with (go_at_call 114; (with_reducible refine (hHL.out).mono ?_); rintro en w1 ⟨hb1, rfl⟩; have HB1 := Lib.hid hb1; clear hb1)
  exact bodyPost_ret (v := .tuple #[.slice none 0 0, .int .i64 p, .int .i64 c]) (by simp [results, Tryz.results68, go_sem]) rfl ⟨HB1.out, by rw [← HLL.out]⟩
end Go.Proofs.YtnbchikiiipejaaGreatDoor.Ex
