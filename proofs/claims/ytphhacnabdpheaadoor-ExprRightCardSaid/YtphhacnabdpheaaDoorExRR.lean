/- A slice of signs that came in, opened. A slice of parts that came in, opened; a slice of numbers likewise. Expressions: the signs that tell right parts are read as those parts; signs but for their places. Plain lists. Walks of the reference of Right: few, whole. Walks of the reference of Right. -/
import Derived.Test.YtphhacnabdpheaaDoorLxMem
import Derived.Test.YtphhacnabdpheaaDoorLxEnds
import Derived.ProofKit
import Derived.OpenShut
import Derived.Deep.SlicePairs
import Derived.Test.YtphhacnabdpheaaDoorExPR
import Derived.Test.YtphhacnabdpheaaDoorExAll
import Derived.Deep.CutRange
namespace Go.Proofs.YtphhacnabdpheaaDoor.Lx
open Go.ChangeShapes Go.WideShapes Go.Deep Go.RowKit

theorem choose_all {α : Type} {n : Nat} {R : Nat → α → Prop} (d : α) (h : ∀ i, i < n → ∃ x, R i x) : ∃ F : Nat → α, ∀ i, i < n → R i (F i) := by
  have h' : ∀ i, ∃ x, i < n → R i x := by
    intro i
    by_cases hi : i < n
    · obtain ⟨x, hx⟩ := h i hi; exact ⟨x, fun _ => hx⟩
    · exact ⟨d, fun h => absurd h hi⟩
  exact ⟨fun i => Classical.choose (h' i), fun i => Classical.choose_spec (h' i)⟩
theorem wf_64 {v : Int} (h : (Lit.int .i64 v).wf = true) : I64 v := by
  have hmin : IntKind.i64.min = -9223372036854775808 := rfl
  have hmax : IntKind.i64.max = 9223372036854775807 := rfl
  simp only [Lit.wf, Bool.and_eq_true, decide_eq_true_eq] at h
  unfold I64; omega
theorem str_list (s : ByteArray) : s = ⟨s.data.toList.toArray⟩ := by cases s; simp

theorem open_signs {H : Type} {enc : TypeId × Value → H} {P : Program} {W : World} {spare : Nat → Bool} {held : Bool} {t e ti ts : TypeId} {f0 f1 f2 f3 f4 : Field} {fuel : Nat} {a0 : Option Addr} {len0 cap0 : Nat} {x : DataW H × List MemPlace}
    (ht : P.underlying t = some (.slice e)) (he : P.underlying e = some (.struct #[f0, f1, f2, f3, f4])) (hce : P.cellsOf e = 5)
    (hi : P.underlying ti = some (.int .i64)) (hs : P.underlying ts = some .string)
    (k0 : f0.type = ti ∧ f0.offset = 0) (k1 : f1.type = ti ∧ f1.offset = 1) (k2 : f2.type = ti ∧ f2.offset = 2) (k3 : f3.type = ti ∧ f3.offset = 3) (k4 : f4.type = ts ∧ f4.offset = 4)
    (ci : P.cellsOf ti = 1) (cst : P.cellsOf ts = 1)
    (h : DataW.trod enc P W 0 spare held fuel t [.slice a0 len0 cap0] = some x) :
    ∃ l : List Sg, GRow W a0 len0 l ∧ len0 ≤ maxLen ∧ ∀ x ∈ l, I64 x.low ∧ I64 x.high ∧ x.name.length ≤ maxLen := by
  rcases open_slice ht h with ⟨hcs, _⟩ | ⟨a, len, cap, m, n, D, Pl, hcs, _, hl, hm, hmm, _, hx⟩
  · simp only [List.cons.injEq, and_true, Value.slice.injEq] at hcs
    obtain ⟨rfl, rfl, rfl⟩ := hcs
    exact ⟨[], GRow.nil, Nat.zero_le _, fun x hx => by simp at hx⟩
  · simp only [List.cons.injEq, and_true, Value.slice.injEq] at hcs
    obtain ⟨rfl, rfl, rfl⟩ := hcs
    have hlm : len0 ≤ m := by rw [hmm]; split <;> omega
    have each : ∀ i, i < len0 → ∃ q : Sg, (I64 q.low ∧ I64 q.high ∧ q.name.length ≤ maxLen) ∧ ∀ j v, (cells1 q)[j]? = some v → W.cell? ((a.add (i * 5)).add j) = some v := by
      intro i hil
      obtain ⟨cs', h1, h2⟩ := hx i (by omega)
      rw [hce] at h1
      obtain ⟨_, hlen, hcell⟩ := World.cells?_some h1
      obtain ⟨ys, m2, _, hy, _, hyl, hyf⟩ := DataW.trod_struct he h2
      match ys, hyl, cs', hlen with
      | [y0, y1, y2, y3, y4], _, [v0, v1, v2, v3, v4], _ =>
        have g0 := hyf 0 f0 rfl
        have g1 := hyf 1 f1 rfl
        have g2 := hyf 2 f2 rfl
        have g3 := hyf 3 f3 rfl
        have g4 := hyf 4 f4 rfl
        rw [k0.1, k0.2, ci] at g0
        rw [k1.1, k1.2, ci] at g1
        rw [k2.1, k2.2, ci] at g2
        rw [k3.1, k3.2, ci] at g3
        rw [k4.1, k4.2, cst] at g4
        simp only [List.getElem?_cons_zero, List.getElem?_cons_succ, List.drop_zero, List.drop_succ_cons, List.take_succ_cons, List.take_zero] at g0 g1 g2 g3 g4
        obtain ⟨z0, c0, _, _⟩ := DataW.trod_int hi g0
        obtain ⟨z1, c1, _, _⟩ := DataW.trod_int hi g1
        obtain ⟨z2, c2, _, w2⟩ := DataW.trod_int hi g2
        obtain ⟨z3, c3, _, w3⟩ := DataW.trod_int hi g3
        obtain ⟨s, c4, _, w4⟩ := DataW.trod_string hs g4
        simp only [List.cons.injEq, and_true] at c0 c1 c2 c3 c4
        subst c0; subst c1; subst c2; subst c3; subst c4
        refine ⟨⟨z0, z1, z2, z3, s.data.toList⟩, ⟨wf_64 w2, wf_64 w3, by simpa using w4⟩, fun j v hj => ?_⟩
        have hj' : ([Value.int .i64 z0, .int .i64 z1, .int .i64 z2, .int .i64 z3, .string s] : List Value)[j]? = some v := by
          rw [← hj, cells1]
        have hjl : j < 5 := by
          have := (List.getElem?_eq_some_iff.1 hj').1
          simpa using this
        have := hcell j hjl
        rw [this]; exact hj'
    obtain ⟨F, hF⟩ := choose_all ⟨0, 0, 0, 0, []⟩ each
    refine ⟨(List.range len0).map F, ⟨by simp, fun hp => ?_⟩, by omega, fun x hx => ?_⟩
    · obtain ⟨b, off, spot⟩ := a
      have hspot : spot = none := by
        have hc := (hF 0 hp).2 0 _ rfl
        simpa [Addr.add] using World.cell?_spot hc
      subst hspot
      have ha : ∀ i j, ((⟨b, off, none⟩ : Addr).add i).add j = ⟨b, off + i + j, none⟩ := fun i j => by rw [add_plain, add_plain]
      have hlt : b < W.heap.size := by
        have hc := (hF 0 hp).2 0 _ rfl
        rw [ha] at hc
        exact World.block_lt_of_cell? W _ hc
      refine ⟨b, off, rfl, hlt, fun i hi => ?_⟩
      have hi' : i < len0 := by simpa using hi
      simp only [List.getElem_map, List.getElem_range]
      have c := fun j v hj => (hF i hi').2 j v hj
      have c0 := c 0 _ rfl
      have c1 := c 1 _ rfl
      have c2 := c 2 _ rfl
      have c3 := c 3 _ rfl
      have c4 := c 4 _ rfl
      rw [ha] at c0 c1 c2 c3 c4
      exact ⟨c0, c1, c2, c3, c4⟩
    · obtain ⟨i, hi, rfl⟩ := List.mem_map.1 hx
      exact (hF i (List.mem_range.1 hi)).1
end Go.Proofs.YtphhacnabdpheaaDoor.Lx
namespace Go.Proofs.YtphhacnabdpheaaDoor.Ex
open Go.ChangeShapes Go.WideShapes Go.Deep Go.RowKit Mem Lx

theorem open_ints {H : Type} {enc : TypeId × Value → H} {P : Program} {W : World} {spare : Nat → Bool} {held : Bool} {t e : TypeId} {fuel : Nat} {v : Value} {x : DataW H × List MemPlace}
    (ht : P.underlying t = some (.slice e)) (he : P.underlying e = some (.int .i64)) (ce : P.cellsOf e = 1)
    (h : DataW.trod enc P W 0 spare held fuel t [v] = some x) : ∃ ks : List Int, KR W v ks ∧ ks.length ≤ maxLen := by
  rcases open_slice1 ht ce h with ⟨hcs, _⟩ | ⟨a, len, cap, m, n, V, D, Pl, hcs, _, hl, hm, hmm, _, hx⟩
  · simp only [List.cons.injEq, and_true] at hcs
    subst hcs
    exact ⟨[], ⟨none, 0, rfl, Nat.le_refl _, Row.nil⟩, Nat.zero_le _⟩
  · simp only [List.cons.injEq, and_true] at hcs
    subst hcs
    have hlm : len ≤ m := by rw [hmm]; split <;> omega
    obtain ⟨F, hF⟩ := choose_all (n := len) (R := fun i (z : Int) => W.cell? (a.add i) = some (.int .i64 z) ∧ (Lit.int .i64 z).wf = true) 0 (fun i hi => by
      obtain ⟨h1, h2⟩ := hx i (by omega)
      obtain ⟨z, c0, _, w0⟩ := DataW.trod_int he h2
      simp only [List.cons.injEq, and_true] at c0
      rw [c0] at h1
      exact ⟨z, h1, w0⟩)
    refine ⟨(List.range len).map F, ⟨some a, cap, by simp, by simpa using hl, by simp, fun z hz => ?_, fun hp => ?_⟩, by simp; omega⟩
    · obtain ⟨i, hi, rfl⟩ := List.mem_map.1 hz
      exact (hF i (List.mem_range.1 hi)).2
    · simp only [List.length_map, List.length_range] at hp ⊢
      obtain ⟨b, off, spot⟩ := a
      have hspot : spot = none := by
        have hc := (hF 0 hp).1
        simpa [Addr.add] using World.cell?_spot hc
      subst hspot
      refine ⟨b, off, rfl, fun j hj => ?_⟩
      have := (hF j hj).1
      rw [add_plain] at this
      rw [this]
      simp [hj]
theorem open_parts {H : Type} {enc : TypeId × Value → H} {P : Program} {W : World} {spare : Nat → Bool} {held : Bool} {t e ti ts tk : TypeId} {f0 f1 f2 f3 f4 : Field} {fuel : Nat} {a0 : Option Addr} {len0 cap0 : Nat} {x : DataW H × List MemPlace}
    (ht : P.underlying t = some (.slice e)) (he : P.underlying e = some (.struct #[f0, f1, f2, f3, f4])) (hce : P.cellsOf e = 5)
    (hi : P.underlying ti = some (.int .i64)) (hs : P.underlying ts = some .string) (hk : P.underlying tk = some (.slice ti))
    (k0 : f0.type = ti ∧ f0.offset = 0) (k1 : f1.type = ti ∧ f1.offset = 1) (k2 : f2.type = ti ∧ f2.offset = 2) (k3 : f3.type = ts ∧ f3.offset = 3) (k4 : f4.type = tk ∧ f4.offset = 4)
    (ci : P.cellsOf ti = 1) (cst : P.cellsOf ts = 1) (ck : P.cellsOf tk = 1)
    (h : DataW.trod enc P W 0 spare held fuel t [.slice a0 len0 cap0] = some x) :
    ∃ l : List PI, PR W a0 len0 l ∧ len0 ≤ maxLen ∧ ∀ p ∈ l, (I64 p.low ∧ I64 p.high) ∧ p.name.length ≤ maxLen ∧ p.kids.length ≤ maxLen := by
  rcases open_slice ht h with ⟨hcs, _⟩ | ⟨a, len, cap, m, n, D, Pl, hcs, _, hl, hm, hmm, _, hx⟩
  · simp only [List.cons.injEq, and_true, Value.slice.injEq] at hcs
    obtain ⟨rfl, rfl, rfl⟩ := hcs
    exact ⟨[], ⟨rfl, fun h => absurd h (by omega)⟩, Nat.zero_le _, fun x hx => by simp at hx⟩
  · simp only [List.cons.injEq, and_true, Value.slice.injEq] at hcs
    obtain ⟨rfl, rfl, rfl⟩ := hcs
    have hlm : len0 ≤ m := by rw [hmm]; split <;> omega
    have each : ∀ i, i < len0 → ∃ q : PI × Value, ((I64 q.1.low ∧ I64 q.1.high) ∧ q.1.name.length ≤ maxLen ∧ q.1.kids.length ≤ maxLen) ∧ KR W q.2 q.1.kids ∧ ∀ j v, (icells q.1 q.2)[j]? = some v → W.cell? ((a.add (i * 5)).add j) = some v := by
      intro i hil
      obtain ⟨cs', h1, h2⟩ := hx i (by omega)
      rw [hce] at h1
      obtain ⟨_, hlen, hcell⟩ := World.cells?_some h1
      obtain ⟨ys, m2, _, hy, _, hyl, hyf⟩ := DataW.trod_struct he h2
      match ys, hyl, cs', hlen with
      | [y0, y1, y2, y3, y4], _, [v0, v1, v2, v3, v4], _ =>
        have g0 := hyf 0 f0 rfl
        have g1 := hyf 1 f1 rfl
        have g2 := hyf 2 f2 rfl
        have g3 := hyf 3 f3 rfl
        have g4 := hyf 4 f4 rfl
        rw [k0.1, k0.2, ci] at g0
        rw [k1.1, k1.2, ci] at g1
        rw [k2.1, k2.2, ci] at g2
        rw [k3.1, k3.2, cst] at g3
        rw [k4.1, k4.2, ck] at g4
        simp only [List.getElem?_cons_zero, List.getElem?_cons_succ, List.drop_zero, List.drop_succ_cons, List.take_succ_cons, List.take_zero] at g0 g1 g2 g3 g4
        obtain ⟨z0, c0, _, _⟩ := DataW.trod_int hi g0
        obtain ⟨z1, c1, _, w1⟩ := DataW.trod_int hi g1
        obtain ⟨z2, c2, _, w2⟩ := DataW.trod_int hi g2
        obtain ⟨s, c3, _, w3⟩ := DataW.trod_string hs g3
        obtain ⟨ks, hkr, hkl⟩ := open_ints hk hi ci g4
        simp only [List.cons.injEq, and_true] at c0 c1 c2 c3
        subst c0; subst c1; subst c2; subst c3
        refine ⟨⟨⟨z0, z1, z2, s.data.toList, ks⟩, v4⟩, ⟨⟨wf_64 w1, wf_64 w2⟩, by simpa using w3, hkl⟩, hkr, fun j v hj => ?_⟩
        have hj' : ([Value.int .i64 z0, .int .i64 z1, .int .i64 z2, .string s, v4] : List Value)[j]? = some v := by
          rw [← hj, icells]
        have hjl : j < 5 := by
          have := (List.getElem?_eq_some_iff.1 hj').1
          simpa using this
        have := hcell j hjl
        rw [this]; exact hj'
    obtain ⟨F, hF⟩ := choose_all ⟨⟨0, 0, 0, [], []⟩, .slice none 0 0⟩ each
    refine ⟨(List.range len0).map (fun i => (F i).1), ⟨by simp, fun hp => ?_⟩, by omega, fun x hx => ?_⟩
    · obtain ⟨b, off, spot⟩ := a
      have hspot : spot = none := by
        have hc := (hF 0 hp).2.2 0 _ rfl
        simpa [Addr.add] using World.cell?_spot hc
      subst hspot
      have ha : ∀ i j, ((⟨b, off, none⟩ : Addr).add i).add j = ⟨b, off + i + j, none⟩ := fun i j => by rw [add_plain, add_plain]
      have hlt : b < W.heap.size := by
        have hc := (hF 0 hp).2.2 0 _ rfl
        rw [ha] at hc
        exact World.block_lt_of_cell? W _ hc
      refine ⟨b, off, rfl, hlt, fun i hi => ?_⟩
      have hi' : i < len0 := by simpa using hi
      simp only [List.getElem_map, List.getElem_range]
      have c := fun j v hj => (hF i hi').2.2 j v hj
      have c0 := c 0 _ rfl
      have c1 := c 1 _ rfl
      have c2 := c 2 _ rfl
      have c3 := c 3 _ rfl
      have c4 := c 4 _ rfl
      rw [ha] at c0 c1 c2 c3 c4
      exact ⟨c0, c1, c2, c3, _, c4, (hF i hi').2.1⟩
    · obtain ⟨i, hi, rfl⟩ := List.mem_map.1 hx
      exact (hF i (List.mem_range.1 hi)).1
end Go.Proofs.YtphhacnabdpheaaDoor.Ex
namespace Go.Proofs.YtphhacnabdpheaaDoor.Ex
open Lx
set_option linter.unusedVariables false

/-- signs that are alike, one by one -/
inductive Al : List Sg → List Sg → Prop where
  | nil : Al [] []
  | cons {x y : Sg} {l m : List Sg} : Lx.Alike y x → Al l m → Al (x :: l) (y :: m)
theorem Al.of : ∀ {l l' : List Sg}, l'.length = l.length → (∀ j (h : j < l'.length) (h' : j < l.length), Lx.Alike l'[j] l[j]) → Al l l'
  | [], [], _, _ => .nil
  | [], y :: m, h, _ => by simp at h
  | x :: l, [], h, _ => by simp at h
  | x :: l, y :: m, h, g => .cons (g 0 (by simp) (by simp)) (Al.of (by simpa using h) (fun j h1 h2 => g (j + 1) (by simpa using h1) (by simpa using h2)))
theorem Al.split : ∀ {a b m : List Sg}, Al (a ++ b) m → ∃ c d, m = c ++ d ∧ Al a c ∧ Al b d
  | [], b, m, h => ⟨[], m, rfl, .nil, h⟩
  | x :: a, b, m, h => by
    cases h with
    | @cons _ y _ m' hy g =>
      obtain ⟨c, d, rfl, h1, h2⟩ := Al.split g
      exact ⟨y :: c, d, rfl, .cons hy h1, h2⟩
/-- signs that are alike are read alike -/
theorem Sn.alike {v : Lv} {s : List Sg} {e e' : List Pt} {k : Nat} (h : Sn v s e k e') : ∀ m, Al s m → Sn v m e k e' := by
  induction h with
  | @name x e h1 =>
    intro m g
    cases g with
    | @cons _ y _ m' hy g =>
      cases g
      have := Sn.name (x := y) (e := e) (by rw [hy.1]; exact h1)
      rw [hy.2.2.2] at this
      exact this
  | @shut x y s e e' k h2 _ h3 ih =>
    intro m g
    cases g with
    | @cons _ x' _ m' hx g =>
      obtain ⟨c, d, rfl, g1, g2⟩ := g.split
      cases g2 with
      | @cons _ y' _ m2 hy g2 =>
        cases g2
        exact .shut (by rw [hx.1]; exact h2) (ih c g1) (by rw [hy.1]; exact h3)
  | item _ ih => intro m g; exact .item (ih m g)
  | @times x s e e' k _ h5 ih =>
    intro m g
    obtain ⟨c, d, rfl, g1, g2⟩ := g.split
    cases g2 with
    | @cons _ x' _ m2 hx g2 =>
      cases g2
      have := Sn.times (ih c g1) (x := x') (by rw [hx.1]; exact h5)
      rw [hx.2.1, hx.2.2.1] at this
      exact this
  | rowMore _ _ ih1 ih2 =>
    intro m g
    obtain ⟨c, d, rfl, g1, g2⟩ := g.split
    exact .rowMore (ih1 c g1) (ih2 d g2)
  | rowEnd _ ih => intro m g; exact .rowEnd (ih m g)
  | @chMore ks x s t e e' e'' k k' _ h4 _ ih1 ih2 =>
    intro m g
    obtain ⟨c, d, rfl, g1, g2⟩ := g.split
    cases g2 with
    | @cons _ x' _ m2 hx g2 => exact .chMore (ih1 c g1) (by rw [hx.1]; exact h4) (ih2 _ g2)
  | chEnd _ ih => intro m g; exact .chEnd (ih m g)
/-- a piece begins with a name or a bracket -/
theorem Sn.head {v : Lv} {s : List Sg} {e e' : List Pt} {k : Nat} (h : Sn v s e k e') : ∀ r, hd (s ++ r) = 1 ∨ hd (s ++ r) = 2 := by
  induction h with
  | name h1 => intro r; exact .inl h1
  | shut h2 _ _ _ => intro r; exact .inr h2
  | item _ ih => exact ih
  | times _ _ ih => intro r; rw [List.append_assoc]; exact ih _
  | rowMore _ _ ih1 _ => intro r; rw [List.append_assoc]; exact ih1 _
  | rowEnd _ ih => exact ih
  | chMore _ _ _ ih1 _ => intro r; rw [List.append_assoc]; exact ih1 _
  | chEnd _ ih => exact ih
/-- what may stand behind a piece -/
def Clear (v : Lv) (r : List Sg) : Prop := match v with
  | .bare => True
  | .item => hd r ≠ 5
  | .row _ => hd r ≠ 5 ∧ hd r ≠ 1 ∧ hd r ≠ 2
  | .choice _ => hd r ≠ 5 ∧ hd r ≠ 1 ∧ hd r ≠ 2 ∧ hd r ≠ 4
/-- a piece's signs are read as it -/
theorem Sn.rd {v : Lv} {s : List Sg} {e e' : List Pt} {k : Nat} (h : Sn v s e k e') : ∀ r, Clear v r → Rd v (s ++ r) e true k r e' := by
  induction h with
  | name h1 => intro r _; exact .name h1
  | @shut x y s e e' k h2 _ h3 ih =>
    intro r _
    have := Rd.shut (x := x) (y := y) (l' := r) h2 (ih (y :: r) ⟨by simp [hd, h3], by simp [hd, h3], by simp [hd, h3], by simp [hd, h3]⟩) h3
    simpa using this
  | item _ ih => intro r hr; exact .item (ih r trivial) hr
  | @times x s e e' k _ h5 ih =>
    intro r _
    have := Rd.times (x := x) (l' := r) (ih (x :: r) trivial) h5
    simpa using this
  | @rowMore ks s t e e' e'' k k' h1 h2 ih1 ih2 =>
    intro r hr
    have hh := h2.head r
    have := Rd.rowMore (ks := ks) (ih1 (t ++ r) (by show hd _ ≠ 5; omega)) hh (ih2 r hr)
    simpa using this
  | rowEnd _ ih => intro r hr; exact .rowEnd (ih r hr.1) hr.2.1 hr.2.2
  | @chMore ks x s t e e' e'' k k' h1 h4 h2 ih1 ih2 =>
    intro r hr
    have := Rd.chMore (ks := ks) (x := x) (ih1 (x :: (t ++ r)) ⟨by simp [hd, h4], by simp [hd, h4], by simp [hd, h4]⟩) h4 (ih2 r hr)
    simpa using this
  | chEnd _ ih => intro r hr; exact .chEnd (ih r ⟨hr.1, hr.2.1, hr.2.2.1⟩) hr.2.2.2

/-- a sign that is lexed again is one that a text may have -/
theorem fine_of {x : Sg} (h : lexedI x = true) : Fine x := by
  unfold lexedI at h
  split at h
  · rename_i y n he
    have h1 := (lex_fine _ (show1 x) 0 [] [y] n (by simp) (by simp) he).1 y (by simp)
    rw [of_decide_eq_true h] at h1
    exact h1
  · cases h
theorem fits_kind {p : PI} (h : fitsI p = true) : (p.kind = 1 ∧ p.low = 0 ∧ p.high = 0 ∧ p.kids = [] ∧ Fine ⟨1, 0, 0, 0, p.name⟩) ∨ ((p.kind = 2 ∨ p.kind = 3) ∧ p.low = 0 ∧ p.high = 0 ∧ p.name = [] ∧ 2 ≤ p.kids.length) ∨ (p.kind = 4 ∧ p.name = [] ∧ p.kids.length = 1 ∧ Fine ⟨5, 0, p.low, p.high, []⟩) := by
  obtain ⟨kd, lo, hi, nm, ks⟩ := p
  unfold fitsI at h
  dsimp only at h ⊢
  split at h
  · rename_i h1
    simp only [Bool.and_eq_true, beq_iff_eq, List.length_eq_zero_iff] at h
    have hf := fine_of h.2
    have hz : lo = 0 ∧ hi = 0 := by
      rcases hf with ⟨_, a, b, _⟩ | ⟨a, _⟩ | ⟨a, _⟩
      · exact ⟨a, b⟩
      · simp at a
      · simp at a
    obtain ⟨rfl, rfl⟩ := hz
    exact .inl ⟨h1, rfl, rfl, h.1, hf⟩
  · split at h
    · rename_i h1
      simp only [Bool.and_eq_true, decide_eq_true_eq, Sg.mk.injEq, true_and] at h
      exact .inr (.inl ⟨h1, h.2.1, h.2.2.1, h.2.2.2, h.1⟩)
    · split at h
      · rename_i h1
        simp only [Bool.and_eq_true, beq_iff_eq] at h
        have hf := fine_of h.2
        have hz : nm = [] := by
          rcases hf with ⟨a, _⟩ | ⟨a, _⟩ | ⟨_, a, _⟩
          · simp at a
          · simp at a
          · exact a
        subst hz
        exact .inr (.inr ⟨h1, rfl, h.1, hf⟩)
      · cases h

/-- where the parts of the whole that ends at a place begin, by its kids, the last one first -/
def wholeK (T : Nat → Option Nat) : Nat → List Int → Option Nat
  | a, [] => some a
  | a, z :: zs => if a < 1 ∨ z ≠ (a : Int) - 1 then none else match T (a - 1) with
    | none => none
    | some b => wholeK T b zs
def wholeI (E : List PI) : Nat → Nat → Option Nat
  | 0, _ => none
  | f + 1, k => match E[k]? with
    | none => none
    | some p => wholeK (wholeI E f) k p.kids.reverse
def PI.toP (p : PI) : Pt := ⟨p.kind, p.low, p.high, p.name, p.kids.map Int.toNat⟩
def lvl (k : Int) : Lv := if k = 1 then .bare else if k = 4 then .item else if k = 2 then .row [] else .choice []
def cost (k : Int) : Nat := if k = 1 then 2 else 3
/-- parts as they may be written, the first of them at s, the last, whose own they are, at k; of kind kd -/
structure Blk (E : List PI) (s k : Nat) (kd : Int) : Prop where
  le : s ≤ k
  kind : E[k]?.map PI.kind = some kd
  four : kd = 1 ∨ kd = 2 ∨ kd = 3 ∨ kd = 4
  wh : ∀ f, k < f → wholeI E f k = some s
  sn : ∀ f, k < f → Sn (lvl kd) (tellI E f k) ((E.map PI.toP).take s) k ((E.map PI.toP).take (k + 1)) ∧ (∀ x ∈ tellI E f k, Fine x) ∧ (tellI E f k).length + cost kd ≤ 3 * (k + 1 - s)
/-- the signs of a kid, in brackets if it must be -/
def br (E : List PI) (T : Nat → List Sg) (kd : Int) (k : Nat) : List Sg := if brk ((E[k]?.map PI.kind).getD 0) kd then (⟨2, 0, 0, 0, []⟩ :: T k) ++ [⟨3, 0, 0, 0, []⟩] else T k
theorem tellK_br (E : List PI) (T : Nat → List Sg) (kd : Int) (idx k : Nat) (ks : List Nat) : tellK T E kd idx (pl (k :: ks)) = ((if 0 < idx ∧ kd = 3 then [⟨4, 0, 0, 0, []⟩] else []) ++ br E T kd k) ++ tellK T E kd (idx + 1) (pl ks) := by
  simp [pl, tellK, br]
theorem fine2 : Fine ⟨2, 0, 0, 0, []⟩ := .inr (.inl ⟨.inl rfl, rfl, rfl, rfl⟩)
theorem fine3 : Fine ⟨3, 0, 0, 0, []⟩ := .inr (.inl ⟨.inr (.inl rfl), rfl, rfl, rfl⟩)
theorem fine4 : Fine ⟨4, 0, 0, 0, []⟩ := .inr (.inl ⟨.inr (.inr rfl), rfl, rfl, rfl⟩)
theorem Sn.row1 {s : List Sg} {e e' : List Pt} {k : Nat} (h : Sn .item s e k e') : Sn (.row []) s e k e' := Sn.rowEnd (ks := []) h
theorem Sn.ch1 {s : List Sg} {e e' : List Pt} {k : Nat} (h : Sn (.row []) s e k e') : Sn (.choice []) s e k e' := Sn.chEnd (ks := []) h
theorem Sn.top {kd : Int} {s : List Sg} {e e' : List Pt} {k : Nat} (h : Sn (lvl kd) s e k e') : Sn (.choice []) s e k e' := by
  unfold lvl at h
  split at h
  · exact h.item.row1.ch1
  · split at h
    · exact h.row1.ch1
    · split at h
      · exact h.ch1
      · exact h
theorem Sn.inBr {kd : Int} {s : List Sg} {e e' : List Pt} {k : Nat} (h : Sn (lvl kd) s e k e') : Sn .bare ((⟨2, 0, 0, 0, []⟩ :: s) ++ [⟨3, 0, 0, 0, []⟩]) e k e' := .shut rfl h.top rfl
theorem Blk.br_fine {E : List PI} {s k : Nat} {kd : Int} (h : Blk E s k kd) (w : Int) (f : Nat) (hf : k < f) : ∀ x ∈ br E (tellI E f) w k, Fine x := by
  intro x hx
  unfold br at hx
  have g := (h.sn f hf).2.1
  split at hx
  · simp only [List.cons_append, List.mem_cons, List.mem_append, List.not_mem_nil, or_false] at hx
    rcases hx with rfl | hx | rfl
    · exact fine2
    · exact g x hx
    · exact fine3
  · exact g x hx
theorem Blk.br_len {E : List PI} {s k : Nat} {kd : Int} (h : Blk E s k kd) (w : Int) (hw : w = 2 ∨ w = 3 ∨ w = 4) (f : Nat) (hf : k < f) : (br E (tellI E f) w k).length + 1 ≤ 3 * (k + 1 - s) := by
  unfold br
  have g := (h.sn f hf).2.2
  rw [h.kind, Option.getD_some]
  unfold cost at g
  split
  · rename_i hb
    have : kd ≠ 1 := by rintro rfl; rcases hw with rfl | rfl | rfl <;> simp [brk] at hb
    rw [if_neg this] at g
    simp; omega
  · split at g <;> omega
theorem Blk.bare4 {E : List PI} {s k : Nat} {kd : Int} (h : Blk E s k kd) (f : Nat) (hf : k < f) : Sn .bare (br E (tellI E f) 4 k) ((E.map PI.toP).take s) k ((E.map PI.toP).take (k + 1)) := by
  unfold br
  have g := (h.sn f hf).1
  rw [h.kind, Option.getD_some]
  split
  · exact g.inBr
  · rename_i hb
    have : kd = 1 := by simpa [brk] using hb
    subst this
    exact g
theorem Blk.item2 {E : List PI} {s k : Nat} {kd : Int} (h : Blk E s k kd) (f : Nat) (hf : k < f) : Sn .item (br E (tellI E f) 2 k) ((E.map PI.toP).take s) k ((E.map PI.toP).take (k + 1)) := by
  unfold br
  have g := (h.sn f hf).1
  rw [h.kind, Option.getD_some]
  split
  · exact g.inBr.item
  · rename_i hb
    rcases h.four with rfl | rfl | rfl | rfl
    · exact g.item
    · simp [brk] at hb
    · simp [brk] at hb
    · exact g
theorem Blk.row3 {E : List PI} {s k : Nat} {kd : Int} (h : Blk E s k kd) (f : Nat) (hf : k < f) : Sn (.row []) (br E (tellI E f) 3 k) ((E.map PI.toP).take s) k ((E.map PI.toP).take (k + 1)) := by
  unfold br
  have g := (h.sn f hf).1
  rw [h.kind, Option.getD_some]
  split
  · exact g.inBr.item.row1
  · rename_i hb
    rcases h.four with rfl | rfl | rfl | rfl
    · exact g.item.row1
    · exact g
    · simp [brk] at hb
    · exact g.row1
/-- pieces one behind the other -/
inductive Ch (E : List PI) : Nat → List Nat → Nat → Prop where
  | nil (s : Nat) : Ch E s [] s
  | cons {s k t : Nat} {kd : Int} {ks : List Nat} : Blk E s k kd → Ch E (k + 1) ks t → Ch E s (k :: ks) t
theorem Ch.le {E : List PI} {s t : Nat} {ks : List Nat} (h : Ch E s ks t) : s + ks.length ≤ t := by
  induction h with
  | nil _ => simp
  | cons hb _ ih => have := hb.le; simp; omega
theorem Ch.split {E : List PI} : ∀ {a b : List Nat} {s t : Nat}, Ch E s (a ++ b) t → ∃ m, Ch E s a m ∧ Ch E m b t
  | [], b, s, t, h => ⟨s, .nil s, h⟩
  | k :: a, b, s, t, h => by
    cases h with
    | cons hb g =>
      obtain ⟨m, g1, g2⟩ := Ch.split g
      exact ⟨m, .cons hb g1, g2⟩
theorem Ch.snoc {E : List PI} : ∀ {a : List Nat} {s m k : Nat} {kd : Int}, Ch E s a m → Blk E m k kd → Ch E s (a ++ [k]) (k + 1)
  | [], s, m, k, kd, h, hb => by cases h; exact .cons hb (.nil _)
  | x :: a, s, m, k, kd, h, hb => by
    cases h with
    | cons h1 g => exact .cons h1 (Ch.snoc g hb)
theorem Ch.wh {E : List PI} {f : Nat} : ∀ (n : Nat) {b : List Nat} {s t : Nat}, b.length = n → Ch E s b t → t ≤ f → wholeK (wholeI E f) t (pl b).reverse = some s
  | 0, b, s, t, hn, h, ht => by
    have hb : b = [] := List.length_eq_zero_iff.1 hn
    subst hb
    cases h
    rfl
  | n + 1, b, s, t, hn, h, ht => by
    rcases List.eq_nil_or_concat b with rfl | ⟨L, k, rfl⟩
    · simp at hn
    · rw [List.concat_eq_append] at h hn ⊢
      obtain ⟨m, g1, g2⟩ := h.split
      cases g2 with
      | cons hb g =>
        cases g
        have e1 : (pl (L ++ [k])).reverse = (k : Int) :: (pl L).reverse := by simp [pl]
        rw [e1, wholeK, if_neg (by omega), Nat.add_sub_cancel, hb.wh f (by omega)]
        exact Ch.wh n (by simpa using hn) g1 (by have := hb.le; omega)
/-- the items of a row -/
theorem rowK {E : List PI} {f : Nat} : ∀ {ks : List Nat} {s t : Nat} (pre : List Nat) (idx : Nat), Ch E s ks t → ks ≠ [] → t ≤ f →
    Sn (.row pre) (tellK (tellI E f) E 2 idx (pl ks)) ((E.map PI.toP).take s) (whole 2 ((E.map PI.toP).take t) (pre ++ ks)).1 (whole 2 ((E.map PI.toP).take t) (pre ++ ks)).2 ∧ (∀ x ∈ tellK (tellI E f) E 2 idx (pl ks), Fine x) ∧ (tellK (tellI E f) E 2 idx (pl ks)).length + ks.length ≤ 3 * (t - s)
  | [], s, t, pre, idx, h, h0, ht => absurd rfl h0
  | [k], s, t, pre, idx, h, h0, ht => by
    cases h with
    | cons hb g =>
      cases g
      rw [tellK_br]
      have hl := hb.br_len 2 (.inl rfl) f (by omega)
      simp only [show ¬ (0 < idx ∧ (2 : Int) = 3) from by omega, if_false, List.nil_append, pl, List.map_nil, tellK, List.append_nil]
      exact ⟨.rowEnd (hb.item2 f (by omega)), hb.br_fine 2 f (by omega), by simpa using hl⟩
  | k :: k2 :: ks, s, t, pre, idx, h, h0, ht => by
    cases h with
    | cons hb g =>
      have hle := g.le
      simp at hle
      have hle2 := hb.le
      have hl := hb.br_len 2 (.inl rfl) f (by omega)
      obtain ⟨a, b, c⟩ := rowK (pre ++ [k]) (idx + 1) g (by simp) ht
      rw [tellK_br]
      simp only [show ¬ (0 < idx ∧ (2 : Int) = 3) from by omega, if_false, List.nil_append]
      refine ⟨?_, ?_, ?_⟩
      · have := Sn.rowMore (ks := pre) (hb.item2 f (by omega)) a
        simpa using this
      · intro x hx
        rcases List.mem_append.1 hx with hx | hx
        · exact hb.br_fine 2 f (by omega) x hx
        · exact b x hx
      · simp at c ⊢; omega
/-- the rows of a choice, the first one without a sign ahead of it -/
theorem chK {E : List PI} {f : Nat} : ∀ {ks : List Nat} {k s t : Nat} {kd : Int} (pre : List Nat) (idx : Nat), Blk E s k kd → Ch E (k + 1) ks t → t ≤ f →
    Sn (.choice pre) (br E (tellI E f) 3 k ++ tellK (tellI E f) E 3 (idx + 1) (pl ks)) ((E.map PI.toP).take s) (whole 3 ((E.map PI.toP).take t) (pre ++ k :: ks)).1 (whole 3 ((E.map PI.toP).take t) (pre ++ k :: ks)).2 ∧ (∀ x ∈ br E (tellI E f) 3 k ++ tellK (tellI E f) E 3 (idx + 1) (pl ks), Fine x) ∧ (br E (tellI E f) 3 k ++ tellK (tellI E f) E 3 (idx + 1) (pl ks)).length + 1 ≤ 3 * (t - s)
  | [], k, s, t, kd, pre, idx, hb, g, ht => by
    cases g
    have hl := hb.br_len 3 (.inr (.inl rfl)) f (by omega)
    simp only [pl, List.map_nil, tellK, List.append_nil]
    exact ⟨.chEnd (hb.row3 f (by omega)), hb.br_fine 3 f (by omega), by simpa using hl⟩
  | k2 :: ks, k, s, t, kd, pre, idx, hb, g, ht => by
    cases g with
    | cons hb2 g =>
      have hle := g.le
      have hle2 := hb.le
      have hle3 := hb2.le
      have hl := hb.br_len 3 (.inr (.inl rfl)) f (by omega)
      obtain ⟨a, b, c⟩ := chK (pre ++ [k]) (idx + 1) hb2 g ht
      rw [tellK_br]
      simp only [show (0 < idx + 1 ∧ (3 : Int) = 3) from by omega, and_self, if_true]
      refine ⟨?_, ?_, ?_⟩
      · have := Sn.chMore (ks := pre) (x := ⟨4, 0, 0, 0, []⟩) (hb.row3 f (by omega)) rfl a
        simpa using this
      · intro x hx
        rcases List.mem_append.1 hx with hx | hx
        · exact hb.br_fine 3 f (by omega) x hx
        · rw [List.append_assoc] at hx
          rcases List.mem_append.1 hx with hx | hx
          · simp at hx; subst hx; exact fine4
          · exact b x hx
      · simp at c ⊢; omega
theorem toP_pl (p : PI) {b : List Nat} (h : p.kids = pl b) : p.toP = ⟨p.kind, p.low, p.high, p.name, b⟩ ∧ p.toP.toI = p := by
  obtain ⟨kd, lo, hi, nm, ks⟩ := p
  dsimp only at h
  subst h
  have : (pl b).map Int.toNat = b := by
    rw [pl, List.map_map]
    conv => rhs; rw [← List.map_id b]
    exact List.map_congr_left (fun j _ => Int.toNat_natCast j)
  simp [PI.toP, Pt.toI, this]
theorem whole_two (kd : Int) (e : List Pt) (ks : List Nat) (h : 2 ≤ ks.length) : whole kd e ks = (e.length, e ++ [⟨kd, 0, 0, [], ks⟩]) := by
  rcases ks with _ | ⟨a, _ | ⟨b, ks⟩⟩
  · simp at h
  · simp at h
  · rfl
/-- a part whose kids are the pieces ahead of it is a piece -/
theorem blk_new {E : List PI} {i s : Nat} {p : PI} {b : List Nat} (hp : E[i]? = some p) (hfit : fitsI p = true) (hk : p.kids = pl b) (hc : Ch E s b i) : Blk E s i p.kind := by
  obtain ⟨hP, -⟩ := toP_pl p hk
  have hi : i < E.length := (List.getElem?_eq_some_iff.1 hp).1
  have htake : (E.map PI.toP).take (i + 1) = (E.map PI.toP).take i ++ [p.toP] := by
    rw [List.take_add_one, List.getElem?_map, hp]; rfl
  have hlen : ((E.map PI.toP).take i).length = i := by simp; omega
  have hle := hc.le
  have hwh : ∀ f, i < f → wholeI E f i = some s := by
    intro f hf
    obtain ⟨g, rfl⟩ : ∃ g, f = g + 1 := ⟨f - 1, by omega⟩
    rw [wholeI, hp]
    dsimp only
    rw [hk]
    exact hc.wh _ rfl (by omega)
  have tell : ∀ f, tellI E (f + 1) i = ((if p.kind = 1 then [⟨1, 0, 0, 0, p.name⟩] else []) ++ tellK (tellI E f) E p.kind 0 p.kids) ++ (if p.kind = 4 then [⟨5, 0, p.low, p.high, []⟩] else []) := by
    intro f; rw [tellI, hp]
  rcases fits_kind hfit with ⟨h1, hlo, hhi, hks, hfine⟩ | ⟨h23, hlo, hhi, hnm, h2⟩ | ⟨h4, hnm, h1, hfine⟩
  · have hb : b = [] := by rw [hks] at hk; simpa [pl] using hk.symm
    subst hb
    cases hc
    refine ⟨Nat.le_refl _, by rw [hp]; rfl, .inl h1, hwh, fun f hf => ?_⟩
    obtain ⟨g, rfl⟩ : ∃ g, f = g + 1 := ⟨f - 1, by omega⟩
    rw [tell, h1, hks, htake, hP, h1, hlo, hhi]
    simp only [if_true, tellK, List.append_nil, show ¬ ((1 : Int) = 4) from by decide, if_false, cost]
    refine ⟨?_, ?_, ?_⟩
    · have := Sn.name (x := ⟨1, 0, 0, 0, p.name⟩) (e := (E.map PI.toP).take i) rfl
      rw [hlen] at this
      exact this
    · intro x hx; simp at hx; subst hx; exact hfine
    · simp
  · have hbl : 2 ≤ b.length := by rw [hk] at h2; simpa [pl] using h2
    have h14 : p.kind ≠ 1 ∧ p.kind ≠ 4 := by omega
    refine ⟨by omega, by rw [hp]; rfl, by omega, hwh, fun f hf => ?_⟩
    obtain ⟨g, rfl⟩ : ∃ g, f = g + 1 := ⟨f - 1, by omega⟩
    rw [tell, if_neg h14.1, if_neg h14.2, hk, htake, hP, hlo, hhi, hnm, List.nil_append, List.append_nil]
    have hcost : cost p.kind = 3 := by unfold cost; rw [if_neg h14.1]
    rw [hcost]
    rcases h23 with h | h
    · rw [h]
      obtain ⟨x1, x2, x3⟩ := rowK (f := g) [] 0 hc (by intro e; rw [e] at hbl; simp at hbl) (by omega)
      rw [List.nil_append, whole_two 2 _ _ hbl, hlen] at x1
      exact ⟨x1, x2, by omega⟩
    · rw [h]
      cases hc with
      | nil => simp at hbl
      | @cons _ k _ kd ks hb hc =>
        obtain ⟨x1, x2, x3⟩ := chK (f := g) [] 0 hb hc (by omega)
        rw [List.nil_append, whole_two 3 _ _ hbl, hlen] at x1
        rw [tellK_br, if_neg (by omega), List.nil_append]
        exact ⟨x1, x2, by omega⟩
  · have hbl : b.length = 1 := by rw [hk] at h1; simpa [pl] using h1
    obtain ⟨k, rfl⟩ := List.length_eq_one_iff.1 hbl
    cases hc with
    | @cons _ _ _ kd _ hb g =>
      cases g
      refine ⟨by have := hb.le; omega, by rw [hp]; rfl, .inr (.inr (.inr h4)), hwh, fun f hf => ?_⟩
      obtain ⟨g, rfl⟩ : ∃ g, f = g + 1 := ⟨f - 1, by omega⟩
      rw [tell, h4, hk, htake, hP, h4, hnm, tellK_br]
      have hl := hb.br_len 4 (.inr (.inr rfl)) g (by omega)
      have hle2 := hb.le
      simp only [show ¬ ((4 : Int) = 1) from by decide, if_false, if_true, List.nil_append, pl, List.map_nil, tellK, List.append_nil, cost, show ¬ (0 < 0 ∧ (4 : Int) = 3) from by decide]
      refine ⟨?_, ?_, ?_⟩
      · have := Sn.times (hb.bare4 g (by omega)) (x := ⟨5, 0, p.low, p.high, []⟩) rfl
        rw [hlen] at this
        exact this
      · intro x hx
        rcases List.mem_append.1 hx with hx | hx
        · exact hb.br_fine 4 g (by omega) x hx
        · simp at hx; subst hx; exact hfine
      · simp; omega
theorem pl_drop (b : List Nat) (m : Nat) : (pl b).drop m = pl (b.drop m) := by simp [pl, List.map_drop]
theorem pl_take (b : List Nat) (m : Nat) : (pl b).take m = pl (b.take m) := by simp [pl, List.map_take]
/-- of right parts so far: the pieces that are nobody's yet -/
theorem run_blocks {E : List PI} : ∀ (i : Nat), i ≤ E.length → ∀ st, runR 0 [] (E.take i) = some st → (∃ ks, st = pl ks ∧ Ch E 0 ks i) ∧ (∀ p ∈ E.take i, p.toP.toI = p ∧ fitsI p = true)
  | 0, _, st, h => by
    simp [runR] at h
    subst h
    exact ⟨⟨[], rfl, .nil 0⟩, by simp⟩
  | i + 1, hi, st, h => by
    have hp : E[i]? = some E[i] := List.getElem?_eq_getElem (by omega)
    have ht : E.take (i + 1) = E.take i ++ [E[i]] := by rw [List.take_add_one, hp]; rfl
    rw [ht, run_append] at h
    cases h0 : runR 0 [] (E.take i) with
    | none => rw [h0] at h; simp at h
    | some st0 =>
      obtain ⟨⟨ks, rfl, hc⟩, hall⟩ := run_blocks i (by omega) st0 h0
      rw [h0] at h
      have hlen : (E.take i).length = i := by simp; omega
      simp only [Option.bind_some, hlen, Nat.zero_add, runR] at h
      cases hs : stepR (pl ks) i E[i] with
      | none => rw [hs] at h; simp at h
      | some f =>
        rw [hs] at h
        simp at h
        subst h
        unfold stepR at hs
        split at hs
        · rename_i hc3
          obtain ⟨c1, c2, c3⟩ := hc3
          injection hs with hs
          subst hs
          generalize hm : (pl ks).length - E[i].kids.length = m at c2
          rw [pl_drop] at c2
          rw [← List.take_append_drop m ks] at hc
          obtain ⟨s, g1, g2⟩ := hc.split
          have hb := blk_new hp c3 c2.symm g2
          refine ⟨⟨ks.take m ++ [i], by rw [pl_take, pl_append]; rfl, g1.snoc hb⟩, ?_⟩
          rw [ht]
          intro p hpm
          rcases List.mem_append.1 hpm with hpm | hpm
          · exact hall p hpm
          · simp at hpm; subst hpm; exact ⟨(toP_pl _ c2.symm).2, c3⟩
        · cases hs
/-- right parts are those that their signs are read as -/
theorem right_sn {E : List PI} (h : rightI E = true) (hne : 0 < E.length) : ∃ e : List Pt, E = e.map Pt.toI ∧ Sn (.choice []) (tellI E E.length (E.length - 1)) [] (E.length - 1) e ∧ (∀ x ∈ tellI E E.length (E.length - 1), Fine x) ∧ (tellI E E.length (E.length - 1)).length ≤ 3 * E.length := by
  unfold rightI at h
  split at h
  · rename_i st hst
    obtain ⟨⟨ks, rfl, hc⟩, hall⟩ := run_blocks E.length (Nat.le_refl _) st (by rw [List.take_length]; exact hst)
    rw [List.take_length] at hall
    have hk1 : ks.length = 1 := by
      simp [pl] at h
      rcases h with h | h
      · exact h
      · rw [h] at hne; simp at hne
    obtain ⟨k, rfl⟩ := List.length_eq_one_iff.1 hk1
    generalize hn : E.length = n at hc hne
    cases hc with
    | @cons _ _ _ kd _ hb g =>
      cases g
      obtain ⟨x1, x2, x3⟩ := hb.sn (k + 1) (by omega)
      rw [Nat.add_sub_cancel]
      have e2 : (E.map PI.toP).take (k + 1) = E.map PI.toP := by rw [← hn, List.take_of_length_le (by simp)]
      rw [e2] at x1
      refine ⟨E.map PI.toP, ?_, x1.top, x2, by omega⟩
      rw [List.map_map]
      conv => lhs; rw [← List.map_id E]
      exact List.map_congr_left (fun p hp => ((hall p hp).1).symm)
  · cases h
theorem right_whole {E : List PI} (h : rightI E = true) (hne : 0 < E.length) : wholeI E E.length (E.length - 1) = some 0 := by
  unfold rightI at h
  split at h
  · rename_i st hst
    obtain ⟨⟨ks, rfl, hc⟩, hall⟩ := run_blocks E.length (Nat.le_refl _) st (by rw [List.take_length]; exact hst)
    have hk1 : ks.length = 1 := by
      simp [pl] at h
      rcases h with h | h
      · exact h
      · rw [h] at hne; simp at hne
    obtain ⟨k, rfl⟩ := List.length_eq_one_iff.1 hk1
    generalize hn : E.length = n at hc hne
    cases hc with
    | cons hb g =>
      cases g
      exact hb.wh (k + 1) (by omega)
  · cases h
theorem right_fits {E : List PI} (h : rightI E = true) : ∀ p ∈ E, fitsI p = true := by
  unfold rightI at h
  split at h
  · rename_i st hst
    obtain ⟨_, hall⟩ := run_blocks E.length (Nat.le_refl _) st (by rw [List.take_length]; exact hst)
    rw [List.take_length] at hall
    exact fun p hp => (hall p hp).2
  · cases h
theorem seg_cut (E : List PI) (a b c : Nat) (h1 : a ≤ b) (h2 : b ≤ c) : (E.drop a).take (c - a) = (E.drop a).take (b - a) ++ (E.drop b).take (c - b) := by
  have e : c - a = (b - a) + (c - b) := by omega
  rw [e, List.take_add, List.drop_drop, show a + (b - a) = b from by omega]
theorem wholeK_runs {E : List PI} {T : Nat → Option Nat} (hT : ∀ k s, T k = some s → s ≤ k ∧ k < E.length ∧ ∀ st : List Int, runR s st ((E.drop s).take (k + 1 - s)) = some (st ++ [(k : Int)])) :
    ∀ (zs : List Int) (a s : Nat), a ≤ E.length → wholeK T a zs = some s → s ≤ a ∧ ∀ st : List Int, runR s st ((E.drop s).take (a - s)) = some (st ++ zs.reverse)
  | [], a, s, ha, h => by
    simp [wholeK] at h
    subst h
    exact ⟨Nat.le_refl _, fun st => by simp [runR]⟩
  | z :: zs, a, s, ha, h => by
    rw [wholeK] at h
    split at h
    · cases h
    · rename_i hz
      cases hb : T (a - 1) with
      | none => rw [hb] at h; cases h
      | some b =>
        rw [hb] at h
        obtain ⟨b1, b2, b3⟩ := hT _ _ hb
        obtain ⟨c1, c2⟩ := wholeK_runs hT zs b s (by omega) h
        refine ⟨by omega, fun st => ?_⟩
        rw [seg_cut E s b a c1 (by omega), run_append, c2 st, Option.bind_some]
        have hl : ((E.drop s).take (b - s)).length = b - s := by simp; omega
        have b4 := b3 (st ++ zs.reverse)
        rw [show a - 1 + 1 - b = a - b from by omega] at b4
        rw [hl, show s + (b - s) = b from by omega, b4]
        have hz2 : z = ((a - 1 : Nat) : Int) := by omega
        simp [hz2]
theorem whole_runs {E : List PI} (hf : ∀ p ∈ E, fitsI p = true) : ∀ (f k s : Nat), wholeI E f k = some s → s ≤ k ∧ k < E.length ∧ ∀ st : List Int, runR s st ((E.drop s).take (k + 1 - s)) = some (st ++ [(k : Int)])
  | 0, k, s, h => by cases h
  | f + 1, k, s, h => by
    rw [wholeI] at h
    cases hp : E[k]? with
    | none => rw [hp] at h; cases h
    | some p =>
      rw [hp] at h
      obtain ⟨hk, hpe⟩ := List.getElem?_eq_some_iff.1 hp
      obtain ⟨c1, c2⟩ := wholeK_runs (fun k s g => whole_runs hf f k s g) p.kids.reverse k s (by omega) h
      refine ⟨c1, hk, fun st => ?_⟩
      rw [seg_cut E s k (k + 1) c1 (by omega), run_append, c2 st, Option.bind_some, List.reverse_reverse]
      have hl : ((E.drop s).take (k - s)).length = k - s := by simp; omega
      have h1 : (E.drop k).take (k + 1 - k) = [p] := by
        rw [show k + 1 - k = 1 from by omega, List.drop_eq_getElem_cons hk, hpe]
        rfl
      rw [hl, show s + (k - s) = k from by omega, h1]
      exact run_one st k p (hf p (by rw [← hpe]; exact List.getElem_mem hk))
/-- right, as the reference asks it -/
theorem right_iff (E : List PI) : rightI E = (E.all fitsI && (E.length == 0 || wholeI E E.length (E.length - 1) == some 0)) := by
  rw [Bool.eq_iff_iff]
  simp only [Bool.and_eq_true, List.all_eq_true, Bool.or_eq_true, beq_iff_eq]
  constructor
  · intro h
    refine ⟨right_fits h, ?_⟩
    by_cases h0 : E.length = 0
    · exact .inl h0
    · exact .inr (right_whole h (by omega))
  · rintro ⟨hf, h⟩
    by_cases h0 : E.length = 0
    · have : E = [] := List.length_eq_zero_iff.1 h0
      subst this
      rfl
    · obtain ⟨_, _, g⟩ := whole_runs hf _ _ _ (h.resolve_left h0)
      have := g []
      rw [Nat.sub_zero, List.drop_zero, show E.length - 1 + 1 = E.length from by omega, List.take_length] at this
      unfold rightI
      rw [this]
      rfl
end Go.Proofs.YtphhacnabdpheaaDoor.Ex
namespace Go.Proofs.YtphhacnabdpheaaDoor.Ex
open Go.RowKit Mem Lx
set_option linter.unusedVariables false

/-- are parts few enough? -/
def fewI (e : List PI) : Bool := decide (e.length ≤ 60) && e.all (fun p => decide (p.kids.length ≤ 60) && decide (p.name.length ≤ 100))
theorem fewI_yes {e : List PI} (h : fewI e = true) : e.length ≤ 60 ∧ ∀ p ∈ e, p.kids.length ≤ 60 ∧ p.name.length ≤ 100 := by
  unfold fewI at h
  simpa using h
set_option maxRecDepth 100000 in
set_option maxHeartbeats 4000000 in
theorem few_any (A : Option Addr) (n c : Nat) (e : List PI) (w : World) (h : PR w A n e) (hn : n ≤ maxLen) (hs : ∀ p ∈ e, p.name.length ≤ maxLen ∧ p.kids.length ≤ maxLen) :
    Calls Tryd.prog 13 #[.slice A n c] w fun en w' => en = .returned (.bool (fewI e)) ∧ w = w' := by
  unfold maxLen at hn hs
  have H := hide h
  have HL := Lib.hid h.1
  have HS := hide hs
  clear h hs
  go_enter Tryd.func13, Tryd.ntmps13
  go_wp2_with fail
  go_loop [3] (fun iv => ∃ j : Nat, iv = .int .i64 j ∧ j ≤ n ∧ j ≤ 61 ∧ Hid (∀ p ∈ e.take j, p.kids.length ≤ 60 ∧ p.name.length ≤ 100)) (fun iv => n - (intOf iv).toNat)
  case atStart => exact ⟨0, rfl, by omega, by omega, Lib.hid (by simp)⟩
  case round =>
    obtain ⟨j, rfl, hj, hj61, hE⟩ := hrel
    by_cases hlt : j < n ∧ j < 61
    · have j1 : j < e.length := by have := HL.out; omega
      obtain ⟨b, off, rfl, hb, hc⟩ := H.out.2 (by omega)
      obtain ⟨a0, a1, a2, a3, kv, a4, ra⟩ := hc j j1
      obtain ⟨hjn, hj6⟩ := hlt
      have l1 : decide ((j : Int) < (n : Int)) = true := by simp; omega
      have l2 : decide (j < n) = true := by simp; omega
      have l3 : decide ((j : Int) < 61) = true := by simp; omega
      have g0 : (j : Int) < (n : Int) := by omega
      have HSM := Lib.hid (HS.out _ (List.getElem_mem j1))
      have HT : Hid (e.take (j + 1) = e.take j ++ [e[j]]) := by show _ = _; rw [List.take_add_one, List.getElem?_eq_getElem j1]; rfl
      have HM := Lib.hid (List.getElem_mem j1)
      generalize e[j] = p at a0 a1 a2 a3 ra HSM HT HM
      obtain ⟨Ak, ck, rfl, hck, hrk⟩ := ra
      obtain ⟨kd, lo, hi, nm, ks⟩ := p
      dsimp only at a0 a1 a2 a3 a4 hck hrk HSM
      clear hc hrk
      by_cases hk : 60 < ks.length
      · have t1 : decide (60 < (ks.length : Int)) = true := by simp; omega
        have HX : Hid (fewI e = false) := by
          show _ = _
          rw [Bool.eq_false_iff]
          intro hf
          have := ((fewI_yes hf).2 _ HM.out).1
          simp at this; omega
        clear hk
        go_wp2_with fail
        go_ret
        exact ⟨by rw [HX.out]; rfl, rfl⟩
      · have t1 : decide (60 < (ks.length : Int)) = false := by simp; omega
        by_cases hnm : 100 < nm.length
        · have t2 : decide (100 < (nm.length : Int)) = true := by simp; omega
          have t2' : decide (100 < nm.length) = true := by simp; omega
          have HX : Hid (fewI e = false) := by
            show _ = _
            rw [Bool.eq_false_iff]
            intro hf
            have := ((fewI_yes hf).2 _ HM.out).2
            simp at this; omega
          clear hk hnm
          go_wp2_with fail
          go_ret
          exact ⟨by rw [HX.out]; rfl, rfl⟩
        · have t2 : decide (100 < (nm.length : Int)) = false := by simp; omega
          have t2' : decide (100 < nm.length) = false := by simp; omega
          have HE : Hid (∀ p ∈ e.take (j + 1), p.kids.length ≤ 60 ∧ p.name.length ≤ 100) := by
            intro p hp
            rw [HT.out] at hp
            rcases List.mem_append.1 hp with hp | hp
            · exact hE.out p hp
            · simp at hp; subst hp; simp; omega
          clear hk hnm
          go_wp2_with fail
          go_round
          case rel => exact ⟨j + 1, by go_num, by omega, by omega, HE⟩
          case measure => simp [intOf]; omega
    · have HNL := Lib.hid hlt
      clear hlt
      by_cases h60 : n ≤ 60
      · have hjn : j = n := by have := HNL.out; omega
        have l1 : decide ((j : Int) < (n : Int)) = false := by simp; omega
        have l2 : decide (j < n) = false := by simp; omega
        have t1 : decide ((n : Int) ≤ 60) = true := by simp; omega
        have t1' : decide (n ≤ 60) = true := by simp; omega
        have HX : Hid (fewI e = true) := by
          show _ = _
          have h1 := hE.out
          rw [hjn, List.take_of_length_le (by have := HL.out; omega)] at h1
          unfold fewI
          have := HL.out
          simp only [Bool.and_eq_true, decide_eq_true_eq, List.all_eq_true]
          exact ⟨by omega, h1⟩
        clear hjn h60
        go_wp2_with fail
        go_ret
        exact ⟨by rw [HX.out]; rfl, rfl⟩
      · have t1 : decide ((n : Int) ≤ 60) = false := by simp; omega
        have t1' : decide (n ≤ 60) = false := by simp; omega
        have HX : Hid (fewI e = false) := by
          show _ = _
          rw [Bool.eq_false_iff]
          intro hf
          have := (fewI_yes hf).1
          have := HL.out
          omega
        by_cases hjn : j < n
        · have l1 : decide ((j : Int) < (n : Int)) = true := by simp; omega
          have l2 : decide (j < n) = true := by simp; omega
          have l3 : decide ((j : Int) < 61) = false := by have := HNL.out; simp; omega
          clear hjn h60
          go_wp2_with fail
          go_ret
          exact ⟨by rw [HX.out]; rfl, rfl⟩
        · have l1 : decide ((j : Int) < (n : Int)) = false := by simp; omega
          have l2 : decide (j < n) = false := by simp; omega
          clear hjn h60
          go_wp2_with fail
          go_ret
          exact ⟨by rw [HX.out]; rfl, rfl⟩

/-- a part of the reference's in a block of its own -/
def RP (w : World) (pb : Nat) (p : PI) (kv : Value) : Prop := w.heap[pb]? = some (.cells #[.int .i64 p.kind, .int .i64 p.low, .int .i64 p.high, .string ⟨p.name.toArray⟩, kv] 40 (0, 0))
theorem RP.lt {w : World} {pb : Nat} {p : PI} {kv : Value} (h : RP w pb p kv) : pb < w.heap.size := (Array.getElem?_eq_some_iff.1 h).1
theorem RP.cells {w : World} {pb : Nat} {p : PI} {kv : Value} (h : RP w pb p kv) : w.cell? ⟨pb, 0, none⟩ = some (.int .i64 p.kind) ∧ w.cell? ⟨pb, 1, none⟩ = some (.int .i64 p.low) ∧ w.cell? ⟨pb, 2, none⟩ = some (.int .i64 p.high) ∧ w.cell? ⟨pb, 3, none⟩ = some (.string ⟨p.name.toArray⟩) ∧ w.cell? ⟨pb, 4, none⟩ = some kv := by
  unfold RP at h; simp [World.cell?, h]
theorem RP.below {w w' : World} {pb : Nat} {p : PI} {kv : Value} (h : RP w pb p kv) (hb : Below w.heap.size w w') : RP w' pb p kv := (hb.block _ h.lt).trans h
theorem RP.new (w : World) (p : PI) (kv : Value) : RP (w.alloc (.cells #[.int .i64 p.kind, .int .i64 p.low, .int .i64 p.high, .string ⟨p.name.toArray⟩, kv] 40)) w.heap.size p kv := World.alloc_heap_new w _

/-- where a whole begins, as a number; -1: nowhere -/
def wv : Option Nat → Int
  | none => -1
  | some a => a
theorem wholeK_le {T : Nat → Option Nat} (hT : ∀ k s, T k = some s → s ≤ k) : ∀ (zs : List Int) (a s : Nat), wholeK T a zs = some s → s ≤ a
  | [], a, s, h => by simp [wholeK] at h; omega
  | z :: zs, a, s, h => by
    rw [wholeK] at h
    split at h
    · cases h
    · cases hb : T (a - 1) with
      | none => rw [hb] at h; cases h
      | some b =>
        rw [hb] at h
        have := hT _ _ hb
        have := wholeK_le hT zs b s h
        omega
theorem wholeI_le {e : List PI} : ∀ (f k s : Nat), wholeI e f k = some s → s ≤ k
  | 0, k, s, h => by cases h
  | f + 1, k, s, h => by
    rw [wholeI] at h
    cases hp : e[k]? with
    | none => rw [hp] at h; cases h
    | some p => rw [hp] at h; exact wholeK_le (fun k s g => wholeI_le f k s g) _ _ _ h
theorem wholeK_rev (T : Nat → Option Nat) (a i : Nat) (ks : List Int) (hi : i < ks.length) : wholeK T a (ks.take (i + 1)).reverse = if a < 1 ∨ ks.getD i 0 ≠ (a : Int) - 1 then none else match T (a - 1) with
    | none => none
    | some b => wholeK T b (ks.take i).reverse := by
  have e1 : (ks.take (i + 1)).reverse = ks[i] :: (ks.take i).reverse := by
    rw [List.take_add_one, List.getElem?_eq_getElem hi, List.reverse_append]; rfl
  have e2 : ks.getD i 0 = ks[i] := by simp [List.getD, List.getElem?_eq_getElem hi]
  rw [e1, e2, wholeK]
/-- what the reference's whole answers, of parts up to a place -/
def WholeAt (A : Option Addr) (n c : Nat) (e : List PI) (w0 : World) (f : Nat) : Prop := ∀ (k : Nat) (w : World), k < f → k < n → Below w0.heap.size w0 w →
  Calls Tryd.prog 35 #[.slice A n c, .int .i64 k] w fun en w' => en = .returned (.int .i64 (wv (wholeI e f k))) ∧ Below w.heap.size w w'
set_option maxRecDepth 100000 in
set_option maxHeartbeats 4000000 in
theorem whole_step (A : Option Addr) (n c : Nat) (e : List PI) (w0 : World) (hp : PR w0 A n e) (hn : n ≤ 100000) (hk : ∀ p ∈ e, p.kids.length ≤ 100000) (f : Nat) (IH : WholeAt A n c e w0 f) : WholeAt A n c e w0 (f + 1) := by
  intro k w hkf hkn hb0
  have k1 : k < e.length := by have := hp.1; omega
  obtain ⟨b, off, rfl, hb, hc⟩ := (hp.below hb0).2 (by omega)
  obtain ⟨a0, a1, a2, a3, kv, a4, ra⟩ := hc k k1
  have HWI : Hid (wholeI e (f + 1) k = wholeK (wholeI e f) k (e[k].kids).reverse) := by show _ = _; rw [wholeI, List.getElem?_eq_getElem k1]
  have HKL := Lib.hid (hk _ (List.getElem_mem k1))
  generalize e[k] = p at a0 a1 a2 a3 ra HWI HKL
  obtain ⟨Ak, ck, rfl, hck, hrk⟩ := ra
  obtain ⟨kd, lo, hi, nm, ks⟩ := p
  dsimp only at a0 a1 a2 a3 a4 hck hrk HWI HKL
  obtain ⟨R, hR⟩ : ∃ R, R = wholeI e (f + 1) k := ⟨_, rfl⟩
  rw [← hR] at HWI ⊢
  have g0 : (k : Int) < (n : Int) := by omega
  have g1 : decide ((k : Int) < (n : Int)) = true := by simp; omega
  have HIH := hide (fun (k : Nat) (w : World) (h1 : k < f) (h2 : k < n) (h3 : Below w0.heap.size w0 w) => IH k w h1 h2 h3)
  have HB0 := Lib.hid hb0
  have hkl := HKL.out
  have HRP := Lib.hid (RP.new w ⟨kd, lo, hi, nm, ks⟩ (.slice Ak ks.length ck))
  have HBA : Hid (Below w.heap.size w (w.alloc (.cells #[.int .i64 kd, .int .i64 lo, .int .i64 hi, .string ⟨nm.toArray⟩, .slice Ak ks.length ck] 40))) := (Below.refl _ _).alloc (Nat.le_refl _) _
  have HRK := Lib.hid (hrk.below HBA.out)
  have hw1 : IntKind.i64.wrap ((ks.length : Int) - 1) = (ks.length : Int) - 1 := IntWalk.i64_in _ (by omega)
  have HLE := hide (fun k s => wholeI_le (e := e) f k s)
  have HRV := hide (fun a i hi => wholeK_rev (wholeI e f) a i ks hi)
  generalize wholeI e f = T at HWI HLE HRV HIH
  clear IH hb0 hc hrk hp hk hR k1 HKL
  go_enter Tryd.func35, Tryd.ntmps35
  go_wp2_with fail
  generalize w.alloc (.cells #[.int .i64 kd, .int .i64 lo, .int .i64 hi, .string ⟨nm.toArray⟩, .slice Ak ks.length ck] 40) = W1 at *
  go_loopw [6, 7] (fun av iv wr => ∃ (a j : Nat) (z : Int), av = .int .i64 a ∧ iv = .int .i64 z ∧ z = (j : Int) - 1 ∧ j ≤ ks.length ∧ a ≤ k ∧ Hid (wholeK T k ks.reverse = wholeK T a (ks.take j).reverse) ∧ Hid (Below W1.heap.size W1 wr)) (fun _ iv _ => (intOf iv + 1).toNat)
  case atStart => exact ⟨k, ks.length, (ks.length : Int) - 1, rfl, rfl, rfl, Nat.le_refl _, Nat.le_refl _, Lib.hid (by rw [List.take_length]), Lib.hid (Below.refl _ _)⟩
  case round =>
    obtain ⟨a, j, z, rfl, rfl, hz, hj, hak, hE, hB⟩ := hrel
    have HBW : Hid (Below w0.heap.size w0 wr) := HB0.out.trans ((HBA.out.trans (hB.out.mono HBA.out.size)).mono HB0.out.size)
    rcases j with _ | i
    · obtain rfl : z = -1 := by omega
      have HX : Hid (R = some a) := by show _ = _; rw [HWI.out, hE.out]; rfl
      clear hz
      go_wp2_with fail
      go_ret
      exact ⟨by rw [HX.out]; rfl, HBA.out.trans (hB.out.mono HBA.out.size)⟩
    · obtain rfl : z = (i : Int) := by omega
      have hi : i < ks.length := hj
      have hi' : (i : Int) < (ks.length : Int) := by omega
      have l1 : decide ((0 : Int) ≤ (i : Int)) = true := by simp
      have HRR := Lib.hid (HRV.out a i hi)
      obtain ⟨b2, off2, rfl, hc2⟩ := (HRK.out.below hB.out).2.2 (by omega)
      have k0 := hc2 i hi
      obtain ⟨-, -, -, -, p4⟩ := (HRP.out.below hB.out).cells
      have HREL : Hid (R = if a < 1 ∨ ks.getD i 0 ≠ (a : Int) - 1 then none else match T (a - 1) with
        | none => none
        | some b => wholeK T b (ks.take i).reverse) := by show _ = _; rw [HWI.out, hE.out, HRR.out]
      have hwi : IntKind.i64.wrap ((i : Int) - 1) = (i : Int) - 1 := IntWalk.i64_in _ (by omega)
      clear hc2 hz HRR
      by_cases ha0 : a < 1
      · have t1 : decide ((a : Int) < 1) = true := by simp; omega
        have HX : Hid (R = none) := by show _ = _; rw [HREL.out, if_pos (.inl ha0)]
        clear ha0
        go_wp2_with fail
        go_ret
        exact ⟨by rw [HX.out]; rfl, HBA.out.trans (hB.out.mono HBA.out.size)⟩
      · have t1 : decide ((a : Int) < 1) = false := by simp; omega
        have hw2 : IntKind.i64.wrap ((a : Int) - 1) = (a : Int) - 1 := IntWalk.i64_in _ (by omega)
        by_cases hne : ks.getD i 0 ≠ (a : Int) - 1
        · have t2 : (ks.getD i 0 != (a : Int) - 1) = true := by simpa using hne
          have HX : Hid (R = none) := by show _ = _; rw [HREL.out, if_pos (.inr hne)]
          generalize ks.getD i 0 = y at k0 t2
          clear ha0 hne
          go_wp2_with fail
          go_ret
          exact ⟨by rw [HX.out]; rfl, HBA.out.trans (hB.out.mono HBA.out.size)⟩
        · have t2 : (ks.getD i 0 != (a : Int) - 1) = false := by simpa using hne
          have HXX : Hid (R = match T (a - 1) with
            | none => none
            | some b => wholeK T b (ks.take i).reverse) := by show _ = _; rw [HREL.out, if_neg (by intro h; rcases h with h | h; exact ha0 h; exact hne h)]
          have HC0 := HIH.out (a - 1) wr (by omega) (by omega) HBW.out
          rw [show ((a - 1 : Nat) : Int) = (a : Int) - 1 from by omega] at HC0
          have HLE1 := hide (HLE.out (a - 1))
          have hyz : ks.getD i 0 = (a : Int) - 1 := by simpa using hne
          rw [hyz] at k0 t2
          generalize T (a - 1) = q at HC0 HXX HLE1
          have HC := hide HC0
          clear HC0 hne hyz HREL
          cases q with
          | none =>
            have HX : Hid (R = none) := HXX.out
            have HC1 : Hid (Calls Tryd.prog 35 #[.slice (some ⟨b, off, none⟩) n c, .int .i64 ((a : Int) - 1)] wr fun en w' => en = .returned (.int .i64 (-1)) ∧ Below wr.heap.size wr w') := HC.out
            clear HC HXX ha0
            go_wp2_with (go_at_call 35; (with_reducible refine (HC1.out).mono ?_); rintro en w2 ⟨rfl, hb2⟩; have HB2 : Hid (Below w.heap.size w w2) := HBA.out.trans ((hB.out.trans (hb2.mono hB.out.size)).mono HBA.out.size); clear hb2)
            go_ret
            exact ⟨by rw [HX.out]; rfl, HB2.out⟩
          | some q =>
            have HX : Hid (R = wholeK T q (ks.take i).reverse) := HXX.out
            have HC1 : Hid (Calls Tryd.prog 35 #[.slice (some ⟨b, off, none⟩) n c, .int .i64 ((a : Int) - 1)] wr fun en w' => en = .returned (.int .i64 (q : Int)) ∧ Below wr.heap.size wr w') := HC.out
            have hq : q ≤ a - 1 := HLE1.out q rfl
            have l3 : decide ((q : Int) < 0) = false := by simp
            clear HC HXX HLE1 ha0
            go_wp2_with (go_at_call 35; (with_reducible refine (HC1.out).mono ?_); rintro en w2 ⟨rfl, hb2⟩; have HB2 : Hid (Below W1.heap.size W1 w2) := hB.out.trans (hb2.mono hB.out.size); clear hb2)
            go_roundw
            case rel => exact ⟨q, i, (i : Int) - 1, rfl, rfl, rfl, by omega, by omega, Lib.hid (HWI.out.symm.trans HX.out), HB2⟩
            case measure => simp [intOf]
theorem whole_any (A : Option Addr) (n c : Nat) (e : List PI) (w0 : World) (hp : PR w0 A n e) (hn : n ≤ 100000) (hk : ∀ p ∈ e, p.kids.length ≤ 100000) : ∀ f, WholeAt A n c e w0 f
  | 0 => fun k w h => by omega
  | f + 1 => whole_step A n c e w0 hp hn hk f (whole_any A n c e w0 hp hn hk f)
end Go.Proofs.YtphhacnabdpheaaDoor.Ex
namespace Go.Proofs.YtphhacnabdpheaaDoor.Ex
open Go.RowKit Mem Lx
set_option linter.unusedVariables false

def namedI (nm : List UInt8) : Bool := match Lex nm with
  | .ok [y] _ => decide (y.kind = 1) && decide (y.name = nm)
  | _ => false
def countI (lo hi : Int) : Bool := decide (0 ≤ lo ∧ lo ≤ 20 ∧ (hi = -1 ∨ (1 ≤ hi ∧ hi ≤ 20 ∧ lo ≤ hi)))
theorem named_fine (nm : List UInt8) : namedI nm = true ↔ Fine ⟨1, 0, 0, 0, nm⟩ := by
  constructor
  · intro h
    unfold namedI at h
    split at h
    · rename_i y n he
      simp only [Bool.and_eq_true, decide_eq_true_eq] at h
      have h1 := (lex_fine _ nm 0 [] [y] n (by simp) (by simp) he).1 y (by simp)
      rcases h1 with ⟨a, b, c, d⟩ | ⟨a, _⟩ | ⟨a, _⟩
      · exact .inl ⟨rfl, rfl, rfl, by rw [h.2] at d; exact d⟩
      · omega
      · omega
    · cases h
  · intro h
    have h1 := lexed_fine h rfl
    unfold lexedI at h1
    have e1 : show1 ⟨1, 0, 0, 0, nm⟩ = nm := rfl
    rw [e1] at h1
    unfold namedI
    split at h1
    · rename_i y n he
      rw [he]
      have := of_decide_eq_true h1
      subst this
      simp
    · cases h1
theorem lexed_iff {x : Sg} (h0 : x.at_ = 0) : lexedI x = true ↔ Fine x := ⟨fine_of, fun h => lexed_fine h h0⟩
theorem fits_one (lo hi : Int) (nm : List UInt8) (ks : List Int) : fitsI ⟨1, lo, hi, nm, ks⟩ = true ↔ ks.length = 0 ∧ lo = 0 ∧ hi = 0 ∧ namedI nm = true := by
  unfold fitsI
  simp only [if_true, Bool.and_eq_true, beq_iff_eq]
  rw [lexed_iff rfl, named_fine]
  constructor
  · rintro ⟨h1, h2⟩
    have h3 := h2
    rcases h2 with ⟨_, a, b, _⟩ | ⟨a, _⟩ | ⟨a, _⟩
    · simp only at a b
      subst a b
      exact ⟨h1, rfl, rfl, h3⟩
    · simp at a
    · simp at a
  · rintro ⟨h1, rfl, rfl, h2⟩
    exact ⟨h1, h2⟩
theorem fits_two (kd lo hi : Int) (nm : List UInt8) (ks : List Int) (h : kd = 2 ∨ kd = 3) : fitsI ⟨kd, lo, hi, nm, ks⟩ = true ↔ 2 ≤ ks.length ∧ lo = 0 ∧ hi = 0 ∧ nm = [] := by
  unfold fitsI
  dsimp only
  rw [if_neg (by omega), if_pos h]
  simp
theorem fits_four (lo hi : Int) (nm : List UInt8) (ks : List Int) : fitsI ⟨4, lo, hi, nm, ks⟩ = true ↔ ks.length = 1 ∧ countI lo hi = true ∧ nm = [] := by
  unfold fitsI
  dsimp only
  rw [if_neg (by omega), if_neg (by omega), if_pos rfl]
  simp only [Bool.and_eq_true, beq_iff_eq]
  rw [lexed_iff rfl]
  unfold countI
  simp only [decide_eq_true_eq]
  constructor
  · rintro ⟨h1, h2⟩
    rcases h2 with ⟨a, _⟩ | ⟨a, _⟩ | ⟨_, a, b, c, d⟩
    · simp at a
    · simp at a
    · exact ⟨h1, ⟨b, c, d⟩, a⟩
  · rintro ⟨h1, ⟨b, c, d⟩, a⟩
    exact ⟨h1, .inr (.inr ⟨rfl, a, b, c, d⟩)⟩
theorem fits_else (kd lo hi : Int) (nm : List UInt8) (ks : List Int) (h1 : kd ≠ 1) (h2 : kd ≠ 2) (h3 : kd ≠ 3) (h4 : kd ≠ 4) : fitsI ⟨kd, lo, hi, nm, ks⟩ = false := by
  unfold fitsI
  dsimp only
  rw [if_neg h1, if_neg (by omega), if_neg h4]

/-- the reference's way to ask it, bit by bit -/
def zB (lo hi : Int) : Bool := decide (lo = 0) && decide (hi = 0)
def oneB (kd : Int) (n : Nat) (Z NB : Bool) : Bool := decide (kd = 1) && (decide (n = 0) && (Z && NB))
def twoB (F : Bool) (kd : Int) (n : Nat) (Z : Bool) (nm : List UInt8) : Bool := F || (decide (kd = 2 ∨ kd = 3) && (decide (2 ≤ n) && (Z && decide (nm = []))))
def fourB (F : Bool) (kd : Int) (n : Nat) (C : Bool) (nm : List UInt8) : Bool := F || (decide (kd = 4) && (decide (n = 1) && (C && decide (nm = []))))
theorem fits_bits (kd lo hi : Int) (nm : List UInt8) (ks : List Int) : fitsI ⟨kd, lo, hi, nm, ks⟩ = fourB (twoB (oneB kd ks.length (zB lo hi) (namedI nm)) kd ks.length (zB lo hi) nm) kd ks.length (countI lo hi) nm := by
  rw [Bool.eq_iff_iff]
  unfold fourB twoB oneB zB
  simp only [Bool.or_eq_true, Bool.and_eq_true, decide_eq_true_eq]
  by_cases k1 : kd = 1
  · subst k1
    rw [fits_one]
    simp
    intro _
    exact and_assoc.symm
  · by_cases k2 : kd = 2 ∨ kd = 3
    · rw [fits_two _ _ _ _ _ k2]
      have k4 : kd ≠ 4 := by omega
      simp [k1, k2, k4]
      intro _
      exact and_assoc.symm
    · by_cases k4 : kd = 4
      · subst k4
        rw [fits_four]
        simp
      · rw [fits_else _ _ _ _ _ k1 (by omega) (by omega) k4]
        simp [k1, k2, k4]
/-- what the reference's Lex makes of a name, as far as Right asks -/
def Uni (nm : List UInt8) (A : Option Addr) (m : Nat) (f : Int) (w : World) : Prop :=
  (f ≠ 0 ∧ namedI nm = false) ∨ (f = 0 ∧ m ≠ 1 ∧ namedI nm = false) ∨ (f = 0 ∧ m = 1 ∧ ∃ (y : Sg) (b off : Nat), A = some ⟨b, off, none⟩ ∧ b < w.heap.size ∧ w.cell? ⟨b, off, none⟩ = some (.int .i64 y.kind) ∧ w.cell? ⟨b, off + 4, none⟩ = some (.string ⟨y.name.toArray⟩) ∧ namedI nm = (decide (y.kind = 1) && decide (y.name = nm)))
theorem uni_any (nm : List UInt8) (w : World) (hs : nm.length ≤ 100000) : Calls Tryd.prog 29 #[.string ⟨nm.toArray⟩] w fun en w' => Below w.heap.size w w' ∧ ∃ A c m i f, en = .returned (.tuple #[.slice A m c, .int .i64 i, .int .i64 f]) ∧ m ≤ 300 ∧ Uni nm A m f w' := by
  refine (rlex_any ⟨nm.toArray⟩ w (by simpa [ByteArray.size] using hs)).mono fun en w' ⟨hb, h⟩ => ⟨hb, ?_⟩
  have e1 : (⟨nm.toArray⟩ : ByteArray).data.toList = nm := by simp
  rw [e1] at h
  rcases lex_ends nm with ⟨l, hl, hf, h200⟩ | ⟨p, c, hl, hc⟩
  · rw [hl] at h
    obtain ⟨A, c, rfl, hlc, hg⟩ := h
    refine ⟨A, c, l.length, 0, 0, rfl, by omega, ?_⟩
    by_cases h1 : l.length = 1
    · obtain ⟨y, rfl⟩ := List.length_eq_one_iff.1 h1
      obtain ⟨b, off, rfl, hb2, hcell⟩ := hg.2 (by simp)
      obtain ⟨a0, a1, a2, a3, a4⟩ := hcell 0 (by simp)
      simp only [List.getElem_cons_zero, Nat.zero_mul, Nat.add_zero] at a0 a4
      exact .inr (.inr ⟨rfl, rfl, y, b, off, rfl, hb2, a0, a4, by unfold namedI; rw [hl]⟩)
    · refine .inr (.inl ⟨rfl, h1, ?_⟩)
      unfold namedI
      rw [hl]
      rcases l with _ | ⟨a, _ | ⟨b, l⟩⟩
      · rfl
      · simp at h1
      · rfl
  · rw [hl] at h
    exact ⟨none, 0, 0, p, c, h, by omega, .inl ⟨hc, by unfold namedI; rw [hl]⟩⟩
set_option maxRecDepth 100000 in
set_option maxHeartbeats 8000000 in
theorem rright_any (A : Option Addr) (n c : Nat) (e : List PI) (w : World) (h : PR w A n e) (hn : n ≤ 100000) (hs : ∀ p ∈ e, p.name.length ≤ 100000 ∧ p.kids.length ≤ 100000) :
    Calls Tryd.prog 14 #[.slice A n c] w fun en w' => en = .returned (.bool (rightI e)) ∧ Below w.heap.size w w' := by
  have HR := hide h
  have HLN := Lib.hid h.1
  have HWH := hide (fun W (hb : Below w.heap.size w W) (h0 : n - 1 < n) => whole_any A n c e w h hn (fun p hp => (hs p hp).2) n (n - 1) W h0 h0 hb)
  have HS := hide hs
  have HIF := Lib.hid (right_iff e)
  clear h hs
  go_enter Tryd.func14, Tryd.ntmps14
  go_wp2_with fail
  go_loopw [3] (fun iv wr => ∃ j : Nat, iv = .int .i64 j ∧ j ≤ n ∧ Hid (∀ p ∈ e.take j, fitsI p = true) ∧ Hid (Below w.heap.size w wr)) (fun iv _ => n - (intOf iv).toNat)
  case atStart => exact ⟨0, rfl, by omega, Lib.hid (by simp), Lib.hid (Below.refl _ _)⟩
  case round =>
    obtain ⟨j, rfl, hj, hE, hB⟩ := hrel
    by_cases hlt : j < n
    · have j1 : j < e.length := by have := HLN.out; omega
      obtain ⟨b, off, rfl, hb, hc⟩ := (HR.out.below hB.out).2 (by omega)
      obtain ⟨a0, a1, a2, a3, kv, a4, ra⟩ := hc j j1
      have l1 : decide ((j : Int) < (n : Int)) = true := by simp; omega
      have l2 : decide (j < n) = true := by simp; omega
      have g0 : (j : Int) < (n : Int) := by omega
      have HSM := Lib.hid (HS.out _ (List.getElem_mem j1))
      have HNO : Hid (fitsI e[j] = false → rightI e = false) := by
        intro hf
        rw [HIF.out, Bool.and_eq_false_iff]
        left
        rw [List.all_eq_false]
        exact ⟨_, List.getElem_mem j1, by simp [hf]⟩
      have HYES : Hid (fitsI e[j] = true → ∀ p ∈ e.take (j + 1), fitsI p = true) := by
        intro hf p hp
        rw [List.take_add_one, List.getElem?_eq_getElem j1] at hp
        rcases List.mem_append.1 hp with hp | hp
        · exact hE.out p hp
        · simp at hp; subst hp; exact hf
      generalize e[j] = p at a0 a1 a2 a3 ra HSM HNO HYES
      obtain ⟨Ak, ck, rfl, hck, hrk⟩ := ra
      obtain ⟨kd, lo, hi, nm, ks⟩ := p
      dsimp only at a0 a1 a2 a3 a4 hck hrk HSM
      have HRP := Lib.hid (RP.new wr ⟨kd, lo, hi, nm, ks⟩ (.slice Ak ks.length ck))
      have HB1 : Hid (Below w.heap.size w (wr.alloc (.cells #[.int .i64 kd, .int .i64 lo, .int .i64 hi, .string ⟨nm.toArray⟩, .slice Ak ks.length ck] 40))) := hB.out.alloc hB.out.size _
      have HLX := hide (fun W => uni_any nm W HSM.out.1)
      clear hc hrk
      go_upto_region 7 with (go_at_call 29; (with_reducible refine (HLX.out _).mono ?_); rintro en w2 ⟨hb2, A2, c2, m2, i2, f2, rfl, hm2, hu2⟩; have HB2 : Hid (Below w.heap.size w w2) := HB1.out.trans (hb2.mono HB1.out.size); have HU := Lib.hid hu2; have HP2 := Lib.hid (HRP.out.below hb2); clear hb2 hu2)
      go_cut [9] from 33 to 55 (fun v wx => v = .bool (namedI nm) ∧ Hid (Below w.heap.size w wx) ∧ Hid (RP wx wr.heap.size ⟨kd, lo, hi, nm, ks⟩ (.slice Ak ks.length ck)))
      case first =>
        obtain ⟨-, -, -, p3, -⟩ := HP2.out.cells
        rcases HU.out with ⟨hf, hr⟩ | ⟨rfl, hm, hr⟩ | ⟨rfl, rfl, y, yb, yo, rfl, hyb, y0, y4, hr⟩
        · have t1 : (f2 == 0) = false := by simpa using hf
          have HX : Hid (namedI nm = false) := by show _ = _; rw [hr]
          clear hf hr
          go_quiet (fail)
          go_wp2_with fail
          go_meet
          exact ⟨by rw [HX.out], below_drewN HB2.out nq, HP2.out⟩
        · have t1 : ((m2 : Int) == 1) = false := by simp; omega
          have t2 : (m2 == 1) = false := by simpa using hm
          have HX : Hid (namedI nm = false) := by show _ = _; rw [hr]
          clear hm hr
          go_quiet (fail)
          go_wp2_with fail
          go_meet
          exact ⟨by rw [HX.out], below_drewN HB2.out nq, HP2.out⟩
        · obtain ⟨yk, ya, yl, yh, ynm⟩ := y
          dsimp only at y0 y4 hr
          by_cases hk : yk = 1
          · subst hk
            by_cases hnm : ynm = nm
            · have HX : Hid (namedI nm = true) := by show _ = _; rw [hr]; simp [hnm]
              subst hnm
              clear hr
              go_quiet (fail)
              go_wp2_with fail
              go_meet
              exact ⟨by rw [HX.out], below_drewN HB2.out nq, HP2.out⟩
            · have HX : Hid (namedI nm = false) := by show _ = _; rw [hr]; simp [hnm]
              have t3 : (ynm == nm) = false := by simpa using hnm
              clear hr hnm
              go_quiet (fail)
              go_wp2_with fail
              go_meet
              exact ⟨by rw [HX.out], below_drewN HB2.out nq, HP2.out⟩
          · have t2 : (yk == 1) = false := by simpa using hk
            have HX : Hid (namedI nm = false) := by show _ = _; rw [hr]; simp [hk]
            clear hr hk
            go_quiet (fail)
            go_wp2_with fail
            go_meet
            exact ⟨by rw [HX.out], below_drewN HB2.out nq, HP2.out⟩
      case rest =>
        obtain ⟨rfl, HB3, HP3⟩ := hcut
        have HFB := Lib.hid (fits_bits kd lo hi nm ks)
        generalize namedI nm = NB at HFB ⊢
        obtain ⟨p0, p1, p2, p3, p4⟩ := HP3.out.cells
        dsimp only at p0 p1 p2 p3
        have kl := HSM.out.2
        clear HP2 HB2 HU HLX HRP HB1
        go_upto_region 8 with fail
        go_cut [10] from 56 to 63 (fun v wx => v = .bool (zB lo hi) ∧ wx = wc)
        case first =>
          by_cases q2 : lo = 0
          · subst q2
            by_cases q3 : hi = 0
            · subst q3
              go_wp2_with fail
              go_meet
              exact ⟨rfl, rfl⟩
            · have w1 : (hi == 0) = false := by simpa using q3
              have HZ : Hid (zB 0 hi = false) := by show _ = _; simp [zB, q3]
              clear q3
              go_wp2_with fail
              go_meet
              exact ⟨by rw [HZ.out], rfl⟩
          · have w1 : (lo == 0) = false := by simpa using q2
            have HZ : Hid (zB lo hi = false) := by show _ = _; simp [zB, q2]
            clear q2
            go_wp2_with fail
            go_meet
            exact ⟨by rw [HZ.out], rfl⟩
        case rest =>
          obtain ⟨rfl, rfl⟩ := hcut
          generalize zB lo hi = Z at HFB ⊢
          go_upto_region 9 with fail
          go_cut [11] from 64 to 76 (fun v wx => v = .bool (oneB kd ks.length Z NB) ∧ wx = wc)
          case first =>
            by_cases k1 : kd = 1
            · subst k1
              by_cases q1 : ks.length = 0
              · have t1 : ((ks.length : Int) == 0) = true := by rw [q1]; rfl
                have t1' : (ks.length == 0) = true := by simpa using q1
                have HZ : Hid (oneB 1 ks.length Z NB = (Z && NB)) := by show _ = _; simp [oneB, q1]
                clear q1
                cases Z <;> cases NB
                all_goals
                  go_wp2_with fail
                  go_meet
                  exact ⟨by rw [HZ.out]; rfl, rfl⟩
              · have t1' : (ks.length == 0) = false := by simpa using q1
                have t1 : ((ks.length : Int) == 0) = false := by rw [Bool.eq_false_iff]; intro e; exact q1 (by simpa using e)
                have HZ : Hid (oneB 1 ks.length Z NB = false) := by show _ = _; simp only [oneB, decide_eq_false q1, Bool.false_and, Bool.and_false]
                clear q1
                go_wp2_with fail
                go_meet
                exact ⟨by rw [HZ.out], rfl⟩
            · have x1 : (kd == 1) = false := by simpa using k1
              have HZ : Hid (oneB kd ks.length Z NB = false) := by show _ = _; simp only [oneB, decide_eq_false k1, Bool.false_and]
              clear k1
              go_wp2_with fail
              go_meet
              exact ⟨by rw [HZ.out], rfl⟩
          case rest =>
            obtain ⟨rfl, rfl⟩ := hcut
            generalize oneB kd ks.length Z NB = F at HFB ⊢
            go_upto_region 10 with fail
            go_cut [11] from 77 to 99 (fun v wx => v = .bool (twoB F kd ks.length Z nm) ∧ wx = wc)
            case first =>
              cases F with
              | true =>
                go_wp2_with fail
                go_meet
                exact ⟨rfl, rfl⟩
              | false =>
                by_cases k2 : kd = 2 ∨ kd = 3
                · by_cases q1 : 2 ≤ ks.length
                  · have t1 : decide (2 ≤ (ks.length : Int)) = true := by simp; omega
                    have t1' : decide (2 ≤ ks.length) = true := by simpa using q1
                    by_cases q4 : nm = []
                    · subst q4
                      have HZ : Hid (twoB false kd ks.length Z [] = Z) := by show _ = _; simp [twoB, k2, q1]
                      clear q1
                      rcases k2 with rfl | rfl <;> cases Z
                      all_goals
                        go_wp2_with fail
                        go_meet
                        exact ⟨by rw [HZ.out], rfl⟩
                    · have w4 : (nm == []) = false := by simpa using q4
                      have w4' : nm.isEmpty = false := by simpa using q4
                      have HZ : Hid (twoB false kd ks.length Z nm = false) := by show _ = _; simp [twoB, q4]
                      clear q1 q4
                      rcases k2 with rfl | rfl <;> cases Z
                      all_goals
                        go_wp2_with fail
                        go_meet
                        exact ⟨by rw [HZ.out], rfl⟩
                  · have t1 : decide (2 ≤ (ks.length : Int)) = false := by simp; omega
                    have t1' : decide (2 ≤ ks.length) = false := by simpa using q1
                    have HZ : Hid (twoB false kd ks.length Z nm = false) := by show _ = _; simp only [twoB, decide_eq_false q1, Bool.false_and, Bool.and_false, Bool.or_false]
                    clear q1
                    rcases k2 with rfl | rfl
                    all_goals
                      go_wp2_with fail
                      go_meet
                      exact ⟨by rw [HZ.out], rfl⟩
                · have x2 : (kd == 2) = false := by simp; omega
                  have x3 : (kd == 3) = false := by simp; omega
                  have HZ : Hid (twoB false kd ks.length Z nm = false) := by show _ = _; simp only [twoB, decide_eq_false k2, Bool.false_and, Bool.or_false]
                  clear k2
                  go_wp2_with fail
                  go_meet
                  exact ⟨by rw [HZ.out], rfl⟩
            case rest =>
              obtain ⟨rfl, rfl⟩ := hcut
              generalize twoB F kd ks.length Z nm = G at HFB ⊢
              go_upto_region 11 with fail
              go_cut [12] from 100 to 129 (fun v wx => v = .bool (countI lo hi) ∧ wx = wc)
              case first =>
                have HC : Hid (countI lo hi = (decide (0 ≤ lo) && (decide (lo ≤ 20) && (hi == -1 || (decide (1 ≤ hi) && (decide (hi ≤ 20) && decide (lo ≤ hi))))))) := by
                  show _ = _
                  rw [Bool.eq_iff_iff]
                  simp [countI]
                cases u1 : decide (0 ≤ lo)
                · have HZ : Hid (countI lo hi = false) := by show _ = _; rw [HC.out, u1]; rfl
                  go_wp2_with fail
                  go_meet
                  exact ⟨by rw [HZ.out], rfl⟩
                · cases u2 : decide (lo ≤ 20)
                  · have HZ : Hid (countI lo hi = false) := by show _ = _; rw [HC.out, u1, u2]; rfl
                    go_wp2_with fail
                    go_meet
                    exact ⟨by rw [HZ.out], rfl⟩
                  · cases u3 : (hi == -1)
                    · cases u4 : decide (1 ≤ hi)
                      · have HZ : Hid (countI lo hi = false) := by show _ = _; rw [HC.out, u1, u2, u3, u4]; rfl
                        go_wp2_with fail
                        go_meet
                        exact ⟨by rw [HZ.out], rfl⟩
                      · cases u5 : decide (hi ≤ 20)
                        · have HZ : Hid (countI lo hi = false) := by show _ = _; rw [HC.out, u1, u2, u3, u4, u5]; rfl
                          go_wp2_with fail
                          go_meet
                          exact ⟨by rw [HZ.out], rfl⟩
                        · have HZ : Hid (countI lo hi = decide (lo ≤ hi)) := by show _ = _; rw [HC.out, u1, u2, u3, u4, u5]; rfl
                          go_wp2_with fail
                          go_meet
                          exact ⟨by rw [HZ.out], rfl⟩
                    · have HZ : Hid (countI lo hi = true) := by show _ = _; rw [HC.out, u1, u2, u3]; rfl
                      go_wp2_with fail
                      go_meet
                      exact ⟨by rw [HZ.out], rfl⟩
              case rest =>
                obtain ⟨rfl, rfl⟩ := hcut
                generalize countI lo hi = C at HFB ⊢
                go_upto_region 12 with fail
                go_cut [11] from 130 to 147 (fun v wx => v = .bool (fourB G kd ks.length C nm) ∧ wx = wc)
                case first =>
                  cases G with
                  | true =>
                    go_wp2_with fail
                    go_meet
                    exact ⟨rfl, rfl⟩
                  | false =>
                    by_cases k4 : kd = 4
                    · subst k4
                      by_cases q1 : ks.length = 1
                      · have t1 : ((ks.length : Int) == 1) = true := by rw [q1]; rfl
                        have t1' : (ks.length == 1) = true := by simpa using q1
                        by_cases q4 : nm = []
                        · subst q4
                          have HZ : Hid (fourB false 4 ks.length C [] = C) := by show _ = _; simp [fourB, q1]
                          clear q1
                          cases C
                          all_goals
                            go_wp2_with fail
                            go_meet
                            exact ⟨by rw [HZ.out], rfl⟩
                        · have w4 : (nm == []) = false := by simpa using q4
                          have w4' : nm.isEmpty = false := by simpa using q4
                          have HZ : Hid (fourB false 4 ks.length C nm = false) := by show _ = _; simp [fourB, q4]
                          clear q1 q4
                          cases C
                          all_goals
                            go_wp2_with fail
                            go_meet
                            exact ⟨by rw [HZ.out], rfl⟩
                      · have t1 : ((ks.length : Int) == 1) = false := by rw [Bool.eq_false_iff]; intro e; exact q1 (by have := eq_of_beq e; omega)
                        have t1' : (ks.length == 1) = false := by simpa using q1
                        have HZ : Hid (fourB false 4 ks.length C nm = false) := by show _ = _; simp only [fourB, decide_eq_false q1, Bool.false_and, Bool.and_false, Bool.or_false]
                        clear q1
                        go_wp2_with fail
                        go_meet
                        exact ⟨by rw [HZ.out], rfl⟩
                    · have x4 : (kd == 4) = false := by simpa using k4
                      have HZ : Hid (fourB false kd ks.length C nm = false) := by show _ = _; simp only [fourB, decide_eq_false k4, Bool.false_and, Bool.or_false]
                      clear k4
                      go_wp2_with fail
                      go_meet
                      exact ⟨by rw [HZ.out], rfl⟩
                case rest =>
                  obtain ⟨rfl, rfl⟩ := hcut
                  rw [← HFB.out]
                  cases hf : fitsI ⟨kd, lo, hi, nm, ks⟩ with
                  | true =>
                    have HE2 := Lib.hid (HYES.out hf)
                    clear HYES HNO
                    go_wp2_with fail
                    go_roundw
                    case rel => exact ⟨j + 1, by go_num, by omega, HE2, HB3⟩
                    case measure => simp [intOf]; omega
                  | false =>
                    have HX := Lib.hid (HNO.out hf)
                    clear HYES HNO
                    go_wp2_with fail
                    go_ret
                    exact ⟨by rw [HX.out]; rfl, HB3.out⟩
    · have hjn : j = n := by omega
      have HALL : Hid (rightI e = (n == 0 || wholeI e n (n - 1) == some 0)) := by
        show _ = _
        have h1 := hE.out
        rw [List.take_of_length_le (by have := HLN.out; omega)] at h1
        have h2 : e.all fitsI = true := by simpa using h1
        rw [HIF.out, h2, HLN.out, Bool.true_and]
      have l1 : decide ((j : Int) < (n : Int)) = false := by simp; omega
      have l2 : decide (j < n) = false := by simp; omega
      clear hjn hlt
      by_cases h0 : n = 0
      · have t1 : ((n : Int) == 0) = true := by rw [h0]; rfl
        have t1' : (n == 0) = true := by simpa using h0
        have HX : Hid (rightI e = true) := by show _ = _; rw [HALL.out, t1']; rfl
        clear h0
        go_wp2_with fail
        go_ret
        exact ⟨by rw [HX.out]; rfl, hB.out⟩
      · have t1' : (n == 0) = false := by simpa using h0
        have t1 : ((n : Int) == 0) = false := by rw [Bool.eq_false_iff]; intro e; exact h0 (by have := eq_of_beq e; omega)
        have hw1 : IntKind.i64.wrap ((n : Int) - 1) = (n : Int) - 1 := IntWalk.i64_in _ (by omega)
        have HX : Hid (rightI e = (wholeI e n (n - 1) == some 0)) := by show _ = _; rw [HALL.out, t1']; rfl
        have HC0 := HWH.out wr hB.out (by omega)
        rw [show ((n - 1 : Nat) : Int) = (n : Int) - 1 from by omega] at HC0
        have HC1 := hide HC0
        generalize wholeI e n (n - 1) = q at HX HC1
        clear h0 HC0
        cases q with
        | none =>
          have HC : Hid (Calls Tryd.prog 35 #[.slice A n c, .int .i64 ((n : Int) - 1)] wr fun en w' => en = .returned (.int .i64 (-1)) ∧ Below wr.heap.size wr w') := HC1.out
          go_wp2_with (go_at_call 35; (with_reducible refine (HC.out).mono ?_); rintro en w2 ⟨rfl, hb2⟩; have HB2 : Hid (Below w.heap.size w w2) := hB.out.trans (hb2.mono hB.out.size); clear hb2)
          go_ret
          exact ⟨by rw [HX.out]; rfl, HB2.out⟩
        | some q =>
          have HC : Hid (Calls Tryd.prog 35 #[.slice A n c, .int .i64 ((n : Int) - 1)] wr fun en w' => en = .returned (.int .i64 (q : Int)) ∧ Below wr.heap.size wr w') := HC1.out
          by_cases hq : q = 0
          · subst hq
            go_wp2_with (go_at_call 35; (with_reducible refine (HC.out).mono ?_); rintro en w2 ⟨rfl, hb2⟩; have HB2 : Hid (Below w.heap.size w w2) := hB.out.trans (hb2.mono hB.out.size); clear hb2)
            go_ret
            exact ⟨by rw [HX.out]; rfl, HB2.out⟩
          · have t2 : ((q : Int) == 0) = false := by rw [Bool.eq_false_iff]; intro e; exact hq (by have := eq_of_beq e; omega)
            have t2' : (q == 0) = false := by simpa using hq
            have HX2 : Hid (rightI e = false) := by show _ = _; rw [HX.out]; simpa using hq
            clear hq
            go_wp2_with (go_at_call 35; (with_reducible refine (HC.out).mono ?_); rintro en w2 ⟨rfl, hb2⟩; have HB2 : Hid (Below w.heap.size w w2) := hB.out.trans (hb2.mono hB.out.size); clear hb2)
            go_ret
            exact ⟨by rw [HX2.out]; rfl, HB2.out⟩
end Go.Proofs.YtphhacnabdpheaaDoor.Ex
