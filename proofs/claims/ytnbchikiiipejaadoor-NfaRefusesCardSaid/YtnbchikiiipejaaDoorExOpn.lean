/- Slices of signs, of parts, of numbers that came in, opened. -/
import Derived.Test.YtnbchikiiipejaaDoorLxMem
import Derived.Test.YtnbchikiiipejaaDoorLxEnds
import Derived.ProofKit
import Derived.OpenShut
import Derived.Deep.SlicePairs
import Derived.Test.YtnbchikiiipejaaDoorExTm
import Derived.Deep.CutRange
namespace Go.Proofs.YtnbchikiiipejaaDoor.Lx
open Go.ChangeShapes Go.WideShapes Go.Deep Go.RowKit

theorem choose_all {α : Type} {n : Nat} {R : Nat → α → Prop} (d : α) (h : ∀ i, i < n → ∃ x, R i x) : ∃ F : Nat → α, ∀ i, i < n → R i (F i) := by
  have h' : ∀ i, ∃ x, i < n → R i x := by
    intro i
    by_cases hi : i < n
    · obtain ⟨x, hx⟩ := h i hi; exact ⟨x, fun _ => hx⟩
    · exact ⟨d, fun h => absurd h hi⟩
  exact ⟨fun i => Classical.choose (h' i), fun i => Classical.choose_spec (h' i)⟩
theorem wf_64 {v : Int} (h : (Lit.int .i64 v).wf = true) : I64 v := by
  have hmin : IntKind.i64.min = -9223372036854775808 := rfl
  have hmax : IntKind.i64.max = 9223372036854775807 := rfl
  simp only [Lit.wf, Bool.and_eq_true, decide_eq_true_eq] at h
  unfold I64; omega
theorem str_list (s : ByteArray) : s = ⟨s.data.toList.toArray⟩ := by cases s; simp

theorem open_signs {H : Type} {enc : TypeId × Value → H} {P : Program} {W : World} {spare : Nat → Bool} {held : Bool} {t e ti ts : TypeId} {f0 f1 f2 f3 f4 : Field} {fuel : Nat} {a0 : Option Addr} {len0 cap0 : Nat} {x : DataW H × List MemPlace}
    (ht : P.underlying t = some (.slice e)) (he : P.underlying e = some (.struct #[f0, f1, f2, f3, f4])) (hce : P.cellsOf e = 5)
    (hi : P.underlying ti = some (.int .i64)) (hs : P.underlying ts = some .string)
    (k0 : f0.type = ti ∧ f0.offset = 0) (k1 : f1.type = ti ∧ f1.offset = 1) (k2 : f2.type = ti ∧ f2.offset = 2) (k3 : f3.type = ti ∧ f3.offset = 3) (k4 : f4.type = ts ∧ f4.offset = 4)
    (ci : P.cellsOf ti = 1) (cst : P.cellsOf ts = 1)
    (h : DataW.trod enc P W 0 spare held fuel t [.slice a0 len0 cap0] = some x) :
    ∃ l : List Sg, GRow W a0 len0 l ∧ len0 ≤ maxLen ∧ ∀ x ∈ l, I64 x.low ∧ I64 x.high ∧ x.name.length ≤ maxLen := by
  rcases open_slice ht h with ⟨hcs, _⟩ | ⟨a, len, cap, m, n, D, Pl, hcs, _, hl, hm, hmm, _, hx⟩
  · simp only [List.cons.injEq, and_true, Value.slice.injEq] at hcs
    obtain ⟨rfl, rfl, rfl⟩ := hcs
    exact ⟨[], GRow.nil, Nat.zero_le _, fun x hx => by simp at hx⟩
  · simp only [List.cons.injEq, and_true, Value.slice.injEq] at hcs
    obtain ⟨rfl, rfl, rfl⟩ := hcs
    have hlm : len0 ≤ m := by rw [hmm]; split <;> omega
    have each : ∀ i, i < len0 → ∃ q : Sg, (I64 q.low ∧ I64 q.high ∧ q.name.length ≤ maxLen) ∧ ∀ j v, (cells1 q)[j]? = some v → W.cell? ((a.add (i * 5)).add j) = some v := by
      intro i hil
      obtain ⟨cs', h1, h2⟩ := hx i (by omega)
      rw [hce] at h1
      obtain ⟨_, hlen, hcell⟩ := World.cells?_some h1
      obtain ⟨ys, m2, _, hy, _, hyl, hyf⟩ := DataW.trod_struct he h2
      match ys, hyl, cs', hlen with
      | [y0, y1, y2, y3, y4], _, [v0, v1, v2, v3, v4], _ =>
        have g0 := hyf 0 f0 rfl
        have g1 := hyf 1 f1 rfl
        have g2 := hyf 2 f2 rfl
        have g3 := hyf 3 f3 rfl
        have g4 := hyf 4 f4 rfl
        rw [k0.1, k0.2, ci] at g0
        rw [k1.1, k1.2, ci] at g1
        rw [k2.1, k2.2, ci] at g2
        rw [k3.1, k3.2, ci] at g3
        rw [k4.1, k4.2, cst] at g4
        simp only [List.getElem?_cons_zero, List.getElem?_cons_succ, List.drop_zero, List.drop_succ_cons, List.take_succ_cons, List.take_zero] at g0 g1 g2 g3 g4
        obtain ⟨z0, c0, _, _⟩ := DataW.trod_int hi g0
        obtain ⟨z1, c1, _, _⟩ := DataW.trod_int hi g1
        obtain ⟨z2, c2, _, w2⟩ := DataW.trod_int hi g2
        obtain ⟨z3, c3, _, w3⟩ := DataW.trod_int hi g3
        obtain ⟨s, c4, _, w4⟩ := DataW.trod_string hs g4
        simp only [List.cons.injEq, and_true] at c0 c1 c2 c3 c4
        subst c0; subst c1; subst c2; subst c3; subst c4
        refine ⟨⟨z0, z1, z2, z3, s.data.toList⟩, ⟨wf_64 w2, wf_64 w3, by simpa using w4⟩, fun j v hj => ?_⟩
        have hj' : ([Value.int .i64 z0, .int .i64 z1, .int .i64 z2, .int .i64 z3, .string s] : List Value)[j]? = some v := by
          rw [← hj, cells1]
        have hjl : j < 5 := by
          have := (List.getElem?_eq_some_iff.1 hj').1
          simpa using this
        have := hcell j hjl
        rw [this]; exact hj'
    obtain ⟨F, hF⟩ := choose_all ⟨0, 0, 0, 0, []⟩ each
    refine ⟨(List.range len0).map F, ⟨by simp, fun hp => ?_⟩, by omega, fun x hx => ?_⟩
    · obtain ⟨b, off, spot⟩ := a
      have hspot : spot = none := by
        have hc := (hF 0 hp).2 0 _ rfl
        simpa [Addr.add] using World.cell?_spot hc
      subst hspot
      have ha : ∀ i j, ((⟨b, off, none⟩ : Addr).add i).add j = ⟨b, off + i + j, none⟩ := fun i j => by rw [add_plain, add_plain]
      have hlt : b < W.heap.size := by
        have hc := (hF 0 hp).2 0 _ rfl
        rw [ha] at hc
        exact World.block_lt_of_cell? W _ hc
      refine ⟨b, off, rfl, hlt, fun i hi => ?_⟩
      have hi' : i < len0 := by simpa using hi
      simp only [List.getElem_map, List.getElem_range]
      have c := fun j v hj => (hF i hi').2 j v hj
      have c0 := c 0 _ rfl
      have c1 := c 1 _ rfl
      have c2 := c 2 _ rfl
      have c3 := c 3 _ rfl
      have c4 := c 4 _ rfl
      rw [ha] at c0 c1 c2 c3 c4
      exact ⟨c0, c1, c2, c3, c4⟩
    · obtain ⟨i, hi, rfl⟩ := List.mem_map.1 hx
      exact (hF i (List.mem_range.1 hi)).1
end Go.Proofs.YtnbchikiiipejaaDoor.Lx
namespace Go.Proofs.YtnbchikiiipejaaDoor.Ex
open Go.ChangeShapes Go.WideShapes Go.Deep Go.RowKit Mem Lx

theorem open_ints {H : Type} {enc : TypeId × Value → H} {P : Program} {W : World} {spare : Nat → Bool} {held : Bool} {t e : TypeId} {fuel : Nat} {v : Value} {x : DataW H × List MemPlace}
    (ht : P.underlying t = some (.slice e)) (he : P.underlying e = some (.int .i64)) (ce : P.cellsOf e = 1)
    (h : DataW.trod enc P W 0 spare held fuel t [v] = some x) : ∃ ks : List Int, KR W v ks ∧ ks.length ≤ maxLen := by
  rcases open_slice1 ht ce h with ⟨hcs, _⟩ | ⟨a, len, cap, m, n, V, D, Pl, hcs, _, hl, hm, hmm, _, hx⟩
  · simp only [List.cons.injEq, and_true] at hcs
    subst hcs
    exact ⟨[], ⟨none, 0, rfl, Nat.le_refl _, Row.nil⟩, Nat.zero_le _⟩
  · simp only [List.cons.injEq, and_true] at hcs
    subst hcs
    have hlm : len ≤ m := by rw [hmm]; split <;> omega
    obtain ⟨F, hF⟩ := choose_all (n := len) (R := fun i (z : Int) => W.cell? (a.add i) = some (.int .i64 z) ∧ (Lit.int .i64 z).wf = true) 0 (fun i hi => by
      obtain ⟨h1, h2⟩ := hx i (by omega)
      obtain ⟨z, c0, _, w0⟩ := DataW.trod_int he h2
      simp only [List.cons.injEq, and_true] at c0
      rw [c0] at h1
      exact ⟨z, h1, w0⟩)
    refine ⟨(List.range len).map F, ⟨some a, cap, by simp, by simpa using hl, by simp, fun z hz => ?_, fun hp => ?_⟩, by simp; omega⟩
    · obtain ⟨i, hi, rfl⟩ := List.mem_map.1 hz
      exact (hF i (List.mem_range.1 hi)).2
    · simp only [List.length_map, List.length_range] at hp ⊢
      obtain ⟨b, off, spot⟩ := a
      have hspot : spot = none := by
        have hc := (hF 0 hp).1
        simpa [Addr.add] using World.cell?_spot hc
      subst hspot
      refine ⟨b, off, rfl, fun j hj => ?_⟩
      have := (hF j hj).1
      rw [add_plain] at this
      rw [this]
      simp [hj]
theorem open_parts {H : Type} {enc : TypeId × Value → H} {P : Program} {W : World} {spare : Nat → Bool} {held : Bool} {t e ti ts tk : TypeId} {f0 f1 f2 f3 f4 : Field} {fuel : Nat} {a0 : Option Addr} {len0 cap0 : Nat} {x : DataW H × List MemPlace}
    (ht : P.underlying t = some (.slice e)) (he : P.underlying e = some (.struct #[f0, f1, f2, f3, f4])) (hce : P.cellsOf e = 5)
    (hi : P.underlying ti = some (.int .i64)) (hs : P.underlying ts = some .string) (hk : P.underlying tk = some (.slice ti))
    (k0 : f0.type = ti ∧ f0.offset = 0) (k1 : f1.type = ti ∧ f1.offset = 1) (k2 : f2.type = ti ∧ f2.offset = 2) (k3 : f3.type = ts ∧ f3.offset = 3) (k4 : f4.type = tk ∧ f4.offset = 4)
    (ci : P.cellsOf ti = 1) (cst : P.cellsOf ts = 1) (ck : P.cellsOf tk = 1)
    (h : DataW.trod enc P W 0 spare held fuel t [.slice a0 len0 cap0] = some x) :
    ∃ l : List PI, PR W a0 len0 l ∧ len0 ≤ maxLen ∧ ∀ p ∈ l, (I64 p.low ∧ I64 p.high) ∧ p.name.length ≤ maxLen ∧ p.kids.length ≤ maxLen := by
  rcases open_slice ht h with ⟨hcs, _⟩ | ⟨a, len, cap, m, n, D, Pl, hcs, _, hl, hm, hmm, _, hx⟩
  · simp only [List.cons.injEq, and_true, Value.slice.injEq] at hcs
    obtain ⟨rfl, rfl, rfl⟩ := hcs
    exact ⟨[], ⟨rfl, fun h => absurd h (by omega)⟩, Nat.zero_le _, fun x hx => by simp at hx⟩
  · simp only [List.cons.injEq, and_true, Value.slice.injEq] at hcs
    obtain ⟨rfl, rfl, rfl⟩ := hcs
    have hlm : len0 ≤ m := by rw [hmm]; split <;> omega
    have each : ∀ i, i < len0 → ∃ q : PI × Value, ((I64 q.1.low ∧ I64 q.1.high) ∧ q.1.name.length ≤ maxLen ∧ q.1.kids.length ≤ maxLen) ∧ KR W q.2 q.1.kids ∧ ∀ j v, (icells q.1 q.2)[j]? = some v → W.cell? ((a.add (i * 5)).add j) = some v := by
      intro i hil
      obtain ⟨cs', h1, h2⟩ := hx i (by omega)
      rw [hce] at h1
      obtain ⟨_, hlen, hcell⟩ := World.cells?_some h1
      obtain ⟨ys, m2, _, hy, _, hyl, hyf⟩ := DataW.trod_struct he h2
      match ys, hyl, cs', hlen with
      | [y0, y1, y2, y3, y4], _, [v0, v1, v2, v3, v4], _ =>
        have g0 := hyf 0 f0 rfl
        have g1 := hyf 1 f1 rfl
        have g2 := hyf 2 f2 rfl
        have g3 := hyf 3 f3 rfl
        have g4 := hyf 4 f4 rfl
        rw [k0.1, k0.2, ci] at g0
        rw [k1.1, k1.2, ci] at g1
        rw [k2.1, k2.2, ci] at g2
        rw [k3.1, k3.2, cst] at g3
        rw [k4.1, k4.2, ck] at g4
        simp only [List.getElem?_cons_zero, List.getElem?_cons_succ, List.drop_zero, List.drop_succ_cons, List.take_succ_cons, List.take_zero] at g0 g1 g2 g3 g4
        obtain ⟨z0, c0, _, _⟩ := DataW.trod_int hi g0
        obtain ⟨z1, c1, _, w1⟩ := DataW.trod_int hi g1
        obtain ⟨z2, c2, _, w2⟩ := DataW.trod_int hi g2
        obtain ⟨s, c3, _, w3⟩ := DataW.trod_string hs g3
        obtain ⟨ks, hkr, hkl⟩ := open_ints hk hi ci g4
        simp only [List.cons.injEq, and_true] at c0 c1 c2 c3
        subst c0; subst c1; subst c2; subst c3
        refine ⟨⟨⟨z0, z1, z2, s.data.toList, ks⟩, v4⟩, ⟨⟨wf_64 w1, wf_64 w2⟩, by simpa using w3, hkl⟩, hkr, fun j v hj => ?_⟩
        have hj' : ([Value.int .i64 z0, .int .i64 z1, .int .i64 z2, .string s, v4] : List Value)[j]? = some v := by
          rw [← hj, icells]
        have hjl : j < 5 := by
          have := (List.getElem?_eq_some_iff.1 hj').1
          simpa using this
        have := hcell j hjl
        rw [this]; exact hj'
    obtain ⟨F, hF⟩ := choose_all ⟨⟨0, 0, 0, [], []⟩, .slice none 0 0⟩ each
    refine ⟨(List.range len0).map (fun i => (F i).1), ⟨by simp, fun hp => ?_⟩, by omega, fun x hx => ?_⟩
    · obtain ⟨b, off, spot⟩ := a
      have hspot : spot = none := by
        have hc := (hF 0 hp).2.2 0 _ rfl
        simpa [Addr.add] using World.cell?_spot hc
      subst hspot
      have ha : ∀ i j, ((⟨b, off, none⟩ : Addr).add i).add j = ⟨b, off + i + j, none⟩ := fun i j => by rw [add_plain, add_plain]
      have hlt : b < W.heap.size := by
        have hc := (hF 0 hp).2.2 0 _ rfl
        rw [ha] at hc
        exact World.block_lt_of_cell? W _ hc
      refine ⟨b, off, rfl, hlt, fun i hi => ?_⟩
      have hi' : i < len0 := by simpa using hi
      simp only [List.getElem_map, List.getElem_range]
      have c := fun j v hj => (hF i hi').2.2 j v hj
      have c0 := c 0 _ rfl
      have c1 := c 1 _ rfl
      have c2 := c 2 _ rfl
      have c3 := c 3 _ rfl
      have c4 := c 4 _ rfl
      rw [ha] at c0 c1 c2 c3 c4
      exact ⟨c0, c1, c2, c3, _, c4, (hF i hi').2.1⟩
    · obtain ⟨i, hi, rfl⟩ := List.mem_map.1 hx
      exact (hF i (List.mem_range.1 hi)).1
end Go.Proofs.YtnbchikiiipejaaDoor.Ex
