/- Diffs: rows of pairs of numbers, and of bools, that came in. -/
import Derived.Test.YthbodpdjjihcaaaRgOpn
namespace Go.Proofs.Ythbodpdjjihcaaa.Df
open Go.ChangeShapes Go.WideShapes Go.Deep Go.RowKit Mem Sm
set_option linter.unusedVariables false
def BRow (w : World) (A : Option Addr) (n : Nat) (l : List Bool) : Prop :=
  l.length = n ∧ (0 < n → ∃ b off, A = some ⟨b, off, none⟩ ∧ b < w.heap.size ∧ ∀ j, j < n → w.cell? ⟨b, off + j, none⟩ = some (.bool (l.getD j false)))
def IRow (w : World) (A : Option Addr) (n : Nat) (l : List (Int × Int)) : Prop :=
  l.length = n ∧ (0 < n → ∃ b off, A = some ⟨b, off, none⟩ ∧ b < w.heap.size ∧ ∀ j, j < n → w.cell? ⟨b, off + j * 2, none⟩ = some (.int .i64 (l.getD j (0, 0)).1) ∧ w.cell? ⟨b, off + j * 2 + 1, none⟩ = some (.int .i64 (l.getD j (0, 0)).2))
theorem BRow.below {w w' : World} {A : Option Addr} {n : Nat} {l : List Bool} (h : BRow w A n l) (hb : Below w.heap.size w w') : BRow w' A n l :=
  ⟨h.1, fun hn => by
    obtain ⟨b, off, e, hl, hc⟩ := h.2 hn
    exact ⟨b, off, e, Nat.lt_of_lt_of_le hl hb.size, fun j hj => (hb.cell (p := ⟨b, off + j, none⟩) hl).trans (hc j hj)⟩⟩
theorem IRow.below {w w' : World} {A : Option Addr} {n : Nat} {l : List (Int × Int)} (h : IRow w A n l) (hb : Below w.heap.size w w') : IRow w' A n l :=
  ⟨h.1, fun hn => by
    obtain ⟨b, off, e, hl, hc⟩ := h.2 hn
    exact ⟨b, off, e, Nat.lt_of_lt_of_le hl hb.size, fun j hj => ⟨(hb.cell (p := ⟨b, off + j * 2, none⟩) hl).trans (hc j hj).1, (hb.cell (p := ⟨b, off + j * 2 + 1, none⟩) hl).trans (hc j hj).2⟩⟩⟩
theorem open_bools {H : Type} {enc : TypeId × Value → H} {P : Program} {W : World} {spare : Nat → Bool} {held : Bool} {t e : TypeId} {fuel : Nat} {a0 : Option Addr} {len0 cap0 : Nat} {x : DataW H × List MemPlace}
    (ht : P.underlying t = some (.slice e)) (he : P.underlying e = some .bool) (ce : P.cellsOf e = 1)
    (h : DataW.trod enc P W 0 spare held fuel t [.slice a0 len0 cap0] = some x) : ∃ l : List Bool, BRow W a0 len0 l ∧ len0 ≤ maxLen := by
  rcases open_slice1 ht ce h with ⟨hcs, _⟩ | ⟨a, len, cap, m, n, V, D, Pl, hcs, _, hl, hmx, hmm, _, hx⟩
  · simp only [List.cons.injEq, and_true, Value.slice.injEq] at hcs
    obtain ⟨rfl, rfl, rfl⟩ := hcs
    exact ⟨[], ⟨rfl, fun h => absurd h (by omega)⟩, Nat.zero_le _⟩
  · simp only [List.cons.injEq, and_true, Value.slice.injEq] at hcs
    obtain ⟨rfl, rfl, rfl⟩ := hcs
    have hlm : len0 ≤ m := by rw [hmm]; split <;> omega
    obtain ⟨F, hF⟩ := choose_all (n := len0) (R := fun i (z : Bool) => W.cell? (a.add i) = some (.bool z)) false (fun i hi => by
      obtain ⟨h1, h2⟩ := hx i (by omega)
      obtain ⟨z, c0, _⟩ := DataW.trod_bool he h2
      simp only [List.cons.injEq, and_true] at c0
      rw [c0] at h1
      exact ⟨z, h1⟩)
    refine ⟨(List.range len0).map F, ⟨by simp, fun hp => ?_⟩, by omega⟩
    obtain ⟨b, off, spot⟩ := a
    have hspot : spot = none := by
      have hc := hF 0 hp
      simpa [Addr.add] using World.cell?_spot hc
    subst hspot
    refine ⟨b, off, rfl, ?_, fun j hj => ?_⟩
    · have hc := hF 0 hp
      rw [add_at] at hc
      exact World.block_lt_of_cell? W _ hc
    · have hc := hF j hj
      rw [add_at] at hc
      rw [hc]
      simp [List.getD, hj]
theorem open_twos {H : Type} {enc : TypeId × Value → H} {P : Program} {W : World} {spare : Nat → Bool} {held : Bool} {t e ti : TypeId} {fuel : Nat} {a0 : Option Addr} {len0 cap0 : Nat} {x : DataW H × List MemPlace}
    (ht : P.underlying t = some (.slice e)) (he : P.underlying e = some (.array 2 ti)) (hce : P.cellsOf e = 2) (hi : P.underlying ti = some (.int .i64)) (ci : P.cellsOf ti = 1)
    (h : DataW.trod enc P W 0 spare held fuel t [.slice a0 len0 cap0] = some x) : ∃ l : List (Int × Int), IRow W a0 len0 l ∧ len0 ≤ maxLen := by
  rcases open_slice ht h with ⟨hcs, _⟩ | ⟨a, len, cap, m, n, D, Pl, hcs, _, hl, hmx, hmm, _, hx⟩
  · simp only [List.cons.injEq, and_true, Value.slice.injEq] at hcs
    obtain ⟨rfl, rfl, rfl⟩ := hcs
    exact ⟨[], ⟨rfl, fun h => absurd h (by omega)⟩, Nat.zero_le _⟩
  · simp only [List.cons.injEq, and_true, Value.slice.injEq] at hcs
    obtain ⟨rfl, rfl, rfl⟩ := hcs
    have hlm : len0 ≤ m := by rw [hmm]; split <;> omega
    have each : ∀ i, i < len0 → ∃ q : Int × Int, W.cell? ((a.add (i * 2)).add 0) = some (.int .i64 q.1) ∧ W.cell? ((a.add (i * 2)).add 1) = some (.int .i64 q.2) := by
      intro i hil
      obtain ⟨cs', h1, h2⟩ := hx i (by omega)
      rw [hce] at h1
      obtain ⟨_, hlen, hcell⟩ := World.cells?_some h1
      obtain ⟨ys, m2, _, _, _, hyl, hyf⟩ := DataW.trod_array he h2
      match ys, hyl, cs', hlen with
      | [y0, y1], _, [v0, v1], _ =>
        have g0 := hyf 0 (by omega)
        have g1 := hyf 1 (by omega)
        rw [ci] at g0 g1
        simp only [Nat.zero_mul, Nat.one_mul, List.getElem?_cons_zero, List.getElem?_cons_succ, List.drop_zero, List.drop_succ_cons, List.take_succ_cons, List.take_zero] at g0 g1
        obtain ⟨z0, c0, _, _⟩ := DataW.trod_int hi g0
        obtain ⟨z1, c1, _, _⟩ := DataW.trod_int hi g1
        simp only [List.cons.injEq, and_true] at c0 c1
        subst c0; subst c1
        exact ⟨(z0, z1), hcell 0 (by omega), hcell 1 (by omega)⟩
    obtain ⟨F, hF⟩ := choose_all (0, 0) each
    refine ⟨(List.range len0).map F, ⟨by simp, fun hp => ?_⟩, by omega⟩
    obtain ⟨b, off, spot⟩ := a
    have hspot : spot = none := by
      have hc := (hF 0 hp).1
      simpa [Addr.add] using World.cell?_spot hc
    subst hspot
    refine ⟨b, off, rfl, ?_, fun j hj => ?_⟩
    · have hc := (hF 0 hp).1
      rw [add_at, add_at] at hc
      exact World.block_lt_of_cell? W _ hc
    · have hc := hF j hj
      rw [add_at, add_at, add_at] at hc
      simp only [Nat.add_zero] at hc
      rw [hc.1, hc.2]
      simp [List.getD, hj]
end Go.Proofs.Ythbodpdjjihcaaa.Df
