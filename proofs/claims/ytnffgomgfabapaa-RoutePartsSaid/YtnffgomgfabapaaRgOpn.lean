/- Slices of ranges, and pairs of numbers, that came in, opened. -/
import Derived.Test.YtnffgomgfabapaaSmC
import Derived.OpenShut
import Derived.ShutString
import Derived.Deep.SlicePairs
namespace Go.Proofs.Ytnffgomgfabapaa.Sm
open Go.ChangeShapes Go.WideShapes Go.Deep Go.RowKit Mem

theorem choose_all {α : Type} {n : Nat} {R : Nat → α → Prop} (d : α) (h : ∀ i, i < n → ∃ x, R i x) : ∃ F : Nat → α, ∀ i, i < n → R i (F i) := by
  have h' : ∀ i, ∃ x, i < n → R i x := by
    intro i
    by_cases hi : i < n
    · obtain ⟨x, hx⟩ := h i hi; exact ⟨x, fun _ => hx⟩
    · exact ⟨d, fun h => absurd h hi⟩
  exact ⟨fun i => Classical.choose (h' i), fun i => Classical.choose_spec (h' i)⟩
theorem add_at (b o j : Nat) : (⟨b, o, none⟩ : Addr).add j = ⟨b, o + j, none⟩ := by unfold Addr.add; split <;> simp_all
theorem open_rgs {H : Type} {enc : TypeId × Value → H} {P : Program} {W : World} {spare : Nat → Bool} {held : Bool} {t e ti : TypeId} {f0 f1 f2 : Field} {fuel : Nat} {a0 : Option Addr} {len0 cap0 : Nat} {x : DataW H × List MemPlace}
    (ht : P.underlying t = some (.slice e)) (he : P.underlying e = some (.struct #[f0, f1, f2])) (hce : P.cellsOf e = 3)
    (hi : P.underlying ti = some (.int .i64)) (k0 : f0.type = ti ∧ f0.offset = 0) (k1 : f1.type = ti ∧ f1.offset = 1) (k2 : f2.type = ti ∧ f2.offset = 2) (ci : P.cellsOf ti = 1)
    (h : DataW.trod enc P W 0 spare held fuel t [.slice a0 len0 cap0] = some x) : ∃ l : List Rg, RRow W a0 len0 l ∧ len0 ≤ maxLen := by
  rcases open_slice ht h with ⟨hcs, _⟩ | ⟨a, len, cap, m, n, D, Pl, hcs, _, hl, hmx, hmm, _, hx⟩
  · simp only [List.cons.injEq, and_true, Value.slice.injEq] at hcs
    obtain ⟨rfl, rfl, rfl⟩ := hcs
    exact ⟨[], RRow.nil, Nat.zero_le _⟩
  · simp only [List.cons.injEq, and_true, Value.slice.injEq] at hcs
    obtain ⟨rfl, rfl, rfl⟩ := hcs
    have hlm : len0 ≤ m := by rw [hmm]; split <;> omega
    have each : ∀ i, i < len0 → ∃ q : Rg, ∀ j v, (rcells q)[j]? = some v → W.cell? ((a.add (i * 3)).add j) = some v := by
      intro i hil
      obtain ⟨cs', h1, h2⟩ := hx i (by omega)
      rw [hce] at h1
      obtain ⟨_, hlen, hcell⟩ := World.cells?_some h1
      obtain ⟨ys, m2, _, hy, _, hyl, hyf⟩ := DataW.trod_struct he h2
      match ys, hyl, cs', hlen with
      | [y0, y1, y2], _, [v0, v1, v2], _ =>
        have g0 := hyf 0 f0 rfl
        have g1 := hyf 1 f1 rfl
        have g2 := hyf 2 f2 rfl
        rw [k0.1, k0.2, ci] at g0
        rw [k1.1, k1.2, ci] at g1
        rw [k2.1, k2.2, ci] at g2
        simp only [List.getElem?_cons_zero, List.getElem?_cons_succ, List.drop_zero, List.drop_succ_cons, List.take_succ_cons, List.take_zero] at g0 g1 g2
        obtain ⟨z0, c0, _, _⟩ := DataW.trod_int hi g0
        obtain ⟨z1, c1, _, _⟩ := DataW.trod_int hi g1
        obtain ⟨z2, c2, _, _⟩ := DataW.trod_int hi g2
        simp only [List.cons.injEq, and_true] at c0 c1 c2
        subst c0; subst c1; subst c2
        refine ⟨⟨z0, z1, z2⟩, fun j v hj => ?_⟩
        have hjl : j < 3 := by
          have := (List.getElem?_eq_some_iff.1 hj).1
          rwa [rcells_length] at this
        have := hcell j hjl
        rw [this]; exact hj
    obtain ⟨F, hF⟩ := choose_all ⟨0, 0, 0⟩ each
    refine ⟨(List.range len0).map F, ⟨by simp, fun hp => ?_⟩, by omega⟩
    obtain ⟨b, off, spot⟩ := a
    have hspot : spot = none := by
      have hc := (hF 0 hp) 0 _ rfl
      simpa [Addr.add] using World.cell?_spot hc
    subst hspot
    have ha : ∀ i j, ((⟨b, off, none⟩ : Addr).add i).add j = ⟨b, off + i + j, none⟩ := fun i j => by rw [add_at, add_at]
    have hlt : b < W.heap.size := by
      have hc := (hF 0 hp) 0 _ rfl
      rw [ha] at hc
      exact World.block_lt_of_cell? W _ hc
    refine ⟨b, off, rfl, hlt, fun i hi => ?_⟩
    have hi' : i < len0 := by simpa using hi
    simp only [List.getElem_map, List.getElem_range]
    intro j v hj
    have c := (hF i hi') j v hj
    rwa [ha] at c
end Go.Proofs.Ytnffgomgfabapaa.Sm
