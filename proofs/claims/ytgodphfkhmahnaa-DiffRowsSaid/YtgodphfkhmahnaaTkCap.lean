/- Slices of tokens that came in, opened. Slices of tokens that came in: their room. -/
import Derived.Test.YtgodphfkhmahnaaTkMem
import Derived.OpenShut
import Derived.ShutString
import Derived.Deep.SlicePairs
namespace Go.Proofs.Ytgodphfkhmahnaa.Tk
open Go.ChangeShapes Go.WideShapes Go.Deep Go.RowKit Mem

theorem choose_all {α : Type} {n : Nat} {R : Nat → α → Prop} (d : α) (h : ∀ i, i < n → ∃ x, R i x) : ∃ F : Nat → α, ∀ i, i < n → R i (F i) := by
  have h' : ∀ i, ∃ x, i < n → R i x := by
    intro i
    by_cases hi : i < n
    · obtain ⟨x, hx⟩ := h i hi; exact ⟨x, fun _ => hx⟩
    · exact ⟨d, fun h => absurd h hi⟩
  exact ⟨fun i => Classical.choose (h' i), fun i => Classical.choose_spec (h' i)⟩
theorem add_at (b o j : Nat) : (⟨b, o, none⟩ : Addr).add j = ⟨b, o + j, none⟩ := by unfold Addr.add; split <;> simp_all
theorem open_toks {H : Type} {enc : TypeId × Value → H} {P : Program} {W : World} {spare : Nat → Bool} {held : Bool} {t e ti tr tm tu : TypeId} {f0 f1 f2 f3 f4 : Field} {fuel : Nat} {a0 : Option Addr} {len0 cap0 : Nat} {x : DataW H × List MemPlace}
    (ht : P.underlying t = some (.slice e)) (he : P.underlying e = some (.struct #[f0, f1, f2, f3, f4])) (hce : P.cellsOf e = 12)
    (hi : P.underlying ti = some (.int .i64)) (hr : P.underlying tr = some (.int .i32)) (hm : P.underlying tm = some (.array 8 tu)) (hu : P.underlying tu = some (.int .u16))
    (k0 : f0.type = ti ∧ f0.offset = 0) (k1 : f1.type = ti ∧ f1.offset = 1) (k2 : f2.type = ti ∧ f2.offset = 2) (k3 : f3.type = tr ∧ f3.offset = 3) (k4 : f4.type = tm ∧ f4.offset = 4)
    (ci : P.cellsOf ti = 1) (cr : P.cellsOf tr = 1) (cm : P.cellsOf tm = 8) (cu : P.cellsOf tu = 1)
    (h : DataW.trod enc P W 0 spare held fuel t [.slice a0 len0 cap0] = some x) : ∃ l : List Tk, TRow W a0 len0 l ∧ len0 ≤ maxLen := by
  rcases open_slice ht h with ⟨hcs, _⟩ | ⟨a, len, cap, m, n, D, Pl, hcs, _, hl, hmx, hmm, _, hx⟩
  · simp only [List.cons.injEq, and_true, Value.slice.injEq] at hcs
    obtain ⟨rfl, rfl, rfl⟩ := hcs
    exact ⟨[], TRow.nil, Nat.zero_le _⟩
  · simp only [List.cons.injEq, and_true, Value.slice.injEq] at hcs
    obtain ⟨rfl, rfl, rfl⟩ := hcs
    have hlm : len0 ≤ m := by rw [hmm]; split <;> omega
    have each : ∀ i, i < len0 → ∃ q : Tk, ∀ j v, (tcells q)[j]? = some v → W.cell? ((a.add (i * 12)).add j) = some v := by
      intro i hil
      obtain ⟨cs', h1, h2⟩ := hx i (by omega)
      rw [hce] at h1
      obtain ⟨_, hlen, hcell⟩ := World.cells?_some h1
      obtain ⟨ys, m2, _, hy, _, hyl, hyf⟩ := DataW.trod_struct he h2
      match ys, hyl, cs', hlen with
      | [y0, y1, y2, y3, y4], _, [v0, v1, v2, v3, v4, v5, v6, v7, v8, v9, v10, v11], _ =>
        have g0 := hyf 0 f0 rfl
        have g1 := hyf 1 f1 rfl
        have g2 := hyf 2 f2 rfl
        have g3 := hyf 3 f3 rfl
        have g4 := hyf 4 f4 rfl
        rw [k0.1, k0.2, ci] at g0
        rw [k1.1, k1.2, ci] at g1
        rw [k2.1, k2.2, ci] at g2
        rw [k3.1, k3.2, cr] at g3
        rw [k4.1, k4.2, cm] at g4
        simp only [List.getElem?_cons_zero, List.getElem?_cons_succ, List.drop_zero, List.drop_succ_cons, List.take_succ_cons, List.take_zero] at g0 g1 g2 g3 g4
        obtain ⟨z0, c0, _, _⟩ := DataW.trod_int hi g0
        obtain ⟨z1, c1, _, _⟩ := DataW.trod_int hi g1
        obtain ⟨z2, c2, _, _⟩ := DataW.trod_int hi g2
        obtain ⟨z3, c3, _, _⟩ := DataW.trod_int hr g3
        obtain ⟨us, m3, _, _, _, hul, huf⟩ := DataW.trod_array hm g4
        rw [cu] at huf
        have hk : ∀ (i : Nat) (v : Value), ([v4, v5, v6, v7, v8, v9, v10, v11] : List Value)[i]? = some v → ∃ z, v = Value.int .u16 z := by
          intro i v hv
          have hi8 : i < 8 := by
            have := (List.getElem?_eq_some_iff.1 hv).1
            simpa using this
          have hf := huf i hi8
          have e1 : (([v4, v5, v6, v7, v8, v9, v10, v11] : List Value).drop (i * 1)).take 1 = [v] := by
            rw [Nat.mul_one, List.drop_eq_getElem_cons (by simpa using hi8)]
            have := (List.getElem?_eq_some_iff.1 hv).2
            rw [this]; rfl
          rw [e1] at hf
          obtain ⟨y, hy'⟩ : ∃ y, us[i]? = some y := ⟨us[i]'(by omega), List.getElem?_eq_getElem (by omega)⟩
          rw [hy'] at hf
          obtain ⟨z, cz, _, _⟩ := DataW.trod_int hu hf
          simp only [List.cons.injEq, and_true] at cz
          exact ⟨z, cz⟩
        obtain ⟨z4, c4⟩ := hk 0 v4 rfl
        obtain ⟨z5, c5⟩ := hk 1 v5 rfl
        obtain ⟨z6, c6⟩ := hk 2 v6 rfl
        obtain ⟨z7, c7⟩ := hk 3 v7 rfl
        obtain ⟨z8, c8⟩ := hk 4 v8 rfl
        obtain ⟨z9, c9⟩ := hk 5 v9 rfl
        obtain ⟨z10, c10⟩ := hk 6 v10 rfl
        obtain ⟨z11, c11⟩ := hk 7 v11 rfl
        simp only [List.cons.injEq, and_true] at c0 c1 c2 c3
        subst c0; subst c1; subst c2; subst c3; subst c4; subst c5; subst c6; subst c7; subst c8; subst c9; subst c10; subst c11
        refine ⟨⟨z0, z1, z2, z3, z4, z5, z6, z7, z8, z9, z10, z11⟩, fun j v hj => ?_⟩
        have hjl : j < 12 := by
          have := (List.getElem?_eq_some_iff.1 hj).1
          rwa [tcells_length] at this
        have := hcell j hjl
        rw [this]; exact hj
    obtain ⟨F, hF⟩ := choose_all ⟨0, 0, 0, 0, 0, 0, 0, 0, 0, 0, 0, 0⟩ each
    refine ⟨(List.range len0).map F, ⟨by simp, fun hp => ?_⟩, by omega⟩
    obtain ⟨b, off, spot⟩ := a
    have hspot : spot = none := by
      have hc := (hF 0 hp) 0 _ rfl
      simpa [Addr.add] using World.cell?_spot hc
    subst hspot
    have ha : ∀ i j, ((⟨b, off, none⟩ : Addr).add i).add j = ⟨b, off + i + j, none⟩ := fun i j => by rw [add_at, add_at]
    have hlt : b < W.heap.size := by
      have hc := (hF 0 hp) 0 _ rfl
      rw [ha] at hc
      exact World.block_lt_of_cell? W _ hc
    refine ⟨b, off, rfl, hlt, fun i hi => ?_⟩
    have hi' : i < len0 := by simpa using hi
    simp only [List.getElem_map, List.getElem_range]
    intro j v hj
    have c := (hF i hi') j v hj
    rwa [ha] at c
end Go.Proofs.Ytgodphfkhmahnaa.Tk
namespace Go.Proofs.Ytgodphfkhmahnaa.Tk
open Go.ChangeShapes Go.WideShapes Go.Deep Go.RowKit Mem
theorem slice_cap {H : Type} {enc : TypeId × Value → H} {P : Program} {W : World} {spare : Nat → Bool} {held : Bool} {t e : TypeId} {fuel : Nat} {a0 : Option Addr} {len0 cap0 : Nat} {x : DataW H × List MemPlace}
    (ht : P.underlying t = some (.slice e)) (h : DataW.trod enc P W 0 spare held fuel t [.slice a0 len0 cap0] = some x) : len0 ≤ cap0 := by
  rcases open_slice ht h with ⟨hcs, _⟩ | ⟨a, len, cap, m, n, D, Pl, hcs, _, hl, hmx, hmm, _, hx⟩
  · simp only [List.cons.injEq, and_true, Value.slice.injEq] at hcs
    omega
  · simp only [List.cons.injEq, and_true, Value.slice.injEq] at hcs
    obtain ⟨rfl, rfl, rfl⟩ := hcs
    exact hl
end Go.Proofs.Ytgodphfkhmahnaa.Tk
