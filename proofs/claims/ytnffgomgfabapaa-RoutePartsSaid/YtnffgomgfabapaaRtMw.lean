/- Walks of route: a slice of maps that came in. -/
import Derived.Test.YtnffgomgfabapaaRtG
import Derived.Test.YtnffgomgfabapaaRgOpn
namespace Go.Proofs.Ytnffgomgfabapaa.Rt
open Go.ChangeShapes Go.WideShapes Go.Deep Go.RowKit Mem Sm
set_option linter.unusedVariables false

structure Mi where
  m : List Rg
  of : Int
def mi (l : List Mi) (i : Nat) : Mi := l.getD i ⟨[], 0⟩
def MAt (n₀ : Nat) (W : World) (b off : Nat) (x : Mi) : Prop := ∃ A c, W.cell? ⟨b, off, none⟩ = some (.slice A x.m.length c) ∧ W.cell? ⟨b, off + 1, none⟩ = some (.int .i64 x.of) ∧ RLow n₀ W A x.m.length x.m
/-- maps that came in: all of them lie below n₀ -/
def MLow (n₀ : Nat) (W : World) (A : Option Addr) (n : Nat) (l : List Mi) : Prop := n = l.length ∧ (0 < n → ∃ b off, A = some ⟨b, off, none⟩ ∧ b < n₀ ∧ ∀ i, i < n → MAt n₀ W b (off + i * 2) (mi l i))
section
variable {n₀ k n b off : Nat} {W W' : World} {A : Option Addr} {l : List Mi} {x : Mi}
theorem MAt.below (h : MAt n₀ W b off x) (hb : Below k W W') (hk : n₀ ≤ k) (hl : b < k) : MAt n₀ W' b off x := by
  obtain ⟨A, c, h0, h1, h2⟩ := h
  refine ⟨A, c, ?_, ?_, h2.below hb hk⟩
  · simp only [World.cell?, hb.block b hl] at h0 ⊢; exact h0
  · simp only [World.cell?, hb.block b hl] at h1 ⊢; exact h1
theorem MLow.below (h : MLow n₀ W A n l) (hb : Below k W W') (hk : n₀ ≤ k) : MLow n₀ W' A n l :=
  ⟨h.1, fun hn => by
    obtain ⟨b, off, e, hl, hc⟩ := h.2 hn
    exact ⟨b, off, e, hl, fun i hi => (hc i hi).below hb hk (by omega)⟩⟩
end
theorem open_maps {H : Type} {enc : TypeId × Value → H} {P : Program} {W : World} {spare : Nat → Bool} {held : Bool} {t e tr er ti : TypeId} {f0 f1 r0 r1 r2 : Field} {fuel : Nat} {a0 : Option Addr} {len0 cap0 : Nat} {x : DataW H × List MemPlace}
    (ht : P.underlying t = some (.slice e)) (he : P.underlying e = some (.struct #[f0, f1])) (hce : P.cellsOf e = 2)
    (htr : P.underlying tr = some (.slice er)) (her : P.underlying er = some (.struct #[r0, r1, r2])) (hcr : P.cellsOf er = 3) (ctr : P.cellsOf tr = 1)
    (hi : P.underlying ti = some (.int .i64)) (k0 : f0.type = tr ∧ f0.offset = 0) (k1 : f1.type = ti ∧ f1.offset = 1)
    (q0 : r0.type = ti ∧ r0.offset = 0) (q1 : r1.type = ti ∧ r1.offset = 1) (q2 : r2.type = ti ∧ r2.offset = 2) (ci : P.cellsOf ti = 1)
    (h : DataW.trod enc P W 0 spare held fuel t [.slice a0 len0 cap0] = some x) : ∃ l : List Mi, MLow W.heap.size W a0 len0 l ∧ len0 ≤ maxLen := by
  rcases open_slice ht h with ⟨hcs, _⟩ | ⟨a, len, cap, m, n, D, Pl, hcs, _, hl, hmx, hmm, _, hx⟩
  · simp only [List.cons.injEq, and_true, Value.slice.injEq] at hcs
    obtain ⟨rfl, rfl, rfl⟩ := hcs
    exact ⟨[], ⟨rfl, fun h => absurd h (by omega)⟩, Nat.zero_le _⟩
  · simp only [List.cons.injEq, and_true, Value.slice.injEq] at hcs
    obtain ⟨rfl, rfl, rfl⟩ := hcs
    have hlm : len0 ≤ m := by rw [hmm]; split <;> omega
    have each : ∀ i, i < len0 → ∃ q : Mi × Value × Value, (∃ A c, q.2.1 = .slice A q.1.m.length c ∧ RRow W A q.1.m.length q.1.m) ∧ q.2.2 = .int .i64 q.1.of ∧ W.cell? ((a.add (i * 2)).add 0) = some q.2.1 ∧ W.cell? ((a.add (i * 2)).add 1) = some q.2.2 := by
      intro i hil
      obtain ⟨cs', h1, h2⟩ := hx i (by omega)
      rw [hce] at h1
      obtain ⟨_, hlen, hcell⟩ := World.cells?_some h1
      obtain ⟨ys, m2, _, hy, _, hyl, hyf⟩ := DataW.trod_struct he h2
      match ys, hyl, cs', hlen with
      | [y0, y1], _, [v0, v1], _ =>
        have g0 := hyf 0 f0 rfl
        have g1 := hyf 1 f1 rfl
        rw [k0.1, k0.2, ctr] at g0
        rw [k1.1, k1.2, ci] at g1
        simp only [List.getElem?_cons_zero, List.getElem?_cons_succ, List.drop_zero, List.drop_succ_cons, List.take_succ_cons, List.take_zero] at g0 g1
        obtain ⟨z1, c1, _, _⟩ := DataW.trod_int hi g1
        simp only [List.cons.injEq, and_true] at c1
        subst c1
        have hv : ∃ A n c, v0 = .slice A n c := by
          rcases open_slice htr g0 with ⟨hcs, _⟩ | ⟨a, len, cap, m, n, D, Pl, hcs, _⟩
          · simp only [List.cons.injEq, and_true] at hcs; exact ⟨_, _, _, hcs⟩
          · simp only [List.cons.injEq, and_true] at hcs; exact ⟨_, _, _, hcs⟩
        obtain ⟨A, n, c, rfl⟩ := hv
        obtain ⟨l, hr, _⟩ := open_rgs htr her hcr hi q0 q1 q2 ci g0
        have hn := hr.1
        subst hn
        refine ⟨⟨⟨l, z1⟩, .slice A l.length c, .int .i64 z1⟩, ⟨A, c, rfl, hr⟩, rfl, ?_, ?_⟩
        · have := hcell 0 (by omega)
          simpa using this
        · have := hcell 1 (by omega)
          simpa using this
    obtain ⟨F, hF⟩ := choose_all ⟨⟨[], 0⟩, .slice none 0 0, .slice none 0 0⟩ each
    refine ⟨(List.range len0).map (fun i => (F i).1), ⟨by simp, fun hp => ?_⟩, by omega⟩
    obtain ⟨b, off, spot⟩ := a
    have hspot : spot = none := by
      have hc := (hF 0 hp).2.2.1
      simpa [Addr.add] using World.cell?_spot hc
    subst hspot
    have hlt : b < W.heap.size := by
      have hc := (hF 0 hp).2.2.1
      rw [add_at, add_at] at hc
      exact World.block_lt_of_cell? W _ hc
    refine ⟨b, off, rfl, hlt, fun i hi => ?_⟩
    obtain ⟨⟨A, c, e0, hr⟩, e1, h0, h1⟩ := hF i hi
    rw [add_at, add_at] at h0
    rw [add_at, add_at] at h1
    rw [show mi ((List.range len0).map fun i => (F i).1) i = (F i).1 by simp [mi, List.getD, hi]]
    exact ⟨A, c, by rw [← e0]; exact h0, by rw [← e1]; exact h1, RLow.of hr⟩
end Go.Proofs.Ytnffgomgfabapaa.Rt
