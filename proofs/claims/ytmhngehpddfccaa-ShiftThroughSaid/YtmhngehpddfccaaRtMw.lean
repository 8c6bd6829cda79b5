/- Walks of route: through maps and their mirrored inverses a position comes to itself; plain. Walks of route: the maps and the mirrors that RouteBack lays; plain. Walks of route: a slice of maps that came in. -/
import Derived.Test.YtmhngehpddfccaaRtH
import Derived.Test.YtmhngehpddfccaaRtG
import Derived.Test.YtmhngehpddfccaaRgOpn
namespace Go.Proofs.Ytmhngehpddfccaa.Rt
open Go.RowKit Mem Sm
set_option linter.unusedVariables false

theorem tellE_zero {l : List Rg} {pos : Int} (h : tellE l pos = 0) : rightB l = true ∧ mayB pos = true := by
  unfold tellE at h
  by_cases h1 : rightB l = true <;> by_cases h2 : mayB pos = true <;> simp_all
theorem recR_no {M : List (List Rg)} {mir : List (Int × Int)} {i j : Int} {q : Pl} (hl : lk mir i = some j) (h : ¬ (q.gone = true ∧ i ≤ j)) : recR M mir i q = (0, 0, false) := by
  unfold recR; rw [hl]; simp only; rw [if_neg h]
theorem recR_yes {M : List (List Rg)} {mir : List (Int × Int)} {i j : Int} {q : Pl} (hl : lk mir i = some j) (h : q.gone = true ∧ i ≤ j) : recR M mir i q = (recN (M.getD j.toNat []) q.rng q.off, j, recB (M.getD j.toNat []) q.rng q.off) := by
  unfold recR; rw [hl]; simp only; rw [if_pos h]
/-- the maps, then their inverses, the last one's first, each of which mirrors its own -/
structure Bk (n : Nat) (L : List (List Rg)) (mir : List (Int × Int)) : Prop where
  len : L.length = 2 * n
  back : ∀ k, k < n → L.getD (2 * n - 1 - k) [] = inv (L.getD k [])
  mir : ∀ i, i < 2 * n → lk mir (i : Nat) = some ((2 * n - 1 - i : Nat) : Int)
theorem back_goes {n : Nat} {L : List (List Rg)} {mir : List (Int × Int)} (B : Bk n L mir) (hR0 : ∀ k, k < n → rightB (L.getD k []) = true) (hR : ∀ k, k < n → rightB (inv (L.getD k [])) = true) (x side : Int) : ∀ (f i : Nat) (s : St), 2 * n - i ≤ f → s.gone = false → s.inside = false → (∃ (k : Nat) (P : Nat → Int), Sm.Way L x side P k ∧ k ≤ n ∧ (i = k ∨ i = 2 * n - k) ∧ s.pos = P k) →
    goM L mir side f i s = none ∨ goM L mir side f i s = some ⟨x, false, false⟩
  | f, i, s, hf, hg, hi, ⟨k, P, hW, hk, hik, hp⟩ => by
    obtain ⟨sp, sg, si⟩ := s
    simp only at hg hi hp
    subst hg; subst hi
    by_cases hlt : i < 2 * n
    · obtain ⟨f, rfl⟩ : ∃ g, f = g + 1 := ⟨f - 1, by omega⟩
      rw [goM_yes (by rw [B.len]; exact hlt)]
      simp only
      by_cases he : tellE (L.getD i []) sp = 0
      · rw [if_pos he]
        obtain ⟨hr, hm⟩ := tellE_zero he
        have ht : tellW (L.getD i []) sp side = tell (L.getD i []) sp side := by unfold tellW; rw [if_pos ⟨hr, hm⟩]
        rw [ht]
        have hok := rightB_iff.1 hr
        by_cases hin : i < n
        · obtain rfl : i = k := by omega
          subst hp
          cases hgo : (tell (L.getD i []) (P i) side).gone with
          | true =>
            obtain ⟨j, hj, h1, h2, h3, h4⟩ := tell_gone hok (P i) side hgo
            have hb : L.getD ((2 * n - 1 - i : Nat) : Int).toNat [] = inv (L.getD i []) := by rw [Int.toNat_natCast]; exact B.back i hin
            have hrec : recOk (inv (L.getD i [])) ((tell (L.getD i []) (P i) side).rng) ((tell (L.getD i []) (P i) side).off) :=
              ⟨hR i hin, j, by rw [inv_length]; exact hj, h1.symm, h2, h3⟩
            rw [recR_yes (B.mir i hlt) ⟨hgo, by omega⟩, hb, recB_yes hrec, h1, recN_yes (h1 ▸ hrec), h4]
            simp only [if_true, Int.toNat_natCast]
            exact back_goes B hR0 hR x side f (2 * n - 1 - i + 1) _ (by omega) rfl rfl ⟨i, P, hW, hk, .inr (by omega), rfl⟩
          | false =>
            rw [recR_no (B.mir i hlt) (by rw [hgo]; simp), inside_gone _ _ hgo]
            simp only [Bool.false_eq_true, if_false, Bool.or_false]
            obtain ⟨Q, hQ, hq⟩ := hW.step hgo
            exact back_goes B hR0 hR x side f (i + 1) _ (by omega) rfl rfl ⟨i + 1, Q, hQ, by omega, .inl rfl, hq.symm⟩
        · obtain ⟨k', rfl⟩ : ∃ k', k = k' + 1 := ⟨k - 1, by omega⟩
          have hi2 : i = 2 * n - 1 - k' := by omega
          have hw := hW.2 k' (by omega)
          have hL : L.getD i [] = inv (L.getD k' []) := by rw [hi2]; exact B.back k' (by omega)
          have hokk : okTo (L.getD k' []) (L.getD k' []).length := rightB_iff.1 (hR0 k' (by omega))
          have hs1 := tell_back_stays hokk (P k') side hw.1
          have hs2 := tell_back hokk (P k') side hw.1
          rw [← hw.2, ← hp, ← hL] at hs1 hs2
          rw [recR_no (B.mir i hlt) (by rw [hs1]; simp), inside_gone _ _ hs1, hs1, hs2]
          simp only [Bool.false_eq_true, if_false, Bool.or_false]
          exact back_goes B hR0 hR x side f (i + 1) _ (by omega) rfl rfl ⟨k', P, ⟨hW.1, fun j hj => hW.2 j (by omega)⟩, by omega, .inr (by omega), rfl⟩
      · rw [if_neg he]; exact .inl rfl
    · rw [goM_no (by rw [B.len]; exact hlt)]
      have : k = 0 := by omega
      subst this
      rw [hp, hW.1]
      exact .inr rfl
termination_by f => f
end Go.Proofs.Ytmhngehpddfccaa.Rt
namespace Go.Proofs.Ytmhngehpddfccaa.Rt
open Go.RowKit Mem Sm
set_option linter.unusedVariables false

/-- the mirrors of the last j maps of n -/
def mirN (n : Nat) : Nat → List (Int × Int)
  | 0 => []
  | j + 1 => mirN n j ++ [(((n - 1 - j : Nat) : Int), ((n + j : Nat) : Int))] ++ [(((n + j : Nat) : Int), ((n - 1 - j : Nat) : Int))]
theorem lk_append (l m : List (Int × Int)) (a : Int) : lk (l ++ m) a = (lk l a).or (lk m a) := by
  induction l with
  | nil => simp [lk]
  | cons q r ih =>
    simp only [List.cons_append, lk, ih]
    split <;> simp
theorem lk_mirN (n : Nat) : ∀ (j i : Nat), j ≤ n → lk (mirN n j) i = if n - j ≤ i ∧ i < n + j then some ((2 * n - 1 - i : Nat) : Int) else none
  | 0, i, _ => by
    simp only [mirN, lk]
    rw [if_neg (by omega)]
  | j + 1, i, h => by
    simp only [mirN, lk_append, lk_mirN n j i (by omega), lk]
    by_cases h1 : n - j ≤ i ∧ i < n + j
    · have hG : n - (j + 1) ≤ i ∧ i < n + (j + 1) := by omega
      rw [if_pos h1, if_pos hG]; rfl
    · rw [if_neg h1]
      by_cases h2 : i = n - 1 - j
      · have hG : n - (j + 1) ≤ i ∧ i < n + (j + 1) := by omega
        rw [if_pos hG, if_pos (by rw [h2] : ((n - 1 - j : Nat) : Int) = (i : Nat))]
        simp only [Option.none_or, Option.some_or]
        congr 2
        omega
      · have e2 : ¬ ((n - 1 - j : Nat) : Int) = (i : Nat) := by omega
        rw [if_neg e2]
        by_cases h3 : i = n + j
        · have hG : n - (j + 1) ≤ i ∧ i < n + (j + 1) := by omega
          rw [if_pos hG, if_pos (by rw [h3] : ((n + j : Nat) : Int) = (i : Nat))]
          simp only [Option.none_or]
          congr 2
          omega
        · have hG : ¬ (n - (j + 1) ≤ i ∧ i < n + (j + 1)) := by omega
          have e3 : ¬ ((n + j : Nat) : Int) = (i : Nat) := by omega
          rw [if_neg hG, if_neg e3]; rfl
theorem mirN_bound (n : Nat) : ∀ j, j ≤ n → ∀ q ∈ mirN n j, 0 ≤ q.1 ∧ q.1 < n + j ∧ 0 ≤ q.2 ∧ q.2 < n + j
  | 0, _, q, h => by simp [mirN] at h
  | j + 1, hj, q, h => by
    simp only [mirN, List.mem_append, List.mem_singleton] at h
    rcases h with (h | rfl) | rfl
    · have := mirN_bound n j (by omega) q h
      omega
    · simp only; omega
    · simp only; omega
/-- the maps, and the inverses of the last j -/
def mapN (K : List (List Rg)) (j : Nat) : List (List Rg) := K ++ (K.reverse.take j).map inv
theorem mapN_length (K : List (List Rg)) {j : Nat} (h : j ≤ K.length) : (mapN K j).length = K.length + j := by
  simp [mapN, Nat.min_eq_left h]
theorem mapN_step (K : List (List Rg)) {j : Nat} (h : j < K.length) : mapN K (j + 1) = mapN K j ++ [inv (K.getD (K.length - 1 - j) [])] := by
  have hr : K.reverse[j]? = some (K.getD (K.length - 1 - j) []) := by
    rw [List.getElem?_reverse h]
    simp [List.getD, show K.length - 1 - j < K.length by omega]
  simp only [mapN, List.take_add_one, hr, List.map_append, List.append_assoc]
  simp
theorem bk_of (K : List (List Rg)) : Bk K.length (mapN K K.length) (mirN K.length K.length) := by
  refine ⟨by rw [mapN_length K (Nat.le_refl _)]; omega, fun k hk => ?_, fun i hi => ?_⟩
  · have h1 : (mapN K K.length).getD k [] = K.getD k [] := by
      simp [mapN, List.getD, List.getElem?_append_left hk]
    rw [h1]
    have h2 : (mapN K K.length)[2 * K.length - 1 - k]? = some (inv (K.getD k [])) := by
      rw [mapN, List.getElem?_append_right (by omega), List.getElem?_map, List.getElem?_take_of_lt (by omega), List.getElem?_reverse (by omega)]
      rw [show K.length - 1 - (2 * K.length - 1 - k - K.length) = k by omega]
      simp [List.getD, hk]
    rw [List.getD, h2]
    rfl
  · rw [lk_mirN _ _ _ (Nat.le_refl _), if_pos (by omega)]
end Go.Proofs.Ytmhngehpddfccaa.Rt
namespace Go.Proofs.Ytmhngehpddfccaa.Rt
open Go.ChangeShapes Go.WideShapes Go.Deep Go.RowKit Mem Sm
set_option linter.unusedVariables false

structure Mi where
  m : List Rg
  of : Int
def mi (l : List Mi) (i : Nat) : Mi := l.getD i ⟨[], 0⟩
def MAt (n₀ : Nat) (W : World) (b off : Nat) (x : Mi) : Prop := ∃ A c, W.cell? ⟨b, off, none⟩ = some (.slice A x.m.length c) ∧ W.cell? ⟨b, off + 1, none⟩ = some (.int .i64 x.of) ∧ RLow n₀ W A x.m.length x.m
/-- maps that came in: all of them lie below n₀ -/
def MLow (n₀ : Nat) (W : World) (A : Option Addr) (n : Nat) (l : List Mi) : Prop := n = l.length ∧ (0 < n → ∃ b off, A = some ⟨b, off, none⟩ ∧ b < n₀ ∧ ∀ i, i < n → MAt n₀ W b (off + i * 2) (mi l i))
section
variable {n₀ k n b off : Nat} {W W' : World} {A : Option Addr} {l : List Mi} {x : Mi}
theorem MAt.below (h : MAt n₀ W b off x) (hb : Below k W W') (hk : n₀ ≤ k) (hl : b < k) : MAt n₀ W' b off x := by
  obtain ⟨A, c, h0, h1, h2⟩ := h
  refine ⟨A, c, ?_, ?_, h2.below hb hk⟩
  · simp only [World.cell?, hb.block b hl] at h0 ⊢; exact h0
  · simp only [World.cell?, hb.block b hl] at h1 ⊢; exact h1
theorem MLow.below (h : MLow n₀ W A n l) (hb : Below k W W') (hk : n₀ ≤ k) : MLow n₀ W' A n l :=
  ⟨h.1, fun hn => by
    obtain ⟨b, off, e, hl, hc⟩ := h.2 hn
    exact ⟨b, off, e, hl, fun i hi => (hc i hi).below hb hk (by omega)⟩⟩
end
theorem open_maps {H : Type} {enc : TypeId × Value → H} {P : Program} {W : World} {spare : Nat → Bool} {held : Bool} {t e tr er ti : TypeId} {f0 f1 r0 r1 r2 : Field} {fuel : Nat} {a0 : Option Addr} {len0 cap0 : Nat} {x : DataW H × List MemPlace}
    (ht : P.underlying t = some (.slice e)) (he : P.underlying e = some (.struct #[f0, f1])) (hce : P.cellsOf e = 2)
    (htr : P.underlying tr = some (.slice er)) (her : P.underlying er = some (.struct #[r0, r1, r2])) (hcr : P.cellsOf er = 3) (ctr : P.cellsOf tr = 1)
    (hi : P.underlying ti = some (.int .i64)) (k0 : f0.type = tr ∧ f0.offset = 0) (k1 : f1.type = ti ∧ f1.offset = 1)
    (q0 : r0.type = ti ∧ r0.offset = 0) (q1 : r1.type = ti ∧ r1.offset = 1) (q2 : r2.type = ti ∧ r2.offset = 2) (ci : P.cellsOf ti = 1)
    (h : DataW.trod enc P W 0 spare held fuel t [.slice a0 len0 cap0] = some x) : ∃ l : List Mi, MLow W.heap.size W a0 len0 l ∧ len0 ≤ maxLen := by
  rcases open_slice ht h with ⟨hcs, _⟩ | ⟨a, len, cap, m, n, D, Pl, hcs, _, hl, hmx, hmm, _, hx⟩
  · simp only [List.cons.injEq, and_true, Value.slice.injEq] at hcs
    obtain ⟨rfl, rfl, rfl⟩ := hcs
    exact ⟨[], ⟨rfl, fun h => absurd h (by omega)⟩, Nat.zero_le _⟩
  · simp only [List.cons.injEq, and_true, Value.slice.injEq] at hcs
    obtain ⟨rfl, rfl, rfl⟩ := hcs
    have hlm : len0 ≤ m := by rw [hmm]; split <;> omega
    have each : ∀ i, i < len0 → ∃ q : Mi × Value × Value, (∃ A c, q.2.1 = .slice A q.1.m.length c ∧ RRow W A q.1.m.length q.1.m) ∧ q.2.2 = .int .i64 q.1.of ∧ W.cell? ((a.add (i * 2)).add 0) = some q.2.1 ∧ W.cell? ((a.add (i * 2)).add 1) = some q.2.2 := by
      intro i hil
      obtain ⟨cs', h1, h2⟩ := hx i (by omega)
      rw [hce] at h1
      obtain ⟨_, hlen, hcell⟩ := World.cells?_some h1
      obtain ⟨ys, m2, _, hy, _, hyl, hyf⟩ := DataW.trod_struct he h2
      match ys, hyl, cs', hlen with
      | [y0, y1], _, [v0, v1], _ =>
        have g0 := hyf 0 f0 rfl
        have g1 := hyf 1 f1 rfl
        rw [k0.1, k0.2, ctr] at g0
        rw [k1.1, k1.2, ci] at g1
        simp only [List.getElem?_cons_zero, List.getElem?_cons_succ, List.drop_zero, List.drop_succ_cons, List.take_succ_cons, List.take_zero] at g0 g1
        obtain ⟨z1, c1, _, _⟩ := DataW.trod_int hi g1
        simp only [List.cons.injEq, and_true] at c1
        subst c1
        have hv : ∃ A n c, v0 = .slice A n c := by
          rcases open_slice htr g0 with ⟨hcs, _⟩ | ⟨a, len, cap, m, n, D, Pl, hcs, _⟩
          · simp only [List.cons.injEq, and_true] at hcs; exact ⟨_, _, _, hcs⟩
          · simp only [List.cons.injEq, and_true] at hcs; exact ⟨_, _, _, hcs⟩
        obtain ⟨A, n, c, rfl⟩ := hv
        obtain ⟨l, hr, _⟩ := open_rgs htr her hcr hi q0 q1 q2 ci g0
        have hn := hr.1
        subst hn
        refine ⟨⟨⟨l, z1⟩, .slice A l.length c, .int .i64 z1⟩, ⟨A, c, rfl, hr⟩, rfl, ?_, ?_⟩
        · have := hcell 0 (by omega)
          simpa using this
        · have := hcell 1 (by omega)
          simpa using this
    obtain ⟨F, hF⟩ := choose_all ⟨⟨[], 0⟩, .slice none 0 0, .slice none 0 0⟩ each
    refine ⟨(List.range len0).map (fun i => (F i).1), ⟨by simp, fun hp => ?_⟩, by omega⟩
    obtain ⟨b, off, spot⟩ := a
    have hspot : spot = none := by
      have hc := (hF 0 hp).2.2.1
      simpa [Addr.add] using World.cell?_spot hc
    subst hspot
    have hlt : b < W.heap.size := by
      have hc := (hF 0 hp).2.2.1
      rw [add_at, add_at] at hc
      exact World.block_lt_of_cell? W _ hc
    refine ⟨b, off, rfl, hlt, fun i hi => ?_⟩
    obtain ⟨⟨A, c, e0, hr⟩, e1, h0, h1⟩ := hF i hi
    rw [add_at, add_at] at h0
    rw [add_at, add_at] at h1
    rw [show mi ((List.range len0).map fun i => (F i).1) i = (F i).1 by simp [mi, List.getD, hi]]
    exact ⟨A, c, by rw [← e0]; exact h0, by rw [← e1]; exact h1, RLow.of hr⟩
end Go.Proofs.Ytmhngehpddfccaa.Rt
