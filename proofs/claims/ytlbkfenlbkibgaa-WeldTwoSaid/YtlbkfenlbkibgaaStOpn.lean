/- Steps that came in, opened. -/
import Derived.Test.YtlbkfenlbkibgaaMkOwn
import Derived.Test.YtlbkfenlbkibgaaTkOpn
import Derived.Test.YtlbkfenlbkibgaaStB
set_option linter.unusedVariables false
namespace Go.Proofs.Ytlbkfenlbkibgaa.St
open Go.ChangeShapes Go.WideShapes Go.Deep Go.RowKit Mem Sm Tk
theorem open_mks {H : Type} {enc : TypeId × Value → H} {P : Program} {W : World} {spare : Nat → Bool} {held : Bool} {t e tu : TypeId} {fuel : Nat} {a0 : Option Addr} {len0 cap0 : Nat} {x : DataW H × List MemPlace}
  (ht : P.underlying t = some (.slice e)) (he : P.underlying e = some (.array 8 tu)) (hce : P.cellsOf e = 8) (hu : P.underlying tu = some (.int .u16)) (cu : P.cellsOf tu = 1)
  (h : DataW.trod enc P W 0 spare held fuel t [.slice a0 len0 cap0] = some x) : ∃ l : List Mk, MkRow W a0 len0 l ∧ len0 ≤ maxLen := by
 rcases open_slice ht h with ⟨hcs, _⟩ | ⟨a, len, cap, m, n, D, Pl, hcs, _, hl, hmx, hmm, _, hx⟩
 ·simp only [List.cons.injEq, and_true, Value.slice.injEq] at hcs
  obtain ⟨rfl, rfl, rfl⟩ := hcs
  exact ⟨[], MkRow.nil, Nat.zero_le _⟩
 ·simp only [List.cons.injEq, and_true, Value.slice.injEq] at hcs
  obtain ⟨rfl, rfl, rfl⟩ := hcs
  have hlm : len0 ≤ m := by rw [hmm]; split <;> omega
  have each : ∀ i, i < len0 → ∃ q : Mk, ∀ j v, (mcells q)[j]? = some v → W.cell? ((a.add (i * 8)).add j) = some v := by
   intro i hil
   obtain ⟨cs', h1, h2⟩ := hx i (by omega)
   rw [hce] at h1
   obtain ⟨_, hlen, hcell⟩ := World.cells?_some h1
   obtain ⟨us, m3, _, _, _, hul, huf⟩ := DataW.trod_array he h2
   rw [cu] at huf
   match cs', hlen with
   | [v4, v5, v6, v7, v8, v9, v10, v11], _ =>
    have hk : ∀ (i : Nat) (v : Value), ([v4, v5, v6, v7, v8, v9, v10, v11] : List Value)[i]? = some v → ∃ z, v = Value.int .u16 z := by
     intro i v hv
     have hi8 : i < 8 := by
      have := (List.getElem?_eq_some_iff.1 hv).1
      simpa using this
     have hf := huf i hi8
     have e1 : (([v4, v5, v6, v7, v8, v9, v10, v11] : List Value).drop (i * 1)).take 1 = [v] := by
      rw [Nat.mul_one, List.drop_eq_getElem_cons (by simpa using hi8)]
      have := (List.getElem?_eq_some_iff.1 hv).2
      rw [this]; rfl
     rw [e1] at hf
     obtain ⟨y, hy'⟩ : ∃ y, us[i]? = some y := ⟨us[i]'(by omega), List.getElem?_eq_getElem (by omega)⟩
     rw [hy'] at hf
     obtain ⟨z, cz, _, _⟩ := DataW.trod_int hu hf
     simp only [List.cons.injEq, and_true] at cz
     exact ⟨z, cz⟩
    obtain ⟨z4, c4⟩ := hk 0 v4 rfl
    obtain ⟨z5, c5⟩ := hk 1 v5 rfl
    obtain ⟨z6, c6⟩ := hk 2 v6 rfl
    obtain ⟨z7, c7⟩ := hk 3 v7 rfl
    obtain ⟨z8, c8⟩ := hk 4 v8 rfl
    obtain ⟨z9, c9⟩ := hk 5 v9 rfl
    obtain ⟨z10, c10⟩ := hk 6 v10 rfl
    obtain ⟨z11, c11⟩ := hk 7 v11 rfl
    subst c4; subst c5; subst c6; subst c7; subst c8; subst c9; subst c10; subst c11
    refine ⟨⟨z4, z5, z6, z7, z8, z9, z10, z11⟩, fun j v hj => ?_⟩
    have hjl : j < 8 := by
     have := (List.getElem?_eq_some_iff.1 hj).1
     rwa [mcells_length] at this
    have := hcell j hjl
    rw [this]; exact hj
  obtain ⟨F, hF⟩ := Tk.choose_all ⟨0, 0, 0, 0, 0, 0, 0, 0⟩ each
  refine ⟨(List.range len0).map F, ⟨by simp, fun hp => ?_⟩, by omega⟩
  obtain ⟨b, off, spot⟩ := a
  have hspot : spot = none := by
   have hc := (hF 0 hp) 0 _ rfl
   simpa [Addr.add] using World.cell?_spot hc
  subst hspot
  have ha : ∀ i j, ((⟨b, off, none⟩ : Addr).add i).add j = ⟨b, off + i + j, none⟩ := fun i j => by rw [Tk.add_at, Tk.add_at]
  have hlt : b < W.heap.size := by
   have hc := (hF 0 hp) 0 _ rfl
   rw [ha] at hc
   exact World.block_lt_of_cell? W _ hc
  refine ⟨b, off, rfl, hlt, fun i hi => ?_⟩
  have hi' : i < len0 := by simpa using hi
  simp only [List.getElem_map, List.getElem_range]
  intro j v hj
  have c := (hF i hi') j v hj
  rwa [ha] at c
theorem slice_form {H : Type} {enc : TypeId × Value → H} {P : Program} {W : World} {spare : Nat → Bool} {held : Bool} {t e : TypeId} {fuel : Nat} {v : Value} {x : DataW H × List MemPlace}
  (ht : P.underlying t = some (.slice e)) (h : DataW.trod enc P W 0 spare held fuel t [v] = some x) : ∃ A n c, v = .slice A n c := by
 rcases open_slice ht h with ⟨hcs, _⟩ | ⟨a, len, cap, m, n, D, Pl, hcs, _⟩
 ·simp only [List.cons.injEq, and_true] at hcs; exact ⟨_, _, _, hcs⟩
 ·simp only [List.cons.injEq, and_true] at hcs; exact ⟨_, _, _, hcs⟩
theorem open_cells {H : Type} {enc : TypeId × Value → H} {P : Program} {W : World} {spare : Nat → Bool} {held : Bool} {t ti ts tm : TypeId} {f0 f1 f2 f3 f4 f5 f6 f7 f8 f9 : Field} {fuel : Nat} {x : DataW H × List MemPlace}
  (ht : P.underlying t = some (.struct #[f0, f1, f2, f3, f4, f5, f6, f7, f8, f9])) (hct : P.cellsOf t = 10) (hi : P.underlying ti = some (.int .i64))
  (k0 : f0.type = ti ∧ f0.offset = 0) (k1 : f1.type = ti ∧ f1.offset = 1) (k2 : f2.type = ti ∧ f2.offset = 2) (k3 : f3.type = ti ∧ f3.offset = 3) (k4 : f4.type = ti ∧ f4.offset = 4) (k5 : f5.type = ti ∧ f5.offset = 5) (k6 : f6.type = ti ∧ f6.offset = 6) (k7 : f7.type = ti ∧ f7.offset = 7) (k8 : f8.type = ts ∧ f8.offset = 8) (k9 : f9.type = tm ∧ f9.offset = 9)
  (ci : P.cellsOf ti = 1) (cs : P.cellsOf ts = 1) (cm : P.cellsOf tm = 1)
  (hT : ∀ fuel v x, DataW.trod enc P W 0 spare held fuel ts [v] = some x → ∃ A n c, v = .slice A n c ∧ n ≤ maxLen ∧ ∃ l : List Tk.Tk, TRow W A n l)
  (hM : ∀ fuel v x, DataW.trod enc P W 0 spare held fuel tm [v] = some x → ∃ A n c, v = .slice A n c ∧ n ≤ maxLen ∧ ∃ l : List Mk, MkRow W A n l)
  {vs : List Value} (h : DataW.trod enc P W 0 spare held fuel t vs = some x) :
  ∃ (y : Sp) (L : List Tk.Tk) (S : List Mk) (A B : Option Addr) (n m c d : Nat), vs = [.int .i64 y.kind, .int .i64 y.from_, .int .i64 y.to_, .int .i64 y.gf, .int .i64 y.gt, .int .i64 y.ins, .int .i64 y.mark, .int .i64 y.val, .slice A n c, .slice B m d] ∧ TRow W A n L ∧ MkRow W B m S ∧ n ≤ maxLen ∧ m ≤ maxLen := by
 obtain ⟨ys, m2, _, hy, hlen, hyl, hyf⟩ := DataW.trod_struct ht h
 rw [hct] at hlen
 match ys, hyl, vs, hlen with
 | [y0, y1, y2, y3, y4, y5, y6, y7, y8, y9], _, [v0, v1, v2, v3, v4, v5, v6, v7, v8, v9], _ =>
  have g0 := hyf 0 f0 rfl
  have g1 := hyf 1 f1 rfl
  have g2 := hyf 2 f2 rfl
  have g3 := hyf 3 f3 rfl
  have g4 := hyf 4 f4 rfl
  have g5 := hyf 5 f5 rfl
  have g6 := hyf 6 f6 rfl
  have g7 := hyf 7 f7 rfl
  have g8 := hyf 8 f8 rfl
  have g9 := hyf 9 f9 rfl
  rw [k0.1, k0.2, ci] at g0
  rw [k1.1, k1.2, ci] at g1
  rw [k2.1, k2.2, ci] at g2
  rw [k3.1, k3.2, ci] at g3
  rw [k4.1, k4.2, ci] at g4
  rw [k5.1, k5.2, ci] at g5
  rw [k6.1, k6.2, ci] at g6
  rw [k7.1, k7.2, ci] at g7
  rw [k8.1, k8.2, cs] at g8
  rw [k9.1, k9.2, cm] at g9
  simp only [List.getElem?_cons_zero, List.getElem?_cons_succ, List.drop_zero, List.drop_succ_cons, List.take_succ_cons, List.take_zero] at g0 g1 g2 g3 g4 g5 g6 g7 g8 g9
  obtain ⟨z0, c0, _, _⟩ := DataW.trod_int hi g0
  obtain ⟨z1, c1, _, _⟩ := DataW.trod_int hi g1
  obtain ⟨z2, c2, _, _⟩ := DataW.trod_int hi g2
  obtain ⟨z3, c3, _, _⟩ := DataW.trod_int hi g3
  obtain ⟨z4, c4, _, _⟩ := DataW.trod_int hi g4
  obtain ⟨z5, c5, _, _⟩ := DataW.trod_int hi g5
  obtain ⟨z6, c6, _, _⟩ := DataW.trod_int hi g6
  obtain ⟨z7, c7, _, _⟩ := DataW.trod_int hi g7
  simp only [List.cons.injEq, and_true] at c0 c1 c2 c3 c4 c5 c6 c7
  subst c0; subst c1; subst c2; subst c3; subst c4; subst c5; subst c6; subst c7
  obtain ⟨A, n, c, rfl, hn, L, hL⟩ := hT _ _ _ g8
  obtain ⟨B, m, d, rfl, hm, S, hS⟩ := hM _ _ _ g9
  exact ⟨⟨z0, z1, z2, z3, z4, z5, z6, z7⟩, L, S, A, B, n, m, c, d, rfl, hL, hS, hn, hm⟩
end Go.Proofs.Ytlbkfenlbkibgaa.St
