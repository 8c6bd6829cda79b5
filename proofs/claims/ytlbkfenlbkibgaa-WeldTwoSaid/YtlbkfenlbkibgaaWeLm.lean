/- Welding: what two steps weld to as one answer; rows of steps that the two programs answer, as rows of steps. -/
import Derived.Test.YtlbkfenlbkibgaaWeY
import Derived.Test.YtlbkfenlbkibgaaWeG
set_option linter.unusedVariables false
namespace Go.Proofs.Ytlbkfenlbkibgaa.St
open Go.RowKit Mem Sm Tk Rt
noncomputable def twoX (x y : Sp) (L K : List Tk.Tk) (n n' m m' : Nat) : Sp := if weldB x y L K n n' m m' = true then wayN x y (wayOf x y n) else ⟨0, 0, 0, 0, 0, 0, 0, 0⟩
noncomputable def twoL (x y : Sp) (L K : List Tk.Tk) (n n' m m' : Nat) : List Tk.Tk := if weldB x y L K n n' m m' = true then wayL L K (wayOf x y n) else []
def TkO (W : World) (A : Option Addr) (n : Nat) (L : List Tk.Tk) : Prop := TRow W A n L ∧ (0 < n → ∀ b off, A = some ⟨b, off, none⟩ → ∃ cs fr, W.heap[b]? = some (.cells cs 101 fr))
theorem TkO.below {W W' : World} {A : Option Addr} {n : Nat} {L : List Tk.Tk} (h : TkO W A n L) (hb : Below W.heap.size W W') : TkO W' A n L :=
 ⟨h.1.below hb, fun hn b off e => by
  obtain ⟨cs, fr, h1⟩ := h.2 hn b off e
  exact ⟨cs, fr, by rw [hb.block b (Array.getElem?_eq_some_iff.1 h1).1]; exact h1⟩⟩
theorem TkO.grown {W W' : World} {A : Option Addr} {n : Nat} {L : List Tk.Tk} {q : Nat} {cs : Array Value} {fr : Nat × Nat} (h : TkO W A n L) (hg : W.grownBy W' (some q)) (hq : W.heap[q]? = some (.cells cs 25 fr)) : TkO W' A n L := by
 have hne : 0 < n → ∀ b off, A = some ⟨b, off, none⟩ → some b ≠ some q := fun hn b off e e2 => by
  obtain ⟨cs', fr', h1⟩ := h.2 hn b off e
  rw [Option.some.inj e2, hq] at h1
  injection h1 with h1
  injection h1 with _ e6 _
  exact absurd e6 (by decide)
 refine ⟨⟨h.1.1, fun hn => ?_⟩, fun hn b off e => ?_⟩
 ·obtain ⟨b, off, e, hl, hc⟩ := h.1.2 hn
  refine ⟨b, off, e, Nat.lt_of_lt_of_le hl hg.size, fun j hj => (hc j hj).keep (fun p => ?_)⟩
  unfold World.cell?
  simp only [hg.block b hl (hne hn b off e)]
 ·obtain ⟨cs', fr', h1⟩ := h.2 hn b off e
  exact ⟨cs', fr', by rw [hg.block b (Array.getElem?_eq_some_iff.1 h1).1 (hne hn b off e)]; exact h1⟩
theorem TkO.of_own {n0 : Nat} {W : World} {A : Option Addr} {n c : Nat} {L : List Tk.Tk} (h : Tks n0 W (.slice A n c) L) (hn : L.length = n) : TkO W A n L := by
 subst hn
 refine ⟨?_, fun hp b off e => ?_⟩
 ·obtain ⟨A', c', e, _, hr⟩ := h.row
  simp only [Value.slice.injEq] at e
  obtain ⟨rfl, _⟩ := e
  exact hr
 ·subst e
  obtain ⟨_, _, cs, fr, h1⟩ := h.block b rfl
  exact ⟨cs, fr, h1⟩
def TwoOne (ok : Bool) (Z : Sp) (ML : List Tk.Tk) (w : World) (e : Ending) (w' : World) : Prop :=
 ∃ A c, e = .returned (.tuple #[.agg #[.int .i64 Z.kind, .int .i64 Z.from_, .int .i64 Z.to_, .int .i64 Z.gf, .int .i64 Z.gt, .int .i64 Z.ins, .int .i64 Z.mark, .int .i64 Z.val, .slice A ML.length c, .slice none 0 0], .bool ok]) ∧ TkO w' A ML.length ML ∧ Below w.heap.size w w'
theorem two_one {x y : Sp} {L K : List Tk.Tk} {n n' m m' : Nat} {w : World} {e : Ending} {w' : World} (h : RTwoIs x y L K n n' m m' w e w') : TwoOne (weldB x y L K n n' m m') (twoX x y L K n n' m m') (twoL x y L K n n' m m') w e w' := by
 obtain ⟨h, hb⟩ := h
 rcases h with ⟨hk, s, rfl, hs⟩ | ⟨hk, rfl⟩
 ·obtain ⟨A, c, rfl⟩ := hs.form
  refine ⟨A, c, ?_, ?_, hb⟩
  ·unfold twoX twoL
   rw [if_pos hk, if_pos hk, hk]
   rfl
  ·unfold twoL
   rw [if_pos hk]
   exact TkO.of_own hs rfl
 ·refine ⟨none, 0, ?_, ?_, hb⟩
  ·unfold twoX twoL
   rw [if_neg (by rw [hk]; decide), if_neg (by rw [hk]; decide), hk]
   rfl
  ·unfold twoL
   rw [if_neg (by rw [hk]; decide)]
   exact ⟨⟨rfl, fun h => absurd h (by simp)⟩, fun h => absurd h (by simp)⟩
theorem twoL_len {x y : Sp} {L K : List Tk.Tk} {n n' m m' : Nat} (h1 : L.length ≤ 500000) (h2 : K.length ≤ 500000) : (twoL x y L K n n' m m').length ≤ 1000000 := by
 unfold twoL wayL
 split
 ·split
  ·rw [List.length_append]; omega
  ·split
   ·rw [List.length_append]; omega
   ·simp
 ·simp
def mkSq (p : Ro.Pt) (t : Tr) : Sq := ⟨t.x, t.L, t.S, p.A, p.B, p.n, p.m, p.c, p.d⟩
def rowSq (ps : List Ro.Pt) (acc : List Tr) : List Sq := List.zipWith mkSq ps acc
theorem rowSq_len {ps : List Ro.Pt} {acc : List Tr} (h : ps.length = acc.length) : (rowSq ps acc).length = ps.length := by simp [rowSq, h]
theorem rowSq_at {ps : List Ro.Pt} {acc : List Tr} {j : Nat} (h1 : j < ps.length) (h2 : j < acc.length) : sq (rowSq ps acc) j = mkSq ps[j] acc[j] := by
 have h : j < (rowSq ps acc).length := by simp [rowSq]; omega
 rw [sq_at h]
 simp [rowSq]
theorem rowSq_row {W : World} {A : Option Addr} {ps : List Ro.Pt} {acc : List Tr} (hr : Ro.PRow W A ps.length ps) (hlen : ps.length = acc.length)
  (hok : ∀ j (h : j < ps.length) (h' : j < acc.length), ps[j].x = acc[j].x ∧ TRow W ps[j].A ps[j].n acc[j].L ∧ MkRow W ps[j].B ps[j].m acc[j].S) (hsm : ∀ t ∈ acc, smallT t) : SqRow W A ps.length (rowSq ps acc) := by
 refine ⟨(rowSq_len hlen).symm, fun hn => ?_⟩
 obtain ⟨b, off, e, hl, hc⟩ := hr.2 hn
 refine ⟨b, off, e, hl, fun i hi => ?_⟩
 have hi' : i < acc.length := by omega
 rw [rowSq_at hi hi']
 obtain ⟨hx, h1, h2⟩ := hok i hi hi'
 have hs := hsm _ (List.getElem_mem hi')
 refine ⟨fun j v hj => ?_, h1, h2, ?_, ?_⟩
 ·have h3 := hc i hi j v
  refine h3 ?_
  have : Ro.pcells ps[i] = sqC (mkSq ps[i] acc[i]) := by simp [Ro.pcells, sqC, mkSq, hx]
  rw [this]
  exact hj
 ·have e1 : acc[i].L.length = ps[i].n := h1.1
  have := hs.1
  show ps[i].n ≤ maxLen
  unfold maxLen
  omega
 ·have e1 : acc[i].S.length = ps[i].m := h2.1
  have := hs.2
  show ps[i].m ≤ maxLen
  unfold maxLen
  omega
theorem rowSq_small {W : World} {ps : List Ro.Pt} {acc : List Tr} (hlen : ps.length = acc.length)
  (hok : ∀ j (h : j < ps.length) (h' : j < acc.length), ps[j].x = acc[j].x ∧ TRow W ps[j].A ps[j].n acc[j].L ∧ MkRow W ps[j].B ps[j].m acc[j].S) (hsm : ∀ t ∈ acc, smallT t) : ∀ q, q ∈ rowSq ps acc → q.n ≤ 1000000 ∧ q.m ≤ 1000000 := by
 intro q hq
 obtain ⟨j, hj, rfl⟩ := List.getElem_of_mem hq
 have h1 : j < ps.length := by rw [rowSq_len hlen] at hj; exact hj
 have h2 : j < acc.length := by omega
 have e0 : (rowSq ps acc)[j] = mkSq ps[j] acc[j] := by rw [← sq_at hj]; exact rowSq_at h1 h2
 rw [e0]
 obtain ⟨_, g1, g2⟩ := hok j h1 h2
 have hs := hsm _ (List.getElem_mem h2)
 have e1 := g1.1
 have e2 := g2.1
 have s1 := hs.1
 have s2 := hs.2
 refine ⟨?_, ?_⟩
 ·show ps[j].n ≤ 1000000; omega
 ·show ps[j].m ≤ 1000000; omega
theorem rowSq_same {ps qs : List Ro.Pt} {acc : List Tr} (h1 : ps.length = acc.length) (h2 : qs.length = acc.length) : rowsB (rowSq ps acc) (rowSq qs acc) = true := by
 refine rows_yes ⟨by rw [rowSq_len h1, rowSq_len h2]; omega, fun i hi => ?_⟩
 rw [rowSq_len h1] at hi
 rw [rowSq_at hi (by omega), rowSq_at (by omega) (by omega)]
 unfold sameQ sameS mkSq
 simp
theorem PcOk.reads {n0 : Nat} {W : World} {p : Pi.Pt} {t : Tr} (h : PcOk n0 W p t) : (stepOf p).x = t.x ∧ TRow W (stepOf p).A (stepOf p).n t.L ∧ MkRow W (stepOf p).B (stepOf p).m t.S := by
 refine ⟨h.x, ?_, ?_⟩
 ·obtain ⟨A, c, e, _, hr⟩ := h.l.row
  simp only [Value.slice.injEq] at e
  obtain ⟨e1, e2, _⟩ := e
  show TRow W p.A p.n t.L
  rw [e1, e2]; exact hr
 ·obtain ⟨A, c, e, _, hr⟩ := h.s.row
  simp only [Value.slice.injEq] at e
  obtain ⟨e1, e2, _⟩ := e
  show MkRow W p.B p.m t.S
  rw [e1, e2]; exact hr
theorem rsteps_two {n0 n1 : Nat} {W : World} {v v' : Value} {pv : Value} {ps : List Pi.Pt} {qs : List Ro.Pt} {acc : List Tr} (hv : Ro.Pts n0 W v (ps.map stepOf)) (hp : PInv n0 W pv ps acc) (hq : RInv n1 W v' qs acc) (hsm : ∀ t ∈ acc, smallT t) (hla : acc.length ≤ 1000) :
  Calls Try.prog 29 #[v, v'] W fun e w' => e = .returned (.bool true) ∧ Below W.heap.size W w' := by
 have hl1 : (ps.map stepOf).length = acc.length := by rw [List.length_map]; exact hp.len
 have hl2 := hq.len
 have ok1 : ∀ j (h : j < (ps.map stepOf).length) (h' : j < acc.length), (ps.map stepOf)[j].x = acc[j].x ∧ TRow W (ps.map stepOf)[j].A (ps.map stepOf)[j].n acc[j].L ∧ MkRow W (ps.map stepOf)[j].B (ps.map stepOf)[j].m acc[j].S := fun j h h' => by
  have hj : j < ps.length := by rw [List.length_map] at h; exact h
  have := (hp.ok j hj h').reads
  simpa using this
 have ok2 : ∀ j (h : j < qs.length) (h' : j < acc.length), qs[j].x = acc[j].x ∧ TRow W qs[j].A qs[j].n acc[j].L ∧ MkRow W qs[j].B qs[j].m acc[j].S := fun j h h' => ⟨(hq.ok j h h').x, (hq.ok j h h').l, (hq.ok j h h').s⟩
 obtain ⟨A1, c1, rfl, _, r1⟩ := hv.row
 obtain ⟨A2, c2, rfl, _, r2⟩ := hq.row.row
 have s1 := rowSq_row r1 hl1 ok1 hsm
 have s2 := rowSq_row r2 hl2 ok2 hsm
 have hs := rsteps_any (rowSq (ps.map stepOf) acc) (rowSq qs acc) A1 A2 c1 c2 W (by rw [rowSq_len hl1]; exact s1) (by rw [rowSq_len hl2]; exact s2) (by rw [rowSq_len hl1]; omega) (by rw [rowSq_len hl2]; omega) (rowSq_small hl1 ok1 hsm) (rowSq_small hl2 ok2 hsm)
 rw [rowSq_same hl1 hl2, rowSq_len hl1, rowSq_len hl2] at hs
 exact hs
theorem fews_true {l : List Sq} (h : fewsB l = true) : l.length ≤ 20 ∧ ∀ q ∈ l, q.n ≤ 60 ∧ q.m ≤ 150 := by
 unfold fewsB at h
 rw [Bool.and_eq_true] at h
 refine ⟨of_decide_eq_true h.1, fun q hq => ?_⟩
 have := List.all_eq_true.1 h.2 q hq
 unfold fewQ at this
 rw [Bool.and_eq_true] at this
 exact ⟨of_decide_eq_true this.1, of_decide_eq_true this.2⟩
end Go.Proofs.Ytlbkfenlbkibgaa.St
