/- Rows of steps that came in, opened. -/
import Derived.Test.YtlbkfenlbkibgaaStOpn
set_option linter.unusedVariables false
set_option maxRecDepth 100000
namespace Go.Proofs.Ytlbkfenlbkibgaa.St
open Go.ChangeShapes Go.WideShapes Go.Deep Go.RowKit Mem Sm Tk
structure Sq where
 x : Sp
 L : List Tk.Tk
 S : List Mk
 A : Option Addr
 B : Option Addr
 n : Nat
 m : Nat
 c : Nat
 d : Nat
def zeroSq : Sq := ⟨⟨0, 0, 0, 0, 0, 0, 0, 0⟩, [], [], none, none, 0, 0, 0, 0⟩
def sq (l : List Sq) (i : Nat) : Sq := l.getD i zeroSq
def sqC (q : Sq) : List Value := [.int .i64 q.x.kind, .int .i64 q.x.from_, .int .i64 q.x.to_, .int .i64 q.x.gf, .int .i64 q.x.gt, .int .i64 q.x.ins, .int .i64 q.x.mark, .int .i64 q.x.val, .slice q.A q.n q.c, .slice q.B q.m q.d]
def SqAt (W : World) (b off : Nat) (q : Sq) : Prop := (∀ j v, (sqC q)[j]? = some v → W.cell? ⟨b, off + j, none⟩ = some v) ∧ TRow W q.A q.n q.L ∧ MkRow W q.B q.m q.S ∧ q.n ≤ maxLen ∧ q.m ≤ maxLen
def SqRow (W : World) (A : Option Addr) (n : Nat) (l : List Sq) : Prop := n = l.length ∧ (0 < n → ∃ b off, A = some ⟨b, off, none⟩ ∧ b < W.heap.size ∧ ∀ i, i < n → SqAt W b (off + i * 10) (sq l i))
theorem SqAt.below {W W' : World} {b off : Nat} {q : Sq} (h : SqAt W b off q) (hb : Below W.heap.size W W') (hl : b < W.heap.size) : SqAt W' b off q :=
 ⟨fun j v hj => (hb.cell (p := ⟨b, off + j, none⟩) (by simpa using hl)).trans (h.1 j v hj), h.2.1.below hb, h.2.2.1.below hb, h.2.2.2⟩
theorem SqRow.below {W W' : World} {A : Option Addr} {n : Nat} {l : List Sq} (h : SqRow W A n l) (hb : Below W.heap.size W W') : SqRow W' A n l :=
 ⟨h.1, fun hn => by
  obtain ⟨b, off, e, hl, hc⟩ := h.2 hn
  exact ⟨b, off, e, Nat.lt_of_lt_of_le hl hb.size, fun i hi => (hc i hi).below hb hl⟩⟩
theorem SqAt.cells {W : World} {b off : Nat} {q : Sq} (h : SqAt W b off q) :
  (W.cell? ⟨b, off, none⟩ = some (.int .i64 q.x.kind) ∧ W.cell? ⟨b, off + 1, none⟩ = some (.int .i64 q.x.from_) ∧ W.cell? ⟨b, off + 2, none⟩ = some (.int .i64 q.x.to_) ∧ W.cell? ⟨b, off + 3, none⟩ = some (.int .i64 q.x.gf) ∧ W.cell? ⟨b, off + 4, none⟩ = some (.int .i64 q.x.gt)) ∧ W.cell? ⟨b, off + 5, none⟩ = some (.int .i64 q.x.ins) ∧ W.cell? ⟨b, off + 6, none⟩ = some (.int .i64 q.x.mark) ∧ W.cell? ⟨b, off + 7, none⟩ = some (.int .i64 q.x.val) ∧ W.cell? ⟨b, off + 8, none⟩ = some (.slice q.A q.n q.c) ∧ W.cell? ⟨b, off + 9, none⟩ = some (.slice q.B q.m q.d) :=
 ⟨⟨h.1 0 _ rfl, h.1 1 _ rfl, h.1 2 _ rfl, h.1 3 _ rfl, h.1 4 _ rfl⟩, h.1 5 _ rfl, h.1 6 _ rfl, h.1 7 _ rfl, h.1 8 _ rfl, h.1 9 _ rfl⟩
theorem cells_of {H : Type} {enc : TypeId × Value → H} {W : World} {spare : Nat → Bool} {held : Bool} {fuel : Nat} {cs : List Value} {x : DataW H × List MemPlace} (hf : DataW.trod enc Try.prog W 0 spare held fuel 25 cs = some x) :
  ∃ q : Sq, cs = sqC q ∧ TRow W q.A q.n q.L ∧ MkRow W q.B q.m q.S ∧ q.n ≤ maxLen ∧ q.m ≤ maxLen := by
 obtain ⟨y, L, S, A, B, n, m, c, d, hc, h1, h2, hn, hm⟩ := open_cells (ti := 3) (ts := 22) (tm := 23) Try.underlying25 (by kernel_rfl) Try.underlying3 ⟨rfl, rfl⟩ ⟨rfl, rfl⟩ ⟨rfl, rfl⟩ ⟨rfl, rfl⟩ ⟨rfl, rfl⟩ ⟨rfl, rfl⟩ ⟨rfl, rfl⟩ ⟨rfl, rfl⟩ ⟨rfl, rfl⟩ ⟨rfl, rfl⟩ (by kernel_rfl) (by kernel_rfl) (by kernel_rfl)
  (fun fuel v x g8 => by
    obtain ⟨A, n, c, rfl⟩ := slice_form Try.underlying22 g8
    obtain ⟨L, hL, hn⟩ := Tk.open_toks (ti := 3) (tr := 21) (tm := 99) (tu := 97) Try.underlying22 Try.underlying101 (by kernel_rfl) (by kernel_rfl) (by kernel_rfl) (by kernel_rfl) (by kernel_rfl) ⟨rfl, rfl⟩ ⟨rfl, rfl⟩ ⟨rfl, rfl⟩ ⟨rfl, rfl⟩ ⟨rfl, rfl⟩ (by kernel_rfl) (by kernel_rfl) (by kernel_rfl) (by kernel_rfl) g8
    exact ⟨A, n, c, rfl, hn, L, hL⟩)
  (fun fuel v x g9 => by
    obtain ⟨B, m, d, rfl⟩ := slice_form Try.underlying23 g9
    obtain ⟨S, hS, hm⟩ := open_mks (tu := 97) Try.underlying23 Try.underlying99 (by kernel_rfl) (by kernel_rfl) (by kernel_rfl) g9
    exact ⟨B, m, d, rfl, hm, S, hS⟩) hf
 exact ⟨⟨y, L, S, A, B, n, m, c, d⟩, hc, h1, h2, hn, hm⟩
theorem open_steps {H : Type} {enc : TypeId × Value → H} {W : World} {spare : Nat → Bool} {held : Bool} {fuel : Nat} {a0 : Option Addr} {len0 cap0 : Nat} {x : DataW H × List MemPlace}
  (h : DataW.trod enc Try.prog W 0 spare held fuel 58 [.slice a0 len0 cap0] = some x) : ∃ l : List Sq, SqRow W a0 len0 l ∧ len0 ≤ maxLen := by
 have hce : Try.prog.cellsOf 25 = 10 := by kernel_rfl
 rcases open_slice Try.underlying58 h with ⟨hcs, _⟩ | ⟨a, len, cap, m, n, D, Pl, hcs, _, hl, hmx, hmm, _, hx⟩
 ·simp only [List.cons.injEq, and_true, Value.slice.injEq] at hcs
  obtain ⟨rfl, rfl, rfl⟩ := hcs
  exact ⟨[], ⟨rfl, fun h => absurd h (by omega)⟩, Nat.zero_le _⟩
 ·simp only [List.cons.injEq, and_true, Value.slice.injEq] at hcs
  obtain ⟨rfl, rfl, rfl⟩ := hcs
  have hlm : len0 ≤ m := by rw [hmm]; split <;> omega
  have each : ∀ i, i < len0 → ∃ q : Sq, (∀ j v, (sqC q)[j]? = some v → W.cell? ((a.add (i * 10)).add j) = some v) ∧ TRow W q.A q.n q.L ∧ MkRow W q.B q.m q.S ∧ q.n ≤ maxLen ∧ q.m ≤ maxLen := by
   intro i hil
   obtain ⟨cs', h1, h2⟩ := hx i (by omega)
   rw [hce] at h1
   obtain ⟨_, hlen, hcell⟩ := World.cells?_some h1
   obtain ⟨q, rfl, r1, r2, r3, r4⟩ := cells_of h2
   refine ⟨q, fun j v hj => ?_, r1, r2, r3, r4⟩
   have hjl : j < 10 := by
    have := (List.getElem?_eq_some_iff.1 hj).1
    simpa [sqC] using this
   have := hcell j hjl
   rw [this]; exact hj
  obtain ⟨F, hF⟩ := Tk.choose_all zeroSq each
  refine ⟨(List.range len0).map F, ⟨by simp, fun hp => ?_⟩, by omega⟩
  obtain ⟨b, off, spot⟩ := a
  have hspot : spot = none := by
   have hc := (hF 0 hp).1 0 _ rfl
   simpa [Addr.add] using World.cell?_spot hc
  subst hspot
  have ha : ∀ i j, ((⟨b, off, none⟩ : Addr).add i).add j = ⟨b, off + i + j, none⟩ := fun i j => by rw [Tk.add_at, Tk.add_at]
  have hlt : b < W.heap.size := by
   have hc := (hF 0 hp).1 0 _ rfl
   rw [ha] at hc
   exact World.block_lt_of_cell? W _ hc
  refine ⟨b, off, rfl, hlt, fun i hi => ?_⟩
  rw [show sq ((List.range len0).map F) i = F i by simp [sq, List.getD, hi]]
  refine ⟨fun j v hj => ?_, (hF i hi).2⟩
  have c := (hF i hi).1 j v hj
  rwa [ha] at c
end Go.Proofs.Ytlbkfenlbkibgaa.St
