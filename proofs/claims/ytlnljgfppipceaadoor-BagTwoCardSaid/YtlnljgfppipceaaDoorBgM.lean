/- The law BagTwo, walked. -/
import Derived.Test.YtlnljgfppipceaaDoorBgI
namespace Go.Proofs.YtlnljgfppipceaaDoor.Bg
open Go.RowKit Mem
set_option linter.unusedVariables false

theorem want_two (zs : List Int) : upL (fun j : Nat => decide ((j : Int) ∈ zs)) 256 = (ofL zs).list :=
  (list_of (ofL zs) _ fun n hn => by rw [ofL_hasN]; simp [hn]).symm
theorem mem_has (x : Bag) (n : Nat) : decide ((n : Int) ∈ x.list) = x.has n := by
  rw [has_hasI, Bool.eq_iff_iff, decide_eq_true_eq, mem_list]
theorem two_or (x y : Bag) : upL (fun j : Nat => (decide ((j : Int) ∈ x.list) || decide ((j : Int) ∈ y.list))) 256 = (x.orB y).list :=
  (list_of _ _ fun n hn => by rw [or_has, mem_has, mem_has]).symm
theorem two_and (x y : Bag) : upL (fun j : Nat => (decide ((j : Int) ∈ x.list) && decide ((j : Int) ∈ y.list))) 256 = (x.andB y).list :=
  (list_of _ _ fun n hn => by rw [and_has, mem_has, mem_has]).symm
theorem two_not (x y : Bag) (hy : y.ok) : upL (fun j : Nat => (decide ((j : Int) ∈ x.list) && !decide ((j : Int) ∈ y.list))) 256 = (x.notB y).list :=
  (list_of _ _ fun n hn => by rw [not_has x hy, mem_has, mem_has]).symm
theorem split_is {x y : Bag} (hx : x.ok) (hy : y.ok) : (x.andB y).orB (x.notB y) = x := by
  refine ext (or_ok (and_ok y hx) (not_ok y hx)) hx fun n _ => ?_
  rw [or_has, and_has, not_has x hy]
  cases x.has n <;> cases y.has n <;> rfl
theorem apart_is {x y : Bag} (hx : x.ok) (hy : y.ok) : (x.andB y).andB (x.notB y) = nil := by
  refine ext (and_ok _ (and_ok y hx)) nil_ok fun n _ => ?_
  rw [and_has, and_has, not_has x hy, has_nil]
  cases x.has n <;> cases y.has n <;> rfl

/-- what holds all along: the two bags in their blocks, the reference's two lists, the table -/
structure Keep (w : World) (g1 g2 : Nat) (x y : Bag) (A3 A4 : Option Addr) (m k : Nat) (L K : List Int) (W : World) : Prop where
  a : At W g1 x
  b : At W g2 y
  rl : Row .i64 W A3 m L
  rk : Row .i64 W A4 k K
  t : Tab W
  bel : Below w.heap.size w W
section
variable {w : World} {g1 g2 : Nat} {x y : Bag} {A3 A4 : Option Addr} {m k : Nat} {L K : List Int} {W W' : World}
theorem Keep.step (h : Keep w g1 g2 x y A3 A4 m k L K W) (hb : Below W.heap.size W W') : Keep w g1 g2 x y A3 A4 m k L K W' :=
  ⟨h.a.below hb h.a.lt, h.b.below hb h.b.lt, h.rl.below hb, h.rk.below hb, h.t.below hb h.t.2, h.bel.trans (hb.mono h.bel.size)⟩
theorem Keep.drew (h : Keep w g1 g2 x y A3 A4 m k L K W) : Keep w g1 g2 x y A3 A4 m k L K W.drew := h.step (Below.refl _ _).drew
theorem Keep.cells (h : Keep w g1 g2 x y A3 A4 m k L K W) : W.cell? ⟨g1, 0, none⟩ = some (.int .u64 x.a) ∧ W.cell? ⟨g1, 1, none⟩ = some (.int .u64 x.b) ∧ W.cell? ⟨g1, 2, none⟩ = some (.int .u64 x.c) ∧ W.cell? ⟨g1, 3, none⟩ = some (.int .u64 x.d) ∧
    W.cell? ⟨g2, 0, none⟩ = some (.int .u64 y.a) ∧ W.cell? ⟨g2, 1, none⟩ = some (.int .u64 y.b) ∧ W.cell? ⟨g2, 2, none⟩ = some (.int .u64 y.c) ∧ W.cell? ⟨g2, 3, none⟩ = some (.int .u64 y.d) := by
  obtain ⟨a0, a1, a2, a3, _⟩ := h.a.cell
  obtain ⟨b0, b1, b2, b3, _⟩ := h.b.cell
  exact ⟨a0, a1, a2, a3, b0, b1, b2, b3⟩
theorem hold_of (h : Keep w g1 g2 x y A3 A4 m k L K W) : W.cell? ⟨g1, 0, none⟩ = some (.int .u64 x.a) ∧ W.cell? ⟨g1, 1, none⟩ = some (.int .u64 x.b) ∧ W.cell? ⟨g1, 2, none⟩ = some (.int .u64 x.c) ∧ W.cell? ⟨g1, 3, none⟩ = some (.int .u64 x.d) ∧ W.cell? ⟨g2, 0, none⟩ = some (.int .u64 y.a) ∧ W.cell? ⟨g2, 1, none⟩ = some (.int .u64 y.b) ∧ W.cell? ⟨g2, 2, none⟩ = some (.int .u64 y.c) ∧ W.cell? ⟨g2, 3, none⟩ = some (.int .u64 y.d) ∧ Keep w g1 g2 x y A3 A4 m k L K W := by
  obtain ⟨a0, a1, a2, a3, b0, b1, b2, b3⟩ := h.cells
  exact ⟨a0, a1, a2, a3, b0, b1, b2, b3, h⟩
theorem hold_step (h : W.cell? ⟨g1, 0, none⟩ = some (.int .u64 x.a) ∧ W.cell? ⟨g1, 1, none⟩ = some (.int .u64 x.b) ∧ W.cell? ⟨g1, 2, none⟩ = some (.int .u64 x.c) ∧ W.cell? ⟨g1, 3, none⟩ = some (.int .u64 x.d) ∧ W.cell? ⟨g2, 0, none⟩ = some (.int .u64 y.a) ∧ W.cell? ⟨g2, 1, none⟩ = some (.int .u64 y.b) ∧ W.cell? ⟨g2, 2, none⟩ = some (.int .u64 y.c) ∧ W.cell? ⟨g2, 3, none⟩ = some (.int .u64 y.d) ∧ Keep w g1 g2 x y A3 A4 m k L K W) (hb : Below W.heap.size W W') : W'.cell? ⟨g1, 0, none⟩ = some (.int .u64 x.a) ∧ W'.cell? ⟨g1, 1, none⟩ = some (.int .u64 x.b) ∧ W'.cell? ⟨g1, 2, none⟩ = some (.int .u64 x.c) ∧ W'.cell? ⟨g1, 3, none⟩ = some (.int .u64 x.d) ∧ W'.cell? ⟨g2, 0, none⟩ = some (.int .u64 y.a) ∧ W'.cell? ⟨g2, 1, none⟩ = some (.int .u64 y.b) ∧ W'.cell? ⟨g2, 2, none⟩ = some (.int .u64 y.c) ∧ W'.cell? ⟨g2, 3, none⟩ = some (.int .u64 y.d) ∧ Keep w g1 g2 x y A3 A4 m k L K W' :=
  hold_of (h.2.2.2.2.2.2.2.2.step hb)
end

/-- the same contracts, bags written out -/
theorem and_l (x y r : Bag) (hx : x.ok) (hy : y.ok) (hr : x.andB y = r) (w : World) : Calls Tryd.prog 18 #[.agg #[.int .u64 x.a, .int .u64 x.b, .int .u64 x.c, .int .u64 x.d], .agg #[.int .u64 y.a, .int .u64 y.b, .int .u64 y.c, .int .u64 y.d]] w fun e w' => e = .returned (.agg #[.int .u64 r.a, .int .u64 r.b, .int .u64 r.c, .int .u64 r.d]) ∧ Below w.heap.size w w' := by
  subst hr; exact and_any x y hx hy w
theorem not_l (x y r : Bag) (hx : x.ok) (hy : y.ok) (hr : x.notB y = r) (w : World) : Calls Tryd.prog 19 #[.agg #[.int .u64 x.a, .int .u64 x.b, .int .u64 x.c, .int .u64 x.d], .agg #[.int .u64 y.a, .int .u64 y.b, .int .u64 y.c, .int .u64 y.d]] w fun e w' => e = .returned (.agg #[.int .u64 r.a, .int .u64 r.b, .int .u64 r.c, .int .u64 r.d]) ∧ Below w.heap.size w w' := by
  subst hr; exact not_any x y hx hy w
theorem or_l (x y r : Bag) (hx : x.ok) (hy : y.ok) (hr : x.orB y = r) (w : World) : Calls Tryd.prog 16 #[.agg #[.int .u64 x.a, .int .u64 x.b, .int .u64 x.c, .int .u64 x.d], .agg #[.int .u64 y.a, .int .u64 y.b, .int .u64 y.c, .int .u64 y.d]] w fun e w' => e = .returned (.agg #[.int .u64 r.a, .int .u64 r.b, .int .u64 r.c, .int .u64 r.d]) ∧ Below w.heap.size w w' := by
  subst hr; exact or_any x y hx hy w
theorem and_z (x y : Bag) (hx : x.ok) (hy : y.ok) (hr : x.andB y = nil) (w : World) : Calls Tryd.prog 18 #[.agg #[.int .u64 x.a, .int .u64 x.b, .int .u64 x.c, .int .u64 x.d], .agg #[.int .u64 y.a, .int .u64 y.b, .int .u64 y.c, .int .u64 y.d]] w fun e w' => e = .returned (.agg #[.int .u64 0, .int .u64 0, .int .u64 0, .int .u64 0]) ∧ Below w.heap.size w w' :=
  and_l x y nil hx hy hr w
theorem list_l (x : Bag) (hx : x.ok) (w : World) (hT : Tab w) : Calls Tryd.prog 14 #[.agg #[.int .u64 x.a, .int .u64 x.b, .int .u64 x.c, .int .u64 x.d]] w (IsSl w x.list) := list_any x hx w hT
theorem rsame_keep {w : World} {g1 g2 : Nat} {x y : Bag} {A3 A4 : Option Addr} {m k c3 c4 : Nat} {L K : List Int} {W : World} (b : Bool) (hb : decide (L = K) = b) (hm : m ≤ 100000) (hk : k ≤ 100000)
    (h : W.cell? ⟨g1, 0, none⟩ = some (.int .u64 x.a) ∧ W.cell? ⟨g1, 1, none⟩ = some (.int .u64 x.b) ∧ W.cell? ⟨g1, 2, none⟩ = some (.int .u64 x.c) ∧ W.cell? ⟨g1, 3, none⟩ = some (.int .u64 x.d) ∧ W.cell? ⟨g2, 0, none⟩ = some (.int .u64 y.a) ∧ W.cell? ⟨g2, 1, none⟩ = some (.int .u64 y.b) ∧ W.cell? ⟨g2, 2, none⟩ = some (.int .u64 y.c) ∧ W.cell? ⟨g2, 3, none⟩ = some (.int .u64 y.d) ∧ Keep w g1 g2 x y A3 A4 m k L K W) :
    Calls Tryd.prog 13 #[.slice A3 m c3, .slice A4 k c4] W fun e w' => e = .returned (.bool b) ∧ Below W.heap.size W w' := by
  subst hb; exact rsame_any A3 A4 m k c3 c4 L K W h.2.2.2.2.2.2.2.2.rl h.2.2.2.2.2.2.2.2.rk hm hk
theorem of_l (x : Bag) (hx : x.ok) (A : Option Addr) (n c : Nat) (w : World) (hr : Row .i64 w A n x.list) (hn : n ≤ 1000000) : Calls Tryd.prog 7 #[.slice A n c] w fun e w' => e = .returned (.agg #[.int .u64 x.a, .int .u64 x.b, .int .u64 x.c, .int .u64 x.d]) ∧ Below w.heap.size w w' := by
  have h := of_any A n c x.list w hr hn
  rw [ofL_list hx] at h
  exact h
theorem hold_keep {w : World} {g1 g2 : Nat} {x y : Bag} {A3 A4 : Option Addr} {m k : Nat} {L K : List Int} {W : World} (h : W.cell? ⟨g1, 0, none⟩ = some (.int .u64 x.a) ∧ W.cell? ⟨g1, 1, none⟩ = some (.int .u64 x.b) ∧ W.cell? ⟨g1, 2, none⟩ = some (.int .u64 x.c) ∧ W.cell? ⟨g1, 3, none⟩ = some (.int .u64 x.d) ∧ W.cell? ⟨g2, 0, none⟩ = some (.int .u64 y.a) ∧ W.cell? ⟨g2, 1, none⟩ = some (.int .u64 y.b) ∧ W.cell? ⟨g2, 2, none⟩ = some (.int .u64 y.c) ∧ W.cell? ⟨g2, 3, none⟩ = some (.int .u64 y.d) ∧ Keep w g1 g2 x y A3 A4 m k L K W) : Keep w g1 g2 x y A3 A4 m k L K W := h.2.2.2.2.2.2.2.2
theorem list_keep {w : World} {g1 g2 : Nat} {x y : Bag} {A3 A4 : Option Addr} {m k : Nat} {L K : List Int} {W : World} (hx : x.ok) (h : W.cell? ⟨g1, 0, none⟩ = some (.int .u64 x.a) ∧ W.cell? ⟨g1, 1, none⟩ = some (.int .u64 x.b) ∧ W.cell? ⟨g1, 2, none⟩ = some (.int .u64 x.c) ∧ W.cell? ⟨g1, 3, none⟩ = some (.int .u64 x.d) ∧ W.cell? ⟨g2, 0, none⟩ = some (.int .u64 y.a) ∧ W.cell? ⟨g2, 1, none⟩ = some (.int .u64 y.b) ∧ W.cell? ⟨g2, 2, none⟩ = some (.int .u64 y.c) ∧ W.cell? ⟨g2, 3, none⟩ = some (.int .u64 y.d) ∧ Keep w g1 g2 x y A3 A4 m k L K W) : Calls Tryd.prog 14 #[.agg #[.int .u64 x.a, .int .u64 x.b, .int .u64 x.c, .int .u64 x.d]] W (IsSl W x.list) := list_any x hx W (hold_keep h).t
theorem live_keep {w : World} {g1 g2 : Nat} {x y : Bag} {A3 A4 : Option Addr} {m k : Nat} {L K : List Int} {W : World} (h : W.cell? ⟨g1, 0, none⟩ = some (.int .u64 x.a) ∧ W.cell? ⟨g1, 1, none⟩ = some (.int .u64 x.b) ∧ W.cell? ⟨g1, 2, none⟩ = some (.int .u64 x.c) ∧ W.cell? ⟨g1, 3, none⟩ = some (.int .u64 x.d) ∧ W.cell? ⟨g2, 0, none⟩ = some (.int .u64 y.a) ∧ W.cell? ⟨g2, 1, none⟩ = some (.int .u64 y.b) ∧ W.cell? ⟨g2, 2, none⟩ = some (.int .u64 y.c) ∧ W.cell? ⟨g2, 3, none⟩ = some (.int .u64 y.d) ∧ Keep w g1 g2 x y A3 A4 m k L K W) : Calls Tryd.prog 6 #[] W fun e w' => e = .returned (.bool true) ∧ Below W.heap.size W w' := live_any W (hold_keep h).t
end Go.Proofs.YtlnljgfppipceaaDoor.Bg
