/- Rows of signs in memory, five cells each: the call's own, appended to; read. -/
import Derived.Test.YtnbchikiiipejaaGreatDoorLxC
import Derived.Maps.AppendAt
import Derived.Test.YtnbchikiiipejaaGreatDoorNfRef
set_option linter.unusedVariables false
namespace Go.Proofs.YtnbchikiiipejaaGreatDoor.Lx
open Go.RowKit Mem
def cells1 (x : Sg) : List Value := [.int .i64 x.kind, .int .i64 x.at_, .int .i64 x.low, .int .i64 x.high, .string ⟨x.name.toArray⟩]
def cells5 (l : List Sg) : List Value := l.flatMap cells1
theorem cells5_cons (a : Sg) (l : List Sg) : cells5 (a :: l) = .int .i64 a.kind :: .int .i64 a.at_ :: .int .i64 a.low :: .int .i64 a.high :: .string ⟨a.name.toArray⟩ :: cells5 l := rfl
theorem cells5_append (h k : List Sg) : cells5 (h ++ k) = cells5 h ++ cells5 k := by simp [cells5]
theorem cells5_length (l : List Sg) : (cells5 l).length = l.length * 5 := by
 induction l with
 | nil => rfl
 | cons a l ih => rw [cells5_cons]; simp [ih]; omega
theorem cells5_at (l : List Sg) : ∀ i (h : i < l.length), (cells5 l)[i * 5]? = some (.int .i64 l[i].kind) ∧ (cells5 l)[i * 5 + 1]? = some (.int .i64 l[i].at_) ∧ (cells5 l)[i * 5 + 2]? = some (.int .i64 l[i].low) ∧ (cells5 l)[i * 5 + 3]? = some (.int .i64 l[i].high) ∧ (cells5 l)[i * 5 + 4]? = some (.string ⟨l[i].name.toArray⟩) := by
 induction l with
 | nil => intro i hi; simp at hi
 | cons a l ih =>
  intro i hi
  cases i with
  | zero => exact ⟨rfl, rfl, rfl, rfl, rfl⟩
  | succ i =>
   have := ih i (by simpa using hi)
   rw [cells5_cons, show (i + 1) * 5 = i * 5 + 1 + 1 + 1 + 1 + 1 from by omega]
   simpa using this
def GRow (w : World) (A : Option Addr) (n : Nat) (l : List Sg) : Prop :=
 l.length = n ∧ (0 < n → ∃ b off, A = some ⟨b, off, none⟩ ∧ b < w.heap.size ∧ ∀ j (h : j < l.length), w.cell? ⟨b, off + j * 5, none⟩ = some (.int .i64 l[j].kind) ∧ w.cell? ⟨b, off + j * 5 + 1, none⟩ = some (.int .i64 l[j].at_) ∧ w.cell? ⟨b, off + j * 5 + 2, none⟩ = some (.int .i64 l[j].low) ∧ w.cell? ⟨b, off + j * 5 + 3, none⟩ = some (.int .i64 l[j].high) ∧ w.cell? ⟨b, off + j * 5 + 4, none⟩ = some (.string ⟨l[j].name.toArray⟩))
theorem GRow.below {w w' : World} {A : Option Addr} {n : Nat} {l : List Sg} (h : GRow w A n l) (hb : Below w.heap.size w w') : GRow w' A n l :=
 ⟨h.1, fun hn => by
  obtain ⟨b, off, e, hl, hc⟩ := h.2 hn
  refine ⟨b, off, e, Nat.lt_of_lt_of_le hl hb.size, fun j hj => ?_⟩
  obtain ⟨a0, a1, a2, a3, a4⟩ := hc j hj
  have k := fun o => hb.cell (p := ⟨b, o, none⟩) hl
  exact ⟨(k _).trans a0, (k _).trans a1, (k _).trans a2, (k _).trans a3, (k _).trans a4⟩⟩
theorem GRow.nil {w : World} {A : Option Addr} : GRow w A 0 [] := ⟨rfl, fun h => absurd h (by omega)⟩
theorem GRow.of_own {w : World} {base : Nat} {e : TypeId} {v : Value} {l : List Sg} (h : w.ownsRow base e 5 v l.length (cells5 l)) :
  ∃ A c, v = .slice A l.length c ∧ l.length ≤ c ∧ GRow w A l.length l := by
 rcases h.2 with ⟨rfl, h0⟩ | ⟨g, cap, cur, rfl, hb, hg, hnc, hm, hs, ht⟩
 ·have hl : l.length = 0 := by
   have := h.1
   have h2 := cells5_length l
   rw [h0] at h2; simp at h2; omega
  obtain rfl : l = [] := List.eq_nil_of_length_eq_zero hl
  exact ⟨none, 0, rfl, Nat.le_refl _, GRow.nil⟩
 ·have hgl : g < w.heap.size := (Array.getElem?_eq_some_iff.1 hg).1
  refine ⟨_, cap, rfl, hnc, rfl, fun hn => ⟨g, 0, rfl, hgl, fun j hj => ?_⟩⟩
  have hcell := fun i v hv => h.cells (g := g) rfl i v hv
  have hp : ∀ o, (⟨g, 0, none⟩ : Addr).add o = ⟨g, 0 + o, none⟩ := fun o => by unfold Addr.add; split <;> simp_all
  obtain ⟨a0, a1, a2, a3, a4⟩ := cells5_at l j hj
  have b0 := hcell _ _ a0
  have b1 := hcell _ _ a1
  have b2 := hcell _ _ a2
  have b3 := hcell _ _ a3
  have b4 := hcell _ _ a4
  rw [hp] at b0 b1 b2 b3 b4
  exact ⟨b0, b1, b2, b3, b4⟩
theorem own_form5 {w : World} {base : Nat} {e : TypeId} {size n : Nat} {v : Value} {xs : List Value} (h : w.ownsRow base e size v n xs) : ∃ A c, v = .slice A n c := by
 rcases h.2 with ⟨rfl, rfl⟩ | ⟨g', cap, cur, rfl, _⟩
 ·exact ⟨_, _, rfl⟩
 ·exact ⟨_, _, rfl⟩
section
variable {P : Program}
theorem run_app_sg {w : World} (base : Nat) (t ty e : TypeId) (i : TypeInfo) (z : Value) (ht : P.underlying t = some (.slice e)) (hi : P.info? e = some i) (hz : i.zero = some z) (hz1 : z.cells.size = 5)
  (hsize : i.size = 5) (hby : i.bytes = 48) {v : Value} {l : List Sg} (hown : w.ownsRow base e 5 v l.length (cells5 l))
  (g c : Nat) (x : Sg) (hc : ∀ j u, (cells1 x)[j]? = some u → w.cell? ⟨g, j, none⟩ = some u) (hbig : l.length ≤ 1000000) (hbase : base ≤ w.heap.size) :
  ∃ v' w', (Builtin.append_ #[t, t] ty #[v, .slice (some ⟨g, 0, none⟩) 1 c]).run P w = .ok v' w' ∧ w'.ownsRow base e 5 v' (l ++ [x]).length (cells5 (l ++ [x])) ∧ w.grownBy w' v.ownBlock ∧ (v'.ownBlock = v.ownBlock ∨ v'.ownBlock = some w.heap.size) := by
 obtain ⟨v', w', h1, h2, h3, _, h5⟩ := run_append_own_at (P := P) w base t ty e i z 5 48 ht hi hz hsize hby hz1 (by omega) v l.length (cells5 l) hown ⟨g, 0, none⟩ 1 c (cells1 x)
  (by simp [cells1]) (fun j u hu => by
    have hp : (⟨g, 0, none⟩ : Addr).add j = ⟨g, j, none⟩ := by unfold Addr.add; split <;> simp_all
    rw [hp]; exact hc j u hu) (by intro u hu; simp [cells1] at hu; rcases hu with rfl | rfl | rfl | rfl | rfl <;> rfl) (by simp only [maxLen]; omega) (by omega) hbase
 exact ⟨v', w', h1, by rw [cells5_append, List.length_append]; simpa [cells5] using h2, h3, h5⟩
theorem wpList_app_sg {w : World} {ops : Array Oper} {rest : List Oper} {o : Oper} {a : Act} {Q : Exit → Act → World → Prop} (hgd : o.guard = none) (s x : Operand) (t : TypeId)
  (ho : o.op = .call { callee := .builtin .append, args := #[s, x], argTypes := #[t, t] })
  (base : Nat) (e : TypeId) (i : TypeInfo) (z : Value) (ht : P.underlying t = some (.slice e)) (hi : P.info? e = some i) (hz : i.zero = some z) (hz1 : z.cells.size = 5)
  (hsize : i.size = 5) (hby : i.bytes = 48) (v : Value) (l : List Sg) (hs : a.eval s = v) (hown : w.ownsRow base e 5 v l.length (cells5 l))
  (g c : Nat) (y : Sg) (hx : a.eval x = .slice (some ⟨g, 0, none⟩) 1 c) (hc : ∀ j u, (cells1 y)[j]? = some u → w.cell? ⟨g, j, none⟩ = some u) (hbig : l.length ≤ 1000000) (hbase : base ≤ w.heap.size)
  (h : ∀ v' w', w'.ownsRow base e 5 v' (l ++ [y]).length (cells5 (l ++ [y])) → w.grownBy w' v.ownBlock → (v'.ownBlock = v.ownBlock ∨ v'.ownBlock = some w.heap.size) → wpList P ops Q rest (a.put o.dst v') w') :
  wpList P ops Q (o :: rest) a w := by
 refine wpList_plain hgd fun K hK => ?_
 obtain ⟨v', w', hrun, h2, h3, h4⟩ := run_app_sg (P := P) base t o.type e i z ht hi hz hz1 hsize hby hown g c y hc hbig hbase
 unfold Oper.wp
 simp [execOp, ho, resolve, invoke, builtin, hs, hx, hrun, Result.andThen]
 exact hK _ _ (h v' w' h2 h3 h4)
end
end Go.Proofs.YtnbchikiiipejaaGreatDoor.Lx
namespace Go.Proofs.YtnbchikiiipejaaGreatDoor.Ex
open Go.RowKit Mem Lx
theorem info_i64 : (Tryz.prog.info? 3).map (fun i => (i.zero, i.size, i.bytes)) = some (some (.int .i64 0), 1, 8) := by kernel_rfl
theorem ex_alloc_new (w : World) (o : Obj) : (w.alloc o).heap[w.heap.size]? = some o := World.alloc_heap_new w o
def pl (l : List Nat) : List Int := l.map fun (j : Nat) => (j : Int)
theorem pl_len (l : List Nat) : (pl l).length = l.length := by simp [pl]
theorem own_one (w : World) (z : Int) : (w.alloc (.cells #[.int .i64 z] 3)).ownsRow w.heap.size 3 1 (.slice (some ⟨w.heap.size, 0, none⟩) 1 1) 1 ([z].map (Value.int .i64)) :=
 ⟨rfl, .inr ⟨w.heap.size, 1, #[.int .i64 z], rfl, Nat.le_refl _, ex_alloc_new w _, Nat.le_refl _, by simp [maxLen], rfl, rfl⟩⟩
theorem row_one (w : World) (z : Int) (hz : (Lit.int .i64 z).wf = true) : Row .i64 (w.alloc (.cells #[.int .i64 z] 3)) (some ⟨w.heap.size, 0, none⟩) 1 [z] :=
 row_block (ex_alloc_new w _) [z] rfl 1 rfl (fun y hy => by simp at hy; subst hy; exact hz)
end Go.Proofs.YtnbchikiiipejaaGreatDoor.Ex
