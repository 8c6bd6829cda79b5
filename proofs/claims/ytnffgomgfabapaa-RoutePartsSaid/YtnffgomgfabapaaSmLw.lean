/- Walks: rows of ranges that are answered; append in a region. -/
import Derived.Test.YtnffgomgfabapaaSmK
namespace Go.Proofs.Ytnffgomgfabapaa.Sm
open Go.RowKit Go.Shelf Mem
set_option linter.unusedVariables false

/-- 'append(v, ys...)' of ranges in a region that draws its order -/
theorem step_app_rg {w : World} {ops : Array Oper} {o : Oper} {a : Act} {K : Act → World → Prop} {Q : Exit → Act → World → Prop} {E : Prop} (hgd : o.guard = none) (s x : Operand)
    (ho : o.op = .call { callee := .builtin .append, args := #[s, x], argTypes := #[34, 34] })
    (base : Nat) (v : Value) (l : List Rg) (hs : a.eval s = v) (hown : Rgs base w v l)
    (A : Option Addr) (m c : Nat) (y : List Rg) (hx : a.eval x = .slice A m c) (hr : RRow w A m y) (hbig : l.length + m ≤ 1000000000) (hbase : base ≤ w.heap.size)
    (h : ∀ v' w', Rgs base w' v' (l ++ y) → w.grownBy w' v.ownBlock → (v'.ownBlock = v.ownBlock ∨ v'.ownBlock = some w.heap.size) → K (a.put o.dst v') w') :
    if Region.wanted o (yielded ops a.tmps) = true then Oper.wp Try.prog o a w K Q else E := by
  have hw : Region.wanted o (yielded ops a.tmps) = true := by simp [Region.wanted, hgd]
  rw [if_pos hw]
  obtain ⟨v', w', hrun, h2, h3, h4⟩ := run_app_rg o.type hown c hr hbig hbase
  unfold Oper.wp
  simp [execOp, ho, resolve, invoke, builtin, hs, hx, hrun, Result.andThen]
  exact h v' w' h2 h3 h4
theorem rrow_one (w : World) (r : Rg) : RRow (w.alloc (.cells #[.int .i64 r.at_, .int .i64 r.old, .int .i64 r.new] 56)) (some ⟨w.heap.size, 0, none⟩) 1 [r] := by
  refine ⟨rfl, fun _ => ⟨_, 0, rfl, by simp, fun j hj => ?_⟩⟩
  obtain rfl : j = 0 := by simpa using hj
  intro k v hk
  rw [World.cell?_alloc_mark]
  have hk3 : k < 3 := by
    have := (List.getElem?_eq_some_iff.1 hk).1
    rwa [rcells_length] at this
  rcases (show k = 0 ∨ k = 1 ∨ k = 2 by omega) with rfl | rfl | rfl
  all_goals (simp [rcells] at hk ⊢; exact hk)
/-- a row of the call's own is answered -/
def RgsIs (w : World) (l : List Rg) (e : Ending) (w' : World) : Prop := ∃ v, e = .returned v ∧ Rgs w.heap.size w' v l ∧ Below w.heap.size w w'
end Go.Proofs.Ytnffgomgfabapaa.Sm
