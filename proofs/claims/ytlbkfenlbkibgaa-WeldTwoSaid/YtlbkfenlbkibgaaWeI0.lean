/- Welding: copies of tokens into an own row; two slices in two blocks don't overlap. -/
import Derived.Test.YtlbkfenlbkibgaaTkMem
import Derived.Laws.CopyRow
import Derived.Laws.Externs
import Derived.Lib.Hide
import Derived.Lib.AppendZerosOnto
set_option linter.unusedVariables false
set_option maxRecDepth 100000
namespace Go.Proofs.Ytlbkfenlbkibgaa.St
open Go.RowKit Mem Tk
set_option linter.unusedSimpArgs false
theorem run_copy_tk (w : World) (ty : TypeId) (g o dLen dCap : Nat) (a : Addr) (sLen sCap : Nat) (cur : Array Value) (t : TypeId) (cs : List Value)
  (hg : w.heap[g]? = some (.cells cur t (0, 0))) (hn : cs.length = Nat.min sLen dLen * 12)
  (hsrc : ∀ j v, cs[j]? = some v → w.cell? (a.add j) = some v) (hfit : o + cs.length ≤ cur.size) (h1 : ∀ v ∈ cs, v.oneCell' = true) :
  (Builtin.copy_ #[22, 22] ty #[.slice (some ⟨g, o, none⟩) dLen dCap, .slice (some a) sLen sCap]).run Try.prog w =
   .ok (goInt (Nat.min sLen dLen)) (w.setRow g (cur.toList.take o ++ cs ++ cur.toList.drop (o + cs.length)).toArray) := by
 have hu : Try.prog.underlying 22 = some (.slice 101) := Try.underlying22
 have hs : (Try.prog.info? 101).map (·.size) = some 12 := by kernel_rfl
 have hl := run_loadCells_list (P := Try.prog) w a cs hsrc
 have hst := run_storeCells_at Try.prog g o t cs 0 cur w hg (by simpa using hfit) h1
 rw [hn] at hl
 cases hq : Try.prog.info? 101 with
 | none => simp [hq] at hs
 | some i =>
  have hi : i.size = 12 := by simpa [hq] using hs
  simp only [Nat.min_def] at hl hn ⊢
  simp [Builtin.copy_, run_underlying hu, Builtin.lenOf, Builtin.firstCells, sizeOf, typeInfo, hq, hi, hl, hst, Nat.min_def]
  try split
  all_goals simp_all
theorem run_overlaps_own (w : World) (tS tR e : TypeId) (ht : Try.prog.underlying tS = some (.slice e)) (size : Nat) (hz : ∀ w, (Go.sizeOf e).run Try.prog w = .ok size w)
  (a b : Addr) (la ca lb cb : Nat) (hne : a.block ≠ b.block) (tA tB : TypeId) (kA kB : Nat)
  (hsa : w.shape? a.block = some (tA, kA)) (hsb : w.shape? b.block = some (tB, kB)) (hkA : kA ≠ 0)
  (hfb : w.frozen? b = false) (hfe : w.frozen? { block := b.block, off := kB } = false) :
  (Extern.SlicesOverlaps.overlaps #[tS, tS] #[tR] #[.slice (some a) la ca, .slice (some b) lb cb]).run Try.prog w = .ok (.bool false) w := by
 have hnb : (a.block != b.block) = true := by simpa using hne
 have hnb' : (a.block == b.block) = false := by simpa using hne
 show Sem.run Try.prog (underlying tS >>= _) w = _
 by_cases h0 : la = 0 ∨ lb = 0 ∨ size = 0
 ·simp [run_underlying ht, hz, h0]
 ·cases kA with
  | zero => exact absurd rfl hkA
  | succ kA =>
   cases hfa : w.frozen? a <;> cases hfc : w.frozen? { block := a.block, off := kA + 1 } <;>
   simp [run_underlying ht, hz, h0, hnb, hnb', frozen, noView, viewAt, mayBeOne, stringish, shape, Sem.run, hsa, hsb, hfa, hfc, hfb, hfe]
theorem step_copy_tk {ops : Array Oper} {o : Oper} {a : Act} {w : World} {K : Act → World → Prop} {Q : Exit → Act → World → Prop} {E : Prop}
  (hg : o.guard = none) (d x : Operand) (dT sT : TypeId) (hop : o.op = Op.call { callee := Callee.builtin Builtin.copy, args := #[d, x], argTypes := #[dT, sT] })
  (v u : Value) (hd : a.eval d = v) (hx : a.eval x = u) {v' : Value} {w' : World} (hr : (Builtin.copy_ #[dT, sT] o.type #[v, u]).run Try.prog w = .ok v' w') (hK : K (a.put o.dst v') w') :
  if Region.wanted o (yielded ops a.tmps) = true then Oper.wp Try.prog o a w K Q else E := by
 have hw : Region.wanted o (yielded ops a.tmps) = true := by simp [Region.wanted, hg]
 rw [if_pos hw]
 unfold Oper.wp
 simp [execOp, hop, resolve, invoke, builtin, hd, hx, hr, Result.andThen]
 exact hK
theorem below_setRow {n : Nat} {w W : World} (hb : Below n w W) {g : Nat} (hg : n ≤ g) (cs : Array Value) : Below n w (W.setRow g cs) := by
 refine ⟨hb.os, hb.tape, hb.output, by simp [World.setRow]; exact hb.size, fun k hk => ?_⟩
 rw [← hb.block k hk]
 simp [World.setRow, Array.getElem?_modify]
 intro e; omega
theorem grown_setRow (W : World) (g : Nat) (cs : Array Value) : W.grownBy (W.setRow g cs) (some g) := by
 refine ⟨rfl, rfl, rfl, by simp [World.setRow], fun k hk hne => ?_⟩
 simp [World.setRow, Array.getElem?_modify]
 intro e; exact absurd (by rw [e]) hne
end Go.Proofs.Ytlbkfenlbkibgaa.St
