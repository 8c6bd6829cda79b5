/- What the listed package-level variables hold when a call begins: the table of powers, the two errors, the hidden forms of bytes. -/
import Derived.Test.YtdicjplekbjdpabDoorRows
import Derived.ProofKit
import Derived.OpenShut
import Derived.LaidMore
import Derived.Lib.LaidTab
import Derived.Lib.ItoaNum
import Derived.Stop.LaidErr
import Derived.Stop.Joined
import Derived.MakeChecks
namespace Go.Proofs.YtdicjplekbjdpabDoor.Wd
open Go.RowKit

/-- an array variable of strings that stands first on the list holds these strings -/
theorem strs_of_head {P : Program} {W : World} {name : String} {ls : List (List UInt8)} {rest : List (String × DataW Unit)} {g : Nat} {t e : TypeId} {n : Nat}
    (hg : P.globalNamed name = some g) (hty : (P.globals[g]?).map (·.type) = some t) (ht : P.underlying t = some (.array n e)) (he : P.underlying e = some .string) (hce : P.cellsOf e = 1) (hct : P.cellsOf t = n) (hn : ls.length = n)
    (h : laidMet P ((name, .agg (ls.map fun l => .lit (.string l))) :: rest) W) : ∀ i l, ls[i]? = some l → W.cell? ⟨g, i, none⟩ = some (.string ⟨l.toArray⟩) := by
  obtain ⟨ps, ⟨g', t', cs, fuel, p, q, hg', ht', hvar, hd, _, _⟩, _⟩ := h
  obtain rfl := Option.some.inj (hg.symm.trans hg')
  obtain rfl := Option.some.inj (hty.symm.trans ht')
  obtain ⟨xs, m, rfl, hx, hlen, hxs, hel⟩ := DataW.trod_array ht hd
  simp only [Prod.mk.injEq, DataW.agg.injEq] at hx
  intro i l hl
  have hi : i < n := by
    rcases Nat.lt_or_ge i ls.length with h1 | h1
    · omega
    · rw [List.getElem?_eq_none h1] at hl; cases hl
  have h1 := hel i hi
  have hxi : xs[i]? = some xs[i] := List.getElem?_eq_getElem (by omega)
  rw [hce, Nat.mul_one, hxi] at h1
  obtain ⟨s, hs, hxe, _⟩ := DataW.trod_string he h1
  have h2 : (xs.map (·.1))[i]? = some (DataW.lit (.string s.data.toList)) := by rw [List.getElem?_map, hxi, hxe]; rfl
  rw [← hx.1, List.getElem?_map, hl] at h2
  simp only [Option.map_some, Option.some.injEq, DataW.lit.injEq, Lit.string.injEq] at h2
  have h3 := World.var?_cell hg hvar i
  have h4 : cs[i]? = some (.string s) := by
    have : cs.toList[i]? = some (.string s) := by
      have h5 : ((cs.toList.drop i).take 1)[0]? = some (.string s) := by rw [hs]; rfl
      simpa [List.getElem?_take, List.getElem?_drop] using h5
    simpa using this
  rw [h3, h4]
  subst h2
  cases s
  simp
end Go.Proofs.YtdicjplekbjdpabDoor.Wd
