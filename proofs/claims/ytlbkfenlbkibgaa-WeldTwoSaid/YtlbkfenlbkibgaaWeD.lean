/- Welding: the seams. -/
import Derived.Test.YtlbkfenlbkibgaaStR
set_option linter.unusedVariables false
set_option maxRecDepth 100000
set_option maxHeartbeats 2000000
namespace Go.Proofs.Ytlbkfenlbkibgaa.St
open Go.RowKit Mem Sm Tk
abbrev fnV (f : FuncId) : Value := .func (.func f) #[] #[]
abbrev seamC : Array Value := #[fnV 95, fnV 96, fnV 97, fnV 98, fnV 99, fnV 100]
theorem seams_any (w : World) :
  Calls Try.prog 77 #[] w fun e w' => ∃ g, e = .returned (.slice (some ⟨g, 0, none⟩) 3 3) ∧ w.heap.size ≤ g ∧ w'.heap[g]? = some (.cells seamC 140 (0, 0)) ∧ Below w.heap.size w w' := by
 have hb := (Below.refl w.heap.size w).alloc (Nat.le_refl _) (.cells seamC 140)
 have hx := heap_alloc_new w (.cells seamC 140)
 have HB := Lib.hid hb
 have HX := Lib.hid hx
 clear hb hx
 go_enter Try.func77, Try.ntmps77
 go_wp2
 go_ret
 exact ⟨_, rfl, Nat.le_refl _, HX.out, HB.out⟩
end Go.Proofs.Ytlbkfenlbkibgaa.St
