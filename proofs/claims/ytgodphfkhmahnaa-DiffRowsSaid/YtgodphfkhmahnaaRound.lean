/- Walks: the program's Right, and what is told of one range. A region within a round of a range over a function, as outside; nothing of the program. -/
import Derived.Test.YtgodphfkhmahnaaSmD
import Derived.Test.YtgodphfkhmahnaaReg
import Derived.RangeFuncBox
import Derived.RangeFuncNested
import Derived.RangeFuncBound
import Derived.RangeFuncCalls
import Derived.RangeFuncLeaves
import Derived.OrdersHeld
import Derived.Deep.RegionHeld
import Derived.OrdersIn
import Derived.Shelf.Abstract
namespace Go.Proofs.Ytgodphfkhmahnaa.Sm
open Go.RowKit Mem
set_option linter.unusedVariables false

def fitB (x : Int) : Bool := decide (0 ≤ x) && decide (x ≤ 1073741824)
theorem fitB_iff (x : Int) : fitB x = true ↔ 0 ≤ x ∧ x ≤ 1073741824 := by unfold fitB; simp
theorem fits_b (x : Int) (w : World) : Calls Try.prog 86 #[.int .i64 x] w fun e w' => e = .returned (.bool (fitB x)) ∧ w = w' := fits_any x w

set_option maxHeartbeats 2000000 in
theorem pright_any (l : List Rg) (A : Option Addr) (m c : Nat) (w : World) (hm : m ≤ 100) (hr : RLow w.heap.size w A m l) :
    Calls Try.prog 65 #[.slice A m c] w fun e w' => e = .returned (.bool (rightB l)) ∧ Below w.heap.size w w' := by
  have HR := Lib.hid hr
  have HL := Lib.hid hr.1
  obtain ⟨rb, hrb⟩ : ∃ b, b = rightB l := ⟨_, rfl⟩
  rw [← hrb]
  have HB := Lib.hid hrb
  clear hr hrb
  go_enter Try.func65, Try.ntmps65
  go_wp2
  go_loopw [3, 11] (fun s j wr => ∃ (i : Nat) (z : Int), i ≤ m ∧ j = .int .i64 i ∧ s = .int .i64 z ∧ Hid ((i = 0 ∧ z = -1) ∨ (0 < i ∧ z = (rg l (i - 1)).at_ + (rg l (i - 1)).old)) ∧ Hid (okTo l i) ∧ Hid (Below w.heap.size w wr)) (fun _ j _ => m - (intOf j).toNat)
  case atStart => exact ⟨0, -1, by omega, rfl, rfl, Lib.hid (.inl ⟨rfl, rfl⟩), Lib.hid (okTo_zero _), Lib.hid (Below.refl _ _)⟩
  case round =>
    obtain ⟨i, z, hi, rfl, rfl, HZ, HO, HW⟩ := hrel
    have hws : w.heap.size ≤ wr.heap.size := HW.out.size
    by_cases hlt : i < m
    · obtain ⟨b, off, rfl, hc⟩ := (HR.out.below HW.out (Nat.le_refl _)).at_ (by omega)
      obtain ⟨c0, c1, c2⟩ := hc i hlt
      have i1 : (0 : Int) ≤ (i : Int) := by omega
      have i2 : (i : Int) < (m : Int) := by omega
      have HW1 := Lib.hid (HW.out.alloc hws (.cells #[.int .i64 (rg l i).at_, .int .i64 (rg l i).old, .int .i64 (rg l i).new] 78))
      have FC := fun x W => fits_b x W
      clear hc
      by_cases ha : fitB (rg l i).at_ = true
      · by_cases ho : fitB (rg l i).old = true
        · by_cases hn : fitB (rg l i).new = true
          · have hf : (rg l i).fits := ⟨(fitB_iff _).1 ha, (fitB_iff _).1 ho, (fitB_iff _).1 hn⟩
            by_cases hg : (rg l i).at_ ≤ z
            · have N1 := Lib.hid (HB.out.trans (rightB_false (i := i) (by rw [HL.out]; exact hlt) (fun g => by
                rcases HZ.out with ⟨h1, h2⟩ | ⟨h1, h2⟩
                · have := g.1; unfold Rg.fits at this; omega
                · have := g.2 h1; omega)))
              clear hf
              generalize rg l i = r at *
              obtain ⟨a, o, n⟩ := r
              simp only at c0 c1 c2 ha ho hn hg
              go_wp2_with (go_at_call 86; refine (FC _ _).mono ?_; rintro e w' ⟨rfl, rfl⟩)
              go_ret
              exact ⟨ret_bool N1.out.symm, HW1.out⟩
            · have N1 := Lib.hid (okTo_succ HO.out ⟨hf, fun h => by
                rcases HZ.out with ⟨h1, h2⟩ | ⟨h1, h2⟩ <;> omega⟩)
              obtain ⟨zz, hzz⟩ : ∃ zz, zz = (rg l i).at_ + (rg l i).old := ⟨_, rfl⟩
              have HZZ := Lib.hid hzz
              have N2 : Hid ((i + 1 = 0 ∧ zz = -1) ∨ (0 < i + 1 ∧ zz = (rg l (i + 1 - 1)).at_ + (rg l (i + 1 - 1)).old)) := Lib.hid (.inr ⟨by omega, by rw [Nat.add_sub_cancel]; exact hzz⟩)
              unfold Rg.fits at hf
              clear hzz HZ
              generalize rg l i = r at *
              obtain ⟨a, o, n⟩ := r
              simp only at c0 c1 c2 ha ho hn hg hf HZZ
              have hs : wrap64 (a + o) = zz := by rw [HZZ.out]; unfold wrap64; omega
              go_wp2_with (go_at_call 86; refine (FC _ _).mono ?_; rintro e w' ⟨rfl, rfl⟩)
              go_roundw
              case rel => exact ⟨i + 1, zz, by omega, by go_num, by rw [HZZ.out], N2, N1, HW1⟩
              case measure => simp [intOf]; omega
          · have N1 := Lib.hid (HB.out.trans (rightB_false (i := i) (by rw [HL.out]; exact hlt) (fun g => hn ((fitB_iff _).2 g.1.2.2))))
            have h' : fitB (rg l i).new = false := by simpa using hn
            clear hn
            generalize rg l i = r at *
            obtain ⟨a, o, n⟩ := r
            simp only at c0 c1 c2 ha ho h'
            go_wp2_with (go_at_call 86; refine (FC _ _).mono ?_; rintro e w' ⟨rfl, rfl⟩)
            go_ret
            exact ⟨ret_bool N1.out.symm, HW1.out⟩
        · have N1 := Lib.hid (HB.out.trans (rightB_false (i := i) (by rw [HL.out]; exact hlt) (fun g => ho ((fitB_iff _).2 g.1.2.1))))
          have h' : fitB (rg l i).old = false := by simpa using ho
          clear ho
          generalize rg l i = r at *
          obtain ⟨a, o, n⟩ := r
          simp only at c0 c1 c2 ha h'
          go_wp2_with (go_at_call 86; refine (FC _ _).mono ?_; rintro e w' ⟨rfl, rfl⟩)
          go_ret
          exact ⟨ret_bool N1.out.symm, HW1.out⟩
      · have N1 := Lib.hid (HB.out.trans (rightB_false (i := i) (by rw [HL.out]; exact hlt) (fun g => ha ((fitB_iff _).2 g.1.1))))
        have ha' : fitB (rg l i).at_ = false := by simpa using ha
        clear ha
        generalize rg l i = r at *
        obtain ⟨a, o, n⟩ := r
        simp only at c0 c1 c2 ha'
        go_wp2_with (go_at_call 86; refine (FC _ _).mono ?_; rintro e w' ⟨rfl, rfl⟩)
        go_ret
        exact ⟨ret_bool N1.out.symm, HW1.out⟩
    · obtain rfl : i = m := by omega
      go_wp2
      go_ret
      exact ⟨ret_bool (by rw [HB.out, rightB_true (by rw [HL.out]; exact HO.out)]), HW.out⟩
end Go.Proofs.Ytgodphfkhmahnaa.Sm
namespace Go.Proofs.Ytgodphfkhmahnaa.Mem
open Go.RowKit Go.Shelf
set_option linter.unusedVariables false
attribute [local go_sem] Oper.semAt_some

/-- what is walked outside of rounds is walked in one, where nothing is deferred -/
theorem any_in_round {P : Program} {md : Region.Mode} {ops : Array Oper} {Q : Exit → Act → World → Prop} {n l : Nat} (hd : ∀ (i : Nat) (o : Oper), ops[i]? = some o → ∀ c, o.op ≠ .defer c) (hl : ¬ LetsOut Q) :
    ∀ (fuel : Nat) (listed : Array Bool) (a : Act) (w : World), wpAny P md ops Q fuel listed a w → wpAnyIn (Fence.wide.inRound l) n P md ops Q fuel listed a w
  | 0, _, _, _, h => h
  | fuel + 1, listed, a, w, h => by
    refine ⟨h.1, fun i hi => ?_⟩
    have h2 := h.2 i hi
    unfold wpOp at h2
    unfold wpOpIn
    cases ho : ops[i]? with
    | none => rw [ho] at h2; exact any_in_round hd hl fuel _ a w h2
    | some o =>
      rw [ho] at h2
      dsimp only at h2 ⊢
      split
      · rename_i hw
        rw [if_pos hw] at h2
        have h3 := h2.resolve_right (fun g => hl g.2)
        refine ⟨fun f _ => trivial, ?_⟩
        rw [Oper.semAt_eq _ _ _ (hd i o ho)]
        unfold Oper.wp at h3
        generalize (execOp a.eval o).run P w = r at *
        cases r with
        | ok x w' =>
          cases x <;> simp only [Oper.upon, Oper.uponIn] at h3 ⊢ <;>
            first
              | exact any_in_round hd hl fuel _ _ _ h3
              | exact ⟨fun hh => by simp [Fence.wide] at hh, CallsIn.inRound l (callsIn_wide.2 (Calls.mono h3 (fun e w'' he => by cases e <;> first | exact any_in_round hd hl fuel _ _ _ he | exact he)))⟩
              | exact ⟨fun hh => by simp [Fence.wide] at hh, fun c cs _ => let ⟨v, w'', r, s⟩ := h3 c cs; ⟨v, w'', any_in_round hd hl fuel _ _ _ r, stepsIn_wide.2 s⟩⟩
        | halt x w' => cases x <;> simp only [Oper.upon, Oper.uponIn] at h3 ⊢ <;> exact h3
      · rename_i hw
        rw [if_neg hw] at h2
        exact ⟨fun f _ => trivial, any_in_round hd hl fuel _ _ _ h2⟩

theorem not_letsOut {α : Type} (B : Nat) (Kp : World → World → Prop) (I : List α → World → Prop) (Ix : Code → List α → World → Prop) (xs : List α) (W : World) : ¬ LetsOut (ownPostG B Kp I Ix xs W) := by
  rintro ⟨a, w, h⟩; exact h
theorem region_round {P : Program} {ops : Array Oper} {Q : Exit → Act → World → Prop} {S : World → Prop} {n l id : Nat} {a : Act} {w : World} (hm : P.follows .mixedOrders = true)
    (hd : (ops.toList.all fun o => match o.op with | .defer _ => false | _ => true) = true) (hl : ¬ LetsOut Q) (hS : S w.drew)
    (h : S w.drew → wpAnyH P .any ops Q S ops.size (Array.replicate ops.size false) a w.drew) : (Code.region id ops true).wpIn (Fence.wide.inRound l) n P Q a w :=
  wpIn_region_any hm (any_in_round (fun i o ho c e => by
    have := List.all_eq_true.1 hd o (Array.mem_toList_iff.2 (Array.mem_of_getElem? ho))
    rw [e] at this; cases this) hl _ _ _ _ (wpAny_of_held _ _ _ _ (h hS)))

end Go.Proofs.Ytgodphfkhmahnaa.Mem
