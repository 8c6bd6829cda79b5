/- Walks of the lexer's laws: the chapter's example. -/
import Derived.Test.YtegkimcfmdckbaaDoorLxK
namespace Go.Proofs.YtegkimcfmdckbaaDoor.Lx
open Go.RowKit Mem
set_option linter.unusedVariables false

def liveL : List Sg := [⟨1, 0, 0, 0, [97]⟩, ⟨5, 1, 1, -1, []⟩, ⟨2, 3, 0, 0, []⟩, ⟨1, 4, 0, 0, [98]⟩, ⟨4, 5, 0, 0, []⟩, ⟨1, 6, 0, 0, [99]⟩, ⟨3, 7, 0, 0, []⟩, ⟨5, 8, 2, -1, []⟩]
theorem live_lex : Lex [97, 43, 32, 40, 98, 124, 99, 41, 123, 50, 44, 125] = .ok liveL 0 := by decide
theorem live_show : showN 0 liveL = [97, 43, 32, 40, 32, 98, 32, 124, 32, 99, 32, 41, 123, 50, 44, 125] := by
  have h : Lib.itoa 2 = [50] := by
    rw [show (2 : Int) = ((2 : Nat) : Int) from rfl, itoa_nat, dec_small 2 (by omega)]; rfl
  simp [liveL, showN, piece, show1, times, h]

/-- the example's signs, in memory -/
theorem lex_live (w : World) (H : Held w) : Calls Tryd.prog 7 #[.string ⟨#[97, 43, 32, 40, 98, 124, 99, 41, 123, 50, 44, 125]⟩] w fun e w' => Below w.heap.size w w' ∧ ∃ b off c, e = .returned (.tuple #[.slice (some ⟨b, off, none⟩) 8 c, .int .i64 0, .int .i64 0]) ∧ 8 ≤ c ∧ GRow w' (some ⟨b, off, none⟩) 8 liveL := by
  refine (lex_any ⟨#[97, 43, 32, 40, 98, 124, 99, 41, 123, 50, 44, 125]⟩ w (by decide) H).mono fun e w' ⟨hb, h⟩ => ⟨hb, ?_⟩
  rw [show (⟨#[97, 43, 32, 40, 98, 124, 99, 41, 123, 50, 44, 125]⟩ : ByteArray).data.toList = [97, 43, 32, 40, 98, 124, 99, 41, 123, 50, 44, 125] from rfl, live_lex] at h
  obtain ⟨A, c, he, hc, hr⟩ := h
  obtain ⟨b, off, rfl, _⟩ := hr.2 (by decide)
  exact ⟨b, off, c, he, hc, hr⟩
theorem show_live (b off c : Nat) (w : World) (hr : GRow w (some ⟨b, off, none⟩) 8 liveL) (H : Held w) :
    Calls Tryd.prog 9 #[.slice (some ⟨b, off, none⟩) 8 c] w fun e w' => e = .returned (.string ⟨#[97, 43, 32, 40, 32, 98, 32, 124, 32, 99, 32, 41, 123, 50, 44, 125]⟩) ∧ Below w.heap.size w w' := by
  have h := Show_any (some ⟨b, off, none⟩) 8 c liveL w hr (by omega) (by
    intro x hx
    simp only [liveL, List.mem_cons, List.not_mem_nil, or_false] at hx
    rcases hx with rfl | rfl | rfl | rfl | rfl | rfl | rfl | rfl <;> (unfold I64; simp)) H
  rw [live_show] at h
  exact h

set_option maxRecDepth 100000 in
set_option maxHeartbeats 2000000 in
theorem live_any (w : World) (H : Held w) : Calls Tryd.prog 6 #[] w fun e w' => e = .returned (.bool true) ∧ Below w.heap.size w w' := by
  have HH := hide H
  clear H
  go_enter Tryd.func6, Tryd.ntmps6
  go_wp2_with fail
  refine (lex_live _ HH.out).mono ?_
  rintro e w1 ⟨hb, b, off, c, rfl, hc8, hr⟩
  obtain ⟨b', off', e0, hbl, hc⟩ := hr.2 (by omega)
  injection e0 with e0
  injection e0 with e1 e2 _
  subst e1
  subst e2
  obtain ⟨a0, a1, a2, a3, a4⟩ := hc 0 (by decide)
  obtain ⟨b0, b1, b2, b3, b4⟩ := hc 1 (by decide)
  obtain ⟨c0, c1, c2, c3, c4⟩ := hc 7 (by decide)
  clear hc
  simp only [liveL, List.getElem_cons_zero, List.getElem_cons_succ] at a0 a1 a2 a3 a4 b0 b1 b2 b3 b4 c0 c1 c2 c3 c4
  have HR := Lib.hid hr
  have HB := Lib.hid hb
  have HH1 := Lib.hid (HH.out.below hb)
  clear hr hb
  go_wp2_with fail
  refine (show_live b off c _ HR.out HH1.out).mono ?_
  rintro e w2 ⟨rfl, hb2⟩
  go_wp2_with fail
  go_ret
  exact ⟨rfl, HB.out.trans (hb2.mono HB.out.size)⟩
end Go.Proofs.YtegkimcfmdckbaaDoor.Lx
