/- Walks of the reference of bag: Has, List, Two, Same. -/
import Derived.Test.YtlnljgfppipceaaDoorBgA
import Derived.Test.YtlnljgfppipceaaDoorOwn
import Derived.LoopTactic
namespace Go.Proofs.YtlnljgfppipceaaDoor.Bg
open Go.RowKit Mem
set_option linter.unusedVariables false

theorem info_i64 : (Tryd.prog.info? 3).map (fun i => (i.zero, i.size, i.bytes)) = some (some (.int .i64 0), 1, 8) := by kernel_rfl
theorem bcell {W w1 : World} (hb : Below W.heap.size W w1) : (∀ b o, b < W.heap.size → w1.cell? ⟨b, o, none⟩ = W.cell? ⟨b, o, none⟩) ∧ (∀ b o, b < W.heap.size → w1.frozen? ⟨b, o, none⟩ = W.frozen? ⟨b, o, none⟩) :=
  ⟨fun b o h => hb.cell (p := ⟨b, o, none⟩) h, fun b o h => hb.frozen (p := ⟨b, o, none⟩) h⟩

/-- a slice of integers that the call made -/
def IsSl (W : World) (zs : List Int) (e : Ending) (w' : World) : Prop := ∃ A c, e = .returned (.slice A zs.length c) ∧ zs.length ≤ c ∧ Row .i64 w' A zs.length zs ∧ Below W.heap.size W w'
theorem getD_of {zs : List Int} {k : Nat} (h : k < zs.length) : zs.getD k 0 = zs[k] := by simp [List.getD, List.getElem?_eq_getElem h]

set_option maxHeartbeats 1000000 in
theorem rhas_any (A : Option Addr) (n c : Nat) (zs : List Int) (m : Int) (w : World) (hr : Row .i64 w A n zs) (hn : n ≤ 1000000) :
    Calls Tryd.prog 12 #[.slice A n c, .int .i64 m] w fun e w' => e = .returned (.bool (decide (m ∈ zs))) ∧ w = w' := by
  go_enter Tryd.func12, Tryd.ntmps12
  go_wp2
  go_loop [5] (fun i => ∃ k : Nat, k ≤ n ∧ i = .int .i64 k ∧ Hid (∀ j, j < k → zs.getD j 0 ≠ m)) (fun i => n - (intOf i).toNat)
  case atStart => exact ⟨0, Nat.zero_le _, rfl, fun j hj => by omega⟩
  case round =>
    obtain ⟨k, hk, rfl, hno⟩ := hrel
    by_cases hlt : k < n
    · obtain ⟨b, off, rfl, _, hc⟩ := hr.at_ (by omega)
      have hck := hc k hlt
      have hl : k < zs.length := by have := hr.1; omega
      obtain ⟨z, hz⟩ : ∃ z, z = zs.getD k 0 := ⟨_, rfl⟩
      rw [← hz] at hck
      have HZ := Lib.hid hz
      have HL := Lib.hid hl
      have HR := Lib.hid hr
      clear hz hc hl hr
      by_cases hm : z = m
      · have hb : (z == m) = true := by simp [hm]
        have HM := Lib.hid hm
        clear hm
        go_wp2
        go_ret
        refine ⟨ret_bool ?_, rfl⟩
        symm
        rw [decide_eq_true_eq, ← HM.out, HZ.out, getD_of HL.out]
        exact List.getElem_mem HL.out
      · have hb : (z == m) = false := by simpa using hm
        have HM := Lib.hid hm
        clear hm
        go_wp2
        go_round
        case rel => exact ⟨k + 1, by omega, by go_num, fun j hj => by
          by_cases e : j = k
          · rw [e, ← HZ.out]; exact HM.out
          · exact hno.out j (by omega)⟩
        case measure => simp [intOf]; omega
    · obtain rfl : k = n := by omega
      have HR := Lib.hid hr
      clear hr
      go_wp2
      go_ret
      refine ⟨ret_bool ?_, rfl⟩
      symm
      rw [decide_eq_false_iff_not]
      intro hm
      obtain ⟨j, hj, e⟩ := List.getElem_of_mem hm
      exact hno.out j (by have := HR.out.1; omega) (by rw [getD_of hj, e])

/-- the numbers below k that pass -/
def upL (p : Nat → Bool) (k : Nat) : List Int := ((List.range k).filter p).map Int.ofNat
theorem upL_yes {p : Nat → Bool} {k : Nat} (h : p k = true) : upL p (k + 1) = upL p k ++ [(k : Int)] := by
  unfold upL; rw [List.range_succ, List.filter_append]; simp [h]
theorem upL_no {p : Nat → Bool} {k : Nat} (h : p k = false) : upL p (k + 1) = upL p k := by
  unfold upL; rw [List.range_succ, List.filter_append]; simp [h]
theorem upL_len (p : Nat → Bool) (k : Nat) : (upL p k).length ≤ k := by
  unfold upL; rw [List.length_map]; exact Nat.le_trans (List.length_filter_le _ _) (by simp)
theorem upL_wf (p : Nat → Bool) (k : Nat) (hk : k ≤ 1000) : ∀ z ∈ upL p k, (Lit.int .i64 z).wf = true := by
  intro z hz
  obtain ⟨n, hn, rfl⟩ := List.mem_map.1 hz
  have := List.mem_range.1 (List.mem_filter.1 hn).1
  exact WalkArith.wf_i64 (by simp; omega)

set_option maxRecDepth 100000 in
set_option maxHeartbeats 1000000 in
theorem rlist_any (A : Option Addr) (n c : Nat) (zs : List Int) (w : World) (hr : Row .i64 w A n zs) (hn : n ≤ 1000000) :
    Calls Tryd.prog 8 #[.slice A n c] w (IsSl w (upL (fun j : Nat => decide ((j : Int) ∈ zs)) 256)) := by
  obtain ⟨i0, hi, hz, hs1, hs2⟩ := info_parts info_i64
  have HR := Lib.hid hr
  clear hr
  obtain ⟨p, hp⟩ : ∃ p : Nat → Bool, p = fun j : Nat => decide ((j : Int) ∈ zs) := ⟨_, rfl⟩
  rw [← hp]
  have HP := Lib.hid hp
  clear hp
  go_enter Tryd.func8, Tryd.ntmps8
  go_wp2
  go_loopw [3, 4] (fun v i wr => ∃ (k : Nat), k ≤ 256 ∧ i = .int .i64 k ∧ wr.ownsRow w.heap.size 3 1 v (upL p k).length ((upL p k).map (Value.int .i64)) ∧ Below w.heap.size w wr) (fun _ i _ => 256 - (intOf i).toNat)
  case atStart => exact ⟨0, by omega, rfl, World.ownsRow_nil _ _ _ _, Below.refl _ _⟩
  case round =>
    obtain ⟨k, hk, rfl, ho, hb⟩ := hrel
    have hlen := upL_len p k
    have HO := Lib.hid ho
    have HB := Lib.hid hb
    have hbs := hb.size
    clear ho hb
    by_cases hlt : k < 256
    · have hpk : decide ((k : Int) ∈ zs) = p k := by rw [HP.out]
      have HPK := Lib.hid hpk
      clear hpk
      by_cases hyes : p k = true
      · have HY := Lib.hid hyes
        clear hyes
        have hrow : Row .i64 (wr.alloc (.cells #[.int .i64 k] 3 (0, 0))) (some ⟨wr.heap.size, 0, none⟩) 1 [(k : Int)] :=
          row_block (heap_alloc_new wr _) [(k : Int)] rfl 1 rfl (fun z hz => by simp at hz; subst hz; exact WalkArith.wf_i64 (by omega))
        have HROW := Lib.hid hrow
        have ho2 := HO.out.alloc (.cells #[.int .i64 k] 3 (0, 0))
        have HO2 := Lib.hid ho2
        clear hrow ho2
        obtain ⟨L, hL⟩ : ∃ L, L = upL p k := ⟨_, rfl⟩
        rw [← hL] at hlen HO HO2
        have HL := Lib.hid hL
        clear hL
        go_wp2_with (first
          | (go_at_call 12; refine (rhas_any A n c zs k _ (HR.out.below HB.out) hn).mono ?_; rw [HPK.out, HY.out]; rintro e w' ⟨rfl, rfl⟩)
          | (at_builtin; (refine wpList_app rfl (.tmp 12) (.tmp 14) _ rfl .i64 w.heap.size 3 i0 8 Tryd.underlying22 hi hz hs1 hs2 (by omega) _ L.length L rfl HO2.out _ 1 1 [(k : Int)] rfl HROW.out (by omega) (by simp; omega) ?_); intro v' w2 hown' hg hat))
        have HW2 : Hid (Below w.heap.size w w2) := (HB.out.alloc hbs _).grown hg (by simp; omega) (fun j hj => (HO.out.lt j hj).1)
        have HOW := Lib.hid hown'
        clear hown' hg hat
        go_wp2
        go_roundw
        case rel => exact ⟨k + 1, by omega, by go_num, by rw [upL_yes HY.out, ← HL.out]; simpa using HOW.out, HW2.out⟩
        case measure => simp [intOf]; omega
      · have hno : p k = false := by simpa using hyes
        have HN := Lib.hid hno
        clear hyes hno
        go_wp2_with (go_at_call 12; refine (rhas_any A n c zs k _ (HR.out.below HB.out) hn).mono ?_; rw [HPK.out, HN.out]; rintro e w' ⟨rfl, rfl⟩)
        go_roundw
        case rel => exact ⟨k + 1, by omega, by go_num, by rw [upL_no HN.out]; exact HO.out, HB.out⟩
        case measure => simp [intOf]; omega
    · obtain rfl : k = 256 := by omega
      go_wp2
      go_ret
      obtain ⟨A1, c1, rfl, hc1, hr1⟩ := Row.of_own HO.out (upL_wf p 256 (by omega))
      exact ⟨A1, c1, rfl, hc1, hr1, HB.out⟩
end Go.Proofs.YtlnljgfppipceaaDoor.Bg
