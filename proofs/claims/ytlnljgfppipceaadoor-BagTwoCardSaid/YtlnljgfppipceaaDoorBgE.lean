/- Walks of the reference of bag: Two, Same. -/
import Derived.Test.YtlnljgfppipceaaDoorBgD
import Derived.BigQuiet
namespace Go.Proofs.YtlnljgfppipceaaDoor.Bg
open Go.RowKit Mem
set_option linter.unusedVariables false

set_option maxRecDepth 100000 in
set_option maxHeartbeats 2000000 in
theorem two_0 (A A' : Option Addr) (n c n' c' : Nat) (xs ys : List Int) (w : World) (hx : Row .i64 w A n xs) (hy : Row .i64 w A' n' ys) (hn : n ≤ 1000000) (hn' : n' ≤ 1000000) :
    Calls Tryd.prog 17 #[.slice A n c, .slice A' n' c', .int .i64 0] w (IsSl w (upL (fun j : Nat => (decide ((j : Int) ∈ xs) || decide ((j : Int) ∈ ys))) 256)) := by
  obtain ⟨i0, hi, hz, hs1, hs2⟩ := info_parts info_i64
  have HRX := Lib.hid hx
  have HRY := Lib.hid hy
  clear hx hy
  obtain ⟨p, hp⟩ : ∃ p : Nat → Bool, p = fun j : Nat => (decide ((j : Int) ∈ xs) || decide ((j : Int) ∈ ys)) := ⟨_, rfl⟩
  rw [← hp]
  have HP := Lib.hid hp
  clear hp
  go_enter Tryd.func17, Tryd.ntmps17
  go_wp2
  go_loopw [7, 8] (fun v i wr => ∃ (k : Nat), k ≤ 256 ∧ i = .int .i64 k ∧ wr.ownsRow w.heap.size 3 1 v (upL p k).length ((upL p k).map (Value.int .i64)) ∧ Below w.heap.size w wr) (fun _ i _ => 256 - (intOf i).toNat)
  case atStart => exact ⟨0, by omega, rfl, World.ownsRow_nil _ _ _ _, Below.refl _ _⟩
  case round =>
    obtain ⟨k, hk, rfl, ho, hb⟩ := hrel
    have hlen := upL_len p k
    have HO := Lib.hid ho
    have HB := Lib.hid hb
    have hbs := hb.size
    clear ho hb
    by_cases hlt : k < 256
    · obtain ⟨bx, hbx⟩ : ∃ b, b = decide ((k : Int) ∈ xs) := ⟨_, rfl⟩
      obtain ⟨bY, hby⟩ : ∃ b, b = decide ((k : Int) ∈ ys) := ⟨_, rfl⟩
      have HX := Lib.hid hbx
      have HY := Lib.hid hby
      clear hbx hby
      cases bx
      · cases bY
        · have hp : p k = false := by rw [HP.out]; show (decide ((k : Int) ∈ xs) || decide ((k : Int) ∈ ys)) = false; rw [← HX.out, ← HY.out]; rfl
          have HN := Lib.hid hp
          clear hp
          go_wp2_with fail
          refine (rhas_any A n c xs k _ (HRX.out.below HB.out) hn).mono ?_; rw [← HX.out]; rintro e w' ⟨rfl, rfl⟩
          go_wp2_with fail
          refine (rhas_any A' n' c' ys k _ (HRY.out.below HB.out) hn').mono ?_; rw [← HY.out]; rintro e w' ⟨rfl, rfl⟩
          go_wp2
          go_roundw
          case rel => exact ⟨k + 1, by omega, by go_num, by rw [upL_no HN.out]; exact HO.out, HB.out⟩
          case measure => simp [intOf]; omega
        · have hp : p k = true := by rw [HP.out]; show (decide ((k : Int) ∈ xs) || decide ((k : Int) ∈ ys)) = true; rw [← HX.out, ← HY.out]; rfl
          have HYES := Lib.hid hp
          have hrow : Row .i64 (wr.alloc (.cells #[.int .i64 k] 3 (0, 0))) (some ⟨wr.heap.size, 0, none⟩) 1 [(k : Int)] :=
            row_block (heap_alloc_new wr _) [(k : Int)] rfl 1 rfl (fun z hz => by simp at hz; subst hz; exact WalkArith.wf_i64 (by omega))
          have HROW := Lib.hid hrow
          have ho2 := HO.out.alloc (.cells #[.int .i64 k] 3 (0, 0))
          have HO2 := Lib.hid ho2
          clear hrow ho2 hp
          obtain ⟨L, hL⟩ : ∃ L, L = upL p k := ⟨_, rfl⟩
          rw [← hL] at hlen HO HO2
          have HL := Lib.hid hL
          clear hL
          go_wp2_with fail
          refine (rhas_any A n c xs k _ (HRX.out.below HB.out) hn).mono ?_; rw [← HX.out]; rintro e w' ⟨rfl, rfl⟩
          go_wp2_with fail
          refine (rhas_any A' n' c' ys k _ (HRY.out.below HB.out) hn').mono ?_; rw [← HY.out]; rintro e w' ⟨rfl, rfl⟩
          go_wp2_with (at_builtin; (refine wpList_app rfl (.tmp 50) (.tmp 52) _ rfl .i64 w.heap.size 3 i0 8 Tryd.underlying22 hi hz hs1 hs2 (by omega) _ L.length L rfl HO2.out _ 1 1 [(k : Int)] rfl HROW.out (by omega) (by simp; omega) ?_); intro v' w2 hown' hg hat)
          have HW2 : Hid (Below w.heap.size w w2) := (HB.out.alloc hbs _).grown hg (by simp; omega) (fun j hj => (HO.out.lt j hj).1)
          have HOW := Lib.hid hown'
          clear hown' hg hat
          go_wp2
          go_roundw
          case rel => exact ⟨k + 1, by omega, by go_num, by rw [upL_yes HYES.out, ← HL.out]; simpa using HOW.out, HW2.out⟩
          case measure => simp [intOf]; omega
      · cases bY
        · have hp : p k = true := by rw [HP.out]; show (decide ((k : Int) ∈ xs) || decide ((k : Int) ∈ ys)) = true; rw [← HX.out, ← HY.out]; rfl
          have HYES := Lib.hid hp
          have hrow : Row .i64 (wr.alloc (.cells #[.int .i64 k] 3 (0, 0))) (some ⟨wr.heap.size, 0, none⟩) 1 [(k : Int)] :=
            row_block (heap_alloc_new wr _) [(k : Int)] rfl 1 rfl (fun z hz => by simp at hz; subst hz; exact WalkArith.wf_i64 (by omega))
          have HROW := Lib.hid hrow
          have ho2 := HO.out.alloc (.cells #[.int .i64 k] 3 (0, 0))
          have HO2 := Lib.hid ho2
          clear hrow ho2 hp
          obtain ⟨L, hL⟩ : ∃ L, L = upL p k := ⟨_, rfl⟩
          rw [← hL] at hlen HO HO2
          have HL := Lib.hid hL
          clear hL
          go_wp2_with fail
          refine (rhas_any A n c xs k _ (HRX.out.below HB.out) hn).mono ?_; rw [← HX.out]; rintro e w' ⟨rfl, rfl⟩
          go_wp2_with fail
          refine (rhas_any A' n' c' ys k _ (HRY.out.below HB.out) hn').mono ?_; rw [← HY.out]; rintro e w' ⟨rfl, rfl⟩
          go_wp2_with (at_builtin; (refine wpList_app rfl (.tmp 50) (.tmp 52) _ rfl .i64 w.heap.size 3 i0 8 Tryd.underlying22 hi hz hs1 hs2 (by omega) _ L.length L rfl HO2.out _ 1 1 [(k : Int)] rfl HROW.out (by omega) (by simp; omega) ?_); intro v' w2 hown' hg hat)
          have HW2 : Hid (Below w.heap.size w w2) := (HB.out.alloc hbs _).grown hg (by simp; omega) (fun j hj => (HO.out.lt j hj).1)
          have HOW := Lib.hid hown'
          clear hown' hg hat
          go_wp2
          go_roundw
          case rel => exact ⟨k + 1, by omega, by go_num, by rw [upL_yes HYES.out, ← HL.out]; simpa using HOW.out, HW2.out⟩
          case measure => simp [intOf]; omega
        · have hp : p k = true := by rw [HP.out]; show (decide ((k : Int) ∈ xs) || decide ((k : Int) ∈ ys)) = true; rw [← HX.out, ← HY.out]; rfl
          have HYES := Lib.hid hp
          have hrow : Row .i64 (wr.alloc (.cells #[.int .i64 k] 3 (0, 0))) (some ⟨wr.heap.size, 0, none⟩) 1 [(k : Int)] :=
            row_block (heap_alloc_new wr _) [(k : Int)] rfl 1 rfl (fun z hz => by simp at hz; subst hz; exact WalkArith.wf_i64 (by omega))
          have HROW := Lib.hid hrow
          have ho2 := HO.out.alloc (.cells #[.int .i64 k] 3 (0, 0))
          have HO2 := Lib.hid ho2
          clear hrow ho2 hp
          obtain ⟨L, hL⟩ : ∃ L, L = upL p k := ⟨_, rfl⟩
          rw [← hL] at hlen HO HO2
          have HL := Lib.hid hL
          clear hL
          go_wp2_with fail
          refine (rhas_any A n c xs k _ (HRX.out.below HB.out) hn).mono ?_; rw [← HX.out]; rintro e w' ⟨rfl, rfl⟩
          go_wp2_with fail
          refine (rhas_any A' n' c' ys k _ (HRY.out.below HB.out) hn').mono ?_; rw [← HY.out]; rintro e w' ⟨rfl, rfl⟩
          go_wp2_with (at_builtin; (refine wpList_app rfl (.tmp 50) (.tmp 52) _ rfl .i64 w.heap.size 3 i0 8 Tryd.underlying22 hi hz hs1 hs2 (by omega) _ L.length L rfl HO2.out _ 1 1 [(k : Int)] rfl HROW.out (by omega) (by simp; omega) ?_); intro v' w2 hown' hg hat)
          have HW2 : Hid (Below w.heap.size w w2) := (HB.out.alloc hbs _).grown hg (by simp; omega) (fun j hj => (HO.out.lt j hj).1)
          have HOW := Lib.hid hown'
          clear hown' hg hat
          go_wp2
          go_roundw
          case rel => exact ⟨k + 1, by omega, by go_num, by rw [upL_yes HYES.out, ← HL.out]; simpa using HOW.out, HW2.out⟩
          case measure => simp [intOf]; omega
    · obtain rfl : k = 256 := by omega
      go_wp2
      go_ret
      obtain ⟨A1, c1, rfl, hc1, hr1⟩ := Row.of_own HO.out (upL_wf p 256 (by omega))
      exact ⟨A1, c1, rfl, hc1, hr1, HB.out⟩

set_option maxRecDepth 100000 in
set_option maxHeartbeats 2000000 in
theorem two_1 (A A' : Option Addr) (n c n' c' : Nat) (xs ys : List Int) (w : World) (hx : Row .i64 w A n xs) (hy : Row .i64 w A' n' ys) (hn : n ≤ 1000000) (hn' : n' ≤ 1000000) :
    Calls Tryd.prog 17 #[.slice A n c, .slice A' n' c', .int .i64 1] w (IsSl w (upL (fun j : Nat => (decide ((j : Int) ∈ xs) && decide ((j : Int) ∈ ys))) 256)) := by
  obtain ⟨i0, hi, hz, hs1, hs2⟩ := info_parts info_i64
  have HRX := Lib.hid hx
  have HRY := Lib.hid hy
  clear hx hy
  obtain ⟨p, hp⟩ : ∃ p : Nat → Bool, p = fun j : Nat => (decide ((j : Int) ∈ xs) && decide ((j : Int) ∈ ys)) := ⟨_, rfl⟩
  rw [← hp]
  have HP := Lib.hid hp
  clear hp
  go_enter Tryd.func17, Tryd.ntmps17
  go_wp2
  go_loopw [7, 8] (fun v i wr => ∃ (k : Nat), k ≤ 256 ∧ i = .int .i64 k ∧ wr.ownsRow w.heap.size 3 1 v (upL p k).length ((upL p k).map (Value.int .i64)) ∧ Below w.heap.size w wr) (fun _ i _ => 256 - (intOf i).toNat)
  case atStart => exact ⟨0, by omega, rfl, World.ownsRow_nil _ _ _ _, Below.refl _ _⟩
  case round =>
    obtain ⟨k, hk, rfl, ho, hb⟩ := hrel
    have hlen := upL_len p k
    have HO := Lib.hid ho
    have HB := Lib.hid hb
    have hbs := hb.size
    clear ho hb
    by_cases hlt : k < 256
    · obtain ⟨bx, hbx⟩ : ∃ b, b = decide ((k : Int) ∈ xs) := ⟨_, rfl⟩
      obtain ⟨bY, hby⟩ : ∃ b, b = decide ((k : Int) ∈ ys) := ⟨_, rfl⟩
      have HX := Lib.hid hbx
      have HY := Lib.hid hby
      clear hbx hby
      cases bx
      · cases bY
        · have hp : p k = false := by rw [HP.out]; show (decide ((k : Int) ∈ xs) && decide ((k : Int) ∈ ys)) = false; rw [← HX.out, ← HY.out]; rfl
          have HN := Lib.hid hp
          clear hp
          go_wp2_with fail
          refine (rhas_any A n c xs k _ (HRX.out.below HB.out) hn).mono ?_; rw [← HX.out]; rintro e w' ⟨rfl, rfl⟩
          go_wp2_with fail
          refine (rhas_any A' n' c' ys k _ (HRY.out.below HB.out) hn').mono ?_; rw [← HY.out]; rintro e w' ⟨rfl, rfl⟩
          go_wp2
          go_roundw
          case rel => exact ⟨k + 1, by omega, by go_num, by rw [upL_no HN.out]; exact HO.out, HB.out⟩
          case measure => simp [intOf]; omega
        · have hp : p k = false := by rw [HP.out]; show (decide ((k : Int) ∈ xs) && decide ((k : Int) ∈ ys)) = false; rw [← HX.out, ← HY.out]; rfl
          have HN := Lib.hid hp
          clear hp
          go_wp2_with fail
          refine (rhas_any A n c xs k _ (HRX.out.below HB.out) hn).mono ?_; rw [← HX.out]; rintro e w' ⟨rfl, rfl⟩
          go_wp2_with fail
          refine (rhas_any A' n' c' ys k _ (HRY.out.below HB.out) hn').mono ?_; rw [← HY.out]; rintro e w' ⟨rfl, rfl⟩
          go_wp2
          go_roundw
          case rel => exact ⟨k + 1, by omega, by go_num, by rw [upL_no HN.out]; exact HO.out, HB.out⟩
          case measure => simp [intOf]; omega
      · cases bY
        · have hp : p k = false := by rw [HP.out]; show (decide ((k : Int) ∈ xs) && decide ((k : Int) ∈ ys)) = false; rw [← HX.out, ← HY.out]; rfl
          have HN := Lib.hid hp
          clear hp
          go_wp2_with fail
          refine (rhas_any A n c xs k _ (HRX.out.below HB.out) hn).mono ?_; rw [← HX.out]; rintro e w' ⟨rfl, rfl⟩
          go_wp2_with fail
          refine (rhas_any A' n' c' ys k _ (HRY.out.below HB.out) hn').mono ?_; rw [← HY.out]; rintro e w' ⟨rfl, rfl⟩
          go_wp2
          go_roundw
          case rel => exact ⟨k + 1, by omega, by go_num, by rw [upL_no HN.out]; exact HO.out, HB.out⟩
          case measure => simp [intOf]; omega
        · have hp : p k = true := by rw [HP.out]; show (decide ((k : Int) ∈ xs) && decide ((k : Int) ∈ ys)) = true; rw [← HX.out, ← HY.out]; rfl
          have HYES := Lib.hid hp
          have hrow : Row .i64 (wr.alloc (.cells #[.int .i64 k] 3 (0, 0))) (some ⟨wr.heap.size, 0, none⟩) 1 [(k : Int)] :=
            row_block (heap_alloc_new wr _) [(k : Int)] rfl 1 rfl (fun z hz => by simp at hz; subst hz; exact WalkArith.wf_i64 (by omega))
          have HROW := Lib.hid hrow
          have ho2 := HO.out.alloc (.cells #[.int .i64 k] 3 (0, 0))
          have HO2 := Lib.hid ho2
          clear hrow ho2 hp
          obtain ⟨L, hL⟩ : ∃ L, L = upL p k := ⟨_, rfl⟩
          rw [← hL] at hlen HO HO2
          have HL := Lib.hid hL
          clear hL
          go_wp2_with fail
          refine (rhas_any A n c xs k _ (HRX.out.below HB.out) hn).mono ?_; rw [← HX.out]; rintro e w' ⟨rfl, rfl⟩
          go_wp2_with fail
          refine (rhas_any A' n' c' ys k _ (HRY.out.below HB.out) hn').mono ?_; rw [← HY.out]; rintro e w' ⟨rfl, rfl⟩
          go_wp2_with (at_builtin; (refine wpList_app rfl (.tmp 50) (.tmp 52) _ rfl .i64 w.heap.size 3 i0 8 Tryd.underlying22 hi hz hs1 hs2 (by omega) _ L.length L rfl HO2.out _ 1 1 [(k : Int)] rfl HROW.out (by omega) (by simp; omega) ?_); intro v' w2 hown' hg hat)
          have HW2 : Hid (Below w.heap.size w w2) := (HB.out.alloc hbs _).grown hg (by simp; omega) (fun j hj => (HO.out.lt j hj).1)
          have HOW := Lib.hid hown'
          clear hown' hg hat
          go_wp2
          go_roundw
          case rel => exact ⟨k + 1, by omega, by go_num, by rw [upL_yes HYES.out, ← HL.out]; simpa using HOW.out, HW2.out⟩
          case measure => simp [intOf]; omega
    · obtain rfl : k = 256 := by omega
      go_wp2
      go_ret
      obtain ⟨A1, c1, rfl, hc1, hr1⟩ := Row.of_own HO.out (upL_wf p 256 (by omega))
      exact ⟨A1, c1, rfl, hc1, hr1, HB.out⟩

set_option maxRecDepth 100000 in
set_option maxHeartbeats 2000000 in
theorem two_2 (A A' : Option Addr) (n c n' c' : Nat) (xs ys : List Int) (w : World) (hx : Row .i64 w A n xs) (hy : Row .i64 w A' n' ys) (hn : n ≤ 1000000) (hn' : n' ≤ 1000000) :
    Calls Tryd.prog 17 #[.slice A n c, .slice A' n' c', .int .i64 2] w (IsSl w (upL (fun j : Nat => (decide ((j : Int) ∈ xs) && !decide ((j : Int) ∈ ys))) 256)) := by
  obtain ⟨i0, hi, hz, hs1, hs2⟩ := info_parts info_i64
  have HRX := Lib.hid hx
  have HRY := Lib.hid hy
  clear hx hy
  obtain ⟨p, hp⟩ : ∃ p : Nat → Bool, p = fun j : Nat => (decide ((j : Int) ∈ xs) && !decide ((j : Int) ∈ ys)) := ⟨_, rfl⟩
  rw [← hp]
  have HP := Lib.hid hp
  clear hp
  go_enter Tryd.func17, Tryd.ntmps17
  go_wp2
  go_loopw [7, 8] (fun v i wr => ∃ (k : Nat), k ≤ 256 ∧ i = .int .i64 k ∧ wr.ownsRow w.heap.size 3 1 v (upL p k).length ((upL p k).map (Value.int .i64)) ∧ Below w.heap.size w wr) (fun _ i _ => 256 - (intOf i).toNat)
  case atStart => exact ⟨0, by omega, rfl, World.ownsRow_nil _ _ _ _, Below.refl _ _⟩
  case round =>
    obtain ⟨k, hk, rfl, ho, hb⟩ := hrel
    have hlen := upL_len p k
    have HO := Lib.hid ho
    have HB := Lib.hid hb
    have hbs := hb.size
    clear ho hb
    by_cases hlt : k < 256
    · obtain ⟨bx, hbx⟩ : ∃ b, b = decide ((k : Int) ∈ xs) := ⟨_, rfl⟩
      obtain ⟨bY, hby⟩ : ∃ b, b = decide ((k : Int) ∈ ys) := ⟨_, rfl⟩
      have HX := Lib.hid hbx
      have HY := Lib.hid hby
      clear hbx hby
      cases bx
      · cases bY
        · have hp : p k = false := by rw [HP.out]; show (decide ((k : Int) ∈ xs) && !decide ((k : Int) ∈ ys)) = false; rw [← HX.out, ← HY.out]; rfl
          have HN := Lib.hid hp
          clear hp
          go_wp2_with fail
          refine (rhas_any A n c xs k _ (HRX.out.below HB.out) hn).mono ?_; rw [← HX.out]; rintro e w' ⟨rfl, rfl⟩
          go_wp2_with fail
          refine (rhas_any A' n' c' ys k _ (HRY.out.below HB.out) hn').mono ?_; rw [← HY.out]; rintro e w' ⟨rfl, rfl⟩
          go_wp2
          go_roundw
          case rel => exact ⟨k + 1, by omega, by go_num, by rw [upL_no HN.out]; exact HO.out, HB.out⟩
          case measure => simp [intOf]; omega
        · have hp : p k = false := by rw [HP.out]; show (decide ((k : Int) ∈ xs) && !decide ((k : Int) ∈ ys)) = false; rw [← HX.out, ← HY.out]; rfl
          have HN := Lib.hid hp
          clear hp
          go_wp2_with fail
          refine (rhas_any A n c xs k _ (HRX.out.below HB.out) hn).mono ?_; rw [← HX.out]; rintro e w' ⟨rfl, rfl⟩
          go_wp2_with fail
          refine (rhas_any A' n' c' ys k _ (HRY.out.below HB.out) hn').mono ?_; rw [← HY.out]; rintro e w' ⟨rfl, rfl⟩
          go_wp2
          go_roundw
          case rel => exact ⟨k + 1, by omega, by go_num, by rw [upL_no HN.out]; exact HO.out, HB.out⟩
          case measure => simp [intOf]; omega
      · cases bY
        · have hp : p k = true := by rw [HP.out]; show (decide ((k : Int) ∈ xs) && !decide ((k : Int) ∈ ys)) = true; rw [← HX.out, ← HY.out]; rfl
          have HYES := Lib.hid hp
          have hrow : Row .i64 (wr.alloc (.cells #[.int .i64 k] 3 (0, 0))) (some ⟨wr.heap.size, 0, none⟩) 1 [(k : Int)] :=
            row_block (heap_alloc_new wr _) [(k : Int)] rfl 1 rfl (fun z hz => by simp at hz; subst hz; exact WalkArith.wf_i64 (by omega))
          have HROW := Lib.hid hrow
          have ho2 := HO.out.alloc (.cells #[.int .i64 k] 3 (0, 0))
          have HO2 := Lib.hid ho2
          clear hrow ho2 hp
          obtain ⟨L, hL⟩ : ∃ L, L = upL p k := ⟨_, rfl⟩
          rw [← hL] at hlen HO HO2
          have HL := Lib.hid hL
          clear hL
          go_wp2_with fail
          refine (rhas_any A n c xs k _ (HRX.out.below HB.out) hn).mono ?_; rw [← HX.out]; rintro e w' ⟨rfl, rfl⟩
          go_wp2_with fail
          refine (rhas_any A' n' c' ys k _ (HRY.out.below HB.out) hn').mono ?_; rw [← HY.out]; rintro e w' ⟨rfl, rfl⟩
          go_wp2_with (at_builtin; (refine wpList_app rfl (.tmp 50) (.tmp 52) _ rfl .i64 w.heap.size 3 i0 8 Tryd.underlying22 hi hz hs1 hs2 (by omega) _ L.length L rfl HO2.out _ 1 1 [(k : Int)] rfl HROW.out (by omega) (by simp; omega) ?_); intro v' w2 hown' hg hat)
          have HW2 : Hid (Below w.heap.size w w2) := (HB.out.alloc hbs _).grown hg (by simp; omega) (fun j hj => (HO.out.lt j hj).1)
          have HOW := Lib.hid hown'
          clear hown' hg hat
          go_wp2
          go_roundw
          case rel => exact ⟨k + 1, by omega, by go_num, by rw [upL_yes HYES.out, ← HL.out]; simpa using HOW.out, HW2.out⟩
          case measure => simp [intOf]; omega
        · have hp : p k = false := by rw [HP.out]; show (decide ((k : Int) ∈ xs) && !decide ((k : Int) ∈ ys)) = false; rw [← HX.out, ← HY.out]; rfl
          have HN := Lib.hid hp
          clear hp
          go_wp2_with fail
          refine (rhas_any A n c xs k _ (HRX.out.below HB.out) hn).mono ?_; rw [← HX.out]; rintro e w' ⟨rfl, rfl⟩
          go_wp2_with fail
          refine (rhas_any A' n' c' ys k _ (HRY.out.below HB.out) hn').mono ?_; rw [← HY.out]; rintro e w' ⟨rfl, rfl⟩
          go_wp2
          go_roundw
          case rel => exact ⟨k + 1, by omega, by go_num, by rw [upL_no HN.out]; exact HO.out, HB.out⟩
          case measure => simp [intOf]; omega
    · obtain rfl : k = 256 := by omega
      go_wp2
      go_ret
      obtain ⟨A1, c1, rfl, hc1, hr1⟩ := Row.of_own HO.out (upL_wf p 256 (by omega))
      exact ⟨A1, c1, rfl, hc1, hr1, HB.out⟩

set_option maxHeartbeats 1000000 in
/-- two lists, whether they are the same -/
theorem rsame_any (A1 A2 : Option Addr) (n1 n2 c1 c2 : Nat) (ls ks : List Int) (w : World) (h1 : Row .i64 w A1 n1 ls) (h2 : Row .i64 w A2 n2 ks) (hn : n1 ≤ 100000) (hn2 : n2 ≤ 100000) :
    Calls Tryd.prog 13 #[.slice A1 n1 c1, .slice A2 n2 c2] w fun e w' => e = .returned (.bool (decide (ls = ks))) ∧ Below w.heap.size w w' := by
  have l1 := h1.1
  have l2 := h2.1
  by_cases hlen : n1 = n2
  · subst hlen
    have d0 : ((n1 : Int) != (n1 : Int)) = false := by simp
    have L1 := Lib.hid l1
    have L2 := Lib.hid l2
    clear l1 l2
    go_enter Tryd.func13, Tryd.ntmps13
    go_wp2
    go_loopw [5] (fun i wr => ∃ k : Nat, k ≤ n1 ∧ i = .int .i64 k ∧ Hid (∀ j, j < k → ls.getD j 0 = ks.getD j 0) ∧ ∃ m, wr = w.drewN m) (fun i _ => n1 - (intOf i).toNat)
    case atStart => exact ⟨0, Nat.zero_le _, rfl, fun j hj => by omega, 0, rfl⟩
    case round =>
      obtain ⟨k, hk, rfl, hall, m, rfl⟩ := hrel
      by_cases hlt : k < n1
      · obtain ⟨b1, o1, rfl, _, hx1⟩ := h1.at_ (by omega)
        obtain ⟨b2, o2, rfl, _, hx2⟩ := h2.at_ (by omega)
        have x1 := hx1 k hlt
        have x2 := hx2 k hlt
        obtain ⟨z, hz⟩ : ∃ z, z = ls.getD k 0 := ⟨_, rfl⟩
        obtain ⟨y, hy⟩ : ∃ z, z = ks.getD k 0 := ⟨_, rfl⟩
        rw [← hz] at x1
        rw [← hy] at x2
        have HZ := Lib.hid hz
        have HY := Lib.hid hy
        have i1 : (0 : Int) ≤ (k : Int) := by omega
        have i2 : (k : Int) < (n1 : Int) := by omega
        have G1 := Lib.hid h1
        have G2 := Lib.hid h2
        clear hx1 hx2 hz hy h1 h2
        by_cases e : z = y
        · have d1 : (z != y) = false := by simpa using e
          have E := Lib.hid e
          clear e
          go_wp2
          go_quiet (fail)
          go_wp2
          go_roundw
          case rel => exact ⟨k + 1, by omega, by go_num, fun j hj => by
            by_cases e : j = k
            · rw [e, ← HZ.out, ← HY.out]; exact E.out
            · exact hall.out j (by omega), _, rfl⟩
          case measure => simp [intOf]; omega
        · have d1 : (z != y) = true := by simpa using e
          have E := Lib.hid e
          clear e
          go_wp2
          go_quiet (fail)
          go_wp2
          go_ret
          refine ⟨ret_bool ?_, by first | exact Mem.below_drewN (Below.refl _ _) _ | exact Mem.below_drewN (Mem.below_drewN (Below.refl _ _) _) _ | exact Below.drew (Mem.below_drewN (Below.refl _ _) _)⟩
          symm
          rw [decide_eq_false_iff_not]
          intro h
          exact E.out (by rw [HZ.out, HY.out, h])
      · obtain rfl : k = n1 := by omega
        go_wp2
        go_ret
        refine ⟨ret_bool ?_, Mem.below_drewN (Below.refl _ _) _⟩
        symm
        rw [decide_eq_true_eq]
        refine List.ext_getElem (by rw [L1.out, L2.out]) fun j hj1 hj2 => ?_
        have := hall.out j (by have := L1.out; omega)
        rwa [getD_of hj1, getD_of hj2] at this
  · have d0 : ((n1 : Int) != (n2 : Int)) = true := by simp; omega
    have e : decide (ls = ks) = false := by
      rw [decide_eq_false_iff_not]; intro h; exact hlen (by rw [← l1, ← l2, h])
    rw [e]
    clear l1 l2 e hlen
    go_enter Tryd.func13, Tryd.ntmps13
    go_wp2
    go_ret
    exact ⟨rfl, Below.refl _ _⟩
end Go.Proofs.YtlnljgfppipceaaDoor.Bg
