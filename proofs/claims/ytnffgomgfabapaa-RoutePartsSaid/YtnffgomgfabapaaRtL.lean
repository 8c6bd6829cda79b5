/- Walks of route: Position, Len; live. -/
import Derived.Test.YtnffgomgfabapaaRtK
import Derived.Test.YtnffgomgfabapaaRtLw
namespace Go.Proofs.Ytnffgomgfabapaa.Rt
open Go.RowKit Mem Sm
set_option linter.unusedVariables false

set_option maxHeartbeats 1000000 in
theorem rtpos_any (base p : Nat) (v mp : Value) (vs : List Value) (M : List (List Rg)) (mir : List (Int × Int)) (pos side : Int) (w : World) (hM : M.length ≤ 1000) (hm : ∀ m ∈ M, m.length ≤ 100 ∧ rightB m = true) (hmir : ∀ x ∈ mir, 0 ≤ x.2 ∧ x.2 < M.length)
    (h : RtAt base w p v mp vs M mir) :
    Calls Try.prog 12 #[.pointer (some ⟨p, 0, none⟩), .int .i64 pos, .int .i64 side] w fun e w' => e = .returned (.int .i64 (endP (goR M mir side 0 ⟨pos, false, false⟩)).pos) ∧ Below w.heap.size w w' := by
  have CT := rttell_any base p v mp vs M mir pos side w hM hm hmir h
  generalize goR M mir side 0 ⟨pos, false, false⟩ = R at CT ⊢
  generalize endE R = E at CT
  generalize endP R = Q at CT ⊢
  obtain ⟨qp, qg, qi, qr, qo⟩ := Q
  unfold plV at CT
  simp only at CT ⊢
  clear h hm hmir
  go_enter Try.func12, Try.ntmps12
  go_wp2_with fail
  refine CT.mono ?_
  rintro e W1 ⟨rfl, hb⟩
  have HB := Lib.hid (hb.alloc hb.size (.cells #[.int .i64 qp, .bool qg, .bool qi, .int .i64 qr, .int .i64 qo] 27))
  clear hb CT
  go_wp2
  go_ret
  exact ⟨rfl, HB.out⟩
def exA : List Rg := [⟨5, 2, 0⟩]
def exB : List Rg := [⟨5, 0, 2⟩]
theorem one_right {r : Rg} (h : r.fits) : rightB [r] = true := rightB_true (by
  intro i hi
  obtain rfl : i = 0 := by simpa using hi
  exact ⟨h, fun h => absurd h (by omega)⟩)
theorem exA_right : rightB exA = true := one_right (by unfold Rg.fits; simp)
theorem exB_right : rightB exB = true := one_right (by unfold Rg.fits; simp)
theorem ex_one : ∀ m ∈ [exA], m.length ≤ 100 ∧ rightB m = true := by
  intro m hm
  obtain rfl : m = exA := by simpa using hm
  exact ⟨by decide, exA_right⟩
theorem ex_two : ∀ m ∈ [exA, exB], m.length ≤ 100 ∧ rightB m = true := by
  intro m hm
  obtain rfl | rfl : m = exA ∨ m = exB := by simpa using hm
  · exact ⟨by decide, exA_right⟩
  · exact ⟨by decide, exB_right⟩
theorem exA_E : tellE exA 6 = 0 := by unfold tellE; rw [if_pos exA_right, if_pos (by decide)]
theorem exA_W : tellW exA 6 1 = tell exA 6 1 := by unfold tellW; rw [if_pos ⟨exA_right, by decide⟩]
theorem exA_gone : (tell exA 6 1).gone = true := by decide
theorem exA_pos : (tell exA 6 1).pos = 5 := by decide
theorem goR_exA : goR [exA] [] 1 0 ⟨6, false, false⟩ = some ⟨5, true, (tell exA 6 1).inside⟩ := by
  rw [goR_yes (by simp)]
  have h0 : recR [exA] [] ((0 : Nat) : Int) (tell exA 6 1) = (0, 0, false) := by unfold recR; simp [lk]
  simp only [show [exA].getD 0 [] = exA by rfl, exA_E, exA_W, h0, if_true]
  rw [if_neg (by simp), goR_no (by simp), exA_gone, exA_pos]
  simp
theorem goR_exB : goR [exA, exB] [(0, 1), (1, 0)] 1 0 ⟨6, false, false⟩ = some ⟨6, false, false⟩ := by
  rw [goR_yes (by simp)]
  have hl : lk [((0 : Int), (1 : Int)), (1, 0)] ((0 : Nat) : Int) = some 1 := by simp [lk]
  have hr : (tell exA 6 1).rng = ((0 : Nat) : Int) := by decide
  have ho : (tell exA 6 1).off = 1 := by decide
  have hk : recOk exB ((0 : Nat) : Int) 1 := ⟨exB_right, 0, by decide, by decide, by decide, by decide⟩
  have h0 : recR [exA, exB] [(0, 1), (1, 0)] ((0 : Nat) : Int) (tell exA 6 1) = (6, 1, true) := by
    unfold recR
    rw [hl]
    simp only [exA_gone]
    rw [if_pos (by simp), show [exA, exB].getD (1 : Int).toNat [] = exB by rfl, hr, ho, recN_yes hk, recB_yes hk]
    rfl
  simp only [show [exA, exB].getD 0 [] = exA by rfl, exA_E, exA_W, h0, if_true]
  rw [goR_no (by simp)]
theorem rrow_next (W : World) (r : Rg) : SlAt (W.alloc (.cells #[.int .i64 r.at_, .int .i64 r.old, .int .i64 r.new] 56)) (.slice (some ⟨W.heap.size, 0, none⟩) 1 1) [r] :=
  ⟨_, _, rfl, rrow_one W r, fun _ => ⟨_, 0, _, _, rfl, heap_alloc_new W _⟩⟩
set_option maxHeartbeats 4000000 in
theorem live_any (w : World) : Calls Try.prog 16 #[] w fun e w' => e = .returned (.bool true) ∧ Below w.heap.size w w' := by
  obtain ⟨w1, hw1⟩ : ∃ x, x = w.alloc (.cells #[.slice none 0 0, .map none] 60) := ⟨_, rfl⟩
  have HT1 := Lib.hid (RtAt.new w)
  have HB1 := Lib.hid ((Below.refl _ w).alloc (Nat.le_refl _) (.cells #[.slice none 0 0, .map none] 60))
  rw [← hw1] at HT1 HB1
  have HS2 := Lib.hid (rrow_next w1 ⟨5, 2, 0⟩)
  have hb2 : Below w1.heap.size w1 (w1.alloc (.cells #[.int .i64 5, .int .i64 2, .int .i64 0] 56)) := (Below.refl _ _).alloc (Nat.le_refl _) _
  have HT2 := Lib.hid (HT1.out.step hb2)
  have HB2 := Lib.hid (HB1.out.trans (hb2.mono HB1.out.size))
  clear hb2
  have CA := add_any w.heap.size w.heap.size _ _ _ _ _ exA (some ⟨w1.heap.size, 0, none⟩) 1 1 (w1.alloc (.cells #[.int .i64 5, .int .i64 2, .int .i64 0] 56)) (by simp) (by omega) HT2.out (row_of HS2.out)
  have hsz : w1.heap.size = w.heap.size + 1 := by rw [hw1]; simp
  rw [hsz] at CA
  clear hsz
  go_enter Try.func16, Try.ntmps16
  go_wp2_with (rw [← hw1])
  refine CA.mono ?_
  rintro e W3 ⟨⟨hr, rfl, v3, vs3, h3⟩ | ⟨hr, _⟩, hf3⟩
  case inr => rw [exA_right] at hr; cases hr
  have HT3 := Lib.hid h3
  have HB3 := Lib.hid (HB2.out.trans hf3.below)
  clear hr h3 hf3 CA HT2 HS2 HB2 HT1 HB1 hw1
  rw [List.nil_append] at HT3
  have CP := rtpos_any w.heap.size w.heap.size v3 _ vs3 [exA] [] 6 1 W3 (by simp) ex_one (by simp) HT3.out
  rw [goR_exA] at CP
  go_wp2_with fail
  refine CP.mono ?_
  rintro e W4 ⟨rfl, hb4⟩
  have HT4 := Lib.hid (HT3.out.step hb4)
  have HB4 := Lib.hid (HB3.out.trans (hb4.mono HB3.out.size))
  clear CP HT3 HB3 hb4
  have HS5 := Lib.hid (rrow_next W4 ⟨5, 0, 2⟩)
  have hb5 : Below W4.heap.size W4 (W4.alloc (.cells #[.int .i64 5, .int .i64 0, .int .i64 2] 56)) := (Below.refl _ _).alloc (Nat.le_refl _) _
  have HT5 := Lib.hid (HT4.out.step hb5)
  have HB5 := Lib.hid (HB4.out.trans (hb5.mono HB4.out.size))
  have CM := mirror_any w.heap.size w.heap.size _ _ _ _ _ exB 0 (some ⟨W4.heap.size, 0, none⟩) 1 1 _ (by simp) (by omega) (by intro x hx; simp at hx) HT5.out (fun W' hf => row_of (HS5.out.after HT5.out hf))
  clear hb5 HT4 HB4
  go_wp2_with fail
  refine CM.mono ?_
  rintro e W6 ⟨⟨hr, _, rfl, v6, mp6, vs6, h6⟩ | ⟨hr, hno, _⟩ | ⟨hr, _⟩, hf6⟩
  case inr.inl => exact absurd ⟨rfl, by omega, by simp⟩ hno
  case inr.inr => rw [exB_right] at hr; cases hr
  have HT6 := Lib.hid h6
  have HB6 := Lib.hid (HB5.out.trans hf6.below)
  clear hr h6 hf6 CM HT5 HS5 HB5
  have CP := rtpos_any w.heap.size w.heap.size v6 mp6 vs6 [exA, exB] [(0, 1), (1, 0)] 6 1 W6 (by simp) ex_two (by simp) HT6.out
  rw [goR_exB] at CP
  go_wp2_with fail
  refine CP.mono ?_
  rintro e W7 ⟨rfl, hb7⟩
  have HT7 := Lib.hid (HT6.out.step hb7)
  have HB7 := Lib.hid (HB6.out.trans (hb7.mono HB6.out.size))
  clear CP hb7 HT6 HB6
  have CL := len_any w.heap.size w.heap.size v6 mp6 vs6 [exA, exB] [(0, 1), (1, 0)] W7 HT7.out
  go_wp2_with fail
  refine CL.mono ?_
  rintro e W8 ⟨rfl, hb8⟩
  have HB8 := Lib.hid (HB7.out.trans (hb8.mono HB7.out.size))
  clear CL HB7 HT7 hb8
  go_wp2
  go_ret
  exact ⟨rfl, HB8.out⟩
end Go.Proofs.Ytnffgomgfabapaa.Rt
