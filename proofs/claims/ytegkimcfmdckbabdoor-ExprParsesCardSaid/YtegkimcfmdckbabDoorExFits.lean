/- Walks of the expressions' Right: is a part as its kind must be (fits)? -/
import Derived.Test.YtegkimcfmdckbabDoorExLexed
namespace Go.Proofs.YtegkimcfmdckbabDoor.Ex
open Go.RowKit Mem Lx
set_option linter.unusedVariables false

def fitsI (p : PI) : Bool :=
  if p.kind = 1 then p.kids.length == 0 && lexedI ⟨1, 0, p.low, p.high, p.name⟩
  else if p.kind = 2 ∨ p.kind = 3 then decide (2 ≤ p.kids.length) && decide ((⟨0, 0, p.low, p.high, p.name⟩ : Sg) = ⟨0, 0, 0, 0, []⟩)
  else if p.kind = 4 then p.kids.length == 1 && lexedI ⟨5, 0, p.low, p.high, p.name⟩
  else false
/-- numbers that a machine has, names that are not long -/
def Small (p : PI) : Prop := (I64 p.low ∧ I64 p.high) ∧ p.name.length ≤ 100
set_option maxRecDepth 100000 in
set_option maxHeartbeats 8000000 in
theorem fits_any (p : PI) (A : Option Addr) (c : Nat) (w : World) (H : Held w) (hs : Small p) (hk : p.kids.length ≤ 1000000) :
    Calls Tryd.prog 28 #[.agg #[.int .i64 p.kind, .int .i64 p.low, .int .i64 p.high, .string ⟨p.name.toArray⟩, .slice A p.kids.length c]] w fun en w' => en = .returned (.bool (fitsI p)) ∧ Below w.heap.size w w' := by
  obtain ⟨kd, lo, hi, nm, ks⟩ := p
  obtain ⟨R, hR⟩ : ∃ R, R = fitsI ⟨kd, lo, hi, nm, ks⟩ := ⟨_, rfl⟩
  rw [← hR]
  unfold fitsI at hR
  dsimp only at hR hk hs ⊢
  have HL := hide (fun (k : Int) W (HW : Held W) => lexed_any ⟨k, 0, lo, hi, nm⟩ W HW hs (Nat.le_trans (show1_len hs.1 hs.2) (by omega)))
  have HQ : Hid (∀ (W : World), (Op.equalIn 10000 58 (.agg #[.int .i64 0, .int .i64 0, .int .i64 lo, .int .i64 hi, .string ⟨nm.toArray⟩]) (.agg #[.int .i64 0, .int .i64 0, .int .i64 0, .int .i64 0, .string ⟨#[]⟩])).run Tryd.prog W = .ok (decide ((⟨0, 0, lo, hi, nm⟩ : Sg) = ⟨0, 0, 0, 0, []⟩)) W) := fun W => eq_sg 9998 ⟨0, 0, lo, hi, nm⟩ ⟨0, 0, 0, 0, []⟩ W
  have HH := hide H
  obtain ⟨n, hn⟩ : ∃ n, n = ks.length := ⟨_, rfl⟩
  rw [← hn] at hR hk ⊢
  clear H hs hn
  have HW2 : Hid (∀ (a b : Obj), Below w.heap.size w ((w.alloc a).alloc b)) := fun a b => ((Below.refl _ _).alloc (Nat.le_refl _) _).alloc (by simp) _
  by_cases k1 : kd = 1
  · subst k1
    by_cases n0 : n = 0
    · subst n0
      have HR : Hid (R = lexedI ⟨1, 0, lo, hi, nm⟩) := by show _ = _; rw [hR]; simp
      clear hR
      go_enter Tryd.func28, Tryd.ntmps28
      go_wp2_with (go_at_call 49; (with_reducible refine (HL.out 1 _ (HH.out.below (HW2.out (.cells #[.int .i64 1, .int .i64 lo, .int .i64 hi, .string ⟨nm.toArray⟩, .slice A 0 c] 46) (.cells #[.int .i64 1, .int .i64 0, .int .i64 lo, .int .i64 hi, .string ⟨nm.toArray⟩] 58)))).mono ?_); rintro en w1 ⟨rfl, hb1⟩; have HB1 : Hid (Below w.heap.size w w1) := (HW2.out _ _).trans (hb1.mono (HW2.out _ _).size); clear hb1)
      go_ret
      exact ⟨by rw [HR.out]; rfl, HB1.out⟩
    · have HR : Hid (R = false) := by show _ = _; rw [hR]; simp [n0]
      have t1 : ((n : Int) == 0) = false := by simp; omega
      have t2 : (n == 0) = false := by simpa using n0
      clear hR n0
      go_enter Tryd.func28, Tryd.ntmps28
      go_wp2_with fail
      go_ret
      exact ⟨by rw [HR.out]; rfl, HW2.out _ _⟩
  · have a1 : (kd == 1) = false := by simpa using k1
    by_cases k4 : kd = 4
    · subst k4
      by_cases n1 : n = 1
      · subst n1
        have HR : Hid (R = lexedI ⟨5, 0, lo, hi, nm⟩) := by show _ = _; rw [hR]; simp
        clear hR k1 a1
        go_enter Tryd.func28, Tryd.ntmps28
        go_wp2_with (go_at_call 49; (with_reducible refine (HL.out 5 _ (HH.out.below (HW2.out (.cells #[.int .i64 4, .int .i64 lo, .int .i64 hi, .string ⟨nm.toArray⟩, .slice A 1 c] 46) (.cells #[.int .i64 5, .int .i64 0, .int .i64 lo, .int .i64 hi, .string ⟨nm.toArray⟩] 58)))).mono ?_); rintro en w1 ⟨rfl, hb1⟩; have HB1 : Hid (Below w.heap.size w w1) := (HW2.out _ _).trans (hb1.mono (HW2.out _ _).size); clear hb1)
        go_ret
        exact ⟨by rw [HR.out]; rfl, HB1.out⟩
      · have HR : Hid (R = false) := by show _ = _; rw [hR]; simp [n1]
        have t1 : ((n : Int) == 1) = false := by simp; omega
        have t2 : (n == 1) = false := by simpa using n1
        clear hR n1 k1 a1
        go_enter Tryd.func28, Tryd.ntmps28
        go_wp2_with fail
        go_ret
        exact ⟨by rw [HR.out]; rfl, HW2.out _ _⟩
    · have a4 : (kd == 4) = false := by simpa using k4
      by_cases k23 : kd = 2 ∨ kd = 3
      · have key : ∀ kd : Int, kd = 2 ∨ kd = 3 → True := fun _ _ => trivial
        by_cases n2 : 2 ≤ n
        · have HR : Hid (R = decide ((⟨0, 0, lo, hi, nm⟩ : Sg) = ⟨0, 0, 0, 0, []⟩)) := by show _ = _; rw [hR, if_neg k1, if_pos k23]; simp [n2]
          have t1 : decide ((2 : Int) ≤ (n : Int)) = true := by simp; omega
          have t2 : decide (2 ≤ n) = true := by simpa using n2
          generalize decide ((⟨0, 0, lo, hi, nm⟩ : Sg) = ⟨0, 0, 0, 0, []⟩) = Q at HQ HR
          have HQ2 := HQ.out
          clear hR n2 k1 k4
          rcases k23 with rfl | rfl
          · go_enter Tryd.func28, Tryd.ntmps28
            go_wp2_with fail
            go_ret
            exact ⟨by rw [HR.out]; rfl, HW2.out _ _⟩
          · go_enter Tryd.func28, Tryd.ntmps28
            go_wp2_with fail
            go_ret
            exact ⟨by rw [HR.out]; rfl, HW2.out _ _⟩
        · have HR : Hid (R = false) := by show _ = _; rw [hR, if_neg k1, if_pos k23]; simp [n2]
          have t1 : decide ((2 : Int) ≤ (n : Int)) = false := by simp; omega
          have t2 : decide (2 ≤ n) = false := by simpa using n2
          clear hR n2 k1 k4
          rcases k23 with rfl | rfl
          · go_enter Tryd.func28, Tryd.ntmps28
            go_wp2_with fail
            go_ret
            exact ⟨by rw [HR.out]; rfl, HW2.out _ _⟩
          · go_enter Tryd.func28, Tryd.ntmps28
            go_wp2_with fail
            go_ret
            exact ⟨by rw [HR.out]; rfl, HW2.out _ _⟩
      · have HR : Hid (R = false) := by show _ = _; rw [hR, if_neg k1, if_neg k23, if_neg k4]
        have a2 : (kd == 2) = false := by simp; omega
        have a3 : (kd == 3) = false := by simp; omega
        clear hR k1 k4 k23
        go_enter Tryd.func28, Tryd.ntmps28
        go_wp2_with fail
        go_ret
        exact ⟨by rw [HR.out]; rfl, HW2.out _ _⟩
end Go.Proofs.YtegkimcfmdckbabDoor.Ex
