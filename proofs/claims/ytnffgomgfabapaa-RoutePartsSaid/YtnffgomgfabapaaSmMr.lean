/- Walk: the reference's Recover. -/
import Derived.Test.YtnffgomgfabapaaSmK
namespace Go.Proofs.Ytnffgomgfabapaa.Sm
open Go.RowKit Mem
set_option linter.unusedVariables false

theorem RLow.next' {w W : World} {A : Option Addr} {m : Nat} {l : List Rg} (h : RLow w.heap.size w A m l) (hb : Below w.heap.size w W) : RLow W.heap.size W A m l := (h.below hb (Nat.le_refl _)).lift hb.size
noncomputable def recR (l : List Rg) (at_ off : Int) : Int := if recB l at_ off = true then recN l at_ off else -1
set_option maxHeartbeats 2000000 in
theorem rrecover_any (l : List Rg) (A : Option Addr) (m c : Nat) (at_ off : Int) (w : World) (hm : m ≤ 100) (hr : RLow w.heap.size w A m l) :
    Calls Try.prog 36 #[.slice A m c, .int .i64 at_, .int .i64 off] w fun e w' => e = .returned (.int .i64 (recR l at_ off)) ∧ Below w.heap.size w w' := by
  have HR := Lib.hid hr
  have HL := Lib.hid hr.1
  have CR := rright_any l A m c w hm hr
  obtain ⟨z, hz⟩ : ∃ z, z = recR l at_ off := ⟨_, rfl⟩
  rw [← hz]
  have HZ := Lib.hid hz
  have HNO : Hid (¬ recOk l at_ off → z = -1) := Lib.hid (fun h => by rw [hz, recR, recB_no h]; simp)
  clear hr hz
  go_enter Try.func36, Try.ntmps36
  go_wp2_with fail
  refine CR.mono ?_
  rintro e w1 ⟨rfl, hb1⟩
  have HB1 := Lib.hid hb1
  have HR1 := Lib.hid (HR.out.next' hb1)
  clear hb1 CR
  cases hrb : rightB l with
  | false =>
    have e : z = -1 := HNO.out (fun h => by rw [h.1] at hrb; cases hrb)
    clear HNO HZ
    subst e
    go_wp2
    go_ret
    exact ⟨rfl, HB1.out⟩
  | true =>
    have HRB := Lib.hid hrb
    by_cases h1 : at_ < 0
    · have e : z = -1 := HNO.out (fun ⟨_, k, _, h, _⟩ => by omega)
      clear HNO HZ
      subst e
      go_wp2
      go_ret
      exact ⟨rfl, HB1.out⟩
    · obtain ⟨k, rfl⟩ : ∃ k : Nat, at_ = k := ⟨at_.toNat, by omega⟩
      by_cases h2 : k < m
      · by_cases h3 : off < 0
        · have e : z = -1 := HNO.out (fun ⟨_, _, _, _, h, _⟩ => by omega)
          clear HNO HZ
          subst e
          go_wp2
          go_ret
          exact ⟨rfl, HB1.out⟩
        · have HOK : Hid (okTo l m) := Lib.hid (by rw [← HL.out]; exact right_of hrb)
          obtain ⟨b, off', rfl, hc⟩ := HR1.out.at_ (by omega)
          obtain ⟨c0, c1, c2⟩ := hc k h2
          have i1 : (0 : Int) ≤ (k : Int) := by omega
          have i2 : (k : Int) < (m : Int) := by omega
          clear hc
          by_cases h4 : off ≤ (rg l k).new
          · have e : z = (rg l k).at_ + sh l k + off := by
              have hk : recOk l (k : Int) off := ⟨HRB.out, k, by rw [HL.out]; exact h2, rfl, by omega, h4⟩
              rw [HZ.out, recR, if_pos (recB_yes hk), recN_yes hk]
            have hf := (HOK.out k h2).1
            have hs := far_sh (HOK.out.mono (by omega) : okTo l k) (by omega)
            have CS := fun q => rshift_any w1.heap.size l (some ⟨b, off', none⟩) m c k (w1.drewN q) HOK.out hm (by omega) (HR1.out.drewN q)
            unfold Rg.fits at hf
            unfold far at hs
            clear HNO HZ hrb
            generalize rg l k = r at *
            generalize sh l k = zk at *
            obtain ⟨a, o, n⟩ := r
            try simp only at c0 c1 c2 hf h4
            have h5 : decide (off > n) = false := decide_eq_false (by omega)
            simp only at e
            have HE := Lib.hid e
            clear e
            go_wp2_with fail
            go_quiet (first | (go_at_call 37; refine Calls.quiet_of (CS _)))
            go_wp2
            go_ret
            exact ⟨by rw [HE.out]; exact ret_int (by first | rfl | (rw [IntWalk.i64_in _ (by omega)]) | (unfold wrap64; omega)), below_drewN HB1.out _⟩
          · have e : z = -1 := HNO.out (fun ⟨_, j, _, h, _, h'⟩ => h4 (by
              have : j = k := by omega
              rw [this] at h'; exact h'))
            clear HNO HZ
            subst e
            generalize rg l k = r at *
            obtain ⟨a, o, n⟩ := r
            try simp only at c0 c1 c2 h4
            have h5 : decide (off > n) = true := decide_eq_true (by omega)
            go_wp2
            go_ret
            exact ⟨rfl, HB1.out⟩
      · have e : z = -1 := HNO.out (fun ⟨_, j, hj, h, _⟩ => by rw [HL.out] at hj; omega)
        have h2' : (k : Int) ≥ (m : Int) := by omega
        clear HNO HZ
        subst e
        go_wp2
        go_ret
        exact ⟨rfl, HB1.out⟩
end Go.Proofs.Ytnffgomgfabapaa.Sm
