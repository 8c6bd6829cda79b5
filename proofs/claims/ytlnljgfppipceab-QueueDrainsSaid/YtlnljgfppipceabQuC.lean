/- Walks of container/heap: down. -/
import Derived.Test.YtlnljgfppipceabQuB
namespace Go.Proofs.Ytlnljgfppipceab.Qu
open Go.RowKit Mem
set_option linter.unusedVariables false

theorem swap_far (l : List It) (i j c : Nat) (hi : i < l.length) (hj : j < l.length) (hci : c ≠ i) (hcj : c ≠ j) : at_ (swap l i j) c = at_ l c := by
  rw [swap_at l i j c hi hj, if_neg hcj, if_neg hci]
theorem not_lt_of {a b : It} (h : ltB a b = false) : ¬ lt a b := fun k => by rw [(ltB_iff a b).2 k] at h; cases h

set_option maxRecDepth 100000 in
set_option maxHeartbeats 4000000 in
theorem down_any {base : Nat} (qb : Nat) (v : Value) (puts : Int) (h : List It) (n : Nat) (w : World) (hq : QBox w qb v puts) (hl : Line base w v h) (hne : some qb ≠ v.ownBlock) (hd : DownInv n h 0) (hnl : n ≤ h.length) (hn : h.length ≤ 1000) :
    Calls Try.prog 22 #[.iface 51 (.pointer (some ⟨qb, 0, none⟩)), .int .i64 0, .int .i64 n] w fun e w' => (∃ u, e = .returned u) ∧
      ∃ h', Line base w' v h' ∧ h'.Perm h ∧ IsHeap n h' ∧ (∀ c, n ≤ c → at_ h' c = at_ h c) ∧ w.grownBy w' v.ownBlock := by
  have HQ := Lib.hid hq
  have HL := Lib.hid hl
  have HD := Lib.hid hd
  have HNE := Lib.hid hne
  clear hq hl hd hne
  go_enter Try.func22, Try.ntmps22
  go_wp2
  go_loopw [7] (fun i wr => ∃ (k : Nat) (h' : List It), i = .int .i64 k ∧ k ≤ n ∧ Hid (h'.length = h.length) ∧ Hid (DownInv n h' k) ∧ Hid (Line base wr v h') ∧ Hid (h'.Perm h) ∧ Hid (∀ c, n ≤ c → at_ h' c = at_ h c) ∧ Hid (w.grownBy wr v.ownBlock)) (fun i _ => n - (intOf i).toNat)
  case atStart => exact ⟨0, h, rfl, Nat.zero_le _, rfl, HD, HL, List.Perm.refl _, fun _ _ => rfl, World.grownBy.refl w _⟩
  case round =>
    obtain ⟨k, h', rfl, hk, hlen, hD, hL, hP, hF, hG⟩ := hrel
    have hn1000 : n ≤ 1000 := by omega
    have hl1000 : h'.length ≤ 1000 := by have := hlen.out; omega
    have hnl' : n ≤ h'.length := by have := hlen.out; omega
    have HQr := Lib.hid (HQ.out.kept hG.out HNE.out)
    have hc := HQr.out.c0
    obtain ⟨j1, hj1⟩ : ∃ j, j = 2 * k + 1 := ⟨_, rfl⟩
    have e1 : 2 * (k : Int) + 1 = (j1 : Int) := by omega
    have HJ1 := Lib.hid hj1
    have hj1k : k < j1 := by omega
    clear hj1
    by_cases ha : j1 < n
    · obtain ⟨j2, hj2⟩ : ∃ j, j = j1 + 1 := ⟨_, rfl⟩
      have e2 : (j1 : Int) + 1 = (j2 : Int) := by omega
      have HJ2 := Lib.hid hj2
      have hj12 : j1 < j2 := by omega
      have hj21 : j2 ≤ j1 + 1 := by omega
      clear hj2
      by_cases hb : j2 < n
      · have ml := m_less qb v wr hc
        obtain ⟨b, hbb⟩ : ∃ b, b = ltB (at_ h' j2) (at_ h' j1) := ⟨_, rfl⟩
        have HBB := Lib.hid hbb
        clear hbb
        cases b
        · go_wp2_with fail
          (with_reducible refine (less_any j2 j1 _ hL.out (by omega) (by omega) hl1000).mono ?_)
          rw [← HBB.out]
          rintro e w1 ⟨rfl, m1, rfl⟩
          have ml2 := m_less qb v (wr.drewN m1) hc
          obtain ⟨b2, hb2⟩ : ∃ b, b = ltB (at_ h' j1) (at_ h' k) := ⟨_, rfl⟩
          have HB2 := Lib.hid hb2
          have HMIN : Hid (∀ c, 0 < c → c < n → (c - 1) / 2 = k → le (at_ h' j1) (at_ h' c)) := by
            intro c hc0 hcn hcp
            have q1 := HJ1.out
            have q2 := HJ2.out
            rcases (show c = j1 ∨ c = j2 by omega) with rfl | rfl
            · exact le_refl _
            · exact le_of_not (not_lt_of HBB.out.symm)
          clear hb2
          cases b2
          · go_wp2_with fail
            (with_reducible refine (less_any j1 k _ (hL.out.drewN m1) (by omega) (by omega) hl1000).mono ?_)
            rw [← HB2.out]
            rintro e w2 ⟨rfl, m2, rfl⟩
            go_wp2
            go_ret
            exact ⟨⟨_, rfl⟩, h', (hL.out.drewN (m1 + m2)), hP.out, down_stop hD.out (fun c hc0 hcn hcp => le_trans (le_of_not (not_lt_of HB2.out.symm)) (HMIN.out c hc0 hcn hcp)), hF.out, (only_drewN hG.out (m1 + m2))⟩
          · go_wp2_with fail
            (with_reducible refine (less_any j1 k _ (hL.out.drewN m1) (by omega) (by omega) hl1000).mono ?_)
            rw [← HB2.out]
            rintro e w2 ⟨rfl, m2, rfl⟩
            have ms := m_swap qb v (wr.drewN (m1 + m2)) hc
            go_wp2_with fail
            (with_reducible refine (swap_any k j1 _ (hL.out.drewN (m1 + m2)) (by omega) (by omega) hl1000).mono ?_)
            rintro e w3 ⟨⟨u, rfl⟩, hl3, hg3⟩
            have HL3 := Lib.hid hl3
            have HG3 := Lib.hid (only_trans (only_drewN hG.out (m1 + m2)) hg3 (fun _ _ e => e))
            clear hl3 hg3
            go_wp2
            go_roundw
            case rel =>
              refine ⟨j1, swap h' k j1, rfl, by omega, by show _ = _; rw [swap_length]; exact hlen.out, ?_, HL3, (swap_perm h' k j1 (by omega) (by omega)).trans hP.out, ?_, HG3⟩
              · exact down_step hD.out hnl' (by have := HJ1.out; omega) (by omega) (by omega) HMIN.out ((ltB_iff _ _).1 HB2.out.symm)
              · intro c hcn
                rw [swap_far h' k j1 c (by omega) (by omega) (by omega) (by omega)]
                exact hF.out c hcn
            case measure => simp [intOf]; omega
        · go_wp2_with fail
          (with_reducible refine (less_any j2 j1 _ hL.out (by omega) (by omega) hl1000).mono ?_)
          rw [← HBB.out]
          rintro e w1 ⟨rfl, m1, rfl⟩
          have ml2 := m_less qb v (wr.drewN m1) hc
          obtain ⟨b2, hb2⟩ : ∃ b, b = ltB (at_ h' j2) (at_ h' k) := ⟨_, rfl⟩
          have HB2 := Lib.hid hb2
          have HMIN : Hid (∀ c, 0 < c → c < n → (c - 1) / 2 = k → le (at_ h' j2) (at_ h' c)) := by
            intro c hc0 hcn hcp
            have q1 := HJ1.out
            have q2 := HJ2.out
            rcases (show c = j1 ∨ c = j2 by omega) with rfl | rfl
            · exact le_of_lt ((ltB_iff _ _).1 HBB.out.symm)
            · exact le_refl _
          clear hb2
          cases b2
          · go_wp2_with fail
            (with_reducible refine (less_any j2 k _ (hL.out.drewN m1) (by omega) (by omega) hl1000).mono ?_)
            rw [← HB2.out]
            rintro e w2 ⟨rfl, m2, rfl⟩
            go_wp2
            go_ret
            exact ⟨⟨_, rfl⟩, h', (hL.out.drewN (m1 + m2)), hP.out, down_stop hD.out (fun c hc0 hcn hcp => le_trans (le_of_not (not_lt_of HB2.out.symm)) (HMIN.out c hc0 hcn hcp)), hF.out, (only_drewN hG.out (m1 + m2))⟩
          · go_wp2_with fail
            (with_reducible refine (less_any j2 k _ (hL.out.drewN m1) (by omega) (by omega) hl1000).mono ?_)
            rw [← HB2.out]
            rintro e w2 ⟨rfl, m2, rfl⟩
            have ms := m_swap qb v (wr.drewN (m1 + m2)) hc
            go_wp2_with fail
            (with_reducible refine (swap_any k j2 _ (hL.out.drewN (m1 + m2)) (by omega) (by omega) hl1000).mono ?_)
            rintro e w3 ⟨⟨u, rfl⟩, hl3, hg3⟩
            have HL3 := Lib.hid hl3
            have HG3 := Lib.hid (only_trans (only_drewN hG.out (m1 + m2)) hg3 (fun _ _ e => e))
            clear hl3 hg3
            go_wp2
            go_roundw
            case rel =>
              refine ⟨j2, swap h' k j2, rfl, by omega, by show _ = _; rw [swap_length]; exact hlen.out, ?_, HL3, (swap_perm h' k j2 (by omega) (by omega)).trans hP.out, ?_, HG3⟩
              · exact down_step hD.out hnl' (by have := HJ1.out; have := HJ2.out; omega) (by omega) (by omega) HMIN.out ((ltB_iff _ _).1 HB2.out.symm)
              · intro c hcn
                rw [swap_far h' k j2 c (by omega) (by omega) (by omega) (by omega)]
                exact hF.out c hcn
            case measure => simp [intOf]; omega
      · have ml2 := m_less qb v wr hc
        obtain ⟨b2, hb2⟩ : ∃ b, b = ltB (at_ h' j1) (at_ h' k) := ⟨_, rfl⟩
        have HB2 := Lib.hid hb2
        have HMIN : Hid (∀ c, 0 < c → c < n → (c - 1) / 2 = k → le (at_ h' j1) (at_ h' c)) := by
          intro c hc0 hcn hcp
          have q1 := HJ1.out
          have q2 := HJ2.out
          obtain rfl : c = j1 := by omega
          exact le_refl _
        clear hb2
        cases b2
        · go_wp2_with fail
          (with_reducible refine (less_any j1 k _ hL.out (by omega) (by omega) hl1000).mono ?_)
          rw [← HB2.out]
          rintro e w2 ⟨rfl, m2, rfl⟩
          go_wp2
          go_ret
          exact ⟨⟨_, rfl⟩, h', (hL.out.drewN m2), hP.out, down_stop hD.out (fun c hc0 hcn hcp => le_trans (le_of_not (not_lt_of HB2.out.symm)) (HMIN.out c hc0 hcn hcp)), hF.out, (only_drewN hG.out m2)⟩
        · go_wp2_with fail
          (with_reducible refine (less_any j1 k _ hL.out (by omega) (by omega) hl1000).mono ?_)
          rw [← HB2.out]
          rintro e w2 ⟨rfl, m2, rfl⟩
          have ms := m_swap qb v (wr.drewN m2) hc
          go_wp2_with fail
          (with_reducible refine (swap_any k j1 _ (hL.out.drewN m2) (by omega) (by omega) hl1000).mono ?_)
          rintro e w3 ⟨⟨u, rfl⟩, hl3, hg3⟩
          have HL3 := Lib.hid hl3
          have HG3 := Lib.hid (only_trans (only_drewN hG.out m2) hg3 (fun _ _ e => e))
          clear hl3 hg3
          go_wp2
          go_roundw
          case rel =>
            refine ⟨j1, swap h' k j1, rfl, by omega, by show _ = _; rw [swap_length]; exact hlen.out, ?_, HL3, (swap_perm h' k j1 (by omega) (by omega)).trans hP.out, ?_, HG3⟩
            · exact down_step hD.out hnl' (by have := HJ1.out; omega) (by omega) (by omega) HMIN.out ((ltB_iff _ _).1 HB2.out.symm)
            · intro c hcn
              rw [swap_far h' k j1 c (by omega) (by omega) (by omega) (by omega)]
              exact hF.out c hcn
          case measure => simp [intOf]; omega
    · go_wp2
      go_ret
      exact ⟨⟨_, rfl⟩, h', hL.out, hP.out, down_stop hD.out (fun c hc0 hcn hcp => by have := HJ1.out; omega), hF.out, hG.out⟩
end Go.Proofs.Ytlnljgfppipceab.Qu
