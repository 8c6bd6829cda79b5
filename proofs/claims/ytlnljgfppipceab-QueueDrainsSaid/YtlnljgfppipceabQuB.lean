/- Walks of container/heap: up. -/
import Derived.Test.YtlnljgfppipceabQuMeth
import Derived.LoopTactic
namespace Go.Proofs.Ytlnljgfppipceab.Qu
open Go.RowKit Mem
set_option linter.unusedVariables false

set_option maxRecDepth 100000 in
set_option maxHeartbeats 2000000 in
theorem up_any {base : Nat} (qb : Nat) (v : Value) (puts : Int) (h : List It) (j : Nat) (w : World) (hq : QBox w qb v puts) (hl : Line base w v h) (hne : some qb ≠ v.ownBlock) (hu : UpInv h j) (hj : j < h.length) (hn : h.length ≤ 1000) :
    Calls Try.prog 21 #[.iface 51 (.pointer (some ⟨qb, 0, none⟩)), .int .i64 j] w fun e w' => (∃ u, e = .returned u) ∧
      ∃ h', Line base w' v h' ∧ h'.Perm h ∧ IsHeap h'.length h' ∧ w.grownBy w' v.ownBlock := by
  have HQ := Lib.hid hq
  have HL := Lib.hid hl
  have HU := Lib.hid hu
  have HNE := Lib.hid hne
  clear hq hl hu hne
  go_enter Try.func21, Try.ntmps21
  go_wp2
  go_loopw [1] (fun i wr => ∃ (k : Nat) (h' : List It), i = .int .i64 k ∧ k < h'.length ∧ Hid (h'.length = h.length) ∧ Hid (UpInv h' k) ∧ Hid (Line base wr v h') ∧ Hid (h'.Perm h) ∧ Hid (w.grownBy wr v.ownBlock)) (fun i _ => (intOf i).toNat)
  case atStart => exact ⟨j, h, rfl, hj, rfl, HU, HL, List.Perm.refl _, World.grownBy.refl w _⟩
  case round =>
    obtain ⟨k, h', rfl, hk, hlen, hU, hL, hP, hG⟩ := hrel
    have hk1000 : k < 1000 := by have := hlen.out; omega
    have hl1000 : h'.length ≤ 1000 := by have := hlen.out; omega
    have HQr := Lib.hid (HQ.out.kept hG.out HNE.out)
    have hc := HQr.out.c0
    have ml := m_less qb v wr hc
    by_cases h0 : k = 0
    · subst h0
      go_wp2
      go_end0
      exact ⟨⟨_, rfl⟩, h', hL.out, hP.out, up_stop hU.out (.inl rfl), hG.out⟩
    · obtain ⟨p, hp⟩ : ∃ p, p = (k - 1) / 2 := ⟨_, rfl⟩
      have hpk : p < k := by omega
      have hpi : ((k : Int) - 1) / 2 = (p : Int) := by omega
      have HP := Lib.hid hp
      have d : ((p : Int) == (k : Int)) = false := by simp; omega
      clear hp
      by_cases hlt : lt (at_ h' k) (at_ h' p)
      · have HB := Lib.hid ((ltB_iff _ _).2 hlt)
        have HLT := Lib.hid hlt
        clear hlt
        go_wp2_with (first
          | (go_at_call 40; refine (less_any k p _ hL.out hk (by omega) hl1000).mono ?_; rw [HB.out]; rintro e w1 ⟨rfl, m, rfl⟩; have ms := m_swap qb v (wr.drewN m) hc)
          | (go_at_call 41; refine (swap_any p k _ (hL.out.drewN _) (by omega) hk hl1000).mono ?_; rintro e w2 ⟨⟨u, rfl⟩, hl2, hg2⟩; have HL2 := Lib.hid hl2; have HG2 := Lib.hid (only_trans (only_drewN hG.out m) hg2 (fun _ _ e => e)); clear hl2 hg2))
        go_roundw
        case rel =>
          refine ⟨p, swap h' p k, rfl, by rw [swap_length]; omega, by show _ = _; rw [swap_length]; exact hlen.out, ?_, HL2, (swap_perm h' p k (by omega) hk).trans hP.out, HG2⟩
          have := up_step hU.out (by omega) hk (HP.out ▸ HLT.out)
          rw [← HP.out] at this
          exact this
        case measure => simp [intOf]; omega
      · have hB : ltB (at_ h' k) (at_ h' p) = false := by
          cases e : ltB (at_ h' k) (at_ h' p) with
          | false => rfl
          | true => exact absurd ((ltB_iff _ _).1 e) hlt
        have HB := Lib.hid hB
        have HLT := Lib.hid hlt
        clear hlt hB
        go_wp2_with (go_at_call 40; refine (less_any k p _ hL.out hk (by omega) hl1000).mono ?_; rw [HB.out]; rintro e w1 ⟨rfl, m, rfl⟩)
        go_end0
        exact ⟨⟨_, rfl⟩, h', hL.out.drewN _, hP.out, up_stop hU.out (.inr (by rw [← HP.out]; exact HLT.out)), only_drewN hG.out m⟩
end Go.Proofs.Ytlnljgfppipceab.Qu
