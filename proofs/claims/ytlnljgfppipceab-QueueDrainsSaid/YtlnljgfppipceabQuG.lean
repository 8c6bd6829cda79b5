/- Walks of queue: Put, Len, Peek, Take. -/
import Derived.Test.YtlnljgfppipceabQuF
namespace Go.Proofs.Ytlnljgfppipceab.Qu
open Go.RowKit Mem
set_option linter.unusedVariables false

theorem put_nil (k t : Int) (w : World) : Calls Try.prog 5 #[.pointer none, .int .i64 k, .int .i64 t] w fun e w' => (∃ u, e = .returned u) ∧ w = w' := by
  go_enter Try.func5, Try.ntmps5
  go_wp2
  refine bodyPost_ret (results_none rfl _ _ _) rfl ?_
  exact ⟨⟨_, rfl⟩, rfl⟩
theorem len_nil (w : World) : Calls Try.prog 8 #[.pointer none] w fun e w' => e = .returned (.int .i64 0) ∧ w = w' := by
  go_enter Try.func8, Try.ntmps8
  go_wp2
  go_ret
  exact ⟨rfl, rfl⟩
theorem peek_nil (w : World) : Calls Try.prog 7 #[.pointer none] w fun e w' => e = .returned (.tuple #[.int .i64 0, .int .i64 0, .bool false]) ∧ w = w' := by
  go_enter Try.func7, Try.ntmps7
  go_wp2_with (go_at_call 8; refine (len_nil _).mono ?_; rintro e w' ⟨rfl, rfl⟩)
  go_ret3
  exact ⟨rfl, rfl⟩
theorem take_nil (w : World) : Calls Try.prog 6 #[.pointer none] w fun e w' => e = .returned (.tuple #[.int .i64 0, .int .i64 0, .bool false]) ∧ w = w' := by
  go_enter Try.func6, Try.ntmps6
  go_wp2_with (go_at_call 7; refine (peek_nil _).mono ?_; rintro e w' ⟨rfl, rfl⟩)
  go_ret3
  exact ⟨rfl, rfl⟩

theorem qlen_any {base : Nat} (qb : Nat) (h : List It) (puts : Nat) (w : World) (hq : Q base w qb h puts) :
    Calls Try.prog 8 #[.pointer (some ⟨qb, 0, none⟩)] w fun e w' => e = .returned (.int .i64 h.length) ∧ w = w' := by
  obtain ⟨v, hqb, hl, _⟩ := hq
  have hc := hqb.c0
  clear hqb
  rcases hl.2 with ⟨hv, h0⟩ | ⟨g, cap, cur, hv, _⟩
  · subst hv
    rw [h0]
    clear hl h0
    go_enter Try.func8, Try.ntmps8
    go_wp2
    go_ret
    exact ⟨rfl, rfl⟩
  · subst hv
    obtain ⟨n, hn⟩ : ∃ n, n = h.length := ⟨_, rfl⟩
    rw [← hn] at hc ⊢
    clear hl hn
    go_enter Try.func8, Try.ntmps8
    go_wp2
    go_ret
    exact ⟨rfl, rfl⟩

set_option maxRecDepth 100000 in
set_option maxHeartbeats 1000000 in
theorem peek_none {base : Nat} (qb : Nat) (puts : Nat) (w : World) (hq : Q base w qb [] puts) :
    Calls Try.prog 7 #[.pointer (some ⟨qb, 0, none⟩)] w fun e w' => e = .returned (.tuple #[.int .i64 0, .int .i64 0, .bool false]) ∧ ∃ m, w' = w.drewN m := by
  have HQ := Lib.hid hq
  clear hq
  go_enter Try.func7, Try.ntmps7
  go_wp2_with (go_at_call 8; refine (qlen_any qb [] puts _ HQ.out).mono ?_; rintro e w' ⟨rfl, rfl⟩)
  go_ret3
  exact ⟨rfl, 0, rfl⟩

set_option maxRecDepth 100000 in
set_option maxHeartbeats 1000000 in
theorem peek_some {base : Nat} (qb : Nat) (h : List It) (puts : Nat) (n : Nat) (w : World) (hq : Q base w qb h puts) (hh : h.length = n + 1) (hn : n ≤ 900) :
    Calls Try.prog 7 #[.pointer (some ⟨qb, 0, none⟩)] w fun e w' => e = .returned (.tuple #[.int .i64 (at_ h 0).thing, .int .i64 (at_ h 0).key, .bool true]) ∧ ∃ m, w' = w.drewN m := by
  have HQ := Lib.hid hq
  obtain ⟨v, hqb, hl, _⟩ := hq
  obtain ⟨g, cap, rfl, _, hg, hnc, _, _, hcc⟩ := hl.opn (by omega)
  obtain ⟨a0, _, a2⟩ := hcc 0 (by omega)
  have hc := hqb.c0
  rw [hh] at hc
  have d : (((n : Int) + 1) == 0) = false := by simp; omega
  have hlen : (((n + 1 : Nat) : Int)) = (n : Int) + 1 := by omega
  have HH := Lib.hid hh
  have HLE := Lib.hid hlen
  simp only [Nat.zero_mul, Nat.zero_add] at a0 a2
  have k1 : (0 : Int) < (n : Int) + 1 := by omega
  clear hqb hl hcc hh hlen hnc
  go_enter Try.func7, Try.ntmps7
  go_wp2_with (go_at_call 8; refine (qlen_any qb h puts _ HQ.out).mono ?_; rw [HH.out, HLE.out]; rintro e w' ⟨rfl, rfl⟩)
  go_quiet (fail)
  go_wp2
  go_ret3
  exact ⟨rfl, _, rfl⟩

set_option maxRecDepth 100000 in
set_option maxHeartbeats 2000000 in
theorem put_any {base : Nat} (qb : Nat) (h : List It) (puts : Nat) (k x : Int) (w : World) (hq : Q base w qb h puts) (hn : h.length ≤ 900) (hp : puts ≤ 100000) :
    Calls Try.prog 5 #[.pointer (some ⟨qb, 0, none⟩), .int .i64 k, .int .i64 x] w fun e w' => (∃ u, e = .returned u) ∧
      ∃ h', Q base w' qb h' (puts + 1) ∧ h'.Perm (h ++ [⟨k, puts, x⟩]) ∧ QFrame base qb w w' := by
  have HQ := Lib.hid hq
  obtain ⟨v, hqb, _, _, _, hb⟩ := hq
  have hc1 := hqb.c1
  clear hqb
  go_enter Try.func5, Try.ntmps5
  go_wp2
  go_still_tail 12, (by kernel_rfl)
  change wpList _ _ _ _ _ w.drew
  go_wp2_with fail
  refine (heapPush_any qb h puts ⟨k, puts, x⟩ _ HQ.out.drew hn).mono ?_
  rintro e w1 ⟨⟨u, rfl⟩, h', ⟨v1, hq1, hl1, hne1, hh1, _⟩, hp1, hf1⟩
  have hc := hq1.c1
  have hff := hq1.free 1
  have hpw : (puts : Int) + 1 = ((puts + 1 : Nat) : Int) := by omega
  have HPW := Lib.hid hpw
  have HQ1 := Lib.hid (hq1.set1 ((puts : Int) + 1))
  have HL1 := Lib.hid (hl1.other (b := qb) (fun e => hne1 e.symm) 1 (.int .i64 ((puts : Int) + 1)))
  have HF1 : Hid (QFrame base qb w (w1.setCell ⟨qb, 1, none⟩ (.int .i64 ((puts : Int) + 1)))) := (QFrame.refl.drew.trans hf1).trans (QFrame.setOwn hb 1 _)
  have HNE := Lib.hid hne1
  have HH := Lib.hid hh1
  have HP := Lib.hid hp1
  clear hq1 hl1 hne1 hh1 hp1 hf1 hpw hc1
  go_wp2
  go_end0
  exact ⟨⟨_, rfl⟩, h', ⟨v1, by rw [← HPW.out]; exact HQ1.out, HL1.out, HNE.out, HH.out, hb⟩, HP.out, HF1.out⟩

set_option maxRecDepth 100000 in
set_option maxHeartbeats 1000000 in
theorem take_none {base : Nat} (qb : Nat) (puts : Nat) (w : World) (hq : Q base w qb [] puts) :
    Calls Try.prog 6 #[.pointer (some ⟨qb, 0, none⟩)] w fun e w' => e = .returned (.tuple #[.int .i64 0, .int .i64 0, .bool false]) ∧ ∃ m, w' = w.drewN m := by
  have HQ := Lib.hid hq
  clear hq
  go_enter Try.func6, Try.ntmps6
  go_wp2_with (go_at_call 7; refine (peek_none qb puts _ HQ.out).mono ?_; rintro e w1 ⟨rfl, m, rfl⟩)
  go_ret3
  exact ⟨rfl, _, rfl⟩
set_option maxRecDepth 100000 in
set_option maxHeartbeats 2000000 in
theorem take_some {base : Nat} (qb : Nat) (h : List It) (puts : Nat) (n : Nat) (w : World) (hq : Q base w qb h puts) (hh : h.length = n + 1) (hn : n ≤ 900) :
    Calls Try.prog 6 #[.pointer (some ⟨qb, 0, none⟩)] w fun e w' => e = .returned (.tuple #[.int .i64 (at_ h 0).thing, .int .i64 (at_ h 0).key, .bool true]) ∧
      ∃ h', Q base w' qb h' puts ∧ (h' ++ [at_ h 0]).Perm h ∧ QFrame base qb w w' := by
  have HQ := Lib.hid hq
  have HH := Lib.hid hh
  clear hq hh
  go_enter Try.func6, Try.ntmps6
  go_wp2_with fail
  refine (peek_some qb h puts n _ HQ.out HH.out hn).mono ?_
  rintro e w1 ⟨rfl, m, rfl⟩
  go_wp2_with fail
  refine (heapPop_any qb h puts n _ (HQ.out.below (Mem.below_drewN (Below.refl _ _) m)) HH.out hn).mono ?_
  rintro e w2 ⟨⟨u, rfl⟩, h', hq2, hp2, hf2⟩
  have HR : Hid (∃ h', Q base w2 qb h' puts ∧ (h' ++ [at_ h 0]).Perm h ∧ QFrame base qb w w2) := ⟨h', hq2, hp2, (QFrame.refl.drewN m).trans hf2⟩
  clear hq2 hp2 hf2
  go_wp2
  go_ret3
  exact ⟨rfl, HR.out⟩
end Go.Proofs.Ytlnljgfppipceab.Qu
