/- Walks of container/heap: Push, Pop; of queue: Put, Len, Peek, Take. -/
import Derived.Test.YtlnljgfppipceabQuE
import Derived.StillTailTactics
namespace Go.Proofs.Ytlnljgfppipceab.Qu
open Go.RowKit Mem
set_option linter.unusedVariables false

/-- a queue in its block: its heap, how many were put in -/
def Q (base : Nat) (W : World) (qb : Nat) (h : List It) (puts : Nat) : Prop :=
  ∃ v, QBox W qb v puts ∧ Line base W v h ∧ some qb ≠ v.ownBlock ∧ IsHeap h.length h ∧ base ≤ qb
theorem Q.drew {base : Nat} {W : World} {qb : Nat} {h : List It} {p : Nat} (q : Q base W qb h p) : Q base W.drew qb h p := q
theorem Q.lt {base : Nat} {W : World} {qb : Nat} {h : List It} {p : Nat} (q : Q base W qb h p) : qb < W.heap.size := by obtain ⟨_, hq, _⟩ := q; exact hq.lt
theorem Q.below {base : Nat} {W W' : World} {qb : Nat} {h : List It} {p : Nat} (q : Q base W qb h p) (hb : Below W.heap.size W W') : Q base W' qb h p := by
  obtain ⟨v, h1, h2, h3, h4, h5⟩ := q
  exact ⟨v, (hb.block qb h1.lt).trans h1, h2.below hb (fun g e => (World.ownsRow.lt h2 g e).2), h3, h4, h5⟩

set_option maxRecDepth 100000 in
set_option maxHeartbeats 2000000 in
theorem heapPush_any {base : Nat} (qb : Nat) (h : List It) (puts : Nat) (a : It) (w : World) (hq : Q base w qb h puts) (hn : h.length ≤ 900) :
    Calls Try.prog 17 #[.iface 51 (.pointer (some ⟨qb, 0, none⟩)), .iface 53 (.agg #[.int .i64 a.key, .int .i64 a.turn, .int .i64 a.thing])] w fun e w' => (∃ u, e = .returned u) ∧
      ∃ h', Q base w' qb h' puts ∧ h'.Perm (h ++ [a]) ∧ QFrame base qb w w' := by
  obtain ⟨v, hqb, hl, hne, hh, hb⟩ := hq
  have HQ := Lib.hid hqb
  have HL := Lib.hid hl
  have HNE := Lib.hid hne
  have HH := Lib.hid hh
  have mp := m_push qb w
  clear hqb hl hne hh
  go_enter Try.func17, Try.ntmps17
  go_wp2_with fail
  refine (push_any qb v puts h a _ HQ.out HL.out hb HNE.out (by omega)).mono ?_
  rintro e w1 ⟨⟨u, rfl⟩, v1, hq1, hl1, hne1, hf1⟩
  have HQ1 := Lib.hid hq1
  have HL1 := Lib.hid hl1
  have HNE1 := Lib.hid hne1
  have HF1 := Lib.hid hf1
  have ml := m_len qb v1 w1 hq1.c0
  clear mp hq1 hl1 hne1 hf1
  go_wp2_with fail
  refine (len_any _ HL1.out).mono ?_
  rintro e w' ⟨rfl, rfl⟩
  have el : (h ++ [a]).length = h.length + 1 := by simp
  rw [el]
  have hlen : (((h.length + 1 : Nat) : Int)) = (h.length : Int) + 1 := by omega
  rw [hlen]
  obtain ⟨n, hnn⟩ : ∃ n, n = h.length := ⟨_, rfl⟩
  rw [← hnn] at hn ⊢
  have HN := Lib.hid hnn
  clear hlen hnn el
  go_wp2_with fail
  refine (up_any qb v1 puts (h ++ [a]) n _ HQ1.out HL1.out HNE1.out (by rw [HN.out]; exact up_start HH.out a) (by rw [HN.out]; simp) (by simp; have := HN.out; omega)).mono ?_
  rintro e w2 ⟨⟨u2, rfl⟩, h', hl2, hp2, hh2, hg2⟩
  have HR : Hid (∃ h', Q base w2 qb h' puts ∧ h'.Perm (h ++ [a]) ∧ QFrame base qb w w2) := ⟨h', ⟨v1, HQ1.out.kept hg2 HNE1.out, hl2, HNE1.out, hh2, hb⟩, hp2, HF1.out.trans (QFrame.of_grown HL1.out hg2)⟩
  clear hl2 hp2 hh2 hg2
  go_wp2
  go_end0
  exact ⟨⟨_, rfl⟩, HR.out⟩

set_option maxRecDepth 100000 in
set_option maxHeartbeats 2000000 in
theorem heapPop_any {base : Nat} (qb : Nat) (h : List It) (puts : Nat) (n : Nat) (w : World) (hq : Q base w qb h puts) (hh : h.length = n + 1) (hn : n ≤ 900) :
    Calls Try.prog 18 #[.iface 51 (.pointer (some ⟨qb, 0, none⟩))] w fun e w' => (∃ u, e = .returned u) ∧
      ∃ h', Q base w' qb h' puts ∧ (h' ++ [at_ h 0]).Perm h ∧ QFrame base qb w w' := by
  obtain ⟨v, hqb, hl, hne, hheap, hb⟩ := hq
  have HQ := Lib.hid hqb
  have HL := Lib.hid hl
  have HNE := Lib.hid hne
  have HH := Lib.hid hheap
  have HLEN := Lib.hid hh
  have ml := m_len qb v w hqb.c0
  have ms := m_swap qb v w hqb.c0
  clear hqb hl hne hheap hh
  go_enter Try.func18, Try.ntmps18
  go_wp2_with fail
  refine (len_any _ HL.out).mono ?_
  rw [HLEN.out]
  rintro e w' ⟨rfl, rfl⟩
  have hlen : (((n + 1 : Nat) : Int)) = (n : Int) + 1 := by omega
  rw [hlen]
  clear hlen
  go_wp2_with fail
  refine (swap_any 0 n _ HL.out (by have := HLEN.out; omega) (by have := HLEN.out; omega) (by have := HLEN.out; omega)).mono ?_
  rintro e w1 ⟨⟨u, rfl⟩, hl1, hg1⟩
  have HL1 := Lib.hid hl1
  have HG1 := Lib.hid hg1
  have HQ1 := Lib.hid (HQ.out.kept hg1 HNE.out)
  clear ml ms hl1 hg1
  go_wp2_with fail
  refine (down_any qb v puts (swap h 0 n) n _ HQ1.out HL1.out HNE.out (down_start (by rw [← HLEN.out]; exact HH.out) HLEN.out) (by rw [swap_length, HLEN.out]; omega) (by rw [swap_length, HLEN.out]; omega)).mono ?_
  rintro e w2 ⟨⟨u2, rfl⟩, h2, hl2, hp2, hh2, hf2, hg2⟩
  have HL2 := Lib.hid hl2
  have HQ2 := Lib.hid (HQ1.out.kept hg2 HNE.out)
  have hlen2 : h2.length = n + 1 := by rw [hp2.length_eq, swap_length]; exact HLEN.out
  have hlast : at_ h2 n = at_ h 0 := by
    rw [hf2 n (Nat.le_refl _), swap_at h 0 n n (by have := HLEN.out; omega) (by have := HLEN.out; omega), if_pos rfl]
  have hperm : (h2.take n ++ [at_ h 0]).Perm h := by
    have e : h2.take n ++ [at_ h 0] = h2 := by
      rw [← hlast, at_eq (by omega), ← List.take_succ_eq_append_getElem (by omega)]
      exact List.take_of_length_le (by omega)
    rw [e]
    exact hp2.trans (swap_perm h 0 n (by have := HLEN.out; omega) (by have := HLEN.out; omega))
  have hheap2 : IsHeap (h2.take n).length (h2.take n) := heap_take hh2 (by omega)
  have HP := Lib.hid hperm
  have HH2 := Lib.hid hheap2
  have HF2 : Hid (QFrame base qb w w2) := (QFrame.of_grown HL.out HG1.out).trans (QFrame.of_grown HL1.out hg2)
  have HLEN2 := Lib.hid hlen2
  have mp := m_pop qb w2
  clear hl2 hp2 hh2 hf2 hg2 hlast hperm hheap2 hlen2
  go_wp2_with fail
  refine (pop_any qb v puts h2 n _ HQ2.out HL2.out hb HNE.out HLEN2.out (by omega)).mono ?_
  rintro e w3 ⟨rfl, v3, hq3, hl3, hne3, hf3⟩
  have HR : Hid (∃ h', Q base w3 qb h' puts ∧ (h' ++ [at_ h 0]).Perm h ∧ QFrame base qb w w3) := ⟨h2.take n, ⟨v3, hq3, hl3, hne3, HH2.out, hb⟩, HP.out, HF2.out.trans hf3⟩
  clear mp hq3 hl3 hne3 hf3
  go_wp2
  go_ret
  exact ⟨⟨_, rfl⟩, HR.out⟩
end Go.Proofs.Ytlnljgfppipceab.Qu
