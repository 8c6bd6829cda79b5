/- The queue told by a range: Drain; a law for a range over a function that changes cells of its own between two rounds (a body that never leaves; the elder laws of the library want that the iterator changes none). -/
import Derived.Test.YtlnljgfppipceabQuM
import Derived.RangeFuncBox
import Derived.RangeFuncNested
import Derived.RangeFuncBound
import Derived.RangeFuncCalls
import Derived.RangeFuncLeaves
import Derived.RangeFuncFrom
import Derived.Shelf.Abstract
import Derived.OwnWalkIn
import Derived.TacticsInMore
import Derived.LoopNIn
import Derived.LoopIn
import Derived.Maps.AppendAt
namespace Go.Proofs.Ytlnljgfppipceab.Qu
open Go.RowKit Go.Shelf Mem
set_option linter.unusedVariables false
attribute [local go_sem] Oper.semAt_some

section law
variable {F : Fence} {n : Nat} {P : Program}
/-- what an iterator with cells of its own owes -/
def Tells {α : Type} (F : Fence) (n : Nat) (P : Program) (gf : Nat) (lb : Array Value) (encs : α → Array Value) (Pr Kp : World → World → Prop) (S : List α → Prop) (N : Nat) (Ok : World → Prop) : Prop :=
  ∀ (l : Nat) (J : List α → World → Prop) (W : World), Ok W → (∀ pre A B, J pre A → Pr A B → J pre B) →
    (∀ pre x W1, J pre W1 → pre.length < N → YieldAt F (n - 1) P l (encs x) W1 fun e W' => e = .returned (.bool true) ∧ J (pre ++ [x]) W' ∧ Kp W1 W') →
    J [] W →
    CallsIn F n P gf (#[.func (.yield l) #[] #[]] ++ lb) W fun e W' => (∃ v, e = .returned v) ∧ ∃ xs, S xs ∧ J xs W'

theorem range_tells {α : Type} {g : Operand} {ps : Array Tmp} {assign body : Code} {Q : Exit → Act → World → Prop} {a : Act} {w : World}
    (hro : F.round = none) (h1 : 1 ≤ n) {gf : Nat} {lb : Array Value} (hg : a.eval g = .func (.func gf) #[] lb) (hFg : F.fn gf) (eg : ∀ args w, (callFunc gf args).run P w = .ok (.enter gf args) w)
    {encs : α → Array Value} {Pr Kp : World → World → Prop} {S : List α → Prop} {N : Nat} {Ok : World → Prop} (hseq : Tells F (n - 1) P gf lb encs Pr Kp S N Ok)
    (hOk : ∀ W', Below w.heap.size w W' → Ok W')
    (hPr : ∀ A B k o, Pr A B → w.heap.size ≤ k → A.heap[k]? = some o → o.isCells = false → B.heap[k]? = some o)
    (hKt : ∀ {A B C : World}, Kp A B → Kp B C → Kp A C) (hKb : ∀ (W : World) (l : Nat) (o o' : Obj), w.heap.size ≤ l → W.heap[l]? = some o → o.isCells = false → Kp W (W.putObj l o')) (hps : ∀ x, (encs x).size = ps.size)
    (I : List α → World → Prop) (hI : OwnFrom w.heap.size I) (hIP : ∀ pre A B, I pre A → Pr A B → I pre B) (h0 : I [] w) (a₁ : α → Act)
    (hassign : ∀ (l : Nat) (x : α) (W : World) (K : Act → World → Prop), K (a₁ x) W →
      assign.wpIn (F.inRound l) (n - 1 - 1) P (Exit.then K (fun _ _ _ => False)) { tmps := (ps.zip (encs x)).foldl (fun t (p, v) => t.setIfInBounds p v) a.tmps, defers := [] } W)
    (hbody : ∀ (l : Nat) (pre : List α) (x : α) (W : World), I pre W → pre.length < N → body.wpIn (F.inRound l) (n - 1 - 1) P (ownPostG w.heap.size Kp I (fun _ _ _ => False) (pre ++ [x]) W) (a₁ x) W)
    (hdone : ∀ (D : Nat) (xs : List α) (W : World), w.heap.size ≤ D → S xs → I xs W → W.heap[D]? = some (.deferred (some [])) → Q .normal { a with defers := { target := .collected D, args := #[] } :: a.defers } W) :
    (Code.rangeFunc g ps assign body).wpIn F n P Q a w := by
  refine wpIn_rangeFunc fun fn hfn => ?_
  rw [hro]
  obtain ⟨rec, hrec⟩ : ∃ rec : LoopState → Loop, rec = fun st => { state := st, pending := none, fn, tmps := a.tmps, params := ps, assign, body, defers := w.heap.size } := ⟨_, rfl⟩
  obtain ⟨L, hL⟩ : ∃ L, L = w.heap.size + 1 := ⟨_, rfl⟩
  have hsz1 : (w.alloc (.deferred (some []))).heap.size = L := by rw [World.size_alloc, hL]
  obtain ⟨W1, hW1⟩ : ∃ W1, W1 = (w.alloc (.deferred (some []))).alloc (.loop (rec .ready)) := ⟨_, rfl⟩
  have hl1 : W1.heap[L]? = some (.loop (rec .ready)) := by
    have := World.alloc_heap_new (w.alloc (.deferred (some []))) (.loop (rec .ready))
    rw [hsz1] at this; rw [hW1]; exact this
  have hd1 : W1.heap[w.heap.size]? = some (.deferred (some [])) := by
    rw [hW1]; exact (Below.heap_alloc _ _ _ (by rw [hsz1]; omega)).trans (World.alloc_heap_new w _)
  have hi1 : I [] W1 := by rw [hW1]; exact hI.alloc _ (hI.alloc _ h0)
  have hb1 : Below w.heap.size w W1 := by rw [hW1]; exact ((Below.refl _ w).alloc (Nat.le_refl _) _).alloc (by simp) _
  have held : ∀ (W : World) (k : Nat) (o : Obj), W.heap[k]? = some o → k < W.heap.size := fun W k o h => (Array.getElem?_eq_some_iff.1 h).1
  refine ⟨L, [{ target := .collected w.heap.size, args := #[] }], W1, { target := .fn (.func gf) lb, args := #[.func (.yield L) #[] #[]] }, W1, gf, #[.func (.yield L) #[] #[]] ++ lb, W1, ?_, ?_, ?_, ?_, fun _ => h1, ?_⟩
  · rw [hW1, hL, hrec]; exact run_enterLoop_outer _ _ _ _ _
  · simp only [resolve, hg]
    simp [go_sem]
  · intro f' hf'
    simp [Target.leads] at hf'
    subst hf'; exact hFg
  · simp [invoke, go_sem, eg]
  · refine (hseq L (fun pre W => I pre W ∧ W.heap[L]? = some (.loop (rec .ready)) ∧ W.heap[w.heap.size]? = some (.deferred (some []))) W1 (hOk _ hb1)
      (fun pre A B hj hp => ⟨hIP pre A B hj.1 hp, hPr A B _ _ hp (by omega) hj.2.1 rfl, hPr A B _ _ hp (Nat.le_refl _) hj.2.2 rfl⟩) ?_ ⟨hi1, hl1, hd1⟩).mono ?_
    · rintro pre x W ⟨hi, hl, hd⟩ hlen
      have hy := run_yield (P := P) (args := encs x) hl (by rw [hrec]; exact hps x)
      have hbeg := run_beginRound (P := P) hl (by rw [hrec])
      rw [hrec] at hy
      refine ⟨fn, _, assign, body, hy, roundIn_of_wpIn hfn (hassign L x W _ ⟨_, hbeg, ?_⟩)⟩
      obtain ⟨W2, hW2⟩ : ∃ W2, W2 = W.putObj L (.loop { rec .ready with state := .busy }) := ⟨_, rfl⟩
      have hl2 : W2.heap[L]? = some (.loop { rec .ready with state := .busy }) := by rw [hW2]; exact World.putObj_heap_same (held _ _ _ hl)
      have hd2 : W2.heap[w.heap.size]? = some (.deferred (some [])) := by rw [hW2]; exact (World.putObj_heap_other (by omega)).trans hd
      have hk2 : Kp W W2 := by rw [hW2]; exact hKb _ _ _ _ (by omega) hl rfl
      have hi2 : I pre W2 := by rw [hW2]; exact hI.putObj _ hi (by omega) hl rfl
      rw [← hW2]
      refine wpIn_mono (hbody L pre x W2 hi2 hlen) ?_
      rintro e a3 W3 hp
      cases e with
      | normal =>
        obtain ⟨hk3, hkp3, hi3⟩ := hp
        have hl3 := hk3.same _ _ (by omega) hl2 rfl
        have hd3 := hk3.same _ _ (Nat.le_refl _) hd2 rfl
        have hend := run_endRound (P := P) none hl3
        have hl4 : (W3.putObj L (.loop (rec .ready))).heap[L]? = some (.loop (rec .ready)) := World.putObj_heap_same (held _ _ _ hl3)
        have hd4 : (W3.putObj L (.loop (rec .ready))).heap[w.heap.size]? = some (.deferred (some [])) := (World.putObj_heap_other (by omega)).trans hd3
        have hsame : (W3.putObj L (.loop { { rec .ready with state := .busy } with state := if (none : Option Code).isNone then .ready else .done, pending := none })) = W3.putObj L (.loop (rec .ready)) := by rw [hrec]; rfl
        rw [hsame] at hend
        exact ⟨_, _, hend, ⟨rfl, ⟨hI.putObj _ hi3 (by omega) hl3 rfl, hl4, hd4⟩, hKt (hKt hk2 hkp3) (hKb _ _ _ _ (by omega) hl3 rfl)⟩⟩
      | ret => exact hp.2.elim
      | exit id => exact hp.2.elim
      | goto t => exact hp.2.elim
      | panic ch => exact hp.elim
      | outgrown => exact hp.elim
    · rintro e W2 ⟨⟨v, rfl⟩, xs, hS, hi, hl, hd⟩
      have hend := run_endLoop (P := P) hl (by rw [hrec]; simp)
      have hp : (rec .ready).pending = none := by rw [hrec]
      rw [hp] at hend
      exact ⟨none, _, hend, hdone _ xs _ (Nat.le_refl _) hS (hI.putObj _ hi (by omega) hl rfl) ((World.putObj_heap_other (by omega)).trans hd)⟩
end law

/-! ### what keeps a queue -/
theorem G.kept {base qb puts : Nat} {W W' : World} {g : List It} {row : Option Nat} (q : G base W qb g puts) (hg : W.grownBy W' row)
    (hr : ∀ j, row = some j → ∃ o, W.heap[j]? = some o ∧ (∀ cs fr, o ≠ .cells cs 32 fr) ∧ ∀ cs fr, o ≠ .cells cs 53 fr) : G base W' qb g puts := by
  obtain ⟨h, ⟨vl, h1, h2, h3, h4, h5⟩, h6, h7⟩ := q
  refine ⟨h, ⟨vl, h1.kept hg (fun e => ?_), World.ownsRow.kept h2 hg ?_, h3, h4, h5⟩, h6, h7⟩
  · obtain ⟨o, ho, n1, _⟩ := hr qb e.symm
    rw [show W.heap[qb]? = _ from h1] at ho
    injection ho with ho
    exact n1 _ _ ho.symm
  · rcases h2.2 with ⟨hv, _⟩ | ⟨b1, cap1, cur1, hv, _, hb1, _⟩
    · subst hv; exact .inl rfl
    · refine .inr fun e => ?_
      subst hv
      obtain ⟨o, ho, _, n2⟩ := hr b1 e.symm
      rw [hb1] at ho
      injection ho with ho
      exact n2 _ _ ho.symm
theorem G.len {base qb puts : Nat} {W : World} {g : List It} (q : G base W qb g puts) : lenV ((W.cell? ⟨qb, 0, none⟩).getD undef) = g.length := by
  obtain ⟨h, ⟨vl, h1, h2, _⟩, h6, _⟩ := q
  rw [h1.c0, ← h6.length_eq]
  rcases h2.2 with ⟨hv, h0⟩ | ⟨b1, cap1, cur1, hv, _⟩
  · subst hv; rw [h0]; rfl
  · subst hv; rfl
/-- the box of the queue's address, and the queue, lie on -/
structure KeepQ (base qb Bq : Nat) (W W' : World) : Prop where
  size : W.heap.size ≤ W'.heap.size
  g : ∀ g p, G base W qb g p → G base W' qb g p
  b : ∀ v, Boxed W Bq 23 v → Boxed W' Bq 23 v
section
variable {base qb Bq : Nat} {A B C : World}
theorem KeepQ.trans (h : KeepQ base qb Bq A B) (k : KeepQ base qb Bq B C) : KeepQ base qb Bq A C :=
  ⟨Nat.le_trans h.size k.size, fun g p q => k.g g p (h.g g p q), fun v q => k.b v (h.b v q)⟩
theorem KeepQ.grown {row : Option Nat} (hg : A.grownBy B row) (hr : ∀ j, row = some j → ∃ o, A.heap[j]? = some o ∧ (∀ cs fr, o ≠ .cells cs 32 fr) ∧ (∀ cs fr, o ≠ .cells cs 53 fr) ∧ ∀ cs fr, o ≠ .cells cs 23 fr) : KeepQ base qb Bq A B :=
  ⟨hg.size, fun g p q => q.kept hg (fun j e => by obtain ⟨o, h1, h2, h3, _⟩ := hr j e; exact ⟨o, h1, h2, h3⟩),
    fun v q => q.kept hg (fun e => by obtain ⟨o, h1, _, _, h4⟩ := hr Bq e.symm; rw [show A.heap[Bq]? = _ from q] at h1; injection h1 with h1; exact h4 _ _ h1.symm)⟩
theorem KeepQ.putObj {l : Nat} {o : Obj} (o' : Obj) (hl : A.heap[l]? = some o) (ho : o.isCells = false) : KeepQ base qb Bq A (A.putObj l o') :=
  KeepQ.grown (row := some l) (grownBy_putObj' A l o') (fun j e => by
    cases e
    refine ⟨o, hl, ?_, ?_, ?_⟩ <;> intro cs fr e <;> subst e <;> cases ho)
theorem boxed_frame {W W' : World} {B' : Nat} {t : TypeId} {v : Value} (h : Boxed W B' t v) (hne : B' ≠ qb) (ht : t ≠ 53) (f : QFrame base qb W W') : Boxed W' B' t v :=
  f.other B' _ h hne (fun cs fr e => by injection e with _ e _; exact ht e)
end

set_option maxRecDepth 100000 in
theorem drain_in (F : Fence) (n : Nat) (hF : F.fn 15) (hro : F.round = none) (qb : Nat) (w : World) :
    CallsIn F n Try.prog 15 #[.pointer (some ⟨qb, 0, none⟩)] w fun e w' => e = .returned (.func (.func 20) #[] #[.pointer (some ⟨w.heap.size, 0, none⟩)]) ∧ w' = w.alloc (.cells #[.pointer (some ⟨qb, 0, none⟩)] 23) := by
  refine callsIn_of_wp Try.func15 rfl hF ?_ hro
  simp only [Try.ntmps15, List.size_toArray, List.length_cons, List.length_nil, Nat.reduceAdd, Nat.reduceSub, Array.replicate_succ, Array.replicate_zero, List.push_toArray, List.append_toArray, List.nil_append, List.cons_append]
  gi_wp2
  go_ret
  exact ⟨rfl, rfl⟩

set_option maxRecDepth 100000 in
set_option maxHeartbeats 2000000 in
theorem drain1_in (n : Nat) (hn : 1 ≤ n) (l Bq qb base p : Nat) (g : List It) (hgn : g.length ≤ 300) (hne : Bq ≠ qb) (J : List It → World → Prop)
    (hJ : ∀ pre A B, J pre A → QFrame base qb A B → J pre B)
    (hY : ∀ pre x W, J pre W → pre.length < g.length → YieldAt Fence.wide (n - 1) Try.prog l #[.int .i64 x.key, .int .i64 x.thing] W fun e W' => e = .returned (.bool true) ∧ J (pre ++ [x]) W' ∧ KeepQ base qb Bq W W')
    (W : World) (hB : Boxed W Bq 23 (.pointer (some ⟨qb, 0, none⟩))) (hq : G base W qb g p) (h0 : J [] W) :
    CallsIn Fence.wide n Try.prog 20 #[.func (.yield l) #[] #[], .pointer (some ⟨Bq, 0, none⟩)] W fun e W' => (∃ v, e = .returned v) ∧ J (outs g g.length) W' := by
  have HB := Lib.hid hB
  have HQ := Lib.hid hq
  have H0 := Lib.hid h0
  have HJ := Lib.hid hJ
  have HYY := Lib.hid hY
  clear hB hq h0 hJ hY
  refine callsIn_of_wp Try.func20 rfl trivial ?_ rfl
  simp only [Try.ntmps20, List.size_toArray, List.length_cons, List.length_nil, Nat.reduceAdd, Nat.reduceSub, Array.replicate_succ, Array.replicate_zero, List.push_toArray, List.append_toArray, List.nil_append, List.cons_append]
  gi_wp2
  gi_loopw [5] (fun _ wr => ∃ k : Nat, k ≤ g.length ∧ Hid (Boxed wr Bq 23 (.pointer (some ⟨qb, 0, none⟩))) ∧ Hid (G base wr qb (left g k) p) ∧ Hid (J (outs g k) wr)) (fun _ wr => lenV ((wr.cell? ⟨qb, 0, none⟩).getD undef))
  case atStart => exact ⟨0, Nat.zero_le _, HB, HQ, H0⟩
  case round =>
    obtain ⟨k, hk, hBr, hG, hJr⟩ := hrel
    have hc := hBr.out.cell
    by_cases hlt : k < g.length
    · have hi := left_first g k hlt
      have HN : Hid (nth g k = at_ (left g k) (firstIx (left g k))) := rfl
      have HS := Lib.hid (outs_succ g k)
      have hll := left_length g k (by omega)
      have HLL := Lib.hid hll
      have HLS := Lib.hid (left_length g (k + 1) (by omega))
      have hol := outs_length g k
      have ht := gtake qb (left g k) p (firstIx (left g k)) wr hG.out (by omega) hi
      rw [← HN.out] at ht
      have HT := Lib.hid ht
      have HOL := Lib.hid hol
      clear hi hll hol ht
      gi_wp2_with fail
      refine ⟨trivial, ?_⟩
      gi_at_call 6
      refine (callsIn_wide.2 HT.out).mono ?_
      rintro e w1 ⟨rfl, hg1, hf1⟩
      have HG1 : Hid (G base w1 qb (left g (k + 1)) p) := hg1
      have HB1 := Lib.hid (boxed_frame hBr.out hne (by decide) hf1)
      have HJ1 := Lib.hid (HJ.out _ _ _ hJr.out hf1)
      obtain ⟨fn, tmps, assign, body, hy, hR⟩ := HYY.out (outs g k) (nth g k) w1 HJ1.out (by rw [HOL.out]; exact hlt)
      clear hg1 hf1
      gi_wp2
      refine hR.mono ?_
      rintro e W3 ⟨rfl, hJ3, hk3⟩
      rw [← HS.out] at hJ3
      have HJ3 := Lib.hid hJ3
      have HG3 := Lib.hid (hk3.g _ _ HG1.out)
      have HB3 := Lib.hid (hk3.b _ HB1.out)
      clear hJ3 hk3
      gi_wp2
      go_roundw
      case rel => exact ⟨k + 1, hlt, HB3, HG3, HJ3⟩
      case measure => rw [HG3.out.len, hG.out.len, HLS.out, HLL.out]; omega
    · obtain rfl : k = g.length := by omega
      have he := left_nil g g.length rfl
      rw [he] at hG
      gi_wp2_with fail
      refine ⟨trivial, ?_⟩
      gi_at_call 6
      refine (callsIn_wide.2 (gtake_none qb p wr hG.out)).mono ?_
      rintro e w1 ⟨rfl, m, rfl⟩
      have HJ1 := Lib.hid (HJ.out _ _ _ hJr.out ((QFrame.refl).drewN m))
      gi_wp2
      refine ⟨fun _ h => (by cases h), ?_⟩
      gi_wp2
      refine bodyPost_ret (results_none rfl _ _ _) rfl ?_
      exact ⟨⟨_, rfl⟩, HJ1.out⟩
end Go.Proofs.Ytlnljgfppipceab.Qu
