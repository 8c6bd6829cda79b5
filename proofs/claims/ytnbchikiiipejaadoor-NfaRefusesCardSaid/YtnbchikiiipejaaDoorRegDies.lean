/- A region that draws its order, whose operations are quiet but for one that panics: it panics, in whatever order; nothing of the program. -/
import Derived.WalkKit
import Derived.Deep.QuietTactic
namespace Go.Proofs.YtnbchikiiipejaaDoor.Mem
open Go

section
variable {P : Program} {ops : Array Oper} {md : Region.Mode} {C : World → Prop} {ch : List PanicEntry}

/-- in every world of the class the operation panics with this chain, in a world of the class -/
def dies (P : Program) (o : Oper) (a : Act) (C : World → Prop) (ch : List PanicEntry) : Prop :=
  ∀ w, C w → ∃ f args, (execOp a.eval o).run P w = .ok (.enter f args) w ∧ Calls P f args w (fun e w' => e = .panicked ch ∧ C w')

def qOpD (P : Program) (ops : Array Oper) (C : World → Prop) (ch : List PanicEntry) (i : Nat) (K : Act → Prop) (a : Act) : Prop :=
  match ops[i]? with
  | none => K a
  | some o => if Region.wanted o (yielded ops a.tmps) then (o.quiet P a C K ∨ dies P o a C ch) else K (a.put o.dst undef)

theorem qOpD_of {i : Nat} {K : Act → Prop} {a : Act} (h : qOp P ops C i K a) : qOpD P ops C ch i K a := by
  unfold qOp at h
  unfold qOpD
  cases ho : ops[i]? with
  | none => simpa [ho] using h
  | some o =>
    simp only [ho] at h ⊢
    by_cases hw : Region.wanted o (yielded ops a.tmps) = true
    · simp only [hw, if_true] at h ⊢; exact .inl h
    · simp only [hw] at h ⊢; exact h

theorem qOpD_mono {i : Nat} {a : Act} {K K' : Act → Prop} (h : ∀ a, K a → K' a) (hh : qOpD P ops C ch i K a) : qOpD P ops C ch i K' a := by
  unfold qOpD at *
  cases ho : ops[i]? with
  | none => simp only [ho] at hh ⊢; exact h _ hh
  | some o =>
    simp only [ho] at hh ⊢
    by_cases hw : Region.wanted o (yielded ops a.tmps) = true
    · simp only [hw, if_true] at hh ⊢
      rcases hh with hq | hd
      · exact .inl (Oper.quiet_mono h hq)
      · exact .inr hd
    · simp only [hw] at hh ⊢; exact h _ hh

def wpAnyD (P : Program) (md : Region.Mode) (ops : Array Oper) (C : World → Prop) (ch : List PanicEntry) : Nat → Array Bool → Act → Prop
  | 0, listed, _ => Region.ready md ops listed = [] ∧ False
  | fuel + 1, listed, a => Region.ready md ops listed ≠ [] ∧ ∀ i ∈ Region.ready md ops listed, qOpD P ops C ch i (wpAnyD P md ops C ch fuel (listed.setIfInBounds i true)) a

theorem put_defers (a : Act) (dst : Option Tmp) (v : Value) : (a.put dst v).defers = a.defers := by cases dst <;> rfl
theorem wpAny_of_D {Q' : Exit → Act → World → Prop} (d : List Deferred) (hP : ∀ a w, a.defers = d → C w → Q' (.panic ch) a w) : ∀ (fuel : Nat) (listed : Array Bool) (a : Act) (w : World), a.defers = d → C w →
    wpAnyD P md ops C ch fuel listed a → wpAny P md ops Q' fuel listed a w
  | 0, _, _, _, _, _, h => h.2.elim
  | fuel + 1, listed, a, w, hd, hw, h => ⟨fun h0 => absurd h0 h.1, fun i hi => by
      have h1 := h.2 i hi
      unfold qOpD at h1
      unfold wpOp
      cases ho : ops[i]? with
      | none => simp only [ho] at h1 ⊢; exact wpAny_of_D d hP fuel _ _ _ hd hw h1
      | some o =>
        simp only [ho] at h1 ⊢
        by_cases hw2 : Region.wanted o (yielded ops a.tmps) = true
        · simp only [hw2, if_true] at h1 ⊢
          rcases h1 with ⟨v, q1, q2⟩ | hd2
          · have hq : o.quiet P a C (fun a' => a'.defers = d ∧ wpAnyD P md ops C ch fuel (listed.setIfInBounds i true) a') := ⟨v, q1, by rw [put_defers]; exact hd, q2⟩
            exact .inl (Oper.wp_of_quiet hw (fun a' w' hw' h' => wpAny_of_D d hP fuel _ a' w' h'.1 hw' h'.2) hq)
          · obtain ⟨f, args, hr, hc⟩ := hd2 w hw
            refine .inl ?_
            unfold Oper.wp
            rw [hr]
            exact hc.mono fun e w'' ⟨he, hw''⟩ => by subst he; exact hP _ _ hd hw''
        · simp only [hw2] at h1 ⊢; exact wpAny_of_D d hP fuel _ _ _ (by rw [put_defers]; exact hd) hw h1⟩

theorem qOpD_put {j : Nat} {oi oj : Oper} {v : Value} (hj : ops[j]? = some oj) (hap : oi.apart ops oj = true)
    (hsi : ∀ cs b, oi.op ≠ .select cs b) (hsj : ∀ cs b, oj.op ≠ .select cs b) {K : Act → Prop} {a : Act}
    (hy : YieldsIn P ops C oi v a) (h : qOpD P ops C ch j K (a.put oi.dst v)) :
    qOpD P ops C ch j (fun a' => YieldsIn P ops C oi v a' ∧ K (a'.put oi.dst v)) a := by
  obtain ⟨h1, h2, h3⟩ := Oper.apart_spec hap
  have keep : ∀ (a : Act), YieldsIn P ops C oi v a → ∀ u, YieldsIn P ops C oi v (a.put oj.dst u) := fun a hy u =>
    hy.of_same (execOp_put oi hsi a oj.dst u h3) (wanted_put oi a oj.dst u h3)
  unfold qOpD at *
  simp only [hj] at *
  rw [wanted_put oj a oi.dst v h1] at h
  by_cases hw : Region.wanted oj (yielded ops a.tmps) = true
  · simp only [hw, if_true] at h ⊢
    rcases h with ⟨u, hu, hn⟩ | hd
    · refine .inl ⟨u, fun w hw' => ?_, keep a hy u, by rw [← Act.put_comm a v u h2]; exact hn⟩
      have := hu w hw'
      unfold Oper.quietAt at *
      rwa [execOp_put oj hsj a oi.dst v h1] at this
    · refine .inr fun w hw' => ?_
      have := hd w hw'
      rwa [execOp_put oj hsj a oi.dst v h1] at this
  · simp only [hw] at h ⊢
    exact ⟨keep a hy _, by rw [← Act.put_comm a v undef h2]; exact h⟩

theorem wpAnyD_first {i : Nat} {oi : Oper} {v : Value} (hi : ops[i]? = some oi) (hsel : ∀ (j : Nat) (o : Oper) cs b, ops[j]? = some o → o.op ≠ .select cs b) :
    ∀ (fuel : Nat) (listed : Array Bool) (a : Act),
      (∀ j oj, ops[j]? = some oj → j ≠ i → listed.getD j true = false → (∀ e ∈ oj.after, Region.binds md e = true → e.on ≠ i) → oi.apart ops oj = true) →
      i ∈ Region.ready md ops listed → YieldsIn P ops C oi v a →
      wpAnyD P md ops C ch fuel (listed.setIfInBounds i true) (a.put oi.dst v) → wpAnyD P md ops C ch (fuel + 1) listed a := by
  intro fuel
  induction fuel with
  | zero => intro listed a _ _ _ H; exact H.2.elim
  | succ fuel ih =>
    intro listed a hfree hr hy H
    refine ⟨fun h => (by rw [h] at hr; cases hr), fun j hj => ?_⟩
    by_cases hji : j = i
    · subst hji; exact qOpD_of (hy.qOp hi H)
    · have h1 := H.2 j (ready_mono hj hji)
      obtain ⟨hjun, oj, hoj, hall⟩ := mem_ready.1 hj
      have hnot : ∀ e ∈ oj.after, Region.binds md e = true → e.on ≠ i := fun e he hb heq => by
        have h1 := hall e he hb
        have h0 := (mem_ready.1 hr).1
        rw [heq] at h1
        rcases Nat.lt_or_ge i listed.size with h' | h'
        · simp [h'] at h0 h1; rw [h0] at h1; cases h1
        · simp [Array.getElem?_eq_none h'] at h1
      have h2 := qOpD_put hoj (hfree j oj hoj hji hjun hnot) (fun cs b => hsel i oi cs b hi) (fun cs b => hsel j oj cs b hoj) hy h1
      have hfree' : ∀ k ok, ops[k]? = some ok → k ≠ i → (listed.setIfInBounds j true).getD k true = false →
          (∀ e ∈ ok.after, Region.binds md e = true → e.on ≠ i) → oi.apart ops ok = true := fun k ok hk hki hun hno => by
        refine hfree k ok hk hki ?_ hno
        by_cases hjk : j = k
        · subst hjk; exact hjun
        · rw [getD_set_ne true hjk] at hun; exact hun
      refine qOpD_mono (fun a' h3 => ih (listed.setIfInBounds j true) a' hfree' (ready_mono hr (Ne.symm hji)) h3.1 ?_) h2
      rw [Array.setIfInBounds_comm _ _ hji]
      exact h3.2

/-- the operations of the list may come up in its order, each of them free; then number k alone may -/
def ordB (md : Region.Mode) (ops : Array Oper) (k : Nat) : List Nat → Array Bool → Bool
  | [], listed => decide (Region.ready md ops listed = [k])
  | i :: is, listed => (Region.ready md ops listed).contains i && Region.free md ops listed i && ordB md ops k is (listed.setIfInBounds i true)

theorem wpAnyD_ord {k : Nat} {ok : Oper} (hk : ops[k]? = some ok) (hs : Region.noSelect ops = true) (extra : Nat) : ∀ (is : List Nat) (lo : List Oper) (listed : Array Bool) (a : Act), lo.length = is.length → (∀ (n i : Nat) (o : Oper), is[n]? = some i → lo[n]? = some o → ops[i]? = some o) →
    ordB md ops k is listed = true → wpQuiet P ops C (fun a' => Region.wanted ok (yielded ops a'.tmps) = true ∧ dies P ok a' C ch) lo a → wpAnyD P md ops C ch (is.length + 1 + extra) listed a
  | [], lo, listed, a, hl, _, hB, h => by
    obtain rfl : lo = [] := List.eq_nil_of_length_eq_zero hl
    have hr : Region.ready md ops listed = [k] := by simpa [ordB] using hB
    rw [show ([] : List Nat).length + 1 + extra = extra + 1 from by simp; omega]
    refine ⟨by rw [hr]; simp, fun i hi => ?_⟩
    rw [hr] at hi
    have : i = k := by simpa using hi
    subst this
    obtain ⟨h1, h2⟩ : Region.wanted ok (yielded ops a.tmps) = true ∧ dies P ok a C ch := h
    unfold qOpD
    simp only [hk, h1, if_true]
    exact .inr h2
  | i :: is, [], _, _, hl, _, _, _ => by simp at hl
  | i :: is, o :: lo, listed, a, hl, ho, hB, h => by
    have h0 : ops[i]? = some o := ho 0 i o rfl rfl
    simp only [ordB, Bool.and_eq_true] at hB
    obtain ⟨⟨hr, hf⟩, hB'⟩ := hB
    have hst : qOp P ops C i (wpQuiet P ops C (fun a' => Region.wanted ok (yielded ops a'.tmps) = true ∧ dies P ok a' C ch) lo) a := by unfold qOp; simp only [h0]; exact h
    obtain ⟨v, hy, hK⟩ := yieldsIn_of_qOp h0 hst
    rw [show (i :: is).length + 1 + extra = (is.length + 1 + extra) + 1 from by simp; omega]
    exact wpAnyD_first h0 (Region.noSelect_spec hs) _ listed a (Region.free_spec h0 hf) (by simpa using hr) hy
      (wpAnyD_ord hk hs extra is lo _ _ (by simpa using hl) (fun n j o hj hlo => ho (n + 1) j o (by simpa using hj) (by simpa using hlo)) hB' hK)

/-- the operations of these numbers -/
inductive Picks (ops : Array Oper) : List Nat → List Oper → Prop where
  | nil : Picks ops [] []
  | cons {i : Nat} {is : List Nat} {o : Oper} {lo : List Oper} (h : ops[i]? = some o) (t : Picks ops is lo) : Picks ops (i :: is) (o :: lo)
theorem ord_spec {is : List Nat} {lo : List Oper} (h : Picks ops is lo) : lo.length = is.length ∧ ∀ (n i : Nat) (o : Oper), is[n]? = some i → lo[n]? = some o → ops[i]? = some o := by
  induction h with
  | nil => exact ⟨rfl, fun n i o h => by simp at h⟩
  | cons h t ih =>
    refine ⟨by simp [ih.1], fun n i o hi ho => ?_⟩
    cases n with
    | zero => simp at hi ho; subst hi; subst ho; exact h
    | succ n => exact ih.2 n i o (by simpa using hi) (by simpa using ho)

/-- a region that draws its order: the operations of the list are quiet, taken in its order; then number k alone may come up, and it panics -/
theorem wp_region_dies {id : Nat} {Q : Exit → Act → World → Prop} {a : Act} {w : World} {l : List Oper} (is : List Nat) (k : Nat) (ok : Oper) (lo : List Oper) (hm : P.follows .mixedOrders = true)
    (hk : l.toArray[k]? = some ok) (hlo : Picks l.toArray is lo) (hlen : is.length < l.length) (hs : Region.noSelect l.toArray = true) (hB : ordB .any l.toArray k is (Array.replicate l.length false) = true)
    (h : wpQuiet P l.toArray (fun w' => ∃ n, w' = w.drewN n) (fun a' => Region.wanted ok (yielded l.toArray a'.tmps) = true ∧ dies P ok a' (fun w' => ∃ n, w' = w.drewN n) ch) lo a)
    (hQ : ∀ a' w', a'.defers = a.defers → (∃ n, w' = w.drewN n) → Q (.panic ch) a' w') : (Code.region id l.toArray true).wp P Q a w := by
  obtain ⟨e1, e2⟩ := ord_spec hlo
  have H := wpAnyD_ord (P := P) (md := .any) hk hs (l.length - is.length - 1) is lo _ a e1 e2 hB h
  rw [show is.length + 1 + (l.length - is.length - 1) = l.length from by omega] at H
  refine wp_region_any hm ?_
  have := wpAny_of_D (Q' := Q) a.defers hQ _ _ _ w.drew rfl ⟨1, rfl⟩ H
  simpa using this
theorem picks_range (l : List Oper) : ∀ (n m : Nat), m + n ≤ l.length → Picks l.toArray (List.range' m n) ((l.drop m).take n)
  | 0, m, _ => by simp; exact Picks.nil
  | n + 1, m, h => by
    have hm : m < l.length := by omega
    rw [List.range'_succ, List.drop_eq_getElem_cons hm, List.take_succ_cons]
    exact Picks.cons (by simp [List.getElem?_eq_getElem hm]) (picks_range l n (m + 1) (by omega))
theorem Picks.append {is js : List Nat} {lo lp : List Oper} (h : Picks ops is lo) (g : Picks ops js lp) : Picks ops (is ++ js) (lo ++ lp) := by
  induction h with
  | nil => exact g
  | cons h t ih => exact Picks.cons h ih
/-- the first n1 operations and n2 from number m on are quiet; number k panics -/
theorem wp_region_dies_at {id : Nat} {Q : Exit → Act → World → Prop} {a : Act} {w : World} {l : List Oper} (n1 m n2 k : Nat) (ok : Oper) (hm : P.follows .mixedOrders = true)
    (hk : l.toArray[k]? = some ok) (hlen : n1 ≤ l.length ∧ m + n2 ≤ l.length ∧ n1 + n2 < l.length) (hs : Region.noSelect l.toArray = true) (hB : ordB .any l.toArray k (List.range' 0 n1 ++ List.range' m n2) (Array.replicate l.length false) = true)
    (h : wpQuiet P l.toArray (fun w' => ∃ n, w' = w.drewN n) (fun a' => Region.wanted ok (yielded l.toArray a'.tmps) = true ∧ dies P ok a' (fun w' => ∃ n, w' = w.drewN n) ch) (l.take n1 ++ (l.drop m).take n2) a)
    (hQ : ∀ a' n, a'.defers = a.defers → Q (.panic ch) a' (w.drewN n)) : (Code.region id l.toArray true).wp P Q a w :=
  wp_region_dies (List.range' 0 n1 ++ List.range' m n2) k ok (l.take n1 ++ (l.drop m).take n2) hm hk (by
    have h1 := picks_range l n1 0 (by omega)
    rw [List.drop_zero] at h1
    exact h1.append (picks_range l n2 m (by omega))) (by simp; omega) hs hB h (fun a' w' hd ⟨n, e⟩ => by rw [e]; exact hQ a' n hd)
/-- the operation's end -/
theorem dies_end {o : Oper} {a : Act} {w : World} (f : Nat) (args : Array Value) (hr : ∀ n, (execOp a.eval o).run P (w.drewN n) = .ok (.enter f args) (w.drewN n))
    (hc : ∀ n, Calls P f args (w.drewN n) fun e w' => e = .panicked ch ∧ ∃ m, w' = (w.drewN n).drewN m) : dies P o a (fun w' => ∃ n, w' = w.drewN n) ch := by
  rintro w' ⟨n, rfl⟩
  exact ⟨f, args, hr n, (hc n).mono fun e w'' ⟨he, m, hm⟩ => ⟨he, n + m, by rw [hm, World.drewN_drewN]⟩⟩
end
end Go.Proofs.YtnbchikiiipejaaDoor.Mem
