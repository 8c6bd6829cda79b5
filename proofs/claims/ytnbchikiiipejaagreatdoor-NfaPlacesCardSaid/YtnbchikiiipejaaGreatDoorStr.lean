/- A region that draws its order, whose operations are quiet but for one that panics: it panics, in whatever order; nothing of the program. -/
import Derived.WalkKit
import Derived.Deep.QuietTactic
import Derived.ProofKit
import Derived.Laws.BytesArg
import Derived.Laws.OwnMore
import Derived.Laws.DeepBits32
import Derived.Deep.Draws
import Derived.OwnWalk
import Derived.Maps.AppendAt
import Derived.Deep.AppendLies
import Derived.StillTailTactics
import Derived.Deep.RegionHeld3
import Derived.Lib.ItoaNum
import Derived.Lib.AtoiAll
import Derived.Laws.Small
namespace Go.Proofs.YtnbchikiiipejaaGreatDoor.Mem
open Go
section
variable {P : Program} {ops : Array Oper} {md : Region.Mode} {C : World → Prop} {ch : List PanicEntry}
def dies (P : Program) (o : Oper) (a : Act) (C : World → Prop) (ch : List PanicEntry) : Prop :=
 ∀ w, C w → ∃ f args, (execOp a.eval o).run P w = .ok (.enter f args) w ∧ Calls P f args w (fun e w' => e = .panicked ch ∧ C w')
def qOpD (P : Program) (ops : Array Oper) (C : World → Prop) (ch : List PanicEntry) (i : Nat) (K : Act → Prop) (a : Act) : Prop :=
 match ops[i]? with
 | none => K a
 | some o => if Region.wanted o (yielded ops a.tmps) then (o.quiet P a C K ∨ dies P o a C ch) else K (a.put o.dst undef)
theorem qOpD_of {i : Nat} {K : Act → Prop} {a : Act} (h : qOp P ops C i K a) : qOpD P ops C ch i K a := by
 unfold qOp at h
 unfold qOpD
 cases ho : ops[i]? with
 | none => simpa [ho] using h
 | some o =>
  simp only [ho] at h ⊢
  by_cases hw : Region.wanted o (yielded ops a.tmps) = true
  ·simp only [hw, if_true] at h ⊢; exact .inl h
  ·simp only [hw] at h ⊢; exact h
theorem qOpD_mono {i : Nat} {a : Act} {K K' : Act → Prop} (h : ∀ a, K a → K' a) (hh : qOpD P ops C ch i K a) : qOpD P ops C ch i K' a := by
 unfold qOpD at *
 cases ho : ops[i]? with
 | none => simp only [ho] at hh ⊢; exact h _ hh
 | some o =>
  simp only [ho] at hh ⊢
  by_cases hw : Region.wanted o (yielded ops a.tmps) = true
  ·simp only [hw, if_true] at hh ⊢
   rcases hh with hq | hd
   ·exact .inl (Oper.quiet_mono h hq)
   ·exact .inr hd
  ·simp only [hw] at hh ⊢; exact h _ hh
def wpAnyD (P : Program) (md : Region.Mode) (ops : Array Oper) (C : World → Prop) (ch : List PanicEntry) : Nat → Array Bool → Act → Prop
 | 0, listed, _ => Region.ready md ops listed = [] ∧ False
 | fuel + 1, listed, a => Region.ready md ops listed ≠ [] ∧ ∀ i ∈ Region.ready md ops listed, qOpD P ops C ch i (wpAnyD P md ops C ch fuel (listed.setIfInBounds i true)) a
theorem put_defers (a : Act) (dst : Option Tmp) (v : Value) : (a.put dst v).defers = a.defers := by cases dst <;> rfl
theorem wpAny_of_D {Q' : Exit → Act → World → Prop} (d : List Deferred) (hP : ∀ a w, a.defers = d → C w → Q' (.panic ch) a w) : ∀ (fuel : Nat) (listed : Array Bool) (a : Act) (w : World), a.defers = d → C w →
  wpAnyD P md ops C ch fuel listed a → wpAny P md ops Q' fuel listed a w
 | 0, _, _, _, _, _, h => h.2.elim
 | fuel + 1, listed, a, w, hd, hw, h => ⟨fun h0 => absurd h0 h.1, fun i hi => by
   have h1 := h.2 i hi
   unfold qOpD at h1
   unfold wpOp
   cases ho : ops[i]? with
   | none => simp only [ho] at h1 ⊢; exact wpAny_of_D d hP fuel _ _ _ hd hw h1
   | some o =>
    simp only [ho] at h1 ⊢
    by_cases hw2 : Region.wanted o (yielded ops a.tmps) = true
    ·simp only [hw2, if_true] at h1 ⊢
     rcases h1 with ⟨v, q1, q2⟩ | hd2
     ·have hq : o.quiet P a C (fun a' => a'.defers = d ∧ wpAnyD P md ops C ch fuel (listed.setIfInBounds i true) a') := ⟨v, q1, by rw [put_defers]; exact hd, q2⟩
      exact .inl (Oper.wp_of_quiet hw (fun a' w' hw' h' => wpAny_of_D d hP fuel _ a' w' h'.1 hw' h'.2) hq)
     ·obtain ⟨f, args, hr, hc⟩ := hd2 w hw
      refine .inl ?_
      unfold Oper.wp
      rw [hr]
      exact hc.mono fun e w'' ⟨he, hw''⟩ => by subst he; exact hP _ _ hd hw''
    ·simp only [hw2] at h1 ⊢; exact wpAny_of_D d hP fuel _ _ _ (by rw [put_defers]; exact hd) hw h1⟩
theorem qOpD_put {j : Nat} {oi oj : Oper} {v : Value} (hj : ops[j]? = some oj) (hap : oi.apart ops oj = true)
  (hsi : ∀ cs b, oi.op ≠ .select cs b) (hsj : ∀ cs b, oj.op ≠ .select cs b) {K : Act → Prop} {a : Act}
  (hy : YieldsIn P ops C oi v a) (h : qOpD P ops C ch j K (a.put oi.dst v)) :
  qOpD P ops C ch j (fun a' => YieldsIn P ops C oi v a' ∧ K (a'.put oi.dst v)) a := by
 obtain ⟨h1, h2, h3⟩ := Oper.apart_spec hap
 have keep : ∀ (a : Act), YieldsIn P ops C oi v a → ∀ u, YieldsIn P ops C oi v (a.put oj.dst u) := fun a hy u =>
  hy.of_same (execOp_put oi hsi a oj.dst u h3) (wanted_put oi a oj.dst u h3)
 unfold qOpD at *
 simp only [hj] at *
 rw [wanted_put oj a oi.dst v h1] at h
 by_cases hw : Region.wanted oj (yielded ops a.tmps) = true
 ·simp only [hw, if_true] at h ⊢
  rcases h with ⟨u, hu, hn⟩ | hd
  ·refine .inl ⟨u, fun w hw' => ?_, keep a hy u, by rw [← Act.put_comm a v u h2]; exact hn⟩
   have := hu w hw'
   unfold Oper.quietAt at *
   rwa [execOp_put oj hsj a oi.dst v h1] at this
  ·refine .inr fun w hw' => ?_
   have := hd w hw'
   rwa [execOp_put oj hsj a oi.dst v h1] at this
 ·simp only [hw] at h ⊢
  exact ⟨keep a hy _, by rw [← Act.put_comm a v undef h2]; exact h⟩
theorem wpAnyD_first {i : Nat} {oi : Oper} {v : Value} (hi : ops[i]? = some oi) (hsel : ∀ (j : Nat) (o : Oper) cs b, ops[j]? = some o → o.op ≠ .select cs b) :
  ∀ (fuel : Nat) (listed : Array Bool) (a : Act),
   (∀ j oj, ops[j]? = some oj → j ≠ i → listed.getD j true = false → (∀ e ∈ oj.after, Region.binds md e = true → e.on ≠ i) → oi.apart ops oj = true) →
   i ∈ Region.ready md ops listed → YieldsIn P ops C oi v a →
   wpAnyD P md ops C ch fuel (listed.setIfInBounds i true) (a.put oi.dst v) → wpAnyD P md ops C ch (fuel + 1) listed a := by
 intro fuel
 induction fuel with
 | zero => intro listed a _ _ _ H; exact H.2.elim
 | succ fuel ih =>
  intro listed a hfree hr hy H
  refine ⟨fun h => (by rw [h] at hr; cases hr), fun j hj => ?_⟩
  by_cases hji : j = i
  ·subst hji; exact qOpD_of (hy.qOp hi H)
  ·have h1 := H.2 j (ready_mono hj hji)
   obtain ⟨hjun, oj, hoj, hall⟩ := mem_ready.1 hj
   have hnot : ∀ e ∈ oj.after, Region.binds md e = true → e.on ≠ i := fun e he hb heq => by
    have h1 := hall e he hb
    have h0 := (mem_ready.1 hr).1
    rw [heq] at h1
    rcases Nat.lt_or_ge i listed.size with h' | h'
    ·simp [h'] at h0 h1; rw [h0] at h1; cases h1
    ·simp [Array.getElem?_eq_none h'] at h1
   have h2 := qOpD_put hoj (hfree j oj hoj hji hjun hnot) (fun cs b => hsel i oi cs b hi) (fun cs b => hsel j oj cs b hoj) hy h1
   have hfree' : ∀ k ok, ops[k]? = some ok → k ≠ i → (listed.setIfInBounds j true).getD k true = false →
     (∀ e ∈ ok.after, Region.binds md e = true → e.on ≠ i) → oi.apart ops ok = true := fun k ok hk hki hun hno => by
    refine hfree k ok hk hki ?_ hno
    by_cases hjk : j = k
    ·subst hjk; exact hjun
    ·rw [getD_set_ne true hjk] at hun; exact hun
   refine qOpD_mono (fun a' h3 => ih (listed.setIfInBounds j true) a' hfree' (ready_mono hr (Ne.symm hji)) h3.1 ?_) h2
   rw [Array.setIfInBounds_comm _ _ hji]
   exact h3.2
def ordB (md : Region.Mode) (ops : Array Oper) (k : Nat) : List Nat → Array Bool → Bool
 | [], listed => decide (Region.ready md ops listed = [k])
 | i :: is, listed => (Region.ready md ops listed).contains i && Region.free md ops listed i && ordB md ops k is (listed.setIfInBounds i true)
theorem wpAnyD_ord {k : Nat} {ok : Oper} (hk : ops[k]? = some ok) (hs : Region.noSelect ops = true) (extra : Nat) : ∀ (is : List Nat) (lo : List Oper) (listed : Array Bool) (a : Act), lo.length = is.length → (∀ (n i : Nat) (o : Oper), is[n]? = some i → lo[n]? = some o → ops[i]? = some o) →
  ordB md ops k is listed = true → wpQuiet P ops C (fun a' => Region.wanted ok (yielded ops a'.tmps) = true ∧ dies P ok a' C ch) lo a → wpAnyD P md ops C ch (is.length + 1 + extra) listed a
 | [], lo, listed, a, hl, _, hB, h => by
  obtain rfl : lo = [] := List.eq_nil_of_length_eq_zero hl
  have hr : Region.ready md ops listed = [k] := by simpa [ordB] using hB
  rw [show ([] : List Nat).length + 1 + extra = extra + 1 from by simp; omega]
  refine ⟨by rw [hr]; simp, fun i hi => ?_⟩
  rw [hr] at hi
  have : i = k := by simpa using hi
  subst this
  obtain ⟨h1, h2⟩ : Region.wanted ok (yielded ops a.tmps) = true ∧ dies P ok a C ch := h
  unfold qOpD
  simp only [hk, h1, if_true]
  exact .inr h2
 | i :: is, [], _, _, hl, _, _, _ => by simp at hl
 | i :: is, o :: lo, listed, a, hl, ho, hB, h => by
  have h0 : ops[i]? = some o := ho 0 i o rfl rfl
  simp only [ordB, Bool.and_eq_true] at hB
  obtain ⟨⟨hr, hf⟩, hB'⟩ := hB
  have hst : qOp P ops C i (wpQuiet P ops C (fun a' => Region.wanted ok (yielded ops a'.tmps) = true ∧ dies P ok a' C ch) lo) a := by unfold qOp; simp only [h0]; exact h
  obtain ⟨v, hy, hK⟩ := yieldsIn_of_qOp h0 hst
  rw [show (i :: is).length + 1 + extra = (is.length + 1 + extra) + 1 from by simp; omega]
  exact wpAnyD_first h0 (Region.noSelect_spec hs) _ listed a (Region.free_spec h0 hf) (by simpa using hr) hy
   (wpAnyD_ord hk hs extra is lo _ _ (by simpa using hl) (fun n j o hj hlo => ho (n + 1) j o (by simpa using hj) (by simpa using hlo)) hB' hK)
inductive Picks (ops : Array Oper) : List Nat → List Oper → Prop where
 | nil : Picks ops [] []
 | cons {i : Nat} {is : List Nat} {o : Oper} {lo : List Oper} (h : ops[i]? = some o) (t : Picks ops is lo) : Picks ops (i :: is) (o :: lo)
theorem ord_spec {is : List Nat} {lo : List Oper} (h : Picks ops is lo) : lo.length = is.length ∧ ∀ (n i : Nat) (o : Oper), is[n]? = some i → lo[n]? = some o → ops[i]? = some o := by
 induction h with
 | nil => exact ⟨rfl, fun n i o h => by simp at h⟩
 | cons h t ih =>
  refine ⟨by simp [ih.1], fun n i o hi ho => ?_⟩
  cases n with
  | zero => simp at hi ho; subst hi; subst ho; exact h
  | succ n => exact ih.2 n i o (by simpa using hi) (by simpa using ho)
theorem wp_region_dies {id : Nat} {Q : Exit → Act → World → Prop} {a : Act} {w : World} {l : List Oper} (is : List Nat) (k : Nat) (ok : Oper) (lo : List Oper) (hm : P.follows .mixedOrders = true)
  (hk : l.toArray[k]? = some ok) (hlo : Picks l.toArray is lo) (hlen : is.length < l.length) (hs : Region.noSelect l.toArray = true) (hB : ordB .any l.toArray k is (Array.replicate l.length false) = true)
  (h : wpQuiet P l.toArray (fun w' => ∃ n, w' = w.drewN n) (fun a' => Region.wanted ok (yielded l.toArray a'.tmps) = true ∧ dies P ok a' (fun w' => ∃ n, w' = w.drewN n) ch) lo a)
  (hQ : ∀ a' w', a'.defers = a.defers → (∃ n, w' = w.drewN n) → Q (.panic ch) a' w') : (Code.region id l.toArray true).wp P Q a w := by
 obtain ⟨e1, e2⟩ := ord_spec hlo
 have H := wpAnyD_ord (P := P) (md := .any) hk hs (l.length - is.length - 1) is lo _ a e1 e2 hB h
 rw [show is.length + 1 + (l.length - is.length - 1) = l.length from by omega] at H
 refine wp_region_any hm ?_
 have := wpAny_of_D (Q' := Q) a.defers hQ _ _ _ w.drew rfl ⟨1, rfl⟩ H
 simpa using this
theorem picks_range (l : List Oper) : ∀ (n m : Nat), m + n ≤ l.length → Picks l.toArray (List.range' m n) ((l.drop m).take n)
 | 0, m, _ => by simp; exact Picks.nil
 | n + 1, m, h => by
  have hm : m < l.length := by omega
  rw [List.range'_succ, List.drop_eq_getElem_cons hm, List.take_succ_cons]
  exact Picks.cons (by simp [List.getElem?_eq_getElem hm]) (picks_range l n (m + 1) (by omega))
theorem Picks.append {is js : List Nat} {lo lp : List Oper} (h : Picks ops is lo) (g : Picks ops js lp) : Picks ops (is ++ js) (lo ++ lp) := by
 induction h with
 | nil => exact g
 | cons h t ih => exact Picks.cons h ih
theorem wp_region_dies_at {id : Nat} {Q : Exit → Act → World → Prop} {a : Act} {w : World} {l : List Oper} (n1 m n2 k : Nat) (ok : Oper) (hm : P.follows .mixedOrders = true)
  (hk : l.toArray[k]? = some ok) (hlen : n1 ≤ l.length ∧ m + n2 ≤ l.length ∧ n1 + n2 < l.length) (hs : Region.noSelect l.toArray = true) (hB : ordB .any l.toArray k (List.range' 0 n1 ++ List.range' m n2) (Array.replicate l.length false) = true)
  (h : wpQuiet P l.toArray (fun w' => ∃ n, w' = w.drewN n) (fun a' => Region.wanted ok (yielded l.toArray a'.tmps) = true ∧ dies P ok a' (fun w' => ∃ n, w' = w.drewN n) ch) (l.take n1 ++ (l.drop m).take n2) a)
  (hQ : ∀ a' n, a'.defers = a.defers → Q (.panic ch) a' (w.drewN n)) : (Code.region id l.toArray true).wp P Q a w :=
 wp_region_dies (List.range' 0 n1 ++ List.range' m n2) k ok (l.take n1 ++ (l.drop m).take n2) hm hk (by
  have h1 := picks_range l n1 0 (by omega)
  rw [List.drop_zero] at h1
  exact h1.append (picks_range l n2 m (by omega))) (by simp; omega) hs hB h (fun a' w' hd ⟨n, e⟩ => by rw [e]; exact hQ a' n hd)
theorem dies_end {o : Oper} {a : Act} {w : World} (f : Nat) (args : Array Value) (hr : ∀ n, (execOp a.eval o).run P (w.drewN n) = .ok (.enter f args) (w.drewN n))
  (hc : ∀ n, Calls P f args (w.drewN n) fun e w' => e = .panicked ch ∧ ∃ m, w' = (w.drewN n).drewN m) : dies P o a (fun w' => ∃ n, w' = w.drewN n) ch := by
 rintro w' ⟨n, rfl⟩
 exact ⟨f, args, hr n, (hc n).mono fun e w'' ⟨he, m, hm⟩ => ⟨he, n + m, by rw [hm, World.drewN_drewN]⟩⟩
end
end Go.Proofs.YtnbchikiiipejaaGreatDoor.Mem
namespace Go.Proofs.YtnbchikiiipejaaGreatDoor.Mem
open Go.RowKit
theorem hide {p : Prop} (h : p) : Hid p := h
theorem unhide {p : Prop} (h : Hid p) : p := h
def Row (k : IntKind) (w : World) (A : Option Addr) (n : Nat) (zs : List Int) : Prop :=
 zs.length = n ∧ (∀ z ∈ zs, (Lit.int k z).wf = true) ∧ (0 < n → ∃ b off, A = some ⟨b, off, none⟩ ∧ ∀ j, j < n → w.cell? ⟨b, off + j, none⟩ = some (.int k (zs.getD j 0)))
section
variable {k : IntKind} {w w' : World} {A : Option Addr} {n : Nat} {zs : List Int}
theorem Row.at_ (h : Row k w A n zs) (hn : 0 < n) : ∃ b off, A = some ⟨b, off, none⟩ ∧ b < w.heap.size ∧ ∀ j, j < n → w.cell? ⟨b, off + j, none⟩ = some (.int k (zs.getD j 0)) := by
 obtain ⟨b, off, e, hc⟩ := h.2.2 hn
 exact ⟨b, off, e, World.block_lt_of_cell? w _ (hc 0 hn), hc⟩
theorem Row.keep (h : Row k w A n zs) (hk : ∀ p : Addr, p.block < w.heap.size → w'.cell? p = w.cell? p) : Row k w' A n zs :=
 ⟨h.1, h.2.1, fun hn => by
  obtain ⟨b, off, e, hb, hc⟩ := h.at_ hn
  exact ⟨b, off, e, fun j hj => (hk ⟨b, off + j, none⟩ hb).trans (hc j hj)⟩⟩
theorem Row.below (h : Row k w A n zs) (hb : Below w.heap.size w w') : Row k w' A n zs := h.keep fun _ hp => hb.cell hp
theorem Row.drewN (h : Row k w A n zs) (m : Nat) : Row k (w.drewN m) A n zs := h
theorem Row.alloc (h : Row k w A n zs) (o : Obj) : Row k (w.alloc o) A n zs := h.keep fun p hp => World.cell?_alloc_lt w o p hp
theorem Row.nil : Row k w A 0 [] := ⟨rfl, (fun _ h => by cases h), fun h => absurd h (by omega)⟩
theorem Row.wf_getD (h : Row k w A n zs) (j : Nat) (hj : j < n) : (Lit.int k (zs.getD j 0)).wf = true := by
 have hl : j < zs.length := by rw [h.1]; exact hj
 have : zs.getD j 0 = zs[j] := by simp [List.getD, List.getElem?_eq_getElem hl]
 rw [this]; exact h.2.1 _ (List.getElem_mem hl)
theorem Row.of_own {base : Nat} {e : TypeId} {v : Value} (h : w.ownsRow base e 1 v n (zs.map (Value.int k))) (hz : ∀ z ∈ zs, (Lit.int k z).wf = true) :
  ∃ A c, v = .slice A n c ∧ n ≤ c ∧ Row k w A n zs := by
 have hl : zs.length = n := by simpa using h.1
 rcases h.2 with ⟨rfl, rfl⟩ | ⟨g, cap, cur, rfl, hb, hg, hnc, hm, hs, ht⟩
 ·have : zs = [] := List.eq_nil_of_length_eq_zero hl
  subst this
  exact ⟨none, 0, rfl, Nat.le_refl _, Row.nil⟩
 ·refine ⟨_, cap, rfl, hnc, hl, hz, fun hn => ⟨g, 0, rfl, fun j hj => ?_⟩⟩
  have := h.cells (g := g) rfl j (.int k (zs.getD j 0)) (by rw [List.getElem?_map, List.getElem?_eq_getElem (by omega)]; simp [List.getD, List.getElem?_eq_getElem (show j < zs.length by omega)])
  have hp : (⟨g, 0, none⟩ : Addr).add j = ⟨g, 0 + j, none⟩ := by unfold Addr.add; split <;> simp_all
  rwa [hp] at this
end
theorem below_drewN {B : Nat} {a w : World} (h : Below B a w) (n : Nat) : Below B a (w.drewN n) := ⟨h.os, h.tape, h.output, h.size, h.block⟩
end Go.Proofs.YtnbchikiiipejaaGreatDoor.Mem
namespace Go.Proofs.YtnbchikiiipejaaGreatDoor.Mem
open Go.RowKit
theorem Row.news {k : IntKind} {w : World} {ad : Addr} {m : Nat} {ys : List Int} (h : Row k w (some ad) m ys) : ∀ j u, (ys.map (Value.int k))[j]? = some u → w.cell? (ad.add j) = some u := by
 intro j u hu
 have hj : j < ys.length := by
  rcases Nat.lt_or_ge j ys.length with h1 | h1
  ·exact h1
  ·rw [List.getElem?_eq_none (by simpa using h1)] at hu; cases hu
 obtain ⟨b, off, e, hc⟩ := h.2.2 (by have := h.1; omega)
 injection e with e
 subst e
 have hp : (⟨b, off, none⟩ : Addr).add j = ⟨b, off + j, none⟩ := by unfold Addr.add; split <;> simp_all
 rw [hp, hc j (by have := h.1; omega)]
 rw [List.getElem?_map, List.getElem?_eq_getElem hj] at hu
 simp [List.getD, List.getElem?_eq_getElem hj] at hu ⊢
 exact hu
theorem one_ints (k : IntKind) (ys : List Int) : ∀ u ∈ ys.map (Value.int k), u.oneCell' = true := by
 intro u hu
 obtain ⟨z, _, rfl⟩ := List.mem_map.1 hu
 rfl
section
variable {P : Program}
theorem run_app_nil {w : World} {base : Nat} (t ty e : TypeId) (i : TypeInfo) (size : Nat) (ht : P.underlying t = some (.slice e)) (hi : P.info? e = some i)
  {v : Value} {n : Nat} {xs : List Value} (hown : w.ownsRow base e size v n xs) (c : Nat) : (Builtin.append_ #[t, t] ty #[v, .slice none 0 c]).run P w = .ok v w := by
 rcases hown.2 with ⟨rfl, rfl⟩ | ⟨g, cap, cur, rfl, _, _, hnc, _⟩
 ·simp [Builtin.append_, run_underlying ht, sizeOf, typeInfo, hi, Builtin.lenOf, Builtin.firstCells]
 ·simp [Builtin.append_, run_underlying ht, sizeOf, typeInfo, hi, Builtin.lenOf, Builtin.firstCells, hnc, storeCells]
theorem run_app {w : World} (k : IntKind) (base : Nat) (t ty e : TypeId) (i : TypeInfo) (bytes : Nat) (ht : P.underlying t = some (.slice e)) (hi : P.info? e = some i) (hz : i.zero = some (.int k 0))
  (hsize : i.size = 1) (hby : i.bytes = bytes) (hb8 : bytes ≤ 8)
  {v : Value} {n : Nat} {xs : List Int} (hown : w.ownsRow base e 1 v n (xs.map (Value.int k)))
  {A : Option Addr} {m c : Nat} {ys : List Int} (hr : Row k w A m ys) (hbig : n + m ≤ 1000000000) (hbase : base ≤ w.heap.size) :
  ∃ v' w', (Builtin.append_ #[t, t] ty #[v, .slice A m c]).run P w = .ok v' w' ∧ w'.ownsRow base e 1 v' (n + m) ((xs ++ ys).map (Value.int k)) ∧ w.grownBy w' v.ownBlock ∧ (v'.ownBlock = v.ownBlock ∨ v'.ownBlock = some w.heap.size) := by
 have hsum : (n + m) * bytes ≤ 140737488355328 := by
  have := Nat.mul_le_mul hbig hb8
  omega
 rcases A with _ | ad
 ·have hm : m = 0 := by
   rcases Nat.eq_zero_or_pos m with h0 | h0
   ·exact h0
   ·obtain ⟨_, _, h, _⟩ := hr.2.2 h0
    cases h
  subst hm
  have : ys = [] := List.eq_nil_of_length_eq_zero hr.1
  subst this
  exact ⟨v, w, run_app_nil t ty e i 1 ht hi hown c, by simpa using hown, World.grownBy.refl w _, .inl rfl⟩
 ·obtain ⟨v', w', h1, h2, h3, _, h5⟩ := run_append_own_at (P := P) w base t ty e i (.int k 0) 1 bytes ht hi hz hsize hby rfl (by omega) v n (xs.map (Value.int k)) hown ad m c (ys.map (Value.int k))
   (by rw [List.length_map, hr.1, Nat.mul_one]) hr.news (one_ints k ys) (by simp only [maxLen]; omega) hsum hbase
  exact ⟨v', w', h1, by rw [List.map_append]; exact h2, h3, h5⟩
theorem wpList_app {w : World} {ops : Array Oper} {rest : List Oper} {o : Oper} {a : Act} {Q : Exit → Act → World → Prop} (hgd : o.guard = none) (s x : Operand) (t : TypeId)
  (ho : o.op = .call { callee := .builtin .append, args := #[s, x], argTypes := #[t, t] })
  (k : IntKind) (base : Nat) (e : TypeId) (i : TypeInfo) (bytes : Nat) (ht : P.underlying t = some (.slice e)) (hi : P.info? e = some i) (hz : i.zero = some (.int k 0))
  (hsize : i.size = 1) (hby : i.bytes = bytes) (hb8 : bytes ≤ 8)
  (v : Value) (n : Nat) (xs : List Int) (hs : a.eval s = v) (hown : w.ownsRow base e 1 v n (xs.map (Value.int k)))
  (A : Option Addr) (m c : Nat) (ys : List Int) (hx : a.eval x = .slice A m c) (hr : Row k w A m ys) (hbig : n + m ≤ 1000000000) (hbase : base ≤ w.heap.size)
  (h : ∀ v' w', w'.ownsRow base e 1 v' (n + m) ((xs ++ ys).map (Value.int k)) → w.grownBy w' v.ownBlock → (v'.ownBlock = v.ownBlock ∨ v'.ownBlock = some w.heap.size) → wpList P ops Q rest (a.put o.dst v') w') :
  wpList P ops Q (o :: rest) a w := by
 refine wpList_plain hgd fun K hK => ?_
 obtain ⟨v', w', hrun, h2, h3, h4⟩ := run_app (P := P) k base t o.type e i bytes ht hi hz hsize hby hb8 hown (c := c) hr hbig hbase
 unfold Oper.wp
 simp [execOp, ho, resolve, invoke, builtin, hs, hx, hrun, Result.andThen]
 exact hK _ _ (h v' w' h2 h3 h4)
end
theorem row_block {k : IntKind} {w : World} {g : Nat} {cs : Array Value} {t : TypeId} {fr : Nat × Nat} (hb : w.heap[g]? = some (.cells cs t fr)) (zs : List Int) (hcs : cs = (zs.map (Value.int k)).toArray) (n : Nat) (hn : zs.length = n)
  (hz : ∀ z ∈ zs, (Lit.int k z).wf = true) : Row k w (some ⟨g, 0, none⟩) n zs := by
 subst hcs
 refine ⟨hn, hz, fun _ => ⟨g, 0, rfl, fun j hj => ?_⟩⟩
 have hj' : j < zs.length := by omega
 have := World.news_of_block hb j (.int k (zs.getD j 0)) (by simp [List.getD, List.getElem?_eq_getElem hj'])
 have hp : (⟨g, 0, none⟩ : Addr).add j = ⟨g, 0 + j, none⟩ := by unfold Addr.add; split <;> simp_all
 rwa [hp] at this
theorem only_trans {a b c : World} {row row' : Option Nat} (h : a.grownBy b row) (k : b.grownBy c row') (hr : ∀ i, i < a.heap.size → some i = row' → some i = row) : a.grownBy c row :=
 ⟨k.os.trans h.os, k.tape.trans h.tape, k.output.trans h.output, Nat.le_trans h.size k.size, fun i hi hne =>
  (k.block i (Nat.lt_of_lt_of_le hi h.size) (fun e => hne (hr i hi e))).trans (h.block i hi hne)⟩
theorem only_drew {a w : World} {row : Option Nat} (h : a.grownBy w row) : a.grownBy w.drew row := ⟨h.os, h.tape, h.output, h.size, h.block⟩
end Go.Proofs.YtnbchikiiipejaaGreatDoor.Mem
namespace Go.Proofs.YtnbchikiiipejaaGreatDoor.Wd
open Go.Lib
def val (l : List UInt8) : Nat := l.foldl (fun a c => a * 10 + (c.toNat - 48)) 0
def isD (c : UInt8) : Prop := 48 ≤ c.toNat ∧ c.toNat ≤ 57
theorem fold_val : ∀ (l : List UInt8) (a : Nat), l.foldl (fun a c => a * 10 + (c.toNat - 48)) a = a * 10 ^ l.length + val l
 | [], a => by simp [val]
 | c :: r, a => by
  unfold val
  rw [List.foldl_cons, List.foldl_cons, fold_val r, fold_val r (0 * 10 + (c.toNat - 48)), List.length_cons, Nat.pow_succ]
  rw [Nat.zero_mul, Nat.zero_add, Nat.add_mul, Nat.mul_assoc, Nat.mul_comm 10]
  omega
theorem val_append (a b : List UInt8) : val (a ++ b) = val a * 10 ^ b.length + val b := by
 unfold val
 rw [List.foldl_append, fold_val]; rfl
theorem val_one (c : UInt8) : val [c] = c.toNat - 48 := by simp [val]
theorem dec_digits : ∀ (u : Nat), (∀ c ∈ decDigits u, isD c) ∧ val (decDigits u) = u ∧ 1 ≤ (decDigits u).length := by
 intro u
 induction u using Nat.strongRecOn with
 | _ u ih =>
  rw [decDigits]
  by_cases h : u < 10
  ·rw [dif_pos h]
   have e : (UInt8.ofNat (48 + u)).toNat = 48 + u := by simp only [UInt8.toNat_ofNat']; omega
   refine ⟨fun c hc => ?_, ?_, by simp⟩
   ·rw [List.mem_singleton] at hc; subst hc; unfold isD; omega
   ·rw [val_one, e]; omega
  ·rw [dif_neg h]
   obtain ⟨h1, h2, h3⟩ := ih (u / 10) (by omega)
   have e : (UInt8.ofNat (48 + u % 10)).toNat = 48 + u % 10 := by simp only [UInt8.toNat_ofNat']; omega
   refine ⟨fun c hc => ?_, ?_, by simp⟩
   ·rcases List.mem_append.1 hc with h4 | h4
    ·exact h1 c h4
    ·rw [List.mem_singleton] at h4; subst h4; unfold isD; omega
   ·rw [val_append, h2, val_one, e]; simp; omega
theorem dec_len (u : Nat) : 10 ^ ((decDigits u).length - 1) ≤ u ∨ u = 0 := by
 induction u using Nat.strongRecOn with
 | _ u ih =>
  rw [decDigits]
  by_cases h : u < 10
  ·rw [dif_pos h]; simp; omega
  ·rw [dif_neg h]
   left
   rw [List.length_append, List.length_singleton, Nat.add_sub_cancel]
   have h3 := (dec_digits (u / 10)).2.2
   rcases ih (u / 10) (by omega) with h1 | h1
   ·have : 10 ^ (decDigits (u / 10)).length = 10 ^ ((decDigits (u / 10)).length - 1) * 10 := by
     rw [← Nat.pow_succ]; congr 1; omega
    omega
   ·omega
theorem dec_len20 (u : Nat) (hu : u < 100000000000000000000) : (decDigits u).length ≤ 20 := by
 rcases dec_len u with h | h
 ·rcases Nat.lt_or_ge 20 (decDigits u).length with h1 | h1
  ·exfalso
   have : 10 ^ 20 ≤ 10 ^ ((decDigits u).length - 1) := Nat.pow_le_pow_right (by omega) (by omega)
   omega
  ·exact h1
 ·subst h
  rw [decDigits, dif_pos (by omega)]; simp
theorem dec_len19 (u : Nat) (hu : u < 10000000000000000000) : (decDigits u).length ≤ 19 := by
 rcases dec_len u with h | h
 ·rcases Nat.lt_or_ge 19 (decDigits u).length with h1 | h1
  ·exfalso
   have : 10 ^ 19 ≤ 10 ^ ((decDigits u).length - 1) := Nat.pow_le_pow_right (by omega) (by omega)
   omega
  ·exact h1
 ·subst h
  rw [decDigits, dif_pos (by omega)]; simp
def st (l : List UInt8) : Nat → Nat
 | 0 => 0
 | k + 1 => if k = 0 ∧ (l.getD 0 0).toNat = 45 then 0 else 10 * st l k + ((l.getD k 0).toNat - 48)
end Go.Proofs.YtnbchikiiipejaaGreatDoor.Wd
namespace Go.Proofs.YtnbchikiiipejaaGreatDoor.Mem
open Go.RowKit
def SRow (w : World) (A : Option Addr) (n : Nat) (ss : List ByteArray) : Prop :=
 ss.length = n ∧ (0 < n → ∃ b off, A = some ⟨b, off, none⟩ ∧ b < w.heap.size ∧ ∀ j, j < n → w.cell? ⟨b, off + j, none⟩ = some (.string (ss.getD j ByteArray.empty)))
theorem SRow.below {w w' : World} {A : Option Addr} {n : Nat} {ss : List ByteArray} (h : SRow w A n ss) (hb : Below w.heap.size w w') : SRow w' A n ss :=
 ⟨h.1, fun hn => by
  obtain ⟨b, off, e, hl, hc⟩ := h.2 hn
  exact ⟨b, off, e, Nat.lt_of_lt_of_le hl hb.size, fun j hj => (hb.cell (p := ⟨b, off + j, none⟩) hl).trans (hc j hj)⟩⟩
theorem SRow.nil {w : World} {A : Option Addr} : SRow w A 0 [] := ⟨rfl, fun h => absurd h (by omega)⟩
theorem SRow.of_own {w : World} {base : Nat} {e : TypeId} {v : Value} {n : Nat} {ss : List ByteArray} (h : w.ownsRow base e 1 v n (ss.map Value.string)) :
  ∃ A c, v = .slice A n c ∧ n ≤ c ∧ SRow w A n ss := by
 have hl : ss.length = n := by simpa using h.1
 rcases h.2 with ⟨rfl, rfl⟩ | ⟨g, cap, cur, rfl, hb, hg, hnc, hm, hs, ht⟩
 ·have : ss = [] := List.eq_nil_of_length_eq_zero hl
  subst this
  exact ⟨none, 0, rfl, Nat.le_refl _, SRow.nil⟩
 ·refine ⟨_, cap, rfl, hnc, hl, fun hn => ?_⟩
  have hcell : ∀ j, j < n → w.cell? ⟨g, 0 + j, none⟩ = some (.string (ss.getD j ByteArray.empty)) := fun j hj => by
   have := h.cells (g := g) rfl j (.string (ss.getD j ByteArray.empty)) (by rw [List.getElem?_map, List.getElem?_eq_getElem (by omega)]; simp [List.getD, List.getElem?_eq_getElem (show j < ss.length by omega)])
   have hp : (⟨g, 0, none⟩ : Addr).add j = ⟨g, 0 + j, none⟩ := by unfold Addr.add; split <;> simp_all
   rwa [hp] at this
  exact ⟨g, 0, rfl, World.block_lt_of_cell? w _ (hcell 0 hn), hcell⟩
section
variable {P : Program}
theorem run_app_str {w : World} (base : Nat) (t ty e : TypeId) (i : TypeInfo) (z : Value) (ht : P.underlying t = some (.slice e)) (hi : P.info? e = some i) (hz : i.zero = some z) (hz1 : z.cells.size = 1)
  (hsize : i.size = 1) (hby : i.bytes = 16) {v : Value} {n : Nat} {xs : List ByteArray} (hown : w.ownsRow base e 1 v n (xs.map Value.string))
  (g c : Nat) (s : ByteArray) (hc : w.cell? ⟨g, 0, none⟩ = some (.string s)) (hbig : n ≤ 1000000) (hbase : base ≤ w.heap.size) :
  ∃ v' w', (Builtin.append_ #[t, t] ty #[v, .slice (some ⟨g, 0, none⟩) 1 c]).run P w = .ok v' w' ∧ w'.ownsRow base e 1 v' (n + 1) ((xs ++ [s]).map Value.string) ∧ w.grownBy w' v.ownBlock ∧ (v'.ownBlock = v.ownBlock ∨ v'.ownBlock = some w.heap.size) := by
 obtain ⟨v', w', h1, h2, h3, _, h5⟩ := run_append_own_at (P := P) w base t ty e i z 1 16 ht hi hz hsize hby hz1 (by omega) v n (xs.map Value.string) hown ⟨g, 0, none⟩ 1 c [.string s]
  (by simp) (fun j u hu => by
    match j with
    | 0 =>
     simp at hu; subst hu
     have hp : (⟨g, 0, none⟩ : Addr).add 0 = ⟨g, 0, none⟩ := by unfold Addr.add; split <;> simp_all
     rw [hp]; exact hc
    | j + 1 => simp at hu) (by intro u hu; simp at hu; subst hu; rfl) (by simp only [maxLen]; omega) (by omega) hbase
 exact ⟨v', w', h1, by rw [List.map_append]; exact h2, h3, h5⟩
theorem wpList_app_str {w : World} {ops : Array Oper} {rest : List Oper} {o : Oper} {a : Act} {Q : Exit → Act → World → Prop} (hgd : o.guard = none) (s x : Operand) (t : TypeId)
  (ho : o.op = .call { callee := .builtin .append, args := #[s, x], argTypes := #[t, t] })
  (base : Nat) (e : TypeId) (i : TypeInfo) (z : Value) (ht : P.underlying t = some (.slice e)) (hi : P.info? e = some i) (hz : i.zero = some z) (hz1 : z.cells.size = 1)
  (hsize : i.size = 1) (hby : i.bytes = 16) (v : Value) (n : Nat) (xs : List ByteArray) (hs : a.eval s = v) (hown : w.ownsRow base e 1 v n (xs.map Value.string))
  (g c : Nat) (y : ByteArray) (hx : a.eval x = .slice (some ⟨g, 0, none⟩) 1 c) (hc : w.cell? ⟨g, 0, none⟩ = some (.string y)) (hbig : n ≤ 1000000) (hbase : base ≤ w.heap.size)
  (h : ∀ v' w', w'.ownsRow base e 1 v' (n + 1) ((xs ++ [y]).map Value.string) → w.grownBy w' v.ownBlock → (v'.ownBlock = v.ownBlock ∨ v'.ownBlock = some w.heap.size) → wpList P ops Q rest (a.put o.dst v') w') :
  wpList P ops Q (o :: rest) a w := by
 refine wpList_plain hgd fun K hK => ?_
 obtain ⟨v', w', hrun, h2, h3, h4⟩ := run_app_str (P := P) base t o.type e i z ht hi hz hz1 hsize hby hown g c y hc hbig hbase
 unfold Oper.wp
 simp [execOp, ho, resolve, invoke, builtin, hs, hx, hrun, Result.andThen]
 exact hK _ _ (h v' w' h2 h3 h4)
end
end Go.Proofs.YtnbchikiiipejaaGreatDoor.Mem
