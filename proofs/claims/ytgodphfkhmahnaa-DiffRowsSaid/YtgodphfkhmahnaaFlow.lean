/- A region that draws its order and makes memory in several places (append(append(s, a...), b), a literal, an alloc): in whatever order its operations come, what each one is known to yield holds at the end; nothing of the program. -/
import Derived.Test.YtgodphfkhmahnaaOwn
import Derived.Orders
import Derived.OrdersHeld
namespace Go.Proofs.Ytgodphfkhmahnaa.Mem
open Go.RowKit
set_option linter.unusedVariables false

def upd (x : Nat → Value) (i : Nat) (v : Value) : Nat → Value := fun j => bif Nat.beq j i then v else x j
theorem upd_same (x : Nat → Value) (i : Nat) (v : Value) : upd x i v i = v := by simp [upd]
theorem upd_else (x : Nat → Value) {i j : Nat} (v : Value) (h : j ≠ i) : upd x i v j = x j := by
  have : Nat.beq j i = false := by
    cases hb : Nat.beq j i
    · rfl
    · exact absurd (Nat.eq_of_beq_eq_true hb) h
  simp [upd, this]
def blkOf : Value → Option Nat
  | .slice (some a) _ _ => some a.block
  | .pointer (some a) => some a.block
  | _ => none
def on (L : Array Bool) (i : Nat) : Prop := L.getD i false = true
/-- what is needed of a region: k is its last operation, which waits for all the others; R what each one yields; sup which one takes another one's block over -/
structure Flow (P : Program) (ops : Array Oper) (Q : Exit → Act → World → Prop) (k : Nat) (W0 : World) (act : (Nat → Value) → Act) (R : Nat → (Nat → Value) → World → Prop) (sup : Nat → Option Nat) (bk : Nat → Value → Option Nat) : Prop where
  size : ops.size = k + 1
  dag : ∀ (i : Nat) (o : Oper), ops[i]? = some o → ∀ e ∈ o.after, e.on < i
  phase : ∀ L : Array Bool, k ∈ Region.ready .any ops L → ∀ j, j < k → on L j
  keep : ∀ (j : Nat) (x : Nat → Value) (W W' : World) (t : Option Nat), R j x W → W.grownBy W' t → (∀ g, t = some g → W0.heap.size ≤ g ∧ bk j (x j) ≠ some g) → W0.heap.size ≤ W.heap.size → R j x W'
  young : ∀ (j : Nat) (x : Nat → Value) (W : World), R j x W → ∀ g, bk j (x j) = some g → g < W.heap.size
  loc : ∀ (j : Nat) (x x' : Nat → Value) (W : World), j < k → x' j = x j → (∀ o, ops[j]? = some o → ∀ e ∈ o.after, Region.binds .any e = true → x' e.on = x e.on) → R j x W → R j x' W
  step : ∀ i, i < k → ∀ (L : Array Bool) (x : Nat → Value) (W : World), W0.grownBy W none → (∀ j, j < k → on L j → (∀ s, sup j = some s → ¬ on L s) → R j x W) → i ∈ Region.ready .any ops L → ¬ on L i →
    (∀ o, ops[i]? = some o → ∀ e ∈ o.after, Region.binds .any e = true → on L e.on) →
    ∀ K : Act → World → Prop, (∀ (v : Value) (W' : World) (t : Option Nat), W.grownBy W' t → (∀ g, t = some g → W0.heap.size ≤ g ∧ ∃ d, d < k ∧ sup d = some i ∧ on L d ∧ bk d (x d) = some g) →
      (∀ g, bk i v = some g → W.heap.size ≤ g ∨ g < W0.heap.size ∨ ∃ d, d < k ∧ sup d = some i ∧ on L d ∧ bk d (x d) = some g) → R i (upd x i v) W' → K (act (upd x i v)) W') → wpOp P ops Q i K (act x) W
  last : ∀ (x : Nat → Value) (W : World), W0.grownBy W none → (∀ j, j < k → sup j = none → R j x W) → wpOp P ops Q k (Q .normal) (act x) W
def dagB (ops : Array Oper) : Bool := (List.range ops.size).all fun i => ((ops[i]?).map fun o => o.after.toList.all fun e => decide (e.on < i)).getD true
theorem dag_of {ops : Array Oper} (h : dagB ops = true) : ∀ (i : Nat) (o : Oper), ops[i]? = some o → ∀ e ∈ o.after, e.on < i := fun i o ho e he => by
  have hi : i < ops.size := (Array.getElem?_eq_some_iff.1 ho).1
  have := List.all_eq_true.1 h i (List.mem_range.2 hi)
  rw [ho] at this
  simp only [Option.map_some, Option.getD_some] at this
  exact of_decide_eq_true (List.all_eq_true.1 this e (Array.mem_toList_iff.2 he))
def phaseB (ops : Array Oper) (k : Nat) : Bool := match ops[k]? with
  | some o => (List.range k).all fun j => o.after.toList.any fun e => Nat.beq e.on j && Region.binds .any e
  | none => false
theorem phase_of {ops : Array Oper} {k : Nat} (h : phaseB ops k = true) : ∀ L : Array Bool, k ∈ Region.ready .any ops L → ∀ j, j < k → on L j := fun L hr j hj => by
  obtain ⟨_, o, ho, hd⟩ := mem_ready.1 hr
  unfold phaseB at h
  rw [ho] at h
  have := List.all_eq_true.1 h j (List.mem_range.2 hj)
  obtain ⟨e, he, hb⟩ := List.any_eq_true.1 this
  simp only [Bool.and_eq_true] at hb
  have h2 := hd e (Array.mem_toList_iff.1 he) hb.2
  rw [Nat.eq_of_beq_eq_true hb.1] at h2
  exact h2
structure FInv (ops : Array Oper) (k : Nat) (R : Nat → (Nat → Value) → World → Prop) (sup : Nat → Option Nat) (bk : Nat → Value → Option Nat) (W0 : World) (L : Array Bool) (x : Nat → Value) (W : World) : Prop where
  size : L.size = k + 1
  open_ : ¬ on L k
  closed : ∀ j, on L j → ∀ o, ops[j]? = some o → ∀ e ∈ o.after, Region.binds .any e = true → on L e.on
  facts : ∀ j, j < k → on L j → (∀ s, sup j = some s → ¬ on L s) → R j x W
  apart : ∀ j j', j < k → j' < k → on L j → on L j' → (∀ s, sup j = some s → ¬ on L s) → (∀ s, sup j' = some s → ¬ on L s) → j ≠ j' → ∀ g, W0.heap.size ≤ g → bk j (x j) = some g → bk j' (x j') ≠ some g
  below : W0.grownBy W none
theorem countP_lt {p q : Nat → Bool} {i : Nat} : ∀ {l : List Nat}, (∀ x ∈ l, q x = true → p x = true) → i ∈ l → p i = true → q i = false → l.countP q < l.countP p
  | [], _, h, _, _ => by cases h
  | y :: l, h, hi, hp, hq => by
    have hle : l.countP q ≤ l.countP p := List.countP_mono_left (fun x hx => h x (List.mem_cons_of_mem _ hx))
    rcases List.mem_cons.1 hi with rfl | hi
    · rw [List.countP_cons_of_neg (by simp [hq]), List.countP_cons_of_pos (by exact hp)]; omega
    · have ih := countP_lt (fun x hx => h x (List.mem_cons_of_mem _ hx)) hi hp hq
      by_cases g : q y = true
      · rw [List.countP_cons_of_pos g, List.countP_cons_of_pos (h y (by simp) g)]; omega
      · rw [List.countP_cons_of_neg g]
        have := List.countP_cons (p := p) (a := y) (l := l)
        omega
def left (k : Nat) (L : Array Bool) : Nat := (List.range (k + 1)).countP fun j => !L.getD j false
theorem on_set {L : Array Bool} {i j : Nat} (hi : i < L.size) : on (L.setIfInBounds i true) j ↔ j = i ∨ on L j := by
  unfold on
  by_cases h : j = i
  · subst h; simp [Array.getD, hi]
  · have : (L.setIfInBounds i true).getD j false = L.getD j false := by
      simp only [Array.getD_eq_getD_getElem?]
      rw [Array.getElem?_setIfInBounds_ne (Ne.symm h)]
    rw [this]; simp [h]
theorem left_set {k : Nat} {L : Array Bool} {i : Nat} (hs : L.size = k + 1) (hi : i < k + 1) (h : ¬ on L i) : left k (L.setIfInBounds i true) < left k L := by
  refine countP_lt (i := i) (fun j hj h' => ?_) (List.mem_range.2 hi) (by unfold on at h; simpa using h) ?_
  · by_cases g : on L j
    · have : on (L.setIfInBounds i true) j := (on_set (by omega)).2 (.inr g)
      unfold on at this; rw [this] at h'; cases h'
    · unfold on at g; simpa using g
  · have : on (L.setIfInBounds i true) i := (on_set (by omega)).2 (.inl rfl)
    unfold on at this; rw [this]; rfl
theorem ready_all {ops : Array Oper} {L : Array Bool} (h : ∀ j, j < ops.size → on L j) : Region.ready .any ops L = [] := by
  cases hr : Region.ready .any ops L with
  | nil => rfl
  | cons i l =>
    have hi : i ∈ Region.ready .any ops L := by rw [hr]; simp
    obtain ⟨h0, o, ho, _⟩ := mem_ready.1 hi
    have hlt : i < ops.size := (Array.getElem?_eq_some_iff.1 ho).1
    have := h i hlt
    unfold on at this
    rcases Nat.lt_or_ge i L.size with hs | hs
    · simp [Array.getD, hs] at h0 this; rw [h0] at this; cases this
    · simp [Array.getD, Nat.not_lt.2 hs] at this
section
variable {P : Program} {ops : Array Oper} {Q : Exit → Act → World → Prop} {k : Nat} {W0 : World} {act : (Nat → Value) → Act} {R : Nat → (Nat → Value) → World → Prop} {sup : Nat → Option Nat} {bk : Nat → Value → Option Nat}
theorem off_true {L : Array Bool} {i : Nat} (hs : i < L.size) : L.getD i true = false ↔ ¬ on L i := by
  unfold on; simp [Array.getD, hs]
theorem Flow.some_ready (F : Flow P ops Q k W0 act R sup bk) {L : Array Bool} (hs : L.size = k + 1) : ∀ n, n ≤ k → ¬ on L n → ∃ i, i ∈ Region.ready .any ops L
  | n, hn, h => by
    obtain ⟨o, ho⟩ : ∃ o, ops[n]? = some o := ⟨_, Array.getElem?_eq_getElem (by rw [F.size]; omega)⟩
    by_cases hd : ∀ e ∈ o.after, Region.binds .any e = true → on L e.on
    · exact ⟨n, mem_ready.2 ⟨(off_true (by omega)).2 h, o, ho, hd⟩⟩
    · simp only [Classical.not_forall] at hd
      obtain ⟨e, he, _, hno⟩ := hd
      have hlt := F.dag n o ho e he
      exact F.some_ready hs e.on (by omega) hno
termination_by n => n
theorem flow_any (F : Flow P ops Q k W0 act R sup bk) : ∀ (fuel : Nat) (L : Array Bool) (x : Nat → Value) (W : World), FInv ops k R sup bk W0 L x W → left k L ≤ fuel → wpAny P .any ops Q fuel L (act x) W
  | 0, L, x, W, I, hf => by
    have := left_set (i := k) I.size (by omega) I.open_
    omega
  | fuel + 1, L, x, W, I, hf => by
    refine ⟨fun hr => ?_, fun i hi => ?_⟩
    · obtain ⟨i, hi⟩ := F.some_ready I.size k (Nat.le_refl _) I.open_
      rw [hr] at hi; cases hi
    · obtain ⟨h0, o, ho, hd⟩ := mem_ready.1 hi
      have hlt : i < k + 1 := by rw [← F.size]; exact (Array.getElem?_eq_some_iff.1 ho).1
      have hno : ¬ on L i := (off_true (by rw [I.size]; exact hlt)).1 h0
      by_cases hik : i = k
      · subst hik
        have hall := F.phase L hi
        refine wpOp_mono (fun a w hq => ?_) (F.last x W I.below (fun j hj hs => I.facts j hj (hall j hj) (fun s e => by rw [hs] at e; cases e)))
        have hr : Region.ready .any ops (L.setIfInBounds i true) = [] := ready_all (fun j hj => (on_set (by rw [I.size]; omega)).2 (by
          rw [F.size] at hj
          by_cases g : j = i
          · exact .inl g
          · exact .inr (hall j (by omega))))
        cases fuel with
        | zero => exact ⟨hr, hq⟩
        | succ f => exact ⟨fun _ => hq, fun j hj => by rw [hr] at hj; cases hj⟩
      · have hik' : i < k := by omega
        refine F.step i hik' L x W I.below I.facts hi hno (fun o' ho' => by rw [ho] at ho'; cases ho'; exact hd) _ (fun v W' t hg ht hv hR => flow_any F fuel _ _ W' ?_ (by have := left_set (i := i) I.size hlt hno; omega))
        have hon : ∀ j, on (L.setIfInBounds i true) j ↔ j = i ∨ on L j := fun j => on_set (by rw [I.size]; exact hlt)
        have hne : ∀ d j, sup d = some i → (∀ s, sup j = some s → ¬ on (L.setIfInBounds i true) s) → d ≠ j := fun d j h1 h2 e => by
          subst e; exact h2 i h1 ((hon i).2 (.inl rfl))
        have hold : ∀ j, (∀ s, sup j = some s → ¬ on (L.setIfInBounds i true) s) → ∀ s, sup j = some s → ¬ on L s := fun j h s hs g => h s hs ((hon s).2 (.inr g))
        have halive : ∀ d, sup d = some i → ∀ s, sup d = some s → ¬ on L s := fun d h s hs => by rw [h] at hs; cases hs; exact hno
        refine ⟨by rw [Array.size_setIfInBounds]; exact I.size, fun h => ?_, fun j hj o' ho' e he hb => ?_, fun j hj hj' ha => ?_, fun j j' hj hj' h1 h2 a1 a2 hjj g hg0 hb => ?_, ?_⟩
        · rcases (hon k).1 h with h | h
          · exact hik h.symm
          · exact I.open_ h
        · rcases (hon j).1 hj with rfl | h
          · rw [ho] at ho'; cases ho'; exact (hon _).2 (.inr (hd e he hb))
          · exact (hon _).2 (.inr (I.closed j h o' ho' e he hb))
        · rcases (hon j).1 hj' with rfl | h
          · exact hR
          · have hji : j ≠ i := by rintro rfl; exact hno h
            have h1 := I.facts j hj h (hold j ha)
            have h2 : R j x W' := F.keep j x W W' t h1 hg (fun g e => ⟨(ht g e).1, by
              obtain ⟨_, d, hdk, hsd, hod, hbd⟩ := ht g e
              exact I.apart d j hdk hj hod h (halive d hsd) (hold j ha) (hne d j hsd ha) g (ht g e).1 hbd⟩) I.below.size
            refine F.loc j x _ W' hj (upd_else x v hji) (fun o' ho' e he hb => upd_else x v ?_) h2
            intro e1
            exact hno (e1 ▸ I.closed j h o' ho' e he hb)
        · by_cases e1 : j = i
          · subst e1
            rw [upd_same] at hb
            have hj'i : j' ≠ j := Ne.symm hjj
            rw [upd_else x v hj'i]
            have ho2 : on L j' := ((hon j').1 h2).resolve_left hj'i
            intro hb'
            rcases hv g hb with q | q | ⟨d, hdk, hsd, hod, hbd⟩
            · have := F.young j' x W (I.facts j' hj' ho2 (hold j' a2)) g hb'; omega
            · omega
            · exact I.apart d j' hdk hj' hod ho2 (halive d hsd) (hold j' a2) (hne d j' hsd a2) g hg0 hbd hb'
          · rw [upd_else x v e1] at hb
            have ho1 : on L j := ((hon j).1 h1).resolve_left e1
            by_cases e2 : j' = i
            · subst e2
              rw [upd_same]
              intro hb'
              rcases hv g hb' with q | q | ⟨d, hdk, hsd, hod, hbd⟩
              · have := F.young j x W (I.facts j hj ho1 (hold j a1)) g hb; omega
              · omega
              · exact I.apart d j hdk hj hod ho1 (halive d hsd) (hold j a1) (hne d j hsd a1) g hg0 hbd hb
            · rw [upd_else x v e2]
              exact I.apart j j' hj hj' ho1 (((hon j').1 h2).resolve_left e2) (hold j a1) (hold j' a2) hjj g hg0 hb
        · exact only_trans I.below hg (fun b hb e => by have := (ht b e.symm).1; omega)
/-- the region begins -/
theorem flow_start (F : Flow P ops Q k W0 act R sup bk) (x : Nat → Value) : wpAny P .any ops Q ops.size (Array.replicate ops.size false) (act x) W0 := by
  have hno : ∀ j, ¬ on (Array.replicate ops.size false) j := fun j => by
    unfold on
    rcases Nat.lt_or_ge j ops.size with h | h
    · simp [Array.getD, h]
    · simp [Array.getD, Nat.not_lt.2 h]
  refine flow_any F _ _ x W0 ⟨by rw [Array.size_replicate]; exact F.size, hno k, fun j hj => absurd hj (hno j), fun j _ hj => absurd hj (hno j), fun j j' _ _ hj => absurd hj (hno j), World.grownBy.refl _ _⟩ ?_
  unfold left
  exact Nat.le_trans (List.countP_le_length) (by rw [List.length_range, F.size]; exact Nat.le_refl _)
end
end Go.Proofs.Ytgodphfkhmahnaa.Mem
