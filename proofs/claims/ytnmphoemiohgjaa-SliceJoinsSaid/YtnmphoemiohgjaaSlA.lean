/- Walks of the reference of slice: Partner, Open. -/
import Derived.Test.YtnmphoemiohgjaaSlMath
import Derived.Test.YtnmphoemiohgjaaTkMem
import Derived.LoopTactic
namespace Go.Proofs.Ytnmphoemiohgjaa.Sl
open Go.RowKit Mem Tk
set_option linter.unusedVariables false

def kinds (l : List Tk) : List Int := l.map Tk.k
theorem kinds_length (l : List Tk) : (kinds l).length = l.length := by simp [kinds]
theorem kinds_append (l m : List Tk) : kinds (l ++ m) = kinds l ++ kinds m := by simp [kinds]
theorem kinds_at (l : List Tk) (i : Nat) (h : i < l.length) : (kinds l)[i]'(by rw [kinds_length]; exact h) = l[i].k := by simp [kinds]
def pre (K : List Int) (i m : Nat) : Int := bal ((K.drop i).take m)
theorem pre_zero (K : List Int) (i : Nat) : pre K i 0 = 0 := by simp [pre, bal_nil]
theorem pre_succ (K : List Int) (i m : Nat) (h : i + m < K.length) : pre K i (m + 1) = pre K i m + wt K[i + m] := by
  unfold pre
  have hl : m < (K.drop i).length := by simp; omega
  rw [List.take_succ_eq_append_getElem hl, bal_append, List.getElem_drop]
  simp [bal_cons, bal_nil]
theorem wt_bd (c : Int) : -1 ≤ wt c ∧ wt c ≤ 1 := by unfold wt; split <;> (try split) <;> omega
theorem pre_bd (K : List Int) (i : Nat) : ∀ m, i + m ≤ K.length → -(m : Int) ≤ pre K i m ∧ pre K i m ≤ m := by
  intro m
  induction m with
  | zero => intro _; rw [pre_zero]; omega
  | succ m ih =>
    intro h
    have := ih (by omega)
    have := wt_bd (K[i + m]'(by omega))
    rw [pre_succ K i m (by omega)]; omega
theorem front_of (K : List Int) (i : Nat) (hi : i < K.length) (hk : K[i] = 1) : openFront (K.drop (i + 1)) = true ↔ ∀ m, i + m < K.length → pre K i (m + 1) ≠ 0 := by
  have hd : K.drop i = K[i] :: K.drop (i + 1) := List.drop_eq_getElem_cons hi
  have hp : ∀ m, pre K i (m + 1) = 1 + bal ((K.drop (i + 1)).take m) := by
    intro m; unfold pre; rw [hd, List.take_succ_cons, bal_cons, hk]; rfl
  unfold openFront
  rw [List.all_eq_true]
  constructor
  · intro h m hm
    rw [hp]
    cases m with
    | zero => simp [bal_nil]
    | succ m =>
      have := h m (List.mem_range.2 (by simp; omega))
      simpa using this
  · intro h j hj
    have hj' := List.mem_range.1 hj
    simp at hj'
    have := h (j + 1) (by omega)
    rw [hp] at this
    simpa using this
def post (K : List Int) (i m : Nat) : Int := bal ((K.take (i + 1)).drop (i + 1 - m))
theorem post_zero (K : List Int) (i : Nat) : post K i 0 = 0 := by
  unfold post; rw [List.drop_eq_nil_of_le (by simp; omega)]; rfl
theorem post_succ (K : List Int) (i m : Nat) (h : i < K.length) (hm : m ≤ i) : post K i (m + 1) = post K i m + wt (K[i - m]'(by omega)) := by
  unfold post
  have hl : i + 1 - (m + 1) < (K.take (i + 1)).length := by simp; omega
  rw [List.drop_eq_getElem_cons hl, bal_cons, List.getElem_take]
  have e : i + 1 - (m + 1) = i - m := by omega
  have e2 : i + 1 - (m + 1) + 1 = i + 1 - m := by omega
  rw [e2]
  simp only [e]
  omega
theorem post_bd (K : List Int) (i : Nat) (h : i < K.length) : ∀ m, m ≤ i + 1 → -(m : Int) ≤ post K i m ∧ post K i m ≤ m := by
  intro m
  induction m with
  | zero => intro _; rw [post_zero]; omega
  | succ m ih =>
    intro hm
    have := ih (by omega)
    have := wt_bd (K[i - m]'(by omega))
    rw [post_succ K i m h (by omega)]; omega
theorem back_of (K : List Int) (i : Nat) (hi : i < K.length) (hk : K[i] = 2) : openEnd (K.take i) = true ↔ ∀ m, m ≤ i → post K i (m + 1) ≠ 0 := by
  have ht : K.take (i + 1) = K.take i ++ [K[i]] := by rw [List.take_succ_eq_append_getElem hi]
  have hp : ∀ m, m ≤ i → post K i (m + 1) = bal ((K.take i).drop (i - m)) - 1 := by
    intro m hm; unfold post
    rw [ht, show i + 1 - (m + 1) = i - m by omega, List.drop_append_of_le_length (by simp; omega), bal_append, hk]; rfl
  unfold openEnd
  rw [List.all_eq_true]
  constructor
  · intro h m hm
    rw [hp m hm]
    cases m with
    | zero => rw [Nat.sub_zero, List.drop_eq_nil_of_le (by simp; omega)]; simp [bal_nil]
    | succ m =>
      have := h (i - (m + 1)) (List.mem_range.2 (by simp; omega))
      simpa using this
  · intro h j hj
    have hj' := List.mem_range.1 hj
    simp at hj'
    have := h (i - j) (by omega)
    rw [hp _ (by omega), show i - (i - j) = j by omega] at this
    simpa using this

def PNeg (neg : Bool) (w : World) (e : Ending) (w' : World) : Prop := ∃ r : Int, e = .returned (.int .i64 r) ∧ decide (r < 0) = neg ∧ w = w'
theorem wt1 : wt 1 = 1 := by decide
theorem wt2 : wt 2 = -1 := by decide
theorem wt0 {c : Int} (h1 : ¬ c = 1) (h2 : ¬ c = 2) : wt c = 0 := by simp [wt, h1, h2]

set_option maxHeartbeats 1000000 in
theorem partner_fwd (l : List Tk) (A : Option Addr) (n c i : Nat) (w : World) (hr : TRow w A n l) (hn : n ≤ 1000000) (hi : i < n) (hk : ∀ h : i < l.length, l[i].k = 1) :
    Calls Try.prog 11 #[.slice A n c, .int .i64 i] w (PNeg (openFront ((kinds l).drop (i + 1))) w) := by
  obtain ⟨hl, hrow⟩ := hr
  obtain ⟨b, off, rfl, hb, hc⟩ := hrow (by omega)
  have hi' : i < l.length := by omega
  have hk0 := hk hi'
  have FR := Lib.hid (front_of (kinds l) i (by rw [kinds_length]; exact hi') (by rw [kinds_at l i hi']; exact hk0))
  have hcell : ∀ j, (h : j < l.length) → w.cell? ⟨b, off + j * 12, none⟩ = some (.int .i64 l[j].k) := fun j h => (hc j h).cells.1
  have c0 := hcell i hi'
  rw [hk0] at c0
  have HC := Lib.hid hcell
  have HL := Lib.hid hl
  clear hc hrow hk hk0 hcell hl
  go_enter Try.func11, Try.ntmps11
  go_wp2
  go_loop [6, 7] (fun d s => ∃ m : Nat, i + m ≤ n ∧ s = .int .i64 ((i + m : Nat) : Int) ∧ d = .int .i64 (pre (kinds l) i m) ∧ Hid (∀ j, j < m → pre (kinds l) i (j + 1) ≠ 0)) (fun _ s => n - (intOf s).toNat)
  case atStart => exact ⟨0, by omega, by simp, by rw [pre_zero], fun j hj => absurd hj (by omega)⟩
  case round =>
    obtain ⟨m, hm, rfl, rfl, HJ⟩ := hrel
    have hbd := pre_bd (kinds l) i m (by rw [kinds_length, HL.out]; exact hm)
    by_cases hlt : i + m < n
    · have hlt' : i + m < l.length := by have := HL.out; omega
      have c1 := HC.out (i + m) hlt'
      have ps := pre_succ (kinds l) i m (by rw [kinds_length]; exact hlt')
      rw [kinds_at l (i + m) hlt'] at ps
      have PS := Lib.hid ps
      clear ps c0
      generalize hD : pre (kinds l) i m = D at hbd PS ⊢
      generalize hK : l[i + m].k = k at c1 PS
      clear hD hK
      by_cases h1 : k = 1
      · subst h1
        have PS' : Hid (pre (kinds l) i (m + 1) = D + 1) := Lib.hid (by rw [PS.out, wt1])
        clear PS
        by_cases h0 : D + 1 = 0
        · go_wp2
          go_ret
          exact ⟨_, rfl, by rw [Bool.eq_iff_iff, FR.out]; simp only [decide_eq_true_eq]; exact ⟨fun h => absurd h (by omega), fun h => absurd (h m (by rw [kinds_length]; exact hlt')) (by rw [PS'.out]; omega)⟩, rfl⟩
        · go_wp2
          go_round
          case rel => exact ⟨m + 1, by omega, by go_num, by rw [PS'.out], fun j hj => by
            by_cases hjm : j < m
            · exact HJ.out j hjm
            · obtain rfl : j = m := by omega
              rw [PS'.out]; exact h0⟩
          case measure => simp [intOf]; omega
      · by_cases h2 : k = 2
        · subst h2
          have PS' : Hid (pre (kinds l) i (m + 1) = D - 1) := Lib.hid (by rw [PS.out, wt2]; exact Int.sub_eq_add_neg.symm)
          clear PS
          by_cases h0 : D - 1 = 0
          · go_wp2
            go_ret
            exact ⟨_, rfl, by rw [Bool.eq_iff_iff, FR.out]; simp only [decide_eq_true_eq]; exact ⟨fun h => absurd h (by omega), fun h => absurd (h m (by rw [kinds_length]; exact hlt')) (by rw [PS'.out]; omega)⟩, rfl⟩
          · go_wp2
            go_round
            case rel => exact ⟨m + 1, by omega, by go_num, by rw [PS'.out], fun j hj => by
              by_cases hjm : j < m
              · exact HJ.out j hjm
              · obtain rfl : j = m := by omega
                rw [PS'.out]; exact h0⟩
            case measure => simp [intOf]; omega
        · have PS' : Hid (pre (kinds l) i (m + 1) = D) := Lib.hid (by rw [PS.out, wt0 h1 h2]; simp)
          clear PS
          by_cases h0 : D = 0
          · go_wp2
            go_ret
            exact ⟨_, rfl, by rw [Bool.eq_iff_iff, FR.out]; simp only [decide_eq_true_eq]; exact ⟨fun h => absurd h (by omega), fun h => absurd (h m (by rw [kinds_length]; exact hlt')) (by rw [PS'.out]; omega)⟩, rfl⟩
          · go_wp2
            go_round
            case rel => exact ⟨m + 1, by omega, by go_num, by rw [PS'.out], fun j hj => by
              by_cases hjm : j < m
              · exact HJ.out j hjm
              · obtain rfl : j = m := by omega
                rw [PS'.out]; exact h0⟩
            case measure => simp [intOf]; omega
    · clear c0
      go_wp2
      go_ret
      exact ⟨_, rfl, by rw [Bool.eq_iff_iff, FR.out]; simp only [decide_eq_true_eq]; exact ⟨fun _ j hj => HJ.out j (by rw [kinds_length, HL.out] at hj; omega), fun _ => by omega⟩, rfl⟩
set_option maxHeartbeats 1000000 in
theorem partner_back (l : List Tk) (A : Option Addr) (n c i : Nat) (w : World) (hr : TRow w A n l) (hn : n ≤ 1000000) (hi : i < n) (hk : ∀ h : i < l.length, l[i].k = 2) :
    Calls Try.prog 11 #[.slice A n c, .int .i64 i] w (PNeg (openEnd ((kinds l).take i)) w) := by
  obtain ⟨hl, hrow⟩ := hr
  obtain ⟨b, off, rfl, hb, hc⟩ := hrow (by omega)
  have hi' : i < l.length := by omega
  have hk0 := hk hi'
  have FR := Lib.hid (back_of (kinds l) i (by rw [kinds_length]; exact hi') (by rw [kinds_at l i hi']; exact hk0))
  have hcell : ∀ j, (h : j < l.length) → w.cell? ⟨b, off + j * 12, none⟩ = some (.int .i64 l[j].k) := fun j h => (hc j h).cells.1
  have c0 := hcell i hi'
  rw [hk0] at c0
  have HC := Lib.hid hcell
  have HL := Lib.hid hl
  clear hc hrow hk hk0 hcell hl
  go_enter Try.func11, Try.ntmps11
  go_wp2
  go_loop [6, 7] (fun d s => ∃ m : Nat, m ≤ i + 1 ∧ s = .int .i64 ((i : Int) - m) ∧ d = .int .i64 (post (kinds l) i m) ∧ Hid (∀ j, j < m → post (kinds l) i (j + 1) ≠ 0)) (fun _ s => ((intOf s) + 1).toNat)
  case atStart => exact ⟨0, by omega, by simp, by rw [post_zero], fun j hj => absurd hj (by omega)⟩
  case round =>
    obtain ⟨m, hm, rfl, rfl, HJ⟩ := hrel
    have hbd := post_bd (kinds l) i (by rw [kinds_length]; exact hi') m hm
    by_cases hlt : m < i + 1
    · have hlt' : i - m < l.length := by have := HL.out; omega
      have c1 := HC.out (i - m) hlt'
      have ix : ((i : Int) - m).toNat = i - m := by omega
      have x0 : 0 ≤ (i : Int) - m := by omega
      have x1 : (i : Int) - m < n := by omega
      have ps := post_succ (kinds l) i m (by rw [kinds_length]; exact hi') (by omega)
      rw [kinds_at l (i - m) hlt'] at ps
      have PS := Lib.hid ps
      clear ps c0
      generalize hD : post (kinds l) i m = D at hbd PS ⊢
      generalize hK : l[i - m].k = k at c1 PS
      clear hD hK
      by_cases h1 : k = 1
      · subst h1
        have PS' : Hid (post (kinds l) i (m + 1) = D + 1) := Lib.hid (by rw [PS.out, wt1])
        clear PS
        by_cases h0 : D + 1 = 0
        · go_wp2
          go_ret
          exact ⟨_, rfl, by rw [Bool.eq_iff_iff, FR.out]; simp only [decide_eq_true_eq]; exact ⟨fun h => absurd h (by omega), fun h => absurd (h m (by omega)) (by rw [PS'.out]; omega)⟩, rfl⟩
        · go_wp2
          go_round
          case rel => exact ⟨m + 1, by omega, by go_num, by rw [PS'.out], fun j hj => by
            by_cases hjm : j < m
            · exact HJ.out j hjm
            · obtain rfl : j = m := by omega
              rw [PS'.out]; exact h0⟩
          case measure => simp [intOf]; omega
      · by_cases h2 : k = 2
        · subst h2
          have PS' : Hid (post (kinds l) i (m + 1) = D - 1) := Lib.hid (by rw [PS.out, wt2]; exact Int.sub_eq_add_neg.symm)
          clear PS
          by_cases h0 : D - 1 = 0
          · go_wp2
            go_ret
            exact ⟨_, rfl, by rw [Bool.eq_iff_iff, FR.out]; simp only [decide_eq_true_eq]; exact ⟨fun h => absurd h (by omega), fun h => absurd (h m (by omega)) (by rw [PS'.out]; omega)⟩, rfl⟩
          · go_wp2
            go_round
            case rel => exact ⟨m + 1, by omega, by go_num, by rw [PS'.out], fun j hj => by
              by_cases hjm : j < m
              · exact HJ.out j hjm
              · obtain rfl : j = m := by omega
                rw [PS'.out]; exact h0⟩
            case measure => simp [intOf]; omega
        · have PS' : Hid (post (kinds l) i (m + 1) = D) := Lib.hid (by rw [PS.out, wt0 h1 h2]; simp)
          clear PS
          by_cases h0 : D = 0
          · go_wp2
            go_ret
            exact ⟨_, rfl, by rw [Bool.eq_iff_iff, FR.out]; simp only [decide_eq_true_eq]; exact ⟨fun h => absurd h (by omega), fun h => absurd (h m (by omega)) (by rw [PS'.out]; omega)⟩, rfl⟩
          · go_wp2
            go_round
            case rel => exact ⟨m + 1, by omega, by go_num, by rw [PS'.out], fun j hj => by
              by_cases hjm : j < m
              · exact HJ.out j hjm
              · obtain rfl : j = m := by omega
                rw [PS'.out]; exact h0⟩
            case measure => simp [intOf]; omega
    · clear c0
      go_wp2
      go_ret
      exact ⟨_, rfl, by rw [Bool.eq_iff_iff, FR.out]; simp only [decide_eq_true_eq]; exact ⟨fun _ j hj => HJ.out j (by omega), fun _ => by omega⟩, rfl⟩
end Go.Proofs.Ytnmphoemiohgjaa.Sl
