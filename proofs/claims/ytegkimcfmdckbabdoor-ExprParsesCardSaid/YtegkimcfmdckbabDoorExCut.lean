/- Expressions: where rows and choices are cut; how many parts there are. Plain lists. -/
import Derived.Test.YtegkimcfmdckbabDoorExSeg
namespace Go.Proofs.YtegkimcfmdckbabDoor.Ex
open Lx (Sg)

/-- the whole is the last part -/
theorem Sn.last {v : Lv} {s : List Sg} {e e' : List Pt} {k : Nat} (h : Sn v s e k e') : e'.length = k + 1 := by
  have wh : ∀ (kd : Int) (ks : List Nat) (k : Nat) (e' : List Pt), e'.length = k + 1 → (whole kd e' (ks ++ [k])).2.length = (whole kd e' (ks ++ [k])).1 + 1 := by
    intro kd ks k e' h
    cases ks with
    | nil => exact h
    | cons a ks =>
      cases ks with
      | nil => simp [whole]
      | cons b ks => simp [whole]
  induction h with
  | name _ => simp
  | shut _ _ _ ih => exact ih
  | item _ ih => exact ih
  | times _ _ _ => simp
  | rowMore _ _ _ ih2 => exact ih2
  | rowEnd _ ih => exact wh 2 _ _ _ ih
  | chMore _ _ _ _ ih2 => exact ih2
  | chEnd _ ih => exact wh 3 _ _ _ ih
theorem Sn.ne {v : Lv} {s : List Sg} {e e' : List Pt} {k : Nat} (h : Sn v s e k e') : 0 < s.length := by
  induction h with
  | name _ => simp
  | shut _ _ _ _ => simp
  | item _ ih => exact ih
  | times _ _ _ => simp
  | rowMore _ _ ih1 _ => simp; omega
  | rowEnd _ ih => exact ih
  | chMore _ _ _ _ _ => simp only [List.length_append, List.length_cons]; omega
  | chEnd _ ih => exact ih
def slack : Lv → Nat
  | .row (_ :: _) => 0
  | .choice (_ :: _) => 0
  | _ => 1
theorem slack_le (v : Lv) : slack v ≤ 1 := by unfold slack; split <;> omega
/-- more parts, the earlier ones as they were -/
theorem Sn.grown' {v : Lv} {s : List Sg} {e e' : List Pt} {k : Nat} (h : Sn v s e k e') : ∃ n, 0 < n.length ∧ e' = e ++ n ∧ n.length + slack v ≤ 2 * s.length := by
  have wh : ∀ (kd : Int) (ks : List Nat) (k m : Nat) (e n : List Pt), 0 < n.length → n.length + 1 ≤ m → ∃ n', 0 < n'.length ∧ (whole kd (e ++ n) (ks ++ [k])).2 = e ++ n' ∧ n'.length + (match ks with | [] => 1 | _ => 0) ≤ m := by
    intro kd ks k m e n h1 h2
    cases ks with
    | nil => exact ⟨n, h1, rfl, by simpa using h2⟩
    | cons a ks =>
      cases ks with
      | nil => exact ⟨n ++ [⟨kd, 0, 0, [], [a, k]⟩], by simp, by simp [whole], by simp; omega⟩
      | cons b ks => exact ⟨n ++ [⟨kd, 0, 0, [], a :: b :: (ks ++ [k])⟩], by simp, by simp [whole], by simp; omega⟩
  have sr : ∀ ks, slack (.row ks) = (match ks with | [] => 1 | _ => 0) := by intro ks; cases ks <;> rfl
  have sc : ∀ ks, slack (.choice ks) = (match ks with | [] => 1 | _ => 0) := by intro ks; cases ks <;> rfl
  have s0 : ∀ (ks : List Nat) (k : Nat), slack (.row (ks ++ [k])) = 0 := by intro ks k; cases ks <;> rfl
  have c0 : ∀ (ks : List Nat) (k : Nat), slack (.choice (ks ++ [k])) = 0 := by intro ks k; cases ks <;> rfl
  induction h with
  | name _ => exact ⟨[_], by simp, rfl, by simp [slack]⟩
  | shut _ _ _ ih =>
    obtain ⟨n, h1, h2, h3⟩ := ih
    refine ⟨n, h1, h2, ?_⟩
    simp only [slack, List.length_cons, List.length_append, List.length_nil] at h3 ⊢
    omega
  | item _ ih => exact ih
  | times _ _ ih =>
    obtain ⟨n, h1, rfl, h3⟩ := ih
    refine ⟨n ++ [_], by simp, List.append_assoc _ _ _, ?_⟩
    simp only [slack, List.length_cons, List.length_append, List.length_nil] at h3 ⊢
    omega
  | @rowMore ks s t e e' e'' k k' _ _ ih1 ih2 =>
    obtain ⟨n, h1, rfl, h3⟩ := ih1
    obtain ⟨m, g1, rfl, g3⟩ := ih2
    refine ⟨n ++ m, by simp; omega, by simp, ?_⟩
    have := slack_le (.row ks)
    rw [s0] at g3
    simp only [slack] at h3
    simp only [List.length_append]
    omega
  | @rowEnd ks s e e' k _ ih =>
    obtain ⟨n, h1, rfl, h3⟩ := ih
    obtain ⟨m, g1, g2, g3⟩ := wh 2 ks k (2 * s.length) e n h1 (by simpa [slack] using h3)
    exact ⟨m, g1, g2, by rw [sr]; exact g3⟩
  | @chMore ks x s t e e' e'' k k' _ _ _ ih1 ih2 =>
    obtain ⟨n, h1, rfl, h3⟩ := ih1
    obtain ⟨m, g1, rfl, g3⟩ := ih2
    refine ⟨n ++ m, by simp; omega, by simp, ?_⟩
    have := slack_le (.choice ks)
    rw [c0] at g3
    simp only [slack] at h3
    simp only [List.length_append, List.length_cons]
    omega
  | @chEnd ks s e e' k _ ih =>
    obtain ⟨n, h1, rfl, h3⟩ := ih
    obtain ⟨m, g1, g2, g3⟩ := wh 3 ks k (2 * s.length) e n h1 (by simpa [slack] using h3)
    exact ⟨m, g1, g2, by rw [sc]; exact g3⟩
theorem Sn.grown {v : Lv} {s : List Sg} {e e' : List Pt} {k : Nat} (h : Sn v s e k e') : ∃ n, 0 < n.length ∧ e' = e ++ n ∧ n.length ≤ 2 * s.length := by
  obtain ⟨n, h1, h2, h3⟩ := h.grown'
  exact ⟨n, h1, h2, by omega⟩

/-- way 3 cares not where it begins -/
theorem cuts3_flag (i : Nat) (b c : Bool) : ∀ l : List Sg, Cuts 3 i b l = Cuts 3 i c l
  | [] => rfl
  | x :: l => by rw [cuts_cons, cuts_cons]; simp
/-- a row begins with an item -/
theorem Sn.cuts2_row {ks : List Nat} {s : List Sg} {e e' : List Pt} {k : Nat} (h : Sn (.row ks) s e k e') (i : Nat) (r : List Sg) : Cuts 2 i false (s ++ r) = i :: Cuts 2 i true (s ++ r) := by
  cases h with
  | rowMore h1 h2 => rw [List.append_assoc, h1.cuts_item 2 i false, h1.cuts_item 2 i true]; simp
  | rowEnd h1 => rw [h1.cuts_item 2 i false, h1.cuts_item 2 i true]; simp
/-- over an item: nothing to cut -/
theorem Sn.cuts_one {s : List Sg} {e e' : List Pt} {k : Nat} (h : Sn .item s e k e') (way i : Nat) : Cuts way i true s = [] := by
  have := h.cuts_item way i true []
  rw [List.append_nil] at this
  rw [this, cuts_nil]; simp
/-- over a row: no | to cut behind -/
theorem Sn.cuts3_row {v : Lv} {s : List Sg} {e e' : List Pt} {k : Nat} (h : Sn v s e k e') : ∀ ks, v = .row ks → ∀ (i : Nat) (b : Bool) (r : List Sg), Cuts 3 i b (s ++ r) = Cuts 3 (i + s.length) false r := by
  induction h with
  | name _ => intro ks h; cases h
  | shut _ _ _ _ => intro ks h; cases h
  | item _ _ => intro ks h; cases h
  | times _ _ _ => intro ks h; cases h
  | rowMore h1 h2 _ ih2 =>
    intro ks hk i b r
    rw [List.append_assoc, h1.cuts_item 3 i b, ih2 _ rfl]
    simp [Nat.add_assoc]
  | rowEnd h1 _ =>
    intro ks hk i b r
    rw [h1.cuts_item 3 i b]; simp
  | chMore _ _ _ _ _ => intro ks h; cases h
  | chEnd _ _ => intro ks h; cases h
/-- a row of more items: ahead of the next one -/
theorem cuts2_more {ks : List Nat} {s t : List Sg} {e e' e1 e2 : List Pt} {k k' : Nat} (h1 : Sn .item s e k e') (h2 : Sn (.row ks) t e1 k' e2) (i : Nat) : Cuts 2 i true (s ++ t) = (i + s.length) :: Cuts 2 (i + s.length) true t := by
  have := h2.cuts2_row (i + s.length) []
  rw [List.append_nil] at this
  rw [h1.cuts_item 2 i true, this]; simp
/-- a choice of more rows: behind the | -/
theorem cuts3_more {x : Sg} {s t : List Sg} {e e' : List Pt} {k : Nat} (h1 : Sn (.row []) s e k e') (h4 : x.kind = 4) (i : Nat) : Cuts 3 i true (s ++ x :: t) = (i + s.length + 1) :: Cuts 3 (i + s.length + 1) true t := by
  rw [h1.cuts3_row [] rfl i true, cuts_cons, cuts3_flag _ true false]
  simp [h4]
theorem cuts3_one {s : List Sg} {e e' : List Pt} {k : Nat} (h1 : Sn (.row []) s e k e') (i : Nat) : Cuts 3 i true s = [] := by
  have := h1.cuts3_row [] rfl i true []
  rw [List.append_nil] at this
  rw [this, cuts_nil]
end Go.Proofs.YtegkimcfmdckbabDoor.Ex
