/- Diffs, plain: the runs that stay are right, and how many tokens they keep. -/
import Derived.Test.YtgodphfkhmahnaaDfQ
import Derived.Test.YtgodphfkhmahnaaDfY
namespace Go.Proofs.Ytgodphfkhmahnaa.Df
open Go.RowKit Mem Sm Rt Tk
set_option linter.unusedVariables false
set_option linter.unusedSimpArgs false
theorem fr_same : ∀ (a b : List Tk.Tk) (j : Nat), j < fr a b → a[j]? = b[j]? := by
  intro a
  induction a with
  | nil => intro b j h; cases b <;> simp [fr] at h
  | cons x a ih =>
    intro b j h
    cases b with
    | nil => simp [fr] at h
    | cons y b =>
      unfold fr at h
      split at h
      · rename_i e
        cases j with
        | zero => simp [e]
        | succ j => simpa using ih b j (by omega)
      · omega
theorem fr_stop : ∀ (a b : List Tk.Tk), fr a b < a.length → fr a b < b.length → a[fr a b]? ≠ b[fr a b]? := by
  intro a
  induction a with
  | nil => intro b h; simp at h
  | cons x a ih =>
    intro b h1 h2
    cases b with
    | nil => simp at h2
    | cons y b =>
      by_cases e : x = y
      · have e1 : fr (x :: a) (y :: b) = fr a b + 1 := by rw [fr, if_pos e]
        rw [e1] at h1 h2 ⊢
        simpa using ih b (by simpa using h1) (by simpa using h2)
      · have e1 : fr (x :: a) (y :: b) = 0 := by rw [fr, if_neg e]
        rw [e1]
        simpa using e
theorem rev_at (l : List Tk.Tk) (j : Nat) (h : j < l.length) : l.reverse[j]? = l[l.length - 1 - j]? := by rw [List.getElem?_reverse h]
/-- the middle of a row -/
def mid (l : List Tk.Tk) (f k : Nat) : List Tk.Tk := (l.drop f).take (l.length - k - f)
structure Ends (l m : List Tk.Tk) (f k : Nat) : Prop where
  le1 : f + k ≤ l.length
  le2 : f + k ≤ m.length
  same : ∀ j, j < f → l[j]? = m[j]?
  last : ∀ j, j < k → l[l.length - k + j]? = m[m.length - k + j]?
  stop1 : f < l.length → f < m.length → l[f]? ≠ m[f]?
  stop2 : f < l.length - k → f < m.length - k → l[l.length - k - 1]? ≠ m[m.length - k - 1]?
theorem ends_of (l m : List Tk.Tk) : Ends l m (fr l m) (bk (l.drop (fr l m)) (m.drop (fr l m))) := by
  have h1 := fr_le l m
  have h2 := bk_le (l.drop (fr l m)) (m.drop (fr l m))
  simp only [List.length_drop] at h2
  obtain ⟨f, hf⟩ : ∃ f, f = fr l m := ⟨_, rfl⟩
  rw [← hf] at h1 h2 ⊢
  have hd : ∀ (x : List Tk.Tk) j, f + j < x.length → (x.drop f).reverse[j]? = x[x.length - 1 - j]? := fun x j h => by
    rw [rev_at _ _ (by simp; omega), List.getElem?_drop]
    congr 1
    simp; omega
  refine ⟨by omega, by omega, fun j hj => fr_same l m j (by omega), fun j hj => ?_, fun a b => ?_, fun a b => ?_⟩
  · have := fr_same (l.drop f).reverse (m.drop f).reverse (bk (l.drop f) (m.drop f) - 1 - j) (by unfold bk at hj ⊢; omega)
    rw [hd l _ (by omega), hd m _ (by omega)] at this
    rw [show l.length - bk (l.drop f) (m.drop f) + j = l.length - 1 - (bk (l.drop f) (m.drop f) - 1 - j) by omega, show m.length - bk (l.drop f) (m.drop f) + j = m.length - 1 - (bk (l.drop f) (m.drop f) - 1 - j) by omega]
    exact this
  · rw [hf]; exact fr_stop l m (by omega) (by omega)
  · have := fr_stop (l.drop f).reverse (m.drop f).reverse (by simp; unfold bk at a h2; omega) (by simp; unfold bk at b h2; omega)
    rw [hd l _ (by unfold bk at a; omega), hd m _ (by unfold bk at b; omega)] at this
    rw [show l.length - bk (l.drop f) (m.drop f) - 1 = l.length - 1 - fr (l.drop f).reverse (m.drop f).reverse by unfold bk; omega, show m.length - bk (l.drop f) (m.drop f) - 1 = m.length - 1 - fr (l.drop f).reverse (m.drop f).reverse by unfold bk; omega]
    exact this
theorem mid_at (l : List Tk.Tk) (f k j : Nat) (h : j < l.length - k - f) : (mid l f k)[j]? = l[f + j]? := by
  unfold mid
  rw [List.getElem?_take_of_lt h, List.getElem?_drop]
theorem mid_length (l : List Tk.Tk) (f k : Nat) : (mid l f k).length = l.length - k - f := by
  unfold mid; simp; omega
theorem EE_mid {l m : List Tk.Tk} {f k x y : Nat} : EE (mid l f k) (mid m f k) x y = true ↔ x < l.length - k - f ∧ y < m.length - k - f ∧ EE l m (x + f) (y + f) = true := by
  rw [EE_true, EE_true, mid_length, mid_length]
  constructor
  · rintro ⟨a, b, c⟩
    rw [mid_at _ _ _ _ a, mid_at _ _ _ _ b] at c
    exact ⟨a, b, by omega, by omega, by rw [Nat.add_comm x f, Nat.add_comm y f]; exact c⟩
  · rintro ⟨a, b, c, d, e⟩
    rw [mid_at _ _ _ _ a, mid_at _ _ _ _ b]
    exact ⟨a, b, by rw [Nat.add_comm x f, Nat.add_comm y f] at e; exact e⟩
/-- how many can be kept: both ends, and what can be kept between -/
theorem lc_mid {l m : List Tk.Tk} {f k : Nat} (h : Ends l m f k) : lc (EE l m) l.length m.length = f + lc (EE (mid l f k) (mid m f k)) (l.length - k - f) (m.length - k - f) + k := by
  have h1 := h.le1
  have h2 := h.le2
  have e1 := lc_behind (E := EE l m) k (l.length - k) (m.length - k) (fun j hj => EE_true.2 ⟨by omega, by omega, h.last j hj⟩)
  rw [show l.length - k + k = l.length by omega, show m.length - k + k = m.length by omega] at e1
  have e2 := lc_ahead f (EE l m) (fun x y => EE l m (x + f) (y + f)) (fun j hj => EE_true.2 ⟨by omega, by omega, h.same j hj⟩) (fun _ _ => rfl) (l.length - k - f) (m.length - k - f)
  rw [show l.length - k - f + f = l.length - k by omega, show m.length - k - f + f = m.length - k by omega] at e2
  have e3 : ∀ x y, x ≤ l.length - k - f → y ≤ m.length - k - f → lc (fun x y => EE l m (x + f) (y + f)) x y = lc (EE (mid l f k) (mid m f k)) x y := by
    intro x
    induction x with
    | zero => intro y _ _; rw [lc_zero, lc_zero]
    | succ x ihx =>
      intro y
      induction y with
      | zero => intro _ _; rw [lc_nil, lc_nil]
      | succ y ihy =>
        intro hx hy
        rw [lc_step, lc_step, ihx (y + 1) (by omega) hy, ihy hx (by omega), ihx y (by omega) (by omega)]
        have : EE l m (x + f) (y + f) = EE (mid l f k) (mid m f k) x y := by
          rw [Bool.eq_iff_iff, EE_mid]
          constructor
          · intro g; exact ⟨by omega, by omega, g⟩
          · intro g; exact g.2.2
        rw [this]
  rw [e1, e2, e3 _ _ (Nat.le_refl _) (Nat.le_refl _)]
  omega
def ea (σ : List Rg) : Int := ((σ.getLast?).map fun r => r.at_ + r.new).getD 0
def eb (σ : List Rg) : Int := ((σ.getLast?).map fun r => r.old + r.new).getD 0
theorem ea_snoc (σ : List Rg) (r : Rg) : ea (σ ++ [r]) = r.at_ + r.new := by simp [ea]
theorem eb_snoc (σ : List Rg) (r : Rg) : eb (σ ++ [r]) = r.old + r.new := by simp [eb]
/-- a run that may stand behind others -/
structure Nxt (l m : List Tk.Tk) (σ : List Rg) (x y s : Nat) : Prop where
  pos : 0 < s
  a : ea σ ≤ x
  b : eb σ ≤ y
  off : σ = [] ∨ ea σ ≠ x ∨ eb σ ≠ y
  same : ∀ j, j < s → EE l m (x + j) (y + j) = true
def Fine (l m : List Tk.Tk) (σ : List Rg) : Prop := ∀ i (h : i < σ.length), ∃ x y s : Nat, σ[i] = ⟨x, y, s⟩ ∧ Nxt l m (σ.take i) x y s
theorem Fine.nil {l m : List Tk.Tk} : Fine l m [] := fun i h => by simp at h
theorem Fine.snoc {l m : List Tk.Tk} {σ : List Rg} {x y s : Nat} (h : Fine l m σ) (hn : Nxt l m σ x y s) : Fine l m (σ ++ [⟨x, y, s⟩]) := by
  intro i hi
  rcases Nat.lt_or_ge i σ.length with g | g
  · obtain ⟨x', y', s', e, hx⟩ := h i g
    refine ⟨x', y', s', by rw [List.getElem_append_left g]; exact e, ?_⟩
    rw [List.take_append_of_le_length (by omega)]
    exact hx
  · obtain rfl : i = σ.length := by simp at hi; omega
    refine ⟨x, y, s, by simp, ?_⟩
    rw [List.take_append_of_le_length (Nat.le_refl _), List.take_length]
    exact hn
/-- a run, told from places further ahead -/
def mv (f : Nat) (r : Rg) : Rg := ⟨r.at_ + f, r.old + f, r.new⟩
theorem filter_add (σ : List Rg) (r : Rg) : (σ ++ [r]).filter ne = σ.filter ne ++ (if r.new = 0 then [] else [r]) := by
  rw [List.filter_append]
  congr 1
  by_cases h : r.new = 0 <;> simp [ne, emp, h]
theorem sumW_filter : ∀ σ : List Rg, sumW (σ.filter ne) = sumW σ
  | [] => rfl
  | r :: σ => by
    have := sumW_filter σ
    by_cases h : r.new = 0
    · simp [sumW, ne, emp, h] at this ⊢; exact this
    · simp [sumW, ne, emp, h] at this ⊢; exact this
theorem sumW_mv (f : Nat) : ∀ σ : List Rg, sumW (σ.map (mv f)) = sumW σ
  | [] => rfl
  | r :: σ => by
    have := sumW_mv f σ
    simp [sumW, mv] at this ⊢
    exact this
theorem sumW_cons (r : Rg) (σ : List Rg) : sumW (r :: σ) = r.new + sumW σ := by simp [sumW]
/-- the runs ahead of the last one -/
def laid (f : Nat) (ρ : List Rg) : List Rg := (⟨0, 0, (f : Nat)⟩ :: ρ.map (mv f)).filter ne
structure Laid (l m : List Tk.Tk) (f k a b : Nat) (ρ : List Rg) : Prop where
  fine : Fine l m (laid f ρ)
  ex : ∃ p q : Nat, ea (laid f ρ) = p ∧ eb (laid f ρ) = q ∧ p ≤ a + f ∧ q ≤ b + f ∧ ((p ≤ f ∧ q ≤ f) ∨ (f < p ∧ f < q ∧ p ≤ l.length - k ∧ q ≤ m.length - k ∧ EE l m (p - 1) (q - 1) = true))
theorem laid_snoc (f : Nat) (ρ : List Rg) (r : Rg) : laid f (ρ ++ [r]) = laid f ρ ++ (if r.new = 0 then [] else [mv f r]) := by
  unfold laid
  rw [List.map_append, List.map_singleton, ← List.cons_append, filter_add]
  rfl
theorem laid_nil {l m : List Tk.Tk} {f k : Nat} (h : Ends l m f k) : Laid l m f k 0 0 [] := by
  by_cases h0 : f = 0
  · subst h0
    have e : laid 0 [] = [] := by simp [laid, ne, emp]
    exact ⟨by rw [e]; exact Fine.nil, 0, 0, by rw [e]; rfl, by rw [e]; rfl, by omega, by omega, .inl ⟨by omega, by omega⟩⟩
  · have e : laid f [] = [⟨((0 : Nat) : Int), ((0 : Nat) : Int), (f : Nat)⟩] := by simp [laid, ne, emp, h0]
    refine ⟨?_, f, f, by rw [e]; simp [ea], by rw [e]; simp [eb], by omega, by omega, .inl ⟨by omega, by omega⟩⟩
    rw [e]
    have h1 := h.le1
    have h2 := h.le2
    exact Fine.snoc Fine.nil ⟨by omega, by simp [ea], by simp [eb], .inl rfl, fun j hj => by rw [Nat.zero_add]; exact EE_true.2 ⟨by omega, by omega, h.same j hj⟩⟩
theorem Chain.nil0 {l m : List Tk.Tk} {a b : Nat} {ρ : List Rg} (h : Chain l m a b ρ) : ρ = [] → a = 0 ∧ b = 0 := by
  cases h with
  | nil => exact fun _ => ⟨rfl, rfl⟩
  | snoc h hs ha h0 => intro h; simp at h
theorem laid_chain {l m : List Tk.Tk} {f k : Nat} (h : Ends l m f k) (h1 : f < l.length - k) (h2 : f < m.length - k) {a b : Nat} {ρ : List Rg} (hc : Chain (mid l f k) (mid m f k) a b ρ) : Laid l m f k a b ρ := by
  have h0 : EE (mid l f k) (mid m f k) 0 0 = false := by
    cases e : EE (mid l f k) (mid m f k) 0 0 with
    | false => rfl
    | true =>
      have := (EE_true.1 (EE_mid.1 e).2.2).2.2
      rw [Nat.zero_add] at this
      exact absurd this (h.stop1 (by omega) (by omega))
  induction hc with
  | nil => exact laid_nil h
  | @snoc a b x y s ρ hc hs ha hz ih =>
    obtain ⟨p, q, e1, e2, e3, e4, e5⟩ := ih.ex
    have hxy : a + b + (if ρ = [] then 0 else 1) ≤ x + y ∧ a ≤ x ∧ b ≤ y := by
      by_cases g : ρ = []
      · have h3 := hz g
        have h4 := hc.nil0 g
        rw [if_pos g]
        omega
      · rw [if_neg g]
        rcases ha g with g | g <;> omega
    by_cases hs0 : s = 0
    · subst hs0
      have e : laid f (ρ ++ [⟨x, y, ((0 : Nat) : Int)⟩]) = laid f ρ := by rw [laid_snoc]; simp
      exact ⟨by rw [e]; exact ih.fine, p, q, by rw [e]; exact e1, by rw [e]; exact e2, by omega, by omega, e5⟩
    · have hne : ρ ≠ [] := by
        intro g
        have := hz g
        have h3 := hs 0 (by omega)
        rw [this.1, this.2] at h3
        rw [Nat.zero_add, h0] at h3
        cases h3
      rw [if_neg hne] at hxy
      have e : laid f (ρ ++ [⟨x, y, (s : Int)⟩]) = laid f ρ ++ [⟨((x + f : Nat) : Int), ((y + f : Nat) : Int), (s : Int)⟩] := by
        rw [laid_snoc]
        simp [hs0, mv]
      have hse := EE_mid.1 (hs (s - 1) (by omega))
      refine ⟨?_, x + s + f, y + s + f, by rw [e, ea_snoc]; push_cast; omega, by rw [e, eb_snoc]; push_cast; omega, by omega, by omega, .inr ⟨by omega, by omega, by omega, by omega, ?_⟩⟩
      · rw [e]
        refine Fine.snoc ih.fine ⟨by omega, by rw [e1]; omega, by rw [e2]; omega, ?_, fun j hj => ?_⟩
        · right
          rw [e1, e2]
          omega
        · have := (EE_mid.1 (hs j hj)).2.2
          rw [show x + j + f = x + f + j by omega, show y + j + f = y + f + j by omega] at this
          exact this
      · have := hse.2.2
        rw [show x + (s - 1) + f = x + s + f - 1 by omega, show y + (s - 1) + f = y + s + f - 1 by omega] at this
        exact this
/-- all runs -/
def full (l m : List Tk.Tk) (f k : Nat) (ρ : List Rg) : List Rg := (((⟨0, 0, (f : Nat)⟩ : Rg) :: ρ.map (mv f)) ++ [(⟨(l.length - k : Nat), (m.length - k : Nat), (k : Nat)⟩ : Rg)]).filter ne
theorem full_fine {l m : List Tk.Tk} {f k a b : Nat} {ρ : List Rg} (h : Ends l m f k) (hl : Laid l m f k a b ρ) : Fine l m (full l m f k ρ) := by
  have h1 := h.le1
  have h2 := h.le2
  obtain ⟨p, q, e1, e2, e3, e4, e5⟩ := hl.ex
  by_cases hk : k = 0
  · have e : full l m f k ρ = laid f ρ := by unfold full; rw [filter_add]; simp [hk, laid]
    rw [e]; exact hl.fine
  · have e : full l m f k ρ = laid f ρ ++ [⟨(l.length - k : Nat), (m.length - k : Nat), (k : Nat)⟩] := by unfold full; rw [filter_add]; simp [hk, laid]
    rw [e]
    refine Fine.snoc hl.fine ⟨by omega, by rw [e1]; omega, by rw [e2]; omega, ?_, fun j hj => EE_true.2 ⟨by omega, by omega, h.last j hj⟩⟩
    by_cases g : laid f ρ = []
    · exact .inl g
    · right
      rw [e1, e2]
      by_cases g1 : (p : Int) = (l.length - k : Nat) ∧ (q : Int) = (m.length - k : Nat)
      · exfalso
        obtain ⟨g2, g3⟩ := g1
        rcases e5 with ⟨g4, g5⟩ | ⟨g4, g5, _, _, g6⟩
        · -- nothing lies between
          have q1 : l.length - k = f := by omega
          have q2 : m.length - k = f := by omega
          have := h.last 0 (by omega)
          rw [Nat.add_zero, Nat.add_zero, q1, q2] at this
          exact h.stop1 (by omega) (by omega) this
        · have := (EE_true.1 g6).2.2
          rw [show p - 1 = l.length - k - 1 by omega, show q - 1 = m.length - k - 1 by omega] at this
          exact h.stop2 (by omega) (by omega) this
      · omega
theorem full_sum (l m : List Tk.Tk) (f k : Nat) (ρ : List Rg) : sumW (full l m f k ρ) = f + sumW ρ + k := by
  unfold full
  rw [sumW_filter, sumW_snoc, sumW_cons, sumW_mv]
/-- what the kept runs are -/
structure Stay (l m : List Tk.Tk) (σ : List Rg) : Prop where
  fine : Fine l m σ
  sum : sumW σ = (lc (EE l m) l.length m.length : Nat)
/-- nothing lies between the ends in one of them -/
theorem stay_nil {l m : List Tk.Tk} {f k : Nat} (h : Ends l m f k) (h1 : l.length - k = f ∨ m.length - k = f) : Stay l m (full l m f k []) := by
  refine ⟨full_fine h (laid_nil h), ?_⟩
  rw [full_sum, lc_mid h]
  have : lc (EE (mid l f k) (mid m f k)) (l.length - k - f) (m.length - k - f) = 0 := by
    rcases h1 with g | g
    · rw [show l.length - k - f = 0 by omega, lc_zero]
    · rw [show m.length - k - f = 0 by omega, lc_nil]
  rw [this]
  simp [sumW]
theorem stay_way {l m : List Tk.Tk} {f k : Nat} (h : Ends l m f k) (h1 : f < l.length - k) (h2 : f < m.length - k) {XS : List (List Int)} {D I : Nat} {ρ : List Rg} (hw : Way (mid l f k) (mid m f k) XS D I ρ) (ho : Ok (EE (mid l f k) (mid m f k)) XS (D + 1)) (hi : I ≤ D) (hg : gt XS D I = (l.length - k - f : Nat) + (m.length - k - f : Nat)) (hn : ∀ j, j < D → ¬ R (EE (mid l f k) (mid m f k)) j (l.length - k - f) (m.length - k - f)) : Stay l m (full l m f k ρ) := by
  obtain ⟨a, b, ht, hc, _⟩ := hw.chain
  refine ⟨full_fine h (laid_chain h h1 h2 hc), ?_⟩
  rw [full_sum, lc_mid h]
  have e1 := hw.sum a b ht
  obtain ⟨x, y, ht', e2⟩ := (ho D (by omega)).2 I hi
  have e3 := ht.one ht'
  have hR : R (EE (mid l f k) (mid m f k)) D (l.length - k - f) (m.length - k - f) := R.ends (x := a) (y := b) (fun x y e => by have := EE_mid.1 e; omega) ht.comes (by omega)
  have hle := lc_le (E := EE (mid l f k) (mid m f k)) (l.length - k - f) (m.length - k - f)
  have hlow : D + 2 * lc (EE (mid l f k) (mid m f k)) (l.length - k - f) (m.length - k - f) ≤ (l.length - k - f) + (m.length - k - f) := by
    by_cases g : D = 0
    · omega
    · have := hn (D - 1) (by omega)
      unfold R at this
      omega
  unfold R at hR
  omega
end Go.Proofs.Ytgodphfkhmahnaa.Df
