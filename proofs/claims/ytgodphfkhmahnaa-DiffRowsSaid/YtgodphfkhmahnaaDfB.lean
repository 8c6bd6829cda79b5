/- Diffs: how many tokens are the same at both ends; the one splice. -/
import Derived.Test.YtgodphfkhmahnaaTkEq
import Derived.Lib.MinMax
import Derived.BigQuiet
namespace Go.Proofs.Ytgodphfkhmahnaa.Df
open Go.RowKit Mem Sm Tk
set_option linter.unusedVariables false
set_option linter.unusedSimpArgs false
/-- how many are the same from the front -/
def fr : List Tk.Tk → List Tk.Tk → Nat
  | x :: a, y :: b => if x = y then fr a b + 1 else 0
  | _, _ => 0
def bk (a b : List Tk.Tk) : Nat := fr a.reverse b.reverse
theorem fr_is : ∀ (a b : List Tk.Tk) (f : Nat), f ≤ a.length → f ≤ b.length → (∀ j, j < f → a[j]? = b[j]?) → (f = a.length ∨ f = b.length ∨ a[f]? ≠ b[f]?) → fr a b = f := by
  intro a
  induction a with
  | nil => intro b f h1 _ _ _; simp at h1; subst h1; cases b <;> rfl
  | cons x a ih =>
    intro b f h1 h2 h3 h4
    cases b with
    | nil => simp at h2; subst h2; rfl
    | cons y b =>
      cases f with
      | zero =>
        unfold fr
        rw [if_neg]
        rintro rfl
        rcases h4 with h | h | h
        · simp at h
        · simp at h
        · simp at h
      | succ f =>
        have e0 : x = y := by simpa using h3 0 (by omega)
        unfold fr
        rw [if_pos e0, ih b f (by simpa using h1) (by simpa using h2) (fun j hj => by simpa using h3 (j + 1) (by omega)) (by
          rcases h4 with h | h | h
          · left; simpa using h
          · right; left; simpa using h
          · right; right; simpa using h)]
theorem fr_le : ∀ (a b : List Tk.Tk), fr a b ≤ a.length ∧ fr a b ≤ b.length := by
  intro a
  induction a with
  | nil => intro b; cases b <;> simp [fr]
  | cons x a ih =>
    intro b
    cases b with
    | nil => simp [fr]
    | cons y b =>
      unfold fr
      split
      · have := ih b; simp; omega
      · simp
/-- from the end, behind the first f -/
theorem bk_is (a b : List Tk.Tk) (f k : Nat) (h1 : k + f ≤ a.length) (h2 : k + f ≤ b.length) (h3 : ∀ j, j < k → a[a.length - 1 - j]? = b[b.length - 1 - j]?) (h4 : k + f = a.length ∨ k + f = b.length ∨ a[a.length - 1 - k]? ≠ b[b.length - 1 - k]?) : bk (a.drop f) (b.drop f) = k := by
  have key : ∀ (l : List Tk.Tk) j, j + f < l.length → (l.drop f).reverse[j]? = l[l.length - 1 - j]? := by
    intro l j hj
    rw [List.getElem?_reverse (by simp; omega), List.getElem?_drop]
    congr 1
    simp; omega
  unfold bk
  refine fr_is _ _ k (by simp; omega) (by simp; omega) (fun j hj => ?_) ?_
  · rw [key a j (by omega), key b j (by omega)]; exact h3 j hj
  · by_cases g1 : k + f = a.length
    · left; simp; omega
    · by_cases g2 : k + f = b.length
      · right; left; simp; omega
      · right; right
        rw [key a k (by omega), key b k (by omega)]
        rcases h4 with h | h | h
        · exact absurd h g1
        · exact absurd h g2
        · exact h
theorem bk_le (a b : List Tk.Tk) : bk a b ≤ a.length ∧ bk a b ≤ b.length := by
  have := fr_le a.reverse b.reverse
  simpa [bk] using this
theorem ne_at {l m : List Tk.Tk} {i j : Nat} (hi : i < l.length) (hj : j < m.length) : (l[i] = m[j]) = (l[i]? = m[j]?) := by
  rw [List.getElem?_eq_getElem hi, List.getElem?_eq_getElem hj, Option.some.injEq]

set_option maxRecDepth 100000 in
set_option maxHeartbeats 4000000 in
theorem ends_any (l m : List Tk.Tk) (A B : Option Addr) (n n' cap cap' : Nat) (w : World) (hr : TRow w A n l) (hr' : TRow w B n' m) (hn : n ≤ 1000000000000) (hn' : n' ≤ 1000000000000) :
    Calls Try.prog 57 #[.slice A n cap, .slice B n' cap'] w fun e w' => e = .returned (.tuple #[.int .i64 (fr l m : Nat), .int .i64 (bk (l.drop (fr l m)) (m.drop (fr l m)) : Nat)]) ∧ ∃ q, w' = w.drewN q := by
  have HR := Lib.hid hr
  have HR' := Lib.hid hr'
  have HL := Lib.hid hr.1
  have HL' := Lib.hid hr'.1
  obtain ⟨F, hF⟩ : ∃ F, F = fr l m := ⟨_, rfl⟩
  have HF : Hid (∀ f, f ≤ n → f ≤ n' → (∀ j, j < f → l[j]? = m[j]?) → (f = n ∨ f = n' ∨ l[f]? ≠ m[f]?) → f = F) := Lib.hid (fun f a b c d => by
    rw [hF]; exact (fr_is l m f (by rw [hr.1]; exact a) (by rw [hr'.1]; exact b) c (by rw [hr.1, hr'.1]; exact d)).symm)
  rw [← hF]
  obtain ⟨K, hK⟩ : ∃ K, K = bk (l.drop F) (m.drop F) := ⟨_, rfl⟩
  have HK : Hid (∀ k, k + F ≤ n → k + F ≤ n' → (∀ j, j < k → l[n - 1 - j]? = m[n' - 1 - j]?) → (k + F = n ∨ k + F = n' ∨ l[n - 1 - k]? ≠ m[n' - 1 - k]?) → k = K) := Lib.hid (fun k a b c d => by
    have e1 := hr.1
    have e2 := hr'.1
    subst e1; subst e2
    rw [hK]; exact (bk_is l m F k a b c d).symm)
  rw [← hK]
  clear hr hr' hF hK
  obtain ⟨M, hM⟩ : ∃ M : Nat, M = min n n' := ⟨_, rfl⟩
  have hMi : min (n : Int) (n' : Int) = (M : Int) := by omega
  have hM1 : M ≤ n := by omega
  have hM2 : M ≤ n' := by omega
  have hM3 : M = n ∨ M = n' := by omega
  clear hM
  go_enter Try.func57, Try.ntmps57
  go_wp2_with fail
  clear hMi
  go_loopw [4] (fun fv wr => ∃ (i : Nat), i ≤ M ∧ fv = .int .i64 i ∧ Hid (∀ j, j < i → l[j]? = m[j]?) ∧ ∃ q, wr = w.drewN q) (fun fv _ => M - (intOf fv).toNat)
  case atStart => exact ⟨0, by omega, by simp, Lib.hid (fun j h => by omega), 0, rfl⟩
  case round =>
    obtain ⟨i, hi, rfl, HO, q, rfl⟩ := hrel
    by_cases hlt : i < M
    · obtain ⟨bl, off, rfl, hbl, hcells⟩ := HR.out.2 (by omega)
      obtain ⟨bl', off', rfl, hbl', hcells'⟩ := HR'.out.2 (by omega)
      have hi' : i < l.length := by have := HL.out; omega
      have hi2 : i < m.length := by have := HL'.out; omega
      obtain ⟨c0, c1, c2, c3, c4, c5, c6, c7, c8, c9, c10, c11⟩ := (hcells i hi').cells
      obtain ⟨d0, d1, d2, d3, d4, d5, d6, d7, d8, d9, d10, d11⟩ := (hcells' i hi2).cells
      have HE : Hid ((l[i] = m[i]) = (l[i]? = m[i]?)) := Lib.hid (ne_at hi' hi2)
      clear hcells hcells'
      have EQ : ∀ W : World, (Op.equalIn 10000 101 (tokV l[i]) (tokV m[i])).run Try.prog W = .ok (decide (l[i] = m[i])) W := fun W => eq_tok 9997 _ _ W
      have g1 : decide ((i : Int) < (M : Int)) = true := by simp; omega
      have j1 : (0 : Int) ≤ (i : Int) := by omega
      have j2 : (i : Int) < (n : Int) := by omega
      have j3 : (i : Int) < (n' : Int) := by omega
      by_cases he : l[i] = m[i]
      · have N1 : Hid (∀ j, j < i + 1 → l[j]? = m[j]?) := Lib.hid (fun j hj => by
          by_cases g : j = i
          · subst g; rw [← HE.out]; exact he
          · exact HO.out j (by omega))
        have EQ' : ∀ W : World, (Op.equalIn 10000 101 (tokV l[i]) (tokV m[i])).run Try.prog W = .ok true W := fun W => by rw [EQ W]; simp [he]
        clear EQ HE he
        generalize hK : l[i] = x at *
        generalize hK' : m[i] = y at *
        obtain ⟨k, ty, at_, r, ma, mb, mc, md, me, mf, mg, mh⟩ := x
        obtain ⟨yk, yty, yat, yr, ya, yb, yc, yd, ye, yf, yg, yh⟩ := y
        unfold tokV at EQ'
        simp only at c0 c1 c2 c3 c4 c5 c6 c7 c8 c9 c10 c11 d0 d1 d2 d3 d4 d5 d6 d7 d8 d9 d10 d11 EQ'
        clear hK hK' hbl hbl'
        go_wp2_with fail
        go_quiet (fail)
        go_wp2
        go_roundw
        case rel => exact ⟨i + 1, by omega, by go_num, N1, _, rfl⟩
        case measure => simp [intOf]; omega
      · have N1 : Hid (l[i]? ≠ m[i]?) := Lib.hid (by intro g; rw [← HE.out] at g; exact he g)
        have EQ' : ∀ W : World, (Op.equalIn 10000 101 (tokV l[i]) (tokV m[i])).run Try.prog W = .ok false W := fun W => by rw [EQ W]; simp [he]
        have hFi : i = F := HF.out i (by omega) (by omega) HO.out (.inr (.inr N1.out))
        subst hFi
        clear EQ HE he HF N1 HO
        generalize hKx : l[i] = x at *
        generalize hKy : m[i] = y at *
        obtain ⟨z0, ty, at_, r, ma, mb, mc, md, me, mf, mg, mh⟩ := x
        obtain ⟨yk, yty, yat, yr, ya, yb, yc, yd, ye, yf, yg, yh⟩ := y
        unfold tokV at EQ'
        simp only at c0 c1 c2 c3 c4 c5 c6 c7 c8 c9 c10 c11 d0 d1 d2 d3 d4 d5 d6 d7 d8 d9 d10 d11 EQ'
        clear hKx hKy hbl hbl'
        go_wp2_with fail
        go_quiet (fail)
        go_wp2
        clear c0 c1 c2 c3 c4 c5 c6 c7 c8 c9 c10 c11 d0 d1 d2 d3 d4 d5 d6 d7 d8 d9 d10 d11 EQ' g1 j1 j2 j3
        have hFM : i ≤ M := by omega
        have hF0 : (0 : Int) ≤ (i : Int) := by omega
        go_loopw [5] (fun kv wr => ∃ (k : Nat), k ≤ M - i ∧ kv = .int .i64 k ∧ Hid (∀ j, j < k → l[n - 1 - j]? = m[n' - 1 - j]?) ∧ ∃ q, wr = w.drewN q) (fun kv _ => M - i - (intOf kv).toNat)
        case atStart => exact ⟨0, by omega, by simp, Lib.hid (fun j h => by omega), q + nq, by rw [World.drewN_drewN]⟩
        case round =>
          obtain ⟨k, hk, rfl, HO2, q2, rfl⟩ := hrel
          have w1 : wrap64 ((M : Int) - (i : Int)) = (M : Int) - i := by unfold wrap64; omega
          have w1q : IntKind.i64.wrap ((M : Int) - (i : Int)) = (M : Int) - i := by rw [IntKind.wrap_i64]; omega
          by_cases hlt2 : k < M - i
          · obtain ⟨bl2, off2, hA, hbl, hcells⟩ := HR.out.2 (by omega)
            injection hA with hA
            injection hA with e1 e2 _
            subst e1; subst e2
            obtain ⟨bl3, off3, hA', hbl', hcells'⟩ := HR'.out.2 (by omega)
            injection hA' with hA'
            injection hA' with e1 e2 _
            subst e1; subst e2
            obtain ⟨p, hp⟩ : ∃ p, p = n - 1 - k := ⟨_, rfl⟩
            obtain ⟨p', hp'⟩ : ∃ p, p = n' - 1 - k := ⟨_, rfl⟩
            have hi' : p < l.length := by have := HL.out; omega
            have hi2 : p' < m.length := by have := HL'.out; omega
            obtain ⟨c0, c1, c2, c3, c4, c5, c6, c7, c8, c9, c10, c11⟩ := (hcells p hi').cells
            obtain ⟨d0, d1, d2, d3, d4, d5, d6, d7, d8, d9, d10, d11⟩ := (hcells' p' hi2).cells
            have HE : Hid ((l[p] = m[p']) = (l[n - 1 - k]? = m[n' - 1 - k]?)) := Lib.hid (by rw [ne_at hi' hi2, hp, hp'])
            have EQ : ∀ W : World, (Op.equalIn 10000 101 (tokV l[p]) (tokV m[p'])).run Try.prog W = .ok (decide (l[p] = m[p'])) W := fun W => eq_tok 9997 _ _ W
            have g1 : decide ((k : Int) < (M : Int) - (i : Int)) = true := by simp; omega
            have w2 : wrap64 ((n : Int) - 1) = (n : Int) - 1 := by unfold wrap64; omega
            have w2q : IntKind.i64.wrap ((n : Int) - 1) = (n : Int) - 1 := by rw [IntKind.wrap_i64]; omega
            have w3 : wrap64 ((n : Int) - 1 - (k : Int)) = (p : Int) := by unfold wrap64; omega
            have w3q : IntKind.i64.wrap ((n : Int) - 1 - (k : Int)) = (p : Int) := by rw [IntKind.wrap_i64]; omega
            have w4 : wrap64 ((n' : Int) - 1) = (n' : Int) - 1 := by unfold wrap64; omega
            have w4q : IntKind.i64.wrap ((n' : Int) - 1) = (n' : Int) - 1 := by rw [IntKind.wrap_i64]; omega
            have w5 : wrap64 ((n' : Int) - 1 - (k : Int)) = (p' : Int) := by unfold wrap64; omega
            have w5q : IntKind.i64.wrap ((n' : Int) - 1 - (k : Int)) = (p' : Int) := by rw [IntKind.wrap_i64]; omega
            have j1 : (0 : Int) ≤ (p : Int) := by omega
            have j2 : (p : Int) < (n : Int) := by omega
            have j3 : (0 : Int) ≤ (p' : Int) := by omega
            have j4 : (p' : Int) < (n' : Int) := by omega
            clear hcells hcells' hp hp'
            by_cases he : l[p] = m[p']
            · have N1 : Hid (∀ j, j < k + 1 → l[n - 1 - j]? = m[n' - 1 - j]?) := Lib.hid (fun j hj => by
                by_cases g : j = k
                · subst g; rw [← HE.out]; exact he
                · exact HO2.out j (by omega))
              have EQ' : ∀ W : World, (Op.equalIn 10000 101 (tokV l[p]) (tokV m[p'])).run Try.prog W = .ok true W := fun W => by rw [EQ W]; simp [he]
              clear EQ HE he
              generalize hK : l[p] = x at *
              generalize hK' : m[p'] = y at *
              obtain ⟨z0, ty, at_, r, ma, mb, mc, md, me, mf, mg, mh⟩ := x
              obtain ⟨yk, yty, yat, yr, ya, yb, yc, yd, ye, yf, yg, yh⟩ := y
              unfold tokV at EQ'
              simp only at c0 c1 c2 c3 c4 c5 c6 c7 c8 c9 c10 c11 d0 d1 d2 d3 d4 d5 d6 d7 d8 d9 d10 d11 EQ'
              clear hK hK' hbl hbl'
              go_wp2_with fail
              go_quiet (fail)
              go_wp2
              go_roundw
              case rel => exact ⟨k + 1, by omega, by go_num, N1, _, rfl⟩
              case measure => simp [intOf]; omega
            · have hKi : k = K := HK.out k (by omega) (by omega) HO2.out (.inr (.inr (by intro g; rw [← HE.out] at g; exact he g)))
              have EQ' : ∀ W : World, (Op.equalIn 10000 101 (tokV l[p]) (tokV m[p'])).run Try.prog W = .ok false W := fun W => by rw [EQ W]; simp [he]
              subst hKi
              clear EQ HE he HK
              generalize hK : l[p] = x at *
              generalize hK' : m[p'] = y at *
              obtain ⟨z0, ty, at_, r, ma, mb, mc, md, me, mf, mg, mh⟩ := x
              obtain ⟨yk, yty, yat, yr, ya, yb, yc, yd, ye, yf, yg, yh⟩ := y
              unfold tokV at EQ'
              simp only at c0 c1 c2 c3 c4 c5 c6 c7 c8 c9 c10 c11 d0 d1 d2 d3 d4 d5 d6 d7 d8 d9 d10 d11 EQ'
              clear hK hK' hbl hbl'
              go_wp2_with fail
              go_quiet (fail)
              go_wp2
              go_ret2
              exact ⟨rfl, q2 + nq, by rw [World.drewN_drewN]⟩
          · have hKi : k = K := HK.out k (by omega) (by omega) HO2.out (by omega)
            have g1 : decide ((k : Int) < (M : Int) - (i : Int)) = false := by simp; omega
            subst hKi
            clear HK
            go_wp2_with fail
            go_quiet (fail)
            go_wp2
            go_ret2
            exact ⟨rfl, q2 + nq, by rw [World.drewN_drewN]⟩
    · have hFi : i = F := HF.out i (by omega) (by omega) HO.out (by omega)
      have g1 : decide ((i : Int) < (M : Int)) = false := by simp; omega
      subst hFi
      clear HF HO
      go_wp2_with fail
      go_quiet (fail)
      go_wp2
      clear g1
      have hFM : i ≤ M := by omega
      have hF0 : (0 : Int) ≤ (i : Int) := by omega
      go_loopw [5] (fun kv wr => ∃ (k : Nat), k ≤ M - i ∧ kv = .int .i64 k ∧ Hid (∀ j, j < k → l[n - 1 - j]? = m[n' - 1 - j]?) ∧ ∃ q, wr = w.drewN q) (fun kv _ => M - i - (intOf kv).toNat)
      case atStart => exact ⟨0, by omega, by simp, Lib.hid (fun j h => by omega), q + nq, by rw [World.drewN_drewN]⟩
      case round =>
        obtain ⟨k, hk, rfl, HO2, q2, rfl⟩ := hrel
        have w1 : wrap64 ((M : Int) - (i : Int)) = (M : Int) - i := by unfold wrap64; omega
        have w1q : IntKind.i64.wrap ((M : Int) - (i : Int)) = (M : Int) - i := by rw [IntKind.wrap_i64]; omega
        by_cases hlt2 : k < M - i
        · obtain ⟨bl, off, rfl, hbl, hcells⟩ := HR.out.2 (by omega)
          obtain ⟨bl', off', rfl, hbl', hcells'⟩ := HR'.out.2 (by omega)
          obtain ⟨p, hp⟩ : ∃ p, p = n - 1 - k := ⟨_, rfl⟩
          obtain ⟨p', hp'⟩ : ∃ p, p = n' - 1 - k := ⟨_, rfl⟩
          have hi' : p < l.length := by have := HL.out; omega
          have hi2 : p' < m.length := by have := HL'.out; omega
          obtain ⟨c0, c1, c2, c3, c4, c5, c6, c7, c8, c9, c10, c11⟩ := (hcells p hi').cells
          obtain ⟨d0, d1, d2, d3, d4, d5, d6, d7, d8, d9, d10, d11⟩ := (hcells' p' hi2).cells
          have HE : Hid ((l[p] = m[p']) = (l[n - 1 - k]? = m[n' - 1 - k]?)) := Lib.hid (by rw [ne_at hi' hi2, hp, hp'])
          have EQ : ∀ W : World, (Op.equalIn 10000 101 (tokV l[p]) (tokV m[p'])).run Try.prog W = .ok (decide (l[p] = m[p'])) W := fun W => eq_tok 9997 _ _ W
          have g1 : decide ((k : Int) < (M : Int) - (i : Int)) = true := by simp; omega
          have w2 : wrap64 ((n : Int) - 1) = (n : Int) - 1 := by unfold wrap64; omega
          have w2q : IntKind.i64.wrap ((n : Int) - 1) = (n : Int) - 1 := by rw [IntKind.wrap_i64]; omega
          have w3 : wrap64 ((n : Int) - 1 - (k : Int)) = (p : Int) := by unfold wrap64; omega
          have w3q : IntKind.i64.wrap ((n : Int) - 1 - (k : Int)) = (p : Int) := by rw [IntKind.wrap_i64]; omega
          have w4 : wrap64 ((n' : Int) - 1) = (n' : Int) - 1 := by unfold wrap64; omega
          have w4q : IntKind.i64.wrap ((n' : Int) - 1) = (n' : Int) - 1 := by rw [IntKind.wrap_i64]; omega
          have w5 : wrap64 ((n' : Int) - 1 - (k : Int)) = (p' : Int) := by unfold wrap64; omega
          have w5q : IntKind.i64.wrap ((n' : Int) - 1 - (k : Int)) = (p' : Int) := by rw [IntKind.wrap_i64]; omega
          have j1 : (0 : Int) ≤ (p : Int) := by omega
          have j2 : (p : Int) < (n : Int) := by omega
          have j3 : (0 : Int) ≤ (p' : Int) := by omega
          have j4 : (p' : Int) < (n' : Int) := by omega
          clear hcells hcells' hp hp'
          by_cases he : l[p] = m[p']
          · have N1 : Hid (∀ j, j < k + 1 → l[n - 1 - j]? = m[n' - 1 - j]?) := Lib.hid (fun j hj => by
              by_cases g : j = k
              · subst g; rw [← HE.out]; exact he
              · exact HO2.out j (by omega))
            have EQ' : ∀ W : World, (Op.equalIn 10000 101 (tokV l[p]) (tokV m[p'])).run Try.prog W = .ok true W := fun W => by rw [EQ W]; simp [he]
            clear EQ HE he
            generalize hK : l[p] = x at *
            generalize hK' : m[p'] = y at *
            obtain ⟨z0, ty, at_, r, ma, mb, mc, md, me, mf, mg, mh⟩ := x
            obtain ⟨yk, yty, yat, yr, ya, yb, yc, yd, ye, yf, yg, yh⟩ := y
            unfold tokV at EQ'
            simp only at c0 c1 c2 c3 c4 c5 c6 c7 c8 c9 c10 c11 d0 d1 d2 d3 d4 d5 d6 d7 d8 d9 d10 d11 EQ'
            clear hK hK' hbl hbl'
            go_wp2_with fail
            go_quiet (fail)
            go_wp2
            go_roundw
            case rel => exact ⟨k + 1, by omega, by go_num, N1, _, rfl⟩
            case measure => simp [intOf]; omega
          · have hKi : k = K := HK.out k (by omega) (by omega) HO2.out (.inr (.inr (by intro g; rw [← HE.out] at g; exact he g)))
            have EQ' : ∀ W : World, (Op.equalIn 10000 101 (tokV l[p]) (tokV m[p'])).run Try.prog W = .ok false W := fun W => by rw [EQ W]; simp [he]
            subst hKi
            clear EQ HE he HK
            generalize hK : l[p] = x at *
            generalize hK' : m[p'] = y at *
            obtain ⟨z0, ty, at_, r, ma, mb, mc, md, me, mf, mg, mh⟩ := x
            obtain ⟨yk, yty, yat, yr, ya, yb, yc, yd, ye, yf, yg, yh⟩ := y
            unfold tokV at EQ'
            simp only at c0 c1 c2 c3 c4 c5 c6 c7 c8 c9 c10 c11 d0 d1 d2 d3 d4 d5 d6 d7 d8 d9 d10 d11 EQ'
            clear hK hK' hbl hbl'
            go_wp2_with fail
            go_quiet (fail)
            go_wp2
            go_ret2
            exact ⟨rfl, q2 + nq, by rw [World.drewN_drewN]⟩
        · have hKi : k = K := HK.out k (by omega) (by omega) HO2.out (by omega)
          have g1 : decide ((k : Int) < (M : Int) - (i : Int)) = false := by simp; omega
          subst hKi
          clear HK
          go_wp2_with fail
          go_quiet (fail)
          go_wp2
          go_ret2
          exact ⟨rfl, q2 + nq, by rw [World.drewN_drewN]⟩
end Go.Proofs.Ytgodphfkhmahnaa.Df
