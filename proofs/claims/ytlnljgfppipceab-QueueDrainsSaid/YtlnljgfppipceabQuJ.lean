/- Rows of pairs (the reference's things that wait), and the walks of the reference of queue: First, Without. -/
import Derived.Test.YtlnljgfppipceabQuI
namespace Go.Proofs.Ytlnljgfppipceab.Qu
open Go.RowKit Mem
set_option linter.unusedVariables false

theorem info_one : (Try.prog.info? 37).map (fun i => (i.zero, i.size, i.bytes)) = some (some (.agg #[.int .i64 0, .int .i64 0]), 2, 16) := by kernel_rfl
def cells2 (g : List It) : List Value := g.flatMap fun a => [.int .i64 a.key, .int .i64 a.thing]
theorem cells2_cons (a : It) (h : List It) : cells2 (a :: h) = .int .i64 a.key :: .int .i64 a.thing :: cells2 h := rfl
theorem cells2_append (h k : List It) : cells2 (h ++ k) = cells2 h ++ cells2 k := by simp [cells2]
theorem cells2_length (h : List It) : (cells2 h).length = h.length * 2 := by
  induction h with
  | nil => rfl
  | cons a h ih => rw [cells2_cons]; simp [ih]; omega
theorem cells2_at (h : List It) : ∀ i, i < h.length → (cells2 h)[i * 2]? = some (.int .i64 (at_ h i).key) ∧ (cells2 h)[i * 2 + 1]? = some (.int .i64 (at_ h i).thing) := by
  induction h with
  | nil => intro i hi; simp at hi
  | cons a h ih =>
    intro i hi
    cases i with
    | zero => exact ⟨rfl, rfl⟩
    | succ i =>
      have := ih i (by simpa using hi)
      rw [cells2_cons, show (i + 1) * 2 = i * 2 + 1 + 1 from by omega]
      have e : at_ (a :: h) (i + 1) = at_ h i := by simp [at_]
      rw [e]
      simpa using this
theorem cells2_take (h : List It) (m : Nat) : (cells2 h).take (m * 2) = cells2 (h.take m) := by
  induction h generalizing m with
  | nil => simp [cells2]
  | cons a h ih =>
    cases m with
    | zero => simp [cells2]
    | succ m =>
      rw [cells2_cons, show (m + 1) * 2 = m * 2 + 1 + 1 from by omega]
      simp only [List.take_succ_cons, cells2_cons, ih]
theorem cells2_drop (h : List It) (m : Nat) : (cells2 h).drop (m * 2) = cells2 (h.drop m) := by
  induction h generalizing m with
  | nil => simp [cells2]
  | cons a h ih =>
    cases m with
    | zero => simp
    | succ m =>
      rw [cells2_cons, show (m + 1) * 2 = m * 2 + 1 + 1 from by omega]
      simp only [List.drop_succ_cons, ih]

/-- a row of pairs of the call's own -/
def POwn (base : Nat) (W : World) (v : Value) (g : List It) : Prop := W.ownsRow base 37 2 v g.length (cells2 g)
section
variable {base : Nat} {W W' : World} {v : Value} {g : List It}
theorem POwn.nil : POwn base W (.slice none 0 0) [] := World.ownsRow_nil _ _ _ _
theorem POwn.opn (l : POwn base W v g) (hp : 0 < g.length) : ∃ b cap, v = .slice (some ⟨b, 0, none⟩) g.length cap ∧ base ≤ b ∧ b < W.heap.size ∧ g.length ≤ cap ∧ cap ≤ maxLen ∧
    (∀ i, i < g.length → W.cell? ⟨b, i * 2, none⟩ = some (.int .i64 (at_ g i).key) ∧ W.cell? ⟨b, i * 2 + 1, none⟩ = some (.int .i64 (at_ g i).thing)) := by
  have l' := l
  rcases l.2 with ⟨_, h0⟩ | ⟨b, cap, cur, hv, hb, hg, hnc, hcm, hs, ht⟩
  · omega
  · subst hv
    refine ⟨b, cap, rfl, hb, (Array.getElem?_eq_some_iff.1 hg).1, hnc, hcm, fun i hi => ?_⟩
    obtain ⟨e0, e1⟩ := cells2_at g i hi
    exact ⟨by rw [World.ownsRow.cellAt l' _ (by omega)]; exact e0, by rw [World.ownsRow.cellAt l' _ (by omega)]; exact e1⟩
theorem POwn.frame {bb qb : Nat} (l : POwn base W v g) (hq : v.ownBlock ≠ some qb) (f : QFrame bb qb W W') : POwn base W' v g := by
  refine ⟨l.1, ?_⟩
  rcases l.2 with hn | ⟨b, cap, cur, hv, h1, h2, r⟩
  · exact .inl hn
  · subst hv
    refine .inr ⟨b, cap, cur, rfl, h1, f.other b _ h2 (fun e => hq (by simp [Value.ownBlock, e])) fun cs fr e => ?_, r⟩
    injection e with _ e _
    exact absurd e (by decide)
theorem POwn.below (l : POwn base W v g) (hb : Below W.heap.size W W') : POwn base W' v g := by
  refine ⟨l.1, ?_⟩
  rcases l.2 with hn | ⟨b, cap, cur, hv, h1, h2, r⟩
  · exact .inl hn
  · subst hv
    exact .inr ⟨b, cap, cur, rfl, h1, (hb.block b (lt_of_some h2)).trans h2, r⟩
theorem POwn.base_le {b2 : Nat} (l : POwn base W v g) (h : b2 ≤ base) : POwn b2 W v g := by
  refine ⟨l.1, ?_⟩
  rcases l.2 with hn | ⟨b, cap, cur, hv, h1, r⟩
  · exact .inl hn
  · exact .inr ⟨b, cap, cur, hv, by omega, r⟩
end

/-- the place so far -/
def Sofar (g : List It) (k : Nat) (at' : Int) : Prop := (k = 0 ∧ at' = -1) ∨ ∃ i : Nat, at' = i ∧ i < k ∧ (∀ c, c < k → (at_ g i).key ≤ (at_ g c).key) ∧ ∀ c, c < i → (at_ g i).key < (at_ g c).key

set_option maxRecDepth 100000 in
set_option maxHeartbeats 2000000 in
theorem first_any {base : Nat} (v : Value) (g : List It) (w : World) (hl : POwn base w v g) (hn : g.length ≤ 900) :
    Calls Try.prog 10 #[v] w fun e w' => (∃ a : Int, e = .returned (.int .i64 a) ∧ Sofar g g.length a) ∧ ∃ m, w' = w.drewN m := by
  by_cases h0 : g.length = 0
  · rcases hl.2 with ⟨hv, _⟩ | ⟨b, cap, cur, hv, _⟩
    all_goals
      subst hv
      rw [h0]
      clear hl h0
      go_enter Try.func10, Try.ntmps10
      go_wp2
      refine wp_loop_rounds 1 ?_
      rw [rounds_succ]; go_wp2
      go_ret
      exact ⟨⟨-1, rfl, .inl ⟨rfl, rfl⟩⟩, 0, rfl⟩
  · obtain ⟨b, cap, rfl, _, _, _, _, hc⟩ := hl.opn (by omega)
    obtain ⟨n, hnn⟩ : ∃ n, n = g.length := ⟨_, rfl⟩
    rw [← hnn] at hn hc h0 ⊢
    have HC := Lib.hid hc
    clear hl hc hnn
    go_enter Try.func10, Try.ntmps10
    go_wp2
    go_loopw [3, 4] (fun a i wr => ∃ (k : Nat) (at' : Int), k ≤ n ∧ i = .int .i64 k ∧ a = .int .i64 at' ∧ Hid (Sofar g k at') ∧ ∃ m, wr = w.drewN m) (fun _ i _ => n - (intOf i).toNat)
    case atStart => exact ⟨0, -1, Nat.zero_le _, rfl, rfl, .inl ⟨rfl, rfl⟩, 0, rfl⟩
    case round =>
      obtain ⟨k, at', hk, rfl, rfl, hS, m, rfl⟩ := hrel
      by_cases hlt : k < n
      · rcases hS.out with ⟨rfl, rfl⟩ | ⟨i, rfl, hik, hle, hst⟩
        · go_wp2
          go_quiet (fail)
          go_wp2
          go_roundw
          case rel =>
            have hS1 : Sofar g 1 0 := by
              refine .inr ⟨0, rfl, by omega, fun c hc => ?_, fun c hc => by omega⟩
              obtain rfl : c = 0 := by omega
              exact Int.le_refl _
            exact ⟨1, 0, by omega, rfl, rfl, hS1, _, rfl⟩
          case measure => simp [intOf]; omega
        · have x1 := (HC.out k hlt).1
          have x2 := (HC.out i (by omega)).1
          obtain ⟨p, hp⟩ : ∃ p, p = (at_ g k).key := ⟨_, rfl⟩
          obtain ⟨q, hq⟩ : ∃ p, p = (at_ g i).key := ⟨_, rfl⟩
          rw [← hp] at x1
          rw [← hq] at x2
          have HP := Lib.hid hp
          have HQ := Lib.hid hq
          have HLE := Lib.hid hle
          have HST := Lib.hid hst
          have i1 : (0 : Int) ≤ (k : Int) := by omega
          have i2 : (k : Int) < (n : Int) := by omega
          have i3 : (0 : Int) ≤ (i : Int) := by omega
          have i4 : (i : Int) < (n : Int) := by omega
          have i5 : decide ((i : Int) < 0) = false := by simp
          clear hp hq hle hst
          by_cases hpq : p < q
          · have HPQ := Lib.hid hpq
            go_wp2
            go_quiet (fail)
            go_wp2
            go_roundw
            case rel =>
              refine ⟨k + 1, k, by omega, by go_num, rfl, .inr ⟨k, rfl, by omega, fun c hc => ?_, fun c hc => ?_⟩, _, rfl⟩
              · by_cases e : c = k
                · rw [e]; exact Int.le_refl _
                · have a1 := HLE.out c (by omega); have a2 := HPQ.out; have a3 := HP.out; have a4 := HQ.out; omega
              · have a1 := HLE.out c (by omega); have a2 := HPQ.out; have a3 := HP.out; have a4 := HQ.out; omega
            case measure => simp [intOf]; omega
          · have HPQ := Lib.hid hpq
            have hd : decide (p < q) = false := by simp; omega
            go_wp2
            go_quiet (fail)
            go_wp2
            go_roundw
            case rel =>
              refine ⟨k + 1, i, by omega, by go_num, rfl, .inr ⟨i, rfl, by omega, fun c hc => ?_, HST.out⟩, _, rfl⟩
              by_cases e : c = k
              · have a2 := HPQ.out; have a3 := HP.out; have a4 := HQ.out; rw [e]; omega
              · exact HLE.out c (by omega)
            case measure => simp [intOf]; omega
      · obtain rfl : k = n := by omega
        go_wp2
        go_ret
        exact ⟨⟨at', rfl, hS.out⟩, _, rfl⟩
end Go.Proofs.Ytlnljgfppipceab.Qu
