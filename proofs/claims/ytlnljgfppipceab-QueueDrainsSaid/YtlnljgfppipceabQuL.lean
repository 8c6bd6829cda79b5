/- The law QueuePlays, walked. -/
import Derived.Test.YtlnljgfppipceabQuK
namespace Go.Proofs.Ytlnljgfppipceab.Qu
open Go.RowKit Mem
set_option linter.unusedVariables false

theorem exists_upto (g : List It) : ∀ k, 0 < k → k ≤ g.length → ∃ i, i < k ∧ (∀ c, c < k → (at_ g i).key ≤ (at_ g c).key) ∧ ∀ c, c < i → (at_ g i).key < (at_ g c).key
  | 0, h, _ => by omega
  | 1, _, _ => by
    refine ⟨0, by omega, fun c hc => ?_, fun c hc => by omega⟩
    obtain rfl : c = 0 := by omega
    exact Int.le_refl _
  | k + 2, _, hk => by
    obtain ⟨i, hi, h1, h2⟩ := exists_upto g (k + 1) (by omega) (by omega)
    by_cases h : (at_ g (k + 1)).key < (at_ g i).key
    · refine ⟨k + 1, by omega, fun c hc => ?_, fun c hc => ?_⟩
      · by_cases e : c = k + 1
        · rw [e]; exact Int.le_refl _
        · have := h1 c (by omega); omega
      · have := h1 c (by omega); omega
    · refine ⟨i, by omega, fun c hc => ?_, h2⟩
      by_cases e : c = k + 1
      · rw [e]; omega
      · exact h1 c (by omega)
theorem exists_first {g : List It} (h : g ≠ []) : ∃ i, IsFirst g i := by
  have hp : 0 < g.length := List.length_pos_iff.2 h
  obtain ⟨i, h1, h2, h3⟩ := exists_upto g g.length hp (Nat.le_refl _)
  exact ⟨i, h1, h2, h3⟩
theorem sofar_first {g : List It} {i : Nat} {a : Int} (hi : IsFirst g i) (h : Sofar g g.length a) : a = i := by
  rcases h with ⟨h0, _⟩ | ⟨j, rfl, hj, h1, h2⟩
  · have := hi.1; omega
  · rcases Nat.lt_trichotomy i j with h | h | h
    · have a1 := h2 i h; have a2 := hi.2.1 j hj; omega
    · omega
    · have a1 := hi.2.2 j h; have a2 := h1 i hi.1; omega
theorem sofar_nil {a : Int} (h : Sofar [] ([] : List It).length a) : a = -1 := by
  rcases h with ⟨_, rfl⟩ | ⟨j, _, hj, _⟩
  · rfl
  · simp at hj

/-- the deeds that came in -/
def DRow (W : World) (A : Option Addr) (n : Nat) (ds : List (Int × Int)) : Prop :=
  ds.length = n ∧ (0 < n → ∃ b off, A = some ⟨b, off, none⟩ ∧ b < W.heap.size ∧ ∀ i, i < n → W.cell? ⟨b, off + i * 2, none⟩ = some (.int .i64 (ds.getD i (0, 0)).1) ∧ W.cell? ⟨b, off + i * 2 + 1, none⟩ = some (.int .i64 (ds.getD i (0, 0)).2))

/-- what holds between two deeds -/
structure Mid (w : World) (vx : Value) (g : List It) (p : Nat) (wr : World) : Prop where
  q : G w.heap.size wr w.heap.size g p
  x : POwn w.heap.size wr vx g
  ne : vx.ownBlock ≠ some w.heap.size
  bel : Below w.heap.size w wr
theorem Mid.step {w wr w' : World} {vx : Value} {g : List It} {p : Nat} (h : Mid w vx g p wr) (hb : Below wr.heap.size wr w') : Mid w vx g p w' :=
  ⟨h.q.below hb, h.x.below hb, h.ne, h.bel.trans (hb.mono h.bel.size)⟩

theorem POwn.cells {base : Nat} {W : World} {b n cap : Nat} {g : List It} (l : POwn base W (.slice (some ⟨b, 0, none⟩) n cap) g) : b < W.heap.size ∧ ∀ i, i < g.length → W.cell? ⟨b, i * 2, none⟩ = some (.int .i64 (at_ g i).key) ∧ W.cell? ⟨b, i * 2 + 1, none⟩ = some (.int .i64 (at_ g i).thing) := by
  rcases l.2 with ⟨hv, _⟩ | ⟨b', cap', cur, hv, _, hb, _⟩
  · cases hv
  · have e : n = g.length := by simp only [Value.slice.injEq] at hv; exact hv.2.1
    subst e
    have hbb : b' = b := by simp only [Value.slice.injEq, Option.some.injEq, Addr.mk.injEq, and_true, true_and] at hv; exact hv.1.symm
    subst hbb
    refine ⟨lt_of_some hb, fun i hi => ?_⟩
    obtain ⟨e0, e1⟩ := cells2_at g i hi
    exact ⟨by rw [World.ownsRow.cellAt l _ (by omega)]; exact e0, by rw [World.ownsRow.cellAt l _ (by omega)]; exact e1⟩
theorem POwn.above {base : Nat} {W : World} {v : Value} {g : List It} (l : POwn base W v g) {q : Nat} (hq : q < base) : v.ownBlock ≠ some q := fun e => by
  have := (World.ownsRow.lt l q e).1; omega
theorem POwn.shape {base : Nat} {W : World} {v : Value} {g : List It} (l : POwn base W v g) : ∃ A c, v = .slice A g.length c := by
  rcases l.2 with ⟨hv, h0⟩ | ⟨b, cap, cur, hv, _⟩
  · exact ⟨none, 0, by rw [hv, h0]⟩
  · exact ⟨_, cap, hv⟩
theorem G.grown {base b2 qb puts : Nat} {W W' : World} {g g2 : List It} {v : Value} (q : G base W qb g puts) (x : POwn b2 W v g2) (hne : v.ownBlock ≠ some qb) (hg : W.grownBy W' v.ownBlock) : G base W' qb g puts := by
  obtain ⟨h, ⟨vl, h1, h2, h3, h4, h5⟩, h6, h7⟩ := q
  refine ⟨h, ⟨vl, h1.kept hg (fun e => hne e.symm), World.ownsRow.kept h2 hg ?_, h3, h4, h5⟩, h6, h7⟩
  rcases h2.2 with ⟨hv, _⟩ | ⟨b1, cap1, cur1, hv, _, hb1, _⟩
  · subst hv; exact .inl rfl
  · refine .inr fun e => ?_
    subst hv
    rcases x.2 with ⟨hv2, _⟩ | ⟨b3, cap3, cur3, hv2, _, hb3, _⟩
    · subst hv2; cases e
    · subst hv2
      simp only [Value.ownBlock, Option.some.injEq] at e
      subst e
      rw [hb1] at hb3
      injection hb3 with hb3
      injection hb3 with _ hb3 _
      exact absurd hb3 (by decide)

set_option maxRecDepth 100000 in
set_option maxHeartbeats 8000000 in
theorem plays_walk (A : Option Addr) (n c : Nat) (ds : List (Int × Int)) (w : World) (hr : DRow w A n ds) (hnc : n ≤ maxLen) :
    Calls Try.prog 3 #[.slice A n c] w fun e w' => e = .returned (.bool true) ∧ Below w.heap.size w w' := by
  have HR := Lib.hid hr
  unfold maxLen at hnc
  clear hr
  by_cases hbig : 300 < n
  · go_enter Try.func3, Try.ntmps3
    go_wp2_with (first
      | (go_at_call 5; refine (put_nil _ _ _).mono ?_; rintro e w' ⟨⟨u, rfl⟩, rfl⟩)
      | (go_at_call 6; refine (take_nil _).mono ?_; rintro e w' ⟨rfl, rfl⟩)
      | (go_at_call 7; refine (peek_nil _).mono ?_; rintro e w' ⟨rfl, rfl⟩)
      | (go_at_call 8; refine (len_nil _).mono ?_; rintro e w' ⟨rfl, rfl⟩)
      | (go_at_call 9; refine (live_any _).mono ?_; rintro e w' ⟨rfl, hb⟩))
    go_ret
    exact ⟨rfl, hb⟩
  · have HM0 : Hid (Mid w (.slice none 0 0) [] 0 (w.alloc (.cells #[.slice none 0 0, .int .i64 0] 32))) :=
      ⟨G.new w (Nat.le_refl _), POwn.nil, by simp [Value.ownBlock], (Below.refl _ w).alloc (Nat.le_refl _) _⟩
    clear hnc
    go_enter Try.func3, Try.ntmps3
    go_wp2_with (first
      | (go_at_call 5; refine (put_nil _ _ _).mono ?_; rintro e w' ⟨⟨u, rfl⟩, rfl⟩)
      | (go_at_call 6; refine (take_nil _).mono ?_; rintro e w' ⟨rfl, rfl⟩)
      | (go_at_call 7; refine (peek_nil _).mono ?_; rintro e w' ⟨rfl, rfl⟩)
      | (go_at_call 8; refine (len_nil _).mono ?_; rintro e w' ⟨rfl, rfl⟩))
    go_loopw [11, 12] (fun vx i wr => ∃ (k : Nat) (g : List It) (p : Nat), k ≤ n ∧ i = .int .i64 k ∧ g.length ≤ k ∧ p ≤ k ∧ Hid (Mid w vx g p wr)) (fun _ i _ => n - (intOf i).toNat)
    case atStart => exact ⟨0, [], 0, Nat.zero_le _, rfl, Nat.le_refl _, Nat.le_refl _, HM0⟩
    case round =>
      obtain ⟨k, g, p, hk, rfl, hgk, hpk, hM⟩ := hrel
      by_cases hlt : k < n
      · obtain ⟨b, off, rfl, hb, hc⟩ := HR.out.2 (by omega)
        obtain ⟨c0, c1⟩ := hc k hlt
        obtain ⟨kind, hkind⟩ : ∃ z, z = (ds.getD k (0, 0)).1 := ⟨_, rfl⟩
        obtain ⟨key, hkey⟩ : ∃ z, z = (ds.getD k (0, 0)).2 := ⟨_, rfl⟩
        rw [← hkind] at c0
        rw [← hkey] at c1
        have HC0 := Lib.hid c0
        have HC1 := Lib.hid c1
        have d0 := (hM.out.bel.cell (p := ⟨b, off + k * 2, none⟩) hb).trans c0
        have d1 := (hM.out.bel.cell (p := ⟨b, off + k * 2 + 1, none⟩) hb).trans c1
        have i1 : (0 : Int) ≤ (k : Int) := by omega
        have i2 : (k : Int) < (n : Int) := by omega
        clear hc c0 c1 hkind hkey
        by_cases h0 : kind = 0
        · subst h0
          go_wp2_with fail
          refine (gput _ g p key ((k : Int) + 1) _ hM.out.q (by omega) (by omega)).mono ?_
          rintro e w1 ⟨⟨u1, rfl⟩, hg1, hf1⟩
          have HG1 := Lib.hid hg1
          have HB1 := Lib.hid (hM.out.bel.trans (hf1.below (Nat.le_refl _) hM.out.bel.size))
          have HX1 := Lib.hid (hM.out.x.frame hM.out.ne hf1)
          have HNE := Lib.hid hM.out.ne
          have e1 := (HB1.out.cell (p := ⟨b, off + k * 2 + 1, none⟩) hb).trans HC1.out
          have HX2 := Lib.hid (HX1.out.below ((Below.refl _ w1).alloc (Nat.le_refl _) (.cells #[.int .i64 key, .int .i64 ((k : Int) + 1)] 37)))
          have HG2 := Lib.hid (HG1.out.below ((Below.refl _ w1).alloc (Nat.le_refl _) (.cells #[.int .i64 key, .int .i64 ((k : Int) + 1)] 37)))
          have hs1 := HB1.out.size
          have HB2 := Lib.hid (HB1.out.alloc hs1 (.cells #[.int .i64 key, .int .i64 ((k : Int) + 1)] 37))
          have HN := Lib.hid (World.news_of_block (heap_alloc_new w1 (.cells #[.int .i64 key, .int .i64 ((k : Int) + 1)] 37)))
          obtain ⟨a, hA⟩ : ∃ a : It, a = ⟨key, p, (k : Int) + 1⟩ := ⟨_, rfl⟩
          have HN2 : Hid (∀ (j : Nat) (u : Value), (cells2 [a])[j]? = some u → (w1.alloc (.cells #[.int .i64 key, .int .i64 ((k : Int) + 1)] 37)).cell? ((⟨w1.heap.size, 0, none⟩ : Addr).add j) = some u) := by
            rw [hA]; exact HN.out
          rw [← hA] at HG1 HG2
          clear d0 d1 hg1 hf1 hA HN
          go_wp2_with (at_builtin; (refine wpList_app2 rfl (.tmp 65) (.tmp 74) rfl w.heap.size _ g rfl HX2.out ⟨w1.heap.size, 0, none⟩ 1 1 [a] rfl rfl HN2.out (by omega) HB2.out.size ?_); intro v2 w2 ho3 hg3 hat3; have HG3 := Lib.hid (HG2.out.grown HX2.out HNE.out hg3); have HB3 := Lib.hid (HB2.out.grown hg3 HB2.out.size (fun k hk => (World.ownsRow.lt HX2.out k hk).1)); have HN3 : Hid (v2.ownBlock ≠ some w.heap.size) := (by rcases hat3 with e | e; (rw [e]; exact HNE.out); (rw [e]; intro e2; injection e2 with e2; simp at e2; omega)); obtain ⟨b2, cap2, rfl, _⟩ := ho3.opn (by simp); have HX3 := Lib.hid ho3; obtain ⟨M, hM2⟩ : ∃ M, M = (g ++ [a]).length := ⟨_, rfl⟩; rw [← hM2] at HX3 HN3; have HM2 := Lib.hid hM2; rw [← HM2.out]; clear ho3 hg3 hat3 hM2)
          refine (glen _ _ _ _ HG3.out).mono ?_
          rw [← HM2.out]
          rintro e w' ⟨rfl, rfl⟩
          have dM : ((M : Int) != (M : Int)) = false := by simp
          go_wp2
          go_roundw
          case rel => exact ⟨k + 1, g ++ [a], p + 1, by omega, by go_num, by simp; omega, by omega, ⟨HG3.out, HX3.out, HN3.out, HB3.out⟩⟩
          case measure => simp [intOf]; omega
        · have dk0 : (kind == 0) = false := by simpa using h0
          clear h0
          obtain ⟨Ax, cx, rfl⟩ := hM.out.x.shape
          have HNE := Lib.hid hM.out.ne
          by_cases hg : g = []
          · subst hg
            by_cases h1 : kind = 1
            · subst h1
              go_wp2_with fail
              refine (gpeek_none _ p _ hM.out.q).mono ?_
              rintro e w1 ⟨rfl, m1, rfl⟩
              go_wp2_with fail
              refine (gtake_none _ p _ (hM.out.q.drewN m1)).mono ?_
              rintro e w1 ⟨rfl, m2, rfl⟩
              obtain ⟨m, hm⟩ : ∃ m, m = m1 + m2 := ⟨_, rfl⟩
              try rw [World.drewN_drewN]
              rw [← hm]
              clear hm
              have HMm := Lib.hid (hM.out.step (Mem.below_drewN (Below.refl _ _) m))
              go_wp2_with fail
              refine (first_any _ [] _ HMm.out.x (by decide)).mono ?_
              rintro e w3 ⟨⟨at', rfl, hs⟩, m3, rfl⟩
              obtain rfl := sofar_nil hs
              obtain ⟨m4, hm4⟩ : ∃ x, x = m + m3 := ⟨_, rfl⟩
              try rw [World.drewN_drewN]
              rw [← hm4]
              have hM4' := hM.out.step (Mem.below_drewN (Below.refl _ _) m4)
              obtain ⟨w4, hw4⟩ : ∃ x, x = wr.drewN m4 := ⟨_, rfl⟩
              rw [← hw4] at hM4' ⊢
              have HM4 := Lib.hid (hM4'.step ((Below.refl _ w4).alloc (Nat.le_refl _) (.cells #[.int .i64 0, .int .i64 0] 37)))
              have f4 := (hM4'.bel.cell (p := ⟨b, off + k * 2, none⟩) hb).trans HC0.out
              have hb4 : b < w4.heap.size := Nat.lt_of_lt_of_le hb hM4'.bel.size
              clear hm4 hs hM4' hw4 d0 d1
              go_wp2_with (go_at_call 8; refine (glen _ [] p _ HM4.out.q).mono ?_; rintro e w' ⟨rfl, rfl⟩)
              go_roundw
              case rel => exact ⟨k + 1, [], p, by omega, by go_num, by simp, by omega, HM4⟩
              case measure => simp [intOf]; omega
            · have dk1 : (kind == 1) = false := by simpa using h1
              clear h1
              go_wp2_with fail
              refine (gpeek_none _ p _ hM.out.q).mono ?_
              rintro e w1 ⟨rfl, m1, rfl⟩
              have HMm := Lib.hid (hM.out.step (Mem.below_drewN (Below.refl _ _) m1))
              go_wp2_with fail
              refine (first_any _ [] _ HMm.out.x (by decide)).mono ?_
              rintro e w3 ⟨⟨at', rfl, hs⟩, m3, rfl⟩
              obtain rfl := sofar_nil hs
              obtain ⟨m4, hm4⟩ : ∃ x, x = m1 + m3 := ⟨_, rfl⟩
              try rw [World.drewN_drewN]
              rw [← hm4]
              have hM4' := hM.out.step (Mem.below_drewN (Below.refl _ _) m4)
              obtain ⟨w4, hw4⟩ : ∃ x, x = wr.drewN m4 := ⟨_, rfl⟩
              rw [← hw4] at hM4' ⊢
              have HM4 := Lib.hid (hM4'.step ((Below.refl _ w4).alloc (Nat.le_refl _) (.cells #[.int .i64 0, .int .i64 0] 37)))
              have f4 := (hM4'.bel.cell (p := ⟨b, off + k * 2, none⟩) hb).trans HC0.out
              have hb4 : b < w4.heap.size := Nat.lt_of_lt_of_le hb hM4'.bel.size
              clear hm4 hs hM4' hw4 d0 d1
              go_wp2_with (go_at_call 8; refine (glen _ [] p _ HM4.out.q).mono ?_; rintro e w' ⟨rfl, rfl⟩)
              go_roundw
              case rel => exact ⟨k + 1, [], p, by omega, by go_num, by simp, by omega, HM4⟩
              case measure => simp [intOf]; omega
          · obtain ⟨i, hi⟩ := exists_first hg
            have HI := Lib.hid hi
            have hil := hi.1
            obtain ⟨y, hy⟩ : ∃ y, y = at_ g i := ⟨_, rfl⟩
            have HY := Lib.hid hy
            have dky : (y.key != y.key) = false := by simp
            have dty : (y.thing != y.thing) = false := by simp
            have hgl : g.length ≤ 900 := by omega
            obtain ⟨bx, capx, hv, _⟩ := hM.out.x.opn (by omega)
            simp only [Value.slice.injEq, true_and] at hv
            obtain ⟨rfl, rfl⟩ := hv
            have q1 : (0 : Int) ≤ (i : Int) := by omega
            have q2 : (i : Int) < (g.length : Int) := by omega
            clear hg hi hy
            go_wp2_with fail
            refine (gpeek _ g p i _ hM.out.q hgl HI.out).mono ?_
            rw [← HY.out]
            rintro e w1 ⟨rfl, m1, rfl⟩
            by_cases h1 : kind = 1
            · subst h1
              go_wp2_with fail
              refine (gtake _ g p i _ (hM.out.q.drewN m1) hgl HI.out).mono ?_
              rw [← HY.out]
              rintro e w2 ⟨rfl, hg2, hf2⟩
              have HG2 := Lib.hid hg2
              have HX2 := Lib.hid ((hM.out.x.below (Mem.below_drewN (Below.refl _ _) m1)).frame HNE.out hf2)
              have HB2 := Lib.hid ((hM.out.bel.trans (Mem.below_drewN (Below.refl _ _) m1)).trans (hf2.below (Nat.le_refl _) hM.out.bel.size))
              clear hg2 hf2 d0 d1
              go_wp2_with fail
              refine (first_any _ g _ HX2.out hgl).mono ?_
              rintro e w3 ⟨⟨at', rfl, hs⟩, m3, rfl⟩
              obtain rfl := sofar_first HI.out hs
              try rw [World.drewN_drewN]
              obtain ⟨w4, hw4⟩ : ∃ x, x = w2.drewN m3 := ⟨_, rfl⟩
              rw [← hw4]
              have hg4 : G w.heap.size w4 w.heap.size (g.eraseIdx i) p := by rw [hw4]; exact HG2.out.below (Mem.below_drewN (Below.refl _ _) m3)
              have hx4 : POwn w.heap.size w4 (.slice (some ⟨bx, 0, none⟩) g.length cx) g := by rw [hw4]; exact HX2.out.below (Mem.below_drewN (Below.refl _ _) m3)
              have hbl4 : Below w.heap.size w w4 := by rw [hw4]; exact HB2.out.trans (Mem.below_drewN (Below.refl _ _) m3)
              have f4 := (hbl4.cell (p := ⟨b, off + k * 2, none⟩) hb).trans HC0.out
              have hb4 : b < w4.heap.size := Nat.lt_of_lt_of_le hb hbl4.size
              obtain ⟨hbx4, hcx⟩ := hx4.cells
              obtain ⟨x0, x1⟩ := hcx i hil
              rw [← HY.out] at x0 x1
              have HM4 : Hid (G w.heap.size (w4.alloc (.cells #[.int .i64 y.key, .int .i64 y.thing] 37)) w.heap.size (g.eraseIdx i) p) := hg4.below ((Below.refl _ w4).alloc (Nat.le_refl _) _)
              have HX4 : Hid (POwn w.heap.size (w4.alloc (.cells #[.int .i64 y.key, .int .i64 y.thing] 37)) (.slice (some ⟨bx, 0, none⟩) g.length cx) g) := hx4.below ((Below.refl _ w4).alloc (Nat.le_refl _) _)
              have HB4 : Hid (Below w.heap.size w (w4.alloc (.cells #[.int .i64 y.key, .int .i64 y.thing] 37))) := hbl4.alloc hbl4.size _
              clear hs hw4 hg4 hx4 hbl4 hcx
              go_wp2_with fail
              refine (without_any _ g i _ HX4.out hil hgl).mono ?_
              rintro e w5 ⟨v', rfl, hp5, hb5⟩
              have HX5 := Lib.hid (hp5.base_le HB4.out.size)
              have HG5 := Lib.hid (HM4.out.below hb5)
              have HB5 := Lib.hid (HB4.out.trans (hb5.mono HB4.out.size))
              have HN5 := Lib.hid (hp5.above HM4.out.lt)
              obtain ⟨A5, c5, rfl⟩ := hp5.shape
              have hle5 : (g.eraseIdx i).length ≤ k := by rw [List.length_eraseIdx]; split <;> omega
              obtain ⟨M, hM5⟩ : ∃ M, M = (g.eraseIdx i).length := ⟨_, rfl⟩
              rw [← hM5] at HX5 HN5 ⊢
              have HM5 := Lib.hid hM5
              have dM : ((M : Int) != (M : Int)) = false := by simp
              clear hp5 hb5 hM5
              go_wp2_with (go_at_call 8; refine (glen _ _ p _ HG5.out).mono ?_; rw [← HM5.out]; rintro e w' ⟨rfl, rfl⟩)
              go_roundw
              case rel => exact ⟨k + 1, g.eraseIdx i, p, by omega, by go_num, by omega, by omega, ⟨HG5.out, HX5.out, HN5.out, HB5.out⟩⟩
              case measure => simp [intOf]; omega
            · have dk1 : (kind == 1) = false := by simpa using h1
              have HG2 := Lib.hid (hM.out.q.drewN m1)
              have HX2 := Lib.hid (hM.out.x.below (Mem.below_drewN (Below.refl _ _) m1))
              have HB2 := Lib.hid (hM.out.bel.trans (Mem.below_drewN (Below.refl _ _) m1))
              clear h1
              go_wp2_with fail
              refine (first_any _ g _ HX2.out hgl).mono ?_
              rintro e w3 ⟨⟨at', rfl, hs⟩, m3, rfl⟩
              obtain rfl := sofar_first HI.out hs
              try rw [World.drewN_drewN]
              obtain ⟨w4, hw4⟩ : ∃ x, x = wr.drewN (m1 + m3) := ⟨_, rfl⟩
              rw [← hw4]
              have hg4 : G w.heap.size w4 w.heap.size g p := by rw [hw4]; exact hM.out.q.below (Mem.below_drewN (Below.refl _ _) (m1 + m3))
              have hx4 : POwn w.heap.size w4 (.slice (some ⟨bx, 0, none⟩) g.length cx) g := by rw [hw4]; exact hM.out.x.below (Mem.below_drewN (Below.refl _ _) (m1 + m3))
              have hbl4 : Below w.heap.size w w4 := by rw [hw4]; exact hM.out.bel.trans (Mem.below_drewN (Below.refl _ _) (m1 + m3))
              have f4 := (hbl4.cell (p := ⟨b, off + k * 2, none⟩) hb).trans HC0.out
              have hb4 : b < w4.heap.size := Nat.lt_of_lt_of_le hb hbl4.size
              obtain ⟨hbx4, hcx⟩ := hx4.cells
              obtain ⟨x0, x1⟩ := hcx i hil
              rw [← HY.out] at x0 x1
              have HM4 : Hid (G w.heap.size (w4.alloc (.cells #[.int .i64 y.key, .int .i64 y.thing] 37)) w.heap.size g p) := hg4.below ((Below.refl _ w4).alloc (Nat.le_refl _) _)
              have HX4 : Hid (POwn w.heap.size (w4.alloc (.cells #[.int .i64 y.key, .int .i64 y.thing] 37)) (.slice (some ⟨bx, 0, none⟩) g.length cx) g) := hx4.below ((Below.refl _ w4).alloc (Nat.le_refl _) _)
              have HB4 : Hid (Below w.heap.size w (w4.alloc (.cells #[.int .i64 y.key, .int .i64 y.thing] 37))) := hbl4.alloc hbl4.size _
              clear hs hw4 hg4 hx4 hbl4 hcx
              obtain ⟨M, hM5⟩ : ∃ M, M = g.length := ⟨_, rfl⟩
              rw [← hM5] at q2
              have HM5 := Lib.hid hM5
              have dM : ((g.length : Int) != (g.length : Int)) = false := by simp
              clear hM5 d0 d1
              go_wp2_with (go_at_call 8; refine (glen _ _ p _ HM4.out).mono ?_; rintro e w' ⟨rfl, rfl⟩)
              go_roundw
              case rel => exact ⟨k + 1, g, p, by omega, by go_num, by omega, by omega, ⟨HM4.out, HX4.out, HNE.out, HB4.out⟩⟩
              case measure => simp [intOf]; omega
      · go_wp2_with (go_at_call 9; refine (live_any _).mono ?_; rintro e w' ⟨rfl, hb⟩; have HB := Lib.hid (hM.out.bel.trans (hb.mono hM.out.bel.size)); clear hb)
        go_ret
        exact ⟨rfl, HB.out⟩
end Go.Proofs.Ytlnljgfppipceab.Qu
