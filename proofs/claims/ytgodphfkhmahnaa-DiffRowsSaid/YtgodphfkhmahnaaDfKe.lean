/- Diffs: the runs that are kept. -/
import Derived.Test.YtgodphfkhmahnaaDfZ
import Derived.Test.YtgodphfkhmahnaaDfJ
import Derived.Test.YtgodphfkhmahnaaDfC
import Derived.Test.YtgodphfkhmahnaaDfW
import Derived.Deep.Cut
import Derived.Deep.CutRange
namespace Go.Proofs.Ytgodphfkhmahnaa.Df
open Go.RowKit Mem Sm Rt Tk
set_option linter.unusedVariables false
set_option linter.unusedSimpArgs false
theorem Chain.mem {l m : List Tk.Tk} {a b : Nat} {ρ : List Rg} (h : Chain l m a b ρ) : ∀ r ∈ ρ, ∃ x y s : Nat, r = ⟨x, y, s⟩ ∧ x ≤ a ∧ y ≤ b := by
  induction h with
  | nil => intro r hr; simp at hr
  | @snoc a b x y s ρ hc hs ha h0 ih =>
    intro r hr
    rcases List.mem_append.1 hr with g | g
    · obtain ⟨x', y', s', e, h1, h2⟩ := ih r g
      have hne : ρ ≠ [] := by rintro rfl; simp at g
      rcases ha hne with q | q
      · exact ⟨x', y', s', e, by omega, by omega⟩
      · exact ⟨x', y', s', e, by omega, by omega⟩
    · rw [List.mem_singleton] at g
      exact ⟨x, y, s, g, by omega, by omega⟩
theorem ChAt.run {base p : Nat} {W W' : World} {a b v : Value} {vs : List Value} {XS : List (List Int)} (h : ChAt base W p a b v vs XS) {row : Option Nat} (hg : W.grownBy W' row) (ht : ∀ g, row = some g → ∃ cs fr, W.heap[g]? = some (.cells cs 117 fr)) : ChAt base W' p a b v vs XS := by
  have hK : ∀ (k : Nat) (cs : Array Value) (t : TypeId) (fr : Nat × Nat), W.heap[k]? = some (.cells cs t fr) → t ≠ 117 → W'.heap[k]? = some (.cells cs t fr) := by
    intro k cs t fr e hne
    rw [hg.block k (lt_some e) (fun g => ?_)]
    · exact e
    · obtain ⟨cs', fr', hh⟩ := ht k g.symm
      rw [e] at hh
      injection hh with hh
      injection hh with _ h6 _
      exact hne h6
  refine ⟨hK _ _ _ _ h.h0 (by decide), own_keep h.row hg (fun g e hb => ?_), h.len, fun i u l h1 h2 => ?_⟩
  · obtain ⟨cs, fr, hh⟩ := ht g e
    obtain ⟨cs', fr', hh'⟩ := own_ty h.row g hb
    rw [hh] at hh'
    injection hh' with hh'
    injection hh' with _ h6 _
    revert h6; decide
  · obtain ⟨g, e, hh⟩ := h.its i u l h1 h2
    exact ⟨g, e, hK _ _ _ _ hh (by decide)⟩
theorem rgs_lit (w : World) (r : Rg) : Rn.Rgs w.heap.size (w.alloc (.cells #[.int .i64 r.at_, .int .i64 r.old, .int .i64 r.new] 117)) (.slice (some ⟨w.heap.size, 0, none⟩) 1 1) [r] :=
  ⟨rfl, .inr ⟨w.heap.size, 1, _, rfl, Nat.le_refl _, heap_alloc_new w _, by simp, by unfold maxLen; omega, rfl, rfl⟩⟩
/-- what holds while runs are gathered -/
structure KP (w W : World) (rv : Value) (σ : List Rg) : Prop where
  b : Below w.heap.size w W
  r : Rn.Rgs w.heap.size W rv σ
theorem KP.step {w W W' : World} {rv : Value} {σ : List Rg} (h : KP w W rv σ) (hb : Below W.heap.size W W') : KP w W' rv σ := ⟨h.b.trans (hb.mono h.b.size), h.r.belowAll hb⟩
theorem KP.app {w W W' : World} {rv rv' : Value} {σ σ' : List Rg} (h : KP w W rv σ) (hg : W.grownBy W' rv.ownBlock) (ho : Rn.Rgs w.heap.size W' rv' σ') : KP w W' rv' σ' :=
  ⟨below_of_grown h.b hg h.b.size (fun i e => (h.r.block i e).1), ho⟩
structure KI (w W : World) (p bx D I : Nat) (a b v : Value) (vs : List Value) (XS : List (List Int)) (base base2 : Nat) (u : Value) (ρ : List Rg) (rv : Value) (σ : List Rg) : Prop where
  k : KP w W rv σ
  ch : ChAt base W p a b v vs XS
  x : W.heap[bx]? = some (.cells #[.int .i64 D, .int .i64 I] 145 (0, 0))
  ur : Rn.Rgs base2 W u ρ
  ne : ∀ g, u.ownBlock = some g → rv.ownBlock ≠ some g
section
variable {w W W' : World} {p bx D I : Nat} {a b v : Value} {vs : List Value} {XS : List (List Int)} {base base2 : Nat} {u : Value} {ρ : List Rg} {rv rv' : Value} {σ σ' : List Rg}
theorem KI.step (h : KI w W p bx D I a b v vs XS base base2 u ρ rv σ) (hb : Below W.heap.size W W') : KI w W' p bx D I a b v vs XS base base2 u ρ rv σ :=
  ⟨h.k.step hb, h.ch.step hb, hkeep hb h.x, h.ur.belowAll hb, h.ne⟩
theorem KI.app (h : KI w W p bx D I a b v vs XS base base2 u ρ rv σ) (hg : W.grownBy W' rv.ownBlock) (ho : Rn.Rgs w.heap.size W' rv' σ') (hat : rv'.ownBlock = rv.ownBlock ∨ rv'.ownBlock = some W.heap.size) : KI w W' p bx D I a b v vs XS base base2 u ρ rv' σ' := by
  have ht : ∀ g, rv.ownBlock = some g → ∃ cs fr, W.heap[g]? = some (.cells cs 117 fr) := fun g e => (h.k.r.block g e).2.2
  refine ⟨h.k.app hg ho, h.ch.run hg ht, ?_, h.ur.grown hg (fun g e e2 => h.ne g e e2.symm), fun g e e2 => ?_⟩
  · rw [hg.block _ (lt_some h.x) (fun g => ?_)]
    · exact h.x
    · obtain ⟨cs', fr', hh⟩ := ht _ g.symm
      have e := h.x
      rw [e] at hh
      injection hh with hh
      injection hh with _ h6 _
      revert h6; decide
  · rcases hat with q | q
    · exact h.ne g e (by rw [← q]; exact e2)
    · rw [q] at e2
      have := (h.ur.block g e).2.1
      injection e2 with e2
      omega
end
theorem trow_grown {w W' : World} {A : Option Addr} {n : Nat} {l : List Tk.Tk} (h : TRow w A n l) (hs : w.heap.size ≤ W'.heap.size) (hk : ∀ k, k < w.heap.size → W'.heap[k]? = w.heap[k]?) : TRow W' A n l :=
  h.keep hs (fun q hq => by simp only [World.cell?, hk q.block hq])
/-- what kept answers -/
def KeptIs (l m : List Tk.Tk) (w : World) (e : Ending) (w' : World) : Prop := ∃ A k c σ, e = .returned (.slice A k c) ∧ Rn.RRow w' A k σ ∧ Stay l m σ ∧ Below w.heap.size w w' ∧ ∀ a, A = some a → ∃ cs fr, w'.heap[a.block]? = some (.cells cs 117 fr)
theorem mv_map_take (f : Nat) (ρ : List Rg) (i : Nat) (h : i < ρ.length) : (ρ.take (i + 1)).map (mv f) = (ρ.take i).map (mv f) ++ [mv f ρ[i]] := by
  rw [List.take_add_one, List.getElem?_eq_getElem h, List.map_append]
  rfl
set_option maxRecDepth 100000 in
set_option maxHeartbeats 4000000 in
theorem keptR_any (l m : List Tk.Tk) (A B : Option Addr) (n n' c c' : Nat) (w : World) (hn : n ≤ 150) (hn' : n' ≤ 150) (hc : n ≤ c) (hc' : n' ≤ c') (h1 : TRow w A n l) (h2 : TRow w B n' m) :
    Calls Try.prog 63 #[.slice A n c, .slice B n' c'] w (KeptIs l m w) := by
  have hnl := h1.1
  have hnm := h2.1
  obtain ⟨f, hf⟩ : ∃ x, x = fr l m := ⟨_, rfl⟩
  obtain ⟨k, hk⟩ : ∃ x, x = bk (l.drop (fr l m)) (m.drop (fr l m)) := ⟨_, rfl⟩
  have CE := fun W a b => ends_any l m A B n n' c c' W a b (by omega) (by omega)
  have hE : Ends l m f k := by rw [hk, hf]; exact ends_of l m
  rw [← hk, ← hf] at CE
  have hle1 := hE.le1
  have hle2 := hE.le2
  have HE := Lib.hid hE
  have HL := Lib.hid h1
  have HM := Lib.hid h2
  have HLN := Lib.hid hnl
  have HMN := Lib.hid hnm
  rw [hnl] at hle1
  rw [hnm] at hle2
  obtain ⟨E1, hE1⟩ : ∃ x, x = n - k := ⟨_, rfl⟩
  obtain ⟨E2, hE2⟩ : ∃ x, x = n' - k := ⟨_, rfl⟩
  have hi1 : ((n : Int) - (k : Int)) = (E1 : Int) := by omega
  have hi2 : ((n' : Int) - (k : Int)) = (E2 : Int) := by omega
  have HI1 := Lib.hid hi1
  have HI2 := Lib.hid hi2
  have HE1 := Lib.hid hE1
  have HE2 := Lib.hid hE2
  have hb1 : f ≤ E1 ∧ E1 ≤ n ∧ f ≤ E2 ∧ E2 ≤ n' ∧ k ≤ n := by omega
  obtain ⟨g1, g2, g3, g4, g5⟩ := hb1
  unfold KeptIs
  have CE' := Lib.hid CE
  clear hf hk hE hnl hnm hle1 hle2 h1 h2 hE1 hE2 CE hi1 hi2
  go_enter Try.func63, Try.ntmps63
  go_wp2_with fail
  refine (CE'.out _ HL.out HM.out).mono ?_
  rintro e w1 ⟨rfl, q, rfl⟩
  have hk0 := rgs_lit (w.drewN q) ⟨0, 0, (f : Nat)⟩
  have hb0 := (below_drewN (Below.refl w.heap.size w) q).alloc (Nat.le_refl _) (.cells #[.int .i64 0, .int .i64 0, .int .i64 f] 117)
  have HK0 : Hid (KP w ((w.drewN q).alloc (.cells #[.int .i64 0, .int .i64 0, .int .i64 f] 117)) (.slice (some ⟨w.heap.size, 0, none⟩) 1 1) [⟨0, 0, (f : Nat)⟩]) := Lib.hid ⟨hb0, hk0⟩
  clear CE' hk0 hb0
  go_wp2_with fail
  rw [HI1.out, HI2.out]
  clear HI1 HI2
  go_loopw [9, 10, 11] (fun rv av bv wr => ∃ (x y : Nat) (ρ : List Rg), av = .int .i64 x ∧ bv = .int .i64 y ∧ x ≤ 1000 ∧ y ≤ 1000 ∧ Hid (ρ.length ≤ 400) ∧ Hid ((x = f ∧ y = f ∧ ρ = []) ∨ (¬ (x < E1 ∧ y < E2) ∧ Stay l m (full l m f k ρ))) ∧ Hid (KP w wr rv (⟨0, 0, (f : Nat)⟩ :: ρ.map (mv f)))) (fun _ av bv _ => E1 + E2 + 10 - (intOf av).toNat - (intOf bv).toNat)
  case atStart => exact ⟨f, f, [], rfl, rfl, by omega, by omega, Lib.hid (by simp), Lib.hid (.inl ⟨rfl, rfl, rfl⟩), HK0⟩
  case round =>
    obtain ⟨x, y, ρ, rfl, rfl, hx, hy, HRL, HC, HK⟩ := hrel
    clear HK0
    by_cases hgo : x < E1 ∧ y < E2
    · obtain ⟨hgo1, hgo2⟩ := hgo
      have hC : x = f ∧ y = f ∧ ρ = [] := by
        rcases HC.out with g | g
        · exact g
        · exact absurd ⟨hgo1, hgo2⟩ g.1
      obtain ⟨rfl, rfl, rfl⟩ := hC
      clear HC HRL
      have j0 : decide ((y : Int) < (E1 : Int)) = true := by simp; omega
      have j9 : decide ((y : Int) < (E2 : Int)) = true := by simp; omega
      have j1 : (y : Int) < (E1 : Int) := by omega
      have j2 : (y : Int) < (E2 : Int) := by omega
      have n0 : (0 : Int) ≤ (y : Int) := by omega
      have n1 : (y : Int) ≤ (E1 : Int) := by omega
      have n2 : (y : Int) ≤ (E2 : Int) := by omega
      have n3 : (E1 : Int) ≤ (c : Int) := by omega
      have n4 : (E2 : Int) ≤ (c' : Int) := by omega
      have hcx : ¬ c = y := by omega
      have hcx' : ¬ c' = y := by omega
      have hm1 : l.length - k - y = E1 - y := by rw [HLN.out, ← HE1.out]
      have hm2 : m.length - k - y = E2 - y := by rw [HMN.out, ← HE2.out]
      -- the rows between, in any world behind this one
      have HT : Hid (∀ W, wr.heap.size ≤ W.heap.size → (∀ k, k < wr.heap.size → W.heap[k]? = wr.heap[k]?) → TRow W (A.map (·.add (y * 12))) (E1 - y) (mid l y k) ∧ TRow W (B.map (·.add (y * 12))) (E2 - y) (mid m y k)) := Lib.hid (fun W hs hkp => by
        have t1 := trow_grown (HL.out.below HK.out.b) hs hkp
        have t2 := trow_grown (HM.out.below HK.out.b) hs hkp
        have u1 := trow_cut t1 hc (f := y) (h := E1) (by omega) (by omega)
        have u2 := trow_cut t2 hc' (f := y) (h := E2) (by omega) (by omega)
        unfold cutA at u1 u2
        rw [if_neg hcx] at u1
        rw [if_neg hcx'] at u2
        unfold mid
        rw [hm1, hm2]
        exact ⟨u1, u2⟩)
      have hb1 := (Below.refl wr.heap.size wr).alloc (Nat.le_refl _) (.cells #[.slice (A.map (·.add (y * 12))) (E1 - y) (c - y), .slice (B.map (·.add (y * 12))) (E2 - y) (c' - y), .slice none 0 0] 143)
      have hb2 := below_drewN hb1 1
      have hp2 := heap_alloc_new wr (.cells #[.slice (A.map (·.add (y * 12))) (E1 - y) (c - y), .slice (B.map (·.add (y * 12))) (E2 - y) (c' - y), .slice none 0 0] 143)
      have HK2 := Lib.hid (HK.out.step hb2)
      have HKR : Hid (∀ g, u9.ownBlock = some g → g < wr.heap.size) := Lib.hid (fun g e => (HK.out.r.block g e).2.1)
      have HWS : Hid (w.heap.size ≤ wr.heap.size) := Lib.hid HK.out.b.size
      clear hb1
      go_upto_region 7 with fail
      go_region
      go_wp2_with fail
      generalize hW2 : (wr.alloc (.cells #[.slice (A.map (·.add (y * 12))) (E1 - y) (c - y), .slice (B.map (·.add (y * 12))) (E2 - y) (c' - y), .slice none 0 0] 143)).drew = W2
      have hW2' : (wr.alloc (.cells #[.slice (A.map (·.add (y * 12))) (E1 - y) (c - y), .slice (B.map (·.add (y * 12))) (E2 - y) (c' - y), .slice none 0 0] 143)).drewN 1 = W2 := hW2
      rw [hW2'] at HK2 hb2
      have hp3 : W2.heap[wr.heap.size]? = some (.cells #[.slice (A.map (·.add (y * 12))) (E1 - y) (c - y), .slice (B.map (·.add (y * 12))) (E2 - y) (c' - y), .slice none 0 0] 143 (0, 0)) := by rw [← hW2']; exact hp2
      have hs2 := lt_some hp3
      have hch : ChAt W2.heap.size W2 wr.heap.size (.slice (A.map (·.add (y * 12))) (E1 - y) (c - y)) (.slice (B.map (·.add (y * 12))) (E2 - y) (c' - y)) (.slice none 0 0) [] [] := ⟨hp3, ⟨rfl, .inl ⟨rfl, rfl⟩⟩, rfl, fun i u l h => by simp at h⟩
      have hT2 : ∀ W', W2.grownBy W' (some wr.heap.size) → TRow W' (A.map (·.add (y * 12))) (E1 - y) (mid l y k) ∧ TRow W' (B.map (·.add (y * 12))) (E2 - y) (mid m y k) := fun W' hg => by
        have e1 := hb2.size
        refine HT.out W' (Nat.le_trans e1 hg.size) (fun q hq => ?_)
        rw [hg.block q (by omega) (by simp; omega), hb2.block q hq]
      have hml1 : (mid l y k).length = E1 - y := by rw [mid_length]; exact hm1
      have hml2 : (mid m y k).length = E2 - y := by rw [mid_length]; exact hm2
      refine (draw_any wr.heap.size _ _ (E1 - y) (E2 - y) _ _ (mid l y k) (mid m y k) W2 (by omega) hml1 hml2 hs2 hT2 hch).mono ?_
      rintro e w3 ⟨D, I, v, vs, XS, rfl, hg3, hch3, hXL, hok, hI, hgt, hnr⟩
      have hDb : D ≤ (E1 - y) + (E2 - y) := by
        rcases Nat.lt_or_ge ((E1 - y) + (E2 - y)) D with g | g
        · exact absurd (by unfold R; omega) (hnr _ g)
        · exact g
      have HK3 : Hid (KP w w3 u9 [⟨0, 0, (y : Nat)⟩]) := Lib.hid ⟨below_of_grown HK2.out.b hg3 HK2.out.b.size (fun i e => by injection e with e; rw [← e]; exact HWS.out), HK2.out.r.grown hg3 (fun g e e2 => by injection e2 with e2; have := HKR.out g e; omega)⟩
      have HGT := Lib.hid hgt
      have HNR := Lib.hid hnr
      have HOK := Lib.hid hok
      have HXL := Lib.hid hXL
      have hs3 : wr.heap.size < w3.heap.size := Nat.lt_of_lt_of_le hs2 hg3.size
      have hb4 := (Below.refl w3.heap.size w3).alloc (Nat.le_refl _) (.cells #[.int .i64 D, .int .i64 I] 145)
      have HK4 := Lib.hid (HK3.out.step hb4)
      have HC4 := Lib.hid (hch3.step hb4)
      have HX4 := Lib.hid (heap_alloc_new w3 (.cells #[.int .i64 D, .int .i64 I] 145))
      have HML1 := Lib.hid hml1
      have HML2 := Lib.hid hml2
      have HS4 : Hid (∀ g, u9.ownBlock = some g → g < (w3.alloc (.cells #[.int .i64 D, .int .i64 I] 145)).heap.size) := Lib.hid (fun g e => (HK4.out.r.block g e).2.1)
      clear hch hT2 hml1 hml2 hp2 hp3 hb2 hW2 hW2' HK2 hgt hnr hok hXL hg3 hch3 HK3 hb4 hm1 hm2 hs2 HT HK HKR hs3
      have x0 : (w3.alloc (.cells #[.int .i64 D, .int .i64 I] 145)).cell? ⟨w3.heap.size, 0, none⟩ = some (.int .i64 D) := by simp only [World.cell?, HX4.out]; rfl
      have x1 : (w3.alloc (.cells #[.int .i64 D, .int .i64 I] 145)).cell? ⟨w3.heap.size, 1, none⟩ = some (.int .i64 I) := by simp only [World.cell?, HX4.out]; rfl
      unfold pnV
      go_wp2_with fail
      clear x0 x1
      have CB := back_any rev_any W2.heap.size wr.heap.size _ _ v vs XS (mid l y k) (mid m y k) D I _ HXL.out HOK.out (by omega) hI (by rw [HML1.out]; omega) HC4.out
      unfold pnV at CB
      refine CB.mono ?_
      clear CB
      rintro e w5 ⟨u, ρ, rfl, hu5, hway, hb5⟩
      have hne5 : ∀ g, u.ownBlock = some g → u9.ownBlock ≠ some g := fun g e e2 => by
        have h1 := (hu5.block g e).1
        have h2 := HS4.out g e2
        omega
      have HKI : Hid (KI w w5 wr.heap.size w3.heap.size D I _ _ v vs XS W2.heap.size _ u ρ u9 [⟨0, 0, (y : Nat)⟩]) := Lib.hid ⟨HK4.out.step hb5, HC4.out.step hb5, hkeep hb5 HX4.out, hu5, hne5⟩
      obtain ⟨X, Y, htop, hXY⟩ := (HOK.out D (by omega)).2 I hI
      have hmem := hway.chain
      have HST : Hid (Stay l m (full l m y k ρ)) := Lib.hid (stay_way HE.out (by rw [HLN.out, ← HE1.out]; exact hgo1) (by rw [HMN.out, ← HE2.out]; exact hgo2) hway HOK.out hI (by rw [HGT.out, HLN.out, HMN.out, ← HE1.out, ← HE2.out]) (by rw [HLN.out, HMN.out, ← HE1.out, ← HE2.out]; exact HNR.out))
      have hdg := htop.diag
      rw [HGT.out] at hXY
      have HRB : Hid (∀ r ∈ ρ, ∃ x y s : Nat, r = ⟨x, y, s⟩ ∧ x ≤ 1000 ∧ y ≤ 1000) := Lib.hid (fun r hr => by
        obtain ⟨a, b, ht, hc, _⟩ := hmem
        obtain ⟨x, y, s, e, h1, h2⟩ := hc.mem r hr
        have := htop.one ht
        exact ⟨x, y, s, e, by omega, by omega⟩)
      have HRL : Hid (ρ.length = D + 1) := Lib.hid hway.length
      obtain ⟨Au, cu, rfl⟩ := hu5.form
      have HUR := Lib.hid hu5
      clear hu5 hway hb5 hne5 htop hmem HK4 HC4 HX4 HS4 HNR
      generalize hN : ρ.length = N at *
      have HNN := Lib.hid hN
      have hN9 : N ≤ 400 := by have := HRL.out; omega
      clear hN HRL
      have HXY : Hid (X + Y = (E1 - y) + (E2 - y)) := Lib.hid (by omega)
      have HDG := Lib.hid hdg
      clear hXY hdg
      generalize hbb : (w3.alloc (.cells #[.int .i64 D, .int .i64 I] 145)).heap.size = bb at *
      generalize hpp : wr.heap.size = p at *
      generalize hbx : w3.heap.size = bx at *
      generalize hba : W2.heap.size = ba at *
      generalize hsa : Value.slice (A.map (·.add (y * 12))) (E1 - y) (c - y) = sa at *
      generalize hsb : Value.slice (B.map (·.add (y * 12))) (E2 - y) (c' - y) = sb at *
      clear hbb hpp hbx hba hsa hsb
      go_wp2_with fail
      go_loopw [9, 58] (fun rv iv wr5 => ∃ (i : Nat), iv = .int .i64 i ∧ i ≤ N ∧ Hid (KI w wr5 p bx D I sa sb v vs XS ba bb (.slice Au N cu) ρ rv (⟨0, 0, (y : Nat)⟩ :: (ρ.take i).map (mv y)))) (fun _ iv _ => N - (intOf iv).toNat)
      case atStart => exact ⟨0, rfl, by omega, by simpa using HKI⟩
      case round =>
        clear HKI HUR
        obtain ⟨i, rfl, hiN, HKI⟩ := hrel
        by_cases hlt : i < N
        · have hil : i < ρ.length := by rw [HNN.out]; exact hlt
          obtain ⟨rx, ry, rs, he, hrx, hry⟩ := HRB.out ρ[i] (List.getElem_mem _)
          obtain ⟨A', c1, e, _, hrr⟩ := HKI.out.ur.row
          rw [HNN.out] at e hrr
          cases e
          obtain ⟨b', off, rfl, _, hcc⟩ := hrr.2 (by omega)
          obtain ⟨c0, c1, c2⟩ := (hcc i hil).cells
          have hmt := mv_map_take y ρ i hil
          rw [he] at c0 c1 c2 hmt
          simp only at c0 c1 c2
          have HMT := Lib.hid hmt
          have CM := fun W' => moved_any (rx : Int) (ry : Int) (rs : Int) (y : Int) (y : Int) W' (by omega) (by omega) (by omega) (by omega)
          unfold rnV at CM
          have hb6 := (Below.refl wr.heap.size wr).alloc (Nat.le_refl _) (.cells #[.int .i64 rx, .int .i64 ry, .int .i64 rs] 117)
          have HK6 := Lib.hid (HKI.out.step hb6)
          have HLN2 : Hid ((ρ.take i).length ≤ 400) := Lib.hid (by rw [List.length_take]; omega)
          clear hrr hcc he hmt hil hb6 HKI
          go_wp2_with fail
          refine (CM _).mono ?_
          rintro e w7 ⟨rfl, hb7⟩
          have HK7 := Lib.hid (HK6.out.step hb7)
          have hb8 := (Below.refl w7.heap.size w7).alloc (Nat.le_refl _) (.cells #[.int .i64 ((rx : Int) + (y : Int)), .int .i64 ((ry : Int) + (y : Int)), .int .i64 rs] 117)
          have HK8 := Lib.hid (HK7.out.step hb8)
          have HV := Lib.hid (rn_one w7 ⟨(rx : Int) + (y : Int), (ry : Int) + (y : Int), rs⟩)
          have hsz := HK8.out.k.b.size
          have hal : ((⟨0, 0, (y : Nat)⟩ : Rg) :: (ρ.take i).map (mv y)).length + 1 ≤ 1000000000 := by have := HLN2.out; simp only [List.length_cons, List.length_map]; omega
          clear c0 c1 c2 hb7 hb8 HK6 HK7 CM
          go_upto_region 12 with (at_builtin; (refine Rn.wpList_app_rg rfl (.tmp 62) (.tmp 67) rfl w.heap.size u9 _ rfl HK8.out.k.r _ 1 1 [⟨(rx : Int) + (y : Int), (ry : Int) + (y : Int), rs⟩] rfl HV.out hal hsz ?_); intro v' w9 hown hg hat)
          have hap := HK8.out.app hg hown hat
          have HK9 : Hid (KI w w9 p bx D I sa sb v vs XS ba bb (.slice (some ⟨b', off, none⟩) N cu) ρ v' (⟨0, 0, (y : Nat)⟩ :: (ρ.take (i + 1)).map (mv y))) := Lib.hid (by rw [HMT.out]; exact hap)
          clear hap hg hown hat HK8 HV hsz hal HMT HLN2
          go_wp2_with fail
          exact ⟨⟨i + 1, by push_cast; rfl, by omega, HK9⟩, by simp only [intOf]; omega⟩
        · have hiN2 : i = N := by omega
          have HF := Lib.hid HKI.out
          rw [hiN2, ← HNN.out, List.take_length] at HF
          have HXf := HF.out.x
          have x0 : wr.cell? ⟨bx, 0, none⟩ = some (.int .i64 D) := by simp only [World.cell?, HXf]; rfl
          have x1 : wr.cell? ⟨bx, 1, none⟩ = some (.int .i64 I) := by simp only [World.cell?, HXf]; rfl
          have hbd := HXY.out
          have hbd2 := HDG.out
          have CF : ∀ q : Nat, Calls Try.prog 83 #[.pointer (some ⟨p, 0, none⟩), .agg #[.int .i64 D, .int .i64 I]] (wr.drewN q) fun e W'' => e = .returned (.int .i64 ((X : Int) + Y)) ∧ Below (wr.drewN q).heap.size (wr.drewN q) W'' := by
            intro q
            have h1 := (HOK.out D (by omega)).1
            have := far_any ba p sa sb v vs XS D I (wr.drewN q) (by rw [HXL.out]; omega) (by rw [HXL.out]; omega) (by rw [h1]; omega) (by rw [h1]; omega) (HF.out.ch.step (below_drewN (Below.refl _ _) q))
            rw [HGT.out, show (((E1 - y : Nat) : Int) + ((E2 - y : Nat) : Int)) = (X : Int) + Y by omega] at this
            exact this
          have CP : ∀ W' : World, Calls Try.prog 82 #[.agg #[.int .i64 D, .int .i64 I], .int .i64 ((X : Int) + Y)] W' fun e W'' => e = .returned (.tuple #[.int .i64 X, .int .i64 Y]) ∧ Below W'.heap.size W' W'' := by
            intro W'
            have := passed_any D I ((X : Int) + Y) W' (by omega) (by omega) (by omega)
            rw [show ((X : Int) + Y + ((I : Int) - ((D : Int) - I))).tdiv 2 = (X : Int) by rw [show (X : Int) + Y + ((I : Int) - ((D : Int) - I)) = (X : Int) * 2 by omega]; exact Int.mul_tdiv_cancel _ (by omega)] at this
            rw [show ((X : Int) + Y - ((I : Int) - ((D : Int) - I))).tdiv 2 = (Y : Int) by rw [show (X : Int) + Y - ((I : Int) - ((D : Int) - I)) = (Y : Int) * 2 by omega]; exact Int.mul_tdiv_cancel _ (by omega)] at this
            exact this
          have hX1 : X ≤ 300 := by omega
          have hY1 : Y ≤ 300 := by omega
          have HEND : Hid (¬ (y + X < E1 ∧ y + Y < E2)) := Lib.hid (by omega)
          have HME : Hid (E1 + E2 + 10 - (y + X) - (y + Y) < E1 + E2 + 10 - y - y) := Lib.hid (by omega)
          have HRL9 : Hid (ρ.length ≤ 400) := Lib.hid (by rw [HNN.out]; exact hN9)
          generalize hZ : (X : Int) + (Y : Int) = Z at CF CP
          have HCF := Lib.hid CF
          have HCP := Lib.hid CP
          clear hiN2 HXf hbd hbd2 CF CP hZ HKI HNN HOK HXL HGT HRB
          go_wp2_with fail
          go_region_with (first | (go_at_call 83; refine (HCF.out 1).mono ?_; rintro e w7 ⟨rfl, hbf⟩; have q2 := below_cell (hbf.mono (Nat.le_refl _)) (show (wr.drewN 1).cell? ⟨bx, 0, none⟩ = _ from x0); have q3 := below_cell (hbf.mono (Nat.le_refl _)) (show (wr.drewN 1).cell? ⟨bx, 1, none⟩ = _ from x1)) | (go_at_call 82; refine (HCP.out _).mono ?_; rintro e w8 ⟨rfl, hbp⟩))
          all_goals go_wp2_with fail
          all_goals exact ⟨⟨y + X, y + Y, ρ, by push_cast; rfl, by push_cast; rfl, by omega, by omega, HRL9, Lib.hid (.inr ⟨HEND.out, HST.out⟩), Lib.hid (((HF.out.k.step (below_drewN (Below.refl _ wr) 1)).step hbf).step hbp)⟩, by have := HME.out; simp only [intOf]; omega⟩
    · have HS : Hid (Stay l m (full l m f k ρ)) := Lib.hid (by
        rcases HC.out with ⟨e1, e2, e3⟩ | g
        · rw [e3]
          refine stay_nil HE.out ?_
          rw [HLN.out, HMN.out, ← HE1.out, ← HE2.out]
          omega
        · exact g.2)
      have HFU : Hid (full l m f k ρ = ((⟨0, 0, (f : Nat)⟩ :: ρ.map (mv f)) ++ [(⟨(E1 : Nat), (E2 : Nat), (k : Nat)⟩ : Rg)]).filter ne) := Lib.hid (by
        unfold full
        rw [HLN.out, HMN.out, ← HE1.out, ← HE2.out])
      have hb8 := (Below.refl wr.heap.size wr).alloc (Nat.le_refl _) (.cells #[.int .i64 E1, .int .i64 E2, .int .i64 k] 117)
      have HK8 := Lib.hid (HK.out.step hb8)
      have HV := Lib.hid (rn_one wr ⟨(E1 : Nat), (E2 : Nat), (k : Nat)⟩)
      have hsz := HK8.out.b.size
      have hal : ((⟨0, 0, (f : Nat)⟩ : Rg) :: ρ.map (mv f)).length + 1 ≤ 1000000000 := by have := HRL.out; simp only [List.length_cons, List.length_map]; omega
      have HLL : Hid (((⟨0, 0, (f : Nat)⟩ :: ρ.map (mv f)) ++ [(⟨(E1 : Nat), (E2 : Nat), (k : Nat)⟩ : Rg)]).length ≤ 100000) := Lib.hid (by have := HRL.out; simp only [List.length_append, List.length_cons, List.length_map, List.length_nil]; omega)
      clear HC hb8 HK HRL
      by_cases j1 : x < E1
      · have j0 : decide ((x : Int) < (E1 : Int)) = true := by simp; omega
        have j9 : decide ((y : Int) < (E2 : Int)) = false := by simp; omega
        have j3 : (x : Int) < (E1 : Int) := by omega
        have j4 : ¬ ((y : Int) < (E2 : Int)) := by omega
        clear j1 hgo
        go_upto_region 16 with (at_builtin; (refine Rn.wpList_app_rg rfl (.tmp 83) (.tmp 88) rfl w.heap.size u9 _ rfl HK8.out.r _ 1 1 [⟨(E1 : Nat), (E2 : Nat), (k : Nat)⟩] rfl HV.out hal hsz ?_); intro v' w9 hown hg hat)
        have HK9 := Lib.hid (HK8.out.app hg hown)
        clear hown hg hat HK8 HV hsz hal
        go_wp2_with fail
        refine (delete_any _ _ _ _ HLL.out HK9.out.r).mono ?_
        rintro e w10 ⟨A', k', c9, rfl, hrr, hgr, hty⟩
        have HTY := Lib.hid hty
        have HB := Lib.hid (below_of_grown HK9.out.b hgr HK9.out.b.size (fun i e => (HK9.out.r.block i e).1))
        have HRR := Lib.hid hrr
        clear hrr hgr HK9 hty
        go_wp2
        go_ret
        exact ⟨A', k', c9, _, rfl, HRR.out, by rw [← HFU.out]; exact HS.out, HB.out, HTY.out⟩
      · have j0 : decide ((x : Int) < (E1 : Int)) = false := by simp; omega
        have j3 : ¬ ((x : Int) < (E1 : Int)) := by omega
        clear j1 hgo
        go_upto_region 16 with (at_builtin; (refine Rn.wpList_app_rg rfl (.tmp 83) (.tmp 88) rfl w.heap.size u9 _ rfl HK8.out.r _ 1 1 [⟨(E1 : Nat), (E2 : Nat), (k : Nat)⟩] rfl HV.out hal hsz ?_); intro v' w9 hown hg hat)
        have HK9 := Lib.hid (HK8.out.app hg hown)
        clear hown hg hat HK8 HV hsz hal
        go_wp2_with fail
        refine (delete_any _ _ _ _ HLL.out HK9.out.r).mono ?_
        rintro e w10 ⟨A', k', c9, rfl, hrr, hgr, hty⟩
        have HTY := Lib.hid hty
        have HB := Lib.hid (below_of_grown HK9.out.b hgr HK9.out.b.size (fun i e => (HK9.out.r.block i e).1))
        have HRR := Lib.hid hrr
        clear hrr hgr HK9 hty
        go_wp2
        go_ret
        exact ⟨A', k', c9, _, rfl, HRR.out, by rw [← HFU.out]; exact HS.out, HB.out, HTY.out⟩
end Go.Proofs.Ytgodphfkhmahnaa.Df
