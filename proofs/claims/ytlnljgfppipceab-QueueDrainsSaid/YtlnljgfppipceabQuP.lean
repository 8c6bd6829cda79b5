/- Walks for QueueDrains: the function that is told, and Drain's closure called with it. -/
import Derived.Test.YtlnljgfppipceabQuO
namespace Go.Proofs.Ytlnljgfppipceab.Qu
open Go.RowKit Go.Shelf Mem
set_option linter.unusedVariables false

/-- where the told function's variables lie -/
structure Spots where
  base : Nat
  fb : Nat
  nb : Nat
  wb : Nat
  mb : Nat
/-- j have been told -/
structure Got (s : Spots) (v : Value) (S : List It) (mo : Int) (w0 : World) (j : Nat) (W : World) : Prop where
  f : Boxed W s.fb 4 (.bool true)
  n : Boxed W s.nb 3 (.int .i64 j)
  w : Boxed W s.wb 33 v
  r : POwn s.base W v S
  m : Boxed W s.mb 5 (.int .u8 mo)
  bel : Below s.base w0 W
theorem Got.frame {s : Spots} {v : Value} {S : List It} {mo : Int} {w0 W W' : World} {j qb : Nat} (h : Got s v S mo w0 j W) (f : QFrame s.base qb W W') (hs : s.base ≤ W.heap.size)
    (h1 : s.fb ≠ qb) (h2 : s.nb ≠ qb) (h3 : s.wb ≠ qb) (h4 : s.mb ≠ qb) (h5 : v.ownBlock ≠ some qb) : Got s v S mo w0 j W' :=
  ⟨boxed_frame h.f h1 (by decide) f, boxed_frame h.n h2 (by decide) f, boxed_frame h.w h3 (by decide) f, h.r.frame h5 f, boxed_frame h.m h4 (by decide) f, h.bel.trans (f.below (Nat.le_refl _) hs)⟩
theorem POwn.set {base : Nat} {W : World} {v : Value} {g : List It} (l : POwn base W v g) {B : Nat} {t : TypeId} {u : Value} (hb : Boxed W B t u) (ht : t ≠ 37) (u' : Value) : POwn base (W.setCell ⟨B, 0, none⟩ u') v g :=
  World.ownsRow.kept l (grownBy_setCell' W B u') (.inr (fun e => hb.not_row ht l e.symm))
theorem KeepQ.set {base qb Bq : Nat} {W : World} {B : Nat} {t : TypeId} {u : Value} (hb : Boxed W B t u) (h1 : t ≠ 32) (h2 : t ≠ 53) (h3 : t ≠ 23) (u' : Value) : KeepQ base qb Bq W (W.setCell ⟨B, 0, none⟩ u') :=
  KeepQ.grown (grownBy_setCell' W B u') (fun j e => by
    cases e
    refine ⟨_, hb, ?_, ?_, ?_⟩ <;> intro cs fr e <;> injection e with _ e _
    · exact h1 e
    · exact h2 e
    · exact h3 e)

set_option maxRecDepth 100000 in
set_option maxHeartbeats 2000000 in
theorem told_any (s : Spots) (v : Value) (S : List It) (mo : Int) (w0 W : World) (j : Nat) (h : Got s v S mo w0 j W) (hj : j < S.length) (hS : S.length ≤ 300) (hd : s.fb ≠ s.nb ∧ s.fb ≠ s.wb ∧ s.fb ≠ s.mb ∧ s.nb ≠ s.wb ∧ s.nb ≠ s.mb)
    (hf0 : s.base ≤ s.fb) (hn0 : s.base ≤ s.nb) (x : It) (hx1 : (at_ S j).key = x.key) (hx2 : (at_ S j).thing = x.thing) (hm0 : 0 ≤ mo) (hm : mo ≤ 255) :
    Calls Try.prog 16 #[.int .i64 x.key, .int .i64 x.thing, .pointer (some ⟨s.fb, 0, none⟩), .pointer (some ⟨s.nb, 0, none⟩), .pointer (some ⟨s.wb, 0, none⟩), .pointer (some ⟨s.mb, 0, none⟩)] W fun e W' =>
      e = .returned (.bool (decide ((j : Int) + 1 < mo))) ∧ Got s v S mo w0 (j + 1) W' ∧ ∀ b2 qb Bq, KeepQ b2 qb Bq W W' := by
  obtain ⟨base, fb, nb, wb, mb⟩ := s
  dsimp only at hd hf0 hn0 ⊢
  obtain ⟨d1, d2, d3, d4, d5⟩ := hd
  obtain ⟨bl, capl, rfl, _, hbl, _, _, hc⟩ := h.r.opn (by omega)
  obtain ⟨x0, x1⟩ := hc j hj
  rw [hx1] at x0
  rw [hx2] at x1
  have f0 := h.f.cell
  have ff := h.f.frozen
  have n0 := h.n.cell
  have w0c := h.w.cell
  have m0 := h.m.cell
  dsimp only at f0 ff n0 w0c m0
  -- the two stores
  have hF : Boxed (W.setCell ⟨fb, 0, none⟩ (.bool true)) fb 4 (.bool true) := h.f.set _
  have hN : Boxed (W.setCell ⟨fb, 0, none⟩ (.bool true)) nb 3 (.int .i64 j) := h.n.other (Ne.symm d1) _
  have hn1 := hN.cell
  have hnf := hN.frozen
  have hF2 : Boxed ((W.setCell ⟨fb, 0, none⟩ (.bool true)).setCell ⟨nb, 0, none⟩ (.int .i64 ((j : Int) + 1))) fb 4 (.bool true) := hF.other d1 _
  have hN2 : Boxed ((W.setCell ⟨fb, 0, none⟩ (.bool true)).setCell ⟨nb, 0, none⟩ (.int .i64 ((j : Int) + 1))) nb 3 (.int .i64 ((j : Int) + 1)) := hN.set _
  have hM2 : Boxed ((W.setCell ⟨fb, 0, none⟩ (.bool true)).setCell ⟨nb, 0, none⟩ (.int .i64 ((j : Int) + 1))) mb 5 (.int .u8 mo) := (h.m.other (Ne.symm d3) _).other (Ne.symm d5) _
  have e1 := hF2.cell
  have e2 := hN2.cell
  have e3 := hM2.cell
  have HG : Hid (Got ⟨base, fb, nb, wb, mb⟩ (.slice (some ⟨bl, 0, none⟩) S.length capl) S mo w0 (j + 1) ((W.setCell ⟨fb, 0, none⟩ (.bool true)).setCell ⟨nb, 0, none⟩ (.int .i64 ((j : Int) + 1)))) :=
    ⟨hF2, hN2, (h.w.other (Ne.symm d2) _).other (Ne.symm d4) _, (h.r.set h.f (by decide) _).set hN (by decide) _, hM2, (h.bel.setCell (p := ⟨fb, 0, none⟩) hf0 _).setCell (p := ⟨nb, 0, none⟩) hn0 _⟩
  have HK : Hid (∀ b2 qb Bq, KeepQ b2 qb Bq W ((W.setCell ⟨fb, 0, none⟩ (.bool true)).setCell ⟨nb, 0, none⟩ (.int .i64 ((j : Int) + 1)))) := fun b2 qb Bq =>
    (KeepQ.set h.f (by decide) (by decide) (by decide) _).trans (KeepQ.set hN (by decide) (by decide) (by decide) _)
  obtain ⟨key, hkey⟩ : ∃ z, z = x.key := ⟨_, rfl⟩
  obtain ⟨thing, hthing⟩ : ∃ z, z = x.thing := ⟨_, rfl⟩
  rw [← hkey] at x0 ⊢
  rw [← hthing] at x1 ⊢
  obtain ⟨n, hn⟩ : ∃ n, n = S.length := ⟨_, rfl⟩
  rw [← hn] at hj hS HG w0c ⊢
  have hw : wrap64 mo = mo := by simp [wrap64]; omega
  have i1 : (0 : Int) ≤ (j : Int) := by omega
  have i2 : (j : Int) < (n : Int) := by omega
  clear h hc hF hN hF2 hN2 hM2 hkey hthing hx1 hx2 hn
  go_enter Try.func16, Try.ntmps16
  go_wp2
  go_ret
  exact ⟨rfl, HG.out, HK.out⟩

theorem at_outs (g : List It) (n k : Nat) (h : k < n) : at_ (outs g n) k = nth g k := by simp [at_, outs, List.getD, h]

set_option maxRecDepth 100000 in
set_option maxHeartbeats 4000000 in
theorem drain1_call (s : Spots) (v : Value) (g : List It) (mo : Int) (w0 : World) (qb Bq p : Nat) (hgn : g.length ≤ 300) (hd : s.fb ≠ s.nb ∧ s.fb ≠ s.wb ∧ s.fb ≠ s.mb ∧ s.nb ≠ s.wb ∧ s.nb ≠ s.mb)
    (hf0 : s.base ≤ s.fb) (hn0 : s.base ≤ s.nb) (hm : mo ≤ 255) (hm1 : 1 ≤ mo) (hBq : Bq ≠ qb) (hq : s.fb ≠ qb ∧ s.nb ≠ qb ∧ s.wb ≠ qb ∧ s.mb ≠ qb) (hvq : v.ownBlock ≠ some qb)
    (W : World) (hB : Boxed W Bq 23 (.pointer (some ⟨qb, 0, none⟩))) (hG : G s.base W qb g p) (h : Got s v (outs g g.length) mo w0 0 W) (hs : s.base ≤ w0.heap.size) :
    Calls Try.prog 20 #[.func (.func 16) #[] #[.pointer (some ⟨s.fb, 0, none⟩), .pointer (some ⟨s.nb, 0, none⟩), .pointer (some ⟨s.wb, 0, none⟩), .pointer (some ⟨s.mb, 0, none⟩)], .pointer (some ⟨Bq, 0, none⟩)] W fun e W' =>
      (∃ u, e = .returned u) ∧ ∃ k : Nat, k = min g.length mo.toNat ∧ Got s v (outs g g.length) mo w0 k W' ∧ G s.base W' qb (left g k) p := by
  have HB := Lib.hid hB
  have HG := Lib.hid hG
  have H0 := Lib.hid h
  clear hB hG h
  go_enter Try.func20, Try.ntmps20
  go_wp2
  go_loopw [5] (fun _ wr => ∃ k : Nat, k ≤ g.length ∧ (k : Int) < mo ∧ Hid (Boxed wr Bq 23 (.pointer (some ⟨qb, 0, none⟩))) ∧ Hid (G s.base wr qb (left g k) p) ∧ Hid (Got s v (outs g g.length) mo w0 k wr)) (fun _ wr => lenV ((wr.cell? ⟨qb, 0, none⟩).getD undef))
  case atStart => exact ⟨0, Nat.zero_le _, by omega, HB, HG, H0⟩
  case round =>
    obtain ⟨k, hk, hkm, hBr, hGr, hTr⟩ := hrel
    have hc := hBr.out.cell
    by_cases hlt : k < g.length
    · have hi := left_first g k hlt
      have HN : Hid (nth g k = at_ (left g k) (firstIx (left g k))) := rfl
      have hll := left_length g k (by omega)
      have HLL := Lib.hid hll
      have HLS := Lib.hid (left_length g (k + 1) (by omega))
      have ht := gtake qb (left g k) p (firstIx (left g k)) wr hGr.out (by omega) hi
      rw [← HN.out] at ht
      have HT := Lib.hid ht
      have HOL := Lib.hid (outs_length g g.length)
      have HAT := Lib.hid (at_outs g g.length k hlt)
      clear hi hll ht
      go_wp2_with fail
      refine HT.out.mono ?_
      rintro e w1 ⟨rfl, hg1, hf1⟩
      have HG1 : Hid (G s.base w1 qb (left g (k + 1)) p) := hg1
      have HB1 := Lib.hid (boxed_frame hBr.out hBq (by decide) hf1)
      have HT1 := Lib.hid (hTr.out.frame hf1 (Nat.le_trans hs hTr.out.bel.size) hq.1 hq.2.1 hq.2.2.1 hq.2.2.2 hvq)
      clear hg1 hf1
      by_cases hgo : (k : Int) + 1 < mo
      · have HGO := Lib.hid hgo
        clear hgo
        go_wp2_with (go_at_call 16; refine (told_any s v _ mo w0 _ k HT1.out (by rw [HOL.out]; exact hlt) (by rw [HOL.out]; exact hgn) hd hf0 hn0 (nth g k) (by rw [HAT.out]) (by rw [HAT.out]) (by omega) hm).mono ?_; rw [decide_eq_true HGO.out]; rintro e W3 ⟨rfl, hT3, hk3⟩; have HT3 := Lib.hid hT3; have HG3 := Lib.hid ((hk3 s.base qb Bq).g _ _ HG1.out); have HB3 := Lib.hid ((hk3 s.base qb Bq).b _ HB1.out); clear hT3 hk3)
        go_roundw
        case rel => exact ⟨k + 1, hlt, by have := HGO.out; omega, HB3, HG3, HT3⟩
        case measure => rw [HG3.out.len, hGr.out.len, HLS.out, HLL.out]; omega
      · have HGO := Lib.hid hgo
        clear hgo
        go_wp2_with (go_at_call 16; refine (told_any s v _ mo w0 _ k HT1.out (by rw [HOL.out]; exact hlt) (by rw [HOL.out]; exact hgn) hd hf0 hn0 (nth g k) (by rw [HAT.out]) (by rw [HAT.out]) (by omega) hm).mono ?_; rw [decide_eq_false (by have := HGO.out; omega)]; rintro e W3 ⟨rfl, hT3, hk3⟩; have HT3 := Lib.hid hT3; have HG3 := Lib.hid ((hk3 s.base qb Bq).g _ _ HG1.out); clear hT3 hk3)
        refine bodyPost_ret (results_none rfl _ _ _) rfl ?_
        exact ⟨⟨_, rfl⟩, k + 1, by have := HGO.out; omega, HT3.out, HG3.out⟩
    · obtain rfl : k = g.length := by omega
      have he := left_nil g g.length rfl
      have HE := Lib.hid he
      have hG0 := hGr.out
      rw [he] at hG0
      have HG0 := Lib.hid hG0
      clear he hG0
      go_wp2_with fail
      refine (gtake_none qb p wr HG0.out).mono ?_
      rintro e w1 ⟨rfl, m, rfl⟩
      have HT1 := Lib.hid (hTr.out.frame ((QFrame.refl (base := s.base) (qb := qb)).drewN m) (Nat.le_trans hs hTr.out.bel.size) hq.1 hq.2.1 hq.2.2.1 hq.2.2.2 hvq)
      have HG1 := Lib.hid (hGr.out.drewN m)
      go_wp2
      refine bodyPost_ret (results_none rfl _ _ _) rfl ?_
      exact ⟨⟨_, rfl⟩, g.length, by omega, HT1.out, HG1.out⟩
end Go.Proofs.Ytlnljgfppipceab.Qu
