/- Walks: the law NfaRefuses. -/
import Derived.Test.YtnbchikiiipejaaDoorNfLive
import Derived.Test.YtnbchikiiipejaaDoorNfMany
import Derived.Test.YtnbchikiiipejaaDoorExWh
namespace Go.Proofs.YtnbchikiiipejaaDoor.Nf
open Go.RowKit Mem
open Bg (Bag bagV Tab)
open Ex (Pt PI PR PW KR pl pcells icells rightI wpList_app_pt info_pt)
open Lx (Held I64)
set_option linter.unusedVariables false

theorem form5 {w : World} {base : Nat} {e : TypeId} {size n : Nat} {v : Value} {xs : List Value} (h : w.ownsRow base e size v n xs) : ∃ A c, v = .slice A n c := by
  rcases h.2 with ⟨rfl, rfl⟩ | ⟨g, cap, cur, rfl, _⟩
  · exact ⟨none, 0, rfl⟩
  · exact ⟨_, _, rfl⟩
theorem cells_of (W : World) (cs : Array Value) (l : List Value) (h : cs = l.toArray) {t : TypeId} : ∀ (j : Nat) (u : Value), l[j]? = some u → (W.alloc (.cells cs t)).cell? ⟨W.heap.size, j, none⟩ = some u := by
  intro j u hu
  have := World.alloc_heap_new W (.cells cs t)
  subst h
  unfold World.cell?
  simp only [this]
  simpa using hu
def someM (_ : List UInt8) : Bag := Bg.ofL [1]
set_option maxRecDepth 100000 in
theorem some_means (s : ByteArray) (w : World) : Calls Tryd.prog 5 #[.string s] w fun e w' => e = .returned (bagV (Bg.ofL [1])) ∧ Below w.heap.size w w' := by
  have hr : Row .i64 ((w.alloc (.cells #[.int .u64 0, .int .u64 0, .int .u64 0, .int .u64 0] 33)).alloc (.cells #[.int .i64 1] 3)) (some ⟨w.heap.size + 1, 0, none⟩) 1 [1] := by
    have := row_block (heap_alloc_new (w.alloc (.cells #[.int .u64 0, .int .u64 0, .int .u64 0, .int .u64 0] 33)) (.cells #[.int .i64 1] 3)) [1] rfl 1 rfl (by
      intro z hz
      simp only [List.mem_cons, List.not_mem_nil, or_false] at hz
      subst hz
      exact WalkArith.wf_i64 (by omega))
    rw [World.size_alloc] at this
    exact this
  have hA := (Bg.At.new w Bg.nil).alloc (.cells #[.int .i64 1] 3)
  have hB := ((Below.refl _ w).alloc (Nat.le_refl _) (.cells #[.int .u64 0, .int .u64 0, .int .u64 0, .int .u64 0] 33)).alloc (by simp) (.cells #[.int .i64 1] 3)
  have HR := Lib.hid hr
  have HA := Lib.hid hA
  have HB := Lib.hid hB
  clear hr hA hB
  go_enter Tryd.func5, Tryd.ntmps5
  go_wp2_with fail
  refine (Bg.of_any _ 1 1 _ _ HR.out (by omega)).mono ?_
  rintro en w1 ⟨rfl, hb1⟩
  have HA1 := Lib.hid (HA.out.below hb1 (by simp; omega))
  have HB1 := Lib.hid (HB.out.trans (hb1.mono (by simp; omega)))
  obtain ⟨x, hx⟩ : ∃ x, Bg.ofL [1] = x := ⟨_, rfl⟩
  rw [hx]
  have HXX := Lib.hid hx
  clear hx
  obtain ⟨c0, c1, c2, c3, cf⟩ := HA1.out.cell
  have f0 := cf 0; have f1 := cf 1; have f2 := cf 2; have f3 := cf 3
  have hlt : w.heap.size < w1.heap.size := HA1.out.lt
  clear hb1 cf
  unfold bagV
  go_wp2
  have hs := HA1.out.store x
  obtain ⟨s0, s1, s2, s3, _⟩ := hs.cell
  refine bodyPost_ret (v := bagV x) ?_ rfl ⟨by rw [HXX.out], ?_⟩
  · simp [bagV, results, Tryd.results5, go_sem, s0, s1, s2, s3]
  · exact ((((HB1.out).setCell (Nat.le_refl _) _).setCell (Nat.le_refl _) _).setCell (Nat.le_refl _) _).setCell (Nat.le_refl _) _
theorem some_idle (E : List PI) : idle E someM = false := by
  unfold idle
  rw [List.any_eq_false]
  intro x _
  have h : (Bg.ofL [1]).list.length = 1 := by decide +kernel
  simp [someM, h]
theorem few_cap {E : List PI} (hX : Expr E) (h0 : 0 < E.length) : (fewE E = true ∧ cap257 (pl1 (E.map PI.toP) (E.length - 1)) ≤ 256) ∨ (fewE E = false ∧ 256 < cap257 (pl1 (E.map PI.toP) (E.length - 1))) := by
  have hm := hX.most
  by_cases h : pl1 (E.map PI.toP) (E.length - 1) ≤ 256
  · left
    refine ⟨?_, by unfold cap257; split <;> omega⟩
    unfold fewE
    rw [decide_eq_true_iff]
    intro i hi
    have := hm i hi; omega
  · right
    refine ⟨?_, by unfold cap257; split <;> omega⟩
    unfold fewE
    rw [decide_eq_false_iff_not]
    intro g
    exact h (g _ (by omega))
set_option maxRecDepth 100000 in
set_option maxHeartbeats 8000000 in
theorem refuses_any (A : Option Addr) (n c : Nat) (e : List PI) (w : World) (h : PR w A n e) (hn : n ≤ maxLen)
    (hs : ∀ p ∈ e, (I64 p.low ∧ I64 p.high) ∧ p.name.length ≤ maxLen ∧ p.kids.length ≤ maxLen) (H : Held w) (hT : Tab w) :
    Calls Tryd.prog 3 #[.slice A n c] w fun en w' => en = .returned (.bool true) ∧ Below w.heap.size w w' := by
  unfold maxLen at hn hs
  obtain ⟨i0, hi, hz, hs1, hs2⟩ := info_parts info_pt
  have HLV := hide (fun W (HW : Held W) (hT : Tab W) => live_any W HW hT)
  have HH := hide H
  have HT := Lib.hid hT
  have hTlt : 1 < w.heap.size := hT.2
  have HP := hide h
  have HL := Lib.hid h.1
  have HS := Lib.hid hs
  clear h H hT hs
  go_enter Tryd.func3, Tryd.ntmps3
  go_wp2_with fail
  go_loopw [3, 4] (fun v iv wr => ∃ (j : Nat) (A1 : Option Addr) (c1 : Nat) (vs : List Value), v = .slice A1 j c1 ∧ iv = .int .i64 j ∧ j ≤ n ∧ j ≤ 40 ∧ Hid (wr.ownsRow w.heap.size 29 5 (.slice A1 j c1) j vs) ∧ Hid (PW w (e.take j) vs) ∧ Hid (Below w.heap.size w wr) ∧ Hid (∀ p ∈ e.take j, p.kids.length ≤ 40 ∧ p.name.length ≤ 100)) (fun _ iv _ => n - (intOf iv).toNat)
  case atStart => exact ⟨0, none, 0, [], rfl, rfl, by omega, by omega, Lib.hid (World.ownsRow_nil _ _ _ _), Lib.hid rfl, Lib.hid (Below.refl _ _), Lib.hid (by simp)⟩
  case round =>
    obtain ⟨j, A1, c1, vs, rfl, rfl, hj, hj40, hO, hP, hB, hQ⟩ := hrel
    have HHr := Lib.hid (HH.out.below hB.out)
    have HTr := Lib.hid (HT.out.below hB.out hTlt)
    have hTr : 1 < wr.heap.size := Nat.lt_of_lt_of_le hTlt hB.out.size
    by_cases hlt : j < n
    · by_cases hlt4 : j < 40
      · have j1 : j < e.length := by have := HL.out; omega
        obtain ⟨b, off, rfl, hb, hc⟩ := HP.out.2 (by omega)
        obtain ⟨a0, a1, a2, a3, kv, a4, ra⟩ := hc j j1
        have hbk := fun o => hB.out.cell (p := ⟨b, o, none⟩) hb
        replace a0 := (hbk _).trans a0
        replace a1 := (hbk _).trans a1
        replace a2 := (hbk _).trans a2
        replace a3 := (hbk _).trans a3
        replace a4 := (hbk _).trans a4
        have hbw : b < wr.heap.size := Nat.lt_of_lt_of_le hb hB.out.size
        clear hbk
        have l1 : decide ((j : Int) < (n : Int)) = true := by simp; omega
        have l2 : decide (j < n) = true := by simp; omega
        have l3 : decide ((j : Int) < 40) = true := by simp; omega
        have g0 : (j : Int) < (n : Int) := by omega
        have HTK : Hid (e.take (j + 1) = e.take j ++ [e[j]]) := by show _ = _; rw [List.take_add_one, List.getElem?_eq_getElem j1]; rfl
        have HKR := Lib.hid ra
        have hsj := HS.out e[j] (List.getElem_mem j1)
        obtain ⟨Ak, ck, rfl, hck, hrk⟩ := ra
        generalize e[j] = x at a0 a1 a2 a3 a4 HTK HKR hck hrk hsj
        obtain ⟨k1, lo, hi1, nm, ks⟩ := x
        dsimp only at a0 a1 a2 a3 a4 hsj
        have hnl : (⟨nm.toArray⟩ : ByteArray).size = nm.length := by simp [ByteArray.size]
        obtain ⟨nl, hnll⟩ : ∃ nl, nm.length = nl := ⟨_, rfl⟩
        have HNL := Lib.hid hnll
        rw [hnll] at hnl hsj
        by_cases hk : 40 < ks.length
        · have t1 : decide ((40 : Int) < (ks.length : Int)) = true := by simp; omega
          clear hc hck hrk hsj hnll
          go_wp2_with fail
          refine (HLV.out _ HHr.out HTr.out).mono ?_
          rintro en w5 ⟨rfl, hb5⟩
          have HB5 := Lib.hid (hB.out.trans (hb5.mono hB.out.size))
          clear hb5
          go_wp2_with fail
          go_ret
          exact ⟨rfl, HB5.out⟩
        · have t1 : decide ((40 : Int) < (ks.length : Int)) = false := by simp; omega
          by_cases hn2 : 100 < nl
          · have t2 : decide ((100 : Int) < (nl : Int)) = true := by simp; omega
            clear hc hck hrk hsj hnll
            go_wp2_with fail
            refine (HLV.out _ HHr.out HTr.out).mono ?_
            rintro en w5 ⟨rfl, hb5⟩
            have HB5 := Lib.hid (hB.out.trans (hb5.mono hB.out.size))
            clear hb5
            go_wp2_with fail
            go_ret
            exact ⟨rfl, HB5.out⟩
          · have t2 : decide ((100 : Int) < (nl : Int)) = false := by simp; omega
            have hz2 := hB.out.size
            have HO2 := Lib.hid (World.ownsRow.alloc hO.out (.cells #[.int .i64 k1, .int .i64 lo, .int .i64 hi1, .string ⟨nm.toArray⟩, .slice Ak ks.length ck] 29))
            have HCE := Lib.hid (cells_of wr #[.int .i64 k1, .int .i64 lo, .int .i64 hi1, .string ⟨nm.toArray⟩, .slice Ak ks.length ck] (pcells ⟨k1, lo, hi1, nm, []⟩ (.slice Ak ks.length ck)) rfl (t := 29))
            have HQ2 : Hid (∀ p ∈ e.take (j + 1), p.kids.length ≤ 40 ∧ p.name.length ≤ 100) := by
              rw [HTK.out]
              intro p hp
              rcases List.mem_append.1 hp with hp | hp
              · exact hQ.out p hp
              · simp only [List.mem_singleton] at hp
                subst hp
                exact ⟨by show ks.length ≤ 40; omega, by show nm.length ≤ 100; rw [HNL.out]; omega⟩
            clear hc hck hrk hsj hnll
            go_wp2_with (at_builtin; (refine wpList_app_pt rfl (.tmp 38) (.tmp 43) 24 rfl w.heap.size 29 i0 _ Tryd.underlying24 hi hz rfl hs1 hs2 _ j vs rfl HO2.out wr.heap.size 1 ⟨k1, lo, hi1, nm, []⟩ (.slice Ak ks.length ck) rfl rfl HCE.out (by omega) (by simp; omega) ?_); intro v' w2 hown hg hat; obtain ⟨A2, c2, hv2⟩ := form5 hown; subst hv2; have HOWN := Lib.hid hown; have HB2 : Hid (Below w.heap.size w w2) := (hB.out.alloc hz2 _).grown hg (by simp; omega) (fun g hg => (hO.out.lt g hg).1); clear hown hg hat)
            have HP2 : Hid (PW w (e.take (j + 1)) (vs ++ icells ⟨k1, lo, hi1, nm, ks⟩ (.slice Ak ks.length ck))) := by
              show PW _ _ _
              rw [HTK.out]
              exact PW.more (HKR.out) (hP.out)
            go_roundw
            case rel => exact ⟨j + 1, A2, c2, _, rfl, by go_num, by omega, by omega, HOWN, HP2, HB2, HQ2⟩
            case measure => simp [intOf]; omega
      · have l1 : decide ((j : Int) < (n : Int)) = true := by simp; omega
        have l3 : decide ((j : Int) < 40) = false := by simp; omega
        have l4 : decide ((40 : Int) < (n : Int)) = true := by simp; omega
        go_wp2_with fail
        refine (HLV.out _ HHr.out HTr.out).mono ?_
        rintro en w5 ⟨rfl, hb5⟩
        have HB5 := Lib.hid (hB.out.trans (hb5.mono hB.out.size))
        clear hb5
        go_wp2_with fail
        go_ret
        exact ⟨rfl, HB5.out⟩
    · obtain rfl : j = n := by omega
      have l1 : decide ((j : Int) < (j : Int)) = false := by simp
      have l4 : decide ((40 : Int) < (j : Int)) = false := by simp; omega
      have hlen : e.length = j := HL.out
      have hte : e.take j = e := List.take_of_length_le (by omega)
      have hO2 := hO.out
      have hP2 := PW.below hB.out hP.out
      have hQ2 := hQ.out
      rw [hte] at hP2 hQ2
      rw [← hlen] at hO2
      obtain ⟨A', c', hv, hc', hPR⟩ := PR.of_own hO2 hP2
      rw [hlen] at hv hc' hPR
      simp only [Value.slice.injEq] at hv
      obtain ⟨rfl, -, rfl⟩ := hv
      have hsm : ∀ p ∈ e, Ex.Small p ∧ p.kids.length ≤ 10000 := fun p hp => ⟨⟨(HS.out p hp).1, by have := (hQ2 p hp).2; omega⟩, by have := (hQ2 p hp).1; omega⟩
      have HNW : Hid (Calls Tryd.prog 7 #[.slice A1 j c1, .func (.func 5) #[] #[]] wr fun en w' => Below wr.heap.size wr w' ∧ ((rightI e = false ∧ en = .returned (.tuple #[.pointer none, .int .i64 1])) ∨ (rightI e = true ∧ fewE e = false ∧ en = .returned (.tuple #[.pointer none, .int .i64 7])) ∨ (rightI e = true ∧ fewE e = true ∧ ∃ N, en = .returned (.tuple #[.pointer (some ⟨N, 0, none⟩), .int .i64 0])))) := by
        refine (new_any A1 j c1 e someM 5 #[] wr hPR HHr.out HTr.out (by omega) hsm (fun p _ _ W _ => some_means _ W) (fun p _ _ => Bg.ofL_ok _) (fun args w => by first | kernel_rfl | rfl)).mono ?_
        rintro en w' ⟨hb, h⟩
        refine ⟨hb, ?_⟩
        by_cases h1 : rightI e = false
        · rw [if_pos h1] at h; exact .inl ⟨h1, h⟩
        · rw [if_neg h1, if_neg (by rw [some_idle]; simp)] at h
          have h1' : rightI e = true := by simpa using h1
          by_cases h2 : fewE e = false
          · rw [if_pos h2] at h; exact .inr (.inl ⟨h1', h2, h⟩)
          · rw [if_neg h2] at h
            obtain ⟨N, _, h3, _⟩ := h
            exact .inr (.inr ⟨h1', by simpa using h2, N, h3⟩)
      have HRR := hide (fun W (hb : Below w.heap.size w W) => Ex.rright_any A j c e W (HP.out.below hb) (by omega) (fun p hp => by have := hQ2 p hp; omega))
      have HMN := hide (fun (hX : Expr e) k W (h1 : k < j) (hb : Below w.heap.size w W) => many_any w A j c e HP.out hX (fun p hp => (hsm p hp).2) (by omega) j k W h1 h1 hb)
      have hpn : ∀ (N : Nat) (w : World), (binOp BinOp.eql 36 (Value.pointer (some ⟨N, 0, none⟩)) (Value.pointer none)).run Tryd.prog w = .ok (.bool false) w := fun N w => by kernel_rfl
      have hpz : ∀ (w : World), (binOp BinOp.eql 36 (Value.pointer none) (Value.pointer none)).run Tryd.prog w = .ok (.bool true) w := fun w => by kernel_rfl
      have HHL := Lib.hid hlen
      clear hO2 hP2 hQ2 hte hc' hPR hsm hlen hO hP hQ hlt
      go_wp2_with fail
      (with_reducible refine (HNW.out).mono ?_)
      rintro en w2 ⟨hb2, h2⟩
      have HB2 := Lib.hid (hB.out.trans (hb2.mono hB.out.size))
      clear hb2
      rcases h2 with ⟨h2, rfl⟩ | ⟨h2, h3, rfl⟩ | ⟨h2, h3, N, rfl⟩
      · have HR := Lib.hid h2
        clear h2
        go_wp2_with fail
        refine (new_nil _ _ _ _).mono ?_
        rintro en w3 ⟨rfl, rfl⟩
        go_wp2_with fail
        (with_reducible refine (HRR.out w2 HB2.out).mono ?_)
        rw [HR.out]
        rintro en w4 ⟨rfl, hb4⟩
        have HB4 := Lib.hid (HB2.out.trans (hb4.mono HB2.out.size))
        clear hb4
        go_wp2_with fail
        refine (HLV.out _ (HH.out.below HB4.out) (HT.out.below HB4.out hTlt)).mono ?_
        rintro en w5 ⟨rfl, hb5⟩
        have HB5 := Lib.hid (HB4.out.trans (hb5.mono HB4.out.size))
        clear hb5
        go_wp2_with fail
        go_ret
        exact ⟨rfl, HB5.out⟩
      · have HR := Lib.hid h2
        have hX := right_expr h2
        have h0 : 0 < e.length := by
          rcases Nat.eq_zero_or_pos e.length with h | h
          · exfalso
            unfold fewE at h3
            rw [decide_eq_false_iff_not] at h3
            exact h3 (fun i hi => by omega)
          · exact h
        have hcap : 256 < cap257 (pl1 (e.map PI.toP) (e.length - 1)) := by
          rcases few_cap hX h0 with ⟨g, _⟩ | ⟨_, g⟩
          · rw [h3] at g; cases g
          · exact g
        rw [HHL.out] at h0 hcap
        obtain ⟨n1, rfl⟩ : ∃ n1, j = n1 + 1 := ⟨j - 1, by omega⟩
        rw [Nat.add_sub_cancel] at hcap
        have HMC := hide (fun W hb => HMN.out hX n1 W (by omega) hb)
        obtain ⟨z, hz3⟩ : ∃ z, cap257 (pl1 (e.map PI.toP) n1) = z := ⟨_, rfl⟩
        rw [hz3] at hcap
        simp only [hz3] at HMC
        have t9 : decide ((256 : Int) < (z : Int)) = true := by simp; omega
        clear h2 h3 h0 hX hz3 HMN
        go_wp2_with fail
        refine (new_nil _ _ _ _).mono ?_
        rintro en w3 ⟨rfl, rfl⟩
        go_wp2_with fail
        (with_reducible refine (HRR.out w2 HB2.out).mono ?_)
        rw [HR.out]
        rintro en w4 ⟨rfl, hb4⟩
        have HB4 := Lib.hid (HB2.out.trans (hb4.mono HB2.out.size))
        clear hb4
        go_wp2_with fail
        (with_reducible refine (HMC.out w4 HB4.out).mono ?_)
        rintro en w6 ⟨rfl, hb6⟩
        have HB6 := Lib.hid (HB4.out.trans (hb6.mono HB4.out.size))
        clear hb6
        go_wp2_with fail
        refine (HLV.out _ (HH.out.below HB6.out) (HT.out.below HB6.out hTlt)).mono ?_
        rintro en w5 ⟨rfl, hb5⟩
        have HB5 := Lib.hid (HB6.out.trans (hb5.mono HB6.out.size))
        clear hb5
        go_wp2_with fail
        go_ret
        exact ⟨rfl, HB5.out⟩
      · have HR := Lib.hid h2
        have hX := right_expr h2
        have hpnN := hpn N
        clear hpn
        by_cases hj0 : j = 0
        · subst hj0
          clear h2 h3 hX HMN
          go_wp2_with fail
          refine (new_nil _ _ _ _).mono ?_
          rintro en w3 ⟨rfl, rfl⟩
          go_wp2_with fail
          (with_reducible refine (HRR.out w2 HB2.out).mono ?_)
          rw [HR.out]
          rintro en w4 ⟨rfl, hb4⟩
          have HB4 := Lib.hid (HB2.out.trans (hb4.mono HB2.out.size))
          clear hb4
          go_wp2_with fail
          refine (HLV.out _ (HH.out.below HB4.out) (HT.out.below HB4.out hTlt)).mono ?_
          rintro en w5 ⟨rfl, hb5⟩
          have HB5 := Lib.hid (HB4.out.trans (hb5.mono HB4.out.size))
          clear hb5
          go_wp2_with fail
          go_ret
          exact ⟨rfl, HB5.out⟩
        · obtain ⟨n1, rfl⟩ : ∃ n1, j = n1 + 1 := ⟨j - 1, by omega⟩
          have hcap : cap257 (pl1 (e.map PI.toP) (e.length - 1)) ≤ 256 := by
            rcases few_cap hX (by rw [HHL.out]; omega) with ⟨_, g⟩ | ⟨g, _⟩
            · exact g
            · rw [h3] at g; cases g
          rw [HHL.out, Nat.add_sub_cancel] at hcap
          have HMC := hide (fun W hb => HMN.out hX n1 W (by omega) hb)
          obtain ⟨z, hz3⟩ : ∃ z, cap257 (pl1 (e.map PI.toP) n1) = z := ⟨_, rfl⟩
          rw [hz3] at hcap
          simp only [hz3] at HMC
          have t9 : decide ((256 : Int) < (z : Int)) = false := by simp; omega
          clear h2 h3 hX hz3 HMN hj0
          go_wp2_with fail
          refine (new_nil _ _ _ _).mono ?_
          rintro en w3 ⟨rfl, rfl⟩
          go_wp2_with fail
          (with_reducible refine (HRR.out w2 HB2.out).mono ?_)
          rw [HR.out]
          rintro en w4 ⟨rfl, hb4⟩
          have HB4 := Lib.hid (HB2.out.trans (hb4.mono HB2.out.size))
          clear hb4
          go_wp2_with fail
          (with_reducible refine (HMC.out w4 HB4.out).mono ?_)
          rintro en w6 ⟨rfl, hb6⟩
          have HB6 := Lib.hid (HB4.out.trans (hb6.mono HB4.out.size))
          clear hb6
          go_wp2_with fail
          refine (HLV.out _ (HH.out.below HB6.out) (HT.out.below HB6.out hTlt)).mono ?_
          rintro en w5 ⟨rfl, hb5⟩
          have HB5 := Lib.hid (HB6.out.trans (hb5.mono HB6.out.size))
          clear hb5
          go_wp2_with fail
          go_ret
          exact ⟨rfl, HB5.out⟩
end Go.Proofs.YtnbchikiiipejaaDoor.Nf
