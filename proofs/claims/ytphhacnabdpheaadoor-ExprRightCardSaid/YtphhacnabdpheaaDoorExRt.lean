/- Walks: the law ExprRight. -/
import Derived.Test.YtphhacnabdpheaaDoorExSg
import Derived.Test.YtphhacnabdpheaaDoorExNm
namespace Go.Proofs.YtphhacnabdpheaaDoor.Ex
open Go.RowKit Mem Lx
set_option linter.unusedVariables false

/-- each of right parts is a piece -/
theorem run_all_blk {E : List PI} : ∀ (i : Nat), i ≤ E.length → ∀ st, runR 0 [] (E.take i) = some st → ∀ j, j < i → ∃ s kd, Blk E s j kd
  | 0, _, st, h => fun j hj => by omega
  | i + 1, hi, st, h => by
    have hp : E[i]? = some E[i] := List.getElem?_eq_getElem (by omega)
    have ht : E.take (i + 1) = E.take i ++ [E[i]] := by rw [List.take_add_one, hp]; rfl
    rw [ht, run_append] at h
    cases h0 : runR 0 [] (E.take i) with
    | none => rw [h0] at h; simp at h
    | some st0 =>
      obtain ⟨⟨ks, rfl, hc⟩, _⟩ := run_blocks i (by omega) st0 h0
      have ih := run_all_blk i (by omega) _ h0
      rw [h0] at h
      have hlen : (E.take i).length = i := by simp; omega
      simp only [Option.bind_some, hlen, Nat.zero_add, runR] at h
      cases hs : stepR (pl ks) i E[i] with
      | none => rw [hs] at h; simp at h
      | some f =>
        unfold stepR at hs
        split at hs
        · rename_i hc3
          obtain ⟨c1, c2, c3⟩ := hc3
          generalize hm : (pl ks).length - E[i].kids.length = m at c2
          rw [pl_drop] at c2
          rw [← List.take_append_drop m ks] at hc
          obtain ⟨s, g1, g2⟩ := hc.split
          have hb := blk_new hp c3 c2.symm g2
          intro j hj
          by_cases hji : j < i
          · exact ih j hji
          · have : j = i := by omega
            subst this
            exact ⟨s, _, hb⟩
        · cases hs
theorem right_tl {E : List PI} (h : rightI E = true) (h60 : E.length ≤ 60) : Tl E := by
  by_cases hne : 0 < E.length
  · obtain ⟨e, he, hsn, hf, _⟩ := right_sn h hne
    have hgood := hsn.good' hf
    have hfit := right_fits h
    have h2 := h
    unfold rightI at h2
    split at h2
    · rename_i st hst
      intro i hi
      obtain ⟨s, kd, hb⟩ := run_all_blk E.length (Nat.le_refl _) st (by rw [List.take_length]; exact hst) i hi
      have hk := hb.kind
      rw [List.getElem?_eq_getElem hi] at hk
      simp only [Option.map_some, Option.some.injEq] at hk
      have hi2 : i < e.length := by rw [he] at hi; simpa using hi
      have hei : E[i] = e[i].toI := by simp only [he, List.getElem_map]
      obtain ⟨_, g2, g3⟩ := hgood i hi2
      refine ⟨by rw [hk]; exact hb.four, fun z hz => ?_, ?_, fun h1 => ?_, fun f hf => ?_⟩
      · rw [hei] at hz
        obtain ⟨j, hj, rfl⟩ := List.mem_map.1 hz
        exact ⟨j, rfl, g2 j hj⟩
      · rw [hei]; simp [Pt.toI, pl]; omega
      · rcases fits_kind (hfit _ (List.getElem_mem hi)) with ⟨_, _, _, a, _⟩ | ⟨a, _⟩ | ⟨a, _⟩
        · exact a
        · omega
        · omega
      · obtain ⟨q1, _, q3⟩ := hb.sn f hf
        exact ⟨q1.ne, by omega⟩
    · cases h2
  · intro i hi; omega
set_option maxRecDepth 100000 in
set_option maxHeartbeats 4000000 in
theorem rshow_right (A : Option Addr) (n c : Nat) (e : List PI) (w : World) (h : PR w A n e) (hr : rightI e = true) (h0 : 0 < n) (h60 : n ≤ 60) (hf : ∀ x ∈ tellI e n (n - 1), Fine x) :
    Calls Tryd.prog 15 #[.slice A n c] w fun en w' => en = .returned (.string ⟨(showN 0 (tellI e n (n - 1))).toArray⟩) ∧ Below w.heap.size w w' := by
  have hl := h.1
  have hTl := right_tl hr (by omega)
  have hlen := (hTl (n - 1) (by omega)).2.2.2.2 n (by omega)
  have HSG0 := signs_any A n c e w h (by omega) hTl n (n - 1) w false (by omega) (by omega) (Below.refl _ _)
  rw [show ((n - 1 : Nat) : Int) = (n : Int) - 1 from by omega] at HSG0
  have HSG : Hid (Calls Tryd.prog 37 #[.slice A n c, .int .i64 ((n : Int) - 1), .bool false] w (SgOut w (tellI e n (n - 1)))) := HSG0
  have HSH := hide (fun A' c' W (g : GRow W A' (tellI e n (n - 1)).length (tellI e n (n - 1))) => rShow_any A' (tellI e n (n - 1)).length c' (tellI e n (n - 1)) W g (by omega) (fun x hx => fine_64 (hf x hx)))
  have hw1 : IntKind.i64.wrap ((n : Int) - 1) = (n : Int) - 1 := IntWalk.i64_in _ (by omega)
  generalize tellI e n (n - 1) = L at HSG HSH ⊢
  clear HSG0 hTl hf hr h hl hlen
  go_enter Tryd.func15, Tryd.ntmps15
  go_wp2_with (first
    | (go_at_call 37; (with_reducible refine (HSG.out).mono ?_); rintro en w1 ⟨A1, c1, rfl, hown, hb1⟩; have HB1 := Lib.hid hb1; obtain ⟨A2, c2, hv, _, hg⟩ := GRow.of_own hown; simp only [Value.slice.injEq] at hv; obtain ⟨rfl, -, rfl⟩ := hv; have HG := Lib.hid hg; clear hown hg hb1)
    | (go_at_call 36; (with_reducible refine (HSH.out A1 c1 w1 HG.out).mono ?_); rintro en w2 ⟨rfl, hb2⟩; have HB2 : Hid (Below w.heap.size w w2) := HB1.out.trans (hb2.mono HB1.out.size); clear hb2))
  go_ret
  exact ⟨rfl, HB2.out⟩
/-- the text of any parts, as both say it -/
theorem texts (e : List PI) (h60 : e.length ≤ 60) (hs : ∀ p ∈ e, Small p ∧ p.kids.length ≤ 60) : ∃ T : List UInt8,
    (∀ A c W, PR W A e.length e → Held W → Calls Tryd.prog 17 #[.slice A e.length c] W fun en w' => en = .returned (.string ⟨T.toArray⟩) ∧ Below W.heap.size W w') ∧
    (rightI e = true → 0 < e.length → ∀ A c W, PR W A e.length e → Calls Tryd.prog 15 #[.slice A e.length c] W fun en w' => en = .returned (.string ⟨T.toArray⟩) ∧ Below W.heap.size W w') ∧
    (¬ (rightI e = true ∧ 0 < e.length) → T = []) := by
  have hs2 : ∀ p ∈ e, Small p ∧ p.kids.length ≤ 100000 := fun p hp => ⟨(hs p hp).1, by have := (hs p hp).2; omega⟩
  by_cases h : rightI e = true ∧ 0 < e.length
  · obtain ⟨e', he, hsn, hf, hl⟩ := right_sn h.1 h.2
    have hgood := hsn.good' hf
    have hel : e'.length = e.length := by rw [he]; simp
    have hdeep := hgood.deep e.length (e.length - 1) (by omega) (by have := h.2; omega)
    rw [← he] at hdeep
    refine ⟨showN 0 (tellI e e.length (e.length - 1)), fun A c W hp HW => ?_, fun _ _ A c W hp => ?_, fun hn => absurd h hn⟩
    · exact eshow_yes A e.length c e W hp HW (by omega) hs2 h.2 h.1 e.length hdeep (by omega) (fun x hx => fine_64 (hf x hx))
    · exact rshow_right A e.length c e W hp h.1 h.2 h60 hf
  · refine ⟨[], fun A c W hp HW => ?_, fun a b => absurd ⟨a, b⟩ h, fun _ => rfl⟩
    refine eshow_no A e.length c e W hp HW (by omega) hs2 ?_
    by_cases h0 : e.length = 0
    · exact .inl h0
    · right
      cases hr : rightI e with
      | true => exact absurd ⟨hr, by omega⟩ h
      | false => rfl
theorem addN_met (ns : List (List UInt8)) (p : PI) : addN ns p = if decide (p.kind ≠ 1 ∨ p.name ∈ ns) = true then ns else ns ++ [p.name] := by
  unfold addN
  by_cases h : p.kind = 1 ∧ p.name ∉ ns
  · rw [if_pos h, if_neg (by simp [h.1, h.2])]
  · rw [if_neg h, if_pos (by
      simp only [decide_eq_true_eq]
      by_cases h1 : p.kind = 1
      · right
        by_cases h2 : p.name ∈ ns
        · exact h2
        · exact absurd ⟨h1, h2⟩ h
      · exact .inl h1)]
theorem mem_take_succ {x : List UInt8} {ns : List (List UInt8)} {k : Nat} (hk : k < ns.length) : x ∈ ns.take (k + 1) ↔ x ∈ ns.take k ∨ ns[k] = x := by
  have e : ns.take (k + 1) = ns.take k ++ [ns[k]] := by rw [List.take_add_one, List.getElem?_eq_getElem hk]; rfl
  rw [e, List.mem_append, List.mem_singleton]
  exact or_congr Iff.rfl eq_comm
theorem bs_getD (ns : List (List UInt8)) (k : Nat) (hk : k < ns.length) : (bs ns).getD k ByteArray.empty = ⟨ns[k].toArray⟩ := by
  simp [bs, List.getD, List.getElem?_eq_getElem hk]
/-- the names so far, in a row of the call's own -/
def NmR (w : World) (ns : List (List UInt8)) (v : Value) (W : World) : Prop :=
  ∃ A1 c1, v = .slice A1 ns.length c1 ∧ W.ownsRow w.heap.size 9 1 (.slice A1 ns.length c1) ns.length ((bs ns).map Value.string) ∧ Below w.heap.size w W
set_option maxRecDepth 100000 in
set_option maxHeartbeats 8000000 in
theorem right_law (A A' : Option Addr) (n m c c' : Nat) (e o : List PI) (w : World) (h : PR w A n e) (h' : PR w A' m o) (hn : n ≤ maxLen) (hm : m ≤ maxLen)
    (hs : ∀ p ∈ e, (I64 p.low ∧ I64 p.high) ∧ p.name.length ≤ maxLen ∧ p.kids.length ≤ maxLen) (hs' : ∀ p ∈ o, (I64 p.low ∧ I64 p.high) ∧ p.name.length ≤ maxLen ∧ p.kids.length ≤ maxLen) (H : Held w) :
    Calls Tryd.prog 4 #[.slice A n c, .slice A' m c'] w fun en w' => en = .returned (.bool true) ∧ Below w.heap.size w w' := by
  have HLV := hide (fun W (HW : Held W) => live_any W HW)
  have HH := hide H
  have HP := hide h
  have HP' := hide h'
  have HFW := hide (few_any A n c e w h hn (fun p hp => (hs p hp).2))
  have HFW' := hide (few_any A' m c' o w h' hm (fun p hp => (hs' p hp).2))
  have hln := h.1
  have hlm := h'.1
  cases hfew : fewI e with
  | false =>
    rw [hfew] at HFW
    clear H h h' hs hs' hn hm hln hlm hfew
    go_enter Tryd.func4, Tryd.ntmps4
    go_wp2_with (first
      | (go_at_call 13; (with_reducible refine (HFW.out).mono ?_); rintro en w1 ⟨rfl, rfl⟩)
      | (go_at_call 7; (with_reducible refine (HLV.out _ HH.out).mono ?_); rintro en w5 ⟨rfl, hb5⟩; have HB5 := Lib.hid hb5; clear hb5))
    go_ret
    exact ⟨rfl, HB5.out⟩
  | true =>
    obtain ⟨h60, hks⟩ := fewI_yes hfew
    rw [hfew] at HFW
    cases hfew' : fewI o with
    | false =>
      rw [hfew'] at HFW'
      clear H h h' hs hs' hn hm hln hlm hfew hfew' h60 hks
      go_enter Tryd.func4, Tryd.ntmps4
      go_wp2_with (first
        | (go_at_call 13; first
          | ((with_reducible refine (HFW.out).mono ?_); rintro en w1 ⟨rfl, rfl⟩)
          | ((with_reducible refine (HFW'.out).mono ?_); rintro en w1 ⟨rfl, rfl⟩))
        | (go_at_call 7; (with_reducible refine (HLV.out _ HH.out).mono ?_); rintro en w5 ⟨rfl, hb5⟩; have HB5 := Lib.hid hb5; clear hb5))
      go_ret
      exact ⟨rfl, HB5.out⟩
    | true =>
      obtain ⟨h60', hks'⟩ := fewI_yes hfew'
      rw [hfew'] at HFW'
      have HRR := hide (rright_any A n c e w h (by omega) (fun p hp => by have := hks p hp; omega))
      have hsm : ∀ p ∈ e, Small p ∧ p.kids.length ≤ 60 := fun p hp => ⟨⟨(hs p hp).1, (hks p hp).2⟩, (hks p hp).1⟩
      obtain ⟨T, hT1, hT2, hT3⟩ := texts e h60 hsm
      rw [hln] at hT1 hT2 hT3
      have HT1 := hide hT1
      have HT2 := hide hT2
      have HT3 := hide hT3
      have HRT := hide (fun A c W (g : PR W A n e) (HW : Held W) => right_any A n c e W g HW (by omega) (fun p hp => ⟨(hsm p hp).1, by have := (hsm p hp).2; omega⟩))
      have HNM := hide (fun A c W (g : PR W A n e) => names_any A n c e W g (by omega))
      have HTH := hide (fun A c W (g : PR W A n e) => theirs_any A n c e W g (by omega))
      have HTH' := hide (fun A c W (g : PR W A m o) => theirs_any A m c o W g (by omega))
      have HES := hide (fun A1 A2 c1 c2 W (g1 : PR W A1 n e) (g2 : PR W A2 m o) => esame_any A1 A2 n m c1 c2 e o W g1 g2 (by omega) (fun p hp => by have := (hks p hp).1; omega))
      have HEE := hide (fun A1 A2 c1 c2 W (g1 : PR W A1 n e) (g2 : PR W A2 n e) => esame_any A1 A2 n n c1 c2 e e W g1 g2 (by omega) (fun p hp => by have := (hks p hp).1; omega))
      have HRS := hide (fun A1 A2 c1 c2 W (g1 : PR W A1 n e) (g2 : PR W A2 m o) => rsame_any A1 A2 n m c1 c2 e o W g1 g2 (by omega) (fun p hp => by have := (hks p hp).1; omega))
      simp only [decide_true] at HEE
      have hnl := names_len e []
      have HSS := hide (fun A1 A2 c1 c2 W (g1 : SRow W A1 (namesI e).length (bs (namesI e))) (g2 : SRow W A2 (namesI e).length (bs (namesI e))) => ssame_yes A1 A2 (namesI e).length c1 c2 (bs (namesI e)) W g1 g2 (by show (e.foldl addN []).length ≤ _; simp at hnl; omega))
      have hn60 : n ≤ 60 := by omega
      have HLN := Lib.hid hln
      obtain ⟨i0, hi0, hz0, hs1, hs2⟩ := info_parts info_str
      generalize decide (e = o) = D at HES HRS
      clear H h h' hs hs' hn hm hln hlm hfew hfew' h60 hks h60' hks' hsm hT1 hT2 hT3 hnl
      go_enter Tryd.func4, Tryd.ntmps4
      go_upto_region 5 with (first
        | (go_at_call 13; first
          | ((with_reducible refine (HFW.out).mono ?_); rintro en w1 ⟨rfl, rfl⟩)
          | ((with_reducible refine (HFW'.out).mono ?_); rintro en w1 ⟨rfl, rfl⟩))
        | (go_at_call 14; (with_reducible refine (HRR.out).mono ?_); rintro en w2 ⟨rfl, hb2⟩; have HB2 := Lib.hid hb2; have HP2 := Lib.hid (HP.out.below hb2); clear hb2))
      obtain ⟨R, hR⟩ : ∃ R, R = rightI e := ⟨_, rfl⟩
      rw [← hR] at HRT HT2 HT3 ⊢
      clear HRR hR
      go_cut [27] from 22 to 27 (fun v wx => v = .bool (R && decide (0 < n)) ∧ wx = w2)
      case first =>
        cases R with
        | false =>
          go_wp2_with fail
          go_meet
          exact ⟨rfl, rfl⟩
        | true =>
          by_cases h0 : 0 < n
          · have t1 : decide ((0 : Int) < (n : Int)) = true := by simp; omega
            have t1' : decide (0 < n) = true := by simpa using h0
            clear h0
            go_wp2_with fail
            go_meet
            exact ⟨by rw [t1']; rfl, rfl⟩
          · have t1 : decide ((0 : Int) < (n : Int)) = false := by simp; omega
            have t1' : decide (0 < n) = false := by simpa using h0
            clear h0
            go_wp2_with fail
            go_meet
            exact ⟨by rw [t1']; rfl, rfl⟩
      case rest =>
        obtain ⟨rfl, rfl⟩ := hcut
        have HTB : Hid ((R && decide (0 < n)) = true ↔ R = true ∧ 0 < n) := by show _ ↔ _; simp
        generalize (R && decide (0 < n)) = TB at HTB ⊢
        go_upto_if 27 with fail
        go_cut [6] from 28 to 29 (fun v wx => v = .string ⟨T.toArray⟩ ∧ Hid (Below w.heap.size w wx))
        case first =>
          cases TB with
          | true =>
            have HX := Lib.hid (HTB.out.1 rfl)
            have HC := hide (HT2.out HX.out.1 HX.out.2 A c wc HP2.out)
            go_wp2_with (go_at_call 15; (with_reducible refine (HC.out).mono ?_); rintro en w3 ⟨rfl, hb3⟩; have HB3 : Hid (Below w.heap.size w w3) := HB2.out.trans (hb3.mono HB2.out.size); clear hb3)
            go_meet
            exact ⟨rfl, HB3⟩
          | false =>
            have HX : Hid (T = []) := HT3.out (fun h => absurd (HTB.out.2 h) (by simp))
            go_wp2_with fail
            go_meet
            exact ⟨by rw [HX.out], HB2⟩
        case rest =>
          obtain ⟨rfl, HB3⟩ := hcut
          clear HT2 HT3 HTB HP2 HB2
          go_upto_region 8 with fail
          go_wp2_with fail
          go_loopw [7, 8] (fun v iv wr => ∃ (j : Nat) (ns : List (List UInt8)), iv = .int .i64 j ∧ j ≤ n ∧ ns.length ≤ j ∧ Hid (ns = namesI (e.take j)) ∧ Hid (NmR w ns v wr)) (fun _ iv _ => n - (intOf iv).toNat)
          case atStart => exact ⟨0, [], rfl, by omega, by simp, Lib.hid rfl, Lib.hid ⟨none, 0, rfl, World.ownsRow_nil _ _ _ _, HB3.out⟩⟩
          case round =>
            obtain ⟨j, ns, rfl, hj, hnl, hNS, hO⟩ := hrel
            obtain ⟨A1, c1, rfl, hown, hbel⟩ := hO.out
            have HO := Lib.hid hown
            have HB := Lib.hid hbel
            clear hown hbel hO
            by_cases hlt : j < n
            · have j1 : j < e.length := by have := HLN.out; omega
              obtain ⟨b, off, rfl, hb, hc⟩ := (HP.out.below HB.out).2 (by omega)
              obtain ⟨a0, a1, a2, a3, kv, a4, ra⟩ := hc j j1
              have l1 : decide ((j : Int) < (n : Int)) = true := by simp; omega
              have l2 : decide (j < n) = true := by simp; omega
              have g0 : (j : Int) < (n : Int) := by omega
              have HT : Hid (namesI (e.take (j + 1)) = addN ns e[j]) := by
                show _ = _
                rw [List.take_add_one, List.getElem?_eq_getElem j1, hNS.out]
                exact names_snoc _ _
              generalize e[j] = p at a0 a1 a2 a3 ra HT
              obtain ⟨kd, lo, hi1, nm, ks⟩ := p
              dsimp only at a0 a1 a2 a3 a4
              rw [addN_met] at HT
              dsimp only at HT
              obtain ⟨A2, c2, hv, _, hS⟩ := SRow.of_own HO.out
              simp only [Value.slice.injEq] at hv
              obtain ⟨rfl, -, rfl⟩ := hv
              have HS := Lib.hid hS
              clear hc ra hS a1 a2 a4
              go_upto_region 13 with fail
              go_loopw [9, 10] (fun mv kv wr2 => ∃ (k : Nat), kv = .int .i64 k ∧ k ≤ ns.length ∧ mv = .bool (decide (kd ≠ 1 ∨ nm ∈ ns.take k)) ∧ ∃ q, wr2 = wr.drewN q) (fun _ kv _ => ns.length - (intOf kv).toNat)
              case atStart => exact ⟨0, rfl, by omega, by by_cases hk : kd = 1 <;> simp [hk], 0, rfl⟩
              case round =>
                obtain ⟨k, rfl, hk, rfl, q, rfl⟩ := hrel
                by_cases hkl : k < ns.length
                · obtain ⟨b1, o1, rfl, _, hx1⟩ := HS.out.2 (by omega)
                  have x1 := hx1 k hkl
                  rw [bs_getD ns k hkl] at x1
                  have i2 : (k : Int) < (ns.length : Int) := by omega
                  have m1 : decide ((k : Int) < (ns.length : Int)) = true := by simp; omega
                  have m2 : decide (k < ns.length) = true := by simp; omega
                  have HMT : Hid (∀ B : Bool, (B = true ↔ kd ≠ 1 ∨ nm ∈ ns.take (k + 1)) → B = decide (kd ≠ 1 ∨ nm ∈ ns.take (k + 1))) := fun B h => by
                    rw [Bool.eq_iff_iff, h]; simp
                  have HMS := Lib.hid (mem_take_succ (x := nm) hkl)
                  have HMB : Hid (decide (kd ≠ 1 ∨ nm ∈ ns.take k) = true ↔ kd ≠ 1 ∨ nm ∈ ns.take k) := by show _ ↔ _; simp
                  have hne : Hid (ns[k] = nm ↔ (ns[k] == nm) = true) := by show _ ↔ _; simp
                  generalize decide (kd ≠ 1 ∨ nm ∈ ns.take k) = MB at HMB ⊢
                  generalize ns[k] = nk at x1 HMS hne
                  clear hx1
                  cases MB with
                  | true =>
                    have HNEW : Hid (true = decide (kd ≠ 1 ∨ nm ∈ ns.take (k + 1))) := HMT.out true (by
                      have h := HMB.out.1 rfl
                      rw [HMS.out]
                      constructor
                      · intro _
                        rcases h with h | h
                        · exact .inl h
                        · exact .inr (.inl h)
                      · intro _; rfl)
                    go_upto_region 15 with fail
                    go_quiet (fail)
                    go_wp2_with fail
                    go_roundw
                    case rel => exact ⟨k + 1, by go_num, by omega, by rw [← HNEW.out], _, rfl⟩
                    case measure => simp [intOf]; omega
                  | false =>
                    cases hq : (nk == nm) with
                    | true =>
                      have HNEW : Hid (true = decide (kd ≠ 1 ∨ nm ∈ ns.take (k + 1))) := HMT.out true (by
                        have h := hne.out.2 hq
                        rw [HMS.out]
                        exact ⟨fun _ => .inr (.inr h), fun _ => rfl⟩)
                      go_upto_region 15 with fail
                      go_quiet (fail)
                      go_wp2_with fail
                      go_roundw
                      case rel => exact ⟨k + 1, by go_num, by omega, by rw [← HNEW.out], _, rfl⟩
                      case measure => simp [intOf]; omega
                    | false =>
                      have HNEW : Hid (false = decide (kd ≠ 1 ∨ nm ∈ ns.take (k + 1))) := HMT.out false (by
                        have h : ¬ nk = nm := fun e => by rw [hne.out, hq] at e; cases e
                        have h2 : ¬ (kd ≠ 1 ∨ nm ∈ ns.take k) := fun e => by have := HMB.out.2 e; cases this
                        rw [HMS.out]
                        constructor
                        · intro e; cases e
                        · rintro (e | e | e)
                          · exact absurd (.inl e) h2
                          · exact absurd (.inr e) h2
                          · exact absurd e h)
                      go_upto_region 15 with fail
                      go_quiet (fail)
                      go_wp2_with fail
                      go_roundw
                      case rel => exact ⟨k + 1, by go_num, by omega, by rw [← HNEW.out], _, rfl⟩
                      case measure => simp [intOf]; omega
                · have hkn : k = ns.length := by omega
                  have m1 : decide ((k : Int) < (ns.length : Int)) = false := by simp; omega
                  have m2 : decide (k < ns.length) = false := by simp; omega
                  have HMD : Hid (decide (kd ≠ 1 ∨ nm ∈ ns.take k) = decide (kd ≠ 1 ∨ nm ∈ ns)) := by show _ = _; rw [hkn, List.take_length]
                  rw [HMD.out]
                  generalize decide (kd ≠ 1 ∨ nm ∈ ns) = MB at HT ⊢
                  clear hkn hkl HMD
                  have HBD : Hid (Below w.heap.size w (wr.drewN q)) := below_drewN HB.out q
                  have HOD : Hid ((wr.drewN q).ownsRow w.heap.size 9 1 (.slice A1 ns.length c1) ns.length ((bs ns).map Value.string)) := HO.out
                  cases MB with
                  | true =>
                    have HN : Hid (ns = namesI (e.take (j + 1))) := by show _ = _; rw [HT.out]; rfl
                    go_wp2_with fail
                    go_roundw
                    case rel => exact ⟨j + 1, ns, by go_num, by omega, by omega, HN, Lib.hid ⟨A1, c1, rfl, HOD.out, HBD.out⟩⟩
                    case measure => simp [intOf]; omega
                  | false =>
                    have HN : Hid (ns ++ [nm] = namesI (e.take (j + 1))) := by show _ = _; rw [HT.out]; rfl
                    have hz2 := HBD.out.size
                    have HO4 := Lib.hid (World.ownsRow.alloc HOD.out (.cells #[.string ⟨nm.toArray⟩] 9 (0, 0)))
                    have HC4 : Hid (((wr.drewN q).alloc (.cells #[.string ⟨nm.toArray⟩] 9 (0, 0))).cell? ⟨(wr.drewN q).heap.size, 0, none⟩ = some (.string ⟨nm.toArray⟩)) := by show _ = _; rw [World.cell?_alloc_mark]; rfl
                    have HBS : Hid (bs ns ++ [(⟨nm.toArray⟩ : ByteArray)] = bs (ns ++ [nm])) := by show _ = _; simp [bs]
                    have HLEN : Hid ((ns ++ [nm]).length = ns.length + 1) := by show _ = _; simp
                    go_wp2_with (at_builtin; (refine wpList_app_str rfl (.tmp 63) (.tmp 69) _ rfl w.heap.size 9 i0 _ Tryd.underlying37 hi0 hz0 (by rfl) hs1 hs2 _ ns.length (bs ns) rfl HO4.out _ 1 ⟨nm.toArray⟩ rfl HC4.out (by omega) (by simp at hz2 ⊢; omega) ?_); intro v' w5 hown hg5 hat; obtain ⟨A5, c5, hv5⟩ := own_form5 hown; subst hv5; have HO5 := Lib.hid hown; have HB5 : Hid (Below w.heap.size w w5) := (HBD.out.alloc hz2 _).grown hg5 (by simp at hz2 ⊢; omega) (fun g hg => (World.ownsRow.lt HO4.out g hg).1); clear hown hg5 hat)
                    rw [HBS.out] at HO5
                    go_roundw
                    case rel => exact ⟨j + 1, ns ++ [nm], by go_num, by omega, by rw [HLEN.out]; omega, HN, Lib.hid ⟨A5, c5, by rw [HLEN.out], by rw [HLEN.out]; exact HO5.out, HB5.out⟩⟩
                    case measure => simp [intOf]; omega
            · have hjn : j = n := by omega
              have l1 : decide ((j : Int) < (n : Int)) = false := by simp; omega
              have l2 : decide (j < n) = false := by simp; omega
              have HX : Hid (ns = namesI e) := by
                show _ = _
                have h1 := hNS.out
                rwa [List.take_of_length_le (by have := HLN.out; omega)] at h1
              obtain ⟨A2, c2, hv, _, hS⟩ := SRow.of_own HO.out
              simp only [Value.slice.injEq] at hv
              obtain ⟨rfl, -, rfl⟩ := hv
              have hX := HX.out
              subst hX
              have HS := Lib.hid hS
              have d1 : (R != R) = false := by simp
              have d2 : (T != T) = false := by simp
              have d3 : (D == D) = true := by simp
              have HB0 := HB
              clear hjn hlt hS hNS HO HX HB3
              generalize namesI e = ns at *
              go_wp2_with fail
              refine (HTH.out A c wr (HP.out.below HB0.out)).mono ?_
              rintro en w1 ⟨A3, c3, rfl, _, hp1, hb1⟩
              have HP1 := Lib.hid hp1
              have HB1 : Hid (Below w.heap.size w w1) := HB0.out.trans (hb1.mono HB0.out.size)
              have HC1 : Hid (Below wr.heap.size wr w1) := hb1
              clear hp1 hb1
              go_wp2_with fail
              refine (HRT.out A3 c3 w1 HP1.out (HH.out.below HB1.out)).mono ?_
              rintro en w2 ⟨rfl, hb2⟩
              have HB2 : Hid (Below w.heap.size w w2) := HB1.out.trans (hb2.mono HB1.out.size)
              have HC2 : Hid (Below wr.heap.size wr w2) := HC1.out.trans (hb2.mono HC1.out.size)
              clear hb2
              go_wp2_with fail
              refine (HTH.out A c w2 (HP.out.below HB2.out)).mono ?_
              rintro en w3 ⟨A4, c4, rfl, _, hp3, hb3⟩
              have HP3 := Lib.hid hp3
              have HB3 : Hid (Below w.heap.size w w3) := HB2.out.trans (hb3.mono HB2.out.size)
              have HC3 : Hid (Below wr.heap.size wr w3) := HC2.out.trans (hb3.mono HC2.out.size)
              clear hp3 hb3
              go_wp2_with fail
              refine (HT1.out A4 c4 w3 HP3.out (HH.out.below HB3.out)).mono ?_
              rintro en w4 ⟨rfl, hb4⟩
              have HB4 : Hid (Below w.heap.size w w4) := HB3.out.trans (hb4.mono HB3.out.size)
              have HC4 : Hid (Below wr.heap.size wr w4) := HC3.out.trans (hb4.mono HC3.out.size)
              clear hb4
              go_wp2_with fail
              refine (HTH.out A c w4 (HP.out.below HB4.out)).mono ?_
              rintro en w5 ⟨A5, c5, rfl, _, hp5, hb5⟩
              have HP5 := Lib.hid hp5
              have HB5 : Hid (Below w.heap.size w w5) := HB4.out.trans (hb5.mono HB4.out.size)
              have HC5 : Hid (Below wr.heap.size wr w5) := HC4.out.trans (hb5.mono HC4.out.size)
              clear hp5 hb5
              go_wp2_with fail
              refine (HNM.out A5 c5 w5 HP5.out).mono ?_
              rintro en w6 ⟨A6, c6, rfl, hr6, hb6⟩
              have HR6 := Lib.hid hr6
              have HB6 : Hid (Below w.heap.size w w6) := HB5.out.trans (hb6.mono HB5.out.size)
              have HC6 : Hid (Below wr.heap.size wr w6) := HC5.out.trans (hb6.mono HC5.out.size)
              have HS6 := Lib.hid (HS.out.below HC6.out)
              clear hr6 hb6
              go_wp2_with fail
              refine (HSS.out A6 A1 c6 c1 w6 HR6.out HS6.out).mono ?_
              rintro en w7 ⟨rfl, hb7⟩
              have HB7 : Hid (Below w.heap.size w w7) := HB6.out.trans (hb7.mono HB6.out.size)
              clear hb7
              go_wp2_with fail
              refine (HTH.out A c w7 (HP.out.below HB7.out)).mono ?_
              rintro en w8 ⟨A8, c8, rfl, _, hp8, hb8⟩
              have HP8 := Lib.hid hp8
              have HB8 : Hid (Below w.heap.size w w8) := HB7.out.trans (hb8.mono HB7.out.size)
              clear hp8 hb8
              go_wp2_with fail
              refine (HTH'.out A' c' w8 (HP'.out.below HB8.out)).mono ?_
              rintro en w9 ⟨A9, c9, rfl, _, hp9, hb9⟩
              have HP9 := Lib.hid hp9
              have HP89 := Lib.hid (HP8.out.below hb9)
              have HB9 : Hid (Below w.heap.size w w9) := HB8.out.trans (hb9.mono HB8.out.size)
              clear hp9 hb9
              go_wp2_with fail
              refine (HES.out A8 A9 c8 c9 w9 HP89.out HP9.out).mono ?_
              rintro en w10 ⟨rfl, hb10⟩
              have HB10 : Hid (Below w.heap.size w w10) := HB9.out.trans (hb10.mono HB9.out.size)
              clear hb10
              go_wp2_with fail
              refine (HRS.out A A' c c' w10 (HP.out.below HB10.out) (HP'.out.below HB10.out)).mono ?_
              rintro en w11 ⟨rfl, hb11⟩
              have HB11 : Hid (Below w.heap.size w w11) := HB10.out.trans ((drawn_below hb11).mono HB10.out.size)
              clear hb11
              go_wp2_with fail
              refine (HTH.out A c w11 (HP.out.below HB11.out)).mono ?_
              rintro en w12 ⟨A12, c12, rfl, _, hp12, hb12⟩
              have HP12 := Lib.hid hp12
              have HB12 : Hid (Below w.heap.size w w12) := HB11.out.trans (hb12.mono HB11.out.size)
              clear hp12 hb12
              go_wp2_with fail
              refine (HTH.out A c w12 (HP.out.below HB12.out)).mono ?_
              rintro en w13 ⟨A13, c13, rfl, _, hp13, hb13⟩
              have HP13 := Lib.hid hp13
              have HP123 := Lib.hid (HP12.out.below hb13)
              have HB13 : Hid (Below w.heap.size w w13) := HB12.out.trans (hb13.mono HB12.out.size)
              clear hp13 hb13
              go_wp2_with fail
              refine (HEE.out A12 A13 c12 c13 w13 HP123.out HP13.out).mono ?_
              rintro en w14 ⟨rfl, hb14⟩
              have HB14 : Hid (Below w.heap.size w w14) := HB13.out.trans (hb14.mono HB13.out.size)
              clear hb14
              go_wp2_with fail
              refine (HLV.out w14 (HH.out.below HB14.out)).mono ?_
              rintro en w15 ⟨rfl, hb15⟩
              have HB15 : Hid (Below w.heap.size w w15) := HB14.out.trans (hb15.mono HB14.out.size)
              clear hb15
              go_wp2_with fail
              go_ret
              exact ⟨rfl, HB15.out⟩
theorem right_walk (A : Option Addr) (n c : Nat) (e : List PI) (A' : Option Addr) (m c' : Nat) (o : List PI) (w : World) (h : PR w A n e) (hn : n ≤ maxLen) (hs : ∀ p ∈ e, (I64 p.low ∧ I64 p.high) ∧ p.name.length ≤ maxLen ∧ p.kids.length ≤ maxLen)
    (h' : PR w A' m o) (hm : m ≤ maxLen) (hs' : ∀ p ∈ o, (I64 p.low ∧ I64 p.high) ∧ p.name.length ≤ maxLen ∧ p.kids.length ≤ maxLen) (H : Held w) :
    Calls Tryd.prog 4 #[.slice A n c, .slice A' m c'] w fun e w' => e = .returned (.bool true) ∧ Below w.heap.size w w' := right_law A A' n m c c' e o w h h' hn hm hs hs' H
end Go.Proofs.YtphhacnabdpheaaDoor.Ex
