/- Walks of the expressions' Show: tell, by how deep a part is. -/
import Derived.Test.YtphhacnabdpheaaDoorExTell
namespace Go.Proofs.YtphhacnabdpheaaDoor.Ex
open Go.RowKit Mem Lx
set_option linter.unusedVariables false

/-- a part in a block of the call's own -/
def PK (w : World) (pb : Nat) (p : PI) (kv : Value) : Prop := w.heap[pb]? = some (.cells #[.int .i64 p.kind, .int .i64 p.low, .int .i64 p.high, .string ⟨p.name.toArray⟩, kv] 46 (0, 0))
theorem PK.lt {w : World} {pb : Nat} {p : PI} {kv : Value} (h : PK w pb p kv) : pb < w.heap.size := (Array.getElem?_eq_some_iff.1 h).1
theorem PK.cells {w : World} {pb : Nat} {p : PI} {kv : Value} (h : PK w pb p kv) : w.cell? ⟨pb, 0, none⟩ = some (.int .i64 p.kind) ∧ w.cell? ⟨pb, 1, none⟩ = some (.int .i64 p.low) ∧ w.cell? ⟨pb, 2, none⟩ = some (.int .i64 p.high) ∧ w.cell? ⟨pb, 3, none⟩ = some (.string ⟨p.name.toArray⟩) ∧ w.cell? ⟨pb, 4, none⟩ = some kv := by
  unfold PK at h; simp [World.cell?, h]
theorem PK.gs {w w' : World} {X pb : Nat} {p : PI} {kv : Value} (h : PK w pb p kv) (hg : Gs X w w') (hx : pb ≠ X) : PK w' pb p kv := hg.same h.lt hx h (by decide)
theorem PK.below {w w' : World} {pb : Nat} {p : PI} {kv : Value} (h : PK w pb p kv) (hb : Below w.heap.size w w') : PK w' pb p kv := (hb.block _ h.lt).trans h
/-- tell, of parts of some depth -/
def TellsAt (w0 : World) (X : Nat) (A : Option Addr) (n c : Nat) (e : List PI) (f : Nat) : Prop := ∀ (i : Nat) (l : List Sg) (w : World), Deep e f i → SS w0 X w l → X < w.heap.size → (l ++ tellI e f i).length ≤ 1000 →
  Calls Tryd.prog 38 #[.slice A n c, .int .i64 i, .func (.func 39) #[] #[.pointer (some ⟨X, 0, none⟩)]] w fun en w' => en = .returned (.tuple #[]) ∧ SS w0 X w' (l ++ tellI e f i) ∧ Gs X w w'
theorem SS.lt {w0 w : World} {X : Nat} {l : List Sg} (h : SS w0 X w l) : X < w.heap.size := by
  obtain ⟨_, _, v, h3, _⟩ := h
  exact h3.lt
theorem tellK_cons (T : Nat → List Sg) (e : List PI) (kind : Int) (idx : Nat) (k : Int) (ks : List Int) : tellK T e kind idx (k :: ks) = ((if 0 < idx ∧ kind = 3 then [⟨4, 0, 0, 0, []⟩] else []) ++ (if brk ((e[k.toNat]?.map PI.kind).getD 0) kind then (⟨2, 0, 0, 0, []⟩ :: T k.toNat) ++ [⟨3, 0, 0, 0, []⟩] else T k.toNat)) ++ tellK T e kind (idx + 1) ks := rfl

set_option maxRecDepth 100000 in
set_option maxHeartbeats 16000000 in
theorem tell_name (w0 : World) (X : Nat) (A : Option Addr) (n c : Nat) (e : List PI) (hp : PR w0 A n e) (hn : n ≤ 100000) (f : Nat) (IH : TellsAt w0 X A n c e f) (i : Nat) (l : List Sg) (w : World) (p : PI) (he : e[i]? = some p) (hd : ∀ k ∈ p.kids, 0 ≤ k ∧ Deep e f k.toNat) (hkl : p.kids.length ≤ 100000) (hk : p.kind = 1) (hs : SS w0 X w l) (hlen : (l ++ tellI e (f + 1) i).length ≤ 1000) :
    Calls Tryd.prog 38 #[.slice A n c, .int .i64 i, .func (.func 39) #[] #[.pointer (some ⟨X, 0, none⟩)]] w fun en w' => en = .returned (.tuple #[]) ∧ SS w0 X w' (l ++ tellI e (f + 1) i) ∧ Gs X w w' := by
  have hi : i < n := by
    have h1 := hp.1
    have h2 := (List.getElem?_eq_some_iff.1 he).1
    omega
  have hie : i < e.length := (List.getElem?_eq_some_iff.1 he).1
  have hei : e[i] = p := (List.getElem?_eq_some_iff.1 he).2
  obtain ⟨TOT, hT⟩ : ∃ TOT, TOT = l ++ tellI e (f + 1) i := ⟨_, rfl⟩
  rw [← hT] at hlen ⊢
  rw [tellI, he] at hT
  dsimp only at hT
  obtain ⟨b, off, rfl, hb, hc⟩ := hp.2 (by omega)
  obtain ⟨a0, a1, a2, a3, kv, a4, ra⟩ := hc i hie
  rw [hei] at a0 a1 a2 a3 ra
  have hbk := fun o => hs.bel.cell (p := ⟨b, o, none⟩) hb
  replace a0 := (hbk _).trans a0
  replace a1 := (hbk _).trans a1
  replace a2 := (hbk _).trans a2
  replace a3 := (hbk _).trans a3
  replace a4 := (hbk _).trans a4
  have hbw : b < w.heap.size := Nat.lt_of_lt_of_le hb hs.bel.size
  obtain ⟨kd, lo, hi2, nm, ks⟩ := p
  dsimp only at a0 a1 a2 a3 a4 ra hd hkl hk hT
  subst hk
  obtain ⟨Ak, ck, rfl, hck, hrk⟩ := ra
  have HRK := Lib.hid hrk
  have HD := hide hd
  have HIH := hide (fun (i : Nat) (l : List Sg) (W : World) (h1 : Deep e f i) (h2 : SS w0 X W l) (h3 : X < W.heap.size) (h4 : (l ++ tellI e f i).length ≤ 1000) => IH i l W h1 h2 h3 h4)
  have HP := hide hp
  have hXw := hs.lt
  have i0 : (i : Int) < (n : Int) := by omega
  have HS1 := Lib.hid (hs.alloc (.cells #[.int .i64 1, .int .i64 lo, .int .i64 hi2, .string ⟨nm.toArray⟩, .slice Ak ks.length ck] 46))
  have HK1 : Hid (PK (w.alloc (.cells #[.int .i64 1, .int .i64 lo, .int .i64 hi2, .string ⟨nm.toArray⟩, .slice Ak ks.length ck] 46)) w.heap.size ⟨1, lo, hi2, nm, ks⟩ (.slice Ak ks.length ck)) := World.alloc_heap_new w _
  have HG1 : Hid (Gs X w (w.alloc (.cells #[.int .i64 1, .int .i64 lo, .int .i64 hi2, .string ⟨nm.toArray⟩, .slice Ak ks.length ck] 46))) := (Gs.refl X w).alloc _
  have HLEN := Lib.hid hlen
  have HT := Lib.hid hT
  have hpx : Hid (w.heap.size ≠ X) := by show _ ≠ _; omega
  clear hbk hc hs hd IH hrk hck hp hT hlen he hei
  go_enter Tryd.func38, Tryd.ntmps38
  go_upto_region 1 with fail
  generalize w.alloc (.cells #[.int .i64 1, .int .i64 lo, .int .i64 hi2, .string ⟨nm.toArray⟩, .slice Ak ks.length ck] 46) = W1 at HS1 HK1 HG1 ⊢
  clear a0 a1 a2 a3 a4
  obtain ⟨k0, k1, k2, k3, k4⟩ := HK1.out.cells
  dsimp only at k0 k1 k2 k3 k4
  have hln : l.length ≤ 1000 := by have := congrArg List.length HT.out; simp at this; have := HLEN.out; omega
  have HPUT := hide (put_any w0 X l ⟨1, 0, 0, 0, nm⟩ W1 HS1.out (by omega))
  go_upto_region 4 with (go_at_call 39; (with_reducible refine (HPUT.out).mono ?_); rintro en w2 ⟨rfl, hs2, hg2⟩; have HS2 := Lib.hid hs2; have HG2 := Lib.hid (HG1.out.trans hg2); have HK2 := Lib.hid (HK1.out.gs hg2 hpx.out); have n4 := HK2.out.cells.2.2.2.2; clear hs2 hg2)
  go_loopw [25] (fun iv wr => ∃ (j : Nat) (l1 : List Sg), iv = .int .i64 j ∧ j ≤ ks.length ∧ Hid (SS w0 X wr l1) ∧ Hid (PK wr w.heap.size ⟨1, lo, hi2, nm, ks⟩ (.slice Ak ks.length ck)) ∧ Hid (Gs X w wr) ∧ Hid (TOT = (l1 ++ tellK (tellI e f) e 1 j (ks.drop j)) ++ [])) (fun iv _ => ks.length - (intOf iv).toNat)
  case atStart => exact ⟨0, l ++ [⟨1, 0, 0, 0, nm⟩], rfl, by omega, HS2, HK2, HG2, Lib.hid (by rw [HT.out]; simp )⟩
  case round =>
    obtain ⟨j, l1, rfl, hj, hS, hK, hG, hE⟩ := hrel
    obtain ⟨k0, k1, k2, k3, k4⟩ := hK.out.cells
    dsimp only at k0 k1 k2 k3 k4
    by_cases hlt : j < ks.length
    · have l1' : decide ((j : Int) < (ks.length : Int)) = true := by simp; omega
      have l2' : decide (j < ks.length) = true := by simp; omega
      have g0 : (j : Int) < (ks.length : Int) := by omega
      have hdj := List.drop_eq_getElem_cons hlt
      obtain ⟨hk0, hdp⟩ := HD.out ks[j] (List.getElem_mem hlt)
      obtain ⟨kb, ko, rfl, hkc⟩ := (HRK.out.below hS.out.bel).2.2 (by omega)
      obtain ⟨kid, hkid⟩ : ∃ kid, kid = ks[j] := ⟨_, rfl⟩
      have ckj : wr.cell? ⟨kb, ko + j, none⟩ = some (.int .i64 kid) := by
        have := hkc j hlt
        rw [show ks.getD j 0 = ks[j] from by simp [List.getD, List.getElem?_eq_getElem hlt]] at this
        rw [hkid]
        exact this
      rw [← hkid] at hdj hk0 hdp
      clear hkid hkc
      obtain ⟨kn, rfl⟩ := Int.eq_ofNat_of_zero_le hk0
      simp only [Int.toNat_natCast] at hdp
      have hkn : ∃ q, e[kn]? = some q := by
        cases f with
        | zero => exact hdp.elim
        | succ f => obtain ⟨q, h, _⟩ := hdp; exact ⟨q, h⟩
      obtain ⟨q, hq⟩ := hkn
      have hknl : kn < e.length := (List.getElem?_eq_some_iff.1 hq).1
      have hknn : kn < n := by have := HP.out.1; omega
      have hkni : (kn : Int) < (n : Int) := by omega
      obtain ⟨b2, off2, hA2, hb2, hc2⟩ := (HP.out.below hS.out.bel).2 (by omega)
      simp only [Option.some.injEq, Addr.mk.injEq] at hA2
      obtain ⟨rfl, rfl, -⟩ := hA2
      have q0 := (hc2 kn hknl).1
      rw [show e[kn] = q from (List.getElem?_eq_some_iff.1 hq).2] at q0
      have HE := hE.out
      rw [hdj, tellK_cons] at HE
      simp only [Int.toNat_natCast, hq, Option.map_some, Option.getD_some] at HE
      have HDP := Lib.hid hdp
      have HB := hide (fun W => brk_any q.kind 1 W)
      have HQN : Hid (∀ W, Below w0.heap.size w0 W → W.cell? ⟨b, off + kn * 5, none⟩ = some (.int .i64 q.kind)) := fun W hW => by
        obtain ⟨b3, off3, hA3, _, hc3⟩ := (HP.out.below hW).2 (by omega)
        simp only [Option.some.injEq, Addr.mk.injEq] at hA3
        obtain ⟨rfl, rfl, -⟩ := hA3
        have h := (hc3 kn hknl).1
        rwa [show e[kn] = q from (List.getElem?_eq_some_iff.1 hq).2] at h
      clear hc2 hdj hdp hk0 hq hknl hie
      by_cases j0 : 0 < j
      · have u1 : decide ((0 : Int) < (j : Int)) = true := by simp; omega
        have u2 : decide (0 < j) = true := by simpa using j0
        simp only [j0, true_and, show ¬ (1 : Int) = 3 from by omega, if_false, List.nil_append] at HE
        cases hbr : brk q.kind 1 with
        | true =>
          rw [hbr] at HB HE
          simp only [if_true] at HE
          clear hbr
          have HEV : Hid (TOT = (((l1 ++ [(⟨2, 0, 0, 0, []⟩ : Sg)]) ++ tellI e f kn ++ [(⟨3, 0, 0, 0, []⟩ : Sg)]) ++ tellK (tellI e f) e 1 (j + 1) (ks.drop (j + 1))) ++ []) := by show _ = _; rw [HE]; simp 
          have hsz : ((l1 ++ [(⟨2, 0, 0, 0, []⟩ : Sg)]) ++ tellI e f kn).length ≤ 999 + 1 ∧ l1.length ≤ 1000 := by
            have h := congrArg List.length HEV.out
            have h2 := HLEN.out
            simp only [List.length_append, List.length_cons, List.length_nil] at h h2 ⊢
            omega
          have HSZ := Lib.hid hsz
          clear hsz
          clear HE
          go_upto_region 8 with fail
          have HB2 : Hid (∀ nn, Calls Tryd.prog 66 #[.int .i64 q.kind, .int .i64 1] (wr.drewN nn) fun en w' => en = .returned (.bool true) ∧ w' = wr.drewN nn) := fun nn => HB.out (wr.drewN nn)
          clear HB
          go_quiet ((go_at_call 66; exact Calls.quiet_of_same (HB2.out _)))
          have HPOP := hide (put_any w0 X (l1) ⟨2, 0, 0, 0, []⟩ (wr.drewN nq) (hS.out.drewN nq) (by have := HSZ.out.2; simp; omega))
          have H1 : Hid (PK (wr.drewN nq) w.heap.size ⟨1, lo, hi2, nm, ks⟩ (.slice (some ⟨kb, ko, none⟩) ks.length ck)) := hK.out
          have HGD : Hid (Gs X w (wr.drewN nq)) := ⟨hG.out.size, hG.out.block⟩
          go_wp2_with (first
            | (go_at_call 38; (with_reducible refine (HIH.out kn ((l1) ++ [(⟨2, 0, 0, 0, []⟩ : Sg)]) w6 HDP.out HS6.out (HS6.out.lt) HSZ.out.1).mono ?_); rintro en w7 ⟨rfl, hs7, hg7⟩; have HS7 := Lib.hid hs7; have HG7 := Lib.hid (HG6.out.trans hg7); have HK7 := Lib.hid (HK6.out.gs hg7 hpx.out); clear hs7 hg7)
            | (go_at_call 39; first
              | ((with_reducible refine (HPOP.out).mono ?_); rintro en w6 ⟨rfl, hs6, hg6⟩; have HS6 := Lib.hid hs6; have HG6 := Lib.hid (HGD.out.trans hg6); have HK6 := Lib.hid (H1.out.gs hg6 hpx.out); clear hs6 hg6)
              | ((with_reducible refine (put_any w0 X (((l1) ++ [(⟨2, 0, 0, 0, []⟩ : Sg)]) ++ tellI e f kn) ⟨3, 0, 0, 0, []⟩ w7 HS7.out (by have := HSZ.out.1; omega)).mono ?_); rintro en w8 ⟨rfl, hs8, hg8⟩; have HS8 := Lib.hid hs8; have HG8 := Lib.hid (HG7.out.trans hg8); have HK8 := Lib.hid (HK7.out.gs hg8 hpx.out); clear hs8 hg8)))
          go_roundw
          case rel => exact ⟨j + 1, ((((l1) ++ [(⟨2, 0, 0, 0, []⟩ : Sg)]) ++ tellI e f kn) ++ [(⟨3, 0, 0, 0, []⟩ : Sg)]), by go_num, by omega, HS8, HK8, HG8, HEV⟩
          case measure => simp [intOf]; omega
        | false =>
          rw [hbr] at HB HE
          simp only [Bool.false_eq_true, if_false] at HE
          clear hbr
          have HEV : Hid (TOT = (((l1) ++ tellI e f kn) ++ tellK (tellI e f) e 1 (j + 1) (ks.drop (j + 1))) ++ []) := by show _ = _; rw [HE]; simp 
          have hsz : ((l1) ++ tellI e f kn).length ≤ 999 + 1 ∧ l1.length ≤ 1000 := by
            have h := congrArg List.length HEV.out
            have h2 := HLEN.out
            simp only [List.length_append, List.length_nil] at h h2 ⊢
            omega
          have HSZ := Lib.hid hsz
          clear hsz
          clear HE
          go_upto_region 8 with fail
          have HB2 : Hid (∀ nn, Calls Tryd.prog 66 #[.int .i64 q.kind, .int .i64 1] (wr.drewN nn) fun en w' => en = .returned (.bool false) ∧ w' = wr.drewN nn) := fun nn => HB.out (wr.drewN nn)
          clear HB
          go_quiet ((go_at_call 66; exact Calls.quiet_of_same (HB2.out _)))
          have HSD : Hid (SS w0 X (wr.drewN nq) (l1)) := hS.out.drewN nq
          have H1 : Hid (PK (wr.drewN nq) w.heap.size ⟨1, lo, hi2, nm, ks⟩ (.slice (some ⟨kb, ko, none⟩) ks.length ck)) := hK.out
          have HGD : Hid (Gs X w (wr.drewN nq)) := ⟨hG.out.size, hG.out.block⟩
          go_wp2_with (go_at_call 38; (with_reducible refine (HIH.out kn (l1) (wr.drewN nq) HDP.out HSD.out (HSD.out.lt) HSZ.out.1).mono ?_); rintro en w7 ⟨rfl, hs7, hg7⟩; have HS7 := Lib.hid hs7; have HG7 := Lib.hid (HGD.out.trans hg7); have HK7 := Lib.hid (H1.out.gs hg7 hpx.out); clear hs7 hg7)
          go_roundw
          case rel => exact ⟨j + 1, (l1) ++ tellI e f kn, by go_num, by omega, HS7, HK7, HG7, HEV⟩
          case measure => simp [intOf]; omega
      · have u1 : decide ((0 : Int) < (j : Int)) = false := by simp; omega
        have u2 : decide (0 < j) = false := by simpa using j0
        have u3 : j ≤ 0 := by omega
        simp only [j0, false_and, if_false, List.nil_append] at HE
        clear j0
        cases hbr : brk q.kind 1 with
        | true =>
          rw [hbr] at HB HE
          simp only [if_true] at HE
          clear hbr
          have HEV : Hid (TOT = (((l1 ++ [(⟨2, 0, 0, 0, []⟩ : Sg)]) ++ tellI e f kn ++ [(⟨3, 0, 0, 0, []⟩ : Sg)]) ++ tellK (tellI e f) e 1 (j + 1) (ks.drop (j + 1))) ++ []) := by show _ = _; rw [HE]; simp 
          have hsz : ((l1 ++ [(⟨2, 0, 0, 0, []⟩ : Sg)]) ++ tellI e f kn).length ≤ 999 + 1 ∧ l1.length ≤ 1000 := by
            have h := congrArg List.length HEV.out
            have h2 := HLEN.out
            simp only [List.length_append, List.length_cons, List.length_nil] at h h2 ⊢
            omega
          have HSZ := Lib.hid hsz
          clear hsz
          clear HE
          go_upto_region 8 with fail
          have HB2 : Hid (∀ nn, Calls Tryd.prog 66 #[.int .i64 q.kind, .int .i64 1] (wr.drewN nn) fun en w' => en = .returned (.bool true) ∧ w' = wr.drewN nn) := fun nn => HB.out (wr.drewN nn)
          clear HB
          go_quiet ((go_at_call 66; exact Calls.quiet_of_same (HB2.out _)))
          have HPOP := hide (put_any w0 X (l1) ⟨2, 0, 0, 0, []⟩ (wr.drewN nq) (hS.out.drewN nq) (by have := HSZ.out.2; simp; omega))
          have H1 : Hid (PK (wr.drewN nq) w.heap.size ⟨1, lo, hi2, nm, ks⟩ (.slice (some ⟨kb, ko, none⟩) ks.length ck)) := hK.out
          have HGD : Hid (Gs X w (wr.drewN nq)) := ⟨hG.out.size, hG.out.block⟩
          go_wp2_with (first
            | (go_at_call 38; (with_reducible refine (HIH.out kn ((l1) ++ [(⟨2, 0, 0, 0, []⟩ : Sg)]) w6 HDP.out HS6.out (HS6.out.lt) HSZ.out.1).mono ?_); rintro en w7 ⟨rfl, hs7, hg7⟩; have HS7 := Lib.hid hs7; have HG7 := Lib.hid (HG6.out.trans hg7); have HK7 := Lib.hid (HK6.out.gs hg7 hpx.out); clear hs7 hg7)
            | (go_at_call 39; first
              | ((with_reducible refine (HPOP.out).mono ?_); rintro en w6 ⟨rfl, hs6, hg6⟩; have HS6 := Lib.hid hs6; have HG6 := Lib.hid (HGD.out.trans hg6); have HK6 := Lib.hid (H1.out.gs hg6 hpx.out); clear hs6 hg6)
              | ((with_reducible refine (put_any w0 X (((l1) ++ [(⟨2, 0, 0, 0, []⟩ : Sg)]) ++ tellI e f kn) ⟨3, 0, 0, 0, []⟩ w7 HS7.out (by have := HSZ.out.1; omega)).mono ?_); rintro en w8 ⟨rfl, hs8, hg8⟩; have HS8 := Lib.hid hs8; have HG8 := Lib.hid (HG7.out.trans hg8); have HK8 := Lib.hid (HK7.out.gs hg8 hpx.out); clear hs8 hg8)))
          go_roundw
          case rel => exact ⟨j + 1, ((((l1) ++ [(⟨2, 0, 0, 0, []⟩ : Sg)]) ++ tellI e f kn) ++ [(⟨3, 0, 0, 0, []⟩ : Sg)]), by go_num, by omega, HS8, HK8, HG8, HEV⟩
          case measure => simp [intOf]; omega
        | false =>
          rw [hbr] at HB HE
          simp only [Bool.false_eq_true, if_false] at HE
          clear hbr
          have HEV : Hid (TOT = (((l1) ++ tellI e f kn) ++ tellK (tellI e f) e 1 (j + 1) (ks.drop (j + 1))) ++ []) := by show _ = _; rw [HE]; simp 
          have hsz : ((l1) ++ tellI e f kn).length ≤ 999 + 1 ∧ l1.length ≤ 1000 := by
            have h := congrArg List.length HEV.out
            have h2 := HLEN.out
            simp only [List.length_append, List.length_nil] at h h2 ⊢
            omega
          have HSZ := Lib.hid hsz
          clear hsz
          clear HE
          go_upto_region 8 with fail
          have HB2 : Hid (∀ nn, Calls Tryd.prog 66 #[.int .i64 q.kind, .int .i64 1] (wr.drewN nn) fun en w' => en = .returned (.bool false) ∧ w' = wr.drewN nn) := fun nn => HB.out (wr.drewN nn)
          clear HB
          go_quiet ((go_at_call 66; exact Calls.quiet_of_same (HB2.out _)))
          have HSD : Hid (SS w0 X (wr.drewN nq) (l1)) := hS.out.drewN nq
          have H1 : Hid (PK (wr.drewN nq) w.heap.size ⟨1, lo, hi2, nm, ks⟩ (.slice (some ⟨kb, ko, none⟩) ks.length ck)) := hK.out
          have HGD : Hid (Gs X w (wr.drewN nq)) := ⟨hG.out.size, hG.out.block⟩
          go_wp2_with (go_at_call 38; (with_reducible refine (HIH.out kn (l1) (wr.drewN nq) HDP.out HSD.out (HSD.out.lt) HSZ.out.1).mono ?_); rintro en w7 ⟨rfl, hs7, hg7⟩; have HS7 := Lib.hid hs7; have HG7 := Lib.hid (HGD.out.trans hg7); have HK7 := Lib.hid (H1.out.gs hg7 hpx.out); clear hs7 hg7)
          go_roundw
          case rel => exact ⟨j + 1, (l1) ++ tellI e f kn, by go_num, by omega, HS7, HK7, HG7, HEV⟩
          case measure => simp [intOf]; omega
    · have hjn : ks.length ≤ j := by omega
      have l1' : decide ((j : Int) < (ks.length : Int)) = false := by simp; omega
      have l2' : decide (j < ks.length) = false := by simp; omega
      have HE := hE.out
      rw [List.drop_eq_nil_of_le hjn] at HE
      simp only [tellK, List.append_nil] at HE
      have HE2 := Lib.hid HE
      clear hlt hjn HE
      go_wp2_with fail
      go_end0
      exact ⟨rfl, by rw [HE2.out]; exact hS.out, hG.out⟩
set_option maxRecDepth 100000 in
set_option maxHeartbeats 16000000 in
theorem tell_times (w0 : World) (X : Nat) (A : Option Addr) (n c : Nat) (e : List PI) (hp : PR w0 A n e) (hn : n ≤ 100000) (f : Nat) (IH : TellsAt w0 X A n c e f) (i : Nat) (l : List Sg) (w : World) (p : PI) (he : e[i]? = some p) (hd : ∀ k ∈ p.kids, 0 ≤ k ∧ Deep e f k.toNat) (hkl : p.kids.length ≤ 100000) (hk : p.kind = 4) (hs : SS w0 X w l) (hlen : (l ++ tellI e (f + 1) i).length ≤ 1000) :
    Calls Tryd.prog 38 #[.slice A n c, .int .i64 i, .func (.func 39) #[] #[.pointer (some ⟨X, 0, none⟩)]] w fun en w' => en = .returned (.tuple #[]) ∧ SS w0 X w' (l ++ tellI e (f + 1) i) ∧ Gs X w w' := by
  have hi : i < n := by
    have h1 := hp.1
    have h2 := (List.getElem?_eq_some_iff.1 he).1
    omega
  have hie : i < e.length := (List.getElem?_eq_some_iff.1 he).1
  have hei : e[i] = p := (List.getElem?_eq_some_iff.1 he).2
  obtain ⟨TOT, hT⟩ : ∃ TOT, TOT = l ++ tellI e (f + 1) i := ⟨_, rfl⟩
  rw [← hT] at hlen ⊢
  rw [tellI, he] at hT
  dsimp only at hT
  obtain ⟨b, off, rfl, hb, hc⟩ := hp.2 (by omega)
  obtain ⟨a0, a1, a2, a3, kv, a4, ra⟩ := hc i hie
  rw [hei] at a0 a1 a2 a3 ra
  have hbk := fun o => hs.bel.cell (p := ⟨b, o, none⟩) hb
  replace a0 := (hbk _).trans a0
  replace a1 := (hbk _).trans a1
  replace a2 := (hbk _).trans a2
  replace a3 := (hbk _).trans a3
  replace a4 := (hbk _).trans a4
  have hbw : b < w.heap.size := Nat.lt_of_lt_of_le hb hs.bel.size
  obtain ⟨kd, lo, hi2, nm, ks⟩ := p
  dsimp only at a0 a1 a2 a3 a4 ra hd hkl hk hT
  subst hk
  obtain ⟨Ak, ck, rfl, hck, hrk⟩ := ra
  have HRK := Lib.hid hrk
  have HD := hide hd
  have HIH := hide (fun (i : Nat) (l : List Sg) (W : World) (h1 : Deep e f i) (h2 : SS w0 X W l) (h3 : X < W.heap.size) (h4 : (l ++ tellI e f i).length ≤ 1000) => IH i l W h1 h2 h3 h4)
  have HP := hide hp
  have hXw := hs.lt
  have i0 : (i : Int) < (n : Int) := by omega
  have HS1 := Lib.hid (hs.alloc (.cells #[.int .i64 4, .int .i64 lo, .int .i64 hi2, .string ⟨nm.toArray⟩, .slice Ak ks.length ck] 46))
  have HK1 : Hid (PK (w.alloc (.cells #[.int .i64 4, .int .i64 lo, .int .i64 hi2, .string ⟨nm.toArray⟩, .slice Ak ks.length ck] 46)) w.heap.size ⟨4, lo, hi2, nm, ks⟩ (.slice Ak ks.length ck)) := World.alloc_heap_new w _
  have HG1 : Hid (Gs X w (w.alloc (.cells #[.int .i64 4, .int .i64 lo, .int .i64 hi2, .string ⟨nm.toArray⟩, .slice Ak ks.length ck] 46))) := (Gs.refl X w).alloc _
  have HLEN := Lib.hid hlen
  have HT := Lib.hid hT
  have hpx : Hid (w.heap.size ≠ X) := by show _ ≠ _; omega
  clear hbk hc hs hd IH hrk hck hp hT hlen he hei
  go_enter Tryd.func38, Tryd.ntmps38
  go_upto_region 1 with fail
  generalize w.alloc (.cells #[.int .i64 4, .int .i64 lo, .int .i64 hi2, .string ⟨nm.toArray⟩, .slice Ak ks.length ck] 46) = W1 at HS1 HK1 HG1 ⊢
  clear a0 a1 a2 a3 a4
  obtain ⟨k0, k1, k2, k3, k4⟩ := HK1.out.cells
  dsimp only at k0 k1 k2 k3 k4
  go_upto_region 4 with fail
  go_loopw [25] (fun iv wr => ∃ (j : Nat) (l1 : List Sg), iv = .int .i64 j ∧ j ≤ ks.length ∧ Hid (SS w0 X wr l1) ∧ Hid (PK wr w.heap.size ⟨4, lo, hi2, nm, ks⟩ (.slice Ak ks.length ck)) ∧ Hid (Gs X w wr) ∧ Hid (TOT = (l1 ++ tellK (tellI e f) e 4 j (ks.drop j)) ++ [⟨5, 0, lo, hi2, []⟩])) (fun iv _ => ks.length - (intOf iv).toNat)
  case atStart => exact ⟨0, l, rfl, by omega, HS1, HK1, HG1, Lib.hid (by rw [HT.out]; simp )⟩
  case round =>
    obtain ⟨j, l1, rfl, hj, hS, hK, hG, hE⟩ := hrel
    obtain ⟨k0, k1, k2, k3, k4⟩ := hK.out.cells
    dsimp only at k0 k1 k2 k3 k4
    by_cases hlt : j < ks.length
    · have l1' : decide ((j : Int) < (ks.length : Int)) = true := by simp; omega
      have l2' : decide (j < ks.length) = true := by simp; omega
      have g0 : (j : Int) < (ks.length : Int) := by omega
      have hdj := List.drop_eq_getElem_cons hlt
      obtain ⟨hk0, hdp⟩ := HD.out ks[j] (List.getElem_mem hlt)
      obtain ⟨kb, ko, rfl, hkc⟩ := (HRK.out.below hS.out.bel).2.2 (by omega)
      obtain ⟨kid, hkid⟩ : ∃ kid, kid = ks[j] := ⟨_, rfl⟩
      have ckj : wr.cell? ⟨kb, ko + j, none⟩ = some (.int .i64 kid) := by
        have := hkc j hlt
        rw [show ks.getD j 0 = ks[j] from by simp [List.getD, List.getElem?_eq_getElem hlt]] at this
        rw [hkid]
        exact this
      rw [← hkid] at hdj hk0 hdp
      clear hkid hkc
      obtain ⟨kn, rfl⟩ := Int.eq_ofNat_of_zero_le hk0
      simp only [Int.toNat_natCast] at hdp
      have hkn : ∃ q, e[kn]? = some q := by
        cases f with
        | zero => exact hdp.elim
        | succ f => obtain ⟨q, h, _⟩ := hdp; exact ⟨q, h⟩
      obtain ⟨q, hq⟩ := hkn
      have hknl : kn < e.length := (List.getElem?_eq_some_iff.1 hq).1
      have hknn : kn < n := by have := HP.out.1; omega
      have hkni : (kn : Int) < (n : Int) := by omega
      obtain ⟨b2, off2, hA2, hb2, hc2⟩ := (HP.out.below hS.out.bel).2 (by omega)
      simp only [Option.some.injEq, Addr.mk.injEq] at hA2
      obtain ⟨rfl, rfl, -⟩ := hA2
      have q0 := (hc2 kn hknl).1
      rw [show e[kn] = q from (List.getElem?_eq_some_iff.1 hq).2] at q0
      have HE := hE.out
      rw [hdj, tellK_cons] at HE
      simp only [Int.toNat_natCast, hq, Option.map_some, Option.getD_some] at HE
      have HDP := Lib.hid hdp
      have HB := hide (fun W => brk_any q.kind 4 W)
      have HQN : Hid (∀ W, Below w0.heap.size w0 W → W.cell? ⟨b, off + kn * 5, none⟩ = some (.int .i64 q.kind)) := fun W hW => by
        obtain ⟨b3, off3, hA3, _, hc3⟩ := (HP.out.below hW).2 (by omega)
        simp only [Option.some.injEq, Addr.mk.injEq] at hA3
        obtain ⟨rfl, rfl, -⟩ := hA3
        have h := (hc3 kn hknl).1
        rwa [show e[kn] = q from (List.getElem?_eq_some_iff.1 hq).2] at h
      clear hc2 hdj hdp hk0 hq hknl hie
      by_cases j0 : 0 < j
      · have u1 : decide ((0 : Int) < (j : Int)) = true := by simp; omega
        have u2 : decide (0 < j) = true := by simpa using j0
        simp only [j0, true_and, show ¬ (4 : Int) = 3 from by omega, if_false, List.nil_append] at HE
        cases hbr : brk q.kind 4 with
        | true =>
          rw [hbr] at HB HE
          simp only [if_true] at HE
          clear hbr
          have HEV : Hid (TOT = (((l1 ++ [(⟨2, 0, 0, 0, []⟩ : Sg)]) ++ tellI e f kn ++ [(⟨3, 0, 0, 0, []⟩ : Sg)]) ++ tellK (tellI e f) e 4 (j + 1) (ks.drop (j + 1))) ++ [⟨5, 0, lo, hi2, []⟩]) := by show _ = _; rw [HE]; simp 
          have hsz : ((l1 ++ [(⟨2, 0, 0, 0, []⟩ : Sg)]) ++ tellI e f kn).length ≤ 999 + 1 ∧ l1.length ≤ 1000 := by
            have h := congrArg List.length HEV.out
            have h2 := HLEN.out
            simp only [List.length_append, List.length_cons, List.length_nil] at h h2 ⊢
            omega
          have HSZ := Lib.hid hsz
          clear hsz
          clear HE
          go_upto_region 8 with fail
          have HB2 : Hid (∀ nn, Calls Tryd.prog 66 #[.int .i64 q.kind, .int .i64 4] (wr.drewN nn) fun en w' => en = .returned (.bool true) ∧ w' = wr.drewN nn) := fun nn => HB.out (wr.drewN nn)
          clear HB
          go_quiet ((go_at_call 66; exact Calls.quiet_of_same (HB2.out _)))
          have HPOP := hide (put_any w0 X (l1) ⟨2, 0, 0, 0, []⟩ (wr.drewN nq) (hS.out.drewN nq) (by have := HSZ.out.2; simp; omega))
          have H4 : Hid (PK (wr.drewN nq) w.heap.size ⟨4, lo, hi2, nm, ks⟩ (.slice (some ⟨kb, ko, none⟩) ks.length ck)) := hK.out
          have HGD : Hid (Gs X w (wr.drewN nq)) := ⟨hG.out.size, hG.out.block⟩
          go_wp2_with (first
            | (go_at_call 38; (with_reducible refine (HIH.out kn ((l1) ++ [(⟨2, 0, 0, 0, []⟩ : Sg)]) w6 HDP.out HS6.out (HS6.out.lt) HSZ.out.1).mono ?_); rintro en w7 ⟨rfl, hs7, hg7⟩; have HS7 := Lib.hid hs7; have HG7 := Lib.hid (HG6.out.trans hg7); have HK7 := Lib.hid (HK6.out.gs hg7 hpx.out); clear hs7 hg7)
            | (go_at_call 39; first
              | ((with_reducible refine (HPOP.out).mono ?_); rintro en w6 ⟨rfl, hs6, hg6⟩; have HS6 := Lib.hid hs6; have HG6 := Lib.hid (HGD.out.trans hg6); have HK6 := Lib.hid (H4.out.gs hg6 hpx.out); clear hs6 hg6)
              | ((with_reducible refine (put_any w0 X (((l1) ++ [(⟨2, 0, 0, 0, []⟩ : Sg)]) ++ tellI e f kn) ⟨3, 0, 0, 0, []⟩ w7 HS7.out (by have := HSZ.out.1; omega)).mono ?_); rintro en w8 ⟨rfl, hs8, hg8⟩; have HS8 := Lib.hid hs8; have HG8 := Lib.hid (HG7.out.trans hg8); have HK8 := Lib.hid (HK7.out.gs hg8 hpx.out); clear hs8 hg8)))
          go_roundw
          case rel => exact ⟨j + 1, ((((l1) ++ [(⟨2, 0, 0, 0, []⟩ : Sg)]) ++ tellI e f kn) ++ [(⟨3, 0, 0, 0, []⟩ : Sg)]), by go_num, by omega, HS8, HK8, HG8, HEV⟩
          case measure => simp [intOf]; omega
        | false =>
          rw [hbr] at HB HE
          simp only [Bool.false_eq_true, if_false] at HE
          clear hbr
          have HEV : Hid (TOT = (((l1) ++ tellI e f kn) ++ tellK (tellI e f) e 4 (j + 1) (ks.drop (j + 1))) ++ [⟨5, 0, lo, hi2, []⟩]) := by show _ = _; rw [HE]; simp 
          have hsz : ((l1) ++ tellI e f kn).length ≤ 999 + 1 ∧ l1.length ≤ 1000 := by
            have h := congrArg List.length HEV.out
            have h2 := HLEN.out
            simp only [List.length_append, List.length_cons, List.length_nil] at h h2 ⊢
            omega
          have HSZ := Lib.hid hsz
          clear hsz
          clear HE
          go_upto_region 8 with fail
          have HB2 : Hid (∀ nn, Calls Tryd.prog 66 #[.int .i64 q.kind, .int .i64 4] (wr.drewN nn) fun en w' => en = .returned (.bool false) ∧ w' = wr.drewN nn) := fun nn => HB.out (wr.drewN nn)
          clear HB
          go_quiet ((go_at_call 66; exact Calls.quiet_of_same (HB2.out _)))
          have HSD : Hid (SS w0 X (wr.drewN nq) (l1)) := hS.out.drewN nq
          have H4 : Hid (PK (wr.drewN nq) w.heap.size ⟨4, lo, hi2, nm, ks⟩ (.slice (some ⟨kb, ko, none⟩) ks.length ck)) := hK.out
          have HGD : Hid (Gs X w (wr.drewN nq)) := ⟨hG.out.size, hG.out.block⟩
          go_wp2_with (go_at_call 38; (with_reducible refine (HIH.out kn (l1) (wr.drewN nq) HDP.out HSD.out (HSD.out.lt) HSZ.out.1).mono ?_); rintro en w7 ⟨rfl, hs7, hg7⟩; have HS7 := Lib.hid hs7; have HG7 := Lib.hid (HGD.out.trans hg7); have HK7 := Lib.hid (H4.out.gs hg7 hpx.out); clear hs7 hg7)
          go_roundw
          case rel => exact ⟨j + 1, (l1) ++ tellI e f kn, by go_num, by omega, HS7, HK7, HG7, HEV⟩
          case measure => simp [intOf]; omega
      · have u1 : decide ((0 : Int) < (j : Int)) = false := by simp; omega
        have u2 : decide (0 < j) = false := by simpa using j0
        have u3 : j ≤ 0 := by omega
        simp only [j0, false_and, if_false, List.nil_append] at HE
        clear j0
        cases hbr : brk q.kind 4 with
        | true =>
          rw [hbr] at HB HE
          simp only [if_true] at HE
          clear hbr
          have HEV : Hid (TOT = (((l1 ++ [(⟨2, 0, 0, 0, []⟩ : Sg)]) ++ tellI e f kn ++ [(⟨3, 0, 0, 0, []⟩ : Sg)]) ++ tellK (tellI e f) e 4 (j + 1) (ks.drop (j + 1))) ++ [⟨5, 0, lo, hi2, []⟩]) := by show _ = _; rw [HE]; simp 
          have hsz : ((l1 ++ [(⟨2, 0, 0, 0, []⟩ : Sg)]) ++ tellI e f kn).length ≤ 999 + 1 ∧ l1.length ≤ 1000 := by
            have h := congrArg List.length HEV.out
            have h2 := HLEN.out
            simp only [List.length_append, List.length_cons, List.length_nil] at h h2 ⊢
            omega
          have HSZ := Lib.hid hsz
          clear hsz
          clear HE
          go_upto_region 8 with fail
          have HB2 : Hid (∀ nn, Calls Tryd.prog 66 #[.int .i64 q.kind, .int .i64 4] (wr.drewN nn) fun en w' => en = .returned (.bool true) ∧ w' = wr.drewN nn) := fun nn => HB.out (wr.drewN nn)
          clear HB
          go_quiet ((go_at_call 66; exact Calls.quiet_of_same (HB2.out _)))
          have HPOP := hide (put_any w0 X (l1) ⟨2, 0, 0, 0, []⟩ (wr.drewN nq) (hS.out.drewN nq) (by have := HSZ.out.2; simp; omega))
          have H4 : Hid (PK (wr.drewN nq) w.heap.size ⟨4, lo, hi2, nm, ks⟩ (.slice (some ⟨kb, ko, none⟩) ks.length ck)) := hK.out
          have HGD : Hid (Gs X w (wr.drewN nq)) := ⟨hG.out.size, hG.out.block⟩
          go_wp2_with (first
            | (go_at_call 38; (with_reducible refine (HIH.out kn ((l1) ++ [(⟨2, 0, 0, 0, []⟩ : Sg)]) w6 HDP.out HS6.out (HS6.out.lt) HSZ.out.1).mono ?_); rintro en w7 ⟨rfl, hs7, hg7⟩; have HS7 := Lib.hid hs7; have HG7 := Lib.hid (HG6.out.trans hg7); have HK7 := Lib.hid (HK6.out.gs hg7 hpx.out); clear hs7 hg7)
            | (go_at_call 39; first
              | ((with_reducible refine (HPOP.out).mono ?_); rintro en w6 ⟨rfl, hs6, hg6⟩; have HS6 := Lib.hid hs6; have HG6 := Lib.hid (HGD.out.trans hg6); have HK6 := Lib.hid (H4.out.gs hg6 hpx.out); clear hs6 hg6)
              | ((with_reducible refine (put_any w0 X (((l1) ++ [(⟨2, 0, 0, 0, []⟩ : Sg)]) ++ tellI e f kn) ⟨3, 0, 0, 0, []⟩ w7 HS7.out (by have := HSZ.out.1; omega)).mono ?_); rintro en w8 ⟨rfl, hs8, hg8⟩; have HS8 := Lib.hid hs8; have HG8 := Lib.hid (HG7.out.trans hg8); have HK8 := Lib.hid (HK7.out.gs hg8 hpx.out); clear hs8 hg8)))
          go_roundw
          case rel => exact ⟨j + 1, ((((l1) ++ [(⟨2, 0, 0, 0, []⟩ : Sg)]) ++ tellI e f kn) ++ [(⟨3, 0, 0, 0, []⟩ : Sg)]), by go_num, by omega, HS8, HK8, HG8, HEV⟩
          case measure => simp [intOf]; omega
        | false =>
          rw [hbr] at HB HE
          simp only [Bool.false_eq_true, if_false] at HE
          clear hbr
          have HEV : Hid (TOT = (((l1) ++ tellI e f kn) ++ tellK (tellI e f) e 4 (j + 1) (ks.drop (j + 1))) ++ [⟨5, 0, lo, hi2, []⟩]) := by show _ = _; rw [HE]; simp 
          have hsz : ((l1) ++ tellI e f kn).length ≤ 999 + 1 ∧ l1.length ≤ 1000 := by
            have h := congrArg List.length HEV.out
            have h2 := HLEN.out
            simp only [List.length_append, List.length_cons, List.length_nil] at h h2 ⊢
            omega
          have HSZ := Lib.hid hsz
          clear hsz
          clear HE
          go_upto_region 8 with fail
          have HB2 : Hid (∀ nn, Calls Tryd.prog 66 #[.int .i64 q.kind, .int .i64 4] (wr.drewN nn) fun en w' => en = .returned (.bool false) ∧ w' = wr.drewN nn) := fun nn => HB.out (wr.drewN nn)
          clear HB
          go_quiet ((go_at_call 66; exact Calls.quiet_of_same (HB2.out _)))
          have HSD : Hid (SS w0 X (wr.drewN nq) (l1)) := hS.out.drewN nq
          have H4 : Hid (PK (wr.drewN nq) w.heap.size ⟨4, lo, hi2, nm, ks⟩ (.slice (some ⟨kb, ko, none⟩) ks.length ck)) := hK.out
          have HGD : Hid (Gs X w (wr.drewN nq)) := ⟨hG.out.size, hG.out.block⟩
          go_wp2_with (go_at_call 38; (with_reducible refine (HIH.out kn (l1) (wr.drewN nq) HDP.out HSD.out (HSD.out.lt) HSZ.out.1).mono ?_); rintro en w7 ⟨rfl, hs7, hg7⟩; have HS7 := Lib.hid hs7; have HG7 := Lib.hid (HGD.out.trans hg7); have HK7 := Lib.hid (H4.out.gs hg7 hpx.out); clear hs7 hg7)
          go_roundw
          case rel => exact ⟨j + 1, (l1) ++ tellI e f kn, by go_num, by omega, HS7, HK7, HG7, HEV⟩
          case measure => simp [intOf]; omega
    · have hjn : ks.length ≤ j := by omega
      have l1' : decide ((j : Int) < (ks.length : Int)) = false := by simp; omega
      have l2' : decide (j < ks.length) = false := by simp; omega
      have HE := hE.out
      rw [List.drop_eq_nil_of_le hjn] at HE
      simp only [tellK, List.append_nil] at HE
      have HE2 := Lib.hid HE
      clear hlt hjn HE
      have hl9 : l1.length ≤ 1000 := by have h := congrArg List.length HE2.out; have h2 := HLEN.out; simp at h; omega
      have HP5 := hide (put_any w0 X l1 ⟨5, 0, lo, hi2, []⟩ wr hS.out (by omega))
      go_wp2_with (go_at_call 39; (with_reducible refine (HP5.out).mono ?_); rintro en w9 ⟨rfl, hs9, hg9⟩; have HS9 := Lib.hid hs9; have HG9 := Lib.hid (hG.out.trans hg9); clear hs9 hg9)
      go_end0
      exact ⟨rfl, by rw [HE2.out]; exact HS9.out, HG9.out⟩
set_option maxRecDepth 100000 in
set_option maxHeartbeats 16000000 in
theorem tell_other (w0 : World) (X : Nat) (A : Option Addr) (n c : Nat) (e : List PI) (hp : PR w0 A n e) (hn : n ≤ 100000) (f : Nat) (IH : TellsAt w0 X A n c e f) (i : Nat) (l : List Sg) (w : World) (p : PI) (he : e[i]? = some p) (hd : ∀ k ∈ p.kids, 0 ≤ k ∧ Deep e f k.toNat) (hkl : p.kids.length ≤ 100000) (hk : p.kind ≠ 1 ∧ p.kind ≠ 4) (hs : SS w0 X w l) (hlen : (l ++ tellI e (f + 1) i).length ≤ 1000) :
    Calls Tryd.prog 38 #[.slice A n c, .int .i64 i, .func (.func 39) #[] #[.pointer (some ⟨X, 0, none⟩)]] w fun en w' => en = .returned (.tuple #[]) ∧ SS w0 X w' (l ++ tellI e (f + 1) i) ∧ Gs X w w' := by
  have hi : i < n := by
    have h1 := hp.1
    have h2 := (List.getElem?_eq_some_iff.1 he).1
    omega
  have hie : i < e.length := (List.getElem?_eq_some_iff.1 he).1
  have hei : e[i] = p := (List.getElem?_eq_some_iff.1 he).2
  obtain ⟨TOT, hT⟩ : ∃ TOT, TOT = l ++ tellI e (f + 1) i := ⟨_, rfl⟩
  rw [← hT] at hlen ⊢
  rw [tellI, he] at hT
  dsimp only at hT
  obtain ⟨b, off, rfl, hb, hc⟩ := hp.2 (by omega)
  obtain ⟨a0, a1, a2, a3, kv, a4, ra⟩ := hc i hie
  rw [hei] at a0 a1 a2 a3 ra
  have hbk := fun o => hs.bel.cell (p := ⟨b, o, none⟩) hb
  replace a0 := (hbk _).trans a0
  replace a1 := (hbk _).trans a1
  replace a2 := (hbk _).trans a2
  replace a3 := (hbk _).trans a3
  replace a4 := (hbk _).trans a4
  have hbw : b < w.heap.size := Nat.lt_of_lt_of_le hb hs.bel.size
  obtain ⟨kd, lo, hi2, nm, ks⟩ := p
  dsimp only at a0 a1 a2 a3 a4 ra hd hkl hk hT
  have c1 : (kd == 1) = false := by simp; omega
  have c4 : (kd == 4) = false := by simp; omega
  obtain ⟨Ak, ck, rfl, hck, hrk⟩ := ra
  have HRK := Lib.hid hrk
  have HD := hide hd
  have HIH := hide (fun (i : Nat) (l : List Sg) (W : World) (h1 : Deep e f i) (h2 : SS w0 X W l) (h3 : X < W.heap.size) (h4 : (l ++ tellI e f i).length ≤ 1000) => IH i l W h1 h2 h3 h4)
  have HP := hide hp
  have hXw := hs.lt
  have i0 : (i : Int) < (n : Int) := by omega
  have HS1 := Lib.hid (hs.alloc (.cells #[.int .i64 kd, .int .i64 lo, .int .i64 hi2, .string ⟨nm.toArray⟩, .slice Ak ks.length ck] 46))
  have HK1 : Hid (PK (w.alloc (.cells #[.int .i64 kd, .int .i64 lo, .int .i64 hi2, .string ⟨nm.toArray⟩, .slice Ak ks.length ck] 46)) w.heap.size ⟨kd, lo, hi2, nm, ks⟩ (.slice Ak ks.length ck)) := World.alloc_heap_new w _
  have HG1 : Hid (Gs X w (w.alloc (.cells #[.int .i64 kd, .int .i64 lo, .int .i64 hi2, .string ⟨nm.toArray⟩, .slice Ak ks.length ck] 46))) := (Gs.refl X w).alloc _
  have HLEN := Lib.hid hlen
  have HT := Lib.hid hT
  have hpx : Hid (w.heap.size ≠ X) := by show _ ≠ _; omega
  clear hbk hc hs hd IH hrk hck hp hT hlen he hei
  go_enter Tryd.func38, Tryd.ntmps38
  go_upto_region 1 with fail
  generalize w.alloc (.cells #[.int .i64 kd, .int .i64 lo, .int .i64 hi2, .string ⟨nm.toArray⟩, .slice Ak ks.length ck] 46) = W1 at HS1 HK1 HG1 ⊢
  clear a0 a1 a2 a3 a4
  obtain ⟨k0, k1, k2, k3, k4⟩ := HK1.out.cells
  dsimp only at k0 k1 k2 k3 k4
  go_upto_region 4 with fail
  go_loopw [25] (fun iv wr => ∃ (j : Nat) (l1 : List Sg), iv = .int .i64 j ∧ j ≤ ks.length ∧ Hid (SS w0 X wr l1) ∧ Hid (PK wr w.heap.size ⟨kd, lo, hi2, nm, ks⟩ (.slice Ak ks.length ck)) ∧ Hid (Gs X w wr) ∧ Hid (TOT = (l1 ++ tellK (tellI e f) e kd j (ks.drop j)) ++ [])) (fun iv _ => ks.length - (intOf iv).toNat)
  case atStart => exact ⟨0, l, rfl, by omega, HS1, HK1, HG1, Lib.hid (by rw [HT.out]; simp [hk.1, hk.2])⟩
  case round =>
    obtain ⟨j, l1, rfl, hj, hS, hK, hG, hE⟩ := hrel
    obtain ⟨k0, k1, k2, k3, k4⟩ := hK.out.cells
    dsimp only at k0 k1 k2 k3 k4
    by_cases hlt : j < ks.length
    · have l1' : decide ((j : Int) < (ks.length : Int)) = true := by simp; omega
      have l2' : decide (j < ks.length) = true := by simp; omega
      have g0 : (j : Int) < (ks.length : Int) := by omega
      have hdj := List.drop_eq_getElem_cons hlt
      obtain ⟨hk0, hdp⟩ := HD.out ks[j] (List.getElem_mem hlt)
      obtain ⟨kb, ko, rfl, hkc⟩ := (HRK.out.below hS.out.bel).2.2 (by omega)
      obtain ⟨kid, hkid⟩ : ∃ kid, kid = ks[j] := ⟨_, rfl⟩
      have ckj : wr.cell? ⟨kb, ko + j, none⟩ = some (.int .i64 kid) := by
        have := hkc j hlt
        rw [show ks.getD j 0 = ks[j] from by simp [List.getD, List.getElem?_eq_getElem hlt]] at this
        rw [hkid]
        exact this
      rw [← hkid] at hdj hk0 hdp
      clear hkid hkc
      obtain ⟨kn, rfl⟩ := Int.eq_ofNat_of_zero_le hk0
      simp only [Int.toNat_natCast] at hdp
      have hkn : ∃ q, e[kn]? = some q := by
        cases f with
        | zero => exact hdp.elim
        | succ f => obtain ⟨q, h, _⟩ := hdp; exact ⟨q, h⟩
      obtain ⟨q, hq⟩ := hkn
      have hknl : kn < e.length := (List.getElem?_eq_some_iff.1 hq).1
      have hknn : kn < n := by have := HP.out.1; omega
      have hkni : (kn : Int) < (n : Int) := by omega
      obtain ⟨b2, off2, hA2, hb2, hc2⟩ := (HP.out.below hS.out.bel).2 (by omega)
      simp only [Option.some.injEq, Addr.mk.injEq] at hA2
      obtain ⟨rfl, rfl, -⟩ := hA2
      have q0 := (hc2 kn hknl).1
      rw [show e[kn] = q from (List.getElem?_eq_some_iff.1 hq).2] at q0
      have HE := hE.out
      rw [hdj, tellK_cons] at HE
      simp only [Int.toNat_natCast, hq, Option.map_some, Option.getD_some] at HE
      have HDP := Lib.hid hdp
      have HB := hide (fun W => brk_any q.kind kd W)
      have HQN : Hid (∀ W, Below w0.heap.size w0 W → W.cell? ⟨b, off + kn * 5, none⟩ = some (.int .i64 q.kind)) := fun W hW => by
        obtain ⟨b3, off3, hA3, _, hc3⟩ := (HP.out.below hW).2 (by omega)
        simp only [Option.some.injEq, Addr.mk.injEq] at hA3
        obtain ⟨rfl, rfl, -⟩ := hA3
        have h := (hc3 kn hknl).1
        rwa [show e[kn] = q from (List.getElem?_eq_some_iff.1 hq).2] at h
      clear hc2 hdj hdp hk0 hq hknl hie
      by_cases j0 : 0 < j
      · have u1 : decide ((0 : Int) < (j : Int)) = true := by simp; omega
        have u2 : decide (0 < j) = true := by simpa using j0
        by_cases k3' : kd = 3
        · rw [if_pos (⟨j0, k3'⟩ : 0 < j ∧ kd = 3)] at HE
          have v3 : (kd == 3) = true := by simp [k3']
          clear k3'
          cases hbr : brk q.kind kd with
          | true =>
            rw [hbr] at HB HE
            simp only [if_true] at HE
            clear hbr
            have HEV : Hid (TOT = (((l1 ++ [(⟨4, 0, 0, 0, []⟩ : Sg)] ++ [(⟨2, 0, 0, 0, []⟩ : Sg)]) ++ tellI e f kn ++ [(⟨3, 0, 0, 0, []⟩ : Sg)]) ++ tellK (tellI e f) e kd (j + 1) (ks.drop (j + 1))) ++ []) := by show _ = _; rw [HE]; simp 
            have hsz : ((l1 ++ [(⟨4, 0, 0, 0, []⟩ : Sg)] ++ [(⟨2, 0, 0, 0, []⟩ : Sg)]) ++ tellI e f kn).length ≤ 999 + 1 ∧ l1.length ≤ 1000 := by
              have h := congrArg List.length HEV.out
              have h2 := HLEN.out
              simp only [List.length_append, List.length_cons, List.length_nil] at h h2 ⊢
              omega
            have HSZ := Lib.hid hsz
            clear hsz
            have HPOR := hide (put_any w0 X l1 ⟨4, 0, 0, 0, []⟩ wr hS.out (by have := HSZ.out.2; omega))
            clear HE
            go_upto_region 8 with (go_at_call 39; (with_reducible refine (HPOR.out).mono ?_); rintro en w5 ⟨rfl, hs5, hg5⟩; have HS5 := Lib.hid hs5; have HG5 := Lib.hid (hG.out.trans hg5); have HK5 := Lib.hid (hK.out.gs hg5 hpx.out); clear hs5 hg5)
            obtain ⟨k0, k1, k2, k3, k4⟩ := HK5.out.cells
            dsimp only at k0 k1 k2 k3 k4
            have q0 := HQN.out w5 HS5.out.bel
            have HB2 : Hid (∀ nn, Calls Tryd.prog 66 #[.int .i64 q.kind, .int .i64 kd] (w5.drewN nn) fun en w' => en = .returned (.bool true) ∧ w' = w5.drewN nn) := fun nn => HB.out (w5.drewN nn)
            clear HB
            go_quiet ((go_at_call 66; exact Calls.quiet_of_same (HB2.out _)))
            have HPOP := hide (put_any w0 X (l1 ++ [(⟨4, 0, 0, 0, []⟩ : Sg)]) ⟨2, 0, 0, 0, []⟩ (w5.drewN nq) (HS5.out.drewN nq) (by have := HSZ.out.2; simp; omega))
            have Hkd : Hid (PK (w5.drewN nq) w.heap.size ⟨kd, lo, hi2, nm, ks⟩ (.slice (some ⟨kb, ko, none⟩) ks.length ck)) := HK5.out
            have HGD : Hid (Gs X w (w5.drewN nq)) := ⟨HG5.out.size, HG5.out.block⟩
            go_wp2_with (first
              | (go_at_call 38; (with_reducible refine (HIH.out kn ((l1 ++ [(⟨4, 0, 0, 0, []⟩ : Sg)]) ++ [(⟨2, 0, 0, 0, []⟩ : Sg)]) w6 HDP.out HS6.out (HS6.out.lt) HSZ.out.1).mono ?_); rintro en w7 ⟨rfl, hs7, hg7⟩; have HS7 := Lib.hid hs7; have HG7 := Lib.hid (HG6.out.trans hg7); have HK7 := Lib.hid (HK6.out.gs hg7 hpx.out); clear hs7 hg7)
              | (go_at_call 39; first
                | ((with_reducible refine (HPOP.out).mono ?_); rintro en w6 ⟨rfl, hs6, hg6⟩; have HS6 := Lib.hid hs6; have HG6 := Lib.hid (HGD.out.trans hg6); have HK6 := Lib.hid (Hkd.out.gs hg6 hpx.out); clear hs6 hg6)
                | ((with_reducible refine (put_any w0 X (((l1 ++ [(⟨4, 0, 0, 0, []⟩ : Sg)]) ++ [(⟨2, 0, 0, 0, []⟩ : Sg)]) ++ tellI e f kn) ⟨3, 0, 0, 0, []⟩ w7 HS7.out (by have := HSZ.out.1; omega)).mono ?_); rintro en w8 ⟨rfl, hs8, hg8⟩; have HS8 := Lib.hid hs8; have HG8 := Lib.hid (HG7.out.trans hg8); have HK8 := Lib.hid (HK7.out.gs hg8 hpx.out); clear hs8 hg8)))
            go_roundw
            case rel => exact ⟨j + 1, ((((l1 ++ [(⟨4, 0, 0, 0, []⟩ : Sg)]) ++ [(⟨2, 0, 0, 0, []⟩ : Sg)]) ++ tellI e f kn) ++ [(⟨3, 0, 0, 0, []⟩ : Sg)]), by go_num, by omega, HS8, HK8, HG8, HEV⟩
            case measure => simp [intOf]; omega
          | false =>
            rw [hbr] at HB HE
            simp only [Bool.false_eq_true, if_false] at HE
            clear hbr
            have HEV : Hid (TOT = (((l1 ++ [(⟨4, 0, 0, 0, []⟩ : Sg)]) ++ tellI e f kn) ++ tellK (tellI e f) e kd (j + 1) (ks.drop (j + 1))) ++ []) := by show _ = _; rw [HE]; simp 
            have hsz : ((l1 ++ [(⟨4, 0, 0, 0, []⟩ : Sg)]) ++ tellI e f kn).length ≤ 999 + 1 ∧ l1.length ≤ 1000 := by
              have h := congrArg List.length HEV.out
              have h2 := HLEN.out
              simp only [List.length_append, List.length_cons, List.length_nil] at h h2 ⊢
              omega
            have HSZ := Lib.hid hsz
            clear hsz
            have HPOR := hide (put_any w0 X l1 ⟨4, 0, 0, 0, []⟩ wr hS.out (by have := HSZ.out.2; omega))
            clear HE
            go_upto_region 8 with (go_at_call 39; (with_reducible refine (HPOR.out).mono ?_); rintro en w5 ⟨rfl, hs5, hg5⟩; have HS5 := Lib.hid hs5; have HG5 := Lib.hid (hG.out.trans hg5); have HK5 := Lib.hid (hK.out.gs hg5 hpx.out); clear hs5 hg5)
            obtain ⟨k0, k1, k2, k3, k4⟩ := HK5.out.cells
            dsimp only at k0 k1 k2 k3 k4
            have q0 := HQN.out w5 HS5.out.bel
            have HB2 : Hid (∀ nn, Calls Tryd.prog 66 #[.int .i64 q.kind, .int .i64 kd] (w5.drewN nn) fun en w' => en = .returned (.bool false) ∧ w' = w5.drewN nn) := fun nn => HB.out (w5.drewN nn)
            clear HB
            go_quiet ((go_at_call 66; exact Calls.quiet_of_same (HB2.out _)))
            have HSD : Hid (SS w0 X (w5.drewN nq) (l1 ++ [(⟨4, 0, 0, 0, []⟩ : Sg)])) := HS5.out.drewN nq
            have Hkd : Hid (PK (w5.drewN nq) w.heap.size ⟨kd, lo, hi2, nm, ks⟩ (.slice (some ⟨kb, ko, none⟩) ks.length ck)) := HK5.out
            have HGD : Hid (Gs X w (w5.drewN nq)) := ⟨HG5.out.size, HG5.out.block⟩
            go_wp2_with (go_at_call 38; (with_reducible refine (HIH.out kn (l1 ++ [(⟨4, 0, 0, 0, []⟩ : Sg)]) (w5.drewN nq) HDP.out HSD.out (HSD.out.lt) HSZ.out.1).mono ?_); rintro en w7 ⟨rfl, hs7, hg7⟩; have HS7 := Lib.hid hs7; have HG7 := Lib.hid (HGD.out.trans hg7); have HK7 := Lib.hid (Hkd.out.gs hg7 hpx.out); clear hs7 hg7)
            go_roundw
            case rel => exact ⟨j + 1, (l1 ++ [(⟨4, 0, 0, 0, []⟩ : Sg)]) ++ tellI e f kn, by go_num, by omega, HS7, HK7, HG7, HEV⟩
            case measure => simp [intOf]; omega
        · simp only [j0, true_and, k3', if_false, List.nil_append] at HE
          have v3 : (kd == 3) = false := by simp [k3']
          clear k3'
          cases hbr : brk q.kind kd with
          | true =>
            rw [hbr] at HB HE
            simp only [if_true] at HE
            clear hbr
            have HEV : Hid (TOT = (((l1 ++ [(⟨2, 0, 0, 0, []⟩ : Sg)]) ++ tellI e f kn ++ [(⟨3, 0, 0, 0, []⟩ : Sg)]) ++ tellK (tellI e f) e kd (j + 1) (ks.drop (j + 1))) ++ []) := by show _ = _; rw [HE]; simp 
            have hsz : ((l1 ++ [(⟨2, 0, 0, 0, []⟩ : Sg)]) ++ tellI e f kn).length ≤ 999 + 1 ∧ l1.length ≤ 1000 := by
              have h := congrArg List.length HEV.out
              have h2 := HLEN.out
              simp only [List.length_append, List.length_cons, List.length_nil] at h h2 ⊢
              omega
            have HSZ := Lib.hid hsz
            clear hsz
            clear HE
            go_upto_region 8 with fail
            have HB2 : Hid (∀ nn, Calls Tryd.prog 66 #[.int .i64 q.kind, .int .i64 kd] (wr.drewN nn) fun en w' => en = .returned (.bool true) ∧ w' = wr.drewN nn) := fun nn => HB.out (wr.drewN nn)
            clear HB
            go_quiet ((go_at_call 66; exact Calls.quiet_of_same (HB2.out _)))
            have HPOP := hide (put_any w0 X (l1) ⟨2, 0, 0, 0, []⟩ (wr.drewN nq) (hS.out.drewN nq) (by have := HSZ.out.2; simp; omega))
            have Hkd : Hid (PK (wr.drewN nq) w.heap.size ⟨kd, lo, hi2, nm, ks⟩ (.slice (some ⟨kb, ko, none⟩) ks.length ck)) := hK.out
            have HGD : Hid (Gs X w (wr.drewN nq)) := ⟨hG.out.size, hG.out.block⟩
            go_wp2_with (first
              | (go_at_call 38; (with_reducible refine (HIH.out kn ((l1) ++ [(⟨2, 0, 0, 0, []⟩ : Sg)]) w6 HDP.out HS6.out (HS6.out.lt) HSZ.out.1).mono ?_); rintro en w7 ⟨rfl, hs7, hg7⟩; have HS7 := Lib.hid hs7; have HG7 := Lib.hid (HG6.out.trans hg7); have HK7 := Lib.hid (HK6.out.gs hg7 hpx.out); clear hs7 hg7)
              | (go_at_call 39; first
                | ((with_reducible refine (HPOP.out).mono ?_); rintro en w6 ⟨rfl, hs6, hg6⟩; have HS6 := Lib.hid hs6; have HG6 := Lib.hid (HGD.out.trans hg6); have HK6 := Lib.hid (Hkd.out.gs hg6 hpx.out); clear hs6 hg6)
                | ((with_reducible refine (put_any w0 X (((l1) ++ [(⟨2, 0, 0, 0, []⟩ : Sg)]) ++ tellI e f kn) ⟨3, 0, 0, 0, []⟩ w7 HS7.out (by have := HSZ.out.1; omega)).mono ?_); rintro en w8 ⟨rfl, hs8, hg8⟩; have HS8 := Lib.hid hs8; have HG8 := Lib.hid (HG7.out.trans hg8); have HK8 := Lib.hid (HK7.out.gs hg8 hpx.out); clear hs8 hg8)))
            go_roundw
            case rel => exact ⟨j + 1, ((((l1) ++ [(⟨2, 0, 0, 0, []⟩ : Sg)]) ++ tellI e f kn) ++ [(⟨3, 0, 0, 0, []⟩ : Sg)]), by go_num, by omega, HS8, HK8, HG8, HEV⟩
            case measure => simp [intOf]; omega
          | false =>
            rw [hbr] at HB HE
            simp only [Bool.false_eq_true, if_false] at HE
            clear hbr
            have HEV : Hid (TOT = (((l1) ++ tellI e f kn) ++ tellK (tellI e f) e kd (j + 1) (ks.drop (j + 1))) ++ []) := by show _ = _; rw [HE]; simp 
            have hsz : ((l1) ++ tellI e f kn).length ≤ 999 + 1 ∧ l1.length ≤ 1000 := by
              have h := congrArg List.length HEV.out
              have h2 := HLEN.out
              simp only [List.length_append, List.length_nil] at h h2 ⊢
              omega
            have HSZ := Lib.hid hsz
            clear hsz
            clear HE
            go_upto_region 8 with fail
            have HB2 : Hid (∀ nn, Calls Tryd.prog 66 #[.int .i64 q.kind, .int .i64 kd] (wr.drewN nn) fun en w' => en = .returned (.bool false) ∧ w' = wr.drewN nn) := fun nn => HB.out (wr.drewN nn)
            clear HB
            go_quiet ((go_at_call 66; exact Calls.quiet_of_same (HB2.out _)))
            have HSD : Hid (SS w0 X (wr.drewN nq) (l1)) := hS.out.drewN nq
            have Hkd : Hid (PK (wr.drewN nq) w.heap.size ⟨kd, lo, hi2, nm, ks⟩ (.slice (some ⟨kb, ko, none⟩) ks.length ck)) := hK.out
            have HGD : Hid (Gs X w (wr.drewN nq)) := ⟨hG.out.size, hG.out.block⟩
            go_wp2_with (go_at_call 38; (with_reducible refine (HIH.out kn (l1) (wr.drewN nq) HDP.out HSD.out (HSD.out.lt) HSZ.out.1).mono ?_); rintro en w7 ⟨rfl, hs7, hg7⟩; have HS7 := Lib.hid hs7; have HG7 := Lib.hid (HGD.out.trans hg7); have HK7 := Lib.hid (Hkd.out.gs hg7 hpx.out); clear hs7 hg7)
            go_roundw
            case rel => exact ⟨j + 1, (l1) ++ tellI e f kn, by go_num, by omega, HS7, HK7, HG7, HEV⟩
            case measure => simp [intOf]; omega
      · have u1 : decide ((0 : Int) < (j : Int)) = false := by simp; omega
        have u2 : decide (0 < j) = false := by simpa using j0
        have u3 : j ≤ 0 := by omega
        simp only [j0, false_and, if_false, List.nil_append] at HE
        clear j0
        cases hbr : brk q.kind kd with
        | true =>
          rw [hbr] at HB HE
          simp only [if_true] at HE
          clear hbr
          have HEV : Hid (TOT = (((l1 ++ [(⟨2, 0, 0, 0, []⟩ : Sg)]) ++ tellI e f kn ++ [(⟨3, 0, 0, 0, []⟩ : Sg)]) ++ tellK (tellI e f) e kd (j + 1) (ks.drop (j + 1))) ++ []) := by show _ = _; rw [HE]; simp 
          have hsz : ((l1 ++ [(⟨2, 0, 0, 0, []⟩ : Sg)]) ++ tellI e f kn).length ≤ 999 + 1 ∧ l1.length ≤ 1000 := by
            have h := congrArg List.length HEV.out
            have h2 := HLEN.out
            simp only [List.length_append, List.length_cons, List.length_nil] at h h2 ⊢
            omega
          have HSZ := Lib.hid hsz
          clear hsz
          clear HE
          go_upto_region 8 with fail
          have HB2 : Hid (∀ nn, Calls Tryd.prog 66 #[.int .i64 q.kind, .int .i64 kd] (wr.drewN nn) fun en w' => en = .returned (.bool true) ∧ w' = wr.drewN nn) := fun nn => HB.out (wr.drewN nn)
          clear HB
          go_quiet ((go_at_call 66; exact Calls.quiet_of_same (HB2.out _)))
          have HPOP := hide (put_any w0 X (l1) ⟨2, 0, 0, 0, []⟩ (wr.drewN nq) (hS.out.drewN nq) (by have := HSZ.out.2; simp; omega))
          have Hkd : Hid (PK (wr.drewN nq) w.heap.size ⟨kd, lo, hi2, nm, ks⟩ (.slice (some ⟨kb, ko, none⟩) ks.length ck)) := hK.out
          have HGD : Hid (Gs X w (wr.drewN nq)) := ⟨hG.out.size, hG.out.block⟩
          go_wp2_with (first
            | (go_at_call 38; (with_reducible refine (HIH.out kn ((l1) ++ [(⟨2, 0, 0, 0, []⟩ : Sg)]) w6 HDP.out HS6.out (HS6.out.lt) HSZ.out.1).mono ?_); rintro en w7 ⟨rfl, hs7, hg7⟩; have HS7 := Lib.hid hs7; have HG7 := Lib.hid (HG6.out.trans hg7); have HK7 := Lib.hid (HK6.out.gs hg7 hpx.out); clear hs7 hg7)
            | (go_at_call 39; first
              | ((with_reducible refine (HPOP.out).mono ?_); rintro en w6 ⟨rfl, hs6, hg6⟩; have HS6 := Lib.hid hs6; have HG6 := Lib.hid (HGD.out.trans hg6); have HK6 := Lib.hid (Hkd.out.gs hg6 hpx.out); clear hs6 hg6)
              | ((with_reducible refine (put_any w0 X (((l1) ++ [(⟨2, 0, 0, 0, []⟩ : Sg)]) ++ tellI e f kn) ⟨3, 0, 0, 0, []⟩ w7 HS7.out (by have := HSZ.out.1; omega)).mono ?_); rintro en w8 ⟨rfl, hs8, hg8⟩; have HS8 := Lib.hid hs8; have HG8 := Lib.hid (HG7.out.trans hg8); have HK8 := Lib.hid (HK7.out.gs hg8 hpx.out); clear hs8 hg8)))
          go_roundw
          case rel => exact ⟨j + 1, ((((l1) ++ [(⟨2, 0, 0, 0, []⟩ : Sg)]) ++ tellI e f kn) ++ [(⟨3, 0, 0, 0, []⟩ : Sg)]), by go_num, by omega, HS8, HK8, HG8, HEV⟩
          case measure => simp [intOf]; omega
        | false =>
          rw [hbr] at HB HE
          simp only [Bool.false_eq_true, if_false] at HE
          clear hbr
          have HEV : Hid (TOT = (((l1) ++ tellI e f kn) ++ tellK (tellI e f) e kd (j + 1) (ks.drop (j + 1))) ++ []) := by show _ = _; rw [HE]; simp 
          have hsz : ((l1) ++ tellI e f kn).length ≤ 999 + 1 ∧ l1.length ≤ 1000 := by
            have h := congrArg List.length HEV.out
            have h2 := HLEN.out
            simp only [List.length_append, List.length_nil] at h h2 ⊢
            omega
          have HSZ := Lib.hid hsz
          clear hsz
          clear HE
          go_upto_region 8 with fail
          have HB2 : Hid (∀ nn, Calls Tryd.prog 66 #[.int .i64 q.kind, .int .i64 kd] (wr.drewN nn) fun en w' => en = .returned (.bool false) ∧ w' = wr.drewN nn) := fun nn => HB.out (wr.drewN nn)
          clear HB
          go_quiet ((go_at_call 66; exact Calls.quiet_of_same (HB2.out _)))
          have HSD : Hid (SS w0 X (wr.drewN nq) (l1)) := hS.out.drewN nq
          have Hkd : Hid (PK (wr.drewN nq) w.heap.size ⟨kd, lo, hi2, nm, ks⟩ (.slice (some ⟨kb, ko, none⟩) ks.length ck)) := hK.out
          have HGD : Hid (Gs X w (wr.drewN nq)) := ⟨hG.out.size, hG.out.block⟩
          go_wp2_with (go_at_call 38; (with_reducible refine (HIH.out kn (l1) (wr.drewN nq) HDP.out HSD.out (HSD.out.lt) HSZ.out.1).mono ?_); rintro en w7 ⟨rfl, hs7, hg7⟩; have HS7 := Lib.hid hs7; have HG7 := Lib.hid (HGD.out.trans hg7); have HK7 := Lib.hid (Hkd.out.gs hg7 hpx.out); clear hs7 hg7)
          go_roundw
          case rel => exact ⟨j + 1, (l1) ++ tellI e f kn, by go_num, by omega, HS7, HK7, HG7, HEV⟩
          case measure => simp [intOf]; omega
    · have hjn : ks.length ≤ j := by omega
      have l1' : decide ((j : Int) < (ks.length : Int)) = false := by simp; omega
      have l2' : decide (j < ks.length) = false := by simp; omega
      have HE := hE.out
      rw [List.drop_eq_nil_of_le hjn] at HE
      simp only [tellK, List.append_nil] at HE
      have HE2 := Lib.hid HE
      clear hlt hjn HE
      go_wp2_with fail
      go_end0
      exact ⟨rfl, by rw [HE2.out]; exact hS.out, hG.out⟩
/-- tell, of parts of whatever depth -/
theorem tell_any (w0 : World) (X : Nat) (A : Option Addr) (n c : Nat) (e : List PI) (hp : PR w0 A n e) (hn : n ≤ 100000) (hk : ∀ p ∈ e, p.kids.length ≤ 100000) : ∀ f, TellsAt w0 X A n c e f
  | 0 => fun i l w h => h.elim
  | f + 1 => fun i l w ⟨p, he, hd⟩ hs hx hl => by
    have hpe : p ∈ e := List.mem_of_getElem? he
    by_cases h1 : p.kind = 1
    · exact tell_name w0 X A n c e hp hn f (tell_any w0 X A n c e hp hn hk f) i l w p he hd (hk p hpe) h1 hs hl
    · by_cases h4 : p.kind = 4
      · exact tell_times w0 X A n c e hp hn f (tell_any w0 X A n c e hp hn hk f) i l w p he hd (hk p hpe) h4 hs hl
      · exact tell_other w0 X A n c e hp hn f (tell_any w0 X A n c e hp hn hk f) i l w p he hd (hk p hpe) ⟨h1, h4⟩ hs hl
end Go.Proofs.YtphhacnabdpheaaDoor.Ex
