/- Walks of the reference of words: Show, Num; the law WordsNumbers. -/
import Derived.Test.YtdicjplekbjdpabDoorWdE
import Derived.Lib.ItoaMem
namespace Go.Proofs.YtdicjplekbjdpabDoor.Wd
open Go.RowKit Go.Sort Mem
set_option linter.unusedVariables false

theorem digits_int (x : Int) (h0 : 0 ≤ x) (h1 : x < 18446744073709551616) (S : ByteArray) (hS : S = ⟨(Lib.decDigits x.toNat).toArray⟩) (w : World) :
    Calls Tryd.prog 27 #[.int .u64 x] w fun e w' => e = .returned (.string S) ∧ Below w.heap.size w w' := by
  obtain ⟨X, rfl⟩ := Int.eq_ofNat_of_zero_le h0
  rw [hS]
  exact digits_any X (by omega) w

set_option maxHeartbeats 1000000 in
set_option maxRecDepth 100000 in
theorem rshow_any (n : Int) (h0 : -9223372036854775808 ≤ n) (h1 : n ≤ 9223372036854775807) (w : World) :
    Calls Tryd.prog 17 #[.int .i64 n] w fun e w' => e = .returned (.string ⟨(Lib.itoa n).toArray⟩) ∧ Below w.heap.size w w' := by
  by_cases hn : n < 0
  · obtain ⟨S, hS⟩ : ∃ S : ByteArray, S = ⟨(Lib.decDigits (-(n + 1) + 1).toNat).toArray⟩ := ⟨_, rfl⟩
    have hsz : S.size ≤ 20 := by
      have := dec_len20 (-(n + 1) + 1).toNat (by omega)
      rw [hS]; simpa [ByteArray.size] using this
    have hsum : (⟨#[45]⟩ : ByteArray).size + S.size ≤ 9223372036854775807 := by
      have : (⟨#[45]⟩ : ByteArray).size = 1 := rfl
      omega
    have hadd := fun (w : World) => run_string_add_sum (P := Tryd.prog) (w := w) ⟨#[45]⟩ S hsum
    have E : Hid (Lib.itoa n = 45 :: Lib.decDigits (-(n + 1) + 1).toNat) := by
      show _ = _
      unfold Lib.itoa
      rw [if_pos hn]
      congr 2; omega
    have HS := Lib.hid hS
    clear hS hsz hsum
    go_enter Tryd.func17, Tryd.ntmps17
    go_wp2_with fail
    refine (digits_int _ (by omega) (by omega) S (by rw [HS.out]) w).mono ?_
    rintro e w1 ⟨rfl, hb1⟩
    go_wp2
    go_ret
    exact ⟨by rw [E.out, ← str_cons, HS.out]; rfl, hb1⟩
  · obtain ⟨S, hS⟩ : ∃ S : ByteArray, S = ⟨(Lib.decDigits n.toNat).toArray⟩ := ⟨_, rfl⟩
    have E : Hid (Lib.itoa n = Lib.decDigits n.toNat) := by
      show _ = _
      unfold Lib.itoa
      rw [if_neg hn]
    have HS := Lib.hid hS
    have hn0 : 0 ≤ n := by omega
    clear hS hn
    go_enter Tryd.func17, Tryd.ntmps17
    go_wp2_with fail
    refine (digits_int n hn0 (by omega) S HS.out w).mono ?_
    rintro e w1 ⟨rfl, hb1⟩
    go_wp2
    go_ret
    exact ⟨by rw [E.out, ← HS.out]; rfl, hb1⟩

def I64 (v : Int) : Prop := -9223372036854775808 ≤ v ∧ v ≤ 9223372036854775807
/-- the number of a word: the one whose word it is; none, if there is none -/
def Numb2 (W : World) (l : List UInt8) (e : Ending) (w' : World) : Prop :=
  Below W.heap.size W w' ∧ ((∃ v, I64 v ∧ Lib.itoa v = l ∧ e = .returned (.tuple #[.int .i64 v, .bool true])) ∨ ((∀ v, I64 v → Lib.itoa v ≠ l) ∧ e = .returned (.tuple #[.int .i64 0, .bool false])))
theorem Numb.two {W : World} {l : List UInt8} {e : Ending} {w' : World} (h : Numb W l e w') : Numb2 W l e w' := by
  obtain ⟨hb, h⟩ := h
  refine ⟨hb, ?_⟩
  rcases h with ⟨v, h1, h2, h3⟩ | ⟨h1, h2⟩
  · exact .inl ⟨v, atoi_bd h1, h2, h3⟩
  · refine .inr ⟨fun v hv hl => ?_, h2⟩
    exact h1 v (by rw [← hl]; exact atoi_itoa v hv.1 hv.2) hl

theorem w_rng (x : Int) : I64 (wrap64 x) := by
  unfold I64 wrap64; omega
theorem w_pos {v : Int} {x : Nat} (h : I64 v) (hv : ¬ v < 0) (hx : x = v.natAbs) : wrap64 (x : Int) = v := by
  unfold I64 at h; unfold wrap64; omega
theorem w_neg {v : Int} {x : Nat} (h : I64 v) (hv : v < 0) (hx : x = v.natAbs) : wrap64 (IntKind.u64.wrap (-(x : Int))) = v := by
  unfold I64 at h; rw [IntKind.wrap_u64]; unfold wrap64; omega

theorem sget (s : ByteArray) (k : Nat) (h : k < s.size) : s[k] = s.data.toList.getD k 0 := by
  have h' : k < s.data.size := h
  simp only [List.getD, Array.getElem?_toList, Array.getElem?_eq_getElem h', Option.getD_some]
  rfl
theorem slen (s : ByteArray) : s.data.toList.length = s.size := by rw [Array.length_toList]; rfl

set_option maxHeartbeats 2000000 in
set_option maxRecDepth 100000 in
theorem rnum_any (s : ByteArray) (w : World) (hs : s.size ≤ 100000) :
    Calls Tryd.prog 15 #[.string s] w (Numb2 w s.data.toList) := by
  obtain ⟨l, hl⟩ : ∃ l, l = s.data.toList := ⟨_, rfl⟩
  have hlen : l.length = s.size := by rw [hl]; exact slen s
  have hsays : ∀ v, I64 v → Lib.itoa v = l → _ := fun v hv e => e ▸ itoa_says v hv.1 hv.2
  have hget : ∀ k (h : k < s.size), s[k] = l.getD k 0 := fun k h => by rw [hl]; exact sget s k h
  have HS := hide hsays
  have HG := hide hget
  have HL := Lib.hid hlen
  rw [← hl]
  have HLL := Lib.hid hl
  clear hl hlen hsays hget
  by_cases h0 : s.size = 0
  · have t0 : ((s.size : Int) == 0) = true := by simp [h0]
    have hno : ∀ v, I64 v → Lib.itoa v ≠ l := fun v hv e => by
      have := ((unhide HS) v hv e).1
      rw [HL.out] at this; omega
    have HN := Lib.hid hno
    clear h0 hno
    go_enter Tryd.func15, Tryd.ntmps15
    go_wp2
    go_ret2
    exact ⟨Below.refl _ _, .inr ⟨HN.out, rfl⟩⟩
  have t0 : ((s.size : Int) == 0) = false := by rw [beq_eq_false_iff_ne]; omega
  by_cases h20 : 20 < s.size
  · have hno : ∀ v, I64 v → Lib.itoa v ≠ l := fun v hv e => by
      have := ((unhide HS) v hv e).2.1
      rw [HL.out] at this; omega
    have HN := Lib.hid hno
    clear h0 hno
    go_enter Tryd.func15, Tryd.ntmps15
    go_wp2
    go_ret2
    exact ⟨Below.refl _ _, .inr ⟨HN.out, rfl⟩⟩
  have hlow : 1 ≤ s.size := by omega
  have hup : s.size ≤ 20 := by omega
  clear h0 h20
  go_enter Tryd.func15, Tryd.ntmps15
  go_wp2
  go_loop [4, 5] (fun xv iv => ∃ k : Nat, k ≤ s.size ∧ iv = .int .i64 k ∧ xv = .int .u64 (st l k) ∧ st l k ≤ 9223372036854775809) (fun _ iv => s.size - (intOf iv).toNat)
  case atStart => exact ⟨0, Nat.zero_le _, rfl, rfl, Nat.zero_le _⟩
  case round =>
    obtain ⟨k, hk, rfl, rfl, hx⟩ := hrel
    by_cases hlt : k < s.size
    · have hc := (unhide HG) k hlt
      have hc0 : 0 ≤ ((s[k]).toNat : Int) ∧ ((s[k]).toNat : Int) ≤ 255 := by have := (s[k]).toNat_lt; omega
      have hst : st l (k + 1) = if k = 0 ∧ (l.getD 0 0).toNat = 45 then 0 else 10 * st l k + ((l.getD k 0).toNat - 48) := rfl
      have HST := Lib.hid hst
      have HC := Lib.hid hc
      obtain ⟨x, hxx⟩ : ∃ x, x = st l k := ⟨_, rfl⟩
      rw [← hxx] at hx ⊢
      have HX := Lib.hid hxx
      clear hst hc hxx
      have hfail : (¬ (k = 0 ∧ (s[k]).toNat = 45)) → (¬ (isD (s[k]) ∧ x ≤ 922337203685477580)) → ∀ v, I64 v → Lib.itoa v ≠ l := fun h1 h2 v hv e => by
        rcases ((unhide HS) v hv e).2.2.1 k (by rw [HL.out]; exact hlt) with h | h
        · exact h1 ⟨h.1, by rw [HC.out, h.1]; exact h.2⟩
        · exact h2 (by rw [HC.out, HX.out]; exact h)
      have HF := hide hfail
      clear hfail
      by_cases hsg : k = 0 ∧ (s[k]).toNat = 45
      · obtain ⟨hk0, hcc⟩ := hsg
        subst hk0
        have t1 : (((s[0]).toNat : Int) == 45) = true := by rw [hcc]; rfl
        have hz : st l 1 = x := by rw [HX.out, HST.out, if_pos ⟨rfl, by rw [← HC.out]; exact hcc⟩]; rfl
        have HZ := Lib.hid hz
        clear hcc hz
        go_wp2
        go_round
        case rel => exact ⟨1, by omega, by first | rfl | go_num, by rw [HZ.out], by rw [HZ.out]; exact hx⟩
        case measure => simp [intOf]; omega
      · have hz : st l (k + 1) = 10 * x + ((s[k]).toNat - 48) := by
          rw [HST.out, if_neg (fun h => hsg ⟨h.1, by rw [HC.out, h.1]; exact h.2⟩), ← HC.out, HX.out]
        have HZ := Lib.hid hz
        have HSG := Lib.hid hsg
        have hq : (k = 0 ∧ (((s[k]).toNat : Int) == 45) = false) ∨ (0 < k ∧ ((k : Int) == 0) = false) := by
          rcases Nat.eq_zero_or_pos k with h | h
          · left; refine ⟨h, ?_⟩; simp; omega
          · right; refine ⟨h, ?_⟩; simp; omega
        clear hz hsg
        rcases hq with ⟨hk0, t1⟩ | ⟨hk0, t1⟩
        · subst hk0
          by_cases h48 : (s[0]).toNat < 48
          · have HN := Lib.hid ((unhide HF) HSG.out (fun h => by unfold isD at h; omega))
            go_wp2
            go_ret2
            exact ⟨Below.refl _ _, .inr ⟨HN.out, rfl⟩⟩
          · by_cases h57 : 57 < (s[0]).toNat
            · have HN := Lib.hid ((unhide HF) HSG.out (fun h => by unfold isD at h; omega))
              go_wp2
              go_ret2
              exact ⟨Below.refl _ _, .inr ⟨HN.out, rfl⟩⟩
            · by_cases hbig : 922337203685477580 < x
              · have HN := Lib.hid ((unhide HF) HSG.out (fun h => by omega))
                go_wp2
                go_ret2
                exact ⟨Below.refl _ _, .inr ⟨HN.out, rfl⟩⟩
              · go_wp2
                go_round
                case rel => exact ⟨1, by omega, by first | rfl | go_num, by rw [HZ.out]; go_num, by rw [HZ.out]; omega⟩
                case measure => simp [intOf]; omega
        · by_cases h48 : (s[k]).toNat < 48
          · have HN := Lib.hid ((unhide HF) HSG.out (fun h => by unfold isD at h; omega))
            go_wp2
            go_ret2
            exact ⟨Below.refl _ _, .inr ⟨HN.out, rfl⟩⟩
          · by_cases h57 : 57 < (s[k]).toNat
            · have HN := Lib.hid ((unhide HF) HSG.out (fun h => by unfold isD at h; omega))
              go_wp2
              go_ret2
              exact ⟨Below.refl _ _, .inr ⟨HN.out, rfl⟩⟩
            · by_cases hbig : 922337203685477580 < x
              · have HN := Lib.hid ((unhide HF) HSG.out (fun h => by omega))
                go_wp2
                go_ret2
                exact ⟨Below.refl _ _, .inr ⟨HN.out, rfl⟩⟩
              · go_wp2
                go_round
                case rel => exact ⟨k + 1, by omega, by go_num, by rw [HZ.out]; go_num, by rw [HZ.out]; omega⟩
                case measure => simp [intOf]; omega
    · obtain rfl : k = s.size := by omega
      obtain ⟨x, hxx⟩ : ∃ x, x = st l s.size := ⟨_, rfl⟩
      rw [← hxx] at hx ⊢
      have HX := Lib.hid hxx
      have hc := (unhide HG) 0 (by omega)
      have HC := Lib.hid hc
      clear hxx hc
      by_cases hm : (s[0]).toNat = 45
      · have t1 : (((s[0]).toNat : Int) == 45) = true := by rw [hm]; rfl
        have hval : ∀ v, I64 v → Lib.itoa v = l → wrap64 (IntKind.u64.wrap (-(x : Int))) = v := fun v hv e => by
          have h1 := (unhide HS) v hv e
          exact w_neg hv (h1.2.2.2.2.1 (by rw [← HC.out]; exact hm)) (by rw [HX.out, ← HL.out]; exact h1.2.2.2.1)
        have hrg := w_rng (IntKind.u64.wrap (-(x : Int)))
        have HV := hide hval
        have HRG := hide hrg
        clear hval hrg hm hx
        go_wp2_with fail
        generalize wrap64 (IntKind.u64.wrap (-(x : Int))) = N at *
        refine (rshow_any N (unhide HRG).1 (unhide HRG).2 w).mono ?_
        rintro e w1 ⟨rfl, hb1⟩
        by_cases he : Lib.itoa N = l
        · have t2 : (({ data := (Lib.itoa N).toArray } : ByteArray).toList == s.toList) = true := by rw [ByteArray.toList_mk, ByteArray.toList_eq, ← HLL.out, he]; simp
          rw [ByteArray.toList_mk] at t2
          have HE := Lib.hid he
          clear he
          go_wp2
          go_ret2
          exact ⟨hb1, .inl ⟨N, unhide HRG, HE.out, rfl⟩⟩
        · have t2 : (({ data := (Lib.itoa N).toArray } : ByteArray).toList == s.toList) = false := by rw [ByteArray.toList_mk, ByteArray.toList_eq, ← HLL.out]; simpa using he
          rw [ByteArray.toList_mk] at t2
          have HE := Lib.hid he
          clear he
          go_wp2
          go_ret2
          exact ⟨hb1, .inr ⟨fun v hv e => HE.out (by rw [(unhide HV) v hv e]; exact e), rfl⟩⟩
      · have t1 : (((s[0]).toNat : Int) == 45) = false := by rw [beq_eq_false_iff_ne]; omega
        have hval : ∀ v, I64 v → Lib.itoa v = l → wrap64 (x : Int) = v := fun v hv e => by
          have h1 := (unhide HS) v hv e
          exact w_pos hv (fun h => hm (by rw [HC.out]; exact h1.2.2.2.2.2 h)) (by rw [HX.out, ← HL.out]; exact h1.2.2.2.1)
        have hrg := w_rng (x : Int)
        have HV := hide hval
        have HRG := hide hrg
        clear hval hrg hm hx
        go_wp2_with fail
        generalize wrap64 (x : Int) = N at *
        refine (rshow_any N (unhide HRG).1 (unhide HRG).2 w).mono ?_
        rintro e w1 ⟨rfl, hb1⟩
        by_cases he : Lib.itoa N = l
        · have t2 : (({ data := (Lib.itoa N).toArray } : ByteArray).toList == s.toList) = true := by rw [ByteArray.toList_mk, ByteArray.toList_eq, ← HLL.out, he]; simp
          rw [ByteArray.toList_mk] at t2
          have HE := Lib.hid he
          clear he
          go_wp2
          go_ret2
          exact ⟨hb1, .inl ⟨N, unhide HRG, HE.out, rfl⟩⟩
        · have t2 : (({ data := (Lib.itoa N).toArray } : ByteArray).toList == s.toList) = false := by rw [ByteArray.toList_mk, ByteArray.toList_eq, ← HLL.out]; simpa using he
          rw [ByteArray.toList_mk] at t2
          have HE := Lib.hid he
          clear he
          go_wp2
          go_ret2
          exact ⟨hb1, .inr ⟨fun v hv e => HE.out (by rw [(unhide HV) v hv e]; exact e), rfl⟩⟩

theorem itoa_inj {v v' : Int} (h : I64 v) (h' : I64 v') (e : Lib.itoa v = Lib.itoa v') : v = v' := by
  have h1 := atoi_itoa v h.1 h.2
  rw [e, atoi_itoa v' h'.1 h'.2] at h1
  injection h1 with h1
  exact h1.symm
theorem num_shown (n : Int) (hn : I64 n) (w : World) (H : Held w) :
    Calls Tryd.prog 14 #[.string ⟨(Lib.itoa n).toArray⟩] w fun e w' => e = .returned (.tuple #[.int .i64 n, .bool true]) ∧ Below w.heap.size w w' := by
  have hl := (itoa_says n hn.1 hn.2).2.1
  refine (num_any ⟨(Lib.itoa n).toArray⟩ w (by simp [ByteArray.size]; omega) H).mono fun e w' h => ?_
  obtain ⟨hb, h⟩ := h.two
  rcases h with ⟨v, hv, hi, rfl⟩ | ⟨hno, _⟩
  · rw [itoa_inj hn hv (show Lib.itoa n = Lib.itoa v from hi.symm)]
    exact ⟨rfl, hb⟩
  · exact absurd rfl (hno n hn)

set_option maxHeartbeats 2000000 in
set_option maxRecDepth 100000 in
theorem numbers_law (n : Int) (h0 : (Lit.int .i64 n).wf = true) (s : ByteArray) (hs : s.size ≤ maxLen) (w : World) (H : Held w) :
    Calls Tryd.prog 5 #[.int .i64 n, .string s] w fun e w' => e = .returned (.bool true) ∧ Below w.heap.size w w' := by
  have hbd : I64 n := by
    have hmin : IntKind.i64.min = -9223372036854775808 := rfl
    have hmax : IntKind.i64.max = 9223372036854775807 := rfl
    unfold I64
    simp only [Lit.wf, Bool.and_eq_true, decide_eq_true_eq] at h0; omega
  have HH := hide H
  have HN := hide hbd
  unfold maxLen at hs
  clear H hbd h0
  by_cases hl : 200 < s.size
  · go_enter Tryd.func5, Tryd.ntmps5
    go_wp2_with (go_at_call 7; refine (live_any _ (unhide HH)).mono ?_; rintro e w3 ⟨rfl, hb3⟩)
    go_ret
    exact ⟨rfl, hb3⟩
  · go_enter Tryd.func5, Tryd.ntmps5
    go_wp2_with fail
    refine (num_any s w (by omega) (unhide HH)).mono ?_
    rintro e w1 h1
    have h1 := h1.two
    obtain ⟨hb1, h1⟩ := h1
    have HB1 := Lib.hid hb1
    clear hb1
    have key : ∃ (a : Int) (b : Bool), e = .returned (.tuple #[.int .i64 a, .bool b]) ∧ ∀ (W : World) (e2 : Ending) (w2 : World), Numb2 W s.data.toList e2 w2 → e2 = .returned (.tuple #[.int .i64 a, .bool b]) := by
      rcases h1 with ⟨v, hv, hi, rfl⟩ | ⟨hno, rfl⟩
      · refine ⟨v, true, rfl, fun W e2 w2 h2 => ?_⟩
        rcases h2.2 with ⟨v2, hv2, hi2, rfl⟩ | ⟨hno, _⟩
        · rw [itoa_inj hv hv2 (hi.trans hi2.symm)]
        · exact absurd hi (hno v hv)
      · refine ⟨0, false, rfl, fun W e2 w2 h2 => ?_⟩
        rcases h2.2 with ⟨v2, hv2, hi2, _⟩ | ⟨_, h⟩
        · exact absurd hi2 (hno v2 hv2)
        · exact h
    obtain ⟨a, b, rfl, hkey⟩ := key
    have HK := hide hkey
    clear hkey h1
    go_wp2_with fail
    refine (rnum_any s w1 (by omega)).mono ?_
    rintro e w2 h2
    obtain rfl := (unhide HK) w1 e w2 h2
    have hb2 := HB1.out.trans (h2.1.mono HB1.out.size)
    have HB2 := Lib.hid hb2
    clear h2 hb2
    go_wp2_with fail
    refine (show_any n (unhide HN).1 (unhide HN).2 w2 ((unhide HH).below HB2.out)).mono ?_
    rintro e w3 ⟨rfl, hb3⟩
    have hb3' := HB2.out.trans (hb3.mono HB2.out.size)
    have HB3 := Lib.hid hb3'
    clear hb3 hb3'
    go_wp2_with fail
    refine (num_shown n (unhide HN) w3 ((unhide HH).below HB3.out)).mono ?_
    rintro e w4 ⟨rfl, hb4⟩
    have hb4' := HB3.out.trans (hb4.mono HB3.out.size)
    have HB4 := Lib.hid hb4'
    have t0 : (a == a) = true := by simp
    have t1 : (n == n) = true := by simp
    clear hb4 hb4'
    cases b
    · go_wp2_with fail
      refine (rshow_any n (unhide HN).1 (unhide HN).2 w4).mono ?_
      rintro e w5 ⟨rfl, hb5⟩
      have hb5' := HB4.out.trans (hb5.mono HB4.out.size)
      have HB5 := Lib.hid hb5'
      clear hb5 hb5'
      go_wp2_with (go_at_call 7; refine (live_any _ ((unhide HH).below HB5.out)).mono ?_; rintro e w6 ⟨rfl, hb6⟩)
      go_ret
      exact ⟨rfl, HB5.out.trans (hb6.mono HB5.out.size)⟩
    · go_wp2_with fail
      refine (rshow_any n (unhide HN).1 (unhide HN).2 w4).mono ?_
      rintro e w5 ⟨rfl, hb5⟩
      have hb5' := HB4.out.trans (hb5.mono HB4.out.size)
      have HB5 := Lib.hid hb5'
      clear hb5 hb5'
      go_wp2_with (go_at_call 7; refine (live_any _ ((unhide HH).below HB5.out)).mono ?_; rintro e w6 ⟨rfl, hb6⟩)
      go_ret
      exact ⟨rfl, HB5.out.trans (hb6.mono HB5.out.size)⟩
end Go.Proofs.YtdicjplekbjdpabDoor.Wd
