/- Walks of the reference of words: digits, Show; and of the reference of the lexer: the text of a count. Walks of the reference of the lexer: the text of signs. -/
import Derived.Test.YtphhacnabdpheaaDoorLxEnds
import Derived.Lib.ItoaMem
namespace Go.Proofs.YtphhacnabdpheaaDoor.Lx
open Go.RowKit Go.Sort Mem
set_option linter.unusedVariables false

theorem heap_alloc_new' (w : World) (o : Obj) : (w.alloc o).heap[w.heap.size]? = some o := World.alloc_heap_new w o
theorem str_row (w : World) (c : Int) (h0 : 0 ≤ c) (h1 : c ≤ 255) :
    (convert 115 9 (.slice (some ⟨w.heap.size, 0, none⟩) 1 1)).run Tryd.prog (w.alloc (.cells #[.int .u8 c] 5 (0, 0))) = .ok (.string ⟨#[UInt8.ofNat c.toNat]⟩) (w.alloc (.cells #[.int .u8 c] 5 (0, 0))) := by
  have hrow : Row .u8 (w.alloc (.cells #[.int .u8 c] 5 (0, 0))) (some ⟨w.heap.size, 0, none⟩) 1 [c] := row_block (heap_alloc_new' w _) [c] rfl 1 rfl (wf_bytes (by simp; omega))
  exact hrow.str 1 (P := Tryd.prog) Tryd.underlying115 Tryd.underlying5 Tryd.underlying9

theorem str_append (a b : List UInt8) : ((⟨a.toArray⟩ : ByteArray) ++ (⟨b.toArray⟩ : ByteArray)) = ⟨(a ++ b).toArray⟩ := by
  apply ByteArray.ext
  rw [ByteArray.data_append]
  simp
theorem str_cons (c : UInt8) (s : List UInt8) : ((⟨#[c]⟩ : ByteArray) ++ (⟨s.toArray⟩ : ByteArray)) = ⟨(c :: s).toArray⟩ := str_append [c] s

/-- how far digits has come -/
def DRel (x0 : Nat) (x i : Nat) (s : List UInt8) : Prop := s.length = i ∧ ((i = 0 ∧ x = x0 ∧ s = []) ∨ (0 < i ∧ ((x = 0 ∧ s = Lib.decDigits x0) ∨ (0 < x ∧ Lib.decDigits x0 = Lib.decDigits x ++ s))))

theorem DRel.step {x0 x i : Nat} {s : List UInt8} (h : DRel x0 x i s) (hg : i = 0 ∨ 0 < x) : DRel x0 (x / 10) (i + 1) (UInt8.ofNat (48 + x % 10) :: s) := by
  obtain ⟨hl, h⟩ := h
  have key : Lib.decDigits x0 = Lib.decDigits x ++ s := by
    rcases h with ⟨_, rfl, rfl⟩ | ⟨hi, ⟨hx, _⟩ | ⟨_, hs⟩⟩
    · simp
    · omega
    · exact hs
  refine ⟨by simp [hl], .inr ⟨by omega, ?_⟩⟩
  conv at key => rhs; rw [Lib.decDigits]
  by_cases h10 : x < 10
  · rw [dif_pos h10] at key
    left
    refine ⟨by omega, ?_⟩
    rw [key, Nat.mod_eq_of_lt h10]; rfl
  · rw [dif_neg h10] at key
    right
    refine ⟨by omega, ?_⟩
    rw [key]; simp
theorem DRel.i_le {x0 x i : Nat} {s : List UInt8} (h : DRel x0 x i s) (hx : x0 < 100000000000000000000) : i ≤ 20 := by
  obtain ⟨hl, h⟩ := h
  have := Wd.dec_len20 x0 hx
  rcases h with ⟨h1, _⟩ | ⟨_, ⟨_, hs⟩ | ⟨_, hs⟩⟩
  · omega
  · rw [hs] at hl; omega
  · have h2 := congrArg List.length hs
    rw [List.length_append] at h2; omega
theorem DRel.end_ {x0 x i : Nat} {s : List UInt8} (h : DRel x0 x i s) (hg : ¬ (i = 0 ∨ 0 < x)) : s = Lib.decDigits x0 := by
  rcases h.2 with ⟨h1, _⟩ | ⟨_, ⟨_, hs⟩ | ⟨hx, _⟩⟩
  · omega
  · exact hs
  · omega

set_option maxHeartbeats 1000000 in
set_option maxRecDepth 100000 in
theorem digits_any (x0 : Nat) (hx0 : x0 < 18446744073709551616) (w : World) :
    Calls Tryd.prog 105 #[.int .u64 x0] w fun e w' => e = .returned (.string ⟨(Lib.decDigits x0).toArray⟩) ∧ Below w.heap.size w w' := by
  have HX := Lib.hid hx0
  clear hx0
  go_enter Tryd.func105, Tryd.ntmps105
  go_wp2
  go_loopw [0, 3, 4] (fun xv sv iv wr => ∃ (x i : Nat) (s : List UInt8), xv = .int .u64 x ∧ sv = .string ⟨s.toArray⟩ ∧ iv = .int .i64 i ∧ x ≤ x0 ∧ DRel x0 x i s ∧ Below w.heap.size w wr) (fun xv _ iv _ => 2 * (intOf xv).toNat + (1 - (intOf iv).toNat))
  case atStart => exact ⟨x0, 0, [], rfl, rfl, rfl, Nat.le_refl _, ⟨rfl, .inl ⟨rfl, rfl, rfl⟩⟩, Below.refl _ _⟩
  case round =>
    obtain ⟨x, i, s, rfl, rfl, rfl, hxl, hd, hb⟩ := hrel
    have hi := hd.i_le (by have := HX.out; omega)
    have hsl : s.length = i := hd.1
    have hs20 : s.length ≤ 20 := by omega
    have HD := Lib.hid hd
    have HB := Lib.hid hb
    have hbs := hb.size
    have hx64 : x < 18446744073709551616 := by have := HX.out; omega
    clear hd hb hsl
    by_cases hg : i = 0 ∨ 0 < x
    · have HS := Lib.hid (HD.out.step hg)
      have hstr := str_row wr (48 + (x : Int) % 10) (by omega) (by omega)
      have hc8 : UInt8.ofNat (48 + (x : Int) % 10).toNat = UInt8.ofNat (48 + x % 10) := by congr 1
      rw [hc8] at hstr
      obtain ⟨c, hc⟩ : ∃ c, c = UInt8.ofNat (48 + x % 10) := ⟨_, rfl⟩
      rw [← hc] at hstr HS
      clear hc
      by_cases hi0 : i = 0
      · have t0 : ((i : Int) == 0) = true := by simp [hi0]
        clear hg hc8
        go_wp2
        go_roundw
        case rel => exact ⟨x / 10, i + 1, c :: s, by go_num, by rw [str_cons], by go_num, by omega, HS.out, HB.out.alloc hbs _⟩
        case measure => simp [intOf]; omega
      · have t0 : ((i : Int) == 0) = false := by simp; omega
        have hx1 : (0 : Int) < x := by omega
        clear hg hc8
        go_wp2
        go_roundw
        case rel => exact ⟨x / 10, i + 1, c :: s, by go_num, by rw [str_cons], by go_num, by omega, HS.out, HB.out.alloc hbs _⟩
        case measure => simp [intOf]; omega
    · have hx0 : x = 0 := by omega
      have he := HD.out.end_ hg
      have HE := Lib.hid he
      subst hx0
      have t0 : ((i : Int) == 0) = false := by simp; omega
      clear he hg
      go_wp2
      go_ret
      exact ⟨by rw [← HE.out]; rfl, HB.out⟩

theorem digits_int (x : Int) (h0 : 0 ≤ x) (h1 : x < 18446744073709551616) (S : ByteArray) (hS : S = ⟨(Lib.decDigits x.toNat).toArray⟩) (w : World) :
    Calls Tryd.prog 105 #[.int .u64 x] w fun e w' => e = .returned (.string S) ∧ Below w.heap.size w w' := by
  obtain ⟨X, rfl⟩ := Int.eq_ofNat_of_zero_le h0
  rw [hS]
  exact digits_any X (by omega) w

set_option maxHeartbeats 1000000 in
set_option maxRecDepth 100000 in
theorem rshow_any (n : Int) (h0 : -9223372036854775808 ≤ n) (h1 : n ≤ 9223372036854775807) (w : World) :
    Calls Tryd.prog 92 #[.int .i64 n] w fun e w' => e = .returned (.string ⟨(Lib.itoa n).toArray⟩) ∧ Below w.heap.size w w' := by
  by_cases hn : n < 0
  · obtain ⟨S, hS⟩ : ∃ S : ByteArray, S = ⟨(Lib.decDigits (-(n + 1) + 1).toNat).toArray⟩ := ⟨_, rfl⟩
    have hsz : S.size ≤ 20 := by
      have := Wd.dec_len20 (-(n + 1) + 1).toNat (by omega)
      rw [hS]; simpa [ByteArray.size] using this
    have hsum : (⟨#[45]⟩ : ByteArray).size + S.size ≤ 9223372036854775807 := by
      have : (⟨#[45]⟩ : ByteArray).size = 1 := rfl
      omega
    have hadd := fun (w : World) => run_string_add_sum (P := Tryd.prog) (w := w) ⟨#[45]⟩ S hsum
    have E : Hid (Lib.itoa n = 45 :: Lib.decDigits (-(n + 1) + 1).toNat) := by
      show _ = _
      unfold Lib.itoa
      rw [if_pos hn]
      congr 2; omega
    have HS := Lib.hid hS
    clear hS hsz hsum
    go_enter Tryd.func92, Tryd.ntmps92
    go_wp2_with fail
    refine (digits_int _ (by omega) (by omega) S (by rw [HS.out]) w).mono ?_
    rintro e w1 ⟨rfl, hb1⟩
    go_wp2
    go_ret
    exact ⟨by rw [E.out, ← str_cons, HS.out]; rfl, hb1⟩
  · obtain ⟨S, hS⟩ : ∃ S : ByteArray, S = ⟨(Lib.decDigits n.toNat).toArray⟩ := ⟨_, rfl⟩
    have E : Hid (Lib.itoa n = Lib.decDigits n.toNat) := by
      show _ = _
      unfold Lib.itoa
      rw [if_neg hn]
    have HS := Lib.hid hS
    have hn0 : 0 ≤ n := by omega
    clear hS hn
    go_enter Tryd.func92, Tryd.ntmps92
    go_wp2_with fail
    refine (digits_int n hn0 (by omega) S HS.out w).mono ?_
    rintro e w1 ⟨rfl, hb1⟩
    go_wp2
    go_ret
    exact ⟨by rw [E.out, ← HS.out]; rfl, hb1⟩


set_option maxHeartbeats 2000000 in
set_option maxRecDepth 100000 in
theorem rtimes_any (lo hi : Int) (l0 : -9223372036854775808 ≤ lo) (l1 : lo ≤ 9223372036854775807) (h0 : -9223372036854775808 ≤ hi) (h1 : hi ≤ 9223372036854775807) (w : World) :
    Calls Tryd.prog 65 #[.int .i64 lo, .int .i64 hi] w fun e w' => e = .returned (.string ⟨(times lo hi).toArray⟩) ∧ Below w.heap.size w w' := by
  obtain ⟨X, hX⟩ : ∃ X, X = times lo hi := ⟨_, rfl⟩
  rw [← hX]
  unfold times at hX
  by_cases a : lo = 0 ∧ hi = -1
  · obtain ⟨rfl, rfl⟩ := a
    have HX := Lib.hid (hX.trans (by simp) : X = [42])
    clear hX
    go_enter Tryd.func65, Tryd.ntmps65
    go_wp2_with fail
    go_ret
    exact ⟨by rw [HX.out]; rfl, Below.refl _ _⟩
  · rw [if_neg a] at hX
    by_cases b : lo = 1 ∧ hi = -1
    · obtain ⟨rfl, rfl⟩ := b
      have HX := Lib.hid (hX.trans (by simp) : X = [43])
      clear hX a
      go_enter Tryd.func65, Tryd.ntmps65
      go_wp2_with fail
      go_ret
      exact ⟨by rw [HX.out]; rfl, Below.refl _ _⟩
    · rw [if_neg b] at hX
      by_cases d : lo = 0 ∧ hi = 1
      · obtain ⟨rfl, rfl⟩ := d
        have HX := Lib.hid (hX.trans (by simp) : X = [63])
        clear hX a b
        go_enter Tryd.func65, Tryd.ntmps65
        go_wp2_with fail
        go_ret
        exact ⟨by rw [HX.out]; rfl, Below.refl _ _⟩
      · rw [if_neg d] at hX
        have z0 := itoa_len lo l0 l1
        have z1 := itoa_len hi h0 h1
        have HS2 := hide (fun W => rshow_any hi h0 h1 W)
        by_cases c0 : lo = 0
        · subst c0
          have HS1 := hide (fun W => rshow_any 0 l0 l1 W)
          have m1 : hi ≠ -1 := by omega
          by_cases q : hi = 0
          · subst q
            have HX : Hid (X = 123 :: Lib.itoa 0 ++ [125]) := by show _ = _; rw [hX, if_pos rfl]
            clear hX
            go_enter Tryd.func65, Tryd.ntmps65
            go_wp2_with fail
            refine (HS1.out _).mono ?_
            rintro e w1 ⟨rfl, hb1⟩
            go_wp2_with fail
            all_goals first | (exfalso; omega) | skip
            go_ret
            exact ⟨by rw [HX.out]; exact text1 0, hb1⟩
          · have t6' : (hi == -1) = false := by simpa using m1
            have t7 : (hi == 1) = false := by simp; omega
            have HX : Hid (X = 123 :: Lib.itoa 0 ++ (44 :: Lib.itoa hi ++ [125])) := by show _ = _; rw [hX, if_neg (Ne.symm q), if_neg m1]
            have t5 : (hi == 0) = false := by simpa using q
            clear hX q m1
            go_enter Tryd.func65, Tryd.ntmps65
            go_wp2_with fail
            refine (HS1.out _).mono ?_
            rintro e w1 ⟨rfl, hb1⟩
            go_wp2_with fail
            all_goals first | (exfalso; omega) | skip
            refine (HS2.out _).mono ?_
            rintro e w2 ⟨rfl, hb2⟩
            go_wp2_with fail
            all_goals first | (exfalso; omega) | skip
            go_ret
            exact ⟨by rw [HX.out]; exact text3 0 hi, hb1.trans (hb2.mono hb1.size)⟩
        · by_cases c1 : lo = 1
          · subst c1
            have HS1 := hide (fun W => rshow_any 1 l0 l1 W)
            have m1 : hi ≠ -1 := by omega
            by_cases q : hi = 1
            · subst q
              have HX : Hid (X = 123 :: Lib.itoa 1 ++ [125]) := by show _ = _; rw [hX, if_pos rfl]
              clear hX
              go_enter Tryd.func65, Tryd.ntmps65
              go_wp2_with fail
              refine (HS1.out _).mono ?_
              rintro e w1 ⟨rfl, hb1⟩
              go_wp2_with fail
              all_goals first | (exfalso; omega) | skip
              go_ret
              exact ⟨by rw [HX.out]; exact text1 1, hb1⟩
            · have t6' : (hi == -1) = false := by simpa using m1
              have HX : Hid (X = 123 :: Lib.itoa 1 ++ (44 :: Lib.itoa hi ++ [125])) := by show _ = _; rw [hX, if_neg (Ne.symm q), if_neg m1]
              have t5 : (hi == 1) = false := by simpa using q
              clear hX q m1
              go_enter Tryd.func65, Tryd.ntmps65
              go_wp2_with fail
              refine (HS1.out _).mono ?_
              rintro e w1 ⟨rfl, hb1⟩
              go_wp2_with fail
              all_goals first | (exfalso; omega) | skip
              refine (HS2.out _).mono ?_
              rintro e w2 ⟨rfl, hb2⟩
              go_wp2_with fail
              all_goals first | (exfalso; omega) | skip
              go_ret
              exact ⟨by rw [HX.out]; exact text3 1 hi, hb1.trans (hb2.mono hb1.size)⟩
          · have HS1 := hide (fun W => rshow_any lo l0 l1 W)
            have t1 : (lo == 0) = false := by simpa using c0
            have t2 : (lo == 1) = false := by simpa using c1
            by_cases q : hi = lo
            · subst q
              have HX : Hid (X = 123 :: Lib.itoa hi ++ [125]) := by show _ = _; rw [hX, if_pos rfl]
              clear hX c0 c1 a b d
              go_enter Tryd.func65, Tryd.ntmps65
              go_wp2_with fail
              refine (HS1.out _).mono ?_
              rintro e w1 ⟨rfl, hb1⟩
              go_wp2_with fail
              all_goals first | (exfalso; omega) | skip
              go_ret
              exact ⟨by rw [HX.out]; exact text1 hi, hb1⟩
            · by_cases m1 : hi = -1
              · subst m1
                have HX : Hid (X = 123 :: Lib.itoa lo ++ [44, 125]) := by show _ = _; rw [hX, if_neg (Ne.symm q), if_pos rfl]
                have t5 : ((-1 : Int) == lo) = false := by simpa using q
                clear hX c0 c1 a b d q
                go_enter Tryd.func65, Tryd.ntmps65
                go_wp2_with fail
                refine (HS1.out _).mono ?_
                rintro e w1 ⟨rfl, hb1⟩
                go_wp2_with fail
                all_goals first | (exfalso; omega) | skip
                go_ret
                exact ⟨by rw [HX.out]; exact text2 lo, hb1⟩
              · have HX : Hid (X = 123 :: Lib.itoa lo ++ (44 :: Lib.itoa hi ++ [125])) := by show _ = _; rw [hX, if_neg (Ne.symm q), if_neg m1]
                have t5 : (hi == lo) = false := by simpa using q
                have t6 : (hi == -1) = false := by simpa using m1
                clear hX q m1 c0 c1 a b d
                go_enter Tryd.func65, Tryd.ntmps65
                go_wp2_with fail
                refine (HS1.out _).mono ?_
                rintro e w1 ⟨rfl, hb1⟩
                go_wp2_with fail
                all_goals first | (exfalso; omega) | skip
                refine (HS2.out _).mono ?_
                rintro e w2 ⟨rfl, hb2⟩
                go_wp2_with fail
                all_goals first | (exfalso; omega) | skip
                go_ret
                exact ⟨by rw [HX.out]; exact text3 lo hi, hb1.trans (hb2.mono hb1.size)⟩
end Go.Proofs.YtphhacnabdpheaaDoor.Lx
namespace Go.Proofs.YtphhacnabdpheaaDoor.Lx
open Go.RowKit Mem
set_option linter.unusedVariables false

theorem put_str {T P S : List UInt8} {a : ByteArray} (hS : S = T ++ P) (ha : a = ⟨(T ++ P).toArray⟩) : Value.string a = .string ⟨S.toArray⟩ := by rw [ha, hS]
theorem cat2 (a b : List UInt8) : ((⟨a.toArray⟩ : ByteArray) ++ ⟨b.toArray⟩) = ⟨(a ++ b).toArray⟩ := str_app a b
theorem cat3 (a b c : List UInt8) : ((⟨a.toArray⟩ : ByteArray) ++ ⟨b.toArray⟩ ++ ⟨c.toArray⟩) = ⟨(a ++ (b ++ c)).toArray⟩ := by rw [str_app, str_app, List.append_assoc]
theorem piece_sp {i : Nat} {kd at_ lo hi : Int} {nm : List UInt8} (h : 0 < i ∧ kd ≠ 5) : piece i ⟨kd, at_, lo, hi, nm⟩ = [32] ++ show1 ⟨kd, at_, lo, hi, nm⟩ := by unfold piece; rw [if_pos h]
theorem piece_no {i : Nat} {kd at_ lo hi : Int} {nm : List UInt8} (h : ¬ (0 < i ∧ kd ≠ 5)) : piece i ⟨kd, at_, lo, hi, nm⟩ = show1 ⟨kd, at_, lo, hi, nm⟩ := by unfold piece; rw [if_neg h]; rfl

set_option maxRecDepth 100000 in
set_option maxHeartbeats 8000000 in
theorem rShow_any (A : Option Addr) (n c : Nat) (l : List Sg) (w : World) (hr : GRow w A n l) (hn : n ≤ 300) (hx : ∀ x ∈ l, (I64 x.low ∧ I64 x.high) ∧ x.name.length ≤ 100) :
    Calls Tryd.prog 36 #[.slice A n c] w fun e w' => e = .returned (.string ⟨(showN 0 l).toArray⟩) ∧ Below w.heap.size w w' := by
  have HR := Lib.hid hr
  have HX := hide hx
  clear hr hx
  go_enter Tryd.func36, Tryd.ntmps36
  go_wp2_with fail
  obtain ⟨W0, hW0⟩ : ∃ W0, W0 = w.alloc (.cells #[.string ⟨#[]⟩, .string ⟨#[]⟩, .string ⟨#[40]⟩, .string ⟨#[41]⟩, .string ⟨#[124]⟩] 9 (0, 0)) := ⟨_, rfl⟩
  have HN0 : Hid (W0.heap[w.heap.size]? = some (.cells #[.string ⟨#[]⟩, .string ⟨#[]⟩, .string ⟨#[40]⟩, .string ⟨#[41]⟩, .string ⟨#[124]⟩] 9 (0, 0))) := by
    show _ = _; rw [hW0]; exact World.alloc_heap_new w _
  have HB0 : Hid (Below w.heap.size w W0) := by show Below _ _ _; rw [hW0]; exact (Below.refl _ _).alloc (Nat.le_refl _) _
  have hz0 : w.heap.size < W0.heap.size := by rw [hW0, World.size_alloc]; omega
  rw [← hW0]
  clear hW0
  go_loopw [4, 5] (fun sv iv wr => ∃ k : Nat, k ≤ n ∧ iv = .int .i64 k ∧ sv = .string ⟨(showN 0 (l.take k)).toArray⟩ ∧ Hid (Below W0.heap.size W0 wr)) (fun _ i _ => n - (intOf i).toNat)
  case atStart => exact ⟨0, by omega, rfl, rfl, Lib.hid (Below.refl _ _)⟩
  case round =>
    obtain ⟨k, hk, rfl, rfl, hW⟩ := hrel
    by_cases hlt : k < n
    · have hl : l.length = n := HR.out.1
      obtain ⟨b, off, hA, hb, hc⟩ := HR.out.2 (by omega)
      have hkl : k < l.length := by omega
      obtain ⟨a0, a1, a2, a3, a4⟩ := hc k hkl
      have hcc := fun o => (hW.out.cell (p := ⟨b, o, none⟩) (by show b < _; omega)).trans (HB0.out.cell (p := ⟨b, o, none⟩) hb)
      have b0 := (hcc _).trans a0
      have b1 := (hcc _).trans a1
      have b2 := (hcc _).trans a2
      have b3 := (hcc _).trans a3
      have b4 := (hcc _).trans a4
      have hnb : wr.heap[w.heap.size]? = _ := (hW.out.block _ hz0).trans HN0.out
      have n2 : wr.cell? ⟨w.heap.size, 2, none⟩ = some (.string ⟨#[40]⟩) := by simp [World.cell?, hnb]
      have n3 : wr.cell? ⟨w.heap.size, 3, none⟩ = some (.string ⟨#[41]⟩) := by simp [World.cell?, hnb]
      have n4 : wr.cell? ⟨w.heap.size, 4, none⟩ = some (.string ⟨#[124]⟩) := by simp [World.cell?, hnb]
      have hnx := showN_take l k hkl
      have hxk := HX.out l[k] (List.getElem_mem hkl)
      have hlen := showN_len (l.take k) 0 (fun x h => HX.out x (List.mem_of_mem_take h))
      rw [List.length_take, Nat.min_eq_left (by omega)] at hlen
      obtain ⟨x, hxe⟩ : ∃ x, x = l[k] := ⟨_, rfl⟩
      rw [← hxe] at b0 b1 b2 b3 b4 hnx hxk
      obtain ⟨kd, at_, lo, hi, nm⟩ := x
      dsimp only at b0 b1 b2 b3 b4 hxk
      obtain ⟨T, hT⟩ : ∃ T, T = showN 0 (l.take k) := ⟨_, rfl⟩
      rw [← hT] at hnx hlen ⊢
      have HN := Lib.hid hnx
      subst hA
      have hsz := hW.out.size
      have hbz : b < wr.heap.size := by omega
      have hwz : w.heap.size < wr.heap.size := by omega
      have HA0 := Lib.hid (hW.out.alloc hsz (.cells #[.int .i64 kd, .int .i64 at_, .int .i64 lo, .int .i64 hi, .string ⟨nm.toArray⟩] 73))
      have l0 := hxk.1.1.1
      have l1 := hxk.1.1.2
      have h0 := hxk.1.2.1
      have h1 := hxk.1.2.2
      have z2 := hxk.2
      have z3 := times_len hxk.1.1 hxk.1.2
      have z4 : T.length ≤ 30300 := by omega
      have HT2 := hide (fun W => rtimes_any lo hi l0 l1 h0 h1 W)
      clear hnx hxe hT hcc a0 a1 a2 a3 a4 hc hl hnb hxk hlen
      by_cases k0 : 0 < k
      · have d0 : decide (0 < k) = true := by simpa using k0
        by_cases k5 : kd = 5
        · have e5 := k5
          subst e5
          have HS : Hid (show1 ⟨5, at_, lo, hi, nm⟩ = times lo hi) := rfl
          have HP : Hid (piece k ⟨5, at_, lo, hi, nm⟩ = times lo hi) := by show _ = _; rw [piece_no (by omega), HS.out]
          go_wp2_with (go_at_call 65; (with_reducible refine (HT2.out _).mono ?_); rintro e w5 ⟨rfl, hb5⟩)
          all_goals first | (exfalso; omega) | skip
          go_roundw
          case rel => exact ⟨k + 1, by omega, by go_num, put_str HN.out (by rw [HP.out]; exact cat2 T (times lo hi)), Lib.hid (HA0.out.trans (hb5.mono (by have := HA0.out.size; omega)))⟩
          case measure => simp [intOf]; omega
        · skip
          by_cases e1 : kd = 1
          · subst e1
            have HS : Hid (show1 ⟨1, at_, lo, hi, nm⟩ = nm) := rfl
            have HP : Hid (piece k ⟨1, at_, lo, hi, nm⟩ = [32] ++ nm) := by show _ = _; rw [piece_sp ⟨k0, by omega⟩, HS.out]
            go_wp2_with (go_at_call 65; (with_reducible refine (HT2.out _).mono ?_); rintro e w5 ⟨rfl, hb5⟩)
            all_goals first | (exfalso; omega) | skip
            go_roundw
            case rel => exact ⟨k + 1, by omega, by go_num, put_str HN.out (by rw [HP.out]; exact cat3 T [32] nm), HA0⟩
            case measure => simp [intOf]; omega
          · skip
            by_cases e2 : kd = 2
            · subst e2
              have HS : Hid (show1 ⟨2, at_, lo, hi, nm⟩ = [40]) := rfl
              have HP : Hid (piece k ⟨2, at_, lo, hi, nm⟩ = [32] ++ [40]) := by show _ = _; rw [piece_sp ⟨k0, by omega⟩, HS.out]
              go_wp2_with (go_at_call 65; (with_reducible refine (HT2.out _).mono ?_); rintro e w5 ⟨rfl, hb5⟩)
              all_goals first | (exfalso; omega) | skip
              go_roundw
              case rel => exact ⟨k + 1, by omega, by go_num, put_str HN.out (by rw [HP.out]; exact cat3 T [32] [40]), HA0⟩
              case measure => simp [intOf]; omega
            · skip
              by_cases e3 : kd = 3
              · subst e3
                have HS : Hid (show1 ⟨3, at_, lo, hi, nm⟩ = [41]) := rfl
                have HP : Hid (piece k ⟨3, at_, lo, hi, nm⟩ = [32] ++ [41]) := by show _ = _; rw [piece_sp ⟨k0, by omega⟩, HS.out]
                go_wp2_with (go_at_call 65; (with_reducible refine (HT2.out _).mono ?_); rintro e w5 ⟨rfl, hb5⟩)
                all_goals first | (exfalso; omega) | skip
                go_roundw
                case rel => exact ⟨k + 1, by omega, by go_num, put_str HN.out (by rw [HP.out]; exact cat3 T [32] [41]), HA0⟩
                case measure => simp [intOf]; omega
              · skip
                by_cases e4 : kd = 4
                · subst e4
                  have HS : Hid (show1 ⟨4, at_, lo, hi, nm⟩ = [124]) := rfl
                  have HP : Hid (piece k ⟨4, at_, lo, hi, nm⟩ = [32] ++ [124]) := by show _ = _; rw [piece_sp ⟨k0, by omega⟩, HS.out]
                  go_wp2_with (go_at_call 65; (with_reducible refine (HT2.out _).mono ?_); rintro e w5 ⟨rfl, hb5⟩)
                  all_goals first | (exfalso; omega) | skip
                  go_roundw
                  case rel => exact ⟨k + 1, by omega, by go_num, put_str HN.out (by rw [HP.out]; exact cat3 T [32] [124]), HA0⟩
                  case measure => simp [intOf]; omega
                · skip
                  have e5 : kd ≠ 5 := k5
                  have HS : Hid (show1 ⟨kd, at_, lo, hi, nm⟩ = []) := by show _ = _; simp [show1, e1, e2, e3, e4, e5]
                  have t1 : (kd == 1) = false := by simpa using e1
                  have t5 : (kd == 5) = false := by simpa using e5
                  have t5' : (kd != 5) = true := by simpa using e5
                  have HP : Hid (piece k ⟨kd, at_, lo, hi, nm⟩ = [32] ++ []) := by show _ = _; rw [piece_sp ⟨k0, by omega⟩, HS.out]
                  by_cases g1 : kd ≤ 1
                  · have u1 : decide (1 < kd) = false := by simp; omega
                    have g2 : kd < 1 := by omega
                    clear e1 e2 e3 e4 e5
                    go_wp2_with (go_at_call 65; (with_reducible refine (HT2.out _).mono ?_); rintro e w5 ⟨rfl, hb5⟩)
                    all_goals first | (exfalso; omega) | skip
                    go_roundw
                    case rel => exact ⟨k + 1, by omega, by go_num, put_str HN.out (by rw [HP.out]; rw [List.append_nil]; exact cat2 T [32]), HA0⟩
                    case measure => simp [intOf]; omega
                  · have u1 : decide (1 < kd) = true := by simp; omega
                    have u2 : decide (kd < 5) = false := by simp; omega
                    have g3 : 5 < kd := by omega
                    clear e1 e2 e3 e4 e5
                    go_wp2_with (go_at_call 65; (with_reducible refine (HT2.out _).mono ?_); rintro e w5 ⟨rfl, hb5⟩)
                    all_goals first | (exfalso; omega) | skip
                    go_roundw
                    case rel => exact ⟨k + 1, by omega, by go_num, put_str HN.out (by rw [HP.out]; rw [List.append_nil]; exact cat2 T [32]), HA0⟩
                    case measure => simp [intOf]; omega
      · have d0 : decide (0 < k) = false := by simpa using k0
        have hk0 : k ≤ 0 := by omega
        by_cases e1 : kd = 1
        · subst e1
          have HS : Hid (show1 ⟨1, at_, lo, hi, nm⟩ = nm) := rfl
          have HP : Hid (piece k ⟨1, at_, lo, hi, nm⟩ = nm) := by show _ = _; rw [piece_no (by omega), HS.out]
          go_wp2_with (go_at_call 65; (with_reducible refine (HT2.out _).mono ?_); rintro e w5 ⟨rfl, hb5⟩)
          all_goals first | (exfalso; omega) | skip
          go_roundw
          case rel => exact ⟨k + 1, by omega, by go_num, put_str HN.out (by rw [HP.out]; exact cat2 T nm), HA0⟩
          case measure => simp [intOf]; omega
        · skip
          by_cases e2 : kd = 2
          · subst e2
            have HS : Hid (show1 ⟨2, at_, lo, hi, nm⟩ = [40]) := rfl
            have HP : Hid (piece k ⟨2, at_, lo, hi, nm⟩ = [40]) := by show _ = _; rw [piece_no (by omega), HS.out]
            go_wp2_with (go_at_call 65; (with_reducible refine (HT2.out _).mono ?_); rintro e w5 ⟨rfl, hb5⟩)
            all_goals first | (exfalso; omega) | skip
            go_roundw
            case rel => exact ⟨k + 1, by omega, by go_num, put_str HN.out (by rw [HP.out]; exact cat2 T [40]), HA0⟩
            case measure => simp [intOf]; omega
          · skip
            by_cases e3 : kd = 3
            · subst e3
              have HS : Hid (show1 ⟨3, at_, lo, hi, nm⟩ = [41]) := rfl
              have HP : Hid (piece k ⟨3, at_, lo, hi, nm⟩ = [41]) := by show _ = _; rw [piece_no (by omega), HS.out]
              go_wp2_with (go_at_call 65; (with_reducible refine (HT2.out _).mono ?_); rintro e w5 ⟨rfl, hb5⟩)
              all_goals first | (exfalso; omega) | skip
              go_roundw
              case rel => exact ⟨k + 1, by omega, by go_num, put_str HN.out (by rw [HP.out]; exact cat2 T [41]), HA0⟩
              case measure => simp [intOf]; omega
            · skip
              by_cases e4 : kd = 4
              · subst e4
                have HS : Hid (show1 ⟨4, at_, lo, hi, nm⟩ = [124]) := rfl
                have HP : Hid (piece k ⟨4, at_, lo, hi, nm⟩ = [124]) := by show _ = _; rw [piece_no (by omega), HS.out]
                go_wp2_with (go_at_call 65; (with_reducible refine (HT2.out _).mono ?_); rintro e w5 ⟨rfl, hb5⟩)
                all_goals first | (exfalso; omega) | skip
                go_roundw
                case rel => exact ⟨k + 1, by omega, by go_num, put_str HN.out (by rw [HP.out]; exact cat2 T [124]), HA0⟩
                case measure => simp [intOf]; omega
              · skip
                by_cases e5 : kd = 5
                · subst e5
                  have HS : Hid (show1 ⟨5, at_, lo, hi, nm⟩ = times lo hi) := rfl
                  have HP : Hid (piece k ⟨5, at_, lo, hi, nm⟩ = times lo hi) := by show _ = _; rw [piece_no (by omega), HS.out]
                  go_wp2_with (go_at_call 65; (with_reducible refine (HT2.out _).mono ?_); rintro e w5 ⟨rfl, hb5⟩)
                  all_goals first | (exfalso; omega) | skip
                  go_roundw
                  case rel => exact ⟨k + 1, by omega, by go_num, put_str HN.out (by rw [HP.out]; exact cat2 T (times lo hi)), Lib.hid (HA0.out.trans (hb5.mono (by have := HA0.out.size; omega)))⟩
                  case measure => simp [intOf]; omega
                · have HS : Hid (show1 ⟨kd, at_, lo, hi, nm⟩ = []) := by show _ = _; simp [show1, e1, e2, e3, e4, e5]
                  have t1 : (kd == 1) = false := by simpa using e1
                  have t5 : (kd == 5) = false := by simpa using e5
                  have t5' : (kd != 5) = true := by simpa using e5
                  have HP : Hid (piece k ⟨kd, at_, lo, hi, nm⟩ = []) := by show _ = _; rw [piece_no (by omega), HS.out]
                  by_cases g1 : kd ≤ 1
                  · have u1 : decide (1 < kd) = false := by simp; omega
                    have g2 : kd < 1 := by omega
                    clear e1 e2 e3 e4 e5
                    go_wp2_with (go_at_call 65; (with_reducible refine (HT2.out _).mono ?_); rintro e w5 ⟨rfl, hb5⟩)
                    all_goals first | (exfalso; omega) | skip
                    go_roundw
                    case rel => exact ⟨k + 1, by omega, by go_num, put_str HN.out (by rw [HP.out]; rw [List.append_nil]), HA0⟩
                    case measure => simp [intOf]; omega
                  · have u1 : decide (1 < kd) = true := by simp; omega
                    have u2 : decide (kd < 5) = false := by simp; omega
                    have g3 : 5 < kd := by omega
                    clear e1 e2 e3 e4 e5
                    go_wp2_with (go_at_call 65; (with_reducible refine (HT2.out _).mono ?_); rintro e w5 ⟨rfl, hb5⟩)
                    all_goals first | (exfalso; omega) | skip
                    go_roundw
                    case rel => exact ⟨k + 1, by omega, by go_num, put_str HN.out (by rw [HP.out]; rw [List.append_nil]), HA0⟩
                    case measure => simp [intOf]; omega
    · obtain rfl : k = n := by omega
      have HL : Hid (l.take k = l) := by show _ = _; rw [← HR.out.1, List.take_length]
      go_wp2_with fail
      go_ret
      exact ⟨by rw [HL.out]; rfl, HB0.out.trans (hW.out.mono (by omega))⟩
end Go.Proofs.YtphhacnabdpheaaDoor.Lx
