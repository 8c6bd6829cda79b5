/- Walks of the reference of words: digits, Show; and of the reference of the lexer: the text of a count. -/
import Derived.Test.YtegkimcfmdckbabDoorLxK
import Derived.Lib.ItoaMem
namespace Go.Proofs.YtegkimcfmdckbabDoor.Lx
open Go.RowKit Go.Sort Mem
set_option linter.unusedVariables false

theorem heap_alloc_new' (w : World) (o : Obj) : (w.alloc o).heap[w.heap.size]? = some o := World.alloc_heap_new w o
theorem str_row (w : World) (c : Int) (h0 : 0 ≤ c) (h1 : c ≤ 255) :
    (convert 97 9 (.slice (some ⟨w.heap.size, 0, none⟩) 1 1)).run Tryd.prog (w.alloc (.cells #[.int .u8 c] 5 (0, 0))) = .ok (.string ⟨#[UInt8.ofNat c.toNat]⟩) (w.alloc (.cells #[.int .u8 c] 5 (0, 0))) := by
  have hrow : Row .u8 (w.alloc (.cells #[.int .u8 c] 5 (0, 0))) (some ⟨w.heap.size, 0, none⟩) 1 [c] := row_block (heap_alloc_new' w _) [c] rfl 1 rfl (wf_bytes (by simp; omega))
  exact hrow.str 1 (P := Tryd.prog) Tryd.underlying97 Tryd.underlying5 Tryd.underlying9

theorem str_append (a b : List UInt8) : ((⟨a.toArray⟩ : ByteArray) ++ (⟨b.toArray⟩ : ByteArray)) = ⟨(a ++ b).toArray⟩ := by
  apply ByteArray.ext
  rw [ByteArray.data_append]
  simp
theorem str_cons (c : UInt8) (s : List UInt8) : ((⟨#[c]⟩ : ByteArray) ++ (⟨s.toArray⟩ : ByteArray)) = ⟨(c :: s).toArray⟩ := str_append [c] s

/-- how far digits has come -/
def DRel (x0 : Nat) (x i : Nat) (s : List UInt8) : Prop := s.length = i ∧ ((i = 0 ∧ x = x0 ∧ s = []) ∨ (0 < i ∧ ((x = 0 ∧ s = Lib.decDigits x0) ∨ (0 < x ∧ Lib.decDigits x0 = Lib.decDigits x ++ s))))

theorem DRel.step {x0 x i : Nat} {s : List UInt8} (h : DRel x0 x i s) (hg : i = 0 ∨ 0 < x) : DRel x0 (x / 10) (i + 1) (UInt8.ofNat (48 + x % 10) :: s) := by
  obtain ⟨hl, h⟩ := h
  have key : Lib.decDigits x0 = Lib.decDigits x ++ s := by
    rcases h with ⟨_, rfl, rfl⟩ | ⟨hi, ⟨hx, _⟩ | ⟨_, hs⟩⟩
    · simp
    · omega
    · exact hs
  refine ⟨by simp [hl], .inr ⟨by omega, ?_⟩⟩
  conv at key => rhs; rw [Lib.decDigits]
  by_cases h10 : x < 10
  · rw [dif_pos h10] at key
    left
    refine ⟨by omega, ?_⟩
    rw [key, Nat.mod_eq_of_lt h10]; rfl
  · rw [dif_neg h10] at key
    right
    refine ⟨by omega, ?_⟩
    rw [key]; simp
theorem DRel.i_le {x0 x i : Nat} {s : List UInt8} (h : DRel x0 x i s) (hx : x0 < 100000000000000000000) : i ≤ 20 := by
  obtain ⟨hl, h⟩ := h
  have := Wd.dec_len20 x0 hx
  rcases h with ⟨h1, _⟩ | ⟨_, ⟨_, hs⟩ | ⟨_, hs⟩⟩
  · omega
  · rw [hs] at hl; omega
  · have h2 := congrArg List.length hs
    rw [List.length_append] at h2; omega
theorem DRel.end_ {x0 x i : Nat} {s : List UInt8} (h : DRel x0 x i s) (hg : ¬ (i = 0 ∨ 0 < x)) : s = Lib.decDigits x0 := by
  rcases h.2 with ⟨h1, _⟩ | ⟨_, ⟨_, hs⟩ | ⟨hx, _⟩⟩
  · omega
  · exact hs
  · omega

set_option maxHeartbeats 1000000 in
set_option maxRecDepth 100000 in
theorem digits_any (x0 : Nat) (hx0 : x0 < 18446744073709551616) (w : World) :
    Calls Tryd.prog 79 #[.int .u64 x0] w fun e w' => e = .returned (.string ⟨(Lib.decDigits x0).toArray⟩) ∧ Below w.heap.size w w' := by
  have HX := Lib.hid hx0
  clear hx0
  go_enter Tryd.func79, Tryd.ntmps79
  go_wp2
  go_loopw [0, 3, 4] (fun xv sv iv wr => ∃ (x i : Nat) (s : List UInt8), xv = .int .u64 x ∧ sv = .string ⟨s.toArray⟩ ∧ iv = .int .i64 i ∧ x ≤ x0 ∧ DRel x0 x i s ∧ Below w.heap.size w wr) (fun xv _ iv _ => 2 * (intOf xv).toNat + (1 - (intOf iv).toNat))
  case atStart => exact ⟨x0, 0, [], rfl, rfl, rfl, Nat.le_refl _, ⟨rfl, .inl ⟨rfl, rfl, rfl⟩⟩, Below.refl _ _⟩
  case round =>
    obtain ⟨x, i, s, rfl, rfl, rfl, hxl, hd, hb⟩ := hrel
    have hi := hd.i_le (by have := HX.out; omega)
    have hsl : s.length = i := hd.1
    have hs20 : s.length ≤ 20 := by omega
    have HD := Lib.hid hd
    have HB := Lib.hid hb
    have hbs := hb.size
    have hx64 : x < 18446744073709551616 := by have := HX.out; omega
    clear hd hb hsl
    by_cases hg : i = 0 ∨ 0 < x
    · have HS := Lib.hid (HD.out.step hg)
      have hstr := str_row wr (48 + (x : Int) % 10) (by omega) (by omega)
      have hc8 : UInt8.ofNat (48 + (x : Int) % 10).toNat = UInt8.ofNat (48 + x % 10) := by congr 1
      rw [hc8] at hstr
      obtain ⟨c, hc⟩ : ∃ c, c = UInt8.ofNat (48 + x % 10) := ⟨_, rfl⟩
      rw [← hc] at hstr HS
      clear hc
      by_cases hi0 : i = 0
      · have t0 : ((i : Int) == 0) = true := by simp [hi0]
        clear hg hc8
        go_wp2
        go_roundw
        case rel => exact ⟨x / 10, i + 1, c :: s, by go_num, by rw [str_cons], by go_num, by omega, HS.out, HB.out.alloc hbs _⟩
        case measure => simp [intOf]; omega
      · have t0 : ((i : Int) == 0) = false := by simp; omega
        have hx1 : (0 : Int) < x := by omega
        clear hg hc8
        go_wp2
        go_roundw
        case rel => exact ⟨x / 10, i + 1, c :: s, by go_num, by rw [str_cons], by go_num, by omega, HS.out, HB.out.alloc hbs _⟩
        case measure => simp [intOf]; omega
    · have hx0 : x = 0 := by omega
      have he := HD.out.end_ hg
      have HE := Lib.hid he
      subst hx0
      have t0 : ((i : Int) == 0) = false := by simp; omega
      clear he hg
      go_wp2
      go_ret
      exact ⟨by rw [← HE.out]; rfl, HB.out⟩

theorem digits_int (x : Int) (h0 : 0 ≤ x) (h1 : x < 18446744073709551616) (S : ByteArray) (hS : S = ⟨(Lib.decDigits x.toNat).toArray⟩) (w : World) :
    Calls Tryd.prog 79 #[.int .u64 x] w fun e w' => e = .returned (.string S) ∧ Below w.heap.size w w' := by
  obtain ⟨X, rfl⟩ := Int.eq_ofNat_of_zero_le h0
  rw [hS]
  exact digits_any X (by omega) w

set_option maxHeartbeats 1000000 in
set_option maxRecDepth 100000 in
theorem rshow_any (n : Int) (h0 : -9223372036854775808 ≤ n) (h1 : n ≤ 9223372036854775807) (w : World) :
    Calls Tryd.prog 69 #[.int .i64 n] w fun e w' => e = .returned (.string ⟨(Lib.itoa n).toArray⟩) ∧ Below w.heap.size w w' := by
  by_cases hn : n < 0
  · obtain ⟨S, hS⟩ : ∃ S : ByteArray, S = ⟨(Lib.decDigits (-(n + 1) + 1).toNat).toArray⟩ := ⟨_, rfl⟩
    have hsz : S.size ≤ 20 := by
      have := Wd.dec_len20 (-(n + 1) + 1).toNat (by omega)
      rw [hS]; simpa [ByteArray.size] using this
    have hsum : (⟨#[45]⟩ : ByteArray).size + S.size ≤ 9223372036854775807 := by
      have : (⟨#[45]⟩ : ByteArray).size = 1 := rfl
      omega
    have hadd := fun (w : World) => run_string_add_sum (P := Tryd.prog) (w := w) ⟨#[45]⟩ S hsum
    have E : Hid (Lib.itoa n = 45 :: Lib.decDigits (-(n + 1) + 1).toNat) := by
      show _ = _
      unfold Lib.itoa
      rw [if_pos hn]
      congr 2; omega
    have HS := Lib.hid hS
    clear hS hsz hsum
    go_enter Tryd.func69, Tryd.ntmps69
    go_wp2_with fail
    refine (digits_int _ (by omega) (by omega) S (by rw [HS.out]) w).mono ?_
    rintro e w1 ⟨rfl, hb1⟩
    go_wp2
    go_ret
    exact ⟨by rw [E.out, ← str_cons, HS.out]; rfl, hb1⟩
  · obtain ⟨S, hS⟩ : ∃ S : ByteArray, S = ⟨(Lib.decDigits n.toNat).toArray⟩ := ⟨_, rfl⟩
    have E : Hid (Lib.itoa n = Lib.decDigits n.toNat) := by
      show _ = _
      unfold Lib.itoa
      rw [if_neg hn]
    have HS := Lib.hid hS
    have hn0 : 0 ≤ n := by omega
    clear hS hn
    go_enter Tryd.func69, Tryd.ntmps69
    go_wp2_with fail
    refine (digits_int n hn0 (by omega) S HS.out w).mono ?_
    rintro e w1 ⟨rfl, hb1⟩
    go_wp2
    go_ret
    exact ⟨by rw [E.out, ← HS.out]; rfl, hb1⟩


set_option maxHeartbeats 2000000 in
set_option maxRecDepth 100000 in
theorem rtimes_any (lo hi : Int) (l0 : -9223372036854775808 ≤ lo) (l1 : lo ≤ 9223372036854775807) (h0 : -9223372036854775808 ≤ hi) (h1 : hi ≤ 9223372036854775807) (w : World) :
    Calls Tryd.prog 50 #[.int .i64 lo, .int .i64 hi] w fun e w' => e = .returned (.string ⟨(times lo hi).toArray⟩) ∧ Below w.heap.size w w' := by
  obtain ⟨X, hX⟩ : ∃ X, X = times lo hi := ⟨_, rfl⟩
  rw [← hX]
  unfold times at hX
  by_cases a : lo = 0 ∧ hi = -1
  · obtain ⟨rfl, rfl⟩ := a
    have HX := Lib.hid (hX.trans (by simp) : X = [42])
    clear hX
    go_enter Tryd.func50, Tryd.ntmps50
    go_wp2_with fail
    go_ret
    exact ⟨by rw [HX.out]; rfl, Below.refl _ _⟩
  · rw [if_neg a] at hX
    by_cases b : lo = 1 ∧ hi = -1
    · obtain ⟨rfl, rfl⟩ := b
      have HX := Lib.hid (hX.trans (by simp) : X = [43])
      clear hX a
      go_enter Tryd.func50, Tryd.ntmps50
      go_wp2_with fail
      go_ret
      exact ⟨by rw [HX.out]; rfl, Below.refl _ _⟩
    · rw [if_neg b] at hX
      by_cases d : lo = 0 ∧ hi = 1
      · obtain ⟨rfl, rfl⟩ := d
        have HX := Lib.hid (hX.trans (by simp) : X = [63])
        clear hX a b
        go_enter Tryd.func50, Tryd.ntmps50
        go_wp2_with fail
        go_ret
        exact ⟨by rw [HX.out]; rfl, Below.refl _ _⟩
      · rw [if_neg d] at hX
        have z0 := itoa_len lo l0 l1
        have z1 := itoa_len hi h0 h1
        have HS2 := hide (fun W => rshow_any hi h0 h1 W)
        by_cases c0 : lo = 0
        · subst c0
          have HS1 := hide (fun W => rshow_any 0 l0 l1 W)
          have m1 : hi ≠ -1 := by omega
          by_cases q : hi = 0
          · subst q
            have HX : Hid (X = 123 :: Lib.itoa 0 ++ [125]) := by show _ = _; rw [hX, if_pos rfl]
            clear hX
            go_enter Tryd.func50, Tryd.ntmps50
            go_wp2_with fail
            refine (HS1.out _).mono ?_
            rintro e w1 ⟨rfl, hb1⟩
            go_wp2_with fail
            all_goals first | (exfalso; omega) | skip
            go_ret
            exact ⟨by rw [HX.out]; exact text1 0, hb1⟩
          · have t6' : (hi == -1) = false := by simpa using m1
            have t7 : (hi == 1) = false := by simp; omega
            have HX : Hid (X = 123 :: Lib.itoa 0 ++ (44 :: Lib.itoa hi ++ [125])) := by show _ = _; rw [hX, if_neg (Ne.symm q), if_neg m1]
            have t5 : (hi == 0) = false := by simpa using q
            clear hX q m1
            go_enter Tryd.func50, Tryd.ntmps50
            go_wp2_with fail
            refine (HS1.out _).mono ?_
            rintro e w1 ⟨rfl, hb1⟩
            go_wp2_with fail
            all_goals first | (exfalso; omega) | skip
            refine (HS2.out _).mono ?_
            rintro e w2 ⟨rfl, hb2⟩
            go_wp2_with fail
            all_goals first | (exfalso; omega) | skip
            go_ret
            exact ⟨by rw [HX.out]; exact text3 0 hi, hb1.trans (hb2.mono hb1.size)⟩
        · by_cases c1 : lo = 1
          · subst c1
            have HS1 := hide (fun W => rshow_any 1 l0 l1 W)
            have m1 : hi ≠ -1 := by omega
            by_cases q : hi = 1
            · subst q
              have HX : Hid (X = 123 :: Lib.itoa 1 ++ [125]) := by show _ = _; rw [hX, if_pos rfl]
              clear hX
              go_enter Tryd.func50, Tryd.ntmps50
              go_wp2_with fail
              refine (HS1.out _).mono ?_
              rintro e w1 ⟨rfl, hb1⟩
              go_wp2_with fail
              all_goals first | (exfalso; omega) | skip
              go_ret
              exact ⟨by rw [HX.out]; exact text1 1, hb1⟩
            · have t6' : (hi == -1) = false := by simpa using m1
              have HX : Hid (X = 123 :: Lib.itoa 1 ++ (44 :: Lib.itoa hi ++ [125])) := by show _ = _; rw [hX, if_neg (Ne.symm q), if_neg m1]
              have t5 : (hi == 1) = false := by simpa using q
              clear hX q m1
              go_enter Tryd.func50, Tryd.ntmps50
              go_wp2_with fail
              refine (HS1.out _).mono ?_
              rintro e w1 ⟨rfl, hb1⟩
              go_wp2_with fail
              all_goals first | (exfalso; omega) | skip
              refine (HS2.out _).mono ?_
              rintro e w2 ⟨rfl, hb2⟩
              go_wp2_with fail
              all_goals first | (exfalso; omega) | skip
              go_ret
              exact ⟨by rw [HX.out]; exact text3 1 hi, hb1.trans (hb2.mono hb1.size)⟩
          · have HS1 := hide (fun W => rshow_any lo l0 l1 W)
            have t1 : (lo == 0) = false := by simpa using c0
            have t2 : (lo == 1) = false := by simpa using c1
            by_cases q : hi = lo
            · subst q
              have HX : Hid (X = 123 :: Lib.itoa hi ++ [125]) := by show _ = _; rw [hX, if_pos rfl]
              clear hX c0 c1 a b d
              go_enter Tryd.func50, Tryd.ntmps50
              go_wp2_with fail
              refine (HS1.out _).mono ?_
              rintro e w1 ⟨rfl, hb1⟩
              go_wp2_with fail
              all_goals first | (exfalso; omega) | skip
              go_ret
              exact ⟨by rw [HX.out]; exact text1 hi, hb1⟩
            · by_cases m1 : hi = -1
              · subst m1
                have HX : Hid (X = 123 :: Lib.itoa lo ++ [44, 125]) := by show _ = _; rw [hX, if_neg (Ne.symm q), if_pos rfl]
                have t5 : ((-1 : Int) == lo) = false := by simpa using q
                clear hX c0 c1 a b d q
                go_enter Tryd.func50, Tryd.ntmps50
                go_wp2_with fail
                refine (HS1.out _).mono ?_
                rintro e w1 ⟨rfl, hb1⟩
                go_wp2_with fail
                all_goals first | (exfalso; omega) | skip
                go_ret
                exact ⟨by rw [HX.out]; exact text2 lo, hb1⟩
              · have HX : Hid (X = 123 :: Lib.itoa lo ++ (44 :: Lib.itoa hi ++ [125])) := by show _ = _; rw [hX, if_neg (Ne.symm q), if_neg m1]
                have t5 : (hi == lo) = false := by simpa using q
                have t6 : (hi == -1) = false := by simpa using m1
                clear hX q m1 c0 c1 a b d
                go_enter Tryd.func50, Tryd.ntmps50
                go_wp2_with fail
                refine (HS1.out _).mono ?_
                rintro e w1 ⟨rfl, hb1⟩
                go_wp2_with fail
                all_goals first | (exfalso; omega) | skip
                refine (HS2.out _).mono ?_
                rintro e w2 ⟨rfl, hb2⟩
                go_wp2_with fail
                all_goals first | (exfalso; omega) | skip
                go_ret
                exact ⟨by rw [HX.out]; exact text3 lo hi, hb1.trans (hb2.mono hb1.size)⟩
end Go.Proofs.YtegkimcfmdckbabDoor.Lx
