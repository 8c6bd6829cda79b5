/- Walks of utf and its reference: Decode, Count, Same. -/
import Derived.Test.YtdicjplekbjdpaaUtfH
namespace Go.Proofs.Ytdicjplekbjdpaa.Utf
open Go.RowKit Mem
set_option linter.unusedVariables false

theorem dec_wf {rs : List Int} (h : ∀ r ∈ rs, rtB r = true) : ∀ r ∈ rs, (Lit.int .i32 r).wf = true := fun r hr => WalkArith.wf_i32 (by have := of_rtB (h r hr); omega)

/-- all letters of bytes, or the first place at which there is none -/
def Decoded (W : World) (zs : List Int) (e : Ending) (w' : World) : Prop :=
  Below W.heap.size W w' ∧ ((∃ rs A c, Dec zs rs zs.length ∧ e = .returned (.tuple #[.slice A rs.length c, .int .i64 0, .int .i64 0]) ∧ Row .i32 w' A rs.length rs ∧ rs.length ≤ c) ∨
    (∃ rs p, Dec zs rs p ∧ Ends zs p ∧ p < zs.length ∧ e = .returned (.tuple #[.slice none 0 0, .int .i64 p, .int .i64 11])))

theorem decode_any (zs : List Int) (A : Option Addr) (n c : Nat) (w : World) (hr : Row .u8 w A n zs) (hn : n ≤ 50000) :
    Calls Try.prog 15 #[.slice A n c] w (Decoded w zs) := by
  have hb0 : Below w.heap.size w (w.alloc (.cells #[.slice none 0 0] 36 (0, 0))) := (Below.refl _ _).alloc (Nat.le_refl _) _
  have hi0 : BoxD w.heap.size w.heap.size (w.alloc (.cells #[.slice none 0 0] 36 (0, 0))) [] :=
    ⟨Nat.le_refl _, by simp, .slice none 0 0, heap_alloc_new w _, World.ownsRow_nil _ _ _ _⟩
  have HR := Lib.hid hr
  have HB0 := Lib.hid hb0
  have HI0 := Lib.hid hi0
  clear hr hb0 hi0
  go_enter Try.func15, Try.ntmps15
  go_wp2_with fail
  refine (walk_dec zs A n c w.heap.size w _ HR.out hn HB0.out HI0.out).mono ?_
  rintro e w1 ⟨hb1, h1⟩
  have HB1 := Lib.hid hb1
  clear hb1
  rcases h1 with ⟨rs, hd, rfl, hi1⟩ | ⟨rs, p, hd, he, hp, rfl⟩
  · obtain ⟨_, _, v, hh, ho⟩ := hi1
    obtain ⟨A1, c1, rfl, hc1, hr1⟩ := Row.of_own ho (dec_wf hd.1)
    have hc := cell_of_one hh
    have HD := Lib.hid hd
    have HR1 := Lib.hid hr1
    clear hd hr1 hh ho
    go_wp2
    go_ret3
    exact ⟨HB1.out, .inl ⟨rs, A1, c1, HD.out, rfl, HR1.out, hc1⟩⟩
  · have HD := Lib.hid hd
    have HE := Lib.hid he
    clear hd he
    go_wp2
    go_ret3
    exact ⟨HB1.out, .inr ⟨rs, p, HD.out, HE.out, hp, rfl⟩⟩

/-- how many letters bytes have -/
def Counted (W : World) (zs : List Int) (e : Ending) (w' : World) : Prop :=
  Below W.heap.size W w' ∧ ((∃ rs, Dec zs rs zs.length ∧ e = .returned (.tuple #[.int .i64 rs.length, .bool true])) ∨
    (∃ rs p, Dec zs rs p ∧ Ends zs p ∧ p < zs.length ∧ e = .returned (.tuple #[.int .i64 0, .bool false])))

theorem count_any (zs : List Int) (A : Option Addr) (n c : Nat) (w : World) (hr : Row .u8 w A n zs) (hn : n ≤ 50000) :
    Calls Try.prog 17 #[.slice A n c] w (Counted w zs) := by
  have hb0 : Below w.heap.size w (w.alloc (.cells #[.int .i64 0] 3 (0, 0))) := (Below.refl _ _).alloc (Nat.le_refl _) _
  have hi0 : BoxC w.heap.size w.heap.size (w.alloc (.cells #[.int .i64 0] 3 (0, 0))) [] :=
    ⟨Nat.le_refl _, by simp, heap_alloc_new w _⟩
  have HR := Lib.hid hr
  have HB0 := Lib.hid hb0
  have HI0 := Lib.hid hi0
  clear hr hb0 hi0
  go_enter Try.func17, Try.ntmps17
  go_wp2_with fail
  refine (walk_cnt zs A n c w.heap.size w _ HR.out hn HB0.out HI0.out).mono ?_
  rintro e w1 ⟨hb1, h1⟩
  have HB1 := Lib.hid hb1
  clear hb1
  rcases h1 with ⟨rs, hd, rfl, hi1⟩ | ⟨rs, p, hd, he, hp, rfl⟩
  · obtain ⟨_, _, hh⟩ := hi1
    have hc := cell_of_one hh
    have HD := Lib.hid hd
    clear hd hh
    go_wp2
    go_ret2
    exact ⟨HB1.out, .inl ⟨rs, HD.out, rfl⟩⟩
  · have HD := Lib.hid hd
    have HE := Lib.hid he
    clear hd he
    go_wp2
    go_ret2
    exact ⟨HB1.out, .inr ⟨rs, p, HD.out, HE.out, hp, rfl⟩⟩

set_option maxHeartbeats 1000000 in
theorem rdecode_any (zs : List Int) (A : Option Addr) (n c : Nat) (w : World) (hr : Row .u8 w A n zs) (hnc : n ≤ c) (hc : c ≤ maxLen) (hn : n ≤ 50000) :
    Calls Try.prog 16 #[.slice A n c] w (Decoded w zs) := by
  obtain ⟨i0, hi, hz, hs1, hs2⟩ := info_parts info_i32
  have hlz := hr.1
  have HZ := Lib.hid hlz
  have HR := Lib.hid hr
  have HC := Lib.hid hc
  clear hlz hr hc
  go_enter Try.func16, Try.ntmps16
  go_wp2
  go_loopw [5, 6] (fun v i wr => ∃ (rs : List Int) (p : Nat), i = .int .i64 p ∧ Dec zs rs p ∧ wr.ownsRow w.heap.size 21 1 v rs.length (rs.map (Value.int .i32)) ∧ Below w.heap.size w wr) (fun _ i _ => n - (intOf i).toNat)
  case atStart => exact ⟨[], 0, rfl, Dec.nil zs, World.ownsRow_nil _ _ _ _, Below.refl _ _⟩
  case round =>
    obtain ⟨rs, p, rfl, hd, ho, hbw⟩ := hrel
    have hpn := hd.2.2
    have hrl := hd.len
    rw [HZ.out] at hpn
    have HD := Lib.hid hd
    have HO := Lib.hid ho
    have HB := Lib.hid hbw
    clear hd ho hbw
    by_cases hlt : p < n
    · go_wp2_with fail
      refine (rnext_any zs A n c p _ (HR.out.below HB.out) hnc HC.out hlt).mono ?_
      rintro e w1 ⟨hb1, h1⟩
      have hbb := HB.out.trans (hb1.mono HB.out.size)
      have HB1 := Lib.hid hbb
      have hbs := hbb.size
      have ho1 := own_below HO.out hb1
      clear hbb hb1
      rcases h1 with ⟨r, hat, rfl⟩ | ⟨hno, rfl⟩
      · have hst := HD.out.step hat
        have hl := bytes_length r
        have hst2 := hst.2
        rw [HZ.out] at hst2
        have hrt := of_rtB hat.1
        have HST := Lib.hid hst.1
        obtain ⟨m, hm⟩ : ∃ m, m = (bytes r).length := ⟨_, rfl⟩
        rw [← hm] at hl hst2 ⊢
        have HM := Lib.hid hm
        have t0 : ((m : Int) == 0) = false := by simp; omega
        have hrow : Row .i32 (w1.alloc (.cells #[.int .i32 r] 21 (0, 0))) (some ⟨w1.heap.size, 0, none⟩) 1 [r] :=
          row_block (heap_alloc_new w1 _) [r] rfl 1 rfl (fun z hz => by simp at hz; subst hz; exact WalkArith.wf_i32 (by omega))
        have HROW := Lib.hid hrow
        have ho2 := ho1.alloc (.cells #[.int .i32 r] 21 (0, 0))
        have HO2 := Lib.hid ho2
        have HO1 := Lib.hid ho1
        clear hst hat hm hrow ho1 ho2
        go_wp2_with (at_builtin; refine wpList_app rfl (.tmp 22) (.tmp 24) _ rfl .i32 w.heap.size 21 i0 4 Try.underlying36 hi hz hs1 hs2 (by omega) _ rs.length rs rfl HO2.out _ 1 1 [r] rfl HROW.out (by omega) (by simp; omega) ?_; intro v' w2 hown' hg hat)
        have HW2 : Hid (Below w.heap.size w w2) := (HB1.out.alloc hbs _).grown hg (by simp; omega) (fun k hk => (HO1.out.lt k hk).1)
        go_wp2
        go_roundw
        case rel => exact ⟨rs ++ [r], p + m, by go_num, by rw [HM.out]; exact HST.out, by simpa using hown', HW2.out⟩
        case measure => simp [intOf]; omega
      · have HNO := Lib.hid hno
        clear hno
        go_wp2
        go_ret3
        exact ⟨HB1.out, .inr ⟨rs, p, HD.out, HNO.out, by rw [HZ.out]; exact hlt, rfl⟩⟩
    · obtain rfl : p = n := by omega
      go_wp2
      go_ret3
      obtain ⟨A1, c1, rfl, hc1, hr1⟩ := Row.of_own HO.out (dec_wf HD.out.1)
      exact ⟨HB.out, .inl ⟨rs, A1, c1, by rw [HZ.out]; exact HD.out, rfl, hr1, hc1⟩⟩

set_option maxHeartbeats 400000 in
theorem same_yes (A1 A2 : Option Addr) (n c1 c2 : Nat) (ls : List Int) (w : World) (h1 : Row .i32 w A1 n ls) (h2 : Row .i32 w A2 n ls) (hn : n ≤ 100000) :
    Calls Try.prog 18 #[.slice A1 n c1, .slice A2 n c2] w fun e w' => e = .returned (.bool true) ∧ Below w.heap.size w w' := by
  have d0 : ((n : Int) != (n : Int)) = false := by simp
  go_enter Try.func18, Try.ntmps18
  go_wp2
  go_loopw [5] (fun i wr => ∃ k : Nat, k ≤ n ∧ i = .int .i64 k ∧ ∃ m, wr = w.drewN m) (fun i _ => n - (intOf i).toNat)
  case atStart => exact ⟨0, Nat.zero_le _, rfl, 0, rfl⟩
  case round =>
    obtain ⟨k, hk, rfl, m, rfl⟩ := hrel
    by_cases hlt : k < n
    · obtain ⟨b1, o1, rfl, _, hx1⟩ := h1.at_ (by omega)
      obtain ⟨b2, o2, rfl, _, hx2⟩ := h2.at_ (by omega)
      have x1 := hx1 k hlt
      have x2 := hx2 k hlt
      obtain ⟨z, hz⟩ : ∃ z, z = ls.getD k 0 := ⟨_, rfl⟩
      rw [← hz] at x1 x2
      have i1 : (0 : Int) ≤ (k : Int) := by omega
      have i2 : (k : Int) < (n : Int) := by omega
      have d1 : (z != z) = false := by simp
      clear hx1 hx2 hz h1 h2
      go_wp2
      go_quiet (fail)
      go_wp2
      go_roundw
      case rel => exact ⟨k + 1, by omega, by go_num, _, rfl⟩
      case measure => simp [intOf]; omega
    · go_wp2
      go_ret
      exact ⟨rfl, Mem.below_drewN (Below.refl _ _) _⟩
end Go.Proofs.Ytdicjplekbjdpaa.Utf
