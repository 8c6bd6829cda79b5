/- Walks of utf: lay. -/
import Derived.Test.YtdicjplekbjdpaaUtfD
import Derived.Test.YtdicjplekbjdpaaOwn
import Derived.StillTailTactics
namespace Go.Proofs.Ytdicjplekbjdpaa.Utf
open Go.RowKit Mem
set_option linter.unusedVariables false

theorem info_u8 : (Try.prog.info? 5).map (fun i => (i.zero, i.size, i.bytes)) = some (some (.int .u8 0), 1, 1) := by kernel_rfl

/-- what lay hands back: its slice with the letter's bytes behind -/
def Laid (W : World) (v : Value) (base : Nat) (zs : List Int) (e : Ending) (w' : World) : Prop :=
  ∃ v', e = .returned v' ∧ w'.ownsRow base 5 1 v' zs.length (zs.map (Value.int .u8)) ∧ W.grownBy w' v.ownBlock

theorem more_int (s r : Int) (b : Nat) (w : World) (hs1 : 0 ≤ s) (hs2 : s ≤ 20) (hr : 0 ≤ r) (hr2 : r ≤ 1114111) (hc : w.cell? ⟨b, 0, none⟩ = some (.int .i32 r)) :
    Calls Try.prog 28 #[.int .i64 s, .pointer (some ⟨b, 0, none⟩)] w fun e w' => e = .returned (.int .u8 (128 + r / 2 ^ s.toNat % 64)) ∧ w = w' := by
  obtain ⟨S, rfl⟩ := Int.eq_ofNat_of_zero_le hs1
  exact more_any S r b w (by omega) hr hr2 hc

set_option maxHeartbeats 1000000 in
theorem lay_1 (base : Nat) (v : Value) (xs : List Int) (r : Int) (w : World) (h0 : 0 ≤ r) (h1 : r < 128) (hown : w.ownsRow base 5 1 v xs.length (xs.map (Value.int .u8))) (hb : base ≤ w.heap.size) (hn : xs.length ≤ 1000000) :
    Calls Try.prog 21 #[v, .int .i32 r] w (Laid w v base (xs ++ [r])) := by
  obtain ⟨i0, hi, hz, hs1, hs2⟩ := info_parts info_u8
  have hlen : lenI r = 1 := by unfold lenI; rw [if_neg (by rw [rtB_true (by omega)]; exact Bool.noConfusion), if_pos h1]
  have hL := Lib.hid hlen
  clear hlen
  go_enter Try.func21, Try.ntmps21
  have hrow : Row .u8 ((w.alloc (.cells #[.int .i32 r] 21 (0, 0))).alloc (.cells #[.int .u8 r] 5 (0, 0))) (some ⟨w.heap.size + 1, 0, none⟩) 1 [r] := by
    have h := heap_alloc_new (w.alloc (.cells #[.int .i32 r] 21 (0, 0))) (.cells #[.int .u8 r] 5 (0, 0))
    rw [show (w.alloc (.cells #[.int .i32 r] 21 (0, 0))).heap.size = w.heap.size + 1 from by simp] at h
    exact row_block h [r] rfl 1 rfl (wf_bytes (by simp; omega))
  have hR := Lib.hid hrow
  have ho2 := (hown.alloc (.cells #[.int .i32 r] 21 (0, 0))).alloc (.cells #[.int .u8 r] 5 (0, 0))
  have hO := Lib.hid ho2
  clear hrow ho2 hown
  go_wp2_with (first
    | (go_at_call 11; refine (len_any r _).mono ?_; rw [hL.out]; rintro e w' ⟨rfl, rfl⟩)
    | (at_builtin; (refine wpList_app rfl (.tmp 11) (.tmp 14) _ rfl .u8 base 5 i0 1 Try.underlying22 hi hz hs1 hs2 (by omega) v xs.length xs rfl hO.out _ 1 1 [r] rfl hR.out (by omega) (by simp; omega) ?_); intro v' w1 hown' hg hat))
  go_ret
  exact ⟨v', rfl, by simpa using hown', only_trans (only_alloc (only_alloc (World.grownBy.refl w _) _) _) hg (fun _ _ h => h)⟩

set_option maxHeartbeats 1000000 in
theorem lay_2 (base : Nat) (v : Value) (xs : List Int) (r : Int) (w : World) (h0 : 128 ≤ r) (h1 : r < 2048) (hrt : rtB r = true) (hown : w.ownsRow base 5 1 v xs.length (xs.map (Value.int .u8))) (hb : base ≤ w.heap.size) (hn : xs.length ≤ 1000000) :
    Calls Try.prog 21 #[v, .int .i32 r] w (Laid w v base (xs ++ [192 + r / 64, 128 + r % 64])) := by
  obtain ⟨i0, hi, hz, hs1, hs2⟩ := info_parts info_u8
  have hlen : lenI r = 2 := by unfold lenI; rw [if_neg (by rw [hrt]; exact Bool.noConfusion), if_neg (by omega), if_pos h1]
  have hL := Lib.hid hlen
  clear hlen hrt
  have hrow : Row .u8 (((w.alloc (.cells #[.int .i32 r] 21 (0, 0))).alloc (.cells #[.int .u8 (192 + r / 64), .int .u8 (128 + r % 64)] 5 (0, 0))).drew) (some ⟨w.heap.size + 1, 0, none⟩) 2 [192 + r / 64, 128 + r % 64] := by
    have h := heap_alloc_new (w.alloc (.cells #[.int .i32 r] 21 (0, 0))) (.cells #[.int .u8 (192 + r / 64), .int .u8 (128 + r % 64)] 5 (0, 0))
    rw [show (w.alloc (.cells #[.int .i32 r] 21 (0, 0))).heap.size = w.heap.size + 1 from by simp] at h
    exact (row_block h [192 + r / 64, 128 + r % 64] rfl 2 rfl (wf_bytes (by simp; omega))).drew
  have hR := Lib.hid hrow
  have ho2 := ((hown.alloc (.cells #[.int .i32 r] 21 (0, 0))).alloc (.cells #[.int .u8 (192 + r / 64), .int .u8 (128 + r % 64)] 5 (0, 0))).drew
  have hO := Lib.hid ho2
  have hbit : bits .or .i32 192 (r / 64) = 192 + r / 64 := or_join 6 _ _ (by omega) (by omega) (by omega) (by omega) (by omega) (by decide) (by omega)
  have hwrap : IntKind.u8.wrap (192 + r / 64) = 192 + r / 64 := by rw [IntKind.wrap_u8']; omega
  have hW0 : (((w.alloc (.cells #[.int .i32 r] 21 (0, 0))).alloc (.cells #[.int .u8 (192 + r / 64), .int .u8 (128 + r % 64)] 5 (0, 0))).drew).cell? ⟨w.heap.size, 0, none⟩ = some (.int .i32 r) := by
    refine Eq.trans (World.cell?_alloc_lt (w.alloc (.cells #[.int .i32 r] 21 (0, 0))) (.cells #[.int .u8 (192 + r / 64), .int .u8 (128 + r % 64)] 5 (0, 0)) ⟨w.heap.size, 0, none⟩ (by simp)) ?_
    rw [World.cell?_alloc_mark]; rfl
  have hW := Lib.hid hW0
  have hne : some w.heap.size ≠ v.ownBlock := fun h => by have := (hown.lt _ h.symm).2; omega
  clear hW0
  clear hrow ho2 hown
  go_enter Try.func21, Try.ntmps21
  go_wp2_with (go_at_call 11; refine (len_any r _).mono ?_; rw [hL.out]; rintro e w' ⟨rfl, rfl⟩)
  go_region_held3 (fun w' => w'.cell? ⟨w.heap.size, 0, none⟩ = some (.int .i32 r))
    (first | go_keep | (exact (hg.cell_far _ (by simp; omega) hne).trans hW.out))
    (first
      | (go_at_call 28; refine (more_int _ r _ _ (by omega) (by omega) (by omega) (by omega) (by assumption)).mono ?_; rintro e w' ⟨rfl, rfl⟩)
      | (refine step_app (by rfl) (.tmp 18) (.tmp 25) _ (by rfl) .u8 base 5 i0 1 Try.underlying22 hi hz hs1 hs2 (by omega) v xs.length xs (by rfl) hO.out _ 2 2 [192 + r / 64, 128 + r % 64] (by rfl) hR.out (by omega) (by simp; omega) ?_; intro v' w1 hown' hg hat))
  go_wp2
  go_ret
  exact ⟨v', rfl, by simpa using hown', only_trans (only_drew (only_alloc (only_alloc (World.grownBy.refl w _) _) _)) hg (fun _ _ h => h)⟩

set_option maxHeartbeats 1000000 in
theorem lay_3 (base : Nat) (v : Value) (xs : List Int) (r : Int) (w : World) (h0 : 2048 ≤ r) (h1 : r < 65536) (hrt : rtB r = true) (hown : w.ownsRow base 5 1 v xs.length (xs.map (Value.int .u8))) (hb : base ≤ w.heap.size) (hn : xs.length ≤ 1000000) :
    Calls Try.prog 21 #[v, .int .i32 r] w (Laid w v base (xs ++ [224 + r / 4096, 128 + r / 64 % 64, 128 + r % 64])) := by
  obtain ⟨i0, hi, hz, hs1, hs2⟩ := info_parts info_u8
  have hlen : lenI r = 3 := by unfold lenI; rw [if_neg (by rw [hrt]; exact Bool.noConfusion), if_neg (by omega), if_neg (by omega), if_pos h1]
  have hL := Lib.hid hlen
  clear hlen hrt
  have hrow : Row .u8 (((w.alloc (.cells #[.int .i32 r] 21 (0, 0))).alloc (.cells #[.int .u8 (224 + r / 4096), .int .u8 (128 + r / 64 % 64), .int .u8 (128 + r % 64)] 5 (0, 0))).drew) (some ⟨w.heap.size + 1, 0, none⟩) 3 [224 + r / 4096, 128 + r / 64 % 64, 128 + r % 64] := by
    have h := heap_alloc_new (w.alloc (.cells #[.int .i32 r] 21 (0, 0))) (.cells #[.int .u8 (224 + r / 4096), .int .u8 (128 + r / 64 % 64), .int .u8 (128 + r % 64)] 5 (0, 0))
    rw [show (w.alloc (.cells #[.int .i32 r] 21 (0, 0))).heap.size = w.heap.size + 1 from by simp] at h
    exact (row_block h [224 + r / 4096, 128 + r / 64 % 64, 128 + r % 64] rfl 3 rfl (wf_bytes (by simp; omega))).drew
  have hR := Lib.hid hrow
  have ho2 := ((hown.alloc (.cells #[.int .i32 r] 21 (0, 0))).alloc (.cells #[.int .u8 (224 + r / 4096), .int .u8 (128 + r / 64 % 64), .int .u8 (128 + r % 64)] 5 (0, 0))).drew
  have hO := Lib.hid ho2
  have hbit : bits .or .i32 224 (r / 4096) = 224 + r / 4096 := or_join 5 _ _ (by omega) (by omega) (by omega) (by omega) (by omega) (by decide) (by omega)
  have hwrap : IntKind.u8.wrap (224 + r / 4096) = 224 + r / 4096 := by rw [IntKind.wrap_u8']; omega
  have hW0 : (((w.alloc (.cells #[.int .i32 r] 21 (0, 0))).alloc (.cells #[.int .u8 (224 + r / 4096), .int .u8 (128 + r / 64 % 64), .int .u8 (128 + r % 64)] 5 (0, 0))).drew).cell? ⟨w.heap.size, 0, none⟩ = some (.int .i32 r) := by
    refine Eq.trans (World.cell?_alloc_lt (w.alloc (.cells #[.int .i32 r] 21 (0, 0))) (.cells #[.int .u8 (224 + r / 4096), .int .u8 (128 + r / 64 % 64), .int .u8 (128 + r % 64)] 5 (0, 0)) ⟨w.heap.size, 0, none⟩ (by simp)) ?_
    rw [World.cell?_alloc_mark]; rfl
  have hW := Lib.hid hW0
  have hne : some w.heap.size ≠ v.ownBlock := fun h => by have := (hown.lt _ h.symm).2; omega
  clear hW0
  clear hrow ho2 hown
  go_enter Try.func21, Try.ntmps21
  go_wp2_with (go_at_call 11; refine (len_any r _).mono ?_; rw [hL.out]; rintro e w' ⟨rfl, rfl⟩)
  go_region_held3 (fun w' => w'.cell? ⟨w.heap.size, 0, none⟩ = some (.int .i32 r))
    (first | go_keep | (exact (hg.cell_far _ (by simp; omega) hne).trans hW.out))
    (first
      | (go_at_call 28; refine (more_int _ r _ _ (by omega) (by omega) (by omega) (by omega) (by assumption)).mono ?_; rintro e w' ⟨rfl, rfl⟩)
      | (refine step_app (by rfl) (.tmp 29) (.tmp 38) _ (by rfl) .u8 base 5 i0 1 Try.underlying22 hi hz hs1 hs2 (by omega) v xs.length xs (by rfl) hO.out _ 3 3 [224 + r / 4096, 128 + r / 64 % 64, 128 + r % 64] (by rfl) hR.out (by omega) (by simp; omega) ?_; intro v' w1 hown' hg hat))
  go_wp2
  go_ret
  exact ⟨v', rfl, by simpa using hown', only_trans (only_drew (only_alloc (only_alloc (World.grownBy.refl w _) _) _)) hg (fun _ _ h => h)⟩

set_option maxHeartbeats 1000000 in
theorem lay_4 (base : Nat) (v : Value) (xs : List Int) (r : Int) (w : World) (h0 : 65536 ≤ r) (h1 : r ≤ 1114111) (hrt : rtB r = true) (hown : w.ownsRow base 5 1 v xs.length (xs.map (Value.int .u8))) (hb : base ≤ w.heap.size) (hn : xs.length ≤ 1000000) :
    Calls Try.prog 21 #[v, .int .i32 r] w (Laid w v base (xs ++ [240 + r / 262144, 128 + r / 4096 % 64, 128 + r / 64 % 64, 128 + r % 64])) := by
  obtain ⟨i0, hi, hz, hs1, hs2⟩ := info_parts info_u8
  have hlen : lenI r = 4 := by unfold lenI; rw [if_neg (by rw [hrt]; exact Bool.noConfusion), if_neg (by omega), if_neg (by omega), if_neg (by omega)]
  have hL := Lib.hid hlen
  clear hlen hrt
  have hrow : Row .u8 (((w.alloc (.cells #[.int .i32 r] 21 (0, 0))).alloc (.cells #[.int .u8 (240 + r / 262144), .int .u8 (128 + r / 4096 % 64), .int .u8 (128 + r / 64 % 64), .int .u8 (128 + r % 64)] 5 (0, 0))).drew) (some ⟨w.heap.size + 1, 0, none⟩) 4 [240 + r / 262144, 128 + r / 4096 % 64, 128 + r / 64 % 64, 128 + r % 64] := by
    have h := heap_alloc_new (w.alloc (.cells #[.int .i32 r] 21 (0, 0))) (.cells #[.int .u8 (240 + r / 262144), .int .u8 (128 + r / 4096 % 64), .int .u8 (128 + r / 64 % 64), .int .u8 (128 + r % 64)] 5 (0, 0))
    rw [show (w.alloc (.cells #[.int .i32 r] 21 (0, 0))).heap.size = w.heap.size + 1 from by simp] at h
    exact (row_block h [240 + r / 262144, 128 + r / 4096 % 64, 128 + r / 64 % 64, 128 + r % 64] rfl 4 rfl (wf_bytes (by simp; omega))).drew
  have hR := Lib.hid hrow
  have ho2 := ((hown.alloc (.cells #[.int .i32 r] 21 (0, 0))).alloc (.cells #[.int .u8 (240 + r / 262144), .int .u8 (128 + r / 4096 % 64), .int .u8 (128 + r / 64 % 64), .int .u8 (128 + r % 64)] 5 (0, 0))).drew
  have hO := Lib.hid ho2
  have hbit : bits .or .i32 240 (r / 262144) = 240 + r / 262144 := or_join 4 _ _ (by omega) (by omega) (by omega) (by omega) (by omega) (by decide) (by omega)
  have hwrap : IntKind.u8.wrap (240 + r / 262144) = 240 + r / 262144 := by rw [IntKind.wrap_u8']; omega
  have hW0 : (((w.alloc (.cells #[.int .i32 r] 21 (0, 0))).alloc (.cells #[.int .u8 (240 + r / 262144), .int .u8 (128 + r / 4096 % 64), .int .u8 (128 + r / 64 % 64), .int .u8 (128 + r % 64)] 5 (0, 0))).drew).cell? ⟨w.heap.size, 0, none⟩ = some (.int .i32 r) := by
    refine Eq.trans (World.cell?_alloc_lt (w.alloc (.cells #[.int .i32 r] 21 (0, 0))) (.cells #[.int .u8 (240 + r / 262144), .int .u8 (128 + r / 4096 % 64), .int .u8 (128 + r / 64 % 64), .int .u8 (128 + r % 64)] 5 (0, 0)) ⟨w.heap.size, 0, none⟩ (by simp)) ?_
    rw [World.cell?_alloc_mark]; rfl
  have hW := Lib.hid hW0
  have hne : some w.heap.size ≠ v.ownBlock := fun h => by have := (hown.lt _ h.symm).2; omega
  clear hW0
  clear hrow ho2 hown
  go_enter Try.func21, Try.ntmps21
  go_wp2_with (go_at_call 11; refine (len_any r _).mono ?_; rw [hL.out]; rintro e w' ⟨rfl, rfl⟩)
  go_region_held3 (fun w' => w'.cell? ⟨w.heap.size, 0, none⟩ = some (.int .i32 r))
    (first | go_keep | (exact (hg.cell_far _ (by simp; omega) hne).trans hW.out))
    (first
      | (go_at_call 28; refine (more_int _ r _ _ (by omega) (by omega) (by omega) (by omega) (by assumption)).mono ?_; rintro e w' ⟨rfl, rfl⟩)
      | (refine step_app (by rfl) (.tmp 42) (.tmp 53) _ (by rfl) .u8 base 5 i0 1 Try.underlying22 hi hz hs1 hs2 (by omega) v xs.length xs (by rfl) hO.out _ 4 4 [240 + r / 262144, 128 + r / 4096 % 64, 128 + r / 64 % 64, 128 + r % 64] (by rfl) hR.out (by omega) (by simp; omega) ?_; intro v' w1 hown' hg hat))
  go_wp2
  go_ret
  exact ⟨v', rfl, by simpa using hown', only_trans (only_drew (only_alloc (only_alloc (World.grownBy.refl w _) _) _)) hg (fun _ _ h => h)⟩

theorem lay_any (base : Nat) (v : Value) (xs : List Int) (r : Int) (w : World) (hrt : rtB r = true) (hown : w.ownsRow base 5 1 v xs.length (xs.map (Value.int .u8))) (hb : base ≤ w.heap.size) (hn : xs.length ≤ 1000000) :
    Calls Try.prog 21 #[v, .int .i32 r] w (Laid w v base (xs ++ bytes r)) := by
  have h := of_rtB hrt
  by_cases a : r < 128
  · rw [show bytes r = [r] from by simp [bytes, a]]
    exact lay_1 base v xs r w h.1 a hown hb hn
  · by_cases b : r < 2048
    · rw [show bytes r = [192 + r / 64, 128 + r % 64] from by simp [bytes, a, b]]
      exact lay_2 base v xs r w (by omega) b hrt hown hb hn
    · by_cases c : r < 65536
      · rw [show bytes r = [224 + r / 4096, 128 + r / 64 % 64, 128 + r % 64] from by simp [bytes, a, b, c]]
        exact lay_3 base v xs r w (by omega) c hrt hown hb hn
      · rw [show bytes r = [240 + r / 262144, 128 + r / 4096 % 64, 128 + r / 64 % 64, 128 + r % 64] from by simp [bytes, a, b, c]]
        exact lay_4 base v xs r w (by omega) h.2.1 hrt hown hb hn
end Go.Proofs.Ytdicjplekbjdpaa.Utf
