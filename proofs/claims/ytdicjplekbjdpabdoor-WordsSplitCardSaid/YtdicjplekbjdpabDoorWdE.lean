/- Walks of the reference of words: digits, Show. -/
import Derived.Test.YtdicjplekbjdpabDoorWdD
import Derived.Test.YtdicjplekbjdpabDoorNumMath
namespace Go.Proofs.YtdicjplekbjdpabDoor.Wd
open Go.RowKit Go.Sort Mem
set_option linter.unusedVariables false

theorem str_row (w : World) (c : Int) (h0 : 0 ≤ c) (h1 : c ≤ 255) :
    (convert 33 9 (.slice (some ⟨w.heap.size, 0, none⟩) 1 1)).run Tryd.prog (w.alloc (.cells #[.int .u8 c] 5 (0, 0))) = .ok (.string ⟨#[UInt8.ofNat c.toNat]⟩) (w.alloc (.cells #[.int .u8 c] 5 (0, 0))) := by
  have hrow : Row .u8 (w.alloc (.cells #[.int .u8 c] 5 (0, 0))) (some ⟨w.heap.size, 0, none⟩) 1 [c] := row_block (heap_alloc_new w _) [c] rfl 1 rfl (wf_bytes (by simp; omega))
  exact hrow.str 1 (P := Tryd.prog) Tryd.underlying33 Tryd.underlying5 Tryd.underlying9

theorem str_append (a b : List UInt8) : ((⟨a.toArray⟩ : ByteArray) ++ (⟨b.toArray⟩ : ByteArray)) = ⟨(a ++ b).toArray⟩ := by
  apply ByteArray.ext
  rw [ByteArray.data_append]
  simp
theorem str_cons (c : UInt8) (s : List UInt8) : ((⟨#[c]⟩ : ByteArray) ++ (⟨s.toArray⟩ : ByteArray)) = ⟨(c :: s).toArray⟩ := str_append [c] s

/-- how far digits has come -/
def DRel (x0 : Nat) (x i : Nat) (s : List UInt8) : Prop := s.length = i ∧ ((i = 0 ∧ x = x0 ∧ s = []) ∨ (0 < i ∧ ((x = 0 ∧ s = Lib.decDigits x0) ∨ (0 < x ∧ Lib.decDigits x0 = Lib.decDigits x ++ s))))

theorem DRel.step {x0 x i : Nat} {s : List UInt8} (h : DRel x0 x i s) (hg : i = 0 ∨ 0 < x) : DRel x0 (x / 10) (i + 1) (UInt8.ofNat (48 + x % 10) :: s) := by
  obtain ⟨hl, h⟩ := h
  have key : Lib.decDigits x0 = Lib.decDigits x ++ s := by
    rcases h with ⟨_, rfl, rfl⟩ | ⟨hi, ⟨hx, _⟩ | ⟨_, hs⟩⟩
    · simp
    · omega
    · exact hs
  refine ⟨by simp [hl], .inr ⟨by omega, ?_⟩⟩
  conv at key => rhs; rw [Lib.decDigits]
  by_cases h10 : x < 10
  · rw [dif_pos h10] at key
    left
    refine ⟨by omega, ?_⟩
    rw [key, Nat.mod_eq_of_lt h10]; rfl
  · rw [dif_neg h10] at key
    right
    refine ⟨by omega, ?_⟩
    rw [key]; simp
theorem DRel.i_le {x0 x i : Nat} {s : List UInt8} (h : DRel x0 x i s) (hx : x0 < 100000000000000000000) : i ≤ 20 := by
  obtain ⟨hl, h⟩ := h
  have := dec_len20 x0 hx
  rcases h with ⟨h1, _⟩ | ⟨_, ⟨_, hs⟩ | ⟨_, hs⟩⟩
  · omega
  · rw [hs] at hl; omega
  · have h2 := congrArg List.length hs
    rw [List.length_append] at h2; omega
theorem DRel.end_ {x0 x i : Nat} {s : List UInt8} (h : DRel x0 x i s) (hg : ¬ (i = 0 ∨ 0 < x)) : s = Lib.decDigits x0 := by
  rcases h.2 with ⟨h1, _⟩ | ⟨_, ⟨_, hs⟩ | ⟨hx, _⟩⟩
  · omega
  · exact hs
  · omega

set_option maxHeartbeats 1000000 in
set_option maxRecDepth 100000 in
theorem digits_any (x0 : Nat) (hx0 : x0 < 18446744073709551616) (w : World) :
    Calls Tryd.prog 27 #[.int .u64 x0] w fun e w' => e = .returned (.string ⟨(Lib.decDigits x0).toArray⟩) ∧ Below w.heap.size w w' := by
  have HX := Lib.hid hx0
  clear hx0
  go_enter Tryd.func27, Tryd.ntmps27
  go_wp2
  go_loopw [0, 3, 4] (fun xv sv iv wr => ∃ (x i : Nat) (s : List UInt8), xv = .int .u64 x ∧ sv = .string ⟨s.toArray⟩ ∧ iv = .int .i64 i ∧ x ≤ x0 ∧ DRel x0 x i s ∧ Below w.heap.size w wr) (fun xv _ iv _ => 2 * (intOf xv).toNat + (1 - (intOf iv).toNat))
  case atStart => exact ⟨x0, 0, [], rfl, rfl, rfl, Nat.le_refl _, ⟨rfl, .inl ⟨rfl, rfl, rfl⟩⟩, Below.refl _ _⟩
  case round =>
    obtain ⟨x, i, s, rfl, rfl, rfl, hxl, hd, hb⟩ := hrel
    have hi := hd.i_le (by have := HX.out; omega)
    have hsl : s.length = i := hd.1
    have hs20 : s.length ≤ 20 := by omega
    have HD := Lib.hid hd
    have HB := Lib.hid hb
    have hbs := hb.size
    have hx64 : x < 18446744073709551616 := by have := HX.out; omega
    clear hd hb hsl
    by_cases hg : i = 0 ∨ 0 < x
    · have HS := Lib.hid (HD.out.step hg)
      have hstr := str_row wr (48 + (x : Int) % 10) (by omega) (by omega)
      have hc8 : UInt8.ofNat (48 + (x : Int) % 10).toNat = UInt8.ofNat (48 + x % 10) := by congr 1
      rw [hc8] at hstr
      obtain ⟨c, hc⟩ : ∃ c, c = UInt8.ofNat (48 + x % 10) := ⟨_, rfl⟩
      rw [← hc] at hstr HS
      clear hc
      by_cases hi0 : i = 0
      · have t0 : ((i : Int) == 0) = true := by simp [hi0]
        clear hg hc8
        go_wp2
        go_roundw
        case rel => exact ⟨x / 10, i + 1, c :: s, by go_num, by rw [str_cons], by go_num, by omega, HS.out, HB.out.alloc hbs _⟩
        case measure => simp [intOf]; omega
      · have t0 : ((i : Int) == 0) = false := by simp; omega
        have hx1 : (0 : Int) < x := by omega
        clear hg hc8
        go_wp2
        go_roundw
        case rel => exact ⟨x / 10, i + 1, c :: s, by go_num, by rw [str_cons], by go_num, by omega, HS.out, HB.out.alloc hbs _⟩
        case measure => simp [intOf]; omega
    · have hx0 : x = 0 := by omega
      have he := HD.out.end_ hg
      have HE := Lib.hid he
      subst hx0
      have t0 : ((i : Int) == 0) = false := by simp; omega
      clear he hg
      go_wp2
      go_ret
      exact ⟨by rw [← HE.out]; rfl, HB.out⟩
end Go.Proofs.YtdicjplekbjdpabDoor.Wd
