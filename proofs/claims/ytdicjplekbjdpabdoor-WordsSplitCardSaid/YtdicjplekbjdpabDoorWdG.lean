/- Walks of words: plain; the reference's Hide. -/
import Derived.Test.YtdicjplekbjdpabDoorWdE
namespace Go.Proofs.YtdicjplekbjdpabDoor.Wd
open Go.RowKit Go.Sort Mem
set_option linter.unusedVariables false

/-- may a byte stand in a word -/
def plB (c : Int) : Bool := decide (32 < c ∧ c ≠ 127)

theorem plain_any (c : Int) (h0 : 0 ≤ c) (h1 : c ≤ 255) (w : World) : Calls Tryd.prog 22 #[.int .u8 c] w fun e w' => e = .returned (.bool (plB c)) ∧ w = w' := by
  by_cases a : 32 < c
  · by_cases b : c = 127
    · have E : Hid (plB c = false) := decide_eq_false (by omega)
      have t0 : (c != 127) = false := by simp [b]
      clear b
      go_enter Tryd.func22, Tryd.ntmps22
      go_wp2
      go_ret
      exact ⟨by rw [E.out]; rfl, rfl⟩
    · have E : Hid (plB c = true) := decide_eq_true ⟨a, b⟩
      have t0 : (c != 127) = true := by simp [b]
      clear b
      go_enter Tryd.func22, Tryd.ntmps22
      go_wp2
      go_ret
      exact ⟨by rw [E.out]; rfl, rfl⟩
  · have E : Hid (plB c = false) := decide_eq_false (by omega)
    go_enter Tryd.func22, Tryd.ntmps22
    go_wp2
    go_ret
    exact ⟨by rw [E.out]; rfl, rfl⟩

theorem rplain_any (c : Int) (h0 : 0 ≤ c) (h1 : c ≤ 255) (w : World) : Calls Tryd.prog 23 #[.int .u8 c] w fun e w' => e = .returned (.bool (plB c)) ∧ w = w' := by
  by_cases a : 33 ≤ c
  · by_cases b : c ≤ 126
    · have E : Hid (plB c = true) := decide_eq_true (by omega)
      go_enter Tryd.func23, Tryd.ntmps23
      go_wp2
      go_ret
      exact ⟨by rw [E.out]; rfl, rfl⟩
    · by_cases d : 127 < c
      · have E : Hid (plB c = true) := decide_eq_true (by omega)
        go_enter Tryd.func23, Tryd.ntmps23
        go_wp2
        go_ret
        exact ⟨by rw [E.out]; rfl, rfl⟩
      · have E : Hid (plB c = false) := decide_eq_false (by omega)
        go_enter Tryd.func23, Tryd.ntmps23
        go_wp2
        go_ret
        exact ⟨by rw [E.out]; rfl, rfl⟩
  · have E : Hid (plB c = false) := decide_eq_false (by omega)
    have d : ¬ 127 < c := by omega
    go_enter Tryd.func23, Tryd.ntmps23
    go_wp2
    go_ret
    exact ⟨by rw [E.out]; rfl, rfl⟩

theorem plain_is {c : Int} {b : Bool} (h : plB c = b) (h0 : 0 ≤ c) (h1 : c ≤ 255) (w : World) : Calls Tryd.prog 22 #[.int .u8 c] w fun e w' => e = .returned (.bool b) ∧ w = w' := h ▸ plain_any c h0 h1 w
theorem rplain_is {c : Int} {b : Bool} (h : plB c = b) (h0 : 0 ≤ c) (h1 : c ≤ 255) (w : World) : Calls Tryd.prog 23 #[.int .u8 c] w fun e w' => e = .returned (.bool b) ∧ w = w' := h ▸ rplain_any c h0 h1 w

theorem add_run (s : ByteArray) (t : ByteArray) (h : s.size + t.size ≤ 1000000) (w : World) : (Op.stringOp .add s t).run Tryd.prog w = .ok (.string (s ++ t)) w := run_string_add_sum (P := Tryd.prog) (w := w) s t (by omega)

def HEX : ByteArray := ⟨#[48, 49, 50, 51, 52, 53, 54, 55, 56, 57, 97, 98, 99, 100, 101, 102]⟩
theorem hex_small : ∀ Z : Nat, Z < 33 → Z ≠ 10 → Z ≠ 32 → (⟨#[92, 120]⟩ : ByteArray) ++ HEX.extract ((Z : Int) / 16).toNat ((Z : Int) / 16 + 1).toNat ++ HEX.extract ((Z : Int) % 16).toNat ((Z : Int) % 16 + 1).toNat = ⟨(hide1 Z).toArray⟩ := by
  decide +kernel
theorem hex_del : (⟨#[92, 120]⟩ : ByteArray) ++ HEX.extract ((127 : Int) / 16).toNat ((127 : Int) / 16 + 1).toNat ++ HEX.extract ((127 : Int) % 16).toNat ((127 : Int) % 16 + 1).toNat = ⟨(hide1 127).toArray⟩ := by
  decide +kernel
theorem hex_form (S : ByteArray) (z : Int) (h0 : 0 ≤ z) (h7 : z < 33 ∨ z = 127) (h10 : ¬ z = 10) (h32 : ¬ z = 32) :
    S ++ (⟨#[92, 120]⟩ : ByteArray) ++ HEX.extract (z / 16).toNat (z / 16 + 1).toNat ++ HEX.extract (z % 16).toNat (z % 16 + 1).toNat = S ++ ⟨(hide1 z).toArray⟩ := by
  rw [ByteArray.append_assoc, ByteArray.append_assoc, ← ByteArray.append_assoc (a := ⟨#[92, 120]⟩)]
  congr 1
  rcases h7 with h | h
  · obtain ⟨Z, rfl⟩ := Int.eq_ofNat_of_zero_le h0
    exact hex_small Z (by omega) (by omega) (by omega)
  · subst h; exact hex_del

set_option maxHeartbeats 2000000 in
set_option maxRecDepth 100000 in
theorem rhide_any (zs : List Int) (A : Option Addr) (n c : Nat) (w : World) (hr : Row .u8 w A n zs) (hn : n ≤ 20000) :
    Calls Tryd.prog 21 #[.slice A n c] w fun e w' => e = .returned (.string ⟨(hideL zs).toArray⟩) ∧ Below w.heap.size w w' := by
  have hlz := hr.1
  have HZ := Lib.hid hlz
  have HR := Lib.hid hr
  clear hlz hr
  go_enter Tryd.func21, Tryd.ntmps21
  go_wp2
  go_loopw [4, 5] (fun s i wr => ∃ k : Nat, k ≤ n ∧ i = .int .i64 k ∧ (∃ S : ByteArray, s = .string S ∧ S = ⟨(hideL (zs.take k)).toArray⟩) ∧ Below w.heap.size w wr) (fun _ i _ => n - (intOf i).toNat)
  case atStart => exact ⟨0, Nat.zero_le _, rfl, ⟨_, rfl, by simp [hideL]⟩, Below.refl _ _⟩
  case round =>
    obtain ⟨k, hk, rfl, ⟨S, rfl, hS⟩, hbw⟩ := hrel
    have HB := Lib.hid hbw
    have hbs := hbw.size
    have hll := hideL_len (zs.take k)
    rw [List.length_take, HZ.out] at hll
    have hSs : S.size ≤ 4 * k := by rw [hS]; have : (hideL (zs.take k)).length ≤ 4 * k := by omega
                                    simpa [ByteArray.size] using this
    have HS := Lib.hid hS
    clear hbw hll hS
    by_cases hlt : k < n
    · obtain ⟨b, off, rfl, hbb, hx⟩ := (HR.out.below HB.out).at_ (by omega)
      have x0 := hx k hlt
      have y0 := HR.out.byte k
      obtain ⟨z, hz⟩ : ∃ z, z = zs.getD k 0 := ⟨_, rfl⟩
      rw [← hz] at x0 y0
      have HZZ := Lib.hid hz
      have hnext : ∀ T : List UInt8, T = hide1 z → (⟨(hideL (zs.take (k + 1))).toArray⟩ : ByteArray) = S ++ ⟨T.toArray⟩ := fun T hT => by
        rw [hideL_next (by rw [HZ.out]; exact hlt), ← HZZ.out, HS.out, str_append, hT]
      have HNX := hide hnext
      have hadd := fun (t : ByteArray) (ht : t.size ≤ 10) (w : World) => add_run S t (by omega) w
      clear hx hz hnext
      by_cases h92 : z = 92
      · have t0 : (z == 92) = true := by simp [h92]
        have hT : [92, 92] = hide1 z := by rw [h92]; decide +kernel
        have HT := Lib.hid ((unhide HNX) _ hT)
        have ha := hadd ⟨#[92, 92]⟩ (by decide)
        clear h92 hT hadd
        go_wp2
        go_roundw
        case rel => exact ⟨k + 1, by omega, by go_num, ⟨_, rfl, HT.out.symm⟩, HB.out⟩
        case measure => simp [intOf]; omega
      · have t0 : (z == 92) = false := by simp [h92]
        by_cases h32 : z = 32
        · have t1 : (z == 32) = true := by simp [h32]
          have hT : [92, 115] = hide1 z := by rw [h32]; decide +kernel
          have HT := Lib.hid ((unhide HNX) _ hT)
          have ha := hadd ⟨#[92, 115]⟩ (by decide)
          clear h32 h92 hT hadd
          go_wp2
          go_roundw
          case rel => exact ⟨k + 1, by omega, by go_num, ⟨_, rfl, HT.out.symm⟩, HB.out⟩
          case measure => simp [intOf]; omega
        · have t1 : (z == 32) = false := by simp [h32]
          by_cases h10 : z = 10
          · have t2 : (z == 10) = true := by simp [h10]
            have hT : [92, 110] = hide1 z := by rw [h10]; decide +kernel
            have HT := Lib.hid ((unhide HNX) _ hT)
            have ha := hadd ⟨#[92, 110]⟩ (by decide)
            clear h10 h32 h92 hT hadd
            go_wp2
            go_roundw
            case rel => exact ⟨k + 1, by omega, by go_num, ⟨_, rfl, HT.out.symm⟩, HB.out⟩
            case measure => simp [intOf]; omega
          · have t2 : (z == 10) = false := by simp [h10]
            cases hp : plB z
            · have hz7 : z < 33 ∨ z = 127 := by
                have := of_decide_eq_false (show decide (32 < z ∧ z ≠ 127) = false from hp)
                omega
              have HP := Lib.hid hp
              have HZ7 := Lib.hid hz7
              have H10 := Lib.hid h10
              have H32 := Lib.hid h32
              clear h10 h32 h92 hp hz7
              go_wp2_with (go_at_call 23; refine (rplain_is HP.out y0.1 y0.2 _).mono ?_; rintro e w1 ⟨rfl, rfl⟩)
              go_quiet (fail)
              go_wp2
              go_roundw
              case rel => exact ⟨k + 1, by omega, by go_num, ⟨_, rfl, ((hex_form S z y0.1 HZ7.out H10.out H32.out).trans ((unhide HNX) _ rfl).symm)⟩, Mem.below_drewN HB.out _⟩
              case measure => simp [intOf]; omega
            · have hT : [UInt8.ofNat z.toNat] = hide1 z := by
                have hz8 := of_decide_eq_true (show decide (32 < z ∧ z ≠ 127) = true from hp)
                have : escL z = [] := by unfold escL; rw [if_neg (by omega), if_neg h92, if_neg hz8.2]
                unfold hide1; rw [if_pos this]
              have HT := Lib.hid ((unhide HNX) _ hT)
              have ha := hadd ⟨#[UInt8.ofNat z.toNat]⟩ (by simp [ByteArray.size])
              have hst := str_row wr z y0.1 y0.2
              have HP := Lib.hid hp
              obtain ⟨u, hu⟩ : ∃ u, u = UInt8.ofNat z.toNat := ⟨_, rfl⟩
              rw [← hu] at ha hst HT
              clear h10 h32 h92 hp hT hadd hu
              go_wp2_with (go_at_call 23; refine (rplain_is HP.out y0.1 y0.2 _).mono ?_; rintro e w1 ⟨rfl, rfl⟩)
              go_roundw
              case rel => exact ⟨k + 1, by omega, by go_num, ⟨_, rfl, HT.out.symm⟩, HB.out.alloc hbs _⟩
              case measure => simp [intOf]; omega
    · obtain rfl : k = n := by omega
      have hfin : S = ⟨(hideL zs).toArray⟩ := by rw [HS.out, List.take_of_length_le (by rw [HZ.out]; exact Nat.le_refl _)]
      have HFI := Lib.hid hfin
      clear hfin
      go_wp2
      go_ret
      exact ⟨by rw [← HFI.out]; rfl, HB.out⟩
end Go.Proofs.YtdicjplekbjdpabDoor.Wd
