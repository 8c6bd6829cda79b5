/- Walks of the lexer's small functions: what bytes are, what stands ahead, giving up. -/
import Derived.Test.YtnbchikiiipejaaGreatDoorProg
import Derived.Test.YtnbchikiiipejaaGreatDoorStr
import Derived.Test.YtnbchikiiipejaaGreatDoorNfRef
import Derived.WalkKit
import Derived.WalkSpells
import Derived.WalkLawsBesides
import Derived.WalkSmall
import Derived.BigQuiet
import Derived.Deep.QuietTactic
import Derived.Lib.Hide
import Derived.RangeFuncBox
import Derived.StillTailTactics
import Derived.IntWalk
import Derived.Lib.SlBytesConst
set_option linter.unusedVariables false
set_option maxRecDepth 100000
set_option maxHeartbeats 2000000
namespace Go.Proofs.YtnbchikiiipejaaGreatDoor.Lx
open Go.RowKit Mem
def Rd (W : World) (b : Nat) (s : ByteArray) (k : Nat) : Prop := W.heap[b]? = some (.cells #[.string s, .int .i64 k] 266 (0, 0))
theorem Rd.lt {W : World} {b k : Nat} {s : ByteArray} (h : Rd W b s k) : b < W.heap.size := (Array.getElem?_eq_some_iff.1 h).1
theorem Rd.c0 {W : World} {b k : Nat} {s : ByteArray} (h : Rd W b s k) : W.cell? ⟨b, 0, none⟩ = some (.string s) := by unfold Rd at h; simp [World.cell?, h]
theorem Rd.c1 {W : World} {b k : Nat} {s : ByteArray} (h : Rd W b s k) : W.cell? ⟨b, 1, none⟩ = some (.int .i64 k) := by unfold Rd at h; simp [World.cell?, h]
theorem Rd.free {W : World} {b k : Nat} {s : ByteArray} (h : Rd W b s k) (j : Nat) : W.frozen? ⟨b, j, none⟩ = false := by unfold Rd at h; simp [World.frozen?, h]
theorem Rd.drewN {W : World} {b k : Nat} {s : ByteArray} (h : Rd W b s k) (m : Nat) : Rd (W.drewN m) b s k := h
theorem Rd.drew {W : World} {b k : Nat} {s : ByteArray} (h : Rd W b s k) : Rd W.drew b s k := h
theorem Rd.set {W : World} {b k : Nat} {s : ByteArray} (h : Rd W b s k) (k' : Nat) : Rd (W.setCell ⟨b, 1, none⟩ (.int .i64 k')) b s k' := by
 unfold Rd at h ⊢
 simp [World.setCell, Array.getElem?_modify, h]
theorem Rd.set1 {W : World} {b k : Nat} {s : ByteArray} (h : Rd W b s k) (k' : Nat) : Rd (W.setCell ⟨b, 1, none⟩ (.int .i64 ((k' : Int) + 1))) b s (k' + 1) := by
 have := h.set (k' + 1)
 rwa [Int.natCast_add] at this
theorem Rd.kept {W W' : World} {b k : Nat} {s : ByteArray} {row : Option Nat} (h : Rd W b s k) (hg : W.grownBy W' row) (hne : some b ≠ row) : Rd W' b s k := (hg.block b h.lt hne).trans h
theorem only_drewN {a w : World} {row : Option Nat} (h : a.grownBy w row) (m : Nat) : a.grownBy (w.drewN m) row := ⟨h.os, h.tape, h.output, h.size, h.block⟩
theorem Rd.alloc {W : World} {b k : Nat} {s : ByteArray} (h : Rd W b s k) (o : Obj) : Rd (W.alloc o) b s k := (Below.heap_alloc W o b h.lt).trans h
theorem grown_set (W : World) (b : Nat) (j : Nat) (v : Value) : W.grownBy (W.setCell ⟨b, j, none⟩ v) (some b) :=
 ⟨rfl, rfl, rfl, (KeepsWalks.setCell W _ v).size, fun k _ hk => Below.heap_setCell _ _ _ k (fun e => hk (by rw [e]))⟩
theorem grown_refl (W : World) (row : Option Nat) : W.grownBy W row := World.grownBy.refl W row
def blkI (c : Int) : Bool := c == 32
def smI (c : Int) : Bool := decide (97 ≤ c) && decide (c ≤ 122)
def dgI (c : Int) : Bool := decide (48 ≤ c) && decide (c ≤ 57)
def inI (c : Int) : Bool := smI c || dgI c
theorem smI_nat (c : UInt8) : smI (c.toNat : Int) = smB c := by
 simp only [smI, smB]; congr 1 <;> simp only [decide_eq_decide] <;> omega
theorem dgI_nat (c : UInt8) : dgI (c.toNat : Int) = dgB c := by
 simp only [dgI, dgB]; congr 1 <;> simp only [decide_eq_decide] <;> omega
theorem inI_nat (c : UInt8) : inI (c.toNat : Int) = inB c := by rw [inI, inB, smI_nat, dgI_nat]
def Tells (f : Nat) (p : Int → Bool) : Prop := ∀ (c : Int) (w : World), 0 ≤ c → c ≤ 255 → Calls Tryz.prog f #[.int .u8 c] w fun e w' => e = .returned (.bool (p c)) ∧ w' = w
theorem blank_any : Tells 163 blkI := by
 intro c w h0 h1
 have E : Hid (blkI c = (c == 32)) := by show _ = _; rfl
 go_enter Tryz.func163, Tryz.ntmps163
 go_wp2
 go_ret
 exact ⟨by rw [E.out]; rfl, rfl⟩
theorem letter_any : Tells 209 smI := by
 intro c w h0 h1
 by_cases a : 97 ≤ c
 ·by_cases b : c ≤ 122
  ·have E : Hid (smI c = true) := by show _ = _; simp [smI, a, b]
   go_enter Tryz.func209, Tryz.ntmps209
   go_wp2
   go_ret
   exact ⟨by rw [E.out]; rfl, rfl⟩
  ·have E : Hid (smI c = false) := by show _ = _; simp [smI, b]
   have d : decide (c ≤ 122) = false := by simpa using b
   clear b
   go_enter Tryz.func209, Tryz.ntmps209
   go_wp2
   go_ret
   exact ⟨by rw [E.out]; rfl, rfl⟩
 ·have E : Hid (smI c = false) := by show _ = _; simp [smI, a]
  have d : decide (97 ≤ c) = false := by simpa using a
  clear a
  go_enter Tryz.func209, Tryz.ntmps209
  go_wp2
  go_ret
  exact ⟨by rw [E.out]; rfl, rfl⟩
theorem digit_any : Tells 262 dgI := by
 intro c w h0 h1
 by_cases a : 48 ≤ c
 ·by_cases b : c ≤ 57
  ·have E : Hid (dgI c = true) := by show _ = _; simp [dgI, a, b]
   go_enter Tryz.func262, Tryz.ntmps262
   go_wp2
   go_ret
   exact ⟨by rw [E.out]; rfl, rfl⟩
  ·have E : Hid (dgI c = false) := by show _ = _; simp [dgI, b]
   have d : decide (c ≤ 57) = false := by simpa using b
   clear b
   go_enter Tryz.func262, Tryz.ntmps262
   go_wp2
   go_ret
   exact ⟨by rw [E.out]; rfl, rfl⟩
 ·have E : Hid (dgI c = false) := by show _ = _; simp [dgI, a]
  have d : decide (48 ≤ c) = false := by simpa using a
  clear a
  go_enter Tryz.func262, Tryz.ntmps262
  go_wp2
  go_ret
  exact ⟨by rw [E.out]; rfl, rfl⟩
theorem inName_any : Tells 242 inI := by
 intro c w h0 h1
 by_cases a : smI c = true
 ·have E : Hid (inI c = true) := by show _ = _; simp [inI, a]
  have HC := hide (show Calls Tryz.prog 209 #[.int .u8 c] w fun e w' => e = .returned (.bool true) ∧ w' = w from by
   have := letter_any c w h0 h1; rwa [a] at this)
  clear a
  go_enter Tryz.func242, Tryz.ntmps242
  go_wp2_with (go_at_call 209; refine (unhide HC).mono ?_; rintro e w' ⟨rfl, rfl⟩)
  go_ret
  exact ⟨by rw [E.out]; rfl, rfl⟩
 ·have a' : smI c = false := by simpa using a
  have E : Hid (inI c = dgI c) := by show _ = _; simp [inI, a']
  have HC := hide (show Calls Tryz.prog 209 #[.int .u8 c] w fun e w' => e = .returned (.bool false) ∧ w' = w from by
   have := letter_any c w h0 h1; rwa [a'] at this)
  have HD := hide (digit_any c w h0 h1)
  clear a a'
  go_enter Tryz.func242, Tryz.ntmps242
  go_wp2_with (first
   | (go_at_call 209; refine (unhide HC).mono ?_; rintro e w' ⟨rfl, rfl⟩)
   | (go_at_call 262; refine (unhide HD).mono ?_; rintro e w' ⟨rfl, rfl⟩))
  go_ret
  exact ⟨by rw [E.out]; rfl, rfl⟩
def chain (k c : Int) : List PanicEntry := [{ v := .iface 263 (.agg #[.int .i64 k, .int .i64 c]), recovered := false }]
theorem must_ok (k c : Int) (x : Nat) (w : World) : Calls Tryz.prog 165 #[.pointer (some ⟨x, 0, none⟩), .bool true, .int .i64 k, .int .i64 c] w fun e w' => e = .returned (.tuple #[]) ∧ w' = w := by
 go_enter Tryz.func165, Tryz.ntmps165
 go_wp2
 go_end0
 exact ⟨rfl, rfl⟩
theorem must_bad (k c : Int) (x : Nat) (w : World) : Calls Tryz.prog 165 #[.pointer (some ⟨x, 0, none⟩), .bool false, .int .i64 k, .int .i64 c] w fun e w' => e = .panicked (chain k c) ∧ w' = w := by
 go_enter Tryz.func165, Tryz.ntmps165
 go_wp2
 exact ⟨rfl, rfl, rfl⟩
theorem drop_cons (s : ByteArray) (k : Nat) (h : k < s.size) : s.data.toList.drop k = s[k] :: s.data.toList.drop (k + 1) := by
 have h' : k < s.data.toList.length := by rw [Array.length_toList]; exact h
 rw [List.drop_eq_getElem_cons h']; rfl
theorem drop_end (s : ByteArray) (k : Nat) (h : s.size ≤ k) : s.data.toList.drop k = [] := by
 apply List.drop_eq_nil_of_le; rw [Array.length_toList]; exact h
theorem ahead_end_blank (b : Nat) (s : ByteArray) (k : Nat) (w : World) (r : Rd w b s k) (hk : s.size ≤ k) (hs : s.size ≤ 100000) (hk2 : k ≤ 100000) :
  Calls Tryz.prog 208 #[.pointer (some ⟨b, 0, none⟩), .func (.func 163) #[] #[]] w fun e w' => e = .returned (.bool false) ∧ ∃ n, w' = w.drewN n := by
 have c0 := r.c0
 have c1 := r.c1
 have d : decide (k < s.size) = false := by simp; omega
 clear r hk
 go_enter Tryz.func208, Tryz.ntmps208
 go_wp2
 go_quiet (fail)
 go_wp2
 go_ret
 exact ⟨rfl, _, rfl⟩
theorem ahead_in_blank (b : Nat) (s : ByteArray) (k : Nat) (w : World) (r : Rd w b s k) (hk : k < s.size) (hs : s.size ≤ 100000) :
  Calls Tryz.prog 208 #[.pointer (some ⟨b, 0, none⟩), .func (.func 163) #[] #[]] w fun e w' => e = .returned (.bool (blkI (s[k].toNat : Int))) ∧ ∃ n, w' = w.drewN n := by
 have c0 := r.c0
 have c1 := r.c1
 have d : decide (k < s.size) = true := by simpa using hk
 have i0 : (0 : Int) ≤ (k : Int) := by omega
 have i1 : (k : Int) < (s.size : Int) := by omega
 have hb := s[k].toNat_lt
 have HF := hide (fun n => blank_any (s[k].toNat : Int) (w.drewN n) (by omega) (by omega))
 clear r
 go_enter Tryz.func208, Tryz.ntmps208
 go_wp2
 go_quiet ((go_at_call 163; exact Calls.quiet_of_same (HF.out _)))
 go_wp2
 go_ret
 exact ⟨rfl, _, rfl⟩
theorem ahead_end_inName (b : Nat) (s : ByteArray) (k : Nat) (w : World) (r : Rd w b s k) (hk : s.size ≤ k) (hs : s.size ≤ 100000) (hk2 : k ≤ 100000) :
  Calls Tryz.prog 208 #[.pointer (some ⟨b, 0, none⟩), .func (.func 242) #[] #[]] w fun e w' => e = .returned (.bool false) ∧ ∃ n, w' = w.drewN n := by
 have c0 := r.c0
 have c1 := r.c1
 have d : decide (k < s.size) = false := by simp; omega
 clear r hk
 go_enter Tryz.func208, Tryz.ntmps208
 go_wp2
 go_quiet (fail)
 go_wp2
 go_ret
 exact ⟨rfl, _, rfl⟩
theorem ahead_in_inName (b : Nat) (s : ByteArray) (k : Nat) (w : World) (r : Rd w b s k) (hk : k < s.size) (hs : s.size ≤ 100000) :
  Calls Tryz.prog 208 #[.pointer (some ⟨b, 0, none⟩), .func (.func 242) #[] #[]] w fun e w' => e = .returned (.bool (inI (s[k].toNat : Int))) ∧ ∃ n, w' = w.drewN n := by
 have c0 := r.c0
 have c1 := r.c1
 have d : decide (k < s.size) = true := by simpa using hk
 have i0 : (0 : Int) ≤ (k : Int) := by omega
 have i1 : (k : Int) < (s.size : Int) := by omega
 have hb := s[k].toNat_lt
 have HF := hide (fun n => inName_any (s[k].toNat : Int) (w.drewN n) (by omega) (by omega))
 clear r
 go_enter Tryz.func208, Tryz.ntmps208
 go_wp2
 go_quiet ((go_at_call 242; exact Calls.quiet_of_same (HF.out _)))
 go_wp2
 go_ret
 exact ⟨rfl, _, rfl⟩
theorem ahead_end_digit (b : Nat) (s : ByteArray) (k : Nat) (w : World) (r : Rd w b s k) (hk : s.size ≤ k) (hs : s.size ≤ 100000) (hk2 : k ≤ 100000) :
  Calls Tryz.prog 208 #[.pointer (some ⟨b, 0, none⟩), .func (.func 262) #[] #[]] w fun e w' => e = .returned (.bool false) ∧ ∃ n, w' = w.drewN n := by
 have c0 := r.c0
 have c1 := r.c1
 have d : decide (k < s.size) = false := by simp; omega
 clear r hk
 go_enter Tryz.func208, Tryz.ntmps208
 go_wp2
 go_quiet (fail)
 go_wp2
 go_ret
 exact ⟨rfl, _, rfl⟩
theorem ahead_in_digit (b : Nat) (s : ByteArray) (k : Nat) (w : World) (r : Rd w b s k) (hk : k < s.size) (hs : s.size ≤ 100000) :
  Calls Tryz.prog 208 #[.pointer (some ⟨b, 0, none⟩), .func (.func 262) #[] #[]] w fun e w' => e = .returned (.bool (dgI (s[k].toNat : Int))) ∧ ∃ n, w' = w.drewN n := by
 have c0 := r.c0
 have c1 := r.c1
 have d : decide (k < s.size) = true := by simpa using hk
 have i0 : (0 : Int) ≤ (k : Int) := by omega
 have i1 : (k : Int) < (s.size : Int) := by omega
 have hb := s[k].toNat_lt
 have HF := hide (fun n => digit_any (s[k].toNat : Int) (w.drewN n) (by omega) (by omega))
 clear r
 go_enter Tryz.func208, Tryz.ntmps208
 go_wp2
 go_quiet ((go_at_call 262; exact Calls.quiet_of_same (HF.out _)))
 go_wp2
 go_ret
 exact ⟨rfl, _, rfl⟩
end Go.Proofs.YtnbchikiiipejaaGreatDoor.Lx
namespace Go.Proofs.YtnbchikiiipejaaGreatDoor.Lx
open Go.RowKit Mem
def blkB (c : UInt8) : Bool := blkI (c.toNat : Int)
theorem run_yes (p : UInt8 → Bool) (s : ByteArray) (k : Nat) (h : k < s.size) (hp : p s[k] = true) : run p (s.data.toList.drop k) = run p (s.data.toList.drop (k + 1)) + 1 := by
 rw [drop_cons s k h, run, if_pos hp]
theorem run_no (p : UInt8 → Bool) (s : ByteArray) (k : Nat) (h : k < s.size) (hp : p s[k] = false) : run p (s.data.toList.drop k) = 0 := by
 rw [drop_cons s k h, run, if_neg (by simp [hp])]
theorem run_end (p : UInt8 → Bool) (s : ByteArray) (k : Nat) (h : s.size ≤ k) : run p (s.data.toList.drop k) = 0 := by
 rw [drop_end s k h]; rfl
theorem run_max (p : UInt8 → Bool) (s : ByteArray) (k : Nat) (h : k ≤ s.size) : k + run p (s.data.toList.drop k) ≤ s.size := by
 have := run_le p (s.data.toList.drop k)
 rw [List.length_drop, Array.length_toList] at this
 have e : s.data.size = s.size := rfl
 omega
theorem pass_any (b : Nat) (s : ByteArray) (k : Nat) (w : World) (r : Rd w b s k) (hk : k ≤ s.size) (hs : s.size ≤ 100000) :
  Calls Tryz.prog 162 #[.pointer (some ⟨b, 0, none⟩), .func (.func 163) #[] #[]] w fun e w' => e = .returned (.tuple #[]) ∧ Rd w' b s (k + run blkB (s.data.toList.drop k)) ∧ w.grownBy w' (some b) := by
 obtain ⟨T, hT⟩ : ∃ T, T = k + run blkB (s.data.toList.drop k) := ⟨_, rfl⟩
 rw [← hT]
 have HT := Lib.hid hT
 have HR := Lib.hid r
 clear hT r
 go_enter Tryz.func162, Tryz.ntmps162
 go_wp2_with fail
 go_loopw [6] (fun _ wr => ∃ j : Nat, j ≤ s.size ∧ Hid (Rd wr b s j) ∧ Hid (w.grownBy wr (some b)) ∧ Hid (T = j + run blkB (s.data.toList.drop j))) (fun _ wr => s.size - (intOf ((wr.cell? ⟨b, 1, none⟩).getD undef)).toNat)
 case atStart => exact ⟨k, hk, HR, Lib.hid (grown_refl _ _), HT⟩
 case round =>
  obtain ⟨j, hj, hr, hg, ht⟩ := hrel
  have hsz := hr.out.c1
  have hfz := hr.out.free 1
  by_cases hlt : j < s.size
  ·cases hp : blkI (s[j].toNat : Int) with
   | true =>
    have HC0 := ahead_in_blank b s j wr hr.out hlt hs
    rw [hp] at HC0
    have HC := Lib.hid HC0
    have HT2 : Hid (T = (j + 1) + run blkB (s.data.toList.drop (j + 1))) := by
     have e := ht.out; rw [run_yes blkB s j hlt hp] at e; show _ = _; omega
    clear hp ht HC0
    go_wp2_with (go_at_call 208; refine HC.out.mono ?_; rintro e w' ⟨rfl, n, rfl⟩)
    have HR2 := Lib.hid (((hr.out).drewN n).set1 j)
    have HG2 := Lib.hid (World.grownBy.trans (only_drewN hg.out n) (grown_set _ b 1 (.int .i64 ((j : Int) + 1))))
    go_roundw
    case rel => exact ⟨j + 1, by omega, HR2, HG2, HT2⟩
    case measure => rw [hsz, HR2.out.c1]; simp [intOf]; omega
   | false =>
    have HC0 := ahead_in_blank b s j wr hr.out hlt hs
    rw [hp] at HC0
    have HC := Lib.hid HC0
    have HT2 : Hid (T = j) := by
     have e := ht.out; rw [run_no blkB s j hlt hp] at e; exact e
    clear hp ht HC0
    go_wp2_with (go_at_call 208; refine HC.out.mono ?_; rintro e w' ⟨rfl, n, rfl⟩)
    go_end0
    exact ⟨rfl, by rw [HT2.out]; exact hr.out.drewN n, only_drewN hg.out n⟩
  ·have HC := Lib.hid (ahead_end_blank b s j wr hr.out (by omega) hs (by omega))
   have HT2 : Hid (T = j) := by
    have e := ht.out; rw [run_end blkB s j (by omega)] at e; exact e
   clear ht
   go_wp2_with (go_at_call 208; refine HC.out.mono ?_; rintro e w' ⟨rfl, n, rfl⟩)
   go_end0
   exact ⟨rfl, by rw [HT2.out]; exact hr.out.drewN n, only_drewN hg.out n⟩
theorem next_in (b : Nat) (s : ByteArray) (k : Nat) (w : World) (r : Rd w b s k) (hk : k < s.size) (hs : s.size ≤ 100000) :
  Calls Tryz.prog 244 #[.pointer (some ⟨b, 0, none⟩)] w fun e w' => e = .returned (.int .u8 (s[k].toNat : Int)) ∧ ∃ n, w' = w.drewN n := by
 have c0 := r.c0
 have c1 := r.c1
 have d : decide (k < s.size) = true := by simpa using hk
 have i0 : (0 : Int) ≤ (k : Int) := by omega
 have i1 : (k : Int) < (s.size : Int) := by omega
 have HM := hide (fun n => must_ok (k : Int) 5 b (w.drewN n))
 clear r
 go_enter Tryz.func244, Tryz.ntmps244
 go_wp2
 go_quiet ((go_at_call 165; exact Calls.quiet_of_same (HM.out _)))
 go_wp2
 go_quiet (fail)
 go_wp2
 go_ret
 exact ⟨rfl, _, by rw [World.drewN_drewN]⟩
theorem next_end (b : Nat) (s : ByteArray) (k : Nat) (w : World) (r : Rd w b s k) (hk : s.size ≤ k) (hs : s.size ≤ 100000) (hk2 : k ≤ 100000) :
  Calls Tryz.prog 244 #[.pointer (some ⟨b, 0, none⟩)] w fun e w' => e = .panicked (chain k 5) ∧ ∃ n, w' = w.drewN n := by
 have c0 := r.c0
 have c1 := r.c1
 have d : decide (k < s.size) = false := by simp; omega
 have HM := hide (fun n => must_bad k 5 b (w.drewN n))
 clear r
 go_enter Tryz.func244, Tryz.ntmps244
 go_wp2
 refine wp_region_dies_at (ch := chain k 5) 15 0 0 15 _ (by kernel_rfl) rfl (by simp) (by kernel_rfl) (by kernel_rfl) ?_ ?_
 ·simp only [List.take_succ_cons, List.take_zero, List.drop_zero, List.append_nil]
  repeat (quiet_step (fail))
  refine wpQuiet_nil ⟨rfl, dies_end 165 #[.pointer (some ⟨b, 0, none⟩), .bool false, .int .i64 k, .int .i64 5] (fun n => by go_simp) (fun n => ?_)⟩
  exact (HM.out n).mono fun e w' ⟨he, hw⟩ => ⟨he, 0, hw⟩
 ·intro a' n hd
  exact ⟨hd, rfl, _, rfl⟩
end Go.Proofs.YtnbchikiiipejaaGreatDoor.Lx
namespace Go.Proofs.YtnbchikiiipejaaGreatDoor.Lx
open Go.RowKit Mem
def sgV (x : Sg) : Value := .agg #[.int .i64 x.kind, .int .i64 x.at_, .int .i64 x.low, .int .i64 x.high, .string ⟨x.name.toArray⟩]
def inB' (c : UInt8) : Bool := inI (c.toNat : Int)
theorem inB'_eq : inB' = inB := funext fun c => inI_nat c
theorem extract_list (s : ByteArray) (k n : Nat) (h : k + n ≤ s.size) : s.extract k (k + n) = ⟨((s.data.toList.drop k).take n).toArray⟩ := by
 apply ByteArray.ext
 rw [ByteArray.data_extract]
 apply Array.ext'
 simp
def SB (W : World) (B : Nat) (a b c d : Int) (s : ByteArray) : Prop := W.heap[B]? = some (.cells #[.int .i64 a, .int .i64 b, .int .i64 c, .int .i64 d, .string s] 222 (0, 0))
section
variable {W W' : World} {B : Nat} {a b c d : Int} {s : ByteArray}
theorem SB.lt (h : SB W B a b c d s) : B < W.heap.size := (Array.getElem?_eq_some_iff.1 h).1
theorem SB.kept {row : Option Nat} (h : SB W B a b c d s) (hg : W.grownBy W' row) (hne : some B ≠ row) : SB W' B a b c d s := (hg.block B h.lt hne).trans h
theorem SB.cells (h : SB W B a b c d s) : W.cell? ⟨B, 0, none⟩ = some (.int .i64 a) ∧ W.cell? ⟨B, 1, none⟩ = some (.int .i64 b) ∧ W.cell? ⟨B, 2, none⟩ = some (.int .i64 c) ∧ W.cell? ⟨B, 3, none⟩ = some (.int .i64 d) ∧ W.cell? ⟨B, 4, none⟩ = some (.string s) := by
 unfold SB at h; simp [World.cell?, h]
theorem SB.free (h : SB W B a b c d s) (j : Nat) : W.frozen? ⟨B, j, none⟩ = false := by unfold SB at h; simp [World.frozen?, h]
theorem SB.new (W : World) (a b c d : Int) (s : ByteArray) : SB (W.alloc (.cells #[.int .i64 a, .int .i64 b, .int .i64 c, .int .i64 d, .string s] 222)) W.heap.size a b c d s := World.alloc_heap_new W _
def st5 (W : World) (B : Nat) (a b c d : Int) (s : ByteArray) : World :=
 ((((W.setCell ⟨B, 0, none⟩ (.int .i64 a)).setCell ⟨B, 1, none⟩ (.int .i64 b)).setCell ⟨B, 2, none⟩ (.int .i64 c)).setCell ⟨B, 3, none⟩ (.int .i64 d)).setCell ⟨B, 4, none⟩ (.string s)
theorem SB.st5 (h : SB W B a b c d s) (a' b' c' d' : Int) (s' : ByteArray) : SB (st5 W B a' b' c' d' s') B a' b' c' d' s' := by
 unfold SB at h ⊢; simp [Lx.st5, World.setCell, Array.getElem?_modify, h]
theorem st5_grown (W : World) (B : Nat) (a b c d : Int) (s : ByteArray) : W.grownBy (Lx.st5 W B a b c d s) (some B) :=
 ((((grown_set W B 0 _).trans (grown_set _ B 1 _)).trans (grown_set _ B 2 _)).trans (grown_set _ B 3 _)).trans (grown_set _ B 4 _)
theorem grown_new {w W W' : World} {row : Option Nat} {B : Nat} (h : w.grownBy W row) (g : W.grownBy W' (some B)) (hB : w.heap.size ≤ B) : w.grownBy W' row :=
 only_trans h g (fun i hi e => by injection e with e; omega)
end
def Drawn (w w' : World) : Prop := ∃ n, w' = w.drewN n
theorem Drawn.rd {w w' : World} {b k : Nat} {s : ByteArray} (h : Drawn w w') (r : Rd w b s k) : Rd w' b s k := by obtain ⟨n, rfl⟩ := h; exact r
theorem Drawn.sb {w w' : World} {B : Nat} {a b c d : Int} {s : ByteArray} (h : Drawn w w') (r : SB w B a b c d s) : SB w' B a b c d s := by obtain ⟨n, rfl⟩ := h; exact r
theorem Drawn.grown {w0 w w' : World} {row : Option Nat} (h : Drawn w w') (g : w0.grownBy w row) : w0.grownBy w' row := by obtain ⟨n, rfl⟩ := h; exact only_drewN g n
theorem Drawn.trans {w w' w'' : World} (h : Drawn w w') (g : Drawn w' w'') : Drawn w w'' := by
 obtain ⟨n, rfl⟩ := h; obtain ⟨m, rfl⟩ := g; exact ⟨n + m, by rw [World.drewN_drewN]⟩
theorem name_step {p : UInt8 → Bool} {s : ByteArray} {k j n : Nat} (ht : k + n = j + run p (s.data.toList.drop j)) (h : j < s.size) (hp : p s[j] = true) : k + n = (j + 1) + run p (s.data.toList.drop (j + 1)) := by
 rw [run_yes p s j h hp] at ht; omega
theorem name_any (b : Nat) (s : ByteArray) (k n : Nat) (w : World) (r : Rd w b s k) (hk : k < s.size) (hs : s.size ≤ 100000) (hn : n = run inB (s.data.toList.drop k)) (hn12 : n ≤ 12) :
  Calls Tryz.prog 210 #[.pointer (some ⟨b, 0, none⟩)] w fun e w' => e = .returned (.agg #[.int .i64 1, .int .i64 0, .int .i64 0, .int .i64 0, .string (s.extract k (k + n))]) ∧ Rd w' b s (k + n) ∧ w.grownBy w' (some b) := by
 have HN : Hid (k + n = k + run inB' (s.data.toList.drop k)) := by show _ = _; rw [inB'_eq, hn]
 have HM : Hid (k + n ≤ s.size) := by have := run_max inB s k (by omega); show _ ≤ _; omega
 have c1 := r.c1
 have hbw := r.lt
 have HR := Lib.hid r
 clear r hn
 go_enter Tryz.func210, Tryz.ntmps210
 go_wp2_with fail
 have HR1 := Lib.hid (HR.out.alloc (.cells #[.int .i64 0, .int .i64 0, .int .i64 0, .int .i64 0, .string ⟨#[]⟩] 222))
 have HB1 := Lib.hid (SB.new w 0 0 0 0 ⟨#[]⟩)
 have HG1 := Lib.hid (World.grownBy_alloc w (.cells #[.int .i64 0, .int .i64 0, .int .i64 0, .int .i64 0, .string ⟨#[]⟩] 222) (some b))
 have hne : Hid (some w.heap.size ≠ some b) := by show _ ≠ _; intro e; injection e; omega
 clear c1
 go_loopw [9] (fun _ wr => ∃ j : Nat, k ≤ j ∧ j ≤ s.size ∧ j ≤ k + 12 ∧ Hid (Rd wr b s j) ∧ Hid (SB wr w.heap.size 0 0 0 0 ⟨#[]⟩) ∧ Hid (w.grownBy wr (some b)) ∧ Hid (k + n = j + run inB' (s.data.toList.drop j))) (fun _ wr => s.size - (intOf ((wr.cell? ⟨b, 1, none⟩).getD undef)).toNat)
 case atStart => exact ⟨k, Nat.le_refl _, by omega, by omega, HR1, HB1, HG1, HN⟩
 case round =>
  obtain ⟨j, hkj, hj, hj12, hr, hB, hg, ht⟩ := hrel
  have c1 := hr.out.c1
  have cf := hr.out.free 1
  by_cases hlt : j < s.size
  ·cases hp : inI (s[j].toNat : Int) with
   | true =>
    have HC0 := ahead_in_inName b s j wr hr.out hlt hs
    rw [hp] at HC0
    have HC := Lib.hid HC0
    have HT2 := Lib.hid (name_step ht.out hlt hp)
    have h12 : j - k < 12 := by have := HT2.out; omega
    clear hp ht HC0
    have hw : IntKind.i64.wrap ((j : Int) - (k : Int)) = (j : Int) - (k : Int) := IntWalk.i64_in _ (by omega)
    have hd : decide ((j : Int) - (k : Int) < 12) = true := by simp; omega
    go_wp2_with (go_at_call 208; refine HC.out.mono ?_; rintro e w1 ⟨rfl, hw1⟩; have HW : Hid (Drawn wr w1) := hw1; clear hw1; have d1 := (HW.out.rd hr.out).c1; have d2 := (HW.out.rd hr.out).free 1)
    have HM2 := hide (fun n => must_ok (j : Int) 2 b (w1.drewN n))
    go_quiet ((go_at_call 165; exact Calls.quiet_of_same (HM2.out _)))
    have HD := Lib.hid (HW.out.trans ⟨nq, rfl⟩)
    have HR2 := Lib.hid ((HD.out.rd hr.out).set1 j)
    have HG2 := Lib.hid (World.grownBy.trans (HD.out.grown hg.out) (grown_set _ b 1 (.int .i64 ((j : Int) + 1))))
    have HB2 := Lib.hid ((HD.out.sb hB.out).kept (grown_set _ b 1 (.int .i64 ((j : Int) + 1))) hne.out)
    go_wp2_with fail
    go_roundw
    case rel => exact ⟨j + 1, by omega, by omega, by omega, HR2, HB2, HG2, HT2⟩
    case measure => rw [c1, HR2.out.c1]; simp [intOf]; omega
   | false =>
    have HC0 := ahead_in_inName b s j wr hr.out hlt hs
    rw [hp] at HC0
    have HC := Lib.hid HC0
    have HT2 : Hid (j = k + n) := by
     have e := ht.out; rw [run_no inB' s j hlt hp] at e; exact e.symm
    clear hp ht HC0
    go_wp2_with (go_at_call 208; refine HC.out.mono ?_; rintro e w1 ⟨rfl, hw1⟩; have HW : Hid (Drawn wr w1) := hw1; clear hw1; have d0 := (HW.out.rd hr.out).c0; have d1 := (HW.out.rd hr.out).c1; have d2 := (HW.out.rd hr.out).free 1)
    obtain ⟨b0, b1, b2, b3, b4⟩ := (HW.out.sb hB.out).cells
    have f0 := (HW.out.sb hB.out).free 0
    have f1 := (HW.out.sb hB.out).free 1
    have f2 := (HW.out.sb hB.out).free 2
    have f3 := (HW.out.sb hB.out).free 3
    have f4 := (HW.out.sb hB.out).free 4
    have i0 : (0 : Int) ≤ (k : Int) := by omega
    have i1 : (k : Int) ≤ (j : Int) := by omega
    have i2 : (j : Int) ≤ (s.size : Int) := by omega
    go_still_tail 11, (by kernel_rfl)
    change wpList _ _ _ _ _ w1.drew
    go_wp2
    have HS := Lib.hid (((HW.out.sb hB.out).st5 1 0 0 0 (s.extract k j)))
    have HR3 := Lib.hid ((HW.out.rd hr.out).kept (st5_grown w1 w.heap.size 1 0 0 0 (s.extract k j)) (Ne.symm hne.out))
    have HG3 := Lib.hid (grown_new (HW.out.grown hg.out) (st5_grown w1 w.heap.size 1 0 0 0 (s.extract k j)) (Nat.le_refl _))
    clear b0 b1 b2 b3 b4 f0 f1 f2 f3 f4 d0 d1 d2
    change bodyPost _ _ _ _ _ (World.drew (st5 w1 w.heap.size 1 0 0 0 (s.extract k j)))
    generalize st5 w1 w.heap.size 1 0 0 0 (s.extract k j) = W2 at HS HR3 HG3 ⊢
    obtain ⟨b0, b1, b2, b3, b4⟩ := HS.out.cells
    refine bodyPost_ret (v := .agg #[.int .i64 1, .int .i64 0, .int .i64 0, .int .i64 0, .string (s.extract k j)]) (by simp [results, Tryz.results210, go_sem, b0, b1, b2, b3, b4]) rfl ⟨by rw [HT2.out], by rw [← HT2.out]; exact HR3.out.drew, only_drew HG3.out⟩
  ·have HC := Lib.hid (ahead_end_inName b s j wr hr.out (by omega) hs (by omega))
   have HT2 : Hid (j = k + n) := by
    have e := ht.out; rw [run_end inB' s j (by omega)] at e; exact e.symm
   clear ht
   go_wp2_with (go_at_call 208; refine HC.out.mono ?_; rintro e w1 ⟨rfl, hw1⟩; have HW : Hid (Drawn wr w1) := hw1; clear hw1; have d0 := (HW.out.rd hr.out).c0; have d1 := (HW.out.rd hr.out).c1; have d2 := (HW.out.rd hr.out).free 1)
   obtain ⟨b0, b1, b2, b3, b4⟩ := (HW.out.sb hB.out).cells
   have f0 := (HW.out.sb hB.out).free 0
   have f1 := (HW.out.sb hB.out).free 1
   have f2 := (HW.out.sb hB.out).free 2
   have f3 := (HW.out.sb hB.out).free 3
   have f4 := (HW.out.sb hB.out).free 4
   have i0 : (0 : Int) ≤ (k : Int) := by omega
   have i1 : (k : Int) ≤ (j : Int) := by omega
   have i2 : (j : Int) ≤ (s.size : Int) := by omega
   go_still_tail 11, (by kernel_rfl)
   change wpList _ _ _ _ _ w1.drew
   go_wp2
   have HS := Lib.hid (((HW.out.sb hB.out).st5 1 0 0 0 (s.extract k j)))
   have HR3 := Lib.hid ((HW.out.rd hr.out).kept (st5_grown w1 w.heap.size 1 0 0 0 (s.extract k j)) (Ne.symm hne.out))
   have HG3 := Lib.hid (grown_new (HW.out.grown hg.out) (st5_grown w1 w.heap.size 1 0 0 0 (s.extract k j)) (Nat.le_refl _))
   clear b0 b1 b2 b3 b4 f0 f1 f2 f3 f4 d0 d1 d2
   change bodyPost _ _ _ _ _ (World.drew (st5 w1 w.heap.size 1 0 0 0 (s.extract k j)))
   generalize st5 w1 w.heap.size 1 0 0 0 (s.extract k j) = W2 at HS HR3 HG3 ⊢
   obtain ⟨b0, b1, b2, b3, b4⟩ := HS.out.cells
   refine bodyPost_ret (v := .agg #[.int .i64 1, .int .i64 0, .int .i64 0, .int .i64 0, .string (s.extract k j)]) (by simp [results, Tryz.results210, go_sem, b0, b1, b2, b3, b4]) rfl ⟨by rw [HT2.out], by rw [← HT2.out]; exact HR3.out.drew, only_drew HG3.out⟩
theorem run_long {p : UInt8 → Bool} {s : ByteArray} {k j n : Nat} (ht : k + n = j + run p (s.data.toList.drop j)) (hj : j ≤ s.size) (hn : j < k + n) : ∃ h : j < s.size, p s[j] = true := by
 by_cases hlt : j < s.size
 ·refine ⟨hlt, ?_⟩
  cases hp : p s[j] with
  | true => rfl
  | false => rw [run_no p s j hlt hp] at ht; omega
 ·rw [run_end p s j (by omega)] at ht; omega
theorem name_bad (b : Nat) (s : ByteArray) (k n : Nat) (w : World) (r : Rd w b s k) (hk : k < s.size) (hs : s.size ≤ 100000) (hn : n = run inB (s.data.toList.drop k)) (hn12 : 12 < n) :
  Calls Tryz.prog 210 #[.pointer (some ⟨b, 0, none⟩)] w fun e w' => e = .panicked (chain ((k + 12 : Nat) : Int) 2) ∧ w.grownBy w' (some b) := by
 have HN : Hid (k + n = k + run inB' (s.data.toList.drop k)) := by show _ = _; rw [inB'_eq, hn]
 have c1 := r.c1
 have hbw := r.lt
 have HR := Lib.hid r
 clear r hn
 go_enter Tryz.func210, Tryz.ntmps210
 go_wp2_with fail
 have HR1 := Lib.hid (HR.out.alloc (.cells #[.int .i64 0, .int .i64 0, .int .i64 0, .int .i64 0, .string ⟨#[]⟩] 222))
 have HG1 := Lib.hid (World.grownBy_alloc w (.cells #[.int .i64 0, .int .i64 0, .int .i64 0, .int .i64 0, .string ⟨#[]⟩] 222) (some b))
 clear c1
 go_loopw [9] (fun _ wr => ∃ j : Nat, k ≤ j ∧ j ≤ s.size ∧ j ≤ k + 12 ∧ Hid (Rd wr b s j) ∧ Hid (w.grownBy wr (some b)) ∧ Hid (k + n = j + run inB' (s.data.toList.drop j))) (fun _ wr => s.size - (intOf ((wr.cell? ⟨b, 1, none⟩).getD undef)).toNat)
 case atStart => exact ⟨k, Nat.le_refl _, by omega, by omega, HR1, HG1, HN⟩
 case round =>
  obtain ⟨j, hkj, hj, hj12, hr, hg, ht⟩ := hrel
  have c1 := hr.out.c1
  have cf := hr.out.free 1
  obtain ⟨hlt, hp⟩ := run_long ht.out hj (by omega)
  have HC0 := ahead_in_inName b s j wr hr.out hlt hs
  rw [show inI (s[j].toNat : Int) = true from hp] at HC0
  have HC := Lib.hid HC0
  have HT2 := Lib.hid (name_step ht.out hlt hp)
  clear hp ht HC0
  have hw : IntKind.i64.wrap ((j : Int) - (k : Int)) = (j : Int) - (k : Int) := IntWalk.i64_in _ (by omega)
  by_cases h12 : j - k < 12
  ·have hd : decide ((j : Int) - (k : Int) < 12) = true := by simp; omega
   go_wp2_with (go_at_call 208; refine HC.out.mono ?_; rintro e w1 ⟨rfl, hw1⟩; have HW : Hid (Drawn wr w1) := hw1; clear hw1; have d1 := (HW.out.rd hr.out).c1; have d2 := (HW.out.rd hr.out).free 1)
   have HM2 := hide (fun n => must_ok (j : Int) 2 b (w1.drewN n))
   go_quiet ((go_at_call 165; exact Calls.quiet_of_same (HM2.out _)))
   have HD := Lib.hid (HW.out.trans ⟨nq, rfl⟩)
   have HR2 := Lib.hid ((HD.out.rd hr.out).set1 j)
   have HG2 := Lib.hid (World.grownBy.trans (HD.out.grown hg.out) (grown_set _ b 1 (.int .i64 ((j : Int) + 1))))
   go_wp2_with fail
   go_roundw
   case rel => exact ⟨j + 1, by omega, by omega, by omega, HR2, HG2, HT2⟩
   case measure => rw [c1, HR2.out.c1]; simp [intOf]; omega
  ·have hd : decide ((j : Int) - (k : Int) < 12) = false := by simp; omega
   have hj2 : Hid (j = k + 12) := by show _ = _; omega
   go_wp2_with (go_at_call 208; refine HC.out.mono ?_; rintro e w1 ⟨rfl, hw1⟩; have HW : Hid (Drawn wr w1) := hw1; clear hw1; have d1 := (HW.out.rd hr.out).c1; have d2 := (HW.out.rd hr.out).free 1)
   have HM2 := hide (fun n => must_bad j 2 b (w1.drewN n))
   refine wp_region_dies_at (ch := chain j 2) 12 0 0 12 _ (by kernel_rfl) rfl (by simp) (by kernel_rfl) (by kernel_rfl) ?_ ?_
   ·simp only [List.take_succ_cons, List.take_zero, List.drop_zero, List.append_nil]
    repeat (quiet_step (fail))
    refine wpQuiet_nil ⟨rfl, dies_end 165 #[.pointer (some ⟨b, 0, none⟩), .bool false, .int .i64 j, .int .i64 2] (fun n => by go_simp) (fun n => ?_)⟩
    exact (HM2.out n).mono fun e w' ⟨he, hw⟩ => ⟨he, 0, hw⟩
   ·intro a' m hd2
    exact ⟨hd2, by rw [hj2.out], only_drewN (HW.out.grown hg.out) m⟩
end Go.Proofs.YtnbchikiiipejaaGreatDoor.Lx
