/- Walks of the lexer's small functions: what bytes are, what stands ahead, giving up. -/
import Derived.Test.YtegkimcfmdckbabDoorProg
import Derived.Test.YtegkimcfmdckbabDoorRegDies
import Derived.Test.YtegkimcfmdckbabDoorOwn
import Derived.Test.YtegkimcfmdckbabDoorLxShow
import Derived.WalkKit
import Derived.WalkSpells
import Derived.WalkLawsBesides
import Derived.WalkSmall
import Derived.BigQuiet
import Derived.Deep.QuietTactic
import Derived.Lib.Hide
import Derived.RangeFuncBox
namespace Go.Proofs.YtegkimcfmdckbabDoor.Lx
open Go.RowKit Mem
set_option linter.unusedVariables false

/-- the reader's block: its text, where it stands -/
def Rd (W : World) (b : Nat) (s : ByteArray) (k : Nat) : Prop := W.heap[b]? = some (.cells #[.string s, .int .i64 k] 80 (0, 0))
theorem Rd.lt {W : World} {b k : Nat} {s : ByteArray} (h : Rd W b s k) : b < W.heap.size := (Array.getElem?_eq_some_iff.1 h).1
theorem Rd.c0 {W : World} {b k : Nat} {s : ByteArray} (h : Rd W b s k) : W.cell? ⟨b, 0, none⟩ = some (.string s) := by unfold Rd at h; simp [World.cell?, h]
theorem Rd.c1 {W : World} {b k : Nat} {s : ByteArray} (h : Rd W b s k) : W.cell? ⟨b, 1, none⟩ = some (.int .i64 k) := by unfold Rd at h; simp [World.cell?, h]
theorem Rd.free {W : World} {b k : Nat} {s : ByteArray} (h : Rd W b s k) (j : Nat) : W.frozen? ⟨b, j, none⟩ = false := by unfold Rd at h; simp [World.frozen?, h]
theorem Rd.drewN {W : World} {b k : Nat} {s : ByteArray} (h : Rd W b s k) (m : Nat) : Rd (W.drewN m) b s k := h
theorem Rd.drew {W : World} {b k : Nat} {s : ByteArray} (h : Rd W b s k) : Rd W.drew b s k := h
theorem Rd.set {W : World} {b k : Nat} {s : ByteArray} (h : Rd W b s k) (k' : Nat) : Rd (W.setCell ⟨b, 1, none⟩ (.int .i64 k')) b s k' := by
  unfold Rd at h ⊢
  simp [World.setCell, Array.getElem?_modify, h]
theorem Rd.set1 {W : World} {b k : Nat} {s : ByteArray} (h : Rd W b s k) (k' : Nat) : Rd (W.setCell ⟨b, 1, none⟩ (.int .i64 ((k' : Int) + 1))) b s (k' + 1) := by
  have := h.set (k' + 1)
  rwa [Int.natCast_add] at this
theorem Rd.kept {W W' : World} {b k : Nat} {s : ByteArray} {row : Option Nat} (h : Rd W b s k) (hg : W.grownBy W' row) (hne : some b ≠ row) : Rd W' b s k := (hg.block b h.lt hne).trans h
theorem only_drewN {a w : World} {row : Option Nat} (h : a.grownBy w row) (m : Nat) : a.grownBy (w.drewN m) row := ⟨h.os, h.tape, h.output, h.size, h.block⟩
theorem Rd.alloc {W : World} {b k : Nat} {s : ByteArray} (h : Rd W b s k) (o : Obj) : Rd (W.alloc o) b s k := (Below.heap_alloc W o b h.lt).trans h
theorem grown_set (W : World) (b : Nat) (j : Nat) (v : Value) : W.grownBy (W.setCell ⟨b, j, none⟩ v) (some b) :=
  ⟨rfl, rfl, rfl, (KeepsWalks.setCell W _ v).size, fun k _ hk => Below.heap_setCell _ _ _ k (fun e => hk (by rw [e]))⟩
theorem grown_refl (W : World) (row : Option Nat) : W.grownBy W row := World.grownBy.refl W row

/-- what a byte is, of its number -/
def blkI (c : Int) : Bool := c == 32
def smI (c : Int) : Bool := decide (97 ≤ c) && decide (c ≤ 122)
def dgI (c : Int) : Bool := decide (48 ≤ c) && decide (c ≤ 57)
def inI (c : Int) : Bool := smI c || dgI c
theorem smI_nat (c : UInt8) : smI (c.toNat : Int) = smB c := by
  simp only [smI, smB]; congr 1 <;> simp only [decide_eq_decide] <;> omega
theorem dgI_nat (c : UInt8) : dgI (c.toNat : Int) = dgB c := by
  simp only [dgI, dgB]; congr 1 <;> simp only [decide_eq_decide] <;> omega
theorem inI_nat (c : UInt8) : inI (c.toNat : Int) = inB c := by rw [inI, inB, smI_nat, dgI_nat]

/-- a function of a byte that tells a bool, and does nothing else -/
def Tells (f : Nat) (p : Int → Bool) : Prop := ∀ (c : Int) (w : World), 0 ≤ c → c ≤ 255 → Calls Tryd.prog f #[.int .u8 c] w fun e w' => e = .returned (.bool (p c)) ∧ w' = w

theorem blank_any : Tells 39 blkI := by
  intro c w h0 h1
  have E : Hid (blkI c = (c == 32)) := by show _ = _; rfl
  go_enter Tryd.func39, Tryd.ntmps39
  go_wp2
  go_ret
  exact ⟨by rw [E.out]; rfl, rfl⟩
theorem letter_any : Tells 57 smI := by
  intro c w h0 h1
  by_cases a : 97 ≤ c
  · by_cases b : c ≤ 122
    · have E : Hid (smI c = true) := by show _ = _; simp [smI, a, b]
      go_enter Tryd.func57, Tryd.ntmps57
      go_wp2
      go_ret
      exact ⟨by rw [E.out]; rfl, rfl⟩
    · have E : Hid (smI c = false) := by show _ = _; simp [smI, b]
      have d : decide (c ≤ 122) = false := by simpa using b
      clear b
      go_enter Tryd.func57, Tryd.ntmps57
      go_wp2
      go_ret
      exact ⟨by rw [E.out]; rfl, rfl⟩
  · have E : Hid (smI c = false) := by show _ = _; simp [smI, a]
    have d : decide (97 ≤ c) = false := by simpa using a
    clear a
    go_enter Tryd.func57, Tryd.ntmps57
    go_wp2
    go_ret
    exact ⟨by rw [E.out]; rfl, rfl⟩
theorem digit_any : Tells 82 dgI := by
  intro c w h0 h1
  by_cases a : 48 ≤ c
  · by_cases b : c ≤ 57
    · have E : Hid (dgI c = true) := by show _ = _; simp [dgI, a, b]
      go_enter Tryd.func82, Tryd.ntmps82
      go_wp2
      go_ret
      exact ⟨by rw [E.out]; rfl, rfl⟩
    · have E : Hid (dgI c = false) := by show _ = _; simp [dgI, b]
      have d : decide (c ≤ 57) = false := by simpa using b
      clear b
      go_enter Tryd.func82, Tryd.ntmps82
      go_wp2
      go_ret
      exact ⟨by rw [E.out]; rfl, rfl⟩
  · have E : Hid (dgI c = false) := by show _ = _; simp [dgI, a]
    have d : decide (48 ≤ c) = false := by simpa using a
    clear a
    go_enter Tryd.func82, Tryd.ntmps82
    go_wp2
    go_ret
    exact ⟨by rw [E.out]; rfl, rfl⟩
theorem inName_any : Tells 72 inI := by
  intro c w h0 h1
  by_cases a : smI c = true
  · have E : Hid (inI c = true) := by show _ = _; simp [inI, a]
    have HC := hide (show Calls Tryd.prog 57 #[.int .u8 c] w fun e w' => e = .returned (.bool true) ∧ w' = w from by
      have := letter_any c w h0 h1; rwa [a] at this)
    clear a
    go_enter Tryd.func72, Tryd.ntmps72
    go_wp2_with (go_at_call 57; refine (unhide HC).mono ?_; rintro e w' ⟨rfl, rfl⟩)
    go_ret
    exact ⟨by rw [E.out]; rfl, rfl⟩
  · have a' : smI c = false := by simpa using a
    have E : Hid (inI c = dgI c) := by show _ = _; simp [inI, a']
    have HC := hide (show Calls Tryd.prog 57 #[.int .u8 c] w fun e w' => e = .returned (.bool false) ∧ w' = w from by
      have := letter_any c w h0 h1; rwa [a'] at this)
    have HD := hide (digit_any c w h0 h1)
    clear a a'
    go_enter Tryd.func72, Tryd.ntmps72
    go_wp2_with (first
      | (go_at_call 57; refine (unhide HC).mono ?_; rintro e w' ⟨rfl, rfl⟩)
      | (go_at_call 82; refine (unhide HD).mono ?_; rintro e w' ⟨rfl, rfl⟩))
    go_ret
    exact ⟨by rw [E.out]; rfl, rfl⟩

/-- giving up: the place, and why -/
def chain (k c : Int) : List PanicEntry := [{ v := .iface 77 (.agg #[.int .i64 k, .int .i64 c]), recovered := false }]
theorem must_ok (k c : Int) (x : Nat) (w : World) : Calls Tryd.prog 41 #[.pointer (some ⟨x, 0, none⟩), .bool true, .int .i64 k, .int .i64 c] w fun e w' => e = .returned (.tuple #[]) ∧ w' = w := by
  go_enter Tryd.func41, Tryd.ntmps41
  go_wp2
  go_end0
  exact ⟨rfl, rfl⟩
theorem must_bad (k c : Int) (x : Nat) (w : World) : Calls Tryd.prog 41 #[.pointer (some ⟨x, 0, none⟩), .bool false, .int .i64 k, .int .i64 c] w fun e w' => e = .panicked (chain k c) ∧ w' = w := by
  go_enter Tryd.func41, Tryd.ntmps41
  go_wp2
  exact ⟨rfl, rfl, rfl⟩

/-- what is at the head of the rest -/
theorem drop_cons (s : ByteArray) (k : Nat) (h : k < s.size) : s.data.toList.drop k = s[k] :: s.data.toList.drop (k + 1) := by
  have h' : k < s.data.toList.length := by rw [Array.length_toList]; exact h
  rw [List.drop_eq_getElem_cons h']; rfl
theorem drop_end (s : ByteArray) (k : Nat) (h : s.size ≤ k) : s.data.toList.drop k = [] := by
  apply List.drop_eq_nil_of_le; rw [Array.length_toList]; exact h

set_option maxHeartbeats 1000000 in
theorem ahead_end_blank (b : Nat) (s : ByteArray) (k : Nat) (w : World) (r : Rd w b s k) (hk : s.size ≤ k) (hs : s.size ≤ 100000) (hk2 : k ≤ 100000) :
    Calls Tryd.prog 56 #[.pointer (some ⟨b, 0, none⟩), .func (.func 39) #[] #[]] w fun e w' => e = .returned (.bool false) ∧ ∃ n, w' = w.drewN n := by
  have c0 := r.c0
  have c1 := r.c1
  have d : decide (k < s.size) = false := by simp; omega
  clear r hk
  go_enter Tryd.func56, Tryd.ntmps56
  go_wp2
  go_quiet (fail)
  go_wp2
  go_ret
  exact ⟨rfl, _, rfl⟩
set_option maxHeartbeats 1000000 in
theorem ahead_in_blank (b : Nat) (s : ByteArray) (k : Nat) (w : World) (r : Rd w b s k) (hk : k < s.size) (hs : s.size ≤ 100000) :
    Calls Tryd.prog 56 #[.pointer (some ⟨b, 0, none⟩), .func (.func 39) #[] #[]] w fun e w' => e = .returned (.bool (blkI (s[k].toNat : Int))) ∧ ∃ n, w' = w.drewN n := by
  have c0 := r.c0
  have c1 := r.c1
  have d : decide (k < s.size) = true := by simpa using hk
  have i0 : (0 : Int) ≤ (k : Int) := by omega
  have i1 : (k : Int) < (s.size : Int) := by omega
  have hb := s[k].toNat_lt
  have HF := hide (fun n => blank_any (s[k].toNat : Int) (w.drewN n) (by omega) (by omega))
  clear r
  go_enter Tryd.func56, Tryd.ntmps56
  go_wp2
  go_quiet ((go_at_call 39; exact Calls.quiet_of_same (HF.out _)))
  go_wp2
  go_ret
  exact ⟨rfl, _, rfl⟩
set_option maxHeartbeats 1000000 in
theorem ahead_end_inName (b : Nat) (s : ByteArray) (k : Nat) (w : World) (r : Rd w b s k) (hk : s.size ≤ k) (hs : s.size ≤ 100000) (hk2 : k ≤ 100000) :
    Calls Tryd.prog 56 #[.pointer (some ⟨b, 0, none⟩), .func (.func 72) #[] #[]] w fun e w' => e = .returned (.bool false) ∧ ∃ n, w' = w.drewN n := by
  have c0 := r.c0
  have c1 := r.c1
  have d : decide (k < s.size) = false := by simp; omega
  clear r hk
  go_enter Tryd.func56, Tryd.ntmps56
  go_wp2
  go_quiet (fail)
  go_wp2
  go_ret
  exact ⟨rfl, _, rfl⟩
set_option maxHeartbeats 1000000 in
theorem ahead_in_inName (b : Nat) (s : ByteArray) (k : Nat) (w : World) (r : Rd w b s k) (hk : k < s.size) (hs : s.size ≤ 100000) :
    Calls Tryd.prog 56 #[.pointer (some ⟨b, 0, none⟩), .func (.func 72) #[] #[]] w fun e w' => e = .returned (.bool (inI (s[k].toNat : Int))) ∧ ∃ n, w' = w.drewN n := by
  have c0 := r.c0
  have c1 := r.c1
  have d : decide (k < s.size) = true := by simpa using hk
  have i0 : (0 : Int) ≤ (k : Int) := by omega
  have i1 : (k : Int) < (s.size : Int) := by omega
  have hb := s[k].toNat_lt
  have HF := hide (fun n => inName_any (s[k].toNat : Int) (w.drewN n) (by omega) (by omega))
  clear r
  go_enter Tryd.func56, Tryd.ntmps56
  go_wp2
  go_quiet ((go_at_call 72; exact Calls.quiet_of_same (HF.out _)))
  go_wp2
  go_ret
  exact ⟨rfl, _, rfl⟩
set_option maxHeartbeats 1000000 in
theorem ahead_end_digit (b : Nat) (s : ByteArray) (k : Nat) (w : World) (r : Rd w b s k) (hk : s.size ≤ k) (hs : s.size ≤ 100000) (hk2 : k ≤ 100000) :
    Calls Tryd.prog 56 #[.pointer (some ⟨b, 0, none⟩), .func (.func 82) #[] #[]] w fun e w' => e = .returned (.bool false) ∧ ∃ n, w' = w.drewN n := by
  have c0 := r.c0
  have c1 := r.c1
  have d : decide (k < s.size) = false := by simp; omega
  clear r hk
  go_enter Tryd.func56, Tryd.ntmps56
  go_wp2
  go_quiet (fail)
  go_wp2
  go_ret
  exact ⟨rfl, _, rfl⟩
set_option maxHeartbeats 1000000 in
theorem ahead_in_digit (b : Nat) (s : ByteArray) (k : Nat) (w : World) (r : Rd w b s k) (hk : k < s.size) (hs : s.size ≤ 100000) :
    Calls Tryd.prog 56 #[.pointer (some ⟨b, 0, none⟩), .func (.func 82) #[] #[]] w fun e w' => e = .returned (.bool (dgI (s[k].toNat : Int))) ∧ ∃ n, w' = w.drewN n := by
  have c0 := r.c0
  have c1 := r.c1
  have d : decide (k < s.size) = true := by simpa using hk
  have i0 : (0 : Int) ≤ (k : Int) := by omega
  have i1 : (k : Int) < (s.size : Int) := by omega
  have hb := s[k].toNat_lt
  have HF := hide (fun n => digit_any (s[k].toNat : Int) (w.drewN n) (by omega) (by omega))
  clear r
  go_enter Tryd.func56, Tryd.ntmps56
  go_wp2
  go_quiet ((go_at_call 82; exact Calls.quiet_of_same (HF.out _)))
  go_wp2
  go_ret
  exact ⟨rfl, _, rfl⟩
end Go.Proofs.YtegkimcfmdckbabDoor.Lx
