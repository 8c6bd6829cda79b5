/- Walks of the small functions of words. -/
import Derived.Test.YtdicjplekbjdpabDoorLaidW
import Derived.Test.YtdicjplekbjdpabDoorOwn
import Derived.Test.YtdicjplekbjdpabDoorShelf
import Derived.WalkKit
import Derived.WalkSpells
import Derived.WalkLawsBesides
import Derived.WalkSmall
import Derived.BigQuiet
import Derived.Deep.QuietTactic
import Derived.Lib.Hide
namespace Go.Proofs.YtdicjplekbjdpabDoor.Wd
open Go.RowKit Go.Sort Mem
set_option linter.unusedVariables false

theorem below_grow {w : World} (k : Nat) (os : Array Obj) : Below w.heap.size w (grow (w.drewN k) os) :=
  ⟨rfl, rfl, rfl, by simp [grow], fun i hi => by show (w.heap ++ os)[i]? = w.heap[i]?; rw [Array.getElem?_append_left hi]⟩

theorem gl (n : String) (cs : Array Value) (g : Nat) {W : World} (hg : Tryd.prog.globalNamed n = some g) (h : W.var? Tryd.prog n = some cs) : g < W.heap.size := by
  unfold World.var? at h
  simp only [hg, Option.bind_some] at h
  rcases Nat.lt_or_ge g W.heap.size with h1 | h1
  · exact h1
  · rw [Array.getElem?_eq_none h1] at h; simp at h

theorem Held.below {W W' : World} (h : Held W) (hb : Below W.heap.size W W') : Held W' := by
  refine ⟨fun i hi => ?_, ?_, ?_, ?_⟩
  · have h1 := h.forms i hi
    exact (hb.cell (p := ⟨0, i, none⟩) (World.block_lt_of_cell? W _ h1)).trans h1
  · have h1 := h.tab
    exact var?_below (g := 4) hb (by kernel_rfl) (gl _ _ _ (by kernel_rfl) h1) h1
  · obtain ⟨t, p, h1⟩ := h.range
    exact ⟨t, p, var?_below (g := 2) hb (by kernel_rfl) (gl _ _ _ (by kernel_rfl) h1) h1⟩
  · obtain ⟨t, p, h1⟩ := h.synt
    exact ⟨t, p, var?_below (g := 1) hb (by kernel_rfl) (gl _ _ _ (by kernel_rfl) h1) h1⟩

theorem own_below {w w' : World} {base : Nat} {e : TypeId} {size n : Nat} {v : Value} {xs : List Value} (h : w.ownsRow base e size v n xs) (hb : Below w.heap.size w w') : w'.ownsRow base e size v n xs :=
  h.kept (row := none) ⟨hb.os, hb.tape, hb.output, hb.size, fun k hk _ => hb.block k hk⟩ (by
    cases e : v.ownBlock
    · exact .inl rfl
    · exact .inr (by simp))
theorem own_form {w : World} {base : Nat} {e : TypeId} {size n : Nat} {v : Value} {xs : List Value} (h : w.ownsRow base e size v n xs) : ∃ A c, v = .slice A n c := by
  rcases h.2 with ⟨rfl, rfl⟩ | ⟨g', cap, cur, rfl, _⟩
  · exact ⟨_, _, rfl⟩
  · exact ⟨_, _, rfl⟩
theorem lt_of_block' {w : World} {b : Nat} {o : Obj} (h : w.heap[b]? = some o) : b < w.heap.size := by
  rcases Nat.lt_or_ge b w.heap.size with h' | h'
  · exact h'
  · simp [Array.getElem?_eq_none h'] at h

theorem show_any (n : Int) (h0 : -9223372036854775808 ≤ n) (h1 : n ≤ 9223372036854775807) (w : World) (H : Held w) :
    Calls Tryd.prog 16 #[.int .i64 n] w fun e w' => e = .returned (.string ⟨(Lib.itoa n).toArray⟩) ∧ Below w.heap.size w w' := by
  have hc := Tryd.strconv_Itoa n h0 h1 w H.tab
  have HC := hide hc
  clear hc h0 h1
  go_enter Tryd.func16, Tryd.ntmps16
  go_wp2_with (go_at_call 26; refine (unhide HC).mono ?_; rintro e w' ⟨rfl, k, os, rfl⟩)
  go_ret
  exact ⟨rfl, below_grow k os⟩

/-- the form of a byte that is hidden; none, if it stands as it is -/
def escL (c : Int) : List UInt8 := if c < 33 then hid c.toNat else if c = 92 then [92, 92] else if c = 127 then [92, 120, 55, 102] else []

theorem esc_any (c : Int) (h0 : 0 ≤ c) (h1 : c ≤ 255) (w : World) (H : Held w) :
    Calls Tryd.prog 28 #[.int .u8 c] w fun e w' => e = .returned (.string ⟨(escL c).toArray⟩) ∧ w = w' := by
  by_cases a : c < 33
  · have hx := H.forms c.toNat (by omega)
    have E : Hid (escL c = hid c.toNat) := by show _ = _; simp [escL, a]
    obtain ⟨S, hS⟩ : ∃ S, S = hid c.toNat := ⟨_, rfl⟩
    rw [← hS] at hx
    have HS := Lib.hid hS
    clear hS H
    go_enter Tryd.func28, Tryd.ntmps28
    go_wp2
    go_ret
    exact ⟨by rw [E.out, ← HS.out]; rfl, rfl⟩
  · by_cases b : c = 92
    · have E : Hid (escL c = [92, 92]) := by show _ = _; simp [escL, b]
      have t0 : (c == 92) = true := by simp [b]
      clear b H
      go_enter Tryd.func28, Tryd.ntmps28
      go_wp2
      go_ret
      exact ⟨by rw [E.out]; rfl, rfl⟩
    · have t0 : (c == 92) = false := by simp [b]
      by_cases d : c = 127
      · have E : Hid (escL c = [92, 120, 55, 102]) := by show _ = _; simp [escL, d]
        have t1 : (c == 127) = true := by simp [d]
        clear b d H
        go_enter Tryd.func28, Tryd.ntmps28
        go_wp2
        go_ret
        exact ⟨by rw [E.out]; rfl, rfl⟩
      · have t1 : (c == 127) = false := by simp [d]
        have E : Hid (escL c = []) := by show _ = _; simp [escL, a, b, d]
        clear b d H
        go_enter Tryd.func28, Tryd.ntmps28
        go_wp2
        go_ret
        exact ⟨by rw [E.out]; rfl, rfl⟩
end Go.Proofs.YtdicjplekbjdpabDoor.Wd
