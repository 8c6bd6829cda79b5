/- Walks of utf: Put. -/
import Derived.Test.YtdicjplekbjdpaaUtfE
import Derived.Laws.CopyOwn
namespace Go.Proofs.Ytdicjplekbjdpaa.Utf
open Go.RowKit Mem
set_option linter.unusedVariables false

theorem put_no (A : Option Addr) (n c : Nat) (r : Int) (w : World) (h : rtB r = false) :
    Calls Try.prog 8 #[.slice A n c, .int .i32 r] w fun e w' => e = .returned (.tuple #[.slice none 0 0, .int .i64 11]) ∧ w = w' := by
  have e0 := lenI_zero h
  have E0 := Lib.hid e0
  clear e0
  go_enter Try.func8, Try.ntmps8
  go_wp2_with (go_at_call 11; refine (len_any r _).mono ?_; rw [E0.out]; rintro e w' ⟨rfl, rfl⟩)
  go_ret2
  exact ⟨rfl, rfl⟩

/-- a slice of bytes and no error -/
def IsSlOk (W : World) (zs : List Int) (e : Ending) (w' : World) : Prop := ∃ A c, e = .returned (.tuple #[.slice A zs.length c, .int .i64 0]) ∧ zs.length ≤ c ∧ Row .u8 w' A zs.length zs ∧ Below W.heap.size W w'

theorem owns_row {k : IntKind} {w : World} {g base : Nat} {e : TypeId} {cur : List Value} (hg : w.heap[g]? = some (.cells cur.toArray e (0, 0))) (hb : base ≤ g) (n cap : Nat) (zs : List Int) (hn : zs.length = n) (hnc : n ≤ cap)
    (hm : cap ≤ maxLen) (hs : cur.length = cap) (ht : cur.take n = zs.map (Value.int k)) : w.ownsRow base e 1 (.slice (some ⟨g, 0, none⟩) n cap) n (zs.map (Value.int k)) :=
  ⟨by simp [hn], .inr ⟨g, cap, cur.toArray, rfl, hb, hg, hnc, hm, by simp [hs], by simpa using ht⟩⟩

theorem put_own {w2 : World} {g n m : Nat} {X C : List Value} {zs : List Int} (hg : w2.heap[g]? = some (.cells (splice C 0 X).toArray 5 (0, 0))) (hz : zs.length = n) (hX : X = zs.map (Value.int .u8)) (hC : C.length = n + m) (hn : n ≤ 100000) (hm : m ≤ 4) :
    Hid (w2.ownsRow g 5 1 (.slice (some ⟨g, 0, none⟩) n (n + m)) zs.length (zs.map (Value.int .u8))) := by
  have hX' : X.length = n := by rw [hX, List.length_map, hz]
  have h := owns_row (k := .u8) (base := g) hg (Nat.le_refl _) n (n + m) zs hz (by omega) (by unfold maxLen; omega) (by rw [length_splice _ _ _ (by omega)]; exact hC)
    (by simp only [splice, List.take_zero, List.nil_append, Nat.zero_add]; rw [List.take_append_of_le_length (by omega), List.take_of_length_le (by omega), hX])
  rw [hz]; exact h

set_option maxHeartbeats 400000 in
theorem put_yes (A : Option Addr) (n c : Nat) (zs : List Int) (r : Int) (w : World) (h : rtB r = true) (hr : Row .u8 w A n zs) (hn : n ≤ 100000) :
    Calls Try.prog 8 #[.slice A n c, .int .i32 r] w (IsSlOk w (zs ++ bytes r)) := by
  obtain ⟨i0, hi, hz, hs1, hs2⟩ := info_parts info_u8
  have hl := lenI_pos h
  obtain ⟨m, hm⟩ : ∃ m : Nat, lenI r = (m : Int) := ⟨_, lenI_bytes h⟩
  rw [hm] at hl
  obtain ⟨C, hC, hCs⟩ : ∃ C : List Value, C.toArray = madeCells (Value.int .u8 0).cells (n + m) ∧ C.length = n + m :=
    ⟨(madeCells (Value.int .u8 0).cells (n + m)).toList, by simp, by simp [madeCells]⟩
  have hmake : ∀ W : World, (Instr.makeSlice 22 (.int .i64 n) (.int .i64 ((n : Int) + (m : Int)))).run Try.prog W = .ok (.slice (some ⟨W.heap.size, 0, none⟩) n (n + m)) (W.alloc (.cells C.toArray 5)) := fun W => by
    have := run_make (P := Try.prog) (w := W) 22 5 i0 (.int .u8 0) Try.underlying22 hi hz .i64 .i64 (n : Int) ((n : Int) + (m : Int)) (by omega) (by omega) (by rw [hs2]; omega) (by omega)
    rw [hs1, Nat.mul_one] at this
    rw [this]
    simp only [Int.toNat_natCast, show ((n : Int) + (m : Int)).toNat = n + m from by omega, hC]
  have hsz : (Try.prog.info? 5).map (·.size) = some 1 := by rw [hi]; simp [hs1]
  have hr1 := hr.alloc (.cells C.toArray 5 (0, 0))
  have hb1 : Below w.heap.size w (w.alloc (.cells C.toArray 5 (0, 0))) := (Below.refl _ _).alloc (Nat.le_refl _) _
  have hg1 := heap_alloc_new w (.cells C.toArray 5 (0, 0))
  have hlz := hr.1
  obtain ⟨X, hX⟩ : ∃ X, X = zs.map (Value.int .u8) := ⟨_, rfl⟩
  have hXl : X.length = n := by rw [hX, List.length_map, hlz]
  have hX1 : ∀ u ∈ X, u.oneCell' = true := by rw [hX]; exact one_ints .u8 zs
  have hpos : 0 < X.length → ∃ ad, A = some ad ∧ ∀ j v, X[j]? = some v → (w.alloc (.cells C.toArray 5 (0, 0))).cell? (ad.add j) = some v := by
    intro hp
    obtain ⟨b, off, rfl, _, _⟩ := hr.at_ (by omega)
    exact ⟨_, rfl, by rw [hX]; exact hr1.news⟩
  have hM := Lib.hid hm
  have HR1 := Lib.hid hr1
  have HB1 := Lib.hid hb1
  have HG1 := Lib.hid hg1
  have HX := Lib.hid hX
  have HXl := Lib.hid hXl
  have HX1 := Lib.hid hX1
  have HP := Lib.hid hpos
  have HC := Lib.hid hC
  have HCs := Lib.hid hCs
  have HSZ := Lib.hid hsz
  have HI := Lib.hid hi
  have HZ := Lib.hid hlz
  clear hm hr1 hb1 hg1 hX hXl hX1 hpos hC hCs hsz hi hz hs1 hs2 hlz hr
  go_enter Try.func8, Try.ntmps8
  go_wp2_with (first
    | (go_at_call 11; refine (len_any r _).mono ?_; rw [hM.out]; rintro e w' ⟨rfl, rfl⟩)
    | ((with_reducible show wpList _ _ _ _ _ _); (refine wpList_copy_splice rfl (.tmp 19) (.tmp 20) 22 22 rfl 5 Try.underlying22 HSZ.out _ _ n (n + m) n c rfl rfl w.heap.size 0 C 5 HG1.out X ?_ (by intro hp; exact ⟨rfl, HP.out hp⟩) ?_ HX1.out w.heap.size w HB1.out (Nat.le_refl _) ?_); (rw [HXl.out]; simp); (rw [HXl.out, HCs.out]; omega); intro w2 hg2 hb2; have HO2 : Hid (w2.ownsRow w.heap.size 5 1 (.slice (some ⟨w.heap.size, 0, none⟩) n (n + m)) zs.length (zs.map (Value.int .u8))) := (put_own hg2.out HZ.out HX.out HCs.out hn (by omega)))
    | (go_at_call 21; refine (lay_any w.heap.size _ zs r w2 h HO2.out hb2.size (by rw [HZ.out]; omega)).mono ?_; rintro e w3 ⟨v3, rfl, ho3, hg3⟩))
  go_ret2
  obtain ⟨A3, c3, rfl, hc3, hr3⟩ := Row.of_own ho3 (fun z hz => by
    rcases List.mem_append.1 hz with h1 | h1
    · exact HR1.out.2.1 z h1
    · exact wf_bytes (bytes_byte h) z h1)
  exact ⟨A3, c3, rfl, hc3, hr3, below_of_grown hb2 hg3 hb2.size (fun i hi => by simp [Value.ownBlock] at hi; omega)⟩
end Go.Proofs.Ytdicjplekbjdpaa.Utf
