/- Walks: Whole; the law's same. -/
import Derived.Test.YtnmphoemiohgjaaSlE
namespace Go.Proofs.Ytnmphoemiohgjaa.Sl
open Go.RowKit Mem Tk
set_option linter.unusedVariables false

def closeTk : Tk := ⟨2, 0, 0, 0, 0, 0, 0, 0, 0, 0, 0, 0⟩
theorem at12_of (w : World) (g o : Nat) (x : Tk) (cs : Array Value) (t : TypeId) (fr : Nat × Nat) (h : w.heap[g]? = some (.cells cs t fr)) (hc : ∀ j v, (tcells x)[j]? = some v → cs[o + j]? = some v) : At12 w g o x := by
  intro j v hv
  have := hc j v hv
  simp only [World.cell?, h]
  exact this
theorem trow_one (w : World) (x : Tk) (t : TypeId) : TRow (w.alloc (.cells (tcells x).toArray t)) (some ⟨w.heap.size, 0, none⟩) 1 [x] := by
  refine ⟨rfl, fun _ => ⟨w.heap.size, 0, rfl, by simp, fun j hj => ?_⟩⟩
  obtain rfl : j = 0 := by simpa using hj
  exact at12_of _ _ _ _ _ _ _ (heap_alloc_new w _) (fun j v hv => by simpa using hv)
def WhIs (w : World) (l : List Tk) (e : Ending) (w' : World) : Prop := ∃ v, e = .returned (.tuple #[v, .bool true]) ∧ Tks w.heap.size w' v l ∧ Below w.heap.size w w'
def WhNo (w : World) (e : Ending) (w' : World) : Prop := e = .returned (.tuple #[.slice none 0 0, .bool false]) ∧ Below w.heap.size w w'
theorem box3 (w : World) (u0 u1 u2 : Value) (t : TypeId) : (w.alloc (.cells #[u0, u1, u2] t)).cell? ⟨w.heap.size, 0, none⟩ = some u0 ∧ (w.alloc (.cells #[u0, u1, u2] t)).cell? ⟨w.heap.size, 1, none⟩ = some u1 ∧ (w.alloc (.cells #[u0, u1, u2] t)).cell? ⟨w.heap.size, 2, none⟩ = some u2 :=
  ⟨by rw [World.cell?_alloc_mark]; rfl, by rw [World.cell?_alloc_mark]; rfl, by rw [World.cell?_alloc_mark]; rfl⟩
theorem box3_step {w W : World} {u0 u1 u2 : Value} {t : TypeId} (hb : Below (w.alloc (.cells #[u0, u1, u2] t)).heap.size (w.alloc (.cells #[u0, u1, u2] t)) W) : W.cell? ⟨w.heap.size, 0, none⟩ = some u0 ∧ W.cell? ⟨w.heap.size, 1, none⟩ = some u1 ∧ W.cell? ⟨w.heap.size, 2, none⟩ = some u2 := by
  have k := fun o => hb.cell (p := ⟨w.heap.size, o, none⟩) (by simp)
  obtain ⟨a, b, c⟩ := box3 w u0 u1 u2 t
  exact ⟨(k 0).trans a, (k 1).trans b, (k 2).trans c⟩
theorem whole_no1 (A B : Option Addr) (n c m c' a1 a2 : Nat) (w : World) (h : m ≠ a1) :
    Calls Try.prog 8 #[.agg #[.slice A n c, .int .i64 a1, .int .i64 a2], .slice B m c'] w (WhNo w) := by
  have hne : ((m : Int) != (a1 : Int)) = true := by simp; omega
  have hne2 : ((m : Int) == (a1 : Int)) = false := by simp; omega
  go_enter Try.func8, Try.ntmps8
  go_wp2
  go_ret2
  exact ⟨rfl, (Below.refl _ _).alloc (Nat.le_refl _) _⟩
set_option maxHeartbeats 1000000 in
theorem whole_no2 (lead : List Tk) (A B : Option Addr) (n c m c' a2 : Nat) (w : World) (hl : TRow w B m lead) (hm : m ≤ 100000) (ho : others lead = true) :
    Calls Try.prog 8 #[.agg #[.slice A n c, .int .i64 m, .int .i64 a2], .slice B m c'] w (WhNo w) := by
  have CN := fun W hr => contains_any lead B m c' W hr (by omega)
  rw [ho] at CN
  have HL := Lib.hid hl
  clear hl ho
  go_enter Try.func8, Try.ntmps8
  go_wp2_with (go_at_call 14; (refine (CN _ (HL.out.alloc _)).mono ?_); rintro e w1 ⟨rfl, hb⟩)
  go_ret2
  exact ⟨rfl, ((Below.refl _ _).alloc (Nat.le_refl _) _).trans (hb.mono (by simp))⟩
set_option maxHeartbeats 2000000 in
theorem whole_yes (x lead : List Tk) (A B : Option Addr) (n c m c' a2 : Nat) (w : World) (hx : TRow w A n x) (hl : TRow w B m lead) (hn : n ≤ 100000) (hm : m ≤ 100000) (ha : a2 ≤ 100000) (ho : others lead = false) :
    Calls Try.prog 8 #[.agg #[.slice A n c, .int .i64 m, .int .i64 a2], .slice B m c'] w (WhIs w (lead ++ x ++ List.replicate a2 closeTk)) := by
  have CN := fun W hr => contains_any lead B m c' W hr (by omega)
  rw [ho] at CN
  have HX := Lib.hid hx
  have HL := Lib.hid hl
  have LX := Lib.hid hx.1
  have LL := Lib.hid hl.1
  clear hl ho hx
  go_enter Try.func8, Try.ntmps8
  go_wp2_with fail
  refine (CN _ (HL.out.alloc _)).mono ?_
  rintro e w1 ⟨rfl, hb⟩
  obtain ⟨e0, e1, e2⟩ := box3_step hb
  have HB1 := Lib.hid hb
  have HW1 := Lib.hid (((Below.refl _ w).alloc (Nat.le_refl _) (.cells #[.slice A n c, .int .i64 m, .int .i64 a2] 26)).trans (hb.mono (by simp)))
  have hs1 : w.heap.size < w1.heap.size := by have := hb.size; simp at this; omega
  clear hb CN
  go_wp2_with fail
  refine (concat_any lead x B A m n c' c w1.heap.size 2 _ (by rw [World.cell?_alloc_mark]; rfl) (by rw [World.cell?_alloc_mark]; rfl) (by simp) ((HL.out.below HW1.out).alloc _) ((HX.out.below HW1.out).alloc _) hm hn).mono ?_
  rintro e w2 ⟨v, rfl, ho2, hb2⟩
  obtain ⟨A3, c3, hv⟩ := ho2.form
  subst hv
  have g2 := (hb2.cell (p := ⟨w.heap.size, 2, none⟩) (by simp; omega)).trans ((World.cell?_alloc_lt w1 _ ⟨w.heap.size, 2, none⟩ hs1).trans e2)
  have HO := Lib.hid (ho2.lower (base' := w.heap.size) (by simp; omega))
  have HB := Lib.hid (HW1.out.trans (((Below.refl _ w1).alloc (Nat.le_refl _) _).trans (hb2.mono (by simp))|>.mono (Nat.le_of_lt hs1)))
  have hlen : ((lead ++ x).length : Int) ≤ 200000 := by rw [List.length_append, LX.out, LL.out]; omega
  have hlen0 : (0 : Int) ≤ ((lead ++ x).length : Int) := by omega
  have HLEN := Lib.hid hlen
  clear ho2 hb2 e0 e1 e2 HB1 hs1
  obtain ⟨N, hN⟩ : ∃ N : Nat, N = (lead ++ x).length := ⟨_, rfl⟩
  rw [← hN] at hlen hlen0 ⊢
  have HN := Lib.hid hN
  have hgt : ¬ ((a2 : Int) > 2147483647 - (N : Int)) := by omega
  clear hN
  go_wp2
  go_loopw [7, 31] (fun v j wr => ∃ (k : Nat), k ≤ a2 ∧ j = .int .i64 k ∧ Hid (Tks w.heap.size wr v (lead ++ x ++ List.replicate k closeTk)) ∧ Hid (Below w.heap.size w wr)) (fun _ j _ => a2 - (intOf j).toNat)
  case atStart => exact ⟨0, by omega, by simp, Lib.hid (by simpa [HN.out] using HO.out), HB⟩
  case round =>
    clear HO HB g2
    obtain ⟨k, hk, rfl, HO, HB⟩ := hrel
    obtain ⟨A1, c1, hv1⟩ := HO.out.form
    subst hv1
    have hs : w.heap.size ≤ wr.heap.size := HB.out.size
    have HOA := Lib.hid (HO.out.alloc (.cells (tcells closeTk).toArray 35))
    have HROW := Lib.hid (trow_one wr closeTk 35)
    have HLK : Hid ((lead ++ x ++ List.replicate k closeTk).length = N + k) := Lib.hid (by rw [List.length_append, List.length_replicate, HN.out])
    by_cases hlt : k < a2
    · go_wp2_with (at_builtin; (refine wpList_app_tk rfl (.tmp 33) (.tmp 35) rfl w.heap.size _ _ rfl HOA.out _ 1 _ [closeTk] rfl HROW.out (by rw [HLK.out]; omega) (by simp; omega) ?_); intro v' w3 hown' hg hat)
      have N1 : Hid (Tks w.heap.size w3 v' (lead ++ x ++ List.replicate (k + 1) closeTk)) := Lib.hid (by rw [List.replicate_succ', ← List.append_assoc]; exact hown')
      have N2 := Lib.hid (tks_of_grown (HB.out.alloc hs (.cells (tcells closeTk).toArray 35)) HOA.out hg (by simp; omega))
      clear hown' hg hat
      go_wp2
      go_roundw
      case rel => exact ⟨k + 1, by omega, by go_num, N1, N2⟩
      case measure => simp [intOf]; omega
    · obtain rfl : k = a2 := by omega
      go_wp2
      go_ret2
      exact ⟨_, rfl, HO.out, HB.out⟩

/-- the law's same, where it holds -/
theorem same_yes (l : List Tk) (A B : Option Addr) (n c m c' a1 a2 : Nat) (w : World) (hx : TRow w A n l) (hy : TRow w B m l) (hn : n ≤ 1000000) (h1 : a1 = (opn (kinds l)).1) (h2 : a2 = (opn (kinds l)).2) :
    Calls Try.prog 7 #[.agg #[.slice A n c, .int .i64 a1, .int .i64 a2], .slice B m c'] w fun e w' => e = .returned (.bool true) ∧ Below w.heap.size w w' := by
  obtain ⟨o1, ho1⟩ : ∃ o, o = Obj.cells #[.slice A n c, .int .i64 a1, .int .i64 a2] 26 := ⟨_, rfl⟩
  have hmn : m = n := by rw [← hx.1, ← hy.1]
  have S1 : ∀ q, Calls Try.prog 9 #[.slice A n c, .slice B m c'] ((w.alloc (.cells #[.slice A n c, .int .i64 a1, .int .i64 a2] 26)).drewN q) fun e w' => e = .returned (.bool true) ∧ ∃ k, w' = ((w.alloc (.cells #[.slice A n c, .int .i64 a1, .int .i64 a2] 26)).drewN q).drewN k := by
    intro q
    have := rsame_any l l A B n m c c' _ ((hx.alloc (.cells #[.slice A n c, .int .i64 a1, .int .i64 a2] 26)).drewN q) ((hy.alloc (.cells #[.slice A n c, .int .i64 a1, .int .i64 a2] 26)).drewN q) hn (by omega)
    simpa using this
  have S2 : ∀ q, Calls Try.prog 5 #[.slice B m c', .int .i64 2] ((w.alloc (.cells #[.slice A n c, .int .i64 a1, .int .i64 a2] 26)).drewN q) fun e w' => e = .returned (.int .i64 a1) ∧ w' = ((w.alloc (.cells #[.slice A n c, .int .i64 a1, .int .i64 a2] 26)).drewN q) := by
    intro q
    refine (ropen_any l B m c' 2 _ (.inr rfl) ((hy.alloc (.cells #[.slice A n c, .int .i64 a1, .int .i64 a2] 26)).drewN q) (by omega)).mono ?_
    rintro e w' ⟨rfl, rfl⟩
    refine ⟨?_, rfl⟩
    have := (cnt_open (kinds l)).1
    rw [kinds_length] at this
    rw [this, h1]
  have S3 : ∀ q, Calls Try.prog 5 #[.slice B m c', .int .i64 1] ((w.alloc (.cells #[.slice A n c, .int .i64 a1, .int .i64 a2] 26)).drewN q) fun e w' => e = .returned (.int .i64 a2) ∧ w' = ((w.alloc (.cells #[.slice A n c, .int .i64 a1, .int .i64 a2] 26)).drewN q) := by
    intro q
    refine (ropen_any l B m c' 1 _ (.inl rfl) ((hy.alloc (.cells #[.slice A n c, .int .i64 a1, .int .i64 a2] 26)).drewN q) (by omega)).mono ?_
    rintro e w' ⟨rfl, rfl⟩
    refine ⟨?_, rfl⟩
    have := (cnt_open (kinds l)).2
    rw [kinds_length] at this
    rw [this, h2]
  clear hx hy h1 h2 ho1 hmn
  go_enter Try.func7, Try.ntmps7
  go_wp2_with fail
  go_quiet (first
    | (go_at_call 9; exact Calls.quiet_of (S1 _))
    | (go_at_call 5; (first | (with_reducible exact Calls.quiet_of_same (S2 _)) | (with_reducible exact Calls.quiet_of_same (S3 _)))))
  go_wp2
  go_ret
  exact ⟨rfl, Mem.below_drewN ((Below.refl _ _).alloc (Nat.le_refl _) _) _⟩
end Go.Proofs.Ytnmphoemiohgjaa.Sl
