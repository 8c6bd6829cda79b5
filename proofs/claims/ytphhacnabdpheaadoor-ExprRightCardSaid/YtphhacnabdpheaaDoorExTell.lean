/- Walks of the expressions' Show: the signs of a part told (tell), and laid (the closure that Show hands on). -/
import Derived.Test.YtphhacnabdpheaaDoorExPR
import Derived.Test.YtphhacnabdpheaaDoorLxEnds
import Derived.Deep.Cut
namespace Go.Proofs.YtphhacnabdpheaaDoor.Ex
open Go.RowKit Mem Lx
set_option linter.unusedVariables false

/-- does a part of one kind stand in brackets in one of another kind? -/
def brk (k within : Int) : Bool := if within = 2 then k == 2 || k == 3 else if within = 3 then k == 3 else k != 1
/-- the signs of kids, from the idx-th on, each as T tells it -/
def tellK (T : Nat → List Sg) (e : List PI) (kind : Int) : Nat → List Int → List Sg
  | _, [] => []
  | idx, k :: ks => ((if 0 < idx ∧ kind = 3 then [⟨4, 0, 0, 0, []⟩] else []) ++ (if brk ((e[k.toNat]?.map PI.kind).getD 0) kind then (⟨2, 0, 0, 0, []⟩ :: T k.toNat) ++ [⟨3, 0, 0, 0, []⟩] else T k.toNat)) ++ tellK T e kind (idx + 1) ks
/-- the signs of a part; fuel: how deep it is -/
def tellI (e : List PI) : Nat → Nat → List Sg
  | 0, _ => []
  | f + 1, i => match e[i]? with
    | none => []
    | some p => ((if p.kind = 1 then [⟨1, 0, 0, 0, p.name⟩] else []) ++ tellK (tellI e f) e p.kind 0 p.kids) ++ (if p.kind = 4 then [⟨5, 0, p.low, p.high, []⟩] else [])
/-- a part whose kids are there, and theirs, and so on -/
def Deep (e : List PI) : Nat → Nat → Prop
  | 0, _ => False
  | f + 1, i => ∃ p, e[i]? = some p ∧ ∀ k ∈ p.kids, 0 ≤ k ∧ Deep e f k.toNat

/-- what may change while signs are laid: the list's box at X, and rows of signs -/
structure Gs (X : Nat) (w w' : World) : Prop where
  size : w.heap.size ≤ w'.heap.size
  block : ∀ i, i < w.heap.size → i ≠ X → (∀ cs fr, w.heap[i]? ≠ some (.cells cs 68 fr)) → w'.heap[i]? = w.heap[i]?
theorem Gs.refl (X : Nat) (w : World) : Gs X w w := ⟨Nat.le_refl _, fun _ _ _ _ => rfl⟩
theorem Gs.trans {X : Nat} {w w' w'' : World} (h : Gs X w w') (g : Gs X w' w'') : Gs X w w'' := ⟨Nat.le_trans h.size g.size, fun i hi h1 h3 => by
    have e := h.block i hi h1 h3
    exact (g.block i (Nat.lt_of_lt_of_le hi h.size) h1 (by rw [e]; exact h3)).trans e⟩
theorem Gs.of_below {X : Nat} {w w' : World} (h : Below w.heap.size w w') : Gs X w w' := ⟨h.size, fun i hi _ _ => h.block i hi⟩
theorem Gs.alloc {X : Nat} {w w' : World} (h : Gs X w w') (o : Obj) : Gs X w (w'.alloc o) := h.trans (Gs.of_below ((Below.refl _ _).alloc (Nat.le_refl _) o))
/-- the signs that were laid, in the list whose box is at X -/
structure SS (w0 : World) (X : Nat) (w : World) (l : List Sg) : Prop where
  bel : Below w0.heap.size w0 w
  hx : w0.heap.size ≤ X
  row : ∃ v, Boxed w X 57 v ∧ w.ownsRow w0.heap.size 68 5 v l.length (cells5 l)
theorem SS.below {w0 w w' : World} {X : Nat} {l : List Sg} (h : SS w0 X w l) (hb : Below w.heap.size w w') : SS w0 X w' l := by
  obtain ⟨h1, h2, v, h3, h4⟩ := h
  exact ⟨h1.trans (hb.mono h1.size), h2, v, (hb.block X h3.lt).trans h3, h4.kept (row := none) ⟨hb.os, hb.tape, hb.output, hb.size, fun i hi _ => hb.block i hi⟩ (Classical.em _)⟩
theorem SS.alloc {w0 w : World} {X : Nat} {l : List Sg} (h : SS w0 X w l) (o : Obj) : SS w0 X (w.alloc o) l := h.below ((Below.refl _ _).alloc (Nat.le_refl _) o)
theorem SS.drewN {w0 w : World} {X : Nat} {l : List Sg} (h : SS w0 X w l) (n : Nat) : SS w0 X (w.drewN n) l := h.below (below_drewN (Below.refl _ _) n)
theorem Gs.of_grown {X : Nat} {w w' : World} {row : Option Nat} (h : w.grownBy w' row) (hr : ∀ i, row = some i → i = X ∨ (i < w.heap.size → ∃ cs fr, w.heap[i]? = some (.cells cs 68 fr))) : Gs X w w' :=
  ⟨h.size, fun i hi h1 h3 => h.block i hi (by
    intro e
    rcases hr i e.symm with h4 | h4
    · exact h1 h4
    · obtain ⟨cs, fr, h6⟩ := h4 hi
      exact h3 cs fr h6)⟩
theorem row_ty {w : World} {base : Nat} {e : TypeId} {size n : Nat} {v : Value} {xs : List Value} (h : w.ownsRow base e size v n xs) : ∀ g, v.ownBlock = some g → base ≤ g ∧ ∃ cs fr, w.heap[g]? = some (.cells cs e fr) := by
  intro g hg
  rcases h.2 with ⟨rfl, _⟩ | ⟨g', cap, cur, rfl, hb, hc, _⟩
  · simp [Value.ownBlock] at hg
  · simp [Value.ownBlock] at hg
    subst hg
    exact ⟨hb, _, _, hc⟩
/-- what is unlike a row of signs stays -/
theorem Gs.same {X : Nat} {w w' : World} (h : Gs X w w') {i : Nat} (hi : i < w.heap.size) (h1 : i ≠ X) {cs : Array Value} {t : TypeId} {fr : Nat × Nat} (hc : w.heap[i]? = some (.cells cs t fr)) (ht : t ≠ 68) : w'.heap[i]? = some (.cells cs t fr) := by
  rw [h.block i hi h1 (fun cs' fr' e => by rw [hc] at e; simp at e; exact ht e.2.1)]
  exact hc

set_option maxRecDepth 100000 in
set_option maxHeartbeats 1000000 in
theorem put_any (w0 : World) (X : Nat) (l : List Sg) (x : Sg) (w : World) (h : SS w0 X w l) (hl : l.length ≤ 100000) :
    Calls Tryd.prog 39 #[.agg #[.int .i64 x.kind, .int .i64 x.at_, .int .i64 x.low, .int .i64 x.high, .string ⟨x.name.toArray⟩], .pointer (some ⟨X, 0, none⟩)] w fun en w' => en = .returned (.tuple #[]) ∧ SS w0 X w' (l ++ [x]) ∧ Gs X w w' := by
  obtain ⟨i0, hi0, hz0, hs1, hs2⟩ := info_parts info_sg
  have HS := hide h
  obtain ⟨kd, at_, lo, hi, nm⟩ := x
  dsimp only
  have HS1 := Lib.hid (h.alloc (.cells #[.int .i64 kd, .int .i64 at_, .int .i64 lo, .int .i64 hi, .string ⟨nm.toArray⟩] 68))
  clear h
  go_enter Tryd.func39, Tryd.ntmps39
  obtain ⟨v, hbx, hrow⟩ := HS1.out.row
  obtain ⟨A0, c0, rfl⟩ := own_form5 hrow
  have e0 := hbx.cell
  have f0 := hbx.frozen
  have HX1 := Lib.hid hbx
  have HR1 := Lib.hid (hrow.alloc (.cells #[.int .i64 kd, .int .i64 at_, .int .i64 lo, .int .i64 hi, .string ⟨nm.toArray⟩] 68))
  have HROW := Lib.hid hrow
  have hz := HS.out.bel.size
  have hxx := HS.out.hx
  clear hbx hrow
  go_wp2_with (at_builtin; (refine wpList_app_sg rfl (.tmp 3) (.tmp 5) 57 rfl w0.heap.size 68 i0 _ Tryd.underlying57 hi0 hz0 rfl hs1 hs2 _ l rfl HR1.out (w.heap.size + 1) 1 ⟨kd, at_, lo, hi, nm⟩ rfl (new_cells w (.cells #[.int .i64 kd, .int .i64 at_, .int .i64 lo, .int .i64 hi, .string ⟨nm.toArray⟩] 68) _ _ rfl) (by omega) (by simp; omega) ?_); intro v' w2 hown hg hat; obtain ⟨A2, c2, rfl⟩ := own_form5 hown; have HX2 := Lib.hid ((HX1.out.alloc (.cells #[.int .i64 kd, .int .i64 at_, .int .i64 lo, .int .i64 hi, .string ⟨nm.toArray⟩] 68)).kept hg (HX1.out.not_row (by decide) HROW.out)); have e2 := HX2.out.cell; have f2 := HX2.out.frozen)
  have hl1 : (l ++ [(⟨kd, at_, lo, hi, nm⟩ : Sg)]).length = l.length + 1 := by simp
  rw [hl1] at hown
  have HR2 := Lib.hid hown
  have q1 := ((Gs.refl X w).alloc (.cells #[.int .i64 kd, .int .i64 at_, .int .i64 lo, .int .i64 hi, .string ⟨nm.toArray⟩] 68)).alloc (.cells #[.int .i64 kd, .int .i64 at_, .int .i64 lo, .int .i64 hi, .string ⟨nm.toArray⟩] 68)
  have q2 := Gs.of_grown (X := X) hg (fun i hi => .inr (fun _ => (row_ty HR1.out i hi).2))
  have q3 := Gs.of_grown (X := X) (grown_set w2 X 0 (.slice A2 (l.length + 1) c2)) (fun i hi => .inl (by injection hi with hi; exact hi.symm))
  have HG9 := Lib.hid ((q1.trans q2).trans q3)
  have HB9 : Hid (Below w0.heap.size w0 (w2.setCell ⟨X, 0, none⟩ (.slice A2 (l.length + 1) c2))) := (((HS.out.bel.alloc hz _).alloc (by simp; omega) _).grown hg (by simp; omega) (fun g hg => (HR1.out.lt g hg).1)).setCell hxx _
  have hne : Hid (∀ i, (Value.slice A2 (l.length + 1) c2).ownBlock = some i → i ≠ X) := fun i hi e => by
    obtain ⟨_, cs, fr, h5⟩ := row_ty HR2.out i hi
    have h6 := HX2.out
    subst e
    rw [show w2.heap[i]? = _ from h6] at h5
    simp at h5
  have HS9 : Hid (SS w0 X (w2.setCell ⟨X, 0, none⟩ (.slice A2 (l.length + 1) c2)) (l ++ [⟨kd, at_, lo, hi, nm⟩])) := ⟨HB9.out, hxx, _, HX2.out.set _, by
    rw [hl1]
    refine HR2.out.kept (grown_set w2 X 0 _) ?_
    rcases hx : (Value.slice A2 (l.length + 1) c2).ownBlock with _ | i
    · exact .inl rfl
    · exact .inr fun e => by injection e with e; exact hne.out i hx e⟩
  clear hg hat hown q1 q2 q3
  go_end0
  exact ⟨rfl, HS9.out, HG9.out⟩

set_option maxHeartbeats 1000000 in
theorem brk_any (k within : Int) (w : World) : Calls Tryd.prog 66 #[.int .i64 k, .int .i64 within] w fun en w' => en = .returned (.bool (brk k within)) ∧ w' = w := by
  obtain ⟨R, hR⟩ : ∃ R, R = brk k within := ⟨_, rfl⟩
  rw [← hR]
  unfold brk at hR
  by_cases h2 : within = 2
  · subst h2
    by_cases k2 : k = 2
    · have HR : Hid (R = true) := by show _ = _; rw [hR]; simp [k2]
      subst k2
      clear hR
      go_enter Tryd.func66, Tryd.ntmps66
      go_wp2_with fail
      go_ret
      exact ⟨by rw [HR.out]; rfl, rfl⟩
    · have t1 : (k == 2) = false := by simpa using k2
      have HR : Hid (R = (k == 3)) := by show _ = _; rw [hR]; simp [t1]
      clear hR k2
      go_enter Tryd.func66, Tryd.ntmps66
      go_wp2_with fail
      go_ret
      exact ⟨by rw [HR.out]; rfl, rfl⟩
  · have t2 : (within == 2) = false := by simpa using h2
    by_cases h3 : within = 3
    · subst h3
      have HR : Hid (R = (k == 3)) := by show _ = _; rw [hR]; simp
      clear hR h2
      go_enter Tryd.func66, Tryd.ntmps66
      go_wp2_with fail
      go_ret
      exact ⟨by rw [HR.out]; rfl, rfl⟩
    · have t3 : (within == 3) = false := by simpa using h3
      have HR : Hid (R = (k != 1)) := by show _ = _; rw [hR, if_neg h2, if_neg h3]
      clear hR h2 h3
      go_enter Tryd.func66, Tryd.ntmps66
      go_wp2_with fail
      go_ret
      exact ⟨by rw [HR.out]; rfl, rfl⟩
end Go.Proofs.YtphhacnabdpheaaDoor.Ex
