/- Walks of the expressions' parser: Parse, what it answers. -/
import Derived.Test.YtnbchikiiipejaaDoorExSev
import Derived.Test.YtnbchikiiipejaaDoorLxEnds
import Derived.Laws.EntriesVeiled
namespace Go.Proofs.YtnbchikiiipejaaDoor.Ex
open Go.RowKit Mem Lx
set_option linter.unusedVariables false

/-- what a reading comes to, and which errors it makes, in a text of n bytes -/
def ParseOut (n : Nat) (w : World) (en : Ending) (w' : World) (ok : Bool) (l' : List Sg) (e' : List Pt) : Prop :=
  match l' with
  | x :: _ => en = .returned (.tuple #[.slice none 0 0, .int .i64 x.at_, .int .i64 2])
  | [] => if ok then ∃ v vs, en = .returned (.tuple #[v, .int .i64 0, .int .i64 0]) ∧ w'.ownsRow w.heap.size 29 5 v e'.length vs ∧ PVs w' w.heap.size e' vs
    else en = .returned (.tuple #[.slice none 0 0, .int .i64 n, .int .i64 5])
/-- what Parse answers of a text -/
def ParseIs (s : ByteArray) (w : World) (en : Ending) (w' : World) : Prop :=
  Below w.heap.size w w' ∧ match Lex s.data.toList with
    | .bad p c => en = .returned (.tuple #[.slice none 0 0, .int .i64 p, .int .i64 c])
    | .ok [] _ => en = .returned (.tuple #[.slice none 0 0, .int .i64 0, .int .i64 0])
    | .ok l _ => ∃ ok k l' e', Rd (.choice []) l [] ok k l' e' ∧ ParseOut s.size w en w' ok l' e'

theorem PVs.base {w : World} {B B' : Nat} (hb : B' ≤ B) : ∀ {ps : List Pt} {vs : List Value}, PVs w B ps vs → PVs w B' ps vs
  | [], _, h => h
  | p :: ps, _, ⟨kv, rest, e, h3, h4⟩ => ⟨kv, rest, e, h3.base hb, PVs.base hb h4⟩
theorem ownsRow_base {w : World} {B B' : Nat} {e : TypeId} {size n : Nat} {v : Value} {xs : List Value} (h : w.ownsRow B e size v n xs) (hb : B' ≤ B) : w.ownsRow B' e size v n xs := by
  refine ⟨h.1, ?_⟩
  rcases h.2 with h0 | ⟨g, cap, cur, e, hb2, rest⟩
  · exact .inl h0
  · exact .inr ⟨g, cap, cur, e, by omega, rest⟩
/-- the reader's things as Parse makes them -/
theorem PS.new {w : World} {l : List Sg} {A : Option Addr} {c : Nat} (hl : l.length ≤ c) (hg : GRow w A l.length l) :
    PS ((w.alloc (.cells #[.slice none 0 0] 24)).alloc (.cells #[.slice A l.length c, .func (.func 25) #[] #[.pointer (some ⟨w.heap.size, 0, none⟩)]] 68)) (w.heap.size + 2) (w.heap.size + 1) w.heap.size (fun _ => False) l [] := by
  have hb : Below w.heap.size w ((w.alloc (.cells #[.slice none 0 0] 24)).alloc (.cells #[.slice A l.length c, .func (.func 25) #[] #[.pointer (some ⟨w.heap.size, 0, none⟩)]] 68)) := ((Below.refl _ _).alloc (Nat.le_refl _) _).alloc (by simp) _
  refine ⟨⟨A, c, ?_, hl, hg.below hb, fun hn => ?_⟩, ⟨.slice none 0 0, [], (Boxed.new w _ _).alloc _, World.ownsRow_nil _ _ _ _, rfl, ?_⟩, by omega, by omega, by simp, fun g h => h.elim⟩
  · have := World.alloc_heap_new (w.alloc (.cells #[.slice none 0 0] 24)) (.cells #[.slice A l.length c, .func (.func 25) #[] #[.pointer (some ⟨w.heap.size, 0, none⟩)]] 68)
    rw [World.size_alloc] at this
    exact this
  · obtain ⟨b, off, e, hb2, _⟩ := hg.2 hn
    exact ⟨b, off, e, hb2⟩
  · intro u hu; simp at hu

set_option maxRecDepth 100000 in
set_option maxHeartbeats 4000000 in
theorem parse_any (s : ByteArray) (w : World) (hs : s.size ≤ 100000) (H : Held w) : Calls Tryd.prog 10 #[.string s] w (ParseIs s w) := by
  have HL := hide (lex_any s w hs H)
  obtain ⟨L, hL⟩ : ∃ L, L = Lex s.data.toList := ⟨_, rfl⟩
  have HE := lex_ends s.data.toList
  rw [← hL] at HE
  have HLL := Lib.hid hL
  clear H
  rcases HE with ⟨l, rfl, hfine, h200⟩ | ⟨p, c, rfl, hc⟩
  · have hHL : Hid (Calls Tryd.prog 24 #[.string s] w fun e w' => Below w.heap.size w w' ∧ ∃ A c, e = .returned (.tuple #[.slice A l.length c, .int .i64 0, .int .i64 0]) ∧ l.length ≤ c ∧ GRow w' A l.length l) := by
      show Calls _ _ _ _ _
      refine HL.out.mono fun e w' ⟨h1, h2⟩ => ⟨h1, ?_⟩
      rw [← HLL.out] at h2
      exact h2
    clear HL
    cases l with
    | nil =>
      go_enter Tryd.func10, Tryd.ntmps10
      go_wp2_with (go_at_call 24; (with_reducible refine (hHL.out).mono ?_); rintro en w1 ⟨hb1, A, c, rfl, hlc, hgr⟩; have HB1 := Lib.hid hb1; clear hb1)
      exact bodyPost_ret (v := .tuple #[.slice none 0 0, .int .i64 0, .int .i64 0]) (by simp [results, Tryd.results10, go_sem]) rfl ⟨HB1.out, by rw [← HLL.out]⟩
    | cons x l =>
      have hn1 : ((((x :: l).length : Nat) : Int) == 0) = false := by simp; omega
      go_enter Tryd.func10, Tryd.ntmps10
      go_upto_region 6 with (go_at_call 24; (with_reducible refine (hHL.out).mono ?_); rintro en w1 ⟨hb1, A, c, rfl, hlc, hgr⟩; have HB1 := Lib.hid hb1; clear hb1)
      have HP0 : Hid (PS ((w1.alloc (.cells #[.slice none 0 0] 24)).alloc (.cells #[.slice A (l.length + 1) c, .func (.func 25) #[] #[.pointer (some ⟨w1.heap.size, 0, none⟩)]] 68)) (w1.heap.size + 2) (w1.heap.size + 1) w1.heap.size (fun _ => False) (x :: l) []) := PS.new (A := A) (c := c) hlc hgr
      have HB0 : Hid (Below w.heap.size w ((w1.alloc (.cells #[.slice none 0 0] 24)).alloc (.cells #[.slice A (l.length + 1) c, .func (.func 25) #[] #[.pointer (some ⟨w1.heap.size, 0, none⟩)]] 68))) := ((HB1.out.alloc HB1.out.size _).alloc (by have := HB1.out.size; simp; omega) _)
      have HCH := hide (choice_reads (w1.heap.size + 2) (w1.heap.size + 1) w1.heap.size 200 (fun _ => False) (x :: l) [] _ HP0.out h200 (by simp at h200 ⊢; omega))
      have hz1 := HB1.out.size
      clear hgr
      go_upto_region 7 with (go_at_call 26; (with_reducible refine (HCH.out).mono ?_); rintro en w3 ⟨ok, k, l2, e2, rfl, hr, hp3, hg3⟩; have HR := Lib.hid hr; have HP3 := Lib.hid hp3; have HG3 := Lib.hid hg3; clear hp3 hg3 hr)
      have HB3 : Hid (Below w.heap.size w w3) := HB0.out.trans (HG3.out.below (b := w.heap.size) (by omega) (by omega) (by omega) HB0.out.size)
      have fin : ∀ en w', ParseOut s.size w en w' ok l2 e2 → Below w.heap.size w w' → ParseIs s w en w' := by
        intro en w' h hb
        refine ⟨hb, ?_⟩
        rw [← HLL.out]
        exact ⟨ok, k, l2, e2, HR.out, h⟩
      have FIN := hide fin
      clear fin
      obtain ⟨A3, c3, c0, _, hc3, f0, hR3, hA3⟩ := HP3.out.opens
      cases l2 with
      | nil =>
        cases ok with
        | false =>
          go_wp2_with fail
          exact bodyPost_ret (v := .tuple #[.slice none 0 0, .int .i64 s.size, .int .i64 5]) (by simp [results, Tryd.results10, go_sem]) rfl (FIN.out _ _ rfl HB3.out)
        | true =>
          obtain ⟨v, vs, hbx, hrow, hpv, _⟩ := HP3.out.lb
          obtain ⟨A4, c4, rfl⟩ := own_form5 hrow
          have e0 := hbx.cell
          have HROW := Lib.hid (ownsRow_base hrow (show w.heap.size ≤ w1.heap.size + 2 from by omega))
          have HPV := Lib.hid (PVs.base (show w.heap.size ≤ w1.heap.size + 2 from by omega) hpv)
          clear hbx hrow hpv
          go_wp2_with fail
          exact bodyPost_ret (v := .tuple #[.slice A4 e2.length c4, .int .i64 0, .int .i64 0]) (by simp [results, Tryd.results10, go_sem]) rfl (FIN.out _ _ ⟨_, vs, rfl, HROW.out, HPV.out⟩ HB3.out)
      | cons y l2 =>
        obtain ⟨b, off, rfl⟩ := hA3 (by simp)
        obtain ⟨A5, c5, hh, _, hg5, _⟩ := HP3.out.rb
        have hh0 : w3.cell? ⟨w1.heap.size + 1, 0, none⟩ = some (.slice A5 (y :: l2).length c5) := by simp [World.cell?, hh]
        rw [c0] at hh0
        simp only [Option.some.injEq, Value.slice.injEq] at hh0
        obtain ⟨rfl, -, -⟩ := hh0
        obtain ⟨b', off', e1, hb5, hcell⟩ := hg5.2 (by simp)
        simp only [Option.some.injEq, Addr.mk.injEq] at e1
        obtain ⟨rfl, rfl, -⟩ := e1
        have a1 := (hcell 0 (by simp)).2.1
        simp only [List.getElem_cons_zero, Nat.zero_mul, Nat.add_zero] at a1
        have t1 : decide ((0 : Int) < (l2.length : Int) + 1) = true := by simp
        have t2 : decide (0 < l2.length + 1) = true := by simp
        clear hcell hg5 hh
        go_wp2_with fail
        go_quiet (fail)
        go_wp2_with fail
        exact bodyPost_ret (v := .tuple #[.slice none 0 0, .int .i64 y.at_, .int .i64 2]) (by simp [results, Tryd.results10, go_sem]) rfl (FIN.out _ _ rfl (below_drewN HB3.out nq))
  · have hHL : Hid (Calls Tryd.prog 24 #[.string s] w fun e w' => Below w.heap.size w w' ∧ e = .returned (.tuple #[.slice none 0 0, .int .i64 p, .int .i64 c])) := by
      show Calls _ _ _ _ _
      refine HL.out.mono fun e w' ⟨h1, h2⟩ => ⟨h1, ?_⟩
      rw [← HLL.out] at h2
      exact h2
    have t1 : (c != 0) = true := by simpa using hc
    clear HL hc
    go_enter Tryd.func10, Tryd.ntmps10
    go_wp2_with (go_at_call 24; (with_reducible refine (hHL.out).mono ?_); rintro en w1 ⟨hb1, rfl⟩; have HB1 := Lib.hid hb1; clear hb1)
    exact bodyPost_ret (v := .tuple #[.slice none 0 0, .int .i64 p, .int .i64 c]) (by simp [results, Tryd.results10, go_sem]) rfl ⟨HB1.out, by rw [← HLL.out]⟩
end Go.Proofs.YtnbchikiiipejaaDoor.Ex
