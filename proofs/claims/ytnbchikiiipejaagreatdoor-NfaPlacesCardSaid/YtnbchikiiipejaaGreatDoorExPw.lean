/- Parsing, whole: the reference's Parse, the program's and the reference's side by side. -/
import Derived.Test.YtnbchikiiipejaaGreatDoorExPu
import Derived.Test.YtnbchikiiipejaaGreatDoorExBuildM
import Derived.Test.YtnbchikiiipejaaGreatDoorLxW
import Derived.Test.YtnbchikiiipejaaGreatDoorExParse
import Derived.Test.YtnbchikiiipejaaGreatDoorExPR
set_option linter.unusedVariables false
set_option maxRecDepth 100000
set_option maxHeartbeats 4000000
namespace Go.Proofs.YtnbchikiiipejaaGreatDoor.Ex
open Go.RowKit Mem Lx
theorem fine_kinds {l : List Sg} (h : ∀ x ∈ l, Fine x) : Kinds l := by
 intro x hx
 rcases h x hx with h | h | h <;> omega
theorem ck_bad {l r : List Sg} {x : Sg} {e' : List Pt} {ok : Bool} {k : Nat} (h : Rd (.choice []) l [] ok k (x :: r) e') (hk : Kinds l) : chk 0 true true l = .bad (x :: r) := by
 have ha := agrees h hk 0
 cases ok with
 | false => exact ha
 | true =>
  obtain ⟨ct, h1, h2⟩ := ha
  rw [h1]
  have hx := hk x (h.left.mem (by simp))
  simp only [Stops, hd] at h2
  by_cases h5 : x.kind = 5
  ·obtain rfl := h2.1 h5
   simp [chk, wrong, h5]
  ·have h3 : x.kind = 3 := by omega
   simp [chk, wrong, h3]
theorem ck_yes {l : List Sg} {e' : List Pt} {k : Nat} (h : Rd (.choice []) l [] true k [] e') (hk : Kinds l) : chk 0 true true l = .fin 0 false := by
 obtain ⟨ct, h1, _⟩ := agrees h hk 0
 rw [h1]; rfl
theorem ck_no {l : List Sg} {e' : List Pt} {k : Nat} (h : Rd (.choice []) l [] false k [] e') (hk : Kinds l) : ∃ d it, chk 0 true true l = .fin d it ∧ (it = true ∨ 0 < d) := agrees h hk 0
def RParseOut (n : Nat) (w : World) (en : Ending) (w' : World) (ok : Bool) (l' : List Sg) (e' : List Pt) : Prop :=
 match l' with
 | x :: _ => en = .returned (.tuple #[.slice none 0 0, .int .i64 x.at_, .int .i64 2])
 | [] => if ok then ∃ v vs, en = .returned (.tuple #[v, .int .i64 0, .int .i64 0]) ∧ w'.ownsRow w.heap.size 124 5 v e'.length vs ∧ PVs w' w.heap.size e' vs
  else en = .returned (.tuple #[.slice none 0 0, .int .i64 n, .int .i64 5])
def RParseIs (s : ByteArray) (w : World) (en : Ending) (w' : World) : Prop :=
 Below w.heap.size w w' ∧ match Lex s.data.toList with
  | .bad p c => en = .returned (.tuple #[.slice none 0 0, .int .i64 p, .int .i64 c])
  | .ok [] _ => en = .returned (.tuple #[.slice none 0 0, .int .i64 0, .int .i64 0])
  | .ok l _ => ∀ ok k l' e', Rd (.choice []) l [] ok k l' e' → RParseOut s.size w en w' ok l' e'
theorem rparse_any (s : ByteArray) (w : World) (hs : s.size ≤ 9223372036854775807) (hrd : ∀ l, Lex s.data.toList = .ok l 0 → l ≠ [] → ∃ ok k l' e', Rd (.choice []) l [] ok k l' e' ∧ ∀ ok2 k2 l2 e2, Rd (.choice []) l [] ok2 k2 l2 e2 → ok2 = ok ∧ l2 = l' ∧ e2 = e') : Calls Tryz.prog 65 #[.string s] w (RParseIs s w) := by
 have HL := hide (rlex_any s w hs)
 obtain ⟨L, hL⟩ : ∃ L, L = Lex s.data.toList := ⟨_, rfl⟩
 have HE := lex_ends s.data.toList
 rw [← hL] at HE hrd
 have HLL := Lib.hid hL
 rcases HE with ⟨l, rfl, hfine, h200⟩ | ⟨p, c, rfl, hc⟩
 ·have hHL : Hid (Calls Tryz.prog 111 #[.string s] w fun e w' => Below w.heap.size w w' ∧ ∃ A c, e = .returned (.tuple #[.slice A l.length c, .int .i64 0, .int .i64 0]) ∧ l.length ≤ c ∧ GRow w' A l.length l) := by
   show Calls _ _ _ _ _
   refine HL.out.mono fun e w' ⟨h1, h2⟩ => ⟨h1, ?_⟩
   rw [← HLL.out] at h2
   exact h2
  have hkinds := fine_kinds hfine
  clear HL
  by_cases hne : l = []
  ·subst hne
   have hck : Hid (∀ A c W, GRow W A 0 [] → Calls Tryz.prog 112 #[.slice A 0 c] W fun e w' => e = .returned (.tuple #[.int .i64 (-1), .bool false]) ∧ w' = W) := fun A c W h => check_any A 0 c [] W h (by omega) hkinds
   have hHL2 : Hid (Calls Tryz.prog 111 #[.string s] w fun e w' => Below w.heap.size w w' ∧ ∃ A c, e = .returned (.tuple #[.slice A 0 c, .int .i64 0, .int .i64 0]) ∧ GRow w' A 0 []) := hHL.out.mono fun e w' ⟨h1, A, c, h2, _, h3⟩ => ⟨h1, A, c, h2, h3⟩
   clear hrd hHL
   go_enter Tryz.func65, Tryz.ntmps65
   go_wp2_with (first
    | (go_at_call 111; (with_reducible refine (hHL2.out).mono ?_); rintro en w1 ⟨hb1, A, c, rfl, hgr⟩; have HB1 := Lib.hid hb1; have HGR := Lib.hid hgr; clear hb1 hgr)
    | (go_at_call 112; (with_reducible refine (hck.out A c w1 HGR.out).mono ?_); rintro en w2 ⟨rfl, hw2⟩; replace hw2 := hw2.symm; subst hw2))
   exact bodyPost_ret (v := .tuple #[.slice none 0 0, .int .i64 0, .int .i64 0]) (by simp [results, Tryz.results65, go_sem]) rfl ⟨HB1.out, by rw [← HLL.out]⟩
  ·obtain ⟨ok, k, l', e', hR, huniq⟩ := hrd l rfl hne
   obtain ⟨CK, hCK⟩ : ∃ CK, CK = chk 0 true true l := ⟨_, rfl⟩
   have hck : Hid (∀ A c W, GRow W A l.length l → Calls Tryz.prog 112 #[.slice A l.length c] W fun e w' => e = .returned (.tuple #[.int .i64 (ckR l.length CK).1, .bool (ckR l.length CK).2]) ∧ w' = W) := fun A c W h => by
    rw [hCK]; exact check_any A l.length c l W h (by omega) hkinds
   have fin : ∀ en w', RParseOut s.size w en w' ok l' e' → Below w.heap.size w w' → RParseIs s w en w' := by
    intro en w' h hb
    refine ⟨hb, ?_⟩
    rw [← HLL.out]
    cases l with
    | nil => exact absurd rfl hne
    | cons x l =>
     intro ok2 k2 l2 e2 h2
     obtain ⟨rfl, rfl, rfl⟩ := huniq _ _ _ _ h2
     exact h
   have FIN := hide fin
   have hpot := hR.pot
   have hpos : 0 < l.length := List.length_pos_iff.2 hne
   have hln0 : ((l.length : Int) == 0) = false := by simp; exact hne
   have hln0' : (l.length == 0) = false := by simp; exact hne
   clear fin hrd huniq
   cases l' with
   | nil =>
    cases ok with
    | false =>
     obtain ⟨d, it, h1, h2⟩ := ck_no hR hkinds
     rw [h1] at hCK
     have h3 : ckR l.length CK = (-1, true) := by
      rw [hCK]; simp only [ckR, Prod.mk.injEq, true_and, Bool.and_eq_true, decide_eq_true_eq, Bool.or_eq_true]; exact ⟨hpos, h2⟩
     rw [h3] at hck
     clear hCK h1 h2 h3 hR hne
     go_enter Tryz.func65, Tryz.ntmps65
     go_wp2_with (first
      | (go_at_call 111; (with_reducible refine (hHL.out).mono ?_); rintro en w1 ⟨hb1, A, c, rfl, hlc, hgr⟩; have HB1 := Lib.hid hb1; have HGR := Lib.hid hgr; clear hb1 hgr)
      | (go_at_call 112; (with_reducible refine (hck.out A c w1 HGR.out).mono ?_); rintro en w2 ⟨rfl, hw2⟩; replace hw2 := hw2.symm; subst hw2))
     exact bodyPost_ret (v := .tuple #[.slice none 0 0, .int .i64 s.size, .int .i64 5]) (by simp [results, Tryz.results65, go_sem]) rfl (FIN.out _ _ rfl HB1.out)
    | true =>
     rw [ck_yes hR hkinds] at hCK
     have h3 : ckR l.length CK = (-1, false) := by rw [hCK]; simp [ckR]
     rw [h3] at hck
     obtain ⟨sg, hsg, hsn⟩ := hR.seg rfl
     simp only [List.append_nil] at hsg
     rw [← hsg] at hsn
     clear hsg
     have hel : e'.length ≤ 1000 := by simp at hpot; omega
     have hSh := hide (shape_choice hsn)
     have HN := Lib.hid (⟨h200, hel⟩ : l.length ≤ 200 ∧ e'.length ≤ 1000)
     clear hCK h3 hR hne hsn
     go_enter Tryz.func65, Tryz.ntmps65
     go_wp2_with (first
      | (go_at_call 111; (with_reducible refine (hHL.out).mono ?_); rintro en w1 ⟨hb1, A, c, rfl, hlc, hgr⟩; have HB1 := Lib.hid hb1; have HGR := Lib.hid hgr; have hBA : Hid (Calls Tryz.prog 113 #[.slice none 0 0, .slice A l.length c, .int .i64 0, .int .i64 (l.length : Int)] w1 (BuildP w1.heap.size (fun _ => False) w1 (.slice none 0 0) e')) := (build_all w1.heap.size A l.length c l (by have := HN.out; omega) (l.length + 1) (fun _ => False) 0 l.length l [] [] e' w1 (.slice none 0 0) (by omega) hSh.out ⟨⟨[], World.ownsRow_nil _ _ _ _, rfl, by intro u hu; simp at hu⟩, Nat.le_refl _, fun g h => h.elim⟩ ⟨HGR.out, fun hn => by obtain ⟨b, off, e, hb2, _⟩ := HGR.out.2 hn; exact ⟨b, off, e, hb2⟩⟩ (by simp) (by simp) HN.out.2); clear hb1 hgr)
      | (go_at_call 112; (with_reducible refine (hck.out A c w1 HGR.out).mono ?_); rintro en w2 ⟨rfl, hw2⟩; replace hw2 := hw2.symm; subst hw2)
      | (go_at_call 113; (with_reducible refine (hBA.out).mono ?_); rintro en w3 ⟨v3, rfl, hq3, hg3, hf3⟩; obtain ⟨A3, c3, hv3⟩ := hq3.form; subst hv3; have HQ3 := Lib.hid hq3; have HG3 := Lib.hid hg3; clear hq3 hg3 hf3))
     obtain ⟨vs, hrow, hpv, _⟩ := HQ3.out.row
     have hz : w.heap.size ≤ w1.heap.size := HB1.out.size
     exact bodyPost_ret (v := .tuple #[.slice A3 e'.length c3, .int .i64 0, .int .i64 0]) (by simp [results, Tryz.results65, go_sem]) rfl (FIN.out _ _ ⟨_, vs, rfl, ownsRow_base hrow hz, PVs.base hz hpv⟩ (HB1.out.trans ((below_of_none HG3.out).mono hz)))
   | cons x r =>
    rw [ck_bad hR hkinds] at hCK
    obtain ⟨pre, hpre⟩ := hR.left
    have hlen : l.length = pre.length + (r.length + 1) := by rw [← hpre]; simp
    have h3 : ckR l.length CK = ((pre.length : Int), false) := by rw [hCK]; simp [ckR, hlen]
    have HLEN := Lib.hid hlen
    have hpl : (pre.length : Int) < (l.length : Int) := by omega
    have hpl' : pre.length < l.length := by omega
    rw [h3] at hck
    have hx : l[pre.length]? = some x := by rw [← hpre]; simp
    clear hCK h3 hR hlen hpre hpot
    go_enter Tryz.func65, Tryz.ntmps65
    go_upto_region 6 with (first
      | (go_at_call 111; (with_reducible refine (hHL.out).mono ?_); rintro en w1 ⟨hb1, A, c, rfl, hlc, hgr⟩; have HB1 := Lib.hid hb1; have HGR := Lib.hid hgr; clear hb1 hgr)
      | (go_at_call 112; (with_reducible refine (hck.out A c w1 HGR.out).mono ?_); rintro en w2 ⟨rfl, hw2⟩; replace hw2 := hw2.symm; subst hw2))
    obtain ⟨b, off, hA, hb, hcell⟩ := HGR.out.2 hpos
    have a1 := (hcell pre.length hpl').2.1
    have hxe : l[pre.length] = x := by
     rw [List.getElem?_eq_getElem hpl'] at hx
     injection hx
    rw [hxe] at a1
    subst hA
    clear hcell hx hxe
    go_quiet (fail)
    go_wp2_with fail
    exact bodyPost_ret (v := .tuple #[.slice none 0 0, .int .i64 x.at_, .int .i64 2]) (by simp [results, Tryz.results65, go_sem]) rfl (FIN.out _ _ rfl (below_drewN HB1.out nq))
 ·have hHL : Hid (Calls Tryz.prog 111 #[.string s] w fun e w' => Below w.heap.size w w' ∧ e = .returned (.tuple #[.slice none 0 0, .int .i64 p, .int .i64 c])) := by
   show Calls _ _ _ _ _
   refine HL.out.mono fun e w' ⟨h1, h2⟩ => ⟨h1, ?_⟩
   rw [← HLL.out] at h2
   exact h2
  have t1 : (c != 0) = true := by simpa using hc
  clear HL hc hrd
  go_enter Tryz.func65, Tryz.ntmps65
  go_wp2_with (go_at_call 111; (with_reducible refine (hHL.out).mono ?_); rintro en w1 ⟨hb1, rfl⟩; have HB1 := Lib.hid hb1; clear hb1)
  exact bodyPost_ret (v := .tuple #[.slice none 0 0, .int .i64 p, .int .i64 c]) (by simp [results, Tryz.results65, go_sem]) rfl ⟨HB1.out, by rw [← HLL.out]⟩
end Go.Proofs.YtnbchikiiipejaaGreatDoor.Ex
namespace Go.Proofs.YtnbchikiiipejaaGreatDoor.Ex
open Go.RowKit Mem Lx
theorem pr_none (w : World) : PR w none 0 [] := ⟨rfl, fun h => absurd h (by omega)⟩
end Go.Proofs.YtnbchikiiipejaaGreatDoor.Ex
namespace Go.Proofs.YtnbchikiiipejaaGreatDoor.Ex
open Go.RowKit Mem Lx
theorem hd_cons {l : List Sg} {v : Int} (h : hd l = v) (hv : v ≠ 0) : ∃ x t, l = x :: t ∧ x.kind = v := by
 cases l with
 | nil => exact absurd h.symm hv
 | cons x t => exact ⟨x, t, rfl, h⟩
theorem Rd.total : ∀ (n : Nat) (l : List Sg), l.length ≤ n → ∀ (v : Lv) (e : List Pt), ∃ ok k l' e', Rd v l e ok k l' e' ∧ (ok = true → l'.length < l.length)
 | n, l, hn => by
  have IH : ∀ l2 : List Sg, l2.length < l.length → ∀ (v : Lv) (e : List Pt), ∃ ok k l' e', Rd v l2 e ok k l' e' ∧ (ok = true → l'.length < l2.length) := by
   intro l2 h2
   match n, hn with
   | 0, hn => omega
   | n + 1, hn => exact Rd.total n l2 (by omega)
  have hbare : ∀ e, ∃ ok k l' e', Rd .bare l e ok k l' e' ∧ (ok = true → l'.length < l.length) := by
   intro e
   match l, IH with
   | [], _ => exact ⟨false, 0, [], e, .none (by decide) (by decide), fun h => by cases h⟩
   | x :: t, IH =>
    by_cases h1 : x.kind = 1
    ·exact ⟨true, _, t, _, .name h1, fun _ => by simp⟩
    ·by_cases h2 : x.kind = 2
     ·obtain ⟨ok, k, l', e', hr, hl⟩ := IH t (by simp) (.choice []) e
      cases ok with
      | false => exact ⟨false, 0, l', e', .inBad h2 hr, fun h => by cases h⟩
      | true =>
       by_cases h3 : hd l' = 3
       ·obtain ⟨y, t', rfl, hy⟩ := hd_cons h3 (by decide)
        exact ⟨true, k, t', e', .shut h2 hr hy, fun _ => by have := hl rfl; simp at this ⊢; omega⟩
       ·exact ⟨false, 0, l', e', .noShut h2 hr h3, fun h => by cases h⟩
     ·exact ⟨false, 0, x :: t, e, .none h1 h2, fun h => by cases h⟩
  have hitem : ∀ e, ∃ ok k l' e', Rd .item l e ok k l' e' ∧ (ok = true → l'.length < l.length) := by
   intro e
   obtain ⟨ok, k, l', e', hr, hl⟩ := hbare e
   cases ok with
   | false => exact ⟨false, 0, l', e', .itemBad hr, fun h => by cases h⟩
   | true =>
    by_cases h5 : hd l' = 5
    ·obtain ⟨y, t', rfl, hy⟩ := hd_cons h5 (by decide)
     exact ⟨true, _, t', _, .times hr hy, fun _ => by have := hl rfl; simp at this ⊢; omega⟩
    ·exact ⟨true, k, l', e', .item hr h5, hl⟩
  have hrow : ∀ ks e, ∃ ok k l' e', Rd (.row ks) l e ok k l' e' ∧ (ok = true → l'.length < l.length) := by
   intro ks e
   obtain ⟨ok, k, l', e', hr, hl⟩ := hitem e
   cases ok with
   | false => exact ⟨false, 0, l', e', .rowBad hr, fun h => by cases h⟩
   | true =>
    by_cases h12 : hd l' = 1 ∨ hd l' = 2
    ·obtain ⟨ok2, k2, l2, e2, hr2, hl2⟩ := IH l' (hl rfl) (.row (ks ++ [k])) e'
     exact ⟨ok2, k2, l2, e2, .rowMore hr h12 hr2, fun h => by have := hl rfl; have := hl2 h; omega⟩
    ·exact ⟨true, _, l', _, .rowEnd hr (fun h => h12 (.inl h)) (fun h => h12 (.inr h)), hl⟩
  intro v e
  cases v with
  | bare => exact hbare e
  | item => exact hitem e
  | row ks => exact hrow ks e
  | choice ks =>
   obtain ⟨ok, k, l', e', hr, hl⟩ := hrow [] e
   cases ok with
   | false => exact ⟨false, 0, l', e', .chBad hr, fun h => by cases h⟩
   | true =>
    by_cases h4 : hd l' = 4
    ·obtain ⟨y, t', rfl, hy⟩ := hd_cons h4 (by decide)
     have := hl rfl
     obtain ⟨ok2, k2, l2, e2, hr2, hl2⟩ := IH t' (by simp at this; omega) (.choice (ks ++ [k])) e'
     exact ⟨ok2, k2, l2, e2, .chMore hr hy hr2, fun h => by have := hl2 h; simp at *; omega⟩
    ·exact ⟨true, _, l', _, .chEnd hr h4, hl⟩
theorem reads (l : List Sg) : ∃ ok k l' e', Rd (.choice []) l [] ok k l' e' ∧ ∀ ok2 k2 l2 e2, Rd (.choice []) l [] ok2 k2 l2 e2 → ok2 = ok ∧ l2 = l' ∧ e2 = e' := by
 obtain ⟨ok, k, l', e', hr, _⟩ := Rd.total l.length l (Nat.le_refl _) (.choice []) []
 exact ⟨ok, k, l', e', hr, fun ok2 k2 l2 e2 g => by obtain ⟨a, _, b, c⟩ := hr.det g; exact ⟨a, b, c⟩⟩
theorem rparse_ends (s : ByteArray) (w : World) (hs : s.size ≤ 9223372036854775807) : Calls Tryz.prog 65 #[.string s] w fun en w' => Below w.heap.size w w' ∧ ∃ A n c i f, en = .returned (.tuple #[.slice A n c, .int .i64 i, .int .i64 f]) := by
 refine (rparse_any s w hs (fun l _ _ => reads l)).mono fun en w' ⟨hb, h⟩ => ⟨hb, ?_⟩
 split at h
 ·exact ⟨_, _, _, _, _, h⟩
 ·exact ⟨_, _, _, _, _, h⟩
 ·rename_i l _ _ _
  obtain ⟨ok, k, l', e', hr, _⟩ := reads l
  have g := h ok k l' e' hr
  unfold RParseOut at g
  split at g
  ·exact ⟨_, _, _, _, _, g⟩
  ·split at g
   ·obtain ⟨v, vs, g, ho, _⟩ := g
    obtain ⟨A, c, rfl⟩ := own_form5 ho
    exact ⟨_, _, _, _, _, g⟩
   ·exact ⟨_, _, _, _, _, g⟩
theorem parse_two (s : ByteArray) (hs : s.size ≤ 100000) :
  (∃ i f : Int, f ≠ 0 ∧ ∀ W, Calls Tryz.prog 65 #[.string s] W fun en w' => en = .returned (.tuple #[.slice none 0 0, .int .i64 i, .int .i64 f]) ∧ Below W.heap.size W w') ∨
  (∃ e : List Pt, Good e ∧ rightI (e.map Pt.toI) = true ∧ e.length ≤ 1000 ∧
    (∀ W, Calls Tryz.prog 65 #[.string s] W fun en w' => ∃ A c, en = .returned (.tuple #[.slice A e.length c, .int .i64 0, .int .i64 0]) ∧ PR w' A e.length (e.map Pt.toI) ∧ Below W.heap.size W w') ∧
    ∀ W, Held W → Calls Tryz.prog 68 #[.string s] W fun en w' => ∃ A c, en = .returned (.tuple #[.slice A e.length c, .int .i64 0, .int .i64 0]) ∧ PR w' A e.length (e.map Pt.toI) ∧ Below W.heap.size W w') := by
 have hR : ∀ W, Calls Tryz.prog 65 #[.string s] W (RParseIs s W) := fun W => rparse_any s W (by omega) (fun l _ _ => reads l)
 have hP : ∀ W, Held W → Calls Tryz.prog 68 #[.string s] W (ParseIs s W) := fun W HW => parse_any s W hs HW
 rcases lex_ends s.data.toList with ⟨l, hl, hf, h200⟩ | ⟨p, c, hl, hc⟩
 ·cases l with
  | nil =>
   refine .inr ⟨[], Good.nil, rfl, by simp, fun W => (hR W).mono fun en w2 ⟨hb2, g⟩ => ?_, fun W HW => (hP W HW).mono fun en w2 ⟨hb2, g⟩ => ?_⟩
   ·rw [hl] at g
    exact ⟨none, 0, g, pr_none _, hb2⟩
   ·rw [hl] at g
    exact ⟨none, 0, g, pr_none _, hb2⟩
  | cons x l =>
   obtain ⟨ok, k, l', e', hr, hdet⟩ := reads (x :: l)
   have hR2 : ∀ W, Calls Tryz.prog 65 #[.string s] W fun en w' => Below W.heap.size W w' ∧ RParseOut s.size W en w' ok l' e' := fun W => (hR W).mono fun en w2 ⟨hb2, g⟩ => by
    rw [hl] at g
    exact ⟨hb2, g _ _ _ _ hr⟩
   cases l' with
   | cons y r => exact .inl ⟨_, _, by decide, fun W => (hR2 W).mono fun en w2 ⟨hb2, g⟩ => ⟨g, hb2⟩⟩
   | nil =>
    cases ok with
    | false => exact .inl ⟨_, _, by decide, fun W => (hR2 W).mono fun en w2 ⟨hb2, g⟩ => ⟨g, hb2⟩⟩
    | true =>
     obtain ⟨sg, hsg, hsn⟩ := hr.seg rfl
     rw [List.append_nil] at hsg
     have hfs : ∀ x ∈ sg, Fine x := by rw [← hsg]; exact hf
     have hgood := hsn.good' hfs
     have hright := hsn.right hfs
     have hpot := hr.pot
     have hlen : e'.length ≤ 1000 := by simp at hpot h200; omega
     have hle : (e'.map Pt.toI).length = e'.length := by simp
     refine .inr ⟨e', hgood, hright, hlen, fun W => (hR2 W).mono fun en w2 ⟨hb2, g⟩ => ?_, fun W HW => (hP W HW).mono fun en w2 ⟨hb2, g⟩ => ?_⟩
     ·obtain ⟨v2, vs2, rfl, hrow2, hpv2⟩ := g
      have hpw2 := hpv2.pw (hgood.kids (by omega))
      rw [← hle] at hrow2
      obtain ⟨A2, c2, rfl, _, hpr2⟩ := PR.of_own hrow2 hpw2
      rw [hle] at hpr2
      exact ⟨A2, c2, by rw [hle], hpr2, hb2⟩
     ·rw [hl] at g
      obtain ⟨ok2, k2, l2, e2, hr2, ho⟩ := g
      obtain ⟨rfl, rfl, rfl⟩ := hdet _ _ _ _ hr2
      obtain ⟨v, vs, rfl, hrow, hpv⟩ := ho
      have hpw := hpv.pw (hgood.kids (by omega))
      rw [← hle] at hrow
      obtain ⟨A, c, rfl, _, hpr⟩ := PR.of_own hrow hpw
      rw [hle] at hpr
      exact ⟨A, c, by rw [hle], hpr, hb2⟩
 ·exact .inl ⟨_, _, hc, fun W => (hR W).mono fun en w2 ⟨hb2, g⟩ => by rw [hl] at g; exact ⟨g, hb2⟩⟩
end Go.Proofs.YtnbchikiiipejaaGreatDoor.Ex
