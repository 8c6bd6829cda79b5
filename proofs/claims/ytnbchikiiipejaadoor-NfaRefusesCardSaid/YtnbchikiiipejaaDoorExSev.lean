/- Walks of the expressions' reader: an item without its count. Walks of the expressions' reader: several parts, one behind the other, or with | between. -/
import Derived.Test.YtnbchikiiipejaaDoorExSt
import Derived.Deep.RegionWith
import Derived.Deep.Cut
namespace Go.Proofs.YtnbchikiiipejaaDoor.Ex
open Go.RowKit Mem Lx
set_option linter.unusedVariables false

/-- how many parts may still come: two for each sign -/
theorem Rd.pot {v : Lv} {l l' : List Sg} {e e' : List Pt} {ok : Bool} {k : Nat} (h : Rd v l e ok k l' e') : e'.length + 2 * l'.length + (if ok then slack v else 0) ≤ e.length + 2 * l.length := by
  have sr : ∀ ks, slack (.row ks) ≤ 1 := fun ks => slack_le _
  have wh : ∀ (kd : Int) (ks : List Nat) (k : Nat) (e' : List Pt), (whole kd e' (ks ++ [k])).2.length + (match ks with | [] => 1 | _ => 0) ≤ e'.length + 1 := by
    intro kd ks k e'
    cases ks with
    | nil => simp [whole]
    | cons a ks => cases ks <;> simp [whole]
  have sr' : ∀ ks, slack (.row ks) = (match ks with | [] => 1 | _ => 0) := by intro ks; cases ks <;> rfl
  have sc' : ∀ ks, slack (.choice ks) = (match ks with | [] => 1 | _ => 0) := by intro ks; cases ks <;> rfl
  have s0 : ∀ (ks : List Nat) (k : Nat), slack (.row (ks ++ [k])) = 0 := by intro ks k; cases ks <;> rfl
  have c0 : ∀ (ks : List Nat) (k : Nat), slack (.choice (ks ++ [k])) = 0 := by intro ks k; cases ks <;> rfl
  induction h with
  | name _ => simp [slack]; omega
  | none _ _ => simp
  | inBad _ _ ih => simp at ih ⊢; omega
  | noShut _ _ _ ih => simp at ih ⊢; omega
  | shut _ _ _ ih => simp [slack] at ih ⊢; omega
  | itemBad _ ih => simpa using ih
  | item _ _ ih => simpa [slack] using ih
  | times _ _ ih => simp [slack] at ih ⊢; omega
  | rowBad _ ih => simpa using ih
  | @rowMore ks l l' l'' e e' e'' k k' ok _ _ _ ih1 ih2 =>
    rw [s0] at ih2
    have := sr ks
    simp [slack] at ih1
    simp at ih2
    split <;> omega
  | @rowEnd ks l l' e e' k _ _ _ ih =>
    have := wh 2 ks k e'
    rw [sr']
    simp [slack] at ih ⊢
    omega
  | chBad _ ih => simp at ih ⊢; omega
  | @chMore ks x l l' l'' e e' e'' k k' ok _ _ _ ih1 ih2 =>
    rw [c0] at ih2
    have := slack_le (.choice ks)
    simp [slack] at ih1
    simp at ih2
    split <;> omega
  | @chEnd ks l l' e e' k _ _ ih =>
    have := wh 3 ks k e'
    rw [sc']
    simp [slack] at ih ⊢
    omega
theorem Rd.fewer {v : Lv} {l l' : List Sg} {e e' : List Pt} {ok : Bool} {k : Nat} (h : Rd v l e ok k l' e') : l'.length ≤ l.length := h.left.length_le
theorem Rd.less {v : Lv} {l l' : List Sg} {e e' : List Pt} {ok : Bool} {k : Nat} (h : Rd v l e ok k l' e') (ho : ok = true) : l'.length < l.length := by
  obtain ⟨s, rfl, hs⟩ := h.seg ho
  have := hs.ne
  simp; omega

/-- what a reading of a v answers, of signs l behind parts e -/
def RdP (v : Lv) (B R E : Nat) (F : Nat → Prop) (l : List Sg) (e : List Pt) (w : World) (en : Ending) (w' : World) : Prop :=
  ∃ ok k l' e', en = .returned (.tuple #[.int .i64 (k : Nat), .bool ok]) ∧ Rd v l e ok k l' e' ∧ PS w' B R E F l' e' ∧ Gr B R E w w'
/-- what a function of the reader does that reads a v, where at most N signs are left -/
def Reads (f : Nat) (v : Lv) (B R E N : Nat) : Prop := ∀ (F : Nat → Prop) (l : List Sg) (e : List Pt) (w : World), PS w B R E F l e → l.length ≤ N → e.length + 2 * l.length ≤ 1000 →
  Calls Tryd.prog f #[.pointer (some ⟨R, 0, none⟩)] w (RdP v B R E F l e w)
theorem Reads.fewer {f : Nat} {v : Lv} {B R E N M : Nat} (h : Reads f v B R E N) (hm : M ≤ N) : Reads f v B R E M := fun F l e w hp hl he => h F l e w hp (by omega) he

set_option maxRecDepth 100000 in
set_option maxHeartbeats 2000000 in
theorem bare_name (B R E : Nat) (F : Nat → Prop) (x : Sg) (l : List Sg) (e : List Pt) (w : World) (h : PS w B R E F (x :: l) e) (he : e.length + 2 * l.length ≤ 1000) (hk : x.kind = 1) :
    Calls Tryd.prog 73 #[.pointer (some ⟨R, 0, none⟩)] w (RdP .bare B R E F (x :: l) e w) := by
  have HT := hide (take_yes B R E F x l e w h (by omega) 1 hk)
  have HK := hide hk
  clear h hk
  obtain ⟨k1, at_, lo, hi, nm⟩ := x
  go_enter Tryd.func73, Tryd.ntmps73
  go_wp2_with (go_at_call 47; (with_reducible refine (HT.out).mono ?_); rintro en w1 ⟨rfl, hp1, hg1⟩; have HP1 := Lib.hid hp1; have HG1 := Lib.hid hg1; clear hp1 hg1; dsimp only [sgV])
  have HP2 := Lib.hid (HP1.out.alloc (.cells #[.int .i64 k1, .int .i64 at_, .int .i64 lo, .int .i64 hi, .string ⟨nm.toArray⟩] 71))
  obtain ⟨A, c, -, c1, -, -, hR, -⟩ := HP2.out.opens
  have HX2 := Lib.hid (SB.new w1 k1 at_ lo hi ⟨nm.toArray⟩)
  have HP3 : Hid (PS (w1.alloc (.cells #[.int .i64 k1, .int .i64 at_, .int .i64 lo, .int .i64 hi, .string ⟨nm.toArray⟩] 71)).drew B R E F l e) := HP2.out.drewN 1
  have HG3 : Hid (Gr B R E w (w1.alloc (.cells #[.int .i64 k1, .int .i64 at_, .int .i64 lo, .int .i64 hi, .string ⟨nm.toArray⟩] 71)).drew) := (HG1.out.alloc _).drewN 1
  obtain ⟨b0, b1, b2, b3, b4⟩ := HX2.out.cells
  generalize w1.alloc (.cells #[.int .i64 k1, .int .i64 at_, .int .i64 lo, .int .i64 hi, .string ⟨nm.toArray⟩] 71) = W2 at *
  have HL := hide (fun W (g : PS W B R E F l e) => lay_any B R E F l e W g (by omega) 1 0 0 nm [] (.slice none 0 0) (Kd.nil _ _) (by simp [Value.ownBlock]))
  clear HP1 HG1 HT
  go_still_tail 7, (by kernel_rfl)
  change wpList _ _ _ _ _ W2.drew
  go_wp2_with (go_at_call 25; (with_reducible refine (HL.out _ HP3.out).mono ?_); rintro en w9 ⟨rfl, hp9, hg9⟩; have HP9 := Lib.hid hp9; have HG9 := Lib.hid (HG3.out.trans hg9); clear hp9 hg9)
  exact bodyPost_ret (v := .tuple #[.int .i64 (e.length : Int), .bool true]) (by simp [results, Tryd.results73, go_sem]) rfl ⟨true, e.length, l, _, rfl, .name HK.out, HP9.out, HG9.out⟩
set_option maxRecDepth 100000 in
set_option maxHeartbeats 2000000 in
theorem bare_none (B R E : Nat) (F : Nat → Prop) (l : List Sg) (e : List Pt) (w : World) (h : PS w B R E F l e) (hl : l.length ≤ 900) (h1 : hd l ≠ 1) (h2 : hd l ≠ 2) :
    Calls Tryd.prog 73 #[.pointer (some ⟨R, 0, none⟩)] w (RdP .bare B R E F l e w) := by
  have HT := hide (take_no B R E F l e w h (by omega) 1 h1)
  have HT2 := hide (fun W (g : PS W B R E F l e) => take_no B R E F l e W g (by omega) 2 h2)
  have HK := Lib.hid (⟨h1, h2⟩ : hd l ≠ 1 ∧ hd l ≠ 2)
  clear h h1 h2
  go_enter Tryd.func73, Tryd.ntmps73
  go_wp2_with (go_at_call 47; first
    | ((with_reducible refine (HT.out).mono ?_); rintro en w1 ⟨rfl, hp1, hg1⟩; have HP1 := Lib.hid (hp1.alloc (.cells #[.int .i64 0, .int .i64 0, .int .i64 0, .int .i64 0, .string ⟨#[]⟩] 71)); have HG1 := Lib.hid (hg1.alloc (.cells #[.int .i64 0, .int .i64 0, .int .i64 0, .int .i64 0, .string ⟨#[]⟩] 71)); clear hp1 hg1; dsimp only [sgV])
    | ((with_reducible refine (HT2.out _ HP1.out).mono ?_); rintro en w2 ⟨rfl, hp1, hg1⟩; have HP2 := Lib.hid (hp1.alloc (.cells #[.int .i64 0, .int .i64 0, .int .i64 0, .int .i64 0, .string ⟨#[]⟩] 71)); have HG2 := Lib.hid (HG1.out.trans (hg1.alloc (.cells #[.int .i64 0, .int .i64 0, .int .i64 0, .int .i64 0, .string ⟨#[]⟩] 71))); clear hp1 hg1; dsimp only [sgV]))
  exact bodyPost_ret (v := .tuple #[.int .i64 0, .bool false]) (by simp [results, Tryd.results73, go_sem]) rfl ⟨false, 0, l, e, rfl, .none HK.out.1 HK.out.2, HP2.out, HG2.out⟩

theorem dim_any (m : Nat) (b : Bool) (h : b = true) : Ending.returned (.tuple #[.int .i64 (m : Int), .bool b]) = .returned (.tuple #[.int .i64 (m : Int), .bool true]) := by rw [h]
set_option maxRecDepth 100000 in
set_option maxHeartbeats 4000000 in
theorem bare_open (B R E : Nat) (F : Nat → Prop) (x : Sg) (l : List Sg) (e : List Pt) (w : World) (h : PS w B R E F (x :: l) e) (he : e.length + 2 * (l.length + 1) ≤ 1000) (hk : x.kind = 2) (N : Nat) (hN : l.length ≤ N) (HC : Reads 26 (.choice []) B R E N) :
    Calls Tryd.prog 73 #[.pointer (some ⟨R, 0, none⟩)] w (RdP .bare B R E F (x :: l) e w) := by
  have HT := hide (take_no B R E F (x :: l) e w h (by simp; omega) 1 (by simp [hd, hk]))
  have HT2 := hide (fun W (g : PS W B R E F (x :: l) e) => take_yes B R E F x l e W g (by omega) 2 hk)
  have HCC := hide (fun W (g : PS W B R E F l e) => HC F l e W g hN (by omega))
  have HK := hide hk
  clear h hk HC
  obtain ⟨k1, at_, lo, hi, nm⟩ := x
  go_enter Tryd.func73, Tryd.ntmps73
  go_upto_region 8 with (first
    | (go_at_call 47; first
      | ((with_reducible refine (HT.out).mono ?_); rintro en w1 ⟨rfl, hp1, hg1⟩; have HP1 := Lib.hid (hp1.alloc (.cells #[.int .i64 0, .int .i64 0, .int .i64 0, .int .i64 0, .string ⟨#[]⟩] 71)); have HG1 := Lib.hid (hg1.alloc (.cells #[.int .i64 0, .int .i64 0, .int .i64 0, .int .i64 0, .string ⟨#[]⟩] 71)); clear hp1 hg1; dsimp only [sgV])
      | ((with_reducible refine (HT2.out _ HP1.out).mono ?_); rintro en w2 ⟨rfl, hp1, hg1⟩; have HP2 := Lib.hid (hp1.alloc (.cells #[.int .i64 k1, .int .i64 at_, .int .i64 lo, .int .i64 hi, .string ⟨nm.toArray⟩] 71)); have HG2 := Lib.hid (HG1.out.trans (hg1.alloc (.cells #[.int .i64 k1, .int .i64 at_, .int .i64 lo, .int .i64 hi, .string ⟨nm.toArray⟩] 71))); clear hp1 hg1; dsimp only [sgV]))
    | (go_at_call 26; (with_reducible refine (HCC.out _ HP2.out).mono ?_); rintro en w3 ⟨ok, k, l', e', rfl, hr, hp3, hg3⟩; have HR := Lib.hid hr; have HP3 := Lib.hid hp3; have HG3 := Lib.hid (HG2.out.trans hg3); clear hp3 hg3 hr))
  cases ok with
  | false =>
    go_wp2_with fail
    exact bodyPost_ret (v := .tuple #[.int .i64 0, .bool false]) (by simp [results, Tryd.results73, go_sem]) rfl ⟨false, 0, l', e', rfl, .inBad HK.out HR.out, HP3.out, HG3.out⟩
  | true =>
    have hl' : l'.length ≤ l.length := HR.out.fewer
    by_cases h3 : hd l' = 3
    · cases l' with
      | nil => simp [hd] at h3
      | cons y l' =>
        have h3' : y.kind = 3 := h3
        have HT3 := hide (take_yes B R E F y l' e' w3 HP3.out (by simp at hl'; omega) 3 h3')
        have HY := Lib.hid h3'
        clear h3 h3'
        obtain ⟨y1, y2, y3, y4, y5⟩ := y
        go_wp2_with (go_at_call 47; (with_reducible refine (HT3.out).mono ?_); rintro en w4 ⟨rfl, hp4, hg4⟩; have HP4 := Lib.hid hp4; have HG4 := Lib.hid (HG3.out.trans hg4); clear hp4 hg4; dsimp only [sgV])
        exact bodyPost_ret (v := .tuple #[.int .i64 (k : Int), .bool true]) (by simp [results, Tryd.results73, go_sem]) rfl ⟨true, k, l', e', rfl, .shut HK.out HR.out HY.out, HP4.out, HG4.out⟩
    · have HT3 := hide (take_no B R E F l' e' w3 HP3.out (by omega) 3 h3)
      have HY := Lib.hid h3
      clear h3
      go_wp2_with (go_at_call 47; (with_reducible refine (HT3.out).mono ?_); rintro en w4 ⟨rfl, hp4, hg4⟩; have HP4 := Lib.hid hp4; have HG4 := Lib.hid (HG3.out.trans hg4); clear hp4 hg4; dsimp only [sgV])
      exact bodyPost_ret (v := .tuple #[.int .i64 0, .bool false]) (by simp [results, Tryd.results73, go_sem]) rfl ⟨false, 0, l', e', rfl, .noShut HK.out HR.out HY.out, HP4.out, HG4.out⟩
/-- an item without its count, where choices of fewer signs are read -/
theorem bare_any (B R E N : Nat) (HC : ∀ M, M < N → Reads 26 (.choice []) B R E M) : Reads 73 .bare B R E N := by
  intro F l e w hp hl he
  by_cases h1 : hd l = 1
  · cases l with
    | nil => simp [hd] at h1
    | cons x l => exact bare_name B R E F x l e w hp (by simp at he; omega) h1
  · by_cases h2 : hd l = 2
    · cases l with
      | nil => simp [hd] at h2
      | cons x l =>
        simp only [List.length_cons] at hl he
        exact bare_open B R E F x l e w hp he h2 (N - 1) (by omega) (HC (N - 1) (by omega))
    · exact bare_none B R E F l e w hp (by omega) h1 h2

theorem one_kid (w : World) (B : Nat) (k : Nat) (hB : B ≤ w.heap.size) : Kd (w.alloc (.cells #[.int .i64 (k : Int)] 3)) B (.slice (some ⟨w.heap.size, 0, none⟩) 1 1) [k] :=
  ⟨rfl, .inr ⟨w.heap.size, 1, #[.int .i64 (k : Int)], rfl, hB, World.alloc_heap_new w _, Nat.le_refl _, by simp [maxLen], rfl, rfl⟩⟩
set_option maxRecDepth 100000 in
set_option maxHeartbeats 4000000 in
theorem item_any (B R E N : Nat) (HC : Reads 73 .bare B R E N) : Reads 61 .item B R E N := by
  intro F l e w hp hl he
  have HCC := hide (HC F l e w hp hl he)
  have hbw : B ≤ w.heap.size := hp.bw
  clear HC hp
  go_enter Tryd.func61, Tryd.ntmps61
  go_upto_region 2 with (go_at_call 73; (with_reducible refine (HCC.out).mono ?_); rintro en w3 ⟨ok, k, l', e', rfl, hr, hp3, hg3⟩; have HR := Lib.hid hr; have HP3 := Lib.hid hp3; have HG3 := Lib.hid hg3; clear hp3 hg3 hr)
  have hpot := HR.out.pot
  have hfew := HR.out.fewer
  cases ok with
  | false =>
    go_wp2_with fail
    exact bodyPost_ret (v := .tuple #[.int .i64 0, .bool false]) (by simp [results, Tryd.results61, go_sem]) rfl ⟨false, 0, l', e', rfl, .itemBad HR.out, HP3.out, HG3.out⟩
  | true =>
    by_cases h5 : hd l' = 5
    · cases l' with
      | nil => simp [hd] at h5
      | cons x l' =>
        have h5' : x.kind = 5 := h5
        simp only [List.length_cons] at hpot hfew
        have HT := hide (take_yes B R E F x l' e' w3 HP3.out (by omega) 5 h5')
        have HX := Lib.hid h5'
        have hel : e'.length ≤ 1000 := by omega
        clear h5 h5' hpot hfew
        obtain ⟨k1, at_, lo, hi, nm⟩ := x
        go_upto_region 6 with (go_at_call 47; (with_reducible refine (HT.out).mono ?_); rintro en w4 ⟨rfl, hp4, hg4⟩; have HP4 := Lib.hid hp4; have HG4 := Lib.hid (HG3.out.trans hg4); clear hp4 hg4; dsimp only [sgV])
        have HP5 := Lib.hid (HP4.out.alloc (.cells #[.int .i64 k1, .int .i64 at_, .int .i64 lo, .int .i64 hi, .string ⟨nm.toArray⟩] 71))
        have HX5 := Lib.hid (SB.new w4 k1 at_ lo hi ⟨nm.toArray⟩)
        have HG5 : Hid (Gr B R E w (w4.alloc (.cells #[.int .i64 k1, .int .i64 at_, .int .i64 lo, .int .i64 hi, .string ⟨nm.toArray⟩] 71))) := HG4.out.alloc _
        generalize w4.alloc (.cells #[.int .i64 k1, .int .i64 at_, .int .i64 lo, .int .i64 hi, .string ⟨nm.toArray⟩] 71) = W5 at *
        obtain ⟨A, c, -, c1, -, -, hR, -⟩ := HP5.out.opens
        obtain ⟨b0, b1, b2, b3, b4⟩ := HX5.out.cells
        have hx5 := HX5.out.lt
        have HP6 : Hid (PS (W5.alloc (.cells #[.int .i64 (k : Int)] 3)).drew B R E F l' e') := (HP5.out.alloc _).drewN 1
        have HG6 : Hid (Gr B R E w (W5.alloc (.cells #[.int .i64 (k : Int)] 3)).drew) := (HG5.out.alloc _).drewN 1
        have HK6 : Hid (Kd (W5.alloc (.cells #[.int .i64 (k : Int)] 3)).drew B (.slice (some ⟨W5.heap.size, 0, none⟩) 1 1) [k]) := one_kid W5 B k HP5.out.bw
        have HL := hide (lay_any B R E F l' e' _ HP6.out (by omega) 4 lo hi [] [k] _ HK6.out (by intro g hg hf; have := HP5.out.fw g hf; simp [Value.ownBlock] at hg; omega))
        clear HT HP4 HG4 HG3 HP3 HCC
        go_cut [4] from 23 (fun v wx => v = .int .i64 (e'.length : Int) ∧ Hid (PS wx B R E F l' (e' ++ [⟨4, lo, hi, [], [k]⟩])) ∧ Hid (Gr B R E w wx))
        case first =>
          go_region_with (go_at_call 25; (with_reducible refine (HL.out).mono ?_); rintro en w9 ⟨rfl, hp9, hg9⟩; have HP9 := Lib.hid hp9; have HG9 := Lib.hid (HG6.out.trans hg9); clear hp9 hg9)
          all_goals (go_wp2_with fail; go_meet; exact ⟨rfl, HP9, HG9⟩)
        case rest =>
          obtain ⟨rfl, HP9, HG9⟩ := hcut
          go_wp2_with fail
          exact bodyPost_ret (v := .tuple #[.int .i64 (e'.length : Int), .bool true]) (by simp [results, Tryd.results61, go_sem]) rfl ⟨true, e'.length, l', _, rfl, .times HR.out HX.out, HP9.out, HG9.out⟩
    · have HT := hide (take_no B R E F l' e' w3 HP3.out (by omega) 5 h5)
      have HY := Lib.hid h5
      clear h5
      go_wp2_with (go_at_call 47; (with_reducible refine (HT.out).mono ?_); rintro en w4 ⟨rfl, hp4, hg4⟩; have HP4 := Lib.hid hp4; have HG4 := Lib.hid (HG3.out.trans hg4); clear hp4 hg4; dsimp only [sgV])
      exact bodyPost_ret (v := .tuple #[.int .i64 (k : Int), .bool true]) (by simp [results, Tryd.results61, go_sem]) rfl ⟨true, k, l', e', rfl, .item HR.out HY.out, HP4.out.alloc _, HG4.out.alloc _⟩
end Go.Proofs.YtnbchikiiipejaaDoor.Ex
namespace Go.Proofs.YtnbchikiiipejaaDoor.Ex
open Go.RowKit Mem Lx
set_option linter.unusedVariables false

/-- how many signs are left, as the reader's block tells it -/
def left (w : World) (R : Nat) : Nat := match w.cell? ⟨R, 0, none⟩ with | some (.slice _ n _) => n | _ => 0
theorem PS.left {w : World} {B R E : Nat} {F : Nat → Prop} {l : List Sg} {e : List Pt} (h : PS w B R E F l e) : Ex.left w R = l.length := by
  obtain ⟨A, c, h0, _⟩ := h.opens
  simp [Ex.left, h0]
theorem Rd.place {v : Lv} {l l' : List Sg} {e e' : List Pt} {k : Nat} (h : Rd v l e true k l' e') : e'.length = k + 1 := by
  obtain ⟨s, _, hs⟩ := h.seg rfl
  exact hs.last
theorem Gr.boxed {B R E : Nat} {w w' : World} (h : Gr B R E w w') {X : Nat} {t : TypeId} {v : Value} (hx : Boxed w X t v) (h1 : X ≠ R) (h2 : X ≠ E) (ht : t ≠ 29) : Boxed w' X t v := h.same hx.lt h1 h2 hx ht
/-- the first of kids -/
theorem Kd.first {w : World} {B : Nat} {A : Option Addr} {n c k : Nat} {ks : List Nat} (h : Kd w B (.slice A n c) (k :: ks)) : ∃ g, A = some ⟨g, 0, none⟩ ∧ n = ks.length + 1 ∧ w.cell? ⟨g, 0, none⟩ = some (.int .i64 (k : Int)) := by
  rcases h.2 with ⟨h1, h0⟩ | ⟨g, cap, cur, e, hb, hg, hnc, hm, hs, ht⟩
  · simp at h0
  · have e' := e
    simp only [Value.slice.injEq] at e'
    obtain ⟨rfl, rfl, rfl⟩ := e'
    refine ⟨g, rfl, by simp, ?_⟩
    have := World.ownsRow.cells h (g := g) rfl 0 (.int .i64 (k : Int)) (by simp [pl])
    exact this
theorem Kd.base {w : World} {B B' : Nat} {v : Value} {ks : List Nat} (h : Kd w B v ks) (hb : B' ≤ B) : Kd w B' v ks := by
  refine ⟨h.1, ?_⟩
  rcases h.2 with h0 | ⟨g, cap, cur, e, hb2, rest⟩
  · exact .inl h0
  · exact .inr ⟨g, cap, cur, e, by omega, rest⟩
/-- parts' kids lie in what there is -/
theorem PVs.av_new {w : World} {B : Nat} : ∀ {ps : List Pt} {vs : List Value}, PVs w B ps vs → ∀ u ∈ vs, ∀ g, u.ownBlock = some g → g < w.heap.size
  | [], vs, h => by
    have h' : vs = [] := h
    subst h'
    intro u hu; simp at hu
  | p :: ps, _, ⟨kv, rest, e, h3, h4⟩ => by
    subst e
    intro u hu g hg
    rcases List.mem_append.1 hu with hu | hu
    · simp only [pcells, List.mem_cons, List.not_mem_nil, or_false] at hu
      rcases hu with rfl | rfl | rfl | rfl | rfl
      · simp [Value.ownBlock] at hg
      · simp [Value.ownBlock] at hg
      · simp [Value.ownBlock] at hg
      · simp [Value.ownBlock] at hg
      · exact (World.ownsRow.lt h3 g hg).2
    · exact PVs.av_new h4 u hu g hg
/-- one more block that no part's kids lie in -/
def And1 (F : Nat → Prop) (v : Value) (g : Nat) : Prop := F g ∨ v.ownBlock = some g
theorem PS.weaken {w : World} {B R E : Nat} {F G : Nat → Prop} {l : List Sg} {e : List Pt} (h : PS w B R E F l e) (hg : ∀ g, G g → F g) : PS w B R E G l e := by
  obtain ⟨h1, ⟨v, vs, g1, g2, g3, g4⟩, d1, d2, d3, d4⟩ := h
  exact ⟨h1, ⟨v, vs, g1, g2, g3, fun u hu g hg2 hf => g4 u hu g hg2 (hg g hf)⟩, d1, d2, d3, fun g hf => d4 g (hg g hf)⟩
theorem PS.of_nil {w : World} {B R E : Nat} {F : Nat → Prop} {l : List Sg} {e : List Pt} (h : PS w B R E F l e) : PS w B R E (And1 F (.slice none 0 0)) l e :=
  h.weaken (fun g hg => by rcases hg with hg | hg; exact hg; simp [Value.ownBlock] at hg)
/-- kids' own row grows: the reader's things stay, and its new place is no part's kids' -/
theorem PS.kids {w w' : World} {B R E : Nat} {F : Nat → Prop} {l : List Sg} {e : List Pt} {v v' : Value} {ks ks' : List Nat} (h : PS w B R E (And1 F v) l e) (hk : Kd w B v ks) (hg : w.grownBy w' v.ownBlock) (hk' : Kd w' B v' ks') (ha : v'.ownBlock = v.ownBlock ∨ v'.ownBlock = some w.heap.size) : PS w' B R E (And1 F v') l e := by
  obtain ⟨⟨A, c, h1, h2, h3, h4⟩, ⟨x, vs, g1, g2, g3, g4⟩, d1, d2, d3, d4⟩ := h
  have hno : ∀ i, i < B → some i ≠ v.ownBlock := fun i hi e => by have := (World.ownsRow.lt hk i e.symm).1; omega
  have hint : ∀ i, v.ownBlock = some i → ∃ cs fr, w.heap[i]? = some (.cells cs 3 fr) := fun i hi => (ownsRow_row hk i hi).2
  refine ⟨⟨A, c, (hg.block R (by omega) (hno R d2)).trans h1, h2, ⟨h3.1, fun hn => ?_⟩, h4⟩, ⟨x, vs, g1.kept hg (hno E (by omega)), g2.kept hg ?_, ?_, ?_⟩, d1, d2, Nat.le_trans d3 hg.size, ?_⟩
  · obtain ⟨b', off', e1, e2, e3⟩ := h3.2 hn
    obtain ⟨b'', off'', e4, e5⟩ := h4 hn
    have hbb : b' < E := by rw [e1] at e4; simp at e4; omega
    refine ⟨b', off', e1, Nat.lt_of_lt_of_le e2 hg.size, fun j hj => ?_⟩
    obtain ⟨a0, a1, a2, a3, a4⟩ := e3 j hj
    have k : ∀ o u, w.cell? ⟨b', o, none⟩ = some u → w'.cell? ⟨b', o, none⟩ = some u := fun o u hu => hg.cell hu (hno b' (by omega))
    exact ⟨k _ _ a0, k _ _ a1, k _ _ a2, k _ _ a3, k _ _ a4⟩
  · rcases hx : x.ownBlock with _ | i
    · exact .inl rfl
    · refine .inr fun e => ?_
      obtain ⟨_, cs, fr, e1⟩ := ownsRow_row g2 i hx
      obtain ⟨cs', fr', e2⟩ := hint i e.symm
      rw [e1] at e2; simp at e2
  · have key : ∀ {ps : List Pt} {vs : List Value}, PVs w B ps vs → Av (And1 F v) vs → PVs w' B ps vs := by
      intro ps
      induction ps with
      | nil => intro vs h _; exact h
      | cons p ps ih =>
        rintro _ ⟨kv, rest, rfl, q1, q2⟩ hav
        refine ⟨kv, rest, rfl, World.ownsRow.kept q1 hg ?_, ih q2 (fun u hu => hav u (List.mem_append_right _ hu))⟩
        rcases hkv : kv.ownBlock with _ | i
        · exact .inl rfl
        · refine .inr fun e => ?_
          exact hav kv (List.mem_append_left _ (by simp [pcells])) i hkv (.inr e.symm)
    exact key g3 g4
  · intro u hu g hg2 hf
    rcases hf with hf | hf
    · exact g4 u hu g hg2 (.inl hf)
    · rcases ha with ha | ha
      · exact g4 u hu g hg2 (.inr (by rw [← ha]; exact hf))
      · rw [ha] at hf
        injection hf with hf
        have := PVs.av_new g3 u hu g hg2
        omega
  · intro g hf
    rcases hf with hf | hf
    · exact Nat.lt_of_lt_of_le (d4 g (.inl hf)) hg.size
    · exact (World.ownsRow.lt hk' g hf).2
theorem Gr.own {B R E : Nat} {w w' w'' : World} (h : Gr B R E w w') {row : Option Nat} (g : w'.grownBy w'' row) (hr : ∀ i, row = some i → w.heap.size ≤ i) : Gr B R E w w'' :=
  ⟨g.os.trans h.os, g.tape.trans h.tape, g.output.trans h.output, Nat.le_trans h.size g.size, fun i hi h1 h2 h3 => (g.block i (Nat.lt_of_lt_of_le hi h.size) (fun e => by have := hr i e.symm; omega)).trans (h.block i hi h1 h2 h3)⟩
theorem Kd.gr {B R E b : Nat} {w w' : World} (h : Gr B R E w w') (h1 : R < B) (h2 : E < B) (hb : B ≤ b) {kv : Value} {ks : List Nat} (hk : Kd w b kv ks) : Kd w' b kv ks := by
  have h3 := h.kd h1 h2 (hk.base hb)
  refine ⟨h3.1, ?_⟩
  rcases h3.2 with h0 | ⟨g, cap, cur, e, hb2, rest⟩
  · exact .inl h0
  · refine .inr ⟨g, cap, cur, e, ?_, rest⟩
    exact (World.ownsRow.lt hk g (by rw [e]; rfl)).1

theorem more_row_yes (B R E X : Nat) (F : Nat → Prop) (l : List Sg) (e : List Pt) (w : World) (h : PS w B R E F l e) (hl : l.length ≤ 900) (hx : Boxed w X 97 (.pointer (some ⟨R, 0, none⟩))) (hy : hd l = 1 ∨ hd l = 2) :
    Calls Tryd.prog 62 #[.pointer (some ⟨X, 0, none⟩)] w fun en w' => en = .returned (.bool true) ∧ PS w' B R E F l e ∧ Gr B R E w w' :=
  (more_row B R E X F l e w h hl hx).mono fun en w' ⟨b, l', h1, h2, h3, h4⟩ => by
    rcases h4 with ⟨rfl, rfl, _⟩ | ⟨_, _, h5⟩
    · exact ⟨h1, h2, h3⟩
    · omega
theorem more_row_no (B R E X : Nat) (F : Nat → Prop) (l : List Sg) (e : List Pt) (w : World) (h : PS w B R E F l e) (hl : l.length ≤ 900) (hx : Boxed w X 97 (.pointer (some ⟨R, 0, none⟩))) (hy : hd l ≠ 1) (hy2 : hd l ≠ 2) :
    Calls Tryd.prog 62 #[.pointer (some ⟨X, 0, none⟩)] w fun en w' => en = .returned (.bool false) ∧ PS w' B R E F l e ∧ Gr B R E w w' :=
  (more_row B R E X F l e w h hl hx).mono fun en w' ⟨b, l', h1, h2, h3, h4⟩ => by
    rcases h4 with ⟨_, _, h5⟩ | ⟨rfl, rfl, _⟩
    · omega
    · exact ⟨h1, h2, h3⟩
theorem more_choice_yes (B R E X : Nat) (F : Nat → Prop) (x : Sg) (l : List Sg) (e : List Pt) (w : World) (h : PS w B R E F (x :: l) e) (hl : l.length ≤ 800) (hx : Boxed w X 97 (.pointer (some ⟨R, 0, none⟩))) (hy : x.kind = 4) :
    Calls Tryd.prog 46 #[.pointer (some ⟨X, 0, none⟩)] w fun en w' => en = .returned (.bool true) ∧ PS w' B R E F l e ∧ Gr B R E w w' :=
  (more_choice B R E X F (x :: l) e w h (by simp; omega) hx).mono fun en w' ⟨b, l', h1, h2, h3, h4⟩ => by
    rcases h4 with ⟨rfl, y, h5, _⟩ | ⟨_, _, h5⟩
    · simp only [List.cons.injEq] at h5
      obtain ⟨rfl, rfl⟩ := h5
      exact ⟨h1, h2, h3⟩
    · exact absurd hy h5
theorem more_choice_no (B R E X : Nat) (F : Nat → Prop) (l : List Sg) (e : List Pt) (w : World) (h : PS w B R E F l e) (hl : l.length ≤ 900) (hx : Boxed w X 97 (.pointer (some ⟨R, 0, none⟩))) (hy : hd l ≠ 4) :
    Calls Tryd.prog 46 #[.pointer (some ⟨X, 0, none⟩)] w fun en w' => en = .returned (.bool false) ∧ PS w' B R E F l e ∧ Gr B R E w w' :=
  (more_choice B R E X F l e w h hl hx).mono fun en w' ⟨b, l', h1, h2, h3, h4⟩ => by
    rcases h4 with ⟨_, y, h5, h6⟩ | ⟨rfl, rfl, _⟩
    · subst h5; exact absurd h6 hy
    · exact ⟨h1, h2, h3⟩

/-- where 'several' stands ahead of another item: whatever it reads from there on it reads at all -/
def Entrow (ks : List Nat) (l1 : List Sg) (e1 : List Pt) (l : List Sg) (e : List Pt) : Prop := ∀ ok k l' e', Rd (.row ks) l1 e1 ok k l' e' → Rd (.row []) l e ok k l' e'
/-- where it stands behind one -/
def Behrow (ks : List Nat) (l1 : List Sg) (e1 : List Pt) (l : List Sg) (e : List Pt) : Prop := ks ≠ [] ∧ ((hd l1 = 1 ∨ hd l1 = 2) → Entrow ks l1 e1 l e) ∧ (hd l1 ≠ 1 → hd l1 ≠ 2 → Rd (.row []) l e true (whole 2 e1 ks).1 l1 (whole 2 e1 ks).2)
theorem Entrow.next {ks : List Nat} {l1 l2 l : List Sg} {e1 e2 e : List Pt} {k : Nat} (h : Entrow ks l1 e1 l e) (hr : Rd .item l1 e1 true k l2 e2) : Behrow (ks ++ [k]) l2 e2 l e :=
  ⟨by simp, fun h12 ok k' l' e' h' => h _ _ _ _ (.rowMore hr h12 h'), fun h1 h2 => h _ _ _ _ (.rowEnd hr h1 h2)⟩
theorem Entrow.bad {ks : List Nat} {l1 l2 l : List Sg} {e1 e2 e : List Pt} {k : Nat} (h : Entrow ks l1 e1 l e) (hr : Rd .item l1 e1 false k l2 e2) : Rd (.row []) l e false 0 l2 e2 := h _ _ _ _ (.rowBad hr)
set_option maxRecDepth 100000 in
set_option maxHeartbeats 8000000 in
theorem several_row (B R E N X : Nat) (HI : Reads 61 .item B R E N) (F : Nat → Prop) (l : List Sg) (e : List Pt) (w : World) (hp : PS w B R E F l e) (hl : l.length ≤ N) (he : e.length + 2 * l.length ≤ 1000) (hx : Boxed w X 97 (.pointer (some ⟨R, 0, none⟩))) (hX : B ≤ X) :
    Calls Tryd.prog 44 #[.pointer (some ⟨R, 0, none⟩), .int .i64 2, .func (.func 61) #[.pointer (some ⟨R, 0, none⟩)] #[], .func (.func 62) #[] #[.pointer (some ⟨X, 0, none⟩)]] w (RdP (.row []) B R E F l e w) := by
  obtain ⟨i0, hi, hz, hs1, hs2⟩ := info_parts info_i64
  have HI2 := hide HI
  have hRB := hp.rB
  have hER := hp.eR
  have hBw := hp.bw
  have HP0 := hide hp
  have HX0 := hide hx
  clear HI hp hx
  go_enter Tryd.func44, Tryd.ntmps44
  go_wp2_with fail
  go_loopw [10, 11] (fun v bv wr => ∃ (A : Option Addr) (c : Nat) (b : Bool) (ks : List Nat) (l1 : List Sg) (e1 : List Pt), v = .slice A ks.length c ∧ bv = .bool b ∧ ks.length + l1.length ≤ l.length ∧ e1.length + 2 * l1.length ≤ 1000 ∧ Hid (Kd wr w.heap.size (.slice A ks.length c) ks) ∧ Hid (PS wr B R E (And1 F (.slice A ks.length c)) l1 e1) ∧ Hid (Gr B R E w wr) ∧ Hid (if b then Behrow ks l1 e1 l e else Entrow ks l1 e1 l e ∧ ks = [])) (fun _ _ wr => left wr R)
  case atStart => exact ⟨none, 0, false, [], l, e, rfl, rfl, by simp, he, Lib.hid (Kd.nil _ _), Lib.hid HP0.out.of_nil, Lib.hid (Gr.refl w), Lib.hid ⟨fun ok k l' e' h => h, rfl⟩⟩
  case round =>
    obtain ⟨A, c, b, ks, l1, e1, rfl, rfl, hks, hpot, hK, hP, hG, hC⟩ := hrel
    have hKS : Hid (ks.length ≤ 1000) := by show _ ≤ _; omega
    have hleft := Lib.hid hP.out.left
    cases b with
    | false =>
      have hE : Hid (Entrow ks l1 e1 l e) := hC.out.1
      have hIt := hide (HI2.out (And1 F (.slice A ks.length c)) l1 e1 wr hP.out (by omega) hpot)
      clear hC
      go_upto_region 6 with (go_at_call 61; (with_reducible refine (hIt.out).mono ?_); rintro en w3 ⟨ok, k, l2, e2, rfl, hr, hp3, hg3⟩; have HR := Lib.hid hr; have HP3 := Lib.hid hp3; have HG3 := Lib.hid (hG.out.trans hg3); have HK3 := Lib.hid (Kd.gr hg3 hRB (by omega) hBw hK.out); clear hp3 hg3 hr)
      have hpot2 := HR.out.pot
      have hfew := HR.out.fewer
      cases ok with
      | false =>
        go_wp2_with fail
        exact bodyPost_ret (v := .tuple #[.int .i64 0, .bool false]) (by simp [results, Tryd.results44, go_sem]) rfl ⟨false, 0, l2, e2, rfl, hE.out.bad HR.out, HP3.out.weaken (fun g h => .inl h), HG3.out⟩
      | true =>
        have hless := HR.out.less rfl
        have hk1 : (k : Int) < 1000 ∧ e2.length + 2 * l2.length ≤ 1000 := by have := HR.out.place; omega
        have HROW := Lib.hid (row_one w3 (k : Int) (WalkArith.wf_i64 (by omega)))
        have HO2 := Lib.hid (World.ownsRow.alloc HK3.out (.cells #[.int .i64 (k : Int)] 3))
        have HP4 := Lib.hid (HP3.out.alloc (.cells #[.int .i64 (k : Int)] 3))
        have hz3 := HG3.out.size
        have HBeh := Lib.hid (hE.out.next HR.out)
        clear hpot2 hfew
        go_wp2_with (at_builtin; (refine wpList_app rfl (.tmp 27) (.tmp 29) _ rfl .i64 w.heap.size 3 i0 8 Tryd.underlying25 hi hz hs1 hs2 (by omega) _ ks.length (pl ks) rfl HO2.out _ 1 1 [(k : Int)] rfl HROW.out (by have := hKS.out; omega) (by simp; omega) ?_); intro v' w4 hown hg hat; have HK5 : Hid (Kd w4 w.heap.size v' (ks ++ [k])) := (by show World.ownsRow _ _ _ _ _ _ _; simpa [pl] using hown); have HP5 := Lib.hid (PS.kids HP4.out (Kd.base HO2.out hBw) hg (Kd.base HK5.out hBw) hat); have HG5 := Lib.hid (Gr.own (HG3.out.alloc (.cells #[.int .i64 (k : Int)] 3)) hg (fun i hi => (World.ownsRow.lt HK3.out i hi).1)); obtain ⟨A5, c5, hv5⟩ := HK5.out.one; subst hv5; clear hown hg hat)
        go_roundw
        case rel => exact ⟨A5, c5, true, ks ++ [k], l2, e2, by simp, rfl, by simp; omega, hk1.2, HK5, HP5, HG5, HBeh⟩
        case measure => rw [hleft.out, HP5.out.left]; first | exact hless | (simp only [List.length_cons]; omega)
    | true =>
      have hB : Hid (Behrow ks l1 e1 l e) := hC.out
      clear hC
      by_cases hmo : hd l1 = 1 ∨ hd l1 = 2
      · have hMo := hide (more_row_yes B R E X (And1 F (.slice A ks.length c)) l1 e1 wr hP.out (by omega) (hG.out.boxed HX0.out (by omega) (by omega) (by decide)) hmo)
        have hE : Hid (Entrow ks l1 e1 l e) := hB.out.2.1 hmo
        have hlow : l1.length ≤ l1.length := Nat.le_refl _
        clear hmo
        have hIt := hide (fun W (g : PS W B R E (And1 F (.slice A ks.length c)) l1 e1) => HI2.out (And1 F (.slice A ks.length c)) l1 e1 W g (by omega) (by omega))
        go_upto_region 6 with (first
          | (go_at_call 62; (with_reducible refine (hMo.out).mono ?_); rintro en w2 ⟨rfl, hp2, hg2⟩; have HP2 := Lib.hid hp2; have HG2 := Lib.hid (hG.out.trans hg2); have HK2 := Lib.hid (Kd.gr hg2 hRB (by omega) hBw hK.out); clear hp2 hg2)
          | (go_at_call 61; (with_reducible refine (hIt.out _ HP2.out).mono ?_); rintro en w3 ⟨ok, k, l2, e2, rfl, hr, hp3, hg3⟩; have HR := Lib.hid hr; have HP3 := Lib.hid hp3; have HG3 := Lib.hid (HG2.out.trans hg3); have HK3 := Lib.hid (Kd.gr hg3 hRB (by omega) (Nat.le_trans hBw (Nat.le_refl _)) HK2.out); clear hp3 hg3 hr))
        have hpot2 := HR.out.pot
        have hfew := HR.out.fewer
        cases ok with
        | false =>
          go_wp2_with fail
          exact bodyPost_ret (v := .tuple #[.int .i64 0, .bool false]) (by simp [results, Tryd.results44, go_sem]) rfl ⟨false, 0, l2, e2, rfl, hE.out.bad HR.out, HP3.out.weaken (fun g h => .inl h), HG3.out⟩
        | true =>
          have hless := HR.out.less rfl
          have hk1 : (k : Int) < 1000 ∧ e2.length + 2 * l2.length ≤ 1000 := by have := HR.out.place; omega
          have HROW := Lib.hid (row_one w3 (k : Int) (WalkArith.wf_i64 (by omega)))
          have HO2 := Lib.hid (World.ownsRow.alloc HK3.out (.cells #[.int .i64 (k : Int)] 3))
          have HP4 := Lib.hid (HP3.out.alloc (.cells #[.int .i64 (k : Int)] 3))
          have hz3 := HG3.out.size
          have HBeh := Lib.hid (hE.out.next HR.out)
          clear hpot2 hfew
          go_wp2_with (at_builtin; (refine wpList_app rfl (.tmp 27) (.tmp 29) _ rfl .i64 w.heap.size 3 i0 8 Tryd.underlying25 hi hz hs1 hs2 (by omega) _ ks.length (pl ks) rfl HO2.out _ 1 1 [(k : Int)] rfl HROW.out (by have := hKS.out; omega) (by simp; omega) ?_); intro v' w4 hown hg hat; have HK5 : Hid (Kd w4 w.heap.size v' (ks ++ [k])) := (by show World.ownsRow _ _ _ _ _ _ _; simpa [pl] using hown); have HP5 := Lib.hid (PS.kids HP4.out (Kd.base HO2.out hBw) hg (Kd.base HK5.out hBw) hat); have HG5 := Lib.hid (Gr.own (HG3.out.alloc (.cells #[.int .i64 (k : Int)] 3)) hg (fun i hi => (World.ownsRow.lt HK3.out i hi).1)); obtain ⟨A5, c5, hv5⟩ := HK5.out.one; subst hv5; clear hown hg hat)
          go_roundw
          case rel => exact ⟨A5, c5, true, ks ++ [k], l2, e2, by simp, rfl, by simp; omega, hk1.2, HK5, HP5, HG5, HBeh⟩
          case measure => rw [hleft.out, HP5.out.left]; first | exact hless | (simp only [List.length_cons]; omega)
      · have hMo := hide (more_row_no B R E X (And1 F (.slice A ks.length c)) l1 e1 wr hP.out (by omega) (hG.out.boxed HX0.out (by omega) (by omega) (by decide)) (by omega) (by omega))
        have hE : Hid (Rd (.row []) l e true (whole 2 e1 ks).1 l1 (whole 2 e1 ks).2) := hB.out.2.2 (by omega) (by omega)
        clear hmo
        have hne : Hid (ks ≠ []) := hB.out.1
        go_upto_region 9 with (go_at_call 62; (with_reducible refine (hMo.out).mono ?_); rintro en w2 ⟨rfl, hp2, hg2⟩; have HP2 := Lib.hid hp2; have HG2 := Lib.hid (hG.out.trans hg2); have HK2 := Lib.hid (Kd.gr hg2 hRB (by omega) hBw hK.out); clear hp2 hg2)
        by_cases h1 : ks.length = 1
        · obtain ⟨k0, rfl⟩ : ∃ k0, ks = [k0] := List.length_eq_one_iff.1 h1
          obtain ⟨g, rfl, _, hc0⟩ := HK2.out.first
          clear h1
          go_wp2_with fail
          exact bodyPost_ret (v := .tuple #[.int .i64 (k0 : Int), .bool true]) (by simp [results, Tryd.results44, go_sem]) rfl ⟨true, k0, l1, e1, rfl, hE.out, HP2.out.weaken (fun g h => .inl h), HG2.out⟩
        · have t1 : ((ks.length : Int) == 1) = false := by simp; omega
          have t2 : (ks.length == 1) = false := by simp; omega
          have HW : Hid (whole 2 e1 ks = (e1.length, e1 ++ [⟨2, 0, 0, [], ks⟩])) := by
            show _ = _
            unfold whole
            split
            · rename_i k0; simp at h1
            · rfl
          obtain ⟨_, _, _, c1, _, _, hR2, _⟩ := HP2.out.opens
          have HL := hide (lay_any B R E F l1 e1 w2 (HP2.out.weaken (fun g h => .inl h)) (by omega) 2 0 0 [] ks (.slice A ks.length c) (Kd.base HK2.out hBw) (fun g hg hf => by have := (World.ownsRow.lt HK2.out g hg).1; have := HP0.out.fw g hf; omega))
          clear h1
          go_wp2_with (go_at_call 25; (with_reducible refine (HL.out).mono ?_); rintro en w9 ⟨rfl, hp9, hg9⟩; have HP9 := Lib.hid hp9; have HG9 := Lib.hid (HG2.out.trans hg9); clear hp9 hg9)
          have hE2 := hE.out
          rw [HW.out] at hE2
          exact bodyPost_ret (v := .tuple #[.int .i64 (e1.length : Int), .bool true]) (by simp [results, Tryd.results44, go_sem]) rfl ⟨true, e1.length, l1, _, rfl, hE2, HP9.out, HG9.out⟩
/-- where 'several' stands ahead of another item: whatever it reads from there on it reads at all -/
def Entchoice (ks : List Nat) (l1 : List Sg) (e1 : List Pt) (l : List Sg) (e : List Pt) : Prop := ∀ ok k l' e', Rd (.choice ks) l1 e1 ok k l' e' → Rd (.choice []) l e ok k l' e'
/-- where it stands behind one -/
def Behchoice (ks : List Nat) (l1 : List Sg) (e1 : List Pt) (l : List Sg) (e : List Pt) : Prop := ks ≠ [] ∧ (∀ x l0, l1 = x :: l0 → x.kind = 4 → Entchoice ks l0 e1 l e) ∧ (hd l1 ≠ 4 → Rd (.choice []) l e true (whole 3 e1 ks).1 l1 (whole 3 e1 ks).2)
theorem Entchoice.next {ks : List Nat} {l1 l2 l : List Sg} {e1 e2 e : List Pt} {k : Nat} (h : Entchoice ks l1 e1 l e) (hr : Rd (.row []) l1 e1 true k l2 e2) : Behchoice (ks ++ [k]) l2 e2 l e :=
  ⟨by simp, fun x l0 h4 hk ok k' l' e' h' => by subst h4; exact h _ _ _ _ (.chMore hr hk h'), fun h4 => h _ _ _ _ (.chEnd hr h4)⟩
theorem Entchoice.bad {ks : List Nat} {l1 l2 l : List Sg} {e1 e2 e : List Pt} {k : Nat} (h : Entchoice ks l1 e1 l e) (hr : Rd (.row []) l1 e1 false k l2 e2) : Rd (.choice []) l e false 0 l2 e2 := h _ _ _ _ (.chBad hr)
set_option maxRecDepth 100000 in
set_option maxHeartbeats 8000000 in
theorem several_choice (B R E N X : Nat) (HI : Reads 45 (.row []) B R E N) (F : Nat → Prop) (l : List Sg) (e : List Pt) (w : World) (hp : PS w B R E F l e) (hl : l.length ≤ N) (he : e.length + 2 * l.length ≤ 1000) (hx : Boxed w X 97 (.pointer (some ⟨R, 0, none⟩))) (hX : B ≤ X) :
    Calls Tryd.prog 44 #[.pointer (some ⟨R, 0, none⟩), .int .i64 3, .func (.func 45) #[.pointer (some ⟨R, 0, none⟩)] #[], .func (.func 46) #[] #[.pointer (some ⟨X, 0, none⟩)]] w (RdP (.choice []) B R E F l e w) := by
  obtain ⟨i0, hi, hz, hs1, hs2⟩ := info_parts info_i64
  have HI2 := hide HI
  have hRB := hp.rB
  have hER := hp.eR
  have hBw := hp.bw
  have HP0 := hide hp
  have HX0 := hide hx
  clear HI hp hx
  go_enter Tryd.func44, Tryd.ntmps44
  go_wp2_with fail
  go_loopw [10, 11] (fun v bv wr => ∃ (A : Option Addr) (c : Nat) (b : Bool) (ks : List Nat) (l1 : List Sg) (e1 : List Pt), v = .slice A ks.length c ∧ bv = .bool b ∧ ks.length + l1.length ≤ l.length ∧ e1.length + 2 * l1.length ≤ 1000 ∧ Hid (Kd wr w.heap.size (.slice A ks.length c) ks) ∧ Hid (PS wr B R E (And1 F (.slice A ks.length c)) l1 e1) ∧ Hid (Gr B R E w wr) ∧ Hid (if b then Behchoice ks l1 e1 l e else Entchoice ks l1 e1 l e ∧ ks = [])) (fun _ _ wr => left wr R)
  case atStart => exact ⟨none, 0, false, [], l, e, rfl, rfl, by simp, he, Lib.hid (Kd.nil _ _), Lib.hid HP0.out.of_nil, Lib.hid (Gr.refl w), Lib.hid ⟨fun ok k l' e' h => h, rfl⟩⟩
  case round =>
    obtain ⟨A, c, b, ks, l1, e1, rfl, rfl, hks, hpot, hK, hP, hG, hC⟩ := hrel
    have hKS : Hid (ks.length ≤ 1000) := by show _ ≤ _; omega
    have hleft := Lib.hid hP.out.left
    cases b with
    | false =>
      have hE : Hid (Entchoice ks l1 e1 l e) := hC.out.1
      have hIt := hide (HI2.out (And1 F (.slice A ks.length c)) l1 e1 wr hP.out (by omega) hpot)
      clear hC
      go_upto_region 6 with (go_at_call 45; (with_reducible refine (hIt.out).mono ?_); rintro en w3 ⟨ok, k, l2, e2, rfl, hr, hp3, hg3⟩; have HR := Lib.hid hr; have HP3 := Lib.hid hp3; have HG3 := Lib.hid (hG.out.trans hg3); have HK3 := Lib.hid (Kd.gr hg3 hRB (by omega) hBw hK.out); clear hp3 hg3 hr)
      have hpot2 := HR.out.pot
      have hfew := HR.out.fewer
      cases ok with
      | false =>
        go_wp2_with fail
        exact bodyPost_ret (v := .tuple #[.int .i64 0, .bool false]) (by simp [results, Tryd.results44, go_sem]) rfl ⟨false, 0, l2, e2, rfl, hE.out.bad HR.out, HP3.out.weaken (fun g h => .inl h), HG3.out⟩
      | true =>
        have hless := HR.out.less rfl
        have hk1 : (k : Int) < 1000 ∧ e2.length + 2 * l2.length ≤ 1000 := by have := HR.out.place; omega
        have HROW := Lib.hid (row_one w3 (k : Int) (WalkArith.wf_i64 (by omega)))
        have HO2 := Lib.hid (World.ownsRow.alloc HK3.out (.cells #[.int .i64 (k : Int)] 3))
        have HP4 := Lib.hid (HP3.out.alloc (.cells #[.int .i64 (k : Int)] 3))
        have hz3 := HG3.out.size
        have HBeh := Lib.hid (hE.out.next HR.out)
        clear hpot2 hfew
        go_wp2_with (at_builtin; (refine wpList_app rfl (.tmp 27) (.tmp 29) _ rfl .i64 w.heap.size 3 i0 8 Tryd.underlying25 hi hz hs1 hs2 (by omega) _ ks.length (pl ks) rfl HO2.out _ 1 1 [(k : Int)] rfl HROW.out (by have := hKS.out; omega) (by simp; omega) ?_); intro v' w4 hown hg hat; have HK5 : Hid (Kd w4 w.heap.size v' (ks ++ [k])) := (by show World.ownsRow _ _ _ _ _ _ _; simpa [pl] using hown); have HP5 := Lib.hid (PS.kids HP4.out (Kd.base HO2.out hBw) hg (Kd.base HK5.out hBw) hat); have HG5 := Lib.hid (Gr.own (HG3.out.alloc (.cells #[.int .i64 (k : Int)] 3)) hg (fun i hi => (World.ownsRow.lt HK3.out i hi).1)); obtain ⟨A5, c5, hv5⟩ := HK5.out.one; subst hv5; clear hown hg hat)
        go_roundw
        case rel => exact ⟨A5, c5, true, ks ++ [k], l2, e2, by simp, rfl, by simp; omega, hk1.2, HK5, HP5, HG5, HBeh⟩
        case measure => rw [hleft.out, HP5.out.left]; first | exact hless | (simp only [List.length_cons]; omega)
    | true =>
      have hB : Hid (Behchoice ks l1 e1 l e) := hC.out
      clear hC
      by_cases hmo : hd l1 = 4
      · cases l1 with
        | nil => simp [hd] at hmo
        | cons x l1 =>
        have hx4 : x.kind = 4 := hmo
        simp only [List.length_cons] at hks hpot
        have hMo := hide (more_choice_yes B R E X (And1 F (.slice A ks.length c)) x l1 e1 wr hP.out (by omega) (hG.out.boxed HX0.out (by omega) (by omega) (by decide)) hx4)
        have hE : Hid (Entchoice ks l1 e1 l e) := hB.out.2.1 x l1 rfl hx4
        clear hmo hx4
        have hIt := hide (fun W (g : PS W B R E (And1 F (.slice A ks.length c)) l1 e1) => HI2.out (And1 F (.slice A ks.length c)) l1 e1 W g (by omega) (by omega))
        go_upto_region 6 with (first
          | (go_at_call 46; (with_reducible refine (hMo.out).mono ?_); rintro en w2 ⟨rfl, hp2, hg2⟩; have HP2 := Lib.hid hp2; have HG2 := Lib.hid (hG.out.trans hg2); have HK2 := Lib.hid (Kd.gr hg2 hRB (by omega) hBw hK.out); clear hp2 hg2)
          | (go_at_call 45; (with_reducible refine (hIt.out _ HP2.out).mono ?_); rintro en w3 ⟨ok, k, l2, e2, rfl, hr, hp3, hg3⟩; have HR := Lib.hid hr; have HP3 := Lib.hid hp3; have HG3 := Lib.hid (HG2.out.trans hg3); have HK3 := Lib.hid (Kd.gr hg3 hRB (by omega) (Nat.le_trans hBw (Nat.le_refl _)) HK2.out); clear hp3 hg3 hr))
        have hpot2 := HR.out.pot
        have hfew := HR.out.fewer
        cases ok with
        | false =>
          go_wp2_with fail
          exact bodyPost_ret (v := .tuple #[.int .i64 0, .bool false]) (by simp [results, Tryd.results44, go_sem]) rfl ⟨false, 0, l2, e2, rfl, hE.out.bad HR.out, HP3.out.weaken (fun g h => .inl h), HG3.out⟩
        | true =>
          have hless := HR.out.less rfl
          have hk1 : (k : Int) < 1000 ∧ e2.length + 2 * l2.length ≤ 1000 := by have := HR.out.place; omega
          have HROW := Lib.hid (row_one w3 (k : Int) (WalkArith.wf_i64 (by omega)))
          have HO2 := Lib.hid (World.ownsRow.alloc HK3.out (.cells #[.int .i64 (k : Int)] 3))
          have HP4 := Lib.hid (HP3.out.alloc (.cells #[.int .i64 (k : Int)] 3))
          have hz3 := HG3.out.size
          have HBeh := Lib.hid (hE.out.next HR.out)
          clear hpot2 hfew
          go_wp2_with (at_builtin; (refine wpList_app rfl (.tmp 27) (.tmp 29) _ rfl .i64 w.heap.size 3 i0 8 Tryd.underlying25 hi hz hs1 hs2 (by omega) _ ks.length (pl ks) rfl HO2.out _ 1 1 [(k : Int)] rfl HROW.out (by have := hKS.out; omega) (by simp; omega) ?_); intro v' w4 hown hg hat; have HK5 : Hid (Kd w4 w.heap.size v' (ks ++ [k])) := (by show World.ownsRow _ _ _ _ _ _ _; simpa [pl] using hown); have HP5 := Lib.hid (PS.kids HP4.out (Kd.base HO2.out hBw) hg (Kd.base HK5.out hBw) hat); have HG5 := Lib.hid (Gr.own (HG3.out.alloc (.cells #[.int .i64 (k : Int)] 3)) hg (fun i hi => (World.ownsRow.lt HK3.out i hi).1)); obtain ⟨A5, c5, hv5⟩ := HK5.out.one; subst hv5; clear hown hg hat)
          go_roundw
          case rel => exact ⟨A5, c5, true, ks ++ [k], l2, e2, by simp, rfl, by simp; omega, hk1.2, HK5, HP5, HG5, HBeh⟩
          case measure => rw [hleft.out, HP5.out.left]; first | exact hless | (simp only [List.length_cons]; omega)
      · have hMo := hide (more_choice_no B R E X (And1 F (.slice A ks.length c)) l1 e1 wr hP.out (by omega) (hG.out.boxed HX0.out (by omega) (by omega) (by decide)) hmo)
        have hE : Hid (Rd (.choice []) l e true (whole 3 e1 ks).1 l1 (whole 3 e1 ks).2) := hB.out.2.2 hmo
        clear hmo
        have hne : Hid (ks ≠ []) := hB.out.1
        go_upto_region 9 with (go_at_call 46; (with_reducible refine (hMo.out).mono ?_); rintro en w2 ⟨rfl, hp2, hg2⟩; have HP2 := Lib.hid hp2; have HG2 := Lib.hid (hG.out.trans hg2); have HK2 := Lib.hid (Kd.gr hg2 hRB (by omega) hBw hK.out); clear hp2 hg2)
        by_cases h1 : ks.length = 1
        · obtain ⟨k0, rfl⟩ : ∃ k0, ks = [k0] := List.length_eq_one_iff.1 h1
          obtain ⟨g, rfl, _, hc0⟩ := HK2.out.first
          clear h1
          go_wp2_with fail
          exact bodyPost_ret (v := .tuple #[.int .i64 (k0 : Int), .bool true]) (by simp [results, Tryd.results44, go_sem]) rfl ⟨true, k0, l1, e1, rfl, hE.out, HP2.out.weaken (fun g h => .inl h), HG2.out⟩
        · have t1 : ((ks.length : Int) == 1) = false := by simp; omega
          have t2 : (ks.length == 1) = false := by simp; omega
          have HW : Hid (whole 3 e1 ks = (e1.length, e1 ++ [⟨3, 0, 0, [], ks⟩])) := by
            show _ = _
            unfold whole
            split
            · rename_i k0; simp at h1
            · rfl
          obtain ⟨_, _, _, c1, _, _, hR2, _⟩ := HP2.out.opens
          have HL := hide (lay_any B R E F l1 e1 w2 (HP2.out.weaken (fun g h => .inl h)) (by omega) 3 0 0 [] ks (.slice A ks.length c) (Kd.base HK2.out hBw) (fun g hg hf => by have := (World.ownsRow.lt HK2.out g hg).1; have := HP0.out.fw g hf; omega))
          clear h1
          go_wp2_with (go_at_call 25; (with_reducible refine (HL.out).mono ?_); rintro en w9 ⟨rfl, hp9, hg9⟩; have HP9 := Lib.hid hp9; have HG9 := Lib.hid (HG2.out.trans hg9); clear hp9 hg9)
          have hE2 := hE.out
          rw [HW.out] at hE2
          exact bodyPost_ret (v := .tuple #[.int .i64 (e1.length : Int), .bool true]) (by simp [results, Tryd.results44, go_sem]) rfl ⟨true, e1.length, l1, _, rfl, hE2, HP9.out, HG9.out⟩

set_option maxRecDepth 100000 in
set_option maxHeartbeats 1000000 in
theorem row_any (B R E N : Nat) (HI : Reads 61 .item B R E N) : Reads 45 (.row []) B R E N := by
  intro F l e w hp hl he
  have HP := Lib.hid (hp.alloc (.cells #[.pointer (some ⟨R, 0, none⟩)] 97))
  have HS := hide (several_row B R E N w.heap.size HI F l e _ HP.out hl he (Boxed.new w _ _) hp.bw)
  clear HI hp
  go_enter Tryd.func45, Tryd.ntmps45
  go_wp2_with (go_at_call 44; (with_reducible refine (HS.out).mono ?_); rintro en w3 ⟨ok, k, l2, e2, rfl, hr, hp3, hg3⟩; have HR := Lib.hid hr; have HP3 := Lib.hid hp3; have HG3 := Lib.hid (((Gr.refl w).alloc _).trans hg3); clear hp3 hg3 hr)
  exact bodyPost_ret (v := .tuple #[.int .i64 (k : Int), .bool ok]) (by simp [results, Tryd.results45, go_sem]) rfl ⟨ok, k, l2, e2, rfl, HR.out, HP3.out, HG3.out⟩

set_option maxRecDepth 100000 in
set_option maxHeartbeats 1000000 in
theorem choice_any (B R E N : Nat) (HI : Reads 45 (.row []) B R E N) : Reads 26 (.choice []) B R E N := by
  intro F l e w hp hl he
  have HP := Lib.hid (hp.alloc (.cells #[.pointer (some ⟨R, 0, none⟩)] 97))
  have HS := hide (several_choice B R E N w.heap.size HI F l e _ HP.out hl he (Boxed.new w _ _) hp.bw)
  clear HI hp
  go_enter Tryd.func26, Tryd.ntmps26
  go_wp2_with (go_at_call 44; (with_reducible refine (HS.out).mono ?_); rintro en w3 ⟨ok, k, l2, e2, rfl, hr, hp3, hg3⟩; have HR := Lib.hid hr; have HP3 := Lib.hid hp3; have HG3 := Lib.hid (((Gr.refl w).alloc _).trans hg3); clear hp3 hg3 hr)
  exact bodyPost_ret (v := .tuple #[.int .i64 (k : Int), .bool ok]) (by simp [results, Tryd.results26, go_sem]) rfl ⟨ok, k, l2, e2, rfl, HR.out, HP3.out, HG3.out⟩

/-- the reader's choices, of however many signs -/
theorem choice_reads (B R E : Nat) : ∀ N, Reads 26 (.choice []) B R E N := by
  intro N
  induction N using Nat.strongRecOn with
  | _ N ih => exact choice_any B R E N (row_any B R E N (item_any B R E N (bare_any B R E N ih)))
end Go.Proofs.YtnbchikiiipejaaDoor.Ex
