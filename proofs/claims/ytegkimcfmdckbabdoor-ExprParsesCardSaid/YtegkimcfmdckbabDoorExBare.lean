/- Walks of the expressions' reader: an item without its count. -/
import Derived.Test.YtegkimcfmdckbabDoorExSt
import Derived.Deep.RegionWith
import Derived.Deep.Cut
namespace Go.Proofs.YtegkimcfmdckbabDoor.Ex
open Go.RowKit Mem Lx
set_option linter.unusedVariables false

/-- how many parts may still come: two for each sign -/
theorem Rd.pot {v : Lv} {l l' : List Sg} {e e' : List Pt} {ok : Bool} {k : Nat} (h : Rd v l e ok k l' e') : e'.length + 2 * l'.length + (if ok then slack v else 0) ≤ e.length + 2 * l.length := by
  have sr : ∀ ks, slack (.row ks) ≤ 1 := fun ks => slack_le _
  have wh : ∀ (kd : Int) (ks : List Nat) (k : Nat) (e' : List Pt), (whole kd e' (ks ++ [k])).2.length + (match ks with | [] => 1 | _ => 0) ≤ e'.length + 1 := by
    intro kd ks k e'
    cases ks with
    | nil => simp [whole]
    | cons a ks => cases ks <;> simp [whole]
  have sr' : ∀ ks, slack (.row ks) = (match ks with | [] => 1 | _ => 0) := by intro ks; cases ks <;> rfl
  have sc' : ∀ ks, slack (.choice ks) = (match ks with | [] => 1 | _ => 0) := by intro ks; cases ks <;> rfl
  have s0 : ∀ (ks : List Nat) (k : Nat), slack (.row (ks ++ [k])) = 0 := by intro ks k; cases ks <;> rfl
  have c0 : ∀ (ks : List Nat) (k : Nat), slack (.choice (ks ++ [k])) = 0 := by intro ks k; cases ks <;> rfl
  induction h with
  | name _ => simp [slack]; omega
  | none _ _ => simp
  | inBad _ _ ih => simp at ih ⊢; omega
  | noShut _ _ _ ih => simp at ih ⊢; omega
  | shut _ _ _ ih => simp [slack] at ih ⊢; omega
  | itemBad _ ih => simpa using ih
  | item _ _ ih => simpa [slack] using ih
  | times _ _ ih => simp [slack] at ih ⊢; omega
  | rowBad _ ih => simpa using ih
  | @rowMore ks l l' l'' e e' e'' k k' ok _ _ _ ih1 ih2 =>
    rw [s0] at ih2
    have := sr ks
    simp [slack] at ih1
    simp at ih2
    split <;> omega
  | @rowEnd ks l l' e e' k _ _ _ ih =>
    have := wh 2 ks k e'
    rw [sr']
    simp [slack] at ih ⊢
    omega
  | chBad _ ih => simp at ih ⊢; omega
  | @chMore ks x l l' l'' e e' e'' k k' ok _ _ _ ih1 ih2 =>
    rw [c0] at ih2
    have := slack_le (.choice ks)
    simp [slack] at ih1
    simp at ih2
    split <;> omega
  | @chEnd ks l l' e e' k _ _ ih =>
    have := wh 3 ks k e'
    rw [sc']
    simp [slack] at ih ⊢
    omega
theorem Rd.fewer {v : Lv} {l l' : List Sg} {e e' : List Pt} {ok : Bool} {k : Nat} (h : Rd v l e ok k l' e') : l'.length ≤ l.length := h.left.length_le
theorem Rd.less {v : Lv} {l l' : List Sg} {e e' : List Pt} {ok : Bool} {k : Nat} (h : Rd v l e ok k l' e') (ho : ok = true) : l'.length < l.length := by
  obtain ⟨s, rfl, hs⟩ := h.seg ho
  have := hs.ne
  simp; omega

/-- what a reading of a v answers, of signs l behind parts e -/
def RdP (v : Lv) (B R E : Nat) (F : Nat → Prop) (l : List Sg) (e : List Pt) (w : World) (en : Ending) (w' : World) : Prop :=
  ∃ ok k l' e', en = .returned (.tuple #[.int .i64 (k : Nat), .bool ok]) ∧ Rd v l e ok k l' e' ∧ PS w' B R E F l' e' ∧ Gr B R E w w'
/-- what a function of the reader does that reads a v, where at most N signs are left -/
def Reads (f : Nat) (v : Lv) (B R E N : Nat) : Prop := ∀ (F : Nat → Prop) (l : List Sg) (e : List Pt) (w : World), PS w B R E F l e → l.length ≤ N → e.length + 2 * l.length ≤ 1000 →
  Calls Tryd.prog f #[.pointer (some ⟨R, 0, none⟩)] w (RdP v B R E F l e w)
theorem Reads.fewer {f : Nat} {v : Lv} {B R E N M : Nat} (h : Reads f v B R E N) (hm : M ≤ N) : Reads f v B R E M := fun F l e w hp hl he => h F l e w hp (by omega) he

set_option maxRecDepth 100000 in
set_option maxHeartbeats 2000000 in
theorem bare_name (B R E : Nat) (F : Nat → Prop) (x : Sg) (l : List Sg) (e : List Pt) (w : World) (h : PS w B R E F (x :: l) e) (he : e.length + 2 * l.length ≤ 1000) (hk : x.kind = 1) :
    Calls Tryd.prog 76 #[.pointer (some ⟨R, 0, none⟩)] w (RdP .bare B R E F (x :: l) e w) := by
  have HT := hide (take_yes B R E F x l e w h (by omega) 1 hk)
  have HK := hide hk
  clear h hk
  obtain ⟨k1, at_, lo, hi, nm⟩ := x
  go_enter Tryd.func76, Tryd.ntmps76
  go_wp2_with (go_at_call 45; (with_reducible refine (HT.out).mono ?_); rintro en w1 ⟨rfl, hp1, hg1⟩; have HP1 := Lib.hid hp1; have HG1 := Lib.hid hg1; clear hp1 hg1; dsimp only [sgV])
  have HP2 := Lib.hid (HP1.out.alloc (.cells #[.int .i64 k1, .int .i64 at_, .int .i64 lo, .int .i64 hi, .string ⟨nm.toArray⟩] 58))
  obtain ⟨A, c, -, c1, -, -, hR, -⟩ := HP2.out.opens
  have HX2 := Lib.hid (SB.new w1 k1 at_ lo hi ⟨nm.toArray⟩)
  have HP3 : Hid (PS (w1.alloc (.cells #[.int .i64 k1, .int .i64 at_, .int .i64 lo, .int .i64 hi, .string ⟨nm.toArray⟩] 58)).drew B R E F l e) := HP2.out.drewN 1
  have HG3 : Hid (Gr B R E w (w1.alloc (.cells #[.int .i64 k1, .int .i64 at_, .int .i64 lo, .int .i64 hi, .string ⟨nm.toArray⟩] 58)).drew) := (HG1.out.alloc _).drewN 1
  obtain ⟨b0, b1, b2, b3, b4⟩ := HX2.out.cells
  generalize w1.alloc (.cells #[.int .i64 k1, .int .i64 at_, .int .i64 lo, .int .i64 hi, .string ⟨nm.toArray⟩] 58) = W2 at *
  have HL := hide (fun W (g : PS W B R E F l e) => lay_any B R E F l e W g (by omega) 1 0 0 nm [] (.slice none 0 0) (Kd.nil _ _) (by simp [Value.ownBlock]))
  clear HP1 HG1 HT
  go_still_tail 7, (by kernel_rfl)
  change wpList _ _ _ _ _ W2.drew
  go_wp2_with (go_at_call 21; (with_reducible refine (HL.out _ HP3.out).mono ?_); rintro en w9 ⟨rfl, hp9, hg9⟩; have HP9 := Lib.hid hp9; have HG9 := Lib.hid (HG3.out.trans hg9); clear hp9 hg9)
  exact bodyPost_ret (v := .tuple #[.int .i64 (e.length : Int), .bool true]) (by simp [results, Tryd.results76, go_sem]) rfl ⟨true, e.length, l, _, rfl, .name HK.out, HP9.out, HG9.out⟩
set_option maxRecDepth 100000 in
set_option maxHeartbeats 2000000 in
theorem bare_none (B R E : Nat) (F : Nat → Prop) (l : List Sg) (e : List Pt) (w : World) (h : PS w B R E F l e) (hl : l.length ≤ 900) (h1 : hd l ≠ 1) (h2 : hd l ≠ 2) :
    Calls Tryd.prog 76 #[.pointer (some ⟨R, 0, none⟩)] w (RdP .bare B R E F l e w) := by
  have HT := hide (take_no B R E F l e w h (by omega) 1 h1)
  have HT2 := hide (fun W (g : PS W B R E F l e) => take_no B R E F l e W g (by omega) 2 h2)
  have HK := Lib.hid (⟨h1, h2⟩ : hd l ≠ 1 ∧ hd l ≠ 2)
  clear h h1 h2
  go_enter Tryd.func76, Tryd.ntmps76
  go_wp2_with (go_at_call 45; first
    | ((with_reducible refine (HT.out).mono ?_); rintro en w1 ⟨rfl, hp1, hg1⟩; have HP1 := Lib.hid (hp1.alloc (.cells #[.int .i64 0, .int .i64 0, .int .i64 0, .int .i64 0, .string ⟨#[]⟩] 58)); have HG1 := Lib.hid (hg1.alloc (.cells #[.int .i64 0, .int .i64 0, .int .i64 0, .int .i64 0, .string ⟨#[]⟩] 58)); clear hp1 hg1; dsimp only [sgV])
    | ((with_reducible refine (HT2.out _ HP1.out).mono ?_); rintro en w2 ⟨rfl, hp1, hg1⟩; have HP2 := Lib.hid (hp1.alloc (.cells #[.int .i64 0, .int .i64 0, .int .i64 0, .int .i64 0, .string ⟨#[]⟩] 58)); have HG2 := Lib.hid (HG1.out.trans (hg1.alloc (.cells #[.int .i64 0, .int .i64 0, .int .i64 0, .int .i64 0, .string ⟨#[]⟩] 58))); clear hp1 hg1; dsimp only [sgV]))
  exact bodyPost_ret (v := .tuple #[.int .i64 0, .bool false]) (by simp [results, Tryd.results76, go_sem]) rfl ⟨false, 0, l, e, rfl, .none HK.out.1 HK.out.2, HP2.out, HG2.out⟩

theorem dim_any (m : Nat) (b : Bool) (h : b = true) : Ending.returned (.tuple #[.int .i64 (m : Int), .bool b]) = .returned (.tuple #[.int .i64 (m : Int), .bool true]) := by rw [h]
set_option maxRecDepth 100000 in
set_option maxHeartbeats 4000000 in
theorem bare_open (B R E : Nat) (F : Nat → Prop) (x : Sg) (l : List Sg) (e : List Pt) (w : World) (h : PS w B R E F (x :: l) e) (he : e.length + 2 * (l.length + 1) ≤ 1000) (hk : x.kind = 2) (N : Nat) (hN : l.length ≤ N) (HC : Reads 22 (.choice []) B R E N) :
    Calls Tryd.prog 76 #[.pointer (some ⟨R, 0, none⟩)] w (RdP .bare B R E F (x :: l) e w) := by
  have HT := hide (take_no B R E F (x :: l) e w h (by simp; omega) 1 (by simp [hd, hk]))
  have HT2 := hide (fun W (g : PS W B R E F (x :: l) e) => take_yes B R E F x l e W g (by omega) 2 hk)
  have HCC := hide (fun W (g : PS W B R E F l e) => HC F l e W g hN (by omega))
  have HK := hide hk
  clear h hk HC
  obtain ⟨k1, at_, lo, hi, nm⟩ := x
  go_enter Tryd.func76, Tryd.ntmps76
  go_upto_region 8 with (first
    | (go_at_call 45; first
      | ((with_reducible refine (HT.out).mono ?_); rintro en w1 ⟨rfl, hp1, hg1⟩; have HP1 := Lib.hid (hp1.alloc (.cells #[.int .i64 0, .int .i64 0, .int .i64 0, .int .i64 0, .string ⟨#[]⟩] 58)); have HG1 := Lib.hid (hg1.alloc (.cells #[.int .i64 0, .int .i64 0, .int .i64 0, .int .i64 0, .string ⟨#[]⟩] 58)); clear hp1 hg1; dsimp only [sgV])
      | ((with_reducible refine (HT2.out _ HP1.out).mono ?_); rintro en w2 ⟨rfl, hp1, hg1⟩; have HP2 := Lib.hid (hp1.alloc (.cells #[.int .i64 k1, .int .i64 at_, .int .i64 lo, .int .i64 hi, .string ⟨nm.toArray⟩] 58)); have HG2 := Lib.hid (HG1.out.trans (hg1.alloc (.cells #[.int .i64 k1, .int .i64 at_, .int .i64 lo, .int .i64 hi, .string ⟨nm.toArray⟩] 58))); clear hp1 hg1; dsimp only [sgV]))
    | (go_at_call 22; (with_reducible refine (HCC.out _ HP2.out).mono ?_); rintro en w3 ⟨ok, k, l', e', rfl, hr, hp3, hg3⟩; have HR := Lib.hid hr; have HP3 := Lib.hid hp3; have HG3 := Lib.hid (HG2.out.trans hg3); clear hp3 hg3 hr))
  cases ok with
  | false =>
    go_wp2_with fail
    exact bodyPost_ret (v := .tuple #[.int .i64 0, .bool false]) (by simp [results, Tryd.results76, go_sem]) rfl ⟨false, 0, l', e', rfl, .inBad HK.out HR.out, HP3.out, HG3.out⟩
  | true =>
    have hl' : l'.length ≤ l.length := HR.out.fewer
    by_cases h3 : hd l' = 3
    · cases l' with
      | nil => simp [hd] at h3
      | cons y l' =>
        have h3' : y.kind = 3 := h3
        have HT3 := hide (take_yes B R E F y l' e' w3 HP3.out (by simp at hl'; omega) 3 h3')
        have HY := Lib.hid h3'
        clear h3 h3'
        obtain ⟨y1, y2, y3, y4, y5⟩ := y
        go_wp2_with (go_at_call 45; (with_reducible refine (HT3.out).mono ?_); rintro en w4 ⟨rfl, hp4, hg4⟩; have HP4 := Lib.hid hp4; have HG4 := Lib.hid (HG3.out.trans hg4); clear hp4 hg4; dsimp only [sgV])
        exact bodyPost_ret (v := .tuple #[.int .i64 (k : Int), .bool true]) (by simp [results, Tryd.results76, go_sem]) rfl ⟨true, k, l', e', rfl, .shut HK.out HR.out HY.out, HP4.out, HG4.out⟩
    · have HT3 := hide (take_no B R E F l' e' w3 HP3.out (by omega) 3 h3)
      have HY := Lib.hid h3
      clear h3
      go_wp2_with (go_at_call 45; (with_reducible refine (HT3.out).mono ?_); rintro en w4 ⟨rfl, hp4, hg4⟩; have HP4 := Lib.hid hp4; have HG4 := Lib.hid (HG3.out.trans hg4); clear hp4 hg4; dsimp only [sgV])
      exact bodyPost_ret (v := .tuple #[.int .i64 0, .bool false]) (by simp [results, Tryd.results76, go_sem]) rfl ⟨false, 0, l', e', rfl, .noShut HK.out HR.out HY.out, HP4.out, HG4.out⟩
/-- an item without its count, where choices of fewer signs are read -/
theorem bare_any (B R E N : Nat) (HC : ∀ M, M < N → Reads 22 (.choice []) B R E M) : Reads 76 .bare B R E N := by
  intro F l e w hp hl he
  by_cases h1 : hd l = 1
  · cases l with
    | nil => simp [hd] at h1
    | cons x l => exact bare_name B R E F x l e w hp (by simp at he; omega) h1
  · by_cases h2 : hd l = 2
    · cases l with
      | nil => simp [hd] at h2
      | cons x l =>
        simp only [List.length_cons] at hl he
        exact bare_open B R E F x l e w hp he h2 (N - 1) (by omega) (HC (N - 1) (by omega))
    · exact bare_none B R E F l e w hp (by omega) h1 h2

theorem one_kid (w : World) (B : Nat) (k : Nat) (hB : B ≤ w.heap.size) : Kd (w.alloc (.cells #[.int .i64 (k : Int)] 3)) B (.slice (some ⟨w.heap.size, 0, none⟩) 1 1) [k] :=
  ⟨rfl, .inr ⟨w.heap.size, 1, #[.int .i64 (k : Int)], rfl, hB, World.alloc_heap_new w _, Nat.le_refl _, by simp [maxLen], rfl, rfl⟩⟩
set_option maxRecDepth 100000 in
set_option maxHeartbeats 4000000 in
theorem item_any (B R E N : Nat) (HC : Reads 76 .bare B R E N) : Reads 62 .item B R E N := by
  intro F l e w hp hl he
  have HCC := hide (HC F l e w hp hl he)
  have hbw : B ≤ w.heap.size := hp.bw
  clear HC hp
  go_enter Tryd.func62, Tryd.ntmps62
  go_upto_region 2 with (go_at_call 76; (with_reducible refine (HCC.out).mono ?_); rintro en w3 ⟨ok, k, l', e', rfl, hr, hp3, hg3⟩; have HR := Lib.hid hr; have HP3 := Lib.hid hp3; have HG3 := Lib.hid hg3; clear hp3 hg3 hr)
  have hpot := HR.out.pot
  have hfew := HR.out.fewer
  cases ok with
  | false =>
    go_wp2_with fail
    exact bodyPost_ret (v := .tuple #[.int .i64 0, .bool false]) (by simp [results, Tryd.results62, go_sem]) rfl ⟨false, 0, l', e', rfl, .itemBad HR.out, HP3.out, HG3.out⟩
  | true =>
    by_cases h5 : hd l' = 5
    · cases l' with
      | nil => simp [hd] at h5
      | cons x l' =>
        have h5' : x.kind = 5 := h5
        simp only [List.length_cons] at hpot hfew
        have HT := hide (take_yes B R E F x l' e' w3 HP3.out (by omega) 5 h5')
        have HX := Lib.hid h5'
        have hel : e'.length ≤ 1000 := by omega
        clear h5 h5' hpot hfew
        obtain ⟨k1, at_, lo, hi, nm⟩ := x
        go_upto_region 6 with (go_at_call 45; (with_reducible refine (HT.out).mono ?_); rintro en w4 ⟨rfl, hp4, hg4⟩; have HP4 := Lib.hid hp4; have HG4 := Lib.hid (HG3.out.trans hg4); clear hp4 hg4; dsimp only [sgV])
        have HP5 := Lib.hid (HP4.out.alloc (.cells #[.int .i64 k1, .int .i64 at_, .int .i64 lo, .int .i64 hi, .string ⟨nm.toArray⟩] 58))
        have HX5 := Lib.hid (SB.new w4 k1 at_ lo hi ⟨nm.toArray⟩)
        have HG5 : Hid (Gr B R E w (w4.alloc (.cells #[.int .i64 k1, .int .i64 at_, .int .i64 lo, .int .i64 hi, .string ⟨nm.toArray⟩] 58))) := HG4.out.alloc _
        generalize w4.alloc (.cells #[.int .i64 k1, .int .i64 at_, .int .i64 lo, .int .i64 hi, .string ⟨nm.toArray⟩] 58) = W5 at *
        obtain ⟨A, c, -, c1, -, -, hR, -⟩ := HP5.out.opens
        obtain ⟨b0, b1, b2, b3, b4⟩ := HX5.out.cells
        have hx5 := HX5.out.lt
        have HP6 : Hid (PS (W5.alloc (.cells #[.int .i64 (k : Int)] 3)).drew B R E F l' e') := (HP5.out.alloc _).drewN 1
        have HG6 : Hid (Gr B R E w (W5.alloc (.cells #[.int .i64 (k : Int)] 3)).drew) := (HG5.out.alloc _).drewN 1
        have HK6 : Hid (Kd (W5.alloc (.cells #[.int .i64 (k : Int)] 3)).drew B (.slice (some ⟨W5.heap.size, 0, none⟩) 1 1) [k]) := one_kid W5 B k HP5.out.bw
        have HL := hide (lay_any B R E F l' e' _ HP6.out (by omega) 4 lo hi [] [k] _ HK6.out (by intro g hg hf; have := HP5.out.fw g hf; simp [Value.ownBlock] at hg; omega))
        clear HT HP4 HG4 HG3 HP3 HCC
        go_cut [4] from 23 (fun v wx => v = .int .i64 (e'.length : Int) ∧ Hid (PS wx B R E F l' (e' ++ [⟨4, lo, hi, [], [k]⟩])) ∧ Hid (Gr B R E w wx))
        case first =>
          go_region_with (go_at_call 21; (with_reducible refine (HL.out).mono ?_); rintro en w9 ⟨rfl, hp9, hg9⟩; have HP9 := Lib.hid hp9; have HG9 := Lib.hid (HG6.out.trans hg9); clear hp9 hg9)
          all_goals (go_wp2_with fail; go_meet; exact ⟨rfl, HP9, HG9⟩)
        case rest =>
          obtain ⟨rfl, HP9, HG9⟩ := hcut
          go_wp2_with fail
          exact bodyPost_ret (v := .tuple #[.int .i64 (e'.length : Int), .bool true]) (by simp [results, Tryd.results62, go_sem]) rfl ⟨true, e'.length, l', _, rfl, .times HR.out HX.out, HP9.out, HG9.out⟩
    · have HT := hide (take_no B R E F l' e' w3 HP3.out (by omega) 5 h5)
      have HY := Lib.hid h5
      clear h5
      go_wp2_with (go_at_call 45; (with_reducible refine (HT.out).mono ?_); rintro en w4 ⟨rfl, hp4, hg4⟩; have HP4 := Lib.hid hp4; have HG4 := Lib.hid (HG3.out.trans hg4); clear hp4 hg4; dsimp only [sgV])
      exact bodyPost_ret (v := .tuple #[.int .i64 (k : Int), .bool true]) (by simp [results, Tryd.results62, go_sem]) rfl ⟨true, k, l', e', rfl, .item HR.out HY.out, HP4.out.alloc _, HG4.out.alloc _⟩
end Go.Proofs.YtegkimcfmdckbabDoor.Ex
