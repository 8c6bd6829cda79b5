/- Walks of utf: the loops that hand letters to a closure; Decode, Count. -/
import Derived.Test.YtdicjplekbjdpaaUtfG
import Derived.Test.YtdicjplekbjdpaaUtfDec
namespace Go.Proofs.Ytdicjplekbjdpaa.Utf
open Go.RowKit Mem
set_option linter.unusedVariables false

theorem info_i32 : (Try.prog.info? 21).map (fun i => (i.zero, i.size, i.bytes)) = some (some (.int .i32 0), 1, 4) := by kernel_rfl

theorem own_below {w w' : World} {base : Nat} {e : TypeId} {size n : Nat} {v : Value} {xs : List Value} (h : w.ownsRow base e size v n xs) (hb : Below w.heap.size w w') : w'.ownsRow base e size v n xs :=
  h.kept (row := none) ⟨hb.os, hb.tape, hb.output, hb.size, fun k hk _ => hb.block k hk⟩ (by
    cases e : v.ownBlock
    · exact .inl rfl
    · exact .inr (by simp))

/-- the closure's variable: a slice of the letters so far, the call's own -/
def BoxD (B g : Nat) (w : World) (rs : List Int) : Prop :=
  B ≤ g ∧ B ≤ w.heap.size ∧ ∃ v, w.heap[g]? = some (.cells #[v] 36 (0, 0)) ∧ w.ownsRow B 21 1 v rs.length (rs.map (Value.int .i32))
/-- the closure's variable: how many letters so far -/
def BoxC (B g : Nat) (w : World) (rs : List Int) : Prop :=
  B ≤ g ∧ B ≤ w.heap.size ∧ w.heap[g]? = some (.cells #[.int .i64 rs.length] 3 (0, 0))

theorem BoxD.below {B g : Nat} {w w' : World} {rs : List Int} (h : BoxD B g w rs) (hb : Below w.heap.size w w') : BoxD B g w' rs := by
  obtain ⟨h1, h2, v, h3, h4⟩ := h
  have := hb.size
  exact ⟨h1, by omega, v, (hb.block g (lt_of_block h3)).trans h3, own_below h4 hb⟩
theorem BoxC.below {B g : Nat} {w w' : World} {rs : List Int} (h : BoxC B g w rs) (hb : Below w.heap.size w w') : BoxC B g w' rs := by
  obtain ⟨h1, h2, h3⟩ := h
  have := hb.size
  exact ⟨h1, by omega, (hb.block g (lt_of_block h3)).trans h3⟩

/-- what a closure does with a letter -/
def Took (I : World → List Int → Prop) (B : Nat) (W : World) (rs : List Int) (e : Ending) (w' : World) : Prop := e = .returned (.tuple #[]) ∧ I w' rs ∧ Below B W w'

theorem own_ne {w : World} {base g n : Nat} {v u : Value} {xs : List Value} (h : w.ownsRow base 21 1 v n xs) (hg : w.heap[g]? = some (.cells #[u] 36 (0, 0))) : v.ownBlock ≠ some g := by
  rcases h.2 with ⟨rfl, _⟩ | ⟨g', cap, cur, rfl, _, hh, _⟩
  · simp [Value.ownBlock]
  · intro he
    have : g' = g := by simpa [Value.ownBlock] using he
    subst this
    rw [hh] at hg
    simp at hg

theorem own_form {w : World} {base : Nat} {e : TypeId} {size n : Nat} {v : Value} {xs : List Value} (h : w.ownsRow base e size v n xs) : ∃ A c, v = .slice A n c := by
  rcases h.2 with ⟨rfl, rfl⟩ | ⟨g', cap, cur, rfl, _⟩
  · exact ⟨_, _, rfl⟩
  · exact ⟨_, _, rfl⟩

set_option maxHeartbeats 400000 in
theorem tell_dec (B g : Nat) (w : World) (rs : List Int) (r : Int) (hr : rtB r = true) (hl : rs.length ≤ 100000) (h : BoxD B g w rs) :
    Calls Try.prog 26 #[.int .i32 r, .pointer (some ⟨g, 0, none⟩)] w (Took (BoxD B g) B w (rs ++ [r])) := by
  obtain ⟨i0, hi, hz, hs1, hs2⟩ := info_parts info_i32
  obtain ⟨h1, h2, v, h3, h4⟩ := h
  have hrr := of_rtB hr
  have hc := cell_of_one h3
  have hf := free_of_one h3
  have hlt := lt_of_block h3
  have hne := own_ne h4 h3
  have hrow : Row .i32 (w.alloc (.cells #[.int .i32 r] 21 (0, 0))) (some ⟨w.heap.size, 0, none⟩) 1 [r] :=
    row_block (heap_alloc_new w _) [r] rfl 1 rfl (fun z hz => by simp at hz; subst hz; exact WalkArith.wf_i32 (by omega))
  have HR := Lib.hid hrow
  have h4' := h4.alloc (.cells #[.int .i32 r] 21 (0, 0))
  have H4 := Lib.hid h4'
  have H3 := Lib.hid h3
  have HNE := Lib.hid hne
  have HF := Lib.hid hf
  have H40 := Lib.hid h4
  clear hrow h4' h3 h4 hne hf hr
  go_enter Try.func26, Try.ntmps26
  go_wp2_with (at_builtin; refine wpList_app rfl (.tmp 3) (.tmp 5) _ rfl .i32 B 21 i0 4 Try.underlying36 hi hz hs1 hs2 (by omega) v rs.length rs rfl H4.out _ 1 1 [r] rfl HR.out (by omega) (by simp; omega) ?_; intro v' w1 hown' hg hat; obtain ⟨A1, c1, rfl⟩ := own_form hown'; have hh1 : w1.heap[g]? = some (.cells #[v] 36 (0, 0)) := (hg.block g (by simp; omega) (Ne.symm HNE.out)).trans ((Below.heap_alloc w _ g hlt).trans H3.out); have hc1 := cell_of_one hh1; have hf1 := free_of_one hh1; have HH1 := Lib.hid hh1; have HO := Lib.hid hown'; have HG := Lib.hid hg; clear hh1 hown' hg)
  go_end0
  have hv1 := own_ne HO.out HH1.out
  have hB1 : Below B w w1 := ((Below.refl B w).alloc h2 _).grown HG.out (by simp; omega) (fun k hk => (H40.out.lt k hk).1)
  refine ⟨rfl, ⟨h1, ?_, _, one_setCell HH1.out, ?_⟩, hB1.setCell h1 _⟩
  · have := hB1.size
    simp [World.setCell]; omega
  · have := ownsRow_setCell_other HO.out (a := ⟨g, 0, none⟩) hv1 (.slice A1 (rs.length + 1) c1)
    simpa using this

theorem tell_cnt (B g : Nat) (w : World) (rs : List Int) (r : Int) (hr : rtB r = true) (hl : rs.length ≤ 100000) (h : BoxC B g w rs) :
    Calls Try.prog 27 #[.int .i32 r, .pointer (some ⟨g, 0, none⟩)] w (Took (BoxC B g) B w (rs ++ [r])) := by
  obtain ⟨h1, h2, h3⟩ := h
  have hc := cell_of_one h3
  have hf := free_of_one h3
  have H3 := Lib.hid h3
  clear h3
  go_enter Try.func27, Try.ntmps27
  go_wp2
  go_end0
  refine ⟨rfl, ⟨h1, by simpa [World.setCell] using h2, ?_⟩, (Below.refl B w).setCell h1 _⟩
  have := one_setCell (u := .int .i64 ((rs.length : Int) + 1)) H3.out
  simpa using this

/-- what comes of going letter by letter: all of them; or those up to the first place at which there is none -/
def Walked (I : World → List Int → Prop) (W0 : World) (zs : List Int) (e : Ending) (w' : World) : Prop :=
  Below W0.heap.size W0 w' ∧ ((∃ rs, Dec zs rs zs.length ∧ e = .returned (.tuple #[.int .i64 0, .int .i64 0]) ∧ I w' rs) ∨
    (∃ rs p, Dec zs rs p ∧ Ends zs p ∧ p < zs.length ∧ e = .returned (.tuple #[.int .i64 p, .int .i64 11])))

set_option maxHeartbeats 1000000 in
theorem walk_dec (zs : List Int) (A : Option Addr) (n c g : Nat) (w0 w : World) (hr : Row .u8 w0 A n zs) (hn : n ≤ 50000) (hb0 : Below w0.heap.size w0 w) (hI : BoxD w0.heap.size g w []) :
    Calls Try.prog 25 #[.slice A n c, .func (Fn.func 26) #[] #[.pointer (some ⟨g, 0, none⟩)]] w (Walked (BoxD w0.heap.size g) w0 zs) := by
  have hlz := hr.1
  have HZ := Lib.hid hlz
  have HR := Lib.hid hr
  clear hlz hr
  go_enter Try.func25, Try.ntmps25
  go_wp2
  go_loopw [6] (fun i wr => ∃ (rs : List Int) (p : Nat), i = .int .i64 p ∧ Dec zs rs p ∧ BoxD w0.heap.size g wr rs ∧ Below w0.heap.size w0 wr) (fun i _ => n - (intOf i).toNat)
  case atStart => exact ⟨[], 0, rfl, Dec.nil zs, hI, hb0⟩
  case round =>
    obtain ⟨rs, p, rfl, hd, hi, hbw⟩ := hrel
    have hpn := hd.2.2
    have hrl := hd.len
    rw [HZ.out] at hpn
    have HD := Lib.hid hd
    have HI := Lib.hid hi
    have HB := Lib.hid hbw
    clear hd hi hbw hI hb0
    by_cases hlt : p < n
    · go_wp2_with fail
      refine (unext_any zs A n c p _ (HR.out.below HB.out) (by omega) hlt).mono ?_
      rintro e w1 ⟨hb1, h1⟩
      have hbb := HB.out.trans (hb1.mono HB.out.size)
      have HB1 := Lib.hid hbb
      have hii := HI.out.below hb1
      have HI1 := Lib.hid hii
      clear hbb hb1 hii
      rcases h1 with ⟨r, hat, rfl⟩ | ⟨hno, rfl⟩
      · have hst := HD.out.step hat
        have hl := bytes_length r
        have hst2 := hst.2
        rw [HZ.out] at hst2
        have hrt := hat.1
        have HST := Lib.hid hst.1
        have HT := Lib.hid hrt
        obtain ⟨m, hm⟩ : ∃ m, m = (bytes r).length := ⟨_, rfl⟩
        rw [← hm] at hl hst2 ⊢
        have HM := Lib.hid hm
        clear hst hat hm hrt
        go_wp2_with fail
        refine (tell_dec w0.heap.size g w1 rs r HT.out (by omega) HI1.out).mono ?_
        rintro e w2 ⟨rfl, hi2, hb2⟩
        have HI2 := Lib.hid hi2
        have HB2 := Lib.hid hb2
        clear hi2 hb2
        go_wp2
        go_roundw
        case rel => exact ⟨rs ++ [r], p + m, by go_num, by rw [HM.out]; exact HST.out, HI2.out, HB1.out.trans HB2.out⟩
        case measure => simp [intOf]; omega
      · have HNO := Lib.hid hno
        clear hno
        go_wp2
        go_ret2
        exact ⟨HB1.out, .inr ⟨rs, p, HD.out, HNO.out, by rw [HZ.out]; exact hlt, rfl⟩⟩
    · obtain rfl : p = n := by omega
      go_wp2
      go_ret2
      exact ⟨HB.out, .inl ⟨rs, by rw [HZ.out]; exact HD.out, rfl, HI.out⟩⟩

set_option maxHeartbeats 1000000 in
theorem walk_cnt (zs : List Int) (A : Option Addr) (n c g : Nat) (w0 w : World) (hr : Row .u8 w0 A n zs) (hn : n ≤ 50000) (hb0 : Below w0.heap.size w0 w) (hI : BoxC w0.heap.size g w []) :
    Calls Try.prog 25 #[.slice A n c, .func (Fn.func 27) #[] #[.pointer (some ⟨g, 0, none⟩)]] w (Walked (BoxC w0.heap.size g) w0 zs) := by
  have hlz := hr.1
  have HZ := Lib.hid hlz
  have HR := Lib.hid hr
  clear hlz hr
  go_enter Try.func25, Try.ntmps25
  go_wp2
  go_loopw [6] (fun i wr => ∃ (rs : List Int) (p : Nat), i = .int .i64 p ∧ Dec zs rs p ∧ BoxC w0.heap.size g wr rs ∧ Below w0.heap.size w0 wr) (fun i _ => n - (intOf i).toNat)
  case atStart => exact ⟨[], 0, rfl, Dec.nil zs, hI, hb0⟩
  case round =>
    obtain ⟨rs, p, rfl, hd, hi, hbw⟩ := hrel
    have hpn := hd.2.2
    have hrl := hd.len
    rw [HZ.out] at hpn
    have HD := Lib.hid hd
    have HI := Lib.hid hi
    have HB := Lib.hid hbw
    clear hd hi hbw hI hb0
    by_cases hlt : p < n
    · go_wp2_with fail
      refine (unext_any zs A n c p _ (HR.out.below HB.out) (by omega) hlt).mono ?_
      rintro e w1 ⟨hb1, h1⟩
      have hbb := HB.out.trans (hb1.mono HB.out.size)
      have HB1 := Lib.hid hbb
      have hii := HI.out.below hb1
      have HI1 := Lib.hid hii
      clear hbb hb1 hii
      rcases h1 with ⟨r, hat, rfl⟩ | ⟨hno, rfl⟩
      · have hst := HD.out.step hat
        have hl := bytes_length r
        have hst2 := hst.2
        rw [HZ.out] at hst2
        have hrt := hat.1
        have HST := Lib.hid hst.1
        have HT := Lib.hid hrt
        obtain ⟨m, hm⟩ : ∃ m, m = (bytes r).length := ⟨_, rfl⟩
        rw [← hm] at hl hst2 ⊢
        have HM := Lib.hid hm
        clear hst hat hm hrt
        go_wp2_with fail
        refine (tell_cnt w0.heap.size g w1 rs r HT.out (by omega) HI1.out).mono ?_
        rintro e w2 ⟨rfl, hi2, hb2⟩
        have HI2 := Lib.hid hi2
        have HB2 := Lib.hid hb2
        clear hi2 hb2
        go_wp2
        go_roundw
        case rel => exact ⟨rs ++ [r], p + m, by go_num, by rw [HM.out]; exact HST.out, HI2.out, HB1.out.trans HB2.out⟩
        case measure => simp [intOf]; omega
      · have HNO := Lib.hid hno
        clear hno
        go_wp2
        go_ret2
        exact ⟨HB1.out, .inr ⟨rs, p, HD.out, HNO.out, by rw [HZ.out]; exact hlt, rfl⟩⟩
    · obtain rfl : p = n := by omega
      go_wp2
      go_ret2
      exact ⟨HB.out, .inl ⟨rs, by rw [HZ.out]; exact HD.out, rfl, HI.out⟩⟩
end Go.Proofs.Ytdicjplekbjdpaa.Utf
