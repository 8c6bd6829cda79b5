/- The law BagAll, walked. -/
import Derived.Test.YtlnljgfppipceaaDoorBgI
import Derived.Test.YtlnljgfppipceaaDoorBgK
namespace Go.Proofs.YtlnljgfppipceaaDoor.Bg
open Go.RowKit Go.Shelf Mem
set_option linter.unusedVariables false

theorem want_all (zs : List Int) : upL (fun j : Nat => decide ((j : Int) ∈ zs)) 256 = (ofL zs).list :=
  (list_of (ofL zs) _ fun n hn => by rw [ofL_hasN]; simp [hn]).symm
theorem row_first {w : World} {b o n : Nat} {zs : List Int} (h : Row .i64 w (some ⟨b, o, none⟩) n zs) (m : Nat) (hm : m ≤ n) : Row .i64 w (some ⟨b, o, none⟩) m (zs.take m) := by
  refine ⟨by rw [List.length_take, h.1]; omega, fun z hz => h.2.1 z (List.mem_of_mem_take hz), fun hp => ⟨b, o, rfl, fun j hj => ?_⟩⟩
  obtain ⟨b', o', e, hc⟩ := h.2.2 (by omega)
  cases e
  rw [hc j (by omega)]
  simp [List.getD, hj]
theorem all_any (x : Bag) (w : World) : Calls Tryd.prog 20 #[bagV x] w fun e w' => e = .returned (.func (.func 24) #[] #[.pointer (some ⟨w.heap.size, 0, none⟩)]) ∧ w' = w.alloc (.cells #[.int .u64 x.a, .int .u64 x.b, .int .u64 x.c, .int .u64 x.d] 27) :=
  (callsIn_wide (n := 1)).1 (all_in Fence.wide 1 trivial rfl x w)

set_option maxRecDepth 100000 in
set_option maxHeartbeats 4000000 in
theorem bagAll_walk (A : Option Addr) (n c : Nat) (zs : List Int) (mo : Int) (w : World) (hr : Row .i64 w A n zs) (hnc : n ≤ c) (hcm : c ≤ maxLen) (hmo : (Lit.int .u8 mo).wf = true) (hT : Tab w) :
    Calls Tryd.prog 5 #[.slice A n c, .int .u8 mo] w fun e w' => e = .returned (.bool true) ∧ Below w.heap.size w w' := by
  obtain ⟨hm0, hm1⟩ := wf_u8 hmo
  have HT0 := Lib.hid ((hT.below ((Below.refl _ w).alloc (Nat.le_refl _) (.cells #[.int .u8 mo] 5)) hT.2))
  have HR0 := Lib.hid (hr.alloc (.cells #[.int .u8 mo] 5))
  have HTg := Lib.hid hT.2
  have HTw := Lib.hid hT
  have HM0 := Lib.hid (Boxed.new w 5 (.int .u8 mo))
  have hn : n ≤ maxLen := by omega
  unfold maxLen at hn
  clear hr hT hmo hcm hnc
  by_cases hbig : 300 < n
  · go_enter Tryd.func5, Tryd.ntmps5
    go_wp2_with (go_at_call 6; refine (live_any _ HT0.out).mono ?_; rintro e w' ⟨rfl, hb⟩)
    go_ret
    exact ⟨rfl, ((Below.refl _ w).alloc (Nat.le_refl _) _).trans (hb.mono (by simp))⟩
  · clear hn
    go_enter Tryd.func5, Tryd.ntmps5
    go_wp2_with fail
    refine (of_any A n c zs _ HR0.out (by omega)).mono ?_
    rintro e w1 ⟨rfl, hb1⟩
    obtain ⟨x, hx⟩ : ∃ x, x = ofL zs := ⟨_, rfl⟩
    rw [← hx]
    have HX := Lib.hid hx
    have HOK := Lib.hid (show x.ok by rw [hx]; exact ofL_ok zs)
    have hB1 : Below w.heap.size w w1 := ((Below.refl _ w).alloc (Nat.le_refl _) _).trans (hb1.mono (by simp))
    have HR1 := Lib.hid (HR0.out.below hb1)
    have HM1 : Hid (Boxed w1 w.heap.size 5 (.int .u8 mo)) := (hb1.block w.heap.size (by simp)).trans HM0.out
    have HT1 := Lib.hid (HT0.out.below hb1 HT0.out.2)
    have HB1 := Lib.hid hB1
    have hs1 := hB1.size
    clear hx hb1 hB1
    go_wp2_with fail
    refine (all_any x _).mono ?_
    rintro e w' ⟨rfl, rfl⟩
    have HA2 := Lib.hid (At.new w1 x)
    have HB2 := Lib.hid (HB1.out.alloc hs1 (.cells #[.int .u64 x.a, .int .u64 x.b, .int .u64 x.c, .int .u64 x.d] 27))
    have HR2 := Lib.hid (HR1.out.alloc (.cells #[.int .u64 x.a, .int .u64 x.b, .int .u64 x.c, .int .u64 x.d] 27))
    have HM2 := Lib.hid (HM1.out.alloc (.cells #[.int .u64 x.a, .int .u64 x.b, .int .u64 x.c, .int .u64 x.d] 27))
    have HT2 := Lib.hid (HT1.out.below ((Below.refl _ w1).alloc (Nat.le_refl _) (.cells #[.int .u64 x.a, .int .u64 x.b, .int .u64 x.c, .int .u64 x.d] 27)) HT1.out.2)
    obtain ⟨w2, hw2⟩ : ∃ w2, w2 = w1.alloc (.cells #[.int .u64 x.a, .int .u64 x.b, .int .u64 x.c, .int .u64 x.d] 27) := ⟨_, rfl⟩
    rw [← hw2] at HA2 HB2 HR2 HM2 HT2 ⊢
    have hnf : ∀ (g : Nat) (w : World), (binOp BinOp.eql 41 (.func (.func 24) #[] #[.pointer (some ⟨g, 0, none⟩)]) .nilFunc).run Tryd.prog w = .ok (.bool false) w := fun _ _ => by kernel_rfl
    have hs2 : w.heap.size ≤ w2.heap.size := HB2.out.size
    clear hw2
    go_wp2_with fail
    refine (rlist_any A n c zs _ HR2.out (by omega)).mono ?_
    rw [want_all, ← HX.out]
    rintro e w3 ⟨A3, c3, rfl, hc3, hr3, hb3⟩
    have HA3 := Lib.hid (HA2.out.below hb3 HA2.out.lt)
    have HR3 := Lib.hid hr3
    have HM3 : Hid (Boxed w3 w.heap.size 5 (.int .u8 mo)) := (hb3.block w.heap.size HM2.out.lt).trans HM2.out
    have HT3 := Lib.hid (HT2.out.below hb3 HT2.out.2)
    have HB3 := Lib.hid (HB2.out.trans (hb3.mono hs2))
    have hs3 := HB3.out.size
    have hs23 := hb3.size
    have hl := list_length_le x
    obtain ⟨L, hL⟩ : ∃ L, L = x.list := ⟨_, rfl⟩
    rw [← hL] at HR3 hl hc3 ⊢
    have HL := Lib.hid hL
    have hlt3 := HM3.out.lt
    clear hL hr3 hb3
    have HM4 := Lib.hid (HM3.out.alloc (.cells #[.slice none 0 0] 22))
    have HA4 := Lib.hid (HA3.out.alloc (.cells #[.slice none 0 0] 22))
    have HG4 := Lib.hid (Boxed.new w3 22 (.slice none 0 0))
    have HB4 := Lib.hid (HB3.out.alloc hs3 (.cells #[.slice none 0 0] 22))
    have HT4 := Lib.hid (HT3.out.below ((Below.refl _ w3).alloc (Nat.le_refl _) (.cells #[.slice none 0 0] 22)) HT3.out.2)
    have HR4 := Lib.hid (HR3.out.alloc (.cells #[.slice none 0 0] 22))
    have hmc := HM4.out.cell
    obtain ⟨m, hm⟩ : ∃ m, m = L.length := ⟨_, rfl⟩
    rw [← hm] at hl hc3 HR4 ⊢
    have HM := Lib.hid hm
    clear hm
    by_cases hz : mo = 0
    · subst hz
      have hgc := HG4.out.cell
      by_cases hml : 0 < m
      · have hd : ((0 : Int) < (m : Int)) := by omega
        obtain ⟨b, o, rfl, hb3, _⟩ := HR4.out.at_ hml
        go_wp2_with fail
        refine (rsame_any none _ 0 0 0 _ [] [] _ Row.nil Row.nil (by omega) (by omega)).mono ?_
        rw [show decide (([] : List Int) = []) = true from by simp]
        rintro e w6 ⟨rfl, hb6⟩
        have HB6 := Lib.hid (HB4.out.trans (hb6.mono HB4.out.size))
        have HT6 := Lib.hid (HTw.out.below HB6.out HTg.out)
        clear hb6
        go_wp2_with fail
        refine (live_any _ HT6.out).mono ?_
        rintro e w7 ⟨rfl, hb7⟩
        have HB7 := Lib.hid (HB6.out.trans (hb7.mono HB6.out.size))
        clear hb7
        go_wp2
        go_ret
        exact ⟨rfl, HB7.out⟩
      · obtain rfl : m = 0 := by omega
        go_wp2_with fail
        refine (rsame_any none _ 0 0 0 _ [] [] _ Row.nil Row.nil (by omega) (by omega)).mono ?_
        rw [show decide (([] : List Int) = []) = true from by simp]
        rintro e w6 ⟨rfl, hb6⟩
        have HB6 := Lib.hid (HB4.out.trans (hb6.mono HB4.out.size))
        have HT6 := Lib.hid (HTw.out.below HB6.out HTg.out)
        clear hb6
        go_wp2_with fail
        refine (live_any _ HT6.out).mono ?_
        rintro e w7 ⟨rfl, hb7⟩
        have HB7 := Lib.hid (HB6.out.trans (hb7.mono HB6.out.size))
        clear hb7
        go_wp2
        go_ret
        exact ⟨rfl, HB7.out⟩
    · have hpos : (0 : Int) < mo := by omega
      have hgot : Got w3.heap.size w3.heap.size w.heap.size mo w3 [] (w3.alloc (.cells #[.slice none 0 0] 22)) := ⟨⟨_, HG4.out, World.ownsRow_nil _ _ _ _⟩, HM4.out, (Below.refl _ w3).alloc (Nat.le_refl _) _, by simp⟩
      have HGOT := Lib.hid hgot
      clear hgot
      go_wp2_with fail
      refine (all1_call w3.heap.size w3.heap.size w.heap.size w1.heap.size mo w3 (Nat.le_refl _) (by omega) (by omega) hm1 x HOK.out _ HA4.out HT4.out (Nat.lt_of_lt_of_le HTg.out hs3) HGOT.out).mono ?_
      rintro e w5 ⟨⟨v, rfl⟩, ⟨v5, hv5, ho5⟩, hm5, hb5, hs5⟩
      rw [← HL.out] at ho5
      have HB5 := Lib.hid (HB3.out.trans (hb5.mono hs3))
      have HR5 : Hid (Row .i64 w5 A3 m L) := by
        have h := HR3.out.below hb5
        rw [← HM.out] at h
        exact h
      have hwf : ∀ z ∈ L.take mo.toNat, (Lit.int .i64 z).wf = true := fun z hz => by rw [HL.out] at hz; exact x.list_wf z (List.mem_of_mem_take hz)
      obtain ⟨A5, c5, rfl, hc5, hr5⟩ := Row.of_own ho5 hwf
      have hgc := hv5.cell
      have hmc5 := hm5.cell
      have htl : (L.take mo.toNat).length = min mo.toNat m := by rw [List.length_take, HM.out]
      rw [htl] at hr5 hgc hc5
      have HR55 := Lib.hid hr5
      clear hwf ho5 hv5 hm5 hb5 hr5 htl hmc
      by_cases hlm : mo < (m : Int)
      · obtain ⟨b, o, rfl, _, _⟩ := HR5.out.at_ (show 0 < m by omega)
        have HRf := Lib.hid (row_first HR5.out mo.toNat (by omega))
        have hmin : min mo.toNat m = mo.toNat := by omega
        rw [hmin] at hgc HR55 hc5
        have hcc : ((mo.toNat : Nat) : Int) = mo := by omega
        obtain ⟨q, hq⟩ : ∃ q, q = mo.toNat := ⟨_, rfl⟩
        rw [← hq] at hgc HR55 HRf hcc hc5
        subst hcc
        have HQ := Lib.hid hq
        clear hq hmin
        go_wp2_with fail
        refine (rsame_any A5 _ q q c5 c3 (L.take q) (L.take q) _ HR55.out HRf.out (by omega) (by omega)).mono ?_
        rw [show decide (L.take q = L.take q) = true from by simp]
        rintro e w6 ⟨rfl, hb6⟩
        have HB6 := Lib.hid (HB5.out.trans (hb6.mono HB5.out.size))
        have HT6 := Lib.hid (HTw.out.below HB6.out HTg.out)
        clear hb6
        go_wp2_with fail
        refine (live_any _ HT6.out).mono ?_
        rintro e w7 ⟨rfl, hb7⟩
        have HB7 := Lib.hid (HB6.out.trans (hb7.mono HB6.out.size))
        clear hb7
        go_wp2
        go_ret
        exact ⟨rfl, HB7.out⟩
      · have hmin : min mo.toNat m = m := by omega
        have htk : L.take mo.toNat = L := List.take_of_length_le (by rw [← HM.out]; omega)
        rw [hmin] at hgc HR55 hc5
        rw [htk] at HR55
        clear hmin htk
        go_wp2_with fail
        refine (rsame_any A5 A3 m m c5 c3 L L _ HR55.out HR5.out (by omega) (by omega)).mono ?_
        rw [show decide (L = L) = true from by simp]
        rintro e w6 ⟨rfl, hb6⟩
        have HB6 := Lib.hid (HB5.out.trans (hb6.mono HB5.out.size))
        have HT6 := Lib.hid (HTw.out.below HB6.out HTg.out)
        clear hb6
        go_wp2_with fail
        refine (live_any _ HT6.out).mono ?_
        rintro e w7 ⟨rfl, hb7⟩
        have HB7 := Lib.hid (HB6.out.trans (hb7.mono HB6.out.size))
        clear hb7
        go_wp2
        go_ret
        exact ⟨rfl, HB7.out⟩
end Go.Proofs.YtlnljgfppipceaaDoor.Bg
