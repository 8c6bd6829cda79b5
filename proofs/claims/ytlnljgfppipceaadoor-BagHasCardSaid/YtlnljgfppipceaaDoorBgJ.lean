/- The law BagHas, walked. -/
import Derived.Test.YtlnljgfppipceaaDoorBgI
namespace Go.Proofs.YtlnljgfppipceaaDoor.Bg
open Go.RowKit Mem
set_option linter.unusedVariables false

theorem want_is (zs : List Int) : upL (fun j : Nat => decide ((j : Int) ∈ zs)) 256 = (ofL zs).list :=
  (list_of (ofL zs) _ fun n hn => by rw [ofL_hasN]; simp [hn]).symm
theorem Row.append {w : World} {base : Nat} {v : Value} {n : Nat} {zs : List Int} (ho : w.ownsRow base 3 1 v n (zs.map (Value.int .i64))) (hz : ∀ z ∈ zs, (Lit.int .i64 z).wf = true) : ∃ A c, v = .slice A n c ∧ n ≤ c ∧ Row .i64 w A n zs := Row.of_own ho hz

set_option maxRecDepth 100000 in
set_option maxHeartbeats 4000000 in
theorem bagHas_walk (A : Option Addr) (n c : Nat) (zs : List Int) (a : Int) (w : World) (hr : Row .i64 w A n zs) (hnc : n ≤ c) (hcm : c ≤ maxLen) (ha : (Lit.int .i64 a).wf = true) (hT : Tab w) :
    Calls Tryd.prog 3 #[.slice A n c, .int .i64 a] w fun e w' => e = .returned (.bool true) ∧ Below w.heap.size w w' := by
  obtain ⟨i0, hi, hz, hs1, hs2⟩ := info_parts info_i64
  have HR := Lib.hid hr
  have HT := Lib.hid hT
  have HA := Lib.hid ha
  have hn : n ≤ maxLen := by omega
  unfold maxLen at hn
  clear hr hT ha hcm hnc
  by_cases hbig : 300 < n
  · go_enter Tryd.func3, Tryd.ntmps3
    go_wp2_with (go_at_call 6; refine (live_any _ HT.out).mono ?_; rintro e w' ⟨rfl, hb⟩)
    go_ret
    exact ⟨rfl, hb⟩
  · clear hn
    go_enter Tryd.func3, Tryd.ntmps3
    go_wp2_with fail
    refine (of_any A n c zs _ HR.out (by omega)).mono ?_
    rintro e w1 ⟨rfl, hb1⟩
    obtain ⟨x, hx⟩ : ∃ x, x = ofL zs := ⟨_, rfl⟩
    rw [← hx]
    have hok : x.ok := by rw [hx]; exact ofL_ok zs
    have HX := Lib.hid hx
    have HOK := Lib.hid hok
    have HB1 := Lib.hid hb1
    have hs1' := hb1.size
    have HR1 := Lib.hid ((HR.out.below hb1).alloc (.cells #[.int .u64 x.a, .int .u64 x.b, .int .u64 x.c, .int .u64 x.d] 27))
    have HA1 := Lib.hid (At.new w1 x)
    clear hx hok hb1
    unfold bagV
    go_wp2_with fail
    refine (rlist_any A n c zs _ HR1.out (by omega)).mono ?_
    rw [want_is, ← HX.out]
    rintro e w2 ⟨A2, c2, rfl, hc2, hr2, hb2⟩
    have HR2 := Lib.hid hr2
    have ha2 := HA1.out.below hb2 HA1.out.lt
    have HA2 := Lib.hid ha2
    have hB2 : Below w.heap.size w w2 := (HB1.out.alloc hs1' _).trans (hb2.mono (by simp; omega))
    have HB2 := Lib.hid hB2
    have hs2' := hB2.size
    have hl := list_length_le x
    obtain ⟨L, hL⟩ : ∃ L, L = x.list := ⟨_, rfl⟩
    rw [← hL] at HR2 hl ⊢
    have HL := Lib.hid hL
    have HRz := Lib.hid (HR.out.below hB2)
    have hcl : w1.heap.size < w2.heap.size := ha2.lt
    clear hr2 ha2 hb2 hB2 hL
    have HO1 := Lib.hid (World.ownsRow_made (base := w2.heap.size) (e := 3) (size := 1) w2 #[] 0 (Nat.le_refl _) (by unfold maxLen; omega) rfl)
    have HRy := Lib.hid (HRz.out.alloc (.cells #[] 3))
    go_wp2_with (first
      | (at_builtin; (refine wpList_app rfl (.tmp 18) (.tmp 19) _ rfl .i64 w2.heap.size 3 i0 8 Tryd.underlying22 hi hz hs1 hs2 (by omega) _ 0 [] rfl HO1.out A n c zs rfl HRy.out (by omega) (by simp) ?_); intro v3 w3 ho3 hg3 hat3; rw [Nat.zero_add, List.nil_append] at ho3; have HO3 := Lib.hid ho3; have HB3 := Lib.hid (((Below.refl w2.heap.size w2).alloc (Nat.le_refl _) (.cells #[] 3)).grown hg3 (by simp) (fun k hk => (HO1.out.lt k hk).1)); have hs3 := HB3.out.size; have HG3 := Lib.hid hg3; clear ho3 hg3 hat3; have HO4 := Lib.hid (HO3.out.alloc (.cells #[.int .i64 a] 3)); have HR4 := Lib.hid (row_block (heap_alloc_new w3 (.cells #[.int .i64 a] 3)) [a] rfl 1 rfl (fun z hz => by simp at hz; subst hz; exact HA.out)))
      | (at_builtin; (refine wpList_app rfl (.tmp 20) (.tmp 22) _ rfl .i64 w2.heap.size 3 i0 8 Tryd.underlying22 hi hz hs1 hs2 (by omega) v3 n zs rfl HO4.out _ 1 1 [a] rfl HR4.out (by omega) (by simp; omega) ?_); intro v5 w5 ho5 hg5 hat5; have HB5 := Lib.hid ((HB3.out.alloc hs3 (.cells #[.int .i64 a] 3)).grown hg5 (by simp; omega) (fun k hk => (HO3.out.lt k hk).1)); have hs5 := HB5.out.size; have HG5 := Lib.hid hg5; obtain ⟨A5, c5, rfl, hc5, hr5⟩ := Row.of_own ho5 (fun z hz => by rcases List.mem_append.1 hz with h | h; exact HR.out.2.1 z h; (simp at h; subst h; exact HA.out)); have HR5 := Lib.hid hr5; clear ho5 hg5 hat5 hr5))
    refine (rlist_any A5 (n + 1) c5 (zs ++ [a]) _ HR5.out (by omega)).mono ?_
    rw [want_is, ofL_snoc, ← HX.out]
    rintro e w6 ⟨A6, c6, rfl, hc6, hr6, hb6⟩
    have hb26 : Below w2.heap.size w2 w6 := HB5.out.trans (hb6.mono hs5)
    have hs6 := hb26.size
    have ha6 := HA2.out.below hb26 hcl
    have hT6 : Tab w6 := (HT.out.below HB2.out HT.out.2).below hb26 (Nat.lt_of_lt_of_le HT.out.2 hs2')
    have HT6 := Lib.hid hT6
    have HR26 := Lib.hid (HR2.out.below hb26)
    have HB6 := Lib.hid (HB2.out.trans (hb26.mono hs2'))
    have HA6 := Lib.hid ha6
    obtain ⟨c0, c1, cc2, c3, _⟩ := ha6.cell
    have HR6 := Lib.hid hr6
    have hlen2 := list_length_le (x.withI a)
    obtain ⟨K, hK⟩ : ∃ K, K = (x.withI a).list := ⟨_, rfl⟩
    rw [← hK] at HR6 hc6 hlen2 ⊢
    have HK := Lib.hid hK
    have hs26 : w1.heap.size < w6.heap.size := ha6.lt
    clear hK hr6 hb6 hb26 ha6 hT6
    go_wp2_with fail
    refine (first_any x HOK.out _ HT6.out).mono ?_
    rintro e w7 ⟨rfl, hb7⟩
    unfold firstV
    rw [← HL.out]
    have HA7 := Lib.hid (HA6.out.below hb7 hs26)
    have HT7 := Lib.hid (HT6.out.below hb7 HT6.out.2)
    have HR27 := Lib.hid (HR26.out.below hb7)
    have HR67 := Lib.hid (HR6.out.below hb7)
    have HB7 := Lib.hid (HB6.out.trans (hb7.mono HB6.out.size))
    have hs67 := hb7.size
    obtain ⟨d0, d1, d2, d3, _⟩ := HA7.out.cell
    clear c0 c1 cc2 c3 hb7
    obtain ⟨m, hm⟩ : ∃ m, m = L.length := ⟨_, rfl⟩
    rw [← hm] at hl HR27 ⊢
    have HM := Lib.hid hm
    clear hm
    have e0 : ((m : Int) != (m : Int)) = false := by simp
    obtain ⟨q, hq⟩ : ∃ q, q = x.hasI a := ⟨_, rfl⟩
    have HQ := Lib.hid hq
    clear hq
    have e3 : (q != q) = false := by simp
    have HD : Hid (decide (a ∈ L) = q) := by
      show _ = _
      rw [HL.out, HQ.out, Bool.eq_iff_iff, decide_eq_true_eq, mem_list]
    by_cases hnil : L = []
    · have hm0 : m = 0 := by rw [HM.out, hnil]; rfl
      subst hm0
      rw [hnil]
      have HN := Lib.hid hnil
      clear hnil
      go_wp2_with fail
      refine (len_any x HOK.out _).mono ?_
      rw [← HL.out, ← HM.out]; rw [show (((0 : Nat) : Int)) = 0 from rfl]
      rintro e w8 ⟨rfl, hb8⟩
      have HA8 := Lib.hid (HA7.out.below hb8 HA7.out.lt)
      have HT8 := Lib.hid (HT7.out.below hb8 HT7.out.2)
      have HR28 := Lib.hid (HR27.out.below hb8)
      have HR68 := Lib.hid (HR67.out.below hb8)
      have HB8 := Lib.hid (HB7.out.trans (hb8.mono HB7.out.size))
      obtain ⟨f0, f1, f2, f3, _⟩ := HA8.out.cell
      clear d0 d1 d2 d3 hb8
      go_wp2_with fail
      refine (has_any x HOK.out a _).mono ?_
      rw [← HQ.out]
      rintro e w9 ⟨rfl, hb9⟩
      have HA9 := Lib.hid (HA8.out.below hb9 HA8.out.lt)
      have HT9 := Lib.hid (HT8.out.below hb9 HT8.out.2)
      have HR29 := Lib.hid (HR28.out.below hb9)
      have HR69 := Lib.hid (HR68.out.below hb9)
      have HB9 := Lib.hid (HB8.out.trans (hb9.mono HB8.out.size))
      obtain ⟨d0, d1, d2, d3, _⟩ := HA9.out.cell
      clear f0 f1 f2 f3 hb9
      go_wp2_with fail
      refine (rhas_any _ _ c2 L a _ HR29.out (by omega)).mono ?_
      rw [HD.out]
      rintro e w' ⟨rfl, rfl⟩
      go_wp2_with fail
      refine (list_any x HOK.out _ HT9.out).mono ?_
      rw [← HL.out]
      rintro e w10 ⟨A10, c10, rfl, hc10, hr10, hb10⟩
      rw [← HM.out]
      have HR10 := Lib.hid (HM.out.symm ▸ hr10)
      have HA10 := Lib.hid (HA9.out.below hb10 HA9.out.lt)
      have HT10 := Lib.hid (HT9.out.below hb10 HT9.out.2)
      have HR210 := Lib.hid (HR29.out.below hb10)
      have HR610 := Lib.hid (HR69.out.below hb10)
      have HB10 := Lib.hid (HB9.out.trans (hb10.mono HB9.out.size))
      clear d0 d1 d2 d3 hb10 hr10 hc10
      go_wp2_with fail
      refine (rsame_any A10 _ _ _ c10 c2 L L _ HR10.out HR210.out (by omega) (by omega)).mono ?_
      rw [show decide (L = L) = true from by simp]
      rintro e w11 ⟨rfl, hb11⟩
      have HA11 := Lib.hid (HA10.out.below hb11 HA10.out.lt)
      have HT11 := Lib.hid (HT10.out.below hb11 HT10.out.2)
      have HR611 := Lib.hid (HR610.out.below hb11)
      have HB11 := Lib.hid (HB10.out.trans (hb11.mono HB10.out.size))
      obtain ⟨d0, d1, d2, d3, _⟩ := HA11.out.cell
      clear hb11
      go_wp2_with fail
      refine (with_any x HOK.out a _).mono ?_
      rintro e w12 ⟨rfl, hb12⟩
      have HT12 := Lib.hid (HT11.out.below hb12 HT11.out.2)
      have HR612 := Lib.hid (HR611.out.below hb12)
      have HB12 := Lib.hid (HB11.out.trans (hb12.mono HB11.out.size))
      clear d0 d1 d2 d3 hb12
      go_wp2_with fail
      refine (list_any (x.withI a) (withI_ok HOK.out a) _ HT12.out).mono ?_
      rw [← HK.out]
      rintro e w13 ⟨A13, c13, rfl, hc13, hr13, hb13⟩
      have HR13 := Lib.hid hr13
      have HT13 := Lib.hid (HT12.out.below hb13 HT12.out.2)
      have HR613 := Lib.hid (HR612.out.below hb13)
      have HB13 := Lib.hid (HB12.out.trans (hb13.mono HB12.out.size))
      clear hb13 hr13 hc13
      go_wp2_with fail
      refine (rsame_any A13 A6 K.length K.length c13 c6 K K _ HR13.out HR613.out (by omega) (by omega)).mono ?_
      rw [show decide (K = K) = true from by simp]
      rintro e w14 ⟨rfl, hb14⟩
      have HT14 := Lib.hid (HT13.out.below hb14 HT13.out.2)
      have HB14 := Lib.hid (HB13.out.trans (hb14.mono HB13.out.size))
      clear hb14
      go_wp2_with fail
      refine (live_any _ HT14.out).mono ?_
      rintro e w15 ⟨rfl, hb15⟩
      have HB15 := Lib.hid (HB14.out.trans (hb15.mono HB14.out.size))
      clear hb15
      go_wp2
      go_ret
      exact ⟨rfl, HB15.out⟩
    · obtain ⟨y, r, hy⟩ : ∃ y r, L = y :: r := by cases L with | nil => exact absurd rfl hnil | cons y r => exact ⟨y, r, rfl⟩
      have hm0 : 0 < m := by rw [HM.out, hy]; simp
      have e1 : decide ((0 : Int) < (m : Int)) = true := by simp; omega
      have e2 : (y != y) = false := by simp
      obtain ⟨b2, o2, rfl, hb2lt, hx2⟩ := HR27.out.at_ hm0
      rw [show L.headD 0 = y from by rw [hy]; rfl, show (!L.isEmpty) = true from by rw [hy]; rfl]
      have HY := Lib.hid hy
      clear hnil hy
      have hcell0 := hx2 0 (by omega)
      rw [Nat.add_zero, HY.out] at hcell0
      simp only [List.getD_cons_zero] at hcell0
      clear hx2
      go_wp2_with fail
      refine (len_any x HOK.out _).mono ?_
      rw [← HL.out, ← HM.out]
      rintro e w8 ⟨rfl, hb8⟩
      have hcell8 := (hb8.cell (p := ⟨b2, o2, none⟩) hb2lt).trans hcell0
      clear hcell0
      have HA8 := Lib.hid (HA7.out.below hb8 HA7.out.lt)
      have HT8 := Lib.hid (HT7.out.below hb8 HT7.out.2)
      have HR28 := Lib.hid (HR27.out.below hb8)
      have HR68 := Lib.hid (HR67.out.below hb8)
      have HB8 := Lib.hid (HB7.out.trans (hb8.mono HB7.out.size))
      obtain ⟨f0, f1, f2, f3, _⟩ := HA8.out.cell
      clear d0 d1 d2 d3 hb8
      go_wp2_with fail
      refine (has_any x HOK.out a _).mono ?_
      rw [← HQ.out]
      rintro e w9 ⟨rfl, hb9⟩
      have HA9 := Lib.hid (HA8.out.below hb9 HA8.out.lt)
      have HT9 := Lib.hid (HT8.out.below hb9 HT8.out.2)
      have HR29 := Lib.hid (HR28.out.below hb9)
      have HR69 := Lib.hid (HR68.out.below hb9)
      have HB9 := Lib.hid (HB8.out.trans (hb9.mono HB8.out.size))
      obtain ⟨d0, d1, d2, d3, _⟩ := HA9.out.cell
      clear f0 f1 f2 f3 hb9 hcell8
      go_wp2_with fail
      refine (rhas_any _ _ c2 L a _ HR29.out (by omega)).mono ?_
      rw [HD.out]
      rintro e w' ⟨rfl, rfl⟩
      go_wp2_with fail
      refine (list_any x HOK.out _ HT9.out).mono ?_
      rw [← HL.out]
      rintro e w10 ⟨A10, c10, rfl, hc10, hr10, hb10⟩
      rw [← HM.out]
      have HR10 := Lib.hid (HM.out.symm ▸ hr10)
      have HA10 := Lib.hid (HA9.out.below hb10 HA9.out.lt)
      have HT10 := Lib.hid (HT9.out.below hb10 HT9.out.2)
      have HR210 := Lib.hid (HR29.out.below hb10)
      have HR610 := Lib.hid (HR69.out.below hb10)
      have HB10 := Lib.hid (HB9.out.trans (hb10.mono HB9.out.size))
      clear d0 d1 d2 d3 hb10 hr10 hc10
      go_wp2_with fail
      refine (rsame_any A10 _ _ _ c10 c2 L L _ HR10.out HR210.out (by omega) (by omega)).mono ?_
      rw [show decide (L = L) = true from by simp]
      rintro e w11 ⟨rfl, hb11⟩
      have HA11 := Lib.hid (HA10.out.below hb11 HA10.out.lt)
      have HT11 := Lib.hid (HT10.out.below hb11 HT10.out.2)
      have HR611 := Lib.hid (HR610.out.below hb11)
      have HB11 := Lib.hid (HB10.out.trans (hb11.mono HB10.out.size))
      obtain ⟨d0, d1, d2, d3, _⟩ := HA11.out.cell
      clear hb11
      go_wp2_with fail
      refine (with_any x HOK.out a _).mono ?_
      rintro e w12 ⟨rfl, hb12⟩
      have HT12 := Lib.hid (HT11.out.below hb12 HT11.out.2)
      have HR612 := Lib.hid (HR611.out.below hb12)
      have HB12 := Lib.hid (HB11.out.trans (hb12.mono HB11.out.size))
      clear d0 d1 d2 d3 hb12
      go_wp2_with fail
      refine (list_any (x.withI a) (withI_ok HOK.out a) _ HT12.out).mono ?_
      rw [← HK.out]
      rintro e w13 ⟨A13, c13, rfl, hc13, hr13, hb13⟩
      have HR13 := Lib.hid hr13
      have HT13 := Lib.hid (HT12.out.below hb13 HT12.out.2)
      have HR613 := Lib.hid (HR612.out.below hb13)
      have HB13 := Lib.hid (HB12.out.trans (hb13.mono HB12.out.size))
      clear hb13 hr13 hc13
      go_wp2_with fail
      refine (rsame_any A13 A6 K.length K.length c13 c6 K K _ HR13.out HR613.out (by omega) (by omega)).mono ?_
      rw [show decide (K = K) = true from by simp]
      rintro e w14 ⟨rfl, hb14⟩
      have HT14 := Lib.hid (HT13.out.below hb14 HT13.out.2)
      have HB14 := Lib.hid (HB13.out.trans (hb14.mono HB13.out.size))
      clear hb14
      go_wp2_with fail
      refine (live_any _ HT14.out).mono ?_
      rintro e w15 ⟨rfl, hb15⟩
      have HB15 := Lib.hid (HB14.out.trans (hb15.mono HB14.out.size))
      clear hb15
      go_wp2
      go_ret
      exact ⟨rfl, HB15.out⟩
end Go.Proofs.YtlnljgfppipceaaDoor.Bg
