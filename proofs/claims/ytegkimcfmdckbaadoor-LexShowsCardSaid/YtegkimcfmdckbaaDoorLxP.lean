/- Walks of the law LexShows. -/
import Derived.Test.YtegkimcfmdckbaaDoorLxO
import Derived.Test.YtegkimcfmdckbaaDoorLxL
namespace Go.Proofs.YtegkimcfmdckbaaDoor.Lx
open Go.RowKit Mem
set_option linter.unusedVariables false

theorem cells5_take (l : List Sg) (k : Nat) (h : k < l.length) : l.take (k + 1) = l.take k ++ [l[k]] := by
  rw [List.take_succ_eq_append_getElem h]

theorem new_one (W : World) (cs : Array Value) (l : List Value) (h : cs = l.toArray) {t : TypeId} : ∀ (j : Nat) (u : Value), l[j]? = some u → (W.alloc (.cells cs t)).cell? ⟨W.heap.size, j, none⟩ = some u := by
  intro j u hu
  have := World.alloc_heap_new W (.cells cs t)
  subst h
  unfold World.cell?
  simp only [this]
  simpa using hu
set_option maxRecDepth 100000 in
set_option maxHeartbeats 4000000 in
theorem shows_walk (A : Option Addr) (n c : Nat) (l : List Sg) (w : World) (hr : GRow w A n l) (hn : n ≤ maxLen) (hx : ∀ x ∈ l, I64 x.low ∧ I64 x.high ∧ x.name.length ≤ maxLen) (H : Held w) :
    Calls Tryd.prog 4 #[.slice A n c] w fun e w' => e = .returned (.bool true) ∧ Below w.heap.size w w' := by
  obtain ⟨i0, hi, hz, hs1, hs2⟩ := info_parts info_sg
  unfold maxLen at hn hx
  have HR := Lib.hid hr
  have HX := hide hx
  have HH := hide H
  clear hr hx H
  go_enter Tryd.func4, Tryd.ntmps4
  go_wp2_with fail
  go_loopw [3, 4] (fun v i wr => ∃ k : Nat, k ≤ n ∧ k ≤ 300 ∧ i = .int .i64 k ∧ Hid (wr.ownsRow w.heap.size 32 5 v (l.take k).length (cells5 (l.take k))) ∧ Hid (∀ x ∈ l.take k, x.name.length ≤ 100) ∧ Hid (Below w.heap.size w wr)) (fun _ i _ => n - (intOf i).toNat)
  case atStart => exact ⟨0, by omega, by omega, rfl, Lib.hid (World.ownsRow_nil _ _ _ _), Lib.hid (fun x hx => by simp at hx), Lib.hid (Below.refl _ _)⟩
  case round =>
    obtain ⟨k, hk, hk3, rfl, ho, hnm, hW⟩ := hrel
    have hsz := hW.out.size
    by_cases hlt : k < n ∧ k < 300
    · have hkl : k < l.length := by rw [HR.out.1]; exact hlt.1
      obtain ⟨b, off, hA, hb, hc⟩ := (HR.out.below hW.out).2 (by omega)
      obtain ⟨a0, a1, a2, a3, a4⟩ := hc k hkl
      have hxk := HX.out l[k] (List.getElem_mem hkl)
      have htk := cells5_take l k hkl
      obtain ⟨x, hxe⟩ : ∃ x, x = l[k] := ⟨_, rfl⟩
      rw [← hxe] at a0 a1 a2 a3 a4 htk hxk
      have HNM2 : Hid (x.name.length ≤ 100 → ∀ y ∈ l.take (k + 1), y.name.length ≤ 100) := by
        intro h y hy
        rw [htk] at hy
        rcases List.mem_append.1 hy with h1 | h1
        · exact hnm.out y h1
        · rw [List.mem_singleton] at h1; subst h1; exact h
      obtain ⟨kd, at_, lo, hi', nm⟩ := x
      dsimp only at a0 a1 a2 a3 a4 hxk
      have HTK := Lib.hid htk
      subst hA
      have t1 : decide (k < n) = true := by simpa using hlt.1
      have t2 : decide ((k : Int) < 300) = true := by simp; omega
      have hl1 := hlt.1
      have hl2 := hlt.2
      clear htk hxe hc hlt
      by_cases hbig : 100 < nm.length
      · have HL := hide (live_any wr (HH.out.below hW.out))
        go_wp2_with (go_at_call 6; (with_reducible refine HL.out.mono ?_); rintro e w1 ⟨rfl, hb1⟩)
        go_ret
        exact ⟨rfl, hW.out.trans (hb1.mono hsz)⟩
      · have t3 : decide (100 < nm.length) = false := by simpa using hbig
        have t4 : nm.length ≤ 100 := by omega
        have htl : (l.take k).length = k := by rw [List.length_take]; omega
        have HTL := Lib.hid htl
        clear hbig htl
        go_wp2_with (at_builtin; refine wpList_app_sg rfl (.tmp 23) (.tmp 28) 23 rfl w.heap.size 32 i0 _ Tryd.underlying23 hi hz rfl hs1 hs2 _ (l.take k) rfl (ho.out.alloc (.cells #[.int .i64 kd, .int .i64 at_, .int .i64 lo, .int .i64 hi', .string ⟨nm.toArray⟩] 32)) wr.heap.size 1 ⟨kd, at_, lo, hi', nm⟩ rfl (new_one wr _ _ rfl) (by rw [HTL.out]; omega) (by simp; omega) ?_; intro v' w4 hown' hg4 hat4)
        have HO : Hid (w4.ownsRow w.heap.size 32 5 v' (l.take (k + 1)).length (cells5 (l.take (k + 1)))) := by show World.ownsRow _ _ _ _ _ _ _; rw [HTK.out]; exact hown'
        have HW4 : Hid (Below w.heap.size w w4) := (hW.out.alloc hsz _).grown hg4 (by simp; omega) (fun g hg => (ho.out.lt g hg).1)
        go_wp2_with fail
        go_roundw
        case rel => exact ⟨k + 1, by omega, by omega, by go_num, HO, Lib.hid (HNM2.out t4), HW4⟩
        case measure => simp [intOf]; omega
    · have HL0 := Lib.hid hlt
      by_cases hbig : 300 < n
      · have hk300 : k = 300 := by omega
        have t1 : decide (k < n) = true := by simp; omega
        have t2 : decide ((k : Int) < 300) = false := by simp; omega
        have hk4 : 300 ≤ k := by omega
        have t3 : decide (300 < n) = true := by simpa using hbig
        have HL := hide (live_any wr (HH.out.below hW.out))
        clear hlt hk300
        go_wp2_with (go_at_call 6; (with_reducible refine HL.out.mono ?_); rintro e w1 ⟨rfl, hb1⟩)
        go_ret
        exact ⟨rfl, hW.out.trans (hb1.mono hsz)⟩
      · have hkn : k = n := by omega
        have t1 : decide (k < n) = false := by simp; omega
        have t3 : decide (300 < n) = false := by simpa using hbig
        have hnk : n ≤ k := by omega
        have htk : l.take k = l := by rw [hkn, ← HR.out.1, List.take_length]
        have ho' := ho.out
        rw [htk] at ho'
        obtain ⟨A', c', rfl, hc', hr'⟩ := GRow.of_own ho'
        have hll : l.length = n := HR.out.1
        rw [hll] at hr'
        have hnm' := hnm.out
        rw [htk] at hnm'
        have hx2 : ∀ x ∈ l, (I64 x.low ∧ I64 x.high) ∧ x.name.length ≤ 100 := fun x hx => ⟨⟨(HX.out x hx).1, (HX.out x hx).2.1⟩, hnm' x hx⟩
        have HS1 := hide (Show_any A' n c' l wr hr' (by omega) hx2 (HH.out.below hW.out))
        have HX2 := hide hx2
        have HLL := Lib.hid hll
        obtain ⟨X, hX⟩ : ∃ X, X = showN 0 l := ⟨_, rfl⟩
        rw [← hX] at HS1
        have HXX := Lib.hid hX
        clear hX hx2 hnm' hr' ho' htk hkn hlt hbig
        go_wp2_with (go_at_call 9; rw [HLL.out]; (with_reducible refine HS1.out.mono ?_); rintro e w1 ⟨rfl, hb1⟩)
        have HB1 := Lib.hid (hW.out.trans (hb1.mono hsz))
        have hr2 := HR.out.below HB1.out
        have HS2 := hide (rShow_any A n c l w1 hr2 (by omega) HX2.out)
        rw [← HXX.out] at HS2
        clear hr2 hb1
        refine HS2.out.mono ?_
        rintro e w2 ⟨rfl, hb2⟩
        have HB2 := Lib.hid (HB1.out.trans (hb2.mono HB1.out.size))
        have HL := hide (live_any w2 (HH.out.below HB2.out))
        clear hb2
        go_wp2_with (go_at_call 6; (with_reducible refine HL.out.mono ?_); rintro e w3 ⟨rfl, hb3⟩)
        go_ret
        exact ⟨rfl, HB2.out.trans (hb3.mono HB2.out.size)⟩
end Go.Proofs.YtegkimcfmdckbaaDoor.Lx
