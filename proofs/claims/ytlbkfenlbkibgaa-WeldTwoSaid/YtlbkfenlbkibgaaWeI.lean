/- Welding: slices.Insert of tokens at the head of an own row. -/
import Derived.Test.YtlbkfenlbkibgaaWeI0
import Derived.Test.YtlbkfenlbkibgaaWeE
import Derived.Deep.RegionLaw
import Derived.Laws.DeepBits32
set_option linter.unusedVariables false
set_option maxRecDepth 100000
set_option maxHeartbeats 4000000
namespace Go.Proofs.Ytlbkfenlbkibgaa.St
open Go.RowKit Mem Sm Tk Rt
set_option linter.unusedSimpArgs false
theorem insert_none (L K' : List Tk.Tk) (base : Nat) (A A' : Option Addr) (n' c c' : Nat) (w : World) (hl : L.length ≤ 100000) (hn' : n' = 0) (hb : base ≤ w.heap.size)
  (h1 : Tks base w (.slice A L.length c) L) (h2 : TRow w A' n' K') :
  Calls Try.prog 112 #[.slice A L.length c, .int .i64 0, .slice A' n' c'] w (InsIs L K' base (Value.slice A L.length c).ownBlock w) := by
 subst hn'
 obtain rfl : K' = [] := List.eq_nil_of_length_eq_zero h2.1
 have H1 := Lib.hid h1
 have hlen0 : (0 : Int) ≤ (L.length : Int) := by omega
 clear h1 h2
 by_cases hc0 : c = 0
 ·go_enter Try.func112, Try.ntmps112
  go_wp2
  go_ret
  exact ⟨_, rfl, H1.out, World.grownBy.refl w _, fun g h => .inl h⟩
 ·go_enter Try.func112, Try.ntmps112
  go_wp2
  go_ret
  exact ⟨_, rfl, H1.out, World.grownBy.refl w _, fun g h => .inl h⟩
theorem insert_end (K' : List Tk.Tk) (base : Nat) (A A' : Option Addr) (n' c c' : Nat) (w : World) (hn' : n' ≤ 100000) (h0 : 0 < n') (hb : base ≤ w.heap.size)
  (h1 : Tks base w (.slice A 0 c) []) (h2 : TRow w A' n' K') :
  Calls Try.prog 112 #[.slice A 0 c, .int .i64 0, .slice A' n' c'] w (InsIs [] K' base (Value.slice A 0 c).ownBlock w) := by
 have H1 := Lib.hid h1
 have H2 := Lib.hid h2
 have hz : ¬ ((n' : Int) = 0) := by omega
 clear h1 h2
 by_cases hc0 : c = 0
 ·go_enter Try.func112, Try.ntmps112
  go_wp2_with (at_builtin; (refine wpList_app_tk rfl (.tmp 23) (.tmp 24) rfl base _ [] rfl H1.out A' n' c' K' rfl H2.out (by simp; omega) hb ?_); intro v' w2 hown' hg hat)
  go_ret
  exact ⟨_, rfl, by simpa using hown', hg, fun g h => by
   rcases hat with e | e
   ·exact .inl (by have h' : v'.ownBlock = some g := h; have e' : v'.ownBlock = (Value.slice A 0 c).ownBlock := e; rw [← e']; exact h')
   ·have h' : v'.ownBlock = some g := h
    rw [e] at h'; cases h'; exact .inr (Nat.le_refl _)⟩
 ·go_enter Try.func112, Try.ntmps112
  go_wp2_with (at_builtin; (refine wpList_app_tk rfl (.tmp 23) (.tmp 24) rfl base _ [] rfl H1.out A' n' c' K' rfl H2.out (by simp; omega) hb ?_); intro v' w2 hown' hg hat)
  go_ret
  exact ⟨_, rfl, by simpa using hown', hg, fun g h => by
   rcases hat with e | e
   ·exact .inl (by have h' : v'.ownBlock = some g := h; have e' : v'.ownBlock = (Value.slice A 0 c).ownBlock := e; rw [← e']; exact h')
   ·have h' : v'.ownBlock = some g := h
    rw [e] at h'; cases h'; exact .inr (Nat.le_refl _)⟩
theorem wrap_few {x : Int} (h0 : -1000000000000 ≤ x) (h1 : x ≤ 1000000000000) : wrap64 x = x := by unfold wrap64; omega
theorem wrap_few' {x : Int} (h0 : -1000000000000 ≤ x) (h1 : x ≤ 1000000000000) : IntKind.i64.wrap x = x := by rw [IntKind.wrap_i64]; omega
theorem wrap_few'0 {x : Int} (h : IntKind.i64.wrap x = x) : IntKind.i64.wrap (0 + x) = x := (congrArg IntKind.i64.wrap (Int.zero_add x)).trans h
theorem take_cells {l : List Value} {a b : List Value} {n : Nat} (h : a.length = n) : (a ++ b).take n = a := by rw [← h, List.take_left']; rfl
theorem insert_room (L K' : List Tk.Tk) (base g : Nat) (A' : Option Addr) (n n' c c' : Nat) (cur : Array Value) (w : World) (hn : L.length = n) (hl : n ≤ 100000) (hn' : n' ≤ 100000) (h0 : 0 < n') (h00 : 0 < n) (hroom : n + n' ≤ c) (hm : c ≤ maxLen) (hb : base ≤ g)
  (hg : w.heap[g]? = some (.cells cur 101 (0, 0))) (hs : cur.size = c * 12) (ht : cur.toList.take (n * 12) = cells12 L) (h2 : TRow w A' n' K') (hdis : ∀ b off, A' = some ⟨b, off, none⟩ → b ≠ g) :
  Calls Try.prog 112 #[.slice (some ⟨g, 0, none⟩) n c, .int .i64 0, .slice A' n' c'] w (InsIs L K' base (some g) w) := by
 obtain ⟨vb, voff, rfl, hvb, hvc⟩ := h2.2 h0
 have hne := hdis vb voff rfl
 have h2l := h2.1
 have hnews := h2.news
 have hkl : (cells12 K').length = n' * 12 := by rw [cells12_length, h2.1]
 have hll : (cells12 L).length = n * 12 := by rw [cells12_length, hn]
 have hm63 : c ≤ 9223372036854775807 := by unfold maxLen at hm; omega
 obtain ⟨cur1, hcur1⟩ : ∃ x : Array Value, x = (cur.toList.take (n' * 12) ++ cells12 L ++ cur.toList.drop (n' * 12 + (cells12 L).length)).toArray := ⟨_, rfl⟩
 have hs1 : cur1.size = c * 12 := by
  rw [hcur1]
  simp only [List.size_toArray, List.length_append, List.length_take, List.length_drop, hll, Array.length_toList, hs]
  omega
 have hcp1 : ∀ W : World, W.heap[g]? = some (.cells cur 101 (0, 0)) → ∀ ty dc sc, (Builtin.copy_ #[22, 22] ty #[.slice (some ⟨g, n' * 12, none⟩) n dc, .slice (some ⟨g, 0, none⟩) (n + n') sc]).run Try.prog W = .ok (goInt n) (W.setRow g cur1) := fun W hW ty dc sc => by
  have e : Nat.min (n + n') n = n := by simp only [Nat.min_def]; split <;> omega
  have h := run_copy_tk W ty g (n' * 12) n dc ⟨g, 0, none⟩ (n + n') sc cur 101 (cells12 L) hW (by rw [e, hll]) (fun j v hj => by
   have hjl : j < n * 12 := by rw [← hll]; exact (List.getElem?_eq_some_iff.1 hj).1
   rw [show (⟨g, 0, none⟩ : Addr).add j = ⟨g, j, none⟩ by unfold Addr.add; split <;> simp_all]
   unfold World.cell?
   simp only [hW]
   rw [← ht, List.getElem?_take, if_pos hjl] at hj
   simpa using hj) (by rw [hll, hs]; omega) (cells12_one L)
  rw [e, ← hcur1] at h
  exact h
 obtain ⟨cur2, hcur2⟩ : ∃ x : Array Value, x = (cur1.toList.take 0 ++ cells12 K' ++ cur1.toList.drop (0 + (cells12 K').length)).toArray := ⟨_, rfl⟩
 have hcp2 : ∀ W : World, W.heap[g]? = some (.cells cur1 101 (0, 0)) → (∀ p, W.cell? ⟨vb, p, none⟩ = w.cell? ⟨vb, p, none⟩) → ∀ ty dc, (Builtin.copy_ #[22, 22] ty #[.slice (some ⟨g, 0, none⟩) (n + n') dc, .slice (some ⟨vb, voff, none⟩) n' c']).run Try.prog W = .ok (goInt n') (W.setRow g cur2) := fun W hW hv ty dc => by
  have e : Nat.min n' (n + n') = n' := by simp only [Nat.min_def]; split <;> omega
  have h := run_copy_tk W ty g 0 (n + n') dc ⟨vb, voff, none⟩ n' c' cur1 101 (cells12 K') hW (by rw [e, hkl]) (fun j v hj => by
   have := hnews j v hj
   rw [show (⟨vb, voff, none⟩ : Addr).add j = ⟨vb, voff + j, none⟩ by unfold Addr.add; split <;> simp_all] at this ⊢
   rw [hv]; exact this) (by rw [hkl, hs1]; omega) (cells12_one K')
  rw [e, ← hcur2] at h
  exact h
 have hs2 : cur2.size = c * 12 := by
  rw [hcur2]
  simp only [List.size_toArray, List.length_append, List.length_take, List.length_drop, hkl, Array.length_toList, hs1]
  omega
 have ht2 : cur2.toList.take ((n + n') * 12) = cells12 (K' ++ L) := by
  rw [hcur2, cells12_append]
  simp only [List.take_zero, List.nil_append, Nat.zero_add]
  rw [hkl, hcur1]
  have e1 : (List.take (n' * 12) cur.toList).length = n' * 12 := by rw [List.length_take, Array.length_toList, hs]; omega
  rw [List.append_assoc, List.drop_left' e1, ← List.append_assoc]
  exact take_cells (l := []) (by rw [List.length_append, hkl, hll]; omega)
 have HG := Lib.hid hg
 have HC1 := Lib.hid hcp1
 have HC2 := Lib.hid hcp2
 have hsa : w.shape? vb ≠ none := by
  have := hvc 0 (by rw [h2.1]; omega) 0 _ rfl
  unfold World.cell? at this
  unfold World.shape?
  split at this <;> simp_all
 obtain ⟨⟨tA, kA⟩, hsa⟩ := Option.ne_none_iff_exists'.1 hsa
 have hkA : kA ≠ 0 := by
  have := hvc 0 (by rw [h2.1]; omega) 0 _ rfl
  unfold World.cell? at this
  unfold World.shape? at hsa
  cases hh : w.heap[vb]? with
  | none => simp [hh] at hsa
  | some ob =>
   cases ob <;> simp [hh] at hsa this
   rename_i cs _ _
   intro e
   rw [← hsa.2] at e
   have := (Array.getElem?_eq_some_iff.1 this).1
   omega
 have hov : ∀ lb cb, (callFunc 113 #[.slice (some ⟨vb, voff, none⟩) n' c', .slice (some ⟨g, n' * 12, none⟩) lb cb]).run Try.prog w = .ok (.value (.bool false)) w := fun lb cb => by
  rw [run_callFunc_extern (P := Try.prog) (fn := Try.f113) (e := Extern.SlicesOverlaps.overlaps #[22, 22] #[4]) Try.func113 (by kernel_rfl) (by kernel_rfl) (by kernel_rfl) (by kernel_rfl),
   run_overlaps_own w 22 4 101 Try.underlying22 12 (fun w => by kernel_rfl) ⟨vb, voff, none⟩ ⟨g, n' * 12, none⟩ n' c' lb cb hne tA 101 kA (c * 12) hsa (by unfold World.shape?; simp [hg, hs]) hkA (by unfold World.frozen?; simp [hg]) (by unfold World.frozen?; simp [hg])]
  rfl
 have hz1 : ¬ ((n' : Int) = 0) := by omega
 have hz2 : ¬ ((0 : Int) = (n : Int)) := by omega
 have hb1 : (0 : Int) ≤ (n' : Int) := by omega
 have hb8 : (0 : Int) ≤ (n : Int) + (n' : Int) := by omega
 have hb9 : (0 : Int) ≤ (n : Int) := by omega
 have hb2 : ¬ (c = n') := by omega
 have hb3 : (n : Int) + (n' : Int) ≤ (c : Int) := by omega
 have hb4 : ¬ (c = 0) := by omega
 have hb5 : (n' : Int) ≤ (n : Int) + (n' : Int) := by omega
 have hb6 : ¬ ((c : Int) < (n : Int) + (n' : Int)) := by omega
 have htn : ((n : Int) + (n' : Int)).toNat = n + n' := by omega
 have hsub : n + n' - n' = n := by omega
 have HT2 := Lib.hid ht2
 have HS2 := Lib.hid hs2
 clear htn hsub
 clear hcur1 hcur2 hcp1 hcp2 hnews hvc h2 hdis hs ht hs1 hs2 ht2 hsa hll hkl
 go_enter Try.func112, Try.ntmps112
 go_wp2_with (simp only [hov])
 have hw0 : IntKind.i64.wrap (n' : Int) = (n' : Int) := wrap_few' (by omega) (by omega)
 have hw2 : IntKind.i64.wrap (0 + (n' : Int)) = (n' : Int) := wrap_few'0 hw0
 have hgd : (w.drew).heap[g]? = some (.cells cur 101 (0, 0)) := HG.out
 go_region_law (refine step_copy_tk rfl _ _ 22 22 rfl (.slice (some ⟨g, n' * 12, none⟩) n (c - n')) (.slice (some ⟨g, 0, none⟩) (n + n') c) (by simp [Act.eval, Act.put]) (by simp [Act.eval, Act.put]) (HC1.out _ hgd _ _ _) ?_)
 clear hw0 hw2
 have hW1 := setRow_heap w.drew g cur cur1 101 (0, 0) hgd
 have hV1 : ∀ p, (w.drew.setRow g cur1).cell? ⟨vb, p, none⟩ = w.cell? ⟨vb, p, none⟩ := fun p => by
  have := (grown_setRow w.drew g cur1).block vb hvb (fun e => hne (Option.some.inj e))
  unfold World.cell?
  simp only [this]
  rfl
 have HC2' := HC2.out _ hW1 hV1
 go_wp2_with (simp only [HC2'])
 go_ret
 have hgr : w.grownBy ((w.drew.setRow g cur1).setRow g cur2) (some g) := (((grown_below (below_drewN (Below.refl w.heap.size w) 1)).but (some g)).trans (grown_setRow w.drew g cur1)).trans (grown_setRow _ g cur2)
 have hlen : (K' ++ L).length = n + n' := by rw [List.length_append, h2l, hn]; omega
 refine ⟨.slice (some ⟨g, 0, none⟩) (n + n') c, rfl, ⟨by rw [cells12_length], .inr ⟨g, c, cur2, by rw [hlen], hb, setRow_heap _ g cur1 cur2 _ _ hW1, by omega, hm, HS2.out, by rw [hlen]; exact HT2.out⟩⟩, hgr, fun q e => .inl ?_⟩
 exact e
theorem zeros_size (z : Value) (k : Nat) (h : z.cells.size = 12) : (Builtin.zeroCells z.cells k).size = k * 12 := by simp [Builtin.zeroCells, h]
theorem insert_grow (L K' : List Tk.Tk) (base g : Nat) (A' : Option Addr) (n n' c c' : Nat) (cur : Array Value) (w : World) (hn : L.length = n) (hl : n ≤ 100000) (hn' : n' ≤ 100000) (h0 : 0 < n') (h00 : 0 < n) (hnc : n ≤ c) (hroom : c < n + n') (hb : base ≤ w.heap.size)
  (hg : w.heap[g]? = some (.cells cur 101 (0, 0))) (hs : cur.size = c * 12) (ht : cur.toList.take (n * 12) = cells12 L) (h2 : TRow w A' n' K') :
  Calls Try.prog 112 #[.slice (some ⟨g, 0, none⟩) n c, .int .i64 0, .slice A' n' c'] w (InsIs L K' base (some g) w) := by
 obtain ⟨vb, voff, rfl, hvb, hvc⟩ := h2.2 h0
 have h2l := h2.1
 have hnews := h2.news
 have hkl : (cells12 K').length = n' * 12 := by rw [cells12_length, h2.1]
 have hll : (cells12 L).length = n * 12 := by rw [cells12_length, hn]
 have hgl : g < w.heap.size := (Array.getElem?_eq_some_iff.1 hg).1
 obtain ⟨i0, hi0, hz0, hzs, hzb⟩ := info_parts Go.Proofs.Ytlbkfenlbkibgaa.Tk.tzero
 obtain ⟨G, hG⟩ : ∃ G, G = grownCap w (n + n') c 101 := ⟨_, rfl⟩
 have hGn : n + n' ≤ G := by rw [hG]; exact grownCap_ge w _ _ _
 have hGm : G ≤ maxLen := by rw [hG]; exact grownCap_le_maxLen w (n + n') c _ (by unfold maxLen; omega)
 have hG63 : G ≤ 9223372036854775807 := by unfold maxLen at hGm; omega
 obtain ⟨cur0, hcur0⟩ : ∃ x : Array Value, x = #[] ++ Builtin.zeroCells (tokV zeroTk).cells (n + n') ++ Builtin.zeroCells (tokV zeroTk).cells (G - (n + n')) := ⟨_, rfl⟩
 have hs0 : cur0.size = G * 12 := by
  rw [hcur0]
  simp only [Array.size_append, zeros_size (tokV zeroTk) _ rfl]
  simp
  omega
 have hrz : ∀ ty, (Builtin.append_ #[22, 3] ty #[.slice (some ⟨g, 0, none⟩) 0 c, .int .i64 ((n : Int) + (n' : Int))]).run Try.prog w = .ok (.slice (some ⟨w.heap.size, 0, none⟩) (n + n') G) (w.drew.alloc (.cells cur0 101)) := fun ty => by
  have h := Lib.run_append_grow_zeros w 22 3 ty 101 i0 _ .i64 .i64 Try.underlying22 Try.underlying3 hi0 hz0 (some ⟨g, 0, none⟩) 0 c [] (by
   simp [Builtin.firstCells]
   exact run_loadCells_list (P := Try.prog) w.drew ⟨g, 0, none⟩ [] (fun j v hj => by simp at hj)) (n + n') (by omega) (by omega) (by omega) (by omega) (by rw [hzb]; omega) (by
   rw [hzb]
   exact growslice_fits (by omega) (by omega))
  rw [Nat.zero_add, ← hG, ← hcur0] at h
  exact h
 obtain ⟨cur1, hcur1⟩ : ∃ x : Array Value, x = (cur0.toList.take 0 ++ cells12 K' ++ cur0.toList.drop (0 + (cells12 K').length)).toArray := ⟨_, rfl⟩
 have hs1 : cur1.size = G * 12 := by
  rw [hcur1]
  simp only [List.size_toArray, List.length_append, List.length_take, List.length_drop, hkl, Array.length_toList, hs0]
  omega
 have hcp1 : ∀ W : World, W.heap[w.heap.size]? = some (.cells cur0 101 (0, 0)) → (∀ p, W.cell? ⟨vb, p, none⟩ = w.cell? ⟨vb, p, none⟩) → ∀ ty dc, (Builtin.copy_ #[22, 22] ty #[.slice (some ⟨w.heap.size, 0, none⟩) (n + n') dc, .slice (some ⟨vb, voff, none⟩) n' c']).run Try.prog W = .ok (goInt n') (W.setRow w.heap.size cur1) := fun W hW hv ty dc => by
  have e : Nat.min n' (n + n') = n' := by simp only [Nat.min_def]; split <;> omega
  have h := run_copy_tk W ty w.heap.size 0 (n + n') dc ⟨vb, voff, none⟩ n' c' cur0 101 (cells12 K') hW (by rw [e, hkl]) (fun j v hj => by
   have := hnews j v hj
   rw [show (⟨vb, voff, none⟩ : Addr).add j = ⟨vb, voff + j, none⟩ by unfold Addr.add; split <;> simp_all] at this ⊢
   rw [hv]; exact this) (by rw [hkl, hs0]; omega) (cells12_one K')
  rw [e, ← hcur1] at h
  exact h
 obtain ⟨cur2, hcur2⟩ : ∃ x : Array Value, x = (cur1.toList.take (n' * 12) ++ cells12 L ++ cur1.toList.drop (n' * 12 + (cells12 L).length)).toArray := ⟨_, rfl⟩
 have hs2 : cur2.size = G * 12 := by
  rw [hcur2]
  simp only [List.size_toArray, List.length_append, List.length_take, List.length_drop, hll, Array.length_toList, hs1]
  omega
 have hcp2 : ∀ W : World, W.heap[w.heap.size]? = some (.cells cur1 101 (0, 0)) → W.heap[g]? = some (.cells cur 101 (0, 0)) → ∀ ty dc sc, (Builtin.copy_ #[22, 22] ty #[.slice (some ⟨w.heap.size, n' * 12, none⟩) n dc, .slice (some ⟨g, 0, none⟩) n sc]).run Try.prog W = .ok (goInt n) (W.setRow w.heap.size cur2) := fun W hW hWg ty dc sc => by
  have e : Nat.min n n = n := by simp only [Nat.min_def]; split <;> omega
  have h := run_copy_tk W ty w.heap.size (n' * 12) n dc ⟨g, 0, none⟩ n sc cur1 101 (cells12 L) hW (by rw [e, hll]) (fun j v hj => by
   have hjl : j < n * 12 := by rw [← hll]; exact (List.getElem?_eq_some_iff.1 hj).1
   rw [show (⟨g, 0, none⟩ : Addr).add j = ⟨g, j, none⟩ by unfold Addr.add; split <;> simp_all]
   unfold World.cell?
   simp only [hWg]
   rw [← ht, List.getElem?_take, if_pos hjl] at hj
   simpa using hj) (by rw [hll, hs1]; omega) (cells12_one L)
  rw [e, ← hcur2] at h
  exact h
 have ht2 : cur2.toList.take ((n + n') * 12) = cells12 (K' ++ L) := by
  rw [hcur2, cells12_append]
  have e1 : cur1.toList.take (n' * 12) = cells12 K' := by
   rw [hcur1]
   simp only [List.take_zero, List.nil_append]
   rw [take_cells (l := []) (by rw [hkl])]
  rw [e1]
  exact take_cells (l := []) (by rw [List.length_append, hkl, hll]; omega)
 have HG := Lib.hid hg
 have HRZ := Lib.hid hrz
 have HC1 := Lib.hid hcp1
 have HC2 := Lib.hid hcp2
 have HT2 := Lib.hid ht2
 have HS2 := Lib.hid hs2
 have hz1 : ¬ ((n' : Int) = 0) := by omega
 have hz2 : ¬ ((0 : Int) = (n : Int)) := by omega
 have hb1 : (0 : Int) ≤ (n' : Int) := by omega
 have hb8 : (0 : Int) ≤ (n : Int) + (n' : Int) := by omega
 have hb9 : (0 : Int) ≤ (n : Int) := by omega
 have hb2 : ¬ (G = n') := by omega
 have hb3 : (c : Int) < (n : Int) + (n' : Int) := by omega
 have hb4 : ¬ (c = 0) := by omega
 have hb5 : (n' : Int) ≤ (n : Int) + (n' : Int) := by omega
 have hb7 : ¬ (G = 0) := by omega
 clear hcur0 hcur1 hcur2 hcp1 hcp2 hrz hnews hvc h2 hs ht hs0 hs1 hs2 ht2 hll hkl hG hi0 hz0 hzs hzb
 go_enter Try.func112, Try.ntmps112
 go_wp2_with (at_builtin; refine Lib.wpList_append_run _ rfl _ _ _ _ rfl _ _ rfl rfl _ _ (HRZ.out _) ?_)
 have hnew : (w.alloc (.cells cur0 101)).drew.heap[w.heap.size]? = some (.cells cur0 101 (0, 0)) := heap_alloc_new w _
 have hba : Below w.heap.size w ((w.alloc (.cells cur0 101)).drew) := below_drewN ((Below.refl w.heap.size w).alloc (Nat.le_refl _) _) 1
 have hV0 : ∀ p, ((w.alloc (.cells cur0 101)).drew).cell? ⟨vb, p, none⟩ = w.cell? ⟨vb, p, none⟩ := fun p => hba.cell (p := ⟨vb, p, none⟩) hvb
 have hg0 : (w.alloc (.cells cur0 101)).drew.heap[g]? = some (.cells cur 101 (0, 0)) := (hba.block g hgl).trans HG.out
 generalize (w.alloc (.cells cur0 101)).drew = W0 at hnew hba hV0 hg0 ⊢
 have HBA := Lib.hid hba
 have HG0 := Lib.hid hg0
 have HC1' := HC1.out W0 hnew hV0
 have hW1 := setRow_heap W0 w.heap.size cur0 cur1 101 (0, 0) hnew
 have hB1 := below_setRow hba (Nat.le_refl _) cur1
 have hg1 : (W0.setRow w.heap.size cur1).heap[g]? = some (.cells cur 101 (0, 0)) := by
  rw [(grown_setRow W0 w.heap.size cur1).block g (Nat.lt_of_lt_of_le hgl hba.size) (fun e => by cases e; omega)]; exact hg0
 clear HC1 hnew hV0 hg0 HG0
 go_wp2_with (simp only [HC1'])
 have hW1d : ((W0.setRow w.heap.size cur1).drew).heap[w.heap.size]? = some (.cells cur1 101 (0, 0)) := hW1
 have hg1d : ((W0.setRow w.heap.size cur1).drew).heap[g]? = some (.cells cur 101 (0, 0)) := hg1
 have hw0 : IntKind.i64.wrap (n' : Int) = (n' : Int) := wrap_few' (by omega) (by omega)
 have hw2 : IntKind.i64.wrap (0 + (n' : Int)) = (n' : Int) := wrap_few'0 hw0
 go_region_law (refine step_copy_tk rfl _ _ 22 22 rfl (.slice (some ⟨w.heap.size, n' * 12, none⟩) n (G - n')) (.slice (some ⟨g, 0, none⟩) n c) (by simp [Act.eval, Act.put]) (by simp [Act.eval, Act.put]) (HC2.out _ hW1d hg1d _ _ _) ?_)
 clear hw0 hw2
 have hW2 := setRow_heap (W0.setRow w.heap.size cur1).drew w.heap.size cur1 cur2 101 (0, 0) hW1
 have hB2 := below_setRow (below_drewN hB1 1) (Nat.le_refl _) cur2
 go_wp2
 go_ret
 have hlen : (K' ++ L).length = n + n' := by rw [List.length_append, h2l, hn]; omega
 refine ⟨.slice (some ⟨w.heap.size, 0, none⟩) (n + n') G, rfl, ⟨by rw [cells12_length], .inr ⟨w.heap.size, G, cur2, by rw [hlen], hb, hW2, by omega, hGm, HS2.out, by rw [hlen]; exact HT2.out⟩⟩, (grown_below hB2).but (some g), fun q e => .inr ?_⟩
 cases e
 exact Nat.le_refl _
theorem insert_any (L K' : List Tk.Tk) (base : Nat) (A A' : Option Addr) (n' c c' : Nat) (w : World) (hl : L.length ≤ 100000) (hn' : n' ≤ 100000) (hb : base ≤ w.heap.size)
  (h1 : Tks base w (.slice A L.length c) L) (h2 : TRow w A' n' K') (hdis : 0 < n' → ∀ b off, A' = some ⟨b, off, none⟩ → (Value.slice A L.length c).ownBlock ≠ some b) :
  Calls Try.prog 112 #[.slice A L.length c, .int .i64 0, .slice A' n' c'] w (InsIs L K' base (Value.slice A L.length c).ownBlock w) := by
 rcases Nat.eq_zero_or_pos n' with h0 | h0
 ·exact insert_none L K' base A A' n' c c' w hl h0 hb h1 h2
 ·rcases Nat.eq_zero_or_pos L.length with h00 | h00
  ·obtain rfl : L = [] := List.eq_nil_of_length_eq_zero h00
   exact insert_end K' base A A' n' c c' w hn' h0 hb h1 h2
  ·rcases h1.2 with ⟨_, hz⟩ | ⟨g, cap, cur, hv, hbg, hg, hnc, hm, hs, ht⟩
   ·omega
   ·simp only [Value.slice.injEq, true_and] at hv
    obtain ⟨rfl, rfl⟩ := hv
    by_cases hr : L.length + n' ≤ c
    ·exact insert_room L K' base g A' L.length n' c c' cur w rfl hl hn' h0 h00 hr hm hbg hg hs ht h2 (fun b off e e2 => hdis h0 b off e (by rw [e2]; rfl))
    ·exact insert_grow L K' base g A' L.length n' c c' cur w rfl hl hn' h0 h00 hnc (by omega) hb hg hs ht h2
end Go.Proofs.Ytlbkfenlbkibgaa.St
