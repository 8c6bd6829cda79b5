/- Walk of the law RouteBack. -/
import Derived.Test.YtnffgomgfabapaaRtM
import Derived.Test.YtnffgomgfabapaaRtJ
import Derived.Test.YtnffgomgfabapaaSmM
namespace Go.Proofs.Ytnffgomgfabapaa.Rt
open Go.RowKit Mem Sm
set_option linter.unusedVariables false

theorem row_low {n₀ n : Nat} {W : World} {A : Option Addr} {l : List Rg} (h : RLow n₀ W A n l) (hs : n₀ ≤ W.heap.size) : RRow W A n l :=
  ⟨h.1, fun hn => by
    obtain ⟨b, off, e, hl, hc⟩ := h.2 hn
    exact ⟨b, off, e, by omega, fun j hj => by rw [← rg_at l j hj]; exact hc j (by rw [← h.1]; exact hj)⟩⟩
/-- which maps are put in: right both ways -/
noncomputable def goodB (m : List Rg) : Bool := rightB m && rightB (inv m)
noncomputable def kept (l : List Mi) (i : Nat) : List (List Rg) := ((l.take i).filter (fun x => goodB x.m)).map Mi.m
theorem kept_zero (l : List Mi) : kept l 0 = [] := rfl
theorem kept_succ {l : List Mi} {i : Nat} (hi : i < l.length) : kept l (i + 1) = kept l i ++ if goodB (mi l i).m = true then [(mi l i).m] else [] := by
  have h : l[i]? = some (mi l i) := by simp [mi, List.getD, hi]
  simp only [kept, List.take_add_one, h, List.filter_append, List.map_append]
  congr 1
  by_cases g : goodB (mi l i).m = true
  · simp [g]
  · simp [g]
theorem kept_yes {l : List Mi} {i : Nat} (hi : i < l.length) (h : goodB (mi l i).m = true) : kept l (i + 1) = kept l i ++ [(mi l i).m] := by rw [kept_succ hi, if_pos h]
theorem kept_no {l : List Mi} {i : Nat} (hi : i < l.length) (h : goodB (mi l i).m = false) : kept l (i + 1) = kept l i := by rw [kept_succ hi, h]; simp
theorem kept_length (l : List Mi) (i : Nat) : (kept l i).length ≤ i := by
  unfold kept
  rw [List.length_map]
  exact Nat.le_trans (List.length_filter_le _ _) (by rw [List.length_take]; omega)
theorem kept_prefix (l : List Mi) (i : Nat) : ∃ T, kept l l.length = kept l i ++ T := by
  refine ⟨((l.drop i).filter (fun x => goodB x.m)).map Mi.m, ?_⟩
  unfold kept
  rw [← List.map_append, ← List.filter_append, List.take_append_drop, List.take_length]
theorem kept_mem {l : List Mi} {i : Nat} {m : List Rg} (hf : fewP l) (h : m ∈ kept l i) : m.length ≤ 20 ∧ rightB m = true ∧ rightB (inv m) = true := by
  unfold kept at h
  obtain ⟨x, hx, rfl⟩ := List.mem_map.1 h
  obtain ⟨hx, hg⟩ := List.mem_filter.1 hx
  have hx := List.mem_of_mem_take hx
  obtain ⟨k, hk, e⟩ := List.getElem_of_mem hx
  have := hf.2 k hk
  rw [show mi l k = x by simp [mi, List.getD, hk, e]] at this
  unfold goodB at hg
  simp only [Bool.and_eq_true] at hg
  exact ⟨this, hg.1, hg.2⟩
theorem kept_at {l : List Mi} {i : Nat} (hi : i < l.length) (h : goodB (mi l i).m = true) : (kept l l.length).getD (kept l i).length [] = (mi l i).m ∧ (kept l i).length < (kept l l.length).length := by
  obtain ⟨T, hT⟩ := kept_prefix l (i + 1)
  rw [hT, kept_yes hi h]
  simp [List.getD]
theorem mapN_getD (K : List (List Rg)) {j k : Nat} (hk : k < K.length) : (mapN K j).getD k [] = K.getD k [] := by
  simp [mapN, List.getD, List.getElem?_append_left hk]
theorem getD_mem {K : List (List Rg)} {k : Nat} (hk : k < K.length) : K.getD k [] ∈ K := by
  rw [show K.getD k [] = K[k] by simp [List.getD, hk]]
  exact List.getElem_mem hk
theorem back_ends {K : List (List Rg)} (hK : ∀ m ∈ K, rightB m = true ∧ rightB (inv m) = true) (pos side : Int) :
    goR (mapN K K.length) (mirN K.length K.length) side 0 ⟨pos, false, false⟩ = none ∨ goR (mapN K K.length) (mirN K.length K.length) side 0 ⟨pos, false, false⟩ = some ⟨pos, false, false⟩ := by
  have B := bk_of K
  refine back_goes B (fun k hk => ?_) (fun k hk => ?_) pos side (mapN K K.length).length 0 ⟨pos, false, false⟩ (by rw [B.len]; omega) rfl rfl ⟨0, fun _ => pos, Way.zero _ _ _, by omega, .inl rfl, rfl⟩
  · rw [mapN_getD K hk]; exact (hK _ (getD_mem hk)).1
  · rw [mapN_getD K hk]; exact (hK _ (getD_mem hk)).2
theorem mapN_mem {K : List (List Rg)} {j : Nat} {m : List Rg} (h : m ∈ mapN K j) : m ∈ K ∨ ∃ k ∈ K, m = inv k := by
  unfold mapN at h
  rcases List.mem_append.1 h with h | h
  · exact .inl h
  · obtain ⟨k, hk, e⟩ := List.mem_map.1 h
    exact .inr ⟨k, List.mem_reverse.1 (List.mem_of_mem_take hk), e.symm⟩
end Go.Proofs.Ytnffgomgfabapaa.Rt
