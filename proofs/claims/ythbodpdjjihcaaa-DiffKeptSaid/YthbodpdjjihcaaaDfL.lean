/- Diffs: how many tokens the old parts of any parts have is as the document says. -/
import Derived.Test.YthbodpdjjihcaaaDfK
import Derived.Test.YthbodpdjjihcaaaDfO
import Derived.Test.YthbodpdjjihcaaaDfV
namespace Go.Proofs.Ythbodpdjjihcaaa.Df
open Go.RowKit Mem Pp
set_option linter.unusedVariables false
set_option linter.unusedSimpArgs false
def isOld (o : List Bool) (i : Nat) : Bool := decide (o.length ≤ i) || o.getD i false
def ptOf (z : Int × Int) (b : Bool) : Pt := ⟨b, z.1.tmod 1000000, z.2.tmod 1000000, none, 0, 0⟩
def psOf (l : List (Int × Int)) (o : List Bool) : Nat → List Pt
  | 0 => []
  | i + 1 => psOf l o i ++ [ptOf (l.getD i (0, 0)) (isOld o i)]
theorem psOf_length (l : List (Int × Int)) (o : List Bool) (i : Nat) : (psOf l o i).length = i := by
  induction i with
  | zero => rfl
  | succ i ih => simp [psOf, ih]
theorem tmod_small (x : Int) : -1000000 < x.tmod 1000000 ∧ x.tmod 1000000 < 1000000 := by
  have h1 := Int.tmod_lt_of_pos x (show (0 : Int) < 1000000 by omega)
  have h2 : -1000000 < x.tmod 1000000 := by
    have := Int.tmod_lt_of_pos (-x) (show (0 : Int) < 1000000 by omega)
    rw [Int.neg_tmod] at this
    omega
  exact ⟨h2, h1⟩
theorem ptOf_ok (z : Int × Int) (b : Bool) : ptOk (ptOf z b) := ⟨tmod_small _, tmod_small _⟩
theorem psOf_ok (l : List (Int × Int)) (o : List Bool) (i : Nat) : ∀ x ∈ psOf l o i, ptOk x := by
  induction i with
  | zero => intro x hx; simp [psOf] at hx
  | succ i ih =>
    intro x hx
    simp only [psOf, List.mem_append, List.mem_singleton] at hx
    rcases hx with h | rfl
    · exact ih x h
    · exact ptOf_ok _ _
theorem part_lit (w : World) (x : Pt) : PRow (w.alloc (.cells #[.bool x.o, .int .i64 x.f, .int .i64 x.t, .slice x.A x.n x.c] 75)) (some ⟨w.heap.size, 0, none⟩) 1 [x] := by
  refine ⟨rfl, fun _ => ⟨w.heap.size, 0, rfl, by simp, fun j hj v u hv => ?_⟩⟩
  have hj0 : j = 0 := by simpa using hj
  subst hj0
  have hc := heap_alloc_new w (.cells #[.bool x.o, .int .i64 x.f, .int .i64 x.t, .slice x.A x.n x.c] 75)
  have hv2 : (pcells x)[v]? = some u := hv
  show World.cell? _ ⟨w.heap.size, 0 + 0 * 4 + v, none⟩ = some u
  simp only [Nat.zero_add, Nat.zero_mul]
  unfold World.cell?
  simp only [hc]
  simpa [pcells] using hv2
set_option maxRecDepth 100000 in
set_option maxHeartbeats 4000000 in
theorem kept_walk (a0 : Option Addr) (len0 cap0 : Nat) (l : List (Int × Int)) (a1 : Option Addr) (len1 cap1 : Nat) (o : List Bool) (w : World) (h0 : IRow w a0 len0 l) (hn0 : len0 ≤ maxLen) (h1 : BRow w a1 len1 o) (hn1 : len1 ≤ maxLen) :
    Calls Try.prog 7 #[.slice a0 len0 cap0, .slice a1 len1 cap1] w fun e w' => e = .returned (.bool true) ∧ Below w.heap.size w w' := by
  have hol := h1.1
  have HR := Lib.hid h0
  have HO := Lib.hid h1
  have hm0 : len0 ≤ 9223372036854775807 := by unfold maxLen at hn0; omega
  have hm1 : len1 ≤ 9223372036854775807 := by unfold maxLen at hn1; omega
  clear h0 h1 hn0 hn1
  have HISO : Hid (∀ i, isOld o i = (decide (len1 ≤ i) || o.getD i false)) := Lib.hid (fun i => by unfold isOld; rw [hol])
  have HISY : Hid (∀ i : Nat, (len1 : Int) ≤ (i : Int) → isOld o i = true) := Lib.hid (fun i h => by rw [HISO.out, decide_eq_true (by omega : len1 ≤ i)]; rfl)
  have HISN : Hid (∀ i : Nat, ¬ (len1 : Int) ≤ (i : Int) → isOld o i = o.getD i false) := Lib.hid (fun i h => by rw [HISO.out, decide_eq_false (by omega : ¬ len1 ≤ i)]; rfl)
  clear hol HISO
  go_enter Try.func7, Try.ntmps7
  go_wp2_with fail
  go_loopw [5, 6, 7] (fun pv nv iv wr => ∃ i : Nat, iv = .int .i64 i ∧ i ≤ len0 ∧ i ≤ 50 ∧ nv = .int .i64 (keptN (psOf l o i)) ∧ Hid (Pts w.heap.size wr pv (psOf l o i)) ∧ Hid (Below w.heap.size w wr)) (fun _ _ iv _ => 50 - (intOf iv).toNat)
  case atStart => exact ⟨0, rfl, by omega, by omega, rfl, Lib.hid Pts.nil, Lib.hid (Below.refl _ _)⟩
  case round =>
    obtain ⟨i, rfl, hi, hi50, rfl, HP, HB⟩ := hrel
    obtain ⟨z, hz⟩ : ∃ z, z = keptN (psOf l o i) := ⟨_, rfl⟩
    have hbd := keptN_bound (psOf_ok l o i)
    rw [psOf_length, ← hz] at hbd
    have hbd0 := hbd.1
    have hbd1 : z ≤ 2000000000 := by omega
    have HZ := Lib.hid hz
    rw [← hz]
    clear hz hbd
    by_cases hl1 : (i : Int) < (len0 : Int)
    · by_cases hl2 : (i : Int) < 50
      · obtain ⟨b, off, rfl, hbs, hc⟩ := (HR.out.below HB.out).2 (by omega)
        obtain ⟨c0, c1⟩ := hc i (by omega)
        have hsm0 := tmod_small (l.getD i (0, 0)).1
        have hsm1 := tmod_small (l.getD i (0, 0)).2
        have HPS : Hid (psOf l o (i + 1) = psOf l o i ++ [ptOf (l.getD i (0, 0)) (isOld o i)]) := Lib.hid rfl
        obtain ⟨zz, hzz⟩ : ∃ z, z = l.getD i (0, 0) := ⟨_, rfl⟩
        rw [← hzz] at HPS c0 c1 hsm0 hsm1
        clear hzz hc
        obtain ⟨z0, z1⟩ := zz
        simp only at c0 c1 hsm0 hsm1
        unfold ptOf at HPS
        simp only at HPS
        obtain ⟨f, hf⟩ : ∃ f, z0.tmod 1000000 = f := ⟨_, rfl⟩
        obtain ⟨t, ht⟩ : ∃ t, z1.tmod 1000000 = t := ⟨_, rfl⟩
        rw [hf] at hsm0 HPS
        rw [ht] at hsm1 HPS
        have HF := Lib.hid hf
        have HT := Lib.hid ht
        clear hf ht
        have i1 : (0 : Int) ≤ (i : Int) := by omega
        have hwi : wrap64 ((i : Int) + 1) = (i : Int) + 1 := wrap_small (by omega) (by omega)
        have hw0 : wrap64 (z + t) = z + t := wrap_small (by omega) (by omega)
        have hw1 : wrap64 (z + t - f) = z + t - f := wrap_small (by omega) (by omega)
        have hws := HB.out.size
        by_cases hg : (len1 : Int) ≤ (i : Int)
        · have HIS : Hid (isOld o i = true) := Lib.hid (HISY.out i hg)
          by_cases hlt : f < t
          · have HP1 : Hid (psOf l o (i + 1) = psOf l o i ++ [⟨true, f, t, none, 0, 0⟩]) := Lib.hid (by rw [HPS.out, HIS.out])
            have HK1 : Hid (keptN (psOf l o (i + 1)) = z + t - f) := Lib.hid (by
              rw [HP1.out, keptN_append, ← HZ.out]
              have e : ptN ⟨true, f, t, none, 0, 0⟩ = t - f := by unfold ptN; exact if_pos ⟨rfl, hlt⟩
              simp only [keptN, e]; omega)
            have HPA := Lib.hid (HP.out.alloc (.cells #[.bool true, .int .i64 f, .int .i64 t, .slice none 0 0] 75))
            have HPL := Lib.hid (part_lit wr ⟨true, f, t, none, 0, 0⟩)
            have hba : Below wr.heap.size wr (wr.alloc (.cells #[.bool true, .int .i64 f, .int .i64 t, .slice none 0 0] 75)) := (Below.refl _ _).alloc (Nat.le_refl _) _
            have HBA := Lib.hid (HB.out.trans (hba.mono HB.out.size))
            have hsa : (wr.alloc (.cells #[.bool true, .int .i64 f, .int .i64 t, .slice none 0 0] 75)).heap.size = wr.heap.size + 1 := by simp
            have hown0 : ∀ q, u5.ownBlock = some q → w.heap.size ≤ q := fun q e => (HP.out.block q e).1
            have hpl : (psOf l o i).length = i := psOf_length l o i
            clear HP hba HR HO HPS HIS HZ hbd0 hbd1 hsm0 hsm1
            have hf := HF.out
            have ht := HT.out
            clear HF HT
            go_wp2_with (at_builtin; (clear hf ht; refine wpList_app_pt rfl (.tmp 43) (.tmp 48) rfl w.heap.size _ (psOf l o i) rfl HPA.out (some ⟨wr.heap.size, 0, none⟩) 1 1 [⟨true, f, t, none, 0, 0⟩] rfl HPL.out (by omega) (by omega) ?_); intro v' w2 hown' hg' hat)
            have HB2 := Lib.hid (grown_low HBA.out HBA.out.size hg' (fun q e => by have := hown0 q e; omega))
            have HT2 := Lib.hid (show Pts w.heap.size w2 v' (psOf l o (i + 1)) by rw [HP1.out]; exact hown')
            clear hown' hg' hat HPA HPL HBA hsa hown0 hpl HB
            skip
            exact ⟨⟨i + 1, by push_cast; rfl, by omega, by omega, by rw [HK1.out, hw1], HT2, HB2⟩, by simp only [intOf]; omega⟩
          · have HP1 : Hid (psOf l o (i + 1) = psOf l o i ++ [⟨true, f, t, none, 0, 0⟩]) := Lib.hid (by rw [HPS.out, HIS.out])
            have HK1 : Hid (keptN (psOf l o (i + 1)) = z) := Lib.hid (by
              rw [HP1.out, keptN_append, ← HZ.out]
              have e : ptN ⟨true, f, t, none, 0, 0⟩ = 0 := by unfold ptN; exact if_neg (fun g => hlt g.2)
              simp only [keptN, e]; omega)
            have HPA := Lib.hid (HP.out.alloc (.cells #[.bool true, .int .i64 f, .int .i64 t, .slice none 0 0] 75))
            have HPL := Lib.hid (part_lit wr ⟨true, f, t, none, 0, 0⟩)
            have hba : Below wr.heap.size wr (wr.alloc (.cells #[.bool true, .int .i64 f, .int .i64 t, .slice none 0 0] 75)) := (Below.refl _ _).alloc (Nat.le_refl _) _
            have HBA := Lib.hid (HB.out.trans (hba.mono HB.out.size))
            have hsa : (wr.alloc (.cells #[.bool true, .int .i64 f, .int .i64 t, .slice none 0 0] 75)).heap.size = wr.heap.size + 1 := by simp
            have hown0 : ∀ q, u5.ownBlock = some q → w.heap.size ≤ q := fun q e => (HP.out.block q e).1
            have hpl : (psOf l o i).length = i := psOf_length l o i
            clear HP hba HR HO HPS HIS HZ hbd0 hbd1 hsm0 hsm1
            have hf := HF.out
            have ht := HT.out
            clear HF HT
            go_wp2_with (at_builtin; (clear hf ht; refine wpList_app_pt rfl (.tmp 43) (.tmp 48) rfl w.heap.size _ (psOf l o i) rfl HPA.out (some ⟨wr.heap.size, 0, none⟩) 1 1 [⟨true, f, t, none, 0, 0⟩] rfl HPL.out (by omega) (by omega) ?_); intro v' w2 hown' hg' hat)
            have HB2 := Lib.hid (grown_low HBA.out HBA.out.size hg' (fun q e => by have := hown0 q e; omega))
            have HT2 := Lib.hid (show Pts w.heap.size w2 v' (psOf l o (i + 1)) by rw [HP1.out]; exact hown')
            clear hown' hg' hat HPA HPL HBA hsa hown0 hpl HB
            skip
            exact ⟨⟨i + 1, by push_cast; rfl, by omega, by omega, by rw [HK1.out], HT2, HB2⟩, by simp only [intOf]; omega⟩
        · obtain ⟨b', off', rfl, hbs', hc'⟩ := (HO.out.below HB.out).2 (by omega)
          have d0 := hc' i (by omega)
          have HIS0 : Hid (isOld o i = o.getD i false) := Lib.hid (HISN.out i (by first | exact hg | exact Int.not_le.1 hg | omega))
          obtain ⟨s, hs⟩ : ∃ s, s = o.getD i false := ⟨_, rfl⟩
          rw [← hs] at HIS0 d0
          clear hs hc' hbs'
          cases s with
          | false =>
            have HIS := HIS0
            clear HIS0
            have HP1 : Hid (psOf l o (i + 1) = psOf l o i ++ [⟨false, f, t, none, 0, 0⟩]) := Lib.hid (by rw [HPS.out, HIS.out])
            have HK1 : Hid (keptN (psOf l o (i + 1)) = z) := Lib.hid (by
              rw [HP1.out, keptN_append, ← HZ.out]
              have e : ptN ⟨false, f, t, none, 0, 0⟩ = 0 := by unfold ptN; exact if_neg (fun g => by simp at g)
              simp only [keptN, e]; omega)
            have HPA := Lib.hid (HP.out.alloc (.cells #[.bool false, .int .i64 f, .int .i64 t, .slice none 0 0] 75))
            have HPL := Lib.hid (part_lit wr ⟨false, f, t, none, 0, 0⟩)
            have hba : Below wr.heap.size wr (wr.alloc (.cells #[.bool false, .int .i64 f, .int .i64 t, .slice none 0 0] 75)) := (Below.refl _ _).alloc (Nat.le_refl _) _
            have HBA := Lib.hid (HB.out.trans (hba.mono HB.out.size))
            have hsa : (wr.alloc (.cells #[.bool false, .int .i64 f, .int .i64 t, .slice none 0 0] 75)).heap.size = wr.heap.size + 1 := by simp
            have hown0 : ∀ q, u5.ownBlock = some q → w.heap.size ≤ q := fun q e => (HP.out.block q e).1
            have hpl : (psOf l o i).length = i := psOf_length l o i
            clear HP hba HR HO HPS HIS HZ hbd0 hbd1 hsm0 hsm1
            have hf := HF.out
            have ht := HT.out
            clear HF HT
            go_wp2_with (at_builtin; (clear hf ht; refine wpList_app_pt rfl (.tmp 43) (.tmp 48) rfl w.heap.size _ (psOf l o i) rfl HPA.out (some ⟨wr.heap.size, 0, none⟩) 1 1 [⟨false, f, t, none, 0, 0⟩] rfl HPL.out (by omega) (by omega) ?_); intro v' w2 hown' hg' hat)
            have HB2 := Lib.hid (grown_low HBA.out HBA.out.size hg' (fun q e => by have := hown0 q e; omega))
            have HT2 := Lib.hid (show Pts w.heap.size w2 v' (psOf l o (i + 1)) by rw [HP1.out]; exact hown')
            clear hown' hg' hat HPA HPL HBA hsa hown0 hpl HB
            skip
            exact ⟨⟨i + 1, by push_cast; rfl, by omega, by omega, by rw [HK1.out], HT2, HB2⟩, by simp only [intOf]; omega⟩
          | true =>
            have HIS := HIS0
            clear HIS0
            by_cases hlt : f < t
            · have HP1 : Hid (psOf l o (i + 1) = psOf l o i ++ [⟨true, f, t, none, 0, 0⟩]) := Lib.hid (by rw [HPS.out, HIS.out])
              have HK1 : Hid (keptN (psOf l o (i + 1)) = z + t - f) := Lib.hid (by
                rw [HP1.out, keptN_append, ← HZ.out]
                have e : ptN ⟨true, f, t, none, 0, 0⟩ = t - f := by unfold ptN; exact if_pos ⟨rfl, hlt⟩
                simp only [keptN, e]; omega)
              have HPA := Lib.hid (HP.out.alloc (.cells #[.bool true, .int .i64 f, .int .i64 t, .slice none 0 0] 75))
              have HPL := Lib.hid (part_lit wr ⟨true, f, t, none, 0, 0⟩)
              have hba : Below wr.heap.size wr (wr.alloc (.cells #[.bool true, .int .i64 f, .int .i64 t, .slice none 0 0] 75)) := (Below.refl _ _).alloc (Nat.le_refl _) _
              have HBA := Lib.hid (HB.out.trans (hba.mono HB.out.size))
              have hsa : (wr.alloc (.cells #[.bool true, .int .i64 f, .int .i64 t, .slice none 0 0] 75)).heap.size = wr.heap.size + 1 := by simp
              have hown0 : ∀ q, u5.ownBlock = some q → w.heap.size ≤ q := fun q e => (HP.out.block q e).1
              have hpl : (psOf l o i).length = i := psOf_length l o i
              clear HP hba HR HO HPS HIS HZ hbd0 hbd1 hsm0 hsm1
              have hf := HF.out
              have ht := HT.out
              clear HF HT
              go_wp2_with (at_builtin; (clear hf ht; refine wpList_app_pt rfl (.tmp 43) (.tmp 48) rfl w.heap.size _ (psOf l o i) rfl HPA.out (some ⟨wr.heap.size, 0, none⟩) 1 1 [⟨true, f, t, none, 0, 0⟩] rfl HPL.out (by omega) (by omega) ?_); intro v' w2 hown' hg' hat)
              have HB2 := Lib.hid (grown_low HBA.out HBA.out.size hg' (fun q e => by have := hown0 q e; omega))
              have HT2 := Lib.hid (show Pts w.heap.size w2 v' (psOf l o (i + 1)) by rw [HP1.out]; exact hown')
              clear hown' hg' hat HPA HPL HBA hsa hown0 hpl HB
              skip
              exact ⟨⟨i + 1, by push_cast; rfl, by omega, by omega, by rw [HK1.out, hw1], HT2, HB2⟩, by simp only [intOf]; omega⟩
            · have HP1 : Hid (psOf l o (i + 1) = psOf l o i ++ [⟨true, f, t, none, 0, 0⟩]) := Lib.hid (by rw [HPS.out, HIS.out])
              have HK1 : Hid (keptN (psOf l o (i + 1)) = z) := Lib.hid (by
                rw [HP1.out, keptN_append, ← HZ.out]
                have e : ptN ⟨true, f, t, none, 0, 0⟩ = 0 := by unfold ptN; exact if_neg (fun g => hlt g.2)
                simp only [keptN, e]; omega)
              have HPA := Lib.hid (HP.out.alloc (.cells #[.bool true, .int .i64 f, .int .i64 t, .slice none 0 0] 75))
              have HPL := Lib.hid (part_lit wr ⟨true, f, t, none, 0, 0⟩)
              have hba : Below wr.heap.size wr (wr.alloc (.cells #[.bool true, .int .i64 f, .int .i64 t, .slice none 0 0] 75)) := (Below.refl _ _).alloc (Nat.le_refl _) _
              have HBA := Lib.hid (HB.out.trans (hba.mono HB.out.size))
              have hsa : (wr.alloc (.cells #[.bool true, .int .i64 f, .int .i64 t, .slice none 0 0] 75)).heap.size = wr.heap.size + 1 := by simp
              have hown0 : ∀ q, u5.ownBlock = some q → w.heap.size ≤ q := fun q e => (HP.out.block q e).1
              have hpl : (psOf l o i).length = i := psOf_length l o i
              clear HP hba HR HO HPS HIS HZ hbd0 hbd1 hsm0 hsm1
              have hf := HF.out
              have ht := HT.out
              clear HF HT
              go_wp2_with (at_builtin; (clear hf ht; refine wpList_app_pt rfl (.tmp 43) (.tmp 48) rfl w.heap.size _ (psOf l o i) rfl HPA.out (some ⟨wr.heap.size, 0, none⟩) 1 1 [⟨true, f, t, none, 0, 0⟩] rfl HPL.out (by omega) (by omega) ?_); intro v' w2 hown' hg' hat)
              have HB2 := Lib.hid (grown_low HBA.out HBA.out.size hg' (fun q e => by have := hown0 q e; omega))
              have HT2 := Lib.hid (show Pts w.heap.size w2 v' (psOf l o (i + 1)) by rw [HP1.out]; exact hown')
              clear hown' hg' hat HPA HPL HBA hsa hown0 hpl HB
              skip
              exact ⟨⟨i + 1, by push_cast; rfl, by omega, by omega, by rw [HK1.out], HT2, HB2⟩, by simp only [intOf]; omega⟩
      · have HB9 := HB
        obtain ⟨A, c, rfl, hc, hr⟩ := HP.out.row
        have HPR := Lib.hid (show PRow wr A (psOf l o i).length (psOf l o i) from hr)
        have hpl : (psOf l o i).length = i := psOf_length l o i
        have CK := kept_any (psOf l o i) A i c wr (by omega) (by have := HPR.out; rwa [hpl] at this) (psOf_ok l o i)
        rw [← HZ.out] at CK
        rw [hpl]
        clear hr HP HPR hpl HR HO hbd0 hbd1 HZ hc
        go_wp2_with fail
        refine CK.mono ?_
        rintro e w1 ⟨rfl, hb1⟩
        have HB1 := Lib.hid (HB.out.trans (hb1.mono HB.out.size))
        clear hb1 HB HB9 CK
        go_wp2_with fail
        refine (live_any w1).mono ?_
        rintro e w2 ⟨rfl, hb2⟩
        have HB2 := Lib.hid (HB1.out.trans (hb2.mono HB1.out.size))
        clear hb2 HB1
        go_wp2
        go_ret
        exact ⟨rfl, HB2.out⟩
    · have HB9 := HB
      obtain ⟨A, c, rfl, hc, hr⟩ := HP.out.row
      have HPR := Lib.hid (show PRow wr A (psOf l o i).length (psOf l o i) from hr)
      have hpl : (psOf l o i).length = i := psOf_length l o i
      have CK := kept_any (psOf l o i) A i c wr (by omega) (by have := HPR.out; rwa [hpl] at this) (psOf_ok l o i)
      rw [← HZ.out] at CK
      rw [hpl]
      clear hr HP HPR hpl HR HO hbd0 hbd1 HZ hc
      go_wp2_with fail
      refine CK.mono ?_
      rintro e w1 ⟨rfl, hb1⟩
      have HB1 := Lib.hid (HB.out.trans (hb1.mono HB.out.size))
      clear hb1 HB HB9 CK
      go_wp2_with fail
      refine (live_any w1).mono ?_
      rintro e w2 ⟨rfl, hb2⟩
      have HB2 := Lib.hid (HB1.out.trans (hb2.mono HB1.out.size))
      clear hb2 HB1
      go_wp2
      go_ret
      exact ⟨rfl, HB2.out⟩
end Go.Proofs.Ythbodpdjjihcaaa.Df
