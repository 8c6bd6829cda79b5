/- Diffs: how many tokens are kept. -/
import Derived.Test.YthbodpdjjihcaaaPpMem
import Derived.Lib.Hide
import Derived.Maps.Range
import Derived.Maps.RangeWalk
namespace Go.Proofs.Ythbodpdjjihcaaa.Df
open Go.RowKit Mem Pp
set_option linter.unusedVariables false
set_option linter.unusedSimpArgs false
def ptN (x : Pt) : Int := if x.o = true ∧ x.f < x.t then x.t - x.f else 0
def keptN : List Pt → Int
  | [] => 0
  | x :: l => ptN x + keptN l
theorem keptN_append (a b : List Pt) : keptN (a ++ b) = keptN a + keptN b := by
  induction a with
  | nil => simp [keptN]
  | cons x a ih => simp only [List.cons_append, keptN, ih]; omega
def ptOk (x : Pt) : Prop := (-1000000 < x.f ∧ x.f < 1000000) ∧ (-1000000 < x.t ∧ x.t < 1000000)
theorem ptN_bound {x : Pt} (h : ptOk x) : 0 ≤ ptN x ∧ ptN x ≤ 2000000 := by
  obtain ⟨⟨a, b⟩, c, d⟩ := h
  unfold ptN
  split <;> omega
theorem keptN_bound {l : List Pt} (h : ∀ x ∈ l, ptOk x) : 0 ≤ keptN l ∧ keptN l ≤ l.length * 2000000 := by
  induction l with
  | nil => simp [keptN]
  | cons x l ih =>
    have h1 := ptN_bound (h x (by simp))
    have h2 := ih (fun y hy => h y (by simp [hy]))
    simp only [keptN, List.length_cons]
    push_cast
    omega
theorem wrap_small {x : Int} (h0 : -1000000000000 ≤ x) (h1 : x ≤ 1000000000000) : wrap64 x = x := by unfold wrap64; omega
set_option maxRecDepth 100000 in
set_option maxHeartbeats 4000000 in
theorem kept_any (l : List Pt) (A : Option Addr) (n c : Nat) (w : World) (hn : n ≤ 1000) (hr : PRow w A n l) (hb : ∀ x ∈ l, ptOk x) :
    Calls Try.prog 38 #[.slice A n c] w fun e w' => e = .returned (.int .i64 (keptN l)) ∧ Below w.heap.size w w' := by
  have hnl := hr.1
  have HR := Lib.hid hr
  have HO := Lib.hid hb
  clear hr hb
  go_enter Try.func38, Try.ntmps38
  go_wp2_with fail
  go_loopw [3, 8] (fun cv iv wr => ∃ i : Nat, iv = .int .i64 i ∧ i ≤ n ∧ cv = .int .i64 (keptN (l.take i)) ∧ Hid (Below w.heap.size w wr)) (fun _ iv _ => n - (intOf iv).toNat)
  case atStart => exact ⟨0, rfl, by omega, rfl, Lib.hid (Below.refl _ _)⟩
  case round =>
    obtain ⟨i, rfl, hi, rfl, HB⟩ := hrel
    have hbd := keptN_bound (l := l.take i) (fun x hx => HO.out x (List.mem_of_mem_take hx))
    have hbd0 := hbd.1
    have hbd1 : keptN (l.take i) ≤ 2000000000 := by
      have h2 := hbd.2
      have h3 : (l.take i).length ≤ 1000 := by rw [List.length_take]; omega
      omega
    clear hbd
    by_cases h1 : (i : Int) < (n : Int)
    · obtain ⟨b, off, rfl, hbs, hc⟩ := (HR.out.below HB.out).2 (by omega)
      have hil : i < l.length := by omega
      obtain ⟨c0, c1, c2, c3⟩ := (hc i hil).cells
      have hok := HO.out l[i] (List.getElem_mem hil)
      have hTS : keptN (l.take (i + 1)) = keptN (l.take i) + ptN l[i] := by
        rw [List.take_succ_eq_append_getElem hil, keptN_append]
        simp [keptN]
      have i1 : (0 : Int) ≤ (i : Int) := by omega
      have hws := HB.out.size
      clear hc
      generalize hx : l[i] = x at *
      clear hx
      obtain ⟨xo, xf, xt, xA, xn, xc⟩ := x
      simp only at c0 c1 c2 c3
      obtain ⟨⟨b1, b2⟩, b3, b4⟩ := hok
      simp only at b1 b2 b3 b4
      generalize keptN (l.take i) = z at *
      generalize hz' : keptN (l.take (i + 1)) = z' at *
      have hz' := Lib.hid hz'
      have HB2 := Lib.hid (HB.out.alloc hws (.cells #[.bool xo, .int .i64 xf, .int .i64 xt, .slice xA xn xc] 75))
      have hwi : wrap64 ((i : Int) + 1) = (i : Int) + 1 := wrap_small (by omega) (by omega)
      cases xo with
      | false =>
        have hz : Hid (z' = z) := Lib.hid (by rw [hTS]; unfold ptN; simp)
        clear hTS hbd0 hbd1 b1 b2 b3 b4 HR HO hil
        go_wp2_with fail
        exact ⟨⟨i + 1, by push_cast; rfl, by omega, by rw [hz'.out, hz.out], HB2⟩, by simp only [intOf]; omega⟩
      | true =>
        by_cases hlt : xf < xt
        · have hz : Hid (z' = z + (xt - xf)) := Lib.hid (by rw [hTS]; unfold ptN; simp [hlt])
          have hw1 : wrap64 (xt - xf) = xt - xf := wrap_small (by omega) (by omega)
          have hw2 : wrap64 (z + (xt - xf)) = z + (xt - xf) := wrap_small (by omega) (by omega)
          clear hTS hbd0 hbd1 b1 b2 b3 b4 HR HO hil
          go_wp2_with fail
          exact ⟨⟨i + 1, by push_cast; rfl, by omega, by rw [hz'.out, hz.out, hw2], HB2⟩, by simp only [intOf]; omega⟩
        · have hz : Hid (z' = z) := Lib.hid (by rw [hTS]; unfold ptN; simp [hlt])
          clear hTS hbd0 hbd1 b1 b2 b3 b4 HR HO hil
          go_wp2_with fail
          exact ⟨⟨i + 1, by push_cast; rfl, by omega, by rw [hz'.out, hz.out], HB2⟩, by simp only [intOf]; omega⟩
    · have hin : i = n := by omega
      have hl : l.take i = l := List.take_of_length_le (by omega)
      rw [hl]
      go_wp2
      go_ret
      exact ⟨rfl, HB.out⟩
end Go.Proofs.Ythbodpdjjihcaaa.Df
