/- Walk of the expressions' Names. -/
import Derived.Test.YtnbchikiiipejaaDoorExRight
import Derived.Test.YtnbchikiiipejaaDoorStr
import Derived.Test.YtnbchikiiipejaaDoorMp
namespace Go.Proofs.YtnbchikiiipejaaDoor.Ex
open Go.RowKit Mem Lx
set_option linter.unusedVariables false

theorem info_str : (Tryd.prog.info? 9).map (fun i => (i.zero, i.size, i.bytes)) = some (some (.string ⟨#[]⟩), 1, 16) := by kernel_rfl
def bs (l : List (List UInt8)) : List ByteArray := l.map fun s => ⟨s.toArray⟩
theorem bs_len (l : List (List UInt8)) : (bs l).length = l.length := by simp [bs]
def addN (ns : List (List UInt8)) (p : PI) : List (List UInt8) := if p.kind = 1 ∧ p.name ∉ ns then ns ++ [p.name] else ns
/-- all names, each once -/
def namesI (e : List PI) : List (List UInt8) := e.foldl addN []
theorem names_snoc (e : List PI) (p : PI) : namesI (e ++ [p]) = addN (namesI e) p := by simp [namesI]
theorem names_nodup : ∀ (e : List PI) (ns : List (List UInt8)), ns.Nodup → (e.foldl addN ns).Nodup
  | [], ns, h => h
  | p :: e, ns, h => by
    refine names_nodup e _ ?_
    unfold addN
    split
    · rename_i hp
      rw [List.nodup_append]
      refine ⟨h, by simp, fun a ha b hb => ?_⟩
      simp at hb
      subst hb
      rintro rfl
      exact hp.2 ha
    · exact h
theorem names_len : ∀ (e : List PI) (ns : List (List UInt8)), (e.foldl addN ns).length ≤ ns.length + e.length
  | [], ns => by simp
  | p :: e, ns => by
    have h1 := names_len e (addN ns p)
    have h2 : (addN ns p).length ≤ ns.length + 1 := by unfold addN; split <;> simp
    simp at h1 ⊢; omega
theorem zero_bool (w : World) : (zeroValue 4).run Tryd.prog w = .ok (.bool false) w := by kernel_rfl
theorem mkmap (t : TypeId) (w : World) : (Instr.makeMap t none).run Tryd.prog w = .ok (.map (some w.heap.size)) (w.alloc (.map #[] 0)) := run_makeMap_plain w t
def seenOf (ns : List (List UInt8)) : List (List UInt8 × Value) := ns.map fun s => (s, .bool true)
theorem seen_keys (ns : List (List UInt8)) : (seenOf ns).map (·.1) = ns := by
  rw [seenOf, List.map_map]
  exact List.map_id ns
theorem seen_no {w : World} {B : Nat} {ns : List (List UInt8)} (h : MapIs w B sv (seenOf ns)) (x : List UInt8) (hx : x ∉ ns) :
    (Instr.lookup 78 (.map (some B)) (.string ⟨x.toArray⟩) false).run Tryd.prog w = .ok (.bool false) w :=
  (h.look_no (key_str Tryd.underlying9) Tryd.underlying78 (zero_bool w) x (by rwa [seen_keys])).1
theorem seen_yes {w : World} {B : Nat} {ns : List (List UInt8)} (h : MapIs w B sv (seenOf ns)) (hn : ns.Nodup) (x : List UInt8) (hx : x ∈ ns) :
    (Instr.lookup 78 (.map (some B)) (.string ⟨x.toArray⟩) false).run Tryd.prog w = .ok (.bool true) w :=
  (h.look_yes (key_str Tryd.underlying9) Tryd.underlying78 (by rwa [seen_keys]) x (.bool true) (List.mem_map.2 ⟨x, hx, rfl⟩)).1
set_option maxRecDepth 100000 in
set_option maxHeartbeats 4000000 in
theorem names_any (A : Option Addr) (n c : Nat) (e : List PI) (w : World) (h : PR w A n e) (hn : n ≤ 100000) :
    Calls Tryd.prog 18 #[.slice A n c] w fun en w' => ∃ A' c', en = .returned (.slice A' (namesI e).length c') ∧ SRow w' A' (namesI e).length (bs (namesI e)) ∧ Below w.heap.size w w' := by
  obtain ⟨i0, hi, hz, hs1, hs2⟩ := info_parts info_str
  have H := hide h
  have HL := Lib.hid h.1
  have hmm := mkmap 78
  have HM0 := Lib.hid (MapIs.new w sv)
  clear h
  go_enter Tryd.func18, Tryd.ntmps18
  go_wp2_with fail
  clear hmm
  go_loopw [3, 10] (fun v iv wr => ∃ (j : Nat) (A1 : Option Addr) (c1 : Nat) (ns : List (List UInt8)), v = .slice A1 ns.length c1 ∧ iv = .int .i64 j ∧ j ≤ n ∧ ns.length ≤ j ∧ Hid (ns = namesI (e.take j)) ∧ Hid (wr.ownsRow w.heap.size 9 1 (.slice A1 ns.length c1) ns.length ((bs ns).map Value.string)) ∧ Hid (MapIs wr w.heap.size sv (seenOf ns)) ∧ Hid (Below w.heap.size w wr)) (fun _ iv _ => n - (intOf iv).toNat)
  case atStart => exact ⟨0, none, 0, [], rfl, rfl, by omega, by simp, Lib.hid rfl, Lib.hid (World.ownsRow_nil _ _ _ _), HM0, Lib.hid ((Below.refl _ _).alloc (Nat.le_refl _) _)⟩
  case round =>
    obtain ⟨j, A1, c1, ns, rfl, rfl, hj, hnl, hNS, hO, hM, hB⟩ := hrel
    by_cases hlt : j < n
    · have j1 : j < e.length := by have := HL.out; omega
      obtain ⟨b, off, rfl, hb, hc⟩ := (H.out.below hB.out).2 (by omega)
      obtain ⟨a0, a1, a2, a3, kv, a4, ra⟩ := hc j j1
      have l1 : decide ((j : Int) < (n : Int)) = true := by simp; omega
      have l2 : decide (j < n) = true := by simp; omega
      have g0 : (j : Int) < (n : Int) := by omega
      have HT : Hid (namesI (e.take (j + 1)) = addN ns e[j]) := by
        show _ = _
        rw [List.take_add_one, List.getElem?_eq_getElem j1, hNS.out]
        exact names_snoc _ _
      generalize e[j] = p at a0 a1 a2 a3 ra HT
      obtain ⟨Ak, ck, rfl, hck, hrk⟩ := ra
      obtain ⟨kd, lo, hi1, nm, ks⟩ := p
      dsimp only at a0 a1 a2 a3 a4
      have hz2 := hB.out.size
      have HB1 : Hid (Below w.heap.size w (wr.alloc (.cells #[.int .i64 kd, .int .i64 lo, .int .i64 hi1, .string ⟨nm.toArray⟩, .slice Ak ks.length ck] 29))) := hB.out.alloc hz2 _
      have HO1 := Lib.hid (hO.out.alloc (.cells #[.int .i64 kd, .int .i64 lo, .int .i64 hi1, .string ⟨nm.toArray⟩, .slice Ak ks.length ck] 29))
      have HM1 : Hid (MapIs (wr.alloc (.cells #[.int .i64 kd, .int .i64 lo, .int .i64 hi1, .string ⟨nm.toArray⟩, .slice Ak ks.length ck] 29)) w.heap.size sv (seenOf ns)) := hM.out.kept (World.grownBy_alloc _ _ none) (by simp)
      have HP1 : Hid ((wr.alloc (.cells #[.int .i64 kd, .int .i64 lo, .int .i64 hi1, .string ⟨nm.toArray⟩, .slice Ak ks.length ck] 29)).heap[wr.heap.size]? = some (.cells #[.int .i64 kd, .int .i64 lo, .int .i64 hi1, .string ⟨nm.toArray⟩, .slice Ak ks.length ck] 29)) := World.alloc_heap_new _ _
      clear hc hck hrk
      by_cases hk : kd = 1
      · subst hk
        by_cases hin : nm ∈ ns
        · have HN : Hid (ns = namesI (e.take (j + 1))) := by show _ = _; rw [HT.out]; simp [addN, hin]
          have hlk := seen_yes HM1.out (by rw [hNS.out]; exact names_nodup _ _ (by simp)) nm hin
          clear hin
          go_wp2_with fail
          go_roundw
          case rel => exact ⟨j + 1, A1, c1, ns, rfl, by go_num, by omega, by omega, HN, HO1, HM1, HB1⟩
          case measure => simp [intOf]; omega
        · have HN : Hid (ns ++ [nm] = namesI (e.take (j + 1))) := by show _ = _; rw [HT.out]; simp [addN, hin]
          have hlk := seen_no HM1.out nm hin
          have HIN := Lib.hid hin
          clear hin
          go_upto_region 7 with fail
          clear hlk
          have hBlt := hM.out.lt
          have hz3 := HB1.out.size
          have hp1 : wr.heap.size < (wr.alloc (.cells #[.int .i64 1, .int .i64 lo, .int .i64 hi1, .string ⟨nm.toArray⟩, .slice Ak ks.length ck] 29)).heap.size := by simp
          generalize wr.alloc (.cells #[.int .i64 1, .int .i64 lo, .int .i64 hi1, .string ⟨nm.toArray⟩, .slice Ak ks.length ck] 29) = W1 at *
          have p0 : W1.cell? ⟨wr.heap.size, 3, none⟩ = some (.string ⟨nm.toArray⟩) := by have := HP1.out; simp [World.cell?, this]
          have HSN : Hid (seenOf ns ++ [(nm, .bool true)] = seenOf (ns ++ [nm])) := by show _ = _; simp [seenOf]
          have HNI : Hid (nm ∉ (seenOf ns).map (·.1)) := by show _; rw [seen_keys]; exact HIN.out
          have HBS : Hid (bs ns ++ [(⟨nm.toArray⟩ : ByteArray)] = bs (ns ++ [nm])) := by show _ = _; simp [bs]
          have HLEN : Hid ((ns ++ [nm]).length = ns.length + 1) := by show _ = _; simp
          go_wp2_with (first
            | (at_mapUpdate; (refine wpList_put_new rfl _ _ _ 78 9 4 rfl w.heap.size sv (seenOf ns) HM1.out (key_str Tryd.underlying9) Tryd.underlying78 nm (.bool true) rfl rfl rfl HNI.out ?_); intro w3 hm3 hg3; rw [HSN.out] at hm3; have HM3 := Lib.hid hm3; have HB3 : Hid (Below w.heap.size w w3) := HB1.out.grown hg3 hz3 (fun g hg => by injection hg with hg; omega); have HO3 := Lib.hid (World.ownsRow.kept HO1.out hg3 (.inr (Ne.symm (HM1.out.not_row HO1.out)))); have p1 : w3.cell? ⟨wr.heap.size, 3, none⟩ = some (.string ⟨nm.toArray⟩) := (by have h := (hg3.block wr.heap.size hp1 (by intro e; injection e with e; omega)).trans HP1.out; simp [World.cell?, h]); have hz4 := HB3.out.size; have HO4 := Lib.hid (World.ownsRow.alloc HO3.out (.cells #[.string ⟨nm.toArray⟩] 9 (0, 0))); have HC4 : Hid ((w3.alloc (.cells #[.string ⟨nm.toArray⟩] 9 (0, 0))).cell? ⟨w3.heap.size, 0, none⟩ = some (.string ⟨nm.toArray⟩)) := (by show _ = _; rw [World.cell?_alloc_mark]; rfl); have HM4 : Hid (MapIs (w3.alloc (.cells #[.string ⟨nm.toArray⟩] 9 (0, 0))) w.heap.size sv (seenOf (ns ++ [nm]))) := MapIs.kept HM3.out (World.grownBy_alloc _ _ none) (by simp); clear hm3 hg3)
            | (at_builtin; (refine wpList_app_str rfl (.tmp 27) (.tmp 30) _ rfl w.heap.size 9 i0 _ Tryd.underlying48 hi hz (by rfl) hs1 hs2 _ ns.length (bs ns) rfl HO4.out _ 1 ⟨nm.toArray⟩ rfl HC4.out (by omega) (by simp; omega) ?_); intro v' w5 hown hg5 hat; obtain ⟨A5, c5, hv5⟩ := own_form5 hown; subst hv5; have HO5 := Lib.hid hown; have HB5 : Hid (Below w.heap.size w w5) := (HB3.out.alloc hz4 _).grown hg5 (by simp; omega) (fun g hg => (World.ownsRow.lt HO4.out g hg).1); have HM5 := Lib.hid (MapIs.kept HM4.out hg5 (MapIs.not_row HM4.out HO4.out)); clear hown hg5 hat))
          rw [HBS.out] at HO5
          go_roundw
          case rel => exact ⟨j + 1, A5, c5, ns ++ [nm], by rw [HLEN.out], by go_num, by omega, by rw [HLEN.out]; omega, HN, by rw [HLEN.out]; exact HO5, HM5, HB5⟩
          case measure => simp [intOf]; omega
      · have t1 : (kd == 1) = false := by simpa using hk
        have HN : Hid (ns = namesI (e.take (j + 1))) := by show _ = _; rw [HT.out]; simp [addN, hk]
        clear hk
        go_wp2_with fail
        go_roundw
        case rel => exact ⟨j + 1, A1, c1, ns, rfl, by go_num, by omega, by omega, HN, HO1, HM1, HB1⟩
        case measure => simp [intOf]; omega
    · obtain rfl : j = n := by omega
      have l1 : decide ((j : Int) < (j : Int)) = false := by simp
      have HX : Hid (ns = namesI e) := by
        show _ = _
        have h1 := hNS.out
        rwa [List.take_of_length_le (by have := HL.out; omega)] at h1
      obtain ⟨A2, c2, hv, _, hS⟩ := SRow.of_own hO.out
      simp only [Value.slice.injEq] at hv
      obtain ⟨rfl, -, rfl⟩ := hv
      have HS := Lib.hid hS
      clear hlt hS
      go_wp2_with fail
      go_ret
      exact ⟨A1, c1, by rw [← HX.out]; rfl, by rw [← HX.out]; exact HS.out, hB.out⟩
end Go.Proofs.YtnbchikiiipejaaDoor.Ex
