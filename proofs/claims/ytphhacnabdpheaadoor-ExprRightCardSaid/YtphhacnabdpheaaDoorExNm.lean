/- Walks of the expressions' Names and Same, of rows of strings held side by side. -/
import Derived.Test.YtphhacnabdpheaaDoorExRight
import Derived.Test.YtphhacnabdpheaaDoorStr
import Derived.Test.YtphhacnabdpheaaDoorMp
namespace Go.Proofs.YtphhacnabdpheaaDoor.Ex
open Go.RowKit Mem Lx
set_option linter.unusedVariables false

theorem info_str : (Tryd.prog.info? 9).map (fun i => (i.zero, i.size, i.bytes)) = some (some (.string ⟨#[]⟩), 1, 16) := by kernel_rfl
def bs (l : List (List UInt8)) : List ByteArray := l.map fun s => ⟨s.toArray⟩
theorem bs_len (l : List (List UInt8)) : (bs l).length = l.length := by simp [bs]
def addN (ns : List (List UInt8)) (p : PI) : List (List UInt8) := if p.kind = 1 ∧ p.name ∉ ns then ns ++ [p.name] else ns
/-- all names, each once -/
def namesI (e : List PI) : List (List UInt8) := e.foldl addN []
theorem names_snoc (e : List PI) (p : PI) : namesI (e ++ [p]) = addN (namesI e) p := by simp [namesI]
theorem names_nodup : ∀ (e : List PI) (ns : List (List UInt8)), ns.Nodup → (e.foldl addN ns).Nodup
  | [], ns, h => h
  | p :: e, ns, h => by
    refine names_nodup e _ ?_
    unfold addN
    split
    · rename_i hp
      rw [List.nodup_append]
      refine ⟨h, by simp, fun a ha b hb => ?_⟩
      simp at hb
      subst hb
      rintro rfl
      exact hp.2 ha
    · exact h
theorem names_len : ∀ (e : List PI) (ns : List (List UInt8)), (e.foldl addN ns).length ≤ ns.length + e.length
  | [], ns => by simp
  | p :: e, ns => by
    have h1 := names_len e (addN ns p)
    have h2 : (addN ns p).length ≤ ns.length + 1 := by unfold addN; split <;> simp
    simp at h1 ⊢; omega
theorem zero_bool (w : World) : (zeroValue 4).run Tryd.prog w = .ok (.bool false) w := by kernel_rfl
theorem mkmap (t : TypeId) (w : World) : (Instr.makeMap t none).run Tryd.prog w = .ok (.map (some w.heap.size)) (w.alloc (.map #[] 0)) := run_makeMap_plain w t
def seenOf (ns : List (List UInt8)) : List (List UInt8 × Value) := ns.map fun s => (s, .bool true)
theorem seen_keys (ns : List (List UInt8)) : (seenOf ns).map (·.1) = ns := by
  rw [seenOf, List.map_map]
  exact List.map_id ns
theorem seen_no {w : World} {B : Nat} {ns : List (List UInt8)} (h : MapIs w B sv (seenOf ns)) (x : List UInt8) (hx : x ∉ ns) :
    (Instr.lookup 82 (.map (some B)) (.string ⟨x.toArray⟩) false).run Tryd.prog w = .ok (.bool false) w :=
  (h.look_no (key_str Tryd.underlying9) Tryd.underlying82 (zero_bool w) x (by rwa [seen_keys])).1
theorem seen_yes {w : World} {B : Nat} {ns : List (List UInt8)} (h : MapIs w B sv (seenOf ns)) (hn : ns.Nodup) (x : List UInt8) (hx : x ∈ ns) :
    (Instr.lookup 82 (.map (some B)) (.string ⟨x.toArray⟩) false).run Tryd.prog w = .ok (.bool true) w :=
  (h.look_yes (key_str Tryd.underlying9) Tryd.underlying82 (by rwa [seen_keys]) x (.bool true) (List.mem_map.2 ⟨x, hx, rfl⟩)).1
set_option maxRecDepth 100000 in
set_option maxHeartbeats 4000000 in
theorem names_any (A : Option Addr) (n c : Nat) (e : List PI) (w : World) (h : PR w A n e) (hn : n ≤ 100000) :
    Calls Tryd.prog 19 #[.slice A n c] w fun en w' => ∃ A' c', en = .returned (.slice A' (namesI e).length c') ∧ SRow w' A' (namesI e).length (bs (namesI e)) ∧ Below w.heap.size w w' := by
  obtain ⟨i0, hi, hz, hs1, hs2⟩ := info_parts info_str
  have H := hide h
  have HL := Lib.hid h.1
  have hmm := mkmap 82
  have HM0 := Lib.hid (MapIs.new w sv)
  clear h
  go_enter Tryd.func19, Tryd.ntmps19
  go_wp2_with fail
  clear hmm
  go_loopw [3, 10] (fun v iv wr => ∃ (j : Nat) (A1 : Option Addr) (c1 : Nat) (ns : List (List UInt8)), v = .slice A1 ns.length c1 ∧ iv = .int .i64 j ∧ j ≤ n ∧ ns.length ≤ j ∧ Hid (ns = namesI (e.take j)) ∧ Hid (wr.ownsRow w.heap.size 9 1 (.slice A1 ns.length c1) ns.length ((bs ns).map Value.string)) ∧ Hid (MapIs wr w.heap.size sv (seenOf ns)) ∧ Hid (Below w.heap.size w wr)) (fun _ iv _ => n - (intOf iv).toNat)
  case atStart => exact ⟨0, none, 0, [], rfl, rfl, by omega, by simp, Lib.hid rfl, Lib.hid (World.ownsRow_nil _ _ _ _), HM0, Lib.hid ((Below.refl _ _).alloc (Nat.le_refl _) _)⟩
  case round =>
    obtain ⟨j, A1, c1, ns, rfl, rfl, hj, hnl, hNS, hO, hM, hB⟩ := hrel
    by_cases hlt : j < n
    · have j1 : j < e.length := by have := HL.out; omega
      obtain ⟨b, off, rfl, hb, hc⟩ := (H.out.below hB.out).2 (by omega)
      obtain ⟨a0, a1, a2, a3, kv, a4, ra⟩ := hc j j1
      have l1 : decide ((j : Int) < (n : Int)) = true := by simp; omega
      have l2 : decide (j < n) = true := by simp; omega
      have g0 : (j : Int) < (n : Int) := by omega
      have HT : Hid (namesI (e.take (j + 1)) = addN ns e[j]) := by
        show _ = _
        rw [List.take_add_one, List.getElem?_eq_getElem j1, hNS.out]
        exact names_snoc _ _
      generalize e[j] = p at a0 a1 a2 a3 ra HT
      obtain ⟨Ak, ck, rfl, hck, hrk⟩ := ra
      obtain ⟨kd, lo, hi1, nm, ks⟩ := p
      dsimp only at a0 a1 a2 a3 a4
      have hz2 := hB.out.size
      have HB1 : Hid (Below w.heap.size w (wr.alloc (.cells #[.int .i64 kd, .int .i64 lo, .int .i64 hi1, .string ⟨nm.toArray⟩, .slice Ak ks.length ck] 46))) := hB.out.alloc hz2 _
      have HO1 := Lib.hid (hO.out.alloc (.cells #[.int .i64 kd, .int .i64 lo, .int .i64 hi1, .string ⟨nm.toArray⟩, .slice Ak ks.length ck] 46))
      have HM1 : Hid (MapIs (wr.alloc (.cells #[.int .i64 kd, .int .i64 lo, .int .i64 hi1, .string ⟨nm.toArray⟩, .slice Ak ks.length ck] 46)) w.heap.size sv (seenOf ns)) := hM.out.kept (World.grownBy_alloc _ _ none) (by simp)
      have HP1 : Hid ((wr.alloc (.cells #[.int .i64 kd, .int .i64 lo, .int .i64 hi1, .string ⟨nm.toArray⟩, .slice Ak ks.length ck] 46)).heap[wr.heap.size]? = some (.cells #[.int .i64 kd, .int .i64 lo, .int .i64 hi1, .string ⟨nm.toArray⟩, .slice Ak ks.length ck] 46)) := World.alloc_heap_new _ _
      clear hc hck hrk
      by_cases hk : kd = 1
      · subst hk
        by_cases hin : nm ∈ ns
        · have HN : Hid (ns = namesI (e.take (j + 1))) := by show _ = _; rw [HT.out]; simp [addN, hin]
          have hlk := seen_yes HM1.out (by rw [hNS.out]; exact names_nodup _ _ (by simp)) nm hin
          clear hin
          go_wp2_with fail
          go_roundw
          case rel => exact ⟨j + 1, A1, c1, ns, rfl, by go_num, by omega, by omega, HN, HO1, HM1, HB1⟩
          case measure => simp [intOf]; omega
        · have HN : Hid (ns ++ [nm] = namesI (e.take (j + 1))) := by show _ = _; rw [HT.out]; simp [addN, hin]
          have hlk := seen_no HM1.out nm hin
          have HIN := Lib.hid hin
          clear hin
          go_upto_region 7 with fail
          clear hlk
          have hBlt := hM.out.lt
          have hz3 := HB1.out.size
          have hp1 : wr.heap.size < (wr.alloc (.cells #[.int .i64 1, .int .i64 lo, .int .i64 hi1, .string ⟨nm.toArray⟩, .slice Ak ks.length ck] 46)).heap.size := by simp
          generalize wr.alloc (.cells #[.int .i64 1, .int .i64 lo, .int .i64 hi1, .string ⟨nm.toArray⟩, .slice Ak ks.length ck] 46) = W1 at *
          have p0 : W1.cell? ⟨wr.heap.size, 3, none⟩ = some (.string ⟨nm.toArray⟩) := by have := HP1.out; simp [World.cell?, this]
          have HSN : Hid (seenOf ns ++ [(nm, .bool true)] = seenOf (ns ++ [nm])) := by show _ = _; simp [seenOf]
          have HNI : Hid (nm ∉ (seenOf ns).map (·.1)) := by show _; rw [seen_keys]; exact HIN.out
          have HBS : Hid (bs ns ++ [(⟨nm.toArray⟩ : ByteArray)] = bs (ns ++ [nm])) := by show _ = _; simp [bs]
          have HLEN : Hid ((ns ++ [nm]).length = ns.length + 1) := by show _ = _; simp
          go_wp2_with (first
            | (at_mapUpdate; (refine wpList_put_new rfl _ _ _ 82 9 4 rfl w.heap.size sv (seenOf ns) HM1.out (key_str Tryd.underlying9) Tryd.underlying82 nm (.bool true) rfl rfl rfl HNI.out ?_); intro w3 hm3 hg3; rw [HSN.out] at hm3; have HM3 := Lib.hid hm3; have HB3 : Hid (Below w.heap.size w w3) := HB1.out.grown hg3 hz3 (fun g hg => by injection hg with hg; omega); have HO3 := Lib.hid (World.ownsRow.kept HO1.out hg3 (.inr (Ne.symm (HM1.out.not_row HO1.out)))); have p1 : w3.cell? ⟨wr.heap.size, 3, none⟩ = some (.string ⟨nm.toArray⟩) := (by have h := (hg3.block wr.heap.size hp1 (by intro e; injection e with e; omega)).trans HP1.out; simp [World.cell?, h]); have hz4 := HB3.out.size; have HO4 := Lib.hid (World.ownsRow.alloc HO3.out (.cells #[.string ⟨nm.toArray⟩] 9 (0, 0))); have HC4 : Hid ((w3.alloc (.cells #[.string ⟨nm.toArray⟩] 9 (0, 0))).cell? ⟨w3.heap.size, 0, none⟩ = some (.string ⟨nm.toArray⟩)) := (by show _ = _; rw [World.cell?_alloc_mark]; rfl); have HM4 : Hid (MapIs (w3.alloc (.cells #[.string ⟨nm.toArray⟩] 9 (0, 0))) w.heap.size sv (seenOf (ns ++ [nm]))) := MapIs.kept HM3.out (World.grownBy_alloc _ _ none) (by simp); clear hm3 hg3)
            | (at_builtin; (refine wpList_app_str rfl (.tmp 27) (.tmp 30) _ rfl w.heap.size 9 i0 _ Tryd.underlying37 hi hz (by rfl) hs1 hs2 _ ns.length (bs ns) rfl HO4.out _ 1 ⟨nm.toArray⟩ rfl HC4.out (by omega) (by simp; omega) ?_); intro v' w5 hown hg5 hat; obtain ⟨A5, c5, hv5⟩ := own_form5 hown; subst hv5; have HO5 := Lib.hid hown; have HB5 : Hid (Below w.heap.size w w5) := (HB3.out.alloc hz4 _).grown hg5 (by simp; omega) (fun g hg => (World.ownsRow.lt HO4.out g hg).1); have HM5 := Lib.hid (MapIs.kept HM4.out hg5 (MapIs.not_row HM4.out HO4.out)); clear hown hg5 hat))
          rw [HBS.out] at HO5
          go_roundw
          case rel => exact ⟨j + 1, A5, c5, ns ++ [nm], by rw [HLEN.out], by go_num, by omega, by rw [HLEN.out]; omega, HN, by rw [HLEN.out]; exact HO5, HM5, HB5⟩
          case measure => simp [intOf]; omega
      · have t1 : (kd == 1) = false := by simpa using hk
        have HN : Hid (ns = namesI (e.take (j + 1))) := by show _ = _; rw [HT.out]; simp [addN, hk]
        clear hk
        go_wp2_with fail
        go_roundw
        case rel => exact ⟨j + 1, A1, c1, ns, rfl, by go_num, by omega, by omega, HN, HO1, HM1, HB1⟩
        case measure => simp [intOf]; omega
    · obtain rfl : j = n := by omega
      have l1 : decide ((j : Int) < (j : Int)) = false := by simp
      have HX : Hid (ns = namesI e) := by
        show _ = _
        have h1 := hNS.out
        rwa [List.take_of_length_le (by have := HL.out; omega)] at h1
      obtain ⟨A2, c2, hv, _, hS⟩ := SRow.of_own hO.out
      simp only [Value.slice.injEq] at hv
      obtain ⟨rfl, -, rfl⟩ := hv
      have HS := Lib.hid hS
      clear hlt hS
      go_wp2_with fail
      go_ret
      exact ⟨A1, c1, by rw [← HX.out]; rfl, by rw [← HX.out]; exact HS.out, hB.out⟩
set_option maxHeartbeats 400000 in
theorem ssame_yes (A1 A2 : Option Addr) (n c1 c2 : Nat) (ss : List ByteArray) (w : World) (h1 : SRow w A1 n ss) (h2 : SRow w A2 n ss) (hn : n ≤ 100000) :
    Calls Tryd.prog 18 #[.slice A1 n c1, .slice A2 n c2] w fun e w' => e = .returned (.bool true) ∧ Below w.heap.size w w' := by
  have d0 : ((n : Int) != (n : Int)) = false := by simp
  go_enter Tryd.func18, Tryd.ntmps18
  go_wp2
  go_loopw [5] (fun i wr => ∃ k : Nat, k ≤ n ∧ i = .int .i64 k ∧ ∃ m, wr = w.drewN m) (fun i _ => n - (intOf i).toNat)
  case atStart => exact ⟨0, Nat.zero_le _, rfl, 0, rfl⟩
  case round =>
    obtain ⟨k, hk, rfl, m, rfl⟩ := hrel
    by_cases hlt : k < n
    · obtain ⟨b1, o1, rfl, _, hx1⟩ := h1.2 (by omega)
      obtain ⟨b2, o2, rfl, _, hx2⟩ := h2.2 (by omega)
      have x1 := hx1 k hlt
      have x2 := hx2 k hlt
      obtain ⟨z, hz⟩ : ∃ z, z = ss.getD k ByteArray.empty := ⟨_, rfl⟩
      rw [← hz] at x1 x2
      have i1 : (0 : Int) ≤ (k : Int) := by omega
      have i2 : (k : Int) < (n : Int) := by omega
      have d1 : (z.toList != z.toList) = false := by simp
      have d2 : (z.toList == z.toList) = true := by simp
      clear hx1 hx2 hz h1 h2
      go_wp2
      go_quiet (fail)
      go_wp2
      go_roundw
      case rel => exact ⟨k + 1, by omega, by go_num, _, rfl⟩
      case measure => simp [intOf]; omega
    · go_wp2
      go_ret
      exact ⟨rfl, Mem.below_drewN (Below.refl _ _) _⟩
abbrev pv (p : PI) (A : Option Addr) (c : Nat) : Value := .agg #[.int .i64 p.kind, .int .i64 p.low, .int .i64 p.high, .string ⟨p.name.toArray⟩, .slice A p.kids.length c]
set_option maxRecDepth 100000 in
set_option maxHeartbeats 4000000 in
theorem parteq_any (p q : PI) (A1 A2 : Option Addr) (c1 c2 : Nat) (w : World) (h1 : Row .i64 w A1 p.kids.length p.kids) (h2 : Row .i64 w A2 q.kids.length q.kids) (hk : p.kids.length ≤ 100000) :
    Calls Tryd.prog 42 #[pv p A1 c1, pv q A2 c2] w fun en w' => en = .returned (.bool (decide (p = q))) ∧ Below w.heap.size w w' := by
  obtain ⟨k1, l1, i1, n1, s1⟩ := p
  obtain ⟨k2, l2, i2, n2, s2⟩ := q
  unfold pv
  dsimp only at h1 h2 hk ⊢
  have HR : Hid (decide ((⟨k1, l1, i1, n1, s1⟩ : PI) = ⟨k2, l2, i2, n2, s2⟩) = (decide (k1 = k2) && (decide (l1 = l2) && (decide (i1 = i2) && (decide (n1 = n2) && decide (s1 = s2)))))) := by
    show _ = _
    rw [Bool.eq_iff_iff]
    simp
  generalize decide ((⟨k1, l1, i1, n1, s1⟩ : PI) = ⟨k2, l2, i2, n2, s2⟩) = R at HR ⊢
  have HB : Hid (∀ a b, Below w.heap.size w ((w.alloc a).alloc b)) := fun a b => ((Below.refl _ _).alloc (Nat.le_refl _) _).alloc (by simp) _
  have HEQ := hide (fun a b => equal_any A1 A2 s1.length s2.length c1 c2 s1 s2 ((w.alloc a).alloc b) (h1.below (HB.out a b)) (h2.below (HB.out a b)) (by omega))
  clear h1 h2 hk
  by_cases e1 : k1 = k2
  · subst e1
    by_cases e2 : l1 = l2
    · subst e2
      by_cases e3 : i1 = i2
      · subst e3
        by_cases e4 : n1 = n2
        · subst e4
          have HX : Hid (R = decide (s1 = s2)) := by show _ = _; rw [HR.out]; simp
          clear HR
          generalize decide (s1 = s2) = D at HX HEQ
          go_enter Tryd.func42, Tryd.ntmps42
          go_wp2_with (go_at_call 33; (with_reducible refine (HEQ.out _ _).mono ?_); rintro en w2 ⟨rfl, m, rfl⟩)
          go_ret
          exact ⟨by rw [HX.out]; rfl, below_drewN (HB.out _ _) m⟩
        · have t1 : (n1 == n2) = false := by simpa using e4
          have HX : Hid (R = false) := by show _ = _; rw [HR.out]; simp [e4]
          clear e4
          go_enter Tryd.func42, Tryd.ntmps42
          go_wp2_with fail
          go_ret
          exact ⟨by rw [HX.out]; rfl, HB.out _ _⟩
      · have t1 : (i1 == i2) = false := by simpa using e3
        have HX : Hid (R = false) := by show _ = _; rw [HR.out]; simp [e3]
        clear e3
        go_enter Tryd.func42, Tryd.ntmps42
        go_wp2_with fail
        go_ret
        exact ⟨by rw [HX.out]; rfl, HB.out _ _⟩
    · have t1 : (l1 == l2) = false := by simpa using e2
      have HX : Hid (R = false) := by show _ = _; rw [HR.out]; simp [e2]
      clear e2
      go_enter Tryd.func42, Tryd.ntmps42
      go_wp2_with fail
      go_ret
      exact ⟨by rw [HX.out]; rfl, HB.out _ _⟩
  · have t1 : (k1 == k2) = false := by simpa using e1
    have HX : Hid (R = false) := by show _ = _; rw [HR.out]; simp [e1]
    clear e1
    go_enter Tryd.func42, Tryd.ntmps42
    go_wp2_with fail
    go_ret
    exact ⟨by rw [HX.out]; rfl, HB.out _ _⟩
set_option maxRecDepth 100000 in
set_option maxHeartbeats 4000000 in
theorem eqfunc_any (A A' : Option Addr) (n m c c' : Nat) (e o : List PI) (w : World) (h1 : PR w A n e) (h2 : PR w A' m o) (hn : n ≤ 100000) (hk : ∀ p ∈ e, p.kids.length ≤ 100000) :
    Calls Tryd.prog 41 #[.slice A n c, .slice A' m c', .func (.func 42) #[] #[]] w fun en w' => en = .returned (.bool (decide (e = o))) ∧ Below w.heap.size w w' := by
  have hl1 := h1.1
  have hl2 := h2.1
  by_cases hnm : n = m
  · subst hnm
    have H1 := hide h1
    have H2 := hide h2
    have HK := hide hk
    have HL := Lib.hid (⟨hl1, hl2⟩ : e.length = n ∧ o.length = n)
    clear h1 h2 hl1 hl2 hk
    go_enter Tryd.func41, Tryd.ntmps41
    go_wp2_with fail
    go_loopw [17] (fun iv wr => ∃ j : Nat, iv = .int .i64 j ∧ j ≤ n ∧ Hid (Below w.heap.size w wr) ∧ Hid (e.take j = o.take j)) (fun iv _ => n - (intOf iv).toNat)
    case atStart => exact ⟨0, rfl, by omega, Lib.hid (Below.refl _ _), Lib.hid rfl⟩
    case round =>
      obtain ⟨j, rfl, hj, hB, hE⟩ := hrel
      by_cases hlt : j < n
      · have j1 : j < e.length := by have := HL.out.1; omega
        have j2 : j < o.length := by have := HL.out.2; omega
        obtain ⟨b, off, rfl, hb, hc⟩ := (H1.out.below hB.out).2 (by omega)
        obtain ⟨b', off', rfl, hb', hc'⟩ := (H2.out.below hB.out).2 (by omega)
        obtain ⟨a0, a1, a2, a3, kv, a4, ra⟩ := hc j j1
        obtain ⟨d0, d1, d2, d3, kv', d4, rd⟩ := hc' j j2
        have l1 : decide ((j : Int) < (n : Int)) = true := by simp; omega
        have l2 : decide (j < n) = true := by simp; omega
        have g0 : (j : Int) < (n : Int) := by omega
        have HKL := Lib.hid (HK.out _ (List.getElem_mem j1))
        have HT : Hid (e[j] = o[j] → e.take (j + 1) = o.take (j + 1)) := by
          intro h
          rw [List.take_add_one, List.take_add_one, List.getElem?_eq_getElem j1, List.getElem?_eq_getElem j2, hE.out, h]
        have HF : Hid (e[j] ≠ o[j] → decide (e = o) = false) := by
          intro h
          simp only [decide_eq_false_iff_not]
          rintro rfl
          exact h rfl
        generalize e[j] = p at a0 a1 a2 a3 ra HKL HT HF
        generalize o[j] = q at d0 d1 d2 d3 rd HT HF
        obtain ⟨Ak, ck, rfl, hck, hrk⟩ := ra
        obtain ⟨Aq, cq, rfl, hcq, hrq⟩ := rd
        have hz := hB.out.size
        have HBA : Hid (∀ a b, Below w.heap.size w ((wr.alloc a).alloc b)) := fun a b => (hB.out.alloc hz _).alloc (by simp; omega) _
        have HB0 : Hid (∀ a b, Below wr.heap.size wr ((wr.alloc a).alloc b)) := fun a b => ((Below.refl _ _).alloc (Nat.le_refl _) _).alloc (by simp) _
        have HP := hide (fun a b => parteq_any p q Ak Aq ck cq ((wr.alloc a).alloc b) (hrk.below (HB0.out a b)) (hrq.below (HB0.out a b)) HKL.out)
        clear hc hc' hck hcq hrk hrq
        unfold pv at HP
        obtain ⟨k1, lo1, hi1, n1, s1⟩ := p
        obtain ⟨k2, lo2, hi2, n2, s2⟩ := q
        dsimp only at a0 a1 a2 a3 a4 d0 d1 d2 d3 d4 HP HKL
        by_cases he : (⟨k1, lo1, hi1, n1, s1⟩ : PI) = ⟨k2, lo2, hi2, n2, s2⟩
        · have HT2 := Lib.hid (HT.out he)
          rw [decide_eq_true he] at HP
          clear he HT HF
          go_wp2_with (go_at_call 42; (with_reducible refine (HP.out _ _).mono ?_); rintro en w2 ⟨rfl, hb2⟩; have HB2 : Hid (Below w.heap.size w w2) := (HBA.out _ _).trans (hb2.mono (HBA.out _ _).size); clear hb2)
          go_roundw
          case rel => exact ⟨j + 1, by go_num, by omega, HB2, HT2⟩
          case measure => simp [intOf]; omega
        · have HX := Lib.hid (HF.out he)
          rw [decide_eq_false he] at HP
          clear he HT HF
          go_wp2_with (go_at_call 42; (with_reducible refine (HP.out _ _).mono ?_); rintro en w2 ⟨rfl, hb2⟩; have HB2 : Hid (Below w.heap.size w w2) := (HBA.out _ _).trans (hb2.mono (HBA.out _ _).size); clear hb2)
          go_ret
          exact ⟨by rw [HX.out]; rfl, HB2.out⟩
      · have l1 : decide ((j : Int) < (n : Int)) = false := by simp; omega
        have l2 : decide (j < n) = false := by simp; omega
        have HEQ : Hid (decide (e = o) = true) := by
          show _ = _
          simp only [decide_eq_true_eq]
          have h := hE.out
          rwa [List.take_of_length_le (by have := HL.out.1; omega), List.take_of_length_le (by have := HL.out.2; omega)] at h
        clear hlt
        go_wp2_with fail
        go_ret
        exact ⟨by rw [HEQ.out]; rfl, hB.out⟩
  · have HNE : Hid (decide (e = o) = false) := by
      show _ = _
      simp only [decide_eq_false_iff_not]
      rintro rfl
      omega
    have t1 : ((n : Int) != (m : Int)) = true := by simp; omega
    have t2 : (n != m) = true := by simpa using hnm
    clear hnm hl1 hl2 h1 h2 hk
    go_enter Tryd.func41, Tryd.ntmps41
    go_wp2_with fail
    go_ret
    exact ⟨by rw [HNE.out]; rfl, Below.refl _ _⟩
theorem esame_any (A A' : Option Addr) (n m c c' : Nat) (e o : List PI) (w : World) (h1 : PR w A n e) (h2 : PR w A' m o) (hn : n ≤ 100000) (hk : ∀ p ∈ e, p.kids.length ≤ 100000) :
    Calls Tryd.prog 20 #[.slice A n c, .slice A' m c'] w fun en w' => en = .returned (.bool (decide (e = o))) ∧ Below w.heap.size w w' := by
  have HE := hide (eqfunc_any A A' n m c c' e o w h1 h2 hn hk)
  clear h1 h2 hn hk
  go_enter Tryd.func20, Tryd.ntmps20
  go_wp2_with (go_at_call 41; (with_reducible refine (HE.out).mono ?_); rintro en w2 ⟨rfl, hb2⟩; have HB2 := Lib.hid hb2; clear hb2)
  go_ret
  exact ⟨rfl, HB2.out⟩
end Go.Proofs.YtphhacnabdpheaaDoor.Ex
