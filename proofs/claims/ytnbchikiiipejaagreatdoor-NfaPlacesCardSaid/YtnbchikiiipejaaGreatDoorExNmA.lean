/- Maps that the call made, as lists of keys and values, each key once: looked up, and put into; keys of whatever type that may be compared. -/
import Derived.Test.YtnbchikiiipejaaGreatDoorStr
import Derived.MapKept
import Derived.WideMake
import Derived.Test.YtnbchikiiipejaaGreatDoorExRight
set_option linter.unusedVariables false
set_option maxRecDepth 100000
set_option maxHeartbeats 4000000
namespace Go.Proofs.YtnbchikiiipejaaGreatDoor.Mem
open Go.RowKit Go.MapKept
set_option linter.unusedSectionVars false
structure KeyLaw {α : Type} [DecidableEq α] (P : Program) (kt : TypeId) (kv : α → Value) : Prop where
 check : ∀ (b : Bool) (x : α) (w : World), (Instr.checkKey b 10000 kt (kv x)).run P w = .ok () w
 none : ∀ (x : α) (es : List MapEntry) (ys : List α) (w : World), es.map (·.key) = ys.map kv → x ∉ ys → (Instr.findKey kt (kv x) es).run P w = .ok Option.none w
 some : ∀ (x : α) (es : List MapEntry) (ys : List α) (w : World), es.map (·.key) = ys.map kv → x ∈ ys → ∃ i e, ys[i]? = some x ∧ es[i]? = some e ∧ (Instr.findKey kt (kv x) es).run P w = .ok (some (i, e.val)) w
def MapIs {α : Type} (w : World) (B : Nat) (kv : α → Value) (l : List (α × Value)) : Prop :=
 ∃ es clock, w.heap[B]? = some (.map es clock) ∧ es.toList.map (·.key) = l.map (fun p => kv p.1) ∧ es.toList.map (·.val) = l.map (·.2)
section
variable {α : Type} [DecidableEq α] {P : Program} {w w' : World} {B : Nat} {kv : α → Value} {l : List (α × Value)} {t kt et : TypeId}
theorem MapIs.lt (h : MapIs w B kv l) : B < w.heap.size := by
 obtain ⟨es, c, hb, _⟩ := h
 exact (Array.getElem?_eq_some_iff.1 hb).1
theorem MapIs.kept {row : Option Nat} (h : MapIs w B kv l) (hg : w.grownBy w' row) (hne : some B ≠ row) : MapIs w' B kv l := by
 have hlt := h.lt
 obtain ⟨es, c, hb, h2⟩ := h
 exact ⟨es, c, (hg.block B hlt hne).trans hb, h2⟩
theorem MapIs.new (w : World) (kv : α → Value) : MapIs (w.alloc (.map #[] 0)) w.heap.size kv [] := ⟨#[], 0, (heap_alloc w _).1, rfl, rfl⟩
theorem MapIs.not_row {base size n : Nat} {e : TypeId} {v : Value} {xs : List Value} (h : MapIs w B kv l) (ho : w.ownsRow base e size v n xs) : some B ≠ v.ownBlock := by
 obtain ⟨es, c, hb, _⟩ := h
 rcases ho.2 with ⟨rfl, _⟩ | ⟨g, cap, cur, rfl, _, hg, _⟩
 ·simp [Value.ownBlock]
 ·simp only [Value.ownBlock]
  rintro ⟨⟩
  rw [hb] at hg
  cases hg
theorem MapIs.look_no (h : MapIs w B kv l) (L : KeyLaw P kt kv) (ht : P.underlying t = some (.map kt et)) {z : Value} (hz : (zeroValue et).run P w = .ok z w) (x : α) (hx : x ∉ l.map (·.1)) :
  (Instr.lookup t (.map (some B)) (kv x) false).run P w = .ok z w ∧ (Instr.lookup t (.map (some B)) (kv x) true).run P w = .ok (.tuple #[z, .bool false]) w := by
 obtain ⟨es, c, hb, hk, _⟩ := h
 have hf := L.none x es.toList (l.map (·.1)) w (by rw [hk, List.map_map]; rfl) hx
 constructor
 ·simp [Instr.lookup, run_underlying ht, MapKept.run_getObj_map hb, L.check, hf, hz, Result.andThen]
 ·simp [Instr.lookup, run_underlying ht, MapKept.run_getObj_map hb, L.check, hf, hz, Result.andThen]
theorem MapIs.look_yes (h : MapIs w B kv l) (L : KeyLaw P kt kv) (ht : P.underlying t = some (.map kt et)) (hn : (l.map (·.1)).Nodup) (x : α) (v : Value) (hx : (x, v) ∈ l) :
  (Instr.lookup t (.map (some B)) (kv x) false).run P w = .ok v w ∧ (Instr.lookup t (.map (some B)) (kv x) true).run P w = .ok (.tuple #[v, .bool true]) w := by
 obtain ⟨es, c, hb, hk, hv⟩ := h
 obtain ⟨i, e, h1, h2, hf⟩ := L.some x es.toList (l.map (·.1)) w (by rw [hk, List.map_map]; rfl) (List.mem_map.2 ⟨_, hx, rfl⟩)
 have hev : e.val = v := by
  obtain ⟨k, hk1, hk2⟩ := List.getElem_of_mem hx
  obtain ⟨hi1, hi2⟩ := List.getElem?_eq_some_iff.1 h1
  have hki : (l.map (·.1))[k]'(by simpa using hk1) = x := by simp [hk2]
  have : k = i := (List.getElem_inj (h₀ := by simpa using hk1) (h₁ := hi1) hn).1 (hki.trans hi2.symm)
  subst this
  have h3 : (es.toList.map (·.val))[k]? = some e.val := by rw [List.getElem?_map, h2]; rfl
  rw [hv, List.getElem?_map, List.getElem?_eq_getElem hk1, hk2] at h3
  simpa using h3.symm
 constructor
 ·simp [Instr.lookup, run_underlying ht, MapKept.run_getObj_map hb, L.check, hf, hev, Result.andThen]
 ·simp [Instr.lookup, run_underlying ht, MapKept.run_getObj_map hb, L.check, hf, hev, Result.andThen]
theorem MapIs.put_new (h : MapIs w B kv l) (L : KeyLaw P kt kv) (ht : P.underlying t = some (.map kt et)) (x : α) (v : Value) (hx : x ∉ l.map (·.1)) :
  ∃ w', (Instr.mapUpdate t (.map (some B)) (kv x) v).run P w = .ok () w' ∧ MapIs w' B kv (l ++ [(x, v)]) ∧ w.grownBy w' (some B) := by
 obtain ⟨es, c, hb, hk, hv⟩ := h
 have hf := L.none x es.toList (l.map (·.1)) w (by rw [hk, List.map_map]; rfl) hx
 refine ⟨{ w with heap := w.heap.setIfInBounds B (.map (es.push { key := kv x, val := v, born := c }) (c + 1)) }, ?_, ⟨_, _, (heap_set hb).1, by simp [hk], by simp [hv]⟩, ⟨rfl, rfl, rfl, by simp, fun i _ hi => (MapKept.heap_set hb).2 i (fun e => hi (by rw [e]))⟩⟩
 simp [Instr.mapUpdate, run_underlying ht, MapKept.run_getObj_map hb, L.check, hf, MapKept.run_setObj_map _ hb, Result.andThen]
theorem wpList_put_new {ops : Array Oper} {rest : List Oper} {o : Oper} {a : Act} {Q : Exit → Act → World → Prop}
  (hg : o.guard = none) (m x v : Operand) (t kt et : TypeId) (hop : o.op = Op.mapUpdate t m x v) (B : Nat) (kv : α → Value) (l : List (α × Value)) (h : MapIs w B kv l) (L : KeyLaw P kt kv) (ht : P.underlying t = some (.map kt et)) (y : α) (u : Value)
  (hm : a.eval m = .map (some B)) (hx : a.eval x = kv y) (hv : a.eval v = u) (hy : y ∉ l.map (·.1))
  (hK : ∀ w', MapIs w' B kv (l ++ [(y, u)]) → w.grownBy w' (some B) → wpList P ops Q rest (a.put o.dst undef) w') :
  wpList P ops Q (o :: rest) a w := by
 refine wpList_plain hg fun K' hK' => ?_
 obtain ⟨w', hrun, r1, r2⟩ := h.put_new L ht y u hy
 unfold Oper.wp
 simp [execOp, hop, hm, hx, hv, hrun, Result.andThen]
 exact hK' _ _ (hK w' r1 r2)
end
def sv (s : List UInt8) : Value := .string ⟨s.toArray⟩
theorem sv_inj {a b : List UInt8} (h : sv a = sv b) : a = b := by
 simp only [sv, Value.string.injEq, ByteArray.mk.injEq] at h
 simpa using h
theorem key_str {P : Program} {kt : TypeId} (hk : P.underlying kt = some .string) : KeyLaw P kt sv where
 check := fun b x w => run_checkKey hk (by simp [IsKey, sv]) b 9999
 none := fun x es ys w he hx => by
  have hall : ∀ e ∈ es, IsKey .string e.key := by
   intro e h
   have : e.key ∈ ys.map sv := by rw [← he]; exact List.mem_map.2 ⟨e, h, rfl⟩
   obtain ⟨y, _, hy⟩ := List.mem_map.1 this
   rw [← hy]; simp [IsKey, sv]
  rcases findNow_spec (d := .string) (k := sv x) (by simp [IsKey, sv]) es 0 hall with ⟨h1, _⟩ | ⟨j, e, h1, h2, h3⟩
  ·exact run_findKey hk h1
  ·exfalso
   apply hx
   have h4 : (es.map (·.key))[j]? = some (sv x) := by rw [List.getElem?_map, h2]; simp [h3]
   rw [he, List.getElem?_map] at h4
   cases h5 : ys[j]? with
   | none => rw [h5] at h4; simp at h4
   | some y =>
    rw [h5] at h4
    simp at h4
    rw [← sv_inj h4]
    exact List.mem_of_getElem? h5
 some := fun x es ys w he hx => by
  have hall : ∀ e ∈ es, IsKey .string e.key := by
   intro e h
   have : e.key ∈ ys.map sv := by rw [← he]; exact List.mem_map.2 ⟨e, h, rfl⟩
   obtain ⟨y, _, hy⟩ := List.mem_map.1 this
   rw [← hy]; simp [IsKey, sv]
  rcases findNow_spec (d := .string) (k := sv x) (by simp [IsKey, sv]) es 0 hall with ⟨h1, h2⟩ | ⟨j, e, h1, h2, h3⟩
  ·exfalso
   have : sv x ∈ es.map (·.key) := by rw [he]; exact List.mem_map.2 ⟨x, hx, rfl⟩
   obtain ⟨e, he1, he2⟩ := List.mem_map.1 this
   exact h2 e he1 he2
  ·rw [Nat.zero_add] at h1
   have h4 : (es.map (·.key))[j]? = some (sv x) := by rw [List.getElem?_map, h2]; simp [h3]
   rw [he, List.getElem?_map] at h4
   cases h5 : ys[j]? with
   | none => rw [h5] at h4; simp at h4
   | some y =>
    rw [h5] at h4
    simp at h4
    have := sv_inj h4
    subst this
    exact ⟨j, e, h5, h2, run_findKey hk h1⟩
end Go.Proofs.YtnbchikiiipejaaGreatDoor.Mem
namespace Go.Proofs.YtnbchikiiipejaaGreatDoor.Ex
open Go.RowKit Mem Lx
theorem info_str : (Tryz.prog.info? 9).map (fun i => (i.zero, i.size, i.bytes)) = some (some (.string ⟨#[]⟩), 1, 16) := by kernel_rfl
def bs (l : List (List UInt8)) : List ByteArray := l.map fun s => ⟨s.toArray⟩
def addN (ns : List (List UInt8)) (p : PI) : List (List UInt8) := if p.kind = 1 ∧ p.name ∉ ns then ns ++ [p.name] else ns
def namesI (e : List PI) : List (List UInt8) := e.foldl addN []
theorem names_snoc (e : List PI) (p : PI) : namesI (e ++ [p]) = addN (namesI e) p := by simp [namesI]
theorem names_nodup : ∀ (e : List PI) (ns : List (List UInt8)), ns.Nodup → (e.foldl addN ns).Nodup
 | [], ns, h => h
 | p :: e, ns, h => by
  refine names_nodup e _ ?_
  unfold addN
  split
  ·rename_i hp
   rw [List.nodup_append]
   refine ⟨h, by simp, fun a ha b hb => ?_⟩
   simp at hb
   subst hb
   rintro rfl
   exact hp.2 ha
  ·exact h
theorem names_len : ∀ (e : List PI) (ns : List (List UInt8)), (e.foldl addN ns).length ≤ ns.length + e.length
 | [], ns => by simp
 | p :: e, ns => by
  have h1 := names_len e (addN ns p)
  have h2 : (addN ns p).length ≤ ns.length + 1 := by unfold addN; split <;> simp
  simp at h1 ⊢; omega
theorem zero_bool (w : World) : (zeroValue 4).run Tryz.prog w = .ok (.bool false) w := by kernel_rfl
theorem mkmap (t : TypeId) (w : World) : (Instr.makeMap t none).run Tryz.prog w = .ok (.map (some w.heap.size)) (w.alloc (.map #[] 0)) := run_makeMap_plain w t
def seenOf (ns : List (List UInt8)) : List (List UInt8 × Value) := ns.map fun s => (s, .bool true)
theorem seen_keys (ns : List (List UInt8)) : (seenOf ns).map (·.1) = ns := by
 rw [seenOf, List.map_map]
 exact List.map_id ns
theorem seen_no {w : World} {B : Nat} {ns : List (List UInt8)} (h : MapIs w B sv (seenOf ns)) (x : List UInt8) (hx : x ∉ ns) :
  (Instr.lookup 276 (.map (some B)) (.string ⟨x.toArray⟩) false).run Tryz.prog w = .ok (.bool false) w :=
 (h.look_no (key_str Tryz.underlying9) Tryz.underlying276 (zero_bool w) x (by rwa [seen_keys])).1
theorem seen_yes {w : World} {B : Nat} {ns : List (List UInt8)} (h : MapIs w B sv (seenOf ns)) (hn : ns.Nodup) (x : List UInt8) (hx : x ∈ ns) :
  (Instr.lookup 276 (.map (some B)) (.string ⟨x.toArray⟩) false).run Tryz.prog w = .ok (.bool true) w :=
 (h.look_yes (key_str Tryz.underlying9) Tryz.underlying276 (by rwa [seen_keys]) x (.bool true) (List.mem_map.2 ⟨x, hx, rfl⟩)).1
theorem names_any (A : Option Addr) (n c : Nat) (e : List PI) (w : World) (h : PR w A n e) (hn : n ≤ 100000) :
  Calls Tryz.prog 118 #[.slice A n c] w fun en w' => ∃ A' c', en = .returned (.slice A' (namesI e).length c') ∧ SRow w' A' (namesI e).length (bs (namesI e)) ∧ Below w.heap.size w w' := by
 obtain ⟨i0, hi, hz, hs1, hs2⟩ := info_parts info_str
 have H := hide h
 have HL := Lib.hid h.1
 have hmm := mkmap 276
 have HM0 := Lib.hid (MapIs.new w sv)
 clear h
 go_enter Tryz.func118, Tryz.ntmps118
 go_wp2_with fail
 clear hmm
 go_loopw [3, 10] (fun v iv wr => ∃ (j : Nat) (A1 : Option Addr) (c1 : Nat) (ns : List (List UInt8)), v = .slice A1 ns.length c1 ∧ iv = .int .i64 j ∧ j ≤ n ∧ ns.length ≤ j ∧ Hid (ns = namesI (e.take j)) ∧ Hid (wr.ownsRow w.heap.size 9 1 (.slice A1 ns.length c1) ns.length ((bs ns).map Value.string)) ∧ Hid (MapIs wr w.heap.size sv (seenOf ns)) ∧ Hid (Below w.heap.size w wr)) (fun _ iv _ => n - (intOf iv).toNat)
 case atStart => exact ⟨0, none, 0, [], rfl, rfl, by omega, by simp, Lib.hid rfl, Lib.hid (World.ownsRow_nil _ _ _ _), HM0, Lib.hid ((Below.refl _ _).alloc (Nat.le_refl _) _)⟩
 case round =>
  obtain ⟨j, A1, c1, ns, rfl, rfl, hj, hnl, hNS, hO, hM, hB⟩ := hrel
  by_cases hlt : j < n
  ·have j1 : j < e.length := by have := HL.out; omega
   obtain ⟨b, off, rfl, hb, hc⟩ := (H.out.below hB.out).2 (by omega)
   obtain ⟨a0, a1, a2, a3, kv, a4, ra⟩ := hc j j1
   have l1 : decide ((j : Int) < (n : Int)) = true := by simp; omega
   have l2 : decide (j < n) = true := by simp; omega
   have g0 : (j : Int) < (n : Int) := by omega
   have HT : Hid (namesI (e.take (j + 1)) = addN ns e[j]) := by
    show _ = _
    rw [List.take_add_one, List.getElem?_eq_getElem j1, hNS.out]
    exact names_snoc _ _
   generalize e[j] = p at a0 a1 a2 a3 ra HT
   obtain ⟨Ak, ck, rfl, hck, hrk⟩ := ra
   obtain ⟨kd, lo, hi1, nm, ks⟩ := p
   dsimp only at a0 a1 a2 a3 a4
   have hz2 := hB.out.size
   have HB1 : Hid (Below w.heap.size w (wr.alloc (.cells #[.int .i64 kd, .int .i64 lo, .int .i64 hi1, .string ⟨nm.toArray⟩, .slice Ak ks.length ck] 217))) := hB.out.alloc hz2 _
   have HO1 := Lib.hid (hO.out.alloc (.cells #[.int .i64 kd, .int .i64 lo, .int .i64 hi1, .string ⟨nm.toArray⟩, .slice Ak ks.length ck] 217))
   have HM1 : Hid (MapIs (wr.alloc (.cells #[.int .i64 kd, .int .i64 lo, .int .i64 hi1, .string ⟨nm.toArray⟩, .slice Ak ks.length ck] 217)) w.heap.size sv (seenOf ns)) := hM.out.kept (World.grownBy_alloc _ _ none) (by simp)
   have HP1 : Hid ((wr.alloc (.cells #[.int .i64 kd, .int .i64 lo, .int .i64 hi1, .string ⟨nm.toArray⟩, .slice Ak ks.length ck] 217)).heap[wr.heap.size]? = some (.cells #[.int .i64 kd, .int .i64 lo, .int .i64 hi1, .string ⟨nm.toArray⟩, .slice Ak ks.length ck] 217)) := World.alloc_heap_new _ _
   clear hc hck hrk
   by_cases hk : kd = 1
   ·subst hk
    by_cases hin : nm ∈ ns
    ·have HN : Hid (ns = namesI (e.take (j + 1))) := by show _ = _; rw [HT.out]; simp [addN, hin]
     have hlk := seen_yes HM1.out (by rw [hNS.out]; exact names_nodup _ _ (by simp)) nm hin
     clear hin
     go_wp2_with fail
     go_roundw
     case rel => exact ⟨j + 1, A1, c1, ns, rfl, by go_num, by omega, by omega, HN, HO1, HM1, HB1⟩
     case measure => simp [intOf]; omega
    ·have HN : Hid (ns ++ [nm] = namesI (e.take (j + 1))) := by show _ = _; rw [HT.out]; simp [addN, hin]
     have hlk := seen_no HM1.out nm hin
     have HIN := Lib.hid hin
     clear hin
     go_upto_region 7 with fail
     clear hlk
     have hBlt := hM.out.lt
     have hz3 := HB1.out.size
     have hp1 : wr.heap.size < (wr.alloc (.cells #[.int .i64 1, .int .i64 lo, .int .i64 hi1, .string ⟨nm.toArray⟩, .slice Ak ks.length ck] 217)).heap.size := by simp
     generalize wr.alloc (.cells #[.int .i64 1, .int .i64 lo, .int .i64 hi1, .string ⟨nm.toArray⟩, .slice Ak ks.length ck] 217) = W1 at *
     have p0 : W1.cell? ⟨wr.heap.size, 3, none⟩ = some (.string ⟨nm.toArray⟩) := by have := HP1.out; simp [World.cell?, this]
     have HSN : Hid (seenOf ns ++ [(nm, .bool true)] = seenOf (ns ++ [nm])) := by show _ = _; simp [seenOf]
     have HNI : Hid (nm ∉ (seenOf ns).map (·.1)) := by show _; rw [seen_keys]; exact HIN.out
     have HBS : Hid (bs ns ++ [(⟨nm.toArray⟩ : ByteArray)] = bs (ns ++ [nm])) := by show _ = _; simp [bs]
     have HLEN : Hid ((ns ++ [nm]).length = ns.length + 1) := by show _ = _; simp
     go_wp2_with (first
      | (at_mapUpdate; (refine wpList_put_new rfl _ _ _ 276 9 4 rfl w.heap.size sv (seenOf ns) HM1.out (key_str Tryz.underlying9) Tryz.underlying276 nm (.bool true) rfl rfl rfl HNI.out ?_); intro w3 hm3 hg3; rw [HSN.out] at hm3; have HM3 := Lib.hid hm3; have HB3 : Hid (Below w.heap.size w w3) := HB1.out.grown hg3 hz3 (fun g hg => by injection hg with hg; omega); have HO3 := Lib.hid (World.ownsRow.kept HO1.out hg3 (.inr (Ne.symm (HM1.out.not_row HO1.out)))); have p1 : w3.cell? ⟨wr.heap.size, 3, none⟩ = some (.string ⟨nm.toArray⟩) := (by have h := (hg3.block wr.heap.size hp1 (by intro e; injection e with e; omega)).trans HP1.out; simp [World.cell?, h]); have hz4 := HB3.out.size; have HO4 := Lib.hid (World.ownsRow.alloc HO3.out (.cells #[.string ⟨nm.toArray⟩] 9 (0, 0))); have HC4 : Hid ((w3.alloc (.cells #[.string ⟨nm.toArray⟩] 9 (0, 0))).cell? ⟨w3.heap.size, 0, none⟩ = some (.string ⟨nm.toArray⟩)) := (by show _ = _; rw [World.cell?_alloc_mark]; rfl); have HM4 : Hid (MapIs (w3.alloc (.cells #[.string ⟨nm.toArray⟩] 9 (0, 0))) w.heap.size sv (seenOf (ns ++ [nm]))) := MapIs.kept HM3.out (World.grownBy_alloc _ _ none) (by simp); clear hm3 hg3)
      | (at_builtin; (refine wpList_app_str rfl (.tmp 27) (.tmp 30) _ rfl w.heap.size 9 i0 _ Tryz.underlying171 hi hz (by rfl) hs1 hs2 _ ns.length (bs ns) rfl HO4.out _ 1 ⟨nm.toArray⟩ rfl HC4.out (by omega) (by simp; omega) ?_); intro v' w5 hown hg5 hat; obtain ⟨A5, c5, hv5⟩ := own_form5 hown; subst hv5; have HO5 := Lib.hid hown; have HB5 : Hid (Below w.heap.size w w5) := (HB3.out.alloc hz4 _).grown hg5 (by simp; omega) (fun g hg => (World.ownsRow.lt HO4.out g hg).1); have HM5 := Lib.hid (MapIs.kept HM4.out hg5 (MapIs.not_row HM4.out HO4.out)); clear hown hg5 hat))
     rw [HBS.out] at HO5
     go_roundw
     case rel => exact ⟨j + 1, A5, c5, ns ++ [nm], by rw [HLEN.out], by go_num, by omega, by rw [HLEN.out]; omega, HN, by rw [HLEN.out]; exact HO5, HM5, HB5⟩
     case measure => simp [intOf]; omega
   ·have t1 : (kd == 1) = false := by simpa using hk
    have HN : Hid (ns = namesI (e.take (j + 1))) := by show _ = _; rw [HT.out]; simp [addN, hk]
    clear hk
    go_wp2_with fail
    go_roundw
    case rel => exact ⟨j + 1, A1, c1, ns, rfl, by go_num, by omega, by omega, HN, HO1, HM1, HB1⟩
    case measure => simp [intOf]; omega
  ·obtain rfl : j = n := by omega
   have l1 : decide ((j : Int) < (j : Int)) = false := by simp
   have HX : Hid (ns = namesI e) := by
    show _ = _
    have h1 := hNS.out
    rwa [List.take_of_length_le (by have := HL.out; omega)] at h1
   obtain ⟨A2, c2, hv, _, hS⟩ := SRow.of_own hO.out
   simp only [Value.slice.injEq] at hv
   obtain ⟨rfl, -, rfl⟩ := hv
   have HS := Lib.hid hS
   clear hlt hS
   go_wp2_with fail
   go_ret
   exact ⟨A1, c1, by rw [← HX.out]; rfl, by rw [← HX.out]; exact HS.out, hB.out⟩
end Go.Proofs.YtnbchikiiipejaaGreatDoor.Ex
