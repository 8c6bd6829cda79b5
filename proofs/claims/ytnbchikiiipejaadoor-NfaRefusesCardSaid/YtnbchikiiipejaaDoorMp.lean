/- Maps that the call made, as lists of keys and values, each key once: looked up, and put into; keys of whatever type that may be compared. Nothing of the program. -/
import Derived.Test.YtnbchikiiipejaaDoorOwn
import Derived.MapKept
import Derived.WideMake
namespace Go.Proofs.YtnbchikiiipejaaDoor.Mem
open Go.RowKit Go.MapKept
set_option linter.unusedVariables false
set_option linter.unusedSectionVars false

/-- how keys of a type are found -/
structure KeyLaw {α : Type} [DecidableEq α] (P : Program) (kt : TypeId) (kv : α → Value) : Prop where
  check : ∀ (b : Bool) (x : α) (w : World), (Instr.checkKey b 10000 kt (kv x)).run P w = .ok () w
  none : ∀ (x : α) (es : List MapEntry) (ys : List α) (w : World), es.map (·.key) = ys.map kv → x ∉ ys → (Instr.findKey kt (kv x) es).run P w = .ok Option.none w
  some : ∀ (x : α) (es : List MapEntry) (ys : List α) (w : World), es.map (·.key) = ys.map kv → x ∈ ys → ∃ i e, ys[i]? = some x ∧ es[i]? = some e ∧ (Instr.findKey kt (kv x) es).run P w = .ok (some (i, e.val)) w

/-- the map in block B -/
def MapIs {α : Type} (w : World) (B : Nat) (kv : α → Value) (l : List (α × Value)) : Prop :=
  ∃ es clock, w.heap[B]? = some (.map es clock) ∧ es.toList.map (·.key) = l.map (fun p => kv p.1) ∧ es.toList.map (·.val) = l.map (·.2)
section
variable {α : Type} [DecidableEq α] {P : Program} {w w' : World} {B : Nat} {kv : α → Value} {l : List (α × Value)} {t kt et : TypeId}
theorem MapIs.lt (h : MapIs w B kv l) : B < w.heap.size := by
  obtain ⟨es, c, hb, _⟩ := h
  exact (Array.getElem?_eq_some_iff.1 hb).1
theorem MapIs.kept {row : Option Nat} (h : MapIs w B kv l) (hg : w.grownBy w' row) (hne : some B ≠ row) : MapIs w' B kv l := by
  have hlt := h.lt
  obtain ⟨es, c, hb, h2⟩ := h
  exact ⟨es, c, (hg.block B hlt hne).trans hb, h2⟩
theorem MapIs.below (h : MapIs w B kv l) (hb : Below w.heap.size w w') : MapIs w' B kv l := by
  have hlt := h.lt
  obtain ⟨es, c, hb2, h2⟩ := h
  exact ⟨es, c, (hb.block B hlt).trans hb2, h2⟩
theorem MapIs.new (w : World) (kv : α → Value) : MapIs (w.alloc (.map #[] 0)) w.heap.size kv [] := ⟨#[], 0, (heap_alloc w _).1, rfl, rfl⟩
/-- the block of a row is none of the map -/
theorem MapIs.not_row {base size n : Nat} {e : TypeId} {v : Value} {xs : List Value} (h : MapIs w B kv l) (ho : w.ownsRow base e size v n xs) : some B ≠ v.ownBlock := by
  obtain ⟨es, c, hb, _⟩ := h
  rcases ho.2 with ⟨rfl, _⟩ | ⟨g, cap, cur, rfl, _, hg, _⟩
  · simp [Value.ownBlock]
  · simp only [Value.ownBlock]
    rintro ⟨⟩
    rw [hb] at hg
    cases hg
theorem MapIs.look_no (h : MapIs w B kv l) (L : KeyLaw P kt kv) (ht : P.underlying t = some (.map kt et)) {z : Value} (hz : (zeroValue et).run P w = .ok z w) (x : α) (hx : x ∉ l.map (·.1)) :
    (Instr.lookup t (.map (some B)) (kv x) false).run P w = .ok z w ∧ (Instr.lookup t (.map (some B)) (kv x) true).run P w = .ok (.tuple #[z, .bool false]) w := by
  obtain ⟨es, c, hb, hk, _⟩ := h
  have hf := L.none x es.toList (l.map (·.1)) w (by rw [hk, List.map_map]; rfl) hx
  constructor
  · simp [Instr.lookup, run_underlying ht, MapKept.run_getObj_map hb, L.check, hf, hz, Result.andThen]
  · simp [Instr.lookup, run_underlying ht, MapKept.run_getObj_map hb, L.check, hf, hz, Result.andThen]
theorem MapIs.look_yes (h : MapIs w B kv l) (L : KeyLaw P kt kv) (ht : P.underlying t = some (.map kt et)) (hn : (l.map (·.1)).Nodup) (x : α) (v : Value) (hx : (x, v) ∈ l) :
    (Instr.lookup t (.map (some B)) (kv x) false).run P w = .ok v w ∧ (Instr.lookup t (.map (some B)) (kv x) true).run P w = .ok (.tuple #[v, .bool true]) w := by
  obtain ⟨es, c, hb, hk, hv⟩ := h
  obtain ⟨i, e, h1, h2, hf⟩ := L.some x es.toList (l.map (·.1)) w (by rw [hk, List.map_map]; rfl) (List.mem_map.2 ⟨_, hx, rfl⟩)
  have hev : e.val = v := by
    obtain ⟨k, hk1, hk2⟩ := List.getElem_of_mem hx
    obtain ⟨hi1, hi2⟩ := List.getElem?_eq_some_iff.1 h1
    have hki : (l.map (·.1))[k]'(by simpa using hk1) = x := by simp [hk2]
    have : k = i := (List.getElem_inj (h₀ := by simpa using hk1) (h₁ := hi1) hn).1 (hki.trans hi2.symm)
    subst this
    have h3 : (es.toList.map (·.val))[k]? = some e.val := by rw [List.getElem?_map, h2]; rfl
    rw [hv, List.getElem?_map, List.getElem?_eq_getElem hk1, hk2] at h3
    simpa using h3.symm
  constructor
  · simp [Instr.lookup, run_underlying ht, MapKept.run_getObj_map hb, L.check, hf, hev, Result.andThen]
  · simp [Instr.lookup, run_underlying ht, MapKept.run_getObj_map hb, L.check, hf, hev, Result.andThen]
/-- 'm[x] = v' of a key that isn't there yet -/
theorem MapIs.put_new (h : MapIs w B kv l) (L : KeyLaw P kt kv) (ht : P.underlying t = some (.map kt et)) (x : α) (v : Value) (hx : x ∉ l.map (·.1)) :
    ∃ w', (Instr.mapUpdate t (.map (some B)) (kv x) v).run P w = .ok () w' ∧ MapIs w' B kv (l ++ [(x, v)]) ∧ w.grownBy w' (some B) := by
  obtain ⟨es, c, hb, hk, hv⟩ := h
  have hf := L.none x es.toList (l.map (·.1)) w (by rw [hk, List.map_map]; rfl) hx
  refine ⟨{ w with heap := w.heap.setIfInBounds B (.map (es.push { key := kv x, val := v, born := c }) (c + 1)) }, ?_, ⟨_, _, (heap_set hb).1, by simp [hk], by simp [hv]⟩, ⟨rfl, rfl, rfl, by simp, fun i _ hi => (MapKept.heap_set hb).2 i (fun e => hi (by rw [e]))⟩⟩
  simp [Instr.mapUpdate, run_underlying ht, MapKept.run_getObj_map hb, L.check, hf, MapKept.run_setObj_map _ hb, Result.andThen]
/-- .. in a walk -/
theorem wpList_put_new {ops : Array Oper} {rest : List Oper} {o : Oper} {a : Act} {Q : Exit → Act → World → Prop}
    (hg : o.guard = none) (m x v : Operand) (t kt et : TypeId) (hop : o.op = Op.mapUpdate t m x v) (B : Nat) (kv : α → Value) (l : List (α × Value)) (h : MapIs w B kv l) (L : KeyLaw P kt kv) (ht : P.underlying t = some (.map kt et)) (y : α) (u : Value)
    (hm : a.eval m = .map (some B)) (hx : a.eval x = kv y) (hv : a.eval v = u) (hy : y ∉ l.map (·.1))
    (hK : ∀ w', MapIs w' B kv (l ++ [(y, u)]) → w.grownBy w' (some B) → wpList P ops Q rest (a.put o.dst undef) w') :
    wpList P ops Q (o :: rest) a w := by
  refine wpList_plain hg fun K' hK' => ?_
  obtain ⟨w', hrun, r1, r2⟩ := h.put_new L ht y u hy
  unfold Oper.wp
  simp [execOp, hop, hm, hx, hv, hrun, Result.andThen]
  exact hK' _ _ (hK w' r1 r2)
end
def sv (s : List UInt8) : Value := .string ⟨s.toArray⟩
theorem sv_inj {a b : List UInt8} (h : sv a = sv b) : a = b := by
  simp only [sv, Value.string.injEq, ByteArray.mk.injEq] at h
  simpa using h
/-- keys that are strings -/
theorem key_str {P : Program} {kt : TypeId} (hk : P.underlying kt = some .string) : KeyLaw P kt sv where
  check := fun b x w => run_checkKey hk (by simp [IsKey, sv]) b 9999
  none := fun x es ys w he hx => by
    have hall : ∀ e ∈ es, IsKey .string e.key := by
      intro e h
      have : e.key ∈ ys.map sv := by rw [← he]; exact List.mem_map.2 ⟨e, h, rfl⟩
      obtain ⟨y, _, hy⟩ := List.mem_map.1 this
      rw [← hy]; simp [IsKey, sv]
    rcases findNow_spec (d := .string) (k := sv x) (by simp [IsKey, sv]) es 0 hall with ⟨h1, _⟩ | ⟨j, e, h1, h2, h3⟩
    · exact run_findKey hk h1
    · exfalso
      apply hx
      have h4 : (es.map (·.key))[j]? = some (sv x) := by rw [List.getElem?_map, h2]; simp [h3]
      rw [he, List.getElem?_map] at h4
      cases h5 : ys[j]? with
      | none => rw [h5] at h4; simp at h4
      | some y =>
        rw [h5] at h4
        simp at h4
        rw [← sv_inj h4]
        exact List.mem_of_getElem? h5
  some := fun x es ys w he hx => by
    have hall : ∀ e ∈ es, IsKey .string e.key := by
      intro e h
      have : e.key ∈ ys.map sv := by rw [← he]; exact List.mem_map.2 ⟨e, h, rfl⟩
      obtain ⟨y, _, hy⟩ := List.mem_map.1 this
      rw [← hy]; simp [IsKey, sv]
    rcases findNow_spec (d := .string) (k := sv x) (by simp [IsKey, sv]) es 0 hall with ⟨h1, h2⟩ | ⟨j, e, h1, h2, h3⟩
    · exfalso
      have : sv x ∈ es.map (·.key) := by rw [he]; exact List.mem_map.2 ⟨x, hx, rfl⟩
      obtain ⟨e, he1, he2⟩ := List.mem_map.1 this
      exact h2 e he1 he2
    · rw [Nat.zero_add] at h1
      have h4 : (es.map (·.key))[j]? = some (sv x) := by rw [List.getElem?_map, h2]; simp [h3]
      rw [he, List.getElem?_map] at h4
      cases h5 : ys[j]? with
      | none => rw [h5] at h4; simp at h4
      | some y =>
        rw [h5] at h4
        simp at h4
        have := sv_inj h4
        subst this
        exact ⟨j, e, h5, h2, run_findKey hk h1⟩
end Go.Proofs.YtnbchikiiipejaaDoor.Mem
