/- Route parts: a map of mirrors in which keys may be put again; what writing mirrors keeps. Route parts, plain: the mirrors of the maps from one on, and of the maps the other way. Route parts: routes whose rows are read; Len, Of, At of them. Route parts: rows of values that are cut, or written beside; a row appended to in a walk; the reference's route while it is made. -/
import Derived.Test.YtnffgomgfabapaaRtF
import Derived.Test.YtnffgomgfabapaaRtJ
import Derived.Test.YtnffgomgfabapaaRtR
import Derived.Test.YtnffgomgfabapaaRtS
import Derived.Test.YtnffgomgfabapaaRtT
import Derived.Test.YtnffgomgfabapaaRtU
import Derived.Deep.Cut
import Derived.Deep.CutRange
namespace Go.Proofs.Ytnffgomgfabapaa.Rt
open Go.RowKit Mem Sm
set_option linter.unusedVariables false

/-- a mirror put: in its key's place, or behind all -/
def putM : List (Int × Int) → Int → Int → List (Int × Int)
  | [], a, v => [(a, v)]
  | q :: r, a, v => if q.1 = a then (a, v) :: r else q :: putM r a v
/-- a key laid: nothing, if it is there -/
def insM : List (Int × Int) → Int → List (Int × Int)
  | [], a => [(a, 0)]
  | q :: r, a => if q.1 = a then q :: r else q :: insM r a
theorem lk_putM : ∀ (l : List (Int × Int)) (a v x : Int), lk (putM l a v) x = if x = a then some v else lk l x
  | [], a, v, x => by
    simp only [putM, lk]
    by_cases h : x = a
    · rw [if_pos h, if_pos h.symm]
    · rw [if_neg h, if_neg (fun e => h e.symm)]
  | q :: r, a, v, x => by
    simp only [putM]
    split
    · rename_i h
      simp only [lk]
      by_cases g : x = a
      · rw [if_pos g, if_pos g.symm]
      · rw [if_neg g, if_neg (fun e => g e.symm), if_neg (fun e => g (by rw [← e]; exact h))]
    · rename_i h
      simp only [lk, lk_putM r a v x]
      by_cases g : x = a
      · rw [if_pos g, if_neg (fun e => h (by rw [e, g])), if_pos g]
      · rw [if_neg g, if_neg g]
theorem mem_putM : ∀ (l : List (Int × Int)) (a v : Int), ∀ q ∈ putM l a v, q = (a, v) ∨ q ∈ l
  | [], a, v, q, h => by simp only [putM, List.mem_singleton] at h; exact .inl h
  | z :: r, a, v, q, h => by
    simp only [putM] at h
    split at h
    · rcases List.mem_cons.1 h with h | h
      · exact .inl h
      · exact .inr (List.mem_cons_of_mem _ h)
    · rcases List.mem_cons.1 h with h | h
      · exact .inr (by rw [h]; simp)
      · rcases mem_putM r a v q h with h | h
        · exact .inl h
        · exact .inr (List.mem_cons_of_mem _ h)
/-- where a key is, or is laid -/
theorem ins_split (a : Int) : ∀ l : List (Int × Int), ∃ l1 m x, insM l a = l1 ++ (a, x) :: m ∧ (∀ q ∈ l1, q.1 ≠ a) ∧ ∀ v, putM l a v = l1 ++ (a, v) :: m
  | [] => ⟨[], [], 0, rfl, fun q h => by simp at h, fun v => rfl⟩
  | q :: r => by
    by_cases h : q.1 = a
    · refine ⟨[], r, q.2, ?_, fun q h => by simp at h, fun v => ?_⟩
      · simp only [insM, if_pos h, List.nil_append]; rw [← h]
      · simp only [putM, if_pos h, List.nil_append]
    · obtain ⟨l1, m, x, e1, e2, e3⟩ := ins_split a r
      refine ⟨q :: l1, m, x, ?_, fun z hz => ?_, fun v => ?_⟩
      · simp only [insM, if_neg h, e1, List.cons_append]
      · rcases List.mem_cons.1 hz with rfl | hz
        · exact h
        · exact e2 z hz
      · simp only [putM, if_neg h, e3, List.cons_append]
theorem ins_new {l : List (Int × Int)} {a : Int} (h : ∀ q ∈ l, q.1 ≠ a) : insM l a = l ++ [(a, 0)] := by
  induction l with
  | nil => rfl
  | cons q r ih => simp only [insM, if_neg (h q (by simp)), ih (fun z hz => h z (List.mem_cons_of_mem _ hz)), List.cons_append]
theorem ins_old {l1 m : List (Int × Int)} {a x : Int} (h : ∀ q ∈ l1, q.1 ≠ a) : insM (l1 ++ (a, x) :: m) a = l1 ++ (a, x) :: m := by
  induction l1 with
  | nil => simp [insM]
  | cons q r ih => simp only [List.cons_append, insM, if_neg (h q (by simp)), ih (fun z hz => h z (List.mem_cons_of_mem _ hz))]
theorem find_old (a x : Int) (m : List (Int × Int)) : ∀ (l1 : List (Int × Int)) (i n : Nat), (∀ q ∈ l1, q.1 ≠ a) → Instr.findNow (.int .i64) (.int .i64 a) (entOf i (l1 ++ (a, x) :: m)) n = some (some (n + l1.length, .int .i64 x))
  | [], i, n, _ => by simp [entOf, Instr.findNow, Instr.sameNow]
  | q :: r, i, n, h => by
    have hb : (a == q.1) = false := by simp; exact fun e => h q (by simp) e.symm
    have ih := find_old a x m r (i + 1) (n + 1) (fun z hz => h z (List.mem_cons_of_mem _ hz))
    have e1 : n + 1 + r.length = n + (r.length + 1) := by omega
    simp [entOf, Instr.findNow, Instr.sameNow, hb, ih, e1]
theorem setB_same {W : World} {B : Nat} {o : Obj} (h : W.heap[B]? = some o) : setB W B o = W := by
  have : W.heap.setIfInBounds B o = W.heap := by
    apply Array.ext_getElem?
    intro j
    by_cases e : j = B
    · subst e; rw [(MapKept.heap_set h).1, h]
    · rw [(MapKept.heap_set h).2 j e]
  unfold setB
  rw [this]
section
variable {P : Program} {t k e : TypeId} {W : World} {B : Nat}
/-- the first half of m[a] = v: where the key's entry is -/
theorem entry_any (hu : P.underlying t = some (.map k e)) (hk : P.underlying k = some (.int .i64)) (hz : (zeroValue e).run P W = .ok (.int .i64 0) W) (l : List (Int × Int)) (hb : W.heap[B]? = some (entB l)) (a : Int) :
    ∃ l1 m x, insM l a = l1 ++ (a, x) :: m ∧ (∀ v, putM l a v = l1 ++ (a, v) :: m) ∧ (Instr.mapEntry t (.map (some B)) (.int .i64 a)).run P W = .ok (.tuple #[.int .i64 x, .int .i64 l1.length]) (setB W B (entB (insM l a))) := by
  cases hl : lk l a with
  | none =>
    have hn := lk_none hl
    have h := entry_new hu hk hz l hb a hn
    refine ⟨l, [], 0, ins_new hn, fun v => ?_, by rw [ins_new hn]; exact h⟩
    obtain ⟨l1, m, x, e1, e2, e3⟩ := ins_split a l
    rw [ins_new hn] at e1
    rw [e3 v]
    have hm : m = [] := by
      cases m with
      | nil => rfl
      | cons z r =>
        exfalso
        have h1 : (a, x) ∈ l ++ [((a : Int), (0 : Int))] := by rw [e1]; simp
        have hlen := congrArg List.length e1
        simp at hlen
        have h2 : (l ++ [((a : Int), (0 : Int))])[l1.length]? = some (a, x) := by rw [e1]; simp
        rw [List.getElem?_append_left (by omega)] at h2
        exact hn _ (List.mem_of_getElem? h2) rfl
    subst hm
    have hlen := congrArg List.length e1
    simp at hlen
    have h3 := List.append_inj e1 (by omega)
    rw [h3.1]
  | some y =>
    obtain ⟨l1, m, x, e1, e2, e3⟩ := ins_split a l
    refine ⟨l1, m, x, e1, e3, ?_⟩
    have hsame : insM l a = l := by
      have hm := lk_some hl
      clear e1 e2 e3 hb
      induction l with
      | nil => simp at hm
      | cons q r ih =>
        simp only [insM]
        split
        · rfl
        · rename_i h
          simp only [lk, if_neg h] at hl
          rw [ih hl (lk_some hl)]
    rw [hsame] at e1 ⊢
    rw [setB_same hb]
    rw [e1] at hb
    unfold entB at hb
    have hf := MapKept.run_findKey (P := P) (w := W) hk (find_old a x m l1 0 0 e2)
    have hc := MapKept.run_checkKey (P := P) (w := W) (k := .int .i64 a) hk rfl false 9999
    have hg : (entOf 0 (l1 ++ (a, x) :: m))[l1.length]? = some { key := .int .i64 a, val := .int .i64 x, born := l1.length } := by rw [ent_get]; simp
    have hst := MapKept.run_keyThatStays (P := P) (w := W) (d := .int .i64) (k := .int .i64 a) rfl
    have hmod : ((entOf 0 (l1 ++ (a, x) :: m)).modify l1.length fun e => { key := .int .i64 a, val := e.val, born := e.born }) = entOf 0 (l1 ++ (a, x) :: m) := by
      apply List.ext_getElem?
      intro j
      rw [List.getElem?_modify]
      by_cases h : l1.length = j
      · subst h; rw [hg]; simp
      · cases (entOf 0 (l1 ++ (a, x) :: m))[j]? <;> simp [h]
    generalize (l1 ++ (a, x) :: m).length = C at hb
    generalize entOf 0 (l1 ++ (a, x) :: m) = E at hb hf hg hmod
    have hset := MapKept.run_setObj_map (P := P) (.map E.toArray C) hb
    have hsb : ({ W with heap := W.heap.setIfInBounds B (.map E.toArray C) } : World) = W := setB_same hb
    rw [hsb] at hset
    simp [Instr.mapEntry, run_underlying hu, MapKept.run_getObj_map hb, hc, hf, hg, hst, hmod, hset, Result.andThen, goInt]
end
/-- a route's cells, and its map -/
structure BindAt (base : Nat) (W : World) (p : Nat) (v mp : Value) (mir : List (Int × Int)) : Prop where
  hp : base ≤ p
  h0 : W.heap[p]? = some (.cells #[v, mp] 60 (0, 0))
  mps : MpAt base W mp mir
/-- what writing mirrors keeps -/
structure BF (base p : Nat) (W W' : World) : Prop where
  os : W'.os = W.os
  tape : W'.tape = W.tape
  output : W'.output = W.output
  size : W.heap.size ≤ W'.heap.size
  low : ∀ k, k < base → W'.heap[k]? = W.heap[k]?
  keep : ∀ (k : Nat) (cs : Array Value) (t : TypeId) (fr : Nat × Nat), W.heap[k]? = some (.cells cs t fr) → k ≠ p → W'.heap[k]? = some (.cells cs t fr)
  walks : ∀ (k : Nat) (o : Obj), W.heap[k]? = some o → BookObj o → W'.heap[k]? = some o
section
variable {base p B : Nat} {W W' W'' : World} {v mp : Value} {mir : List (Int × Int)}
theorem BF.refl (base p : Nat) (W : World) : BF base p W W := ⟨rfl, rfl, rfl, Nat.le_refl _, fun _ _ => rfl, fun _ _ _ _ h _ => h, fun _ _ h _ => h⟩
theorem BF.trans (h : BF base p W W') (k : BF base p W' W'') : BF base p W W'' :=
  ⟨k.os.trans h.os, k.tape.trans h.tape, k.output.trans h.output, Nat.le_trans h.size k.size, fun i hi => (k.low i hi).trans (h.low i hi), fun i cs t fr e hp => k.keep i cs t fr (h.keep i cs t fr e hp) hp, fun i o e hb => k.walks i o (h.walks i o e hb) hb⟩
theorem BF.of_below (hb : Below W.heap.size W W') (hs : base ≤ W.heap.size) : BF base p W W' :=
  ⟨hb.os, hb.tape, hb.output, hb.size, fun k hk => hb.block k (by omega), fun k cs t fr e _ => by rw [hb.block _ (lt_some e)]; exact e, fun k o e _ => by rw [hb.block _ (lt_some e)]; exact e⟩
theorem BF.below (h : BF base p W W') : Below base W W' := ⟨h.os, h.tape, h.output, h.size, h.low⟩
theorem BindAt.cells (h : BindAt base W p v mp mir) : W.cell? ⟨p, 0, none⟩ = some v ∧ W.cell? ⟨p, 1, none⟩ = some mp ∧ W.frozen? ⟨p, 0, none⟩ = false ∧ W.frozen? ⟨p, 1, none⟩ = false := by
  refine ⟨?_, ?_, ?_, ?_⟩
  · simp [World.cell?, h.h0]
  · simp [World.cell?, h.h0]
  · simp [World.frozen?, h.h0]
  · simp [World.frozen?, h.h0]
theorem BindAt.step (h : BindAt base W p v mp mir) (hb : Below W.heap.size W W') : BindAt base W' p v mp mir := by
  refine ⟨h.hp, by rw [hb.block _ (lt_some h.h0)]; exact h.h0, ?_⟩
  rcases h.mps with hn | ⟨B, e1, e2, e3⟩
  · exact .inl hn
  · exact .inr ⟨B, e1, e2, by rw [hb.block _ (lt_some e3)]; exact e3⟩
theorem BindAt.base_le (h : BindAt base W p v mp mir) : base ≤ W.heap.size := by have := lt_some h.h0; have := h.hp; omega
theorem BindAt.block (h : BindAt base W p v (.map (some B)) mir) : base ≤ B ∧ W.heap[B]? = some (entB mir) := by
  rcases h.mps with ⟨e, _⟩ | ⟨B', e, h1, h2⟩
  · cases e
  · injection e with e; injection e with e; subst e; exact ⟨h1, h2⟩
theorem BindAt.putB (h : BindAt base W p v (.map (some B)) mir) (mir' : List (Int × Int)) : BindAt base (setB W B (entB mir')) p v (.map (some B)) mir' := by
  obtain ⟨h1, h2⟩ := h.block
  exact ⟨h.hp, setB_keep h2 h.h0, .inr ⟨B, rfl, h1, setB_at h2⟩⟩
theorem BindAt.putBF (h : BindAt base W p v (.map (some B)) mir) (o : Obj) : BF base p W (setB W B o) := by
  obtain ⟨h1, h2⟩ := h.block
  exact ⟨rfl, rfl, rfl, by rw [setB_size]; exact Nat.le_refl _, fun k hk => setB_else (by omega), fun k cs t fr e _ => setB_keep h2 e, fun k o' e hb => by rw [setB_else (by rintro rfl; rw [h2] at e; injection e with e; exact hb.2 _ _ e.symm)]; exact e⟩
theorem BindAt.newMap (h : BindAt base W p v mp []) : BindAt base ((W.alloc (.map #[] 0)).setCell ⟨p, 1, none⟩ (.map (some W.heap.size))) p v (.map (some W.heap.size)) [] ∧
    BF base p W ((W.alloc (.map #[] 0)).setCell ⟨p, 1, none⟩ (.map (some W.heap.size))) := by
  have hs := h.base_le
  have ha : ∀ (k : Nat) (o : Obj), W.heap[k]? = some o → (W.alloc (.map #[] 0)).heap[k]? = some o := fun k o e => by rw [(MapKept.heap_alloc W _).2 k (lt_some e)]; exact e
  have hn : W.heap.size ≠ p := fun e => by have := lt_some h.h0; omega
  have hk : ∀ (k : Nat) (o : Obj), W.heap[k]? = some o → k ≠ p → ((W.alloc (.map #[] 0)).setCell ⟨p, 1, none⟩ (.map (some W.heap.size))).heap[k]? = some o := fun k o e hne => by
    rw [Below.heap_setCell _ _ _ _ hne]; exact ha k o e
  have hsz : ((W.alloc (.map #[] 0)).setCell ⟨p, 1, none⟩ (.map (some W.heap.size))).heap.size = W.heap.size + 1 := by
    have e : (W.alloc (.map #[] 0)).heap = W.heap.push (.map #[] 0) := rfl
    simp [World.setCell, e]
  refine ⟨⟨h.hp, ?_, .inr ⟨_, rfl, hs, ?_⟩⟩, ⟨rfl, rfl, rfl, by omega, fun k hl => ?_, fun k cs t fr e hne => hk k _ e hne, fun k o e hb => hk k o e (by rintro rfl; rw [h.h0] at e; injection e with e; exact hb.1 _ _ _ e.symm)⟩⟩
  · simp only [World.setCell, Array.getElem?_modify, ha p _ h.h0]; rfl
  · rw [Below.heap_setCell _ _ _ _ hn]; exact (MapKept.heap_alloc W _).1
  · rw [Below.heap_setCell _ _ _ _ (by have := h.hp; simp only; omega), (MapKept.heap_alloc W _).2 k (by omega)]
end
end Go.Proofs.Ytnffgomgfabapaa.Rt
namespace Go.Proofs.Ytnffgomgfabapaa.Rt
open Go.RowKit Mem Sm
set_option linter.unusedVariables false

/-- what holding two routes against each other asks -/
structure RelA (M : List (List Rg)) (O : List Int) (mir : List (Int × Int)) : Prop where
  len : O.length = M.length
  at_ : ∀ i : Nat, i < M.length → O.getD i 0 = (lk mir i).getD (-1)
  pos : ∀ i j : Int, lk mir i = some j → 0 ≤ j
  far : lk mir (M.length : Int) = none
theorem Rel.toA {M : List (List Rg)} {O : List Int} {mir : List (Int × Int)} (h : Rel M O mir) : RelA M O mir :=
  ⟨h.len, h.at_, fun i j e => (h.bound _ (lk_some e)).2.1, lk_out h (.inr (Int.le_refl _))⟩
/-- two mirrors put, each the other's -/
def put2 (l : List (Int × Int)) (a b : Int) : List (Int × Int) := putM (putM l a b) b a
theorem lk_put2 (l : List (Int × Int)) (a b x : Int) : lk (put2 l a b) x = if x = b then some a else if x = a then some b else lk l x := by
  unfold put2; rw [lk_putM, lk_putM]
/-- the mirrors of n maps from the i-th on -/
def frM (mir : List (Int × Int)) (i : Nat) : Nat → List (Int × Int)
  | 0 => []
  | n + 1 => match lk mir ((i + n : Nat) : Int) with
    | some j => if ((i + n : Nat) : Int) < j then put2 (frM mir i n) n (j - i) else frM mir i n
    | none => frM mir i n
theorem lk_frM {mir : List (Int × Int)} {i : Nat} (hs : ∀ a b : Int, lk mir a = some b → lk mir b = some a) (ho : ∀ a b : Int, lk mir a = some b → b ≠ a) : ∀ (n : Nat) (x j : Int), lk (frM mir i n) x = some j ↔ (0 ≤ x ∧ 0 ≤ j ∧ lk mir (i + x) = some (i + j) ∧ (x < n ∨ j < n)) := by
  intro n
  induction n with
  | zero => intro x j; simp only [frM, lk]; constructor
            · intro h; cases h
            · rintro ⟨h1, h2, _, h4⟩; omega
  | succ n ih =>
    intro x j
    simp only [frM]
    cases hk : lk mir ((i + n : Nat) : Int) with
    | none =>
      simp only
      rw [ih]
      constructor
      · rintro ⟨h1, h2, h3, h4⟩; exact ⟨h1, h2, h3, by omega⟩
      · rintro ⟨h1, h2, h3, h4⟩
        refine ⟨h1, h2, h3, ?_⟩
        by_cases g : x = n
        · exfalso
          rw [show ((i : Nat) : Int) + x = ((i + n : Nat) : Int) by omega, hk] at h3; cases h3
        · by_cases g2 : j = n
          · exfalso
            have h5 := hs _ _ h3
            rw [show ((i : Nat) : Int) + j = ((i + n : Nat) : Int) by omega, hk] at h5; cases h5
          · omega
    | some q =>
      simp only
      by_cases hq : ((i + n : Nat) : Int) < q
      · rw [if_pos hq, lk_put2]
        have hq2 := hs _ _ hk
        by_cases g1 : x = q - i
        · rw [if_pos g1]
          constructor
          · intro h; injection h with h
            refine ⟨by omega, by omega, ?_, by omega⟩
            rw [show ((i : Nat) : Int) + x = q by omega, hq2]; congr 1; omega
          · rintro ⟨h1, h2, h3, h4⟩
            rw [show ((i : Nat) : Int) + x = q by omega, hq2] at h3
            injection h3 with h3; congr 1; omega
        · rw [if_neg g1]
          by_cases g2 : x = n
          · rw [if_pos g2]
            constructor
            · intro h; injection h with h
              refine ⟨by omega, by omega, ?_, by omega⟩
              rw [show ((i : Nat) : Int) + x = ((i + n : Nat) : Int) by omega, hk]; congr 1; omega
            · rintro ⟨h1, h2, h3, h4⟩
              rw [show ((i : Nat) : Int) + x = ((i + n : Nat) : Int) by omega, hk] at h3
              injection h3 with h3; congr 1; omega
          · rw [if_neg g2, ih]
            constructor
            · rintro ⟨h1, h2, h3, h4⟩; exact ⟨h1, h2, h3, by omega⟩
            · rintro ⟨h1, h2, h3, h4⟩
              refine ⟨h1, h2, h3, ?_⟩
              by_cases g3 : j = n
              · exfalso
                have h5 := hs _ _ h3
                rw [show ((i : Nat) : Int) + j = ((i + n : Nat) : Int) by omega, hk] at h5
                injection h5 with h5; omega
              · omega
      · rw [if_neg hq, ih]
        have hne := ho _ _ hk
        have hq2 := hs _ _ hk
        constructor
        · rintro ⟨h1, h2, h3, h4⟩; exact ⟨h1, h2, h3, by omega⟩
        · rintro ⟨h1, h2, h3, h4⟩
          refine ⟨h1, h2, h3, ?_⟩
          by_cases g : x = n
          · rw [show ((i : Nat) : Int) + x = ((i + n : Nat) : Int) by omega, hk] at h3
            injection h3 with h3; omega
          · by_cases g2 : j = n
            · have h5 := hs _ _ h3
              rw [show ((i : Nat) : Int) + j = ((i + n : Nat) : Int) by omega, hk] at h5
              injection h5 with h5; omega
            · omega
/-- the reference's numbers of the maps from the i-th on -/
def frO (O : List Int) (i : Nat) : List Int := (O.drop i).map fun o => if (i : Int) ≤ o then o - i else -1
theorem rel_from {M : List (List Rg)} {O : List Int} {mir : List (Int × Int)} (h : Rel M O mir) {i : Nat} (hi : i ≤ M.length) : RelA (M.drop i) (frO O i) (frM mir i (M.length - i)) := by
  have hL := fun x j => lk_frM (i := i) h.sym h.other (M.length - i) x j
  refine ⟨by simp [frO, h.len], fun k hk => ?_, fun a b e => ((hL a b).1 e).2.1, ?_⟩
  · rw [List.length_drop] at hk
    have hk2 : i + k < O.length := by rw [h.len]; omega
    have e1 : (frO O i).getD k 0 = if (i : Int) ≤ O.getD (i + k) 0 then O.getD (i + k) 0 - i else -1 := by
      simp [frO, List.getD, hk2]
    rw [e1, h.at_ (i + k) (by omega)]
    cases hl : lk mir ((i + k : Nat) : Int) with
    | none =>
      simp only [Option.getD_none]
      rw [if_neg (by omega)]
      cases hf : lk (frM mir i (M.length - i)) (k : Int) with
      | none => rfl
      | some j =>
        have := ((hL _ _).1 hf).2.2.1
        rw [show ((i : Nat) : Int) + (k : Int) = ((i + k : Nat) : Int) by omega, hl] at this; cases this
    | some j =>
      simp only [Option.getD_some]
      by_cases g : (i : Int) ≤ j
      · rw [if_pos g]
        have : lk (frM mir i (M.length - i)) (k : Int) = some (j - i) := (hL _ _).2 ⟨by omega, by omega, by rw [show ((i : Nat) : Int) + (k : Int) = ((i + k : Nat) : Int) by omega, hl]; congr 1; omega, by omega⟩
        rw [this]; rfl
      · rw [if_neg g]
        cases hf : lk (frM mir i (M.length - i)) (k : Int) with
        | none => rfl
        | some q =>
          have := (hL _ _).1 hf
          rw [show ((i : Nat) : Int) + (k : Int) = ((i + k : Nat) : Int) by omega, hl] at this
          have h1 := this.2.1
          have h2 := this.2.2.1
          injection h2 with h2; omega
  · rw [List.length_drop]
    cases hf : lk (frM mir i (M.length - i)) ((M.length - i : Nat) : Int) with
    | none => rfl
    | some q =>
      have := (hL _ _).1 hf
      have h2 := this.2.2.1
      rw [show ((i : Nat) : Int) + ((M.length - i : Nat) : Int) = (M.length : Int) by omega, lk_out h (.inr (Int.le_refl _))] at h2
      cases h2
/-- the mirrors of the last n of N maps, the other way -/
def ivM (mir : List (Int × Int)) (N : Nat) : Nat → List (Int × Int)
  | 0 => []
  | n + 1 => match lk mir ((N - 1 - n : Nat) : Int) with
    | some j => put2 (ivM mir N n) ((N : Int) - 1 - (N - 1 - n : Nat)) ((N : Int) - 1 - j)
    | none => ivM mir N n
theorem lk_ivM {mir : List (Int × Int)} {N : Nat} (hs : ∀ a b : Int, lk mir a = some b → lk mir b = some a) : ∀ (n : Nat) (_ : n ≤ N) (x j : Int), lk (ivM mir N n) x = some j ↔ (lk mir ((N : Int) - 1 - x) = some ((N : Int) - 1 - j) ∧ ((0 ≤ x ∧ x < n) ∨ (0 ≤ j ∧ j < n))) := by
  intro n
  induction n with
  | zero => intro _ x j; simp only [ivM, lk]; constructor
            · intro h; cases h
            · rintro ⟨_, h4⟩; omega
  | succ n ih =>
    intro hn x j
    have ih := ih (by omega)
    simp only [ivM]
    have hK : ((N - 1 - n : Nat) : Int) = (N : Int) - 1 - n := by omega
    rw [hK]
    cases hk : lk mir ((N : Int) - 1 - n) with
    | none =>
      simp only
      rw [ih]
      constructor
      · rintro ⟨h3, h4⟩; exact ⟨h3, by omega⟩
      · rintro ⟨h3, h4⟩
        refine ⟨h3, ?_⟩
        by_cases g : x = n
        · exfalso; rw [g, hk] at h3; cases h3
        · by_cases g2 : j = n
          · exfalso
            have h5 := hs _ _ h3
            rw [g2, hk] at h5; cases h5
          · omega
    | some q =>
      simp only
      have hq2 := hs _ _ hk
      rw [lk_put2]
      by_cases g1 : x = (N : Int) - 1 - q
      · rw [if_pos g1]
        have e1 : (N : Int) - 1 - x = q := by omega
        rw [e1, hq2]
        constructor
        · intro h; injection h with h
          exact ⟨by congr 1; omega, by omega⟩
        · rintro ⟨h3, h4⟩
          injection h3 with h3; congr 1; omega
      · rw [if_neg g1]
        by_cases g2 : x = (N : Int) - 1 - ((N : Int) - 1 - n)
        · rw [if_pos g2]
          have e1 : (N : Int) - 1 - x = (N : Int) - 1 - n := by omega
          rw [e1, hk]
          constructor
          · intro h; injection h with h
            exact ⟨by congr 1; omega, by omega⟩
          · rintro ⟨h3, h4⟩
            injection h3 with h3; congr 1; omega
        · rw [if_neg g2, ih]
          constructor
          · rintro ⟨h3, h4⟩; exact ⟨h3, by omega⟩
          · rintro ⟨h3, h4⟩
            refine ⟨h3, ?_⟩
            by_cases g3 : j = n
            · exfalso
              have h5 := hs _ _ h3
              rw [g3, hk] at h5
              injection h5 with h5; omega
            · omega
/-- the reference's numbers, the other way -/
def ivO (O : List Int) : List Int := O.reverse.map fun o => if 0 ≤ o then (O.length : Int) - 1 - o else -1
theorem rel_invert {M M' : List (List Rg)} {O : List Int} {mir : List (Int × Int)} (h : Rel M O mir) (hl : M'.length = M.length) : RelA M' (ivO O) (ivM mir M.length M.length) := by
  have hL := fun x j => lk_ivM (N := M.length) h.sym M.length (Nat.le_refl _) x j
  have hb : ∀ a b : Int, lk mir a = some b → (0 ≤ a ∧ a < M.length) ∧ 0 ≤ b ∧ b < M.length := fun a b e => h.bound _ (lk_some e)
  refine ⟨by simp [ivO, h.len, hl], fun k hk => ?_, fun a b e => ?_, ?_⟩
  · rw [hl] at hk
    have hk2 : M.length - 1 - k < O.length := by rw [h.len]; omega
    have e1 : (ivO O).getD k 0 = if 0 ≤ O.getD (M.length - 1 - k) 0 then (M.length : Int) - 1 - O.getD (M.length - 1 - k) 0 else -1 := by
      have hkl : k < O.length := by rw [h.len]; exact hk
      have e2 : O.length - 1 - k = M.length - 1 - k := by rw [h.len]
      unfold ivO List.getD
      rw [List.getElem?_map, List.getElem?_reverse hkl, e2, List.getElem?_eq_getElem hk2, h.len]
      rfl
    rw [e1, h.at_ (M.length - 1 - k) (by omega)]
    have e3 : ((M.length - 1 - k : Nat) : Int) = (M.length : Int) - 1 - k := by omega
    rw [e3]
    cases hl2 : lk mir ((M.length : Int) - 1 - k) with
    | none =>
      simp only [Option.getD_none]
      rw [if_neg (by omega)]
      cases hf : lk (ivM mir M.length M.length) (k : Int) with
      | none => rfl
      | some j =>
        have := ((hL _ _).1 hf).1
        rw [hl2] at this; cases this
    | some j =>
      have hj := hb _ _ hl2
      simp only [Option.getD_some]
      rw [if_pos hj.2.1]
      have : lk (ivM mir M.length M.length) (k : Int) = some ((M.length : Int) - 1 - j) := (hL _ _).2 ⟨by rw [hl2]; congr 1; omega, by omega⟩
      rw [this]; rfl
  · have := hb _ _ ((hL _ _).1 e).1
    omega
  · rw [hl]
    cases hf : lk (ivM mir M.length M.length) (M.length : Int) with
    | none => rfl
    | some q =>
      have := hb _ _ ((hL _ _).1 hf).1
      omega
end Go.Proofs.Ytnffgomgfabapaa.Rt
namespace Go.Proofs.Ytnffgomgfabapaa.Rt
open Go.RowKit Mem Sm
set_option linter.unusedVariables false

/-- a route that is read: its row may lie anywhere in a block -/
structure RdAt (base : Nat) (W : World) (p : Nat) (A : Option Addr) (c : Nat) (mp : Value) (vs : List Value) (M : List (List Rg)) (mir : List (Int × Int)) : Prop where
  h0 : W.heap[p]? = some (.cells #[.slice A M.length c, mp] 60 (0, 0))
  row : VRow W A M.length vs
  sls : Sls W vs M
  mps : MpAt base W mp mir
/-- the reference's likewise -/
structure XRd (n₀ base : Nat) (W : World) (A : Option Addr) (c : Nat) (ov : Value) (vs : List Value) (M : List (List Rg)) (O : List Int) : Prop where
  mrow : VRow W A M.length vs
  each : ∀ (i : Nat) (u : Value) (m : List Rg), vs[i]? = some u → M[i]? = some m → LowV n₀ W u m
  orow : W.ownsRow base 3 1 ov O.length (ints O)
section
variable {n₀ base p c : Nat} {A : Option Addr} {W W' : World} {v mp mv ov : Value} {vs : List Value} {M : List (List Rg)} {O : List Int} {mir : List (Int × Int)}
theorem RtAt.read (h : RtAt base W p v mp vs M mir) : ∃ A c, v = .slice A M.length c ∧ RdAt base W p A c mp vs M mir := by
  obtain ⟨A, c, e, _, hr, _⟩ := own_form h.row
  subst e
  exact ⟨A, c, rfl, h.h0, hr, h.sls, h.mps⟩
theorem XAt.read (h : XAt n₀ base W mv ov vs M O) : ∃ A c, mv = .slice A M.length c ∧ XRd n₀ base W A c ov vs M O := by
  obtain ⟨A, c, e, _, hr, _⟩ := own_form h.mrow
  exact ⟨A, c, e, hr, h.each, h.orow⟩
theorem RdAt.step (h : RdAt base W p A c mp vs M mir) (hb : Below W.heap.size W W') : RdAt base W' p A c mp vs M mir := by
  refine ⟨by rw [hb.block _ (lt_some h.h0)]; exact h.h0, h.row.below hb, h.sls.keep hb.size fun k cs fr e => by rw [hb.block _ (lt_some e)]; exact e, ?_⟩
  rcases h.mps with hn | ⟨B, e1, e2, e3⟩
  · exact .inl hn
  · exact .inr ⟨B, e1, e2, by rw [hb.block _ (lt_some e3)]; exact e3⟩
theorem XRd.step (h : XRd n₀ base W A c ov vs M O) (hb : Below W.heap.size W W') (hn : n₀ ≤ W.heap.size) : XRd n₀ base W' A c ov vs M O :=
  ⟨h.mrow.below hb, fun i u m h1 h2 => (h.each i u m h1 h2).keep hb hn, own_keep h.orow (grown_below hb) (fun g e => by cases e)⟩
theorem RdAt.cells (h : RdAt base W p A c mp vs M mir) : W.cell? ⟨p, 0, none⟩ = some (.slice A M.length c) ∧ W.cell? ⟨p, 1, none⟩ = some mp ∧ W.frozen? ⟨p, 0, none⟩ = false ∧ W.frozen? ⟨p, 1, none⟩ = false := by
  refine ⟨?_, ?_, ?_, ?_⟩
  · simp [World.cell?, h.h0]
  · simp [World.cell?, h.h0]
  · simp [World.frozen?, h.h0]
  · simp [World.frozen?, h.h0]
theorem RdAt.nth (h : RdAt base W p A c mp vs M mir) {j : Nat} (hj : j < M.length) : ∃ g og A' c', A = some ⟨g, og, none⟩ ∧ W.cell? ⟨g, og + j, none⟩ = some (.slice A' (M[j]).length c') ∧ RRow W A' (M[j]).length M[j] := by
  obtain ⟨g, og, e, _, hc⟩ := h.row.2 (by omega)
  have hv : j < vs.length := by rw [h.sls.1]; exact hj
  obtain ⟨A', c', e2, hr, _⟩ := h.sls.2 j vs[j] M[j] (List.getElem?_eq_getElem hv) (List.getElem?_eq_getElem hj)
  exact ⟨g, og, A', c', e, by rw [hc j _ (List.getElem?_eq_getElem hv), e2], hr⟩
theorem XRd.nth (h : XRd n₀ base W A c ov vs M O) {i : Nat} (hi : i < M.length) : ∃ g og A' c', A = some ⟨g, og, none⟩ ∧ g < W.heap.size ∧ W.cell? ⟨g, og + i, none⟩ = some (.slice A' (M[i]).length c') ∧ RLow n₀ W A' (M[i]).length M[i] := by
  obtain ⟨g, og, e, hl, hc⟩ := h.mrow.2 (by omega)
  have hv : i < vs.length := by rw [h.mrow.1]; exact hi
  obtain ⟨A', c', e2, hr⟩ := h.each i vs[i] M[i] (List.getElem?_eq_getElem hv) (List.getElem?_eq_getElem hi)
  exact ⟨g, og, A', c', e, hl, by rw [hc i _ (List.getElem?_eq_getElem hv), e2], hr⟩
end
theorem len2_any (base p : Nat) (Ap : Option Addr) (cp : Nat) (mp : Value) (vs : List Value) (M : List (List Rg)) (mir : List (Int × Int)) (w : World) (h : RdAt base w p Ap cp mp vs M mir) :
    Calls Try.prog 10 #[.pointer (some ⟨p, 0, none⟩)] w fun e w' => e = .returned (.int .i64 M.length) ∧ Below w.heap.size w w' := by
  have hc := h.cells.1
  have HB := Lib.hid (Below.refl w.heap.size w)
  clear h
  go_enter Try.func10, Try.ntmps10
  go_wp2
  go_ret
  exact ⟨rfl, HB.out⟩
theorem of2_any (base p : Nat) (Ap : Option Addr) (cp : Nat) (mp : Value) (vs : List Value) (M : List (List Rg)) (mir : List (Int × Int)) (i : Int) (w : World) (h : RdAt base w p Ap cp mp vs M mir) :
    Calls Try.prog 6 #[.pointer (some ⟨p, 0, none⟩), .int .i64 i] w fun e w' => e = .returned (.tuple #[.int .i64 ((lk mir i).getD 0), .bool (lk mir i).isSome]) ∧ w' = w := by
  have hLk := look_mp (P := Try.prog) (e := 3) Try.underlying58 Try.underlying3 (by go_simp; try rfl) h.mps i
  have hc1 := h.cells.2.1
  generalize (lk mir i).getD 0 = k at hLk ⊢
  generalize (lk mir i).isSome = b at hLk ⊢
  clear h
  go_enter Try.func6, Try.ntmps6
  go_wp2
  go_ret2
  exact ⟨rfl, rfl⟩
theorem at2_any (base p : Nat) (Ap : Option Addr) (cp : Nat) (mp : Value) (vs : List Value) (M : List (List Rg)) (mir : List (Int × Int)) (i : Int) (w : World) (hM : M.length ≤ 1000) (hm : ∀ m ∈ M, m.length ≤ 100) (h : RdAt base w p Ap cp mp vs M mir) :
    Calls Try.prog 11 #[.pointer (some ⟨p, 0, none⟩), .int .i64 i] w (RgsIs w (atL M i)) := by
  have CL := len2_any base p Ap cp mp vs M mir w h
  have HT := Lib.hid h
  obtain ⟨L, hL⟩ : ∃ L, L = atL M i := ⟨_, rfl⟩
  rw [← hL]
  have HL := Lib.hid hL
  clear h hL
  by_cases h0 : i < 0
  · have e : L = [] := by rw [HL.out]; unfold atL; rw [if_neg (by omega)]
    subst e
    go_enter Try.func11, Try.ntmps11
    go_wp2
    go_ret
    exact ⟨_, rfl, Rgs.nil, Below.refl _ _⟩
  · by_cases h1 : (M.length : Int) ≤ i
    · have e : L = [] := by rw [HL.out]; unfold atL; rw [if_neg (by omega)]
      subst e
      go_enter Try.func11, Try.ntmps11
      go_wp2_with fail
      refine CL.mono ?_
      rintro e w1 ⟨rfl, hb⟩
      have HB := Lib.hid hb
      clear hb CL
      go_wp2
      go_ret
      exact ⟨_, rfl, Rgs.nil, HB.out⟩
    · obtain ⟨k, rfl⟩ : ∃ k : Nat, i = k := ⟨i.toNat, by omega⟩
      have hk : k < M.length := by omega
      have e : L = M[k] := by rw [HL.out]; unfold atL; rw [if_pos (by omega)]; simp [List.getD, hk]
      have hkm := hm _ (List.getElem_mem hk)
      have HE := Lib.hid e
      rw [← e] at hkm
      clear e
      go_enter Try.func11, Try.ntmps11
      go_wp2_with fail
      refine CL.mono ?_
      rintro e w1 ⟨rfl, hb⟩
      have HB := Lib.hid hb
      have HT1 := HT.out.step hb
      obtain ⟨hc0, _, _, _⟩ := HT1.cells
      obtain ⟨g, og, A, c, hv, hcell, hrow⟩ := HT1.nth hk
      subst hv
      rw [← HE.out] at hcell hrow
      have i1 : (0 : Int) ≤ (k : Int) := by omega
      have i2 : (k : Int) < (M.length : Int) := by omega
      have CC := clone_any L A _ c w1 hkm hrow
      clear hb CL HT1 hrow
      go_wp2_with fail
      refine CC.mono ?_
      rintro e w2 ⟨u, rfl, ho, hb2⟩
      have HO := Lib.hid ho
      have HB2 := Lib.hid (HB.out.trans (hb2.mono HB.out.size))
      obtain ⟨A2, c2, hu, _⟩ := ho.row
      subst hu
      clear hb2 ho CC
      go_wp2
      go_ret
      exact ⟨_, rfl, ⟨HO.out.lower HB.out.size, HB2.out⟩⟩
/-- what holds while two routes are held against each other -/
def LB (w : World) (mv ov : Value) (W : World) : Prop := Below w.heap.size w W ∧ W.heap[w.heap.size]? = some (.cells #[mv, ov] 44 (0, 0))
theorem LB.step {w W W' : World} {mv ov : Value} (h : LB w mv ov W) (hb : Below W.heap.size W W') : LB w mv ov W' := ⟨h.1.trans (hb.mono h.1.size), by rw [hb.block _ (lt_some h.2)]; exact h.2⟩
theorem LB.made (w : World) (mv ov : Value) : LB w mv ov (w.alloc (.cells #[mv, ov] 44)) := ⟨(Below.refl _ _).alloc (Nat.le_refl _) _, heap_alloc_new w _⟩
end Go.Proofs.Ytnffgomgfabapaa.Rt
namespace Go.Proofs.Ytnffgomgfabapaa.Rt
open Go.RowKit Mem Sm
set_option linter.unusedVariables false

theorem set_else {W : World} {h k j : Nat} (hk : k ≠ h) (v : Value) : (W.setCell ⟨h, j, none⟩ v).heap[k]? = W.heap[k]? := Below.heap_setCell W ⟨h, j, none⟩ v k hk
theorem set_at {W : World} {h j : Nat} {xs : Array Value} {t : TypeId} {fr : Nat × Nat} (e : W.heap[h]? = some (.cells xs t fr)) (v : Value) : (W.setCell ⟨h, j, none⟩ v).heap[h]? = some (.cells (xs.setIfInBounds j v) t fr) := by
  simp [World.setCell, Array.getElem?_modify, e]
theorem hkeep {W W' : World} (hb : Below W.heap.size W W') {k : Nat} {o : Obj} (h : W.heap[k]? = some o) : W'.heap[k]? = some o := by
  rw [hb.block _ (lt_some h)]; exact h
theorem cell_box {W : World} {k : Nat} {v : Value} {t : TypeId} {fr : Nat × Nat} (h : W.heap[k]? = some (.cells #[v] t fr)) : W.cell? ⟨k, 0, none⟩ = some v := by
  unfold World.cell?; simp only [h]; rfl
/-- a number between 0 and how many there are -/
def clip (a : Int) (n : Nat) : Nat := if a < 0 then 0 else if a.toNat ≤ n then a.toNat else n
theorem clip_le (a : Int) (n : Nat) : clip a n ≤ n := by
  unfold clip
  split
  · omega
  · split <;> omega
theorem clip_is (a : Int) (n : Nat) : (a ≤ 0 ∧ clip a n = 0) ∨ (0 ≤ a ∧ a ≤ n ∧ (clip a n : Int) = a) ∨ ((n : Int) ≤ a ∧ clip a n = n) := by
  unfold clip
  split
  · left; omega
  · split
    · right; left; omega
    · right; right; omega
theorem vrow_drop {W : World} {g off n i : Nat} {us : List Value} (h : VRow W (some ⟨g, off, none⟩) n us) (hi : i ≤ n) : VRow W (some ⟨g, off + i, none⟩) (n - i) (us.drop i) := by
  refine ⟨by rw [List.length_drop, h.1], fun hn => ?_⟩
  obtain ⟨b, o, e, hl, hc⟩ := h.2 (by omega)
  simp only [Option.some.injEq, Addr.mk.injEq, and_true] at e
  obtain ⟨rfl, rfl⟩ := e
  refine ⟨g, off + i, rfl, hl, fun j u hj => ?_⟩
  rw [Nat.add_assoc]
  exact hc (i + j) u (by rw [List.getElem?_drop] at hj; exact hj)
theorem vrow_end {W : World} {A A' : Option Addr} {n i : Nat} {us : List Value} (h : VRow W A n us) (hi : n ≤ i) : VRow W A' (n - i) (us.drop i) :=
  ⟨by rw [List.length_drop, h.1], fun g => absurd g (by omega)⟩
theorem vrow_none {W : World} {n i : Nat} {us : List Value} (h : VRow W none n us) : n = 0 ∧ us = [] := by
  have h0 : n = 0 := by
    rcases Nat.eq_zero_or_pos n with g | g
    · exact g
    · obtain ⟨_, _, e, _⟩ := h.2 g; cases e
  subst h0
  exact ⟨rfl, List.eq_nil_of_length_eq_zero h.1⟩
theorem vrow_lit (W : World) (u : Value) (t : TypeId) : VRow (W.alloc (.cells #[u] t)) (some ⟨W.heap.size, 0, none⟩) 1 [u] := by
  refine ⟨rfl, fun _ => ⟨W.heap.size, 0, rfl, by simp, fun j x hj => ?_⟩⟩
  have hh := heap_alloc_new W (.cells #[u] t)
  cases j with
  | zero =>
    simp at hj
    subst hj
    unfold World.cell?
    simp only [Nat.zero_add]
    rw [hh]
    rfl
  | succ j => simp at hj
theorem own_ty {w : World} {base n : Nat} {e : TypeId} {v : Value} {us : List Value} (h : w.ownsRow base e 1 v n us) : ∀ g, blkOf v = some g → ∃ cs fr, w.heap[g]? = some (.cells cs e fr) := by
  intro g hg
  rcases h.2 with ⟨rfl, _⟩ | ⟨g', cap, cur, rfl, _, hh, _⟩
  · cases hg
  · simp only [blkOf, Option.some.injEq] at hg
    subst hg
    exact ⟨_, _, hh⟩
theorem grown_set1 (W : World) (q j : Nat) (u : Value) : W.grownBy (W.setCell ⟨q, j, none⟩ u) (some q) := by
  have h := (Below.refl q W).setCell (p := ⟨q, j, none⟩) (Nat.le_refl q) u
  exact ⟨h.os, h.tape, h.output, h.size, fun k _ hne => Below.heap_setCell _ _ _ _ (fun e => hne (by rw [e]))⟩
/-- a row outlives a write to a block of another type -/
theorem own_else {W : World} {base n q j : Nat} {e t : TypeId} {v u : Value} {us : List Value} {cs : Array Value} {fr : Nat × Nat} (h : W.ownsRow base e 1 v n us) (hq : W.heap[q]? = some (.cells cs t fr)) (ht : t ≠ e) : (W.setCell ⟨q, j, none⟩ u).ownsRow base e 1 v n us :=
  own_keep h (grown_set1 W q j u) (fun g eg hb => by
    injection eg with eg
    subst eg
    obtain ⟨cs', fr', hh⟩ := own_ty h _ hb
    rw [hq] at hh
    injection hh with hh
    injection hh with _ h6 _
    exact ht h6)
/-- 'append(v, ys...)' in a walk -/
theorem wpList_app_v {P : Program} {w : World} {ops : Array Oper} {rest : List Oper} {o : Oper} {a : Act} {Q : Exit → Act → World → Prop} (hgd : o.guard = none) (s x : Operand) (t : TypeId)
    (ho : o.op = .call { callee := .builtin .append, args := #[s, x], argTypes := #[t, t] })
    (base : Nat) (e : TypeId) (z : Value) (bytes : Nat) (ht : P.underlying t = some (.slice e)) (hi : (P.info? e).map (fun i => (i.zero, i.size, i.bytes)) = some (some z, 1, bytes)) (hb8 : bytes ≤ 24) (hzs : z.cells.size = 1)
    (v : Value) (n : Nat) (xs : List Value) (hs : a.eval s = v) (hown : w.ownsRow base e 1 v n xs)
    (A : Option Addr) (m c : Nat) (ys : List Value) (hx : a.eval x = .slice A m c) (hr : VRow w A m ys) (h1 : ∀ u ∈ ys, u.oneCell' = true) (hbig : n + m ≤ 1000000) (hbase : base ≤ w.heap.size)
    (h : ∀ v' w', w'.ownsRow base e 1 v' (n + m) (xs ++ ys) → w.grownBy w' v.ownBlock → (v'.ownBlock = v.ownBlock ∨ v'.ownBlock = some w.heap.size) → wpList P ops Q rest (a.put o.dst v') w') :
    wpList P ops Q (o :: rest) a w := by
  obtain ⟨i, hi, hiz, his, hib⟩ := info_parts hi
  refine wpList_plain hgd fun K hK => ?_
  obtain ⟨v', w', hrun, h2, h3, h4⟩ := run_app_v (P := P) base t o.type e i z bytes ht hi hiz his hib hb8 hzs hown (c := c) hr h1 hbig hbase
  unfold Oper.wp
  simp [execOp, ho, resolve, invoke, builtin, hs, hx, hrun, Result.andThen]
  exact hK _ _ (h v' w' h2 h3 h4)
/-- a reference's route that is made: what came in, the result's cell, and the route -/
structure LG (w W : World) (mv ov m' o' : Value) : Prop where
  hb : Below w.heap.size w W
  x2 : W.heap[w.heap.size]? = some (.cells #[mv, ov] 44 (0, 0))
  x4 : W.heap[w.heap.size + 1]? = some (.cells #[.slice none 0 0, .slice none 0 0] 44 (0, 0))
  x5 : W.heap[w.heap.size + 2]? = some (.cells #[m', o'] 44 (0, 0))
section
variable {w W W' : World} {mv ov m' o' m1 o1 : Value}
theorem LG.step (h : LG w W mv ov m' o') (hb : Below W.heap.size W W') : LG w W' mv ov m' o' :=
  ⟨h.hb.trans (hb.mono h.hb.size), by rw [hb.block _ (lt_some h.x2)]; exact h.x2, by rw [hb.block _ (lt_some h.x4)]; exact h.x4, by rw [hb.block _ (lt_some h.x5)]; exact h.x5⟩
theorem LG.size (h : LG w W mv ov m' o') : w.heap.size + 3 ≤ W.heap.size := by have := lt_some h.x5; omega
theorem LG.made (w : World) (mv ov m' : Value) : LG w (((w.alloc (.cells #[mv, ov] 44)).alloc (.cells #[.slice none 0 0, .slice none 0 0] 44)).alloc (.cells #[m', .slice none 0 0] 44)) mv ov m' (.slice none 0 0) := by
  have h1 := heap_alloc_new w (.cells #[mv, ov] 44)
  have h2 := heap_alloc_new (w.alloc (.cells #[mv, ov] 44)) (.cells #[.slice none 0 0, .slice none 0 0] 44)
  have h3 := heap_alloc_new ((w.alloc (.cells #[mv, ov] 44)).alloc (.cells #[.slice none 0 0, .slice none 0 0] 44)) (.cells #[m', .slice none 0 0] 44)
  rw [show (w.alloc (.cells #[mv, ov] 44)).heap.size = w.heap.size + 1 by simp] at h2
  rw [show ((w.alloc (.cells #[mv, ov] 44)).alloc (.cells #[.slice none 0 0, .slice none 0 0] 44)).heap.size = w.heap.size + 2 by simp] at h3
  refine ⟨(((Below.refl _ _).alloc (Nat.le_refl _) _).alloc (by simp) _).alloc (by simp; omega) _, ?_, ?_, h3⟩
  · rw [Below.heap_alloc _ _ _ (by simp; omega), Below.heap_alloc _ _ _ (by simp)]; exact h1
  · rw [Below.heap_alloc _ _ _ (by simp)]; exact h2
/-- a row of another type is grown -/
theorem LG.grown {base n : Nat} {e : TypeId} {v : Value} {us : List Value} (h : LG w W mv ov m' o') (hv : W.ownsRow base e 1 v n us) (hbase : w.heap.size ≤ base) (he : e ≠ 44) (hg : W.grownBy W' v.ownBlock) : LG w W' mv ov m' o' := by
  have hne : ∀ (k : Nat) (cs : Array Value) (fr : Nat × Nat), W.heap[k]? = some (.cells cs 44 fr) → W'.heap[k]? = some (.cells cs 44 fr) := fun k cs fr hk => by
    rw [hg.block k (lt_some hk) (fun e2 => ?_)]
    · exact hk
    · rw [own_blk hv] at e2
      obtain ⟨cs', fr', hh⟩ := own_ty hv _ e2.symm
      rw [hk] at hh
      injection hh with hh
      injection hh with _ h6 _
      exact he h6.symm
  refine ⟨?_, hne _ _ _ h.x2, hne _ _ _ h.x4, hne _ _ _ h.x5⟩
  refine h.hb.trans ⟨hg.os, hg.tape, hg.output, hg.size, fun k hk => ?_⟩
  refine hg.block k (Nat.lt_of_lt_of_le hk h.hb.size) (fun e2 => ?_)
  rw [own_blk hv] at e2
  have := (own_young hv k e2.symm).2
  omega
theorem LG.set1 (h : LG w W mv ov m' o') (u : Value) : LG w (W.setCell ⟨w.heap.size + 2, 1, none⟩ u) mv ov m' u := by
  refine ⟨h.hb.setCell (p := ⟨w.heap.size + 2, 1, none⟩) (by simp) u, ?_, ?_, ?_⟩
  · rw [Below.heap_setCell _ _ _ _ (by simp)]; exact h.x2
  · rw [Below.heap_setCell _ _ _ _ (by simp)]; exact h.x4
  · simp [World.setCell, Array.getElem?_modify, h.x5]
theorem LG.set0 (h : LG w W mv ov m' o') (u : Value) : LG w (W.setCell ⟨w.heap.size + 2, 0, none⟩ u) mv ov u o' := by
  refine ⟨h.hb.setCell (p := ⟨w.heap.size + 2, 0, none⟩) (by simp) u, ?_, ?_, ?_⟩
  · rw [Below.heap_setCell _ _ _ _ (by simp)]; exact h.x2
  · rw [Below.heap_setCell _ _ _ _ (by simp)]; exact h.x4
  · simp [World.setCell, Array.getElem?_modify, h.x5]
end
theorem take_drop_snoc (O : List Int) (i k : Nat) (h : i + k < O.length) : (frO O i).take (k + 1) = (frO O i).take k ++ [if (i : Int) ≤ O.getD (i + k) 0 then O.getD (i + k) 0 - i else -1] := by
  have hk : k < (frO O i).length := by simp [frO]; omega
  rw [List.take_succ_eq_append_getElem hk]
  congr 2
  simp [frO, List.getD, h]
end Go.Proofs.Ytnffgomgfabapaa.Rt
