/- Walks of route: check, Add. Walks of route: mirrors are put (the entries of the map). -/
import Derived.Test.YtgodphfkhmahnaaRtB
import Derived.Test.YtgodphfkhmahnaaSmI
import Derived.MapKept
namespace Go.Proofs.Ytgodphfkhmahnaa.Rt
open Go.RowKit Mem Sm
set_option linter.unusedVariables false

noncomputable def chkE (l : List Rg) : Int := if rightB l = true then 0 else 1
set_option maxRecDepth 100000 in
set_option maxHeartbeats 1000000 in
theorem check_any (base p : Nat) (v mp : Value) (vs : List Value) (M : List (List Rg)) (mir : List (Int × Int)) (l : List Rg) (A : Option Addr) (n c : Nat) (W : World) (hM : M.length ≤ 1000) (hn : n ≤ 100)
    (h : RtAt base W p v mp vs M mir) (hr : RRow W A n l) :
    Calls Try.prog 40 #[.pointer (some ⟨p, 0, none⟩), .slice A n c] W fun e W' => e = .returned (.int .i64 (chkE l)) ∧ Below W.heap.size W W' := by
  obtain ⟨A1, c1, hv⟩ := h.form
  subst hv
  have CR := pright_any l A n c W hn (RLow.of hr)
  have HT := Lib.hid h
  obtain ⟨E, hE⟩ : ∃ x, x = chkE l := ⟨_, rfl⟩
  rw [← hE]
  have HE := Lib.hid hE
  obtain ⟨NL, hNL⟩ : ∃ x, x = M.length := ⟨_, rfl⟩
  have HNL := Lib.hid hNL
  have hM' : ¬ (5000 ≤ NL) := by omega
  clear h hr hE hNL hM
  go_enter Try.func40, Try.ntmps40
  go_wp2_with fail
  refine CR.mono ?_
  rintro e W1 ⟨rfl, hb⟩
  have HT1 := Lib.hid (HT.out.step hb)
  have HB1 := Lib.hid hb
  have hc := HT1.out.cells.1
  rw [← HNL.out] at hc
  clear hb CR HT
  cases hrb : rightB l with
  | false =>
    have e : E = 1 := by rw [HE.out, chkE, hrb]; simp
    subst e
    go_wp2
    go_ret
    exact ⟨rfl, HB1.out⟩
  | true =>
    have e : E = 0 := by rw [HE.out, chkE, hrb]; simp
    subst e
    go_wp2
    go_ret
    exact ⟨rfl, HB1.out⟩
def AddIs (base p : Nat) (v mp : Value) (vs : List Value) (M : List (List Rg)) (mir : List (Int × Int)) (l : List Rg) (W : World) (e : Ending) (W' : World) : Prop :=
  ((rightB l = true ∧ e = .returned (.int .i64 0) ∧ ∃ v' vs', RtAt base W' p v' mp vs' (M ++ [l]) mir) ∨ (rightB l = false ∧ e = .returned (.int .i64 1) ∧ RtAt base W' p v mp vs M mir)) ∧ RtF base p W W'
set_option maxRecDepth 100000 in
set_option maxHeartbeats 1000000 in
theorem add_any (base p : Nat) (v mp : Value) (vs : List Value) (M : List (List Rg)) (mir : List (Int × Int)) (l : List Rg) (A : Option Addr) (n c : Nat) (W : World) (hM : M.length ≤ 1000) (hn : n ≤ 100)
    (h : RtAt base W p v mp vs M mir) (hr : RRow W A n l) :
    Calls Try.prog 14 #[.pointer (some ⟨p, 0, none⟩), .slice A n c] W (AddIs base p v mp vs M mir l W) := by
  have CC := check_any base p v mp vs M mir l A n c W hM hn h hr
  have HT := Lib.hid h
  have HR := Lib.hid hr
  have hbs := h.base_le
  clear h hr
  cases hrb : rightB l with
  | false =>
    rw [show chkE l = 1 by rw [chkE, hrb]; simp] at CC
    go_enter Try.func14, Try.ntmps14
    go_wp2_with fail
    refine CC.mono ?_
    rintro e W1 ⟨rfl, hb⟩
    have HT1 := Lib.hid (HT.out.step hb)
    have HF := Lib.hid (RtF.of_below (p := p) hb hbs)
    clear hb CC HT HR
    go_wp2
    go_ret
    exact ⟨.inr ⟨hrb, rfl, HT1.out⟩, HF.out⟩
  | true =>
    rw [show chkE l = 0 by rw [chkE, hrb]; simp] at CC
    go_enter Try.func14, Try.ntmps14
    go_wp2_with fail
    refine CC.mono ?_
    rintro e W1 ⟨rfl, hb⟩
    have HT1 := Lib.hid (HT.out.step hb)
    have HF := Lib.hid (RtF.of_below (p := p) hb hbs)
    have CP := put_any base p v mp vs M mir l A n c W1 hM hn HT1.out (HR.out.below hb)
    clear hb CC HT HR
    go_wp2_with fail
    refine CP.mono ?_
    rintro e W2 ⟨⟨x, rfl⟩, h2, hf2⟩
    have H2 := Lib.hid h2
    have HF2 := Lib.hid (HF.out.trans hf2)
    clear h2 hf2 CP HT1 HF
    go_wp2
    go_ret
    exact ⟨.inl ⟨hrb, rfl, H2.out⟩, HF2.out⟩
end Go.Proofs.Ytgodphfkhmahnaa.Rt
namespace Go.Proofs.Ytgodphfkhmahnaa.Rt
open Go.RowKit Mem Sm
set_option linter.unusedVariables false

theorem in_map (d : Nat) (t k e : TypeId) (h : Try.prog.underlying t = some (.map k e)) (B : Option Nat) (W : World) : (Op.equalIn (d + 1) t (.map B) (.map none)).run Try.prog W = .ok B.isNone W := by
  cases B <;> simp [Op.equalIn, run_underlying h]
theorem eql_map (t k e : TypeId) (h : Try.prog.underlying t = some (.map k e)) (B : Option Nat) (W : World) : (binOp .eql t (.map B) (.map none)).run Try.prog W = .ok (.bool B.isNone) W := by
  simp only [binOp]
  simp [Op.equal, Op.maxDepth, in_map 9999 t k e h]

/-- a map's block, written -/
def setB (w : World) (b : Nat) (o : Obj) : World := { w with heap := w.heap.setIfInBounds b o }
theorem setB_size (w : World) (b : Nat) (o : Obj) : (setB w b o).heap.size = w.heap.size := by simp [setB]
theorem setB_at {w : World} {b : Nat} {o o' : Obj} (h : w.heap[b]? = some o) : (setB w b o').heap[b]? = some o' := (MapKept.heap_set h).1
theorem setB_else {w : World} {b k : Nat} {o' : Obj} (hne : k ≠ b) : (setB w b o').heap[k]? = w.heap[k]? := by simp [setB, Ne.symm hne]
theorem setB_setB (w : World) (b : Nat) (o o' : Obj) : setB (setB w b o) b o' = setB w b o' := by simp [setB]

theorem ent_keys : ∀ (l : List (Int × Int)) (i : Nat), ∀ x ∈ entOf i l, ∃ q ∈ l, x.key = .int .i64 q.1
  | [], _, x, h => by simp [entOf] at h
  | q :: r, i, x, h => by
    simp only [entOf, List.mem_cons] at h
    rcases h with rfl | h
    · exact ⟨q, by simp, rfl⟩
    · obtain ⟨z, hz, e⟩ := ent_keys r (i + 1) x h
      exact ⟨z, by simp [hz], e⟩
theorem ent_get : ∀ (l : List (Int × Int)) (i j : Nat), (entOf i l)[j]? = (l[j]?).map fun q => { key := .int .i64 q.1, val := .int .i64 q.2, born := i + j }
  | [], i, j => by simp [entOf]
  | q :: r, i, 0 => by simp [entOf]
  | q :: r, i, j + 1 => by simp only [entOf, List.getElem?_cons_succ, ent_get r (i + 1) j]; rw [show i + 1 + j = i + (j + 1) by omega]
theorem idx_ent : ∀ (l : List (Int × Int)) (i j : Nat), j < l.length → (entOf i l).findIdx? (fun e => ((e.born : Nat) : Int) == ((i + j : Nat) : Int)) = some j
  | [], i, j, h => by simp at h
  | q :: r, i, 0, h => by simp [entOf, List.findIdx?_cons]
  | q :: r, i, j + 1, h => by
    have hb : (((i : Nat) : Int) == ((i + (j + 1) : Nat) : Int)) = false := by
      simp only [beq_eq_false_iff_ne, ne_eq]; omega
    have := idx_ent r (i + 1) j (by simpa using h)
    rw [show i + 1 + j = i + (j + 1) by omega] at this
    simp only [entOf, List.findIdx?_cons, hb, this]
    simp
theorem find_new (a : Int) (l : List (Int × Int)) (h : ∀ q ∈ l, q.1 ≠ a) : Instr.findNow (.int .i64) (.int .i64 a) (entOf 0 l) 0 = some none := by
  rcases MapKept.findNow_spec (d := .int .i64) (k := .int .i64 a) rfl (entOf 0 l) 0 (fun x hx => by obtain ⟨q, _, e⟩ := ent_keys l 0 x hx; rw [e]; rfl) with ⟨h1, _⟩ | ⟨j, e, _, h2, h3⟩
  · exact h1
  · exfalso
    obtain ⟨q, hq, e4⟩ := ent_keys l 0 e (List.mem_of_getElem? h2)
    rw [e4] at h3
    injection h3 with _ h3
    exact h q hq h3
/-- the map's block -/
def entB (l : List (Int × Int)) : Obj := .map (entOf 0 l).toArray l.length
section
variable {P : Program} {t k e : TypeId} {W : World} {B : Nat}
theorem entry_new (hu : P.underlying t = some (.map k e)) (hk : P.underlying k = some (.int .i64)) (hz : (zeroValue e).run P W = .ok (.int .i64 0) W) (l : List (Int × Int)) (hb : W.heap[B]? = some (entB l)) (a : Int) (ha : ∀ q ∈ l, q.1 ≠ a) :
    (Instr.mapEntry t (.map (some B)) (.int .i64 a)).run P W = .ok (.tuple #[.int .i64 0, .int .i64 l.length]) (setB W B (entB (l ++ [(a, 0)]))) := by
  unfold entB at hb ⊢
  have hf := MapKept.run_findKey (P := P) (w := W) hk (find_new a l ha)
  have hc := MapKept.run_checkKey (P := P) (w := W) (k := .int .i64 a) hk rfl false 9999
  simp [Instr.mapEntry, run_underlying hu, MapKept.run_getObj_map hb, hc, hf, hz, MapKept.run_setObj_map _ hb, Result.andThen, setB, goInt, entOf_append, entOf]
theorem entry_store (l m : List (Int × Int)) (q : Int × Int) (hb : W.heap[B]? = some (entB (l ++ q :: m))) (v : Int) :
    (Instr.entryStore t (.map (some B)) (.int .i64 l.length) (.int .i64 v)).run P W = .ok () (setB W B (entB (l ++ (q.1, v) :: m))) := by
  unfold entB at hb ⊢
  rw [show (l ++ (q.1, v) :: m).length = (l ++ q :: m).length by simp]
  generalize (l ++ q :: m).length = c at hb ⊢
  have hi := idx_ent (l ++ q :: m) 0 l.length (by simp)
  simp only [Nat.zero_add] at hi
  have hm : ((entOf 0 (l ++ q :: m)).toArray.modify l.length fun e => { e with val := .int .i64 v }) = (entOf 0 (l ++ (q.1, v) :: m)).toArray := by
    apply Array.ext'
    rw [Array.toList_modify]
    apply List.ext_getElem?
    intro j
    simp only [List.getElem?_modify, ent_get]
    rcases Nat.lt_trichotomy j l.length with h | h | h
    · rw [List.getElem?_append_left h, List.getElem?_append_left h]
      have hne : ¬ l.length = j := by omega
      cases l[j]? <;> simp [hne]
    · subst h
      simp
    · rw [List.getElem?_append_right (by omega), List.getElem?_append_right (by omega)]
      have hne : ¬ l.length = j := by omega
      obtain ⟨d, hd⟩ : ∃ d, j - l.length = d + 1 := ⟨j - l.length - 1, by omega⟩
      simp only [hd, List.getElem?_cons_succ]
      cases m[d]? <;> simp [hne]
  simp [Instr.entryStore, MapKept.run_getObj_map hb, asInt, asIntOf, hi, hm, MapKept.run_setObj_map _ hb, Result.andThen, setB]
end
section
variable {base p B : Nat} {W : World} {v mp : Value} {vs : List Value} {M : List (List Rg)} {mir : List (Int × Int)}
theorem RtAt.block (h : RtAt base W p v (.map (some B)) vs M mir) : base ≤ B ∧ W.heap[B]? = some (entB mir) := by
  rcases h.mps with ⟨e, _⟩ | ⟨B', e, h1, h2⟩
  · cases e
  · injection e with e; injection e with e; subst e; exact ⟨h1, h2⟩
theorem setB_keep {o' : Obj} {es : Array MapEntry} {c : Nat} (hb : W.heap[B]? = some (.map es c)) {k : Nat} {cs : Array Value} {t : TypeId} {fr : Nat × Nat} (h : W.heap[k]? = some (.cells cs t fr)) : (setB W B o').heap[k]? = some (.cells cs t fr) := by
  rw [setB_else (by rintro rfl; rw [hb] at h; cases h)]; exact h
theorem RtAt.putB (h : RtAt base W p v (.map (some B)) vs M mir) (mir' : List (Int × Int)) : RtAt base (setB W B (entB mir')) p v (.map (some B)) vs M mir' := by
  obtain ⟨h1, h2⟩ := h.block
  refine ⟨h.hp, setB_keep h2 h.h0, ⟨h.row.1, ?_⟩, h.sls.keep (by rw [setB_size]; exact Nat.le_refl _) (fun k cs fr e => setB_keep h2 e), .inr ⟨B, rfl, h1, setB_at h2⟩⟩
  rcases h.row.2 with hn | ⟨g, cap, cur, hv, g1, g2, r⟩
  · exact .inl hn
  · exact .inr ⟨g, cap, cur, hv, g1, setB_keep h2 g2, r⟩
theorem RtAt.putBF (h : RtAt base W p v (.map (some B)) vs M mir) (o : Obj) : RtF base p W (setB W B o) := by
  obtain ⟨h1, h2⟩ := h.block
  have h0 := h.h0
  exact ⟨rfl, rfl, rfl, by rw [setB_size]; exact Nat.le_refl _, fun k hk => setB_else (by omega), fun k cs t fr e _ _ => setB_keep h2 e, fun _ k cs fr e _ _ => setB_keep h2 e,
    fun _ g e => .inl (by rw [← rowOf_same (setB_else (w := W) (b := B) (o' := o) (k := p) (by rintro rfl; rw [h2] at h0; cases h0))]; exact e),
    fun k o' e hb => by rw [setB_else (by rintro rfl; rw [h2] at e; injection e with e; exact hb.2 _ _ e.symm)]; exact e⟩
theorem RtAt.newMap (h : RtAt base W p v mp vs M []) (hs : base ≤ W.heap.size) : RtAt base ((W.alloc (.map #[] 0)).setCell ⟨p, 1, none⟩ (.map (some W.heap.size))) p v (.map (some W.heap.size)) vs M [] ∧
    RtF base p W ((W.alloc (.map #[] 0)).setCell ⟨p, 1, none⟩ (.map (some W.heap.size))) := by
  have ha : ∀ (k : Nat) (o : Obj), W.heap[k]? = some o → (W.alloc (.map #[] 0)).heap[k]? = some o := fun k o e => by rw [(MapKept.heap_alloc W _).2 k (lt_some e)]; exact e
  have hn : W.heap.size ≠ p := fun e => by have := lt_some h.h0; omega
  have hk : ∀ (k : Nat) (o : Obj), W.heap[k]? = some o → k ≠ p → ((W.alloc (.map #[] 0)).setCell ⟨p, 1, none⟩ (.map (some W.heap.size))).heap[k]? = some o := fun k o e hne => by
    rw [Below.heap_setCell _ _ _ _ hne]; exact ha k o e
  have hkc : ∀ (k : Nat) (cs : Array Value) (fr : Nat × Nat) (t : TypeId), W.heap[k]? = some (.cells cs t fr) → t ≠ 35 → ((W.alloc (.map #[] 0)).setCell ⟨p, 1, none⟩ (.map (some W.heap.size))).heap[k]? = some (.cells cs t fr) := fun k cs fr t e ht => hk k _ e (by rintro rfl; rw [h.h0] at e; injection e with e; injection e with e1 e2; exact ht e2.symm)
  have hsz : ((W.alloc (.map #[] 0)).setCell ⟨p, 1, none⟩ (.map (some W.heap.size))).heap.size = W.heap.size + 1 := by
    have e : (W.alloc (.map #[] 0)).heap = W.heap.push (.map #[] 0) := rfl
    simp [World.setCell, e]
  have hrow : rowOf ((W.alloc (.map #[] 0)).setCell ⟨p, 1, none⟩ (.map (some W.heap.size))) p = rowOf W p := by
    have h1 := ha p _ h.h0
    simp [rowOf, World.cell?, World.setCell, Array.getElem?_modify, h1, h.h0]
  refine ⟨⟨h.hp, ?_, ⟨h.row.1, ?_⟩, h.sls.keep (by omega) (fun k cs fr e => hkc k cs fr _ e (by decide)), .inr ⟨_, rfl, hs, ?_⟩⟩, ⟨rfl, rfl, rfl, by omega, fun k hl => ?_, fun k cs t fr e _ hne => hk k _ e hne, fun _ k cs fr e hne _ => hk k _ e hne, fun _ g e => .inl (by rw [← hrow]; exact e), fun k o e hb => hk k o e (by rintro rfl; rw [h.h0] at e; injection e with e; exact hb.1 _ _ _ e.symm)⟩⟩
  · simp only [World.setCell, Array.getElem?_modify, ha p _ h.h0]; rfl
  · rcases h.row.2 with hn | ⟨g, cap, cur, hv, g1, g2, r⟩
    · exact .inl hn
    · exact .inr ⟨g, cap, cur, hv, g1, hkc g _ _ _ g2 (by decide), r⟩
  · rw [Below.heap_setCell _ _ _ _ hn]; exact (MapKept.heap_alloc W _).1
  · rw [Below.heap_setCell _ _ _ _ (by have := h.hp; simp only; omega), (MapKept.heap_alloc W _).2 k (by omega)]
end
end Go.Proofs.Ytgodphfkhmahnaa.Rt
