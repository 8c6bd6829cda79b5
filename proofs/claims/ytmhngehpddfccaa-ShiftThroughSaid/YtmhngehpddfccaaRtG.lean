/- Walks of route: check, Add. Walks of route: mirrors are put (the entries of the map). Walks of route: bind. Walks of route: the mirrors looked up; Mirror. Walks of route: a map of the route is read; recovered. -/
import Derived.Test.YtmhngehpddfccaaRtB
import Derived.Test.YtmhngehpddfccaaSmI
import Derived.MapKept
import Derived.Test.YtmhngehpddfccaaSmK
import Derived.OwnWalk
namespace Go.Proofs.Ytmhngehpddfccaa.Rt
open Go.RowKit Mem Sm
set_option linter.unusedVariables false

noncomputable def chkE (l : List Rg) : Int := if rightB l = true then 0 else 1
set_option maxRecDepth 100000 in
set_option maxHeartbeats 1000000 in
theorem check_any (base p : Nat) (v mp : Value) (vs : List Value) (M : List (List Rg)) (mir : List (Int × Int)) (l : List Rg) (A : Option Addr) (n c : Nat) (W : World) (hM : M.length ≤ 1000) (hn : n ≤ 100)
    (h : RtAt base W p v mp vs M mir) (hr : RRow W A n l) :
    Calls Try.prog 30 #[.pointer (some ⟨p, 0, none⟩), .slice A n c] W fun e W' => e = .returned (.int .i64 (chkE l)) ∧ Below W.heap.size W W' := by
  obtain ⟨A1, c1, hv⟩ := h.form
  subst hv
  have CR := pright_any l A n c W hn (RLow.of hr)
  have HT := Lib.hid h
  obtain ⟨E, hE⟩ : ∃ x, x = chkE l := ⟨_, rfl⟩
  rw [← hE]
  have HE := Lib.hid hE
  obtain ⟨NL, hNL⟩ : ∃ x, x = M.length := ⟨_, rfl⟩
  have HNL := Lib.hid hNL
  have hM' : ¬ (5000 ≤ NL) := by omega
  clear h hr hE hNL hM
  go_enter Try.func30, Try.ntmps30
  go_wp2_with fail
  refine CR.mono ?_
  rintro e W1 ⟨rfl, hb⟩
  have HT1 := Lib.hid (HT.out.step hb)
  have HB1 := Lib.hid hb
  have hc := HT1.out.cells.1
  rw [← HNL.out] at hc
  clear hb CR HT
  cases hrb : rightB l with
  | false =>
    have e : E = 1 := by rw [HE.out, chkE, hrb]; simp
    subst e
    go_wp2
    go_ret
    exact ⟨rfl, HB1.out⟩
  | true =>
    have e : E = 0 := by rw [HE.out, chkE, hrb]; simp
    subst e
    go_wp2
    go_ret
    exact ⟨rfl, HB1.out⟩
def AddIs (base p : Nat) (v mp : Value) (vs : List Value) (M : List (List Rg)) (mir : List (Int × Int)) (l : List Rg) (W : World) (e : Ending) (W' : World) : Prop :=
  ((rightB l = true ∧ e = .returned (.int .i64 0) ∧ ∃ v' vs', RtAt base W' p v' mp vs' (M ++ [l]) mir) ∨ (rightB l = false ∧ e = .returned (.int .i64 1) ∧ RtAt base W' p v mp vs M mir)) ∧ RtF base p W W'
set_option maxRecDepth 100000 in
set_option maxHeartbeats 1000000 in
theorem add_any (base p : Nat) (v mp : Value) (vs : List Value) (M : List (List Rg)) (mir : List (Int × Int)) (l : List Rg) (A : Option Addr) (n c : Nat) (W : World) (hM : M.length ≤ 1000) (hn : n ≤ 100)
    (h : RtAt base W p v mp vs M mir) (hr : RRow W A n l) :
    Calls Try.prog 12 #[.pointer (some ⟨p, 0, none⟩), .slice A n c] W (AddIs base p v mp vs M mir l W) := by
  have CC := check_any base p v mp vs M mir l A n c W hM hn h hr
  have HT := Lib.hid h
  have HR := Lib.hid hr
  have hbs := h.base_le
  clear h hr
  cases hrb : rightB l with
  | false =>
    rw [show chkE l = 1 by rw [chkE, hrb]; simp] at CC
    go_enter Try.func12, Try.ntmps12
    go_wp2_with fail
    refine CC.mono ?_
    rintro e W1 ⟨rfl, hb⟩
    have HT1 := Lib.hid (HT.out.step hb)
    have HF := Lib.hid (RtF.of_below (p := p) hb hbs)
    clear hb CC HT HR
    go_wp2
    go_ret
    exact ⟨.inr ⟨hrb, rfl, HT1.out⟩, HF.out⟩
  | true =>
    rw [show chkE l = 0 by rw [chkE, hrb]; simp] at CC
    go_enter Try.func12, Try.ntmps12
    go_wp2_with fail
    refine CC.mono ?_
    rintro e W1 ⟨rfl, hb⟩
    have HT1 := Lib.hid (HT.out.step hb)
    have HF := Lib.hid (RtF.of_below (p := p) hb hbs)
    have CP := put_any base p v mp vs M mir l A n c W1 hM hn HT1.out (HR.out.below hb)
    clear hb CC HT HR
    go_wp2_with fail
    refine CP.mono ?_
    rintro e W2 ⟨⟨x, rfl⟩, h2, hf2⟩
    have H2 := Lib.hid h2
    have HF2 := Lib.hid (HF.out.trans hf2)
    clear h2 hf2 CP HT1 HF
    go_wp2
    go_ret
    exact ⟨.inl ⟨hrb, rfl, H2.out⟩, HF2.out⟩
end Go.Proofs.Ytmhngehpddfccaa.Rt
namespace Go.Proofs.Ytmhngehpddfccaa.Rt
open Go.RowKit Mem Sm
set_option linter.unusedVariables false

theorem in_map (d : Nat) (t k e : TypeId) (h : Try.prog.underlying t = some (.map k e)) (B : Option Nat) (W : World) : (Op.equalIn (d + 1) t (.map B) (.map none)).run Try.prog W = .ok B.isNone W := by
  cases B <;> simp [Op.equalIn, run_underlying h]
theorem eql_map (t k e : TypeId) (h : Try.prog.underlying t = some (.map k e)) (B : Option Nat) (W : World) : (binOp .eql t (.map B) (.map none)).run Try.prog W = .ok (.bool B.isNone) W := by
  simp only [binOp]
  simp [Op.equal, Op.maxDepth, in_map 9999 t k e h]

/-- a map's block, written -/
def setB (w : World) (b : Nat) (o : Obj) : World := { w with heap := w.heap.setIfInBounds b o }
theorem setB_size (w : World) (b : Nat) (o : Obj) : (setB w b o).heap.size = w.heap.size := by simp [setB]
theorem setB_at {w : World} {b : Nat} {o o' : Obj} (h : w.heap[b]? = some o) : (setB w b o').heap[b]? = some o' := (MapKept.heap_set h).1
theorem setB_else {w : World} {b k : Nat} {o' : Obj} (hne : k ≠ b) : (setB w b o').heap[k]? = w.heap[k]? := by simp [setB, Ne.symm hne]
theorem setB_setB (w : World) (b : Nat) (o o' : Obj) : setB (setB w b o) b o' = setB w b o' := by simp [setB]

theorem ent_keys : ∀ (l : List (Int × Int)) (i : Nat), ∀ x ∈ entOf i l, ∃ q ∈ l, x.key = .int .i64 q.1
  | [], _, x, h => by simp [entOf] at h
  | q :: r, i, x, h => by
    simp only [entOf, List.mem_cons] at h
    rcases h with rfl | h
    · exact ⟨q, by simp, rfl⟩
    · obtain ⟨z, hz, e⟩ := ent_keys r (i + 1) x h
      exact ⟨z, by simp [hz], e⟩
theorem ent_get : ∀ (l : List (Int × Int)) (i j : Nat), (entOf i l)[j]? = (l[j]?).map fun q => { key := .int .i64 q.1, val := .int .i64 q.2, born := i + j }
  | [], i, j => by simp [entOf]
  | q :: r, i, 0 => by simp [entOf]
  | q :: r, i, j + 1 => by simp only [entOf, List.getElem?_cons_succ, ent_get r (i + 1) j]; rw [show i + 1 + j = i + (j + 1) by omega]
theorem idx_ent : ∀ (l : List (Int × Int)) (i j : Nat), j < l.length → (entOf i l).findIdx? (fun e => ((e.born : Nat) : Int) == ((i + j : Nat) : Int)) = some j
  | [], i, j, h => by simp at h
  | q :: r, i, 0, h => by simp [entOf, List.findIdx?_cons]
  | q :: r, i, j + 1, h => by
    have hb : (((i : Nat) : Int) == ((i + (j + 1) : Nat) : Int)) = false := by
      simp only [beq_eq_false_iff_ne, ne_eq]; omega
    have := idx_ent r (i + 1) j (by simpa using h)
    rw [show i + 1 + j = i + (j + 1) by omega] at this
    simp only [entOf, List.findIdx?_cons, hb, this]
    simp
theorem find_new (a : Int) (l : List (Int × Int)) (h : ∀ q ∈ l, q.1 ≠ a) : Instr.findNow (.int .i64) (.int .i64 a) (entOf 0 l) 0 = some none := by
  rcases MapKept.findNow_spec (d := .int .i64) (k := .int .i64 a) rfl (entOf 0 l) 0 (fun x hx => by obtain ⟨q, _, e⟩ := ent_keys l 0 x hx; rw [e]; rfl) with ⟨h1, _⟩ | ⟨j, e, _, h2, h3⟩
  · exact h1
  · exfalso
    obtain ⟨q, hq, e4⟩ := ent_keys l 0 e (List.mem_of_getElem? h2)
    rw [e4] at h3
    injection h3 with _ h3
    exact h q hq h3
/-- the map's block -/
def entB (l : List (Int × Int)) : Obj := .map (entOf 0 l).toArray l.length
section
variable {P : Program} {t k e : TypeId} {W : World} {B : Nat}
theorem entry_new (hu : P.underlying t = some (.map k e)) (hk : P.underlying k = some (.int .i64)) (hz : (zeroValue e).run P W = .ok (.int .i64 0) W) (l : List (Int × Int)) (hb : W.heap[B]? = some (entB l)) (a : Int) (ha : ∀ q ∈ l, q.1 ≠ a) :
    (Instr.mapEntry t (.map (some B)) (.int .i64 a)).run P W = .ok (.tuple #[.int .i64 0, .int .i64 l.length]) (setB W B (entB (l ++ [(a, 0)]))) := by
  unfold entB at hb ⊢
  have hf := MapKept.run_findKey (P := P) (w := W) hk (find_new a l ha)
  have hc := MapKept.run_checkKey (P := P) (w := W) (k := .int .i64 a) hk rfl false 9999
  simp [Instr.mapEntry, run_underlying hu, MapKept.run_getObj_map hb, hc, hf, hz, MapKept.run_setObj_map _ hb, Result.andThen, setB, goInt, entOf_append, entOf]
theorem entry_store (l m : List (Int × Int)) (q : Int × Int) (hb : W.heap[B]? = some (entB (l ++ q :: m))) (v : Int) :
    (Instr.entryStore t (.map (some B)) (.int .i64 l.length) (.int .i64 v)).run P W = .ok () (setB W B (entB (l ++ (q.1, v) :: m))) := by
  unfold entB at hb ⊢
  rw [show (l ++ (q.1, v) :: m).length = (l ++ q :: m).length by simp]
  generalize (l ++ q :: m).length = c at hb ⊢
  have hi := idx_ent (l ++ q :: m) 0 l.length (by simp)
  simp only [Nat.zero_add] at hi
  have hm : ((entOf 0 (l ++ q :: m)).toArray.modify l.length fun e => { e with val := .int .i64 v }) = (entOf 0 (l ++ (q.1, v) :: m)).toArray := by
    apply Array.ext'
    rw [Array.toList_modify]
    apply List.ext_getElem?
    intro j
    simp only [List.getElem?_modify, ent_get]
    rcases Nat.lt_trichotomy j l.length with h | h | h
    · rw [List.getElem?_append_left h, List.getElem?_append_left h]
      have hne : ¬ l.length = j := by omega
      cases l[j]? <;> simp [hne]
    · subst h
      simp
    · rw [List.getElem?_append_right (by omega), List.getElem?_append_right (by omega)]
      have hne : ¬ l.length = j := by omega
      obtain ⟨d, hd⟩ : ∃ d, j - l.length = d + 1 := ⟨j - l.length - 1, by omega⟩
      simp only [hd, List.getElem?_cons_succ]
      cases m[d]? <;> simp [hne]
  simp [Instr.entryStore, MapKept.run_getObj_map hb, asInt, asIntOf, hi, hm, MapKept.run_setObj_map _ hb, Result.andThen, setB]
end
section
variable {base p B : Nat} {W : World} {v mp : Value} {vs : List Value} {M : List (List Rg)} {mir : List (Int × Int)}
theorem RtAt.block (h : RtAt base W p v (.map (some B)) vs M mir) : base ≤ B ∧ W.heap[B]? = some (entB mir) := by
  rcases h.mps with ⟨e, _⟩ | ⟨B', e, h1, h2⟩
  · cases e
  · injection e with e; injection e with e; subst e; exact ⟨h1, h2⟩
theorem setB_keep {o' : Obj} {es : Array MapEntry} {c : Nat} (hb : W.heap[B]? = some (.map es c)) {k : Nat} {cs : Array Value} {t : TypeId} {fr : Nat × Nat} (h : W.heap[k]? = some (.cells cs t fr)) : (setB W B o').heap[k]? = some (.cells cs t fr) := by
  rw [setB_else (by rintro rfl; rw [hb] at h; cases h)]; exact h
theorem RtAt.putB (h : RtAt base W p v (.map (some B)) vs M mir) (mir' : List (Int × Int)) : RtAt base (setB W B (entB mir')) p v (.map (some B)) vs M mir' := by
  obtain ⟨h1, h2⟩ := h.block
  refine ⟨h.hp, setB_keep h2 h.h0, ⟨h.row.1, ?_⟩, h.sls.keep (by rw [setB_size]; exact Nat.le_refl _) (fun k cs fr e => setB_keep h2 e), .inr ⟨B, rfl, h1, setB_at h2⟩⟩
  rcases h.row.2 with hn | ⟨g, cap, cur, hv, g1, g2, r⟩
  · exact .inl hn
  · exact .inr ⟨g, cap, cur, hv, g1, setB_keep h2 g2, r⟩
theorem RtAt.putBF (h : RtAt base W p v (.map (some B)) vs M mir) (o : Obj) : RtF base p W (setB W B o) := by
  obtain ⟨h1, h2⟩ := h.block
  have h0 := h.h0
  exact ⟨rfl, rfl, rfl, by rw [setB_size]; exact Nat.le_refl _, fun k hk => setB_else (by omega), fun k cs t fr e _ _ => setB_keep h2 e, fun _ k cs fr e _ _ => setB_keep h2 e,
    fun _ g e => .inl (by rw [← rowOf_same (setB_else (w := W) (b := B) (o' := o) (k := p) (by rintro rfl; rw [h2] at h0; cases h0))]; exact e)⟩
theorem RtAt.newMap (h : RtAt base W p v mp vs M []) (hs : base ≤ W.heap.size) : RtAt base ((W.alloc (.map #[] 0)).setCell ⟨p, 1, none⟩ (.map (some W.heap.size))) p v (.map (some W.heap.size)) vs M [] ∧
    RtF base p W ((W.alloc (.map #[] 0)).setCell ⟨p, 1, none⟩ (.map (some W.heap.size))) := by
  have ha : ∀ (k : Nat) (o : Obj), W.heap[k]? = some o → (W.alloc (.map #[] 0)).heap[k]? = some o := fun k o e => by rw [(MapKept.heap_alloc W _).2 k (lt_some e)]; exact e
  have hn : W.heap.size ≠ p := fun e => by have := lt_some h.h0; omega
  have hk : ∀ (k : Nat) (o : Obj), W.heap[k]? = some o → k ≠ p → ((W.alloc (.map #[] 0)).setCell ⟨p, 1, none⟩ (.map (some W.heap.size))).heap[k]? = some o := fun k o e hne => by
    rw [Below.heap_setCell _ _ _ _ hne]; exact ha k o e
  have hkc : ∀ (k : Nat) (cs : Array Value) (fr : Nat × Nat) (t : TypeId), W.heap[k]? = some (.cells cs t fr) → t ≠ 35 → ((W.alloc (.map #[] 0)).setCell ⟨p, 1, none⟩ (.map (some W.heap.size))).heap[k]? = some (.cells cs t fr) := fun k cs fr t e ht => hk k _ e (by rintro rfl; rw [h.h0] at e; injection e with e; injection e with e1 e2; exact ht e2.symm)
  have hsz : ((W.alloc (.map #[] 0)).setCell ⟨p, 1, none⟩ (.map (some W.heap.size))).heap.size = W.heap.size + 1 := by
    have e : (W.alloc (.map #[] 0)).heap = W.heap.push (.map #[] 0) := rfl
    simp [World.setCell, e]
  have hrow : rowOf ((W.alloc (.map #[] 0)).setCell ⟨p, 1, none⟩ (.map (some W.heap.size))) p = rowOf W p := by
    have h1 := ha p _ h.h0
    simp [rowOf, World.cell?, World.setCell, Array.getElem?_modify, h1, h.h0]
  refine ⟨⟨h.hp, ?_, ⟨h.row.1, ?_⟩, h.sls.keep (by omega) (fun k cs fr e => hkc k cs fr _ e (by decide)), .inr ⟨_, rfl, hs, ?_⟩⟩, ⟨rfl, rfl, rfl, by omega, fun k hl => ?_, fun k cs t fr e _ hne => hk k _ e hne, fun _ k cs fr e hne _ => hk k _ e hne, fun _ g e => .inl (by rw [← hrow]; exact e)⟩⟩
  · simp only [World.setCell, Array.getElem?_modify, ha p _ h.h0]; rfl
  · rcases h.row.2 with hn | ⟨g, cap, cur, hv, g1, g2, r⟩
    · exact .inl hn
    · exact .inr ⟨g, cap, cur, hv, g1, hkc g _ _ _ g2 (by decide), r⟩
  · rw [Below.heap_setCell _ _ _ _ hn]; exact (MapKept.heap_alloc W _).1
  · rw [Below.heap_setCell _ _ _ _ (by have := h.hp; simp only; omega), (MapKept.heap_alloc W _).2 k (by omega)]
end
end Go.Proofs.Ytmhngehpddfccaa.Rt
namespace Go.Proofs.Ytmhngehpddfccaa.Rt
open Go.RowKit Mem Sm
set_option linter.unusedVariables false
set_option maxRecDepth 100000 in
set_option maxHeartbeats 4000000 in
theorem bind_any (base p : Nat) (v mp : Value) (vs : List Value) (M : List (List Rg)) (mir : List (Int × Int)) (one other : Int) (W : World) (hn : ∀ q ∈ mir, q.1 ≠ one ∧ q.1 ≠ other) (hne : one ≠ other) (h : RtAt base W p v mp vs M mir) :
    Calls Try.prog 31 #[.pointer (some ⟨p, 0, none⟩), .int .i64 one, .int .i64 other] W fun e W' => (∃ x, e = .returned x) ∧ (∃ mp', RtAt base W' p v mp' vs M (mir ++ [(one, other)] ++ [(other, one)])) ∧ RtF base p W W' := by
  have hbs := h.base_le
  have hform := h.mps
  rcases hform with ⟨rfl, rfl⟩ | ⟨B, rfl, hB, hB2⟩
  · have he := eql_map 33 3 3 Try.underlying33 none W
    simp only [Option.isNone_none] at he
    have HT0 := Lib.hid h
    have hc := h.cells
    obtain ⟨hc0, hc1, hc2, hc3⟩ := hc
    have hd := (h.step ((Below.refl _ _).alloc (Nat.le_refl _) (.map #[] 0))).cells
    obtain ⟨hd0, hd1, hd2, hd3⟩ := hd
    clear h
    have hmk : (Instr.makeMap 33 none).run Try.prog W = .ok (.map (some W.heap.size)) (W.alloc (.map #[] 0)) := by rfl
    go_enter Try.func31, Try.ntmps31
    go_wp2_with fail
    have HT := Lib.hid (HT0.out.newMap hbs).1
    have HF := Lib.hid (HT0.out.newMap hbs).2
    generalize hmir : ([] : List (Int × Int)) = mir at hn HT
    have HN := Lib.hid hmir
    clear hmir
    clear he HT0 hc0 hc1 hc2 hc3 hd0 hd1 hd2 hd3 hmk
    generalize W.heap.size = B at *
    generalize ((W.alloc (.map #[] 0)).setCell ⟨p, 1, none⟩ (.map (some B))) = W4 at HT HF ⊢
    refine wp_region_held_drew (S := fun w => w.cell? ⟨p, 1, none⟩ = some (.map (some B))) (by kernel_rfl) (HT.out.step (below_drewN (Below.refl _ _) 1)).cells.2.1 (fun hHeld => ?_)
    have HT5 : Hid (RtAt base W4.drew p v (.map (some B)) vs M mir) := Lib.hid (HT.out.step (below_drewN (Below.refl _ _) 1))
    have HF5 : Hid (RtF base p W W4.drew) := Lib.hid (HF.out.trans (RtF.of_below (below_drewN (Below.refl _ _) 1) (by have := HT.out.base_le; exact this)))
    clear HT HF
    generalize W4.drew = W5 at HT5 HF5 hHeld ⊢
    refine tk 0 (v := ?_) rfl (by kernel_rfl) (fun _ _ _ h => h) ?_ hHeld ?_
    rotate_left
    · (intro W hSw; (try dsimp only at hSw); go_simp; try with_reducible rfl)
    refine tk 1 (v := ?_) rfl (by kernel_rfl) (fun _ _ _ h => h) ?_ hHeld ?_
    rotate_left
    · (intro W hSw; (try dsimp only at hSw); go_simp; try with_reducible rfl)
    refine tk 2 (v := ?_) rfl (by kernel_rfl) (fun _ _ _ h => h) ?_ hHeld ?_
    rotate_left
    · (intro W hSw; (try dsimp only at hSw); go_simp; try with_reducible rfl)
    refine tk 3 (v := ?_) rfl (by kernel_rfl) (fun _ _ _ h => h) ?_ hHeld ?_
    rotate_left
    · (intro W hSw; (try dsimp only at hSw); go_simp; try with_reducible rfl)
    refine tk 4 (v := ?_) rfl (by kernel_rfl) (fun _ _ _ h => h) ?_ hHeld ?_
    rotate_left
    · (intro W hSw; (try dsimp only at hSw); go_simp; try with_reducible rfl)
    refine tk 5 (v := ?_) rfl (by kernel_rfl) (fun _ _ _ h => h) ?_ hHeld ?_
    rotate_left
    · (intro W hSw; (try dsimp only at hSw); go_simp; try with_reducible rfl)
    refine tk 6 (v := ?_) rfl (by kernel_rfl) (fun _ _ _ h => h) ?_ hHeld ?_
    rotate_left
    · (intro W hSw; (try dsimp only at hSw); go_simp; try with_reducible rfl)
    refine tk 7 (v := ?_) rfl (by kernel_rfl) (fun _ _ _ h => h) ?_ hHeld ?_
    rotate_left
    · (intro W hSw; (try dsimp only at hSw); go_simp; try with_reducible rfl)
    refine tk 8 (v := ?_) rfl (by kernel_rfl) (fun _ _ _ h => h) ?_ hHeld ?_
    rotate_left
    · (intro W hSw; (try dsimp only at hSw); go_simp; try with_reducible rfl)
    refine tk 9 (v := ?_) rfl (by kernel_rfl) (fun _ _ _ h => h) ?_ hHeld ?_
    rotate_left
    · (intro W hSw; (try dsimp only at hSw); go_simp; try with_reducible rfl)
    refine tk 10 (v := ?_) rfl (by kernel_rfl) (fun _ _ _ h => h) ?_ hHeld ?_
    rotate_left
    · (intro W hSw; (try dsimp only at hSw); go_simp; try with_reducible rfl)
    refine tk 11 (v := ?_) rfl (by kernel_rfl) (fun _ _ _ h => h) ?_ hHeld ?_
    rotate_left
    · (intro W hSw; (try dsimp only at hSw); go_simp; try with_reducible rfl)
    have hE := entry_new (P := Try.prog) (e := 3) Try.underlying33 Try.underlying3 (by go_simp; try rfl) mir HT5.out.block.2 one (fun q hq => (hn q hq).1)
    have HT6 := Lib.hid (HT5.out.putB (mir ++ [(one, 0)]))
    have HF6 := Lib.hid (HF5.out.trans (HT5.out.putBF (entB (mir ++ [(one, 0)]))))
    refine wpAnyH_ready (rs := [12]) (by kernel_rfl) (by simp) ?_
    refine AllReadyH.cons rfl (fun K hK => ?_) AllReadyH.nil
    go_simp
    refine hK.out _ _ HT6.out.cells.2.1 (fun hHeld => ?_)
    clear hK K hE HT5 HF5
    generalize setB W5 B _ = W6 at HT6 HF6 hHeld ⊢
    refine tk 13 (v := ?_) rfl (by kernel_rfl) (fun _ _ _ h => h) ?_ hHeld ?_
    rotate_left
    · (intro W hSw; (try dsimp only at hSw); go_simp; try with_reducible rfl)
    have hE := entry_store (P := Try.prog) (t := 33) mir [] (one, 0) HT6.out.block.2 other
    have HT7 := Lib.hid (HT6.out.putB (mir ++ [(one, other)]))
    have HF7 := Lib.hid (HF6.out.trans (HT6.out.putBF (entB (mir ++ [(one, other)]))))
    refine wpAnyH_ready (rs := [14]) (by kernel_rfl) (by simp) ?_
    refine AllReadyH.cons rfl (fun K hK => ?_) AllReadyH.nil
    go_simp
    refine hK.out _ _ HT7.out.cells.2.1 (fun hHeld => ?_)
    clear hK K hE HT6 HF6
    generalize setB W6 B _ = W7 at HT7 HF7 hHeld ⊢
    have hn2 : ∀ q ∈ mir ++ [(one, other)], q.1 ≠ other := fun q hq => (List.mem_append.1 hq).elim (fun g => (hn q g).2) (fun g => by rw [List.mem_singleton.1 g]; exact hne)
    generalize hmir2 : mir ++ [(one, other)] = mir2 at HT7 hn2
    have HM := Lib.hid hmir2
    clear hmir2
    have hE := entry_new (P := Try.prog) (e := 3) Try.underlying33 Try.underlying3 (by go_simp; try rfl) mir2 HT7.out.block.2 other hn2
    have HT8 := Lib.hid (HT7.out.putB (mir2 ++ [(other, 0)]))
    have HF8 := Lib.hid (HF7.out.trans (HT7.out.putBF (entB (mir2 ++ [(other, 0)]))))
    refine wpAnyH_ready (rs := [15]) (by kernel_rfl) (by simp) ?_
    refine AllReadyH.cons rfl (fun K hK => ?_) AllReadyH.nil
    go_simp
    refine hK.out _ _ HT8.out.cells.2.1 (fun hHeld => ?_)
    clear hK K hE HT7 HF7
    generalize setB W7 B _ = W8 at HT8 HF8 hHeld ⊢
    refine tk 16 (v := ?_) rfl (by kernel_rfl) (fun _ _ _ h => h) ?_ hHeld ?_
    rotate_left
    · (intro W hSw; (try dsimp only at hSw); go_simp; try with_reducible rfl)
    have hE := entry_store (P := Try.prog) (t := 33) mir2 [] (other, 0) HT8.out.block.2 one
    have HT9 := Lib.hid (HT8.out.putB (mir2 ++ [(other, one)]))
    have HF9 := Lib.hid (HF8.out.trans (HT8.out.putBF (entB (mir2 ++ [(other, one)]))))
    refine wpAnyH_ready (rs := [17]) (by kernel_rfl) (by simp) ?_
    refine AllReadyH.cons rfl (fun K hK => ?_) AllReadyH.nil
    go_simp
    refine hK.out _ _ HT9.out.cells.2.1 (fun hHeld => ?_)
    clear hK K hE HT8 HF8 hHeld
    generalize setB W8 B _ = W9 at HT9 HF9 ⊢
    refine wpAnyH_done (by kernel_rfl) ?_ _
    go_wp2_with fail
    go_end0
    exact ⟨⟨_, rfl⟩, ⟨_, by have hx := HT9.out; rw [← HM.out, ← HN.out] at hx; simpa using hx⟩, HF9.out⟩
  · have he := eql_map 33 3 3 Try.underlying33 (some B) W
    simp only [Option.isNone_some] at he
    have HT := Lib.hid h
    have HF := Lib.hid (RtF.refl base p W)
    have hc := h.cells
    obtain ⟨hc0, hc1, hc2, hc3⟩ := hc
    clear h hB hB2
    go_enter Try.func31, Try.ntmps31
    go_wp2_with fail
    clear he hc0 hc1 hc2 hc3
    refine wp_region_held_drew (S := fun w => w.cell? ⟨p, 1, none⟩ = some (.map (some B))) (by kernel_rfl) (HT.out.step (below_drewN (Below.refl _ _) 1)).cells.2.1 (fun hHeld => ?_)
    have HT5 : Hid (RtAt base W.drew p v (.map (some B)) vs M mir) := Lib.hid (HT.out.step (below_drewN (Below.refl _ _) 1))
    have HF5 : Hid (RtF base p W W.drew) := Lib.hid (HF.out.trans (RtF.of_below (below_drewN (Below.refl _ _) 1) (by have := HT.out.base_le; exact this)))
    clear HT HF
    generalize W.drew = W5 at HT5 HF5 hHeld ⊢
    refine tk 0 (v := ?_) rfl (by kernel_rfl) (fun _ _ _ h => h) ?_ hHeld ?_
    rotate_left
    · (intro W hSw; (try dsimp only at hSw); go_simp; try with_reducible rfl)
    refine tk 1 (v := ?_) rfl (by kernel_rfl) (fun _ _ _ h => h) ?_ hHeld ?_
    rotate_left
    · (intro W hSw; (try dsimp only at hSw); go_simp; try with_reducible rfl)
    refine tk 2 (v := ?_) rfl (by kernel_rfl) (fun _ _ _ h => h) ?_ hHeld ?_
    rotate_left
    · (intro W hSw; (try dsimp only at hSw); go_simp; try with_reducible rfl)
    refine tk 3 (v := ?_) rfl (by kernel_rfl) (fun _ _ _ h => h) ?_ hHeld ?_
    rotate_left
    · (intro W hSw; (try dsimp only at hSw); go_simp; try with_reducible rfl)
    refine tk 4 (v := ?_) rfl (by kernel_rfl) (fun _ _ _ h => h) ?_ hHeld ?_
    rotate_left
    · (intro W hSw; (try dsimp only at hSw); go_simp; try with_reducible rfl)
    refine tk 5 (v := ?_) rfl (by kernel_rfl) (fun _ _ _ h => h) ?_ hHeld ?_
    rotate_left
    · (intro W hSw; (try dsimp only at hSw); go_simp; try with_reducible rfl)
    refine tk 6 (v := ?_) rfl (by kernel_rfl) (fun _ _ _ h => h) ?_ hHeld ?_
    rotate_left
    · (intro W hSw; (try dsimp only at hSw); go_simp; try with_reducible rfl)
    refine tk 7 (v := ?_) rfl (by kernel_rfl) (fun _ _ _ h => h) ?_ hHeld ?_
    rotate_left
    · (intro W hSw; (try dsimp only at hSw); go_simp; try with_reducible rfl)
    refine tk 8 (v := ?_) rfl (by kernel_rfl) (fun _ _ _ h => h) ?_ hHeld ?_
    rotate_left
    · (intro W hSw; (try dsimp only at hSw); go_simp; try with_reducible rfl)
    refine tk 9 (v := ?_) rfl (by kernel_rfl) (fun _ _ _ h => h) ?_ hHeld ?_
    rotate_left
    · (intro W hSw; (try dsimp only at hSw); go_simp; try with_reducible rfl)
    refine tk 10 (v := ?_) rfl (by kernel_rfl) (fun _ _ _ h => h) ?_ hHeld ?_
    rotate_left
    · (intro W hSw; (try dsimp only at hSw); go_simp; try with_reducible rfl)
    refine tk 11 (v := ?_) rfl (by kernel_rfl) (fun _ _ _ h => h) ?_ hHeld ?_
    rotate_left
    · (intro W hSw; (try dsimp only at hSw); go_simp; try with_reducible rfl)
    have hE := entry_new (P := Try.prog) (e := 3) Try.underlying33 Try.underlying3 (by go_simp; try rfl) mir HT5.out.block.2 one (fun q hq => (hn q hq).1)
    have HT6 := Lib.hid (HT5.out.putB (mir ++ [(one, 0)]))
    have HF6 := Lib.hid (HF5.out.trans (HT5.out.putBF (entB (mir ++ [(one, 0)]))))
    refine wpAnyH_ready (rs := [12]) (by kernel_rfl) (by simp) ?_
    refine AllReadyH.cons rfl (fun K hK => ?_) AllReadyH.nil
    go_simp
    refine hK.out _ _ HT6.out.cells.2.1 (fun hHeld => ?_)
    clear hK K hE HT5 HF5
    generalize setB W5 B _ = W6 at HT6 HF6 hHeld ⊢
    refine tk 13 (v := ?_) rfl (by kernel_rfl) (fun _ _ _ h => h) ?_ hHeld ?_
    rotate_left
    · (intro W hSw; (try dsimp only at hSw); go_simp; try with_reducible rfl)
    have hE := entry_store (P := Try.prog) (t := 33) mir [] (one, 0) HT6.out.block.2 other
    have HT7 := Lib.hid (HT6.out.putB (mir ++ [(one, other)]))
    have HF7 := Lib.hid (HF6.out.trans (HT6.out.putBF (entB (mir ++ [(one, other)]))))
    refine wpAnyH_ready (rs := [14]) (by kernel_rfl) (by simp) ?_
    refine AllReadyH.cons rfl (fun K hK => ?_) AllReadyH.nil
    go_simp
    refine hK.out _ _ HT7.out.cells.2.1 (fun hHeld => ?_)
    clear hK K hE HT6 HF6
    generalize setB W6 B _ = W7 at HT7 HF7 hHeld ⊢
    have hn2 : ∀ q ∈ mir ++ [(one, other)], q.1 ≠ other := fun q hq => (List.mem_append.1 hq).elim (fun g => (hn q g).2) (fun g => by rw [List.mem_singleton.1 g]; exact hne)
    generalize hmir2 : mir ++ [(one, other)] = mir2 at HT7 hn2
    have HM := Lib.hid hmir2
    clear hmir2
    have hE := entry_new (P := Try.prog) (e := 3) Try.underlying33 Try.underlying3 (by go_simp; try rfl) mir2 HT7.out.block.2 other hn2
    have HT8 := Lib.hid (HT7.out.putB (mir2 ++ [(other, 0)]))
    have HF8 := Lib.hid (HF7.out.trans (HT7.out.putBF (entB (mir2 ++ [(other, 0)]))))
    refine wpAnyH_ready (rs := [15]) (by kernel_rfl) (by simp) ?_
    refine AllReadyH.cons rfl (fun K hK => ?_) AllReadyH.nil
    go_simp
    refine hK.out _ _ HT8.out.cells.2.1 (fun hHeld => ?_)
    clear hK K hE HT7 HF7
    generalize setB W7 B _ = W8 at HT8 HF8 hHeld ⊢
    refine tk 16 (v := ?_) rfl (by kernel_rfl) (fun _ _ _ h => h) ?_ hHeld ?_
    rotate_left
    · (intro W hSw; (try dsimp only at hSw); go_simp; try with_reducible rfl)
    have hE := entry_store (P := Try.prog) (t := 33) mir2 [] (other, 0) HT8.out.block.2 one
    have HT9 := Lib.hid (HT8.out.putB (mir2 ++ [(other, one)]))
    have HF9 := Lib.hid (HF8.out.trans (HT8.out.putBF (entB (mir2 ++ [(other, one)]))))
    refine wpAnyH_ready (rs := [17]) (by kernel_rfl) (by simp) ?_
    refine AllReadyH.cons rfl (fun K hK => ?_) AllReadyH.nil
    go_simp
    refine hK.out _ _ HT9.out.cells.2.1 (fun hHeld => ?_)
    clear hK K hE HT8 HF8 hHeld
    generalize setB W8 B _ = W9 at HT9 HF9 ⊢
    refine wpAnyH_done (by kernel_rfl) ?_ _
    go_wp2_with fail
    go_end0
    exact ⟨⟨_, rfl⟩, ⟨_, by have hx := HT9.out; rw [← HM.out] at hx; simpa using hx⟩, HF9.out⟩
end Go.Proofs.Ytmhngehpddfccaa.Rt
namespace Go.Proofs.Ytmhngehpddfccaa.Rt
open Go.RowKit Mem Sm
set_option linter.unusedVariables false

/-- a map's mirror -/
def lk : List (Int × Int) → Int → Option Int
  | [], _ => none
  | q :: r, a => if q.1 = a then some q.2 else lk r a
theorem lk_none {l : List (Int × Int)} {a : Int} (h : lk l a = none) : ∀ q ∈ l, q.1 ≠ a := by
  induction l with
  | nil => intro q hq; simp at hq
  | cons z r ih =>
    simp only [lk] at h
    split at h
    · cases h
    · intro q hq
      rcases List.mem_cons.1 hq with rfl | hq
      · assumption
      · exact ih h q hq
theorem lk_some {l : List (Int × Int)} {a b : Int} (h : lk l a = some b) : (a, b) ∈ l := by
  induction l with
  | nil => simp [lk] at h
  | cons z r ih =>
    simp only [lk] at h
    split at h
    · rename_i e
      injection h with h
      obtain ⟨z1, z2⟩ := z
      simp only at e h
      subst e; subst h
      simp
    · exact List.mem_cons_of_mem _ (ih h)
theorem find_lk (a : Int) : ∀ (l : List (Int × Int)) (i n : Nat), ∃ j : Nat, Instr.findNow (.int .i64) (.int .i64 a) (entOf i l) n = some ((lk l a).map fun x => (j, .int .i64 x))
  | [], i, n => ⟨0, rfl⟩
  | q :: r, i, n => by
    by_cases h : q.1 = a
    · exact ⟨n, by simp [entOf, Instr.findNow, Instr.sameNow, lk, h]⟩
    · obtain ⟨j, hj⟩ := find_lk a r (i + 1) (n + 1)
      refine ⟨j, ?_⟩
      have hb : (a == q.1) = false := by simp; exact fun e => h e.symm
      simp [entOf, Instr.findNow, Instr.sameNow, lk, h, hb, hj]
theorem look_mp {P : Program} {t k e : TypeId} {W : World} {base : Nat} {mp : Value} {mir : List (Int × Int)} (hu : P.underlying t = some (.map k e)) (hk : P.underlying k = some (.int .i64)) (hz : (zeroValue e).run P W = .ok (.int .i64 0) W) (h : MpAt base W mp mir) (a : Int) :
    (Instr.lookup t mp (.int .i64 a) true).run P W = .ok (.tuple #[.int .i64 ((lk mir a).getD 0), .bool (lk mir a).isSome]) W := by
  rcases h with ⟨rfl, rfl⟩ | ⟨B, rfl, _, hb⟩
  · have hc := MapKept.run_checkKey (P := P) (w := W) (k := .int .i64 a) hk rfl true 9999
    have hf := MapKept.run_findKey (P := P) (w := W) (k := .int .i64 a) (l := []) hk rfl
    simp [Instr.lookup, run_underlying hu, hc, hf, hz, Result.andThen, lk]
  · obtain ⟨j, hj⟩ := find_lk a mir 0 0
    have hc := fun em => MapKept.run_checkKey (P := P) (w := W) (k := .int .i64 a) hk rfl em 9999
    have hf := MapKept.run_findKey (P := P) (w := W) hk hj
    cases hl : lk mir a with
    | none =>
      rw [hl] at hf
      simp [Instr.lookup, run_underlying hu, MapKept.run_getObj_map hb, hc, hf, hz, Result.andThen]
    | some x =>
      rw [hl] at hf
      simp [Instr.lookup, run_underlying hu, MapKept.run_getObj_map hb, hc, hf, Result.andThen]
theorem SlAt.after {base p : Nat} {W W' : World} {v mp u : Value} {vs : List Value} {M : List (List Rg)} {mir : List (Int × Int)} {l : List Rg} (hs : SlAt W u l) (h : RtAt base W p v mp vs M mir) (hf : RtF base p W W') : SlAt W' u l :=
  hs.keep hf.size fun k cs fr e => hf.keep k cs _ fr e (by decide) (by rintro rfl; rw [h.h0] at e; injection e with e; injection e with e1 e2; exact absurd e2 (by decide))
theorem row_of {W : World} {A : Option Addr} {n c : Nat} {l : List Rg} (hs : SlAt W (.slice A n c) l) : RRow W A n l := by
  obtain ⟨A', c', e, hr, _⟩ := hs
  injection e with e1 e2 e3
  subst e1; subst e2
  exact hr
def MirIs (base p : Nat) (v mp : Value) (vs : List Value) (M : List (List Rg)) (mir : List (Int × Int)) (l : List Rg) (of : Int) (W : World) (e : Ending) (W' : World) : Prop :=
  ((rightB l = true ∧ (lk mir of = none ∧ 0 ≤ of ∧ of < M.length) ∧ e = .returned (.int .i64 0) ∧ ∃ v' mp' vs', RtAt base W' p v' mp' vs' (M ++ [l]) (mir ++ [(of, (M.length : Int))] ++ [((M.length : Int), of)])) ∨
    (rightB l = true ∧ ¬ (lk mir of = none ∧ 0 ≤ of ∧ of < M.length) ∧ e = .returned (.int .i64 6) ∧ RtAt base W' p v mp vs M mir) ∨
    (rightB l = false ∧ e = .returned (.int .i64 1) ∧ RtAt base W' p v mp vs M mir)) ∧ RtF base p W W'
set_option maxRecDepth 100000 in
set_option maxHeartbeats 4000000 in
theorem mirror_any (base p : Nat) (v mp : Value) (vs : List Value) (M : List (List Rg)) (mir : List (Int × Int)) (l : List Rg) (of : Int) (A : Option Addr) (n c : Nat) (W : World) (hM : M.length ≤ 1000) (hn : n ≤ 100) (hmir : ∀ q ∈ mir, q.1 < M.length)
    (h : RtAt base W p v mp vs M mir) (hs : ∀ W', RtF base p W W' → RRow W' A n l) :
    Calls Try.prog 11 #[.pointer (some ⟨p, 0, none⟩), .slice A n c, .int .i64 of] W (MirIs base p v mp vs M mir l of W) := by
  have hr := hs W (RtF.refl _ _ _)
  have HS := Lib.hid hs
  have CC := check_any base p v mp vs M mir l A n c W hM hn h hr
  have HT := Lib.hid h
  have HR := Lib.hid hr
  have hbs := h.base_le
  clear h hr hs
  cases hrb : rightB l with
  | false =>
    rw [show chkE l = 1 by rw [chkE, hrb]; simp] at CC
    go_enter Try.func11, Try.ntmps11
    go_wp2_with fail
    refine CC.mono ?_
    rintro e W1 ⟨rfl, hb⟩
    have HT1 := Lib.hid (HT.out.step hb)
    have HF := Lib.hid (RtF.of_below (p := p) hb hbs)
    clear hb CC HT HR HS
    go_wp2
    go_ret
    exact ⟨.inr (.inr ⟨hrb, rfl, HT1.out⟩), HF.out⟩
  | true =>
    rw [show chkE l = 0 by rw [chkE, hrb]; simp] at CC
    by_cases hok : lk mir of = none ∧ 0 ≤ of ∧ of < M.length
    · obtain ⟨hl, h0, h1⟩ := hok
      go_enter Try.func11, Try.ntmps11
      go_wp2_with fail
      refine CC.mono ?_
      rintro e W1 ⟨rfl, hb⟩
      have HT1 := Lib.hid (HT.out.step hb)
      have HF := Lib.hid (RtF.of_below (p := p) hb hbs)
      clear hb CC HT HR
      have hLk := look_mp (P := Try.prog) (e := 3) Try.underlying33 Try.underlying3 (by go_simp; try rfl) HT1.out.mps of
      have hc := HT1.out.cells
      obtain ⟨hc0, hc1, _, _⟩ := hc
      obtain ⟨A1, c1, hv⟩ := HT1.out.form
      subst hv
      have g0 : ¬ of < 0 := by omega
      have g1 : ¬ (M.length : Int) ≤ of := by omega
      rw [hl] at hLk
      simp only [Option.isSome_none, Option.getD_none] at hLk
      have CB := bind_any base p _ mp vs M mir of M.length W1 (fun q hq => ⟨lk_none hl q hq, by have := hmir q hq; omega⟩) (by omega) HT1.out
      go_wp2_with fail
      refine CB.mono ?_
      rintro e W2 ⟨⟨x, rfl⟩, ⟨mp2, h2⟩, hf2⟩
      have CP := put_any base p _ mp2 vs M _ l A n c W2 hM hn h2 (HS.out _ (HF.out.trans hf2))
      go_wp2_with fail
      refine CP.mono ?_
      rintro e W3 ⟨⟨x3, rfl⟩, ⟨v3, vs3, h3⟩, hf3⟩
      have H3 := Lib.hid h3
      have HF3 := Lib.hid ((HF.out.trans hf2).trans hf3)
      clear h3 hf3 hf2 h2 CP CB HT1 HF
      go_wp2
      go_ret
      exact ⟨.inl ⟨hrb, ⟨hl, h0, h1⟩, rfl, _, _, _, H3.out⟩, HF3.out⟩
    · have HN := Lib.hid hok
      go_enter Try.func11, Try.ntmps11
      go_wp2_with fail
      refine CC.mono ?_
      rintro e W1 ⟨rfl, hb⟩
      have HT1 := Lib.hid (HT.out.step hb)
      have HF := Lib.hid (RtF.of_below (p := p) hb hbs)
      clear hb CC HT HR
      have hLk := look_mp (P := Try.prog) (e := 3) Try.underlying33 Try.underlying3 (by go_simp; try rfl) HT1.out.mps of
      have hc := HT1.out.cells
      obtain ⟨hc0, hc1, _, _⟩ := hc
      obtain ⟨A1, c1, hv⟩ := HT1.out.form
      subst hv
      cases hl : lk mir of with
      | some x =>
        rw [hl] at hLk
        simp only [Option.isSome_some, Option.getD_some] at hLk
        go_wp2
        go_ret
        exact ⟨.inr (.inl ⟨hrb, HN.out, rfl, HT1.out⟩), HF.out⟩
      | none =>
        rw [hl] at hLk
        simp only [Option.isSome_none, Option.getD_none] at hLk
        by_cases g0 : of < 0
        · clear hok
          go_wp2
          go_ret
          exact ⟨.inr (.inl ⟨hrb, HN.out, rfl, HT1.out⟩), HF.out⟩
        · have g1 : (M.length : Int) ≤ of := by
            rcases Int.lt_or_le of M.length with q | q
            · exact absurd ⟨hl, by omega, q⟩ hok
            · exact q
          clear hok
          go_wp2
          go_ret
          exact ⟨.inr (.inl ⟨hrb, HN.out, rfl, HT1.out⟩), HF.out⟩
end Go.Proofs.Ytmhngehpddfccaa.Rt
namespace Go.Proofs.Ytmhngehpddfccaa.Rt
open Go.RowKit Mem Sm
set_option linter.unusedVariables false

theorem RtAt.nth {base p : Nat} {W : World} {v mp : Value} {vs : List Value} {M : List (List Rg)} {mir : List (Int × Int)} (h : RtAt base W p v mp vs M mir) {j : Nat} (hj : j < M.length) :
    ∃ g cap A c, v = .slice (some ⟨g, 0, none⟩) M.length cap ∧ M.length ≤ cap ∧ W.cell? ⟨g, j, none⟩ = some (.slice A (M[j]).length c) ∧ RRow W A (M[j]).length M[j] := by
  rcases h.row.2 with ⟨_, h0⟩ | ⟨g, cap, cur, hv, h1, h2, h3, h4, h5, h6⟩
  · omega
  · obtain ⟨u, hu⟩ : ∃ u, vs[j]? = some u := ⟨_, List.getElem?_eq_getElem (by rw [h.sls.1]; exact hj)⟩
    obtain ⟨A, c, e, hr, _⟩ := h.sls.2 j u M[j] hu (List.getElem?_eq_getElem hj)
    refine ⟨g, cap, A, c, hv, h3, ?_, hr⟩
    rw [← e]
    have : cur[j]? = some u := by
      rw [← hu, ← h6, List.getElem?_take_of_lt (by omega)]
      simp
    simp [World.cell?, h2, this]
theorem below_cell {W W' : World} (hb : Below W.heap.size W W') {a : Addr} {u : Value} (h : W.cell? a = some u) : W'.cell? a = some u := by
  have hl := World.block_lt_of_cell? W a h
  have hk := hb.block _ hl
  simp only [World.cell?, hk] at h ⊢
  exact h
/-- a position whose token is gone goes on behind the mirror -/
noncomputable def recR (M : List (List Rg)) (mir : List (Int × Int)) (i : Int) (q : Pl) : Int × Int × Bool :=
  match lk mir i with
  | none => (0, 0, false)
  | some j => if q.gone = true ∧ i ≤ j then (recN (M.getD j.toNat []) q.rng q.off, j, recB (M.getD j.toNat []) q.rng q.off) else (0, 0, false)
set_option maxRecDepth 100000 in
set_option maxHeartbeats 4000000 in
theorem recovered_any (base p : Nat) (v mp : Value) (vs : List Value) (M : List (List Rg)) (mir : List (Int × Int)) (i : Int) (q : Pl) (W : World) (hM : M.length ≤ 1000) (hm : ∀ m ∈ M, m.length ≤ 100) (hmir : ∀ x ∈ mir, 0 ≤ x.2 ∧ x.2 < M.length)
    (h : RtAt base W p v mp vs M mir) :
    Calls Try.prog 39 #[.pointer (some ⟨p, 0, none⟩), .int .i64 i, plV q] W fun e W' => e = .returned (.tuple #[.int .i64 (recR M mir i q).1, .int .i64 (recR M mir i q).2.1, .bool (recR M mir i q).2.2]) ∧ Below W.heap.size W W' := by
  obtain ⟨qp, qg, qi, qr, qo⟩ := q
  unfold plV
  simp only
  have HB := Lib.hid ((Below.refl _ W).alloc (Nat.le_refl _) (.cells #[.int .i64 qp, .bool qg, .bool qi, .int .i64 qr, .int .i64 qo] 76))
  have HT := Lib.hid (h.step HB.out)
  have hn := heap_alloc_new W (.cells #[.int .i64 qp, .bool qg, .bool qi, .int .i64 qr, .int .i64 qo] 76)
  have hsz : (W.alloc (.cells #[.int .i64 qp, .bool qg, .bool qi, .int .i64 qr, .int .i64 qo] 76)).heap.size = W.heap.size + 1 := by simp
  obtain ⟨R, hRR⟩ : ∃ R, R = recR M mir i ⟨qp, qg, qi, qr, qo⟩ := ⟨_, rfl⟩
  rw [← hRR]
  have HRR := Lib.hid hRR
  clear h hRR
  go_enter Try.func39, Try.ntmps39
  obtain ⟨W0, hW0⟩ : ∃ W0, W0 = W.alloc (.cells #[.int .i64 qp, .bool qg, .bool qi, .int .i64 qr, .int .i64 qo] 76) := ⟨_, rfl⟩
  go_upto_region 1 with fail
  rw [← hW0] at hn HB HT hsz ⊢
  clear hW0
  have hq1 : W0.cell? ⟨W.heap.size, 1, none⟩ = some (.bool qg) := by simp [World.cell?, hn]
  have hq3 : W0.cell? ⟨W.heap.size, 3, none⟩ = some (.int .i64 qr) := by simp [World.cell?, hn]
  have hq4 : W0.cell? ⟨W.heap.size, 4, none⟩ = some (.int .i64 qo) := by simp [World.cell?, hn]
  have hLk := look_mp (P := Try.prog) (e := 3) Try.underlying33 Try.underlying3 (by go_simp; try rfl) HT.out.mps i
  obtain ⟨hc0, hc1, _, _⟩ := HT.out.cells
  cases hl : lk mir i with
  | none =>
    rw [hl] at hLk
    simp only [Option.isSome_none, Option.getD_none] at hLk
    have hR : recR M mir i ⟨qp, qg, qi, qr, qo⟩ = (0, 0, false) := by unfold recR; rw [hl]
    have HR := Lib.hid (HRR.out.trans hR)
    clear hR
    cases qg <;> (go_wp2; go_ret3; exact ⟨by rw [HR.out]; rfl, HB.out⟩)
  | some j =>
    rw [hl] at hLk
    simp only [Option.isSome_some, Option.getD_some] at hLk
    by_cases hg : qg = true ∧ i ≤ j
    · obtain ⟨rfl, hij⟩ := hg
      have hji : ¬ j < i := by omega
      have hR : recR M mir i ⟨qp, true, qi, qr, qo⟩ = (recN (M.getD j.toNat []) qr qo, j, recB (M.getD j.toNat []) qr qo) := by unfold recR; rw [hl]; simp [hij]
      have hjj := hmir _ (lk_some hl)
      simp only at hjj
      obtain ⟨k, rfl⟩ : ∃ k : Nat, j = k := ⟨j.toNat, by omega⟩
      have hkM : k < M.length := by omega
      obtain ⟨g, cap, A, c, hv, hcap, hcell, hrow⟩ := HT.out.nth hkM
      subst hv
      have hgd : M.getD ((k : Int)).toNat [] = M[k] := by simp [List.getD, hkM]
      rw [hgd] at hR
      have HR := Lib.hid (HRR.out.trans hR)
      clear hR
      have HRW := Lib.hid hrow
      go_wp2_with fail
      have HT5 : Hid (RtAt base W0.drew p _ mp vs M mir) := Lib.hid (HT.out.step (below_drewN (Below.refl _ _) 1))
      have HB5 : Hid (Below W.heap.size W W0.drew) := Lib.hid (below_drewN HB.out 1)
      have hS : W0.drew.cell? ⟨p, 0, none⟩ = some (.slice (some ⟨g, 0, none⟩) M.length cap) ∧ W0.drew.cell? ⟨g, k, none⟩ = some (.slice A (M[k]).length c) ∧ W0.drew.cell? ⟨W.heap.size, 3, none⟩ = some (.int .i64 qr) ∧ W0.drew.cell? ⟨W.heap.size, 4, none⟩ = some (.int .i64 qo) := ⟨hc0, hcell, hq3, hq4⟩
      have HRW5 : Hid (RRow W0.drew A (M[k]).length M[k]) := Lib.hid (HRW.out.below (below_drewN (Below.refl _ _) 1))
      have hln : (M[k]).length ≤ 100 := hm _ (List.getElem_mem hkM)
      refine wp_region_held_drew (S := fun w => w.cell? ⟨p, 0, none⟩ = some (.slice (some ⟨g, 0, none⟩) M.length cap) ∧ w.cell? ⟨g, k, none⟩ = some (.slice A (M[k]).length c) ∧ w.cell? ⟨W.heap.size, 3, none⟩ = some (.int .i64 qr) ∧ w.cell? ⟨W.heap.size, 4, none⟩ = some (.int .i64 qo)) (by kernel_rfl) hS (fun hHeld => ?_)
      clear hS
      generalize W0.drew = W5 at HT5 HB5 HRW5 hHeld ⊢
      refine tk 0 (v := ?_) rfl (by kernel_rfl) (fun _ _ _ h => h) ?_ hHeld ?_
      rotate_left
      · (intro W hSw; (try dsimp only at hSw); (try obtain ⟨hs1, hs2, hs3, hs4⟩ := hSw); go_simp; try with_reducible rfl)
      refine tk 1 (v := ?_) rfl (by kernel_rfl) (fun _ _ _ h => h) ?_ hHeld ?_
      rotate_left
      · (intro W hSw; (try dsimp only at hSw); (try obtain ⟨hs1, hs2, hs3, hs4⟩ := hSw); go_simp; try with_reducible rfl)
      refine tk 2 (v := ?_) rfl (by kernel_rfl) (fun _ _ _ h => h) ?_ hHeld ?_
      rotate_left
      · (intro W hSw; (try dsimp only at hSw); (try obtain ⟨hs1, hs2, hs3, hs4⟩ := hSw); go_simp; try with_reducible rfl)
      refine tk 3 (v := ?_) rfl (by kernel_rfl) (fun _ _ _ h => h) ?_ hHeld ?_
      rotate_left
      · (intro W hSw; (try dsimp only at hSw); (try obtain ⟨hs1, hs2, hs3, hs4⟩ := hSw); go_simp; try with_reducible rfl)
      refine tk 4 (v := ?_) rfl (by kernel_rfl) (fun _ _ _ h => h) ?_ hHeld ?_
      rotate_left
      · (intro W hSw; (try dsimp only at hSw); (try obtain ⟨hs1, hs2, hs3, hs4⟩ := hSw); go_simp; try with_reducible rfl)
      refine tk 5 (v := ?_) rfl (by kernel_rfl) (fun _ _ _ h => h) ?_ hHeld ?_
      rotate_left
      · (intro W hSw; (try dsimp only at hSw); (try obtain ⟨hs1, hs2, hs3, hs4⟩ := hSw); go_simp; try with_reducible rfl)
      refine tk 6 (v := ?_) rfl (by kernel_rfl) (fun _ _ _ h => h) ?_ hHeld ?_
      rotate_left
      · (intro W hSw; (try dsimp only at hSw); (try obtain ⟨hs1, hs2, hs3, hs4⟩ := hSw); go_simp; try with_reducible rfl)
      refine tk 7 (v := ?_) rfl (by kernel_rfl) (fun _ _ _ h => h) ?_ hHeld ?_
      rotate_left
      · (intro W hSw; (try dsimp only at hSw); (try obtain ⟨hs1, hs2, hs3, hs4⟩ := hSw); go_simp; try with_reducible rfl)
      refine tk 8 (v := ?_) rfl (by kernel_rfl) (fun _ _ _ h => h) ?_ hHeld ?_
      rotate_left
      · (intro W hSw; (try dsimp only at hSw); (try obtain ⟨hs1, hs2, hs3, hs4⟩ := hSw); go_simp; try with_reducible rfl)
      refine tk 9 (v := ?_) rfl (by kernel_rfl) (fun _ _ _ h => h) ?_ hHeld ?_
      rotate_left
      · (intro W hSw; (try dsimp only at hSw); (try obtain ⟨hs1, hs2, hs3, hs4⟩ := hSw); go_simp; try with_reducible rfl)
      refine tk 10 (v := ?_) rfl (by kernel_rfl) (fun _ _ _ h => h) ?_ hHeld ?_
      rotate_left
      · (intro W hSw; (try dsimp only at hSw); (try obtain ⟨hs1, hs2, hs3, hs4⟩ := hSw); go_simp; try with_reducible rfl)
      refine wpAnyH_ready (rs := [11]) (by kernel_rfl) (by simp) ?_
      refine AllReadyH.cons rfl (fun K hK => ?_) AllReadyH.nil
      go_simp
      refine (precover_any M[k] A _ c qr qo W5 hln (RLow.of HRW5.out)).mono ?_
      rintro e W6 ⟨rfl, hb6⟩
      have hS6 := And.intro (below_cell hb6 hHeld.1) (And.intro (below_cell hb6 hHeld.2.1) (And.intro (below_cell hb6 hHeld.2.2.1) (below_cell hb6 hHeld.2.2.2)))
      have HB6 := Lib.hid (HB5.out.trans (hb6.mono HB5.out.size))
      clear hb6 HT5 HB5 HRW5 hHeld
      go_wp2_with fail
      refine hK.out _ _ hS6 (fun hHeld => ?_)
      clear hK K hS6
      refine tk 12 (v := ?_) rfl (by kernel_rfl) (fun _ _ _ h => h) ?_ hHeld ?_
      rotate_left
      · (intro W hSw; (try dsimp only at hSw); go_simp; try with_reducible rfl)
      refine tk 13 (v := ?_) rfl (by kernel_rfl) (fun _ _ _ h => h) ?_ hHeld ?_
      rotate_left
      · (intro W hSw; (try dsimp only at hSw); go_simp; try with_reducible rfl)
      refine tk 14 (v := ?_) rfl (by kernel_rfl) (fun _ _ _ h => h) ?_ hHeld ?_
      rotate_left
      · (intro W hSw; (try dsimp only at hSw); go_simp; try with_reducible rfl)
      have hS7 := hHeld
      refine wpAnyH_ready (rs := [15]) (by kernel_rfl) (by simp) ?_
      refine AllReadyH.cons rfl (fun K hK => ?_) AllReadyH.nil
      go_simp
      refine hK.out _ _ hS7 (fun hHeld => ?_)
      clear hK K
      refine wpAnyH_ready (rs := [16]) (by kernel_rfl) (by simp) ?_
      refine AllReadyH.cons rfl (fun K hK => ?_) AllReadyH.nil
      go_simp
      refine hK.out _ _ hS7 (fun hHeld => ?_)
      clear hK K hS7 hHeld
      refine wpAnyH_done (by kernel_rfl) ?_ _
      go_wp2_with fail
      go_ret3
      exact ⟨by rw [HR.out]; rfl, HB6.out⟩
    · have hR : recR M mir i ⟨qp, qg, qi, qr, qo⟩ = (0, 0, false) := by unfold recR; rw [hl]; simp only; rw [if_neg hg]
      have HR := Lib.hid (HRR.out.trans hR)
      clear hR
      cases qg with
      | false => go_wp2; go_ret3; exact ⟨by rw [HR.out]; rfl, HB.out⟩
      | true =>
        have hji : j < i := by
          rcases Int.lt_or_le j i with g | g
          · exact g
          · exact absurd ⟨rfl, g⟩ hg
        clear hg
        go_wp2
        go_ret3
        exact ⟨by rw [HR.out]; rfl, HB.out⟩
end Go.Proofs.Ytmhngehpddfccaa.Rt
