/- Walks of the reference of Show: the signs of a part. -/
import Derived.Test.YtphhacnabdpheaaDoorExRR
import Derived.Deep.RegionHeld3
import Derived.Deep.Cut
import Derived.Deep.CutRange
namespace Go.Proofs.YtphhacnabdpheaaDoor.Ex
open Go.RowKit Mem Lx
set_option linter.unusedVariables false
set_option linter.unusedSimpArgs false

section
variable {P : Program}
theorem run_app_sgs {w : World} (base : Nat) (t ty e : TypeId) (i : TypeInfo) (z : Value) (ht : P.underlying t = some (.slice e)) (hi : P.info? e = some i) (hz : i.zero = some z) (hz1 : z.cells.size = 5)
    (hsize : i.size = 5) (hby : i.bytes = 48) {v v2 : Value} {l l2 : List Sg} (hown : w.ownsRow base e 5 v l.length (cells5 l)) {b2 : Nat} (hown2 : w.ownsRow b2 e 5 v2 l2.length (cells5 l2)) (hne : 0 < l2.length)
    (hbig : l.length + l2.length ≤ 1000000) (hbase : base ≤ w.heap.size) :
    ∃ v' w', (Builtin.append_ #[t, t] ty #[v, v2]).run P w = .ok v' w' ∧ w'.ownsRow base e 5 v' (l ++ l2).length (cells5 (l ++ l2)) ∧ w.grownBy w' v.ownBlock ∧ (v'.ownBlock = v.ownBlock ∨ v'.ownBlock = some w.heap.size) := by
  rcases hown2.2 with ⟨_, h0⟩ | ⟨g, cap, cur, rfl, hb2, hg, hnc, hm, hs, htl⟩
  · exact absurd h0 (by omega)
  · obtain ⟨v', w', h1, h2, h3, _, h5⟩ := run_append_own_at (P := P) w base t ty e i z 5 48 ht hi hz hsize hby hz1 (by omega) v l.length (cells5 l) hown ⟨g, 0, none⟩ l2.length cap (cells5 l2)
      (by rw [cells5_length]) (fun j u hu => hown2.cells (g := g) rfl j u hu) (by
        intro u hu
        obtain ⟨x, _, hx⟩ := List.mem_flatMap.1 hu
        simp [cells1] at hx; rcases hx with rfl | rfl | rfl | rfl | rfl <;> rfl) (by simp only [maxLen]; omega) (by omega) hbase
    exact ⟨v', w', h1, by rw [cells5_append, List.length_append]; exact h2, h3, h5⟩
/-- 'append(v, more..)' in a walk -/
theorem wpList_app_sgs {w : World} {ops : Array Oper} {rest : List Oper} {o : Oper} {a : Act} {Q : Exit → Act → World → Prop} (hgd : o.guard = none) (s x : Operand) (t : TypeId)
    (ho : o.op = .call { callee := .builtin .append, args := #[s, x], argTypes := #[t, t] })
    (base : Nat) (e : TypeId) (i : TypeInfo) (z : Value) (ht : P.underlying t = some (.slice e)) (hi : P.info? e = some i) (hz : i.zero = some z) (hz1 : z.cells.size = 5)
    (hsize : i.size = 5) (hby : i.bytes = 48) (v v2 : Value) (l l2 : List Sg) (hs : a.eval s = v) (hown : w.ownsRow base e 5 v l.length (cells5 l)) (hx : a.eval x = v2) (b2 : Nat) (hown2 : w.ownsRow b2 e 5 v2 l2.length (cells5 l2)) (hne : 0 < l2.length)
    (hbig : l.length + l2.length ≤ 1000000) (hbase : base ≤ w.heap.size)
    (h : ∀ v' w', w'.ownsRow base e 5 v' (l ++ l2).length (cells5 (l ++ l2)) → w.grownBy w' v.ownBlock → (v'.ownBlock = v.ownBlock ∨ v'.ownBlock = some w.heap.size) → wpList P ops Q rest (a.put o.dst v') w') :
    wpList P ops Q (o :: rest) a w := by
  refine wpList_plain hgd fun K hK => ?_
  obtain ⟨v', w', hrun, h2, h3, h4⟩ := run_app_sgs (P := P) base t o.type e i z ht hi hz hz1 hsize hby hown hown2 hne hbig hbase
  unfold Oper.wp
  simp [execOp, ho, resolve, invoke, builtin, hs, hx, hrun, Result.andThen]
  exact hK _ _ (h v' w' h2 h3 h4)
theorem step_app_sgs {w : World} {ops : Array Oper} {o : Oper} {a : Act} {K : Act → World → Prop} {Q : Exit → Act → World → Prop} {E : Prop} (hgd : o.guard = none) (s x : Operand) (t : TypeId)
    (ho : o.op = .call { callee := .builtin .append, args := #[s, x], argTypes := #[t, t] })
    (base : Nat) (e : TypeId) (i : TypeInfo) (z : Value) (ht : P.underlying t = some (.slice e)) (hi : P.info? e = some i) (hz : i.zero = some z) (hz1 : z.cells.size = 5)
    (hsize : i.size = 5) (hby : i.bytes = 48) (v v2 : Value) (l l2 : List Sg) (hs : a.eval s = v) (hown : w.ownsRow base e 5 v l.length (cells5 l)) (hx : a.eval x = v2) (b2 : Nat) (hown2 : w.ownsRow b2 e 5 v2 l2.length (cells5 l2)) (hne : 0 < l2.length)
    (hbig : l.length + l2.length ≤ 1000000) (hbase : base ≤ w.heap.size)
    (h : ∀ v' w', w'.ownsRow base e 5 v' (l ++ l2).length (cells5 (l ++ l2)) → w.grownBy w' v.ownBlock → (v'.ownBlock = v.ownBlock ∨ v'.ownBlock = some w.heap.size) → K (a.put o.dst v') w') :
    if Region.wanted o (yielded ops a.tmps) = true then Oper.wp P o a w K Q else E := by
  have hw : Region.wanted o (yielded ops a.tmps) = true := by simp [Region.wanted, hgd]
  rw [if_pos hw]
  obtain ⟨v', w', hrun, h2, h3, h4⟩ := run_app_sgs (P := P) base t o.type e i z ht hi hz hz1 hsize hby hown hown2 hne hbig hbase
  unfold Oper.wp
  simp [execOp, ho, resolve, invoke, builtin, hs, hx, hrun, Result.andThen]
  exact h v' w' h2 h3 h4
end

/-- a part's signs, in brackets if asked -/
def inT (b : Bool) (L : List Sg) : List Sg := if b then (⟨2, 0, 0, 0, []⟩ :: L) ++ [⟨3, 0, 0, 0, []⟩] else L
/-- a row of the reference's signs, made new -/
def SgOut (w : World) (L : List Sg) (en : Ending) (w' : World) : Prop := ∃ A' c', en = .returned (.slice A' L.length c') ∧ w'.ownsRow w.heap.size 73 5 (.slice A' L.length c') L.length (cells5 L) ∧ Below w.heap.size w w'
/-- parts whose kinds are those of expressions, each kid ahead of its part, none without signs -/
def Tl (e : List PI) : Prop := ∀ i (h : i < e.length), (e[i].kind = 1 ∨ e[i].kind = 2 ∨ e[i].kind = 3 ∨ e[i].kind = 4) ∧ (∀ z ∈ e[i].kids, ∃ j : Nat, z = j ∧ j < i) ∧ e[i].kids.length ≤ 1000 ∧ (e[i].kind = 1 → e[i].kids = []) ∧ ∀ f, i < f → 0 < (tellI e f i).length ∧ (tellI e f i).length ≤ 300
def SignsAt (A : Option Addr) (n c : Nat) (e : List PI) (w0 : World) (f : Nat) : Prop := ∀ (i : Nat) (w : World) (b : Bool), i < f → i < n → Below w0.heap.size w0 w →
  Calls Tryd.prog 37 #[.slice A n c, .int .i64 i, .bool b] w (SgOut w (inT b (tellI e f i)))
theorem tellK_app (T : Nat → List Sg) (e : List PI) (kind : Int) : ∀ (ks : List Int) (j : Nat) (h : j < ks.length), tellK T e kind j (ks.drop j) = ((if 0 < j ∧ kind = 3 then [⟨4, 0, 0, 0, []⟩] else []) ++ (if brk ((e[(ks[j]).toNat]?.map PI.kind).getD 0) kind then (⟨2, 0, 0, 0, []⟩ :: T (ks[j]).toNat) ++ [⟨3, 0, 0, 0, []⟩] else T (ks[j]).toNat)) ++ tellK T e kind (j + 1) (ks.drop (j + 1)) := by
  intro ks j h
  rw [List.drop_eq_getElem_cons h]
  rfl
theorem info_rsg9 : (Tryd.prog.info? 73).map (fun i => (i.zero, i.size, i.bytes)) = some (some (.agg #[.int .i64 0, .int .i64 0, .int .i64 0, .int .i64 0, .string ⟨#[]⟩]), 5, 48) := by kernel_rfl
/-- the row so far, and the part's own block -/
def SgR (w : World) (pb : Nat) (p : PI) (kv : Value) (l : List Sg) (v : Value) (W : World) : Prop :=
  ∃ A1 c1, v = .slice A1 l.length c1 ∧ W.ownsRow w.heap.size 73 5 (.slice A1 l.length c1) l.length (cells5 l) ∧ Below w.heap.size w W ∧ RP W pb p kv
theorem RP.grown {w w' : World} {pb : Nat} {p : PI} {kv : Value} {row : Option Nat} (h : RP w pb p kv) (hg : w.grownBy w' row) (hne : some pb ≠ row) : RP w' pb p kv := (hg.block pb h.lt hne).trans h
theorem RP.not_sg {w : World} {pb base n : Nat} {p : PI} {kv v : Value} {xs : List Value} (h : RP w pb p kv) (ho : w.ownsRow base 73 5 v n xs) : some pb ≠ v.ownBlock := by
  unfold RP at h
  rcases ho.2 with ⟨rfl, _⟩ | ⟨g, cap, cur, rfl, _, hg, _⟩
  · simp [Value.ownBlock]
  · simp only [Value.ownBlock]
    rintro ⟨⟩
    rw [h] at hg
    simp only [Option.some.injEq, Obj.cells.injEq] at hg
    have := hg.2.1
    revert this
    decide
section
variable {w W W2 : World} {pb : Nat} {p : PI} {kv v v' : Value} {l l2 : List Sg}
theorem SgR.row (h : SgR w pb p kv l v W) (o : Obj) : (W.alloc o).ownsRow w.heap.size 73 5 v l.length (cells5 l) := by
  obtain ⟨A, c, rfl, ho, _⟩ := h
  exact ho.alloc o
theorem SgR.row0 (h : SgR w pb p kv l v W) : W.ownsRow w.heap.size 73 5 v l.length (cells5 l) := by
  obtain ⟨A, c, rfl, ho, _⟩ := h
  exact ho
theorem SgR.bel (h : SgR w pb p kv l v W) : Below w.heap.size w W := by
  obtain ⟨A, c, rfl, ho, hb, _⟩ := h
  exact hb
theorem SgR.part (h : SgR w pb p kv l v W) : RP W pb p kv := by
  obtain ⟨A, c, rfl, ho, hb, hp⟩ := h
  exact hp
theorem SgR.below (h : SgR w pb p kv l v W) (hb2 : Below W.heap.size W W2) : SgR w pb p kv l v W2 := by
  obtain ⟨A, c, rfl, ho, hb, hp⟩ := h
  exact ⟨A, c, rfl, ho.kept (row := none) ⟨hb2.os, hb2.tape, hb2.output, hb2.size, fun i hi _ => hb2.block i hi⟩ (Classical.em _), hb.trans (hb2.mono hb.size), hp.below hb2⟩
/-- .. with one sign more -/
theorem SgR.more (h : SgR w pb p kv l v W) {o : Obj} (hown : W2.ownsRow w.heap.size 73 5 v' l2.length (cells5 l2)) (hg : (W.alloc o).grownBy W2 v.ownBlock) : SgR w pb p kv l2 v' W2 := by
  obtain ⟨A, c, rfl, ho, hb, hp⟩ := h
  have ho1 := ho.alloc o
  have hz := hb.size
  obtain ⟨A2, c2, rfl⟩ := own_form5 hown
  have hp1 : RP (W.alloc o) pb p kv := hp.below ((Below.refl _ _).alloc (Nat.le_refl _) o)
  exact ⟨A2, c2, rfl, hown, (hb.alloc hz o).grown hg (by simp; omega) (fun g hg => (ho1.lt g hg).1), hp1.grown hg (hp1.not_sg ho1)⟩
theorem SgR.more0 (h : SgR w pb p kv l v W) (hown : W2.ownsRow w.heap.size 73 5 v' l2.length (cells5 l2)) (hg : W.grownBy W2 v.ownBlock) : SgR w pb p kv l2 v' W2 := by
  obtain ⟨A, c, rfl, ho, hb, hp⟩ := h
  have hz := hb.size
  obtain ⟨A2, c2, rfl⟩ := own_form5 hown
  exact ⟨A2, c2, rfl, hown, hb.grown hg hz (fun g hg => (ho.lt g hg).1), hp.grown hg (hp.not_sg ho)⟩
end
theorem brk3 (kd : Int) : brk 3 kd = true := by
  unfold brk
  split
  · rfl
  · split <;> rfl
theorem brk2 (kd : Int) (h : kd ≠ 3) : brk 2 kd = true := by
  unfold brk
  rw [if_neg h]
  split <;> rfl
theorem brk4 (kd : Int) (h : kd = 2 ∨ kd = 3) : brk 4 kd = false := by
  rcases h with rfl | rfl <;> rfl
theorem brk1 (kd : Int) : brk 1 kd = false := by
  unfold brk
  split
  · rfl
  · split <;> rfl
theorem PR.kind_at {w : World} {b off n : Nat} {e : List PI} (h : PR w (some ⟨b, off, none⟩) n e) (k : Nat) (hk : k < e.length) : w.cell? ⟨b, off + k * 5, none⟩ = some (.int .i64 e[k].kind) := by
  have hl := h.1
  obtain ⟨b2, off2, e1, _, hc⟩ := h.2 (by omega)
  simp only [Option.some.injEq, Addr.mk.injEq] at e1
  obtain ⟨rfl, rfl, _⟩ := e1
  exact (hc k hk).1
set_option maxRecDepth 100000 in
set_option maxHeartbeats 8000000 in
theorem signs_step (A : Option Addr) (n c : Nat) (e : List PI) (w0 : World) (hp : PR w0 A n e) (hn : n ≤ 100000) (hT : Tl e) (f : Nat) (IH : SignsAt A n c e w0 f) : SignsAt A n c e w0 (f + 1) := by
  intro i w b hif hin hb0
  obtain ⟨i0, hi0, hz0, hs1, hs2⟩ := info_parts info_rsg9
  have hin' : i < e.length := by have := hp.1; omega
  obtain ⟨bb, off, rfl, hb, hc⟩ := (hp.below hb0).2 (by omega)
  obtain ⟨a0, a1, a2, a3, kv, a4, ra⟩ := hc i hin'
  obtain ⟨t1, t2, t3, t4, t5⟩ := hT i hin'
  have HT := hide hT
  have HLN := Lib.hid (⟨hp.1, (t5 (f + 1) hif).2⟩ : e.length = n ∧ (tellI e (f + 1) i).length ≤ 300)
  have HTE : Hid (tellI e (f + 1) i = ((if e[i].kind = 1 then [⟨1, 0, 0, 0, e[i].name⟩] else []) ++ tellK (tellI e f) e e[i].kind 0 e[i].kids) ++ (if e[i].kind = 4 then [⟨5, 0, e[i].low, e[i].high, []⟩] else [])) := by
    show _ = _
    rw [tellI, List.getElem?_eq_getElem hin']
  generalize e[i] = p at a0 a1 a2 a3 ra t1 t2 t3 t4 HTE
  obtain ⟨Ak, ck, rfl, hck, hrk⟩ := ra
  obtain ⟨kd, lo, hi, nm, ks⟩ := p
  dsimp only at a0 a1 a2 a3 a4 hck hrk t1 t2 t3 t4 HTE
  have g0 : (i : Int) < (n : Int) := by omega
  have HB0 := Lib.hid hb0
  have HPR := hide hp
  have HIH := hide (fun (i : Nat) (w : World) (b : Bool) (h1 : i < f) (h2 : i < n) (h3 : Below w0.heap.size w0 w) => IH i w b h1 h2 h3)
  have HRP := Lib.hid (RP.new w ⟨kd, lo, hi, nm, ks⟩ (.slice Ak ks.length ck))
  have HBA : Hid (Below w.heap.size w (w.alloc (.cells #[.int .i64 kd, .int .i64 lo, .int .i64 hi, .string ⟨nm.toArray⟩, .slice Ak ks.length ck] 40))) := (Below.refl _ _).alloc (Nat.le_refl _) _
  have HRK := Lib.hid hrk
  have HK := Lib.hid (⟨t1, t2, t4⟩ : (kd = 1 ∨ kd = 2 ∨ kd = 3 ∨ kd = 4) ∧ (∀ z ∈ ks, ∃ j : Nat, z = j ∧ j < i) ∧ (kd = 1 → ks = []))
  have HPB := Lib.hid hb
  clear IH hb0 hc hrk hp hT hin' t1 t2 t4 t5
  go_enter Tryd.func37, Tryd.ntmps37
  go_upto_if 15 with fail
  generalize w.alloc (.cells #[.int .i64 kd, .int .i64 lo, .int .i64 hi, .string ⟨nm.toArray⟩, .slice Ak ks.length ck] 40) = W1 at *
  have HS0 : Hid (SgR w w.heap.size ⟨kd, lo, hi, nm, ks⟩ (.slice Ak ks.length ck) [] (.slice none 0 0) W1) := ⟨none, 0, rfl, World.ownsRow_nil _ _ _ _, HBA.out, HRP.out⟩
  obtain ⟨v0, hv0⟩ : ∃ v0 : Value, v0 = .slice none 0 0 := ⟨_, rfl⟩
  go_cut [7] from 16 to 19 (fun v wx => Hid (SgR w w.heap.size ⟨kd, lo, hi, nm, ks⟩ (.slice Ak ks.length ck) (if b then [⟨2, 0, 0, 0, []⟩] else []) v wx))
  case first =>
    have HLL : Hid (([] : List Sg).length ≤ 1000) := by show _ ≤ _; simp
    cases b with
    | true =>
      go_wp2_with (at_builtin; (refine wpList_app_sg rfl (.tmp 16) (.tmp 18) _ rfl w.heap.size 73 i0 _ Tryd.underlying69 hi0 hz0 rfl hs1 hs2 _ [] rfl (HS0.out.row _) W1.heap.size 1 ⟨2, 0, 0, 0, []⟩ rfl (one_cells W1 #[.int .i64 2, .int .i64 0, .int .i64 0, .int .i64 0, .string ⟨#[]⟩] (cells1 ⟨2, 0, 0, 0, []⟩) rfl) (by have := HLL.out; omega) (by have := HS0.out.bel.size; simp; omega) ?_); intro v' w2 hown hg hat; have HS1 := Lib.hid (HS0.out.more hown hg); clear hown hg hat)
      go_meet
      exact HS1
    | false =>
      go_wp2_with fail
      go_meet
      exact HS0
  case rest =>
    have HS1 := hcut
    obtain ⟨L1, hL1⟩ : ∃ L1 : List Sg, L1 = (if b then [⟨2, 0, 0, 0, []⟩] else []) := ⟨_, rfl⟩
    rw [← hL1] at HS1
    have HL1 := Lib.hid hL1
    have hl1 : L1.length ≤ 1 := by rw [hL1]; split <;> simp
    clear hL1 hcut
    obtain ⟨p0, p1, p2, p3, p4⟩ := HS1.out.part.cells
    dsimp only at p0 p1 p2 p3
    go_upto_if 22 with fail
    go_cut [7] from 23 to 28 (fun v wx => Hid (SgR w w.heap.size ⟨kd, lo, hi, nm, ks⟩ (.slice Ak ks.length ck) (L1 ++ (if kd = 1 then [⟨1, 0, 0, 0, nm⟩] else [])) v wx))
    case first =>
      have HLL : Hid (L1.length ≤ 1000) := by show _ ≤ _; omega
      by_cases k1 : kd = 1
      · subst k1
        go_wp2_with (at_builtin; (refine wpList_app_sg rfl (.tmp 23) (.tmp 27) _ rfl w.heap.size 73 i0 _ Tryd.underlying69 hi0 hz0 rfl hs1 hs2 _ L1 rfl (HS1.out.row _) wc.heap.size 1 ⟨1, 0, 0, 0, nm⟩ rfl (one_cells wc #[.int .i64 1, .int .i64 0, .int .i64 0, .int .i64 0, .string ⟨nm.toArray⟩] (cells1 ⟨1, 0, 0, 0, nm⟩) rfl) (by have := HLL.out; omega) (by have := HS1.out.bel.size; simp; omega) ?_); intro v' w2 hown hg hat; have HS2 := Lib.hid (HS1.out.more hown hg); clear hown hg hat)
        go_meet
        exact HS2
      · have x1 : (kd == 1) = false := by simpa using k1
        have HS2 : Hid (SgR w w.heap.size ⟨kd, lo, hi, nm, ks⟩ (.slice Ak ks.length ck) (L1 ++ (if kd = 1 then [⟨1, 0, 0, 0, nm⟩] else [])) u7 wc) := by rw [if_neg k1, List.append_nil]; exact HS1
        clear k1
        go_wp2_with fail
        go_meet
        exact HS2
    case rest =>
      have HS2 := hcut
      obtain ⟨L2, hL2⟩ : ∃ L2 : List Sg, L2 = L1 ++ (if kd = 1 then [⟨1, 0, 0, 0, nm⟩] else []) := ⟨_, rfl⟩
      rw [← hL2] at HS2
      have HL2 := Lib.hid hL2
      have hl2 : L2.length ≤ 2 := by rw [hL2]; split <;> simp <;> omega
      clear hL2 hcut p0 p1 p2 p3 p4 HS1
      have HTOT : Hid ((L2 ++ tellK (tellI e f) e kd 0 ks).length ≤ 310) := by
        show _ ≤ _
        have h1 := HLN.out.2
        rw [HTE.out] at h1
        simp at h1 ⊢; omega
      go_upto_region 7 with fail
      generalize u7 = v2 at *
      go_wp2_with fail
      go_loopw [7, 9] (fun v iv wr => ∃ (j : Nat) (l : List Sg), iv = .int .i64 j ∧ j ≤ ks.length ∧ Hid (SgR w w.heap.size ⟨kd, lo, hi, nm, ks⟩ (.slice Ak ks.length ck) l v wr) ∧ Hid (l ++ tellK (tellI e f) e kd j (ks.drop j) = L2 ++ tellK (tellI e f) e kd 0 ks)) (fun _ iv _ => ks.length - (intOf iv).toNat)
      case atStart => exact ⟨0, L2, rfl, by omega, HS2, Lib.hid rfl⟩
      case round =>
        obtain ⟨j, l, rfl, hj, HS, HE⟩ := hrel
        obtain ⟨p0, p1, p2, p3, p4⟩ := HS.out.part.cells
        dsimp only at p0 p1 p2 p3
        have hl : l.length ≤ 310 := by
          have h1 := HTOT.out
          rw [← HE.out] at h1
          simp at h1; omega
        by_cases hlt : j < ks.length
        · have l1 : decide ((j : Int) < (ks.length : Int)) = true := by simp; omega
          have l2 : decide (j < ks.length) = true := by simp; omega
          have g1 : (j : Int) < (ks.length : Int) := by omega
          have HAP := Lib.hid (tellK_app (tellI e f) e kd ks j hlt)
          obtain ⟨k, hzk, hki0⟩ := HK.out.2.1 _ (List.getElem_mem hlt)
          have hki : k < f := by omega
          have hkn : k < n := by omega
          have hkn' : (k : Int) < (n : Int) := by omega
          have hke : k < e.length := by have := HLN.out.1; omega
          have hrow := HRK.out.below HS.out.bel
          obtain ⟨kb, ko, hAk, hkc⟩ := hrow.2.2 (by omega)
          have HAK := Lib.hid hAk
          rw [hAk] at p4
          have k0 := hkc j hlt
          have hgd : ks.getD j 0 = (k : Int) := by simp [List.getD, List.getElem?_eq_getElem hlt, hzk]
          rw [hgd] at k0
          have e0 := (HPR.out.below (HB0.out.trans (HS.out.bel.mono HB0.out.size))).kind_at k hke
          have HTK := Lib.hid ((HT.out k hke).2.2.2.2 f hki)
          have HK4 := Lib.hid (HT.out k hke).1
          have hkk : (e[(ks[j]).toNat]?.map PI.kind).getD 0 = e[k].kind := by rw [hzk, Int.toNat_natCast, List.getElem?_eq_getElem hke]; rfl
          have hkt : (ks[j]).toNat = k := by rw [hzk, Int.toNat_natCast]
          rw [hkk, hkt] at HAP
          generalize e[k].kind = kk at e0 HK4 HAP
          have h1kd : kd ≠ 1 := by intro h; have := HK.out.2.2 h; rw [this] at hlt; simp at hlt
          have HLL : Hid (l.length ≤ 1000) := by show _ ≤ _; omega
          have HNE := Lib.hid h1kd
          have hgdd := Lib.hid hgd
          clear hkk hkt hgd hkc hrow hzk h1kd hAk
          go_upto_region 11 with fail
          go_cut [51] from 45 to 51 (fun v wx => v = .bool (decide (0 < j ∧ kd = 3)) ∧ wx = wr)
          case first =>
            by_cases h3 : kd = 3
            · subst h3
              by_cases h0 : 0 < j
              · have y0 : decide ((0 : Int) < (j : Int)) = true := by simp; omega
                have y1 : decide (0 < j) = true := by simpa using h0
                have HD : Hid (decide (0 < j ∧ (3 : Int) = 3) = true) := by show _ = _; simp [h0]
                clear h0
                go_wp2_with fail
                go_meet
                exact ⟨by rw [HD.out], rfl⟩
              · have y0 : decide ((0 : Int) < (j : Int)) = false := by simp; omega
                have y1 : decide (0 < j) = false := by simpa using h0
                have HD : Hid (decide (0 < j ∧ (3 : Int) = 3) = false) := by show _ = _; simp [h0]
                clear h0
                go_wp2_with fail
                go_meet
                exact ⟨by rw [HD.out], rfl⟩
            · have x3 : (kd == 3) = false := by simpa using h3
              have HD : Hid (decide (0 < j ∧ kd = 3) = false) := by show _ = _; simp [h3]
              clear h3
              go_wp2_with fail
              go_meet
              exact ⟨by rw [HD.out], rfl⟩
          case rest =>
            obtain ⟨rfl, rfl⟩ := hcut
            have HIF : Hid ((if 0 < j ∧ kd = 3 then [⟨4, 0, 0, 0, []⟩] else [] : List Sg) = if decide (0 < j ∧ kd = 3) = true then [⟨4, 0, 0, 0, []⟩] else []) := by show _ = _; simp only [decide_eq_true_eq]
            generalize decide (0 < j ∧ kd = 3) = OB at HIF ⊢
            go_upto_if 51 with fail
            go_cut [7] from 52 to 55 (fun v wx => Hid (SgR w w.heap.size ⟨kd, lo, hi, nm, ks⟩ (.slice Ak ks.length ck) (l ++ (if OB = true then [⟨4, 0, 0, 0, []⟩] else [])) v wx))
            case first =>
              cases OB with
              | true =>
                go_wp2_with (at_builtin; (refine wpList_app_sg rfl (.tmp 52) (.tmp 54) _ rfl w.heap.size 73 i0 _ Tryd.underlying69 hi0 hz0 rfl hs1 hs2 _ l rfl (HS.out.row _) wc.heap.size 1 ⟨4, 0, 0, 0, []⟩ rfl (one_cells wc #[.int .i64 4, .int .i64 0, .int .i64 0, .int .i64 0, .string ⟨#[]⟩] (cells1 ⟨4, 0, 0, 0, []⟩) rfl) (by have := HLL.out; omega) (by have := HS.out.bel.size; simp; omega) ?_); intro v' w2 hown hg hat; have HS3 := Lib.hid (HS.out.more hown hg); clear hown hg hat)
                go_meet
                exact HS3
              | false =>
                have HS3 := HS
                rw [← List.append_nil l] at HS3
                go_wp2_with fail
                go_meet
                exact HS3
            case rest =>
              obtain ⟨OR, hOR⟩ : ∃ OR : List Sg, OR = (if OB = true then [⟨4, 0, 0, 0, []⟩] else []) := ⟨_, rfl⟩
              rw [← hOR] at hcut
              rw [HIF.out, ← hOR] at HAP
              have hORl : OR.length ≤ 1 := by rw [hOR]; split <;> simp
              obtain ⟨BR, hBR⟩ : ∃ BR : List Sg, BR = (if brk kk kd then (⟨2, 0, 0, 0, []⟩ :: tellI e f k) ++ [⟨3, 0, 0, 0, []⟩] else tellI e f k) := ⟨_, rfl⟩
              rw [← hBR] at HAP
              have HBRD := Lib.hid hBR
              have HSR := hcut
              obtain ⟨l3, hl3⟩ : ∃ l3, l3 = l ++ OR := ⟨_, rfl⟩
              rw [← hl3] at HSR
              have HL3 := Lib.hid hl3
              have HLL3 : Hid (l3.length ≤ 400) := by show _ ≤ _; rw [hl3]; simp; omega
              obtain ⟨q0, q1, q2, q3, q4⟩ := HSR.out.part.cells
              dsimp only at q0 q1 q2 q3
              have hrow := HRK.out.below HSR.out.bel
              obtain ⟨kb2, ko2, hAk, hkc⟩ := hrow.2.2 (by omega)
              rw [HAK.out] at hAk
              simp only [Option.some.injEq, Addr.mk.injEq] at hAk
              obtain ⟨rfl, rfl, -⟩ := hAk
              rw [HAK.out] at q4
              have k1 := hkc j hlt
              rw [hgdd.out] at k1
              clear hcut hOR hBR hl3 hkc hrow p0 p1 p2 p3 p4 k0 e0
              have HSX : Hid (∀ l v W, SgR w w.heap.size ⟨kd, lo, hi, nm, ks⟩ (.slice Ak ks.length ck) l v W → W.cell? ⟨w.heap.size, 4, none⟩ = some (.slice (some ⟨kb, ko, none⟩) ks.length ck) ∧ W.cell? ⟨kb, ko + j, none⟩ = some (.int .i64 k) ∧ W.cell? ⟨w.heap.size, 0, none⟩ = some (.int .i64 kd)) := by
                intro l v W h
                have h5 := h.part.cells
                have h6 := (HRK.out.below h.bel).2.2 (by omega)
                obtain ⟨kb2, ko2, hA2, hkc2⟩ := h6
                rw [HAK.out] at hA2
                simp only [Option.some.injEq, Addr.mk.injEq] at hA2
                obtain ⟨rfl, rfl, -⟩ := hA2
                have h7 := hkc2 j hlt
                rw [hgdd.out] at h7
                exact ⟨by rw [← HAK.out]; exact h5.2.2.2.2, h7, h5.1⟩
              have HNUM := Lib.hid (⟨hki, hkn, hlt⟩ : k < f ∧ k < n ∧ j < ks.length)
              have hjb : j ≤ 1000 := by omega
              clear a0 a1 a2 a3 a4 hck hl hORl hl1 hl2 hke hki0 hki hkn hif hin t3 hb
              go_upto_region 13 with fail
              generalize u7 = v1 at *
              generalize wc = wx1 at *
              by_cases z3 : kk = 3
              · subst z3
                have hb : brk 3 kd = true := brk3 kd
                have HBR : Hid (BR = inT true (tellI e f k)) := by show _ = _; rw [HBRD.out, hb]; rfl
                clear hb
                have HC0 := HIH.out k wx1.drew true HNUM.out.1 HNUM.out.2.1 (HB0.out.trans ((HSR.out.bel.trans (below_drewN (Below.refl _ _) 1)).mono HB0.out.size))
                have HC := hide HC0
                have HLN2 : Hid (0 < (inT true (tellI e f k)).length ∧ (inT true (tellI e f k)).length ≤ 400) := by
                  have := HTK.out
                  unfold inT
                  exact ⟨by simp; try omega, by simp; try omega⟩
                clear HC0
                refine wp_region_held_drew (S := fun W => W.cell? ⟨w.heap.size, 4, none⟩ = some (.slice (some ⟨kb, ko, none⟩) ks.length ck) ∧ W.cell? ⟨kb, ko + j, none⟩ = some (.int .i64 k) ∧ W.cell? ⟨w.heap.size, 0, none⟩ = some (.int .i64 kd)) (by kernel_rfl) (HSX.out _ _ _ (HSR.out.below (below_drewN (Below.refl _ _) 1))) (fun hHeld => ?_)
                refine wpAnyH_take (i := 0) (v := ?_) rfl (by kernel_rfl) (by kernel_rfl) (by kernel_rfl) (fun _ _ _ h => h) (Or.inl ⟨by kernel_rfl, ?_⟩) hHeld ?_
                rotate_left
                · (intro W hSw; (try dsimp only at hSw); go_simp; try with_reducible rfl)
                try simp only [Act.put, List.setIfInBounds_toArray, List.set_cons_zero, List.set_cons_succ]
                refine wpAnyH_take (i := 1) (v := ?_) rfl (by kernel_rfl) (by kernel_rfl) (by kernel_rfl) (fun _ _ _ h => h) (Or.inl ⟨by kernel_rfl, ?_⟩) hHeld ?_
                rotate_left
                · (intro W hSw; (try dsimp only at hSw); go_simp; try with_reducible rfl)
                try simp only [Act.put, List.setIfInBounds_toArray, List.set_cons_zero, List.set_cons_succ]
                refine wpAnyH_take (i := 2) (v := ?_) rfl (by kernel_rfl) (by kernel_rfl) (by kernel_rfl) (fun _ _ _ h => h) (Or.inl ⟨by kernel_rfl, ?_⟩) hHeld ?_
                rotate_left
                · (intro W hSw; (try dsimp only at hSw); go_simp; try with_reducible rfl)
                try simp only [Act.put, List.setIfInBounds_toArray, List.set_cons_zero, List.set_cons_succ]
                refine wpAnyH_take (i := 3) (v := ?_) rfl (by kernel_rfl) (by kernel_rfl) (by kernel_rfl) (fun _ _ _ h => h) (Or.inl ⟨by kernel_rfl, ?_⟩) hHeld ?_
                rotate_left
                · (intro W hSw; (try dsimp only at hSw); go_simp; try with_reducible rfl)
                try simp only [Act.put, List.setIfInBounds_toArray, List.set_cons_zero, List.set_cons_succ]
                refine wpAnyH_take (i := 4) (v := ?_) rfl (by kernel_rfl) (by kernel_rfl) (by kernel_rfl) (fun _ _ _ h => h) (Or.inl ⟨by kernel_rfl, ?_⟩) hHeld ?_
                rotate_left
                · (intro W hSw; (try dsimp only at hSw); go_simp; try with_reducible rfl)
                try simp only [Act.put, List.setIfInBounds_toArray, List.set_cons_zero, List.set_cons_succ]
                refine wpAnyH_take (i := 5) (v := ?_) rfl (by kernel_rfl) (by kernel_rfl) (by kernel_rfl) (fun _ _ _ h => h) (Or.inl ⟨by kernel_rfl, ?_⟩) hHeld ?_
                rotate_left
                · (intro W hSw; (try dsimp only at hSw); go_simp; try with_reducible rfl)
                try simp only [Act.put, List.setIfInBounds_toArray, List.set_cons_zero, List.set_cons_succ]
                refine wpAnyH_take (i := 6) (v := ?_) rfl (by kernel_rfl) (by kernel_rfl) (by kernel_rfl) (fun _ _ _ h => h) (Or.inl ⟨by kernel_rfl, ?_⟩) hHeld ?_
                rotate_left
                · (intro W hSw; (try dsimp only at hSw); go_simp; try with_reducible rfl)
                try simp only [Act.put, List.setIfInBounds_toArray, List.set_cons_zero, List.set_cons_succ]
                refine wpAnyH_take (i := 7) (v := ?_) rfl (by kernel_rfl) (by kernel_rfl) (by kernel_rfl) (fun _ _ _ h => h) (Or.inl ⟨by kernel_rfl, ?_⟩) hHeld ?_
                rotate_left
                · (intro W hSw; (try dsimp only at hSw); go_simp; try with_reducible rfl)
                try simp only [Act.put, List.setIfInBounds_toArray, List.set_cons_zero, List.set_cons_succ]
                refine wpAnyH_take (i := 8) (v := ?_) rfl (by kernel_rfl) (by kernel_rfl) (by kernel_rfl) (fun _ _ _ h => h) (Or.inl ⟨by kernel_rfl, ?_⟩) hHeld ?_
                rotate_left
                · (intro W hSw; (try dsimp only at hSw); go_simp; try with_reducible rfl)
                try simp only [Act.put, List.setIfInBounds_toArray, List.set_cons_zero, List.set_cons_succ]
                refine wpAnyH_take (i := 9) (v := ?_) rfl (by kernel_rfl) (by kernel_rfl) (by kernel_rfl) (fun _ _ _ h => h) (Or.inl ⟨by kernel_rfl, ?_⟩) hHeld ?_
                rotate_left
                · (intro W hSw; (try dsimp only at hSw); go_simp; try with_reducible rfl)
                try simp only [Act.put, List.setIfInBounds_toArray, List.set_cons_zero, List.set_cons_succ]
                refine wpAnyH_take (i := 10) (v := undef) rfl (by kernel_rfl) (by kernel_rfl) (by kernel_rfl) (fun _ _ _ h => h) (Or.inr ⟨by kernel_rfl, rfl⟩) hHeld ?_
                try simp only [Act.put, List.setIfInBounds_toArray, List.set_cons_zero, List.set_cons_succ]
                refine wpAnyH_take (i := 11) (v := undef) rfl (by kernel_rfl) (by kernel_rfl) (by kernel_rfl) (fun _ _ _ h => h) (Or.inr ⟨by kernel_rfl, rfl⟩) hHeld ?_
                try simp only [Act.put, List.setIfInBounds_toArray, List.set_cons_zero, List.set_cons_succ]
                refine wpAnyH_take (i := 12) (v := undef) rfl (by kernel_rfl) (by kernel_rfl) (by kernel_rfl) (fun _ _ _ h => h) (Or.inr ⟨by kernel_rfl, rfl⟩) hHeld ?_
                try simp only [Act.put, List.setIfInBounds_toArray, List.set_cons_zero, List.set_cons_succ]
                refine wpAnyH_take (i := 13) (v := undef) rfl (by kernel_rfl) (by kernel_rfl) (by kernel_rfl) (fun _ _ _ h => h) (Or.inr ⟨by kernel_rfl, rfl⟩) hHeld ?_
                try simp only [Act.put, List.setIfInBounds_toArray, List.set_cons_zero, List.set_cons_succ]
                refine wpAnyH_take (i := 14) (v := undef) rfl (by kernel_rfl) (by kernel_rfl) (by kernel_rfl) (fun _ _ _ h => h) (Or.inr ⟨by kernel_rfl, rfl⟩) hHeld ?_
                try simp only [Act.put, List.setIfInBounds_toArray, List.set_cons_zero, List.set_cons_succ]
                refine wpAnyH_take (i := 15) (v := undef) rfl (by kernel_rfl) (by kernel_rfl) (by kernel_rfl) (fun _ _ _ h => h) (Or.inr ⟨by kernel_rfl, rfl⟩) hHeld ?_
                try simp only [Act.put, List.setIfInBounds_toArray, List.set_cons_zero, List.set_cons_succ]
                refine wpAnyH_take (i := 16) (v := undef) rfl (by kernel_rfl) (by kernel_rfl) (by kernel_rfl) (fun _ _ _ h => h) (Or.inr ⟨by kernel_rfl, rfl⟩) hHeld ?_
                try simp only [Act.put, List.setIfInBounds_toArray, List.set_cons_zero, List.set_cons_succ]
                refine wpAnyH_take (i := 17) (v := ?_) rfl (by kernel_rfl) (by kernel_rfl) (by kernel_rfl) (fun _ _ _ h => h) (Or.inl ⟨by kernel_rfl, ?_⟩) hHeld ?_
                rotate_left
                · (intro W hSw; (try dsimp only at hSw); go_simp; try with_reducible rfl)
                try simp only [Act.put, List.setIfInBounds_toArray, List.set_cons_zero, List.set_cons_succ]
                refine wpAnyH_take (i := 18) (v := ?_) rfl (by kernel_rfl) (by kernel_rfl) (by kernel_rfl) (fun _ _ _ h => h) (Or.inl ⟨by kernel_rfl, ?_⟩) hHeld ?_
                rotate_left
                · (intro W hSw; (try dsimp only at hSw); go_simp; try with_reducible rfl)
                try simp only [Act.put, List.setIfInBounds_toArray, List.set_cons_zero, List.set_cons_succ]
                refine wpAnyH_take (i := 19) (v := undef) rfl (by kernel_rfl) (by kernel_rfl) (by kernel_rfl) (fun _ _ _ h => h) (Or.inr ⟨by kernel_rfl, rfl⟩) hHeld ?_
                try simp only [Act.put, List.setIfInBounds_toArray, List.set_cons_zero, List.set_cons_succ]
                refine wpAnyH_take (i := 20) (v := undef) rfl (by kernel_rfl) (by kernel_rfl) (by kernel_rfl) (fun _ _ _ h => h) (Or.inr ⟨by kernel_rfl, rfl⟩) hHeld ?_
                try simp only [Act.put, List.setIfInBounds_toArray, List.set_cons_zero, List.set_cons_succ]
                refine wpAnyH_take (i := 21) (v := undef) rfl (by kernel_rfl) (by kernel_rfl) (by kernel_rfl) (fun _ _ _ h => h) (Or.inr ⟨by kernel_rfl, rfl⟩) hHeld ?_
                try simp only [Act.put, List.setIfInBounds_toArray, List.set_cons_zero, List.set_cons_succ]
                refine wpAnyH_take (i := 22) (v := undef) rfl (by kernel_rfl) (by kernel_rfl) (by kernel_rfl) (fun _ _ _ h => h) (Or.inr ⟨by kernel_rfl, rfl⟩) hHeld ?_
                try simp only [Act.put, List.setIfInBounds_toArray, List.set_cons_zero, List.set_cons_succ]
                refine wpAnyH_take (i := 23) (v := undef) rfl (by kernel_rfl) (by kernel_rfl) (by kernel_rfl) (fun _ _ _ h => h) (Or.inr ⟨by kernel_rfl, rfl⟩) hHeld ?_
                try simp only [Act.put, List.setIfInBounds_toArray, List.set_cons_zero, List.set_cons_succ]
                refine wpAnyH_take (i := 24) (v := undef) rfl (by kernel_rfl) (by kernel_rfl) (by kernel_rfl) (fun _ _ _ h => h) (Or.inr ⟨by kernel_rfl, rfl⟩) hHeld ?_
                try simp only [Act.put, List.setIfInBounds_toArray, List.set_cons_zero, List.set_cons_succ]
                refine wpAnyH_take (i := 25) (v := undef) rfl (by kernel_rfl) (by kernel_rfl) (by kernel_rfl) (fun _ _ _ h => h) (Or.inr ⟨by kernel_rfl, rfl⟩) hHeld ?_
                try simp only [Act.put, List.setIfInBounds_toArray, List.set_cons_zero, List.set_cons_succ]
                refine wpAnyH_take (i := 26) (v := ?_) rfl (by kernel_rfl) (by kernel_rfl) (by kernel_rfl) (fun _ _ _ h => h) (Or.inl ⟨by kernel_rfl, ?_⟩) hHeld ?_
                rotate_left
                · (intro W hSw; (try dsimp only at hSw); go_simp; try with_reducible rfl)
                try simp only [Act.put, List.setIfInBounds_toArray, List.set_cons_zero, List.set_cons_succ]
                refine wpAnyH_ready (rs := [27]) (by kernel_rfl) (by simp) ?_
                refine AllReadyH.cons rfl (fun K hK => ?_) AllReadyH.nil
                go_simp
                go_at_call 37
                (with_reducible refine (HC.out).mono ?_)
                rintro en w9 ⟨A9, c9, rfl, hown9, hb9⟩
                have HS9 := Lib.hid (HSR.out.below ((below_drewN (Below.refl _ _) 1).trans hb9))
                have HO9 := Lib.hid hown9
                clear hown9 hb9 hHeld
                go_wp2_with fail
                refine hK.out _ _ (HSX.out _ _ _ HS9.out) (fun hHeld => ?_)
                clear hK K
                try simp only [Act.put, List.setIfInBounds_toArray, List.set_cons_zero, List.set_cons_succ]
                refine wpAnyH_ready (rs := [28]) (by kernel_rfl) (by simp) ?_
                refine AllReadyH.cons rfl (fun K hK => ?_) AllReadyH.nil
                refine step_app_sgs (by rfl) (.tmp 56) (.tmp 83) _ (by rfl) w.heap.size 73 i0 _ Tryd.underlying69 hi0 hz0 (by rfl) hs1 hs2 v1 _ l3 (inT true (tellI e f k)) (by rfl) HS9.out.row0 (by rfl) _ HO9.out HLN2.out.1 (by have := HLN2.out.2; have := HLL3.out; omega) (HS9.out.bel.size) ?_
                intro v' w2 hown hg hat
                have HS3 := Lib.hid (HS9.out.more0 hown hg)
                clear hown hg hat hHeld
                refine hK.out _ _ (HSX.out _ _ _ HS3.out) (fun hHeld => ?_)
                clear hK K
                try simp only [Act.put, List.setIfInBounds_toArray, List.set_cons_zero, List.set_cons_succ]
                refine wpAnyH_take (i := 29) (v := ?_) rfl (by kernel_rfl) (by kernel_rfl) (by kernel_rfl) (fun _ _ _ h => h) (Or.inl ⟨by kernel_rfl, ?_⟩) hHeld ?_
                rotate_left
                · (intro W hSw; (try dsimp only at hSw); go_simp; try with_reducible rfl)
                try simp only [Act.put, List.setIfInBounds_toArray, List.set_cons_zero, List.set_cons_succ]
                refine wpAnyH_done (by kernel_rfl) ?_ _
                clear hHeld
                go_wp2_with fail
                go_roundw
                case rel => first
                  | exact ⟨j + 1, l3 ++ inT true (tellI e f k), by go_num, by have := HNUM.out.2.2; omega, HS3, Lib.hid (by rw [← HE.out, HAP.out, HL3.out, HBR.out]; simp)⟩
                  | ((repeat apply Exists.intro); exact ⟨⟨j + 1, l3 ++ inT true (tellI e f k), by go_num, by have := HNUM.out.2.2; omega, HS3, Lib.hid (by rw [← HE.out, HAP.out, HL3.out, HBR.out]; simp)⟩, rfl⟩)
                case measure => have := HNUM.out.2.2; simp [intOf]; omega
              · have y3 : (kk == 3) = false := by simpa using z3
                by_cases z2 : kk = 2
                · subst z2
                  by_cases d3 : kd = 3
                  · subst d3
                    have hb : brk 2 3 = false := rfl
                    have HBR : Hid (BR = inT false (tellI e f k)) := by show _ = _; rw [HBRD.out, hb]; rfl
                    clear hb
                    have HC0 := HIH.out k wx1.drew false HNUM.out.1 HNUM.out.2.1 (HB0.out.trans ((HSR.out.bel.trans (below_drewN (Below.refl _ _) 1)).mono HB0.out.size))
                    have HC := hide HC0
                    have HLN2 : Hid (0 < (inT false (tellI e f k)).length ∧ (inT false (tellI e f k)).length ≤ 400) := by
                      have := HTK.out
                      unfold inT
                      exact ⟨by simp; try omega, by simp; try omega⟩
                    clear HC0
                    refine wp_region_held_drew (S := fun W => W.cell? ⟨w.heap.size, 4, none⟩ = some (.slice (some ⟨kb, ko, none⟩) ks.length ck) ∧ W.cell? ⟨kb, ko + j, none⟩ = some (.int .i64 k) ∧ W.cell? ⟨w.heap.size, 0, none⟩ = some (.int .i64 3)) (by kernel_rfl) (HSX.out _ _ _ (HSR.out.below (below_drewN (Below.refl _ _) 1))) (fun hHeld => ?_)
                    refine wpAnyH_take (i := 0) (v := ?_) rfl (by kernel_rfl) (by kernel_rfl) (by kernel_rfl) (fun _ _ _ h => h) (Or.inl ⟨by kernel_rfl, ?_⟩) hHeld ?_
                    rotate_left
                    · (intro W hSw; (try dsimp only at hSw); go_simp; try with_reducible rfl)
                    try simp only [Act.put, List.setIfInBounds_toArray, List.set_cons_zero, List.set_cons_succ]
                    refine wpAnyH_take (i := 1) (v := ?_) rfl (by kernel_rfl) (by kernel_rfl) (by kernel_rfl) (fun _ _ _ h => h) (Or.inl ⟨by kernel_rfl, ?_⟩) hHeld ?_
                    rotate_left
                    · (intro W hSw; (try dsimp only at hSw); go_simp; try with_reducible rfl)
                    try simp only [Act.put, List.setIfInBounds_toArray, List.set_cons_zero, List.set_cons_succ]
                    refine wpAnyH_take (i := 2) (v := ?_) rfl (by kernel_rfl) (by kernel_rfl) (by kernel_rfl) (fun _ _ _ h => h) (Or.inl ⟨by kernel_rfl, ?_⟩) hHeld ?_
                    rotate_left
                    · (intro W hSw; (try dsimp only at hSw); go_simp; try with_reducible rfl)
                    try simp only [Act.put, List.setIfInBounds_toArray, List.set_cons_zero, List.set_cons_succ]
                    refine wpAnyH_take (i := 3) (v := ?_) rfl (by kernel_rfl) (by kernel_rfl) (by kernel_rfl) (fun _ _ _ h => h) (Or.inl ⟨by kernel_rfl, ?_⟩) hHeld ?_
                    rotate_left
                    · (intro W hSw; (try dsimp only at hSw); go_simp; try with_reducible rfl)
                    try simp only [Act.put, List.setIfInBounds_toArray, List.set_cons_zero, List.set_cons_succ]
                    refine wpAnyH_take (i := 4) (v := ?_) rfl (by kernel_rfl) (by kernel_rfl) (by kernel_rfl) (fun _ _ _ h => h) (Or.inl ⟨by kernel_rfl, ?_⟩) hHeld ?_
                    rotate_left
                    · (intro W hSw; (try dsimp only at hSw); go_simp; try with_reducible rfl)
                    try simp only [Act.put, List.setIfInBounds_toArray, List.set_cons_zero, List.set_cons_succ]
                    refine wpAnyH_take (i := 5) (v := ?_) rfl (by kernel_rfl) (by kernel_rfl) (by kernel_rfl) (fun _ _ _ h => h) (Or.inl ⟨by kernel_rfl, ?_⟩) hHeld ?_
                    rotate_left
                    · (intro W hSw; (try dsimp only at hSw); go_simp; try with_reducible rfl)
                    try simp only [Act.put, List.setIfInBounds_toArray, List.set_cons_zero, List.set_cons_succ]
                    refine wpAnyH_take (i := 6) (v := ?_) rfl (by kernel_rfl) (by kernel_rfl) (by kernel_rfl) (fun _ _ _ h => h) (Or.inl ⟨by kernel_rfl, ?_⟩) hHeld ?_
                    rotate_left
                    · (intro W hSw; (try dsimp only at hSw); go_simp; try with_reducible rfl)
                    try simp only [Act.put, List.setIfInBounds_toArray, List.set_cons_zero, List.set_cons_succ]
                    refine wpAnyH_take (i := 7) (v := ?_) rfl (by kernel_rfl) (by kernel_rfl) (by kernel_rfl) (fun _ _ _ h => h) (Or.inl ⟨by kernel_rfl, ?_⟩) hHeld ?_
                    rotate_left
                    · (intro W hSw; (try dsimp only at hSw); go_simp; try with_reducible rfl)
                    try simp only [Act.put, List.setIfInBounds_toArray, List.set_cons_zero, List.set_cons_succ]
                    refine wpAnyH_take (i := 8) (v := ?_) rfl (by kernel_rfl) (by kernel_rfl) (by kernel_rfl) (fun _ _ _ h => h) (Or.inl ⟨by kernel_rfl, ?_⟩) hHeld ?_
                    rotate_left
                    · (intro W hSw; (try dsimp only at hSw); go_simp; try with_reducible rfl)
                    try simp only [Act.put, List.setIfInBounds_toArray, List.set_cons_zero, List.set_cons_succ]
                    refine wpAnyH_take (i := 9) (v := ?_) rfl (by kernel_rfl) (by kernel_rfl) (by kernel_rfl) (fun _ _ _ h => h) (Or.inl ⟨by kernel_rfl, ?_⟩) hHeld ?_
                    rotate_left
                    · (intro W hSw; (try dsimp only at hSw); go_simp; try with_reducible rfl)
                    try simp only [Act.put, List.setIfInBounds_toArray, List.set_cons_zero, List.set_cons_succ]
                    refine wpAnyH_take (i := 10) (v := ?_) rfl (by kernel_rfl) (by kernel_rfl) (by kernel_rfl) (fun _ _ _ h => h) (Or.inl ⟨by kernel_rfl, ?_⟩) hHeld ?_
                    rotate_left
                    · (intro W hSw; (try dsimp only at hSw); go_simp; try with_reducible rfl)
                    try simp only [Act.put, List.setIfInBounds_toArray, List.set_cons_zero, List.set_cons_succ]
                    refine wpAnyH_take (i := 11) (v := ?_) rfl (by kernel_rfl) (by kernel_rfl) (by kernel_rfl) (fun _ _ _ h => h) (Or.inl ⟨by kernel_rfl, ?_⟩) hHeld ?_
                    rotate_left
                    · (intro W hSw; (try dsimp only at hSw); go_simp; try with_reducible rfl)
                    try simp only [Act.put, List.setIfInBounds_toArray, List.set_cons_zero, List.set_cons_succ]
                    refine wpAnyH_take (i := 12) (v := ?_) rfl (by kernel_rfl) (by kernel_rfl) (by kernel_rfl) (fun _ _ _ h => h) (Or.inl ⟨by kernel_rfl, ?_⟩) hHeld ?_
                    rotate_left
                    · (intro W hSw; (try dsimp only at hSw); go_simp; try with_reducible rfl)
                    try simp only [Act.put, List.setIfInBounds_toArray, List.set_cons_zero, List.set_cons_succ]
                    refine wpAnyH_take (i := 13) (v := ?_) rfl (by kernel_rfl) (by kernel_rfl) (by kernel_rfl) (fun _ _ _ h => h) (Or.inl ⟨by kernel_rfl, ?_⟩) hHeld ?_
                    rotate_left
                    · (intro W hSw; (try dsimp only at hSw); go_simp; try with_reducible rfl)
                    try simp only [Act.put, List.setIfInBounds_toArray, List.set_cons_zero, List.set_cons_succ]
                    refine wpAnyH_take (i := 14) (v := ?_) rfl (by kernel_rfl) (by kernel_rfl) (by kernel_rfl) (fun _ _ _ h => h) (Or.inl ⟨by kernel_rfl, ?_⟩) hHeld ?_
                    rotate_left
                    · (intro W hSw; (try dsimp only at hSw); go_simp; try with_reducible rfl)
                    try simp only [Act.put, List.setIfInBounds_toArray, List.set_cons_zero, List.set_cons_succ]
                    refine wpAnyH_take (i := 15) (v := ?_) rfl (by kernel_rfl) (by kernel_rfl) (by kernel_rfl) (fun _ _ _ h => h) (Or.inl ⟨by kernel_rfl, ?_⟩) hHeld ?_
                    rotate_left
                    · (intro W hSw; (try dsimp only at hSw); go_simp; try with_reducible rfl)
                    try simp only [Act.put, List.setIfInBounds_toArray, List.set_cons_zero, List.set_cons_succ]
                    refine wpAnyH_take (i := 16) (v := ?_) rfl (by kernel_rfl) (by kernel_rfl) (by kernel_rfl) (fun _ _ _ h => h) (Or.inl ⟨by kernel_rfl, ?_⟩) hHeld ?_
                    rotate_left
                    · (intro W hSw; (try dsimp only at hSw); go_simp; try with_reducible rfl)
                    try simp only [Act.put, List.setIfInBounds_toArray, List.set_cons_zero, List.set_cons_succ]
                    refine wpAnyH_take (i := 17) (v := ?_) rfl (by kernel_rfl) (by kernel_rfl) (by kernel_rfl) (fun _ _ _ h => h) (Or.inl ⟨by kernel_rfl, ?_⟩) hHeld ?_
                    rotate_left
                    · (intro W hSw; (try dsimp only at hSw); go_simp; try with_reducible rfl)
                    try simp only [Act.put, List.setIfInBounds_toArray, List.set_cons_zero, List.set_cons_succ]
                    refine wpAnyH_take (i := 18) (v := ?_) rfl (by kernel_rfl) (by kernel_rfl) (by kernel_rfl) (fun _ _ _ h => h) (Or.inl ⟨by kernel_rfl, ?_⟩) hHeld ?_
                    rotate_left
                    · (intro W hSw; (try dsimp only at hSw); go_simp; try with_reducible rfl)
                    try simp only [Act.put, List.setIfInBounds_toArray, List.set_cons_zero, List.set_cons_succ]
                    refine wpAnyH_take (i := 19) (v := ?_) rfl (by kernel_rfl) (by kernel_rfl) (by kernel_rfl) (fun _ _ _ h => h) (Or.inl ⟨by kernel_rfl, ?_⟩) hHeld ?_
                    rotate_left
                    · (intro W hSw; (try dsimp only at hSw); go_simp; try with_reducible rfl)
                    try simp only [Act.put, List.setIfInBounds_toArray, List.set_cons_zero, List.set_cons_succ]
                    refine wpAnyH_take (i := 20) (v := ?_) rfl (by kernel_rfl) (by kernel_rfl) (by kernel_rfl) (fun _ _ _ h => h) (Or.inl ⟨by kernel_rfl, ?_⟩) hHeld ?_
                    rotate_left
                    · (intro W hSw; (try dsimp only at hSw); go_simp; try with_reducible rfl)
                    try simp only [Act.put, List.setIfInBounds_toArray, List.set_cons_zero, List.set_cons_succ]
                    refine wpAnyH_take (i := 21) (v := ?_) rfl (by kernel_rfl) (by kernel_rfl) (by kernel_rfl) (fun _ _ _ h => h) (Or.inl ⟨by kernel_rfl, ?_⟩) hHeld ?_
                    rotate_left
                    · (intro W hSw; (try dsimp only at hSw); go_simp; try with_reducible rfl)
                    try simp only [Act.put, List.setIfInBounds_toArray, List.set_cons_zero, List.set_cons_succ]
                    refine wpAnyH_take (i := 22) (v := undef) rfl (by kernel_rfl) (by kernel_rfl) (by kernel_rfl) (fun _ _ _ h => h) (Or.inr ⟨by kernel_rfl, rfl⟩) hHeld ?_
                    try simp only [Act.put, List.setIfInBounds_toArray, List.set_cons_zero, List.set_cons_succ]
                    refine wpAnyH_take (i := 23) (v := undef) rfl (by kernel_rfl) (by kernel_rfl) (by kernel_rfl) (fun _ _ _ h => h) (Or.inr ⟨by kernel_rfl, rfl⟩) hHeld ?_
                    try simp only [Act.put, List.setIfInBounds_toArray, List.set_cons_zero, List.set_cons_succ]
                    refine wpAnyH_take (i := 24) (v := undef) rfl (by kernel_rfl) (by kernel_rfl) (by kernel_rfl) (fun _ _ _ h => h) (Or.inr ⟨by kernel_rfl, rfl⟩) hHeld ?_
                    try simp only [Act.put, List.setIfInBounds_toArray, List.set_cons_zero, List.set_cons_succ]
                    refine wpAnyH_take (i := 25) (v := ?_) rfl (by kernel_rfl) (by kernel_rfl) (by kernel_rfl) (fun _ _ _ h => h) (Or.inl ⟨by kernel_rfl, ?_⟩) hHeld ?_
                    rotate_left
                    · (intro W hSw; (try dsimp only at hSw); go_simp; try with_reducible rfl)
                    try simp only [Act.put, List.setIfInBounds_toArray, List.set_cons_zero, List.set_cons_succ]
                    refine wpAnyH_take (i := 26) (v := ?_) rfl (by kernel_rfl) (by kernel_rfl) (by kernel_rfl) (fun _ _ _ h => h) (Or.inl ⟨by kernel_rfl, ?_⟩) hHeld ?_
                    rotate_left
                    · (intro W hSw; (try dsimp only at hSw); go_simp; try with_reducible rfl)
                    try simp only [Act.put, List.setIfInBounds_toArray, List.set_cons_zero, List.set_cons_succ]
                    refine wpAnyH_ready (rs := [27]) (by kernel_rfl) (by simp) ?_
                    refine AllReadyH.cons rfl (fun K hK => ?_) AllReadyH.nil
                    go_simp
                    go_at_call 37
                    (with_reducible refine (HC.out).mono ?_)
                    rintro en w9 ⟨A9, c9, rfl, hown9, hb9⟩
                    have HS9 := Lib.hid (HSR.out.below ((below_drewN (Below.refl _ _) 1).trans hb9))
                    have HO9 := Lib.hid hown9
                    clear hown9 hb9 hHeld
                    go_wp2_with fail
                    refine hK.out _ _ (HSX.out _ _ _ HS9.out) (fun hHeld => ?_)
                    clear hK K
                    try simp only [Act.put, List.setIfInBounds_toArray, List.set_cons_zero, List.set_cons_succ]
                    refine wpAnyH_ready (rs := [28]) (by kernel_rfl) (by simp) ?_
                    refine AllReadyH.cons rfl (fun K hK => ?_) AllReadyH.nil
                    refine step_app_sgs (by rfl) (.tmp 56) (.tmp 83) _ (by rfl) w.heap.size 73 i0 _ Tryd.underlying69 hi0 hz0 (by rfl) hs1 hs2 v1 _ l3 (inT false (tellI e f k)) (by rfl) HS9.out.row0 (by rfl) _ HO9.out HLN2.out.1 (by have := HLN2.out.2; have := HLL3.out; omega) (HS9.out.bel.size) ?_
                    intro v' w2 hown hg hat
                    have HS3 := Lib.hid (HS9.out.more0 hown hg)
                    clear hown hg hat hHeld
                    refine hK.out _ _ (HSX.out _ _ _ HS3.out) (fun hHeld => ?_)
                    clear hK K
                    try simp only [Act.put, List.setIfInBounds_toArray, List.set_cons_zero, List.set_cons_succ]
                    refine wpAnyH_take (i := 29) (v := ?_) rfl (by kernel_rfl) (by kernel_rfl) (by kernel_rfl) (fun _ _ _ h => h) (Or.inl ⟨by kernel_rfl, ?_⟩) hHeld ?_
                    rotate_left
                    · (intro W hSw; (try dsimp only at hSw); go_simp; try with_reducible rfl)
                    try simp only [Act.put, List.setIfInBounds_toArray, List.set_cons_zero, List.set_cons_succ]
                    refine wpAnyH_done (by kernel_rfl) ?_ _
                    clear hHeld
                    go_wp2_with fail
                    go_roundw
                    case rel => first
                      | exact ⟨j + 1, l3 ++ inT false (tellI e f k), by go_num, by have := HNUM.out.2.2; omega, HS3, Lib.hid (by rw [← HE.out, HAP.out, HL3.out, HBR.out]; simp)⟩
                      | ((repeat apply Exists.intro); exact ⟨⟨j + 1, l3 ++ inT false (tellI e f k), by go_num, by have := HNUM.out.2.2; omega, HS3, Lib.hid (by rw [← HE.out, HAP.out, HL3.out, HBR.out]; simp)⟩, rfl⟩)
                    case measure => have := HNUM.out.2.2; simp [intOf]; omega
                  · have x3 : (kd != 3) = true := by simpa using d3
                    have hb : brk 2 kd = true := brk2 kd d3
                    have HBR : Hid (BR = inT true (tellI e f k)) := by show _ = _; rw [HBRD.out, hb]; rfl
                    clear hb
                    clear d3
                    have HC0 := HIH.out k wx1.drew true HNUM.out.1 HNUM.out.2.1 (HB0.out.trans ((HSR.out.bel.trans (below_drewN (Below.refl _ _) 1)).mono HB0.out.size))
                    have HC := hide HC0
                    have HLN2 : Hid (0 < (inT true (tellI e f k)).length ∧ (inT true (tellI e f k)).length ≤ 400) := by
                      have := HTK.out
                      unfold inT
                      exact ⟨by simp; try omega, by simp; try omega⟩
                    clear HC0
                    refine wp_region_held_drew (S := fun W => W.cell? ⟨w.heap.size, 4, none⟩ = some (.slice (some ⟨kb, ko, none⟩) ks.length ck) ∧ W.cell? ⟨kb, ko + j, none⟩ = some (.int .i64 k) ∧ W.cell? ⟨w.heap.size, 0, none⟩ = some (.int .i64 kd)) (by kernel_rfl) (HSX.out _ _ _ (HSR.out.below (below_drewN (Below.refl _ _) 1))) (fun hHeld => ?_)
                    refine wpAnyH_take (i := 0) (v := ?_) rfl (by kernel_rfl) (by kernel_rfl) (by kernel_rfl) (fun _ _ _ h => h) (Or.inl ⟨by kernel_rfl, ?_⟩) hHeld ?_
                    rotate_left
                    · (intro W hSw; (try dsimp only at hSw); go_simp; try with_reducible rfl)
                    try simp only [Act.put, List.setIfInBounds_toArray, List.set_cons_zero, List.set_cons_succ]
                    refine wpAnyH_take (i := 1) (v := ?_) rfl (by kernel_rfl) (by kernel_rfl) (by kernel_rfl) (fun _ _ _ h => h) (Or.inl ⟨by kernel_rfl, ?_⟩) hHeld ?_
                    rotate_left
                    · (intro W hSw; (try dsimp only at hSw); go_simp; try with_reducible rfl)
                    try simp only [Act.put, List.setIfInBounds_toArray, List.set_cons_zero, List.set_cons_succ]
                    refine wpAnyH_take (i := 2) (v := ?_) rfl (by kernel_rfl) (by kernel_rfl) (by kernel_rfl) (fun _ _ _ h => h) (Or.inl ⟨by kernel_rfl, ?_⟩) hHeld ?_
                    rotate_left
                    · (intro W hSw; (try dsimp only at hSw); go_simp; try with_reducible rfl)
                    try simp only [Act.put, List.setIfInBounds_toArray, List.set_cons_zero, List.set_cons_succ]
                    refine wpAnyH_take (i := 3) (v := ?_) rfl (by kernel_rfl) (by kernel_rfl) (by kernel_rfl) (fun _ _ _ h => h) (Or.inl ⟨by kernel_rfl, ?_⟩) hHeld ?_
                    rotate_left
                    · (intro W hSw; (try dsimp only at hSw); go_simp; try with_reducible rfl)
                    try simp only [Act.put, List.setIfInBounds_toArray, List.set_cons_zero, List.set_cons_succ]
                    refine wpAnyH_take (i := 4) (v := ?_) rfl (by kernel_rfl) (by kernel_rfl) (by kernel_rfl) (fun _ _ _ h => h) (Or.inl ⟨by kernel_rfl, ?_⟩) hHeld ?_
                    rotate_left
                    · (intro W hSw; (try dsimp only at hSw); go_simp; try with_reducible rfl)
                    try simp only [Act.put, List.setIfInBounds_toArray, List.set_cons_zero, List.set_cons_succ]
                    refine wpAnyH_take (i := 5) (v := ?_) rfl (by kernel_rfl) (by kernel_rfl) (by kernel_rfl) (fun _ _ _ h => h) (Or.inl ⟨by kernel_rfl, ?_⟩) hHeld ?_
                    rotate_left
                    · (intro W hSw; (try dsimp only at hSw); go_simp; try with_reducible rfl)
                    try simp only [Act.put, List.setIfInBounds_toArray, List.set_cons_zero, List.set_cons_succ]
                    refine wpAnyH_take (i := 6) (v := ?_) rfl (by kernel_rfl) (by kernel_rfl) (by kernel_rfl) (fun _ _ _ h => h) (Or.inl ⟨by kernel_rfl, ?_⟩) hHeld ?_
                    rotate_left
                    · (intro W hSw; (try dsimp only at hSw); go_simp; try with_reducible rfl)
                    try simp only [Act.put, List.setIfInBounds_toArray, List.set_cons_zero, List.set_cons_succ]
                    refine wpAnyH_take (i := 7) (v := ?_) rfl (by kernel_rfl) (by kernel_rfl) (by kernel_rfl) (fun _ _ _ h => h) (Or.inl ⟨by kernel_rfl, ?_⟩) hHeld ?_
                    rotate_left
                    · (intro W hSw; (try dsimp only at hSw); go_simp; try with_reducible rfl)
                    try simp only [Act.put, List.setIfInBounds_toArray, List.set_cons_zero, List.set_cons_succ]
                    refine wpAnyH_take (i := 8) (v := ?_) rfl (by kernel_rfl) (by kernel_rfl) (by kernel_rfl) (fun _ _ _ h => h) (Or.inl ⟨by kernel_rfl, ?_⟩) hHeld ?_
                    rotate_left
                    · (intro W hSw; (try dsimp only at hSw); go_simp; try with_reducible rfl)
                    try simp only [Act.put, List.setIfInBounds_toArray, List.set_cons_zero, List.set_cons_succ]
                    refine wpAnyH_take (i := 9) (v := ?_) rfl (by kernel_rfl) (by kernel_rfl) (by kernel_rfl) (fun _ _ _ h => h) (Or.inl ⟨by kernel_rfl, ?_⟩) hHeld ?_
                    rotate_left
                    · (intro W hSw; (try dsimp only at hSw); go_simp; try with_reducible rfl)
                    try simp only [Act.put, List.setIfInBounds_toArray, List.set_cons_zero, List.set_cons_succ]
                    refine wpAnyH_take (i := 10) (v := ?_) rfl (by kernel_rfl) (by kernel_rfl) (by kernel_rfl) (fun _ _ _ h => h) (Or.inl ⟨by kernel_rfl, ?_⟩) hHeld ?_
                    rotate_left
                    · (intro W hSw; (try dsimp only at hSw); go_simp; try with_reducible rfl)
                    try simp only [Act.put, List.setIfInBounds_toArray, List.set_cons_zero, List.set_cons_succ]
                    refine wpAnyH_take (i := 11) (v := ?_) rfl (by kernel_rfl) (by kernel_rfl) (by kernel_rfl) (fun _ _ _ h => h) (Or.inl ⟨by kernel_rfl, ?_⟩) hHeld ?_
                    rotate_left
                    · (intro W hSw; (try dsimp only at hSw); go_simp; try with_reducible rfl)
                    try simp only [Act.put, List.setIfInBounds_toArray, List.set_cons_zero, List.set_cons_succ]
                    refine wpAnyH_take (i := 12) (v := ?_) rfl (by kernel_rfl) (by kernel_rfl) (by kernel_rfl) (fun _ _ _ h => h) (Or.inl ⟨by kernel_rfl, ?_⟩) hHeld ?_
                    rotate_left
                    · (intro W hSw; (try dsimp only at hSw); go_simp; try with_reducible rfl)
                    try simp only [Act.put, List.setIfInBounds_toArray, List.set_cons_zero, List.set_cons_succ]
                    refine wpAnyH_take (i := 13) (v := ?_) rfl (by kernel_rfl) (by kernel_rfl) (by kernel_rfl) (fun _ _ _ h => h) (Or.inl ⟨by kernel_rfl, ?_⟩) hHeld ?_
                    rotate_left
                    · (intro W hSw; (try dsimp only at hSw); go_simp; try with_reducible rfl)
                    try simp only [Act.put, List.setIfInBounds_toArray, List.set_cons_zero, List.set_cons_succ]
                    refine wpAnyH_take (i := 14) (v := ?_) rfl (by kernel_rfl) (by kernel_rfl) (by kernel_rfl) (fun _ _ _ h => h) (Or.inl ⟨by kernel_rfl, ?_⟩) hHeld ?_
                    rotate_left
                    · (intro W hSw; (try dsimp only at hSw); go_simp; try with_reducible rfl)
                    try simp only [Act.put, List.setIfInBounds_toArray, List.set_cons_zero, List.set_cons_succ]
                    refine wpAnyH_take (i := 15) (v := ?_) rfl (by kernel_rfl) (by kernel_rfl) (by kernel_rfl) (fun _ _ _ h => h) (Or.inl ⟨by kernel_rfl, ?_⟩) hHeld ?_
                    rotate_left
                    · (intro W hSw; (try dsimp only at hSw); go_simp; try with_reducible rfl)
                    try simp only [Act.put, List.setIfInBounds_toArray, List.set_cons_zero, List.set_cons_succ]
                    refine wpAnyH_take (i := 16) (v := ?_) rfl (by kernel_rfl) (by kernel_rfl) (by kernel_rfl) (fun _ _ _ h => h) (Or.inl ⟨by kernel_rfl, ?_⟩) hHeld ?_
                    rotate_left
                    · (intro W hSw; (try dsimp only at hSw); go_simp; try with_reducible rfl)
                    try simp only [Act.put, List.setIfInBounds_toArray, List.set_cons_zero, List.set_cons_succ]
                    refine wpAnyH_take (i := 17) (v := ?_) rfl (by kernel_rfl) (by kernel_rfl) (by kernel_rfl) (fun _ _ _ h => h) (Or.inl ⟨by kernel_rfl, ?_⟩) hHeld ?_
                    rotate_left
                    · (intro W hSw; (try dsimp only at hSw); go_simp; try with_reducible rfl)
                    try simp only [Act.put, List.setIfInBounds_toArray, List.set_cons_zero, List.set_cons_succ]
                    refine wpAnyH_take (i := 18) (v := ?_) rfl (by kernel_rfl) (by kernel_rfl) (by kernel_rfl) (fun _ _ _ h => h) (Or.inl ⟨by kernel_rfl, ?_⟩) hHeld ?_
                    rotate_left
                    · (intro W hSw; (try dsimp only at hSw); go_simp; try with_reducible rfl)
                    try simp only [Act.put, List.setIfInBounds_toArray, List.set_cons_zero, List.set_cons_succ]
                    refine wpAnyH_take (i := 19) (v := undef) rfl (by kernel_rfl) (by kernel_rfl) (by kernel_rfl) (fun _ _ _ h => h) (Or.inr ⟨by kernel_rfl, rfl⟩) hHeld ?_
                    try simp only [Act.put, List.setIfInBounds_toArray, List.set_cons_zero, List.set_cons_succ]
                    refine wpAnyH_take (i := 20) (v := undef) rfl (by kernel_rfl) (by kernel_rfl) (by kernel_rfl) (fun _ _ _ h => h) (Or.inr ⟨by kernel_rfl, rfl⟩) hHeld ?_
                    try simp only [Act.put, List.setIfInBounds_toArray, List.set_cons_zero, List.set_cons_succ]
                    refine wpAnyH_take (i := 21) (v := undef) rfl (by kernel_rfl) (by kernel_rfl) (by kernel_rfl) (fun _ _ _ h => h) (Or.inr ⟨by kernel_rfl, rfl⟩) hHeld ?_
                    try simp only [Act.put, List.setIfInBounds_toArray, List.set_cons_zero, List.set_cons_succ]
                    refine wpAnyH_take (i := 22) (v := undef) rfl (by kernel_rfl) (by kernel_rfl) (by kernel_rfl) (fun _ _ _ h => h) (Or.inr ⟨by kernel_rfl, rfl⟩) hHeld ?_
                    try simp only [Act.put, List.setIfInBounds_toArray, List.set_cons_zero, List.set_cons_succ]
                    refine wpAnyH_take (i := 23) (v := undef) rfl (by kernel_rfl) (by kernel_rfl) (by kernel_rfl) (fun _ _ _ h => h) (Or.inr ⟨by kernel_rfl, rfl⟩) hHeld ?_
                    try simp only [Act.put, List.setIfInBounds_toArray, List.set_cons_zero, List.set_cons_succ]
                    refine wpAnyH_take (i := 24) (v := undef) rfl (by kernel_rfl) (by kernel_rfl) (by kernel_rfl) (fun _ _ _ h => h) (Or.inr ⟨by kernel_rfl, rfl⟩) hHeld ?_
                    try simp only [Act.put, List.setIfInBounds_toArray, List.set_cons_zero, List.set_cons_succ]
                    refine wpAnyH_take (i := 25) (v := undef) rfl (by kernel_rfl) (by kernel_rfl) (by kernel_rfl) (fun _ _ _ h => h) (Or.inr ⟨by kernel_rfl, rfl⟩) hHeld ?_
                    try simp only [Act.put, List.setIfInBounds_toArray, List.set_cons_zero, List.set_cons_succ]
                    refine wpAnyH_take (i := 26) (v := ?_) rfl (by kernel_rfl) (by kernel_rfl) (by kernel_rfl) (fun _ _ _ h => h) (Or.inl ⟨by kernel_rfl, ?_⟩) hHeld ?_
                    rotate_left
                    · (intro W hSw; (try dsimp only at hSw); go_simp; try with_reducible rfl)
                    try simp only [Act.put, List.setIfInBounds_toArray, List.set_cons_zero, List.set_cons_succ]
                    refine wpAnyH_ready (rs := [27]) (by kernel_rfl) (by simp) ?_
                    refine AllReadyH.cons rfl (fun K hK => ?_) AllReadyH.nil
                    go_simp
                    go_at_call 37
                    (with_reducible refine (HC.out).mono ?_)
                    rintro en w9 ⟨A9, c9, rfl, hown9, hb9⟩
                    have HS9 := Lib.hid (HSR.out.below ((below_drewN (Below.refl _ _) 1).trans hb9))
                    have HO9 := Lib.hid hown9
                    clear hown9 hb9 hHeld
                    go_wp2_with fail
                    refine hK.out _ _ (HSX.out _ _ _ HS9.out) (fun hHeld => ?_)
                    clear hK K
                    try simp only [Act.put, List.setIfInBounds_toArray, List.set_cons_zero, List.set_cons_succ]
                    refine wpAnyH_ready (rs := [28]) (by kernel_rfl) (by simp) ?_
                    refine AllReadyH.cons rfl (fun K hK => ?_) AllReadyH.nil
                    refine step_app_sgs (by rfl) (.tmp 56) (.tmp 83) _ (by rfl) w.heap.size 73 i0 _ Tryd.underlying69 hi0 hz0 (by rfl) hs1 hs2 v1 _ l3 (inT true (tellI e f k)) (by rfl) HS9.out.row0 (by rfl) _ HO9.out HLN2.out.1 (by have := HLN2.out.2; have := HLL3.out; omega) (HS9.out.bel.size) ?_
                    intro v' w2 hown hg hat
                    have HS3 := Lib.hid (HS9.out.more0 hown hg)
                    clear hown hg hat hHeld
                    refine hK.out _ _ (HSX.out _ _ _ HS3.out) (fun hHeld => ?_)
                    clear hK K
                    try simp only [Act.put, List.setIfInBounds_toArray, List.set_cons_zero, List.set_cons_succ]
                    refine wpAnyH_take (i := 29) (v := ?_) rfl (by kernel_rfl) (by kernel_rfl) (by kernel_rfl) (fun _ _ _ h => h) (Or.inl ⟨by kernel_rfl, ?_⟩) hHeld ?_
                    rotate_left
                    · (intro W hSw; (try dsimp only at hSw); go_simp; try with_reducible rfl)
                    try simp only [Act.put, List.setIfInBounds_toArray, List.set_cons_zero, List.set_cons_succ]
                    refine wpAnyH_done (by kernel_rfl) ?_ _
                    clear hHeld
                    go_wp2_with fail
                    go_roundw
                    case rel => first
                      | exact ⟨j + 1, l3 ++ inT true (tellI e f k), by go_num, by have := HNUM.out.2.2; omega, HS3, Lib.hid (by rw [← HE.out, HAP.out, HL3.out, HBR.out]; simp)⟩
                      | ((repeat apply Exists.intro); exact ⟨⟨j + 1, l3 ++ inT true (tellI e f k), by go_num, by have := HNUM.out.2.2; omega, HS3, Lib.hid (by rw [← HE.out, HAP.out, HL3.out, HBR.out]; simp)⟩, rfl⟩)
                    case measure => have := HNUM.out.2.2; simp [intOf]; omega
                · have y2 : (kk == 2) = false := by simpa using z2
                  by_cases z4 : kk = 4
                  · subst z4
                    by_cases d4 : kd = 4
                    · subst d4
                      have hb : brk 4 4 = true := rfl
                      have HBR : Hid (BR = inT true (tellI e f k)) := by show _ = _; rw [HBRD.out, hb]; rfl
                      clear hb
                      have HC0 := HIH.out k wx1.drew true HNUM.out.1 HNUM.out.2.1 (HB0.out.trans ((HSR.out.bel.trans (below_drewN (Below.refl _ _) 1)).mono HB0.out.size))
                      have HC := hide HC0
                      have HLN2 : Hid (0 < (inT true (tellI e f k)).length ∧ (inT true (tellI e f k)).length ≤ 400) := by
                        have := HTK.out
                        unfold inT
                        exact ⟨by simp; try omega, by simp; try omega⟩
                      clear HC0
                      refine wp_region_held_drew (S := fun W => W.cell? ⟨w.heap.size, 4, none⟩ = some (.slice (some ⟨kb, ko, none⟩) ks.length ck) ∧ W.cell? ⟨kb, ko + j, none⟩ = some (.int .i64 k) ∧ W.cell? ⟨w.heap.size, 0, none⟩ = some (.int .i64 4)) (by kernel_rfl) (HSX.out _ _ _ (HSR.out.below (below_drewN (Below.refl _ _) 1))) (fun hHeld => ?_)
                      refine wpAnyH_take (i := 0) (v := ?_) rfl (by kernel_rfl) (by kernel_rfl) (by kernel_rfl) (fun _ _ _ h => h) (Or.inl ⟨by kernel_rfl, ?_⟩) hHeld ?_
                      rotate_left
                      · (intro W hSw; (try dsimp only at hSw); go_simp; try with_reducible rfl)
                      try simp only [Act.put, List.setIfInBounds_toArray, List.set_cons_zero, List.set_cons_succ]
                      refine wpAnyH_take (i := 1) (v := ?_) rfl (by kernel_rfl) (by kernel_rfl) (by kernel_rfl) (fun _ _ _ h => h) (Or.inl ⟨by kernel_rfl, ?_⟩) hHeld ?_
                      rotate_left
                      · (intro W hSw; (try dsimp only at hSw); go_simp; try with_reducible rfl)
                      try simp only [Act.put, List.setIfInBounds_toArray, List.set_cons_zero, List.set_cons_succ]
                      refine wpAnyH_take (i := 2) (v := ?_) rfl (by kernel_rfl) (by kernel_rfl) (by kernel_rfl) (fun _ _ _ h => h) (Or.inl ⟨by kernel_rfl, ?_⟩) hHeld ?_
                      rotate_left
                      · (intro W hSw; (try dsimp only at hSw); go_simp; try with_reducible rfl)
                      try simp only [Act.put, List.setIfInBounds_toArray, List.set_cons_zero, List.set_cons_succ]
                      refine wpAnyH_take (i := 3) (v := ?_) rfl (by kernel_rfl) (by kernel_rfl) (by kernel_rfl) (fun _ _ _ h => h) (Or.inl ⟨by kernel_rfl, ?_⟩) hHeld ?_
                      rotate_left
                      · (intro W hSw; (try dsimp only at hSw); go_simp; try with_reducible rfl)
                      try simp only [Act.put, List.setIfInBounds_toArray, List.set_cons_zero, List.set_cons_succ]
                      refine wpAnyH_take (i := 4) (v := ?_) rfl (by kernel_rfl) (by kernel_rfl) (by kernel_rfl) (fun _ _ _ h => h) (Or.inl ⟨by kernel_rfl, ?_⟩) hHeld ?_
                      rotate_left
                      · (intro W hSw; (try dsimp only at hSw); go_simp; try with_reducible rfl)
                      try simp only [Act.put, List.setIfInBounds_toArray, List.set_cons_zero, List.set_cons_succ]
                      refine wpAnyH_take (i := 5) (v := ?_) rfl (by kernel_rfl) (by kernel_rfl) (by kernel_rfl) (fun _ _ _ h => h) (Or.inl ⟨by kernel_rfl, ?_⟩) hHeld ?_
                      rotate_left
                      · (intro W hSw; (try dsimp only at hSw); go_simp; try with_reducible rfl)
                      try simp only [Act.put, List.setIfInBounds_toArray, List.set_cons_zero, List.set_cons_succ]
                      refine wpAnyH_take (i := 6) (v := ?_) rfl (by kernel_rfl) (by kernel_rfl) (by kernel_rfl) (fun _ _ _ h => h) (Or.inl ⟨by kernel_rfl, ?_⟩) hHeld ?_
                      rotate_left
                      · (intro W hSw; (try dsimp only at hSw); go_simp; try with_reducible rfl)
                      try simp only [Act.put, List.setIfInBounds_toArray, List.set_cons_zero, List.set_cons_succ]
                      refine wpAnyH_take (i := 7) (v := ?_) rfl (by kernel_rfl) (by kernel_rfl) (by kernel_rfl) (fun _ _ _ h => h) (Or.inl ⟨by kernel_rfl, ?_⟩) hHeld ?_
                      rotate_left
                      · (intro W hSw; (try dsimp only at hSw); go_simp; try with_reducible rfl)
                      try simp only [Act.put, List.setIfInBounds_toArray, List.set_cons_zero, List.set_cons_succ]
                      refine wpAnyH_take (i := 8) (v := ?_) rfl (by kernel_rfl) (by kernel_rfl) (by kernel_rfl) (fun _ _ _ h => h) (Or.inl ⟨by kernel_rfl, ?_⟩) hHeld ?_
                      rotate_left
                      · (intro W hSw; (try dsimp only at hSw); go_simp; try with_reducible rfl)
                      try simp only [Act.put, List.setIfInBounds_toArray, List.set_cons_zero, List.set_cons_succ]
                      refine wpAnyH_take (i := 9) (v := ?_) rfl (by kernel_rfl) (by kernel_rfl) (by kernel_rfl) (fun _ _ _ h => h) (Or.inl ⟨by kernel_rfl, ?_⟩) hHeld ?_
                      rotate_left
                      · (intro W hSw; (try dsimp only at hSw); go_simp; try with_reducible rfl)
                      try simp only [Act.put, List.setIfInBounds_toArray, List.set_cons_zero, List.set_cons_succ]
                      refine wpAnyH_take (i := 10) (v := ?_) rfl (by kernel_rfl) (by kernel_rfl) (by kernel_rfl) (fun _ _ _ h => h) (Or.inl ⟨by kernel_rfl, ?_⟩) hHeld ?_
                      rotate_left
                      · (intro W hSw; (try dsimp only at hSw); go_simp; try with_reducible rfl)
                      try simp only [Act.put, List.setIfInBounds_toArray, List.set_cons_zero, List.set_cons_succ]
                      refine wpAnyH_take (i := 11) (v := ?_) rfl (by kernel_rfl) (by kernel_rfl) (by kernel_rfl) (fun _ _ _ h => h) (Or.inl ⟨by kernel_rfl, ?_⟩) hHeld ?_
                      rotate_left
                      · (intro W hSw; (try dsimp only at hSw); go_simp; try with_reducible rfl)
                      try simp only [Act.put, List.setIfInBounds_toArray, List.set_cons_zero, List.set_cons_succ]
                      refine wpAnyH_take (i := 12) (v := ?_) rfl (by kernel_rfl) (by kernel_rfl) (by kernel_rfl) (fun _ _ _ h => h) (Or.inl ⟨by kernel_rfl, ?_⟩) hHeld ?_
                      rotate_left
                      · (intro W hSw; (try dsimp only at hSw); go_simp; try with_reducible rfl)
                      try simp only [Act.put, List.setIfInBounds_toArray, List.set_cons_zero, List.set_cons_succ]
                      refine wpAnyH_take (i := 13) (v := undef) rfl (by kernel_rfl) (by kernel_rfl) (by kernel_rfl) (fun _ _ _ h => h) (Or.inr ⟨by kernel_rfl, rfl⟩) hHeld ?_
                      try simp only [Act.put, List.setIfInBounds_toArray, List.set_cons_zero, List.set_cons_succ]
                      refine wpAnyH_take (i := 14) (v := undef) rfl (by kernel_rfl) (by kernel_rfl) (by kernel_rfl) (fun _ _ _ h => h) (Or.inr ⟨by kernel_rfl, rfl⟩) hHeld ?_
                      try simp only [Act.put, List.setIfInBounds_toArray, List.set_cons_zero, List.set_cons_succ]
                      refine wpAnyH_take (i := 15) (v := undef) rfl (by kernel_rfl) (by kernel_rfl) (by kernel_rfl) (fun _ _ _ h => h) (Or.inr ⟨by kernel_rfl, rfl⟩) hHeld ?_
                      try simp only [Act.put, List.setIfInBounds_toArray, List.set_cons_zero, List.set_cons_succ]
                      refine wpAnyH_take (i := 16) (v := ?_) rfl (by kernel_rfl) (by kernel_rfl) (by kernel_rfl) (fun _ _ _ h => h) (Or.inl ⟨by kernel_rfl, ?_⟩) hHeld ?_
                      rotate_left
                      · (intro W hSw; (try dsimp only at hSw); go_simp; try with_reducible rfl)
                      try simp only [Act.put, List.setIfInBounds_toArray, List.set_cons_zero, List.set_cons_succ]
                      refine wpAnyH_take (i := 17) (v := ?_) rfl (by kernel_rfl) (by kernel_rfl) (by kernel_rfl) (fun _ _ _ h => h) (Or.inl ⟨by kernel_rfl, ?_⟩) hHeld ?_
                      rotate_left
                      · (intro W hSw; (try dsimp only at hSw); go_simp; try with_reducible rfl)
                      try simp only [Act.put, List.setIfInBounds_toArray, List.set_cons_zero, List.set_cons_succ]
                      refine wpAnyH_take (i := 18) (v := ?_) rfl (by kernel_rfl) (by kernel_rfl) (by kernel_rfl) (fun _ _ _ h => h) (Or.inl ⟨by kernel_rfl, ?_⟩) hHeld ?_
                      rotate_left
                      · (intro W hSw; (try dsimp only at hSw); go_simp; try with_reducible rfl)
                      try simp only [Act.put, List.setIfInBounds_toArray, List.set_cons_zero, List.set_cons_succ]
                      refine wpAnyH_take (i := 19) (v := ?_) rfl (by kernel_rfl) (by kernel_rfl) (by kernel_rfl) (fun _ _ _ h => h) (Or.inl ⟨by kernel_rfl, ?_⟩) hHeld ?_
                      rotate_left
                      · (intro W hSw; (try dsimp only at hSw); go_simp; try with_reducible rfl)
                      try simp only [Act.put, List.setIfInBounds_toArray, List.set_cons_zero, List.set_cons_succ]
                      refine wpAnyH_take (i := 20) (v := ?_) rfl (by kernel_rfl) (by kernel_rfl) (by kernel_rfl) (fun _ _ _ h => h) (Or.inl ⟨by kernel_rfl, ?_⟩) hHeld ?_
                      rotate_left
                      · (intro W hSw; (try dsimp only at hSw); go_simp; try with_reducible rfl)
                      try simp only [Act.put, List.setIfInBounds_toArray, List.set_cons_zero, List.set_cons_succ]
                      refine wpAnyH_take (i := 21) (v := ?_) rfl (by kernel_rfl) (by kernel_rfl) (by kernel_rfl) (fun _ _ _ h => h) (Or.inl ⟨by kernel_rfl, ?_⟩) hHeld ?_
                      rotate_left
                      · (intro W hSw; (try dsimp only at hSw); go_simp; try with_reducible rfl)
                      try simp only [Act.put, List.setIfInBounds_toArray, List.set_cons_zero, List.set_cons_succ]
                      refine wpAnyH_take (i := 22) (v := ?_) rfl (by kernel_rfl) (by kernel_rfl) (by kernel_rfl) (fun _ _ _ h => h) (Or.inl ⟨by kernel_rfl, ?_⟩) hHeld ?_
                      rotate_left
                      · (intro W hSw; (try dsimp only at hSw); go_simp; try with_reducible rfl)
                      try simp only [Act.put, List.setIfInBounds_toArray, List.set_cons_zero, List.set_cons_succ]
                      refine wpAnyH_take (i := 23) (v := ?_) rfl (by kernel_rfl) (by kernel_rfl) (by kernel_rfl) (fun _ _ _ h => h) (Or.inl ⟨by kernel_rfl, ?_⟩) hHeld ?_
                      rotate_left
                      · (intro W hSw; (try dsimp only at hSw); go_simp; try with_reducible rfl)
                      try simp only [Act.put, List.setIfInBounds_toArray, List.set_cons_zero, List.set_cons_succ]
                      refine wpAnyH_take (i := 24) (v := ?_) rfl (by kernel_rfl) (by kernel_rfl) (by kernel_rfl) (fun _ _ _ h => h) (Or.inl ⟨by kernel_rfl, ?_⟩) hHeld ?_
                      rotate_left
                      · (intro W hSw; (try dsimp only at hSw); go_simp; try with_reducible rfl)
                      try simp only [Act.put, List.setIfInBounds_toArray, List.set_cons_zero, List.set_cons_succ]
                      refine wpAnyH_take (i := 25) (v := ?_) rfl (by kernel_rfl) (by kernel_rfl) (by kernel_rfl) (fun _ _ _ h => h) (Or.inl ⟨by kernel_rfl, ?_⟩) hHeld ?_
                      rotate_left
                      · (intro W hSw; (try dsimp only at hSw); go_simp; try with_reducible rfl)
                      try simp only [Act.put, List.setIfInBounds_toArray, List.set_cons_zero, List.set_cons_succ]
                      refine wpAnyH_take (i := 26) (v := ?_) rfl (by kernel_rfl) (by kernel_rfl) (by kernel_rfl) (fun _ _ _ h => h) (Or.inl ⟨by kernel_rfl, ?_⟩) hHeld ?_
                      rotate_left
                      · (intro W hSw; (try dsimp only at hSw); go_simp; try with_reducible rfl)
                      try simp only [Act.put, List.setIfInBounds_toArray, List.set_cons_zero, List.set_cons_succ]
                      refine wpAnyH_ready (rs := [27]) (by kernel_rfl) (by simp) ?_
                      refine AllReadyH.cons rfl (fun K hK => ?_) AllReadyH.nil
                      go_simp
                      go_at_call 37
                      (with_reducible refine (HC.out).mono ?_)
                      rintro en w9 ⟨A9, c9, rfl, hown9, hb9⟩
                      have HS9 := Lib.hid (HSR.out.below ((below_drewN (Below.refl _ _) 1).trans hb9))
                      have HO9 := Lib.hid hown9
                      clear hown9 hb9 hHeld
                      go_wp2_with fail
                      refine hK.out _ _ (HSX.out _ _ _ HS9.out) (fun hHeld => ?_)
                      clear hK K
                      try simp only [Act.put, List.setIfInBounds_toArray, List.set_cons_zero, List.set_cons_succ]
                      refine wpAnyH_ready (rs := [28]) (by kernel_rfl) (by simp) ?_
                      refine AllReadyH.cons rfl (fun K hK => ?_) AllReadyH.nil
                      refine step_app_sgs (by rfl) (.tmp 56) (.tmp 83) _ (by rfl) w.heap.size 73 i0 _ Tryd.underlying69 hi0 hz0 (by rfl) hs1 hs2 v1 _ l3 (inT true (tellI e f k)) (by rfl) HS9.out.row0 (by rfl) _ HO9.out HLN2.out.1 (by have := HLN2.out.2; have := HLL3.out; omega) (HS9.out.bel.size) ?_
                      intro v' w2 hown hg hat
                      have HS3 := Lib.hid (HS9.out.more0 hown hg)
                      clear hown hg hat hHeld
                      refine hK.out _ _ (HSX.out _ _ _ HS3.out) (fun hHeld => ?_)
                      clear hK K
                      try simp only [Act.put, List.setIfInBounds_toArray, List.set_cons_zero, List.set_cons_succ]
                      refine wpAnyH_take (i := 29) (v := ?_) rfl (by kernel_rfl) (by kernel_rfl) (by kernel_rfl) (fun _ _ _ h => h) (Or.inl ⟨by kernel_rfl, ?_⟩) hHeld ?_
                      rotate_left
                      · (intro W hSw; (try dsimp only at hSw); go_simp; try with_reducible rfl)
                      try simp only [Act.put, List.setIfInBounds_toArray, List.set_cons_zero, List.set_cons_succ]
                      refine wpAnyH_done (by kernel_rfl) ?_ _
                      clear hHeld
                      go_wp2_with fail
                      go_roundw
                      case rel => first
                        | exact ⟨j + 1, l3 ++ inT true (tellI e f k), by go_num, by have := HNUM.out.2.2; omega, HS3, Lib.hid (by rw [← HE.out, HAP.out, HL3.out, HBR.out]; simp)⟩
                        | ((repeat apply Exists.intro); exact ⟨⟨j + 1, l3 ++ inT true (tellI e f k), by go_num, by have := HNUM.out.2.2; omega, HS3, Lib.hid (by rw [← HE.out, HAP.out, HL3.out, HBR.out]; simp)⟩, rfl⟩)
                      case measure => have := HNUM.out.2.2; simp [intOf]; omega
                    · have x4 : (kd == 4) = false := by simpa using d4
                      have hb : brk 4 kd = false := brk4 kd (by have h1 := HNE.out; have h2 := HK.out.1; omega)
                      have HBR : Hid (BR = inT false (tellI e f k)) := by show _ = _; rw [HBRD.out, hb]; rfl
                      clear hb
                      clear d4
                      have HC0 := HIH.out k wx1.drew false HNUM.out.1 HNUM.out.2.1 (HB0.out.trans ((HSR.out.bel.trans (below_drewN (Below.refl _ _) 1)).mono HB0.out.size))
                      have HC := hide HC0
                      have HLN2 : Hid (0 < (inT false (tellI e f k)).length ∧ (inT false (tellI e f k)).length ≤ 400) := by
                        have := HTK.out
                        unfold inT
                        exact ⟨by simp; try omega, by simp; try omega⟩
                      clear HC0
                      refine wp_region_held_drew (S := fun W => W.cell? ⟨w.heap.size, 4, none⟩ = some (.slice (some ⟨kb, ko, none⟩) ks.length ck) ∧ W.cell? ⟨kb, ko + j, none⟩ = some (.int .i64 k) ∧ W.cell? ⟨w.heap.size, 0, none⟩ = some (.int .i64 kd)) (by kernel_rfl) (HSX.out _ _ _ (HSR.out.below (below_drewN (Below.refl _ _) 1))) (fun hHeld => ?_)
                      refine wpAnyH_take (i := 0) (v := ?_) rfl (by kernel_rfl) (by kernel_rfl) (by kernel_rfl) (fun _ _ _ h => h) (Or.inl ⟨by kernel_rfl, ?_⟩) hHeld ?_
                      rotate_left
                      · (intro W hSw; (try dsimp only at hSw); go_simp; try with_reducible rfl)
                      try simp only [Act.put, List.setIfInBounds_toArray, List.set_cons_zero, List.set_cons_succ]
                      refine wpAnyH_take (i := 1) (v := ?_) rfl (by kernel_rfl) (by kernel_rfl) (by kernel_rfl) (fun _ _ _ h => h) (Or.inl ⟨by kernel_rfl, ?_⟩) hHeld ?_
                      rotate_left
                      · (intro W hSw; (try dsimp only at hSw); go_simp; try with_reducible rfl)
                      try simp only [Act.put, List.setIfInBounds_toArray, List.set_cons_zero, List.set_cons_succ]
                      refine wpAnyH_take (i := 2) (v := ?_) rfl (by kernel_rfl) (by kernel_rfl) (by kernel_rfl) (fun _ _ _ h => h) (Or.inl ⟨by kernel_rfl, ?_⟩) hHeld ?_
                      rotate_left
                      · (intro W hSw; (try dsimp only at hSw); go_simp; try with_reducible rfl)
                      try simp only [Act.put, List.setIfInBounds_toArray, List.set_cons_zero, List.set_cons_succ]
                      refine wpAnyH_take (i := 3) (v := ?_) rfl (by kernel_rfl) (by kernel_rfl) (by kernel_rfl) (fun _ _ _ h => h) (Or.inl ⟨by kernel_rfl, ?_⟩) hHeld ?_
                      rotate_left
                      · (intro W hSw; (try dsimp only at hSw); go_simp; try with_reducible rfl)
                      try simp only [Act.put, List.setIfInBounds_toArray, List.set_cons_zero, List.set_cons_succ]
                      refine wpAnyH_take (i := 4) (v := ?_) rfl (by kernel_rfl) (by kernel_rfl) (by kernel_rfl) (fun _ _ _ h => h) (Or.inl ⟨by kernel_rfl, ?_⟩) hHeld ?_
                      rotate_left
                      · (intro W hSw; (try dsimp only at hSw); go_simp; try with_reducible rfl)
                      try simp only [Act.put, List.setIfInBounds_toArray, List.set_cons_zero, List.set_cons_succ]
                      refine wpAnyH_take (i := 5) (v := ?_) rfl (by kernel_rfl) (by kernel_rfl) (by kernel_rfl) (fun _ _ _ h => h) (Or.inl ⟨by kernel_rfl, ?_⟩) hHeld ?_
                      rotate_left
                      · (intro W hSw; (try dsimp only at hSw); go_simp; try with_reducible rfl)
                      try simp only [Act.put, List.setIfInBounds_toArray, List.set_cons_zero, List.set_cons_succ]
                      refine wpAnyH_take (i := 6) (v := ?_) rfl (by kernel_rfl) (by kernel_rfl) (by kernel_rfl) (fun _ _ _ h => h) (Or.inl ⟨by kernel_rfl, ?_⟩) hHeld ?_
                      rotate_left
                      · (intro W hSw; (try dsimp only at hSw); go_simp; try with_reducible rfl)
                      try simp only [Act.put, List.setIfInBounds_toArray, List.set_cons_zero, List.set_cons_succ]
                      refine wpAnyH_take (i := 7) (v := ?_) rfl (by kernel_rfl) (by kernel_rfl) (by kernel_rfl) (fun _ _ _ h => h) (Or.inl ⟨by kernel_rfl, ?_⟩) hHeld ?_
                      rotate_left
                      · (intro W hSw; (try dsimp only at hSw); go_simp; try with_reducible rfl)
                      try simp only [Act.put, List.setIfInBounds_toArray, List.set_cons_zero, List.set_cons_succ]
                      refine wpAnyH_take (i := 8) (v := ?_) rfl (by kernel_rfl) (by kernel_rfl) (by kernel_rfl) (fun _ _ _ h => h) (Or.inl ⟨by kernel_rfl, ?_⟩) hHeld ?_
                      rotate_left
                      · (intro W hSw; (try dsimp only at hSw); go_simp; try with_reducible rfl)
                      try simp only [Act.put, List.setIfInBounds_toArray, List.set_cons_zero, List.set_cons_succ]
                      refine wpAnyH_take (i := 9) (v := ?_) rfl (by kernel_rfl) (by kernel_rfl) (by kernel_rfl) (fun _ _ _ h => h) (Or.inl ⟨by kernel_rfl, ?_⟩) hHeld ?_
                      rotate_left
                      · (intro W hSw; (try dsimp only at hSw); go_simp; try with_reducible rfl)
                      try simp only [Act.put, List.setIfInBounds_toArray, List.set_cons_zero, List.set_cons_succ]
                      refine wpAnyH_take (i := 10) (v := ?_) rfl (by kernel_rfl) (by kernel_rfl) (by kernel_rfl) (fun _ _ _ h => h) (Or.inl ⟨by kernel_rfl, ?_⟩) hHeld ?_
                      rotate_left
                      · (intro W hSw; (try dsimp only at hSw); go_simp; try with_reducible rfl)
                      try simp only [Act.put, List.setIfInBounds_toArray, List.set_cons_zero, List.set_cons_succ]
                      refine wpAnyH_take (i := 11) (v := ?_) rfl (by kernel_rfl) (by kernel_rfl) (by kernel_rfl) (fun _ _ _ h => h) (Or.inl ⟨by kernel_rfl, ?_⟩) hHeld ?_
                      rotate_left
                      · (intro W hSw; (try dsimp only at hSw); go_simp; try with_reducible rfl)
                      try simp only [Act.put, List.setIfInBounds_toArray, List.set_cons_zero, List.set_cons_succ]
                      refine wpAnyH_take (i := 12) (v := ?_) rfl (by kernel_rfl) (by kernel_rfl) (by kernel_rfl) (fun _ _ _ h => h) (Or.inl ⟨by kernel_rfl, ?_⟩) hHeld ?_
                      rotate_left
                      · (intro W hSw; (try dsimp only at hSw); go_simp; try with_reducible rfl)
                      try simp only [Act.put, List.setIfInBounds_toArray, List.set_cons_zero, List.set_cons_succ]
                      refine wpAnyH_take (i := 13) (v := undef) rfl (by kernel_rfl) (by kernel_rfl) (by kernel_rfl) (fun _ _ _ h => h) (Or.inr ⟨by kernel_rfl, rfl⟩) hHeld ?_
                      try simp only [Act.put, List.setIfInBounds_toArray, List.set_cons_zero, List.set_cons_succ]
                      refine wpAnyH_take (i := 14) (v := undef) rfl (by kernel_rfl) (by kernel_rfl) (by kernel_rfl) (fun _ _ _ h => h) (Or.inr ⟨by kernel_rfl, rfl⟩) hHeld ?_
                      try simp only [Act.put, List.setIfInBounds_toArray, List.set_cons_zero, List.set_cons_succ]
                      refine wpAnyH_take (i := 15) (v := undef) rfl (by kernel_rfl) (by kernel_rfl) (by kernel_rfl) (fun _ _ _ h => h) (Or.inr ⟨by kernel_rfl, rfl⟩) hHeld ?_
                      try simp only [Act.put, List.setIfInBounds_toArray, List.set_cons_zero, List.set_cons_succ]
                      refine wpAnyH_take (i := 16) (v := ?_) rfl (by kernel_rfl) (by kernel_rfl) (by kernel_rfl) (fun _ _ _ h => h) (Or.inl ⟨by kernel_rfl, ?_⟩) hHeld ?_
                      rotate_left
                      · (intro W hSw; (try dsimp only at hSw); go_simp; try with_reducible rfl)
                      try simp only [Act.put, List.setIfInBounds_toArray, List.set_cons_zero, List.set_cons_succ]
                      refine wpAnyH_take (i := 17) (v := ?_) rfl (by kernel_rfl) (by kernel_rfl) (by kernel_rfl) (fun _ _ _ h => h) (Or.inl ⟨by kernel_rfl, ?_⟩) hHeld ?_
                      rotate_left
                      · (intro W hSw; (try dsimp only at hSw); go_simp; try with_reducible rfl)
                      try simp only [Act.put, List.setIfInBounds_toArray, List.set_cons_zero, List.set_cons_succ]
                      refine wpAnyH_take (i := 18) (v := ?_) rfl (by kernel_rfl) (by kernel_rfl) (by kernel_rfl) (fun _ _ _ h => h) (Or.inl ⟨by kernel_rfl, ?_⟩) hHeld ?_
                      rotate_left
                      · (intro W hSw; (try dsimp only at hSw); go_simp; try with_reducible rfl)
                      try simp only [Act.put, List.setIfInBounds_toArray, List.set_cons_zero, List.set_cons_succ]
                      refine wpAnyH_take (i := 19) (v := ?_) rfl (by kernel_rfl) (by kernel_rfl) (by kernel_rfl) (fun _ _ _ h => h) (Or.inl ⟨by kernel_rfl, ?_⟩) hHeld ?_
                      rotate_left
                      · (intro W hSw; (try dsimp only at hSw); go_simp; try with_reducible rfl)
                      try simp only [Act.put, List.setIfInBounds_toArray, List.set_cons_zero, List.set_cons_succ]
                      refine wpAnyH_take (i := 20) (v := ?_) rfl (by kernel_rfl) (by kernel_rfl) (by kernel_rfl) (fun _ _ _ h => h) (Or.inl ⟨by kernel_rfl, ?_⟩) hHeld ?_
                      rotate_left
                      · (intro W hSw; (try dsimp only at hSw); go_simp; try with_reducible rfl)
                      try simp only [Act.put, List.setIfInBounds_toArray, List.set_cons_zero, List.set_cons_succ]
                      refine wpAnyH_take (i := 21) (v := ?_) rfl (by kernel_rfl) (by kernel_rfl) (by kernel_rfl) (fun _ _ _ h => h) (Or.inl ⟨by kernel_rfl, ?_⟩) hHeld ?_
                      rotate_left
                      · (intro W hSw; (try dsimp only at hSw); go_simp; try with_reducible rfl)
                      try simp only [Act.put, List.setIfInBounds_toArray, List.set_cons_zero, List.set_cons_succ]
                      refine wpAnyH_take (i := 22) (v := ?_) rfl (by kernel_rfl) (by kernel_rfl) (by kernel_rfl) (fun _ _ _ h => h) (Or.inl ⟨by kernel_rfl, ?_⟩) hHeld ?_
                      rotate_left
                      · (intro W hSw; (try dsimp only at hSw); go_simp; try with_reducible rfl)
                      try simp only [Act.put, List.setIfInBounds_toArray, List.set_cons_zero, List.set_cons_succ]
                      refine wpAnyH_take (i := 23) (v := ?_) rfl (by kernel_rfl) (by kernel_rfl) (by kernel_rfl) (fun _ _ _ h => h) (Or.inl ⟨by kernel_rfl, ?_⟩) hHeld ?_
                      rotate_left
                      · (intro W hSw; (try dsimp only at hSw); go_simp; try with_reducible rfl)
                      try simp only [Act.put, List.setIfInBounds_toArray, List.set_cons_zero, List.set_cons_succ]
                      refine wpAnyH_take (i := 24) (v := ?_) rfl (by kernel_rfl) (by kernel_rfl) (by kernel_rfl) (fun _ _ _ h => h) (Or.inl ⟨by kernel_rfl, ?_⟩) hHeld ?_
                      rotate_left
                      · (intro W hSw; (try dsimp only at hSw); go_simp; try with_reducible rfl)
                      try simp only [Act.put, List.setIfInBounds_toArray, List.set_cons_zero, List.set_cons_succ]
                      refine wpAnyH_take (i := 25) (v := ?_) rfl (by kernel_rfl) (by kernel_rfl) (by kernel_rfl) (fun _ _ _ h => h) (Or.inl ⟨by kernel_rfl, ?_⟩) hHeld ?_
                      rotate_left
                      · (intro W hSw; (try dsimp only at hSw); go_simp; try with_reducible rfl)
                      try simp only [Act.put, List.setIfInBounds_toArray, List.set_cons_zero, List.set_cons_succ]
                      refine wpAnyH_take (i := 26) (v := ?_) rfl (by kernel_rfl) (by kernel_rfl) (by kernel_rfl) (fun _ _ _ h => h) (Or.inl ⟨by kernel_rfl, ?_⟩) hHeld ?_
                      rotate_left
                      · (intro W hSw; (try dsimp only at hSw); go_simp; try with_reducible rfl)
                      try simp only [Act.put, List.setIfInBounds_toArray, List.set_cons_zero, List.set_cons_succ]
                      refine wpAnyH_ready (rs := [27]) (by kernel_rfl) (by simp) ?_
                      refine AllReadyH.cons rfl (fun K hK => ?_) AllReadyH.nil
                      go_simp
                      go_at_call 37
                      (with_reducible refine (HC.out).mono ?_)
                      rintro en w9 ⟨A9, c9, rfl, hown9, hb9⟩
                      have HS9 := Lib.hid (HSR.out.below ((below_drewN (Below.refl _ _) 1).trans hb9))
                      have HO9 := Lib.hid hown9
                      clear hown9 hb9 hHeld
                      go_wp2_with fail
                      refine hK.out _ _ (HSX.out _ _ _ HS9.out) (fun hHeld => ?_)
                      clear hK K
                      try simp only [Act.put, List.setIfInBounds_toArray, List.set_cons_zero, List.set_cons_succ]
                      refine wpAnyH_ready (rs := [28]) (by kernel_rfl) (by simp) ?_
                      refine AllReadyH.cons rfl (fun K hK => ?_) AllReadyH.nil
                      refine step_app_sgs (by rfl) (.tmp 56) (.tmp 83) _ (by rfl) w.heap.size 73 i0 _ Tryd.underlying69 hi0 hz0 (by rfl) hs1 hs2 v1 _ l3 (inT false (tellI e f k)) (by rfl) HS9.out.row0 (by rfl) _ HO9.out HLN2.out.1 (by have := HLN2.out.2; have := HLL3.out; omega) (HS9.out.bel.size) ?_
                      intro v' w2 hown hg hat
                      have HS3 := Lib.hid (HS9.out.more0 hown hg)
                      clear hown hg hat hHeld
                      refine hK.out _ _ (HSX.out _ _ _ HS3.out) (fun hHeld => ?_)
                      clear hK K
                      try simp only [Act.put, List.setIfInBounds_toArray, List.set_cons_zero, List.set_cons_succ]
                      refine wpAnyH_take (i := 29) (v := ?_) rfl (by kernel_rfl) (by kernel_rfl) (by kernel_rfl) (fun _ _ _ h => h) (Or.inl ⟨by kernel_rfl, ?_⟩) hHeld ?_
                      rotate_left
                      · (intro W hSw; (try dsimp only at hSw); go_simp; try with_reducible rfl)
                      try simp only [Act.put, List.setIfInBounds_toArray, List.set_cons_zero, List.set_cons_succ]
                      refine wpAnyH_done (by kernel_rfl) ?_ _
                      clear hHeld
                      go_wp2_with fail
                      go_roundw
                      case rel => first
                        | exact ⟨j + 1, l3 ++ inT false (tellI e f k), by go_num, by have := HNUM.out.2.2; omega, HS3, Lib.hid (by rw [← HE.out, HAP.out, HL3.out, HBR.out]; simp)⟩
                        | ((repeat apply Exists.intro); exact ⟨⟨j + 1, l3 ++ inT false (tellI e f k), by go_num, by have := HNUM.out.2.2; omega, HS3, Lib.hid (by rw [← HE.out, HAP.out, HL3.out, HBR.out]; simp)⟩, rfl⟩)
                      case measure => have := HNUM.out.2.2; simp [intOf]; omega
                  · have y4 : (kk == 4) = false := by simpa using z4
                    have hb : brk kk kd = false := by rw [show kk = 1 from by have := HK4.out; omega]; exact brk1 kd
                    have HBR : Hid (BR = inT false (tellI e f k)) := by show _ = _; rw [HBRD.out, hb]; rfl
                    clear hb
                    clear z2 z3 z4
                    have HC0 := HIH.out k wx1.drew false HNUM.out.1 HNUM.out.2.1 (HB0.out.trans ((HSR.out.bel.trans (below_drewN (Below.refl _ _) 1)).mono HB0.out.size))
                    have HC := hide HC0
                    have HLN2 : Hid (0 < (inT false (tellI e f k)).length ∧ (inT false (tellI e f k)).length ≤ 400) := by
                      have := HTK.out
                      unfold inT
                      exact ⟨by simp; try omega, by simp; try omega⟩
                    clear HC0
                    refine wp_region_held_drew (S := fun W => W.cell? ⟨w.heap.size, 4, none⟩ = some (.slice (some ⟨kb, ko, none⟩) ks.length ck) ∧ W.cell? ⟨kb, ko + j, none⟩ = some (.int .i64 k) ∧ W.cell? ⟨w.heap.size, 0, none⟩ = some (.int .i64 kd)) (by kernel_rfl) (HSX.out _ _ _ (HSR.out.below (below_drewN (Below.refl _ _) 1))) (fun hHeld => ?_)
                    refine wpAnyH_take (i := 0) (v := ?_) rfl (by kernel_rfl) (by kernel_rfl) (by kernel_rfl) (fun _ _ _ h => h) (Or.inl ⟨by kernel_rfl, ?_⟩) hHeld ?_
                    rotate_left
                    · (intro W hSw; (try dsimp only at hSw); go_simp; try with_reducible rfl)
                    try simp only [Act.put, List.setIfInBounds_toArray, List.set_cons_zero, List.set_cons_succ]
                    refine wpAnyH_take (i := 1) (v := ?_) rfl (by kernel_rfl) (by kernel_rfl) (by kernel_rfl) (fun _ _ _ h => h) (Or.inl ⟨by kernel_rfl, ?_⟩) hHeld ?_
                    rotate_left
                    · (intro W hSw; (try dsimp only at hSw); go_simp; try with_reducible rfl)
                    try simp only [Act.put, List.setIfInBounds_toArray, List.set_cons_zero, List.set_cons_succ]
                    refine wpAnyH_take (i := 2) (v := ?_) rfl (by kernel_rfl) (by kernel_rfl) (by kernel_rfl) (fun _ _ _ h => h) (Or.inl ⟨by kernel_rfl, ?_⟩) hHeld ?_
                    rotate_left
                    · (intro W hSw; (try dsimp only at hSw); go_simp; try with_reducible rfl)
                    try simp only [Act.put, List.setIfInBounds_toArray, List.set_cons_zero, List.set_cons_succ]
                    refine wpAnyH_take (i := 3) (v := ?_) rfl (by kernel_rfl) (by kernel_rfl) (by kernel_rfl) (fun _ _ _ h => h) (Or.inl ⟨by kernel_rfl, ?_⟩) hHeld ?_
                    rotate_left
                    · (intro W hSw; (try dsimp only at hSw); go_simp; try with_reducible rfl)
                    try simp only [Act.put, List.setIfInBounds_toArray, List.set_cons_zero, List.set_cons_succ]
                    refine wpAnyH_take (i := 4) (v := ?_) rfl (by kernel_rfl) (by kernel_rfl) (by kernel_rfl) (fun _ _ _ h => h) (Or.inl ⟨by kernel_rfl, ?_⟩) hHeld ?_
                    rotate_left
                    · (intro W hSw; (try dsimp only at hSw); go_simp; try with_reducible rfl)
                    try simp only [Act.put, List.setIfInBounds_toArray, List.set_cons_zero, List.set_cons_succ]
                    refine wpAnyH_take (i := 5) (v := ?_) rfl (by kernel_rfl) (by kernel_rfl) (by kernel_rfl) (fun _ _ _ h => h) (Or.inl ⟨by kernel_rfl, ?_⟩) hHeld ?_
                    rotate_left
                    · (intro W hSw; (try dsimp only at hSw); go_simp; try with_reducible rfl)
                    try simp only [Act.put, List.setIfInBounds_toArray, List.set_cons_zero, List.set_cons_succ]
                    refine wpAnyH_take (i := 6) (v := ?_) rfl (by kernel_rfl) (by kernel_rfl) (by kernel_rfl) (fun _ _ _ h => h) (Or.inl ⟨by kernel_rfl, ?_⟩) hHeld ?_
                    rotate_left
                    · (intro W hSw; (try dsimp only at hSw); go_simp; try with_reducible rfl)
                    try simp only [Act.put, List.setIfInBounds_toArray, List.set_cons_zero, List.set_cons_succ]
                    refine wpAnyH_take (i := 7) (v := ?_) rfl (by kernel_rfl) (by kernel_rfl) (by kernel_rfl) (fun _ _ _ h => h) (Or.inl ⟨by kernel_rfl, ?_⟩) hHeld ?_
                    rotate_left
                    · (intro W hSw; (try dsimp only at hSw); go_simp; try with_reducible rfl)
                    try simp only [Act.put, List.setIfInBounds_toArray, List.set_cons_zero, List.set_cons_succ]
                    refine wpAnyH_take (i := 8) (v := ?_) rfl (by kernel_rfl) (by kernel_rfl) (by kernel_rfl) (fun _ _ _ h => h) (Or.inl ⟨by kernel_rfl, ?_⟩) hHeld ?_
                    rotate_left
                    · (intro W hSw; (try dsimp only at hSw); go_simp; try with_reducible rfl)
                    try simp only [Act.put, List.setIfInBounds_toArray, List.set_cons_zero, List.set_cons_succ]
                    refine wpAnyH_take (i := 9) (v := ?_) rfl (by kernel_rfl) (by kernel_rfl) (by kernel_rfl) (fun _ _ _ h => h) (Or.inl ⟨by kernel_rfl, ?_⟩) hHeld ?_
                    rotate_left
                    · (intro W hSw; (try dsimp only at hSw); go_simp; try with_reducible rfl)
                    try simp only [Act.put, List.setIfInBounds_toArray, List.set_cons_zero, List.set_cons_succ]
                    refine wpAnyH_take (i := 10) (v := ?_) rfl (by kernel_rfl) (by kernel_rfl) (by kernel_rfl) (fun _ _ _ h => h) (Or.inl ⟨by kernel_rfl, ?_⟩) hHeld ?_
                    rotate_left
                    · (intro W hSw; (try dsimp only at hSw); go_simp; try with_reducible rfl)
                    try simp only [Act.put, List.setIfInBounds_toArray, List.set_cons_zero, List.set_cons_succ]
                    refine wpAnyH_take (i := 11) (v := ?_) rfl (by kernel_rfl) (by kernel_rfl) (by kernel_rfl) (fun _ _ _ h => h) (Or.inl ⟨by kernel_rfl, ?_⟩) hHeld ?_
                    rotate_left
                    · (intro W hSw; (try dsimp only at hSw); go_simp; try with_reducible rfl)
                    try simp only [Act.put, List.setIfInBounds_toArray, List.set_cons_zero, List.set_cons_succ]
                    refine wpAnyH_take (i := 12) (v := ?_) rfl (by kernel_rfl) (by kernel_rfl) (by kernel_rfl) (fun _ _ _ h => h) (Or.inl ⟨by kernel_rfl, ?_⟩) hHeld ?_
                    rotate_left
                    · (intro W hSw; (try dsimp only at hSw); go_simp; try with_reducible rfl)
                    try simp only [Act.put, List.setIfInBounds_toArray, List.set_cons_zero, List.set_cons_succ]
                    refine wpAnyH_take (i := 13) (v := undef) rfl (by kernel_rfl) (by kernel_rfl) (by kernel_rfl) (fun _ _ _ h => h) (Or.inr ⟨by kernel_rfl, rfl⟩) hHeld ?_
                    try simp only [Act.put, List.setIfInBounds_toArray, List.set_cons_zero, List.set_cons_succ]
                    refine wpAnyH_take (i := 14) (v := undef) rfl (by kernel_rfl) (by kernel_rfl) (by kernel_rfl) (fun _ _ _ h => h) (Or.inr ⟨by kernel_rfl, rfl⟩) hHeld ?_
                    try simp only [Act.put, List.setIfInBounds_toArray, List.set_cons_zero, List.set_cons_succ]
                    refine wpAnyH_take (i := 15) (v := undef) rfl (by kernel_rfl) (by kernel_rfl) (by kernel_rfl) (fun _ _ _ h => h) (Or.inr ⟨by kernel_rfl, rfl⟩) hHeld ?_
                    try simp only [Act.put, List.setIfInBounds_toArray, List.set_cons_zero, List.set_cons_succ]
                    refine wpAnyH_take (i := 16) (v := ?_) rfl (by kernel_rfl) (by kernel_rfl) (by kernel_rfl) (fun _ _ _ h => h) (Or.inl ⟨by kernel_rfl, ?_⟩) hHeld ?_
                    rotate_left
                    · (intro W hSw; (try dsimp only at hSw); go_simp; try with_reducible rfl)
                    try simp only [Act.put, List.setIfInBounds_toArray, List.set_cons_zero, List.set_cons_succ]
                    refine wpAnyH_take (i := 17) (v := ?_) rfl (by kernel_rfl) (by kernel_rfl) (by kernel_rfl) (fun _ _ _ h => h) (Or.inl ⟨by kernel_rfl, ?_⟩) hHeld ?_
                    rotate_left
                    · (intro W hSw; (try dsimp only at hSw); go_simp; try with_reducible rfl)
                    try simp only [Act.put, List.setIfInBounds_toArray, List.set_cons_zero, List.set_cons_succ]
                    refine wpAnyH_take (i := 18) (v := ?_) rfl (by kernel_rfl) (by kernel_rfl) (by kernel_rfl) (fun _ _ _ h => h) (Or.inl ⟨by kernel_rfl, ?_⟩) hHeld ?_
                    rotate_left
                    · (intro W hSw; (try dsimp only at hSw); go_simp; try with_reducible rfl)
                    try simp only [Act.put, List.setIfInBounds_toArray, List.set_cons_zero, List.set_cons_succ]
                    refine wpAnyH_take (i := 19) (v := ?_) rfl (by kernel_rfl) (by kernel_rfl) (by kernel_rfl) (fun _ _ _ h => h) (Or.inl ⟨by kernel_rfl, ?_⟩) hHeld ?_
                    rotate_left
                    · (intro W hSw; (try dsimp only at hSw); go_simp; try with_reducible rfl)
                    try simp only [Act.put, List.setIfInBounds_toArray, List.set_cons_zero, List.set_cons_succ]
                    refine wpAnyH_take (i := 20) (v := ?_) rfl (by kernel_rfl) (by kernel_rfl) (by kernel_rfl) (fun _ _ _ h => h) (Or.inl ⟨by kernel_rfl, ?_⟩) hHeld ?_
                    rotate_left
                    · (intro W hSw; (try dsimp only at hSw); go_simp; try with_reducible rfl)
                    try simp only [Act.put, List.setIfInBounds_toArray, List.set_cons_zero, List.set_cons_succ]
                    refine wpAnyH_take (i := 21) (v := ?_) rfl (by kernel_rfl) (by kernel_rfl) (by kernel_rfl) (fun _ _ _ h => h) (Or.inl ⟨by kernel_rfl, ?_⟩) hHeld ?_
                    rotate_left
                    · (intro W hSw; (try dsimp only at hSw); go_simp; try with_reducible rfl)
                    try simp only [Act.put, List.setIfInBounds_toArray, List.set_cons_zero, List.set_cons_succ]
                    refine wpAnyH_take (i := 22) (v := undef) rfl (by kernel_rfl) (by kernel_rfl) (by kernel_rfl) (fun _ _ _ h => h) (Or.inr ⟨by kernel_rfl, rfl⟩) hHeld ?_
                    try simp only [Act.put, List.setIfInBounds_toArray, List.set_cons_zero, List.set_cons_succ]
                    refine wpAnyH_take (i := 23) (v := undef) rfl (by kernel_rfl) (by kernel_rfl) (by kernel_rfl) (fun _ _ _ h => h) (Or.inr ⟨by kernel_rfl, rfl⟩) hHeld ?_
                    try simp only [Act.put, List.setIfInBounds_toArray, List.set_cons_zero, List.set_cons_succ]
                    refine wpAnyH_take (i := 24) (v := undef) rfl (by kernel_rfl) (by kernel_rfl) (by kernel_rfl) (fun _ _ _ h => h) (Or.inr ⟨by kernel_rfl, rfl⟩) hHeld ?_
                    try simp only [Act.put, List.setIfInBounds_toArray, List.set_cons_zero, List.set_cons_succ]
                    refine wpAnyH_take (i := 25) (v := ?_) rfl (by kernel_rfl) (by kernel_rfl) (by kernel_rfl) (fun _ _ _ h => h) (Or.inl ⟨by kernel_rfl, ?_⟩) hHeld ?_
                    rotate_left
                    · (intro W hSw; (try dsimp only at hSw); go_simp; try with_reducible rfl)
                    try simp only [Act.put, List.setIfInBounds_toArray, List.set_cons_zero, List.set_cons_succ]
                    refine wpAnyH_take (i := 26) (v := ?_) rfl (by kernel_rfl) (by kernel_rfl) (by kernel_rfl) (fun _ _ _ h => h) (Or.inl ⟨by kernel_rfl, ?_⟩) hHeld ?_
                    rotate_left
                    · (intro W hSw; (try dsimp only at hSw); go_simp; try with_reducible rfl)
                    try simp only [Act.put, List.setIfInBounds_toArray, List.set_cons_zero, List.set_cons_succ]
                    refine wpAnyH_ready (rs := [27]) (by kernel_rfl) (by simp) ?_
                    refine AllReadyH.cons rfl (fun K hK => ?_) AllReadyH.nil
                    go_simp
                    go_at_call 37
                    (with_reducible refine (HC.out).mono ?_)
                    rintro en w9 ⟨A9, c9, rfl, hown9, hb9⟩
                    have HS9 := Lib.hid (HSR.out.below ((below_drewN (Below.refl _ _) 1).trans hb9))
                    have HO9 := Lib.hid hown9
                    clear hown9 hb9 hHeld
                    go_wp2_with fail
                    refine hK.out _ _ (HSX.out _ _ _ HS9.out) (fun hHeld => ?_)
                    clear hK K
                    try simp only [Act.put, List.setIfInBounds_toArray, List.set_cons_zero, List.set_cons_succ]
                    refine wpAnyH_ready (rs := [28]) (by kernel_rfl) (by simp) ?_
                    refine AllReadyH.cons rfl (fun K hK => ?_) AllReadyH.nil
                    refine step_app_sgs (by rfl) (.tmp 56) (.tmp 83) _ (by rfl) w.heap.size 73 i0 _ Tryd.underlying69 hi0 hz0 (by rfl) hs1 hs2 v1 _ l3 (inT false (tellI e f k)) (by rfl) HS9.out.row0 (by rfl) _ HO9.out HLN2.out.1 (by have := HLN2.out.2; have := HLL3.out; omega) (HS9.out.bel.size) ?_
                    intro v' w2 hown hg hat
                    have HS3 := Lib.hid (HS9.out.more0 hown hg)
                    clear hown hg hat hHeld
                    refine hK.out _ _ (HSX.out _ _ _ HS3.out) (fun hHeld => ?_)
                    clear hK K
                    try simp only [Act.put, List.setIfInBounds_toArray, List.set_cons_zero, List.set_cons_succ]
                    refine wpAnyH_take (i := 29) (v := ?_) rfl (by kernel_rfl) (by kernel_rfl) (by kernel_rfl) (fun _ _ _ h => h) (Or.inl ⟨by kernel_rfl, ?_⟩) hHeld ?_
                    rotate_left
                    · (intro W hSw; (try dsimp only at hSw); go_simp; try with_reducible rfl)
                    try simp only [Act.put, List.setIfInBounds_toArray, List.set_cons_zero, List.set_cons_succ]
                    refine wpAnyH_done (by kernel_rfl) ?_ _
                    clear hHeld
                    go_wp2_with fail
                    go_roundw
                    case rel => first
                      | exact ⟨j + 1, l3 ++ inT false (tellI e f k), by go_num, by have := HNUM.out.2.2; omega, HS3, Lib.hid (by rw [← HE.out, HAP.out, HL3.out, HBR.out]; simp)⟩
                      | ((repeat apply Exists.intro); exact ⟨⟨j + 1, l3 ++ inT false (tellI e f k), by go_num, by have := HNUM.out.2.2; omega, HS3, Lib.hid (by rw [← HE.out, HAP.out, HL3.out, HBR.out]; simp)⟩, rfl⟩)
                    case measure => have := HNUM.out.2.2; simp [intOf]; omega
        · have hjn : j = ks.length := by omega
          have l1 : decide ((j : Int) < (ks.length : Int)) = false := by simp; omega
          have l2 : decide (j < ks.length) = false := by simp; omega
          have HE2 : Hid (l = L2 ++ tellK (tellI e f) e kd 0 ks) := by
            have h := HE.out
            rw [hjn, List.drop_length] at h
            show _ = _
            simpa [tellK] using h
          have HFIN : Hid (inT b (tellI e (f + 1) i) = (l ++ (if kd = 4 then [⟨5, 0, lo, hi, []⟩] else [])) ++ (if b = true then [⟨3, 0, 0, 0, []⟩] else [])) := by
            show _ = _
            rw [HTE.out, HE2.out, HL2.out, HL1.out]
            cases b <;> simp [inT]
          have hlt2 := HLN.out.2
          have HLL : Hid (l.length ≤ 1000) := by show _ ≤ _; omega
          clear hjn HE2 HE HTE hlt a0 a1 a2 a3 a4
          go_upto_region 14 with fail
          go_upto_if 87 with fail
          go_cut [7] from 88 to 95 (fun v wx => Hid (SgR w w.heap.size ⟨kd, lo, hi, nm, ks⟩ (.slice Ak ks.length ck) (l ++ (if kd = 4 then [⟨5, 0, lo, hi, []⟩] else [])) v wx))
          case first =>
            by_cases k4 : kd = 4
            · subst k4
              go_wp2_with (at_builtin; (refine wpList_app_sg rfl (.tmp 88) (.tmp 94) _ rfl w.heap.size 73 i0 _ Tryd.underlying69 hi0 hz0 rfl hs1 hs2 _ l rfl (HS.out.row _) wr.heap.size 1 ⟨5, 0, lo, hi, []⟩ rfl (one_cells wr #[.int .i64 5, .int .i64 0, .int .i64 lo, .int .i64 hi, .string ⟨#[]⟩] (cells1 ⟨5, 0, lo, hi, []⟩) rfl) (by have := HLL.out; omega) (by have := HS.out.bel.size; simp; omega) ?_); intro v' w2 hown hg hat; have HS3 := Lib.hid (HS.out.more hown hg); clear hown hg hat)
              go_meet
              exact HS3
            · have x4 : (kd == 4) = false := by simpa using k4
              have HIF : Hid ((if kd = 4 then [⟨5, 0, lo, hi, []⟩] else [] : List Sg) = []) := by show _ = _; rw [if_neg k4]
              clear k4
              go_wp2_with fail
              go_meet
              rw [HIF.out, List.append_nil]
              exact HS
          case rest =>
            have HS4 := hcut
            obtain ⟨l4, hl4⟩ : ∃ l4 : List Sg, l4 = l ++ (if kd = 4 then [⟨5, 0, lo, hi, []⟩] else []) := ⟨_, rfl⟩
            rw [← hl4] at HS4 HFIN
            have HLL4 : Hid (l4.length ≤ 1000) := by show _ ≤ _; rw [hl4]; split <;> simp <;> omega
            clear hcut hl4 HLL
            have HLL := HLL4
            go_upto_if 96 with fail
            go_cut [7] from 97 to 100 (fun v wx => Hid (SgR w w.heap.size ⟨kd, lo, hi, nm, ks⟩ (.slice Ak ks.length ck) (inT b (tellI e (f + 1) i)) v wx))
            case first =>
              cases b with
              | true =>
                go_wp2_with (at_builtin; (refine wpList_app_sg rfl (.tmp 97) (.tmp 99) _ rfl w.heap.size 73 i0 _ Tryd.underlying69 hi0 hz0 rfl hs1 hs2 _ l4 rfl (HS4.out.row _) wc.heap.size 1 ⟨3, 0, 0, 0, []⟩ rfl (one_cells wc #[.int .i64 3, .int .i64 0, .int .i64 0, .int .i64 0, .string ⟨#[]⟩] (cells1 ⟨3, 0, 0, 0, []⟩) rfl) (by have := HLL.out; omega) (by have := HS4.out.bel.size; simp; omega) ?_); intro v' w2 hown hg hat; have HS5 := Lib.hid (HS4.out.more hown hg); clear hown hg hat)
                go_meet
                rw [HFIN.out]
                exact HS5
              | false =>
                have HF2 : Hid (inT false (tellI e (f + 1) i) = l4) := by show _ = _; rw [HFIN.out]; simp
                go_wp2_with fail
                go_meet
                rw [HF2.out]
                exact HS4
            case rest =>
              obtain ⟨A9, c9, rfl, hown, hbel, -⟩ := hcut.out
              have HO9 := Lib.hid hown
              have HB9 := Lib.hid hbel
              clear hown hbel hcut
              go_wp2_with fail
              go_ret
              exact ⟨A9, c9, rfl, HO9.out, HB9.out⟩
theorem signs_any (A : Option Addr) (n c : Nat) (e : List PI) (w0 : World) (hp : PR w0 A n e) (hn : n ≤ 100000) (hT : Tl e) : ∀ f, SignsAt A n c e w0 f
  | 0 => fun i w b h => by omega
  | f + 1 => signs_step A n c e w0 hp hn hT f (signs_any A n c e w0 hp hn hT f)
end Go.Proofs.YtphhacnabdpheaaDoor.Ex
