/- Walks of queue: Sorted, with a key (the law's own closure) and with none. -/
import Derived.Test.YtlnljgfppipceabQuN
namespace Go.Proofs.Ytlnljgfppipceab.Qu
open Go.RowKit Go.Shelf Mem
set_option linter.unusedVariables false
attribute [local go_sem] Oper.semAt_some

theorem info_i64 : (Try.prog.info? 3).map (fun i => (i.zero, i.size, i.bytes)) = some (some (.int .i64 0), 1, 8) := by kernel_rfl
def places (n : Nat) : List Int := (List.range n).map fun (j : Nat) => (j : Int)
theorem places_getD (n k : Nat) (h : k < n) : (places n).getD k 0 = k := by simp [places, List.getD, h]
/-- what was put in: keys K, things 0, 1, .. -/
def its (K : Nat → Int) (k : Nat) : List It := (List.range k).map fun (j : Nat) => ⟨K j, j, j⟩
theorem its_succ (K : Nat → Int) (k : Nat) : its K (k + 1) = its K k ++ [⟨K k, k, k⟩] := by unfold its; rw [List.range_succ, List.map_append]; rfl
theorem its_length (K : Nat → Int) (k : Nat) : (its K k).length = k := by simp [its]
theorem left_sub (g : List It) : ∀ k a, a ∈ left g k → a ∈ g
  | 0, _, h => h
  | k + 1, a, h => left_sub g k a (List.mem_of_mem_eraseIdx h)
theorem outs_sub (g : List It) (a : It) (h : a ∈ outs g g.length) : a ∈ g := by
  obtain ⟨k, hk, rfl⟩ := List.mem_map.1 h
  have hk := List.mem_range.1 hk
  exact left_sub g k _ (at_mem (left_first g k hk).1)
theorem its_thing (K : Nat → Int) (n : Nat) (a : It) (h : a ∈ its K n) : 0 ≤ a.thing ∧ a.thing < n := by
  obtain ⟨k, hk, rfl⟩ := List.mem_map.1 h
  have hk := List.mem_range.1 hk
  exact ⟨by show (0 : Int) ≤ (k : Int); omega, by show (k : Int) < (n : Int); omega⟩
theorem outs_wf (K : Nat → Int) (n : Nat) (hn : n ≤ 300) : ∀ z ∈ (outs (its K n) n).map (·.thing), (Lit.int .i64 z).wf = true := by
  intro z hz
  obtain ⟨a, ha, rfl⟩ := List.mem_map.1 hz
  have h := its_thing K n a (outs_sub (its K n) a (by rw [its_length]; exact ha))
  exact WalkArith.wf_i64 (by omega)
theorem ints_obj {base k j : Nat} {W : World} {v : Value} {xs : List Value} (h : W.ownsRow base 3 1 v k xs) (e : v.ownBlock = some j) : ∃ cs fr, W.heap[j]? = some (.cells cs 3 fr) := by
  rcases h.2 with ⟨hv, _⟩ | ⟨b1, cap1, cur1, hv, _, hb1, _⟩
  · subst hv; cases e
  · subst hv
    obtain rfl : b1 = j := by simpa [Value.ownBlock] using e
    exact ⟨_, _, hb1⟩
theorem ints_frame {base b2 qb k : Nat} {W W' : World} {v : Value} {xs : List Value} (l : W.ownsRow base 3 1 v k xs) (hq : qb < base) (f : QFrame b2 qb W W') : W'.ownsRow base 3 1 v k xs := by
  refine ⟨l.1, ?_⟩
  rcases l.2 with hn | ⟨b, cap, cur, hv, h1, h2, r⟩
  · exact .inl hn
  · refine .inr ⟨b, cap, cur, hv, h1, f.other b _ h2 (by omega) fun cs fr e => ?_, r⟩
    injection e with _ e _
    exact absurd e (by decide)
/-- what Sorted answers -/
def SortedOut (w : World) (K : Nat → Int) (n : Nat) (e : Ending) (w' : World) : Prop :=
  ∃ A c, e = .returned (.slice A n c) ∧ n ≤ c ∧ Row .i64 w' A n ((outs (its K n) n).map (·.thing)) ∧ Below w.heap.size w w'

theorem is_func (t : TypeId) (h : (match Try.prog.underlying t with | some (.func ..) => true | _ => false) = true) : ∃ a b c, Try.prog.underlying t = some (.func a b c) := by
  split at h
  · rename_i a b c e; exact ⟨a, b, c, e⟩
  · cases h
theorem und_key : ∃ a b c, Try.prog.underlying 44 = some (.func a b c) := is_func _ (by kernel_rfl)
theorem und_seq : ∃ a b c, Try.prog.underlying 46 = some (.func a b c) := is_func _ (by kernel_rfl)
theorem in_func_nil (d : Nat) (t : TypeId) {a b c} (h : Try.prog.underlying t = some (.func a b c)) (f : Fn) (x y : Array Value) (W : World) : (Op.equalIn (d + 1) t (.func f x y) .nilFunc).run Try.prog W = .ok false W := by
  simp [Op.equalIn, run_underlying h]
theorem in_nil_nil (d : Nat) (t : TypeId) {a b c} (h : Try.prog.underlying t = some (.func a b c)) (W : World) : (Op.equalIn (d + 1) t .nilFunc .nilFunc).run Try.prog W = .ok true W := by
  simp [Op.equalIn, run_underlying h]
theorem eql_func_nil (t : TypeId) (h : ∃ a b c, Try.prog.underlying t = some (.func a b c)) (f : Fn) (x y : Array Value) (W : World) : (binOp .eql t (.func f x y) .nilFunc).run Try.prog W = .ok (.bool false) W := by
  obtain ⟨a, b, c, h⟩ := h
  simp only [binOp]
  simp [Op.equal, Op.maxDepth, in_func_nil 9999 t h]
theorem eql_nil_nil (t : TypeId) (h : ∃ a b c, Try.prog.underlying t = some (.func a b c)) (W : World) : (binOp .eql t .nilFunc .nilFunc).run Try.prog W = .ok (.bool true) W := by
  obtain ⟨a, b, c, h⟩ := h
  simp only [binOp]
  simp [Op.equal, Op.maxDepth, in_nil_nil 9999 t h]

set_option maxRecDepth 100000 in
theorem key_any (kb : Nat) (Ak : Option Addr) (nk ck : Nat) (ks : List Int) (x : Nat) (hx : x < nk) (W : World) (hb : Boxed W kb 41 (.slice Ak nk ck)) (hk : Row .i64 W Ak nk ks) :
    Calls Try.prog 14 #[.int .i64 x, .pointer (some ⟨kb, 0, none⟩)] W fun e W' => e = .returned (.int .i64 (ks.getD x 0)) ∧ W = W' := by
  obtain ⟨b, off, rfl, hbb, hc⟩ := hk.at_ (by omega)
  have hc0 := hb.cell
  have hcx := hc x hx
  obtain ⟨y, hy⟩ : ∃ y, y = ks.getD x 0 := ⟨_, rfl⟩
  rw [← hy] at hcx ⊢
  have i1 : (0 : Int) ≤ (x : Int) := by omega
  have i2 : (x : Int) < (nk : Int) := by omega
  clear hb hk hc hy
  go_enter Try.func14, Try.ntmps14
  go_wp2
  go_ret
  exact ⟨rfl, rfl⟩
set_option maxRecDepth 100000 in
theorem nokey_any (x : Int) (W : World) : Calls Try.prog 19 #[.int .i64 x] W fun e W' => e = .returned (.int .i64 0) ∧ W = W' := by
  go_enter Try.func19, Try.ntmps19
  go_wp2
  go_ret
  exact ⟨rfl, rfl⟩

set_option maxRecDepth 100000 in
set_option maxHeartbeats 4000000 in
theorem sorted_keys (kb : Nat) (Ak : Option Addr) (nk ck : Nat) (ks : List Int) (A : Option Addr) (n c : Nat) (w : World) (hbx : Boxed w kb 41 (.slice Ak nk ck)) (hks : Row .i64 w Ak nk ks) (hnk : n ≤ nk) (hr : Row .i64 w A n (places n)) (hn : n ≤ 200) :
    Calls Try.prog 13 #[.func (.func 14) #[] #[.pointer (some ⟨kb, 0, none⟩)], .slice A n c] w (SortedOut w (fun j => ks.getD j 0) n) := by
  refine (callsIn_wide (n := 3)).1 ?_
  obtain ⟨i0, hi, hz0, hz1, hz2⟩ := info_parts info_i64
  obtain ⟨K, hK⟩ : ∃ K : Nat → Int, K = (fun j => ks.getD j 0) := ⟨_, rfl⟩
  rw [← hK]
  have HK := Lib.hid hK
  have HR := Lib.hid hr
  have HBX := Lib.hid hbx
  have HKS := Lib.hid hks
  obtain ⟨C, hC, hCs⟩ : ∃ C : List Value, C.toArray = madeCells (Value.int .i64 0).cells n ∧ C.length = n :=
    ⟨(madeCells (Value.int .i64 0).cells n).toList, by simp, by simp [madeCells]⟩
  have hmake : ∀ W : World, (Instr.makeSlice 41 (.int .i64 0) (.int .i64 (n : Int))).run Try.prog W = .ok (.slice (some ⟨W.heap.size, 0, none⟩) 0 n) (W.alloc (.cells C.toArray 3)) := fun W => by
    have := run_make (P := Try.prog) (w := W) 41 3 i0 (.int .i64 0) Try.underlying41 hi hz0 .i64 .i64 0 (n : Int) (by omega) (by omega) (by rw [hz2]; omega) (by omega)
    rw [hz1, Nat.mul_one] at this
    rw [this]
    simp only [Int.toNat_natCast, Int.toNat_zero, hC]
  have HCS := Lib.hid hCs
  have heq := eql_func_nil 44 und_key (.func 14) #[] #[.pointer (some ⟨kb, 0, none⟩)]
  have HG0 : Hid (G w.heap.size (w.alloc (.cells #[.slice none 0 0, .int .i64 0] 32)) w.heap.size (its K 0) 0) := G.new w (Nat.le_refl _)
  have HB0 : Hid (Below w.heap.size w (w.alloc (.cells #[.slice none 0 0, .int .i64 0] 32))) := (Below.refl _ w).alloc (Nat.le_refl _) _
  clear hr hK hC hCs hbx hks
  refine callsIn_of_wp_marks Try.func13 rfl trivial ?_ rfl
  simp only [Try.ntmps13, List.size_toArray, List.length_cons, List.length_nil, Nat.reduceAdd, Nat.reduceSub, Array.replicate_succ, Array.replicate_zero, List.push_toArray, List.append_toArray, List.nil_append, List.cons_append]
  gi_wp2
  gi_loopw [15] (fun i wr => ∃ k : Nat, k ≤ n ∧ i = .int .i64 k ∧ Hid (G w.heap.size wr w.heap.size (its K k) k) ∧ Hid (Below w.heap.size w wr) ∧ Hid (w.heap.size + 1 ≤ wr.heap.size)) (fun i _ => n - (intOf i).toNat)
  case atStart => exact ⟨0, Nat.zero_le _, rfl, HG0, HB0, by show _ ≤ _; simp⟩
  case round =>
    obtain ⟨k, hk, rfl, hG, hB, hS⟩ := hrel
    by_cases hlt : k < n
    · obtain ⟨b, off, rfl, hb, hc⟩ := HR.out.at_ (by omega)
      have c0 := hc k hlt
      rw [places_getD n k hlt] at c0
      have d0 := (hB.out.cell (p := ⟨b, off + k, none⟩) hb).trans c0
      have i1 : (0 : Int) ≤ (k : Int) := by omega
      have i2 : (k : Int) < (n : Int) := by omega
      have HIT := Lib.hid (its_succ K k)
      have HIL := Lib.hid (its_length K k)
      have hkey := key_any kb Ak nk ck ks k (by omega) wr ((hB.out.block kb HBX.out.lt).trans HBX.out) (HKS.out.below hB.out)
      rw [show ks.getD k 0 = K k from by rw [HK.out]] at hkey
      have HKEY := Lib.hid hkey
      clear hkey
      clear hc c0
      gi_wp2_with fail
      refine ⟨trivial, ?_⟩
      gi_at_call 14
      refine (callsIn_wide.2 HKEY.out).mono ?_
      rintro e w1 ⟨rfl, rfl⟩
      gi_wp2_with fail
      refine ⟨trivial, ?_⟩
      gi_at_call 5
      refine (callsIn_wide.2 (gput _ (its K k) k (K k) (k : Int) _ hG.out (by rw [HIL.out]; omega) (by omega))).mono ?_
      rintro e w1 ⟨⟨u1, rfl⟩, hg1, hf1⟩
      rw [← HIT.out] at hg1
      have HG1 := Lib.hid hg1
      have HB1 := Lib.hid (hB.out.trans (hf1.below (Nat.le_refl _) hB.out.size))
      have HS1 : Hid (w.heap.size + 1 ≤ w1.heap.size) := Nat.le_trans hS.out hf1.size
      clear hg1 hf1
      gi_wp2
      go_roundw
      case rel => exact ⟨k + 1, by omega, by go_num, HG1, HB1, HS1⟩
      case measure => simp [intOf]; omega
    · obtain rfl : k = n := by omega
      obtain ⟨wo, hwo⟩ : ∃ wo : World, wo = wr := ⟨_, rfl⟩
      rw [← hwo] at hG hB hS ⊢
      clear hwo
      gi_wp2_with (refine ⟨trivial, ?_⟩; gi_at_call 15; refine (drain_in Fence.wide (3 - 1) trivial rfl w.heap.size _).mono ?_; rintro e w' ⟨rfl, rfl⟩)
      have hS' := hS.out
      have hBo := hB.out
      have bO := Boxed.new (wo.alloc (.cells C.toArray 3)) 41 (.slice (some ⟨wo.heap.size, 0, none⟩) 0 k)
      have bQ := Boxed.new ((wo.alloc (.cells C.toArray 3)).alloc (.cells #[.slice (some ⟨wo.heap.size, 0, none⟩) 0 k] 41)) 23 (.pointer (some ⟨w.heap.size, 0, none⟩))
      simp only [World.size_alloc] at bO bQ
      have hw3 := (((Below.refl _ wo).alloc (Nat.le_refl _) (.cells C.toArray 3)).alloc (by simp) (.cells #[.slice (some ⟨wo.heap.size, 0, none⟩) 0 k] 41)).alloc (by simp; omega) (.cells #[.pointer (some ⟨w.heap.size, 0, none⟩)] 23)
      have gQ := hG.out.below hw3
      have hB3 := hBo.trans (hw3.mono hBo.size)
      have oR : (wo.alloc (.cells C.toArray 3)).ownsRow (w.heap.size + 1) 3 1 (.slice (some ⟨wo.heap.size, 0, none⟩) 0 k) 0 [] := World.ownsRow_made wo C.toArray k hS' (by unfold maxLen; omega) (by simp [HCS.out])
      have HIL := its_length K k
      refine range_tells rfl (by omega) (gf := 20) (lb := #[.pointer (some ⟨wo.heap.size + 1 + 1, 0, none⟩)]) rfl trivial (enters_of Try.func20 (by kernel_rfl) rfl)
        (encs := fun x : It => #[Value.int .i64 x.key, Value.int .i64 x.thing]) (Pr := QFrame w.heap.size w.heap.size) (Kp := KeepQ w.heap.size w.heap.size (wo.heap.size + 1 + 1)) (S := fun xs => xs = outs (its K k) k) (N := k)
        (Ok := fun W => Boxed W (wo.heap.size + 1 + 1) 23 (.pointer (some ⟨w.heap.size, 0, none⟩)) ∧ G w.heap.size W w.heap.size (its K k) k)
        (fun l J W hOk hJ hY h0 => (drain1_in (3 - 1) (by omega) l (wo.heap.size + 1 + 1) w.heap.size w.heap.size k (its K k) (by rw [HIL]; omega) (by omega) J hJ (by rw [HIL]; exact hY) W hOk.1 hOk.2 h0).mono (fun e W' h => ⟨h.1, outs (its K k) k, rfl, by have h2 := h.2; rw [HIL] at h2; exact h2⟩))
        (fun W' hb => ⟨(hb.block _ bQ.lt).trans bQ, gQ.below hb⟩)
        (fun A B j o hp hj ho hc => hp.other j o ho (by simp at hj; omega) (fun cs fr e => by subst e; cases hc))
        KeepQ.trans (fun W l o o' _ hl ho => KeepQ.putObj o' hl ho) (fun _ => rfl)
        (fun pre W => (∃ v, Boxed W (wo.heap.size + 1) 41 v ∧ W.ownsRow (w.heap.size + 1) 3 1 v pre.length ((pre.map (·.thing)).map (Value.int .i64)) ∧ True) ∧ Below w.heap.size w W)
        (OwnFrom.and (Own.from (holdsRow_own (w.heap.size + 1) (wo.heap.size + 1) 41 3 1 (fun pre : List It => pre.length) (fun pre : List It => (pre.map (·.thing)).map (Value.int .i64)) (fun (pre : List It) v => True)) _) (ownFrom_below (Nat.le_refl _) (by simp; omega)))
        (fun pre A B h f => ⟨by obtain ⟨v, h1, h2, _⟩ := h.1; exact ⟨v, boxed_frame h1 (by omega) (by decide) f, ints_frame h2 (by omega) f, trivial⟩, h.2.trans (f.below (Nat.le_refl _) h.2.size)⟩)
        ⟨⟨_, bO.alloc _, (oR.alloc _).alloc _, trivial⟩, hB3⟩
        (fun x => { tmps := #[.func (.func 14) #[] #[.pointer (some ⟨kb, 0, none⟩)], .slice A k c, undef, undef, .slice none 0 0, .pointer (some ⟨w.heap.size, 0, none⟩), undef, u7, .pointer (some ⟨wo.heap.size + 1, 0, none⟩), undef, .int .i64 x.thing, .func (.func 14) #[] #[.pointer (some ⟨kb, 0, none⟩)], .bool false, .slice A k c, .int .i64 k, .int .i64 k, .bool false, u17, u18, u19, u20, u21, u22, u23, u24, .slice A k c, .int .i64 k, .slice (some ⟨wo.heap.size, 0, none⟩) 0 k, .func (.func 20) #[] #[.pointer (some ⟨wo.heap.size + 1 + 1, 0, none⟩)], .int .i64 x.key, .int .i64 x.thing, undef, undef, undef, undef, undef], defers := [] }) ?assign ?body ?done
      case assign =>
        intro l y W K hK
        gi_wp2
        exact hK
      case body =>
        rintro l pre y W ⟨⟨v, hv, hrow, _⟩, hB⟩ hlt
        have hc := hv.cell
        have hsw := hv.lt
        have hobj : ∀ j, v.ownBlock = some j → ∃ cs fr, (W.alloc (.cells #[.int .i64 y.thing] 3)).heap[j]? = some (.cells cs 3 fr) := fun j e => ints_obj (hrow.alloc _) e
        have HOBJ := Lib.hid hobj
        clear hobj
        gi_wp2_with (gi_at_builtin; refine wpListIn_append_own _ rfl _ _ 41 rfl (w.heap.size + 1) 3 i0 (.int .i64 0) 1 8 Try.underlying41 hi hz0 hz1 hz2 rfl (by decide) _ _ _ rfl (hrow.alloc _) ⟨W.heap.size, 0, none⟩ 1 1 [.int .i64 y.thing] rfl rfl (cell_one_new _ _ _) (by simp [Value.oneCell']) (by unfold maxLen; omega) (by omega) (by simp; omega) ?_; intro v' w1 hown' hgrow _; obtain ⟨g', cap', rfl⟩ := ownsRow_succ hown'; obtain ⟨hv1, hv2, hr2, hk2, hb2⟩ := hv.appended (by decide) hrow (by omega) (by omega) hown' hgrow; have hc1 := hv1.cell; have hf1 := hv1.frozen)
        refine ⟨hk2.from _, ?_, ⟨_, hv2, by simpa using hr2, trivial⟩, hB.trans (hb2.mono (by omega))⟩
        refine ((KeepQ.grown (World.grownBy_alloc W _ none) (fun j e => by cases e)).trans (KeepQ.grown hgrow (fun j e => ?_))).trans (KeepQ.grown (grownBy_setCell' w1 _ _) (fun j e => ?_))
        · obtain ⟨cs, fr, h⟩ := HOBJ.out j e
          refine ⟨_, h, ?_, ?_, ?_⟩ <;> intro cs fr e <;> injection e with _ e _ <;> exact absurd e (by decide)
        · cases e
          refine ⟨_, hv1, ?_, ?_, ?_⟩ <;> intro cs fr e <;> injection e with _ e _ <;> exact absurd e (by decide)
      case done =>
        rintro D' ys W hD rfl ⟨⟨v, hv, hrow, _⟩, hB⟩ hK
        have hc := hv.cell
        gi_wp2
        refine ⟨by simp, .inl ⟨_, _, rfl, run_takeDeferred hK, ?_⟩⟩
        have hfin := ownsRow_putObj hrow (.deferred none) hK rfl
        rw [outs_length] at hfin
        obtain ⟨A1, c1, rfl, hc1, hr1⟩ := Row.of_own hfin (outs_wf K k (by omega))
        exact ⟨_, results_tmp rfl _ _ _, A1, c1, rfl, hc1, hr1, hB.trans (belowK_b (w := w) (Nat.le_refl _) W D' _ _ (by simp at hD; omega) hK rfl rfl)⟩

set_option maxRecDepth 100000 in
set_option maxHeartbeats 4000000 in
theorem sorted_nokey  (A : Option Addr) (n c : Nat) (w : World)  (hr : Row .i64 w A n (places n)) (hn : n ≤ 200) :
    Calls Try.prog 13 #[.nilFunc, .slice A n c] w (SortedOut w (fun _ => 0) n) := by
  refine (callsIn_wide (n := 3)).1 ?_
  obtain ⟨i0, hi, hz0, hz1, hz2⟩ := info_parts info_i64
  obtain ⟨K, hK⟩ : ∃ K : Nat → Int, K = (fun _ => 0) := ⟨_, rfl⟩
  rw [← hK]
  have HK := Lib.hid hK
  have HR := Lib.hid hr
  skip
  obtain ⟨C, hC, hCs⟩ : ∃ C : List Value, C.toArray = madeCells (Value.int .i64 0).cells n ∧ C.length = n :=
    ⟨(madeCells (Value.int .i64 0).cells n).toList, by simp, by simp [madeCells]⟩
  have hmake : ∀ W : World, (Instr.makeSlice 41 (.int .i64 0) (.int .i64 (n : Int))).run Try.prog W = .ok (.slice (some ⟨W.heap.size, 0, none⟩) 0 n) (W.alloc (.cells C.toArray 3)) := fun W => by
    have := run_make (P := Try.prog) (w := W) 41 3 i0 (.int .i64 0) Try.underlying41 hi hz0 .i64 .i64 0 (n : Int) (by omega) (by omega) (by rw [hz2]; omega) (by omega)
    rw [hz1, Nat.mul_one] at this
    rw [this]
    simp only [Int.toNat_natCast, Int.toNat_zero, hC]
  have HCS := Lib.hid hCs
  have heq := eql_nil_nil 44 und_key
  have HG0 : Hid (G w.heap.size (w.alloc (.cells #[.slice none 0 0, .int .i64 0] 32)) w.heap.size (its K 0) 0) := G.new w (Nat.le_refl _)
  have HB0 : Hid (Below w.heap.size w (w.alloc (.cells #[.slice none 0 0, .int .i64 0] 32))) := (Below.refl _ w).alloc (Nat.le_refl _) _
  clear hr hK hC hCs 
  refine callsIn_of_wp_marks Try.func13 rfl trivial ?_ rfl
  simp only [Try.ntmps13, List.size_toArray, List.length_cons, List.length_nil, Nat.reduceAdd, Nat.reduceSub, Array.replicate_succ, Array.replicate_zero, List.push_toArray, List.append_toArray, List.nil_append, List.cons_append]
  gi_wp2
  gi_loopw [15] (fun i wr => ∃ k : Nat, k ≤ n ∧ i = .int .i64 k ∧ Hid (G w.heap.size wr w.heap.size (its K k) k) ∧ Hid (Below w.heap.size w wr) ∧ Hid (w.heap.size + 1 ≤ wr.heap.size)) (fun i _ => n - (intOf i).toNat)
  case atStart => exact ⟨0, Nat.zero_le _, rfl, HG0, HB0, by show _ ≤ _; simp⟩
  case round =>
    obtain ⟨k, hk, rfl, hG, hB, hS⟩ := hrel
    by_cases hlt : k < n
    · obtain ⟨b, off, rfl, hb, hc⟩ := HR.out.at_ (by omega)
      have c0 := hc k hlt
      rw [places_getD n k hlt] at c0
      have d0 := (hB.out.cell (p := ⟨b, off + k, none⟩) hb).trans c0
      have i1 : (0 : Int) ≤ (k : Int) := by omega
      have i2 : (k : Int) < (n : Int) := by omega
      have HIT := Lib.hid (its_succ K k)
      have HIL := Lib.hid (its_length K k)
      have hkey := nokey_any (k : Int) wr
      rw [show (0 : Int) = K k from by rw [HK.out]] at hkey
      have HKEY := Lib.hid hkey
      clear hkey
      clear hc c0
      gi_wp2_with fail
      refine ⟨trivial, ?_⟩
      gi_at_call 19
      refine (callsIn_wide.2 HKEY.out).mono ?_
      rintro e w1 ⟨rfl, rfl⟩
      gi_wp2_with fail
      refine ⟨trivial, ?_⟩
      gi_at_call 5
      refine (callsIn_wide.2 (gput _ (its K k) k (K k) (k : Int) _ hG.out (by rw [HIL.out]; omega) (by omega))).mono ?_
      rintro e w1 ⟨⟨u1, rfl⟩, hg1, hf1⟩
      rw [← HIT.out] at hg1
      have HG1 := Lib.hid hg1
      have HB1 := Lib.hid (hB.out.trans (hf1.below (Nat.le_refl _) hB.out.size))
      have HS1 : Hid (w.heap.size + 1 ≤ w1.heap.size) := Nat.le_trans hS.out hf1.size
      clear hg1 hf1
      gi_wp2
      go_roundw
      case rel => exact ⟨k + 1, by omega, by go_num, HG1, HB1, HS1⟩
      case measure => simp [intOf]; omega
    · obtain rfl : k = n := by omega
      obtain ⟨wo, hwo⟩ : ∃ wo : World, wo = wr := ⟨_, rfl⟩
      rw [← hwo] at hG hB hS ⊢
      clear hwo
      gi_wp2_with (refine ⟨trivial, ?_⟩; gi_at_call 15; refine (drain_in Fence.wide (3 - 1) trivial rfl w.heap.size _).mono ?_; rintro e w' ⟨rfl, rfl⟩)
      have hS' := hS.out
      have hBo := hB.out
      have bO := Boxed.new (wo.alloc (.cells C.toArray 3)) 41 (.slice (some ⟨wo.heap.size, 0, none⟩) 0 k)
      have bQ := Boxed.new ((wo.alloc (.cells C.toArray 3)).alloc (.cells #[.slice (some ⟨wo.heap.size, 0, none⟩) 0 k] 41)) 23 (.pointer (some ⟨w.heap.size, 0, none⟩))
      simp only [World.size_alloc] at bO bQ
      have hw3 := (((Below.refl _ wo).alloc (Nat.le_refl _) (.cells C.toArray 3)).alloc (by simp) (.cells #[.slice (some ⟨wo.heap.size, 0, none⟩) 0 k] 41)).alloc (by simp; omega) (.cells #[.pointer (some ⟨w.heap.size, 0, none⟩)] 23)
      have gQ := hG.out.below hw3
      have hB3 := hBo.trans (hw3.mono hBo.size)
      have oR : (wo.alloc (.cells C.toArray 3)).ownsRow (w.heap.size + 1) 3 1 (.slice (some ⟨wo.heap.size, 0, none⟩) 0 k) 0 [] := World.ownsRow_made wo C.toArray k hS' (by unfold maxLen; omega) (by simp [HCS.out])
      have HIL := its_length K k
      refine range_tells rfl (by omega) (gf := 20) (lb := #[.pointer (some ⟨wo.heap.size + 1 + 1, 0, none⟩)]) rfl trivial (enters_of Try.func20 (by kernel_rfl) rfl)
        (encs := fun x : It => #[Value.int .i64 x.key, Value.int .i64 x.thing]) (Pr := QFrame w.heap.size w.heap.size) (Kp := KeepQ w.heap.size w.heap.size (wo.heap.size + 1 + 1)) (S := fun xs => xs = outs (its K k) k) (N := k)
        (Ok := fun W => Boxed W (wo.heap.size + 1 + 1) 23 (.pointer (some ⟨w.heap.size, 0, none⟩)) ∧ G w.heap.size W w.heap.size (its K k) k)
        (fun l J W hOk hJ hY h0 => (drain1_in (3 - 1) (by omega) l (wo.heap.size + 1 + 1) w.heap.size w.heap.size k (its K k) (by rw [HIL]; omega) (by omega) J hJ (by rw [HIL]; exact hY) W hOk.1 hOk.2 h0).mono (fun e W' h => ⟨h.1, outs (its K k) k, rfl, by have h2 := h.2; rw [HIL] at h2; exact h2⟩))
        (fun W' hb => ⟨(hb.block _ bQ.lt).trans bQ, gQ.below hb⟩)
        (fun A B j o hp hj ho hc => hp.other j o ho (by simp at hj; omega) (fun cs fr e => by subst e; cases hc))
        KeepQ.trans (fun W l o o' _ hl ho => KeepQ.putObj o' hl ho) (fun _ => rfl)
        (fun pre W => (∃ v, Boxed W (wo.heap.size + 1) 41 v ∧ W.ownsRow (w.heap.size + 1) 3 1 v pre.length ((pre.map (·.thing)).map (Value.int .i64)) ∧ True) ∧ Below w.heap.size w W)
        (OwnFrom.and (Own.from (holdsRow_own (w.heap.size + 1) (wo.heap.size + 1) 41 3 1 (fun pre : List It => pre.length) (fun pre : List It => (pre.map (·.thing)).map (Value.int .i64)) (fun (pre : List It) v => True)) _) (ownFrom_below (Nat.le_refl _) (by simp; omega)))
        (fun pre A B h f => ⟨by obtain ⟨v, h1, h2, _⟩ := h.1; exact ⟨v, boxed_frame h1 (by omega) (by decide) f, ints_frame h2 (by omega) f, trivial⟩, h.2.trans (f.below (Nat.le_refl _) h.2.size)⟩)
        ⟨⟨_, bO.alloc _, (oR.alloc _).alloc _, trivial⟩, hB3⟩
        (fun x => { tmps := #[.func (.func 19) #[] #[], .slice A k c, undef, undef, .slice none 0 0, .pointer (some ⟨w.heap.size, 0, none⟩), undef, u7, .pointer (some ⟨wo.heap.size + 1, 0, none⟩), undef, .int .i64 x.thing, .nilFunc, .bool true, .slice A k c, .int .i64 k, .int .i64 k, .bool false, u17, u18, u19, u20, u21, u22, u23, u24, .slice A k c, .int .i64 k, .slice (some ⟨wo.heap.size, 0, none⟩) 0 k, .func (.func 20) #[] #[.pointer (some ⟨wo.heap.size + 1 + 1, 0, none⟩)], .int .i64 x.key, .int .i64 x.thing, undef, undef, undef, undef, undef], defers := [] }) ?assign ?body ?done
      case assign =>
        intro l y W K hK
        gi_wp2
        exact hK
      case body =>
        rintro l pre y W ⟨⟨v, hv, hrow, _⟩, hB⟩ hlt
        have hc := hv.cell
        have hsw := hv.lt
        have hobj : ∀ j, v.ownBlock = some j → ∃ cs fr, (W.alloc (.cells #[.int .i64 y.thing] 3)).heap[j]? = some (.cells cs 3 fr) := fun j e => ints_obj (hrow.alloc _) e
        have HOBJ := Lib.hid hobj
        clear hobj
        gi_wp2_with (gi_at_builtin; refine wpListIn_append_own _ rfl _ _ 41 rfl (w.heap.size + 1) 3 i0 (.int .i64 0) 1 8 Try.underlying41 hi hz0 hz1 hz2 rfl (by decide) _ _ _ rfl (hrow.alloc _) ⟨W.heap.size, 0, none⟩ 1 1 [.int .i64 y.thing] rfl rfl (cell_one_new _ _ _) (by simp [Value.oneCell']) (by unfold maxLen; omega) (by omega) (by simp; omega) ?_; intro v' w1 hown' hgrow _; obtain ⟨g', cap', rfl⟩ := ownsRow_succ hown'; obtain ⟨hv1, hv2, hr2, hk2, hb2⟩ := hv.appended (by decide) hrow (by omega) (by omega) hown' hgrow; have hc1 := hv1.cell; have hf1 := hv1.frozen)
        refine ⟨hk2.from _, ?_, ⟨_, hv2, by simpa using hr2, trivial⟩, hB.trans (hb2.mono (by omega))⟩
        refine ((KeepQ.grown (World.grownBy_alloc W _ none) (fun j e => by cases e)).trans (KeepQ.grown hgrow (fun j e => ?_))).trans (KeepQ.grown (grownBy_setCell' w1 _ _) (fun j e => ?_))
        · obtain ⟨cs, fr, h⟩ := HOBJ.out j e
          refine ⟨_, h, ?_, ?_, ?_⟩ <;> intro cs fr e <;> injection e with _ e _ <;> exact absurd e (by decide)
        · cases e
          refine ⟨_, hv1, ?_, ?_, ?_⟩ <;> intro cs fr e <;> injection e with _ e _ <;> exact absurd e (by decide)
      case done =>
        rintro D' ys W hD rfl ⟨⟨v, hv, hrow, _⟩, hB⟩ hK
        have hc := hv.cell
        gi_wp2
        refine ⟨by simp, .inl ⟨_, _, rfl, run_takeDeferred hK, ?_⟩⟩
        have hfin := ownsRow_putObj hrow (.deferred none) hK rfl
        rw [outs_length] at hfin
        obtain ⟨A1, c1, rfl, hc1, hr1⟩ := Row.of_own hfin (outs_wf K k (by omega))
        exact ⟨_, results_tmp rfl _ _ _, A1, c1, rfl, hc1, hr1, hB.trans (belowK_b (w := w) (Nat.le_refl _) W D' _ _ (by simp at hD; omega) hK rfl rfl)⟩
end Go.Proofs.Ytlnljgfppipceab.Qu
