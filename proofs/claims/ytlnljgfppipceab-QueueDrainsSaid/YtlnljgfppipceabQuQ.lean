/- For the law QueueDrains: what holds while the keys are put in. -/
import Derived.Test.YtlnljgfppipceabQuP
namespace Go.Proofs.Ytlnljgfppipceab.Qu
open Go.RowKit Go.Shelf Mem
set_option linter.unusedVariables false

theorem ints_below {base k : Nat} {W W' : World} {v : Value} {xs : List Value} (l : W.ownsRow base 3 1 v k xs) (hb : Below W.heap.size W W') : W'.ownsRow base 3 1 v k xs := by
  refine ⟨l.1, ?_⟩
  rcases l.2 with hn | ⟨b, cap, cur, hv, h1, h2, r⟩
  · exact .inl hn
  · exact .inr ⟨b, cap, cur, hv, h1, (hb.block b (lt_of_some h2)).trans h2, r⟩
theorem rows_ne {b1 b2 k : Nat} {W : World} {v u : Value} {xs : List Value} {g : List It} (l : W.ownsRow b1 3 1 v k xs) (x : POwn b2 W u g) : v.ownBlock = none ∨ v.ownBlock ≠ u.ownBlock := by
  rcases x.2 with ⟨hv, _⟩ | ⟨b, cap, cur, hv, _, hb, _⟩
  · rcases l.2 with ⟨hv2, _⟩ | ⟨b', cap', cur', hv2, _⟩
    · subst hv2; exact .inl rfl
    · subst hv; subst hv2; exact .inr (by simp [Value.ownBlock])
  · refine .inr fun e => ?_
    obtain ⟨cs, fr, h⟩ := ints_obj l (e.trans (by rw [hv]; rfl))
    rw [hb] at h
    injection h with h
    injection h with _ h _
    exact absurd h (by decide)
/-- jq keys put in, jx listed, jp places laid -/
structure Md (w : World) (A : Option Addr) (n c : Nat) (mo : Int) (K : Nat → Int) (vl vp : Value) (jq jx jp : Nat) (W : World) : Prop where
  kx : Boxed W w.heap.size 41 (.slice A n c)
  mx : Boxed W (w.heap.size + 1) 5 (.int .u8 mo)
  q : G w.heap.size W (w.heap.size + 1 + 1) (its K jq) jq
  x : POwn (w.heap.size + 3) W vl (its K jx)
  p : W.ownsRow (w.heap.size + 3) 3 1 vp jp ((places jp).map (Value.int .i64))
  bel : Below w.heap.size w W
  sz : w.heap.size + 3 ≤ W.heap.size
section
variable {w W W' : World} {A : Option Addr} {n c : Nat} {mo : Int} {K : Nat → Int} {vl vp vl' vp' : Value} {jq jx jp jq' jx' jp' : Nat}
theorem Md.put (h : Md w A n c mo K vl vp jq jx jp W) (g : G w.heap.size W' (w.heap.size + 1 + 1) (its K jq') jq') (f : QFrame w.heap.size (w.heap.size + 1 + 1) W W') : Md w A n c mo K vl vp jq' jx jp W' :=
  ⟨boxed_frame h.kx (by omega) (by decide) f, boxed_frame h.mx (by omega) (by decide) f, g, h.x.frame (h.x.above (by omega)) f, ints_frame h.p (by omega) f, h.bel.trans (f.below (Nat.le_refl _) h.bel.size), Nat.le_trans h.sz f.size⟩
theorem Md.step (h : Md w A n c mo K vl vp jq jx jp W) (hb : Below W.heap.size W W') : Md w A n c mo K vl vp jq jx jp W' :=
  ⟨(hb.block _ h.kx.lt).trans h.kx, (hb.block _ h.mx.lt).trans h.mx, h.q.below hb, h.x.below hb, ints_below h.p hb, h.bel.trans (hb.mono h.bel.size), Nat.le_trans h.sz hb.size⟩
theorem Md.appX (h : Md w A n c mo K vl vp jq jx jp W) (hg : W.grownBy W' vl.ownBlock) (x' : POwn (w.heap.size + 3) W' vl' (its K jx')) : Md w A n c mo K vl' vp jq jx' jp W' :=
  ⟨h.kx.kept hg (h.kx.not_row (by decide) h.x), h.mx.kept hg (h.mx.not_row (by decide) h.x), h.q.grown h.x (h.x.above (by omega)) hg, x', World.ownsRow.kept h.p hg (rows_ne h.p h.x),
    h.bel.grown hg h.bel.size (fun k hk => by have := (World.ownsRow.lt h.x k hk).1; omega), Nat.le_trans h.sz hg.size⟩
theorem Md.appP (h : Md w A n c mo K vl vp jq jx jp W) (hg : W.grownBy W' vp.ownBlock) (p' : W'.ownsRow (w.heap.size + 3) 3 1 vp' jp' ((places jp').map (Value.int .i64))) : Md w A n c mo K vl vp' jq jx jp' W' :=
  ⟨h.kx.kept hg (h.kx.not_row (by decide) h.p), h.mx.kept hg (h.mx.not_row (by decide) h.p), h.q.kept hg (fun j e => by
      obtain ⟨cs, fr, ho⟩ := ints_obj h.p e
      refine ⟨_, ho, ?_, ?_⟩ <;> intro cs fr e <;> injection e with _ e _ <;> exact absurd e (by decide)),
    World.ownsRow.kept h.x hg (by
      rcases rows_ne h.p h.x with e | e
      · rcases h.x.2 with ⟨hv, _⟩ | ⟨b, cap, cur, hv, _⟩
        · subst hv; exact .inl rfl
        · subst hv; exact .inr (by rw [e]; simp [Value.ownBlock])
      · exact .inr (Ne.symm e)), p',
    h.bel.grown hg h.bel.size (fun k hk => by have := (World.ownsRow.lt h.p k hk).1; omega), Nat.le_trans h.sz hg.size⟩
end
theorem places_succ (n : Nat) : places (n + 1) = places n ++ [(n : Int)] := by unfold places; rw [List.range_succ, List.map_append]; rfl
theorem places_wf (n : Nat) (hn : n ≤ 300) : ∀ z ∈ places n, (Lit.int .i64 z).wf = true := by
  intro z hz
  obtain ⟨k, hk, rfl⟩ := List.mem_map.1 hz
  have := List.mem_range.1 hk
  exact WalkArith.wf_i64 (by omega)

set_option maxRecDepth 100000 in
set_option maxHeartbeats 1000000 in
theorem rsorted_nil (w : World) : Calls Try.prog 12 #[.slice none 0 0] w fun e w' => e = .returned (.slice none 0 0) ∧ Below w.heap.size w w' := by
  have HB : Hid (Below w.heap.size w (w.alloc (.cells #[] 37))) := (Below.refl _ w).alloc (Nat.le_refl _) _
  have happ : ∀ W : World, (Builtin.append_ #[33, 33] 33 #[.slice (some ⟨w.heap.size, 0, none⟩) 0 0, .slice none 0 0]).run Try.prog W = .ok (.slice (some ⟨w.heap.size, 0, none⟩) 0 0) W := fun W => by
    obtain ⟨i, hi, hz, hs1, hs2⟩ := info_parts info_one
    simp [Builtin.append_, run_underlying Try.underlying33, sizeOf, typeInfo, hi, Builtin.lenOf, Builtin.firstCells, storeCells]
  go_enter Try.func12, Try.ntmps12
  go_wp2
  refine wp_loop_rounds 1 ?_
  rw [rounds_succ]; go_wp2
  go_ret
  exact ⟨rfl, HB.out⟩
end Go.Proofs.Ytlnljgfppipceab.Qu
