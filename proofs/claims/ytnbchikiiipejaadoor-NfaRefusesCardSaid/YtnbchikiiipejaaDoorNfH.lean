/- Nets: what is written out is well formed; appending a piece; the state of writing out. -/
import Derived.Test.YtnbchikiiipejaaDoorNfG
import Derived.Test.YtnbchikiiipejaaDoorNfCnt
namespace Go.Proofs.YtnbchikiiipejaaDoor.Nf
open Go.RowKit Mem
open Bg (Bag bagV Tab)
open Ex (Pt PI PR KR pl)
set_option linter.unusedVariables false

theorem join_ok {a b : Pc} (ha : a.ok) (hb : b.ok) : (join a b).ok := by
  constructor
  · show (if a.em = true then a.first.orB b.first else a.first).ok
    split
    · exact Bg.or_ok ha.1 hb.1
    · exact ha.1
  · show (if b.em = true then b.ends.orB a.ends else b.ends).ok
    split
    · exact Bg.or_ok hb.2 ha.2
    · exact hb.2
theorem emp_ok : emp.ok := ⟨Bg.nil_ok, Bg.nil_ok⟩
theorem line_okp (must : Int) : ∀ (i : Nat) (s : List Pc) (l : List En), (∀ p ∈ s, p.ok) → (∀ x ∈ l, x.ok) → (line must i s l).1.ok ∧ ∀ x ∈ (line must i s l).2, x.ok
  | _, [], l, _, h => ⟨emp_ok, h⟩
  | i, p :: t, l, hs, h => by
    obtain ⟨h1, h2⟩ := line_okp must (i + 1) t l (fun q hq => hs q (List.mem_cons_of_mem _ hq)) h
    have hp := hs p List.mem_cons_self
    have hj := join_ok hp h1
    exact ⟨⟨hj.1, hj.2⟩, leadL_ok h1.1 _ _ h2⟩
theorem several_ok {wr : Nat → List En → Pc × List En} : ∀ (ks : List Nat), (∀ k ∈ ks, ∀ l : List En, (∀ x ∈ l, x.ok) → (wr k l).1.ok ∧ ∀ x ∈ (wr k l).2, x.ok) → ∀ (acc : List Pc) (l : List En), (∀ p ∈ acc, p.ok) → (∀ x ∈ l, x.ok) →
    (∀ p ∈ (several wr ks acc l).1, p.ok) ∧ ∀ x ∈ (several wr ks acc l).2, x.ok
  | [], _, acc, l, ha, hl => ⟨ha, hl⟩
  | k :: ks, h, acc, l, ha, hl => by
    obtain ⟨h1, h2⟩ := h k List.mem_cons_self l hl
    refine several_ok ks (fun j hj => h j (List.mem_cons_of_mem _ hj)) _ _ ?_ h2
    intro p hp
    rcases List.mem_append.1 hp with hp | hp
    · exact ha p hp
    · simp only [List.mem_singleton] at hp; subst hp; exact h1
theorem write_ok {e : List Pt} {m : List UInt8 → Bag} (hm : ∀ p ∈ e, p.kind = 1 → (m p.name).ok) : ∀ f k (l : List En), (∀ x ∈ l, x.ok) → (write e m f k l).1.ok ∧ ∀ x ∈ (write e m f k l).2, x.ok
  | 0, _, l, hl => ⟨emp_ok, hl⟩
  | f + 1, k, l, hl => by
    cases hp : e[k]? with
    | none => simp only [write, hp]; exact ⟨emp_ok, hl⟩
    | some p =>
      simp only [write, hp]
      obtain ⟨h1, h2⟩ := several_ok (wr := write e m f) (kidsOf p) (fun j _ l hl => write_ok hm f j l hl) [] l (fun p hp => by simp at hp) hl
      generalize several (write e m f) (kidsOf p) [] l = s at h1 h2
      unfold close
      split
      · rename_i hk
        refine ⟨⟨Bg.withN_ok Bg.nil_ok _, Bg.withN_ok Bg.nil_ok _⟩, fun x hx => ?_⟩
        rcases List.mem_append.1 hx with hx | hx
        · exact h2 x hx
        · simp only [List.mem_singleton] at hx; subst hx
          exact ⟨hm p (List.mem_of_getElem? hp) hk, Bg.nil_ok⟩
      · split
        · exact line_okp _ _ _ _ h1 h2
        · split
          · exact ⟨either_ok _ h1, h2⟩
          · split
            · refine line_okp _ _ _ _ h1 (leadL_ok ?_ _ _ h2)
              cases hs : s.1 with
              | nil => exact Bg.nil_ok
              | cons a t => rw [List.getLastD_cons]; exact (h1 _ (by rw [hs]; exact List.getLastD_mem_cons)).1
            · exact line_okp _ _ _ _ h1 h2
/-- what a list of kids comes to, written behind l -/
abbrev sv (e : List Pt) (m : List UInt8 → Bag) (f : Nat) (pre : List Nat) (l : List En) : List Pc × List En := several (write e m f) pre [] l
theorem sv_snoc (e : List Pt) (m : List UInt8 → Bag) (f : Nat) (pre : List Nat) (k : Nat) (l : List En) : sv e m f (pre ++ [k]) l = ((sv e m f pre l).1 ++ [(write e m f k (sv e m f pre l).2).1], (write e m f k (sv e m f pre l).2).2) := by
  unfold sv; rw [several_append]; rfl
theorem sv_facts {e : List Pt} {m : List UInt8 → Bag} (hm : ∀ p ∈ e, p.kind = 1 → (m p.name).ok) (f : Nat) (pre : List Nat) (l : List En) (hl : ∀ x ∈ l, x.ok) (h : l.length + (pre.map (places e f)).sum ≤ 256) :
    (sv e m f pre l).2.length = l.length + (pre.map (places e f)).sum ∧ (sv e m f pre l).1.length = pre.length ∧ (∀ p ∈ (sv e m f pre l).1, p.within (sv e m f pre l).2.length) ∧ ∀ x ∈ (sv e m f pre l).2, x.ok := by
  obtain ⟨ps, ext, hx, hlen, hr, hw⟩ := several_adds (wr := write e m f) (c := places e f) pre (fun j _ => write_adds e m f j) l.length h
  have h1 := hw [] l rfl
  obtain ⟨g1, g2⟩ := several_ok (wr := write e m f) pre (fun j _ l hl => write_ok hm f j l hl) [] l (fun p hp => by simp at hp) hl
  unfold sv
  rw [h1] at g1 g2 ⊢
  refine ⟨by simp [hx], by simpa using hlen, fun p hp => ?_, g2⟩
  have := hr p (by simpa using hp)
  have h2 := g1 p hp
  exact ⟨⟨h2.1, fun j hj => by have := this.1 j hj; simp [hx]; omega⟩, ⟨h2.2, fun j hj => by have := this.2 j hj; simp [hx]; omega⟩⟩
theorem info_pc : (Tryd.prog.info? 51).map (fun i => (i.zero, i.size, i.bytes)) = some (some (.agg #[.bool false, .int .u64 0, .int .u64 0, .int .u64 0, .int .u64 0, .int .u64 0, .int .u64 0, .int .u64 0, .int .u64 0]), 9, 72) := by kernel_rfl
section
variable {P : Program}
/-- 'append(l, piece)' in a walk -/
theorem wpList_app_pc {w : World} {ops : Array Oper} {rest : List Oper} {o : Oper} {a : Act} {Q : Exit → Act → World → Prop} (hgd : o.guard = none) (s x : Operand) (t : TypeId)
    (ho : o.op = .call { callee := .builtin .append, args := #[s, x], argTypes := #[t, t] })
    (base : Nat) (e : TypeId) (i : TypeInfo) (z : Value) (ht : P.underlying t = some (.slice e)) (hi : P.info? e = some i) (hz : i.zero = some z) (hz1 : z.cells.size = 9)
    (hsize : i.size = 9) (hby : i.bytes = 72) (v : Value) (n : Nat) (vs : List Value) (hs : a.eval s = v) (hown : w.ownsRow base e 9 v n vs)
    (g c : Nat) (y : Pc) (hx : a.eval x = .slice (some ⟨g, 0, none⟩) 1 c) (hc : ∀ j u, (pccells y)[j]? = some u → w.cell? ⟨g, j, none⟩ = some u) (hbig : n ≤ 100000000) (hbase : base ≤ w.heap.size)
    (h : ∀ v' w', w'.ownsRow base e 9 v' (n + 1) (vs ++ pccells y) → w.grownBy w' v.ownBlock → (v'.ownBlock = v.ownBlock ∨ v'.ownBlock = some w.heap.size) → wpList P ops Q rest (a.put o.dst v') w') :
    wpList P ops Q (o :: rest) a w := by
  refine wpList_plain hgd fun K hK => ?_
  obtain ⟨v', w', hrun, h2, h3, _, h4⟩ := run_append_own_at (P := P) w base t o.type e i z 9 72 ht hi hz hsize hby hz1 (by omega) v n vs hown ⟨g, 0, none⟩ 1 c (pccells y)
    (by simp [pccells]) (fun j u hu => by
      have hp : (⟨g, 0, none⟩ : Addr).add j = ⟨g, j, none⟩ := by unfold Addr.add; split <;> simp_all
      rw [hp]; exact hc j u hu) (by intro u hu; simp [pccells] at hu; rcases hu with rfl | rfl | rfl | rfl | rfl | rfl | rfl | rfl | rfl <;> rfl) (by simp only [maxLen]; omega) (by omega) hbase
  unfold Oper.wp
  simp [execOp, ho, resolve, invoke, builtin, hs, hx, hrun, Result.andThen]
  exact hK _ _ (h v' w' h2 h3 h4)
end
theorem pc_cells (W : World) (y : Pc) : ∀ j u, (pccells y)[j]? = some u → (W.alloc (.cells #[.bool y.em, .int .u64 y.first.a, .int .u64 y.first.b, .int .u64 y.first.c, .int .u64 y.first.d, .int .u64 y.ends.a, .int .u64 y.ends.b, .int .u64 y.ends.c, .int .u64 y.ends.d] 51)).cell? ⟨W.heap.size, j, none⟩ = some u := by
  intro j u hu
  obtain ⟨c0, ⟨c1, c2, c3, c4⟩, c5, c6, c7, c8⟩ := (PAt.new W y).cell
  rcases j with _ | _ | _ | _ | _ | _ | _ | _ | _ | j
  all_goals first
    | (simp only [pccells, List.getElem?_cons_zero, List.getElem?_cons_succ, Option.some.injEq] at hu; subst hu; assumption)
    | (simp [pccells] at hu)
/-- a block of a copied part -/
def PtAt (W : World) (b : Nat) (p : PI) (kv : Value) : Prop := W.heap[b]? = some (.cells #[.int .i64 p.kind, .int .i64 p.low, .int .i64 p.high, .string ⟨p.name.toArray⟩, kv] 29 (0, 0))
theorem PtAt.frame {base N : Nat} {W W' : World} {g : Nat} {p : PI} {kv : Value} (h : PtAt W g p kv) (hf : NFrame base N W W') (hg : g ≠ N) : PtAt W' g p kv :=
  hf.other g _ h hg (fun cs fr e => by injection e with _ e _; exact absurd e (by decide))
theorem PtAt.cell {W : World} {g : Nat} {p : PI} {kv : Value} (h : PtAt W g p kv) : W.cell? ⟨g, 0, none⟩ = some (.int .i64 p.kind) ∧ W.cell? ⟨g, 1, none⟩ = some (.int .i64 p.low) ∧ W.cell? ⟨g, 2, none⟩ = some (.int .i64 p.high) ∧ W.cell? ⟨g, 3, none⟩ = some (.string ⟨p.name.toArray⟩) ∧ W.cell? ⟨g, 4, none⟩ = some kv := by
  unfold PtAt at h
  refine ⟨?_, ?_, ?_, ?_, ?_⟩
  all_goals simp [World.cell?, h]
theorem PtAt.kept {W W' : World} {g : Nat} {p : PI} {kv : Value} {row : Option Nat} (h : PtAt W g p kv) (hg : W.grownBy W' row) (hne : some g ≠ row) : PtAt W' g p kv := by
  unfold PtAt; rw [hg.block g (lt_of_some h) (fun e => hne e)]; exact h
theorem PtAt.below {W W' : World} {g n : Nat} {p : PI} {kv : Value} (h : PtAt W g p kv) (hb : Below n W W') (hg : g < n) : PtAt W' g p kv := by
  unfold PtAt; rw [hb.block g hg]; exact h
theorem PtAt.lt {W : World} {g : Nat} {p : PI} {kv : Value} (h : PtAt W g p kv) : g < W.heap.size := lt_of_some h
theorem Pcs.keptP {base : Nat} {W W' : World} {v : Value} {s : List Pc} {row : Option Nat} (h : Pcs base W v s) (hg : W.grownBy W' row) (hne : row = none ∨ row ≠ v.ownBlock) : Pcs base W' v s := by
  refine World.ownsRow.kept h hg ?_
  rcases h.2 with ⟨rfl, _⟩ | ⟨g, cap, cur, rfl, _, hgb, _⟩
  · exact .inl rfl
  · refine .inr fun e' => ?_
    rcases hne with rfl | hne
    · simp [Value.ownBlock] at e'
    · exact hne e'.symm
theorem NS.keptP {base bp N : Nat} {W W' : World} {l : List En} {p : Pc} {v : Value} {s : List Pc} (h : NS base N W l p) (hp : Pcs bp W v s) (hg : W.grownBy W' v.ownBlock) : NS base N W' l p := by
  obtain ⟨u, h1, h2, h3⟩ := h
  refine ⟨u, h1.kept hg (fun e => hp.notN h1 N e.symm rfl), World.ownsRow.kept h2 hg ?_, h3⟩
  rcases h2.2 with ⟨rfl, _⟩ | ⟨g, cap, cur, rfl, _, hgb, _⟩
  · exact .inl rfl
  · refine .inr fun e' => ?_
    obtain ⟨_, _, cs, fr, hh⟩ := hp.block g (by simpa [Value.ownBlock] using e'.symm)
    rw [hgb] at hh
    injection hh with hh
    injection hh with _ e _; exact absurd e (by decide)
theorem Pcs.notB {bp : Nat} {W : World} {v : Value} {s : List Pc} (hp : Pcs bp W v s) {b : Nat} (hb : b < bp) : some b ≠ v.ownBlock := by
  intro e
  have := (hp.block b e.symm).1
  omega
end Go.Proofs.YtnbchikiiipejaaDoor.Nf
