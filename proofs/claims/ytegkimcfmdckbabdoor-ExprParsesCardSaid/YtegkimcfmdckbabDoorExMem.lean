/- Rows of parts in memory, five cells each, their kids a slice of their own; appended to. -/
import Derived.Test.YtegkimcfmdckbabDoorExCuts
namespace Go.Proofs.YtegkimcfmdckbabDoor.Ex
open Go.RowKit Mem Lx
set_option linter.unusedVariables false

theorem info_rpt : (Tryd.prog.info? 40).map (fun i => (i.zero, i.size, i.bytes)) = some (some (.agg #[.int .i64 0, .int .i64 0, .int .i64 0, .string ⟨#[]⟩, .slice none 0 0]), 5, 64) := by kernel_rfl
theorem info_pt : (Tryd.prog.info? 46).map (fun i => (i.zero, i.size, i.bytes)) = some (some (.agg #[.int .i64 0, .int .i64 0, .int .i64 0, .string ⟨#[]⟩, .slice none 0 0]), 5, 64) := by kernel_rfl
def pcells (p : Pt) (kv : Value) : List Value := [.int .i64 p.kind, .int .i64 p.low, .int .i64 p.high, .string ⟨p.name.toArray⟩, kv]
/-- kids in memory: nil, or a row of the call's own -/
def Kd (w : World) (B : Nat) (kv : Value) (ks : List Nat) : Prop := w.ownsRow B 3 1 kv ks.length ((pl ks).map (Value.int .i64))
/-- the cells of parts -/
def PVs (w : World) (B : Nat) : List Pt → List Value → Prop
  | [], vs => vs = []
  | p :: ps, vs => ∃ kv rest, vs = pcells p kv ++ rest ∧ Kd w B kv p.kids ∧ PVs w B ps rest
theorem Kd.nil (w : World) (B : Nat) : Kd w B (.slice none 0 0) [] := World.ownsRow_nil _ _ _ _
theorem Kd.kept {w w' : World} {B : Nat} {kv : Value} {ks : List Nat} {row : Option Nat} (h : Kd w B kv ks) (hg : w.grownBy w' row) (ht : ∀ g, row = some g → ∀ cur fr, w.heap[g]? ≠ some (.cells cur 3 fr)) : Kd w' B kv ks := by
  refine World.ownsRow.kept h hg ?_
  by_cases h0 : kv.ownBlock = none
  · exact .inl h0
  · refine .inr fun e => ?_
    rcases h.2 with ⟨rfl, _⟩ | ⟨g, cap, cur, rfl, _, hb, _⟩
    · exact h0 rfl
    · exact ht g e.symm _ _ hb
theorem PVs.kept {w w' : World} {B : Nat} {row : Option Nat} (hg : w.grownBy w' row) (ht : ∀ g, row = some g → ∀ cur fr, w.heap[g]? ≠ some (.cells cur 3 fr)) : ∀ {ps : List Pt} {vs : List Value}, PVs w B ps vs → PVs w' B ps vs
  | [], _, h => h
  | p :: ps, _, ⟨kv, rest, h1, h2, h3⟩ => ⟨kv, rest, h1, h2.kept hg ht, PVs.kept hg ht h3⟩
theorem PVs.more {w : World} {B : Nat} {p : Pt} {kv : Value} (hk : Kd w B kv p.kids) : ∀ {ps : List Pt} {vs : List Value}, PVs w B ps vs → PVs w B (ps ++ [p]) (vs ++ pcells p kv)
  | [], vs, h => by
    have h' : vs = [] := h
    subst h'
    exact ⟨kv, [], by simp, hk, rfl⟩
  | q :: ps, _, ⟨kv', rest, h1, h2, h3⟩ => ⟨kv', rest ++ pcells p kv, by rw [h1, List.append_assoc], h2, PVs.more hk h3⟩
theorem PVs.len {w : World} {B : Nat} : ∀ {ps : List Pt} {vs : List Value}, PVs w B ps vs → vs.length = ps.length * 5
  | [], vs, h => by
    have h' : vs = [] := h
    subst h'; rfl
  | q :: ps, _, ⟨kv', rest, h1, h2, h3⟩ => by
    have := PVs.len h3
    rw [h1]; simp [pcells, this]; omega
/-- the cells of one of them -/
theorem PVs.at_ {w : World} {B : Nat} : ∀ {ps : List Pt} {vs : List Value}, PVs w B ps vs → ∀ j (h : j < ps.length), ∃ kv, Kd w B kv ps[j].kids ∧ vs[j * 5]? = some (.int .i64 ps[j].kind) ∧ vs[j * 5 + 1]? = some (.int .i64 ps[j].low) ∧ vs[j * 5 + 2]? = some (.int .i64 ps[j].high) ∧ vs[j * 5 + 3]? = some (.string ⟨ps[j].name.toArray⟩) ∧ vs[j * 5 + 4]? = some kv
  | [], _, _, j, h => by simp at h
  | q :: ps, _, ⟨kv', rest, h1, h2, h3⟩, j, h => by
    subst h1
    cases j with
    | zero => exact ⟨kv', h2, rfl, rfl, rfl, rfl, rfl⟩
    | succ j =>
      obtain ⟨kv, g⟩ := PVs.at_ h3 j (by simpa using h)
      refine ⟨kv, ?_⟩
      rw [show (j + 1) * 5 = j * 5 + 1 + 1 + 1 + 1 + 1 from by omega]
      simpa [pcells] using g
section
variable {P : Program}
theorem run_app_pt {w : World} (base : Nat) (t ty e : TypeId) (i : TypeInfo) (z : Value) (ht : P.underlying t = some (.slice e)) (hi : P.info? e = some i) (hz : i.zero = some z) (hz1 : z.cells.size = 5)
    (hsize : i.size = 5) (hby : i.bytes = 64) {v : Value} {n : Nat} {vs : List Value} (hown : w.ownsRow base e 5 v n vs)
    (g c : Nat) (x : Pt) (kv : Value) (hkv : kv.oneCell' = true) (hc : ∀ j u, (pcells x kv)[j]? = some u → w.cell? ⟨g, j, none⟩ = some u) (hbig : n ≤ 1000000) (hbase : base ≤ w.heap.size) :
    ∃ v' w', (Builtin.append_ #[t, t] ty #[v, .slice (some ⟨g, 0, none⟩) 1 c]).run P w = .ok v' w' ∧ w'.ownsRow base e 5 v' (n + 1) (vs ++ pcells x kv) ∧ w.grownBy w' v.ownBlock ∧ (v'.ownBlock = v.ownBlock ∨ v'.ownBlock = some w.heap.size) := by
  obtain ⟨v', w', h1, h2, h3, _, h5⟩ := run_append_own_at (P := P) w base t ty e i z 5 64 ht hi hz hsize hby hz1 (by omega) v n vs hown ⟨g, 0, none⟩ 1 c (pcells x kv)
    (by simp [pcells]) (fun j u hu => by
      have hp : (⟨g, 0, none⟩ : Addr).add j = ⟨g, j, none⟩ := by unfold Addr.add; split <;> simp_all
      rw [hp]; exact hc j u hu) (by intro u hu; simp [pcells] at hu; rcases hu with rfl | rfl | rfl | rfl | rfl <;> first | rfl | exact hkv) (by simp only [maxLen]; omega) (by omega) hbase
  exact ⟨v', w', h1, h2, h3, h5⟩
/-- 'append(e, p)' in a walk -/
theorem wpList_app_pt {w : World} {ops : Array Oper} {rest : List Oper} {o : Oper} {a : Act} {Q : Exit → Act → World → Prop} (hgd : o.guard = none) (s x : Operand) (t : TypeId)
    (ho : o.op = .call { callee := .builtin .append, args := #[s, x], argTypes := #[t, t] })
    (base : Nat) (e : TypeId) (i : TypeInfo) (z : Value) (ht : P.underlying t = some (.slice e)) (hi : P.info? e = some i) (hz : i.zero = some z) (hz1 : z.cells.size = 5)
    (hsize : i.size = 5) (hby : i.bytes = 64) (v : Value) (n : Nat) (vs : List Value) (hs : a.eval s = v) (hown : w.ownsRow base e 5 v n vs)
    (g c : Nat) (y : Pt) (kv : Value) (hkv : kv.oneCell' = true) (hx : a.eval x = .slice (some ⟨g, 0, none⟩) 1 c) (hc : ∀ j u, (pcells y kv)[j]? = some u → w.cell? ⟨g, j, none⟩ = some u) (hbig : n ≤ 1000000) (hbase : base ≤ w.heap.size)
    (h : ∀ v' w', w'.ownsRow base e 5 v' (n + 1) (vs ++ pcells y kv) → w.grownBy w' v.ownBlock → (v'.ownBlock = v.ownBlock ∨ v'.ownBlock = some w.heap.size) → wpList P ops Q rest (a.put o.dst v') w') :
    wpList P ops Q (o :: rest) a w := by
  refine wpList_plain hgd fun K hK => ?_
  obtain ⟨v', w', hrun, h2, h3, h4⟩ := run_app_pt (P := P) base t o.type e i z ht hi hz hz1 hsize hby hown g c y kv hkv hc hbig hbase
  unfold Oper.wp
  simp [execOp, ho, resolve, invoke, builtin, hs, hx, hrun, Result.andThen]
  exact hK _ _ (h v' w' h2 h3 h4)
end
end Go.Proofs.YtegkimcfmdckbabDoor.Ex
