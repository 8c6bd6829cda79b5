/- Rows of parts in memory, five cells each, their kids a slice of their own; appended to. -/
import Derived.Test.YtnbchikiiipejaaGreatDoorExPl
import Derived.Test.YtnbchikiiipejaaGreatDoorLxI
set_option linter.unusedVariables false
namespace Go.Proofs.YtnbchikiiipejaaGreatDoor.Ex
open Go.RowKit Mem Lx
theorem info_rpt : (Tryz.prog.info? 124).map (fun i => (i.zero, i.size, i.bytes)) = some (some (.agg #[.int .i64 0, .int .i64 0, .int .i64 0, .string ⟨#[]⟩, .slice none 0 0]), 5, 64) := by kernel_rfl
theorem info_pt : (Tryz.prog.info? 217).map (fun i => (i.zero, i.size, i.bytes)) = some (some (.agg #[.int .i64 0, .int .i64 0, .int .i64 0, .string ⟨#[]⟩, .slice none 0 0]), 5, 64) := by kernel_rfl
def pcells (p : Pt) (kv : Value) : List Value := [.int .i64 p.kind, .int .i64 p.low, .int .i64 p.high, .string ⟨p.name.toArray⟩, kv]
def Kd (w : World) (B : Nat) (kv : Value) (ks : List Nat) : Prop := w.ownsRow B 3 1 kv ks.length ((pl ks).map (Value.int .i64))
def PVs (w : World) (B : Nat) : List Pt → List Value → Prop
 | [], vs => vs = []
 | p :: ps, vs => ∃ kv rest, vs = pcells p kv ++ rest ∧ Kd w B kv p.kids ∧ PVs w B ps rest
theorem Kd.nil (w : World) (B : Nat) : Kd w B (.slice none 0 0) [] := World.ownsRow_nil _ _ _ _
theorem Kd.kept {w w' : World} {B : Nat} {kv : Value} {ks : List Nat} {row : Option Nat} (h : Kd w B kv ks) (hg : w.grownBy w' row) (ht : ∀ g, row = some g → ∀ cur fr, w.heap[g]? ≠ some (.cells cur 3 fr)) : Kd w' B kv ks := by
 refine World.ownsRow.kept h hg ?_
 by_cases h0 : kv.ownBlock = none
 ·exact .inl h0
 ·refine .inr fun e => ?_
  rcases h.2 with ⟨rfl, _⟩ | ⟨g, cap, cur, rfl, _, hb, _⟩
  ·exact h0 rfl
  ·exact ht g e.symm _ _ hb
theorem PVs.kept {w w' : World} {B : Nat} {row : Option Nat} (hg : w.grownBy w' row) (ht : ∀ g, row = some g → ∀ cur fr, w.heap[g]? ≠ some (.cells cur 3 fr)) : ∀ {ps : List Pt} {vs : List Value}, PVs w B ps vs → PVs w' B ps vs
 | [], _, h => h
 | p :: ps, _, ⟨kv, rest, h1, h2, h3⟩ => ⟨kv, rest, h1, h2.kept hg ht, PVs.kept hg ht h3⟩
theorem PVs.more {w : World} {B : Nat} {p : Pt} {kv : Value} (hk : Kd w B kv p.kids) : ∀ {ps : List Pt} {vs : List Value}, PVs w B ps vs → PVs w B (ps ++ [p]) (vs ++ pcells p kv)
 | [], vs, h => by
  have h' : vs = [] := h
  subst h'
  exact ⟨kv, [], by simp, hk, rfl⟩
 | q :: ps, _, ⟨kv', rest, h1, h2, h3⟩ => ⟨kv', rest ++ pcells p kv, by rw [h1, List.append_assoc], h2, PVs.more hk h3⟩
section
variable {P : Program}
theorem run_app_pt {w : World} (base : Nat) (t ty e : TypeId) (i : TypeInfo) (z : Value) (ht : P.underlying t = some (.slice e)) (hi : P.info? e = some i) (hz : i.zero = some z) (hz1 : z.cells.size = 5)
  (hsize : i.size = 5) (hby : i.bytes = 64) {v : Value} {n : Nat} {vs : List Value} (hown : w.ownsRow base e 5 v n vs)
  (g c : Nat) (x : Pt) (kv : Value) (hkv : kv.oneCell' = true) (hc : ∀ j u, (pcells x kv)[j]? = some u → w.cell? ⟨g, j, none⟩ = some u) (hbig : n ≤ 1000000) (hbase : base ≤ w.heap.size) :
  ∃ v' w', (Builtin.append_ #[t, t] ty #[v, .slice (some ⟨g, 0, none⟩) 1 c]).run P w = .ok v' w' ∧ w'.ownsRow base e 5 v' (n + 1) (vs ++ pcells x kv) ∧ w.grownBy w' v.ownBlock ∧ (v'.ownBlock = v.ownBlock ∨ v'.ownBlock = some w.heap.size) := by
 obtain ⟨v', w', h1, h2, h3, _, h5⟩ := run_append_own_at (P := P) w base t ty e i z 5 64 ht hi hz hsize hby hz1 (by omega) v n vs hown ⟨g, 0, none⟩ 1 c (pcells x kv)
  (by simp [pcells]) (fun j u hu => by
    have hp : (⟨g, 0, none⟩ : Addr).add j = ⟨g, j, none⟩ := by unfold Addr.add; split <;> simp_all
    rw [hp]; exact hc j u hu) (by intro u hu; simp [pcells] at hu; rcases hu with rfl | rfl | rfl | rfl | rfl <;> first | rfl | exact hkv) (by simp only [maxLen]; omega) (by omega) hbase
 exact ⟨v', w', h1, h2, h3, h5⟩
theorem wpList_app_pt {w : World} {ops : Array Oper} {rest : List Oper} {o : Oper} {a : Act} {Q : Exit → Act → World → Prop} (hgd : o.guard = none) (s x : Operand) (t : TypeId)
  (ho : o.op = .call { callee := .builtin .append, args := #[s, x], argTypes := #[t, t] })
  (base : Nat) (e : TypeId) (i : TypeInfo) (z : Value) (ht : P.underlying t = some (.slice e)) (hi : P.info? e = some i) (hz : i.zero = some z) (hz1 : z.cells.size = 5)
  (hsize : i.size = 5) (hby : i.bytes = 64) (v : Value) (n : Nat) (vs : List Value) (hs : a.eval s = v) (hown : w.ownsRow base e 5 v n vs)
  (g c : Nat) (y : Pt) (kv : Value) (hkv : kv.oneCell' = true) (hx : a.eval x = .slice (some ⟨g, 0, none⟩) 1 c) (hc : ∀ j u, (pcells y kv)[j]? = some u → w.cell? ⟨g, j, none⟩ = some u) (hbig : n ≤ 1000000) (hbase : base ≤ w.heap.size)
  (h : ∀ v' w', w'.ownsRow base e 5 v' (n + 1) (vs ++ pcells y kv) → w.grownBy w' v.ownBlock → (v'.ownBlock = v.ownBlock ∨ v'.ownBlock = some w.heap.size) → wpList P ops Q rest (a.put o.dst v') w') :
  wpList P ops Q (o :: rest) a w := by
 refine wpList_plain hgd fun K hK => ?_
 obtain ⟨v', w', hrun, h2, h3, h4⟩ := run_app_pt (P := P) base t o.type e i z ht hi hz hz1 hsize hby hown g c y kv hkv hc hbig hbase
 unfold Oper.wp
 simp [execOp, ho, resolve, invoke, builtin, hs, hx, hrun, Result.andThen]
 exact hK _ _ (h v' w' h2 h3 h4)
end
end Go.Proofs.YtnbchikiiipejaaGreatDoor.Ex
namespace Go.Proofs.YtnbchikiiipejaaGreatDoor.Ex
open Go.RowKit Mem Lx
structure PI where
 kind : Int
 low : Int
 high : Int
 name : List UInt8
 kids : List Int
deriving DecidableEq
def Pt.toI (p : Pt) : PI := ⟨p.kind, p.low, p.high, p.name, pl p.kids⟩
def icells (p : PI) (kv : Value) : List Value := [.int .i64 p.kind, .int .i64 p.low, .int .i64 p.high, .string ⟨p.name.toArray⟩, kv]
def KR (w : World) (kv : Value) (ks : List Int) : Prop := ∃ A c, kv = .slice A ks.length c ∧ ks.length ≤ c ∧ Row .i64 w A ks.length ks
def PW (w : World) : List PI → List Value → Prop
 | [], vs => vs = []
 | p :: ps, vs => ∃ kv rest, vs = icells p kv ++ rest ∧ KR w kv p.kids ∧ PW w ps rest
theorem KR.below {w w' : World} {kv : Value} {ks : List Int} (h : KR w kv ks) (hb : Below w.heap.size w w') : KR w' kv ks := by
 obtain ⟨A, c, h1, h2, h3⟩ := h
 exact ⟨A, c, h1, h2, h3.below hb⟩
theorem PW.at_ {w : World} : ∀ {ps : List PI} {vs : List Value}, PW w ps vs → ∀ j (h : j < ps.length), ∃ kv, KR w kv ps[j].kids ∧ vs[j * 5]? = some (.int .i64 ps[j].kind) ∧ vs[j * 5 + 1]? = some (.int .i64 ps[j].low) ∧ vs[j * 5 + 2]? = some (.int .i64 ps[j].high) ∧ vs[j * 5 + 3]? = some (.string ⟨ps[j].name.toArray⟩) ∧ vs[j * 5 + 4]? = some kv
 | [], _, _, j, h => by simp at h
 | q :: ps, _, ⟨kv', rest, h1, h2, h3⟩, j, h => by
  subst h1
  cases j with
  | zero => exact ⟨kv', h2, rfl, rfl, rfl, rfl, rfl⟩
  | succ j =>
   obtain ⟨kv, g⟩ := PW.at_ h3 j (by simpa using h)
   refine ⟨kv, ?_⟩
   rw [show (j + 1) * 5 = j * 5 + 1 + 1 + 1 + 1 + 1 from by omega]
   simpa [icells] using g
theorem wf_pl {ks : List Nat} (h : ∀ k ∈ ks, k < 1000000) : ∀ z ∈ pl ks, (Lit.int .i64 z).wf = true := by
 intro z hz
 obtain ⟨k, hk, rfl⟩ := List.mem_map.1 hz
 have := h k hk
 exact WalkArith.wf_i64 (by omega)
theorem Kd.kr {w : World} {B : Nat} {kv : Value} {ks : List Nat} (h : Kd w B kv ks) (hs : ∀ k ∈ ks, k < 1000000) : KR w kv (pl ks) := by
 obtain ⟨A, c, h1, h2, h3⟩ := Row.of_own h (wf_pl hs)
 rw [← pl_len ks] at h1 h2 h3
 exact ⟨A, c, h1, h2, h3⟩
theorem PVs.pw {w : World} {B : Nat} : ∀ {ps : List Pt} {vs : List Value}, PVs w B ps vs → (∀ p ∈ ps, ∀ k ∈ p.kids, k < 1000000) → PW w (ps.map Pt.toI) vs
 | [], _, h, _ => h
 | p :: ps, _, ⟨kv, rest, e, h1, h2⟩, hs => ⟨kv, rest, e, h1.kr (hs p (by simp)), PVs.pw h2 (fun q hq => hs q (by simp [hq]))⟩
def PR (w : World) (A : Option Addr) (n : Nat) (e : List PI) : Prop :=
 e.length = n ∧ (0 < n → ∃ b off, A = some ⟨b, off, none⟩ ∧ b < w.heap.size ∧ ∀ j (h : j < e.length), w.cell? ⟨b, off + j * 5, none⟩ = some (.int .i64 e[j].kind) ∧ w.cell? ⟨b, off + j * 5 + 1, none⟩ = some (.int .i64 e[j].low) ∧ w.cell? ⟨b, off + j * 5 + 2, none⟩ = some (.int .i64 e[j].high) ∧ w.cell? ⟨b, off + j * 5 + 3, none⟩ = some (.string ⟨e[j].name.toArray⟩) ∧ ∃ kv, w.cell? ⟨b, off + j * 5 + 4, none⟩ = some kv ∧ KR w kv e[j].kids)
theorem PR.below {w w' : World} {A : Option Addr} {n : Nat} {e : List PI} (h : PR w A n e) (hb : Below w.heap.size w w') : PR w' A n e :=
 ⟨h.1, fun hn => by
  obtain ⟨b, off, e1, hl, hc⟩ := h.2 hn
  refine ⟨b, off, e1, Nat.lt_of_lt_of_le hl hb.size, fun j hj => ?_⟩
  obtain ⟨a0, a1, a2, a3, kv, a4, a5⟩ := hc j hj
  have k := fun o => hb.cell (p := ⟨b, o, none⟩) hl
  exact ⟨(k _).trans a0, (k _).trans a1, (k _).trans a2, (k _).trans a3, kv, (k _).trans a4, a5.below hb⟩⟩
theorem PR.of_own {w : World} {base : Nat} {e : TypeId} {v : Value} {ps : List PI} {vs : List Value} (h : w.ownsRow base e 5 v ps.length vs) (hp : PW w ps vs) :
  ∃ A c, v = .slice A ps.length c ∧ ps.length ≤ c ∧ PR w A ps.length ps := by
 rcases h.2 with ⟨rfl, h0⟩ | ⟨g, cap, cur, rfl, hb, hg, hnc, hm, hs, ht⟩
 ·exact ⟨none, 0, by rw [h0], by omega, rfl, fun hn => by omega⟩
 ·have hgl : g < w.heap.size := (Array.getElem?_eq_some_iff.1 hg).1
  refine ⟨_, cap, rfl, hnc, rfl, fun hn => ⟨g, 0, rfl, hgl, fun j hj => ?_⟩⟩
  have hcell := fun i v hv => h.cells (g := g) rfl i v hv
  have hpp : ∀ o, (⟨g, 0, none⟩ : Addr).add o = ⟨g, 0 + o, none⟩ := fun o => by unfold Addr.add; split <;> simp_all
  obtain ⟨kv, hk, a0, a1, a2, a3, a4⟩ := hp.at_ j hj
  have b0 := hcell _ _ a0
  have b1 := hcell _ _ a1
  have b2 := hcell _ _ a2
  have b3 := hcell _ _ a3
  have b4 := hcell _ _ a4
  rw [hpp] at b0 b1 b2 b3 b4
  exact ⟨b0, b1, b2, b3, kv, b4, hk⟩
theorem drawn_refl (w : World) : Drawn w w := ⟨0, rfl⟩
theorem drawn_below {w w' : World} (h : Drawn w w') : Below w.heap.size w w' := by obtain ⟨n, rfl⟩ := h; exact below_drewN (Below.refl _ _) n
end Go.Proofs.YtnbchikiiipejaaGreatDoor.Ex
