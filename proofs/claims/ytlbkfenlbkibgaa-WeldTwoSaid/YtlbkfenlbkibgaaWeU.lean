/- Rows of one-cell values: read, and appended to an own row; nothing of the program. -/
import Derived.Test.YtlbkfenlbkibgaaFlow
import Derived.Maps.AppendAt
import Derived.Test.YtlbkfenlbkibgaaWeM
import Derived.Test.YtlbkfenlbkibgaaMkOwn
set_option linter.unusedVariables false
namespace Go.Proofs.Ytlbkfenlbkibgaa.Mem
open Go.RowKit
def VRow (w : World) (A : Option Addr) (n : Nat) (us : List Value) : Prop := us.length = n ∧ (0 < n → ∃ b off, A = some ⟨b, off, none⟩ ∧ b < w.heap.size ∧ ∀ (j : Nat) (u : Value), us[j]? = some u → w.cell? ⟨b, off + j, none⟩ = some u)
theorem VRow.nil {w : World} {A : Option Addr} : VRow w A 0 [] := ⟨rfl, fun h => absurd h (by omega)⟩
theorem VRow.keep {w w' : World} {A : Option Addr} {n : Nat} {us : List Value} (h : VRow w A n us) (hs : w.heap.size ≤ w'.heap.size) (hk : ∀ b off, A = some ⟨b, off, none⟩ → w'.heap[b]? = w.heap[b]?) : VRow w' A n us :=
 ⟨h.1, fun hn => by
  obtain ⟨b, off, e, hb, hc⟩ := h.2 hn
  exact ⟨b, off, e, by omega, fun j u hu => by have := hc j u hu; simp only [World.cell?, hk b off e] at this ⊢; exact this⟩⟩
theorem VRow.below {w w' : World} {A : Option Addr} {n : Nat} {us : List Value} (h : VRow w A n us) (hb : Below w.heap.size w w') : VRow w' A n us :=
 ⟨h.1, fun hn => by
  obtain ⟨b, off, e, hl, hc⟩ := h.2 hn
  exact ⟨b, off, e, Nat.lt_of_lt_of_le hl hb.size, fun j u hu => by have := hc j u hu; simp only [World.cell?, hb.block b hl] at this ⊢; exact this⟩⟩
theorem own_form {w : World} {base n : Nat} {e : TypeId} {v : Value} {us : List Value} (h : w.ownsRow base e 1 v n us) : ∃ A c, v = .slice A n c ∧ n ≤ c ∧ VRow w A n us ∧ ∀ a, A = some a → a.spot = none ∧ a.off = 0 := by
 rcases h.2 with ⟨rfl, rfl⟩ | ⟨g, cap, cur, rfl, hb, hg, hnc, hcap, hsz, hcs⟩
 ·exact ⟨none, 0, rfl, Nat.le_refl _, by
   have : us = [] := List.eq_nil_of_length_eq_zero (by simpa using h.1)
   subst this; exact VRow.nil, fun a e => by cases e⟩
 ·refine ⟨some ⟨g, 0, none⟩, cap, rfl, hnc, ⟨by simpa using h.1, fun _ => ⟨g, 0, rfl, (Array.getElem?_eq_some_iff.1 hg).1, fun j u hu => ?_⟩⟩, fun a e => by injection e with e; subst e; exact ⟨rfl, rfl⟩⟩
  have hl : us.length = n := by simpa using h.1
  have hj : j < n := by rw [← hl]; exact (List.getElem?_eq_some_iff.1 hu).1
  have : cur[j]? = some u := by
   rw [← hu, ← hcs, List.getElem?_take_of_lt (by omega)]
   simp
  simp [World.cell?, hg, this]
theorem own_keep {w w' : World} {base n : Nat} {e : TypeId} {v : Value} {us : List Value} {t : Option Nat} (h : w.ownsRow base e 1 v n us) (hg : w.grownBy w' t) (ht : ∀ g, t = some g → blkOf v ≠ some g) : w'.ownsRow base e 1 v n us := by
 refine ⟨h.1, ?_⟩
 rcases h.2 with hn | ⟨g, cap, cur, rfl, hb, hc, r⟩
 ·exact .inl hn
 ·exact .inr ⟨g, cap, cur, rfl, hb, by rw [hg.block g (Array.getElem?_eq_some_iff.1 hc).1 (fun e => ht g e.symm rfl)]; exact hc, r⟩
theorem own_young {w : World} {base n : Nat} {e : TypeId} {v : Value} {us : List Value} (h : w.ownsRow base e 1 v n us) : ∀ g, blkOf v = some g → g < w.heap.size ∧ base ≤ g := by
 intro g hg
 rcases h.2 with ⟨rfl, _⟩ | ⟨g', cap, cur, rfl, hb, hc, _⟩
 ·cases hg
 ·injection hg with hg; subst hg; exact ⟨(Array.getElem?_eq_some_iff.1 hc).1, hb⟩
theorem grown_below {w w' : World} (hb : Below w.heap.size w w') : w.grownBy w' none := ⟨hb.os, hb.tape, hb.output, hb.size, fun k hk _ => hb.block k hk⟩
theorem below_grown {w w' : World} (h : w.grownBy w' none) : Below w.heap.size w w' := ⟨h.os, h.tape, h.output, h.size, fun k hk => h.block k hk (by simp)⟩
end Go.Proofs.Ytlbkfenlbkibgaa.Mem
namespace Go.Proofs.Ytlbkfenlbkibgaa.St
open Go.RowKit Mem Sm Tk Rt
structure RcOk (n0 : Nat) (W : World) (p : Ro.Pt) (t : Tr) : Prop where
 x : p.x = t.x
 l : TRow W p.A p.n t.L
 s : MkRow W p.B p.m t.S
 ta : 0 < p.n → ∀ b off, p.A = some ⟨b, off, none⟩ → b < n0 ∨ ∃ cs fr, W.heap[b]? = some (.cells cs 101 fr)
 tb : 0 < p.m → ∀ b off, p.B = some ⟨b, off, none⟩ → b < n0 ∨ ∃ cs fr, W.heap[b]? = some (.cells cs 99 fr)
theorem RcOk.below {n0 : Nat} {W W' : World} {p : Ro.Pt} {t : Tr} (h : RcOk n0 W p t) (hb : Below W.heap.size W W') : RcOk n0 W' p t := by
 refine ⟨h.x, h.l.below hb, h.s.below hb, fun hn b off e => ?_, fun hn b off e => ?_⟩
 ·rcases h.ta hn b off e with h1 | ⟨cs, fr, h1⟩
  ·exact .inl h1
  ·exact .inr ⟨cs, fr, by rw [hb.block b (Array.getElem?_eq_some_iff.1 h1).1]; exact h1⟩
 ·rcases h.tb hn b off e with h1 | ⟨cs, fr, h1⟩
  ·exact .inl h1
  ·exact .inr ⟨cs, fr, by rw [hb.block b (Array.getElem?_eq_some_iff.1 h1).1]; exact h1⟩
theorem RcOk.grown {n0 : Nat} {W W' : World} {p : Ro.Pt} {t : Tr} {q : Nat} {cs : Array Value} {fr : Nat × Nat} (h : RcOk n0 W p t) (hg : W.grownBy W' (some q)) (hq : W.heap[q]? = some (.cells cs 25 fr)) (hn0 : n0 ≤ q) : RcOk n0 W' p t := by
 have neA : ∀ b, (b < n0 ∨ ∃ cs fr, W.heap[b]? = some (.cells cs 101 fr)) → b ≠ q := fun b hb e => by
  rcases hb with h1 | ⟨cs', fr', h1⟩
  ·omega
  ·rw [e, hq] at h1
   injection h1 with h1
   injection h1 with _ e6 _
   exact absurd e6 (by decide)
 have neB : ∀ b, (b < n0 ∨ ∃ cs fr, W.heap[b]? = some (.cells cs 99 fr)) → b ≠ q := fun b hb e => by
  rcases hb with h1 | ⟨cs', fr', h1⟩
  ·omega
  ·rw [e, hq] at h1
   injection h1 with h1
   injection h1 with _ e6 _
   exact absurd e6 (by decide)
 have keepc : ∀ b, b < W.heap.size → b ≠ q → ∀ o, W'.cell? ⟨b, o, none⟩ = W.cell? ⟨b, o, none⟩ := fun b hl hne o => by
  unfold World.cell?
  simp only [hg.block b hl (fun e => hne (Option.some.inj e))]
 refine ⟨h.x, ⟨h.l.1, fun hn => ?_⟩, ⟨h.s.1, fun hn => ?_⟩, fun hn b off e => ?_, fun hn b off e => ?_⟩
 ·obtain ⟨b, off, e, hl, hc⟩ := h.l.2 hn
  exact ⟨b, off, e, Nat.lt_of_lt_of_le hl hg.size, fun j hj => (hc j hj).keep (keepc b hl (neA b (h.ta hn b off e)))⟩
 ·obtain ⟨b, off, e, hl, hc⟩ := h.s.2 hn
  exact ⟨b, off, e, Nat.lt_of_lt_of_le hl hg.size, fun j hj k v hv => (keepc b hl (neB b (h.tb hn b off e)) _).trans (hc j hj k v hv)⟩
 ·rcases h.ta hn b off e with h1 | ⟨cs', fr', h1⟩
  ·exact .inl h1
  ·exact .inr ⟨cs', fr', by rw [hg.block b (Array.getElem?_eq_some_iff.1 h1).1 (fun e2 => neA b (.inr ⟨cs', fr', h1⟩) (Option.some.inj e2))]; exact h1⟩
 ·rcases h.tb hn b off e with h1 | ⟨cs', fr', h1⟩
  ·exact .inl h1
  ·exact .inr ⟨cs', fr', by rw [hg.block b (Array.getElem?_eq_some_iff.1 h1).1 (fun e2 => neB b (.inr ⟨cs', fr', h1⟩) (Option.some.inj e2))]; exact h1⟩
theorem RcOk.of_in {w W : World} {p : Ro.Pt} {t : Tr} (hx : p.x = t.x) (h1 : TRow w p.A p.n t.L) (h2 : MkRow w p.B p.m t.S) (hb : Below w.heap.size w W) : RcOk w.heap.size W p t :=
 ⟨hx, h1.below hb, h2.below hb, fun hn b off e => by
  obtain ⟨b', off', e', hl, _⟩ := h1.2 hn
  rw [e] at e'; cases e'; exact .inl hl, fun hn b off e => by
  obtain ⟨b', off', e', hl, _⟩ := h2.2 hn
  rw [e] at e'; cases e'; exact .inl hl⟩
theorem RcOk.of_own {n0 : Nat} {W : World} {x : Sp} {A : Option Addr} {n c : Nat} {L : List Tk.Tk} (h : Tks n0 W (.slice A n c) L) (hn : L.length = n) : RcOk n0 W ⟨x, A, n, c, none, 0, 0⟩ ⟨x, L, []⟩ := by
 refine ⟨rfl, ?_, ⟨rfl, fun h => absurd h (by simp)⟩, fun hp b off e => ?_, fun h => absurd h (by simp)⟩
 ·obtain ⟨A', c', e, _, hr⟩ := h.row
  simp only [Value.slice.injEq] at e
  obtain ⟨rfl, rfl, _⟩ := e
  exact hr
 ·simp only at e
  subst e
  obtain ⟨_, _, cs, fr, h1⟩ := h.block b rfl
  exact .inr ⟨cs, fr, h1⟩
structure RInv (n0 : Nat) (W : World) (v : Value) (ps : List Ro.Pt) (acc : List Tr) : Prop where
 row : Ro.Pts n0 W v ps
 len : ps.length = acc.length
 ok : ∀ j (h : j < ps.length) (h' : j < acc.length), RcOk n0 W ps[j] acc[j]
theorem RInv.nil {n0 : Nat} {W : World} : RInv n0 W (.slice none 0 0) [] [] := ⟨Ro.Pts.nil, rfl, fun j h => by simp at h⟩
theorem RInv.below {n0 : Nat} {W W' : World} {v : Value} {ps : List Ro.Pt} {acc : List Tr} (h : RInv n0 W v ps acc) (hb : Below W.heap.size W W') : RInv n0 W' v ps acc :=
 ⟨h.row.belowAll hb, h.len, fun j a b => (h.ok j a b).below hb⟩
theorem RInv.more {n0 : Nat} {W W' : World} {v v' : Value} {qs ps : List Ro.Pt} {acc : List Tr} {p : Ro.Pt} {t : Tr} (hv : Ro.Pts n0 W v qs) (hlen : ps.length = acc.length) (hok : ∀ j (h : j < ps.length) (h' : j < acc.length), RcOk n0 W ps[j] acc[j]) (hp : RcOk n0 W p t) (hr : Ro.Pts n0 W' v' (ps ++ [p])) (hg : W.grownBy W' v.ownBlock) : RInv n0 W' v' (ps ++ [p]) (acc ++ [t]) := by
 have keep : ∀ p t, RcOk n0 W p t → RcOk n0 W' p t := fun p t hp => by
  cases ho : v.ownBlock with
  | none => rw [ho] at hg; exact hp.below (below_grown hg)
  | some q =>
   rw [ho] at hg
   obtain ⟨h1, _, cs, fr, e⟩ := hv.block q ho
   exact hp.grown hg e h1
 refine ⟨hr, by simp [hlen], fun j a b => ?_⟩
 by_cases hj : j < ps.length
 ·rw [List.getElem_append_left hj, List.getElem_append_left (by rw [← hlen]; exact hj)]
  exact keep _ _ (hok j hj (by rw [← hlen]; exact hj))
 ·have hje : j = ps.length := by simp at a; omega
  subst hje
  have e1 : (ps ++ [p])[ps.length] = p := by simp
  have e2 : (acc ++ [t])[ps.length]'b = t := by simp [hlen]
  rw [e1, e2]
  exact keep _ _ hp
theorem RInv.last {n0 : Nat} {W : World} {v : Value} {ps : List Ro.Pt} {acc : List Tr} {p : Ro.Pt} {t : Tr} (h : RInv n0 W v (ps ++ [p]) (acc ++ [t])) : RcOk n0 W p t ∧ ps.length = acc.length ∧ ∀ j (h : j < ps.length) (h' : j < acc.length), RcOk n0 W ps[j] acc[j] := by
 have hlen : ps.length = acc.length := by have := h.len; simpa using this
 have h1 := h.ok ps.length (by simp) (by simp [hlen])
 have e1 : (ps ++ [p])[ps.length]'(by simp) = p := by simp
 have e2 : (acc ++ [t])[ps.length]'(by simp [hlen]) = t := by simp [hlen]
 rw [e1, e2] at h1
 refine ⟨h1, hlen, fun j hj hj' => ?_⟩
 have := h.ok j (by simp; omega) (by simp; omega)
 rwa [List.getElem_append_left hj, List.getElem_append_left hj'] at this
theorem ready_app_ro {w : World} {ops : Array Oper} {o : Oper} {a : Act} {K : Act → World → Prop} {Q : Exit → Act → World → Prop} (hgd : o.guard = none) (s x : Operand)
  (ho : o.op = .call { callee := .builtin .append, args := #[s, x], argTypes := #[58, 58] })
  (base : Nat) (v : Value) (l : List Ro.Pt) (hs : a.eval s = v) (hown : Ro.Pts base w v l)
  (A : Option Addr) (m c : Nat) (y : List Ro.Pt) (hx : a.eval x = .slice A m c) (hr : Ro.PRow w A m y) (hbig : l.length + m ≤ 1000000000) (hbase : base ≤ w.heap.size)
  (h : ∀ v' w', Ro.Pts base w' v' (l ++ y) → w.grownBy w' v.ownBlock → (v'.ownBlock = v.ownBlock ∨ v'.ownBlock = some w.heap.size) → K (a.put o.dst v') w') :
  if Region.wanted o (yielded ops a.tmps) = true then Oper.wp Try.prog o a w K Q else K (a.put o.dst undef) w := by
 have hw : Region.wanted o (yielded ops a.tmps) = true := by simp [Region.wanted, hgd]
 obtain ⟨v', w', hrun, h2, h3, h4⟩ := Ro.run_app_pt o.type hown c hr hbig hbase
 rw [if_pos hw]
 unfold Oper.wp
 simp [execOp, ho, resolve, invoke, builtin, hs, hx, hrun, Result.andThen]
 exact h v' w' h2 h3 h4
end Go.Proofs.Ytlbkfenlbkibgaa.St
