/- Walks of the lexer: Lex, what it answers. -/
import Derived.Test.YtnbchikiiipejaaGreatDoorLxH
import Derived.Test.YtnbchikiiipejaaGreatDoorExPl
import Derived.Test.YtnbchikiiipejaaGreatDoorLxE
set_option linter.unusedVariables false
set_option maxRecDepth 100000
set_option maxHeartbeats 4000000
namespace Go.Proofs.YtnbchikiiipejaaGreatDoor.Lx
open Go.RowKit Mem
abbrev sg0V (x : Sg) : Value := .agg #[.int .i64 x.kind, .int .i64 0, .int .i64 x.low, .int .i64 x.high, .string ⟨x.name.toArray⟩]
theorem read_name (b : Nat) (s : ByteArray) (k : Nat) (w : World) (r : Rd w b s k) (hk : k < s.size) (hs : s.size ≤ 100000) (hc : smB s[k] = true) :
  Calls Tryz.prog 210 #[.pointer (some ⟨b, 0, none⟩)] w (After b s w sg0V (one s[k] (s.data.toList.drop (k + 1)) k)) := by
 have e : one s[k] (s.data.toList.drop (k + 1)) k = if run inB (s.data.toList.drop k) ≤ 12 then .ok ⟨1, k, 0, 0, (s.data.toList.drop k).take (run inB (s.data.toList.drop k))⟩ (k + run inB (s.data.toList.drop k)) else .bad (k + 12) 2 := by
  rw [one, if_pos hc, ← drop_cons s k hk]
 rw [e]
 by_cases h : run inB (s.data.toList.drop k) ≤ 12
 ·rw [if_pos h]
  refine (name_any b s k _ w r hk hs rfl h).mono fun e w' ⟨he, h1, h2⟩ => ⟨?_, h1, h2⟩
  rw [he, extract_list s k _ (run_max inB s k (by omega))]
 ·rw [if_neg h]
  exact name_bad b s k _ w r hk hs rfl (by omega)
theorem read_braces (b : Nat) (s : ByteArray) (k : Nat) (w : World) (r : Rd w b s k) (hk : k < s.size) (hs : s.size ≤ 100000) (hc : smB s[k] = false) (h3 : s[k].toNat = 123) :
  Calls Tryz.prog 211 #[.pointer (some ⟨b, 0, none⟩)] w (After b s w sg0V (one s[k] (s.data.toList.drop (k + 1)) k)) := by
 refine (braces_any b s k w r hk hs).mono fun e w' h => ?_
 rw [one, hc, if_neg (by decide), if_pos h3]
 cases hr : cnt (s.data.toList.drop (k + 1)) (k + 1) with
 | bad p c => rw [hr] at h; exact h
 | ok p to => obtain ⟨low, high⟩ := p; rw [hr] at h; exact h
theorem read_short (b : Nat) (s : ByteArray) (k : Nat) (w : World) (r : Rd w b s k) (hk : k < s.size) (hs : s.size ≤ 100000) (H : Held w) (hgb : 1 ≠ b) (hc : smB s[k] = false) (h3 : s[k].toNat ≠ 123) {kd lo hi : Int} (hsn : single s[k] = some (kd, lo, hi)) :
  Calls Tryz.prog 213 #[.pointer (some ⟨b, 0, none⟩)] w (After b s w sg0V (one s[k] (s.data.toList.drop (k + 1)) k)) := by
 obtain ⟨q, hq, hch, hl, _, _⟩ := chr_single s[k] kd lo hi hsn
 refine (short_any b s k w r hk hs H hgb q hq hch kd lo hi hl).mono fun e w' h => ?_
 rw [one, hc, if_neg (by decide), if_neg h3, hsn]
 exact h
theorem from_skip (s : ByteArray) (acc : List Sg) : ∀ (n k : Nat), n = run blkB (s.data.toList.drop k) → From (s.data.toList.drop k) k acc = From (s.data.toList.drop (k + n)) (k + n) acc
 | 0, k, _ => rfl
 | n + 1, k, h => by
  by_cases hk : k < s.size
  ·cases hb : blkB s[k] with
   | true =>
    rw [run_yes blkB s k hk hb] at h
    rw [drop_cons s k hk, from_blank _ _ _ (by have h2 := hb; simp [blkB, blkI] at h2; omega), from_skip s acc n (k + 1) (by omega), show k + 1 + n = k + (n + 1) from by omega]
   | false => rw [run_no blkB s k hk hb] at h; omega
  ·rw [run_end blkB s k (by omega)] at h; omega
theorem not_blank (s : ByteArray) (k : Nat) (hk : k ≤ s.size) (h : k + run blkB (s.data.toList.drop k) < s.size) : s[k + run blkB (s.data.toList.drop k)].toNat ≠ 32 := by
 have main : ∀ (n k : Nat), n = run blkB (s.data.toList.drop k) → (hl : k + n < s.size) → s[k + n].toNat ≠ 32 := by
  intro n
  induction n with
  | zero =>
   intro k h hl e
   have : blkB s[k] = true := by
    have e' : s[k].toNat = 32 := e
    simp [blkB, blkI, e']
   rw [run_yes blkB s k (by omega) this] at h
   omega
  | succ n ih =>
   intro k h hl
   have hk : k < s.size := by omega
   cases hb : blkB s[k] with
   | true =>
    rw [run_yes blkB s k hk hb] at h
    have := ih (k + 1) (by omega) (by omega)
    simpa [show k + 1 + n = k + (n + 1) from by omega] using this
   | false => rw [run_no blkB s k hk hb] at h; omega
 exact main _ k rfl h
structure St (B : Nat) (s : ByteArray) (w wr : World) (k : Nat) (acc : List Sg) (v : Value) : Prop where
 l : Boxed wr B 212 v
 own : wr.ownsRow B 222 5 v acc.length (cells5 acc)
 a : Boxed wr (B + 1) 3 (.int .i64 0)
 e : Boxed wr (B + 1 + 1) 34 (.int .i64 0)
 r : Rd wr (B + 1 + 1 + 1) s k
 bel : Below B w wr
 hB : B ≤ w.heap.size
section
variable {B k k' : Nat} {s : ByteArray} {w wr W : World} {acc : List Sg} {v : Value}
theorem St.ne (h : St B s w wr k acc v) (g : Nat) (hg : v.ownBlock = some g) : g ≠ B ∧ g ≠ B + 1 ∧ g ≠ B + 1 + 1 ∧ g ≠ B + 1 + 1 + 1 := by
 have h0 := h.l.not_row (by decide) h.own
 have h1 := h.a.not_row (by decide) h.own
 have h2 := h.e.not_row (by decide) h.own
 rw [hg] at h0 h1 h2
 refine ⟨fun e => h0 (by rw [e]), fun e => h1 (by rw [e]), fun e => h2 (by rw [e]), fun e => ?_⟩
 rcases h.own.2 with ⟨rfl, _⟩ | ⟨g', cap, cur, rfl, _, hgb, _⟩
 ·simp [Value.ownBlock] at hg
 ·obtain rfl : g' = g := by simpa [Value.ownBlock] using hg
  have hr := h.r
  unfold Rd at hr
  rw [← e, hgb] at hr
  simp at hr
theorem St.read (h : St B s w wr k acc v) (hg : wr.grownBy W (some (B + 1 + 1 + 1))) (hr : Rd W (B + 1 + 1 + 1) s k') : St B s w W k' acc v :=
 ⟨h.l.kept hg (by simp; omega), h.own.kept hg (by
   cases hv : v.ownBlock with
   | none => exact .inl rfl
   | some g => exact .inr (by simpa using (h.ne g hv).2.2.2)), h.a.kept hg (by simp), h.e.kept hg (by simp), hr,
  h.bel.grown hg (by have := h.bel.size; have := h.hB; omega) (by intro i hi; injection hi; omega), h.hB⟩
theorem St.drawn (h : St B s w wr k acc v) (hd : Drawn wr W) : St B s w W k acc v := by
 obtain ⟨n, rfl⟩ := hd
 exact h.read (only_drewN (grown_refl _ _) n) (h.r.drewN n)
theorem St.more (h : St B s w wr k acc v) {o1 o2 : Obj} {v' : Value} {x : Sg} (hown : W.ownsRow B 222 5 v' (acc ++ [x]).length (cells5 (acc ++ [x]))) (hg : ((wr.alloc o1).alloc o2).grownBy W v.ownBlock)
  : St B s w (W.setCell ⟨B, 0, none⟩ v') k (acc ++ [x]) v' := by
 have g2 := (World.grownBy_alloc wr o1 v.ownBlock).trans ((World.grownBy_alloc (wr.alloc o1) o2 v.ownBlock).trans hg)
 have ne : ∀ b, (∀ g, v.ownBlock = some g → g ≠ b) → some b ≠ v.ownBlock := by
  intro b hb e
  exact hb b e.symm rfl
 have hl : Boxed W B 212 v := h.l.kept g2 (ne B fun g hv => (h.ne g hv).1)
 have ha : Boxed W (B + 1) 3 (.int .i64 0) := h.a.kept g2 (ne _ fun g hv => (h.ne g hv).2.1)
 have he : Boxed W (B + 1 + 1) 34 (.int .i64 0) := h.e.kept g2 (ne _ fun g hv => (h.ne g hv).2.2.1)
 have hr : Rd W (B + 1 + 1 + 1) s k := h.r.kept g2 (ne _ fun g hv => (h.ne g hv).2.2.2)
 have gs := grownBy_setCell' W B v'
 refine ⟨Boxed.set v' hl, hown.kept gs ?_, ha.kept gs (by simp), he.kept gs (by simp; omega), hr.kept gs (by simp; omega), ?_, h.hB⟩
 ·exact .inr (fun e => (hl.not_row (by decide) hown) e.symm)
 ·exact (h.bel.grown g2 (by have := h.bel.size; have := h.hB; omega) (fun i hi => by
   rcases h.own.2 with ⟨rfl, _⟩ | ⟨g', cap, cur, rfl, hbg, _⟩
   ·simp [Value.ownBlock] at hi
   ·simp [Value.ownBlock] at hi; omega)).setCell (Nat.le_refl _) v'
end
theorem new_cells (W : World) (o : Obj) (cs : Array Value) (l : List Value) (h : cs = l.toArray) {t : TypeId} : ∀ (j : Nat) (u : Value), l[j]? = some u → ((W.alloc o).alloc (.cells cs t)).cell? ⟨W.heap.size + 1, j, none⟩ = some u := by
 intro j u hu
 have := World.alloc_heap_new (W.alloc o) (.cells cs t)
 rw [World.size_alloc] at this
 subst h
 unfold World.cell?
 simp only [this]
 simpa using hu
theorem own_more {w : World} {base : Nat} {e : TypeId} {size : Nat} {v : Value} {xs : List Value} {acc : List Sg} {x : Sg} (h : w.ownsRow base e size v (acc ++ [x]).length xs) : ∃ A c, v = .slice A (acc.length + 1) c := by
 have := own_form5 h
 rwa [List.length_append] at this
theorem more_box {B k : Nat} {s : ByteArray} {w wr W : World} {acc : List Sg} {v : Value} (h : St B s w wr k acc v) {o1 o2 : Obj} (hg : ((wr.alloc o1).alloc o2).grownBy W v.ownBlock) : Boxed W B 212 v := by
 have g2 := (World.grownBy_alloc wr o1 v.ownBlock).trans ((World.grownBy_alloc (wr.alloc o1) o2 v.ownBlock).trans hg)
 exact h.l.kept g2 (by intro e; exact (h.ne B e.symm).1 rfl)
def LexIs (s : ByteArray) (w : World) (e : Ending) (w' : World) : Prop :=
 Below w.heap.size w w' ∧ match Lex s.data.toList with
  | .ok l _ => ∃ A c, e = .returned (.tuple #[.slice A l.length c, .int .i64 0, .int .i64 0]) ∧ l.length ≤ c ∧ GRow w' A l.length l
  | .bad p c => e = .returned (.tuple #[.slice none 0 0, .int .i64 p, .int .i64 c])
theorem info_sg : (Tryz.prog.info? 222).map (fun i => (i.zero, i.size, i.bytes)) = some (some (.agg #[.int .i64 0, .int .i64 0, .int .i64 0, .int .i64 0, .string ⟨#[]⟩]), 5, 48) := by kernel_rfl
theorem neq_func (f : Nat) (v : Value) (w : World) : (binOp .neq 268 (.func (.func f) #[v] #[]) .nilFunc).run Tryz.prog w = .ok (.bool true) w := by kernel_rfl
theorem neq_nil (w : World) : (binOp .neq 268 .nilFunc .nilFunc).run Tryz.prog w = .ok (.bool false) w := by kernel_rfl
theorem not_begins {c : UInt8} (h : ¬ begins c = true) : smB c = false ∧ c.toNat ≠ 123 ∧ single c = none := by
 have h' : begins c = false := by simpa using h
 unfold begins at h'
 simp only [Bool.or_eq_false_iff] at h'
 obtain ⟨⟨b1, b2⟩, b3⟩ := h'
 exact ⟨b1, by simpa using b2, by cases hs : single c <;> simp_all⟩
theorem kind_of (s : ByteArray) (k b : Nat) (hk : k < s.size) (h : begins s[k] = true) : ∃ f : Nat, (smB s[k] = true ∧ Value.func (.func f) #[.pointer (some ⟨b, 0, none⟩)] #[] = .func (.func 210) #[.pointer (some ⟨b, 0, none⟩)] #[]) ∨ (smB s[k] = false ∧ s[k].toNat = 123 ∧ Value.func (.func f) #[.pointer (some ⟨b, 0, none⟩)] #[] = .func (.func 211) #[.pointer (some ⟨b, 0, none⟩)] #[])
   ∨ (smB s[k] = false ∧ s[k].toNat ≠ 123 ∧ (∃ q, q < 6 ∧ s[k].toNat = chr q) ∧ Value.func (.func f) #[.pointer (some ⟨b, 0, none⟩)] #[] = .func (.func 213) #[.pointer (some ⟨b, 0, none⟩)] #[]) ∨ (smB s[k] = false ∧ s[k].toNat ≠ 123 ∧ single s[k] = none ∧ Value.func (.func f) #[.pointer (some ⟨b, 0, none⟩)] #[] = .nilFunc) := by
 by_cases hsm : smB s[k] = true
 ·exact ⟨_, .inl ⟨hsm, rfl⟩⟩
 ·have hsm' : smB s[k] = false := by simpa using hsm
  by_cases h123 : s[k].toNat = 123
  ·exact ⟨_, .inr (.inl ⟨hsm', h123, rfl⟩)⟩
  ·have hsome : (single s[k]).isSome = true := by
    unfold begins at h
    simpa [hsm', h123] using h
   obtain ⟨⟨kd0, lo0, hi0⟩, hsn⟩ := Option.isSome_iff_exists.1 hsome
   obtain ⟨q, hq, hch, _, _, _⟩ := chr_single s[k] kd0 lo0 hi0 hsn
   exact ⟨_, .inr (.inr (.inl ⟨hsm', h123, ⟨q, hq, hch⟩, rfl⟩))⟩
theorem door_bad {s : ByteArray} {w W : World} {a : Act} {v : Value} {p : Nat} {c : Int} (hd : a.defers = [{ target := .fn (.func 161) #[.pointer (some ⟨w.heap.size, 0, none⟩), .pointer (some ⟨w.heap.size + 1, 0, none⟩), .pointer (some ⟨w.heap.size + 1 + 1, 0, none⟩)], args := #[] }])
  (h2 : a.tmps[2]?.getD undef = .pointer (some ⟨w.heap.size, 0, none⟩)) (h3 : a.tmps[3]?.getD undef = .pointer (some ⟨w.heap.size + 1, 0, none⟩)) (h4 : a.tmps[4]?.getD undef = .pointer (some ⟨w.heap.size + 1 + 1, 0, none⟩))
  (hl : Boxed W w.heap.size 212 v) (ha : Boxed W (w.heap.size + 1) 3 (.int .i64 0)) (he : Boxed W (w.heap.size + 1 + 1) 34 (.int .i64 0)) (hb : Below w.heap.size w W) (hL : Lex s.data.toList = .bad p c) {q : Int} (hq : q = p) :
  bodyPostD Tryz.prog Tryz.f114 (LexIs s w) (.panic (chain q c)) a W := by
 subst hq
 show Leaves Tryz.prog _ a.tmps (LexIs s w) a.defers (.panicking (chain p c)) W
 rw [hd]
 refine leaves_cons (f := 161) (args := #[.pointer (some ⟨w.heap.size, 0, none⟩), .pointer (some ⟨w.heap.size + 1, 0, none⟩), .pointer (some ⟨w.heap.size + 1 + 1, 0, none⟩)]) (by simp) (by simp [go_sem]) ?_
 refine (catch_fault _ _ _ (p : Int) c [] _ hl ha he ⟨by omega, by omega, by omega⟩).mono ?_
 rintro en u' w'' ⟨rfl, rfl, bl, ba, be, hbb⟩
 have q0 := bl.cell
 have q1 := ba.cell
 have q2 := be.cell
 refine ⟨.tuple #[.slice none 0 0, .int .i64 p, .int .i64 c], by simp [results, Tryz.results114, go_sem, h2, h3, h4, q0, q1, q2], hb.trans (hbb _ (Nat.le_refl _) (by omega) (by omega)), ?_⟩
 rw [hL]
theorem door_ok {s : ByteArray} {w W : World} {a : Act} {acc : List Sg} {v : Value} {n : Nat} (hd : a.defers = [{ target := .fn (.func 161) #[.pointer (some ⟨w.heap.size, 0, none⟩), .pointer (some ⟨w.heap.size + 1, 0, none⟩), .pointer (some ⟨w.heap.size + 1 + 1, 0, none⟩)], args := #[] }])
  (h2 : a.tmps[2]?.getD undef = .pointer (some ⟨w.heap.size, 0, none⟩)) (h3 : a.tmps[3]?.getD undef = .pointer (some ⟨w.heap.size + 1, 0, none⟩)) (h4 : a.tmps[4]?.getD undef = .pointer (some ⟨w.heap.size + 1 + 1, 0, none⟩))
  (hl : Boxed W w.heap.size 212 v) (ha : Boxed W (w.heap.size + 1) 3 (.int .i64 0)) (he : Boxed W (w.heap.size + 1 + 1) 34 (.int .i64 0)) (hown : W.ownsRow w.heap.size 222 5 v acc.length (cells5 acc)) (hb : Below w.heap.size w W) (hL : Lex s.data.toList = .ok acc n) :
  bodyPostD Tryz.prog Tryz.f114 (LexIs s w) .ret a W := by
 show Leaves Tryz.prog _ a.tmps (LexIs s w) a.defers .returning W
 rw [hd]
 refine leaves_cons (f := 161) (args := #[.pointer (some ⟨w.heap.size, 0, none⟩), .pointer (some ⟨w.heap.size + 1, 0, none⟩), .pointer (some ⟨w.heap.size + 1 + 1, 0, none⟩)]) (by simp) (by simp [go_sem]) ?_
 refine (catch_idle _ _ _ _).mono ?_
 rintro en u' w'' ⟨rfl, rfl, o, rfl⟩
 have q0 := (hl.alloc o).cell
 have q1 := (ha.alloc o).cell
 have q2 := (he.alloc o).cell
 obtain ⟨A, c, rfl, hc, hrow⟩ := GRow.of_own (hown.alloc o)
 refine ⟨.tuple #[.slice A acc.length c, .int .i64 0, .int .i64 0], by simp [results, Tryz.results114, go_sem, h2, h3, h4, q0, q1, q2], hb.alloc (by have := hb.size; omega) o, ?_⟩
 rw [hL]
 exact ⟨A, c, rfl, hc, hrow⟩
theorem lex_any (s : ByteArray) (w : World) (hs : s.size ≤ 100000) (H : Held w) : Calls Tryz.prog 114 #[.string s] w (LexIs s w) := by
 obtain ⟨i0, hi, hz, hs1, hs2⟩ := info_parts info_sg
 have hnf := fun (f : Nat) (v : Value) (w : World) => neq_func f v w
 have hnn := fun (w : World) => neq_nil w
 have hmf : ∀ (fn : Fn) (first cap : Array Value) (w : World), (Instr.makeFunc fn first cap).run Tryz.prog w = .ok (.func fn first cap) w := fun _ _ _ _ => rfl
 go_enter_defers Tryz.func114, Tryz.ntmps114
 go_wp2_with fail
 have HS0 : Hid (St w.heap.size s w ((((w.alloc (.cells #[.slice none 0 0] 212)).alloc (.cells #[.int .i64 0] 3)).alloc (.cells #[.int .i64 0] 34)).alloc (.cells #[.string s, .int .i64 0] 266)) 0 [] (.slice none 0 0)) := by
  refine ⟨?_, World.ownsRow_nil _ _ _ _, ?_, ?_, ?_, ?_, Nat.le_refl _⟩
  ·exact (((Boxed.new w _ _).alloc _).alloc _).alloc _
  ·have h := Boxed.new (w.alloc (.cells #[.slice none 0 0] 212)) 3 (.int .i64 0)
   rw [World.size_alloc] at h
   exact (h.alloc _).alloc _
  ·have h := Boxed.new ((w.alloc (.cells #[.slice none 0 0] 212)).alloc (.cells #[.int .i64 0] 3)) 34 (.int .i64 0)
   rw [World.size_alloc, World.size_alloc] at h
   exact h.alloc _
  ·have h := World.alloc_heap_new (((w.alloc (.cells #[.slice none 0 0] 212)).alloc (.cells #[.int .i64 0] 3)).alloc (.cells #[.int .i64 0] 34)) (.cells #[.string s, .int .i64 0] 266)
   rw [World.size_alloc, World.size_alloc, World.size_alloc] at h
   exact h
  ·exact ((((Below.refl _ _).alloc (Nat.le_refl _) _).alloc (by simp) _).alloc (by simp; omega) _).alloc (by simp; omega) _
 have HH := hide H
 obtain ⟨Fin, hFin⟩ : ∃ Fin, Fin = Lex s.data.toList := ⟨_, rfl⟩
 have HFin := Lib.hid hFin
 clear hFin H
 go_wp2_with (go_at_call 162; (with_reducible refine (pass_any _ s 0 _ HS0.out.r (by omega) hs).mono ?_); rintro e w1 ⟨rfl, hr1, hg1⟩; have HS1 := Lib.hid (HS0.out.read hg1 hr1); clear hr1 hg1)
 go_loopw [] (fun wr => ∃ (k : Nat) (acc : List Sg) (v : Value), k ≤ s.size ∧ acc.length ≤ 200 ∧ Hid (∀ h : k < s.size, s[k].toNat ≠ 32) ∧ Hid (St w.heap.size s w wr k acc v) ∧ Hid (From (s.data.toList.drop k) k acc = Fin)) (fun wr => s.size - (intOf ((wr.cell? ⟨w.heap.size + 1 + 1 + 1, 1, none⟩).getD undef)).toNat)
 case atStart =>
  refine ⟨_, [], _, ?_, by simp, Lib.hid (not_blank s 0 (by omega)), HS1, ?_⟩
  ·exact run_max blkB s 0 (by omega)
  ·show From _ _ _ = Fin
   rw [← from_skip s [] _ 0 rfl, HFin.out]
   rfl
 case round =>
  obtain ⟨k, acc, v, hk, hacc, hnb, hS, hF⟩ := hrel
  have c1 := hS.out.r.c1
  by_cases hlt : k < s.size
  ·have hc32 := hnb.out hlt
   have hF0 := hF.out
   rw [drop_cons s k hlt] at hF0
   have HB3 : Hid (1 ≠ w.heap.size + 1 + 1 + 1) := by have := HH.out.lt; show _ ≠ _; omega
   have HHr : Hid (Held wr) := HH.out.below hS.out.bel
   by_cases hbg : begins s[k] = true
   ·by_cases h200 : acc.length = 200
    ·have hFn := from_full (s.data.toList.drop (k + 1)) k acc hbg h200
     rw [hF0] at hFn
     have HL : Hid (Lex s.data.toList = .bad k 4) := by show _ = _; rw [← HFin.out, hFn]
     obtain ⟨f, hf⟩ := kind_of s k (w.heap.size + 1 + 1 + 1) hlt hbg
     have HBG := hide (fun n => begun_any _ s k (wr.drewN n) (hS.out.r.drewN n) hlt hs _ hf)
     have hle : 200 ≤ acc.length := by omega
     have tl : decide ((acc.length : Int) < 200) = false := by simp; omega
     obtain ⟨A0, c0, hv⟩ := own_form5 hS.out.own
     subst hv
     have l0 := hS.out.l.cell
     clear hF hF0 hFn hbg h200 hnb hc32 hf
     go_wp2_with fail
     go_quiet ((go_at_call 164; exact Calls.quiet_of (HBG.out _)))
     go_wp2_with (first
      | (go_at_call 165; (with_reducible refine (must_ok _ _ _ _).mono ?_); rintro e w2 ⟨rfl, rfl⟩)
      | (go_at_call 165; (with_reducible refine (must_bad _ _ _ _).mono ?_); rintro e w2 ⟨rfl, rfl⟩))
     have HS1 := hS.out.drawn ⟨nq, rfl⟩
     exact door_bad rfl rfl rfl rfl HS1.l HS1.a HS1.e HS1.bel HL.out rfl
    ·have h200' : acc.length < 200 := by omega
     have tl : decide ((acc.length : Int) < 200) = true := by simp; omega
     by_cases hsm : smB s[k] = true
     ·have HBG := hide (fun n => begun_any _ s k (wr.drewN n) (hS.out.r.drewN n) hlt hs _ (.inl ⟨hsm, rfl⟩))
      have HRD := hide (fun W (h : Rd W (w.heap.size + 1 + 1 + 1) s k) (_ : Held W) => read_name _ s k W h hlt hs hsm)
      cases ho : one s[k] (s.data.toList.drop (k + 1)) k with
      | bad p c =>
       rw [ho] at HRD
       have hFn := from_bad (s.data.toList.drop (k + 1)) k acc hc32 (by omega) ho
       rw [hF0] at hFn
       have HL : Hid (Lex s.data.toList = .bad p c) := by show _ = _; rw [← HFin.out, hFn]
       clear ho hF hF0 hFn hbg h200 hsm hnb hc32
       obtain ⟨A0, c0, hv⟩ := own_form5 hS.out.own
       subst hv
       have l0 := hS.out.l.cell
       go_wp2_with fail
       go_quiet ((go_at_call 164; exact Calls.quiet_of (HBG.out _)))
       go_wp2_with (first
        | (go_at_call 165; (with_reducible refine (must_ok _ _ _ _).mono ?_); rintro e w2 ⟨rfl, rfl⟩)
        | (go_at_call 210; (with_reducible refine (HRD.out _ (hS.out.r.drewN nq) (HHr.out.drewN nq)).mono ?_); rintro e w3 ⟨rfl, hg3⟩))
       have HS1 := hS.out.drawn ⟨nq, rfl⟩
       exact door_bad rfl rfl rfl rfl (HS1.l.kept hg3 (by simp; omega)) (HS1.a.kept hg3 (by simp)) (HS1.e.kept hg3 (by simp)) (HS1.bel.grown hg3 (by have := HS1.bel.size; omega) (by intro i hi; injection hi; omega)) HL.out rfl
      | ok x to =>
       rw [ho] at HRD
       have hFn := from_ok (s.data.toList.drop (k + 1)) k acc hc32 (by omega) ho
       rw [hF0, ← drop_cons s k hlt, drop_to s k to (by have := one_to ho; omega)] at hFn
       have hto := one_to ho
       rw [List.length_drop, show s.data.toList.length = s.size from by rw [Array.length_toList]; rfl] at hto
       have hat := (one_fine ho).2
       obtain ⟨kd, at_, lo, hi', nm⟩ := x
       dsimp only at hat
       subst hat
       have HF2 := Lib.hid hFn.symm
       have hto2 : to ≤ s.size ∧ k < to := by omega
       have hacc2 : acc.length + 1 ≤ 200 := by omega
       clear ho hF hF0 hFn hto hbg h200 h200' hsm hnb hc32
       obtain ⟨A0, c0, hv⟩ := own_form5 hS.out.own
       subst hv
       have l0 := hS.out.l.cell
       go_wp2_with fail
       go_quiet ((go_at_call 164; exact Calls.quiet_of (HBG.out _)))
       go_wp2_with (first
        | (go_at_call 165; (with_reducible refine (must_ok _ _ _ _).mono ?_); rintro e w2 ⟨rfl, rfl⟩)
        | (go_at_call 210; (with_reducible refine (HRD.out _ (hS.out.r.drewN nq) (HHr.out.drewN nq)).mono ?_); rintro e w3 ⟨rfl, hr3, hg3⟩; have HS3 := Lib.hid ((hS.out.drawn ⟨nq, rfl⟩).read hg3 hr3); clear hr3 hg3; have m0 := (HS3.out.l.alloc (.cells #[.int .i64 kd, .int .i64 (k : Int), .int .i64 lo, .int .i64 hi', .string ⟨nm.toArray⟩] 222)).cell; have hz3 := HS3.out.bel.size)
        | (at_builtin; refine wpList_app_sg rfl (.tmp 35) (.tmp 37) 212 rfl w.heap.size 222 i0 _ Tryz.underlying212 hi hz rfl hs1 hs2 _ acc rfl ((HS3.out.own.alloc (.cells #[.int .i64 kd, .int .i64 (k : Int), .int .i64 lo, .int .i64 hi', .string ⟨nm.toArray⟩] 222)).alloc (.cells #[.int .i64 kd, .int .i64 (k : Int), .int .i64 lo, .int .i64 hi', .string ⟨nm.toArray⟩] 222)) (w3.heap.size + 1) 1 ⟨kd, k, lo, hi', nm⟩ rfl (new_cells w3 (.cells #[.int .i64 kd, .int .i64 (k : Int), .int .i64 lo, .int .i64 hi', .string ⟨nm.toArray⟩] 222) _ _ rfl) (by omega) (by simp; omega) ?_; intro v' w4 hown' hg4 hat4; clear m0; obtain ⟨A1, c1', rfl⟩ := own_more hown'; have HS4 := Lib.hid (HS3.out.more hown' hg4); have m1 := (more_box HS3.out hg4).cell; have m2 := (more_box HS3.out hg4).frozen; clear hown' hg4 hat4)
        | (go_at_call 162; (with_reducible refine (pass_any _ s to _ HS4.out.r hto2.1 hs).mono ?_); rintro e w6 ⟨rfl, hr6, hg6⟩; have HS6 := Lib.hid (HS4.out.read hg6 hr6); clear hr6 hg6))
       go_roundw
       case rel =>
        refine ⟨_, _, _, run_max blkB s to hto2.1, by simp; omega, Lib.hid (not_blank s to hto2.1), HS6, ?_⟩
        show From _ _ _ = Fin
        rw [← from_skip s _ _ to rfl, HF2.out]
       case measure =>
        rw [c1, HS6.out.r.c1]; simp [intOf]; omega
     ·have hsm' : smB s[k] = false := by simpa using hsm
      by_cases h123 : s[k].toNat = 123
      ·have HBG := hide (fun n => begun_any _ s k (wr.drewN n) (hS.out.r.drewN n) hlt hs _ (.inr (.inl ⟨hsm', h123, rfl⟩)))
       have HRD := hide (fun W (h : Rd W (w.heap.size + 1 + 1 + 1) s k) (_ : Held W) => read_braces _ s k W h hlt hs hsm' h123)
       clear h123 hsm'
       cases ho : one s[k] (s.data.toList.drop (k + 1)) k with
       | bad p c =>
        rw [ho] at HRD
        have hFn := from_bad (s.data.toList.drop (k + 1)) k acc hc32 (by omega) ho
        rw [hF0] at hFn
        have HL : Hid (Lex s.data.toList = .bad p c) := by show _ = _; rw [← HFin.out, hFn]
        clear ho hF hF0 hFn hbg h200 hsm hnb hc32
        obtain ⟨A0, c0, hv⟩ := own_form5 hS.out.own
        subst hv
        have l0 := hS.out.l.cell
        go_wp2_with fail
        go_quiet ((go_at_call 164; exact Calls.quiet_of (HBG.out _)))
        go_wp2_with (first
         | (go_at_call 165; (with_reducible refine (must_ok _ _ _ _).mono ?_); rintro e w2 ⟨rfl, rfl⟩)
         | (go_at_call 211; (with_reducible refine (HRD.out _ (hS.out.r.drewN nq) (HHr.out.drewN nq)).mono ?_); rintro e w3 ⟨rfl, hg3⟩))
        have HS1 := hS.out.drawn ⟨nq, rfl⟩
        exact door_bad rfl rfl rfl rfl (HS1.l.kept hg3 (by simp; omega)) (HS1.a.kept hg3 (by simp)) (HS1.e.kept hg3 (by simp)) (HS1.bel.grown hg3 (by have := HS1.bel.size; omega) (by intro i hi; injection hi; omega)) HL.out rfl
       | ok x to =>
        rw [ho] at HRD
        have hFn := from_ok (s.data.toList.drop (k + 1)) k acc hc32 (by omega) ho
        rw [hF0, ← drop_cons s k hlt, drop_to s k to (by have := one_to ho; omega)] at hFn
        have hto := one_to ho
        rw [List.length_drop, show s.data.toList.length = s.size from by rw [Array.length_toList]; rfl] at hto
        have hat := (one_fine ho).2
        obtain ⟨kd, at_, lo, hi', nm⟩ := x
        dsimp only at hat
        subst hat
        have HF2 := Lib.hid hFn.symm
        have hto2 : to ≤ s.size ∧ k < to := by omega
        have hacc2 : acc.length + 1 ≤ 200 := by omega
        clear ho hF hF0 hFn hto hbg h200 h200' hsm hnb hc32
        obtain ⟨A0, c0, hv⟩ := own_form5 hS.out.own
        subst hv
        have l0 := hS.out.l.cell
        go_wp2_with fail
        go_quiet ((go_at_call 164; exact Calls.quiet_of (HBG.out _)))
        go_wp2_with (first
         | (go_at_call 165; (with_reducible refine (must_ok _ _ _ _).mono ?_); rintro e w2 ⟨rfl, rfl⟩)
         | (go_at_call 211; (with_reducible refine (HRD.out _ (hS.out.r.drewN nq) (HHr.out.drewN nq)).mono ?_); rintro e w3 ⟨rfl, hr3, hg3⟩; have HS3 := Lib.hid ((hS.out.drawn ⟨nq, rfl⟩).read hg3 hr3); clear hr3 hg3; have m0 := (HS3.out.l.alloc (.cells #[.int .i64 kd, .int .i64 (k : Int), .int .i64 lo, .int .i64 hi', .string ⟨nm.toArray⟩] 222)).cell; have hz3 := HS3.out.bel.size)
         | (at_builtin; refine wpList_app_sg rfl (.tmp 35) (.tmp 37) 212 rfl w.heap.size 222 i0 _ Tryz.underlying212 hi hz rfl hs1 hs2 _ acc rfl ((HS3.out.own.alloc (.cells #[.int .i64 kd, .int .i64 (k : Int), .int .i64 lo, .int .i64 hi', .string ⟨nm.toArray⟩] 222)).alloc (.cells #[.int .i64 kd, .int .i64 (k : Int), .int .i64 lo, .int .i64 hi', .string ⟨nm.toArray⟩] 222)) (w3.heap.size + 1) 1 ⟨kd, k, lo, hi', nm⟩ rfl (new_cells w3 (.cells #[.int .i64 kd, .int .i64 (k : Int), .int .i64 lo, .int .i64 hi', .string ⟨nm.toArray⟩] 222) _ _ rfl) (by omega) (by simp; omega) ?_; intro v' w4 hown' hg4 hat4; clear m0; obtain ⟨A1, c1', rfl⟩ := own_more hown'; have HS4 := Lib.hid (HS3.out.more hown' hg4); have m1 := (more_box HS3.out hg4).cell; have m2 := (more_box HS3.out hg4).frozen; clear hown' hg4 hat4)
         | (go_at_call 162; (with_reducible refine (pass_any _ s to _ HS4.out.r hto2.1 hs).mono ?_); rintro e w6 ⟨rfl, hr6, hg6⟩; have HS6 := Lib.hid (HS4.out.read hg6 hr6); clear hr6 hg6))
        go_roundw
        case rel =>
         refine ⟨_, _, _, run_max blkB s to hto2.1, by simp; omega, Lib.hid (not_blank s to hto2.1), HS6, ?_⟩
         show From _ _ _ = Fin
         rw [← from_skip s _ _ to rfl, HF2.out]
        case measure =>
         rw [c1, HS6.out.r.c1]; simp [intOf]; omega
      ·have hsome : (single s[k]).isSome = true := by
        have h := hbg
        unfold begins at h
        simpa [hsm', h123] using h
       obtain ⟨⟨kd0, lo0, hi0⟩, hsn⟩ := Option.isSome_iff_exists.1 hsome
       obtain ⟨q, hq, hch, _, _, _⟩ := chr_single s[k] kd0 lo0 hi0 hsn
       have HBG := hide (fun n => begun_any _ s k (wr.drewN n) (hS.out.r.drewN n) hlt hs _ (.inr (.inr (.inl ⟨hsm', h123, ⟨q, hq, hch⟩, rfl⟩))))
       have HRD := hide (fun W (h : Rd W (w.heap.size + 1 + 1 + 1) s k) (hh : Held W) => read_short _ s k W h hlt hs hh HB3.out hsm' h123 hsn)
       clear h123 hsm' hsome hsn hch
       cases ho : one s[k] (s.data.toList.drop (k + 1)) k with
       | bad p c =>
        rw [ho] at HRD
        have hFn := from_bad (s.data.toList.drop (k + 1)) k acc hc32 (by omega) ho
        rw [hF0] at hFn
        have HL : Hid (Lex s.data.toList = .bad p c) := by show _ = _; rw [← HFin.out, hFn]
        clear ho hF hF0 hFn hbg h200 hsm hnb hc32
        obtain ⟨A0, c0, hv⟩ := own_form5 hS.out.own
        subst hv
        have l0 := hS.out.l.cell
        go_wp2_with fail
        go_quiet ((go_at_call 164; exact Calls.quiet_of (HBG.out _)))
        go_wp2_with (first
         | (go_at_call 165; (with_reducible refine (must_ok _ _ _ _).mono ?_); rintro e w2 ⟨rfl, rfl⟩)
         | (go_at_call 213; (with_reducible refine (HRD.out _ (hS.out.r.drewN nq) (HHr.out.drewN nq)).mono ?_); rintro e w3 ⟨rfl, hg3⟩))
        have HS1 := hS.out.drawn ⟨nq, rfl⟩
        exact door_bad rfl rfl rfl rfl (HS1.l.kept hg3 (by simp; omega)) (HS1.a.kept hg3 (by simp)) (HS1.e.kept hg3 (by simp)) (HS1.bel.grown hg3 (by have := HS1.bel.size; omega) (by intro i hi; injection hi; omega)) HL.out rfl
       | ok x to =>
        rw [ho] at HRD
        have hFn := from_ok (s.data.toList.drop (k + 1)) k acc hc32 (by omega) ho
        rw [hF0, ← drop_cons s k hlt, drop_to s k to (by have := one_to ho; omega)] at hFn
        have hto := one_to ho
        rw [List.length_drop, show s.data.toList.length = s.size from by rw [Array.length_toList]; rfl] at hto
        have hat := (one_fine ho).2
        obtain ⟨kd, at_, lo, hi', nm⟩ := x
        dsimp only at hat
        subst hat
        have HF2 := Lib.hid hFn.symm
        have hto2 : to ≤ s.size ∧ k < to := by omega
        have hacc2 : acc.length + 1 ≤ 200 := by omega
        clear ho hF hF0 hFn hto hbg h200 h200' hsm hnb hc32
        obtain ⟨A0, c0, hv⟩ := own_form5 hS.out.own
        subst hv
        have l0 := hS.out.l.cell
        go_wp2_with fail
        go_quiet ((go_at_call 164; exact Calls.quiet_of (HBG.out _)))
        go_wp2_with (first
         | (go_at_call 165; (with_reducible refine (must_ok _ _ _ _).mono ?_); rintro e w2 ⟨rfl, rfl⟩)
         | (go_at_call 213; (with_reducible refine (HRD.out _ (hS.out.r.drewN nq) (HHr.out.drewN nq)).mono ?_); rintro e w3 ⟨rfl, hr3, hg3⟩; have HS3 := Lib.hid ((hS.out.drawn ⟨nq, rfl⟩).read hg3 hr3); clear hr3 hg3; have m0 := (HS3.out.l.alloc (.cells #[.int .i64 kd, .int .i64 (k : Int), .int .i64 lo, .int .i64 hi', .string ⟨nm.toArray⟩] 222)).cell; have hz3 := HS3.out.bel.size)
         | (at_builtin; refine wpList_app_sg rfl (.tmp 35) (.tmp 37) 212 rfl w.heap.size 222 i0 _ Tryz.underlying212 hi hz rfl hs1 hs2 _ acc rfl ((HS3.out.own.alloc (.cells #[.int .i64 kd, .int .i64 (k : Int), .int .i64 lo, .int .i64 hi', .string ⟨nm.toArray⟩] 222)).alloc (.cells #[.int .i64 kd, .int .i64 (k : Int), .int .i64 lo, .int .i64 hi', .string ⟨nm.toArray⟩] 222)) (w3.heap.size + 1) 1 ⟨kd, k, lo, hi', nm⟩ rfl (new_cells w3 (.cells #[.int .i64 kd, .int .i64 (k : Int), .int .i64 lo, .int .i64 hi', .string ⟨nm.toArray⟩] 222) _ _ rfl) (by omega) (by simp; omega) ?_; intro v' w4 hown' hg4 hat4; clear m0; obtain ⟨A1, c1', rfl⟩ := own_more hown'; have HS4 := Lib.hid (HS3.out.more hown' hg4); have m1 := (more_box HS3.out hg4).cell; have m2 := (more_box HS3.out hg4).frozen; clear hown' hg4 hat4)
         | (go_at_call 162; (with_reducible refine (pass_any _ s to _ HS4.out.r hto2.1 hs).mono ?_); rintro e w6 ⟨rfl, hr6, hg6⟩; have HS6 := Lib.hid (HS4.out.read hg6 hr6); clear hr6 hg6))
        go_roundw
        case rel =>
         refine ⟨_, _, _, run_max blkB s to hto2.1, by simp; omega, Lib.hid (not_blank s to hto2.1), HS6, ?_⟩
         show From _ _ _ = Fin
         rw [← from_skip s _ _ to rfl, HF2.out]
        case measure =>
         rw [c1, HS6.out.r.c1]; simp [intOf]; omega
   ·obtain ⟨hsm', h123, hsn⟩ := not_begins hbg
    have ho : one s[k] (s.data.toList.drop (k + 1)) k = .bad k 2 := by rw [one, hsm', if_neg (by decide), if_neg h123, hsn]
    have hFn := from_bad (s.data.toList.drop (k + 1)) k acc hc32 (fun h => hbg h.1) ho
    rw [hF0] at hFn
    have HL : Hid (Lex s.data.toList = .bad k 2) := by show _ = _; rw [← HFin.out, hFn]
    have HBG := hide (fun n => begun_any _ s k (wr.drewN n) (hS.out.r.drewN n) hlt hs _ (.inr (.inr (.inr ⟨hsm', h123, hsn, rfl⟩))))
    clear hF hF0 hFn hbg hnb hc32 hsm' h123 hsn ho
    go_wp2_with fail
    go_quiet ((go_at_call 164; exact Calls.quiet_of (HBG.out _)))
    go_wp2_with (go_at_call 165; (with_reducible refine (must_bad _ _ _ _).mono ?_); rintro e w2 ⟨rfl, rfl⟩)
    have HS1 := hS.out.drawn ⟨nq, rfl⟩
    exact door_bad rfl rfl rfl rfl HS1.l HS1.a HS1.e HS1.bel HL.out rfl
  ·obtain rfl : k = s.size := by omega
   have hFin : Fin = .ok acc 0 := by
    have h := hF.out
    rw [drop_end s _ (Nat.le_refl _), from_nil] at h
    exact h.symm
   have HFin2 : Hid (Lex s.data.toList = .ok acc 0) := by show _ = _; rw [← HFin.out, hFin]
   obtain ⟨A, c, hv⟩ := own_form5 hS.out.own
   subst hv
   have l0 := hS.out.l.cell
   have l1 := hS.out.l.frozen
   have a0 := hS.out.a.cell
   have a1 := hS.out.a.frozen
   have e0 := hS.out.e.cell
   have e1 := hS.out.e.frozen
   clear hFin hF
   go_wp2_with fail
   have g0 := grownBy_setCell' wr w.heap.size (.slice A acc.length c)
   have g1 := grownBy_setCell' (wr.setCell ⟨w.heap.size, 0, none⟩ (.slice A acc.length c)) (w.heap.size + 1) (.int .i64 0)
   have g2 := grownBy_setCell' ((wr.setCell ⟨w.heap.size, 0, none⟩ (.slice A acc.length c)).setCell ⟨w.heap.size + 1, 0, none⟩ (.int .i64 0)) (w.heap.size + 1 + 1) (.int .i64 0)
   have hl := ((Boxed.set (.slice A acc.length c) hS.out.l).kept g1 (by simp)).kept g2 (by simp; omega)
   have ha := (Boxed.set (.int .i64 0) (hS.out.a.kept g0 (by simp))).kept g2 (by simp)
   have he := Boxed.set (.int .i64 0) ((hS.out.e.kept g0 (by simp; omega)).kept g1 (by simp))
   have ne : ∀ b : Nat, (∀ g, (Value.slice A acc.length c).ownBlock = some g → g ≠ b) → (Value.slice A acc.length c).ownBlock = none ∨ (Value.slice A acc.length c).ownBlock ≠ some b := by
    intro b hb
    cases hv : (Value.slice A acc.length c).ownBlock with
    | none => exact .inl rfl
    | some g => exact .inr (by simpa using hb g hv)
   have ho := ((hS.out.own.kept g0 (ne _ fun g hg => (hS.out.ne g hg).1)).kept g1 (ne _ fun g hg => (hS.out.ne g hg).2.1)).kept g2 (ne _ fun g hg => (hS.out.ne g hg).2.2.1)
   exact door_ok rfl rfl rfl rfl hl ha he ho (((hS.out.bel.setCell (Nat.le_refl _) _).setCell (by simp) _).setCell (by simp; omega) _) HFin2.out
end Go.Proofs.YtnbchikiiipejaaGreatDoor.Lx
