/- Walks of the reference of Right: whole, Right. -/
import Derived.Test.YtnbchikiiipejaaDoorExBk
import Derived.Test.YtnbchikiiipejaaDoorLxW
import Derived.Test.YtnbchikiiipejaaDoorLxMem
import Derived.Test.YtnbchikiiipejaaDoorLxEnds
import Derived.Deep.CutRange
namespace Go.Proofs.YtnbchikiiipejaaDoor.Ex
open Go.RowKit Mem Lx
set_option linter.unusedVariables false


/-- a part of the reference's in a block of its own -/
def RP (w : World) (pb : Nat) (p : PI) (kv : Value) : Prop := w.heap[pb]? = some (.cells #[.int .i64 p.kind, .int .i64 p.low, .int .i64 p.high, .string ⟨p.name.toArray⟩, kv] 27 (0, 0))
theorem RP.lt {w : World} {pb : Nat} {p : PI} {kv : Value} (h : RP w pb p kv) : pb < w.heap.size := (Array.getElem?_eq_some_iff.1 h).1
theorem RP.cells {w : World} {pb : Nat} {p : PI} {kv : Value} (h : RP w pb p kv) : w.cell? ⟨pb, 0, none⟩ = some (.int .i64 p.kind) ∧ w.cell? ⟨pb, 1, none⟩ = some (.int .i64 p.low) ∧ w.cell? ⟨pb, 2, none⟩ = some (.int .i64 p.high) ∧ w.cell? ⟨pb, 3, none⟩ = some (.string ⟨p.name.toArray⟩) ∧ w.cell? ⟨pb, 4, none⟩ = some kv := by
  unfold RP at h; simp [World.cell?, h]
theorem RP.below {w w' : World} {pb : Nat} {p : PI} {kv : Value} (h : RP w pb p kv) (hb : Below w.heap.size w w') : RP w' pb p kv := (hb.block _ h.lt).trans h
theorem RP.new (w : World) (p : PI) (kv : Value) : RP (w.alloc (.cells #[.int .i64 p.kind, .int .i64 p.low, .int .i64 p.high, .string ⟨p.name.toArray⟩, kv] 27)) w.heap.size p kv := World.alloc_heap_new w _

/-- where a whole begins, as a number; -1: nowhere -/
def wv : Option Nat → Int
  | none => -1
  | some a => a
theorem wholeK_le {T : Nat → Option Nat} (hT : ∀ k s, T k = some s → s ≤ k) : ∀ (zs : List Int) (a s : Nat), wholeK T a zs = some s → s ≤ a
  | [], a, s, h => by simp [wholeK] at h; omega
  | z :: zs, a, s, h => by
    rw [wholeK] at h
    split at h
    · cases h
    · cases hb : T (a - 1) with
      | none => rw [hb] at h; cases h
      | some b =>
        rw [hb] at h
        have := hT _ _ hb
        have := wholeK_le hT zs b s h
        omega
theorem wholeI_le {e : List PI} : ∀ (f k s : Nat), wholeI e f k = some s → s ≤ k
  | 0, k, s, h => by cases h
  | f + 1, k, s, h => by
    rw [wholeI] at h
    cases hp : e[k]? with
    | none => rw [hp] at h; cases h
    | some p => rw [hp] at h; exact wholeK_le (fun k s g => wholeI_le f k s g) _ _ _ h
theorem wholeK_rev (T : Nat → Option Nat) (a i : Nat) (ks : List Int) (hi : i < ks.length) : wholeK T a (ks.take (i + 1)).reverse = if a < 1 ∨ ks.getD i 0 ≠ (a : Int) - 1 then none else match T (a - 1) with
    | none => none
    | some b => wholeK T b (ks.take i).reverse := by
  have e1 : (ks.take (i + 1)).reverse = ks[i] :: (ks.take i).reverse := by
    rw [List.take_add_one, List.getElem?_eq_getElem hi, List.reverse_append]; rfl
  have e2 : ks.getD i 0 = ks[i] := by simp [List.getD, List.getElem?_eq_getElem hi]
  rw [e1, e2, wholeK]
  all_goals
    by_cases h : a < 1 ∨ ks[i] ≠ (a : Int) - 1
    · simp only [if_pos h]
    · simp only [if_neg h] <;> cases T (a - 1) <;> rfl
/-- what the reference's whole answers, of parts up to a place -/
def WholeAt (A : Option Addr) (n c : Nat) (e : List PI) (w0 : World) (f : Nat) : Prop := ∀ (k : Nat) (w : World), k < f → k < n → Below w0.heap.size w0 w →
  Calls Tryd.prog 23 #[.slice A n c, .int .i64 k] w fun en w' => en = .returned (.int .i64 (wv (wholeI e f k))) ∧ Below w.heap.size w w'
set_option maxRecDepth 100000 in
set_option maxHeartbeats 4000000 in
theorem whole_step (A : Option Addr) (n c : Nat) (e : List PI) (w0 : World) (hp : PR w0 A n e) (hn : n ≤ 100000) (hk : ∀ p ∈ e, p.kids.length ≤ 100000) (f : Nat) (IH : WholeAt A n c e w0 f) : WholeAt A n c e w0 (f + 1) := by
  intro k w hkf hkn hb0
  have k1 : k < e.length := by have := hp.1; omega
  obtain ⟨b, off, rfl, hb, hc⟩ := (hp.below hb0).2 (by omega)
  obtain ⟨a0, a1, a2, a3, kv, a4, ra⟩ := hc k k1
  have HWI : Hid (wholeI e (f + 1) k = wholeK (wholeI e f) k (e[k].kids).reverse) := by show _ = _; rw [wholeI, List.getElem?_eq_getElem k1]
  have HKL := Lib.hid (hk _ (List.getElem_mem k1))
  generalize e[k] = p at a0 a1 a2 a3 ra HWI HKL
  obtain ⟨Ak, ck, rfl, hck, hrk⟩ := ra
  obtain ⟨kd, lo, hi, nm, ks⟩ := p
  dsimp only at a0 a1 a2 a3 a4 hck hrk HWI HKL
  obtain ⟨R, hR⟩ : ∃ R, R = wholeI e (f + 1) k := ⟨_, rfl⟩
  rw [← hR] at HWI ⊢
  have g0 : (k : Int) < (n : Int) := by omega
  have g1 : decide ((k : Int) < (n : Int)) = true := by simp; omega
  have HIH := hide (fun (k : Nat) (w : World) (h1 : k < f) (h2 : k < n) (h3 : Below w0.heap.size w0 w) => IH k w h1 h2 h3)
  have HB0 := Lib.hid hb0
  have hkl := HKL.out
  have HRP := Lib.hid (RP.new w ⟨kd, lo, hi, nm, ks⟩ (.slice Ak ks.length ck))
  have HBA : Hid (Below w.heap.size w (w.alloc (.cells #[.int .i64 kd, .int .i64 lo, .int .i64 hi, .string ⟨nm.toArray⟩, .slice Ak ks.length ck] 27))) := (Below.refl _ _).alloc (Nat.le_refl _) _
  have HRK := Lib.hid (hrk.below HBA.out)
  have hw1 : IntKind.i64.wrap ((ks.length : Int) - 1) = (ks.length : Int) - 1 := IntWalk.i64_in _ (by omega)
  have HLE := hide (fun k s => wholeI_le (e := e) f k s)
  have HRV := hide (fun a i hi => wholeK_rev (wholeI e f) a i ks hi)
  generalize wholeI e f = T at HWI HLE HRV HIH
  clear IH hb0 hc hrk hp hk hR k1 HKL
  go_enter Tryd.func23, Tryd.ntmps23
  go_wp2_with fail
  generalize w.alloc (.cells #[.int .i64 kd, .int .i64 lo, .int .i64 hi, .string ⟨nm.toArray⟩, .slice Ak ks.length ck] 27) = W1 at *
  go_loopw [6, 7] (fun av iv wr => ∃ (a j : Nat) (z : Int), av = .int .i64 a ∧ iv = .int .i64 z ∧ z = (j : Int) - 1 ∧ j ≤ ks.length ∧ a ≤ k ∧ Hid (wholeK T k ks.reverse = wholeK T a (ks.take j).reverse) ∧ Hid (Below W1.heap.size W1 wr)) (fun _ iv _ => (intOf iv + 1).toNat)
  case atStart => exact ⟨k, ks.length, (ks.length : Int) - 1, rfl, rfl, rfl, Nat.le_refl _, Nat.le_refl _, Lib.hid (by rw [List.take_length]), Lib.hid (Below.refl _ _)⟩
  case round =>
    obtain ⟨a, j, z, rfl, rfl, hz, hj, hak, hE, hB⟩ := hrel
    have HBW : Hid (Below w0.heap.size w0 wr) := HB0.out.trans ((HBA.out.trans (hB.out.mono HBA.out.size)).mono HB0.out.size)
    rcases j with _ | i
    · obtain rfl : z = -1 := by omega
      have HX : Hid (R = some a) := by show _ = _; rw [HWI.out, hE.out]; rfl
      clear hz
      go_wp2_with fail
      go_ret
      exact ⟨by rw [HX.out]; rfl, HBA.out.trans (hB.out.mono HBA.out.size)⟩
    · obtain rfl : z = (i : Int) := by omega
      have hi : i < ks.length := hj
      have hi' : (i : Int) < (ks.length : Int) := by omega
      have l1 : decide ((0 : Int) ≤ (i : Int)) = true := by simp
      have HRR := Lib.hid (HRV.out a i hi)
      obtain ⟨b2, off2, rfl, hc2⟩ := (HRK.out.below hB.out).2.2 (by omega)
      have k0 := hc2 i hi
      obtain ⟨-, -, -, -, p4⟩ := (HRP.out.below hB.out).cells
      have HREL : Hid (R = if a < 1 ∨ ks.getD i 0 ≠ (a : Int) - 1 then none else match T (a - 1) with
        | none => none
        | some b => wholeK T b (ks.take i).reverse) := by show _ = _; rw [HWI.out, hE.out, HRR.out]
      have hwi : IntKind.i64.wrap ((i : Int) - 1) = (i : Int) - 1 := IntWalk.i64_in _ (by omega)
      clear hc2 hz HRR
      by_cases ha0 : a < 1
      · have t1 : decide ((a : Int) < 1) = true := by simp; omega
        have HX : Hid (R = none) := by show _ = _; rw [HREL.out, if_pos (.inl ha0)]
        clear ha0
        go_wp2_with fail
        go_ret
        exact ⟨by rw [HX.out]; rfl, HBA.out.trans (hB.out.mono HBA.out.size)⟩
      · have t1 : decide ((a : Int) < 1) = false := by simp; omega
        have hw2 : IntKind.i64.wrap ((a : Int) - 1) = (a : Int) - 1 := IntWalk.i64_in _ (by omega)
        by_cases hne : ks.getD i 0 ≠ (a : Int) - 1
        · have t2 : (ks.getD i 0 != (a : Int) - 1) = true := by simpa using hne
          have HX : Hid (R = none) := by show _ = _; rw [HREL.out, if_pos (.inr hne)]
          generalize ks.getD i 0 = y at k0 t2
          clear ha0 hne
          go_wp2_with fail
          go_ret
          exact ⟨by rw [HX.out]; rfl, HBA.out.trans (hB.out.mono HBA.out.size)⟩
        · have t2 : (ks.getD i 0 != (a : Int) - 1) = false := by simpa using hne
          have HXX : Hid (R = match T (a - 1) with
            | none => none
            | some b => wholeK T b (ks.take i).reverse) := by show _ = _; rw [HREL.out, if_neg (by intro h; rcases h with h | h; exact ha0 h; exact hne h)]
          have HC0 := HIH.out (a - 1) wr (by omega) (by omega) HBW.out
          rw [show ((a - 1 : Nat) : Int) = (a : Int) - 1 from by omega] at HC0
          have HLE1 := hide (HLE.out (a - 1))
          have hyz : ks.getD i 0 = (a : Int) - 1 := by simpa using hne
          rw [hyz] at k0 t2
          generalize T (a - 1) = q at HC0 HXX HLE1
          have HC := hide HC0
          clear HC0 hne hyz HREL
          cases q with
          | none =>
            have HX : Hid (R = none) := HXX.out
            have HC1 : Hid (Calls Tryd.prog 23 #[.slice (some ⟨b, off, none⟩) n c, .int .i64 ((a : Int) - 1)] wr fun en w' => en = .returned (.int .i64 (-1)) ∧ Below wr.heap.size wr w') := HC.out
            clear HC HXX ha0
            go_wp2_with (go_at_call 23; (with_reducible refine (HC1.out).mono ?_); rintro en w2 ⟨rfl, hb2⟩; have HB2 : Hid (Below w.heap.size w w2) := HBA.out.trans ((hB.out.trans (hb2.mono hB.out.size)).mono HBA.out.size); clear hb2)
            go_ret
            exact ⟨by rw [HX.out]; rfl, HB2.out⟩
          | some q =>
            have HX : Hid (R = wholeK T q (ks.take i).reverse) := HXX.out
            have HC1 : Hid (Calls Tryd.prog 23 #[.slice (some ⟨b, off, none⟩) n c, .int .i64 ((a : Int) - 1)] wr fun en w' => en = .returned (.int .i64 (q : Int)) ∧ Below wr.heap.size wr w') := HC.out
            have hq : q ≤ a - 1 := HLE1.out q rfl
            have l3 : decide ((q : Int) < 0) = false := by simp
            clear HC HXX HLE1 ha0
            go_wp2_with (go_at_call 23; (with_reducible refine (HC1.out).mono ?_); rintro en w2 ⟨rfl, hb2⟩; have HB2 : Hid (Below W1.heap.size W1 w2) := hB.out.trans (hb2.mono hB.out.size); clear hb2)
            go_roundw
            case rel => exact ⟨q, i, (i : Int) - 1, rfl, rfl, rfl, by omega, by omega, Lib.hid (HWI.out.symm.trans HX.out), HB2⟩
            case measure => simp [intOf]
theorem whole_any (A : Option Addr) (n c : Nat) (e : List PI) (w0 : World) (hp : PR w0 A n e) (hn : n ≤ 100000) (hk : ∀ p ∈ e, p.kids.length ≤ 100000) : ∀ f, WholeAt A n c e w0 f
  | 0 => fun k w h => by omega
  | f + 1 => whole_step A n c e w0 hp hn hk f (whole_any A n c e w0 hp hn hk f)
end Go.Proofs.YtnbchikiiipejaaDoor.Ex
namespace Go.Proofs.YtnbchikiiipejaaDoor.Ex
open Go.RowKit Mem Lx
set_option linter.unusedVariables false

def namedI (nm : List UInt8) : Bool := match Lex nm with
  | .ok [y] _ => decide (y.kind = 1) && decide (y.name = nm)
  | _ => false
def countI (lo hi : Int) : Bool := decide (0 ≤ lo ∧ lo ≤ 20 ∧ (hi = -1 ∨ (1 ≤ hi ∧ hi ≤ 20 ∧ lo ≤ hi)))
theorem named_fine (nm : List UInt8) : namedI nm = true ↔ Fine ⟨1, 0, 0, 0, nm⟩ := by
  constructor
  · intro h
    unfold namedI at h
    split at h
    · rename_i y n he
      simp only [Bool.and_eq_true, decide_eq_true_eq] at h
      have h1 := (lex_fine _ nm 0 [] [y] n (by simp) (by simp) he).1 y (by simp)
      rcases h1 with ⟨a, b, c, d⟩ | ⟨a, _⟩ | ⟨a, _⟩
      · exact .inl ⟨rfl, rfl, rfl, by rw [h.2] at d; exact d⟩
      · omega
      · omega
    · cases h
  · intro h
    have h1 := lexed_fine h rfl
    unfold lexedI at h1
    have e1 : show1 ⟨1, 0, 0, 0, nm⟩ = nm := rfl
    rw [e1] at h1
    unfold namedI
    split at h1
    · rename_i y n he
      rw [he]
      have := of_decide_eq_true h1
      subst this
      simp
    · cases h1
theorem lexed_iff {x : Sg} (h0 : x.at_ = 0) : lexedI x = true ↔ Fine x := ⟨fine_of, fun h => lexed_fine h h0⟩
theorem fits_one (lo hi : Int) (nm : List UInt8) (ks : List Int) : fitsI ⟨1, lo, hi, nm, ks⟩ = true ↔ ks.length = 0 ∧ lo = 0 ∧ hi = 0 ∧ namedI nm = true := by
  unfold fitsI
  simp only [if_true, Bool.and_eq_true, beq_iff_eq]
  rw [lexed_iff rfl, named_fine]
  constructor
  · rintro ⟨h1, h2⟩
    have h3 := h2
    rcases h2 with ⟨_, a, b, _⟩ | ⟨a, _⟩ | ⟨a, _⟩
    · simp only at a b
      subst a b
      exact ⟨h1, rfl, rfl, h3⟩
    · simp at a
    · simp at a
  · rintro ⟨h1, rfl, rfl, h2⟩
    exact ⟨h1, h2⟩
theorem fits_two (kd lo hi : Int) (nm : List UInt8) (ks : List Int) (h : kd = 2 ∨ kd = 3) : fitsI ⟨kd, lo, hi, nm, ks⟩ = true ↔ 2 ≤ ks.length ∧ lo = 0 ∧ hi = 0 ∧ nm = [] := by
  unfold fitsI
  dsimp only
  rw [if_neg (by omega), if_pos h]
  simp
theorem fits_four (lo hi : Int) (nm : List UInt8) (ks : List Int) : fitsI ⟨4, lo, hi, nm, ks⟩ = true ↔ ks.length = 1 ∧ countI lo hi = true ∧ nm = [] := by
  unfold fitsI
  dsimp only
  rw [if_neg (by omega), if_neg (by omega), if_pos rfl]
  simp only [Bool.and_eq_true, beq_iff_eq]
  rw [lexed_iff rfl]
  unfold countI
  simp only [decide_eq_true_eq]
  constructor
  · rintro ⟨h1, h2⟩
    rcases h2 with ⟨a, _⟩ | ⟨a, _⟩ | ⟨_, a, b, c, d⟩
    · simp at a
    · simp at a
    · exact ⟨h1, ⟨b, c, d⟩, a⟩
  · rintro ⟨h1, ⟨b, c, d⟩, a⟩
    exact ⟨h1, .inr (.inr ⟨rfl, a, b, c, d⟩)⟩
theorem fits_else (kd lo hi : Int) (nm : List UInt8) (ks : List Int) (h1 : kd ≠ 1) (h2 : kd ≠ 2) (h3 : kd ≠ 3) (h4 : kd ≠ 4) : fitsI ⟨kd, lo, hi, nm, ks⟩ = false := by
  unfold fitsI
  dsimp only
  rw [if_neg h1, if_neg (by omega), if_neg h4]

/-- the reference's way to ask it, bit by bit -/
def zB (lo hi : Int) : Bool := decide (lo = 0) && decide (hi = 0)
def oneB (kd : Int) (n : Nat) (Z NB : Bool) : Bool := decide (kd = 1) && (decide (n = 0) && (Z && NB))
def twoB (F : Bool) (kd : Int) (n : Nat) (Z : Bool) (nm : List UInt8) : Bool := F || (decide (kd = 2 ∨ kd = 3) && (decide (2 ≤ n) && (Z && decide (nm = []))))
def fourB (F : Bool) (kd : Int) (n : Nat) (C : Bool) (nm : List UInt8) : Bool := F || (decide (kd = 4) && (decide (n = 1) && (C && decide (nm = []))))
theorem fits_bits (kd lo hi : Int) (nm : List UInt8) (ks : List Int) : fitsI ⟨kd, lo, hi, nm, ks⟩ = fourB (twoB (oneB kd ks.length (zB lo hi) (namedI nm)) kd ks.length (zB lo hi) nm) kd ks.length (countI lo hi) nm := by
  rw [Bool.eq_iff_iff]
  unfold fourB twoB oneB zB
  simp only [Bool.or_eq_true, Bool.and_eq_true, decide_eq_true_eq]
  by_cases k1 : kd = 1
  · subst k1
    rw [fits_one]
    simp
    intro _
    exact and_assoc.symm
  · by_cases k2 : kd = 2 ∨ kd = 3
    · rw [fits_two _ _ _ _ _ k2]
      have k4 : kd ≠ 4 := by omega
      simp [k1, k2, k4]
      intro _
      exact and_assoc.symm
    · by_cases k4 : kd = 4
      · subst k4
        rw [fits_four]
        simp
      · rw [fits_else _ _ _ _ _ k1 (by omega) (by omega) k4]
        simp [k1, k2, k4]
/-- what the reference's Lex makes of a name, as far as Right asks -/
def Uni (nm : List UInt8) (A : Option Addr) (m : Nat) (f : Int) (w : World) : Prop :=
  (f ≠ 0 ∧ namedI nm = false) ∨ (f = 0 ∧ m ≠ 1 ∧ namedI nm = false) ∨ (f = 0 ∧ m = 1 ∧ ∃ (y : Sg) (b off : Nat), A = some ⟨b, off, none⟩ ∧ b < w.heap.size ∧ w.cell? ⟨b, off, none⟩ = some (.int .i64 y.kind) ∧ w.cell? ⟨b, off + 4, none⟩ = some (.string ⟨y.name.toArray⟩) ∧ namedI nm = (decide (y.kind = 1) && decide (y.name = nm)))
theorem uni_any (nm : List UInt8) (w : World) (hs : nm.length ≤ 100000) : Calls Tryd.prog 22 #[.string ⟨nm.toArray⟩] w fun en w' => Below w.heap.size w w' ∧ ∃ A c m i f, en = .returned (.tuple #[.slice A m c, .int .i64 i, .int .i64 f]) ∧ m ≤ 300 ∧ Uni nm A m f w' := by
  refine (rlex_any ⟨nm.toArray⟩ w (by simpa [ByteArray.size] using hs)).mono fun en w' ⟨hb, h⟩ => ⟨hb, ?_⟩
  have e1 : (⟨nm.toArray⟩ : ByteArray).data.toList = nm := by simp
  rw [e1] at h
  rcases lex_ends nm with ⟨l, hl, hf, h200⟩ | ⟨p, c, hl, hc⟩
  · rw [hl] at h
    obtain ⟨A, c, rfl, hlc, hg⟩ := h
    refine ⟨A, c, l.length, 0, 0, rfl, by omega, ?_⟩
    by_cases h1 : l.length = 1
    · obtain ⟨y, rfl⟩ := List.length_eq_one_iff.1 h1
      obtain ⟨b, off, rfl, hb2, hcell⟩ := hg.2 (by simp)
      obtain ⟨a0, a1, a2, a3, a4⟩ := hcell 0 (by simp)
      simp only [List.getElem_cons_zero, Nat.zero_mul, Nat.add_zero] at a0 a4
      exact .inr (.inr ⟨rfl, rfl, y, b, off, rfl, hb2, a0, a4, by unfold namedI; rw [hl]⟩)
    · refine .inr (.inl ⟨rfl, h1, ?_⟩)
      unfold namedI
      rw [hl]
      rcases l with _ | ⟨a, _ | ⟨b, l⟩⟩
      · rfl
      · simp at h1
      · rfl
  · rw [hl] at h
    exact ⟨none, 0, 0, p, c, h, by omega, .inl ⟨hc, by unfold namedI; rw [hl]⟩⟩
set_option maxRecDepth 100000 in
set_option maxHeartbeats 8000000 in
theorem rright_any (A : Option Addr) (n c : Nat) (e : List PI) (w : World) (h : PR w A n e) (hn : n ≤ 100000) (hs : ∀ p ∈ e, p.name.length ≤ 100000 ∧ p.kids.length ≤ 100000) :
    Calls Tryd.prog 8 #[.slice A n c] w fun en w' => en = .returned (.bool (rightI e)) ∧ Below w.heap.size w w' := by
  have HR := hide h
  have HLN := Lib.hid h.1
  have HWH := hide (fun W (hb : Below w.heap.size w W) (h0 : n - 1 < n) => whole_any A n c e w h hn (fun p hp => (hs p hp).2) n (n - 1) W h0 h0 hb)
  have HS := hide hs
  have HIF := Lib.hid (right_iff e)
  clear h hs
  go_enter Tryd.func8, Tryd.ntmps8
  go_wp2_with fail
  go_loopw [3] (fun iv wr => ∃ j : Nat, iv = .int .i64 j ∧ j ≤ n ∧ Hid (∀ p ∈ e.take j, fitsI p = true) ∧ Hid (Below w.heap.size w wr)) (fun iv _ => n - (intOf iv).toNat)
  case atStart => exact ⟨0, rfl, by omega, Lib.hid (by simp), Lib.hid (Below.refl _ _)⟩
  case round =>
    obtain ⟨j, rfl, hj, hE, hB⟩ := hrel
    by_cases hlt : j < n
    · have j1 : j < e.length := by have := HLN.out; omega
      obtain ⟨b, off, rfl, hb, hc⟩ := (HR.out.below hB.out).2 (by omega)
      obtain ⟨a0, a1, a2, a3, kv, a4, ra⟩ := hc j j1
      have l1 : decide ((j : Int) < (n : Int)) = true := by simp; omega
      have l2 : decide (j < n) = true := by simp; omega
      have g0 : (j : Int) < (n : Int) := by omega
      have HSM := Lib.hid (HS.out _ (List.getElem_mem j1))
      have HNO : Hid (fitsI e[j] = false → rightI e = false) := by
        intro hf
        rw [HIF.out, Bool.and_eq_false_iff]
        left
        rw [List.all_eq_false]
        exact ⟨_, List.getElem_mem j1, by simp [hf]⟩
      have HYES : Hid (fitsI e[j] = true → ∀ p ∈ e.take (j + 1), fitsI p = true) := by
        intro hf p hp
        rw [List.take_add_one, List.getElem?_eq_getElem j1] at hp
        rcases List.mem_append.1 hp with hp | hp
        · exact hE.out p hp
        · simp at hp; subst hp; exact hf
      generalize e[j] = p at a0 a1 a2 a3 ra HSM HNO HYES
      obtain ⟨Ak, ck, rfl, hck, hrk⟩ := ra
      obtain ⟨kd, lo, hi, nm, ks⟩ := p
      dsimp only at a0 a1 a2 a3 a4 hck hrk HSM
      have HRP := Lib.hid (RP.new wr ⟨kd, lo, hi, nm, ks⟩ (.slice Ak ks.length ck))
      have HB1 : Hid (Below w.heap.size w (wr.alloc (.cells #[.int .i64 kd, .int .i64 lo, .int .i64 hi, .string ⟨nm.toArray⟩, .slice Ak ks.length ck] 27))) := hB.out.alloc hB.out.size _
      have HLX := hide (fun W => uni_any nm W HSM.out.1)
      clear hc hrk
      go_upto_region 7 with (go_at_call 22; (with_reducible refine (HLX.out _).mono ?_); rintro en w2 ⟨hb2, A2, c2, m2, i2, f2, rfl, hm2, hu2⟩; have HB2 : Hid (Below w.heap.size w w2) := HB1.out.trans (hb2.mono HB1.out.size); have HU := Lib.hid hu2; have HP2 := Lib.hid (HRP.out.below hb2); clear hb2 hu2)
      go_cut [9] from 33 to 55 (fun v wx => v = .bool (namedI nm) ∧ Hid (Below w.heap.size w wx) ∧ Hid (RP wx wr.heap.size ⟨kd, lo, hi, nm, ks⟩ (.slice Ak ks.length ck)))
      case first =>
        obtain ⟨-, -, -, p3, -⟩ := HP2.out.cells
        rcases HU.out with ⟨hf, hr⟩ | ⟨rfl, hm, hr⟩ | ⟨rfl, rfl, y, yb, yo, rfl, hyb, y0, y4, hr⟩
        · have t1 : (f2 == 0) = false := by simpa using hf
          have HX : Hid (namedI nm = false) := by show _ = _; rw [hr]
          clear hf hr
          go_quiet (fail)
          go_wp2_with fail
          go_meet
          exact ⟨by rw [HX.out], below_drewN HB2.out nq, HP2.out⟩
        · have t1 : ((m2 : Int) == 1) = false := by simp; omega
          have t2 : (m2 == 1) = false := by simpa using hm
          have HX : Hid (namedI nm = false) := by show _ = _; rw [hr]
          clear hm hr
          go_quiet (fail)
          go_wp2_with fail
          go_meet
          exact ⟨by rw [HX.out], below_drewN HB2.out nq, HP2.out⟩
        · obtain ⟨yk, ya, yl, yh, ynm⟩ := y
          dsimp only at y0 y4 hr
          by_cases hk : yk = 1
          · subst hk
            by_cases hnm : ynm = nm
            · have HX : Hid (namedI nm = true) := by show _ = _; rw [hr]; simp [hnm]
              subst hnm
              clear hr
              go_quiet (fail)
              go_wp2_with fail
              go_meet
              exact ⟨by rw [HX.out], below_drewN HB2.out nq, HP2.out⟩
            · have HX : Hid (namedI nm = false) := by show _ = _; rw [hr]; simp [hnm]
              have t3 : (ynm == nm) = false := by simpa using hnm
              clear hr hnm
              go_quiet (fail)
              go_wp2_with fail
              go_meet
              exact ⟨by rw [HX.out], below_drewN HB2.out nq, HP2.out⟩
          · have t2 : (yk == 1) = false := by simpa using hk
            have HX : Hid (namedI nm = false) := by show _ = _; rw [hr]; simp [hk]
            clear hr hk
            go_quiet (fail)
            go_wp2_with fail
            go_meet
            exact ⟨by rw [HX.out], below_drewN HB2.out nq, HP2.out⟩
      case rest =>
        obtain ⟨rfl, HB3, HP3⟩ := hcut
        have HFB := Lib.hid (fits_bits kd lo hi nm ks)
        generalize namedI nm = NB at HFB ⊢
        obtain ⟨p0, p1, p2, p3, p4⟩ := HP3.out.cells
        dsimp only at p0 p1 p2 p3
        have kl := HSM.out.2
        clear HP2 HB2 HU HLX HRP HB1
        go_upto_region 8 with fail
        go_cut [10] from 56 to 63 (fun v wx => v = .bool (zB lo hi) ∧ wx = wc)
        case first =>
          by_cases q2 : lo = 0
          · subst q2
            by_cases q3 : hi = 0
            · subst q3
              go_wp2_with fail
              go_meet
              exact ⟨rfl, rfl⟩
            · have w1 : (hi == 0) = false := by simpa using q3
              have HZ : Hid (zB 0 hi = false) := by show _ = _; simp [zB, q3]
              clear q3
              go_wp2_with fail
              go_meet
              exact ⟨by rw [HZ.out], rfl⟩
          · have w1 : (lo == 0) = false := by simpa using q2
            have HZ : Hid (zB lo hi = false) := by show _ = _; simp [zB, q2]
            clear q2
            go_wp2_with fail
            go_meet
            exact ⟨by rw [HZ.out], rfl⟩
        case rest =>
          obtain ⟨rfl, rfl⟩ := hcut
          generalize zB lo hi = Z at HFB ⊢
          go_upto_region 9 with fail
          go_cut [11] from 64 to 76 (fun v wx => v = .bool (oneB kd ks.length Z NB) ∧ wx = wc)
          case first =>
            by_cases k1 : kd = 1
            · subst k1
              by_cases q1 : ks.length = 0
              · have t1 : ((ks.length : Int) == 0) = true := by rw [q1]; rfl
                have t1' : (ks.length == 0) = true := by simpa using q1
                have HZ : Hid (oneB 1 ks.length Z NB = (Z && NB)) := by show _ = _; simp [oneB, q1]
                clear q1
                cases Z <;> cases NB
                all_goals
                  go_wp2_with fail
                  go_meet
                  exact ⟨by rw [HZ.out]; rfl, rfl⟩
              · have t1' : (ks.length == 0) = false := by simpa using q1
                have t1 : ((ks.length : Int) == 0) = false := by rw [Bool.eq_false_iff]; intro e; exact q1 (by simpa using e)
                have HZ : Hid (oneB 1 ks.length Z NB = false) := by show _ = _; simp only [oneB, decide_eq_false q1, Bool.false_and, Bool.and_false]
                clear q1
                go_wp2_with fail
                go_meet
                exact ⟨by rw [HZ.out], rfl⟩
            · have x1 : (kd == 1) = false := by simpa using k1
              have HZ : Hid (oneB kd ks.length Z NB = false) := by show _ = _; simp only [oneB, decide_eq_false k1, Bool.false_and]
              clear k1
              go_wp2_with fail
              go_meet
              exact ⟨by rw [HZ.out], rfl⟩
          case rest =>
            obtain ⟨rfl, rfl⟩ := hcut
            generalize oneB kd ks.length Z NB = F at HFB ⊢
            go_upto_region 10 with fail
            go_cut [11] from 77 to 99 (fun v wx => v = .bool (twoB F kd ks.length Z nm) ∧ wx = wc)
            case first =>
              cases F with
              | true =>
                go_wp2_with fail
                go_meet
                exact ⟨rfl, rfl⟩
              | false =>
                by_cases k2 : kd = 2 ∨ kd = 3
                · by_cases q1 : 2 ≤ ks.length
                  · have t1 : decide (2 ≤ (ks.length : Int)) = true := by simp; omega
                    have t1' : decide (2 ≤ ks.length) = true := by simpa using q1
                    by_cases q4 : nm = []
                    · subst q4
                      have HZ : Hid (twoB false kd ks.length Z [] = Z) := by show _ = _; simp [twoB, k2, q1]
                      clear q1
                      rcases k2 with rfl | rfl <;> cases Z
                      all_goals
                        go_wp2_with fail
                        go_meet
                        exact ⟨by rw [HZ.out], rfl⟩
                    · have w4 : (nm == []) = false := by simpa using q4
                      have w4' : nm.isEmpty = false := by simpa using q4
                      have HZ : Hid (twoB false kd ks.length Z nm = false) := by show _ = _; simp [twoB, q4]
                      clear q1 q4
                      rcases k2 with rfl | rfl <;> cases Z
                      all_goals
                        go_wp2_with fail
                        go_meet
                        exact ⟨by rw [HZ.out], rfl⟩
                  · have t1 : decide (2 ≤ (ks.length : Int)) = false := by simp; omega
                    have t1' : decide (2 ≤ ks.length) = false := by simpa using q1
                    have HZ : Hid (twoB false kd ks.length Z nm = false) := by show _ = _; simp only [twoB, decide_eq_false q1, Bool.false_and, Bool.and_false, Bool.or_false]
                    clear q1
                    rcases k2 with rfl | rfl
                    all_goals
                      go_wp2_with fail
                      go_meet
                      exact ⟨by rw [HZ.out], rfl⟩
                · have x2 : (kd == 2) = false := by simp; omega
                  have x3 : (kd == 3) = false := by simp; omega
                  have HZ : Hid (twoB false kd ks.length Z nm = false) := by show _ = _; simp only [twoB, decide_eq_false k2, Bool.false_and, Bool.or_false]
                  clear k2
                  go_wp2_with fail
                  go_meet
                  exact ⟨by rw [HZ.out], rfl⟩
            case rest =>
              obtain ⟨rfl, rfl⟩ := hcut
              generalize twoB F kd ks.length Z nm = G at HFB ⊢
              go_upto_region 11 with fail
              go_cut [12] from 100 to 129 (fun v wx => v = .bool (countI lo hi) ∧ wx = wc)
              case first =>
                have HC : Hid (countI lo hi = (decide (0 ≤ lo) && (decide (lo ≤ 20) && (hi == -1 || (decide (1 ≤ hi) && (decide (hi ≤ 20) && decide (lo ≤ hi))))))) := by
                  show _ = _
                  rw [Bool.eq_iff_iff]
                  simp [countI]
                cases u1 : decide (0 ≤ lo)
                · have HZ : Hid (countI lo hi = false) := by show _ = _; rw [HC.out, u1]; rfl
                  go_wp2_with fail
                  go_meet
                  exact ⟨by rw [HZ.out], rfl⟩
                · cases u2 : decide (lo ≤ 20)
                  · have HZ : Hid (countI lo hi = false) := by show _ = _; rw [HC.out, u1, u2]; rfl
                    go_wp2_with fail
                    go_meet
                    exact ⟨by rw [HZ.out], rfl⟩
                  · cases u3 : (hi == -1)
                    · cases u4 : decide (1 ≤ hi)
                      · have HZ : Hid (countI lo hi = false) := by show _ = _; rw [HC.out, u1, u2, u3, u4]; rfl
                        go_wp2_with fail
                        go_meet
                        exact ⟨by rw [HZ.out], rfl⟩
                      · cases u5 : decide (hi ≤ 20)
                        · have HZ : Hid (countI lo hi = false) := by show _ = _; rw [HC.out, u1, u2, u3, u4, u5]; rfl
                          go_wp2_with fail
                          go_meet
                          exact ⟨by rw [HZ.out], rfl⟩
                        · have HZ : Hid (countI lo hi = decide (lo ≤ hi)) := by show _ = _; rw [HC.out, u1, u2, u3, u4, u5]; rfl
                          go_wp2_with fail
                          go_meet
                          exact ⟨by rw [HZ.out], rfl⟩
                    · have HZ : Hid (countI lo hi = true) := by show _ = _; rw [HC.out, u1, u2, u3]; rfl
                      go_wp2_with fail
                      go_meet
                      exact ⟨by rw [HZ.out], rfl⟩
              case rest =>
                obtain ⟨rfl, rfl⟩ := hcut
                generalize countI lo hi = C at HFB ⊢
                go_upto_region 12 with fail
                go_cut [11] from 130 to 147 (fun v wx => v = .bool (fourB G kd ks.length C nm) ∧ wx = wc)
                case first =>
                  cases G with
                  | true =>
                    go_wp2_with fail
                    go_meet
                    exact ⟨rfl, rfl⟩
                  | false =>
                    by_cases k4 : kd = 4
                    · subst k4
                      by_cases q1 : ks.length = 1
                      · have t1 : ((ks.length : Int) == 1) = true := by rw [q1]; rfl
                        have t1' : (ks.length == 1) = true := by simpa using q1
                        by_cases q4 : nm = []
                        · subst q4
                          have HZ : Hid (fourB false 4 ks.length C [] = C) := by show _ = _; simp [fourB, q1]
                          clear q1
                          cases C
                          all_goals
                            go_wp2_with fail
                            go_meet
                            exact ⟨by rw [HZ.out], rfl⟩
                        · have w4 : (nm == []) = false := by simpa using q4
                          have w4' : nm.isEmpty = false := by simpa using q4
                          have HZ : Hid (fourB false 4 ks.length C nm = false) := by show _ = _; simp [fourB, q4]
                          clear q1 q4
                          cases C
                          all_goals
                            go_wp2_with fail
                            go_meet
                            exact ⟨by rw [HZ.out], rfl⟩
                      · have t1 : ((ks.length : Int) == 1) = false := by rw [Bool.eq_false_iff]; intro e; exact q1 (by have := eq_of_beq e; omega)
                        have t1' : (ks.length == 1) = false := by simpa using q1
                        have HZ : Hid (fourB false 4 ks.length C nm = false) := by show _ = _; simp only [fourB, decide_eq_false q1, Bool.false_and, Bool.and_false, Bool.or_false]
                        clear q1
                        go_wp2_with fail
                        go_meet
                        exact ⟨by rw [HZ.out], rfl⟩
                    · have x4 : (kd == 4) = false := by simpa using k4
                      have HZ : Hid (fourB false kd ks.length C nm = false) := by show _ = _; simp only [fourB, decide_eq_false k4, Bool.false_and, Bool.or_false]
                      clear k4
                      go_wp2_with fail
                      go_meet
                      exact ⟨by rw [HZ.out], rfl⟩
                case rest =>
                  obtain ⟨rfl, rfl⟩ := hcut
                  rw [← HFB.out]
                  cases hf : fitsI ⟨kd, lo, hi, nm, ks⟩ with
                  | true =>
                    have HE2 := Lib.hid (HYES.out hf)
                    clear HYES HNO
                    go_wp2_with fail
                    go_roundw
                    case rel => exact ⟨j + 1, by go_num, by omega, HE2, HB3⟩
                    case measure => simp [intOf]; omega
                  | false =>
                    have HX := Lib.hid (HNO.out hf)
                    clear HYES HNO
                    go_wp2_with fail
                    go_ret
                    exact ⟨by rw [HX.out]; rfl, HB3.out⟩
    · have hjn : j = n := by omega
      have HALL : Hid (rightI e = (n == 0 || wholeI e n (n - 1) == some 0)) := by
        show _ = _
        have h1 := hE.out
        rw [List.take_of_length_le (by have := HLN.out; omega)] at h1
        have h2 : e.all fitsI = true := by simpa using h1
        rw [HIF.out, h2, HLN.out, Bool.true_and]
      have l1 : decide ((j : Int) < (n : Int)) = false := by simp; omega
      have l2 : decide (j < n) = false := by simp; omega
      clear hjn hlt
      by_cases h0 : n = 0
      · have t1 : ((n : Int) == 0) = true := by rw [h0]; rfl
        have t1' : (n == 0) = true := by simpa using h0
        have HX : Hid (rightI e = true) := by show _ = _; rw [HALL.out, t1']; rfl
        clear h0
        go_wp2_with fail
        go_ret
        exact ⟨by rw [HX.out]; rfl, hB.out⟩
      · have t1' : (n == 0) = false := by simpa using h0
        have t1 : ((n : Int) == 0) = false := by rw [Bool.eq_false_iff]; intro e; exact h0 (by have := eq_of_beq e; omega)
        have hw1 : IntKind.i64.wrap ((n : Int) - 1) = (n : Int) - 1 := IntWalk.i64_in _ (by omega)
        have HX : Hid (rightI e = (wholeI e n (n - 1) == some 0)) := by show _ = _; rw [HALL.out, t1']; rfl
        have HC0 := HWH.out wr hB.out (by omega)
        rw [show ((n - 1 : Nat) : Int) = (n : Int) - 1 from by omega] at HC0
        have HC1 := hide HC0
        generalize wholeI e n (n - 1) = q at HX HC1
        clear h0 HC0
        cases q with
        | none =>
          have HC : Hid (Calls Tryd.prog 23 #[.slice A n c, .int .i64 ((n : Int) - 1)] wr fun en w' => en = .returned (.int .i64 (-1)) ∧ Below wr.heap.size wr w') := HC1.out
          go_wp2_with (go_at_call 23; (with_reducible refine (HC.out).mono ?_); rintro en w2 ⟨rfl, hb2⟩; have HB2 : Hid (Below w.heap.size w w2) := hB.out.trans (hb2.mono hB.out.size); clear hb2)
          go_ret
          exact ⟨by rw [HX.out]; rfl, HB2.out⟩
        | some q =>
          have HC : Hid (Calls Tryd.prog 23 #[.slice A n c, .int .i64 ((n : Int) - 1)] wr fun en w' => en = .returned (.int .i64 (q : Int)) ∧ Below wr.heap.size wr w') := HC1.out
          by_cases hq : q = 0
          · subst hq
            go_wp2_with (go_at_call 23; (with_reducible refine (HC.out).mono ?_); rintro en w2 ⟨rfl, hb2⟩; have HB2 : Hid (Below w.heap.size w w2) := hB.out.trans (hb2.mono hB.out.size); clear hb2)
            go_ret
            exact ⟨by rw [HX.out]; rfl, HB2.out⟩
          · have t2 : ((q : Int) == 0) = false := by rw [Bool.eq_false_iff]; intro e; exact hq (by have := eq_of_beq e; omega)
            have t2' : (q == 0) = false := by simpa using hq
            have HX2 : Hid (rightI e = false) := by show _ = _; rw [HX.out]; simpa using hq
            clear hq
            go_wp2_with (go_at_call 23; (with_reducible refine (HC.out).mono ?_); rintro en w2 ⟨rfl, hb2⟩; have HB2 : Hid (Below w.heap.size w w2) := hB.out.trans (hb2.mono hB.out.size); clear hb2)
            go_ret
            exact ⟨by rw [HX2.out]; rfl, HB2.out⟩
end Go.Proofs.YtnbchikiiipejaaDoor.Ex
