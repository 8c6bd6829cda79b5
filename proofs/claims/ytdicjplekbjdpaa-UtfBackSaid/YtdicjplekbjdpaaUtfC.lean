/- Walk of the reference of utf: Next. -/
import Derived.Test.YtdicjplekbjdpaaUtfB
namespace Go.Proofs.Ytdicjplekbjdpaa.Utf
open Go.RowKit Mem
set_option linter.unusedVariables false

theorem gs_at {zs : List Int} {p : Nat} {r : Int} (h : At zs p r) : p + (bytes r).length ≤ zs.length ∧ gs zs p (bytes r).length = r := by
  have hr := of_rtB h.1
  have hp := h.2
  have hlen : p + (bytes r).length ≤ zs.length := by
    have := hp.length_le
    have := bytes_length r
    rw [List.length_drop] at *; omega
  refine ⟨hlen, ?_⟩
  unfold bytes at hp ⊢
  by_cases a : r < 128
  · rw [if_pos a] at hp ⊢
    obtain ⟨q0, e0⟩ := pre1 hp
    simp only [List.length_cons, List.length_nil]
    unfold gs; rw [if_pos (by omega)]; exact e0
  · rw [if_neg a] at hp ⊢
    by_cases b : r < 2048
    · rw [if_pos b] at hp ⊢
      obtain ⟨q0, e0, hp⟩ := pre2 hp
      obtain ⟨q1, e1⟩ := pre1 hp
      simp only [List.length_cons, List.length_nil]
      unfold gs; rw [if_neg (by omega), if_pos (by omega)]; omega
    · rw [if_neg b] at hp ⊢
      by_cases c : r < 65536
      · rw [if_pos c] at hp ⊢
        obtain ⟨q0, e0, hp⟩ := pre2 hp
        obtain ⟨q1, e1, hp⟩ := pre2 hp
        obtain ⟨q2, e2⟩ := pre1 hp
        simp only [List.length_cons, List.length_nil]
        unfold gs; rw [if_neg (by omega), if_neg (by omega), if_pos (by omega)]; rw [show p + 2 = p + 1 + 1 from rfl]; omega
      · rw [if_neg c] at hp ⊢
        obtain ⟨q0, e0, hp⟩ := pre2 hp
        obtain ⟨q1, e1, hp⟩ := pre2 hp
        obtain ⟨q2, e2, hp⟩ := pre2 hp
        obtain ⟨q3, e3⟩ := pre1 hp
        simp only [List.length_cons, List.length_nil]
        unfold gs; rw [if_neg (by omega), if_neg (by omega), if_neg (by omega)]; rw [show p + 2 = p + 1 + 1 from rfl, show p + 3 = p + 1 + 1 + 1 from rfl]; omega

theorem toNat_byte {a b : Int} (ha : 0 ≤ a ∧ a ≤ 255) (hb : 0 ≤ b ∧ b ≤ 255) (h : UInt8.ofNat a.toNat = UInt8.ofNat b.toNat) : a = b := by
  have := congrArg UInt8.toNat h
  simp only [UInt8.toNat_ofNat'] at this
  omega
theorem nums_inj : ∀ {xs ys : List Int}, (∀ x ∈ xs, 0 ≤ x ∧ x ≤ 255) → (∀ y ∈ ys, 0 ≤ y ∧ y ≤ 255) → xs.map (fun n => UInt8.ofNat n.toNat) = ys.map (fun n => UInt8.ofNat n.toNat) → xs = ys
  | [], [], _, _, _ => rfl
  | [], _ :: _, _, _, h => by simp at h
  | _ :: _, [], _, _, h => by simp at h
  | x :: xs, y :: ys, hx, hy, h => by
    simp only [List.map_cons, List.cons.injEq] at h
    rw [toNat_byte (hx x List.mem_cons_self) (hy y List.mem_cons_self) h.1, nums_inj (fun a ha => hx a (List.mem_cons_of_mem _ ha)) (fun a ha => hy a (List.mem_cons_of_mem _ ha)) h.2]
/-- strings of numbers are the same just if the numbers are -/
theorem str_beq {xs ys : List Int} (hx : ∀ x ∈ xs, 0 ≤ x ∧ x ≤ 255) (hy : ∀ y ∈ ys, 0 ≤ y ∧ y ≤ 255) : ((strOfNums xs).toList == (strOfNums ys).toList) = decide (xs = ys) := by
  rw [ByteArray.toList_eq, ByteArray.toList_eq, strOfNums_data, strOfNums_data]
  by_cases h : xs = ys
  · subst h; simp
  · rw [decide_eq_false h, beq_eq_false_iff_ne]
    exact fun e => h (nums_inj hx hy e)

/-- what the reference says stands at a place -/
def RNext (W : World) (zs : List Int) (p : Nat) (e : Ending) (w' : World) : Prop :=
  Below W.heap.size W w' ∧ ((∃ r, At zs p r ∧ e = .returned (.tuple #[.int .i32 r, .int .i64 ((bytes r).length : Int)])) ∨ ((∀ r, ¬ At zs p r) ∧ e = .returned (.tuple #[.int .i32 0, .int .i64 0])))

theorem at_of {zs : List Int} {p m : Nat} (hr : rtB (gs zs p m) = true) (hp : p + m ≤ zs.length) (e : bytes (gs zs p m) = (zs.drop p).take m) : At zs p (gs zs p m) ∧ (bytes (gs zs p m)).length = m := by
  refine ⟨⟨hr, ?_⟩, ?_⟩
  · rw [e]; exact List.take_prefix _ _
  · rw [e, List.length_take, List.length_drop]; omega
theorem at_to {zs : List Int} {p m : Nat} {r : Int} (h : At zs p r) (hm : (bytes r).length = m) : rtB (gs zs p m) = true ∧ bytes (gs zs p m) = (zs.drop p).take m ∧ gs zs p m = r := by
  obtain ⟨h1, h2⟩ := gs_at h
  rw [hm] at h2
  refine ⟨by rw [h2]; exact h.1, ?_, h2⟩
  rw [h2, ← hm]
  exact List.prefix_iff_eq_take.mp h.2

theorem rright_yes (r : Int) (h : rtB r = true) (w : World) : Calls Try.prog 9 #[.int .i32 r] w fun e w' => e = .returned (.bool true) ∧ w = w' :=
  (rright_any r w).mono fun _ _ ⟨he, hw⟩ => ⟨by rw [he, h], hw⟩
theorem rright_no (r : Int) (h : rtB r = false) (w : World) : Calls Try.prog 9 #[.int .i32 r] w fun e w' => e = .returned (.bool false) ∧ w = w' :=
  (rright_any r w).mono fun _ _ ⟨he, hw⟩ => ⟨by rw [he, h], hw⟩

set_option maxHeartbeats 1000000 in
theorem rnext_any (zs : List Int) (A : Option Addr) (n c p : Nat) (w : World) (hr : Row .u8 w A n zs) (hn : n ≤ c) (hc : c ≤ maxLen) (hp : p < n) :
    Calls Try.prog 14 #[.slice A n c, .int .i64 p] w (RNext w zs p) := by
  have hlz := hr.1
  unfold maxLen at hc
  obtain ⟨b, off, rfl, hbl, _⟩ := hr.at_ (by omega)
  go_enter Try.func14, Try.ntmps14
  go_wp2
  go_loopw [6] (fun i wr => ∃ k : Nat, 1 ≤ k ∧ k ≤ 5 ∧ i = .int .i64 k ∧ (∀ r, At zs p r → k ≤ (bytes r).length) ∧ Below w.heap.size w wr) (fun i _ => 5 - (intOf i).toNat)
  case atStart => exact ⟨1, Nat.le_refl _, by omega, rfl, fun r _ => (bytes_length r).1, Below.refl _ _⟩
  case round =>
    obtain ⟨k, hk1, hk5, rfl, hno, hbw⟩ := hrel
    have HN := Lib.hid hno
    clear hno
    by_cases hlt : k ≤ 4 ∧ p + k ≤ n
    · obtain ⟨hk4, hpk⟩ := hlt
      have hg := gs_bd zs p k hr.byte
      have hrw : Row .u8 wr (some ⟨b, off, none⟩) n zs := hr.below hbw
      have HR := Lib.hid hr
      have HB := Lib.hid hbw
      have HW := Lib.hid hrw
      clear hr hbw hrw
      obtain ⟨g, hgd⟩ : ∃ g, g = gs zs p k := ⟨_, rfl⟩
      rw [← hgd] at hg
      have HG := Lib.hid hgd
      clear hgd hlz
      by_cases g0 : g < 0
      · have hno' : ∀ r, At zs p r → k + 1 ≤ (bytes r).length := fun r h => by
          have h1 := HN.out r h
          rcases Nat.lt_or_ge k (bytes r).length with h2 | h2
          · exact h2
          · have h3 := at_to h (show (bytes r).length = k by omega)
            have h4 := of_rtB h3.1
            rw [← HG.out] at h4; omega
        have HN' := Lib.hid hno'
        clear hno'
        go_wp2_with (go_at_call 24; refine (guess_any zs _ n c p k _ HW.out (by unfold maxLen; omega) (by omega) (by omega) (by omega)).mono ?_; rw [← HG.out]; rintro e w' ⟨rfl, rfl⟩)
        go_roundw
        case rel => exact ⟨k + 1, by omega, by omega, by go_num, HN'.out, HB.out⟩
        case measure => simp [intOf]; omega
      · by_cases g1 : 1114111 < g
        · have hno' : ∀ r, At zs p r → k + 1 ≤ (bytes r).length := fun r h => by
            have h1 := HN.out r h
            rcases Nat.lt_or_ge k (bytes r).length with h2 | h2
            · exact h2
            · have h3 := at_to h (show (bytes r).length = k by omega)
              have h4 := of_rtB h3.1
              rw [← HG.out] at h4; omega
          have HN' := Lib.hid hno'
          clear hno'
          go_wp2_with (go_at_call 24; refine (guess_any zs _ n c p k _ HW.out (by unfold maxLen; omega) (by omega) (by omega) (by omega)).mono ?_; rw [← HG.out]; rintro e w' ⟨rfl, rfl⟩)
          go_roundw
          case rel => exact ⟨k + 1, by omega, by omega, by go_num, HN'.out, HB.out⟩
          case measure => simp [intOf]; omega
        · cases hrt : rtB g
          · have hno' : ∀ r, At zs p r → k + 1 ≤ (bytes r).length := fun r h => by
              have h1 := HN.out r h
              rcases Nat.lt_or_ge k (bytes r).length with h2 | h2
              · exact h2
              · have h3 := at_to h (show (bytes r).length = k by omega)
                rw [← HG.out, hrt] at h3; exact absurd h3.1 Bool.noConfusion
            have HN' := Lib.hid hno'
            have HT := Lib.hid hrt
            clear hno' hrt
            go_wp2_with (first
              | (go_at_call 24; refine (guess_any zs _ n c p k _ HW.out (by unfold maxLen; omega) (by omega) (by omega) (by omega)).mono ?_; rw [← HG.out]; rintro e w' ⟨rfl, rfl⟩)
              | (go_at_call 9; refine (rright_no g HT.out _).mono ?_; rintro e w' ⟨rfl, rfl⟩))
            go_roundw
            case rel => exact ⟨k + 1, by omega, by omega, by go_num, HN'.out, HB.out⟩
            case measure => simp [intOf]; omega
          · have HT := Lib.hid hrt
            have hbb := bytes_byte hrt
            have HBB := Lib.hid hbb
            clear hrt hbb
            go_wp2_with (first
              | (go_at_call 24; refine (guess_any zs _ n c p k _ HW.out (by unfold maxLen; omega) (by omega) (by omega) (by omega)).mono ?_; rw [← HG.out]; rintro e w' ⟨rfl, rfl⟩)
              | (go_at_call 9; refine (rright_yes g HT.out _).mono ?_; rintro e w' ⟨rfl, rfl⟩)
              | fail)
            refine (bytes_any g _ HT.out).mono ?_
            rintro e w1 ⟨A1, c1, rfl, hc1, hrow1, hb1⟩
            have hrw1 : Row .u8 w1 (some ⟨b, off, none⟩) n zs := HW.out.below hb1
            obtain ⟨b', off', hA, hcut⟩ := hrw1.cut (i := p) (m := k) (by omega) (by omega)
            injection hA with hA
            injection hA with hA1 hA2
            subst hA1 hA2
            have q1 : ∀ nq, (convert 22 9 (.slice A1 (bytes g).length c1)).run Try.prog (w1.drewN nq) = .ok (.string (strOfNums (bytes g))) (w1.drewN nq) :=
              fun nq => (hrow1.drewN nq).str c1 Try.underlying22 Try.underlying5 Try.underlying9
            have q2 : ∀ nq, (convert 22 9 (.slice (some ⟨b, off + p, none⟩) k (c - p))).run Try.prog (w1.drewN nq) = .ok (.string (strOfNums ((zs.drop p).take k))) (w1.drewN nq) :=
              fun nq => (hcut.drewN nq).str (c - p) Try.underlying22 Try.underlying5 Try.underlying9
            have hbe := str_beq HBB.out (ys := (zs.drop p).take k) (fun y hy => by
              have := hrw1.2.1 y (List.mem_of_mem_drop (List.mem_of_mem_take hy)); exact wf_u8 this)
            generalize hS1 : strOfNums (bytes g) = S1 at *
            generalize hS2 : strOfNums ((zs.drop p).take k) = S2 at *
            generalize hL : (bytes g).length = L at *
            have HL := Lib.hid hL
            have HX := Lib.hid hbe
            have HB1 := Lib.hid hb1
            clear hL hbe hb1 hrow1 hrw1 hcut hS1 hS2
            by_cases hLk : L = k
            · obtain rfl := hLk
              have d0 : ((L : Int) == (L : Int)) = true := by simp
              have s1 : IntKind.i64.wrap ((p : Int) + (L : Int)) = (p : Int) + (L : Int) := IntWalk.i64_in _ (by omega)
              have s2 : (0 : Int) ≤ (p : Int) + (L : Int) := by omega
              have s3 : ((p : Int) + (L : Int)).toNat = p + L := by omega
              have s4 : (p : Int) ≤ (p : Int) + (L : Int) := by omega
              have s5 : (p : Int) + (L : Int) ≤ (c : Int) := by omega
              have s6 : ¬ c = p := by omega
              have HQ : Hid ((S1.toList == S2.toList) = decide (bytes g = (zs.drop p).take L)) := HX
              clear HX
              cases hq : (S1.toList == S2.toList)
              · have hno' : ∀ r, At zs p r → L + 1 ≤ (bytes r).length := fun r h => by
                  have h1 := HN.out r h
                  rcases Nat.lt_or_ge L (bytes r).length with h2 | h2
                  · exact h2
                  · have h3 := at_to h (show (bytes r).length = L by omega)
                    have h4 := HQ.out
                    rw [hq, HG.out] at h4
                    exact absurd h3.2.1 (of_decide_eq_false h4.symm)
                have HN' := Lib.hid hno'
                clear hno'
                go_wp2
                go_quiet (fail)
                clear s1 s3
                go_wp2
                go_roundw
                case rel => exact ⟨L + 1, by omega, by omega, by go_num, HN'.out, Mem.below_drewN (HB.out.trans (HB1.out.mono HB.out.size)) _⟩
                case measure => simp [intOf]; omega
              · have hyes : At zs p g ∧ (bytes g).length = L := by
                  have h4 := HQ.out
                  rw [hq] at h4
                  have h5 := of_decide_eq_true h4.symm
                  have h6 := HT.out
                  rw [HG.out] at h5 h6 ⊢
                  exact at_of h6 (by have := HW.out.1; omega) h5
                have HY := Lib.hid hyes
                clear hyes
                go_wp2
                go_quiet (fail)
                clear s1 s3
                go_wp2
                go_ret2
                exact ⟨Mem.below_drewN (HB.out.trans (HB1.out.mono HB.out.size)) _, .inl ⟨g, HY.out.1, by rw [HY.out.2]; rfl⟩⟩
            · have d0 : ((L : Int) == (k : Int)) = false := by simp; omega
              have d1 : decide (L = k) = false := by simp; omega
              have hno' : ∀ r, At zs p r → k + 1 ≤ (bytes r).length := fun r h => by
                have h1 := HN.out r h
                rcases Nat.lt_or_ge k (bytes r).length with h2 | h2
                · exact h2
                · have h3 := at_to h (show (bytes r).length = k by omega)
                  have h4 := HL.out
                  rw [HG.out, h3.2.2] at h4
                  omega
              have HN' := Lib.hid hno'
              clear hno'
              go_wp2
              go_quiet (fail)
              go_wp2
              go_roundw
              case rel => exact ⟨k + 1, by omega, by omega, by go_num, HN'.out, Mem.below_drewN (HB.out.trans (HB1.out.mono HB.out.size)) _⟩
              case measure => simp [intOf]; omega
    · go_wp2
      all_goals
        go_ret2
        refine ⟨hbw, .inr ⟨fun r h => ?_, rfl⟩⟩
        have h1 := HN.out r h
        have h2 := (gs_at h).1
        have h3 := bytes_length r
        omega
end Go.Proofs.Ytdicjplekbjdpaa.Utf
