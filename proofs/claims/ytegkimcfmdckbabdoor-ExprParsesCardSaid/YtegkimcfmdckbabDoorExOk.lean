/- Expressions: signs whose brackets fit, whatever stands behind them. Plain lists. -/
import Derived.Test.YtegkimcfmdckbabDoorExCut
namespace Go.Proofs.YtegkimcfmdckbabDoor.Ex
open Lx (Sg)

inductive Ok : List Sg → Prop where
  | nil : Ok []
  | one {x : Sg} {s : List Sg} : x.kind ≠ 2 → Ok s → Ok (x :: s)
  | br {x y : Sg} {s t : List Sg} : x.kind = 2 → (∀ r, jump 1 (s ++ y :: r) = s.length) → Ok t → Ok (x :: (s ++ y :: t))
theorem Sn.ok {v : Lv} {s : List Sg} {e e' : List Pt} {k : Nat} (h : Sn v s e k e') : ∀ t, Ok t → Ok (s ++ t) := by
  induction h with
  | name h1 => intro t ht; exact .one (by omega) ht
  | @shut x y s e e' k h2 hc h3 _ =>
    intro t ht
    have : x :: (s ++ [y]) ++ t = x :: (s ++ y :: t) := by simp
    rw [this]
    exact .br h2 (fun r => hc.shuts h3) ht
  | item _ ih => exact ih
  | times _ h5 ih =>
    intro t ht
    rw [List.append_assoc]
    exact ih _ (.one (by omega) ht)
  | rowMore _ _ ih1 ih2 =>
    intro t ht
    rw [List.append_assoc]
    exact ih1 _ (ih2 _ ht)
  | rowEnd _ ih => exact ih
  | chMore _ h4 _ ih1 ih2 =>
    intro t ht
    rw [List.append_assoc]
    exact ih1 _ (.one (by omega) (ih2 _ ht))
  | chEnd _ ih => exact ih
theorem Sn.ok' {v : Lv} {s : List Sg} {e e' : List Pt} {k : Nat} (h : Sn v s e k e') : Ok s := by
  have := h.ok [] .nil
  rwa [List.append_nil] at this

/-- one step of the cuts -/
theorem cuts_plain {way i : Nat} {b : Bool} {x : Sg} {l : List Sg} (h2 : x.kind ≠ 2) :
    Cuts way i b (x :: l) = (if way = 2 ∧ b = false ∧ x.kind = 1 then [i] else if way = 3 ∧ x.kind = 4 then [i + 1] else []) ++ Cuts way (i + 1) false l := by
  rw [cuts_cons]; simp [h2]
theorem cuts_br {way i : Nat} {b : Bool} {x y : Sg} {s t : List Sg} (h2 : x.kind = 2) (hj : ∀ r, jump 1 (s ++ y :: r) = s.length) :
    Cuts way i b (x :: (s ++ y :: t)) = (if way = 2 ∧ b = false then [i] else []) ++ Cuts way (i + 1 + s.length + 1) false t := by
  rw [cuts_cons, hj t]
  have e2 : (s ++ y :: t).drop (s.length + 1) = t := by simp [List.drop_append]
  rw [e2]; simp [h2]
end Go.Proofs.YtegkimcfmdckbabDoor.Ex
