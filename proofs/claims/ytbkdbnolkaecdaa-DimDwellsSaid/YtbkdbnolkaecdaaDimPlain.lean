/-
  Plain facts on layer 17.
-/
import Derived.Test.YtbkdbnolkaecdaaBoundPlain
namespace Go.Proofs.Ytbkdbnolkaecdaa
namespace Dm
open Bd
/-- By how much the tier changes at a window. -/
def dgo (a t h v k : Int) (o : Bool) : Int := if addC h 1 < k then 0 else if v = 1 then (if 0 < t then -1 else 0) else if v = 2 ∧ o = true ∧ t < a then 1 else 0
def dT (a t h v k : Int) (o : Bool) : Int := t + dgo a t h v k o
def dH (a t h v k : Int) (o : Bool) : Int := if dgo a t h v k o = 0 then addC h 1 else 0
def dI (a t h v k : Int) (o : Bool) : Bool := decide (dgo a t h v k o ≠ 0)
/-- What holds of a dimmer that was made. -/
def Inv (a t h : Int) : Prop := 0 ≤ t ∧ t ≤ a ∧ a ≤ 7 ∧ 0 ≤ h ∧ h ≤ 2147483647
theorem add1 (n : Int) (h0 : 0 ≤ n) (h1 : n ≤ 2147483647) : 1 ≤ addC n 1 ∧ addC n 1 ≤ 2147483647 := by
  have h := addC_b n 1
  have e1 : kp n cMost = n := kp_id _ _ h0 (by unfold cMost; omega)
  have e2 : kp 1 cMost = 1 := by decide
  refine ⟨?_, h.2⟩
  unfold addC
  rw [e1, e2]
  rcases Int.lt_or_le cMost (n + 1) with h3 | h3
  · rw [kp_big _ _ (by decide) (by omega)]; decide
  · rw [kp_id _ _ (by omega) h3]; omega
theorem dgo_in (a t h v k : Int) (o : Bool) (hi : Inv a t h) : (dgo a t h v k o = 0 ∨ dgo a t h v k o = -1 ∨ dgo a t h v k o = 1) ∧ 0 ≤ t + dgo a t h v k o ∧ t + dgo a t h v k o ≤ a := by
  obtain ⟨h1, h2, h3, h4, h5⟩ := hi
  unfold dgo
  repeat' split
  all_goals omega
theorem inv_step (a t h v k : Int) (o : Bool) (hi : Inv a t h) : Inv a (dT a t h v k o) (dH a t h v k o) := by
  have g := dgo_in a t h v k o hi
  obtain ⟨h1, h2, h3, h4, h5⟩ := hi
  have ha := add1 h h4 h5
  refine ⟨g.2.1, g.2.2, h3, ?_, ?_⟩ <;> (unfold dH; split <;> omega)
theorem inv_new (n : Int) (h0 : 0 ≤ n) (h1 : n ≤ 7) : Inv n n 32 := ⟨h0, Int.le_refl _, h1, by decide, by decide⟩
end Dm
end Go.Proofs.Ytbkdbnolkaecdaa
