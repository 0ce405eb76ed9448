/-
  Plain facts on layer 16.
-/
import Derived.Test.YtnjjpllplgidlaaBoundPlain
namespace Go.Proofs.Ytnjjpllplgidlaa
namespace Tu
open Bd
def want (v : Int) : Int := if v = 1 then -1 else if v = 2 then 1 else 0
def turns (way held v d : Int) : Bool := decide (want v ≠ 0) && decide (want v ≠ way) && (decide (way = 0) || (decide (d ≤ held) && decide (1 ≤ held)))
def tW (way held v d : Int) : Int := if turns way held v d then want v else way
def tH (way held v d : Int) : Int := if turns way held v d then 1 else if want v = 0 ∧ way = 0 then held else addC held 1
def tN (way held v d : Int) : Int := if turns way held v d then want v else if want v = way then want v else 0
/-- What holds of a way and for how long it was kept. -/
def Inv (way held : Int) : Prop := (way = 0 → held = 0) ∧ (way ≠ 0 → 1 ≤ held) ∧ 0 ≤ held ∧ held ≤ 2147483647 ∧ (way = 0 ∨ way = 1 ∨ way = -1)
theorem inv0 : Inv 0 0 := ⟨fun _ => rfl, fun h => absurd rfl h, by decide, by decide, Or.inl rfl⟩
theorem want_in (v : Int) : want v = 0 ∨ want v = 1 ∨ want v = -1 := by unfold want; split <;> (try split) <;> omega
theorem add1 (n : Int) (h0 : 0 ≤ n) (h1 : n ≤ 2147483647) : 1 ≤ addC n 1 ∧ addC n 1 ≤ 2147483647 := by
  have h := addC_b n 1
  have e1 : kp n cMost = n := kp_id _ _ h0 (by unfold cMost; omega)
  have e2 : kp 1 cMost = 1 := by decide
  refine ⟨?_, h.2⟩
  unfold addC
  rw [e1, e2]
  rcases Int.lt_or_le cMost (n + 1) with h3 | h3
  · rw [kp_big _ _ (by decide) (by omega)]; decide
  · rw [kp_id _ _ (by omega) h3]; omega
theorem inv_step (way held v d : Int) (h : Inv way held) : Inv (tW way held v d) (tH way held v d) := by
  obtain ⟨h1, h2, h3, h4, h5⟩ := h
  have hw := want_in v
  have ha := add1 held h3 h4
  unfold tW tH
  by_cases ht : turns way held v d = true
  · rw [if_pos ht, if_pos ht]
    simp only [turns, Bool.and_eq_true, decide_eq_true_eq] at ht
    exact ⟨fun h => absurd h ht.1.1, fun _ => by decide, by decide, by decide, hw⟩
  · rw [if_neg ht, if_neg ht]
    by_cases hc : want v = 0 ∧ way = 0
    · rw [if_pos hc]; exact ⟨h1, h2, h3, h4, h5⟩
    · rw [if_neg hc]
      refine ⟨fun h => ?_, fun _ => ha.1, by omega, ha.2, h5⟩
      exfalso
      apply ht
      simp only [turns, Bool.and_eq_true, Bool.or_eq_true, decide_eq_true_eq]
      exact ⟨⟨by omega, by omega⟩, Or.inl h⟩
end Tu
end Go.Proofs.Ytnjjpllplgidlaa
