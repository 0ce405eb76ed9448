/-
  Plain facts on the orders of layer 11: no program is imported.
-/
import Derived.RowKit3
namespace Go.Proofs.Ytnhjpblkenmccaa
namespace Rk
/-- The first of some numbers that differ decides. -/
def cmpI (a b : Int) : Int := if a < b then -1 else if b < a then 1 else 0
def cmpL : List Nat → (Nat → Int) → (Nat → Int) → Int
  | [], _, _ => 0
  | j :: r, f, h => if cmpI (f j) (h j) ≠ 0 then cmpI (f j) (h j) else cmpL r f h
def bef (f h : Nat → Int) : Bool := decide (cmpL [3, 6, 0] f h < 0)
def wor (f h : Nat → Int) : Bool := decide (0 < cmpL [1, 3, 6, 0] f h)
theorem cmpI_eq (a b : Int) : cmpI a b = 0 ↔ a = b := by unfold cmpI; split <;> (try split) <;> omega
theorem bef_def (f h : Nat → Int) : bef f h = decide (f 3 < h 3 ∨ (f 3 = h 3 ∧ (f 6 < h 6 ∨ (f 6 = h 6 ∧ f 0 < h 0)))) := by
  unfold bef
  congr 1
  simp only [cmpL, cmpI]
  repeat' split
  all_goals (simp only [eq_iff_iff]; omega)
theorem wor_def (f h : Nat → Int) : wor f h = decide (h 1 < f 1 ∨ (f 1 = h 1 ∧ (h 3 < f 3 ∨ (f 3 = h 3 ∧ (h 6 < f 6 ∨ (f 6 = h 6 ∧ h 0 < f 0)))))) := by
  unfold wor
  congr 1
  simp only [cmpL, cmpI]
  repeat' split
  all_goals (simp only [eq_iff_iff]; omega)
theorem bef_self (f : Nat → Int) : bef f f = false := by rw [bef_def]; simp
theorem wor_self (f : Nat → Int) : wor f f = false := by rw [wor_def]; simp
theorem bef_trans {f g h : Nat → Int} (h1 : bef f g = true) (h2 : bef g h = true) : bef f h = true := by
  rw [bef_def, decide_eq_true_eq] at *; omega
theorem wor_trans {f g h : Nat → Int} (h1 : wor f g = true) (h2 : wor g h = true) : wor f h = true := by
  rw [wor_def, decide_eq_true_eq] at *; omega
def one (f h : Nat → Int) : Bool := decide (f 3 ≠ h 3 ∨ f 6 ≠ h 6 ∨ f 0 ≠ h 0)
theorem one_bef (f h : Nat → Int) : one f h = (bef f h || bef h f) := by
  rw [bef_def, bef_def, one, ← Bool.decide_or]
  congr 1
  simp only [eq_iff_iff]; omega
theorem asym_bef (f h : Nat → Int) : (bef f h && bef h f) = false := by
  rw [bef_def, bef_def, ← Bool.decide_and]
  simp only [decide_eq_false_iff_not]; omega
theorem one_wor (f h : Nat → Int) : (one f h || decide (f 1 ≠ h 1)) = (wor f h || wor h f) := by
  rw [wor_def, wor_def, one, ← Bool.decide_or, ← Bool.decide_or]
  congr 1
  simp only [eq_iff_iff]; omega
end Rk
end Go.Proofs.Ytnhjpblkenmccaa
