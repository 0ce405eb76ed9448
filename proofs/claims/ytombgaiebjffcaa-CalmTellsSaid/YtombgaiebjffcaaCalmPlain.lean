/-
  Plain facts on layer 19.
-/
import Derived.Test.YtombgaiebjffcaaBoundPlain
namespace Go.Proofs.Ytombgaiebjffcaa
namespace Cm
open Bd
def stepsC (a b : Int) : Int := if kp a cMost < kp b cMost then kp b cMost - kp a cMost else 0
def one (n : Int) : Int := if n < 1 then 1 else kp n cMost
def openF (t a b : Int) : Int := if stepsC a b = 0 then 0 else addC (one t - 1) (stepsC a b)
def brightF (d a b : Int) : Int := mulC (one d) (stepsC a b)
def windowsF (t d a l c n : Int) : Int := addC (openF t a l) (brightF d c n)
theorem kpk (n : Int) : kp (kp n cMost) cMost = kp n cMost := by have := kc n; exact kp_id _ _ this.1 this.2
theorem one_b (n : Int) : 1 ≤ one n ∧ one n ≤ 2147483647 := by
  have := kc n
  unfold one
  split
  · exact ⟨by decide, by decide⟩
  · rename_i h
    refine ⟨?_, this.2⟩
    rcases Int.lt_or_le cMost n with h2 | h2
    · rw [kp_big _ _ (by decide) (by omega)]; decide
    · rw [kp_id _ _ (by omega) h2]; omega
theorem one_max (n : Int) : kp (if n < 1 then 1 else n) cMost = one n := by
  unfold one; split
  · decide
  · rfl
theorem stepsC_b (a b : Int) : 0 ≤ stepsC a b ∧ stepsC a b ≤ 2147483647 := by
  have h1 := kc a; have h2 := kc b; unfold stepsC; split <;> omega
theorem addC0 (x : Int) (h : 0 ≤ x) (h2 : x ≤ 2147483647) : addC 0 x = x := by rw [addC_id 0 x (by decide) h (by omega)]; omega
theorem subC1 (n : Int) : subC (one n) 1 = one n - 1 := by
  have h := one_b n
  have e1 : kp (one n) cMost = one n := kp_id _ _ (by omega) (by unfold cMost; omega)
  have e2 : kp 1 cMost = 1 := by decide
  unfold subC; rw [e1, e2]
  exact kp_id _ _ (by omega) (by unfold cMost; omega)
theorem openF_b (t a b : Int) : 0 ≤ openF t a b ∧ openF t a b ≤ 2147483647 := by
  unfold openF; split
  · exact ⟨by decide, by decide⟩
  · exact addC_b _ _
theorem brightF_b (d a b : Int) : 0 ≤ brightF d a b ∧ brightF d a b ≤ 2147483647 := mulC_b _ _
theorem mul_one (d x : Int) : mulC (if d < 1 then 1 else d) x = mulC (one d) x := by
  unfold mulC
  have h := one_b d
  rw [one_max, kp_id (one d) cMost (by omega) (by unfold cMost; omega)]
theorem sum_two (x y : Int) (h : 0 ≤ x) (h2 : x ≤ 2147483647) : sumC [x, y] = addC x y := by
  show addC (addC 0 x) y = _
  rw [addC0 x h h2]
theorem addC_mono (a b c d : Int) (h : a ≤ b) (k : c ≤ d) : addC a c ≤ addC b d := by
  have h1 := kp_mono a b cMost h
  have h2 := kp_mono c d cMost k
  exact kp_mono _ _ _ (by omega)
theorem mulC_mono (a c d : Int) (k : c ≤ d) : mulC a c ≤ mulC a d := by
  have h1 := kc a
  have h2 := kp_mono c d cMost k
  exact kp_mono _ _ _ (Int.mul_le_mul_of_nonneg_left h2 h1.1)
theorem stepsC_mono (a b l : Int) (h : a ≤ b) : stepsC b l ≤ stepsC a l := by
  have h1 := kp_mono a b cMost h
  unfold stepsC; split <;> split <;> omega
theorem openF_mono (t a b l : Int) (h : a ≤ b) : openF t b l ≤ openF t a l := by
  have h1 := stepsC_mono a b l h
  have h2 := stepsC_b a l
  have h3 := stepsC_b b l
  have h4 := openF_b t a l
  unfold openF at *
  by_cases hz : stepsC b l = 0
  · rw [if_pos hz]; exact h4.1
  · rw [if_neg hz, if_neg (by omega)]
    exact addC_mono _ _ _ _ (Int.le_refl _) h1
theorem brightF_mono (d a b n : Int) (h : a ≤ b) : brightF d b n ≤ brightF d a n := mulC_mono _ _ _ (stepsC_mono a b n h)
theorem windowsF_mono (t d a b l c e n : Int) (h : a ≤ b) (k : c ≤ e) : windowsF t d b l e n ≤ windowsF t d a l c n :=
  addC_mono _ _ _ _ (openF_mono t a b l h) (brightF_mono d c e n k)
theorem stepsC_zero (a b : Int) (h : b ≤ a) : stepsC a b = 0 := by
  have := kp_mono b a cMost h; unfold stepsC; rw [if_neg (by omega)]
theorem stepsC_pos (a b : Int) (h0 : 0 ≤ a) (h : a < b) (hb : b ≤ 2147483647) : 1 ≤ stepsC a b := by
  have e1 : kp a cMost = a := kp_id _ _ h0 (by unfold cMost; omega)
  have e2 : kp b cMost = b := kp_id _ _ (by omega) (by unfold cMost; omega)
  unfold stepsC; rw [e1, e2, if_pos h]; omega
theorem kp_pos (x : Int) (h : 1 ≤ x) : 1 ≤ kp x cMost := by
  rcases Int.lt_or_le cMost x with h2 | h2
  · rw [kp_big _ _ (by decide) (by omega)]; decide
  · rw [kp_id _ _ (by omega) h2]; omega
theorem addC_pos (a b : Int) (hs : 1 ≤ a ∨ 1 ≤ b) : 1 ≤ addC a b := by
  have h1 := kc a; have h2 := kc b
  refine kp_pos _ ?_
  rcases hs with hs | hs
  · have := kp_pos a hs; omega
  · have := kp_pos b hs; omega
theorem windows_zero (t d a l c n : Int) (h : l ≤ a) (k : n ≤ c) : windowsF t d a l c n = 0 := by
  have h1 := stepsC_zero a l h
  have h2 := stepsC_zero c n k
  unfold windowsF openF brightF
  rw [h1, h2, if_pos rfl]
  have : mulC (one d) 0 = 0 := by unfold mulC; rw [show kp 0 cMost = 0 by decide, Int.mul_zero]; decide
  rw [this]; decide
theorem windows_pos (t d a l c n : Int) (ha : 0 ≤ a) (hc : 0 ≤ c) (hl : l ≤ 2147483647) (hn : n ≤ 2147483647) (h : a < l ∨ c < n) : 1 ≤ windowsF t d a l c n := by
  refine addC_pos _ _ ?_
  rcases h with h | h
  · left
    have h3 := stepsC_pos a l ha h hl
    unfold openF
    rw [if_neg (by omega)]
    exact addC_pos _ _ (Or.inr h3)
  · right
    have h3 := stepsC_pos c n hc h hn
    have h4 := one_b d
    have h5 := kp_pos (stepsC c n) h3
    have h6 := kp_pos (one d) h4.1
    have h7 : 1 ≤ kp (one d) cMost * kp (stepsC c n) cMost := by
      have := Int.mul_le_mul h6 h5 (by decide) (by omega)
      simpa using this
    exact kp_pos _ h7
end Cm
end Go.Proofs.Ytombgaiebjffcaa
