/-
  Plain facts on layer 3: how far two texts are apart.
-/
import Derived.Test.YtbnhhacjoabpaaaRegPlain
namespace Go.Proofs.Ytbnhhacjoabpaaa
namespace Cr
/-- A bit further: the first and the last one that are unlike. -/
def apStep (p : Int × Int) (k : Nat) (d : Bool) : Int × Int := if d then (if p.1 < 0 then (k : Int) else p.1, (k : Int)) else p
def apS (D : List Bool) : Nat → Int × Int
  | 0 => (-1, -2)
  | k + 1 => apStep (apS D k) k (D.getD k false)
def fT : List Bool → Nat
  | [] => 0
  | d :: l => if d then 0 else fT l + 1
def lT : List Bool → Nat
  | [] => 0
  | _ :: l => if l.any id then lT l + 1 else 0
def runL (p : Int × Int) (base : Nat) : List Bool → Int × Int
  | [] => p
  | d :: l => runL (apStep p base d) (base + 1) l
theorem runL_eq : ∀ (l : List Bool) (p : Int × Int) (base : Nat), runL p base l = if l.any id then (if p.1 < 0 then ((base + fT l : Nat) : Int) else p.1, ((base + lT l : Nat) : Int)) else p
  | [], p, base => rfl
  | d :: l, p, base => by
    show runL (apStep p base d) (base + 1) l = _
    rw [runL_eq l]
    cases d with
    | false =>
      have e : apStep p base false = p := rfl
      have e2 : (false :: l).any id = l.any id := by simp
      rw [e, e2]
      cases h : l.any id with
      | false => rfl
      | true =>
        have e3 : fT (false :: l) = fT l + 1 := rfl
        have e4 : lT (false :: l) = lT l + 1 := by show (if l.any id then _ else _) = _; rw [h]; rfl
        rw [e3, e4]
        simp only [if_true]
        have a1 : base + 1 + fT l = base + (fT l + 1) := by omega
        have a2 : base + 1 + lT l = base + (lT l + 1) := by omega
        rw [a1, a2]
    | true =>
      have e : apStep p base true = (if p.1 < 0 then (base : Int) else p.1, (base : Int)) := rfl
      have e2 : (true :: l).any id = true := by simp
      have e3 : fT (true :: l) = 0 := rfl
      rw [e, e2, e3]
      have hn : ¬ (if p.1 < 0 then (base : Int) else p.1) < 0 := by split <;> omega
      cases h : l.any id with
      | false =>
        have e4 : lT (true :: l) = 0 := by show (if l.any id then _ else _) = _; rw [h]; rfl
        rw [e4]; rfl
      | true =>
        have e4 : lT (true :: l) = lT l + 1 := by show (if l.any id then _ else _) = _; rw [h]; rfl
        rw [e4]
        simp only [if_true, if_neg hn]
        have a2 : base + 1 + lT l = base + (lT l + 1) := by omega
        rw [a2]; rfl
theorem runL_apS (D : List Bool) (l : List Bool) (k : Nat) (h : ∀ i, i < l.length → D.getD (k + i) false = l.getD i false) : runL (apS D k) k l = apS D (k + l.length) := by
  induction l generalizing k with
  | nil => rfl
  | cons d l ih =>
    have h0 : D.getD k false = d := by have := h 0 (by simp); simpa using this
    show runL (apStep (apS D k) k d) (k + 1) l = _
    have e : apStep (apS D k) k d = apS D (k + 1) := by show _ = apStep (apS D k) k (D.getD k false); rw [h0]
    rw [e, ih (k + 1) (fun i hi => by
      have := h (i + 1) (by simp; omega)
      rw [show k + 1 + i = k + (i + 1) by omega, this]; simp)]
    rw [List.length_cons]; congr 1; omega
def lzV (u : Nat) : Nat := if u = 0 then 8 else fT (bitsB u)
def tzV (u : Nat) : Nat := if u = 0 then 8 else 7 - lT (bitsB u)
theorem byte_any : ∀ u, u < 256 → (bitsB u).any id = !decide (u = 0) := by decide +kernel
theorem byte_lt : ∀ u, u < 256 → lT (bitsB u) ≤ 7 := by decide +kernel
theorem ap_byte (D : List Bool) (j u : Nat) (hu : u < 256) (h : ∀ i, i < 8 → D.getD (8 * j + i) false = bitN u i) :
    apS D (8 * (j + 1)) = if u = 0 then apS D (8 * j) else (if (apS D (8 * j)).1 < 0 then ((8 * j + lzV u : Nat) : Int) else (apS D (8 * j)).1, ((8 * j + 7 - tzV u : Nat) : Int)) := by
  have hr := runL_apS D (bitsB u) (8 * j) (fun i hi => by
    have hi : i < 8 := hi
    rw [h i hi]
    have : i = 0 ∨ i = 1 ∨ i = 2 ∨ i = 3 ∨ i = 4 ∨ i = 5 ∨ i = 6 ∨ i = 7 := by omega
    rcases this with h | h | h | h | h | h | h | h <;> subst h <;> rfl)
  rw [show 8 * j + (bitsB u).length = 8 * (j + 1) from rfl, runL_eq, byte_any u hu] at hr
  rw [← hr]
  have hl := byte_lt u hu
  unfold lzV tzV
  by_cases h0 : u = 0
  · simp [h0]
  · simp only [h0, decide_false, Bool.not_false, if_true, if_false]
    have a2 : 8 * j + lT (bitsB u) = 8 * j + 7 - (7 - lT (bitsB u)) := by omega
    rw [a2]
/-- The first one is below zero as long as there is none; else the last one is not below it. -/
theorem ap_rng (D : List Bool) : ∀ k, ((apS D k).1 = -1 ∧ (apS D k).2 = -2) ∨ (0 ≤ (apS D k).1 ∧ (apS D k).1 ≤ (apS D k).2 ∧ (apS D k).2 < k)
  | 0 => .inl ⟨rfl, rfl⟩
  | k + 1 => by
    have ih := ap_rng D k
    show ((apStep (apS D k) k (D.getD k false)).1 = _ ∧ (apStep (apS D k) k (D.getD k false)).2 = _) ∨ (0 ≤ (apStep (apS D k) k (D.getD k false)).1 ∧ (apStep (apS D k) k (D.getD k false)).1 ≤ (apStep (apS D k) k (D.getD k false)).2 ∧ (apStep (apS D k) k (D.getD k false)).2 < ((k + 1 : Nat) : Int))
    unfold apStep
    generalize apS D k = p at ih
    cases D.getD k false with
    | false => simp only [Bool.false_eq_true, if_false]; rcases ih with ih | ih
               · exact .inl ih
               · exact .inr ⟨ih.1, ih.2.1, by omega⟩
    | true =>
      simp only [if_true]
      refine .inr ?_
      split <;> (refine ⟨?_, ?_, ?_⟩ <;> omega)
def unl (l m : List Bool) : List Bool := List.zipWith (· != ·) l m
theorem unl_get (l m : List Bool) (i : Nat) (hl : i < l.length) (hm : i < m.length) : (unl l m).getD i false = (l.getD i false != m.getD i false) := by
  unfold unl
  rw [List.getD_eq_getElem?_getD, List.getD_eq_getElem?_getD, List.getD_eq_getElem?_getD, List.getElem?_zipWith, List.getElem?_eq_getElem hl, List.getElem?_eq_getElem hm]
  rfl
theorem xor_bit : ∀ i, i < 8 → ∀ a, a < 256 → ∀ b, b < 256 → bitN (a ^^^ b) i = (bitN a i != bitN b i) := by
  intro i hi a ha b hb
  have h : ∀ x, bitN x i = x.testBit (7 - i) := by
    intro x
    unfold bitN
    rw [Nat.testBit_eq_decide_div_mod_eq]
  rw [h, h, h, Nat.testBit_xor]
end Cr
end Go.Proofs.Ytbnhhacjoabpaaa
