/-
  Plain facts on layer 9: turns, and counts of classes.
-/
import Derived.Test.YtjppoiplcfifcaaBoundPlain
namespace Go.Proofs.Ytjppoiplcfifcaa
namespace Us
open Bd
def trn (r now : Int) : Int := kp now tMost / r
def nxt (r now : Int) : Int := kp ((trn r now + 1) * r) tMost
theorem trn_b (r now : Int) (hr : 1 ≤ r) (hr2 : r ≤ 1099511627776) : 0 ≤ trn r now ∧ trn r now ≤ 1099511627776 ∧ trn r now * r ≤ kp now tMost ∧ kp now tMost < (trn r now + 1) * r ∧ 0 ≤ (trn r now + 1) * r ∧ (trn r now + 1) * r ≤ 2199023255552 := by
  have h := kt now
  have a0 : 0 ≤ trn r now := Int.ediv_nonneg h.1 (by omega)
  have a1 : trn r now ≤ kp now tMost := Int.ediv_le_self _ h.1
  have a2 : trn r now * r ≤ kp now tMost := Int.ediv_mul_le _ (by omega)
  have a3 : kp now tMost < (trn r now + 1) * r := Int.lt_ediv_add_one_mul_self _ (by omega)
  refine ⟨a0, by omega, a2, a3, by omega, ?_⟩
  rw [Int.add_mul]; omega
theorem trn_same (r a b : Int) (h : kp a tMost = kp b tMost) : trn r a = trn r b := by unfold trn; rw [h]
/-- How many of a list are that number. -/
def cnt (c : Nat) (L : List Int) : Int := ((L.filter (· == (c : Int))).length : Nat)
theorem cnt_b (c : Nat) (L : List Int) : 0 ≤ cnt c L ∧ cnt c L ≤ L.length := by
  unfold cnt
  have := List.length_filter_le (· == (c : Int)) L
  omega
theorem cnt_snoc (c m : Nat) (L : List Int) : cnt c (L ++ [(m : Int)]) = if c = m then cnt c L + 1 else cnt c L := by
  unfold cnt
  rw [List.filter_append]
  by_cases h : c = m
  · subst h; simp
  · have : ((m : Int) == (c : Int)) = false := by simp; omega
    simp [this, h]
def cntL (n : Nat) (L : List Int) : List Int := (List.range n).map fun c => cnt c L
theorem cntL_len (n : Nat) (L : List Int) : (cntL n L).length = n := by unfold cntL; simp
theorem cntL_get (n : Nat) (L : List Int) (c : Nat) (h : c < n) : (cntL n L)[c]? = some (cnt c L) := by
  unfold cntL; rw [List.getElem?_map, List.getElem?_range h]; rfl
theorem cntL_set (n m : Nat) (L : List Int) : (cntL n L).set m (cnt m L + 1) = cntL n (L ++ [(m : Int)]) := by
  apply List.ext_getElem?
  intro i
  rcases Nat.lt_or_ge i n with h | h
  · rw [cntL_get _ _ _ h, cnt_snoc, List.getElem?_set]
    by_cases e : m = i
    · subst e; rw [if_pos rfl, if_pos rfl, if_pos (by rw [cntL_len]; exact h)]
    · rw [if_neg e, if_neg (Ne.symm e), cntL_get _ _ _ h]
  · rw [List.getElem?_eq_none (by rw [List.length_set, cntL_len]; exact h), List.getElem?_eq_none (by rw [cntL_len]; exact h)]
def vals (L : List Int) : List Value := L.map (Value.int .i64)
theorem vals_get {L : List Int} {i : Nat} {z : Int} (h : L[i]? = some z) : (vals L)[i]? = some (.int .i64 z) := by unfold vals; rw [List.getElem?_map, h]; rfl
theorem vals_set (L : List Int) (i : Nat) (z : Int) : (vals L).set i (.int .i64 z) = vals (L.set i z) := by unfold vals; rw [List.map_set]
def cntA (L : List Int) : Array Value := (vals (cntL 16 L)).toArray
theorem cntA_get (L : List Int) (c : Nat) (h : c < 16) : (cntA L)[c]? = some (.int .i64 (cnt c L)) := by
  unfold cntA; rw [List.getElem?_toArray]; exact vals_get (cntL_get _ _ _ h)
theorem cntA_set (L : List Int) (m : Nat) : (cntA L).setIfInBounds m (.int .i64 (cnt m L + 1)) = cntA (L ++ [(m : Int)]) := by
  unfold cntA
  rw [List.setIfInBounds_toArray, vals_set, cntL_set]
theorem cntA_nil : cntA [] = #[.int .i64 0, .int .i64 0, .int .i64 0, .int .i64 0, .int .i64 0, .int .i64 0, .int .i64 0, .int .i64 0, .int .i64 0, .int .i64 0, .int .i64 0, .int .i64 0, .int .i64 0, .int .i64 0, .int .i64 0, .int .i64 0] := rfl
theorem cntL_nil (n : Nat) : cntL n [] = List.replicate n 0 := by
  apply List.ext_getElem?
  intro i
  rcases Nat.lt_or_ge i n with h | h
  · rw [cntL_get _ _ _ h, List.getElem?_replicate, if_pos h]; rfl
  · rw [List.getElem?_eq_none (by rw [cntL_len]; exact h), List.getElem?_eq_none (by rw [List.length_replicate]; exact h)]
end Us
end Go.Proofs.Ytjppoiplcfifcaa
