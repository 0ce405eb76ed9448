/-
  Plain facts on layer 14: the greatest wait, and the verdict of a mean.
-/
import Derived.Test.YtcfncfmfmekeoaaBoundPlain
namespace Go.Proofs.Ytcfncfmfmekeoaa
namespace Ld
open Bd
def worC (a t : Int) : Int := if kp t cMost ≤ a then a else kp t cMost
theorem worC_b (a t : Int) (h : 0 ≤ a ∧ a ≤ 2147483647) : 0 ≤ worC a t ∧ worC a t ≤ 2147483647 := by
  have := kc t; unfold worC; split <;> omega
def worL (l : List Int) : Int := l.foldl worC 0
theorem worL_snoc (l : List Int) (k : Nat) (h : k < l.length) : worL (l.take (k + 1)) = worC (worL (l.take k)) l[k] := by
  unfold worL
  rw [List.take_succ_eq_append_getElem h, List.foldl_append]
  simp
def judC (m lo hi : Int) : Int := if hi < m then 1 else if m < lo then 2 else 0
end Ld
end Go.Proofs.Ytcfncfmfmekeoaa
