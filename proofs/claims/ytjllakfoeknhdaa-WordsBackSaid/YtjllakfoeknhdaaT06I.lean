/-
  Layer 6: awake, as a tree.
-/
import Derived.Test.YtjllakfoeknhdaaT06H
namespace Go.Proofs.Ytjllakfoeknhdaa.AE
open Go.RowKit
theorem t_awake (Φ : AV → Prop) : callK nro (fun _ => false) (prW linesS wordsS (fun s => plainL s.data.toList) cutA cutB cutK joinX findN findB sameX) 8 6 [] (hp [] []) (fun r h => some (h.cd ∧ Φ r)) =
    (some (True ∧ (Φ (AV.v (Value.bool true))))) := by kernel_rfl
end Go.Proofs.Ytjllakfoeknhdaa.AE
