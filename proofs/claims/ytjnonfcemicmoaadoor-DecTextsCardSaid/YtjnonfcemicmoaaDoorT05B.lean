/-
  Layer 5: awake; the parts of the document's texts.
-/
import Derived.Test.YtjnonfcemicmoaaDoorT05
namespace Go.Proofs.YtjnonfcemicmoaaDoor.AE
open Go.RowKit
theorem t_awake (tS tR : TypeId) (pS pR : Value) (Φ : AV → Prop) : callK (ro05 tS pS tR pR) (fun _ => false) prC 14 6 [] (hp [] []) (fun r h => some (h.cd ∧ Φ r)) =
    (some (True ∧ (Φ (AV.v (Value.bool true))))) := by kernel_rfl
end Go.Proofs.YtjnonfcemicmoaaDoor.AE
