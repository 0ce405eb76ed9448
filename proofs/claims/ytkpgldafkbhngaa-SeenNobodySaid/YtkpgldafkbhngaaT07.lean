/-
  Layer 7: what awake and SeenNobody come to.
-/
import Derived.Test.YtkpgldafkbhngaaAETr
namespace Go.Proofs.Ytkpgldafkbhngaa.AE
set_option maxRecDepth 100000
open Go.RowKit
theorem t07 : ends (run nro (fun _ => false) (fun _ => none) 10 6 [] H0) true = (true = true ∧ True) := by kernel_rfl
noncomputable def pr07 : FuncId → Option (List AV → AH → Ans) := fun g => match g with
  | 6 => some (pure? awakeS)
  | _ => none
theorem known07 : Known nro pr07 := by
  intro g p h
  unfold pr07 at h
  split at h
  · cases h; exact awake_ok (d := 10) (by rw [t07]; exact ⟨rfl, trivial⟩) (has_fn (by kernel_rfl))
  · cases h
theorem t_nobody (n : Int) (Φ : AV → Prop) : callK nro (fun _ => false) pr07 10 5 [.v (.int .i64 n)] (hp [] []) (fun r h => some (h.cd ∧ Φ r)) =
    none := by kernel_rfl
end Go.Proofs.Ytkpgldafkbhngaa.AE
