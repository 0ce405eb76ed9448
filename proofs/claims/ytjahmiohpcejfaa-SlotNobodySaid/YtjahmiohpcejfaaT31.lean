/-
  Layer 31: what awake and SlotNobody come to.
-/
import Derived.Test.YtjahmiohpcejfaaAETr
namespace Go.Proofs.Ytjahmiohpcejfaa.AE
open Go.RowKit
theorem t31 : ends (run nro (fun _ => false) (fun _ => none) 10 6 [] H0) true = (true = true ∧ True) := by kernel_rfl
noncomputable def pr31 : FuncId → Option (List AV → AH → Ans) := fun g => match g with
  | 6 => some (pure? awakeS)
  | _ => none
theorem known31 : Known nro pr31 := by
  intro g p h
  unfold pr31 at h
  split at h
  · cases h; exact awake_ok (mu := fun _ => false) (d := 10) (by rw [t31]; exact ⟨rfl, trivial⟩) (has_fn (by kernel_rfl))
  · cases h
def item (f : Nat → Int) : AV := .v (.agg #[.int .i64 (f 0), .int .i64 (f 1), .int .i64 (f 2), .int .i64 (f 3), .int .i64 (f 4), .int .i64 (f 5), .int .i64 (f 6)])
theorem t_nobody1 (f : Nat → Int) (n : Nat) (Φ : AV → Prop) : callK nro (fun _ => false) pr31 10 5 [item f, .v (.int .i64 (Int.ofNat n))] (hp [] []) (fun r h => some (h.cd ∧ Φ r)) =
    (some (True ∧ (Φ (AV.v (Go.Value.bool true))))) := by kernel_rfl
theorem t_nobody2 (f : Nat → Int) (n : Nat) (Φ : AV → Prop) : callK nro (fun _ => false) pr31 10 5 [item f, .v (.int .i64 (Int.negSucc n))] (hp [] []) (fun r h => some (h.cd ∧ Φ r)) =
    (bif (decide ((Int.negSucc n) < (0 : Int))) then (some (True ∧ (Φ (AV.v (Go.Value.bool true))))) else (some (False ∧ (Φ (AV.v (Go.Value.bool true)))))) := by kernel_rfl
end Go.Proofs.Ytjahmiohpcejfaa.AE
