/-
  Layer 24: what the functions come to.
-/
import Derived.Test.YtkaodceeiagflaaDoorAEOct
namespace Go.Proofs.YtkaodceeiagflaaDoor.AE
open Go.RowKit Oc
def ro24 : Nat → Option (List Value) := fun b => match b with
  | 0 => some ([6, 1, 1, 1, 6, 2].map fun (n : Int) => .int .i64 n)
  | _ => none
theorem t24 : ends (run ro24 (fun _ => false) (fun _ => none) 10 11 [] H0) true = (true = true ∧ True) := by kernel_rfl
noncomputable def prA : FuncId → Option (List AV → AH → Ans) := fun g => match g with
  | 14 => some (pure? putP)
  | 19 => some (own? (takeP 54))
  | 23 => some (pure? numP)
  | 26 => some (pure? ofP)
  | 11 => some (pure? awakeS)
  | _ => none
theorem knownA : Known ro24 prA := by
  intro g p h
  unfold prA at h
  split at h
  · cases h; exact put_ok _
  · cases h; exact take_ok _
  · cases h; exact num_ok _
  · cases h; exact of_ok _
  · cases h; exact awake_ok (d := 10) (by rw [t24]; exact ⟨rfl, trivial⟩) (has_fn (by kernel_rfl))
  · cases h
def req (f : Nat → Int) : AV := .v (.agg #[.int .i64 (f 0), .int .i64 (f 1), .int .i64 (f 2), .int .i64 (f 3), .int .i64 (f 4), .int .i64 (f 5)])
theorem t_check (f : Nat → Int) (Φ : AV → Prop) : callK ro24 (fun _ => false) prA 10 8 [req f] (hp [] []) (fun r h => some (h.cd ∧ Φ r)) =
    (bif (decide ((0 : Int) ≤ (f (0 : Nat)))) then (bif (decide ((f (0 : Nat)) ≤ (281474976710655 : Int))) then (bif (decide ((-(1 : Int)) ≤ (f (1 : Nat)))) then (bif (decide ((f (1 : Nat)) ≤ (7 : Int))) then (bif (decide ((0 : Int) ≤ (f (2 : Nat)))) then (bif (decide ((f (2 : Nat)) ≤ (7 : Int))) then (bif ((f (2 : Nat)) != (f (1 : Nat))) then (bif (decide ((0 : Int) ≤ (f (3 : Nat)))) then (bif (decide ((f (3 : Nat)) ≤ (127 : Int))) then (bif (decide ((0 : Int) ≤ (f (4 : Nat)))) then (bif (decide ((f (4 : Nat)) ≤ (1099511627776 : Int))) then (bif (decide ((0 : Int) ≤ (f (5 : Nat)))) then (bif (decide ((f (5 : Nat)) ≤ (65535 : Int))) then (some (True ∧ (Φ (AV.v (Value.int IntKind.i64 (0 : Int)))))) else (some (True ∧ (Φ (AV.v (Value.int IntKind.i64 (1 : Int))))))) else (some (True ∧ (Φ (AV.v (Value.int IntKind.i64 (1 : Int))))))) else (some (True ∧ (Φ (AV.v (Value.int IntKind.i64 (1 : Int))))))) else (some (True ∧ (Φ (AV.v (Value.int IntKind.i64 (1 : Int))))))) else (some (True ∧ (Φ (AV.v (Value.int IntKind.i64 (1 : Int))))))) else (some (True ∧ (Φ (AV.v (Value.int IntKind.i64 (1 : Int))))))) else (some (True ∧ (Φ (AV.v (Value.int IntKind.i64 (1 : Int))))))) else (some (True ∧ (Φ (AV.v (Value.int IntKind.i64 (1 : Int))))))) else (some (True ∧ (Φ (AV.v (Value.int IntKind.i64 (1 : Int))))))) else (some (True ∧ (Φ (AV.v (Value.int IntKind.i64 (1 : Int))))))) else (some (True ∧ (Φ (AV.v (Value.int IntKind.i64 (1 : Int))))))) else (some (True ∧ (Φ (AV.v (Value.int IntKind.i64 (1 : Int))))))) else (some (True ∧ (Φ (AV.v (Value.int IntKind.i64 (1 : Int))))))) := by kernel_rfl
theorem t_rcheck (f : Nat → Int) (Φ : AV → Prop) : callK ro24 (fun _ => false) prA 10 9 [req f] (hp [] []) (fun r h => some (h.cd ∧ Φ r)) =
    (bif (decide ((f (0 : Nat)) < (0 : Int))) then (some (True ∧ (Φ (AV.v (Value.int IntKind.i64 (1 : Int)))))) else (bif (decide ((281474976710655 : Int) < (f (0 : Nat)))) then (some (True ∧ (Φ (AV.v (Value.int IntKind.i64 (1 : Int)))))) else (bif (decide ((f (1 : Nat)) < (-(1 : Int)))) then (some (True ∧ (Φ (AV.v (Value.int IntKind.i64 (1 : Int)))))) else (bif (decide ((7 : Int) < (f (1 : Nat)))) then (some (True ∧ (Φ (AV.v (Value.int IntKind.i64 (1 : Int)))))) else (bif (decide ((f (2 : Nat)) < (0 : Int))) then (some (True ∧ (Φ (AV.v (Value.int IntKind.i64 (1 : Int)))))) else (bif (decide ((7 : Int) < (f (2 : Nat)))) then (some (True ∧ (Φ (AV.v (Value.int IntKind.i64 (1 : Int)))))) else (bif ((f (2 : Nat)) == (f (1 : Nat))) then (some (True ∧ (Φ (AV.v (Value.int IntKind.i64 (1 : Int)))))) else (bif (decide ((f (3 : Nat)) < (0 : Int))) then (some (True ∧ (Φ (AV.v (Value.int IntKind.i64 (1 : Int)))))) else (bif (decide ((127 : Int) < (f (3 : Nat)))) then (some (True ∧ (Φ (AV.v (Value.int IntKind.i64 (1 : Int)))))) else (bif (decide ((f (4 : Nat)) < (0 : Int))) then (some (True ∧ (Φ (AV.v (Value.int IntKind.i64 (1 : Int)))))) else (bif (decide ((1099511627776 : Int) < (f (4 : Nat)))) then (some (True ∧ (Φ (AV.v (Value.int IntKind.i64 (1 : Int)))))) else (bif (decide ((f (5 : Nat)) < (0 : Int))) then (some (True ∧ (Φ (AV.v (Value.int IntKind.i64 (1 : Int)))))) else (bif (decide ((65535 : Int) < (f (5 : Nat)))) then (some (True ∧ (Φ (AV.v (Value.int IntKind.i64 (1 : Int)))))) else (some (True ∧ (Φ (AV.v (Value.int IntKind.i64 (0 : Int))))))))))))))))))) := by kernel_rfl
end Go.Proofs.YtkaodceeiagflaaDoor.AE
