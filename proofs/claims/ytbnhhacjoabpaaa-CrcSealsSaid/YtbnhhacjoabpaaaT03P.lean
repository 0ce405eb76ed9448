/-
  Layer 3: the law on what is sealed.
-/
import Derived.Test.YtbnhhacjoabpaaaT03O
namespace Go.Proofs.Ytbnhhacjoabpaaa.AE
open Go.RowKit Cr Oc
theorem awake03 : ends (run nro (fun _ => false) (fun _ => none) 12 6 [] H0) true := by
  have : ends (run nro (fun _ => false) (fun _ => none) 12 6 [] H0) true = (true = true ∧ True) := by kernel_rfl
  rw [this]; exact ⟨rfl, trivial⟩
noncomputable def prS : FuncId → Option (List AV → AH → Ans) := fun g => match g with
  | 9 => some (pure? moreP)
  | 10 => some (pure? moreP)
  | 11 => some (pure? sealP)
  | 16 => some (pure? sealP)
  | 12 => some (pure? openP)
  | 13 => some (pure? openP)
  | 14 => some (pure? apP)
  | 15 => some (pure? apP)
  | 6 => some (pure? awakeS)
  | _ => none
theorem knownS : Known nro prS := by
  intro g p h
  unfold prS at h
  split at h
  · cases h; exact more_ok _
  · cases h; exact rmore_ok _
  · cases h; exact seal_ok _
  · cases h; exact rseal_ok _
  · cases h; exact open_ok _
  · cases h; exact ropen_ok _
  · cases h; exact apart_ok _
  · cases h; exact rapart_ok _
  · cases h; exact awake_ok awake03 (has_fn (by kernel_rfl))
  · cases h
theorem t_seals (a b : ByteArray) (Φ : AV → Prop) : callK nro (fun _ => false) prS 5 4 [.v (.string a), .v (.string b)] (hp [] []) (fun r h => some (h.cd ∧ Φ r)) =
    (bif (decide ((300 : Int) < ((ByteArray.size a) : Int))) then (some (True ∧ (Φ (AV.v (Value.bool true))))) else (bif (decide ((300 : Int) < ((ByteArray.size b) : Int))) then (some (True ∧ (Φ (AV.v (Value.bool true))))) else (bif ((ByteArray.toList (sealS a)) == (ByteArray.toList (sealS a))) then (bif (((Cr.bytL (65535 : Nat) (bytsOf (sealS a))) : Int) == (0 : Int)) then (bif ((ByteArray.toList (openS (sealS a))) == (ByteArray.toList a)) then (bif ((openE (sealS a)) == (0 : Int)) then (bif ((ByteArray.toList (openS b)) == (ByteArray.toList (openS b))) then (bif ((openE b) == (openE b)) then (bif ((apN a b) == (apN a b)) then (bif ((apB a b) == (apB a b)) then (some ((cdb (cdb (cdb (cdb (cdb (cdb (cdb (cdb True (decide ((ByteArray.size a) ≤ (100000 : Nat)))) (decide ((ByteArray.size (sealS a)) ≤ (100000 : Nat)))) (decide ((ByteArray.size b) ≤ (100000 : Nat)))) (decide ((ByteArray.size b) ≤ (100000 : Nat)))) (decide (((ByteArray.size a) ≤ (100000 : Nat)) ∧ ((ByteArray.size b) ≤ (100000 : Nat))))) (decide (((ByteArray.size a) ≤ (100000 : Nat)) ∧ ((ByteArray.size b) ≤ (100000 : Nat))))) (decide ((ByteArray.size a) ≤ (100000 : Nat)))) (decide ((ByteArray.size (sealS a)) ≤ (100000 : Nat)))) ∧ (Φ (AV.v (Value.bool true))))) else (some ((cdb (cdb (cdb (cdb (cdb (cdb (cdb (cdb True (decide ((ByteArray.size a) ≤ (100000 : Nat)))) (decide ((ByteArray.size (sealS a)) ≤ (100000 : Nat)))) (decide ((ByteArray.size b) ≤ (100000 : Nat)))) (decide ((ByteArray.size b) ≤ (100000 : Nat)))) (decide (((ByteArray.size a) ≤ (100000 : Nat)) ∧ ((ByteArray.size b) ≤ (100000 : Nat))))) (decide (((ByteArray.size a) ≤ (100000 : Nat)) ∧ ((ByteArray.size b) ≤ (100000 : Nat))))) (decide ((ByteArray.size a) ≤ (100000 : Nat)))) (decide ((ByteArray.size (sealS a)) ≤ (100000 : Nat)))) ∧ (Φ (AV.v (Value.bool false)))))) else (some ((cdb (cdb (cdb (cdb (cdb (cdb (cdb (cdb True (decide ((ByteArray.size a) ≤ (100000 : Nat)))) (decide ((ByteArray.size (sealS a)) ≤ (100000 : Nat)))) (decide ((ByteArray.size b) ≤ (100000 : Nat)))) (decide ((ByteArray.size b) ≤ (100000 : Nat)))) (decide (((ByteArray.size a) ≤ (100000 : Nat)) ∧ ((ByteArray.size b) ≤ (100000 : Nat))))) (decide (((ByteArray.size a) ≤ (100000 : Nat)) ∧ ((ByteArray.size b) ≤ (100000 : Nat))))) (decide ((ByteArray.size a) ≤ (100000 : Nat)))) (decide ((ByteArray.size (sealS a)) ≤ (100000 : Nat)))) ∧ (Φ (AV.v (Value.bool false)))))) else (some ((cdb (cdb (cdb (cdb (cdb (cdb (cdb (cdb True (decide ((ByteArray.size a) ≤ (100000 : Nat)))) (decide ((ByteArray.size (sealS a)) ≤ (100000 : Nat)))) (decide ((ByteArray.size b) ≤ (100000 : Nat)))) (decide ((ByteArray.size b) ≤ (100000 : Nat)))) (decide (((ByteArray.size a) ≤ (100000 : Nat)) ∧ ((ByteArray.size b) ≤ (100000 : Nat))))) (decide (((ByteArray.size a) ≤ (100000 : Nat)) ∧ ((ByteArray.size b) ≤ (100000 : Nat))))) (decide ((ByteArray.size a) ≤ (100000 : Nat)))) (decide ((ByteArray.size (sealS a)) ≤ (100000 : Nat)))) ∧ (Φ (AV.v (Value.bool false)))))) else (some ((cdb (cdb (cdb (cdb (cdb (cdb (cdb (cdb True (decide ((ByteArray.size a) ≤ (100000 : Nat)))) (decide ((ByteArray.size (sealS a)) ≤ (100000 : Nat)))) (decide ((ByteArray.size b) ≤ (100000 : Nat)))) (decide ((ByteArray.size b) ≤ (100000 : Nat)))) (decide (((ByteArray.size a) ≤ (100000 : Nat)) ∧ ((ByteArray.size b) ≤ (100000 : Nat))))) (decide (((ByteArray.size a) ≤ (100000 : Nat)) ∧ ((ByteArray.size b) ≤ (100000 : Nat))))) (decide ((ByteArray.size a) ≤ (100000 : Nat)))) (decide ((ByteArray.size (sealS a)) ≤ (100000 : Nat)))) ∧ (Φ (AV.v (Value.bool false)))))) else (some ((cdb (cdb (cdb (cdb (cdb (cdb (cdb (cdb True (decide ((ByteArray.size a) ≤ (100000 : Nat)))) (decide ((ByteArray.size (sealS a)) ≤ (100000 : Nat)))) (decide ((ByteArray.size b) ≤ (100000 : Nat)))) (decide ((ByteArray.size b) ≤ (100000 : Nat)))) (decide (((ByteArray.size a) ≤ (100000 : Nat)) ∧ ((ByteArray.size b) ≤ (100000 : Nat))))) (decide (((ByteArray.size a) ≤ (100000 : Nat)) ∧ ((ByteArray.size b) ≤ (100000 : Nat))))) (decide ((ByteArray.size a) ≤ (100000 : Nat)))) (decide ((ByteArray.size (sealS a)) ≤ (100000 : Nat)))) ∧ (Φ (AV.v (Value.bool false)))))) else (some ((cdb (cdb (cdb (cdb (cdb (cdb (cdb (cdb True (decide ((ByteArray.size a) ≤ (100000 : Nat)))) (decide ((ByteArray.size (sealS a)) ≤ (100000 : Nat)))) (decide ((ByteArray.size b) ≤ (100000 : Nat)))) (decide ((ByteArray.size b) ≤ (100000 : Nat)))) (decide (((ByteArray.size a) ≤ (100000 : Nat)) ∧ ((ByteArray.size b) ≤ (100000 : Nat))))) (decide (((ByteArray.size a) ≤ (100000 : Nat)) ∧ ((ByteArray.size b) ≤ (100000 : Nat))))) (decide ((ByteArray.size a) ≤ (100000 : Nat)))) (decide ((ByteArray.size (sealS a)) ≤ (100000 : Nat)))) ∧ (Φ (AV.v (Value.bool false)))))) else (some ((cdb (cdb (cdb (cdb (cdb (cdb (cdb (cdb True (decide ((ByteArray.size a) ≤ (100000 : Nat)))) (decide ((ByteArray.size (sealS a)) ≤ (100000 : Nat)))) (decide ((ByteArray.size b) ≤ (100000 : Nat)))) (decide ((ByteArray.size b) ≤ (100000 : Nat)))) (decide (((ByteArray.size a) ≤ (100000 : Nat)) ∧ ((ByteArray.size b) ≤ (100000 : Nat))))) (decide (((ByteArray.size a) ≤ (100000 : Nat)) ∧ ((ByteArray.size b) ≤ (100000 : Nat))))) (decide ((ByteArray.size a) ≤ (100000 : Nat)))) (decide ((ByteArray.size (sealS a)) ≤ (100000 : Nat)))) ∧ (Φ (AV.v (Value.bool false)))))) else (some ((cdb (cdb (cdb (cdb (cdb (cdb (cdb True (decide ((ByteArray.size a) ≤ (100000 : Nat)))) (decide ((ByteArray.size (sealS a)) ≤ (100000 : Nat)))) (decide ((ByteArray.size b) ≤ (100000 : Nat)))) (decide ((ByteArray.size b) ≤ (100000 : Nat)))) (decide (((ByteArray.size a) ≤ (100000 : Nat)) ∧ ((ByteArray.size b) ≤ (100000 : Nat))))) (decide (((ByteArray.size a) ≤ (100000 : Nat)) ∧ ((ByteArray.size b) ≤ (100000 : Nat))))) (decide ((ByteArray.size a) ≤ (100000 : Nat)))) ∧ (Φ (AV.v (Value.bool false)))))))) := by kernel_rfl
end Go.Proofs.Ytbnhhacjoabpaaa.AE
