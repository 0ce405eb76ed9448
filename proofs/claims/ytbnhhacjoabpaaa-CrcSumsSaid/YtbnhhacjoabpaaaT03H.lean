/-
  Layer 3: the law on sums.
-/
import Derived.Test.YtbnhhacjoabpaaaT03G
namespace Go.Proofs.Ytbnhhacjoabpaaa.AE
open Go.RowKit Cr
theorem rmore_ok (ro : Nat → Option (List Value)) : ∀ args H r H', pure? moreP args H = some (r, H') → HSound1 Try.prog ro 10 args H r H' := by
  refine pure_ok (fun us c hs => Fs.ro ?_ ro) (has_fn (by kernel_rfl))
  unfold moreP at hs
  split at hs
  · rename_i n s
    simp only [Option.some.injEq, Prod.mk.injEq, decide_eq_true_eq] at hs
    obtain ⟨rfl, h⟩ := hs
    exact fs_rmore n s h
  · cases hs
theorem awake03 : ends (run nro (fun _ => false) (fun _ => none) 12 6 [] H0) true := by
  have : ends (run nro (fun _ => false) (fun _ => none) 12 6 [] H0) true = (true = true ∧ True) := by kernel_rfl
  rw [this]; exact ⟨rfl, trivial⟩
noncomputable def prS : FuncId → Option (List AV → AH → Ans) := fun g => match g with
  | 9 => some (pure? moreP)
  | 10 => some (pure? moreP)
  | 6 => some (pure? awakeS)
  | _ => none
theorem knownS : Known nro prS := by
  intro g p h
  unfold prS at h
  split at h
  · cases h; exact more_ok _
  · cases h; exact rmore_ok _
  · cases h; exact awake_ok awake03 (has_fn (by kernel_rfl))
  · cases h
theorem t_sums (a b : ByteArray) (n : Int) (Φ : AV → Prop) : callK nro (fun _ => false) prS 5 3 [.v (.string a), .v (.string b), .v (.int .i64 n)] (hp [] []) (fun r h => some (h.cd ∧ Φ r)) =
    (bif (decide ((300 : Int) < ((ByteArray.size a) : Int))) then (some (True ∧ (Φ (AV.v (Value.bool true))))) else (bif (decide ((300 : Int) < ((ByteArray.size b) : Int))) then (some (True ∧ (Φ (AV.v (Value.bool true))))) else (bif (((Cr.bytL (65535 : Nat) (bytsOf a)) : Int) == ((Cr.bytL (65535 : Nat) (bytsOf a)) : Int)) then (bif (((Cr.bytL (w16 n) (bytsOf b)) : Int) == ((Cr.bytL (w16 n) (bytsOf b)) : Int)) then (bif (((Cr.bytL (w16 ((Cr.bytL (65535 : Nat) (bytsOf a)) : Int)) (bytsOf b)) : Int) == ((Cr.bytL (65535 : Nat) (bytsOf (a ++ b))) : Int)) then (some ((cdb (cdb (cdb (cdb (cdb (cdb (cdb (cdb True (decide ((ByteArray.size a) ≤ (100000 : Nat)))) (decide ((ByteArray.size a) ≤ (100000 : Nat)))) (decide ((ByteArray.size b) ≤ (100000 : Nat)))) (decide ((ByteArray.size b) ≤ (100000 : Nat)))) (decide ((ByteArray.size a) ≤ (100000 : Nat)))) (decide ((ByteArray.size b) ≤ (100000 : Nat)))) (decide (((ByteArray.size a) + (ByteArray.size b)) ≤ (9223372036854775807 : Nat)))) (decide ((ByteArray.size (a ++ b)) ≤ (100000 : Nat)))) ∧ (Φ (AV.v (Value.bool true))))) else (some ((cdb (cdb (cdb (cdb (cdb (cdb (cdb (cdb True (decide ((ByteArray.size a) ≤ (100000 : Nat)))) (decide ((ByteArray.size a) ≤ (100000 : Nat)))) (decide ((ByteArray.size b) ≤ (100000 : Nat)))) (decide ((ByteArray.size b) ≤ (100000 : Nat)))) (decide ((ByteArray.size a) ≤ (100000 : Nat)))) (decide ((ByteArray.size b) ≤ (100000 : Nat)))) (decide (((ByteArray.size a) + (ByteArray.size b)) ≤ (9223372036854775807 : Nat)))) (decide ((ByteArray.size (a ++ b)) ≤ (100000 : Nat)))) ∧ (Φ (AV.v (Value.bool false)))))) else (some ((cdb (cdb (cdb (cdb True (decide ((ByteArray.size a) ≤ (100000 : Nat)))) (decide ((ByteArray.size a) ≤ (100000 : Nat)))) (decide ((ByteArray.size b) ≤ (100000 : Nat)))) (decide ((ByteArray.size b) ≤ (100000 : Nat)))) ∧ (Φ (AV.v (Value.bool false)))))) else (some ((cdb (cdb True (decide ((ByteArray.size a) ≤ (100000 : Nat)))) (decide ((ByteArray.size a) ≤ (100000 : Nat)))) ∧ (Φ (AV.v (Value.bool false)))))))) := by kernel_rfl
end Go.Proofs.Ytbnhhacjoabpaaa.AE
