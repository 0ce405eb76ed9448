/-
  Layer 3: what is sealed, and opened.
-/
import Derived.Test.YtimocgjeikgilaaT03G
import Derived.Test.YtimocgjeikgilaaAEOct
import Derived.Test.YtimocgjeikgilaaSealPlain
namespace Go.Proofs.Ytimocgjeikgilaa.AE
open Go.RowKit Cr Oc
theorem rmore_ok (ro : Nat → Option (List Value)) : ∀ args H r H', pure? moreP args H = some (r, H') → HSound1 Try.prog ro 28 args H r H' := by
  refine pure_ok (fun us c hs => Fs.ro ?_ ro) (has_fn (by kernel_rfl))
  unfold moreP at hs
  split at hs
  · rename_i n s
    simp only [Option.some.injEq, Prod.mk.injEq, decide_eq_true_eq] at hs
    obtain ⟨rfl, h⟩ := hs
    exact fs_rmore n s h
  · cases hs
noncomputable def prK : FuncId → Option (List AV → AH → Ans) := fun g => match g with
  | 27 => some (pure? moreP)
  | 28 => some (pure? moreP)
  | 21 => some (pure? putP)
  | 23 => some (pure? numP)
  | 25 => some (pure? ofP)
  | _ => none
theorem knownK (ro : Nat → Option (List Value)) : Known ro prK := by
  intro g p h
  unfold prK at h
  split at h
  · cases h; exact more_ok _
  · cases h; exact rmore_ok _
  · cases h; exact put_ok _
  · cases h; exact num_ok _
  · cases h; exact of_ok _
  · cases h
theorem t_seal (s : ByteArray) (Φ : AV → Prop) : callK nro (fun _ => false) prK 5 16 [.v (.string s)] (hp [] []) (fun r h => some (h.cd ∧ Φ r)) =
    (some ((cdb (cdb True (decide ((ByteArray.size s) ≤ (100000 : Nat)))) (decide ((ByteArray.size s) ≤ (70368744177664 : Nat)))) ∧ (Φ (AV.v (Value.string (putS s ((Cr.bytL (65535 : Nat) (bytsOf s)) : Int) (2 : Int))))))) := by kernel_rfl
theorem t_rseal (s : ByteArray) (Φ : AV → Prop) : callK nro (fun _ => false) prK 5 17 [.v (.string s)] (hp [] []) (fun r h => some (h.cd ∧ Φ r)) =
    (some ((cdb (cdb (cdb True (decide ((ByteArray.size s) ≤ (100000 : Nat)))) (decide (((Cr.bytL (65535 : Nat) (bytsOf s)) : Int) ≤ (9223372036854775807 : Int)))) (decide (((ByteArray.size s) + (ByteArray.size (numStr ((Cr.bytL (65535 : Nat) (bytsOf s)) : Int) (2 : Int)))) ≤ (9223372036854775807 : Nat)))) ∧ (Φ (AV.v (Value.string (s ++ (numStr ((Cr.bytL (65535 : Nat) (bytsOf s)) : Int) (2 : Int)))))))) := by kernel_rfl
theorem t_ropen (s : ByteArray) (Φ : AV → Prop) : callK nro (fun _ => false) prK 5 20 [.v (.string s)] (hp [] []) (fun r h => some (h.cd ∧ Φ r)) =
    (bif (decide (((ByteArray.size s) : Int) < (2 : Int))) then (some (True ∧ (Φ (AV.v (Value.tuple #[(Value.string (ByteArray.mk (Array.mk (@List.nil UInt8)))), (Value.int IntKind.i64 (3 : Int))]))))) else (bif (((Cr.bytL (65535 : Nat) (bytsOf (ByteArray.extract s (0 : Nat) (Int.toNat (IntKind.wrap IntKind.i64 (((ByteArray.size s) : Int) - (2 : Int))))))) : Int) != ((Oc.num (Array.toList (ByteArray.data (ByteArray.extract s (Int.toNat (IntKind.wrap IntKind.i64 (((ByteArray.size s) : Int) - (2 : Int)))) (Int.toNat ((ByteArray.size s) : Int)))))) : Int)) then (some ((cdb (cdb (cdb (cdb True (decide (((0 : Int) ≤ (0 : Int)) ∧ (((0 : Int) ≤ (IntKind.wrap IntKind.i64 (((ByteArray.size s) : Int) - (2 : Int)))) ∧ ((IntKind.wrap IntKind.i64 (((ByteArray.size s) : Int) - (2 : Int))) ≤ ((ByteArray.size s) : Int)))))) (decide ((ByteArray.size (ByteArray.extract s (0 : Nat) (Int.toNat (IntKind.wrap IntKind.i64 (((ByteArray.size s) : Int) - (2 : Int)))))) ≤ (100000 : Nat)))) (decide (((0 : Int) ≤ (IntKind.wrap IntKind.i64 (((ByteArray.size s) : Int) - (2 : Int)))) ∧ (((IntKind.wrap IntKind.i64 (((ByteArray.size s) : Int) - (2 : Int))) ≤ ((ByteArray.size s) : Int)) ∧ (((ByteArray.size s) : Int) ≤ ((ByteArray.size s) : Int)))))) (decide ((ByteArray.size (ByteArray.extract s (Int.toNat (IntKind.wrap IntKind.i64 (((ByteArray.size s) : Int) - (2 : Int)))) (Int.toNat ((ByteArray.size s) : Int)))) ≤ (6 : Nat)))) ∧ (Φ (AV.v (Value.tuple #[(Value.string (ByteArray.mk (Array.mk (@List.nil UInt8)))), (Value.int IntKind.i64 (4 : Int))]))))) else (some ((cdb (cdb (cdb (cdb (cdb True (decide (((0 : Int) ≤ (0 : Int)) ∧ (((0 : Int) ≤ (IntKind.wrap IntKind.i64 (((ByteArray.size s) : Int) - (2 : Int)))) ∧ ((IntKind.wrap IntKind.i64 (((ByteArray.size s) : Int) - (2 : Int))) ≤ ((ByteArray.size s) : Int)))))) (decide ((ByteArray.size (ByteArray.extract s (0 : Nat) (Int.toNat (IntKind.wrap IntKind.i64 (((ByteArray.size s) : Int) - (2 : Int)))))) ≤ (100000 : Nat)))) (decide (((0 : Int) ≤ (IntKind.wrap IntKind.i64 (((ByteArray.size s) : Int) - (2 : Int)))) ∧ (((IntKind.wrap IntKind.i64 (((ByteArray.size s) : Int) - (2 : Int))) ≤ ((ByteArray.size s) : Int)) ∧ (((ByteArray.size s) : Int) ≤ ((ByteArray.size s) : Int)))))) (decide ((ByteArray.size (ByteArray.extract s (Int.toNat (IntKind.wrap IntKind.i64 (((ByteArray.size s) : Int) - (2 : Int)))) (Int.toNat ((ByteArray.size s) : Int)))) ≤ (6 : Nat)))) (decide (((0 : Int) ≤ (0 : Int)) ∧ (((0 : Int) ≤ (IntKind.wrap IntKind.i64 (((ByteArray.size s) : Int) - (2 : Int)))) ∧ ((IntKind.wrap IntKind.i64 (((ByteArray.size s) : Int) - (2 : Int))) ≤ ((ByteArray.size s) : Int)))))) ∧ (Φ (AV.v (Value.tuple #[(Value.string (ByteArray.extract s (0 : Nat) (Int.toNat (IntKind.wrap IntKind.i64 (((ByteArray.size s) : Int) - (2 : Int)))))), (Value.int IntKind.i64 (0 : Int))]))))))) := by kernel_rfl
end Go.Proofs.Ytimocgjeikgilaa.AE
