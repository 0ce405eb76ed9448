/-
  Layer 5: awake; the law of numbers' texts.
-/
import Derived.Test.YtjnonfcemicmoaaDoorT05P
import Derived.Test.YtjnonfcemicmoaaDoorT05H
namespace Go.Proofs.YtjnonfcemicmoaaDoor.AE
open Go.RowKit
theorem fs_awake5 (tS tR : TypeId) (pS pR : Value) : Fs Tryd.prog (ro05 tS pS tR pR) 6 [] (hp [] []) fun r _ => r = .v (.bool true) :=
  Fs.of_call (knownC _) (t_awake tS tR pS pR fun r => r = .v (.bool true)) (by repeat' first | exact rfl | exact trivial | refine ⟨?_, ?_⟩)
theorem awake5_ok {tS tR : TypeId} {pS pR : Value} : ∀ args H r H', pure? awakeS args H = some (r, H') → HSound1 Tryd.prog (ro05 tS pS tR pR) 6 args H r H' := by
  refine pure_ok (fun us c hs => ?_) (has_fn (by kernel_rfl))
  unfold awakeS at hs
  split at hs
  · cases hs; exact fs_awake5 _ _ _ _
  · cases hs
def hexF (f : Int → ByteArray) : List Value → Option (Value × Bool) := fun us => match us with
  | [.int .u64 x] => some (.string (f x), decide (0 ≤ x ∧ x < 18446744073709551616))
  | _ => none
theorem hexF_eq : hexF hexS = hexP := rfl
noncomputable def prQ (f : Int → ByteArray) : FuncId → Option (List AV → AH → Ans) := fun g => match g with
  | 11 => some (pure? textP)
  | 7 => some (pure? parseP)
  | 13 => some (pure? (hexF f))
  | 9 => some (pure? phP)
  | 12 => some (pure? rtextP)
  | 8 => some (pure? rparseP)
  | 14 => some (pure? (hexF f))
  | 10 => some (pure? phP)
  | 6 => some (pure? awakeS)
  | _ => none
theorem knownQ {tS tR : TypeId} {pS pR : Value} : Known (ro05 tS pS tR pR) (prQ hexS) := by
  intro g p h
  unfold prQ at h
  split at h
  · cases h; exact text_ok
  · cases h; exact parse_ok
  · cases h; rw [hexF_eq]; exact hex_ok
  · cases h; exact ph_ok
  · cases h; exact rtext_ok _
  · cases h; exact rparse_ok _
  · cases h; rw [hexF_eq]; exact rhex_ok _
  · cases h; exact rph_ok _
  · cases h; exact awake5_ok
  · cases h
end Go.Proofs.YtjnonfcemicmoaaDoor.AE
