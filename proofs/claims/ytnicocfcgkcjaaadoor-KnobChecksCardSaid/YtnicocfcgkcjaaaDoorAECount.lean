/-
  How often a byte is in a text: by the library's contract.
-/
import Derived.Test.YtnicocfcgkcjaaaDoorAEByte
import Derived.Test.YtnicocfcgkcjaaaDoorShelf
namespace Go.Proofs.YtnicocfcgkcjaaaDoor.AE
open Go.RowKit
def countP : List Value → Option (Value × Bool) := fun us => match us with
  | [.string s, .string c] => match c.data.toList with
    | [b] => some (.int .i64 (Lib.countByte s.data.toList b), true)
    | _ => none
  | _ => none
noncomputable def prC : FuncId → Option (List AV → AH → Ans) := fun g => match g with
  | 54 => some (pure? idxP)
  | _ => none
theorem knownC (ro : Nat → Option (List Value)) : Known ro prC := by
  intro g p h
  unfold prC at h
  split at h
  · cases h; exact idx_ok _
  · cases h
end Go.Proofs.YtnicocfcgkcjaaaDoor.AE
