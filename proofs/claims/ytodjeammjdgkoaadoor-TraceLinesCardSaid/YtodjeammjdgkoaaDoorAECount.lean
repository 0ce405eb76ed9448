/-
  How often a byte is in a text: by the library's contract.
-/
import Derived.Test.YtodjeammjdgkoaaDoorAEByte
import Derived.Test.YtodjeammjdgkoaaDoorShelf
namespace Go.Proofs.YtodjeammjdgkoaaDoor.AE
open Go.RowKit
def countP : List Value → Option (Value × Bool) := fun us => match us with
  | [.string s, .string c] => match c.data.toList with
    | [b] => some (.int .i64 (Lib.countByte s.data.toList b), true)
    | _ => none
  | _ => none
noncomputable def prC : FuncId → Option (List AV → AH → Ans) := fun g => match g with
  | _ => none
theorem knownC (ro : Nat → Option (List Value)) : Known ro prC := by
  intro g p h
  unfold prC at h
  cases h
end Go.Proofs.YtodjeammjdgkoaaDoor.AE
