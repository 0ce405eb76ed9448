/-
  Where a byte is in a text: a library's function for which the model stands in.
-/
import Derived.Test.YtodjeammjdgkoaaDoorAETr
import Derived.Test.YtodjeammjdgkoaaDoorAEData
import Derived.Lib.Bytealg
import Derived.Laws.Externs
namespace Go.Proofs.YtodjeammjdgkoaaDoor.AE
open Go.RowKit
def idxP : List Value → Option (Value × Bool) := fun us => match us with
  | [.string s, .int .u8 c] => some (.int .i64 (Lib.indexByte s.data.toList c.toNat.toUInt8), true)
  | _ => none
noncomputable def prX : FuncId → Option (List AV → AH → Ans) := fun g => match g with
  | _ => none
theorem knownX (ro : Nat → Option (List Value)) : Known ro prX := by
  intro g p h
  unfold prX at h
  cases h
end Go.Proofs.YtodjeammjdgkoaaDoor.AE
