/-
  The contract of the sum of layer 1.
-/
import Derived.Test.YtnkfibkmjmnhjaaBound
namespace Go.Proofs.Ytnkfibkmjmnhjaa
open Go.RowKit Bd
end Go.Proofs.Ytnkfibkmjmnhjaa
