/-
  The law SeenNobody of layer 7: the call comes to true.
-/
import Derived.Test.YtkpgldafkbhngaaT07NC
import Derived.Test.YtkpgldafkbhngaaAEIn
namespace Go.Proofs.Ytkpgldafkbhngaa
set_option maxRecDepth 100000
open Go.RowKit AE
theorem w_SeenNobody (w : World) (n : Int) (_ : (Lit.int .i64 n).wf = true) :
    Calls Try.prog 5 #[.int .i64 n] w fun e w' => e = .returned (.bool true) ∧ Below w.heap.size w w' :=
  law_true (fs_sn n) w _ (ro_none _ _) (.cons (.v _) .nil)
end Go.Proofs.Ytkpgldafkbhngaa
