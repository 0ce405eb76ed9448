/-
  The law QueueNobody of layer 13: the call comes to true.
-/
import Derived.Test.YtgdcpdhcnjmfcaaT13F
import Derived.Test.YtgdcpdhcnjmfcaaAEIn
namespace Go.Proofs.Ytgdcpdhcnjmfcaa
set_option maxRecDepth 100000
open Go.RowKit AE
theorem w_QueueNobody (w : World) (a b c d e f g n : Int) (_ : (Lit.int .i64 n).wf = true) :
    Calls Try.prog 5 #[.agg #[.int .i64 a, .int .i64 b, .int .i64 c, .int .i64 d, .int .i64 e, .int .i64 f, .int .i64 g], .int .i64 n] w fun e' w' => e' = .returned (.bool true) ∧ Below w.heap.size w w' :=
  law_true (fs_nobody13 a b c d e f g n) w _ (ro_none _ _) (.cons (.v _) (.cons (.v _) .nil))
end Go.Proofs.Ytgdcpdhcnjmfcaa
