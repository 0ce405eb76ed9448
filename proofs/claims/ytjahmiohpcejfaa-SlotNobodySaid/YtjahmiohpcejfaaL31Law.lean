/-
  The law SlotNobody of layer 31: the call comes to true.
-/
import Derived.Test.YtjahmiohpcejfaaT31
import Derived.Test.YtjahmiohpcejfaaAgg
namespace Go.Proofs.Ytjahmiohpcejfaa
open Go.RowKit AE
theorem w_SlotNobody (w : World) (a b c d e f g now : Int) (_ : (Lit.int .i64 now).wf = true) : Calls Try.prog 5 #[.agg #[.int .i64 a, .int .i64 b, .int .i64 c, .int .i64 d, .int .i64 e, .int .i64 f, .int .i64 g], .int .i64 now] w fun e w' => e = .returned (.bool true) ∧ Below w.heap.size w w' := by
  let h : Nat → Int := fun i => [a, b, c, d, e, f, g].getD i 0
  refine law_true (ro := nro) (args := [item h, .v (.int .i64 now)]) ?_ w _ (ro_none _ _) (.cons (.v _) (.cons (.v _) .nil))
  cases now with
  | ofNat n => exact Fs.of_call known31 (t_nobody1 h n fun r => r = .v (.bool true)) ⟨trivial, rfl⟩
  | negSucc n =>
    refine Fs.of_call known31 (t_nobody2 h n fun r => r = .v (.bool true)) (holds_bif (fun _ => ⟨trivial, rfl⟩) fun hn => ?_)
    have := of_decide_eq_false hn
    omega
end Go.Proofs.Ytjahmiohpcejfaa
