/-
  Layer 13: QueueNobody comes to true.
-/
import Derived.Test.YtgdcpdhcnjmfcaaT13E
namespace Go.Proofs.Ytgdcpdhcnjmfcaa.AE
set_option maxRecDepth 100000
open Go.RowKit
theorem knownN13 : Known nro prN := by
  intro g p h
  unfold prN at h
  split at h <;> cases h
  refine pure_ok (fun us c hs => ?_) (has_fn (by kernel_rfl))
  unfold awakeS at hs
  split at hs
  · cases hs; exact fs_aw13
  · cases hs
theorem fs_nobody13 (a b c d e f g n : Int) : Fs Try.prog nro 5 [.v (.agg #[.int .i64 a, .int .i64 b, .int .i64 c, .int .i64 d, .int .i64 e, .int .i64 f, .int .i64 g]), .v (.int .i64 n)] (hp [] []) fun r _ => r = .v (.bool true) := by
  have hb : ((a == a) && ((b == b) && ((c == c) && ((d == d) && ((e == e) && ((f == f) && ((g == g) && true))))))) = true := by simp
  have tb := q_nb a b c d e f g n fun r _ => r = .v (.bool true)
  rw [hb] at tb
  simp only [cond_true] at tb
  refine Fs.of_call knownN13 tb ?_ flatQ
  refine holds_some ?_
  repeat' with_reducible refine And.intro ?_ ?_
  all_goals first
    | with_reducible exact trivial
    | with_reducible rfl
    | rfl
end Go.Proofs.Ytgdcpdhcnjmfcaa.AE
