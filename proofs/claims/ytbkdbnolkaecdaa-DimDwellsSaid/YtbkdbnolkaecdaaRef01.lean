/-
  The contracts of the plain answers of layer 1 (package lockkeeperref01), as far as they are there.
-/
import Derived.Test.YtbkdbnolkaecdaaMem
import Derived.Test.YtbkdbnolkaecdaaBoundPlain
namespace Go.Proofs.Ytbkdbnolkaecdaa
open Go.RowKit Bd
theorem rkeep_any (n m : Int) (w : World) :
    Calls Try.prog 25 #[.int .i64 n, .int .i64 m] w fun e w' => e = .returned (.int .i64 (kp n m)) ∧ w = w' := by
  go_enter Try.func25, Try.ntmps25
  go_wp2
  all_goals
    go_ret
    exact ⟨ret_int (by unfold kp; (repeat' split at *) <;> omega), rfl⟩
theorem rcount_any (n : Int) (w : World) :
    Calls Try.prog 19 #[.int .i64 n] w fun e w' => e = .returned (.int .i64 (kp n cMost)) ∧ w = w' := by
  go_enter Try.func19, Try.ntmps19
  go_wp2_with (go_at_call 25; refine (rkeep_any _ cMost _).mono ?_; rintro e w' ⟨rfl, rfl⟩)
  go_ret
  exact ⟨rfl, rfl⟩
theorem radd_any (a b : Int) (w : World) :
    Calls Try.prog 16 #[.int .i64 a, .int .i64 b] w fun e w' => e = .returned (.int .i64 (addC a b)) ∧ w = w' := by
  have h1 := (kc a).1
  have h2 := (kc a).2
  have h3 := (kc b).1
  have h4 := (kc b).2
  go_enter Try.func16, Try.ntmps16
  go_wp2_with (go_at_call 19; refine (rcount_any _ _).mono ?_; rintro e w' ⟨rfl, rfl⟩)
  go_ret
  exact ⟨rfl, rfl⟩
end Go.Proofs.Ytbkdbnolkaecdaa
