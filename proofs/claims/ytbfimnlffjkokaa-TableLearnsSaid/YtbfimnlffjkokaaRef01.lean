/-
  The contracts of the plain answers of layer 1 (package lockkeeperref01), as far as they are there.
-/
import Derived.Test.YtbfimnlffjkokaaMem
import Derived.Test.YtbfimnlffjkokaaBoundPlain
namespace Go.Proofs.Ytbfimnlffjkokaa
open Go.RowKit Bd
theorem rkeep_any (n m : Int) (w : World) :
    Calls Try.prog 24 #[.int .i64 n, .int .i64 m] w fun e w' => e = .returned (.int .i64 (kp n m)) ∧ w = w' := by
  go_enter Try.func24, Try.ntmps24
  go_wp2
  all_goals
    go_ret
    exact ⟨ret_int (by unfold kp; (repeat' split at *) <;> omega), rfl⟩
theorem rtick_any (n : Int) (w : World) :
    Calls Try.prog 18 #[.int .i64 n] w fun e w' => e = .returned (.int .i64 (kp n tMost)) ∧ w = w' := by
  go_enter Try.func18, Try.ntmps18
  go_wp2_with (go_at_call 24; refine (rkeep_any _ tMost _).mono ?_; rintro e w' ⟨rfl, rfl⟩)
  go_ret
  exact ⟨rfl, rfl⟩
theorem rleft_any (a b : Int) (w : World) :
    Calls Try.prog 21 #[.int .i64 a, .int .i64 b] w fun e w' => e = .returned (.int .i64 (leftT a b)) ∧ w = w' := by
  have h1 := (kt a).1
  have h2 := (kt a).2
  have h3 := (kt b).1
  have h4 := (kt b).2
  go_enter Try.func21, Try.ntmps21
  go_wp2_with (go_at_call 18; refine (rtick_any _ _).mono ?_; rintro e w' ⟨rfl, rfl⟩)
  go_ret
  exact ⟨rfl, rfl⟩
end Go.Proofs.Ytbfimnlffjkokaa
