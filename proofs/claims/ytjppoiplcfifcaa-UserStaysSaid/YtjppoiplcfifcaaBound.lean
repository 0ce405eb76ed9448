/-
  The contracts of the functions of layer 1.
-/
import Derived.Test.YtjppoiplcfifcaaMem
import Derived.Test.YtjppoiplcfifcaaBoundPlain
namespace Go.Proofs.Ytjppoiplcfifcaa
open Go.RowKit Bd
theorem clamp1_any (n m : Int) (a : Addr) (w : World) (hc : w.cell? a = some (.int .i64 m)) :
    Calls Try.prog 26 #[.int .i64 n, .pointer (some a)] w fun e w' => e = .returned (.int .i64 (kp n m)) ∧ w = w' := by
  go_enter Try.func26, Try.ntmps26
  go_wp2
  all_goals
    go_ret
    exact ⟨ret_int (by unfold kp; (repeat' split at *) <;> omega), rfl⟩

theorem clamp_any (m : Int) (w : World) :
    Calls Try.prog 23 #[.int .i64 m] w fun e w' => e = .returned (.func (.func 26) #[] #[.pointer (some ⟨w.heap.size, 0, none⟩)]) ∧ w.alloc (.cells #[.int .i64 m] 3) = w' := by
  have hmf := mf_any
  go_enter Try.func23, Try.ntmps23
  go_wp2
  go_ret
  exact ⟨rfl, rfl⟩

theorem keep_any (n m : Int) (w : World) :
    Calls Try.prog 18 #[.int .i64 n, .int .i64 m] w fun e w' => e = .returned (.int .i64 (kp n m)) ∧ Below w.heap.size w w' := by
  have hmf := mf_any
  go_enter Try.func18, Try.ntmps18
  go_wp2_with (first | (go_at_call 26; refine (clamp1_any _ m _ _ (by go_simp)).mono ?_; rintro e w' ⟨rfl, rfl⟩) | go_in)
  go_ret
  exact ⟨rfl, (Below.refl _ _).alloc (Nat.le_refl _) _⟩




end Go.Proofs.Ytjppoiplcfifcaa
