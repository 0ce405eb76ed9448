/-
  The contracts of the functions of layer 1.
-/
import Derived.Test.YtbfimnlffjkokaaMem
import Derived.Test.YtbfimnlffjkokaaBoundPlain
namespace Go.Proofs.Ytbfimnlffjkokaa
open Go.RowKit Bd
theorem clamp1_any (n m : Int) (a : Addr) (w : World) (hc : w.cell? a = some (.int .i64 m)) :
    Calls Try.prog 28 #[.int .i64 n, .pointer (some a)] w fun e w' => e = .returned (.int .i64 (kp n m)) ∧ w = w' := by
  go_enter Try.func28, Try.ntmps28
  go_wp2
  all_goals
    go_ret
    exact ⟨ret_int (by unfold kp; (repeat' split at *) <;> omega), rfl⟩

theorem clamp_any (m : Int) (w : World) :
    Calls Try.prog 25 #[.int .i64 m] w fun e w' => e = .returned (.func (.func 28) #[] #[.pointer (some ⟨w.heap.size, 0, none⟩)]) ∧ w.alloc (.cells #[.int .i64 m] 3) = w' := by
  have hmf := mf_any
  go_enter Try.func25, Try.ntmps25
  go_wp2
  go_ret
  exact ⟨rfl, rfl⟩

theorem keep_any (n m : Int) (w : World) :
    Calls Try.prog 20 #[.int .i64 n, .int .i64 m] w fun e w' => e = .returned (.int .i64 (kp n m)) ∧ Below w.heap.size w w' := by
  have hmf := mf_any
  go_enter Try.func20, Try.ntmps20
  go_wp2_with (first | (go_at_call 28; refine (clamp1_any _ m _ _ (by go_simp)).mono ?_; rintro e w' ⟨rfl, rfl⟩) | go_in)
  go_ret
  exact ⟨rfl, (Below.refl _ _).alloc (Nat.le_refl _) _⟩

theorem doLeft_any (a b : Int) (h1 : -1099511627776 ≤ a - b) (h2 : a - b ≤ 4611686014132420609) (w : World) :
    Calls Try.prog 27 #[.int .i64 a, .int .i64 b] w fun e w' => e = .returned (.int .i64 (a - b)) ∧ w = w' := by
  go_enter Try.func27, Try.ntmps27
  go_wp2
  go_ret
  exact ⟨rfl, rfl⟩
theorem pairLeft_any (a b : Int) (w : World) :
    Calls Try.prog 26 #[.int .i64 1099511627776, .int .i64 a, .int .i64 b, .func (.func 27) #[] #[]] w fun e w' => e = .returned (.int .i64 (leftT a b)) ∧ Below w.heap.size w w' := by
  have h1 := (kt a).1
  have h2 := (kt a).2
  have h3 := (kt b).1
  have h4 := (kt b).2
  go_enter Try.func26, Try.ntmps26
  go_wp2_with (first | (go_at_call 25; refine (clamp_any _ _).mono ?_; rintro e w' ⟨rfl, rfl⟩) | (go_at_call 28; refine (clamp1_any _ tMost _ _ (by go_simp; rfl)).mono ?_; rintro e w' ⟨rfl, rfl⟩) | (go_at_call 27; refine (doLeft_any _ _ (by omega) (by omega) _).mono ?_; rintro e w' ⟨rfl, rfl⟩))
  go_ret
  exact ⟨rfl, (Below.refl _ _).alloc (Nat.le_refl _) _⟩
theorem left_any (a b : Int) (w : World) :
    Calls Try.prog 22 #[.int .i64 a, .int .i64 b] w fun e w' => e = .returned (.int .i64 (leftT a b)) ∧ Below w.heap.size w w' := by
  go_enter Try.func22, Try.ntmps22
  go_wp2_with (go_at_call 26; refine (pairLeft_any _ _ _).mono ?_; rintro e w' ⟨rfl, hb⟩)
  go_ret
  exact ⟨rfl, hb⟩



end Go.Proofs.Ytbfimnlffjkokaa
