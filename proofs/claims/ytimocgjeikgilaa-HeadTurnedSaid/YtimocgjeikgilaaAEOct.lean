/-
  What is known of numbers as bytes, for the abstract run.
-/
import Derived.Test.YtimocgjeikgilaaAEData
import Derived.Test.YtimocgjeikgilaaL02
namespace Go.Proofs.Ytimocgjeikgilaa.AE
open Go.RowKit Oc
def putP : List Value → Option (Value × Bool) := fun us => match us with
  | [.string s, .int .i64 n, .int .i64 m] => some (.tuple #[.string (putS s n m), .int .i64 (putE n m)], decide (s.size ≤ 70368744177664))
  | _ => none
theorem put_ok (ro : Nat → Option (List Value)) : ∀ args H r H', pure? putP args H = some (r, H') → HSound1 Try.prog ro 21 args H r H' := by
  refine pure_of_calls (has_fn (by kernel_rfl)) fun us c h W _ => ?_
  unfold putP at h
  split at h
  · simp only [Option.some.injEq, Prod.mk.injEq] at h
    obtain ⟨rfl, hb⟩ := h
    exact put_any _ _ _ (of_decide_eq_true hb) W
  · cases h
def numP : List Value → Option (Value × Bool) := fun us => match us with
  | [.int .i64 n, .int .i64 m] => some (.tuple #[.string (numStr n m), .bool (fits n m)], decide (n ≤ 9223372036854775807))
  | _ => none
theorem num_ok (ro : Nat → Option (List Value)) : ∀ args H r H', pure? numP args H = some (r, H') → HSound1 Try.prog ro 23 args H r H' := by
  refine pure_of_calls (has_fn (by kernel_rfl)) fun us c h W _ => ?_
  unfold numP at h
  split at h
  · simp only [Option.some.injEq, Prod.mk.injEq] at h
    obtain ⟨rfl, hb⟩ := h
    exact number_any _ _ (of_decide_eq_true hb) W
  · cases h
def ofP : List Value → Option (Value × Bool) := fun us => match us with
  | [.string d] => some (.int .i64 (num d.data.toList), decide (d.size ≤ 6))
  | _ => none
theorem of_ok (ro : Nat → Option (List Value)) : ∀ args H r H', pure? ofP args H = some (r, H') → HSound1 Try.prog ro 25 args H r H' := by
  refine pure_of_calls (has_fn (by kernel_rfl)) fun us c h W _ => ?_
  unfold ofP at h
  split at h
  · simp only [Option.some.injEq, Prod.mk.injEq] at h
    obtain ⟨rfl, hb⟩ := h
    refine (of_any _ (of_decide_eq_true hb) W).mono ?_
    rintro e w' ⟨he, rfl⟩
    exact ⟨he, Below.refl _ _⟩
  · cases h
end Go.Proofs.Ytimocgjeikgilaa.AE
