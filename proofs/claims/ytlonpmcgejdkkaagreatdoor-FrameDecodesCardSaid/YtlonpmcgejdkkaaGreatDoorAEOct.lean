/-
  What is known of numbers as bytes, for the abstract run.
-/
import Derived.Test.YtlonpmcgejdkkaaGreatDoorAEData
import Derived.Test.YtlonpmcgejdkkaaGreatDoorOctetRead
import Derived.Test.YtlonpmcgejdkkaaGreatDoorL02
namespace Go.Proofs.YtlonpmcgejdkkaaGreatDoor.AE
set_option maxRecDepth 100000
open Go.RowKit Oc
def putP : List Value → Option (Value × Bool) := fun us => match us with
  | [.string s, .int .i64 n, .int .i64 m] => some (.tuple #[.string (putS s n m), .int .i64 (putE n m)], decide (s.size ≤ 70368744177664))
  | _ => none
theorem put_ok (ro : Nat → Option (List Value)) : ∀ args H r H', pure? putP args H = some (r, H') → HSound1 Tryz.prog ro 67 args H r H' := by
  refine pure_of_calls (has_fn (by kernel_rfl)) fun us c h W _ => ?_
  unfold putP at h
  split at h
  · simp only [Option.some.injEq, Prod.mk.injEq] at h
    obtain ⟨rfl, hb⟩ := h
    exact put_any _ _ _ (of_decide_eq_true hb) W
  · cases h
def takeP (T : TypeId) : TypeId → List Value → List Value → Option (Value × List Value × Bool) := fun t cs us => match cs, us with
  | [.string r], [.int .i64 n] => match decide (t = T) with
    | true => some (.tuple #[.int .i64 (takeN r n), .int .i64 (takeE r n)], [.string (takeR r n)], decide (r.size ≤ maxLen))
    | false => none
  | _, _ => none
theorem take_ok (ro : Nat → Option (List Value)) : ∀ args H r H', own? (takeP 116) args H = some (r, H') → HSound1 Tryz.prog ro 50 args H r H' := by
  refine own_ok (has_fn (by kernel_rfl)) fun t cs us c cs' h => ?_
  unfold takeP at h
  split at h
  · split at h
    · rename_i ht
      have ht := of_decide_eq_true ht
      subst ht
      simp only [Option.some.injEq, Prod.mk.injEq] at h
      obtain ⟨rfl, rfl, hb⟩ := h
      refine ⟨rfl, fun W b _ hW => ?_⟩
      refine (take_any (g := b) _ W ⟨hW, of_decide_eq_true hb⟩).mono ?_
      rintro e w' ⟨he, hc, hg⟩
      exact ⟨he, hg, hc.1⟩
    · cases h
  · cases h
def numP : List Value → Option (Value × Bool) := fun us => match us with
  | [.int .i64 n, .int .i64 m] => some (.tuple #[.string (numStr n m), .bool (fits n m)], decide (n ≤ 9223372036854775807))
  | _ => none
theorem num_ok (ro : Nat → Option (List Value)) : ∀ args H r H', pure? numP args H = some (r, H') → HSound1 Tryz.prog ro 70 args H r H' := by
  refine pure_of_calls (has_fn (by kernel_rfl)) fun us c h W _ => ?_
  unfold numP at h
  split at h
  · simp only [Option.some.injEq, Prod.mk.injEq] at h
    obtain ⟨rfl, hb⟩ := h
    exact number_any _ _ (of_decide_eq_true hb) W
  · cases h
def ofP : List Value → Option (Value × Bool) := fun us => match us with
  | [.string d] => some (.int .i64 (num d.data.toList), decide (d.size ≤ 6))
  | _ => none
theorem of_ok (ro : Nat → Option (List Value)) : ∀ args H r H', pure? ofP args H = some (r, H') → HSound1 Tryz.prog ro 83 args H r H' := by
  refine pure_of_calls (has_fn (by kernel_rfl)) fun us c h W _ => ?_
  unfold ofP at h
  split at h
  · simp only [Option.some.injEq, Prod.mk.injEq] at h
    obtain ⟨rfl, hb⟩ := h
    refine (of_any _ (of_decide_eq_true hb) W).mono ?_
    rintro e w' ⟨he, rfl⟩
    exact ⟨he, Below.refl _ _⟩
  · cases h
end Go.Proofs.YtlonpmcgejdkkaaGreatDoor.AE
