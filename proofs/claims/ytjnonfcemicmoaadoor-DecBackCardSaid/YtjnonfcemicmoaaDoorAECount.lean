/-
  How often a byte is in a text: by the library's contract.
-/
import Derived.Test.YtjnonfcemicmoaaDoorAEByte
import Derived.Test.YtjnonfcemicmoaaDoorShelf
namespace Go.Proofs.YtjnonfcemicmoaaDoor.AE
open Go.RowKit
def countP : List Value → Option (Value × Bool) := fun us => match us with
  | [.string s, .string c] => match c.data.toList with
    | [b] => some (.int .i64 (Lib.countByte s.data.toList b), true)
    | _ => none
  | _ => none
theorem count_ok (ro : Nat → Option (List Value)) : ∀ args H r H', pure? countP args H = some (r, H') → HSound1 Tryd.prog ro 40 args H r H' := by
  refine pure_of_calls (has_fn (by kernel_rfl)) fun us c h W _ => ?_
  unfold countP at h
  split at h
  · rename_i s x
    split at h
    · rename_i b hb
      simp only [Option.some.injEq, Prod.mk.injEq] at h
      obtain ⟨rfl, _⟩ := h
      have hx : x = ⟨#[b]⟩ := ByteArray.ext (Array.toList_inj.1 hb)
      subst hx
      refine (Tryd.strings_Count_one s b W).mono ?_
      rintro e w' ⟨he, rfl⟩
      exact ⟨he, Below.refl _ _⟩
    · cases h
  · cases h
noncomputable def prC : FuncId → Option (List AV → AH → Ans) := fun g => match g with
  | 65 => some (pure? idxP)
  | 40 => some (pure? countP)
  | _ => none
theorem knownC (ro : Nat → Option (List Value)) : Known ro prC := by
  intro g p h
  unfold prC at h
  split at h
  · cases h; exact idx_ok _
  · cases h; exact count_ok _
  · cases h
end Go.Proofs.YtjnonfcemicmoaaDoor.AE
