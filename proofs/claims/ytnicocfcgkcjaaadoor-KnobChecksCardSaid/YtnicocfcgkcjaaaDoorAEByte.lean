/-
  Where a byte is in a text: a library's function for which the model stands in.
-/
import Derived.Test.YtnicocfcgkcjaaaDoorAETr
import Derived.Test.YtnicocfcgkcjaaaDoorAEData
import Derived.Lib.Bytealg
import Derived.Laws.Externs
namespace Go.Proofs.YtnicocfcgkcjaaaDoor.AE
open Go.RowKit
set_option maxHeartbeats 1000000 in
set_option maxRecDepth 100000 in
theorem idx_byte (s : ByteArray) (c : Int) (w : World) : Calls Tryd.prog 54 #[.string s, .int .u8 c] w fun e w' => e = .returned (.int .i64 (Lib.indexByte s.data.toList c.toNat.toUInt8)) ∧ w' = w := by
  go_enter Tryd.func54, Tryd.ntmps54
  go_wp2
  rw [run_callFunc_extern (f := 67) Tryd.func67 (by kernel_rfl) (by kernel_rfl) (by kernel_rfl) (e := Extern.BytealgIndexByte.indexByte) (by kernel_rfl), Lib.run_indexByteString]
  simp only [Result.andThen]
  rw [Oper.upon_value]
  go_wp2
  go_ret
  exact ⟨rfl, rfl⟩
def idxP : List Value → Option (Value × Bool) := fun us => match us with
  | [.string s, .int .u8 c] => some (.int .i64 (Lib.indexByte s.data.toList c.toNat.toUInt8), true)
  | _ => none
theorem idx_ok (ro : Nat → Option (List Value)) : ∀ args H r H', pure? idxP args H = some (r, H') → HSound1 Tryd.prog ro 54 args H r H' := by
  refine pure_of_calls (has_fn (by kernel_rfl)) fun us c h W _ => ?_
  unfold idxP at h
  split at h
  · simp only [Option.some.injEq, Prod.mk.injEq] at h
    obtain ⟨rfl, _⟩ := h
    refine (idx_byte _ _ W).mono ?_
    rintro e w' ⟨he, rfl⟩
    exact ⟨he, Below.refl _ _⟩
  · cases h
noncomputable def prX : FuncId → Option (List AV → AH → Ans) := fun g => match g with
  | 54 => some (pure? idxP)
  | _ => none
theorem knownX (ro : Nat → Option (List Value)) : Known ro prX := by
  intro g p h
  unfold prX at h
  split at h
  · cases h; exact idx_ok _
  · cases h
end Go.Proofs.YtnicocfcgkcjaaaDoor.AE
