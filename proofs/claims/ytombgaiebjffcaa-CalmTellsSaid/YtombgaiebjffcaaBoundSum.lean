/-
  The contract of the sum of layer 1.
-/
import Derived.Test.YtombgaiebjffcaaBound
namespace Go.Proofs.Ytombgaiebjffcaa
open Go.RowKit Bd
theorem sum_any (a : Option Addr) (cap : Nat) (zs : List Int) (w : World) (hz : Ints w .i64 a zs) (hl : zs.length ≤ 9223372036854775807) :
    Calls Try.prog 25 #[.slice a zs.length cap] w fun e w' => e = .returned (.int .i64 (sumC zs)) ∧ Below w.heap.size w w' := by
  go_enter Try.func25, Try.ntmps25
  go_wp2_with fail
  go_loopw [3, 5, 8] (fun s _ i wr => ∃ k : Nat, k ≤ zs.length ∧ i = .int .i64 k ∧ s = .int .i64 (sumC (zs.take k)) ∧ Below w.heap.size w wr) (fun _ _ i _ => zs.length - (intOf i).toNat)
  case atStart => exact ⟨0, Nat.zero_le _, rfl, rfl, Below.refl _ _⟩
  case round =>
    obtain ⟨k, hk, rfl, rfl, hb⟩ := hrel
    by_cases hlt : k < zs.length
    · obtain ⟨b, off, rfl, hc⟩ := (hz.below hb).get hlt
      have hs := Lib.hid (sumC_snoc zs k hlt)
      go_wp2_with fail
      refine (add_any _ _ _).mono ?_; rintro e w1 ⟨rfl, b1⟩
      go_wp2_with fail
      go_roundw
      case rel => exact ⟨k + 1, by omega, by go_num, by rw [hs.out], hb.trans (b1.mono hb.size)⟩
      case measure => simp [intOf]; omega
    · go_wp2_with fail
      go_ret
      exact ⟨ret_int (by rw [List.take_of_length_le (by omega)]), hb⟩
end Go.Proofs.Ytombgaiebjffcaa
