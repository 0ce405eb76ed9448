/-
  The contracts of the plain answers of layer 1 (package lockkeeperref01), as far as they are there.
-/
import Derived.Test.YtoenicanfaiceaaMem
import Derived.Test.YtoenicanfaiceaaBoundPlain
namespace Go.Proofs.Ytoenicanfaiceaa
open Go.RowKit Bd
theorem rsame_eq (a b : Option Addr) (cap cap' : Nat) (zs : List Int) (w : World) (hz : Ints w .i64 a zs) (hz' : Ints w .i64 b zs) (hl : zs.length ≤ 9223372036854775807) :
    Calls Try.prog 13 #[.slice a zs.length cap, .slice b zs.length cap'] w fun e w' => e = .returned (.bool true) ∧ Below w.heap.size w w' := by
  have HZ := Lib.hid hz
  have HZ' := Lib.hid hz'
  clear hz hz'
  go_enter Try.func13, Try.ntmps13
  go_wp2_with fail
  go_loopw [5] (fun i wr => ∃ k : Nat, k ≤ zs.length ∧ i = .int .i64 k ∧ Below w.heap.size w wr) (fun i _ => zs.length - (intOf i).toNat)
  case atStart => exact ⟨0, Nat.zero_le _, rfl, Below.refl _ _⟩
  case round =>
    obtain ⟨k, hk, rfl, hb⟩ := hrel
    by_cases hlt : k < zs.length
    · obtain ⟨b1, off1, ha1, hc1⟩ := (HZ.out.below hb).get hlt
      obtain ⟨b2, off2, ha2, hc2⟩ := (HZ'.out.below hb).get hlt
      subst ha1
      subst ha2
      have Hb := Lib.hid hb
      clear hb
      go_wp2_with fail
      go_quiet (fail)
      go_wp2_with fail
      go_roundw
      case rel => exact ⟨k + 1, by omega, by go_num, bl_drewN Hb.out _⟩
      case measure => simp [intOf]; omega
    · go_wp2_with fail
      go_ret
      exact ⟨rfl, hb⟩
end Go.Proofs.Ytoenicanfaiceaa
