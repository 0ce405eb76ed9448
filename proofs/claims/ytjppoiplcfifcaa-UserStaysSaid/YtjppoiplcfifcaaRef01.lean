/-
  The contracts of the plain answers of layer 1 (package lockkeeperref01), as far as they are there.
-/
import Derived.Test.YtjppoiplcfifcaaMem
import Derived.Test.YtjppoiplcfifcaaBoundPlain
namespace Go.Proofs.Ytjppoiplcfifcaa
open Go.RowKit Bd
theorem rkeep_any (n m : Int) (w : World) :
    Calls Try.prog 21 #[.int .i64 n, .int .i64 m] w fun e w' => e = .returned (.int .i64 (kp n m)) ∧ w = w' := by
  go_enter Try.func21, Try.ntmps21
  go_wp2
  all_goals
    go_ret
    exact ⟨ret_int (by unfold kp; (repeat' split at *) <;> omega), rfl⟩
theorem rtick_any (n : Int) (w : World) :
    Calls Try.prog 14 #[.int .i64 n] w fun e w' => e = .returned (.int .i64 (kp n tMost)) ∧ w = w' := by
  go_enter Try.func14, Try.ntmps14
  go_wp2_with (go_at_call 21; refine (rkeep_any _ tMost _).mono ?_; rintro e w' ⟨rfl, rfl⟩)
  go_ret
  exact ⟨rfl, rfl⟩
theorem rsame_eq (a b : Option Addr) (cap cap' : Nat) (zs : List Int) (w : World) (hz : Ints w .i64 a zs) (hz' : Ints w .i64 b zs) (hl : zs.length ≤ 9223372036854775807) :
    Calls Try.prog 16 #[.slice a zs.length cap, .slice b zs.length cap'] w fun e w' => e = .returned (.bool true) ∧ Below w.heap.size w w' := by
  have HZ := Lib.hid hz
  have HZ' := Lib.hid hz'
  clear hz hz'
  go_enter Try.func16, Try.ntmps16
  go_wp2_with fail
  go_loopw [5] (fun i wr => ∃ k : Nat, k ≤ zs.length ∧ i = .int .i64 k ∧ Below w.heap.size w wr) (fun i _ => zs.length - (intOf i).toNat)
  case atStart => exact ⟨0, Nat.zero_le _, rfl, Below.refl _ _⟩
  case round =>
    obtain ⟨k, hk, rfl, hb⟩ := hrel
    by_cases hlt : k < zs.length
    · obtain ⟨b1, off1, ha1, hc1⟩ := (HZ.out.below hb).get hlt
      obtain ⟨b2, off2, ha2, hc2⟩ := (HZ'.out.below hb).get hlt
      subst ha1
      subst ha2
      have Hb := Lib.hid hb
      clear hb
      go_wp2_with fail
      go_quiet (fail)
      go_wp2_with fail
      go_roundw
      case rel => exact ⟨k + 1, by omega, by go_num, bl_drewN Hb.out _⟩
      case measure => simp [intOf]; omega
    · go_wp2_with fail
      go_ret
      exact ⟨rfl, hb⟩
end Go.Proofs.Ytjppoiplcfifcaa
