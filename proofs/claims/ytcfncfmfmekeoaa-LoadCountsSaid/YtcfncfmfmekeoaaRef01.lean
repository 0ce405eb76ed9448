/-
  The contracts of the plain answers of layer 1 (package lockkeeperref01), as far as they are there.
-/
import Derived.Test.YtcfncfmfmekeoaaMem
import Derived.Test.YtcfncfmfmekeoaaBoundPlain
namespace Go.Proofs.Ytcfncfmfmekeoaa
open Go.RowKit Bd
theorem rkeep_any (n m : Int) (w : World) :
    Calls Try.prog 29 #[.int .i64 n, .int .i64 m] w fun e w' => e = .returned (.int .i64 (kp n m)) ∧ w = w' := by
  go_enter Try.func29, Try.ntmps29
  go_wp2
  all_goals
    go_ret
    exact ⟨ret_int (by unfold kp; (repeat' split at *) <;> omega), rfl⟩
theorem rcount_any (n : Int) (w : World) :
    Calls Try.prog 22 #[.int .i64 n] w fun e w' => e = .returned (.int .i64 (kp n cMost)) ∧ w = w' := by
  go_enter Try.func22, Try.ntmps22
  go_wp2_with (go_at_call 29; refine (rkeep_any _ cMost _).mono ?_; rintro e w' ⟨rfl, rfl⟩)
  go_ret
  exact ⟨rfl, rfl⟩
theorem radd_any (a b : Int) (w : World) :
    Calls Try.prog 28 #[.int .i64 a, .int .i64 b] w fun e w' => e = .returned (.int .i64 (addC a b)) ∧ w = w' := by
  have h1 := (kc a).1
  have h2 := (kc a).2
  have h3 := (kc b).1
  have h4 := (kc b).2
  go_enter Try.func28, Try.ntmps28
  go_wp2_with (go_at_call 22; refine (rcount_any _ _).mono ?_; rintro e w' ⟨rfl, rfl⟩)
  go_ret
  exact ⟨rfl, rfl⟩
theorem rmean_any (a b : Int) (w : World) :
    Calls Try.prog 24 #[.int .i64 a, .int .i64 b] w fun e w' => e = .returned (.int .i64 (meanC a b)) ∧ w = w' := by
  have h1 := (kc a).1
  have h2 := (kc b).1
  have h3 := (kc a).2
  by_cases hz : kp b cMost = 0
  · have e : meanC a b = 0 := if_pos hz
    have H := Lib.hid e
    have hz2 : (kp b cMost == 0) = true := by simp [hz]
    clear hz e
    go_enter Try.func24, Try.ntmps24
    go_wp2_with (go_at_call 22; refine (rcount_any _ _).mono ?_; rintro e w' ⟨rfl, rfl⟩)
    go_ret
    exact ⟨ret_int H.out.symm, rfl⟩
  · have e : meanC a b = kp a cMost / kp b cMost := if_neg hz
    have H := Lib.hid e
    have hz2 : (kp b cMost == 0) = false := by simp [hz]
    have hz3 : 1 ≤ kp b cMost := by omega
    clear hz e
    go_enter Try.func24, Try.ntmps24
    go_wp2_with (go_at_call 22; refine (rcount_any _ _).mono ?_; rintro e w' ⟨rfl, rfl⟩)
    go_ret
    exact ⟨ret_int H.out.symm, rfl⟩
theorem rsum_any (a : Option Addr) (cap : Nat) (zs : List Int) (w : World) (hz : Ints w .i64 a zs) (hl : zs.length ≤ 9223372036854775807) :
    Calls Try.prog 21 #[.slice a zs.length cap] w fun e w' => e = .returned (.int .i64 (sumC zs)) ∧ w = w' := by
  go_enter Try.func21, Try.ntmps21
  go_wp2_with fail
  go_loop [3, 4] (fun s i => ∃ k : Nat, k ≤ zs.length ∧ i = .int .i64 k ∧ s = .int .i64 (sumC (zs.take k))) (fun _ i => zs.length - (intOf i).toNat)
  case atStart => exact ⟨0, Nat.zero_le _, rfl, rfl⟩
  case round =>
    obtain ⟨k, hk, rfl, rfl⟩ := hrel
    by_cases hlt : k < zs.length
    · obtain ⟨b, off, rfl, hc⟩ := hz.get hlt
      have hs := Lib.hid (sumC_snoc zs k hlt)
      go_wp2_with fail
      refine (radd_any _ _ _).mono ?_; rintro e w1 ⟨rfl, rfl⟩
      go_wp2_with fail
      go_round
      case rel => exact ⟨k + 1, by omega, by go_num, by rw [hs.out]⟩
      case measure => simp [intOf]; omega
    · go_wp2_with fail
      go_ret
      exact ⟨ret_int (by rw [List.take_of_length_le (by omega)]), rfl⟩
end Go.Proofs.Ytcfncfmfmekeoaa
