/-
  The contracts of the reference's functions of layer 14.
-/
import Derived.Test.YtcfncfmfmekeoaaLoadWait
import Derived.Test.YtcfncfmfmekeoaaRef01
namespace Go.Proofs.Ytcfncfmfmekeoaa
open Go.RowKit Bd Ld
theorem rsum14_any (a : Option Addr) (cap : Nat) (zs : List Int) (w : World) (hz : Ints w .i64 a zs) (hl : zs.length ≤ 9223372036854775807) :
    Calls Try.prog 10 #[.slice a zs.length cap] w fun e w' => e = .returned (.int .i64 (sumC zs)) ∧ w = w' := by
  have H := Lib.hid (rsum_any a cap zs w hz hl)
  clear hz
  go_enter Try.func10, Try.ntmps10
  go_wp2_with fail
  refine H.out.mono ?_; rintro e w' ⟨rfl, rfl⟩
  go_wp2_with fail
  go_ret
  exact ⟨rfl, rfl⟩
theorem rworst14_any (a : Option Addr) (cap : Nat) (zs : List Int) (w : World) (hz : Ints w .i64 a zs) (hl : zs.length ≤ 9223372036854775807) :
    Calls Try.prog 12 #[.slice a zs.length cap] w fun e w' => e = .returned (.int .i64 (worL zs)) ∧ w = w' := by
  go_enter Try.func12, Try.ntmps12
  go_wp2_with fail
  go_loop [3, 4] (fun s i => ∃ k : Nat, k ≤ zs.length ∧ i = .int .i64 k ∧ s = .int .i64 (worL (zs.take k))) (fun _ i => zs.length - (intOf i).toNat)
  case atStart => exact ⟨0, Nat.zero_le _, rfl, rfl⟩
  case round =>
    obtain ⟨k, hk, rfl, rfl⟩ := hrel
    by_cases hlt : k < zs.length
    · obtain ⟨b, off, rfl, hc⟩ := hz.get hlt
      have hs := Lib.hid (worL_snoc zs k hlt)
      have HK := Lib.hid (rcount_any zs[k])
      have E := Lib.hid (show worC (worL (zs.take k)) zs[k] = if kp zs[k] cMost ≤ worL (zs.take k) then worL (zs.take k) else kp zs[k] cMost from rfl)
      generalize kp zs[k] cMost = m at *
      by_cases hm : m ≤ worL (zs.take k)
      · go_wp2_with fail
        refine (HK.out _).mono ?_; rintro e w1 ⟨rfl, rfl⟩
        go_wp2_with fail
        go_round
        case rel => exact ⟨k + 1, by omega, by go_num, by rw [hs.out, E.out, if_pos hm]⟩
        case measure => simp [intOf]; omega
      · have hm2 : worL (zs.take k) < m := by omega
        have E2 := Lib.hid (show worC (worL (zs.take k)) zs[k] = m by rw [E.out, if_neg hm])
        clear hm
        go_wp2_with fail
        refine (HK.out _).mono ?_; rintro e w1 ⟨rfl, rfl⟩
        go_wp2_with fail
        refine (HK.out _).mono ?_; rintro e w1 ⟨rfl, rfl⟩
        go_wp2_with fail
        go_round
        case rel => exact ⟨k + 1, by omega, by go_num, by rw [hs.out, E2.out]⟩
        case measure => simp [intOf]; omega
    · go_wp2_with fail
      go_ret
      exact ⟨ret_int (by rw [List.take_of_length_le (by omega)]), rfl⟩
theorem rmean14_any (a : Option Addr) (cap : Nat) (zs : List Int) (w : World) (hz : Ints w .i64 a zs) (hl : zs.length ≤ 9223372036854775807) :
    Calls Try.prog 14 #[.slice a zs.length cap] w fun e w' => e = .returned (.int .i64 (meanC (sumC zs) zs.length)) ∧ w = w' := by
  have H := Lib.hid (rsum14_any a cap zs w hz hl)
  clear hz
  go_enter Try.func14, Try.ntmps14
  go_wp2_with fail
  refine H.out.mono ?_; rintro e w' ⟨rfl, rfl⟩
  go_wp2_with fail
  refine (rmean_any _ _ _).mono ?_; rintro e w' ⟨rfl, rfl⟩
  go_wp2_with fail
  go_ret
  exact ⟨rfl, rfl⟩
theorem rjudge14_any (m lo hi : Int) (w : World) :
    Calls Try.prog 16 #[.int .i64 m, .int .i64 lo, .int .i64 hi] w fun e w' => e = .returned (.int .i64 (judC m lo hi)) ∧ w = w' := by
  have E := Lib.hid (show judC m lo hi = if hi < m then 1 else if m < lo then 2 else 0 from rfl)
  by_cases h1 : hi < m
  · go_enter Try.func16, Try.ntmps16
    go_wp2_with fail
    go_ret
    exact ⟨ret_int (by rw [E.out, if_pos h1]), rfl⟩
  · have h1' : m ≤ hi := by omega
    by_cases h2 : m < lo
    · go_enter Try.func16, Try.ntmps16
      go_wp2_with fail
      go_ret
      exact ⟨ret_int (by rw [E.out, if_neg (by omega), if_pos h2]), rfl⟩
    · have h2' : lo ≤ m := by omega
      go_enter Try.func16, Try.ntmps16
      go_wp2_with fail
      go_ret
      exact ⟨ret_int (by rw [E.out, if_neg (by omega), if_neg (by omega)]), rfl⟩
end Go.Proofs.Ytcfncfmfmekeoaa
