/-
  The contracts of the functions of layer 4.
-/
import Derived.Test.YtjppoiplcfifcaaMem
import Derived.Test.YtjppoiplcfifcaaMixPlain
import Derived.Deep.RegionLaw
namespace Go.Proofs.Ytjppoiplcfifcaa
open Go.RowKit Mx
theorem rot56 (x : Nat) (w : World) (hx : x < M) :
    Calls Try.prog 31 #[.int .u64 x, .int .i64 (-8)] w fun e w' => e = .returned (.int .u64 ((rl 56 x : Nat) : Int)) ∧ w = w' := by
  have hb : bits BinOp.and IntKind.u64 (IntKind.u64.wrap (-8)) 63 = 56 := by decide +kernel
  have hb2 : bits BinOp.and IntKind.u64 18446744073709551608 63 = 56 := by decide +kernel
  have H := Lib.hid (w_rot 56 x (by decide) (by decide) hx)
  unfold M at hx
  go_enter Try.func31, Try.ntmps31
  go_wp2
  go_ret
  exact ⟨ret_int H.out, rfl⟩
theorem rot3 (x : Nat) (w : World) (hx : x < M) :
    Calls Try.prog 31 #[.int .u64 x, .int .i64 3] w fun e w' => e = .returned (.int .u64 ((rl 3 x : Nat) : Int)) ∧ w = w' := by
  have hb : bits BinOp.and IntKind.u64 (IntKind.u64.wrap (3)) 63 = 3 := by decide +kernel
  have hb2 : bits BinOp.and IntKind.u64 3 63 = 3 := by decide +kernel
  have H := Lib.hid (w_rot 3 x (by decide) (by decide) hx)
  unfold M at hx
  go_enter Try.func31, Try.ntmps31
  go_wp2
  go_ret
  exact ⟨ret_int H.out, rfl⟩
theorem rot61 (x : Nat) (w : World) (hx : x < M) :
    Calls Try.prog 31 #[.int .u64 x, .int .i64 (-3)] w fun e w' => e = .returned (.int .u64 ((rl 61 x : Nat) : Int)) ∧ w = w' := by
  have hb : bits BinOp.and IntKind.u64 (IntKind.u64.wrap (-3)) 63 = 61 := by decide +kernel
  have hb2 : bits BinOp.and IntKind.u64 18446744073709551613 63 = 61 := by decide +kernel
  have H := Lib.hid (w_rot 61 x (by decide) (by decide) hx)
  unfold M at hx
  go_enter Try.func31, Try.ntmps31
  go_wp2
  go_ret
  exact ⟨ret_int H.out, rfl⟩
theorem rot8 (x : Nat) (w : World) (hx : x < M) :
    Calls Try.prog 31 #[.int .u64 x, .int .i64 8] w fun e w' => e = .returned (.int .u64 ((rl 8 x : Nat) : Int)) ∧ w = w' := by
  have hb : bits BinOp.and IntKind.u64 (IntKind.u64.wrap (8)) 63 = 8 := by decide +kernel
  have hb2 : bits BinOp.and IntKind.u64 8 63 = 8 := by decide +kernel
  have H := Lib.hid (w_rot 8 x (by decide) (by decide) hx)
  unfold M at hx
  go_enter Try.func31, Try.ntmps31
  go_wp2
  go_ret
  exact ⟨ret_int H.out, rfl⟩
theorem turned_any (n : Nat) (x : Nat) (w : World) (hx : x < M) (hn : n ≤ 64) :
    Calls Try.prog 32 #[.int .u64 x, .int .i64 n] w fun e w' => e = .returned (.int .u64 ((rl n x : Nat) : Int)) ∧ w = w' := by
  go_enter Try.func32, Try.ntmps32
  go_wp2
  go_loop [0, 5] (fun z i => ∃ (k : Nat), k ≤ n ∧ i = .int .i64 k ∧ z = .int .u64 ((rl k x : Nat) : Int)) (fun _ i => n - (intOf i).toNat)
  case atStart => exact ⟨0, Nat.zero_le _, rfl, rfl⟩
  case round =>
    obtain ⟨k, hk, rfl, rfl⟩ := hrel
    have hz := rl_lt k x hx
    have HD := Lib.hid (w_dbl (rl k x))
    have HS := Lib.hid (show dbl (rl k x) = rl (k + 1) x from rfl)
    unfold M at hz
    clear hx
    by_cases hlt : k < n
    · generalize rl k x = z at *
      go_wp2
      go_round
      case rel => exact ⟨k + 1, by omega, by go_num, by rw [HD.out, HS.out]⟩
      case measure => simp [intOf]; omega
    · obtain rfl : k = n := by omega
      go_wp2
      go_ret
      exact ⟨rfl, rfl⟩
end Go.Proofs.Ytjppoiplcfifcaa
