/-
  Plain facts on layer 3: what is sealed.
-/
import Derived.Test.YtimocgjeikgilaaRegPlain
import Derived.Test.YtimocgjeikgilaaOctetPlain
namespace Go.Proofs.Ytimocgjeikgilaa
namespace Cr
open Oc
theorem top_cut : ∀ a, a < 256 → ∀ b, b < 256 → (a * 256 + b) ^^^ (a * 256) = b := by decide +kernel
theorem stp_small (n : Nat) (h : n < 32768) : stp n = n * 2 := by
  unfold stp
  rw [if_neg (by omega), Nat.mod_eq_of_lt (by omega)]
theorem stpN_small (n : Nat) (h : n < 256) : stpN n 8 = n * 256 := by
  show stp (stp (stp (stp (stp (stp (stp (stp n))))))) = _
  rw [stp_small n (by omega), stp_small (n * 2) (by omega), stp_small (n * 2 * 2) (by omega), stp_small (n * 2 * 2 * 2) (by omega), stp_small (n * 2 * 2 * 2 * 2) (by omega), stp_small (n * 2 * 2 * 2 * 2 * 2) (by omega), stp_small (n * 2 * 2 * 2 * 2 * 2 * 2) (by omega), stp_small (n * 2 * 2 * 2 * 2 * 2 * 2 * 2) (by omega)]
  omega
theorem byt_hi (n : Nat) (h : n < 65536) : byt n (n / 256) = (n % 256) * 256 := by
  have e : n ^^^ (n / 256 * 256) = n % 256 := by
    have := top_cut (n / 256) (by omega) (n % 256) (by omega)
    rwa [show n / 256 * 256 + n % 256 = n by omega] at this
  unfold byt
  rw [e, stpN_small _ (by omega)]
theorem byt_lo (m : Nat) : byt (m * 256) m = 0 := by
  unfold byt
  rw [Nat.xor_self]
  decide
theorem be2 (n : Nat) : be 2 n = [UInt8.ofNat (n / 256), UInt8.ofNat n] := rfl
theorem seal_zero (n : Nat) (h : n < 65536) : bytL n (be 2 n) = 0 := by
  rw [be2]
  show byt (byt n (UInt8.ofNat (n / 256)).toNat) (UInt8.ofNat n).toNat = 0
  rw [UInt8.toNat_ofNat_of_lt' (by show n / 256 < 256; omega), byt_hi n h, show (UInt8.ofNat n).toNat = n % 256 from UInt8.toNat_ofNat', byt_lo]
theorem num_two (x y : UInt8) : num [x, y] = 256 * x.toNat + y.toNat := by
  show 256 * (256 * 0 + x.toNat) + y.toNat = _
  omega
theorem be_num (x y : UInt8) : be 2 (num [x, y]) = [x, y] := by
  rw [num_two, be2]
  have hx := x.toNat_lt
  have hy := y.toNat_lt
  congr 1
  · apply UInt8.toNat_inj.1
    rw [UInt8.toNat_ofNat_of_lt' (by show _ < 256; omega)]
    omega
  · congr 1
    apply UInt8.toNat_inj.1
    rw [show (UInt8.ofNat (256 * x.toNat + y.toNat)).toNat = (256 * x.toNat + y.toNat) % 256 from UInt8.toNat_ofNat']
    omega
theorem num_be2 (n : Nat) (h : n < 65536) : num (be 2 n) = n := by
  rw [be2, num_two, UInt8.toNat_ofNat_of_lt' (by show n / 256 < 256; omega), show (UInt8.ofNat n).toNat = n % 256 from UInt8.toNat_ofNat']
  omega
theorem be_iff (l : List UInt8) (n : Nat) (hl : l.length = 2) (h : n < 65536) : be 2 n = l ↔ n = num l := by
  obtain ⟨x, y, rfl⟩ : ∃ x y, l = [x, y] := by
    match l, hl with
    | [x, y], _ => exact ⟨x, y, rfl⟩
  constructor
  · intro e; rw [← e, num_be2 n h]
  · intro e; rw [e, be_num]
end Cr
end Go.Proofs.Ytimocgjeikgilaa
