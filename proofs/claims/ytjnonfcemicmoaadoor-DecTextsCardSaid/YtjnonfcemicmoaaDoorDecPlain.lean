/-
  Plain facts on layer 5: a number's text has this number.
-/
import Derived.Test.YtjnonfcemicmoaaDoorAEDecP
import Derived.Lib.AtoiAllCases
namespace Go.Proofs.YtjnonfcemicmoaaDoor
namespace De
open Go.Lib
theorem digits_rng (u : Nat) : ∀ c ∈ decDigits u, 48 ≤ c.toNat ∧ c.toNat ≤ 57 := by
  induction u using Nat.strongRecOn with
  | _ u ih =>
    intro c hc
    rw [decDigits] at hc
    have one : ∀ i, i < 10 → 48 ≤ (UInt8.ofNat (48 + i)).toNat ∧ (UInt8.ofNat (48 + i)).toNat ≤ 57 := by decide +kernel
    split at hc
    · rename_i h
      simp only [List.mem_singleton] at hc
      rw [hc]; exact one u h
    · rename_i h
      rw [List.mem_append] at hc
      rcases hc with hc | hc
      · exact ih (u / 10) (by omega) c hc
      · simp only [List.mem_singleton] at hc
        rw [hc]; exact one (u % 10) (by omega)
theorem digits_ne (u : Nat) : decDigits u ≠ [] := by
  rw [decDigits]
  split <;> simp
def stepU (acc : Nat) (c : UInt8) : NumEnd Nat := parseUint10 acc [c]
theorem parse_snoc (c : UInt8) : ∀ (l : List UInt8) (acc a : Nat), parseUint10 acc l = .ok a → parseUint10 acc (l ++ [c]) = parseUint10 a [c]
  | [], acc, a, h => by
    simp only [parseUint10] at h
    injection h with h
    subst h; rfl
  | d :: l, acc, a, h => by
    show parseUint10 acc (d :: (l ++ [c])) = _
    rw [parseUint10] at h ⊢
    split at h
    · rename_i h1
      rw [if_pos h1]
      split at h
      · cases h
      · rename_i h2
        rw [if_neg h2]
        split at h
        · cases h
        · rename_i h3
          rw [if_neg h3]
          exact parse_snoc c l _ a h
    · cases h
theorem one_digit (a i : Nat) (hi : i < 10) (h : a * 10 + i < 18446744073709551616) : parseUint10 a [UInt8.ofNat (48 + i)] = .ok (a * 10 + i) := by
  have e : (UInt8.ofNat (48 + i)).toNat = 48 + i := UInt8.toNat_ofNat_of_lt' (by show 48 + i < 256; omega)
  rw [parseUint10, e, if_pos ⟨by omega, by omega⟩, if_neg (by omega), if_neg (by omega), parseUint10]
  congr 1
  omega
theorem parse_digits (u : Nat) (h : u < 18446744073709551616) : parseUint10 0 (decDigits u) = .ok u := by
  induction u using Nat.strongRecOn with
  | _ u ih =>
    rw [decDigits]
    split
    · rename_i h10
      have := one_digit 0 u h10 (by omega)
      rwa [Nat.zero_mul, Nat.zero_add] at this
    · rename_i h10
      rw [parse_snoc _ _ _ _ (ih (u / 10) (by omega) (by omega)), one_digit _ _ (by omega) (by omega)]
      congr 1
      omega
theorem mag_digits (u : Nat) (h : u < 18446744073709551616) : parseMag (decDigits u) = .ok u := by
  unfold parseMag
  rw [if_neg (digits_ne u)]
  exact parse_digits u h
/-- A number's text has this number. -/
theorem atoi_itoa (n : Int) (h0 : -9223372036854775808 ≤ n) (h1 : n ≤ 9223372036854775807) : atoiAll (itoa n) = .ok n := by
  unfold itoa
  split
  · rename_i hn
    have hm := mag_digits n.natAbs (by omega)
    have e45 : (45 : UInt8).toNat = 45 := rfl
    simp only [atoiAll, e45, or_true, if_true, hm, not_true_eq_false, false_and, if_false, true_and]
    rw [if_neg (by omega)]
    congr 1
    omega
  · rename_i hn
    have hm := mag_digits n.toNat (by omega)
    obtain ⟨c, r, hc⟩ := List.exists_cons_of_ne_nil (digits_ne n.toNat)
    have hr := digits_rng n.toNat c (by rw [hc]; exact List.mem_cons_self)
    rw [hc] at hm ⊢
    have h43 : ¬ c.toNat = 43 := by omega
    have h45 : ¬ c.toNat = 45 := by omega
    simp only [atoiAll, h43, h45, or_self, if_false, hm, not_false_eq_true, true_and, false_and]
    rw [if_neg (by omega)]
    congr 1
    omega
end De
end Go.Proofs.YtjnonfcemicmoaaDoor
