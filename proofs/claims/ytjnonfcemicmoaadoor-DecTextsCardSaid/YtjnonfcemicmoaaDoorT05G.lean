/-
  Layer 5: the document's number of a text is the program's.
-/
import Derived.Test.YtjnonfcemicmoaaDoorT05E
import Derived.Test.YtjnonfcemicmoaaDoorDecPlain
namespace Go.Proofs.YtjnonfcemicmoaaDoor.AE
open Go.RowKit De
abbrev inR (v : Int) : Prop := -9223372036854775808 ≤ v ∧ v ≤ 9223372036854775807
theorem dp_good {s : ByteArray} {v : Int} (hv : inR v) (h : s.data.toList = Lib.itoa v) : dpX s = v ∧ dpY s = 0 := by
  unfold dpX dpY
  rw [h, atoi_itoa v hv.1 hv.2]
  simp
theorem dp_bad {s : ByteArray} (h : ∀ v, inR v → ¬ s.data.toList = Lib.itoa v) : dpX s = 0 ∧ dpY s = 2 := by
  unfold dpX dpY
  rcases ha : Lib.atoiAll s.data.toList with v | _ | _
  · have hb := Lib.atoiAll_bounds ha
    have hn : ¬ Lib.itoa v = s.data.toList := fun e => h v hb e.symm
    simp [hn]
  · exact ⟨rfl, rfl⟩
  · exact ⟨rfl, rfl⟩
def nfS (n : Int) (c : UInt8) : Int := IntKind.wrap .i64 (IntKind.wrap .i64 (10 * n) - IntKind.wrap .i64 (IntKind.wrap .u8 ((c.toNat : Int) - 48)))
def nf (l : List UInt8) : Int := l.foldl nfS 0
theorem nf_digits (u : Nat) (h : u ≤ 9223372036854775808) : nf (Lib.decDigits u) = -(u : Int) := by
  induction u using Nat.strongRecOn with
  | _ u ih =>
    have one : ∀ (a i : Nat), i < 10 → a * 10 + i ≤ 9223372036854775808 → nfS (-(a : Int)) (UInt8.ofNat (48 + i)) = -((a * 10 + i : Nat) : Int) := by
      intro a i hi ha
      have e : (UInt8.ofNat (48 + i)).toNat = 48 + i := UInt8.toNat_ofNat_of_lt' (by show 48 + i < 256; omega)
      unfold nfS
      rw [e, IntKind.wrap_u8, IntKind.wrap_i64, IntKind.wrap_i64, IntKind.wrap_i64]
      omega
    rw [Lib.decDigits]
    split
    · rename_i h10
      have := one 0 u h10 (by omega)
      rw [Nat.zero_mul, Nat.zero_add] at this
      exact this
    · rename_i h10
      have := ih (u / 10) (by omega) (by omega)
      unfold nf at this ⊢
      rw [List.foldl_append, this]
      show nfS _ _ = _
      rw [one _ _ (by omega) (by omega)]
      congr 2
      omega
/-- The texts of numbers, by their first byte. -/
theorem good_by {s : ByteArray} {v : Int} (hv : inR v) (h : s.data.toList = Lib.itoa v) :
    (s.data.toList.head? = some 45 → ∃ u, u ≤ 9223372036854775808 ∧ s.data.toList = 45 :: Lib.decDigits u ∧ v = -(u : Int)) ∧ (¬ s.data.toList.head? = some 45 → ∃ u, u ≤ 9223372036854775807 ∧ s.data.toList = Lib.decDigits u ∧ v = (u : Int)) := by
  obtain ⟨h0, h1⟩ := hv
  unfold Lib.itoa at h
  split at h
  · rename_i hn
    refine ⟨fun _ => ⟨v.natAbs, by omega, h, by omega⟩, fun hh => absurd (by rw [h]; rfl) hh⟩
  · rename_i hn
    refine ⟨fun hh => ?_, fun _ => ⟨v.toNat, by omega, h, by omega⟩⟩
    exfalso
    rw [h] at hh
    have := digits_rng v.toNat 45 (List.mem_of_mem_head? hh)
    revert this
    decide
theorem digits_len (u : Nat) (h : u ≤ 9223372036854775808) : 1 ≤ (Lib.decDigits u).length ∧ (Lib.decDigits u).length ≤ 19 := by
  refine ⟨List.length_pos_iff.2 (digits_ne u), ?_⟩
  by_cases h0 : u = 0
  · subst h0; decide +kernel
  · have e : D10 u = Lib.decDigits u := if_neg h0
    rw [← e]
    refine D10_len u 19 ?_
    have : (10 : Nat) ^ 19 = 10000000000000000000 := by decide
    omega
end Go.Proofs.YtjnonfcemicmoaaDoor.AE
