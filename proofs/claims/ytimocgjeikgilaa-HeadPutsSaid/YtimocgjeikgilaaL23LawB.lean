/-
  The law HeadPuts of layer 23: the call comes to true.
-/
import Derived.Test.YtimocgjeikgilaaT23G
namespace Go.Proofs.Ytimocgjeikgilaa
open Go.RowKit AE Cr Oc
theorem put_facts (k : Nat) (b m : ByteArray) (h1 : 1 ≤ k) (h3 : k ≤ 3) (hb : b.size ≤ 200) : fK (sealS (hdr k b.size ++ b) ++ m) = (k : Nat) ∧ fB (sealS (hdr k b.size ++ b) ++ m) = b ∧ fN (sealS (hdr k b.size ++ b) ++ m) = (6 + b.size : Nat) ∧ fE (sealS (hdr k b.size ++ b) ++ m) = 0 := by
  have h := first_put k b m h1 h3 hb
  unfold fK fB fN fE
  rw [h]
  exact ⟨rfl, rfl, rfl, rfl⟩
theorem hdr_eq (k : Nat) (b : ByteArray) (h3 : k ≤ 3) (hb : b.size ≤ 200) : ByteArray.mk #[UInt8.ofNat 183, UInt8.ofNat 1, UInt8.ofNat (Int.toNat (exInt (.v (.int .u8 (IntKind.wrap .u8 (k : Int)))))), UInt8.ofNat (Int.toNat (Int.ofNat (b.size % 256)))] = hdr k b.size := by
  have e1 : Int.toNat (exInt (.v (.int .u8 (IntKind.wrap .u8 (k : Int))))) = k := by
    show Int.toNat (IntKind.wrap .u8 (k : Int)) = k
    rw [IntKind.wrap_u8]; omega
  have e2 : Int.toNat (Int.ofNat (b.size % 256)) = b.size := by
    show b.size % 256 = b.size
    omega
  rw [e1, e2]
  rfl
theorem len6 (n : Nat) (h : n ≤ 300) : IntKind.wrap .i64 (IntKind.wrap .i64 (4 + (n : Int)) + 2) = ((6 + n : Nat) : Int) := by rw [IntKind.wrap_i64, IntKind.wrap_i64]; omega
theorem w_HeadPuts (w : World) (k : Int) (_ : (Lit.int .i64 k).wf = true) (b : ByteArray) (_ : b.size ≤ maxLen) (m : ByteArray) (_ : m.size ≤ maxLen) :
    Calls Try.prog 3 #[.int .i64 k, .string b, .string m] w fun e w' => e = .returned (.bool true) ∧ Below w.heap.size w w' := by
  refine law_true (ro := nro) (args := [.v (.int .i64 k), .v (.string b), .v (.string m)]) ?_ w _ (ro_none _ _) (.cons (.v _) (.cons (.v _) (.cons (.v _) .nil)))
  have t := t_puts k b m fun r => r = .v (.bool true)
  by_cases hm : m.size ≤ 100
  · by_cases hN : 1 ≤ k ∧ k ≤ 3 ∧ b.size ≤ 200
    · obtain ⟨h1, h3, hb⟩ := hN
      obtain ⟨kn, rfl⟩ := Int.eq_ofNat_of_zero_le (show 0 ≤ k by omega)
      obtain ⟨f1, f2, f3, f4⟩ := put_facts kn b m (by omega) (by omega) hb
      have hq : (hdr kn b.size ++ b).size = 4 + b.size := by rw [ByteArray.size_append]; rfl
      have hx : (sealS (hdr kn b.size ++ b)).size = 6 + b.size := by rw [seal_size, hq]; omega
      have hd : (hdr kn b.size).size = 4 := rfl
      rw [hdr_eq kn b (by omega) hb, f1, f2, f3, f4, len6 _ (by omega), hx, hq, hd] at t
      refine Fs.of_call knownT t ?_
      clear t f1 f2 f3 f4
      have hy : (sealS (hdr kn b.size ++ b) ++ m).size ≤ 100000 := by rw [ByteArray.size_append, hx]; omega
      generalize sealS (hdr kn b.size ++ b) = q at *
      repeat' (with_reducible refine holds_bif ?_ ?_ <;> intro h <;> simp only [decide_eq_true_eq, decide_eq_false_iff_not, bne_iff_ne, ne_eq, bne_eq_false_iff_eq, beq_self_eq_true, beq_iff_eq, beq_eq_false_iff_ne, Bool.not_eq_true', Bool.not_eq_false', not_true_eq_false, Bool.not_true, Bool.not_false, reduceCtorEq] at h)
      all_goals first
        | (exfalso; omega)
        | (refine ⟨?_, rfl⟩
           repeat' first
             | with_reducible exact trivial
             | with_reducible refine cdb_iff.2 ⟨?_, ?_⟩
           all_goals (refine decide_eq_true ?_; first | omega | exact hy))
    · refine Fs.of_call knownT t ?_
      clear t
      generalize sealS _ = q
      generalize ByteArray.toList q = ql
      by_cases hb3 : b.size ≤ 300
      · rw [len6 _ hb3]
        repeat' (with_reducible refine holds_bif ?_ ?_ <;> intro h <;> simp only [decide_eq_true_eq, decide_eq_false_iff_not, bne_iff_ne, ne_eq, bne_eq_false_iff_eq, beq_self_eq_true, beq_iff_eq, beq_eq_false_iff_ne, Bool.not_eq_true', Bool.not_eq_false', not_true_eq_false, Bool.not_true, Bool.not_false, reduceCtorEq] at h)
        all_goals first
          | (exfalso; omega)
          | exact ⟨trivial, rfl⟩
      · exact holds_bif (fun _ => ⟨trivial, rfl⟩) fun h => by have := of_decide_eq_false h; omega
  · refine Fs.of_call knownT t (holds_bif (fun _ => ⟨trivial, rfl⟩) fun _ => holds_bif (fun _ => ⟨trivial, rfl⟩) fun h => ?_)
    have := of_decide_eq_false h; omega
end Go.Proofs.Ytimocgjeikgilaa
