/-
  Layer 23: with which frame bytes begin: the program's own.
-/
import Derived.Test.YtimocgjeikgilaaT23C
namespace Go.Proofs.Ytimocgjeikgilaa.AE
open Go.RowKit Cr Oc
theorem sl_first : slotsOf 10 = 54 := by kernel_rfl
theorem re_first : resultsOf 10 = [.tmp 2, .tmp 3, .tmp 4, .tmp 5] := by kernel_rfl
theorem cut4 (s : ByteArray) (b : Nat) : (s.extract 0 (4 + b)).extract 4 (4 + b) = s.extract 4 (4 + b) := by
  rw [ByteArray.extract_extract, show min (0 + (4 + b)) (4 + b) = 4 + b by omega, Nat.zero_add]
theorem cut_size (s : ByteArray) (b : Nat) (h : 6 + b ≤ s.size) : (s.extract 0 (4 + b)).size = 4 + b := by rw [ByteArray.size_extract]; omega
theorem fs_first (s : ByteArray) (hs : s.size ≤ 100000) : Fs Try.prog nro 10 [.v (.string s)] (hp [] []) fun r _ => r = .v (firstV s) := by
  refine Fs.of_body (has_fn (by kernel_rfl)) ?_
  rw [sl_first, re_first]
  refine Tr.of_flat (Trl.split 4 (Trl.of_code (knownH nro) (ne_nil (by kernel_rfl)) (h_pre s _) ⟨trivial, ?_⟩))
  show Trl _ _ ((flatten (bodyOf 10)).drop 4) _ _ _
  have h2 := bt_lt s 2
  have h3 := bt_lt s 3
  have h0 := bt_lt s 0
  have h1 := bt_lt s 1
  have hE := openE_cut s (6 + bt s 3) (by omega)
  have hS := openS_cut s (6 + bt s 3) (by omega)
  have hx := ext_le s 0 (6 + bt s 3)
  have hz := cut_size s (bt s 3)
  have h4 := cut4 s (bt s 3)
  rw [show 6 + bt s 3 - 2 = 4 + bt s 3 by omega] at hS
  have key : ∀ v : Value, fv s s.size (bt s 0) (bt s 1) (bt s 2) (bt s 3) = v → v = firstV s := fun v h => h.symm
  unfold bt at *
  rcases (by omega : s.size = 0 ∨ s.size = 1 ∨ s.size = 2 ∨ s.size = 3 ∨ 4 ≤ s.size) with hn | hn | hn | hn | hn
  · rw [show (if ((s.size : Nat) : Int) < 4 then ((s.size : Nat) : Int) else 4) = 0 by rw [hn]; rfl]
    refine Trl.of_code (knownH nro) (ne_nil (by kernel_rfl)) (h_go0 s _) ?_
    generalize (s.data.getD 0 0).toNat = b0 at *
    generalize (s.data.getD 1 0).toNat = b1 at *
    generalize (s.data.getD 2 0).toNat = b2 at *
    generalize (s.data.getD 3 0).toNat = b3 at *
    try rw [wr0 b0 h0]
    try rw [wr0 b1 h1]
    try rw [wr0 b2 h2]
    try rw [wr0 b3 h3]
    try rw [wr46 b3 h3]
    try rw [Int.toNat_natCast (6 + b3)]
    generalize hoe : openE (s.extract 0 (6 + b3)) = oe at *
    generalize hos : openS (s.extract 0 (6 + b3)) = os at *
    repeat' (with_reducible refine holds_bif ?_ ?_ <;> intro h <;> simp only [decide_eq_true_eq, decide_eq_false_iff_not, bne_iff_ne, ne_eq, bne_eq_false_iff_eq, Bool.not_eq_true', Bool.not_eq_false'] at h)
    all_goals first
      | (exfalso; omega)
      | (refine ⟨?_, .inr rfl, trivial, congrArg AV.v (key _ ?_)⟩
         · repeat' first
             | with_reducible exact trivial
             | with_reducible refine cdb_iff.2 ⟨?_, ?_⟩
           all_goals (refine decide_eq_true ?_; first | omega | exact Nat.le_trans hx hs | (rw [hS (by omega) (by omega)]; have := hz (by omega); omega))
         · unfold fv
           rw [hoe]
           repeat' split
           all_goals first
             | rfl
             | (exfalso; omega)
             | (rcases hE (by omega) with e4 | e4 <;> first | (exfalso; omega) | (rw [e4]; rfl))
             | (rw [Int.toNat_natCast, hS (by omega) (by omega), hz (by omega), h4]))
  · rw [show (if ((s.size : Nat) : Int) < 4 then ((s.size : Nat) : Int) else 4) = 1 by rw [hn]; rfl]
    refine Trl.of_code (knownH nro) (ne_nil (by kernel_rfl)) (h_go1 s _) ?_
    generalize (s.data.getD 0 0).toNat = b0 at *
    generalize (s.data.getD 1 0).toNat = b1 at *
    generalize (s.data.getD 2 0).toNat = b2 at *
    generalize (s.data.getD 3 0).toNat = b3 at *
    try rw [wr0 b0 h0]
    try rw [wr0 b1 h1]
    try rw [wr0 b2 h2]
    try rw [wr0 b3 h3]
    try rw [wr46 b3 h3]
    try rw [Int.toNat_natCast (6 + b3)]
    generalize hoe : openE (s.extract 0 (6 + b3)) = oe at *
    generalize hos : openS (s.extract 0 (6 + b3)) = os at *
    repeat' (with_reducible refine holds_bif ?_ ?_ <;> intro h <;> simp only [decide_eq_true_eq, decide_eq_false_iff_not, bne_iff_ne, ne_eq, bne_eq_false_iff_eq, Bool.not_eq_true', Bool.not_eq_false'] at h)
    all_goals first
      | (exfalso; omega)
      | (refine ⟨?_, .inr rfl, trivial, congrArg AV.v (key _ ?_)⟩
         · repeat' first
             | with_reducible exact trivial
             | with_reducible refine cdb_iff.2 ⟨?_, ?_⟩
           all_goals (refine decide_eq_true ?_; first | omega | exact Nat.le_trans hx hs | (rw [hS (by omega) (by omega)]; have := hz (by omega); omega))
         · unfold fv
           rw [hoe]
           repeat' split
           all_goals first
             | rfl
             | (exfalso; omega)
             | (rcases hE (by omega) with e4 | e4 <;> first | (exfalso; omega) | (rw [e4]; rfl))
             | (rw [Int.toNat_natCast, hS (by omega) (by omega), hz (by omega), h4]))
  · rw [show (if ((s.size : Nat) : Int) < 4 then ((s.size : Nat) : Int) else 4) = 2 by rw [hn]; rfl]
    refine Trl.of_code (knownH nro) (ne_nil (by kernel_rfl)) (h_go2 s _) ?_
    generalize (s.data.getD 0 0).toNat = b0 at *
    generalize (s.data.getD 1 0).toNat = b1 at *
    generalize (s.data.getD 2 0).toNat = b2 at *
    generalize (s.data.getD 3 0).toNat = b3 at *
    try rw [wr0 b0 h0]
    try rw [wr0 b1 h1]
    try rw [wr0 b2 h2]
    try rw [wr0 b3 h3]
    try rw [wr46 b3 h3]
    try rw [Int.toNat_natCast (6 + b3)]
    generalize hoe : openE (s.extract 0 (6 + b3)) = oe at *
    generalize hos : openS (s.extract 0 (6 + b3)) = os at *
    repeat' (with_reducible refine holds_bif ?_ ?_ <;> intro h <;> simp only [decide_eq_true_eq, decide_eq_false_iff_not, bne_iff_ne, ne_eq, bne_eq_false_iff_eq, Bool.not_eq_true', Bool.not_eq_false'] at h)
    all_goals first
      | (exfalso; omega)
      | (refine ⟨?_, .inr rfl, trivial, congrArg AV.v (key _ ?_)⟩
         · repeat' first
             | with_reducible exact trivial
             | with_reducible refine cdb_iff.2 ⟨?_, ?_⟩
           all_goals (refine decide_eq_true ?_; first | omega | exact Nat.le_trans hx hs | (rw [hS (by omega) (by omega)]; have := hz (by omega); omega))
         · unfold fv
           rw [hoe]
           repeat' split
           all_goals first
             | rfl
             | (exfalso; omega)
             | (rcases hE (by omega) with e4 | e4 <;> first | (exfalso; omega) | (rw [e4]; rfl))
             | (rw [Int.toNat_natCast, hS (by omega) (by omega), hz (by omega), h4]))
  · rw [show (if ((s.size : Nat) : Int) < 4 then ((s.size : Nat) : Int) else 4) = 3 by rw [hn]; rfl]
    refine Trl.of_code (knownH nro) (ne_nil (by kernel_rfl)) (h_go3 s _) ?_
    generalize (s.data.getD 0 0).toNat = b0 at *
    generalize (s.data.getD 1 0).toNat = b1 at *
    generalize (s.data.getD 2 0).toNat = b2 at *
    generalize (s.data.getD 3 0).toNat = b3 at *
    try rw [wr0 b0 h0]
    try rw [wr0 b1 h1]
    try rw [wr0 b2 h2]
    try rw [wr0 b3 h3]
    try rw [wr46 b3 h3]
    try rw [Int.toNat_natCast (6 + b3)]
    generalize hoe : openE (s.extract 0 (6 + b3)) = oe at *
    generalize hos : openS (s.extract 0 (6 + b3)) = os at *
    repeat' (with_reducible refine holds_bif ?_ ?_ <;> intro h <;> simp only [decide_eq_true_eq, decide_eq_false_iff_not, bne_iff_ne, ne_eq, bne_eq_false_iff_eq, Bool.not_eq_true', Bool.not_eq_false'] at h)
    all_goals first
      | (exfalso; omega)
      | (refine ⟨?_, .inr rfl, trivial, congrArg AV.v (key _ ?_)⟩
         · repeat' first
             | with_reducible exact trivial
             | with_reducible refine cdb_iff.2 ⟨?_, ?_⟩
           all_goals (refine decide_eq_true ?_; first | omega | exact Nat.le_trans hx hs | (rw [hS (by omega) (by omega)]; have := hz (by omega); omega))
         · unfold fv
           rw [hoe]
           repeat' split
           all_goals first
             | rfl
             | (exfalso; omega)
             | (rcases hE (by omega) with e4 | e4 <;> first | (exfalso; omega) | (rw [e4]; rfl))
             | (rw [Int.toNat_natCast, hS (by omega) (by omega), hz (by omega), h4]))
  · rw [show (if ((s.size : Nat) : Int) < 4 then ((s.size : Nat) : Int) else 4) = 4 by rw [if_neg (by omega)]]
    refine Trl.of_code (knownH nro) (ne_nil (by kernel_rfl)) (h_go4 s _) ?_
    generalize (s.data.getD 0 0).toNat = b0 at *
    generalize (s.data.getD 1 0).toNat = b1 at *
    generalize (s.data.getD 2 0).toNat = b2 at *
    generalize (s.data.getD 3 0).toNat = b3 at *
    try rw [wr0 b0 h0]
    try rw [wr0 b1 h1]
    try rw [wr0 b2 h2]
    try rw [wr0 b3 h3]
    try rw [wr46 b3 h3]
    try rw [Int.toNat_natCast (6 + b3)]
    generalize hoe : openE (s.extract 0 (6 + b3)) = oe at *
    generalize hos : openS (s.extract 0 (6 + b3)) = os at *
    repeat' (with_reducible refine holds_bif ?_ ?_ <;> intro h <;> simp only [decide_eq_true_eq, decide_eq_false_iff_not, bne_iff_ne, ne_eq, bne_eq_false_iff_eq, Bool.not_eq_true', Bool.not_eq_false'] at h)
    all_goals first
      | (exfalso; omega)
      | (refine ⟨?_, .inr rfl, trivial, congrArg AV.v (key _ ?_)⟩
         · repeat' first
             | with_reducible exact trivial
             | with_reducible refine cdb_iff.2 ⟨?_, ?_⟩
           all_goals (refine decide_eq_true ?_; first | omega | exact Nat.le_trans hx hs | (rw [hS (by omega) (by omega)]; have := hz (by omega); omega))
         · unfold fv
           rw [hoe]
           repeat' split
           all_goals first
             | rfl
             | (exfalso; omega)
             | (rcases hE (by omega) with e4 | e4 <;> first | (exfalso; omega) | (rw [e4]; rfl))
             | (rw [Int.toNat_natCast, hS (by omega) (by omega), hz (by omega), h4]))
def firstP : List Value → Option (Value × Bool) := fun us => match us with
  | [.string s] => some (firstV s, decide (s.size ≤ 100000))
  | _ => none
theorem first_ok (ro : Nat → Option (List Value)) : ∀ args H r H', pure? firstP args H = some (r, H') → HSound1 Try.prog ro 10 args H r H' := by
  refine pure_ok (fun us c hs => Fs.ro ?_ ro) (has_fn (by kernel_rfl))
  unfold firstP at hs
  split at hs
  · rename_i s
    simp only [Option.some.injEq, Prod.mk.injEq, decide_eq_true_eq] at hs
    obtain ⟨rfl, h⟩ := hs
    exact fs_first s h
  · cases hs
theorem rfirst_ok (ro : Nat → Option (List Value)) : ∀ args H r H', pure? firstP args H = some (r, H') → HSound1 Try.prog ro 11 args H r H' := by
  refine pure_ok (fun us c hs => Fs.ro ?_ ro) (has_fn (by kernel_rfl))
  unfold firstP at hs
  split at hs
  · rename_i s
    simp only [Option.some.injEq, Prod.mk.injEq, decide_eq_true_eq] at hs
    obtain ⟨rfl, h⟩ := hs
    exact fs_rfirst s h
  · cases hs
end Go.Proofs.Ytimocgjeikgilaa.AE
