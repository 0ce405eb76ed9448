/-
  Layer 23: with which frame bytes begin.
-/
import Derived.Test.YtimocgjeikgilaaT23B
namespace Go.Proofs.Ytimocgjeikgilaa.AE
open Go.RowKit Cr Oc
def er (e : Int) : Value := .tuple #[.int .i64 0, .string ⟨#[]⟩, .int .i64 0, .int .i64 e]
def fv (s : ByteArray) (n b0 b1 b2 b3 : Nat) : Value :=
  if (0 < n ∧ b0 ≠ 183) ∨ (1 < n ∧ b1 ≠ 1) then er 2
  else if 2 < n ∧ (b2 < 1 ∨ 3 < b2) then er 5
  else if 3 < n ∧ 200 < b3 then er 9
  else if n < 4 ∨ n < 6 + b3 then er 3
  else if openE (s.extract 0 (6 + b3)) ≠ 0 then er 4
  else .tuple #[.int .i64 (b2 : Nat), .string (s.extract 4 (4 + b3)), .int .i64 (6 + b3 : Nat), .int .i64 0]
def bt (s : ByteArray) (k : Nat) : Nat := (s.data.getD k 0).toNat
theorem bt_lt (s : ByteArray) (k : Nat) : bt s k < 256 := UInt8.toNat_lt _
def firstV (s : ByteArray) : Value := fv s s.size (bt s 0) (bt s 1) (bt s 2) (bt s 3)
theorem wr0 (b : Nat) (h : b < 256) : IntKind.wrap .i64 (b : Int) = (b : Int) := by rw [IntKind.wrap_i64]; omega
theorem wr6 (b : Nat) (h : b < 256) : IntKind.wrap .i64 (6 + (b : Int)) = ((6 + b : Nat) : Int) := by rw [IntKind.wrap_i64]; omega
theorem wr4 (b : Nat) (h : b < 256) : IntKind.wrap .i64 (((6 + b : Nat) : Int) - 2) = ((4 + b : Nat) : Int) := by rw [IntKind.wrap_i64]; omega
theorem wr46 (b : Nat) (h : b < 256) : IntKind.wrap .i64 (IntKind.wrap .i64 (4 + (b : Int)) + 2) = ((6 + b : Nat) : Int) := by rw [IntKind.wrap_i64, IntKind.wrap_i64]; omega
theorem ext_le (s : ByteArray) (i j : Nat) : (s.extract i j).size ≤ s.size := by rw [ByteArray.size_extract]; omega
theorem cut2 (s : ByteArray) (n : Nat) (h2 : 2 ≤ n) : (s.extract 0 n).extract 0 (n - 2) = s.extract 0 (n - 2) := by
  rw [ByteArray.extract_extract, show min (0 + (n - 2)) n = n - 2 by omega, Nat.add_zero]
theorem openS_cut (s : ByteArray) (n : Nat) (h2 : 2 ≤ n) (hn : n ≤ s.size) (h : openE (s.extract 0 n) = 0) : openS (s.extract 0 n) = s.extract 0 (n - 2) := by
  have hz : (s.extract 0 n).size = n := by rw [ByteArray.size_extract]; omega
  have hl : ¬ (s.extract 0 n).size < 2 := by omega
  unfold openE at h
  rw [if_neg hl] at h
  unfold openS
  rw [if_neg hl]
  split at h
  · rename_i ho
    rw [if_pos ho]
    unfold bodyB
    rw [hz]
    exact cut2 s n h2
  · cases h
theorem openE_cut (s : ByteArray) (n : Nat) (h2 : 2 ≤ n) (hn : n ≤ s.size) : openE (s.extract 0 n) = 0 ∨ openE (s.extract 0 n) = 4 := by
  have hz : (s.extract 0 n).size = n := by rw [ByteArray.size_extract]; omega
  have hl : ¬ (s.extract 0 n).size < 2 := by omega
  unfold openE
  rw [if_neg hl]
  split
  · exact .inl rfl
  · exact .inr rfl
theorem fs_rfirst (s : ByteArray) (hs : s.size ≤ 100000) : Fs Try.prog nro 11 [.v (.string s)] (hp [] []) fun r _ => r = .v (firstV s) := by
  refine Fs.of_call (knownH nro) (t_rfirst s fun r => r = .v (firstV s)) ?_
  unfold firstV bt
  have h2 := bt_lt s 2
  have h3 := bt_lt s 3
  unfold bt at h2 h3
  generalize (s.data.getD 0 0).toNat = b0
  generalize (s.data.getD 1 0).toNat = b1
  generalize (s.data.getD 2 0).toNat = b2 at h2 ⊢
  generalize (s.data.getD 3 0).toNat = b3 at h3 ⊢
  rw [wr0 b3 h3, wr0 b2 h2, wr6 b3 h3, wr4 b3 h3, Int.toNat_natCast, Int.toNat_natCast]
  have hx := ext_le s 0 (6 + b3)
  generalize hoe : openE (s.extract 0 (6 + b3)) = oe
  have key : ∀ v : Value, fv s s.size b0 b1 b2 b3 = v → AV.v v = AV.v (fv s s.size b0 b1 b2 b3) := fun v h => by rw [h]
  repeat' (with_reducible refine holds_bif ?_ ?_ <;> intro h <;> simp only [decide_eq_true_eq, decide_eq_false_iff_not, bne_iff_ne, ne_eq, bne_eq_false_iff_eq, Bool.not_eq_true', Bool.not_eq_false'] at h)
  all_goals first
    | (exfalso; omega)
    | (refine ⟨?_, key _ ?_⟩
       · repeat' first
           | with_reducible exact trivial
           | with_reducible refine cdb_iff.2 ⟨?_, ?_⟩
         all_goals (refine decide_eq_true ?_; first | omega | exact Nat.le_trans hx hs)
       · unfold fv
         rw [hoe]
         repeat' split
         all_goals first
           | rfl
           | (exfalso; omega))
end Go.Proofs.Ytimocgjeikgilaa.AE
