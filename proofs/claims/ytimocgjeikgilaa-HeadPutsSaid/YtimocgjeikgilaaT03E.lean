/-
  Layer 3: more bytes; the document's bits.
-/
import Derived.Test.YtimocgjeikgilaaT03D
namespace Go.Proofs.Ytimocgjeikgilaa.AE
open Go.RowKit Cr
def w16 (n : Int) : Nat := (n % 65536).toNat
theorem w16_lt (n : Int) : w16 n < 65536 := by unfold w16; omega
theorem wrap16 (n : Int) : IntKind.wrap .u16 n = (w16 n : Nat) := by rw [IntKind.wrap_u16]; unfold w16; omega
theorem wrap64 (n : Nat) (h : n < 9223372036854775808) : IntKind.wrap .i64 (n : Int) = (n : Nat) := by rw [IntKind.wrap_i64]; omega
def moreV (n : Int) (s : ByteArray) : Value := .int .i64 (bytL (w16 n) (bytsOf s) : Nat)
theorem fs_more (n : Int) (s : ByteArray) (hs : s.size ≤ 100000) : Fs Try.prog nro 27 [.v (.int .i64 n), .v (.string s)] (hp [] []) fun r _ => r = .v (moreV n s) := by
  refine Fs.of_call (knownM nro) (more_run n s (fun r _ => r = .v (moreV n s))) ⟨?_, ?_⟩
  · with_reducible refine cdb_iff.2 ⟨trivial, decide_eq_true ⟨?_, ?_, hs⟩⟩
    · rw [wrap16]; exact Int.natCast_nonneg _
    · rw [wrap16]; have := w16_lt n; omega
  · rw [wrap16, Int.toNat_natCast, wrap64 _ (Nat.lt_trans (bytL_lt (w16_lt n) _) (by decide))]
    rfl
def moreP : List Value → Option (Value × Bool) := fun us => match us with
  | [.int .i64 n, .string s] => some (moreV n s, decide (s.size ≤ 100000))
  | _ => none
theorem more_ok (ro : Nat → Option (List Value)) : ∀ args H r H', pure? moreP args H = some (r, H') → HSound1 Try.prog ro 27 args H r H' := by
  refine pure_ok (fun us c hs => Fs.ro ?_ ro) (has_fn (by kernel_rfl))
  unfold moreP at hs
  split at hs
  · rename_i n s
    simp only [Option.some.injEq, Prod.mk.injEq, decide_eq_true_eq] at hs
    obtain ⟨rfl, h⟩ := hs
    exact fs_more n s h
  · cases hs
theorem b_pre (s : ByteArray) (i : Int) (R : Exit → List AV → AH → Prop) : codeL nro (fun _ => false) (fun _ => none) 5 ((flatten (bodyOf 31)).take 3) ([.v (.string s), .v (.int .i64 i)] ++ List.replicate 26 (.v undef)) (hp [] []) (kp [5, 6] R) =
    (some ((cdb True (decide (((0 : Int) ≤ (IntKind.wrap IntKind.i64 (Int.tdiv i (8 : Int)))) ∧ ((Int.toNat (IntKind.wrap IntKind.i64 (Int.tdiv i (8 : Int)))) < (ByteArray.size s))))) ∧ (R Exit.normal [AV.dead, AV.dead, AV.dead, AV.dead, AV.dead, (AV.v (Value.int IntKind.i64 (IntKind.wrap IntKind.i64 ((UInt8.toNat (Array.getD (ByteArray.data s) (Int.toNat (IntKind.wrap IntKind.i64 (Int.tdiv i (8 : Int)))) (@OfNat.ofNat UInt8 (0 : Nat) (@UInt8.instOfNat 0)))) : Int)))), (AV.v (Value.int IntKind.i64 (IntKind.wrap IntKind.i64 (i - (IntKind.wrap IntKind.i64 ((IntKind.wrap IntKind.i64 (Int.tdiv i (8 : Int))) * (8 : Int))))))), AV.dead, AV.dead, AV.dead, AV.dead, AV.dead, AV.dead, AV.dead, AV.dead, AV.dead, AV.dead, AV.dead, AV.dead, AV.dead, AV.dead, AV.dead, AV.dead, AV.dead, AV.dead, AV.dead, AV.dead, AV.dead] (AH.mk (@List.nil (Prod Go.TypeId (List AV))) (@List.nil Nat) (0 : Nat) (0 : Nat) true (@List.nil (Prod Nat Bool)) True)))) := by kernel_rfl
theorem b_body (c k : Int) (R : Exit → List AV → AH → Prop) : code nro (fun _ => false) (fun _ => none) 5 (sub (bodyOf 31) [1, 1, 0, 1, 0, 0]) (List.replicate 5 .dead ++ [.v (.int .i64 c), .v (.int .i64 k)] ++ List.replicate 21 .dead) (hp [] []) (kp [5, 6] R) =
    (bif (decide (k < (7 : Int))) then (some (True ∧ (R Exit.normal [AV.dead, AV.dead, AV.dead, AV.dead, AV.dead, (AV.v (Value.int IntKind.i64 (IntKind.wrap IntKind.i64 (Int.tdiv c (2 : Int))))), (AV.v (Value.int IntKind.i64 (IntKind.wrap IntKind.i64 (k + (1 : Int))))), AV.dead, AV.dead, AV.dead, AV.dead, AV.dead, AV.dead, AV.dead, AV.dead, AV.dead, AV.dead, AV.dead, AV.dead, AV.dead, AV.dead, AV.dead, AV.dead, AV.dead, AV.dead, AV.dead, AV.dead, AV.dead] (AH.mk (@List.nil (Prod Go.TypeId (List AV))) (@List.nil Nat) (0 : Nat) (0 : Nat) true (@List.nil (Prod Nat Bool)) True)))) else (some (True ∧ (R (Exit.exit (0 : Nat)) [AV.dead, AV.dead, AV.dead, AV.dead, AV.dead, (AV.v (Value.int IntKind.i64 c)), (AV.v (Value.int IntKind.i64 k)), AV.dead, AV.dead, AV.dead, AV.dead, AV.dead, AV.dead, AV.dead, AV.dead, AV.dead, AV.dead, AV.dead, AV.dead, AV.dead, AV.dead, AV.dead, AV.dead, AV.dead, AV.dead, AV.dead, AV.dead, AV.dead] (AH.mk (@List.nil (Prod Go.TypeId (List AV))) (@List.nil Nat) (0 : Nat) (0 : Nat) true (@List.nil (Prod Nat Bool)) True))))) := by kernel_rfl
theorem b_post (c k : Int) (R : Exit → List AV → AH → Prop) : codeL nro (fun _ => false) (fun _ => none) 5 ((flatten (bodyOf 31)).drop 4) (List.replicate 5 .dead ++ [.v (.int .i64 c), .v (.int .i64 k)] ++ List.replicate 21 .dead) (hp [] []) (kp [4] R) =
    (some (True ∧ (R Exit.ret [AV.dead, AV.dead, AV.dead, AV.dead, (AV.v (Value.int IntKind.i64 (IntKind.wrap IntKind.i64 (c - (IntKind.wrap IntKind.i64 ((IntKind.wrap IntKind.i64 (Int.tdiv c (2 : Int))) * (2 : Int))))))), AV.dead, AV.dead, AV.dead, AV.dead, AV.dead, AV.dead, AV.dead, AV.dead, AV.dead, AV.dead, AV.dead, AV.dead, AV.dead, AV.dead, AV.dead, AV.dead, AV.dead, AV.dead, AV.dead, AV.dead, AV.dead, AV.dead, AV.dead] (AH.mk (@List.nil (Prod Go.TypeId (List AV))) (@List.nil Nat) (0 : Nat) (0 : Nat) true (@List.nil (Prod Nat Bool)) True)))) := by kernel_rfl
theorem sl_bit : slotsOf 31 = 28 := by kernel_rfl
theorem re_bit : resultsOf 31 = [.tmp 4] := by kernel_rfl
theorem fl_bit : (flatten (bodyOf 31)).drop 3 = .block 0 (.loop (sub (bodyOf 31) [1, 1, 0, 1, 0, 0])) :: (flatten (bodyOf 31)).drop 4 := by kernel_rfl
def bitA (c k : Nat) : List AV := List.replicate 5 .dead ++ [.v (.int .i64 c), .v (.int .i64 k)] ++ List.replicate 21 .dead
def bitV (s : ByteArray) (i : Nat) : Nat := (bitN (Array.getD s.data (i / 8) 0).toNat (i % 8)).toNat
theorem tdiv_nat (i c : Nat) : Int.tdiv (i : Int) (c : Int) = ((i / c : Nat) : Int) := Int.tdiv_eq_ediv_of_nonneg (Int.natCast_nonneg i)
theorem bit_end (c : Nat) (h : c < 256) : IntKind.wrap .i64 ((c : Int) - IntKind.wrap .i64 (IntKind.wrap .i64 (Int.tdiv (c : Int) 2) * 2)) = ((c % 2 : Nat) : Int) := by
  rw [show Int.tdiv (c : Int) 2 = ((c / 2 : Nat) : Int) from tdiv_nat c 2, wrap64 (c / 2) (by omega), IntKind.wrap_i64, IntKind.wrap_i64]
  omega
theorem bit_val {s : ByteArray} {i B c : Nat} (hB : B = (Array.getD s.data (i / 8) 0).toNat) (hc : c = B / 2 ^ (7 - i % 8)) : c % 2 = bitV s i := by
  unfold bitV bitN
  rw [← hB, ← hc]
  have : c % 2 = 0 ∨ c % 2 = 1 := by omega
  rcases this with h | h <;> simp [h]
theorem fs_bit (s : ByteArray) (i : Nat) (hs : s.size ≤ 100000) (hi : i < 8 * s.size) : Fs Try.prog nro 31 [.v (.string s), .v (.int .i64 i)] (hp [] []) fun r _ => r = .v (.int .i64 (bitV s i : Nat)) := by
  refine Fs.of_body (has_fn (by kernel_rfl)) ?_
  rw [sl_bit, re_bit]
  have ht : IntKind.wrap .i64 (Int.tdiv (i : Int) 8) = ((i / 8 : Nat) : Int) := by
    rw [show Int.tdiv (i : Int) 8 = ((i / 8 : Nat) : Int) from tdiv_nat i 8]
    exact wrap64 _ (by omega)
  have hm : IntKind.wrap .i64 ((i : Int) - IntKind.wrap .i64 (((i / 8 : Nat) : Int) * 8)) = ((i % 8 : Nat) : Int) := by
    rw [IntKind.wrap_i64, IntKind.wrap_i64]; omega
  obtain ⟨B, hB⟩ : ∃ B, B = (Array.getD s.data (i / 8) 0).toNat := ⟨_, rfl⟩
  have hB' : B < 256 := by rw [hB]; exact UInt8.toNat_lt _
  have hc : IntKind.wrap .i64 ((UInt8.toNat (Array.getD s.data (Int.toNat ((i / 8 : Nat) : Int)) 0) : Nat) : Int) = ((B : Nat) : Int) := by
    show IntKind.wrap .i64 ((UInt8.toNat (Array.getD s.data (i / 8) 0) : Nat) : Int) = _
    rw [← hB]; exact wrap64 _ (by omega)
  have pre := fun R => b_pre s i R
  rw [ht, hm, hc] at pre
  refine Tr.of_flat (Trl.split 3 (Trl.of_code (known_none nro) (ne_nil (by kernel_rfl)) (pre _) ⟨?_, ?_⟩))
  · with_reducible refine cdb_iff.2 ⟨trivial, decide_eq_true ⟨Int.natCast_nonneg _, ?_⟩⟩
    show i / 8 < s.size
    omega
  show Trl _ _ ((flatten (bodyOf 31)).drop 3) _ _ _
  rw [fl_bit]
  let I : Nat → List AV → AH → Prop := fun m act H => ∃ k c, i % 8 ≤ k ∧ k ≤ 7 ∧ m = 7 - k ∧ act = bitA c k ∧ c = B / 2 ^ (k - i % 8) ∧ H = hp [] []
  refine Tr.block (Tr.loop I ?_ (m := 7 - i % 8) ⟨i % 8, B, Nat.le_refl _, by omega, rfl, rfl, ?_, rfl⟩)
  · rintro m act H ⟨k, c, hk0, hk, rfl, rfl, hc, rfl⟩
    have hcs : c ≤ B := by rw [hc]; exact Nat.div_le_self _ _
    have body := fun R => b_body c k R
    rw [show IntKind.wrap .i64 (Int.tdiv (c : Int) 2) = ((c / 2 : Nat) : Int) by rw [show Int.tdiv (c : Int) 2 = ((c / 2 : Nat) : Int) from tdiv_nat c 2]; exact wrap64 _ (by omega), add_one k (by omega)] at body
    refine Tr.of_code (known_none nro) (body _) (holds_bif (fun h8 => ?_) (fun h8 => ?_))
    · have h8 := of_decide_eq_true h8
      refine ⟨trivial, 7 - (k + 1), by omega, k + 1, c / 2, by omega, by omega, rfl, rfl, ?_, rfl⟩
      rw [hc, Nat.div_div_eq_div_mul, show k + 1 - i % 8 = (k - i % 8) + 1 by omega, Nat.pow_succ]
    · have h8 := of_decide_eq_false h8
      obtain rfl : k = 7 := by omega
      refine ⟨trivial, ?_⟩
      show Trl _ _ ((flatten (bodyOf 31)).drop 4) _ _ _
      have post := fun R => b_post c (7 : Nat) R
      rw [bit_end c (by omega)] at post
      have hb : c % 2 = bitV s i := bit_val hB hc
      clear hc body
      exact Trl.of_code (known_none nro) (ne_nil (by kernel_rfl)) (post _) ⟨trivial, .inr rfl, trivial, congrArg (fun z : Nat => AV.v (.int .i64 (z : Int))) hb⟩
  · rw [Nat.sub_self, Nat.pow_zero, Nat.div_one]
end Go.Proofs.Ytimocgjeikgilaa.AE
