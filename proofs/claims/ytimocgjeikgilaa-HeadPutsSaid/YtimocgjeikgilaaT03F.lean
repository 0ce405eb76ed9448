/-
  Layer 3: the document's sum.
-/
import Derived.Test.YtimocgjeikgilaaT03E
namespace Go.Proofs.Ytimocgjeikgilaa.AE
open Go.RowKit Cr
theorem bits_get : ∀ (l : List UInt8) (i : Nat), i < 8 * l.length → (bitsL l)[i]? = some (bitN (l.getD (i / 8) 0).toNat (i % 8))
  | [], i, h => by simp at h
  | b :: l, i, h => by
    have hl : 8 * (b :: l).length = 8 * l.length + 8 := by simp; omega
    rw [hl] at h
    show (bitsB b.toNat ++ bitsL l)[i]? = _
    have h8 : (bitsB b.toNat).length = 8 := rfl
    by_cases hi : i < 8
    · rw [List.getElem?_append_left (by rw [h8]; exact hi), Nat.div_eq_of_lt hi, Nat.mod_eq_of_lt hi]
      have : i = 0 ∨ i = 1 ∨ i = 2 ∨ i = 3 ∨ i = 4 ∨ i = 5 ∨ i = 6 ∨ i = 7 := by omega
      rcases this with h | h | h | h | h | h | h | h <;> subst h <;> rfl
    · rw [List.getElem?_append_right (by rw [h8]; omega), h8, bits_get l (i - 8) (by omega), show i / 8 = (i - 8) / 8 + 1 by omega, show (i - 8) % 8 = i % 8 by omega]
      rfl
theorem bits_len : ∀ l : List UInt8, (bitsL l).length = 8 * l.length
  | [] => rfl
  | b :: l => by
    show (bitsB b.toNat ++ bitsL l).length = _
    rw [List.length_append, bits_len l, List.length_cons]
    show 8 + 8 * l.length = _
    omega
theorem bitV_get (s : ByteArray) (i : Nat) (h : i < 8 * s.size) : ∃ b, (bitsL (bytsOf s))[i]? = some b ∧ bitV s i = b.toNat := by
  refine ⟨_, bits_get (bytsOf s) i (by rw [len_byts]; exact h), ?_⟩
  unfold bitV
  rw [getD_byts s (i / 8) (by omega), List.getD_eq_getElem?_getD, List.getElem?_eq_getElem (by rw [len_byts]; omega)]
  rfl
def bitP : List Value → Option (Value × Bool) := fun us => match us with
  | [.string s, .int .i64 i] => some (.int .i64 (bitV s i.toNat : Nat), decide (0 ≤ i ∧ i < 8 * (s.size : Int) ∧ s.size ≤ 100000))
  | _ => none
theorem bit_ok (ro : Nat → Option (List Value)) : ∀ args H r H', pure? bitP args H = some (r, H') → HSound1 Try.prog ro 31 args H r H' := by
  refine pure_ok (fun us c hs => Fs.ro ?_ ro) (has_fn (by kernel_rfl))
  unfold bitP at hs
  split at hs
  · rename_i s i
    simp only [Option.some.injEq, Prod.mk.injEq, decide_eq_true_eq] at hs
    obtain ⟨rfl, h1, h2, h3⟩ := hs
    obtain ⟨i, rfl⟩ := Int.eq_ofNat_of_zero_le h1
    exact fs_bit s i h3 (by omega)
  · cases hs
noncomputable def prB : FuncId → Option (List AV → AH → Ans) := fun g => match g with
  | 31 => some (pure? bitP)
  | _ => none
theorem knownB (ro : Nat → Option (List Value)) : Known ro prB := by
  intro g p h
  unfold prB at h
  split at h
  · cases h; exact bit_ok _
  · cases h
theorem m_pre (n : Int) (s : ByteArray) (R : Exit → List AV → AH → Prop) : codeL nro (fun _ => false) prB 5 ((flatten (bodyOf 28)).take 3) ([.v (.int .i64 n), .v (.string s)] ++ List.replicate 30 (.v undef)) (hp [] []) (kp [0, 1, 5] R) =
    (some (True ∧ (R Exit.normal [(AV.v (Value.int IntKind.i64 (IntKind.wrap IntKind.i64 (((@BitVec.toFin (IntKind.bits IntKind.i64) ((BitVec.ofInt (IntKind.bits IntKind.i64) n) &&& (BitVec.ofInt (IntKind.bits IntKind.i64) (65535 : Int))))).1 : Int)))), (AV.v (Value.string s)), AV.dead, AV.dead, AV.dead, (AV.v (Value.int IntKind.i64 (0 : Int))), AV.dead, AV.dead, AV.dead, AV.dead, AV.dead, AV.dead, AV.dead, AV.dead, AV.dead, AV.dead, AV.dead, AV.dead, AV.dead, AV.dead, AV.dead, AV.dead, AV.dead, AV.dead, AV.dead, AV.dead, AV.dead, AV.dead, AV.dead, AV.dead, AV.dead, AV.dead] (AH.mk (@List.nil (Prod Go.TypeId (List AV))) (@List.nil Nat) (0 : Nat) (0 : Nat) true (@List.nil (Prod Nat Bool)) True)))) := by kernel_rfl
theorem m_body (n i : Int) (s : ByteArray) (R : Exit → List AV → AH → Prop) : code nro (fun _ => false) prB 5 (sub (bodyOf 28) [1, 1, 0, 1, 0, 0]) ([.v (.int .i64 n), .v (.string s)] ++ List.replicate 3 .dead ++ .v (.int .i64 i) :: List.replicate 26 .dead) (hp [] []) (kp [0, 1, 5] R) =
    (bif (decide (i < (IntKind.wrap IntKind.i64 ((8 : Int) * ((ByteArray.size s) : Int))))) then (bif (decide ((65535 : Int) < (IntKind.wrap IntKind.i64 (n * (2 : Int))))) then (bif ((IntKind.wrap IntKind.i64 (Int.tdiv n (32768 : Int))) != ((bitV s (Int.toNat i)) : Int)) then (some ((cdb True (decide (((0 : Int) ≤ i) ∧ ((i < ((8 : Int) * ((ByteArray.size s) : Int))) ∧ ((ByteArray.size s) ≤ (100000 : Nat)))))) ∧ (R Exit.normal [(AV.v (Value.int IntKind.i64 (IntKind.wrap IntKind.i64 (((@BitVec.toFin (IntKind.bits IntKind.i64) ((BitVec.ofInt (IntKind.bits IntKind.i64) (IntKind.wrap IntKind.i64 ((IntKind.wrap IntKind.i64 (n * (2 : Int))) - (65536 : Int)))) ^^^ (BitVec.ofInt (IntKind.bits IntKind.i64) (4129 : Int))))).1 : Int)))), (AV.v (Value.string s)), AV.dead, AV.dead, AV.dead, (AV.v (Value.int IntKind.i64 (IntKind.wrap IntKind.i64 (i + (1 : Int))))), AV.dead, AV.dead, AV.dead, AV.dead, AV.dead, AV.dead, AV.dead, AV.dead, AV.dead, AV.dead, AV.dead, AV.dead, AV.dead, AV.dead, AV.dead, AV.dead, AV.dead, AV.dead, AV.dead, AV.dead, AV.dead, AV.dead, AV.dead, AV.dead, AV.dead, AV.dead] (AH.mk (@List.nil (Prod Go.TypeId (List AV))) (@List.nil Nat) (0 : Nat) (0 : Nat) true (@List.nil (Prod Nat Bool)) True)))) else (some ((cdb True (decide (((0 : Int) ≤ i) ∧ ((i < ((8 : Int) * ((ByteArray.size s) : Int))) ∧ ((ByteArray.size s) ≤ (100000 : Nat)))))) ∧ (R Exit.normal [(AV.v (Value.int IntKind.i64 (IntKind.wrap IntKind.i64 ((IntKind.wrap IntKind.i64 (n * (2 : Int))) - (65536 : Int))))), (AV.v (Value.string s)), AV.dead, AV.dead, AV.dead, (AV.v (Value.int IntKind.i64 (IntKind.wrap IntKind.i64 (i + (1 : Int))))), AV.dead, AV.dead, AV.dead, AV.dead, AV.dead, AV.dead, AV.dead, AV.dead, AV.dead, AV.dead, AV.dead, AV.dead, AV.dead, AV.dead, AV.dead, AV.dead, AV.dead, AV.dead, AV.dead, AV.dead, AV.dead, AV.dead, AV.dead, AV.dead, AV.dead, AV.dead] (AH.mk (@List.nil (Prod Go.TypeId (List AV))) (@List.nil Nat) (0 : Nat) (0 : Nat) true (@List.nil (Prod Nat Bool)) True))))) else (bif ((IntKind.wrap IntKind.i64 (Int.tdiv n (32768 : Int))) != ((bitV s (Int.toNat i)) : Int)) then (some ((cdb True (decide (((0 : Int) ≤ i) ∧ ((i < ((8 : Int) * ((ByteArray.size s) : Int))) ∧ ((ByteArray.size s) ≤ (100000 : Nat)))))) ∧ (R Exit.normal [(AV.v (Value.int IntKind.i64 (IntKind.wrap IntKind.i64 (((@BitVec.toFin (IntKind.bits IntKind.i64) ((BitVec.ofInt (IntKind.bits IntKind.i64) (IntKind.wrap IntKind.i64 (n * (2 : Int)))) ^^^ (BitVec.ofInt (IntKind.bits IntKind.i64) (4129 : Int))))).1 : Int)))), (AV.v (Value.string s)), AV.dead, AV.dead, AV.dead, (AV.v (Value.int IntKind.i64 (IntKind.wrap IntKind.i64 (i + (1 : Int))))), AV.dead, AV.dead, AV.dead, AV.dead, AV.dead, AV.dead, AV.dead, AV.dead, AV.dead, AV.dead, AV.dead, AV.dead, AV.dead, AV.dead, AV.dead, AV.dead, AV.dead, AV.dead, AV.dead, AV.dead, AV.dead, AV.dead, AV.dead, AV.dead, AV.dead, AV.dead] (AH.mk (@List.nil (Prod Go.TypeId (List AV))) (@List.nil Nat) (0 : Nat) (0 : Nat) true (@List.nil (Prod Nat Bool)) True)))) else (some ((cdb True (decide (((0 : Int) ≤ i) ∧ ((i < ((8 : Int) * ((ByteArray.size s) : Int))) ∧ ((ByteArray.size s) ≤ (100000 : Nat)))))) ∧ (R Exit.normal [(AV.v (Value.int IntKind.i64 (IntKind.wrap IntKind.i64 (n * (2 : Int))))), (AV.v (Value.string s)), AV.dead, AV.dead, AV.dead, (AV.v (Value.int IntKind.i64 (IntKind.wrap IntKind.i64 (i + (1 : Int))))), AV.dead, AV.dead, AV.dead, AV.dead, AV.dead, AV.dead, AV.dead, AV.dead, AV.dead, AV.dead, AV.dead, AV.dead, AV.dead, AV.dead, AV.dead, AV.dead, AV.dead, AV.dead, AV.dead, AV.dead, AV.dead, AV.dead, AV.dead, AV.dead, AV.dead, AV.dead] (AH.mk (@List.nil (Prod Go.TypeId (List AV))) (@List.nil Nat) (0 : Nat) (0 : Nat) true (@List.nil (Prod Nat Bool)) True)))))) else (some (True ∧ (R (Exit.exit (0 : Nat)) [(AV.v (Value.int IntKind.i64 n)), (AV.v (Value.string s)), AV.dead, AV.dead, AV.dead, (AV.v (Value.int IntKind.i64 i)), AV.dead, AV.dead, AV.dead, AV.dead, AV.dead, AV.dead, AV.dead, AV.dead, AV.dead, AV.dead, AV.dead, AV.dead, AV.dead, AV.dead, AV.dead, AV.dead, AV.dead, AV.dead, AV.dead, AV.dead, AV.dead, AV.dead, AV.dead, AV.dead, AV.dead, AV.dead] (AH.mk (@List.nil (Prod Go.TypeId (List AV))) (@List.nil Nat) (0 : Nat) (0 : Nat) true (@List.nil (Prod Nat Bool)) True))))) := by kernel_rfl
theorem m_post (n i : Int) (s : ByteArray) (R : Exit → List AV → AH → Prop) : codeL nro (fun _ => false) prB 5 ((flatten (bodyOf 28)).drop 4) ([.v (.int .i64 n), .v (.string s)] ++ List.replicate 3 .dead ++ .v (.int .i64 i) :: List.replicate 26 .dead) (hp [] []) (kp [4] R) =
    (some (True ∧ (R Exit.ret [AV.dead, AV.dead, AV.dead, AV.dead, (AV.v (Value.int IntKind.i64 n)), AV.dead, AV.dead, AV.dead, AV.dead, AV.dead, AV.dead, AV.dead, AV.dead, AV.dead, AV.dead, AV.dead, AV.dead, AV.dead, AV.dead, AV.dead, AV.dead, AV.dead, AV.dead, AV.dead, AV.dead, AV.dead, AV.dead, AV.dead, AV.dead, AV.dead, AV.dead, AV.dead] (AH.mk (@List.nil (Prod Go.TypeId (List AV))) (@List.nil Nat) (0 : Nat) (0 : Nat) true (@List.nil (Prod Nat Bool)) True)))) := by kernel_rfl
end Go.Proofs.Ytimocgjeikgilaa.AE
