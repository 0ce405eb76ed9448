/-
  Layer 3: all bytes are fed; bits.
-/
import Derived.Test.YtimocgjeikgilaaT03B
namespace Go.Proofs.Ytimocgjeikgilaa.AE
open Go.RowKit Cr
def feedP (t : TypeId) (args : List AV) (x : Value) : Option (Value × Value × Bool) := match args, x with
  | [.v (.int .u8 b), .ptr 0 0], .int .u16 n => match decide (t = 33) with
    | true => some (unit, .int .u16 (byt n.toNat b.toNat : Nat), decide (0 ≤ n ∧ n < 65536 ∧ 0 ≤ b ∧ b < 256))
    | false => none
  | _, _ => none
theorem Fs.ro {g : FuncId} {args : List AV} {H : AH} {Φ : AV → AH → Prop} (h : Fs Try.prog nro g args H Φ) (ro : Nat → Option (List Value)) : Fs Try.prog ro g args H Φ :=
  fun G W cargs hI _ hA => h G W cargs hI (ro_none _ _) hA
theorem feed_ok (ro : Nat → Option (List Value)) : ∀ args H r H', box? feedP args H = some (r, H') → HSound1 Try.prog ro 32 args H r H' := by
  refine box_ok (has_fn (by kernel_rfl)) fun t args x c x' hs => Fs.ro ?_ ro
  unfold feedP at hs
  split at hs
  · rename_i b n
    split at hs
    · rename_i ht
      have ht := of_decide_eq_true ht
      simp only [Option.some.injEq, Prod.mk.injEq, decide_eq_true_eq] at hs
      obtain ⟨rfl, rfl, h1, h2, h3, h4⟩ := hs
      obtain ⟨n, rfl⟩ := Int.eq_ofNat_of_zero_le h1
      obtain ⟨b, rfl⟩ := Int.eq_ofNat_of_zero_le h3
      subst ht
      exact fs_feed n b (by omega) (by omega)
    · cases hs
  · cases hs
noncomputable def prF : FuncId → Option (List AV → AH → Ans) := fun g => match g with
  | 32 => some (box? feedP)
  | _ => none
theorem knownF (ro : Nat → Option (List Value)) : Known ro prF := by
  intro g p h
  unfold prF at h
  split at h
  · cases h; exact feed_ok _
  · cases h
def feeder : AV := .fn (.func 32) [] [.ptr 0 0]
theorem reg_run (n : Int) (Φ : AV → AH → Prop) : callK nro (fun _ => false) (fun _ => none) 5 29 [.v (.int .i64 n)] (hp [] []) (fun r h => some (h.cd ∧ Φ r h)) =
    (some (True ∧ (Φ (AV.tuple [(AV.fn (Go.Fn.func (32 : Nat)) (@List.nil AV) [(AV.ptr (List.length (@List.nil (Prod Go.TypeId (List AV)))) (0 : Nat))]), (AV.fn (Go.Fn.func (33 : Nat)) (@List.nil AV) [(AV.ptr (List.length (@List.nil (Prod Go.TypeId (List AV)))) (0 : Nat))])]) (AH.mk [((33 : Nat), [(AV.v (Value.int IntKind.u16 (IntKind.wrap IntKind.u16 n)))])] (@List.nil Nat) (0 : Nat) (0 : Nat) true (@List.nil (Prod Nat Bool)) True)))) := by kernel_rfl
theorem a_pre (s : ByteArray) (n : Int) (R : Exit → List AV → AH → Prop) : codeL nro (fun _ => false) prF 5 ((flatten (bodyOf 30)).take 1) ([.v (.string s), .fn (.func 32) [] [.ptr 0 0]] ++ List.replicate 14 (.v undef)) (hp [(33, [.v (.int .u16 n)])] []) (kp [0, 1, 6, 7] R) =
    (some (True ∧ (R Exit.normal [(AV.v (Value.string s)), (AV.fn (Go.Fn.func (32 : Nat)) (@List.nil AV) [(AV.ptr (0 : Nat) (0 : Nat))]), AV.dead, AV.dead, AV.dead, AV.dead, (AV.v (Value.int IntKind.i64 ((ByteArray.size s) : Int))), (AV.v (Value.int IntKind.i64 (0 : Int))), AV.dead, AV.dead, AV.dead, AV.dead, AV.dead, AV.dead, AV.dead, AV.dead] (AH.mk [((33 : Nat), [(AV.v (Value.int IntKind.u16 n))])] (@List.nil Nat) (0 : Nat) (0 : Nat) true (@List.nil (Prod Nat Bool)) True)))) := by kernel_rfl
theorem a_body (s : ByteArray) (n l i : Int) (R : Exit → List AV → AH → Prop) : code nro (fun _ => false) prF 5 (sub (bodyOf 30) [1, 0, 0]) ([.v (.string s), .fn (.func 32) [] [.ptr 0 0]] ++ List.replicate 4 .dead ++ [.v (.int .i64 l), .v (.int .i64 i)] ++ List.replicate 8 .dead) (hp [(33, [.v (.int .u16 n)])] []) (kp [0, 1, 6, 7] R) =
    (bif (decide (i < l)) then (some ((cdb (cdb True (decide (((0 : Int) ≤ i) ∧ ((Int.toNat i) < (ByteArray.size s))))) (decide (((0 : Int) ≤ n) ∧ ((n < (65536 : Int)) ∧ (((0 : Int) ≤ ((UInt8.toNat (Array.getD (ByteArray.data s) (Int.toNat i) (@OfNat.ofNat UInt8 (0 : Nat) (@UInt8.instOfNat 0)))) : Int)) ∧ (((UInt8.toNat (Array.getD (ByteArray.data s) (Int.toNat i) (@OfNat.ofNat UInt8 (0 : Nat) (@UInt8.instOfNat 0)))) : Int) < (256 : Int))))))) ∧ (R Exit.normal [(AV.v (Value.string s)), (AV.fn (Go.Fn.func (32 : Nat)) (@List.nil AV) [(AV.ptr (0 : Nat) (0 : Nat))]), AV.dead, AV.dead, AV.dead, AV.dead, (AV.v (Value.int IntKind.i64 l)), (AV.v (Value.int IntKind.i64 (IntKind.wrap IntKind.i64 (i + (1 : Int))))), AV.dead, AV.dead, AV.dead, AV.dead, AV.dead, AV.dead, AV.dead, AV.dead] (AH.mk [((33 : Nat), [(AV.v (Value.int IntKind.u16 ((Cr.byt (Int.toNat n) (Int.toNat ((UInt8.toNat (Array.getD (ByteArray.data s) (Int.toNat i) (@OfNat.ofNat UInt8 (0 : Nat) (@UInt8.instOfNat 0)))) : Int))) : Int)))])] (@List.nil Nat) (0 : Nat) (0 : Nat) true (@List.nil (Prod Nat Bool)) True)))) else (some (True ∧ (R (Exit.exit (0 : Nat)) [(AV.v (Value.string s)), (AV.fn (Go.Fn.func (32 : Nat)) (@List.nil AV) [(AV.ptr (0 : Nat) (0 : Nat))]), AV.dead, AV.dead, AV.dead, AV.dead, (AV.v (Value.int IntKind.i64 l)), (AV.v (Value.int IntKind.i64 i)), AV.dead, AV.dead, AV.dead, AV.dead, AV.dead, AV.dead, AV.dead, AV.dead] (AH.mk [((33 : Nat), [(AV.v (Value.int IntKind.u16 n))])] (@List.nil Nat) (0 : Nat) (0 : Nat) true (@List.nil (Prod Nat Bool)) True))))) := by kernel_rfl
end Go.Proofs.Ytimocgjeikgilaa.AE
