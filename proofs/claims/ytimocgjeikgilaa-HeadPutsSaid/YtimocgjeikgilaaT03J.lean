/-
  Layer 3: the prims of sealing and opening.
-/
import Derived.Test.YtimocgjeikgilaaT03I
namespace Go.Proofs.Ytimocgjeikgilaa.AE
open Go.RowKit Cr Oc
def sumS (s : ByteArray) : Nat := bytL 65535 (bytsOf s)
theorem sumS_lt (s : ByteArray) : sumS s < 65536 := bytL_lt (by decide) _
def sealS (s : ByteArray) : ByteArray := ⟨(bytsOf s ++ be 2 (sumS s)).toArray⟩
theorem fits2 (n : Nat) (h : n < 65536) : fits (n : Int) 2 = true := by
  simp only [fits, Bool.and_eq_true, decide_eq_true_eq]
  refine ⟨⟨⟨?_, ?_⟩, ?_⟩, ?_⟩ <;> first | decide | omega | (show (n : Int) < (256 : Int) ^ 2; omega)
theorem put_seal (s : ByteArray) : putS s ((sumS s : Nat) : Int) 2 = sealS s := by
  unfold putS
  rw [if_pos (fits2 _ (sumS_lt s))]
  rfl
theorem num_seal (s : ByteArray) : s ++ numStr ((sumS s : Nat) : Int) 2 = sealS s := by
  unfold numStr
  rw [if_neg (by omega)]
  apply ByteArray.ext
  rw [ByteArray.data_append]
  apply Array.toList_inj.1
  rw [Array.toList_append]
  rfl
theorem seal_size (s : ByteArray) : (sealS s).size = s.size + 2 := by
  show (bytsOf s ++ be 2 (sumS s)).toArray.size = _
  rw [List.size_toArray, List.length_append, len_byts]
  rfl
def sealP : List Value → Option (Value × Bool) := fun us => match us with
  | [.string s] => some (.string (sealS s), decide (s.size ≤ 100000))
  | _ => none
theorem fs_seal (s : ByteArray) (hs : s.size ≤ 100000) : Fs Try.prog nro 16 [.v (.string s)] (hp [] []) fun r _ => r = .v (.string (sealS s)) := by
  refine Fs.of_call (knownK nro) (t_seal s fun r => r = .v (.string (sealS s))) ⟨?_, ?_⟩
  · with_reducible refine cdb_iff.2 ⟨cdb_iff.2 ⟨trivial, decide_eq_true hs⟩, decide_eq_true ?_⟩
    omega
  · exact congrArg (fun z => AV.v (.string z)) (put_seal s)
theorem seal_ok (ro : Nat → Option (List Value)) : ∀ args H r H', pure? sealP args H = some (r, H') → HSound1 Try.prog ro 16 args H r H' := by
  refine pure_ok (fun us c hs => Fs.ro ?_ ro) (has_fn (by kernel_rfl))
  unfold sealP at hs
  split at hs
  · rename_i s
    simp only [Option.some.injEq, Prod.mk.injEq, decide_eq_true_eq] at hs
    obtain ⟨rfl, h⟩ := hs
    exact fs_seal s h
  · cases hs
theorem fs_rseal (s : ByteArray) (hs : s.size ≤ 100000) : Fs Try.prog nro 17 [.v (.string s)] (hp [] []) fun r _ => r = .v (.string (sealS s)) := by
  refine Fs.of_call (knownK nro) (t_rseal s fun r => r = .v (.string (sealS s))) ⟨?_, ?_⟩
  · have h1 := sumS_lt s
    have h2 : s.size + (numStr ((sumS s : Nat) : Int) 2).size = s.size + 2 := by
      rw [← ByteArray.size_append, num_seal, seal_size]
    with_reducible refine cdb_iff.2 ⟨cdb_iff.2 ⟨cdb_iff.2 ⟨trivial, decide_eq_true hs⟩, decide_eq_true ?_⟩, decide_eq_true ?_⟩
    · show ((sumS s : Nat) : Int) ≤ _
      omega
    · show s.size + (numStr ((sumS s : Nat) : Int) 2).size ≤ _
      omega
  · exact congrArg (fun z => AV.v (.string z)) (num_seal s)
theorem rseal_ok (ro : Nat → Option (List Value)) : ∀ args H r H', pure? sealP args H = some (r, H') → HSound1 Try.prog ro 17 args H r H' := by
  refine pure_ok (fun us c hs => Fs.ro ?_ ro) (has_fn (by kernel_rfl))
  unfold sealP at hs
  split at hs
  · rename_i s
    simp only [Option.some.injEq, Prod.mk.injEq, decide_eq_true_eq] at hs
    obtain ⟨rfl, h⟩ := hs
    exact fs_rseal s h
  · cases hs
noncomputable def prL : FuncId → Option (List AV → AH → Ans) := fun g => match g with
  | 16 => some (pure? sealP)
  | _ => none
theorem knownL (ro : Nat → Option (List Value)) : Known ro prL := by
  intro g p h
  unfold prL at h
  split at h
  · cases h; exact seal_ok _
  · cases h
theorem t_open (s : ByteArray) (Φ : AV → Prop) : callK nro (fun _ => false) prL 5 19 [.v (.string s)] (hp [] []) (fun r h => some (h.cd ∧ Φ r)) =
    (bif (decide (((ByteArray.size s) : Int) < (2 : Int))) then (some (True ∧ (Φ (AV.v (Value.tuple #[(Value.string (ByteArray.mk (Array.mk (@List.nil UInt8)))), (Value.int IntKind.i64 (3 : Int))]))))) else (bif (!((ByteArray.toList (sealS (ByteArray.extract s (0 : Nat) (Int.toNat (IntKind.wrap IntKind.i64 (((ByteArray.size s) : Int) - (2 : Int))))))) == (ByteArray.toList s))) then (some ((cdb (cdb True (decide (((0 : Int) ≤ (0 : Int)) ∧ (((0 : Int) ≤ (IntKind.wrap IntKind.i64 (((ByteArray.size s) : Int) - (2 : Int)))) ∧ ((IntKind.wrap IntKind.i64 (((ByteArray.size s) : Int) - (2 : Int))) ≤ ((ByteArray.size s) : Int)))))) (decide ((ByteArray.size (ByteArray.extract s (0 : Nat) (Int.toNat (IntKind.wrap IntKind.i64 (((ByteArray.size s) : Int) - (2 : Int)))))) ≤ (100000 : Nat)))) ∧ (Φ (AV.v (Value.tuple #[(Value.string (ByteArray.mk (Array.mk (@List.nil UInt8)))), (Value.int IntKind.i64 (4 : Int))]))))) else (some ((cdb (cdb True (decide (((0 : Int) ≤ (0 : Int)) ∧ (((0 : Int) ≤ (IntKind.wrap IntKind.i64 (((ByteArray.size s) : Int) - (2 : Int)))) ∧ ((IntKind.wrap IntKind.i64 (((ByteArray.size s) : Int) - (2 : Int))) ≤ ((ByteArray.size s) : Int)))))) (decide ((ByteArray.size (ByteArray.extract s (0 : Nat) (Int.toNat (IntKind.wrap IntKind.i64 (((ByteArray.size s) : Int) - (2 : Int)))))) ≤ (100000 : Nat)))) ∧ (Φ (AV.v (Value.tuple #[(Value.string (ByteArray.extract s (0 : Nat) (Int.toNat (IntKind.wrap IntKind.i64 (((ByteArray.size s) : Int) - (2 : Int)))))), (Value.int IntKind.i64 (0 : Int))]))))))) := by kernel_rfl
end Go.Proofs.Ytimocgjeikgilaa.AE
