/-
  The law CrcSeals of layer 3: the call comes to true.
-/
import Derived.Test.YtbnhhacjoabpaaaT03P
namespace Go.Proofs.Ytbnhhacjoabpaaa
open Go.RowKit AE Cr Oc
theorem byts_inj {a b : ByteArray} (h : bytsOf a = bytsOf b) : a = b := by
  apply ByteArray.ext
  exact Array.toList_inj.1 h
theorem byts_seal (a : ByteArray) : bytsOf (sealS a) = bytsOf a ++ be 2 (sumS a) := rfl
theorem seal_body (a : ByteArray) : bodyB (sealS a) = a := by
  have h2 : 2 ≤ (sealS a).size := by rw [seal_size]; omega
  have h := split_b (sealS a) h2
  rw [byts_seal] at h
  refine byts_inj (List.append_inj h ?_).1.symm
  rw [len_byts, len_byts]
  unfold bodyB
  rw [ByteArray.size_extract, seal_size]
  omega
theorem seal_opens (a : ByteArray) : opens (sealS a) = true := by
  unfold opens
  rw [seal_body]
  exact beq_self_eq_true _
theorem open_seal (a : ByteArray) : openS (sealS a) = a ∧ openE (sealS a) = 0 := by
  have h2 : ¬ (sealS a).size < 2 := by rw [seal_size]; omega
  unfold openS openE
  rw [if_neg h2, if_neg h2, seal_opens, seal_body]
  exact ⟨rfl, rfl⟩
theorem sum_seal (a : ByteArray) : bytL 65535 (bytsOf (sealS a)) = 0 := by
  rw [byts_seal, bytL_app]
  exact seal_zero _ (sumS_lt a)
theorem no_beq {α : Type} [BEq α] [LawfulBEq α] {n : α} {P : Prop} (h : (n == n) = false) : P := by simp at h
theorem w_CrcSeals (w : World) (a : ByteArray) (_ : a.size ≤ maxLen) (b : ByteArray) (_ : b.size ≤ maxLen) :
    Calls Try.prog 4 #[.string a, .string b] w fun e w' => e = .returned (.bool true) ∧ Below w.heap.size w w' := by
  refine law_true (ro := nro) (args := [.v (.string a), .v (.string b)]) ?_ w _ (ro_none _ _) (.cons (.v _) (.cons (.v _) .nil))
  have t := t_seals a b fun r => r = .v (.bool true)
  rw [sum_seal, (open_seal a).1, (open_seal a).2] at t
  refine Fs.of_call knownS t (holds_bif (fun _ => ⟨trivial, rfl⟩) fun h1 => holds_bif (fun _ => ⟨trivial, rfl⟩) fun h2 => holds_bif (fun _ => holds_bif (fun _ => holds_bif (fun _ => holds_bif (fun _ => holds_bif (fun _ => holds_bif (fun _ => holds_bif (fun _ => holds_bif (fun _ => ?_) no_beq) no_beq) no_beq) no_beq) no_beq) no_beq) (fun h => by simp at h)) no_beq)
  have h1 := of_decide_eq_false h1
  have h2 := of_decide_eq_false h2
  refine ⟨?_, rfl⟩
  have ha : a.size ≤ 100000 := by omega
  have hb : b.size ≤ 100000 := by omega
  have hs : (sealS a).size ≤ 100000 := by rw [seal_size]; omega
  repeat' first
    | with_reducible exact trivial
    | with_reducible refine cdb_iff.2 ⟨?_, ?_⟩
  all_goals (refine decide_eq_true ?_; first | with_reducible exact ha | with_reducible exact hb | with_reducible exact hs | with_reducible exact ⟨ha, hb⟩)
end Go.Proofs.Ytbnhhacjoabpaaa
