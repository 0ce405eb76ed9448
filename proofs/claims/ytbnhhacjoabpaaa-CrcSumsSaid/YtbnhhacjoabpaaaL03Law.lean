/-
  The law CrcSums of layer 3: the call comes to true.
-/
import Derived.Test.YtbnhhacjoabpaaaT03H
namespace Go.Proofs.Ytbnhhacjoabpaaa
open Go.RowKit AE Cr
theorem bytsOf_app (a b : ByteArray) : bytsOf (a ++ b) = bytsOf a ++ bytsOf b := by
  unfold bytsOf
  rw [ByteArray.data_append, Array.toList_append]
theorem w16_id (n : Nat) (h : n < 65536) : w16 (n : Int) = n := by unfold w16; omega
theorem sums_app (a b : ByteArray) : bytL (w16 ((bytL 65535 (bytsOf a) : Nat) : Int)) (bytsOf b) = bytL 65535 (bytsOf (a ++ b)) := by
  rw [w16_id _ (bytL_lt (by decide) _), bytsOf_app, bytL_app]
theorem no_self {n : Int} {P : Prop} (h : (n == n) = false) : P := by simp at h
theorem w_CrcSums (w : World) (a : ByteArray) (_ : a.size ≤ maxLen) (b : ByteArray) (_ : b.size ≤ maxLen) (n : Int) (_ : (Lit.int .i64 n).wf = true) :
    Calls Try.prog 3 #[.string a, .string b, .int .i64 n] w fun e w' => e = .returned (.bool true) ∧ Below w.heap.size w w' := by
  refine law_true (ro := nro) (args := [.v (.string a), .v (.string b), .v (.int .i64 n)]) ?_ w _ (ro_none _ _) (.cons (.v _) (.cons (.v _) (.cons (.v _) .nil)))
  refine Fs.of_call knownS (t_sums a b n fun r => r = .v (.bool true)) (holds_bif (fun _ => ⟨trivial, rfl⟩) fun h1 => holds_bif (fun _ => ⟨trivial, rfl⟩) fun h2 => holds_bif (fun _ => holds_bif (fun _ => holds_bif (fun _ => ?_) fun h => ?_) no_self) no_self)
  · have h1 := of_decide_eq_false h1
    have h2 := of_decide_eq_false h2
    refine ⟨?_, rfl⟩
    have ha : a.size ≤ 300 := by omega
    have hb : b.size ≤ 300 := by omega
    have hab : (a ++ b).size ≤ 100000 := by rw [ByteArray.size_append]; omega
    repeat' first
      | with_reducible exact trivial
      | with_reducible refine cdb_iff.2 ⟨?_, ?_⟩
    all_goals (refine decide_eq_true ?_; first | exact hab | omega)
  · rw [sums_app] at h
    exact no_self h
end Go.Proofs.Ytbnhhacjoabpaaa
