/-
  The laws HeadGets and HeadPuts of layer 23: the calls come to true.
-/
import Derived.Test.YtimocgjeikgilaaT23G
namespace Go.Proofs.Ytimocgjeikgilaa
open Go.RowKit AE Cr Oc
theorem no_beq {α : Type} [BEq α] [LawfulBEq α] {n : α} {P : Prop} (h : (n == n) = false) : P := by simp at h
theorem w_HeadGets (w : World) (s : ByteArray) (_ : s.size ≤ maxLen) :
    Calls Try.prog 4 #[.string s] w fun e w' => e = .returned (.bool true) ∧ Below w.heap.size w w' := by
  refine law_true (ro := nro) (args := [.v (.string s)]) ?_ w _ (ro_none _ _) (.cons (.v _) .nil)
  refine Fs.of_call knownT (t_gets s fun r => r = .v (.bool true)) ?_
  generalize fK s = k
  generalize fB s = b
  generalize fN s = n
  generalize fE s = e
  repeat' (with_reducible refine holds_bif ?_ ?_ <;> intro h <;> simp only [decide_eq_true_eq, decide_eq_false_iff_not, bne_iff_ne, ne_eq, bne_eq_false_iff_eq, beq_self_eq_true, beq_iff_eq, beq_eq_false_iff_ne, Bool.not_eq_true', Bool.not_eq_false', reduceCtorEq] at h)
  all_goals first
    | (exfalso; omega)
    | (refine ⟨?_, rfl⟩
       repeat' first
         | with_reducible exact trivial
         | with_reducible refine cdb_iff.2 ⟨?_, ?_⟩
       all_goals (refine decide_eq_true ?_; omega))
end Go.Proofs.Ytimocgjeikgilaa
