/-
  The law WordsTells of layer 6: the call comes to true.
-/
import Derived.Test.YtjllakfoeknhdaaT06J
namespace Go.Proofs.Ytjllakfoeknhdaa
open Go.RowKit AE
theorem no_beq {α : Type} [BEq α] [LawfulBEq α] {n : α} {P : Prop} (h : (n == n) = false) : P := by simp at h
theorem no_same {l : List ByteArray} {P : Prop} (h : sameX (.lst 1 (l.map sv) .no) (.lst 1 (l.map sv) .no) = false) : P := by
  rw [sameX_of] at h; simp at h
theorem w_WordsTells (w : World) (s : ByteArray) (_ : s.size ≤ maxLen) :
    Calls Try.prog 3 #[.string s] w fun e w' => e = .returned (.bool true) ∧ Below w.heap.size w w' := by
  refine law_true (ro := nro) (args := [.v (.string s)]) ?_ w _ (ro_none _ _) (.cons (.v _) .nil)
  refine Fs.of_call knownV (t_WordsTells linesS wordsS (fun s => plainL s.data.toList) cutA cutB cutK joinX findN findB sameX s fun r => r = .v (.bool true)) (holds_bif (fun _ => ⟨trivial, rfl⟩) fun h => holds_bif (fun _ => holds_bif (fun _ => holds_bif (fun _ => holds_bif (fun _ => holds_bif (fun _ => holds_bif (fun _ => ⟨?_, rfl⟩) no_beq) no_beq) no_beq) no_beq) no_same) no_same)
  have h := of_decide_eq_false h
  have h1 : s.size ≤ 100000 := by omega
  have h2 : textOk [.v (.string s)] = true := decide_eq_true h1
  have h3 := sameOk_of (linesS s) (linesS s) .no .no (by have := lines_len s; omega)
  have h4 := sameOk_of (wordsS s) (wordsS s) .no .no (by have := words_len s; omega)
  repeat' first
    | with_reducible exact trivial
    | with_reducible refine cdb_iff.2 ⟨?_, ?_⟩
    | exact decide_eq_true h1
    | exact h2
    | exact h3
    | exact h4
end Go.Proofs.Ytjllakfoeknhdaa
