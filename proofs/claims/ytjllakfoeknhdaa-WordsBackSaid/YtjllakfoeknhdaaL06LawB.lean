/-
  The law WordsJoins of layer 6: the call comes to true.
-/
import Derived.Test.YtjllakfoeknhdaaT06M
import Derived.Test.YtjllakfoeknhdaaAEList
import Derived.Test.YtjllakfoeknhdaaStrsIn
namespace Go.Proofs.Ytjllakfoeknhdaa
open Go.RowKit AE
theorem no_beqB {α : Type} [BEq α] [LawfulBEq α] {n : α} {P : Prop} (h : (n == n) = false) : P := by simp at h
theorem strs_rv {w : World} {a : Option Addr} {l : List ByteArray} {cap : Nat} (h : RowAt w a (l.map Value.string)) (hc : l.length ≤ cap) (hx : cap ≤ maxLen) : RV (G0 w) w (.lst 1 (l.map sv) .no) (.slice a l.length cap) := by
  have := row_rv h (fun u hu => by obtain ⟨z, _, rfl⟩ := List.mem_map.1 hu; rfl) (fun u hu => by obtain ⟨z, _, rfl⟩ := List.mem_map.1 hu; rfl) (by rw [List.length_map]; exact hc) hx
  rwa [List.map_map, List.length_map] at this
theorem w_WordsJoins (w : World) (a : Option Addr) (cap : Nat) (l : List ByteArray) (hr : RowAt w a (l.map Value.string)) (hc : l.length ≤ cap) (hx : cap ≤ maxLen) (_ : ∀ s ∈ l, s.size ≤ maxLen) (s : ByteArray) (_ : s.size ≤ maxLen) :
    Calls Try.prog 4 #[.slice a l.length cap, .string s] w fun e w' => e = .returned (.bool true) ∧ Below w.heap.size w w' := by
  refine law_true (ro := nro) (args := [.lst 1 (l.map sv) .no, .v (.string s)]) ?_ w _ (ro_none _ _) (.cons (strs_rv hr hc hx) (.cons (.v _) .nil))
  have h1 := fewOk_of l .no
  refine Fs.of_call knownU (t_WordsJoins fewX linesS wordsS (fun s => plainL s.data.toList) cutA cutB cutK joinX findN findB sameX l s fun r => r = .v (.bool true)) (holds_bif (fun _ => ⟨cdb_iff.2 ⟨trivial, h1⟩, rfl⟩) fun h => holds_bif (fun _ => ⟨cdb_iff.2 ⟨trivial, h1⟩, rfl⟩) fun _ => holds_bif (fun _ => holds_bif (fun _ => holds_bif (fun _ => ⟨?_, rfl⟩) no_beqB) no_beqB) no_beqB)
  have h : fewL l = true := by rw [fewX_of] at h; simpa using h
  obtain ⟨h2, h3⟩ := fewL_of h
  have h4 := findOk_of s l .no (by omega)
  have h5 := joinOk_of (l := l) (tip := .no) (by omega) (fun x hx => by have := h3 x hx; omega)
  exact cdb_iff.2 ⟨cdb_iff.2 ⟨cdb_iff.2 ⟨cdb_iff.2 ⟨cdb_iff.2 ⟨trivial, h1⟩, h4⟩, h4⟩, h5⟩, h5⟩
end Go.Proofs.Ytjllakfoeknhdaa
