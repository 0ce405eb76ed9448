/-
  The law DecTexts of layer 5: the call comes to true.
-/
import Derived.Test.YtjnonfcemicmoaaDoorT05R
import Derived.Test.YtjnonfcemicmoaaDoorT05J
import Derived.Test.YtjnonfcemicmoaaDoorAEIn
namespace Go.Proofs.YtjnonfcemicmoaaDoor
open Go.RowKit AE
theorem no_beq {α : Type} [BEq α] [LawfulBEq α] {n : α} {P : Prop} (h : (n == n) = false) : P := by simp at h
theorem wf_i64 {n : Int} (h : (Lit.int .i64 n).wf = true) : -9223372036854775808 ≤ n ∧ n ≤ 9223372036854775807 := by
  simp [Lit.wf, IntKind.min, IntKind.max, IntKind.signed, IntKind.bits] at h; omega
theorem wf_u64 {n : Int} (h : (Lit.int .u64 n).wf = true) : 0 ≤ n ∧ n < 18446744073709551616 := by
  simp [Lit.wf, IntKind.min, IntKind.max, IntKind.signed, IntKind.bits] at h; omega
theorem w_DecTexts (w : World) (hR : ∃ tS pS tR pR, Ro (ro05 tS pS tR pR) (G0 w) w) (n : Int) (hn : (Lit.int .i64 n).wf = true) (x : Int) (hx : (Lit.int .u64 x).wf = true) (s : ByteArray) (_ : s.size ≤ maxLen) :
    Calls Tryd.prog 3 #[.int .i64 n, .int .u64 x, .string s] w fun e w' => e = .returned (.bool true) ∧ Below w.heap.size w w' := by
  obtain ⟨tS, pS, tR, pR, hR⟩ := hR
  refine law_true (args := [.v (.int .i64 n), .v (.int .u64 x), .v (.string s)]) ?_ w _ hR (.cons (.v _) (.cons (.v _) (.cons (.v _) .nil)))
  have h1 := wf_i64 hn
  have h2 := wf_u64 hx
  refine Fs.of_call knownQ (t_DecTexts hexS tS tR pS pR n x s fun r => r = .v (.bool true)) (holds_bif (fun _ => ⟨trivial, rfl⟩) fun h => holds_bif (fun _ => holds_bif (fun _ => holds_bif (fun _ => holds_bif (fun _ => holds_bif (fun _ => holds_bif (fun _ => ⟨?_, rfl⟩) no_beq) no_beq) no_beq) no_beq) no_beq) no_beq)
  have h := of_decide_eq_false h
  repeat' first
    | with_reducible exact trivial
    | with_reducible refine cdb_iff.2 ⟨?_, ?_⟩
    | exact decide_eq_true h1
    | exact decide_eq_true h2
    | exact decide_eq_true (by omega)
end Go.Proofs.YtjnonfcemicmoaaDoor
