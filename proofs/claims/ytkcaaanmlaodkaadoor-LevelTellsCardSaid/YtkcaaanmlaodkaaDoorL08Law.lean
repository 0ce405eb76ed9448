/-
  The law LevelTells of layer 8: the call comes to true.
-/
import Derived.Test.YtkcaaanmlaodkaaDoorT08G
import Derived.Test.YtkcaaanmlaodkaaDoorAgg
namespace Go.Proofs.YtkcaaanmlaodkaaDoor
open Go.RowKit AE
theorem no_beq {α : Type} [BEq α] [LawfulBEq α] {n : α} {P : Prop} (h : (n == n) = false) : P := by simp at h
theorem rt_out {B C : Int} (h : rt B C = true) : 1 ≤ B ∧ B ≤ 8 ∧ 1 ≤ C ∧ C ≤ 16 := of_decide_eq_true h
theorem mul_w {B C : Int} (h : 1 ≤ B ∧ B ≤ 8 ∧ 1 ≤ C ∧ C ≤ 16) : IntKind.wrap .i64 (B * C) = B * C := by
  obtain ⟨h1, h2, h3, h4⟩ := h
  obtain ⟨B, rfl⟩ := Int.eq_ofNat_of_zero_le (show 0 ≤ B by omega)
  obtain ⟨C, rfl⟩ := Int.eq_ofNat_of_zero_le (show 0 ≤ C by omega)
  have := mul_le B C (by omega) (by omega)
  rw [← Int.natCast_mul, IntKind.wrap_i64]
  omega
theorem w_LevelTells (w : World) (B C : Int) (_ : (Lit.int .i64 B).wf = true) (_ : (Lit.int .i64 C).wf = true) (b : Int) (_ : (Lit.int .i64 b).wf = true) (c : Int) (_ : (Lit.int .i64 c).wf = true) :
    Calls Tryd.prog 3 #[.agg #[.int .i64 B, .int .i64 C], .int .i64 b, .int .i64 c] w fun e w' => e = .returned (.bool true) ∧ Below w.heap.size w w' := by
  refine law_true (ro := nro) (args := [.v (.agg #[.int .i64 B, .int .i64 C]), .v (.int .i64 b), .v (.int .i64 c)]) ?_ w _ (ro_none _ _) (.cons (.v _) (.cons (.v _) (.cons (.v _) .nil)))
  have t := t_tells B C b c fun r => r = .v (.bool true)
  cases hr : rt B C with
  | true =>
    have hb := rt_out hr
    have e1 : nB B C = B := by unfold nB; rw [hr]; rfl
    have e2 : nC B C = C := by unfold nC; rw [hr]; rfl
    have e3 : nE B C = 0 := by unfold nE; rw [hr]; rfl
    have e4 : okG B C = true := decide_eq_true (by omega)
    have e5 : decide (0 ≤ B ∧ B ≤ 8 ∧ 0 ≤ C ∧ C ≤ 16) = true := decide_eq_true (by omega)
    rw [hr, e1, e2, e3, mul_w hb, e4, e5] at t
    refine Fs.of_call knownG t ?_
    clear t
    refine holds_bif (fun h => by cases h) fun _ => holds_bif (fun _ => holds_bif (fun _ => holds_bif (fun _ => holds_bif (fun _ => holds_bif (fun _ => holds_bif (fun _ => holds_bif (fun _ => ⟨?_, rfl⟩) no_beq) no_beq) no_beq) no_beq) no_beq) no_beq) no_beq
    repeat' first
      | with_reducible exact trivial
      | with_reducible refine cdb_iff.2 ⟨?_, ?_⟩
      | rfl
  | false =>
    have e1 : nB B C = 0 := by unfold nB; rw [hr]; rfl
    have e2 : nC B C = 0 := by unfold nC; rw [hr]; rfl
    have e3 : nE B C = 1 := by unfold nE; rw [hr]; rfl
    rw [hr, e1, e2, e3] at t
    refine Fs.of_call knownG t ?_
    clear t
    refine holds_bif (fun _ => holds_bif (fun _ => holds_bif (fun _ => holds_bif (fun _ => holds_bif (fun _ => ⟨?_, rfl⟩) ?_) ?_) ?_) no_beq) (fun h => by cases h)
    · repeat' first
        | with_reducible exact trivial
        | with_reducible refine cdb_iff.2 ⟨?_, ?_⟩
        | rfl
    · intro h; exact absurd h (by decide)
    · intro h; exact absurd h (by decide)
    · intro h; exact absurd h (by decide)
end Go.Proofs.YtkcaaanmlaodkaaDoor
