/-
  The contracts of New and rise of layer 17.
-/
import Derived.Test.YtbkdbnolkaecdaaDimStep
namespace Go.Proofs.Ytbkdbnolkaecdaa
open Go.RowKit Bd
theorem dnew_any (n : Int) (h0 : 0 ≤ n) (h1 : n ≤ 7) (w : World) :
    Calls Try.prog 7 #[.int .i64 n] w fun e w' => e = .returned (.tuple #[.pointer (some ⟨w.heap.size, 0, none⟩), .int .i64 0]) ∧ Dst w' w.heap.size n n 32 true ∧ Below w.heap.size w w' := by
  go_enter Try.func7, Try.ntmps7
  go_wp2_with fail
  have d : Dst (w.alloc (.cells #[.int .i64 n, .int .i64 0, .int .i64 0, .bool true] 42)) w.heap.size n 0 0 true := Bk.new _ _ _
  refine (dclear_any _ d).mono ?_; rintro e w1 ⟨rfl, d1, o1⟩
  go_wp2_with fail
  go_ret2
  exact ⟨rfl, d1, below_only ((Below.refl _ _).alloc (Nat.le_refl _) _) o1 (by simp) (Nat.le_refl _)⟩
theorem drise_shut {g : Nat} (w : World) :
    Calls Try.prog 24 #[.pointer (some ⟨g, 0, none⟩), .bool false] w fun e w' => e = .returned (.bool false) ∧ Below w.heap.size w w' := by
  go_enter Try.func24, Try.ntmps24
  go_wp2_with fail
  go_quiet (fail)
  go_wp2_with fail
  go_ret
  exact ⟨rfl, bl_drewN (Below.refl _ _) _⟩
theorem drise_full {g : Nat} {a t h : Int} {m : Bool} (w : World) (d : Dst w g a t h m) (ht : a ≤ t) :
    Calls Try.prog 24 #[.pointer (some ⟨g, 0, none⟩), .bool true] w fun e w' => e = .returned (.bool false) ∧ Below w.heap.size w w' := by
  have c0 := d.c0
  have c1 := d.c1
  have hb : decide (t < a) = false := decide_eq_false (by omega)
  clear d
  go_enter Try.func24, Try.ntmps24
  go_wp2_with fail
  go_quiet (fail)
  go_wp2_with fail
  go_ret
  exact ⟨rfl, bl_drewN (Below.refl _ _) _⟩
theorem drise_yes {g : Nat} {a t h : Int} {m : Bool} (w : World) (d : Dst w g a t h m) (ht : t < a) (h1 : 0 ≤ t) (h2 : t ≤ 100) :
    Calls Try.prog 24 #[.pointer (some ⟨g, 0, none⟩), .bool true] w fun e w' => e = .returned (.bool true) ∧ Dst w' g a (t + 1) 0 m ∧ w.grownBy w' (some g) := by
  have D := Lib.hid d
  have c0 := d.c0
  have c1 := d.c1
  clear d
  go_enter Try.func24, Try.ntmps24
  go_wp2_with fail
  go_region_law (first | (go_simp; go_at_call 27; refine (dmove_any 1 _ (show Dst w.drew g a t h m from D.out) (by omega) (by omega)).mono ?_; rintro e w1 ⟨rfl, d1, o1⟩))
  all_goals
    go_wp2_with fail
    go_ret
    exact ⟨rfl, d1, ⟨o1.1, o1.2, o1.3, o1.4, o1.5⟩⟩
end Go.Proofs.Ytbkdbnolkaecdaa
