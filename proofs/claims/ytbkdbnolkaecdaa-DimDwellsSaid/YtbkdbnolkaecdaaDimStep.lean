/-
  The contract of Step of layer 17.
-/
import Derived.Test.YtbkdbnolkaecdaaDim
namespace Go.Proofs.Ytbkdbnolkaecdaa
open Go.RowKit Bd
theorem dfall_no {g : Nat} {a t h : Int} {m : Bool} (o : Bool) (w : World) (d : Dst w g a t h m) (ht : t ≤ 0) :
    Calls Try.prog 23 #[.pointer (some ⟨g, 0, none⟩), .bool o] w fun e w' => e = .returned (.bool false) ∧ w = w' := by
  have c1 := d.c1
  clear d
  go_enter Try.func23, Try.ntmps23
  go_wp2_with fail
  go_ret
  exact ⟨rfl, rfl⟩
theorem dfall_yes {g : Nat} {a t h : Int} {m : Bool} (o : Bool) (w : World) (d : Dst w g a t h m) (ht : 0 < t) (ht2 : t ≤ 100) :
    Calls Try.prog 23 #[.pointer (some ⟨g, 0, none⟩), .bool o] w fun e w' => e = .returned (.bool true) ∧ Dst w' g a (t + -1) 0 m ∧ w.grownBy w' (some g) := by
  have D := Lib.hid d
  have c1 := d.c1
  clear d
  go_enter Try.func23, Try.ntmps23
  go_wp2_with fail
  refine (dmove_any (-1) _ D.out (by omega) (by omega)).mono ?_; rintro e w1 ⟨rfl, d1, o1⟩
  go_wp2_with fail
  go_ret
  exact ⟨rfl, d1, o1⟩
@[local go_sem] theorem run_store_fn (P : Program) (w : World) (a : Addr) (m : Mode) (f : Fn) (x y : Array Value) : (store a (.func f x y) m).run P w = stored P w a (.func f x y) m := run_store P w a _ m rfl
/-- The array of functions, by its cells. -/
def effV : Value := .agg #[.func (.func 22) #[] #[], .func (.func 23) #[] #[], .func (.func 24) #[] #[]]
theorem deffects_any (w : World) :
    Calls Try.prog 18 #[] w fun e w' => e = .returned effV ∧ Below w.heap.size w w' := by
  have q := Bk.new w 47 #[.nilFunc, .nilFunc, .nilFunc]
  have q0 : (w.alloc (.cells #[.nilFunc, .nilFunc, .nilFunc] 47)).cell? ⟨w.heap.size, 0, none⟩ = some .nilFunc := q.cell 0
  have q1 : (w.alloc (.cells #[.nilFunc, .nilFunc, .nilFunc] 47)).cell? ⟨w.heap.size, 1, none⟩ = some .nilFunc := q.cell 1
  have q2 : (w.alloc (.cells #[.nilFunc, .nilFunc, .nilFunc] 47)).cell? ⟨w.heap.size, 2, none⟩ = some .nilFunc := q.cell 2
  have r0 := q.frozen 0
  have r1 := q.frozen 1
  have r2 := q.frozen 2
  clear q
  go_enter Try.func18, Try.ntmps18
  go_wp2_with fail
  have z := Bk.new w 47 #[.func (.func 22) #[] #[], .func (.func 23) #[] #[], .func (.func 24) #[] #[]]
  have z0 := z.cell 0
  have z1 := z.cell 1
  have z2 := z.cell 2
  exact bodyPost_ret (v := effV) (by simp [results, Try.results18, go_sem, effV, z0, z1, z2]) rfl ⟨rfl, (Below.refl _ _).alloc (Nat.le_refl _) _⟩
theorem dnew_bad (n : Int) (hn : n < 0 ∨ 7 < n) (w : World) :
    Calls Try.prog 7 #[.int .i64 n] w fun e w' => e = .returned (.tuple #[.pointer none, .int .i64 1]) ∧ w = w' := by
  rcases hn with hn | hn
  all_goals
    go_enter Try.func7, Try.ntmps7
    go_wp2_with fail
    go_ret2
    exact ⟨rfl, rfl⟩
end Go.Proofs.Ytbkdbnolkaecdaa
