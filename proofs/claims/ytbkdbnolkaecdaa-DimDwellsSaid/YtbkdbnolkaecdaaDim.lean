/-
  The contracts of the functions of layer 17.
-/
import Derived.Test.YtbkdbnolkaecdaaBound
import Derived.Deep.RegionLaw
import Derived.Deep.RegionHeld3
namespace Go.Proofs.Ytbkdbnolkaecdaa
open Go.RowKit Bd
def Dst (w : World) (g : Nat) (a t h : Int) (m : Bool) : Prop := Bk w g 42 #[.int .i64 a, .int .i64 t, .int .i64 h, .bool m]
theorem Dst.c0 {w : World} {g : Nat} {a t h : Int} {m : Bool} (d : Dst w g a t h m) : w.cell? ⟨g, 0, none⟩ = some (.int .i64 a) := d.cell 0
theorem Dst.c1 {w : World} {g : Nat} {a t h : Int} {m : Bool} (d : Dst w g a t h m) : w.cell? ⟨g, 1, none⟩ = some (.int .i64 t) := d.cell 1
theorem Dst.c2 {w : World} {g : Nat} {a t h : Int} {m : Bool} (d : Dst w g a t h m) : w.cell? ⟨g, 2, none⟩ = some (.int .i64 h) := d.cell 2
theorem Dst.c3 {w : World} {g : Nat} {a t h : Int} {m : Bool} (d : Dst w g a t h m) : w.cell? ⟨g, 3, none⟩ = some (.bool m) := d.cell 3
theorem Dst.below {w w' : World} {g : Nat} {a t h : Int} {m : Bool} (d : Dst w g a t h m) (hb : Below w.heap.size w w') : Dst w' g a t h m := Bk.below d hb
theorem Dst.s1 {w : World} {g : Nat} {a t h : Int} {m : Bool} (d : Dst w g a t h m) (v : Int) : Dst (w.setCell ⟨g, 1, none⟩ (.int .i64 v)) g a v h m := Bk.set_ d 1 _
theorem Dst.s2 {w : World} {g : Nat} {a t h : Int} {m : Bool} (d : Dst w g a t h m) (v : Int) : Dst (w.setCell ⟨g, 2, none⟩ (.int .i64 v)) g a t v m := Bk.set_ d 2 _
theorem dnone_any {g : Nat} {a t h : Int} {m : Bool} (w : World) (d : Dst w g a t h m) :
    Calls Try.prog 15 #[.pointer (some ⟨g, 0, none⟩)] w fun e w' => e = .returned (.bool (!m)) ∧ w = w' := by
  have c3 := d.c3
  clear d
  cases m <;>
    · go_enter Try.func15, Try.ntmps15
      go_wp2_with fail
      go_ret
      exact ⟨rfl, rfl⟩
theorem dnone_nil (w : World) : Calls Try.prog 15 #[.pointer none] w fun e w' => e = .returned (.bool true) ∧ w = w' := by
  go_enter Try.func15, Try.ntmps15
  go_wp2_with fail
  go_ret
  exact ⟨rfl, rfl⟩
theorem dtier_any {g : Nat} {a t h : Int} {m : Bool} (w : World) (d : Dst w g a t h m) :
    Calls Try.prog 12 #[.pointer (some ⟨g, 0, none⟩)] w fun e w' => e = .returned (.int .i64 t) ∧ w = w' := by
  have c1 := d.c1
  clear d
  go_enter Try.func12, Try.ntmps12
  go_wp2_with fail
  go_ret
  exact ⟨rfl, rfl⟩
theorem dtier_nil (w : World) : Calls Try.prog 12 #[.pointer none] w fun e w' => e = .returned (.int .i64 0) ∧ w = w' := by
  go_enter Try.func12, Try.ntmps12
  go_wp2_with fail
  go_ret
  exact ⟨rfl, rfl⟩
theorem dheld_any {g : Nat} {a t h : Int} {m : Bool} (w : World) (d : Dst w g a t h m) :
    Calls Try.prog 13 #[.pointer (some ⟨g, 0, none⟩)] w fun e w' => e = .returned (.int .i64 h) ∧ w = w' := by
  have c2 := d.c2
  clear d
  go_enter Try.func13, Try.ntmps13
  go_wp2_with fail
  go_ret
  exact ⟨rfl, rfl⟩
theorem dheld_nil (w : World) : Calls Try.prog 13 #[.pointer none] w fun e w' => e = .returned (.int .i64 0) ∧ w = w' := by
  go_enter Try.func13, Try.ntmps13
  go_wp2_with fail
  go_ret
  exact ⟨rfl, rfl⟩
theorem dpermits_any {g : Nat} {a t h : Int} {m : Bool} (k : Int) (w : World) (d : Dst w g a t h m) :
    Calls Try.prog 14 #[.pointer (some ⟨g, 0, none⟩), .int .i64 k] w fun e w' => e = .returned (.bool (decide (k ≤ t))) ∧ w = w' := by
  go_enter Try.func14, Try.ntmps14
  go_wp2_with fail
  refine (dtier_any _ d).mono ?_; rintro e w' ⟨rfl, rfl⟩
  go_wp2_with fail
  go_ret
  exact ⟨rfl, rfl⟩
theorem dpermits_nil (k : Int) (w : World) :
    Calls Try.prog 14 #[.pointer none, .int .i64 k] w fun e w' => e = .returned (.bool (decide (k ≤ 0))) ∧ w = w' := by
  go_enter Try.func14, Try.ntmps14
  go_wp2_with fail
  refine (dtier_nil _).mono ?_; rintro e w' ⟨rfl, rfl⟩
  go_wp2_with fail
  go_ret
  exact ⟨rfl, rfl⟩
theorem dclear_nil (w : World) : Calls Try.prog 9 #[.pointer none] w fun e w' => e = .returned (.tuple #[]) ∧ w = w' := by
  go_enter Try.func9, Try.ntmps9
  go_wp2_with fail
  refine (dnone_nil _).mono ?_; rintro e w' ⟨rfl, rfl⟩
  go_wp2_with fail
  refine bodyPost_ret (results_none rfl _ _ _) rfl ?_
  exact ⟨rfl, rfl⟩
theorem dclear_odd {g : Nat} {a t h : Int} (w : World) (d : Dst w g a t h false) :
    Calls Try.prog 9 #[.pointer (some ⟨g, 0, none⟩)] w fun e w' => e = .returned (.tuple #[]) ∧ w = w' := by
  go_enter Try.func9, Try.ntmps9
  go_wp2_with fail
  refine (dnone_any _ d).mono ?_; rintro e w' ⟨rfl, rfl⟩
  go_wp2_with fail
  refine bodyPost_ret (results_none rfl _ _ _) rfl ?_
  exact ⟨rfl, rfl⟩
theorem dclear_any {g : Nat} {a t h : Int} (w : World) (d : Dst w g a t h true) :
    Calls Try.prog 9 #[.pointer (some ⟨g, 0, none⟩)] w fun e w' => e = .returned (.tuple #[]) ∧ Dst w' g a a 32 true ∧ w.grownBy w' (some g) := by
  have D := Lib.hid d
  have c0 := d.c0
  have c1 := d.c1
  have c2 := d.c2
  have f1 := Bk.frozen d 1
  have f2 := Bk.frozen d 2
  clear d
  go_enter Try.func9, Try.ntmps9
  go_wp2_with fail
  refine (dnone_any _ D.out).mono ?_; rintro e w' ⟨rfl, rfl⟩
  go_wp2_with fail
  go_end0
  exact ⟨rfl, (D.out.s1 _).s2 _, only_trans (only_set _ _ _ _) (only_set _ _ _ _)⟩
theorem dstep_nil (v : Int) (o : Bool) (k : Int) (w : World) :
    Calls Try.prog 11 #[.pointer none, .int .i64 v, .bool o, .int .i64 k] w fun e w' => e = .returned (.bool false) ∧ w = w' := by
  go_enter Try.func11, Try.ntmps11
  go_wp2_with fail
  refine (dnone_nil _).mono ?_; rintro e w' ⟨rfl, rfl⟩
  go_wp2_with fail
  go_ret
  exact ⟨rfl, rfl⟩
theorem dstep_odd {g : Nat} {a t h : Int} (v : Int) (o : Bool) (k : Int) (w : World) (d : Dst w g a t h false) :
    Calls Try.prog 11 #[.pointer (some ⟨g, 0, none⟩), .int .i64 v, .bool o, .int .i64 k] w fun e w' => e = .returned (.bool false) ∧ w = w' := by
  go_enter Try.func11, Try.ntmps11
  go_wp2_with fail
  refine (dnone_any _ d).mono ?_; rintro e w' ⟨rfl, rfl⟩
  go_wp2_with fail
  go_ret
  exact ⟨rfl, rfl⟩
theorem dmove_any {g : Nat} {a t h : Int} {m : Bool} (by_ : Int) (w : World) (d : Dst w g a t h m) (h1 : -9223372036854775808 ≤ t + by_) (h2 : t + by_ ≤ 9223372036854775807) :
    Calls Try.prog 27 #[.pointer (some ⟨g, 0, none⟩), .int .i64 by_] w fun e w' => e = .returned (.bool true) ∧ Dst w' g a (t + by_) 0 m ∧ w.grownBy w' (some g) := by
  have D := Lib.hid d
  have c1 := d.c1
  have c2 := d.c2
  have f1 := Bk.frozen d 1
  have f2 := Bk.frozen d 2
  clear d
  go_enter Try.func27, Try.ntmps27
  go_wp2_with fail
  go_ret
  exact ⟨rfl, (D.out.s1 _).s2 _, only_trans (only_set _ _ _ _) (only_set _ _ _ _)⟩
theorem dstay_any {g : Nat} (o : Bool) (w : World) :
    Calls Try.prog 22 #[.pointer (some ⟨g, 0, none⟩), .bool o] w fun e w' => e = .returned (.bool false) ∧ w = w' := by
  go_enter Try.func22, Try.ntmps22
  go_wp2_with fail
  go_ret
  exact ⟨rfl, rfl⟩
end Go.Proofs.Ytbkdbnolkaecdaa
