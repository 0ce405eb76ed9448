/-
  The contract of Step of a dimmer that was made.
-/
import Derived.Test.YtbkdbnolkaecdaaDimNew
import Derived.Test.YtbkdbnolkaecdaaDimPlain
import Derived.Laws.EntriesVeiled
namespace Go.Proofs.Ytbkdbnolkaecdaa
open Go.RowKit Bd Dm
theorem deffects_lit (w : World) :
    Calls Try.prog 18 #[] w fun e w' => e = .returned (.agg #[.func (.func 22) #[] #[], .func (.func 23) #[] #[], .func (.func 24) #[] #[]]) ∧ Below w.heap.size w w' := deffects_any w
def tabV : Array Value := #[.func (.func 22) #[] #[], .func (.func 23) #[] #[], .func (.func 24) #[] #[]]
set_option maxHeartbeats 2000000 in
theorem dstep_early {g : Nat} {a t h : Int} (v : Int) (o : Bool) (k : Int) (w : World) (d : Dst w g a t h true) (hk : addC h 1 < k) (hh : 1 ≤ addC h 1) (hh2 : addC h 1 ≤ 2147483647) :
    Calls Try.prog 11 #[.pointer (some ⟨g, 0, none⟩), .int .i64 v, .bool o, .int .i64 k] w fun e w' => e = .returned (.bool false) ∧ Dst w' g a t (addC h 1) true ∧ w.grownBy w' (some g) := by
  have D := Lib.hid d
  have c2 := d.c2
  have f2 := Bk.frozen d 2
  clear d
  go_enter Try.func11, Try.ntmps11
  go_wp2_with fail
  refine (dnone_any _ D.out).mono ?_; rintro e w' ⟨rfl, rfl⟩
  go_wp2_with fail
  refine (add_any _ _ _).mono ?_; rintro e w1 ⟨rfl, b1⟩
  have d1 := D.out.below b1
  have f12 := Bk.frozen d1 2
  have D1 := Lib.hid d1
  have c12 := d1.c2
  clear d1
  go_wp2_with fail
  refine (deffects_lit _).mono ?_; rintro e w2 ⟨rfl, b2⟩
  have T := Bk.new w2 47 #[.func (.func 22) #[] #[], .func (.func 23) #[] #[], .func (.func 24) #[] #[]]
  have t0 := T.cell 0
  have t1 := T.cell 1
  have t2 := T.cell 2
  have D4 := Lib.hid (((D1.out.s2 (addC h 1)).below b2).below ((Below.refl _ w2).alloc (Nat.le_refl _) (.cells #[.func (.func 22) #[] #[], .func (.func 23) #[] #[], .func (.func 24) #[] #[]] 47)))
  have O4 := Lib.hid (only_trans (only_trans (only_trans (only_below b1 (some g)) (only_set w1 g 2 (.int .i64 (addC h 1)))) (only_below b2 (some g))) (only_below ((Below.refl _ w2).alloc (Nat.le_refl _) (.cells #[.func (.func 22) #[] #[], .func (.func 23) #[] #[], .func (.func 24) #[] #[]] 47)) (some g)))
  have c42 := D4.out.c2
  clear T b1 b2 c2 f2 c12 f12 D1 D
  go_wp2_with fail
  go_ret
  exact ⟨rfl, D4.out, O4.out⟩
set_option maxHeartbeats 2000000 in
theorem dstep_low {g : Nat} {a t h : Int} (v : Int) (o : Bool) (k : Int) (hv : v < 0 ∨ 2 < v) (w : World) (d : Dst w g a t h true) (hk : k ≤ addC h 1) (hh : 1 ≤ addC h 1) (hh2 : addC h 1 ≤ 2147483647) :
    Calls Try.prog 11 #[.pointer (some ⟨g, 0, none⟩), .int .i64 v, .bool o, .int .i64 k] w fun e w' => e = .returned (.bool false) ∧ Dst w' g a t (addC h 1) true ∧ w.grownBy w' (some g) := by
  rcases hv with hv | hv
  · have D := Lib.hid d
    have c2 := d.c2
    have f2 := Bk.frozen d 2
    clear d
    go_enter Try.func11, Try.ntmps11
    go_wp2_with fail
    refine (dnone_any _ D.out).mono ?_; rintro e w' ⟨rfl, rfl⟩
    go_wp2_with fail
    refine (add_any _ _ _).mono ?_; rintro e w1 ⟨rfl, b1⟩
    have d1 := D.out.below b1
    have f12 := Bk.frozen d1 2
    have D1 := Lib.hid d1
    have c12 := d1.c2
    clear d1
    go_wp2_with fail
    refine (deffects_lit _).mono ?_; rintro e w2 ⟨rfl, b2⟩
    have T := Bk.new w2 47 #[.func (.func 22) #[] #[], .func (.func 23) #[] #[], .func (.func 24) #[] #[]]
    have t0 := T.cell 0
    have t1 := T.cell 1
    have t2 := T.cell 2
    have D4 := Lib.hid (((D1.out.s2 (addC h 1)).below b2).below ((Below.refl _ w2).alloc (Nat.le_refl _) (.cells #[.func (.func 22) #[] #[], .func (.func 23) #[] #[], .func (.func 24) #[] #[]] 47)))
    have O4 := Lib.hid (only_trans (only_trans (only_trans (only_below b1 (some g)) (only_set w1 g 2 (.int .i64 (addC h 1)))) (only_below b2 (some g))) (only_below ((Below.refl _ w2).alloc (Nat.le_refl _) (.cells #[.func (.func 22) #[] #[], .func (.func 23) #[] #[], .func (.func 24) #[] #[]] 47)) (some g)))
    have c42 := D4.out.c2
    clear T b1 b2 c2 f2 c12 f12 D1 D
    go_wp2_with fail
    all_goals
      go_ret
      exact ⟨rfl, D4.out, O4.out⟩
  · have D := Lib.hid d
    have c2 := d.c2
    have f2 := Bk.frozen d 2
    clear d
    go_enter Try.func11, Try.ntmps11
    go_wp2_with fail
    refine (dnone_any _ D.out).mono ?_; rintro e w' ⟨rfl, rfl⟩
    go_wp2_with fail
    refine (add_any _ _ _).mono ?_; rintro e w1 ⟨rfl, b1⟩
    have d1 := D.out.below b1
    have f12 := Bk.frozen d1 2
    have D1 := Lib.hid d1
    have c12 := d1.c2
    clear d1
    go_wp2_with fail
    refine (deffects_lit _).mono ?_; rintro e w2 ⟨rfl, b2⟩
    have T := Bk.new w2 47 #[.func (.func 22) #[] #[], .func (.func 23) #[] #[], .func (.func 24) #[] #[]]
    have t0 := T.cell 0
    have t1 := T.cell 1
    have t2 := T.cell 2
    have D4 := Lib.hid (((D1.out.s2 (addC h 1)).below b2).below ((Below.refl _ w2).alloc (Nat.le_refl _) (.cells #[.func (.func 22) #[] #[], .func (.func 23) #[] #[], .func (.func 24) #[] #[]] 47)))
    have O4 := Lib.hid (only_trans (only_trans (only_trans (only_below b1 (some g)) (only_set w1 g 2 (.int .i64 (addC h 1)))) (only_below b2 (some g))) (only_below ((Below.refl _ w2).alloc (Nat.le_refl _) (.cells #[.func (.func 22) #[] #[], .func (.func 23) #[] #[], .func (.func 24) #[] #[]] 47)) (some g)))
    have c42 := D4.out.c2
    clear T b1 b2 c2 f2 c12 f12 D1 D
    go_wp2_with fail
    all_goals
      go_ret
      exact ⟨rfl, D4.out, O4.out⟩

set_option maxHeartbeats 2000000 in
theorem dstep_stay {g : Nat} {a t h : Int} (o : Bool) (k : Int) (w : World) (d : Dst w g a t h true) (hk : k ≤ addC h 1) (hh : 1 ≤ addC h 1) (hh2 : addC h 1 ≤ 2147483647) :
    Calls Try.prog 11 #[.pointer (some ⟨g, 0, none⟩), .int .i64 0, .bool o, .int .i64 k] w fun e w' => e = .returned (.bool false) ∧ Dst w' g a t (addC h 1) true ∧ w.grownBy w' (some g) := by
  have D := Lib.hid d
  have c2 := d.c2
  have f2 := Bk.frozen d 2
  clear d
  go_enter Try.func11, Try.ntmps11
  go_wp2_with fail
  refine (dnone_any _ D.out).mono ?_; rintro e w' ⟨rfl, rfl⟩
  go_wp2_with fail
  refine (add_any _ _ _).mono ?_; rintro e w1 ⟨rfl, b1⟩
  have d1 := D.out.below b1
  have f12 := Bk.frozen d1 2
  have D1 := Lib.hid d1
  have c12 := d1.c2
  clear d1
  go_wp2_with fail
  refine (deffects_lit _).mono ?_; rintro e w2 ⟨rfl, b2⟩
  have T := Bk.new w2 47 #[.func (.func 22) #[] #[], .func (.func 23) #[] #[], .func (.func 24) #[] #[]]
  have t0 := T.cell 0
  have t1 := T.cell 1
  have t2 := T.cell 2
  have D4 := Lib.hid (((D1.out.s2 (addC h 1)).below b2).below ((Below.refl _ w2).alloc (Nat.le_refl _) (.cells #[.func (.func 22) #[] #[], .func (.func 23) #[] #[], .func (.func 24) #[] #[]] 47)))
  have O4 := Lib.hid (only_trans (only_trans (only_trans (only_below b1 (some g)) (only_set w1 g 2 (.int .i64 (addC h 1)))) (only_below b2 (some g))) (only_below ((Below.refl _ w2).alloc (Nat.le_refl _) (.cells #[.func (.func 22) #[] #[], .func (.func 23) #[] #[], .func (.func 24) #[] #[]] 47)) (some g)))
  have c42 := D4.out.c2
  clear T b1 b2 c2 f2 c12 f12 D1 D
  go_wp2_with fail
  all_goals
    refine (dstay_any o _).mono ?_; rintro e w' ⟨rfl, rfl⟩
    go_wp2_with fail
    go_ret
    exact ⟨rfl, D4.out, O4.out⟩

set_option maxHeartbeats 2000000 in
theorem dstep_floor {g : Nat} {a t h : Int} (o : Bool) (k : Int) (ht : t ≤ 0) (w : World) (d : Dst w g a t h true) (hk : k ≤ addC h 1) (hh : 1 ≤ addC h 1) (hh2 : addC h 1 ≤ 2147483647) :
    Calls Try.prog 11 #[.pointer (some ⟨g, 0, none⟩), .int .i64 1, .bool o, .int .i64 k] w fun e w' => e = .returned (.bool false) ∧ Dst w' g a t (addC h 1) true ∧ w.grownBy w' (some g) := by
  have D := Lib.hid d
  have c2 := d.c2
  have f2 := Bk.frozen d 2
  clear d
  go_enter Try.func11, Try.ntmps11
  go_wp2_with fail
  refine (dnone_any _ D.out).mono ?_; rintro e w' ⟨rfl, rfl⟩
  go_wp2_with fail
  refine (add_any _ _ _).mono ?_; rintro e w1 ⟨rfl, b1⟩
  have d1 := D.out.below b1
  have f12 := Bk.frozen d1 2
  have D1 := Lib.hid d1
  have c12 := d1.c2
  clear d1
  go_wp2_with fail
  refine (deffects_lit _).mono ?_; rintro e w2 ⟨rfl, b2⟩
  have T := Bk.new w2 47 #[.func (.func 22) #[] #[], .func (.func 23) #[] #[], .func (.func 24) #[] #[]]
  have t0 := T.cell 0
  have t1 := T.cell 1
  have t2 := T.cell 2
  have D4 := Lib.hid (((D1.out.s2 (addC h 1)).below b2).below ((Below.refl _ w2).alloc (Nat.le_refl _) (.cells #[.func (.func 22) #[] #[], .func (.func 23) #[] #[], .func (.func 24) #[] #[]] 47)))
  have O4 := Lib.hid (only_trans (only_trans (only_trans (only_below b1 (some g)) (only_set w1 g 2 (.int .i64 (addC h 1)))) (only_below b2 (some g))) (only_below ((Below.refl _ w2).alloc (Nat.le_refl _) (.cells #[.func (.func 22) #[] #[], .func (.func 23) #[] #[], .func (.func 24) #[] #[]] 47)) (some g)))
  have c42 := D4.out.c2
  clear T b1 b2 c2 f2 c12 f12 D1 D
  go_wp2_with fail
  all_goals
    refine (dfall_no o _ D4.out ht).mono ?_; rintro e w' ⟨rfl, rfl⟩
    go_wp2_with fail
    go_ret
    exact ⟨rfl, D4.out, O4.out⟩

set_option maxHeartbeats 2000000 in
theorem dstep_fall {g : Nat} {a t h : Int} (o : Bool) (k : Int) (ht : 0 < t) (ht2 : t ≤ 100) (w : World) (d : Dst w g a t h true) (hk : k ≤ addC h 1) (hh : 1 ≤ addC h 1) (hh2 : addC h 1 ≤ 2147483647) :
    Calls Try.prog 11 #[.pointer (some ⟨g, 0, none⟩), .int .i64 1, .bool o, .int .i64 k] w fun e w' => e = .returned (.bool true) ∧ Dst w' g a (t + -1) 0 true ∧ w.grownBy w' (some g) := by
  have D := Lib.hid d
  have c2 := d.c2
  have f2 := Bk.frozen d 2
  clear d
  go_enter Try.func11, Try.ntmps11
  go_wp2_with fail
  refine (dnone_any _ D.out).mono ?_; rintro e w' ⟨rfl, rfl⟩
  go_wp2_with fail
  refine (add_any _ _ _).mono ?_; rintro e w1 ⟨rfl, b1⟩
  have d1 := D.out.below b1
  have f12 := Bk.frozen d1 2
  have D1 := Lib.hid d1
  have c12 := d1.c2
  clear d1
  go_wp2_with fail
  refine (deffects_lit _).mono ?_; rintro e w2 ⟨rfl, b2⟩
  have T := Bk.new w2 47 #[.func (.func 22) #[] #[], .func (.func 23) #[] #[], .func (.func 24) #[] #[]]
  have t0 := T.cell 0
  have t1 := T.cell 1
  have t2 := T.cell 2
  have D4 := Lib.hid (((D1.out.s2 (addC h 1)).below b2).below ((Below.refl _ w2).alloc (Nat.le_refl _) (.cells #[.func (.func 22) #[] #[], .func (.func 23) #[] #[], .func (.func 24) #[] #[]] 47)))
  have O4 := Lib.hid (only_trans (only_trans (only_trans (only_below b1 (some g)) (only_set w1 g 2 (.int .i64 (addC h 1)))) (only_below b2 (some g))) (only_below ((Below.refl _ w2).alloc (Nat.le_refl _) (.cells #[.func (.func 22) #[] #[], .func (.func 23) #[] #[], .func (.func 24) #[] #[]] 47)) (some g)))
  have c42 := D4.out.c2
  clear T b1 b2 c2 f2 c12 f12 D1 D
  go_wp2_with fail
  all_goals
    refine (dfall_yes o _ D4.out ht ht2).mono ?_; rintro e w5 ⟨rfl, d5, o5⟩
    have O5 := Lib.hid (only_trans O4.out o5)
    have D5 := Lib.hid d5
    clear o5 d5
    go_wp2_with fail
    go_ret
    exact ⟨rfl, D5.out, O5.out⟩

set_option maxHeartbeats 2000000 in
theorem dstep_shut {g : Nat} {a t h : Int} (k : Int) (w : World) (d : Dst w g a t h true) (hk : k ≤ addC h 1) (hh : 1 ≤ addC h 1) (hh2 : addC h 1 ≤ 2147483647) :
    Calls Try.prog 11 #[.pointer (some ⟨g, 0, none⟩), .int .i64 2, .bool false, .int .i64 k] w fun e w' => e = .returned (.bool false) ∧ Dst w' g a t (addC h 1) true ∧ w.grownBy w' (some g) := by
  have D := Lib.hid d
  have c2 := d.c2
  have f2 := Bk.frozen d 2
  clear d
  go_enter Try.func11, Try.ntmps11
  go_wp2_with fail
  refine (dnone_any _ D.out).mono ?_; rintro e w' ⟨rfl, rfl⟩
  go_wp2_with fail
  refine (add_any _ _ _).mono ?_; rintro e w1 ⟨rfl, b1⟩
  have d1 := D.out.below b1
  have f12 := Bk.frozen d1 2
  have D1 := Lib.hid d1
  have c12 := d1.c2
  clear d1
  go_wp2_with fail
  refine (deffects_lit _).mono ?_; rintro e w2 ⟨rfl, b2⟩
  have T := Bk.new w2 47 #[.func (.func 22) #[] #[], .func (.func 23) #[] #[], .func (.func 24) #[] #[]]
  have t0 := T.cell 0
  have t1 := T.cell 1
  have t2 := T.cell 2
  have D4 := Lib.hid (((D1.out.s2 (addC h 1)).below b2).below ((Below.refl _ w2).alloc (Nat.le_refl _) (.cells #[.func (.func 22) #[] #[], .func (.func 23) #[] #[], .func (.func 24) #[] #[]] 47)))
  have O4 := Lib.hid (only_trans (only_trans (only_trans (only_below b1 (some g)) (only_set w1 g 2 (.int .i64 (addC h 1)))) (only_below b2 (some g))) (only_below ((Below.refl _ w2).alloc (Nat.le_refl _) (.cells #[.func (.func 22) #[] #[], .func (.func 23) #[] #[], .func (.func 24) #[] #[]] 47)) (some g)))
  have c42 := D4.out.c2
  clear T b1 b2 c2 f2 c12 f12 D1 D
  go_wp2_with fail
  all_goals
    refine (drise_shut _).mono ?_; rintro e w5 ⟨rfl, b5⟩
    have O5 := Lib.hid (only_trans O4.out (only_below b5 _))
    have D5 := Lib.hid (D4.out.below b5)
    clear b5
    go_wp2_with fail
    go_ret
    exact ⟨rfl, D5.out, O5.out⟩

set_option maxHeartbeats 2000000 in
theorem dstep_full {g : Nat} {a t h : Int} (k : Int) (ht : a ≤ t) (w : World) (d : Dst w g a t h true) (hk : k ≤ addC h 1) (hh : 1 ≤ addC h 1) (hh2 : addC h 1 ≤ 2147483647) :
    Calls Try.prog 11 #[.pointer (some ⟨g, 0, none⟩), .int .i64 2, .bool true, .int .i64 k] w fun e w' => e = .returned (.bool false) ∧ Dst w' g a t (addC h 1) true ∧ w.grownBy w' (some g) := by
  have D := Lib.hid d
  have c2 := d.c2
  have f2 := Bk.frozen d 2
  clear d
  go_enter Try.func11, Try.ntmps11
  go_wp2_with fail
  refine (dnone_any _ D.out).mono ?_; rintro e w' ⟨rfl, rfl⟩
  go_wp2_with fail
  refine (add_any _ _ _).mono ?_; rintro e w1 ⟨rfl, b1⟩
  have d1 := D.out.below b1
  have f12 := Bk.frozen d1 2
  have D1 := Lib.hid d1
  have c12 := d1.c2
  clear d1
  go_wp2_with fail
  refine (deffects_lit _).mono ?_; rintro e w2 ⟨rfl, b2⟩
  have T := Bk.new w2 47 #[.func (.func 22) #[] #[], .func (.func 23) #[] #[], .func (.func 24) #[] #[]]
  have t0 := T.cell 0
  have t1 := T.cell 1
  have t2 := T.cell 2
  have D4 := Lib.hid (((D1.out.s2 (addC h 1)).below b2).below ((Below.refl _ w2).alloc (Nat.le_refl _) (.cells #[.func (.func 22) #[] #[], .func (.func 23) #[] #[], .func (.func 24) #[] #[]] 47)))
  have O4 := Lib.hid (only_trans (only_trans (only_trans (only_below b1 (some g)) (only_set w1 g 2 (.int .i64 (addC h 1)))) (only_below b2 (some g))) (only_below ((Below.refl _ w2).alloc (Nat.le_refl _) (.cells #[.func (.func 22) #[] #[], .func (.func 23) #[] #[], .func (.func 24) #[] #[]] 47)) (some g)))
  have c42 := D4.out.c2
  clear T b1 b2 c2 f2 c12 f12 D1 D
  go_wp2_with fail
  all_goals
    refine (drise_full _ D4.out ht).mono ?_; rintro e w5 ⟨rfl, b5⟩
    have O5 := Lib.hid (only_trans O4.out (only_below b5 _))
    have D5 := Lib.hid (D4.out.below b5)
    clear b5
    go_wp2_with fail
    go_ret
    exact ⟨rfl, D5.out, O5.out⟩

set_option maxHeartbeats 2000000 in
theorem dstep_rise {g : Nat} {a t h : Int} (k : Int) (ht : t < a) (h1 : 0 ≤ t) (h2 : t ≤ 100) (w : World) (d : Dst w g a t h true) (hk : k ≤ addC h 1) (hh : 1 ≤ addC h 1) (hh2 : addC h 1 ≤ 2147483647) :
    Calls Try.prog 11 #[.pointer (some ⟨g, 0, none⟩), .int .i64 2, .bool true, .int .i64 k] w fun e w' => e = .returned (.bool true) ∧ Dst w' g a (t + 1) 0 true ∧ w.grownBy w' (some g) := by
  have D := Lib.hid d
  have c2 := d.c2
  have f2 := Bk.frozen d 2
  clear d
  go_enter Try.func11, Try.ntmps11
  go_wp2_with fail
  refine (dnone_any _ D.out).mono ?_; rintro e w' ⟨rfl, rfl⟩
  go_wp2_with fail
  refine (add_any _ _ _).mono ?_; rintro e w1 ⟨rfl, b1⟩
  have d1 := D.out.below b1
  have f12 := Bk.frozen d1 2
  have D1 := Lib.hid d1
  have c12 := d1.c2
  clear d1
  go_wp2_with fail
  refine (deffects_lit _).mono ?_; rintro e w2 ⟨rfl, b2⟩
  have T := Bk.new w2 47 #[.func (.func 22) #[] #[], .func (.func 23) #[] #[], .func (.func 24) #[] #[]]
  have t0 := T.cell 0
  have t1 := T.cell 1
  have t2 := T.cell 2
  have D4 := Lib.hid (((D1.out.s2 (addC h 1)).below b2).below ((Below.refl _ w2).alloc (Nat.le_refl _) (.cells #[.func (.func 22) #[] #[], .func (.func 23) #[] #[], .func (.func 24) #[] #[]] 47)))
  have O4 := Lib.hid (only_trans (only_trans (only_trans (only_below b1 (some g)) (only_set w1 g 2 (.int .i64 (addC h 1)))) (only_below b2 (some g))) (only_below ((Below.refl _ w2).alloc (Nat.le_refl _) (.cells #[.func (.func 22) #[] #[], .func (.func 23) #[] #[], .func (.func 24) #[] #[]] 47)) (some g)))
  have c42 := D4.out.c2
  clear T b1 b2 c2 f2 c12 f12 D1 D
  go_wp2_with fail
  all_goals
    refine (drise_yes _ D4.out ht h1 h2).mono ?_; rintro e w5 ⟨rfl, d5, o5⟩
    have O5 := Lib.hid (only_trans O4.out o5)
    have D5 := Lib.hid d5
    clear o5 d5
    go_wp2_with fail
    go_ret
    exact ⟨rfl, D5.out, O5.out⟩

/-- One more window: what it comes to, by the plain words. -/
theorem dstep_any {g : Nat} {a t h : Int} (v : Int) (o : Bool) (k : Int) (w : World) (d : Dst w g a t h true) (hi : Inv a t h) :
    Calls Try.prog 11 #[.pointer (some ⟨g, 0, none⟩), .int .i64 v, .bool o, .int .i64 k] w fun e w' => e = .returned (.bool (dI a t h v k o)) ∧ Dst w' g a (dT a t h v k o) (dH a t h v k o) true ∧ w.grownBy w' (some g) := by
  have h1 := hi.1
  have h2 := hi.2.1
  have h3 := hi.2.2.1
  have ha := add1 h hi.2.2.2.1 hi.2.2.2.2
  have stays : dgo a t h v k o = 0 → dI a t h v k o = false ∧ dT a t h v k o = t ∧ dH a t h v k o = addC h 1 := fun e => ⟨by unfold dI; simp [e], by unfold dT; omega, by unfold dH; rw [if_pos e]⟩
  by_cases hk : addC h 1 < k
  · obtain ⟨e1, e2, e3⟩ := stays (by unfold dgo; rw [if_pos hk])
    rw [e1, e2, e3]
    exact dstep_early v o k w d hk ha.1 ha.2
  · by_cases hv : v < 0 ∨ 2 < v
    · obtain ⟨e1, e2, e3⟩ := stays (by unfold dgo; rw [if_neg hk, if_neg (by omega), if_neg (by omega)])
      rw [e1, e2, e3]
      exact dstep_low v o k hv w d (by omega) ha.1 ha.2
    · by_cases v1 : v = 1
      · subst v1
        by_cases ht : 0 < t
        · have e : dgo a t h 1 k o = -1 := by unfold dgo; rw [if_neg hk, if_pos rfl, if_pos ht]
          rw [show dI a t h 1 k o = true by unfold dI; simp [e], show dT a t h 1 k o = t + -1 by unfold dT; rw [e], show dH a t h 1 k o = 0 by unfold dH; rw [e]; rfl]
          exact dstep_fall o k ht (by omega) w d (by omega) ha.1 ha.2
        · obtain ⟨e1, e2, e3⟩ := stays (by unfold dgo; rw [if_neg hk, if_pos rfl, if_neg ht])
          rw [e1, e2, e3]
          exact dstep_floor o k (by omega) w d (by omega) ha.1 ha.2
      · by_cases v2 : v = 2
        · subst v2
          cases o with
          | false =>
            obtain ⟨e1, e2, e3⟩ := stays (by unfold dgo; rw [if_neg hk, if_neg v1, if_neg (by simp)])
            rw [e1, e2, e3]
            exact dstep_shut k w d (by omega) ha.1 ha.2
          | true =>
            by_cases ht : t < a
            · have e : dgo a t h 2 k true = 1 := by unfold dgo; rw [if_neg hk, if_neg v1, if_pos ⟨rfl, rfl, ht⟩]
              rw [show dI a t h 2 k true = true by unfold dI; simp [e], show dT a t h 2 k true = t + 1 by unfold dT; rw [e], show dH a t h 2 k true = 0 by unfold dH; rw [e]; rfl]
              exact dstep_rise k ht h1 (by omega) w d (by omega) ha.1 ha.2
            · obtain ⟨e1, e2, e3⟩ := stays (by unfold dgo; rw [if_neg hk, if_neg v1, if_neg (by simp; omega)])
              rw [e1, e2, e3]
              exact dstep_full k (by omega) w d (by omega) ha.1 ha.2
        · obtain rfl : v = 0 := by omega
          obtain ⟨e1, e2, e3⟩ := stays (by unfold dgo; rw [if_neg hk, if_neg v1, if_neg (by simp)])
          rw [e1, e2, e3]
          exact dstep_stay o k w d (by omega) ha.1 ha.2
end Go.Proofs.Ytbkdbnolkaecdaa
