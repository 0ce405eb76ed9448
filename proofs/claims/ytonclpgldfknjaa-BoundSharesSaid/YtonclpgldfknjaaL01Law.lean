/-
  The walks of the laws of layer 1.
-/
import Derived.Test.YtonclpgldfknjaaL01
namespace Go.Proofs.Ytonclpgldfknjaa
open Go.RowKit Bd
theorem awake1 (w : World) :
    Calls Try.prog 15 #[] w fun e w' => e = .returned (.bool true) ∧ Below w.heap.size w w' := by
  have a1 : shareC 7 50 = 3 := by decide
  have a2 : partC 7 50 = 4 := by decide
  have a3 : addC 2147483647 1 = 2147483647 := by decide
  have a4 : subC 5 2 = 3 := by decide
  have a5 : subC 2 5 = 0 := by decide
  have a6 : meanC 9 2 = 4 := by decide
  have a7 : meanC 9 0 = 0 := by decide
  have a8 : mulC 3 4 = 12 := by decide
  go_enter Try.func15, Try.ntmps15
  go_wp2_with fail
  refine (share_any _ _ _).mono ?_; rintro e w1 ⟨rfl, b1⟩
  go_wp2_with fail
  refine (part_any _ _ _).mono ?_; rintro e w2 ⟨rfl, b2⟩
  go_wp2_with fail
  refine (add_any _ _ _).mono ?_; rintro e w3 ⟨rfl, b3⟩
  go_wp2_with fail
  refine (sub_any _ _ _).mono ?_; rintro e w4 ⟨rfl, b4⟩
  go_wp2_with fail
  refine (sub_any _ _ _).mono ?_; rintro e w5 ⟨rfl, b5⟩
  go_wp2_with fail
  refine (mean_any _ _ _).mono ?_; rintro e w6 ⟨rfl, b6⟩
  go_wp2_with fail
  refine (mean_any _ _ _).mono ?_; rintro e w7 ⟨rfl, b7⟩
  go_wp2_with fail
  refine (mul_any _ _ _).mono ?_; rintro e w8 ⟨rfl, b8⟩
  go_wp2_with fail
  go_ret
  exact ⟨rfl, (below3 (below3 (below3 (below3 (below3 (below3 (below3 b1 b2) b3) b4) b5) b6) b7) b8)⟩

theorem w_BoundKeeps (w : World) (a : Int) (_ : (Lit.int .i64 a).wf = true) (b : Int) (_ : (Lit.int .i64 b).wf = true) :
    Calls Try.prog 3 #[.int .i64 a, .int .i64 b] w fun e w' => e = .returned (.bool true) ∧ Below w.heap.size w w' := by
  have H1 := Lib.hid (addC_comm a b)
  have H2 := Lib.hid (mulC_comm a b)
  go_enter Try.func3, Try.ntmps3
  go_wp2_with fail
  refine (keep_any _ _ _).mono ?_; rintro e w1 ⟨rfl, b1⟩
  go_wp2_with fail
  refine (rkeep_any _ _ _).mono ?_; rintro e w' ⟨rfl, rfl⟩
  go_wp2_with fail
  refine (add_any _ _ _).mono ?_; rintro e w2 ⟨rfl, b2⟩
  go_wp2_with fail
  refine (radd_any _ _ _).mono ?_; rintro e w' ⟨rfl, rfl⟩
  go_wp2_with fail
  refine (sub_any _ _ _).mono ?_; rintro e w3 ⟨rfl, b3⟩
  go_wp2_with fail
  refine (rsub_any _ _ _).mono ?_; rintro e w' ⟨rfl, rfl⟩
  go_wp2_with fail
  refine (mul_any _ _ _).mono ?_; rintro e w4 ⟨rfl, b4⟩
  go_wp2_with fail
  refine (rmul_any _ _ _).mono ?_; rintro e w' ⟨rfl, rfl⟩
  go_wp2_with fail
  refine (add_any _ _ _).mono ?_; rintro e w5 ⟨rfl, b5⟩
  go_wp2_with fail
  refine (radd_any _ _ _).mono ?_; rintro e w' ⟨rfl, rfl⟩
  have H := H1.out.symm
  go_wp2_with fail
  refine (mul_any _ _ _).mono ?_; rintro e w6 ⟨rfl, b6⟩
  go_wp2_with fail
  refine (rmul_any _ _ _).mono ?_; rintro e w' ⟨rfl, rfl⟩
  have H' := H2.out.symm
  go_wp2_with fail
  refine (awake1 _).mono ?_; rintro e w7 ⟨rfl, b7⟩
  go_wp2_with fail
  go_ret
  exact ⟨rfl, (below3 (below3 (below3 (below3 (below3 (below3 b1 b2) b3) b4) b5) b6) b7)⟩
theorem w_BoundTicks (w : World) (a : Int) (_ : (Lit.int .i64 a).wf = true) (b : Int) (_ : (Lit.int .i64 b).wf = true) :
    Calls Try.prog 6 #[.int .i64 a, .int .i64 b] w fun e w' => e = .returned (.bool true) ∧ Below w.heap.size w w' := by
  go_enter Try.func6, Try.ntmps6
  go_wp2_with fail
  refine (later_any _ _ _).mono ?_; rintro e w1 ⟨rfl, b1⟩
  go_wp2_with fail
  refine (rlater_any _ _ _).mono ?_; rintro e w' ⟨rfl, rfl⟩
  go_wp2_with fail
  refine (left_any _ _ _).mono ?_; rintro e w2 ⟨rfl, b2⟩
  go_wp2_with fail
  refine (rleft_any _ _ _).mono ?_; rintro e w' ⟨rfl, rfl⟩
  go_wp2_with fail
  refine (awake1 _).mono ?_; rintro e w3 ⟨rfl, b3⟩
  go_wp2_with fail
  go_ret
  exact ⟨rfl, (below3 (below3 b1 b2) b3)⟩
theorem w_BoundShares (w : World) (n : Int) (_ : (Lit.int .i64 n).wf = true) (p : Int) (_ : (Lit.int .i64 p).wf = true) (m : Int) (_ : (Lit.int .i64 m).wf = true) :
    Calls Try.prog 5 #[.int .i64 n, .int .i64 p, .int .i64 m] w fun e w' => e = .returned (.bool true) ∧ Below w.heap.size w w' := by
  have h1 := (kh p).1
  have h2 := (kh p).2
  have h3 := (shareC_b n p).1
  have h4 := (shareC_b n p).2
  have h5 := (partC_b n (100 - kp p 100)).1
  have h6 := (partC_b n (100 - kp p 100)).2
  have H := Lib.hid (share_part n p)
  by_cases hpq : kp p 100 ≤ kp m 100
  · have h7 := share_mono n p m hpq
    go_enter Try.func5, Try.ntmps5
    go_wp2_with fail
    refine (rkeep_any _ 100 _).mono ?_; rintro e w' ⟨rfl, rfl⟩
    go_wp2_with fail
    refine (rkeep_any _ 100 _).mono ?_; rintro e w' ⟨rfl, rfl⟩
    go_wp2_with fail
    refine (share_any _ _ _).mono ?_; rintro e w1 ⟨rfl, b1⟩
    go_wp2_with fail
    refine (part_any _ _ _).mono ?_; rintro e w2 ⟨rfl, b2⟩
    go_wp2_with fail
    refine (rshare_any _ _ _).mono ?_; rintro e w' ⟨rfl, rfl⟩
    go_wp2_with fail
    refine (part_any _ _ _).mono ?_; rintro e w3 ⟨rfl, b3⟩
    go_wp2_with fail
    refine (rpart_any _ _ _).mono ?_; rintro e w' ⟨rfl, rfl⟩
    go_wp2_with fail
    refine (rcount_any _ _).mono ?_; rintro e w' ⟨rfl, rfl⟩
    have HH := H.out
    go_wp2_with fail
    refine (share_any _ _ _).mono ?_; rintro e w4 ⟨rfl, b4⟩
    go_wp2_with fail
    refine (awake1 _).mono ?_; rintro e w5 ⟨rfl, b5⟩
    go_wp2_with fail
    go_ret
    exact ⟨rfl, (below3 (below3 (below3 (below3 b1 b2) b3) b4) b5)⟩
  · go_enter Try.func5, Try.ntmps5
    go_wp2_with fail
    refine (rkeep_any _ 100 _).mono ?_; rintro e w' ⟨rfl, rfl⟩
    go_wp2_with fail
    refine (rkeep_any _ 100 _).mono ?_; rintro e w' ⟨rfl, rfl⟩
    go_wp2_with fail
    refine (share_any _ _ _).mono ?_; rintro e w1 ⟨rfl, b1⟩
    go_wp2_with fail
    refine (part_any _ _ _).mono ?_; rintro e w2 ⟨rfl, b2⟩
    go_wp2_with fail
    refine (rshare_any _ _ _).mono ?_; rintro e w' ⟨rfl, rfl⟩
    go_wp2_with fail
    refine (part_any _ _ _).mono ?_; rintro e w3 ⟨rfl, b3⟩
    go_wp2_with fail
    refine (rpart_any _ _ _).mono ?_; rintro e w' ⟨rfl, rfl⟩
    go_wp2_with fail
    refine (rcount_any _ _).mono ?_; rintro e w' ⟨rfl, rfl⟩
    have HH := H.out
    go_wp2_with fail
    refine (awake1 _).mono ?_; rintro e w5 ⟨rfl, b5⟩
    go_wp2_with fail
    go_ret
    exact ⟨rfl, (below3 (below3 (below3 b1 b2) b3) b5)⟩
theorem w_BoundSums (w : World) (a : Option Addr) (cap : Nat) (zs : List Int) (hz : Ints w .i64 a zs) (hl : zs.length ≤ maxLen) (_ : ∀ n ∈ zs, (Lit.int .i64 n).wf = true) (n : Int) (_ : (Lit.int .i64 n).wf = true) :
    Calls Try.prog 4 #[.slice a zs.length cap, .int .i64 n] w fun e w' => e = .returned (.bool true) ∧ Below w.heap.size w w' := by
  unfold maxLen at hl
  by_cases hg : 100 < zs.length
  · go_enter Try.func4, Try.ntmps4
    go_wp2_with fail
    refine (awake1 _).mono ?_; rintro e w1 ⟨rfl, b1⟩
    go_wp2_with fail
    go_ret
    exact ⟨rfl, b1⟩
  · go_enter Try.func4, Try.ntmps4
    go_wp2_with fail
    refine (sum_any _ _ _ _ hz hl).mono ?_; rintro e w1 ⟨rfl, b1⟩
    go_wp2_with fail
    refine (rsum_any _ _ _ _ (hz.below b1) hl).mono ?_; rintro e w' ⟨rfl, rfl⟩
    go_wp2_with fail
    refine (mean_any _ _ _).mono ?_; rintro e w2 ⟨rfl, b2⟩
    go_wp2_with fail
    refine (rmean_any _ _ _).mono ?_; rintro e w' ⟨rfl, rfl⟩
    go_wp2_with fail
    refine (mean_any _ _ _).mono ?_; rintro e w3 ⟨rfl, b3⟩
    go_wp2_with fail
    refine (rmean_any _ _ _).mono ?_; rintro e w' ⟨rfl, rfl⟩
    go_wp2_with fail
    refine (awake1 _).mono ?_; rintro e w4 ⟨rfl, b4⟩
    go_wp2_with fail
    go_ret
    exact ⟨rfl, (below3 (below3 (below3 b1 b2) b3) b4)⟩
end Go.Proofs.Ytonclpgldfknjaa
