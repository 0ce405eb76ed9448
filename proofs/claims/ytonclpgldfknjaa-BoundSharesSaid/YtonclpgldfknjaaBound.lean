/-
  The contracts of the functions of layer 1.
-/
import Derived.Test.YtonclpgldfknjaaMem
import Derived.Test.YtonclpgldfknjaaBoundPlain
namespace Go.Proofs.Ytonclpgldfknjaa
open Go.RowKit Bd
theorem clamp1_any (n m : Int) (a : Addr) (w : World) (hc : w.cell? a = some (.int .i64 m)) :
    Calls Try.prog 39 #[.int .i64 n, .pointer (some a)] w fun e w' => e = .returned (.int .i64 (kp n m)) ∧ w = w' := by
  go_enter Try.func39, Try.ntmps39
  go_wp2
  all_goals
    go_ret
    exact ⟨ret_int (by unfold kp; (repeat' split at *) <;> omega), rfl⟩

theorem keep_any (n m : Int) (w : World) :
    Calls Try.prog 7 #[.int .i64 n, .int .i64 m] w fun e w' => e = .returned (.int .i64 (kp n m)) ∧ Below w.heap.size w w' := by
  have hmf := mf_any
  go_enter Try.func7, Try.ntmps7
  go_wp2_with (first | (go_at_call 39; refine (clamp1_any _ m _ _ (by go_simp)).mono ?_; rintro e w' ⟨rfl, rfl⟩) | go_in)
  go_ret
  exact ⟨rfl, (Below.refl _ _).alloc (Nat.le_refl _) _⟩

theorem add_any (a b : Int) (w : World) :
    Calls Try.prog 9 #[.int .i64 a, .int .i64 b] w fun e w' => e = .returned (.int .i64 (addC a b)) ∧ Below w.heap.size w w' := by
  have hmf := mf_any
  have h1 := (kc a).1
  have h2 := (kc a).2
  have h3 := (kc b).1
  have h4 := (kc b).2
  go_enter Try.func9, Try.ntmps9
  go_wp2_with (first | (go_at_call 39; refine (clamp1_any _ cMost _ _ (by go_simp; rfl)).mono ?_; rintro e w' ⟨rfl, rfl⟩) | go_in)
  go_ret
  exact ⟨rfl, (Below.refl _ _).alloc (Nat.le_refl _) _⟩

theorem sub_any (a b : Int) (w : World) :
    Calls Try.prog 11 #[.int .i64 a, .int .i64 b] w fun e w' => e = .returned (.int .i64 (subC a b)) ∧ Below w.heap.size w w' := by
  have hmf := mf_any
  have h1 := (kc a).1
  have h2 := (kc a).2
  have h3 := (kc b).1
  have h4 := (kc b).2
  go_enter Try.func11, Try.ntmps11
  go_wp2_with (first | (go_at_call 39; refine (clamp1_any _ cMost _ _ (by go_simp; rfl)).mono ?_; rintro e w' ⟨rfl, rfl⟩) | go_in)
  go_ret
  exact ⟨rfl, (Below.refl _ _).alloc (Nat.le_refl _) _⟩

theorem mul_any (a b : Int) (w : World) :
    Calls Try.prog 13 #[.int .i64 a, .int .i64 b] w fun e w' => e = .returned (.int .i64 (mulC a b)) ∧ Below w.heap.size w w' := by
  have hmf := mf_any
  have h1 := (prodC a b).1
  have h2 := (prodC a b).2
  go_enter Try.func13, Try.ntmps13
  go_wp2_with (first | (go_at_call 39; refine (clamp1_any _ cMost _ _ (by go_simp; rfl)).mono ?_; rintro e w' ⟨rfl, rfl⟩) | go_in)
  go_ret
  exact ⟨rfl, (Below.refl _ _).alloc (Nat.le_refl _) _⟩

theorem mean1_any (a b : Int) (h1 : 0 ≤ a) (h2 : 0 ≤ b) (h3 : a ≤ 2147483647) (w : World) :
    Calls Try.prog 34 #[.int .i64 a, .int .i64 b] w fun e w' => e = .returned (.int .i64 (divZ a b)) ∧ w = w' := by
  by_cases hz : b = 0
  · subst hz
    go_enter Try.func34, Try.ntmps34
    go_wp2
    go_ret
    exact ⟨rfl, rfl⟩
  · have hz2 : (b == 0) = false := by simp [hz]
    have hz3 : 1 ≤ b := by omega
    have e : divZ a b = a / b := if_neg hz
    have H := Lib.hid e
    clear hz e
    go_enter Try.func34, Try.ntmps34
    go_wp2
    go_ret
    exact ⟨ret_int H.out.symm, rfl⟩

theorem mean_any (a b : Int) (w : World) :
    Calls Try.prog 18 #[.int .i64 a, .int .i64 b] w fun e w' => e = .returned (.int .i64 (meanC a b)) ∧ Below w.heap.size w w' := by
  have hmf := mf_any
  have h1 := (kc a).1
  have h2 := (kc b).1
  have h3 := (kc a).2
  have hk := Lib.hid (meanC_keep a b)
  go_enter Try.func18, Try.ntmps18
  go_wp2_with (first | (go_at_call 34; refine (mean1_any _ _ h1 h2 h3 _).mono ?_; rintro e w' ⟨rfl, rfl⟩) | (go_at_call 39; refine (clamp1_any _ cMost _ _ (by go_simp; rfl)).mono ?_; rintro e w' ⟨rfl, rfl⟩) | go_in)
  go_ret
  exact ⟨ret_int hk.out, (Below.refl _ _).alloc (Nat.le_refl _) _⟩

theorem later_any (a b : Int) (w : World) :
    Calls Try.prog 25 #[.int .i64 a, .int .i64 b] w fun e w' => e = .returned (.int .i64 (laterT a b)) ∧ Below w.heap.size w w' := by
  have hmf := mf_any
  have h1 := (kt a).1
  have h2 := (kt a).2
  have h3 := (kt b).1
  have h4 := (kt b).2
  go_enter Try.func25, Try.ntmps25
  go_wp2_with (first | (go_at_call 39; refine (clamp1_any _ tMost _ _ (by go_simp; rfl)).mono ?_; rintro e w' ⟨rfl, rfl⟩) | go_in)
  go_ret
  exact ⟨rfl, (Below.refl _ _).alloc (Nat.le_refl _) _⟩

theorem left_any (a b : Int) (w : World) :
    Calls Try.prog 27 #[.int .i64 a, .int .i64 b] w fun e w' => e = .returned (.int .i64 (leftT a b)) ∧ Below w.heap.size w w' := by
  have hmf := mf_any
  have h1 := (kt a).1
  have h2 := (kt a).2
  have h3 := (kt b).1
  have h4 := (kt b).2
  go_enter Try.func27, Try.ntmps27
  go_wp2_with (first | (go_at_call 39; refine (clamp1_any _ tMost _ _ (by go_simp; rfl)).mono ?_; rintro e w' ⟨rfl, rfl⟩) | go_in)
  go_ret
  exact ⟨rfl, (Below.refl _ _).alloc (Nat.le_refl _) _⟩

theorem hund_any (n p m : Int) (h1 : 0 ≤ m) (h2 : m ≤ 99) (w : World) :
    Calls Try.prog 35 #[.int .i64 n, .int .i64 p, .int .i64 m] w fun e w' => e = .returned (.int .i64 ((kp n cMost * kp p 100 + m) / 100)) ∧ Below w.heap.size w w' := by
  have h3 := (prodH n p).1
  have h4 := (prodH n p).2
  go_enter Try.func35, Try.ntmps35
  go_wp2_with fail
  refine (keep_any _ cMost _).mono ?_; rintro e w1 ⟨rfl, hb1⟩
  go_wp2_with fail
  refine (keep_any _ 100 _).mono ?_; rintro e w2 ⟨rfl, hb2⟩
  go_wp2_with fail
  go_ret
  exact ⟨rfl, hb1.trans (hb2.mono hb1.size)⟩

theorem share_any (n p : Int) (w : World) :
    Calls Try.prog 20 #[.int .i64 n, .int .i64 p] w fun e w' => e = .returned (.int .i64 (shareC n p)) ∧ Below w.heap.size w w' := by
  go_enter Try.func20, Try.ntmps20
  go_wp2_with fail
  refine (hund_any n p 0 (by decide) (by decide) _).mono ?_; rintro e w1 ⟨rfl, hb1⟩
  go_wp2_with fail
  go_ret
  exact ⟨ret_int (by unfold shareC; omega), hb1⟩

theorem part_any (n p : Int) (w : World) :
    Calls Try.prog 21 #[.int .i64 n, .int .i64 p] w fun e w' => e = .returned (.int .i64 (partC n p)) ∧ Below w.heap.size w w' := by
  go_enter Try.func21, Try.ntmps21
  go_wp2_with fail
  refine (hund_any n p 99 (by decide) (by decide) _).mono ?_; rintro e w1 ⟨rfl, hb1⟩
  go_wp2_with fail
  go_ret
  exact ⟨rfl, hb1⟩
end Go.Proofs.Ytonclpgldfknjaa
