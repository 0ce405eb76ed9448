/-
  The contracts of the functions of layer 19, and of walk.Steps.
-/
import Derived.Test.YtombgaiebjffcaaBoundSum
import Derived.Test.YtombgaiebjffcaaRef01
import Derived.Test.YtombgaiebjffcaaCalmPlain
import Derived.Deep.RegionHeld3
namespace Go.Proofs.Ytombgaiebjffcaa
open Go.RowKit Bd Cm
theorem steps_any (a b : Int) (h1 : 0 ≤ a) (h2 : a ≤ 2147483647) (h3 : 0 ≤ b) (h4 : b ≤ 2147483647) (w : World) :
    Calls Try.prog 19 #[.int .i64 a, .int .i64 b] w fun e w' => e = .returned (.int .i64 (stepsC a b)) ∧ w = w' := by
  have e1 : kp a cMost = a := kp_id _ _ h1 (by unfold cMost; omega)
  have e2 : kp b cMost = b := kp_id _ _ h3 (by unfold cMost; omega)
  have E := Lib.hid (show stepsC a b = if a < b then b - a else 0 by unfold stepsC; rw [e1, e2])
  clear e1 e2
  by_cases hab : b ≤ a
  · go_enter Try.func19, Try.ntmps19
    go_wp2
    go_ret
    exact ⟨ret_int (by rw [E.out, if_neg (by omega)]), rfl⟩
  · have hab2 : a < b := by omega
    go_enter Try.func19, Try.ntmps19
    go_wp2
    go_ret
    exact ⟨ret_int (by rw [E.out, if_pos hab2]), rfl⟩
theorem count19_any (n : Int) (w : World) :
    Calls Try.prog 18 #[.int .i64 n] w fun e w' => e = .returned (.int .i64 (kp n cMost)) ∧ Below w.heap.size w w' := by
  go_enter Try.func18, Try.ntmps18
  go_wp2_with fail
  refine (keep_any _ cMost _).mono ?_; rintro e w1 ⟨rfl, b1⟩
  go_wp2_with fail
  go_ret
  exact ⟨rfl, b1⟩
theorem first_any (k0 k1 k2 k3 k4 k5 k6 : Int) (w : World) :
    Calls Try.prog 7 #[.agg #[.int .i64 k0, .int .i64 k1, .int .i64 k2, .int .i64 k3, .int .i64 k4, .int .i64 k5, .int .i64 k6]] w fun e w' => e = .returned (.int .i64 (one k5)) ∧ Below w.heap.size w w' := by
  have E := Lib.hid (one_max k5)
  by_cases h : k5 < 1
  · have E1 := Lib.hid (show kp 1 cMost = one k5 by rw [← E.out, if_pos h])
    go_enter Try.func7, Try.ntmps7
    go_wp2_with fail
    refine (count19_any _ _).mono ?_; rintro e w1 ⟨rfl, b1⟩
    go_wp2_with fail
    go_ret
    exact ⟨ret_int E1.out, (((Below.refl _ _).alloc (Nat.le_refl _) _).trans (b1.mono (by simp)))⟩
  · have E1 := Lib.hid (show kp k5 cMost = one k5 by rw [← E.out, if_neg h])
    go_enter Try.func7, Try.ntmps7
    go_wp2_with fail
    refine (count19_any _ _).mono ?_; rintro e w1 ⟨rfl, b1⟩
    go_wp2_with fail
    go_ret
    exact ⟨ret_int E1.out, (((Below.refl _ _).alloc (Nat.le_refl _) _).trans (b1.mono (by simp)))⟩
theorem together_any (x y : Int) (h : 0 ≤ x) (h2 : x ≤ 2147483647) (a : Option Addr) (w : World) (hz : Ints w .i64 a [x, y]) :
    Calls Try.prog 20 #[.slice a 2 2] w fun e w' => e = .returned (.int .i64 (addC x y)) ∧ Below w.heap.size w w' := by
  have H := sum_any a 2 [x, y] w hz (by show 2 ≤ _; decide)
  rw [sum_two x y h h2] at H
  have HH := Lib.hid H
  clear H hz
  go_enter Try.func20, Try.ntmps20
  go_wp2_with fail
  refine HH.out.mono ?_; rintro e w1 ⟨rfl, b1⟩
  go_wp2_with fail
  go_ret
  exact ⟨rfl, b1⟩
theorem open19_any (k0 k1 k2 k3 k4 k5 k6 : Int) (a b : Int) (w : World) :
    Calls Try.prog 9 #[.agg #[.int .i64 k0, .int .i64 k1, .int .i64 k2, .int .i64 k3, .int .i64 k4, .int .i64 k5, .int .i64 k6], .int .i64 a, .int .i64 b] w fun e w' => e = .returned (.int .i64 (openF k5 a b)) ∧ Below w.heap.size w w' := by
  have h1 := kc a
  have h2 := kc b
  have hs : stepsC (kp a cMost) (kp b cMost) = stepsC a b := by unfold stepsC; rw [kpk, kpk]
  have hst := steps_any (kp a cMost) (kp b cMost) h1.1 h1.2 h2.1 h2.2
  rw [hs] at hst
  have HS := Lib.hid hst
  have hsb := stepsC_b a b
  have ho := one_b k5
  have h2' := Lib.hid (subC1 k5)
  have hbk := Bk.new w 23 #[.int .i64 k0, .int .i64 k1, .int .i64 k2, .int .i64 k3, .int .i64 k4, .int .i64 k5, .int .i64 k6]
  have HB := Lib.hid hbk
  have EO := Lib.hid (show openF k5 a b = if stepsC a b = 0 then 0 else addC (one k5 - 1) (stepsC a b) from rfl)
  clear hst hs hbk h1 h2
  generalize stepsC a b = n at *
  by_cases hn : n = 0
  · subst hn
    go_enter Try.func9, Try.ntmps9
    go_wp2_with fail
    refine (count19_any _ _).mono ?_; rintro e w1 ⟨rfl, b1⟩
    go_wp2_with fail
    refine (count19_any _ _).mono ?_; rintro e w2 ⟨rfl, b2⟩
    go_wp2_with fail
    refine (HS.out _).mono ?_; rintro e w' ⟨rfl, rfl⟩
    go_wp2_with fail
    go_ret
    exact ⟨ret_int (by rw [EO.out]; simp), ((((Below.refl _ _).alloc (Nat.le_refl _) _).trans (b1.mono (by simp))).trans (b2.mono (Nat.le_trans (by simp) b1.size)))⟩
  · have hn2 : (n == 0) = false := by simpa using hn
    have EO2 := Lib.hid (show openF k5 a b = addC (one k5 - 1) n by rw [EO.out, if_neg hn])
    clear hn
    go_enter Try.func9, Try.ntmps9
    go_wp2_with fail
    refine (count19_any _ _).mono ?_; rintro e w1 ⟨rfl, b1⟩
    go_wp2_with fail
    refine (count19_any _ _).mono ?_; rintro e w2 ⟨rfl, b2⟩
    go_wp2_with fail
    refine (HS.out _).mono ?_; rintro e w' ⟨rfl, rfl⟩
    have B2 := Lib.hid (HB.out.below b1)
    have B3 := Lib.hid (B2.out.below b2)
    have c0 := B3.out.cell 0
    have c1 := B3.out.cell 1
    have c2 := B3.out.cell 2
    have c3 := B3.out.cell 3
    have c4 := B3.out.cell 4
    have c5 := B3.out.cell 5
    have c6 := B3.out.cell 6
    go_wp2_with fail
    refine (first_any _ _ _ _ _ _ _ _).mono ?_; rintro e w3 ⟨rfl, b3⟩
    clear c0 c1 c2 c3 c4 c5 c6
    go_wp2_with fail
    refine (sub_any _ _ _).mono ?_; rintro e w4 ⟨rfl, b4⟩
    rw [h2'.out]
    go_wp2_with fail
    refine (together_any _ _ (by omega) (by omega) _ _ (lit_row _ _ _)).mono ?_; rintro e w5 ⟨rfl, b5⟩
    go_wp2_with fail
    go_ret
    have q1 := ((Below.refl w.heap.size w).alloc (Nat.le_refl _) _).trans (b1.mono (by simp))
    have q2 := q1.trans (b2.mono q1.size)
    have q3 := q2.trans (b3.mono q2.size)
    have q4 := q3.trans (b4.mono q3.size)
    have q5 := (q4.alloc q4.size _).trans (b5.mono (Nat.le_trans q4.size (by simp)))
    exact ⟨ret_int EO2.out.symm, q5⟩
theorem below_al {B : Nat} {a b : World} (hB : B ≤ a.heap.size) (h : Below B a b) (o : Obj) : Below B a (b.alloc o) := h.alloc (Nat.le_trans hB h.size) o
theorem kn_at (w : World) (cs : Array Value) (t : TypeId) (i : Nat) (W : World) (hW : Below (w.heap.size + 1) (w.alloc (.cells cs t)) W) : W.cell? ⟨w.heap.size, i, none⟩ = cs[i]? :=
  (hW.cell (p := ⟨w.heap.size, i, none⟩) (by simp)).trans ((Bk.new w t cs).cell i)
theorem bright19_any (k0 k1 k2 k3 k4 k5 k6 : Int) (a b : Int) (w : World) :
    Calls Try.prog 10 #[.agg #[.int .i64 k0, .int .i64 k1, .int .i64 k2, .int .i64 k3, .int .i64 k4, .int .i64 k5, .int .i64 k6], .int .i64 a, .int .i64 b] w fun e w' => e = .returned (.int .i64 (brightF k6 a b)) ∧ Below w.heap.size w w' := by
  have h1 := kc a
  have h2 := kc b
  have hs : stepsC (kp a cMost) (kp b cMost) = stepsC a b := by unfold stepsC; rw [kpk, kpk]
  have hst := steps_any (kp a cMost) (kp b cMost) h1.1 h1.2 h2.1 h2.2
  rw [hs] at hst
  have HS := Lib.hid hst
  have hm := mul_one k6 (stepsC a b)
  clear hst hs h1 h2
  by_cases h : k6 < 1
  · rw [if_pos h] at hm
    have HM := Lib.hid hm
    clear hm
    have hBa := Lib.hid (show w.heap.size + 1 ≤ (w.alloc (.cells #[.int .i64 k0, .int .i64 k1, .int .i64 k2, .int .i64 k3, .int .i64 k4, .int .i64 k5, .int .i64 k6] 23)).heap.size by simp)
    have at6 := Lib.hid (kn_at w #[.int .i64 k0, .int .i64 k1, .int .i64 k2, .int .i64 k3, .int .i64 k4, .int .i64 k5, .int .i64 k6] 23 6)
    go_enter Try.func10, Try.ntmps10
    go_wp2_with fail
    have bb : Below (w.heap.size + 1) (w.alloc (.cells #[.int .i64 k0, .int .i64 k1, .int .i64 k2, .int .i64 k3, .int .i64 k4, .int .i64 k5, .int .i64 k6] 23)) (w.alloc (.cells #[.int .i64 k0, .int .i64 k1, .int .i64 k2, .int .i64 k3, .int .i64 k4, .int .i64 k5, .int .i64 k6] 23)).drew := (Below.refl _ _).drew
    go_region_held3 (fun W => W.cell? ⟨w.heap.size, 6, none⟩ = some (.int .i64 k6)) (first | (go_keep; done) | exact at6.out _ (by assumption)) (first
      | (go_at_call 18; refine (count19_any _ _).mono ?_; rintro e w1 ⟨rfl, b1⟩; have bb := below_step hBa.out (by assumption) b1; clear b1)
      | (go_at_call 19; refine (HS.out _).mono ?_; rintro e w' ⟨rfl, rfl⟩)
      | (go_at_call 22; refine (mul_any _ _ _).mono ?_; rintro e w1 ⟨rfl, b1⟩; have bb := below_step hBa.out (by assumption) b1; clear b1))
    all_goals
      go_wp2_with fail
      go_ret
      exact ⟨ret_int HM.out, ((Below.refl w.heap.size w).alloc (Nat.le_refl _) _).trans (bb.mono (by omega))⟩
  · rw [if_neg h] at hm
    have HM := Lib.hid hm
    clear hm
    have hBa := Lib.hid (show w.heap.size + 1 ≤ (w.alloc (.cells #[.int .i64 k0, .int .i64 k1, .int .i64 k2, .int .i64 k3, .int .i64 k4, .int .i64 k5, .int .i64 k6] 23)).heap.size by simp)
    have at6 := Lib.hid (kn_at w #[.int .i64 k0, .int .i64 k1, .int .i64 k2, .int .i64 k3, .int .i64 k4, .int .i64 k5, .int .i64 k6] 23 6)
    go_enter Try.func10, Try.ntmps10
    go_wp2_with fail
    have bb : Below (w.heap.size + 1) (w.alloc (.cells #[.int .i64 k0, .int .i64 k1, .int .i64 k2, .int .i64 k3, .int .i64 k4, .int .i64 k5, .int .i64 k6] 23)) (w.alloc (.cells #[.int .i64 k0, .int .i64 k1, .int .i64 k2, .int .i64 k3, .int .i64 k4, .int .i64 k5, .int .i64 k6] 23)).drew := (Below.refl _ _).drew
    go_region_held3 (fun W => W.cell? ⟨w.heap.size, 6, none⟩ = some (.int .i64 k6)) (first | (go_keep; done) | exact at6.out _ (by assumption)) (first
      | (go_at_call 18; refine (count19_any _ _).mono ?_; rintro e w1 ⟨rfl, b1⟩; have bb := below_step hBa.out (by assumption) b1; clear b1)
      | (go_at_call 19; refine (HS.out _).mono ?_; rintro e w' ⟨rfl, rfl⟩)
      | (go_at_call 22; refine (mul_any _ _ _).mono ?_; rintro e w1 ⟨rfl, b1⟩; have bb := below_step hBa.out (by assumption) b1; clear b1))
    all_goals
      go_wp2_with fail
      go_ret
      exact ⟨ret_int HM.out, ((Below.refl w.heap.size w).alloc (Nat.le_refl _) _).trans (bb.mono (by omega))⟩
theorem windows_any (k0 k1 k2 k3 k4 k5 k6 : Int) (a l c n : Int) (w : World) :
    Calls Try.prog 11 #[.agg #[.int .i64 k0, .int .i64 k1, .int .i64 k2, .int .i64 k3, .int .i64 k4, .int .i64 k5, .int .i64 k6], .int .i64 a, .int .i64 l, .int .i64 c, .int .i64 n] w fun e w' => e = .returned (.int .i64 (windowsF k5 k6 a l c n)) ∧ Below w.heap.size w w' := by
  have ho := openF_b k5 a l
  have EW := Lib.hid (show windowsF k5 k6 a l c n = addC (openF k5 a l) (brightF k6 c n) from rfl)
  have hBa := Lib.hid (show w.heap.size + 1 ≤ (w.alloc (.cells #[.int .i64 k0, .int .i64 k1, .int .i64 k2, .int .i64 k3, .int .i64 k4, .int .i64 k5, .int .i64 k6] 23)).heap.size by simp)
  have at_ := Lib.hid (fun (W : World) (h : Below (w.heap.size + 1) (w.alloc (.cells #[.int .i64 k0, .int .i64 k1, .int .i64 k2, .int .i64 k3, .int .i64 k4, .int .i64 k5, .int .i64 k6] 23)) W) => (show W.cell? ⟨w.heap.size, 0, none⟩ = some (.int .i64 k0) ∧ W.cell? ⟨w.heap.size, 1, none⟩ = some (.int .i64 k1) ∧ W.cell? ⟨w.heap.size, 2, none⟩ = some (.int .i64 k2) ∧ W.cell? ⟨w.heap.size, 3, none⟩ = some (.int .i64 k3) ∧ W.cell? ⟨w.heap.size, 4, none⟩ = some (.int .i64 k4) ∧ W.cell? ⟨w.heap.size, 5, none⟩ = some (.int .i64 k5) ∧ W.cell? ⟨w.heap.size, 6, none⟩ = some (.int .i64 k6) from ⟨kn_at _ _ _ 0 _ h, kn_at _ _ _ 1 _ h, kn_at _ _ _ 2 _ h, kn_at _ _ _ 3 _ h, kn_at _ _ _ 4 _ h, kn_at _ _ _ 5 _ h, kn_at _ _ _ 6 _ h⟩))
  go_enter Try.func11, Try.ntmps11
  go_wp2_with fail
  have bb : Below (w.heap.size + 1) (w.alloc (.cells #[.int .i64 k0, .int .i64 k1, .int .i64 k2, .int .i64 k3, .int .i64 k4, .int .i64 k5, .int .i64 k6] 23)) (w.alloc (.cells #[.int .i64 k0, .int .i64 k1, .int .i64 k2, .int .i64 k3, .int .i64 k4, .int .i64 k5, .int .i64 k6] 23)).drew := (Below.refl _ _).drew
  go_region_held3 (fun W => W.cell? ⟨w.heap.size, 0, none⟩ = some (.int .i64 k0) ∧ W.cell? ⟨w.heap.size, 1, none⟩ = some (.int .i64 k1) ∧ W.cell? ⟨w.heap.size, 2, none⟩ = some (.int .i64 k2) ∧ W.cell? ⟨w.heap.size, 3, none⟩ = some (.int .i64 k3) ∧ W.cell? ⟨w.heap.size, 4, none⟩ = some (.int .i64 k4) ∧ W.cell? ⟨w.heap.size, 5, none⟩ = some (.int .i64 k5) ∧ W.cell? ⟨w.heap.size, 6, none⟩ = some (.int .i64 k6)) (first | (go_keep; done) | exact at_.out _ (by assumption) | exact at_.out _ (below_al hBa.out (by assumption) _)) (first
    | (go_at_call 9; refine (open19_any _ _ _ _ _ _ _ _ _ _).mono ?_; rintro e w1 ⟨rfl, b1⟩; have bb := below_step hBa.out (by assumption) b1; clear b1)
    | (go_at_call 10; refine (bright19_any _ _ _ _ _ _ _ _ _ _).mono ?_; rintro e w1 ⟨rfl, b1⟩; have bb := below_step hBa.out (by assumption) b1; clear b1)
    | (go_at_call 20; refine (together_any _ _ (by omega) (by omega) _ _ (lit_row _ _ _)).mono ?_; rintro e w1 ⟨rfl, b1⟩; have bb := below_step hBa.out (below_al hBa.out (by assumption) _) b1; clear b1))
  go_wp2_with fail
  go_ret
  exact ⟨ret_int EW.out.symm, ((Below.refl w.heap.size w).alloc (Nat.le_refl _) _).trans (bb.mono (by omega))⟩
theorem worst_any (k0 k1 k2 k3 k4 k5 k6 : Int) (l n : Int) (w : World) :
    Calls Try.prog 13 #[.agg #[.int .i64 k0, .int .i64 k1, .int .i64 k2, .int .i64 k3, .int .i64 k4, .int .i64 k5, .int .i64 k6], .int .i64 l, .int .i64 n] w fun e w' => e = .returned (.int .i64 (windowsF k5 k6 0 l 0 n)) ∧ Below w.heap.size w w' := by
  go_enter Try.func13, Try.ntmps13
  go_wp2_with fail
  refine (windows_any _ _ _ _ _ _ _ _ _ _ _ _).mono ?_; rintro e w1 ⟨rfl, b1⟩
  go_wp2_with fail
  go_ret
  exact ⟨rfl, ((Below.refl w.heap.size w).alloc (Nat.le_refl _) _).trans (b1.mono (by simp))⟩
/-! ### the plain answers -/
theorem rsteps_any (a b : Int) (w : World) :
    Calls Try.prog 15 #[.int .i64 a, .int .i64 b] w fun e w' => e = .returned (.int .i64 (stepsC a b)) ∧ w = w' := by
  have h1 := (kc a).1
  have h2 := (kc a).2
  have h3 := (kc b).1
  have h4 := (kc b).2
  have E := Lib.hid (show stepsC a b = if kp a cMost < kp b cMost then kp b cMost - kp a cMost else 0 from rfl)
  go_enter Try.func15, Try.ntmps15
  go_wp2_with (go_at_call 23; refine (rcount_any _ _).mono ?_; rintro e w' ⟨rfl, rfl⟩)
  all_goals
    go_ret
    exact ⟨ret_int (by rw [E.out]; split <;> omega), rfl⟩
theorem rone_any (n : Int) (w : World) :
    Calls Try.prog 16 #[.int .i64 n] w fun e w' => e = .returned (.int .i64 (one n)) ∧ w = w' := by
  have E := Lib.hid (show one n = if n < 1 then 1 else kp n cMost from rfl)
  go_enter Try.func16, Try.ntmps16
  go_wp2_with (go_at_call 23; refine (rcount_any _ _).mono ?_; rintro e w' ⟨rfl, rfl⟩)
  all_goals
    go_ret
    exact ⟨ret_int (by rw [E.out]; split <;> omega), rfl⟩
theorem ropen_any (k0 k1 k2 k3 k4 k5 k6 : Int) (a b : Int) (w : World) :
    Calls Try.prog 5 #[.agg #[.int .i64 k0, .int .i64 k1, .int .i64 k2, .int .i64 k3, .int .i64 k4, .int .i64 k5, .int .i64 k6], .int .i64 a, .int .i64 b] w fun e w' => e = .returned (.int .i64 (openF k5 a b)) ∧ Below w.heap.size w w' := by
  have HS := Lib.hid (rsteps_any a b)
  have ho := one_b k5
  have EO := Lib.hid (show openF k5 a b = if stepsC a b = 0 then 0 else addC (one k5 - 1) (stepsC a b) from rfl)
  generalize stepsC a b = n at *
  by_cases hn : n = 0
  · subst hn
    go_enter Try.func5, Try.ntmps5
    go_wp2_with fail
    refine (HS.out _).mono ?_; rintro e w' ⟨rfl, rfl⟩
    go_wp2_with fail
    go_ret
    exact ⟨ret_int (by rw [EO.out]; simp), ((Below.refl _ _).alloc (Nat.le_refl _) _)⟩
  · have hn2 : (n == 0) = false := by simpa using hn
    have EO2 := Lib.hid (show openF k5 a b = addC (one k5 - 1) n by rw [EO.out, if_neg hn])
    clear hn
    go_enter Try.func5, Try.ntmps5
    go_wp2_with fail
    refine (HS.out _).mono ?_; rintro e w' ⟨rfl, rfl⟩
    go_wp2_with fail
    refine (rone_any _ _).mono ?_; rintro e w' ⟨rfl, rfl⟩
    go_wp2_with fail
    refine (radd_any _ _ _).mono ?_; rintro e w' ⟨rfl, rfl⟩
    go_wp2_with fail
    go_ret
    exact ⟨ret_int EO2.out.symm, ((Below.refl _ _).alloc (Nat.le_refl _) _)⟩
theorem rbright_any (k0 k1 k2 k3 k4 k5 k6 : Int) (a b : Int) (w : World) :
    Calls Try.prog 6 #[.agg #[.int .i64 k0, .int .i64 k1, .int .i64 k2, .int .i64 k3, .int .i64 k4, .int .i64 k5, .int .i64 k6], .int .i64 a, .int .i64 b] w fun e w' => e = .returned (.int .i64 (brightF k6 a b)) ∧ Below w.heap.size w w' := by
  go_enter Try.func6, Try.ntmps6
  go_wp2_with fail
  refine (rone_any _ _).mono ?_; rintro e w' ⟨rfl, rfl⟩
  go_wp2_with fail
  refine (rsteps_any _ _ _).mono ?_; rintro e w' ⟨rfl, rfl⟩
  go_wp2_with fail
  refine (rmul_any _ _ _).mono ?_; rintro e w' ⟨rfl, rfl⟩
  go_wp2_with fail
  go_ret
  exact ⟨rfl, ((Below.refl _ _).alloc (Nat.le_refl _) _)⟩
theorem rfirst_any (k0 k1 k2 k3 k4 k5 k6 : Int) (w : World) :
    Calls Try.prog 8 #[.agg #[.int .i64 k0, .int .i64 k1, .int .i64 k2, .int .i64 k3, .int .i64 k4, .int .i64 k5, .int .i64 k6]] w fun e w' => e = .returned (.int .i64 (one k5)) ∧ Below w.heap.size w w' := by
  go_enter Try.func8, Try.ntmps8
  go_wp2_with fail
  refine (rone_any _ _).mono ?_; rintro e w' ⟨rfl, rfl⟩
  go_wp2_with fail
  go_ret
  exact ⟨rfl, ((Below.refl _ _).alloc (Nat.le_refl _) _)⟩
end Go.Proofs.Ytombgaiebjffcaa
