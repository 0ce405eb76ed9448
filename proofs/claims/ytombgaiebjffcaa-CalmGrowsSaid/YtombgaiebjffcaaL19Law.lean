/-
  The walks of the laws of layer 19.
-/
import Derived.Test.YtombgaiebjffcaaCalm
import Derived.Test.YtombgaiebjffcaaAgg
namespace Go.Proofs.Ytombgaiebjffcaa
open Go.RowKit Bd Cm
theorem awake19 (w : World) :
    Calls Try.prog 14 #[] w fun e w' => e = .returned (.bool true) ∧ Below w.heap.size w w' := by
  have e1 := Lib.hid (show windowsF 3 2 5 8 1 3 = 9 by decide +kernel)
  have e2 := Lib.hid (show openF 3 5 8 = 5 by decide +kernel)
  have e3 := Lib.hid (show brightF 2 1 3 = 4 by decide +kernel)
  have e4 := Lib.hid (show one 3 = 3 by decide +kernel)
  have e5 := Lib.hid (show windowsF 3 2 0 8 0 3 = 16 by decide +kernel)
  have hBa := Lib.hid (show w.heap.size + 1 ≤ (w.alloc (.cells #[.int .i64 0, .int .i64 0, .int .i64 0, .int .i64 0, .int .i64 0, .int .i64 3, .int .i64 2] 23)).heap.size by simp)
  go_enter Try.func14, Try.ntmps14
  go_wp2_with fail
  refine (windows_any _ _ _ _ _ _ _ _ _ _ _ _).mono ?_; rintro e w1 ⟨rfl, b1⟩
  rw [e1.out]
  have B1 : Below (w.heap.size + 1) (w.alloc (.cells #[.int .i64 0, .int .i64 0, .int .i64 0, .int .i64 0, .int .i64 0, .int .i64 3, .int .i64 2] 23)) w1 := b1.mono (by simp)
  have c0 := kn_at _ _ _ 0 _ B1
  have c1 := kn_at _ _ _ 1 _ B1
  have c2 := kn_at _ _ _ 2 _ B1
  have c3 := kn_at _ _ _ 3 _ B1
  have c4 := kn_at _ _ _ 4 _ B1
  have c5 := kn_at _ _ _ 5 _ B1
  have c6 := kn_at _ _ _ 6 _ B1
  go_wp2_with fail
  refine (open19_any _ _ _ _ _ _ _ _ _ _).mono ?_; rintro e w2 ⟨rfl, b2⟩
  rw [e2.out]
  have B2 := below_step hBa.out B1 b2
  clear c0 c1 c2 c3 c4 c5 c6
  have c0 := kn_at _ _ _ 0 _ B2
  have c1 := kn_at _ _ _ 1 _ B2
  have c2 := kn_at _ _ _ 2 _ B2
  have c3 := kn_at _ _ _ 3 _ B2
  have c4 := kn_at _ _ _ 4 _ B2
  have c5 := kn_at _ _ _ 5 _ B2
  have c6 := kn_at _ _ _ 6 _ B2
  go_wp2_with fail
  refine (bright19_any _ _ _ _ _ _ _ _ _ _).mono ?_; rintro e w3 ⟨rfl, b3⟩
  rw [e3.out]
  have B3 := below_step hBa.out B2 b3
  clear c0 c1 c2 c3 c4 c5 c6
  have c0 := kn_at _ _ _ 0 _ B3
  have c1 := kn_at _ _ _ 1 _ B3
  have c2 := kn_at _ _ _ 2 _ B3
  have c3 := kn_at _ _ _ 3 _ B3
  have c4 := kn_at _ _ _ 4 _ B3
  have c5 := kn_at _ _ _ 5 _ B3
  have c6 := kn_at _ _ _ 6 _ B3
  go_wp2_with fail
  refine (first_any _ _ _ _ _ _ _ _).mono ?_; rintro e w4 ⟨rfl, b4⟩
  rw [e4.out]
  have B4 := below_step hBa.out B3 b4
  clear c0 c1 c2 c3 c4 c5 c6
  have c0 := kn_at _ _ _ 0 _ B4
  have c1 := kn_at _ _ _ 1 _ B4
  have c2 := kn_at _ _ _ 2 _ B4
  have c3 := kn_at _ _ _ 3 _ B4
  have c4 := kn_at _ _ _ 4 _ B4
  have c5 := kn_at _ _ _ 5 _ B4
  have c6 := kn_at _ _ _ 6 _ B4
  go_wp2_with fail
  refine (worst_any _ _ _ _ _ _ _ _ _ _).mono ?_; rintro e w5 ⟨rfl, b5⟩
  rw [e5.out]
  have B5 := below_step hBa.out B4 b5
  clear c0 c1 c2 c3 c4 c5 c6
  go_wp2_with fail
  go_ret
  exact ⟨rfl, ((Below.refl w.heap.size w).alloc (Nat.le_refl _) _).trans (B5.mono (by omega))⟩
theorem three_at (w : World) (A B C : Array Value) (s t u : TypeId) (W : World) (hW : Below (w.heap.size + 3) (((w.alloc (.cells A s)).alloc (.cells B t)).alloc (.cells C u)) W) (i : Nat) :
    W.cell? ⟨w.heap.size, i, none⟩ = A[i]? ∧ W.cell? ⟨w.heap.size + 1, i, none⟩ = B[i]? ∧ W.cell? ⟨w.heap.size + 2, i, none⟩ = C[i]? := by
  have hA := ((Bk.new w s A).below ((Below.refl _ _).alloc (Nat.le_refl _) (.cells B t))).below ((Below.refl _ _).alloc (Nat.le_refl _) (.cells C u))
  have hB := (Bk.new (w.alloc (.cells A s)) t B).below ((Below.refl _ _).alloc (Nat.le_refl _) (.cells C u))
  have hC := Bk.new ((w.alloc (.cells A s)).alloc (.cells B t)) u C
  refine ⟨(hW.cell (p := ⟨w.heap.size, i, none⟩) (by simp)).trans (hA.cell i), (hW.cell (p := ⟨w.heap.size + 1, i, none⟩) (by simp)).trans ?_, (hW.cell (p := ⟨w.heap.size + 2, i, none⟩) (by simp)).trans ?_⟩
  · simpa using hB.cell i
  · simpa using hC.cell i
set_option maxRecDepth 100000 in
set_option maxHeartbeats 4000000 in
theorem w_CalmTells (w : World) (k0 k1 k2 k3 k4 k5 k6 : Int) (o0 o1 : Int) (_ : (Lit.int .i64 o0).wf = true) (_ : (Lit.int .i64 o1).wf = true) (t0 t1 : Int) (_ : (Lit.int .i64 t0).wf = true) (_ : (Lit.int .i64 t1).wf = true) :
    Calls Try.prog 3 #[.agg #[.int .i64 k0, .int .i64 k1, .int .i64 k2, .int .i64 k3, .int .i64 k4, .int .i64 k5, .int .i64 k6], .agg #[.int .i64 o0, .int .i64 o1], .agg #[.int .i64 t0, .int .i64 t1]] w fun e w' => e = .returned (.bool true) ∧ Below w.heap.size w w' := by
  have hBa := Lib.hid (show w.heap.size + 3 ≤ (((w.alloc (.cells #[.int .i64 k0, .int .i64 k1, .int .i64 k2, .int .i64 k3, .int .i64 k4, .int .i64 k5, .int .i64 k6] 23)).alloc (.cells #[.int .i64 o0, .int .i64 o1] 24)).alloc (.cells #[.int .i64 t0, .int .i64 t1] 24)).heap.size by simp)
  have at_ := Lib.hid (fun (W : World) (h : Below (w.heap.size + 3) (((w.alloc (.cells #[.int .i64 k0, .int .i64 k1, .int .i64 k2, .int .i64 k3, .int .i64 k4, .int .i64 k5, .int .i64 k6] 23)).alloc (.cells #[.int .i64 o0, .int .i64 o1] 24)).alloc (.cells #[.int .i64 t0, .int .i64 t1] 24)) W) => (show W.cell? ⟨w.heap.size, 0, none⟩ = some (.int .i64 k0) ∧ W.cell? ⟨w.heap.size, 1, none⟩ = some (.int .i64 k1) ∧ W.cell? ⟨w.heap.size, 2, none⟩ = some (.int .i64 k2) ∧ W.cell? ⟨w.heap.size, 3, none⟩ = some (.int .i64 k3) ∧ W.cell? ⟨w.heap.size, 4, none⟩ = some (.int .i64 k4) ∧ W.cell? ⟨w.heap.size, 5, none⟩ = some (.int .i64 k5) ∧ W.cell? ⟨w.heap.size, 6, none⟩ = some (.int .i64 k6) ∧ W.cell? ⟨w.heap.size + 1, 0, none⟩ = some (.int .i64 o0) ∧ W.cell? ⟨w.heap.size + 1, 1, none⟩ = some (.int .i64 o1) ∧ W.cell? ⟨w.heap.size + 2, 0, none⟩ = some (.int .i64 t0) ∧ W.cell? ⟨w.heap.size + 2, 1, none⟩ = some (.int .i64 t1) from ⟨(three_at _ _ _ _ _ _ _ _ h 0).1, (three_at _ _ _ _ _ _ _ _ h 1).1, (three_at _ _ _ _ _ _ _ _ h 2).1, (three_at _ _ _ _ _ _ _ _ h 3).1, (three_at _ _ _ _ _ _ _ _ h 4).1, (three_at _ _ _ _ _ _ _ _ h 5).1, (three_at _ _ _ _ _ _ _ _ h 6).1, (three_at _ _ _ _ _ _ _ _ h 0).2.1, (three_at _ _ _ _ _ _ _ _ h 1).2.1, (three_at _ _ _ _ _ _ _ _ h 0).2.2, (three_at _ _ _ _ _ _ _ _ h 1).2.2⟩))
  have EW := Lib.hid (show windowsF k5 k6 o0 o1 t0 t1 = addC (openF k5 o0 o1) (brightF k6 t0 t1) from rfl)
  have EV := Lib.hid (show windowsF k5 k6 0 o1 0 t1 = addC (openF k5 0 o1) (brightF k6 0 t1) from rfl)
  go_enter Try.func3, Try.ntmps3
  go_wp2_with fail
  have bb : Below (w.heap.size + 3) (((w.alloc (.cells #[.int .i64 k0, .int .i64 k1, .int .i64 k2, .int .i64 k3, .int .i64 k4, .int .i64 k5, .int .i64 k6] 23)).alloc (.cells #[.int .i64 o0, .int .i64 o1] 24)).alloc (.cells #[.int .i64 t0, .int .i64 t1] 24)) (((w.alloc (.cells #[.int .i64 k0, .int .i64 k1, .int .i64 k2, .int .i64 k3, .int .i64 k4, .int .i64 k5, .int .i64 k6] 23)).alloc (.cells #[.int .i64 o0, .int .i64 o1] 24)).alloc (.cells #[.int .i64 t0, .int .i64 t1] 24)).drew := (Below.refl _ _).drew
  go_region_held3 (fun W => W.cell? ⟨w.heap.size, 0, none⟩ = some (.int .i64 k0) ∧ W.cell? ⟨w.heap.size, 1, none⟩ = some (.int .i64 k1) ∧ W.cell? ⟨w.heap.size, 2, none⟩ = some (.int .i64 k2) ∧ W.cell? ⟨w.heap.size, 3, none⟩ = some (.int .i64 k3) ∧ W.cell? ⟨w.heap.size, 4, none⟩ = some (.int .i64 k4) ∧ W.cell? ⟨w.heap.size, 5, none⟩ = some (.int .i64 k5) ∧ W.cell? ⟨w.heap.size, 6, none⟩ = some (.int .i64 k6) ∧ W.cell? ⟨w.heap.size + 1, 0, none⟩ = some (.int .i64 o0) ∧ W.cell? ⟨w.heap.size + 1, 1, none⟩ = some (.int .i64 o1) ∧ W.cell? ⟨w.heap.size + 2, 0, none⟩ = some (.int .i64 t0) ∧ W.cell? ⟨w.heap.size + 2, 1, none⟩ = some (.int .i64 t1)) (first | (go_keep; done) | exact at_.out _ (by assumption)) (first
    | (go_at_call 7; refine (first_any _ _ _ _ _ _ _ _).mono ?_; rintro e w1 ⟨rfl, b1⟩; have bb := below_step hBa.out (by assumption) b1; clear b1)
    | (go_at_call 8; refine (rfirst_any _ _ _ _ _ _ _ _).mono ?_; rintro e w1 ⟨rfl, b1⟩; have bb := below_step hBa.out (by assumption) b1; clear b1)
    | (go_at_call 9; refine (open19_any _ _ _ _ _ _ _ _ _ _).mono ?_; rintro e w1 ⟨rfl, b1⟩; have bb := below_step hBa.out (by assumption) b1; clear b1)
    | (go_at_call 5; refine (ropen_any _ _ _ _ _ _ _ _ _ _).mono ?_; rintro e w1 ⟨rfl, b1⟩; have bb := below_step hBa.out (by assumption) b1; clear b1)
    | (go_at_call 10; refine (bright19_any _ _ _ _ _ _ _ _ _ _).mono ?_; rintro e w1 ⟨rfl, b1⟩; have bb := below_step hBa.out (by assumption) b1; clear b1)
    | (go_at_call 6; refine (rbright_any _ _ _ _ _ _ _ _ _ _).mono ?_; rintro e w1 ⟨rfl, b1⟩; have bb := below_step hBa.out (by assumption) b1; clear b1)
    | (go_at_call 11; refine (windows_any _ _ _ _ _ _ _ _ _ _ _ _).mono ?_; rintro e w1 ⟨rfl, b1⟩; have bb := below_step hBa.out (by assumption) b1; clear b1)
    | (go_at_call 13; refine (worst_any _ _ _ _ _ _ _ _ _ _).mono ?_; rintro e w1 ⟨rfl, b1⟩; have bb := below_step hBa.out (by assumption) b1; clear b1)
    | (go_at_call 14; refine (awake19 _).mono ?_; rintro e w1 ⟨rfl, b1⟩; have bb := below_step hBa.out (by assumption) b1; clear b1)
    | (go_at_call 12; refine (radd_any _ _ _).mono ?_; rintro e w' ⟨rfl, rfl⟩))
  have hs := at_.out _ bb
  have bb2 := bb.drew
  have ew := EW.out
  have ev := EV.out
  go_wp2_with fail
  go_region_held3 (fun W => W.cell? ⟨w.heap.size, 0, none⟩ = some (.int .i64 k0) ∧ W.cell? ⟨w.heap.size, 1, none⟩ = some (.int .i64 k1) ∧ W.cell? ⟨w.heap.size, 2, none⟩ = some (.int .i64 k2) ∧ W.cell? ⟨w.heap.size, 3, none⟩ = some (.int .i64 k3) ∧ W.cell? ⟨w.heap.size, 4, none⟩ = some (.int .i64 k4) ∧ W.cell? ⟨w.heap.size, 5, none⟩ = some (.int .i64 k5) ∧ W.cell? ⟨w.heap.size, 6, none⟩ = some (.int .i64 k6) ∧ W.cell? ⟨w.heap.size + 1, 0, none⟩ = some (.int .i64 o0) ∧ W.cell? ⟨w.heap.size + 1, 1, none⟩ = some (.int .i64 o1) ∧ W.cell? ⟨w.heap.size + 2, 0, none⟩ = some (.int .i64 t0) ∧ W.cell? ⟨w.heap.size + 2, 1, none⟩ = some (.int .i64 t1)) (first | (go_keep; done) | exact at_.out _ (by assumption)) (first
    | (go_at_call 7; refine (first_any _ _ _ _ _ _ _ _).mono ?_; rintro e w1 ⟨rfl, b1⟩; have bb := below_step hBa.out (by assumption) b1; clear b1)
    | (go_at_call 8; refine (rfirst_any _ _ _ _ _ _ _ _).mono ?_; rintro e w1 ⟨rfl, b1⟩; have bb := below_step hBa.out (by assumption) b1; clear b1)
    | (go_at_call 9; refine (open19_any _ _ _ _ _ _ _ _ _ _).mono ?_; rintro e w1 ⟨rfl, b1⟩; have bb := below_step hBa.out (by assumption) b1; clear b1)
    | (go_at_call 5; refine (ropen_any _ _ _ _ _ _ _ _ _ _).mono ?_; rintro e w1 ⟨rfl, b1⟩; have bb := below_step hBa.out (by assumption) b1; clear b1)
    | (go_at_call 10; refine (bright19_any _ _ _ _ _ _ _ _ _ _).mono ?_; rintro e w1 ⟨rfl, b1⟩; have bb := below_step hBa.out (by assumption) b1; clear b1)
    | (go_at_call 6; refine (rbright_any _ _ _ _ _ _ _ _ _ _).mono ?_; rintro e w1 ⟨rfl, b1⟩; have bb := below_step hBa.out (by assumption) b1; clear b1)
    | (go_at_call 11; refine (windows_any _ _ _ _ _ _ _ _ _ _ _ _).mono ?_; rintro e w1 ⟨rfl, b1⟩; have bb := below_step hBa.out (by assumption) b1; clear b1)
    | (go_at_call 13; refine (worst_any _ _ _ _ _ _ _ _ _ _).mono ?_; rintro e w1 ⟨rfl, b1⟩; have bb := below_step hBa.out (by assumption) b1; clear b1)
    | (go_at_call 14; refine (awake19 _).mono ?_; rintro e w1 ⟨rfl, b1⟩; have bb := below_step hBa.out (by assumption) b1; clear b1)
    | (go_at_call 12; refine (radd_any _ _ _).mono ?_; rintro e w' ⟨rfl, rfl⟩))
  go_wp2_with fail
  go_ret
  exact ⟨rfl, (((((Below.refl w.heap.size w).alloc (Nat.le_refl _) _).alloc (by simp) _).alloc (by simp; omega) _).trans (bb.mono (by omega)))⟩
end Go.Proofs.Ytombgaiebjffcaa
