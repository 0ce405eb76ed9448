/-
  The walk of the law CalmGrows.
-/
import Derived.Test.YtombgaiebjffcaaL19Law
namespace Go.Proofs.Ytombgaiebjffcaa
open Go.RowKit Bd Cm
set_option maxRecDepth 100000 in
set_option maxHeartbeats 4000000 in
theorem w_CalmGrows (w : World) (k0 k1 k2 k3 k4 k5 k6 : Int) (a b l : Int) (wa : (Lit.int .u16 a).wf = true) (wb : (Lit.int .u16 b).wf = true) (wl : (Lit.int .u16 l).wf = true) (c e n : Int) (wc : (Lit.int .u8 c).wf = true) (we : (Lit.int .u8 e).wf = true) (wn : (Lit.int .u8 n).wf = true) :
    Calls Try.prog 4 #[.agg #[.int .i64 k0, .int .i64 k1, .int .i64 k2, .int .i64 k3, .int .i64 k4, .int .i64 k5, .int .i64 k6], .agg #[.int .u16 a, .int .u16 b, .int .u16 l], .agg #[.int .u8 c, .int .u8 e, .int .u8 n]] w fun e w' => e = .returned (.bool true) ∧ Below w.heap.size w w' := by
  have hBa := Lib.hid (show w.heap.size + 3 ≤ (((w.alloc (.cells #[.int .i64 k0, .int .i64 k1, .int .i64 k2, .int .i64 k3, .int .i64 k4, .int .i64 k5, .int .i64 k6] 23)).alloc (.cells #[.int .u16 a, .int .u16 b, .int .u16 l] 32)).alloc (.cells #[.int .u8 c, .int .u8 e, .int .u8 n] 33)).heap.size by simp)
  have bb0 := Lib.hid (fun m => bl_drewN (Below.refl (w.heap.size + 3) (((w.alloc (.cells #[.int .i64 k0, .int .i64 k1, .int .i64 k2, .int .i64 k3, .int .i64 k4, .int .i64 k5, .int .i64 k6] 23)).alloc (.cells #[.int .u16 a, .int .u16 b, .int .u16 l] 32)).alloc (.cells #[.int .u8 c, .int .u8 e, .int .u8 n] 33))) m)
  have bb1 := Lib.hid (fun m => (bl_drewN (Below.refl (w.heap.size + 3) (((w.alloc (.cells #[.int .i64 k0, .int .i64 k1, .int .i64 k2, .int .i64 k3, .int .i64 k4, .int .i64 k5, .int .i64 k6] 23)).alloc (.cells #[.int .u16 a, .int .u16 b, .int .u16 l] 32)).alloc (.cells #[.int .u8 c, .int .u8 e, .int .u8 n] 33))) m).drew)
  have at_ := Lib.hid (fun (W : World) (h : Below (w.heap.size + 3) (((w.alloc (.cells #[.int .i64 k0, .int .i64 k1, .int .i64 k2, .int .i64 k3, .int .i64 k4, .int .i64 k5, .int .i64 k6] 23)).alloc (.cells #[.int .u16 a, .int .u16 b, .int .u16 l] 32)).alloc (.cells #[.int .u8 c, .int .u8 e, .int .u8 n] 33)) W) => (show W.cell? ⟨w.heap.size, 0, none⟩ = some (.int .i64 k0) ∧ W.cell? ⟨w.heap.size, 1, none⟩ = some (.int .i64 k1) ∧ W.cell? ⟨w.heap.size, 2, none⟩ = some (.int .i64 k2) ∧ W.cell? ⟨w.heap.size, 3, none⟩ = some (.int .i64 k3) ∧ W.cell? ⟨w.heap.size, 4, none⟩ = some (.int .i64 k4) ∧ W.cell? ⟨w.heap.size, 5, none⟩ = some (.int .i64 k5) ∧ W.cell? ⟨w.heap.size, 6, none⟩ = some (.int .i64 k6) from ⟨(three_at _ _ _ _ _ _ _ _ h 0).1, (three_at _ _ _ _ _ _ _ _ h 1).1, (three_at _ _ _ _ _ _ _ _ h 2).1, (three_at _ _ _ _ _ _ _ _ h 3).1, (three_at _ _ _ _ _ _ _ _ h 4).1, (three_at _ _ _ _ _ _ _ _ h 5).1, (three_at _ _ _ _ _ _ _ _ h 6).1⟩))
  simp only [Lit.wf, Bool.and_eq_true, decide_eq_true_eq] at wa wb wl wc we wn
  have a1 : 0 ≤ a := wa.1
  have a2 : a ≤ 65535 := wa.2
  have b1 : 0 ≤ b := wb.1
  have b2 : b ≤ 65535 := wb.2
  have l1 : 0 ≤ l := wl.1
  have l2 : l ≤ 65535 := wl.2
  have c1 : 0 ≤ c := wc.1
  have c2 : c ≤ 255 := wc.2
  have e1 : 0 ≤ e := we.1
  have e2 : e ≤ 255 := we.2
  have n1 : 0 ≤ n := wn.1
  have n2 : n ≤ 255 := wn.2
  clear wa wb wl wc we wn
  have m1 := windowsF_mono k5 k6 0 a l 0 c n a1 c1
  have m2 := windowsF_mono k5 k6 a b l c e n
  have m3 := windows_zero k5 k6 a l c n
  have m4 := windows_pos k5 k6 a l c n a1 c1 (by omega) (by omega)
  have hcs : (a ≤ b ∧ c ≤ e) ∨ b < a ∨ (a ≤ b ∧ e < c) := by omega
  have hcs2 : (l ≤ a ∧ n ≤ c) ∨ a < l ∨ (l ≤ a ∧ c < n) := by omega
  rcases hcs2 with ⟨h3, h4⟩ | h3 | ⟨h3, h4⟩
  · have m5 := m3 h3 h4
    clear m3 m4
    rcases hcs with ⟨h1, h2⟩ | h1 | ⟨h1, h2⟩
    · have m6 := m2 h1 h2
      clear m2
      have HM := Lib.hid (And.intro m1 (And.intro m5 m6))
      clear m1 m5 m6
      go_enter Try.func4, Try.ntmps4
      go_wp2_with fail
      go_quiet (fail)
      go_wp2_with fail
      go_quiet (fail)
      go_wp2_with fail
      go_region_held3 (fun W => W.cell? ⟨w.heap.size, 0, none⟩ = some (.int .i64 k0) ∧ W.cell? ⟨w.heap.size, 1, none⟩ = some (.int .i64 k1) ∧ W.cell? ⟨w.heap.size, 2, none⟩ = some (.int .i64 k2) ∧ W.cell? ⟨w.heap.size, 3, none⟩ = some (.int .i64 k3) ∧ W.cell? ⟨w.heap.size, 4, none⟩ = some (.int .i64 k4) ∧ W.cell? ⟨w.heap.size, 5, none⟩ = some (.int .i64 k5) ∧ W.cell? ⟨w.heap.size, 6, none⟩ = some (.int .i64 k6)) (first | (go_keep; done) | exact at_.out _ (by assumption)) (first
        | (go_at_call 11; refine (windows_any _ _ _ _ _ _ _ _ _ _ _ _).mono ?_; rintro e w1 ⟨rfl, b1⟩; (first | have bb := below_step hBa.out (by assumption) b1 | have bb := below_step hBa.out (bb0.out _) b1 | have bb := below_step hBa.out (bb1.out _) b1); clear b1))
      have hs := at_.out _ bb
      have M := HM.out
      generalize windowsF k5 k6 a l c n = x at *
      generalize windowsF k5 k6 b l e n = y at *
      obtain ⟨g1, rfl, g3⟩ := M
      go_wp2_with fail
      refine (worst_any _ _ _ _ _ _ _ _ _ _).mono ?_; rintro e w3 ⟨rfl, b3⟩
      go_wp2_with fail
      refine (awake19 _).mono ?_; rintro e w4 ⟨rfl, b4⟩
      go_wp2_with fail
      go_ret
      have q := (((((Below.refl w.heap.size w).alloc (Nat.le_refl _) _).alloc (by simp) _).alloc (by simp; omega) _).trans (bb.mono (by omega)))
      have q3 := q.trans (b3.mono q.size)
      exact ⟨rfl, q3.trans (b4.mono q3.size)⟩
    · clear m2
      have HM := Lib.hid (And.intro m1 m5)
      clear m1 m5
      go_enter Try.func4, Try.ntmps4
      go_wp2_with fail
      go_quiet (fail)
      go_wp2_with fail
      go_quiet (fail)
      go_wp2_with fail
      go_region_held3 (fun W => W.cell? ⟨w.heap.size, 0, none⟩ = some (.int .i64 k0) ∧ W.cell? ⟨w.heap.size, 1, none⟩ = some (.int .i64 k1) ∧ W.cell? ⟨w.heap.size, 2, none⟩ = some (.int .i64 k2) ∧ W.cell? ⟨w.heap.size, 3, none⟩ = some (.int .i64 k3) ∧ W.cell? ⟨w.heap.size, 4, none⟩ = some (.int .i64 k4) ∧ W.cell? ⟨w.heap.size, 5, none⟩ = some (.int .i64 k5) ∧ W.cell? ⟨w.heap.size, 6, none⟩ = some (.int .i64 k6)) (first | (go_keep; done) | exact at_.out _ (by assumption)) (first
        | (go_at_call 11; refine (windows_any _ _ _ _ _ _ _ _ _ _ _ _).mono ?_; rintro e w1 ⟨rfl, b1⟩; (first | have bb := below_step hBa.out (by assumption) b1 | have bb := below_step hBa.out (bb0.out _) b1 | have bb := below_step hBa.out (bb1.out _) b1); clear b1))
      have hs := at_.out _ bb
      have M := HM.out
      generalize windowsF k5 k6 a l c n = x at *
      generalize windowsF k5 k6 b l e n = y at *
      obtain ⟨g1, rfl⟩ := M
      go_wp2_with fail
      refine (worst_any _ _ _ _ _ _ _ _ _ _).mono ?_; rintro e w3 ⟨rfl, b3⟩
      go_wp2_with fail
      refine (awake19 _).mono ?_; rintro e w4 ⟨rfl, b4⟩
      go_wp2_with fail
      go_ret
      have q := (((((Below.refl w.heap.size w).alloc (Nat.le_refl _) _).alloc (by simp) _).alloc (by simp; omega) _).trans (bb.mono (by omega)))
      have q3 := q.trans (b3.mono q.size)
      exact ⟨rfl, q3.trans (b4.mono q3.size)⟩
    · clear m2
      have HM := Lib.hid (And.intro m1 m5)
      clear m1 m5
      go_enter Try.func4, Try.ntmps4
      go_wp2_with fail
      go_quiet (fail)
      go_wp2_with fail
      go_quiet (fail)
      go_wp2_with fail
      go_region_held3 (fun W => W.cell? ⟨w.heap.size, 0, none⟩ = some (.int .i64 k0) ∧ W.cell? ⟨w.heap.size, 1, none⟩ = some (.int .i64 k1) ∧ W.cell? ⟨w.heap.size, 2, none⟩ = some (.int .i64 k2) ∧ W.cell? ⟨w.heap.size, 3, none⟩ = some (.int .i64 k3) ∧ W.cell? ⟨w.heap.size, 4, none⟩ = some (.int .i64 k4) ∧ W.cell? ⟨w.heap.size, 5, none⟩ = some (.int .i64 k5) ∧ W.cell? ⟨w.heap.size, 6, none⟩ = some (.int .i64 k6)) (first | (go_keep; done) | exact at_.out _ (by assumption)) (first
        | (go_at_call 11; refine (windows_any _ _ _ _ _ _ _ _ _ _ _ _).mono ?_; rintro e w1 ⟨rfl, b1⟩; (first | have bb := below_step hBa.out (by assumption) b1 | have bb := below_step hBa.out (bb0.out _) b1 | have bb := below_step hBa.out (bb1.out _) b1); clear b1))
      have hs := at_.out _ bb
      have M := HM.out
      generalize windowsF k5 k6 a l c n = x at *
      generalize windowsF k5 k6 b l e n = y at *
      obtain ⟨g1, rfl⟩ := M
      go_wp2_with fail
      refine (worst_any _ _ _ _ _ _ _ _ _ _).mono ?_; rintro e w3 ⟨rfl, b3⟩
      go_wp2_with fail
      refine (awake19 _).mono ?_; rintro e w4 ⟨rfl, b4⟩
      go_wp2_with fail
      go_ret
      have q := (((((Below.refl w.heap.size w).alloc (Nat.le_refl _) _).alloc (by simp) _).alloc (by simp; omega) _).trans (bb.mono (by omega)))
      have q3 := q.trans (b3.mono q.size)
      exact ⟨rfl, q3.trans (b4.mono q3.size)⟩
  · have m5 := m4 (Or.inl h3)
    clear m3 m4
    rcases hcs with ⟨h1, h2⟩ | h1 | ⟨h1, h2⟩
    · have m6 := m2 h1 h2
      clear m2
      have HM := Lib.hid (And.intro m1 (And.intro m5 m6))
      clear m1 m5 m6
      go_enter Try.func4, Try.ntmps4
      go_wp2_with fail
      go_quiet (fail)
      go_wp2_with fail
      go_quiet (fail)
      go_wp2_with fail
      go_region_held3 (fun W => W.cell? ⟨w.heap.size, 0, none⟩ = some (.int .i64 k0) ∧ W.cell? ⟨w.heap.size, 1, none⟩ = some (.int .i64 k1) ∧ W.cell? ⟨w.heap.size, 2, none⟩ = some (.int .i64 k2) ∧ W.cell? ⟨w.heap.size, 3, none⟩ = some (.int .i64 k3) ∧ W.cell? ⟨w.heap.size, 4, none⟩ = some (.int .i64 k4) ∧ W.cell? ⟨w.heap.size, 5, none⟩ = some (.int .i64 k5) ∧ W.cell? ⟨w.heap.size, 6, none⟩ = some (.int .i64 k6)) (first | (go_keep; done) | exact at_.out _ (by assumption)) (first
        | (go_at_call 11; refine (windows_any _ _ _ _ _ _ _ _ _ _ _ _).mono ?_; rintro e w1 ⟨rfl, b1⟩; (first | have bb := below_step hBa.out (by assumption) b1 | have bb := below_step hBa.out (bb0.out _) b1 | have bb := below_step hBa.out (bb1.out _) b1); clear b1))
      have hs := at_.out _ bb
      have M := HM.out
      generalize windowsF k5 k6 a l c n = x at *
      generalize windowsF k5 k6 b l e n = y at *
      obtain ⟨g1, g2, g3⟩ := M
      go_wp2_with fail
      refine (worst_any _ _ _ _ _ _ _ _ _ _).mono ?_; rintro e w3 ⟨rfl, b3⟩
      go_wp2_with fail
      refine (awake19 _).mono ?_; rintro e w4 ⟨rfl, b4⟩
      go_wp2_with fail
      go_ret
      have q := (((((Below.refl w.heap.size w).alloc (Nat.le_refl _) _).alloc (by simp) _).alloc (by simp; omega) _).trans (bb.mono (by omega)))
      have q3 := q.trans (b3.mono q.size)
      exact ⟨rfl, q3.trans (b4.mono q3.size)⟩
    · clear m2
      have HM := Lib.hid (And.intro m1 m5)
      clear m1 m5
      go_enter Try.func4, Try.ntmps4
      go_wp2_with fail
      go_quiet (fail)
      go_wp2_with fail
      go_quiet (fail)
      go_wp2_with fail
      go_region_held3 (fun W => W.cell? ⟨w.heap.size, 0, none⟩ = some (.int .i64 k0) ∧ W.cell? ⟨w.heap.size, 1, none⟩ = some (.int .i64 k1) ∧ W.cell? ⟨w.heap.size, 2, none⟩ = some (.int .i64 k2) ∧ W.cell? ⟨w.heap.size, 3, none⟩ = some (.int .i64 k3) ∧ W.cell? ⟨w.heap.size, 4, none⟩ = some (.int .i64 k4) ∧ W.cell? ⟨w.heap.size, 5, none⟩ = some (.int .i64 k5) ∧ W.cell? ⟨w.heap.size, 6, none⟩ = some (.int .i64 k6)) (first | (go_keep; done) | exact at_.out _ (by assumption)) (first
        | (go_at_call 11; refine (windows_any _ _ _ _ _ _ _ _ _ _ _ _).mono ?_; rintro e w1 ⟨rfl, b1⟩; (first | have bb := below_step hBa.out (by assumption) b1 | have bb := below_step hBa.out (bb0.out _) b1 | have bb := below_step hBa.out (bb1.out _) b1); clear b1))
      have hs := at_.out _ bb
      have M := HM.out
      generalize windowsF k5 k6 a l c n = x at *
      generalize windowsF k5 k6 b l e n = y at *
      obtain ⟨g1, g2⟩ := M
      go_wp2_with fail
      refine (worst_any _ _ _ _ _ _ _ _ _ _).mono ?_; rintro e w3 ⟨rfl, b3⟩
      go_wp2_with fail
      refine (awake19 _).mono ?_; rintro e w4 ⟨rfl, b4⟩
      go_wp2_with fail
      go_ret
      have q := (((((Below.refl w.heap.size w).alloc (Nat.le_refl _) _).alloc (by simp) _).alloc (by simp; omega) _).trans (bb.mono (by omega)))
      have q3 := q.trans (b3.mono q.size)
      exact ⟨rfl, q3.trans (b4.mono q3.size)⟩
    · clear m2
      have HM := Lib.hid (And.intro m1 m5)
      clear m1 m5
      go_enter Try.func4, Try.ntmps4
      go_wp2_with fail
      go_quiet (fail)
      go_wp2_with fail
      go_quiet (fail)
      go_wp2_with fail
      go_region_held3 (fun W => W.cell? ⟨w.heap.size, 0, none⟩ = some (.int .i64 k0) ∧ W.cell? ⟨w.heap.size, 1, none⟩ = some (.int .i64 k1) ∧ W.cell? ⟨w.heap.size, 2, none⟩ = some (.int .i64 k2) ∧ W.cell? ⟨w.heap.size, 3, none⟩ = some (.int .i64 k3) ∧ W.cell? ⟨w.heap.size, 4, none⟩ = some (.int .i64 k4) ∧ W.cell? ⟨w.heap.size, 5, none⟩ = some (.int .i64 k5) ∧ W.cell? ⟨w.heap.size, 6, none⟩ = some (.int .i64 k6)) (first | (go_keep; done) | exact at_.out _ (by assumption)) (first
        | (go_at_call 11; refine (windows_any _ _ _ _ _ _ _ _ _ _ _ _).mono ?_; rintro e w1 ⟨rfl, b1⟩; (first | have bb := below_step hBa.out (by assumption) b1 | have bb := below_step hBa.out (bb0.out _) b1 | have bb := below_step hBa.out (bb1.out _) b1); clear b1))
      have hs := at_.out _ bb
      have M := HM.out
      generalize windowsF k5 k6 a l c n = x at *
      generalize windowsF k5 k6 b l e n = y at *
      obtain ⟨g1, g2⟩ := M
      go_wp2_with fail
      refine (worst_any _ _ _ _ _ _ _ _ _ _).mono ?_; rintro e w3 ⟨rfl, b3⟩
      go_wp2_with fail
      refine (awake19 _).mono ?_; rintro e w4 ⟨rfl, b4⟩
      go_wp2_with fail
      go_ret
      have q := (((((Below.refl w.heap.size w).alloc (Nat.le_refl _) _).alloc (by simp) _).alloc (by simp; omega) _).trans (bb.mono (by omega)))
      have q3 := q.trans (b3.mono q.size)
      exact ⟨rfl, q3.trans (b4.mono q3.size)⟩
  · have m5 := m4 (Or.inr h4)
    clear m3 m4
    rcases hcs with ⟨h1, h2⟩ | h1 | ⟨h1, h2⟩
    · have m6 := m2 h1 h2
      clear m2
      have HM := Lib.hid (And.intro m1 (And.intro m5 m6))
      clear m1 m5 m6
      go_enter Try.func4, Try.ntmps4
      go_wp2_with fail
      go_quiet (fail)
      go_wp2_with fail
      go_quiet (fail)
      go_wp2_with fail
      go_region_held3 (fun W => W.cell? ⟨w.heap.size, 0, none⟩ = some (.int .i64 k0) ∧ W.cell? ⟨w.heap.size, 1, none⟩ = some (.int .i64 k1) ∧ W.cell? ⟨w.heap.size, 2, none⟩ = some (.int .i64 k2) ∧ W.cell? ⟨w.heap.size, 3, none⟩ = some (.int .i64 k3) ∧ W.cell? ⟨w.heap.size, 4, none⟩ = some (.int .i64 k4) ∧ W.cell? ⟨w.heap.size, 5, none⟩ = some (.int .i64 k5) ∧ W.cell? ⟨w.heap.size, 6, none⟩ = some (.int .i64 k6)) (first | (go_keep; done) | exact at_.out _ (by assumption)) (first
        | (go_at_call 11; refine (windows_any _ _ _ _ _ _ _ _ _ _ _ _).mono ?_; rintro e w1 ⟨rfl, b1⟩; (first | have bb := below_step hBa.out (by assumption) b1 | have bb := below_step hBa.out (bb0.out _) b1 | have bb := below_step hBa.out (bb1.out _) b1); clear b1))
      have hs := at_.out _ bb
      have M := HM.out
      generalize windowsF k5 k6 a l c n = x at *
      generalize windowsF k5 k6 b l e n = y at *
      obtain ⟨g1, g2, g3⟩ := M
      go_wp2_with fail
      refine (worst_any _ _ _ _ _ _ _ _ _ _).mono ?_; rintro e w3 ⟨rfl, b3⟩
      go_wp2_with fail
      refine (awake19 _).mono ?_; rintro e w4 ⟨rfl, b4⟩
      go_wp2_with fail
      go_ret
      have q := (((((Below.refl w.heap.size w).alloc (Nat.le_refl _) _).alloc (by simp) _).alloc (by simp; omega) _).trans (bb.mono (by omega)))
      have q3 := q.trans (b3.mono q.size)
      exact ⟨rfl, q3.trans (b4.mono q3.size)⟩
    · clear m2
      have HM := Lib.hid (And.intro m1 m5)
      clear m1 m5
      go_enter Try.func4, Try.ntmps4
      go_wp2_with fail
      go_quiet (fail)
      go_wp2_with fail
      go_quiet (fail)
      go_wp2_with fail
      go_region_held3 (fun W => W.cell? ⟨w.heap.size, 0, none⟩ = some (.int .i64 k0) ∧ W.cell? ⟨w.heap.size, 1, none⟩ = some (.int .i64 k1) ∧ W.cell? ⟨w.heap.size, 2, none⟩ = some (.int .i64 k2) ∧ W.cell? ⟨w.heap.size, 3, none⟩ = some (.int .i64 k3) ∧ W.cell? ⟨w.heap.size, 4, none⟩ = some (.int .i64 k4) ∧ W.cell? ⟨w.heap.size, 5, none⟩ = some (.int .i64 k5) ∧ W.cell? ⟨w.heap.size, 6, none⟩ = some (.int .i64 k6)) (first | (go_keep; done) | exact at_.out _ (by assumption)) (first
        | (go_at_call 11; refine (windows_any _ _ _ _ _ _ _ _ _ _ _ _).mono ?_; rintro e w1 ⟨rfl, b1⟩; (first | have bb := below_step hBa.out (by assumption) b1 | have bb := below_step hBa.out (bb0.out _) b1 | have bb := below_step hBa.out (bb1.out _) b1); clear b1))
      have hs := at_.out _ bb
      have M := HM.out
      generalize windowsF k5 k6 a l c n = x at *
      generalize windowsF k5 k6 b l e n = y at *
      obtain ⟨g1, g2⟩ := M
      go_wp2_with fail
      refine (worst_any _ _ _ _ _ _ _ _ _ _).mono ?_; rintro e w3 ⟨rfl, b3⟩
      go_wp2_with fail
      refine (awake19 _).mono ?_; rintro e w4 ⟨rfl, b4⟩
      go_wp2_with fail
      go_ret
      have q := (((((Below.refl w.heap.size w).alloc (Nat.le_refl _) _).alloc (by simp) _).alloc (by simp; omega) _).trans (bb.mono (by omega)))
      have q3 := q.trans (b3.mono q.size)
      exact ⟨rfl, q3.trans (b4.mono q3.size)⟩
    · clear m2
      have HM := Lib.hid (And.intro m1 m5)
      clear m1 m5
      go_enter Try.func4, Try.ntmps4
      go_wp2_with fail
      go_quiet (fail)
      go_wp2_with fail
      go_quiet (fail)
      go_wp2_with fail
      go_region_held3 (fun W => W.cell? ⟨w.heap.size, 0, none⟩ = some (.int .i64 k0) ∧ W.cell? ⟨w.heap.size, 1, none⟩ = some (.int .i64 k1) ∧ W.cell? ⟨w.heap.size, 2, none⟩ = some (.int .i64 k2) ∧ W.cell? ⟨w.heap.size, 3, none⟩ = some (.int .i64 k3) ∧ W.cell? ⟨w.heap.size, 4, none⟩ = some (.int .i64 k4) ∧ W.cell? ⟨w.heap.size, 5, none⟩ = some (.int .i64 k5) ∧ W.cell? ⟨w.heap.size, 6, none⟩ = some (.int .i64 k6)) (first | (go_keep; done) | exact at_.out _ (by assumption)) (first
        | (go_at_call 11; refine (windows_any _ _ _ _ _ _ _ _ _ _ _ _).mono ?_; rintro e w1 ⟨rfl, b1⟩; (first | have bb := below_step hBa.out (by assumption) b1 | have bb := below_step hBa.out (bb0.out _) b1 | have bb := below_step hBa.out (bb1.out _) b1); clear b1))
      have hs := at_.out _ bb
      have M := HM.out
      generalize windowsF k5 k6 a l c n = x at *
      generalize windowsF k5 k6 b l e n = y at *
      obtain ⟨g1, g2⟩ := M
      go_wp2_with fail
      refine (worst_any _ _ _ _ _ _ _ _ _ _).mono ?_; rintro e w3 ⟨rfl, b3⟩
      go_wp2_with fail
      refine (awake19 _).mono ?_; rintro e w4 ⟨rfl, b4⟩
      go_wp2_with fail
      go_ret
      have q := (((((Below.refl w.heap.size w).alloc (Nat.le_refl _) _).alloc (by simp) _).alloc (by simp; omega) _).trans (bb.mono (by omega)))
      have q3 := q.trans (b3.mono q.size)
      exact ⟨rfl, q3.trans (b4.mono q3.size)⟩
end Go.Proofs.Ytombgaiebjffcaa
