/-
  The contracts of the functions of layer 16.
-/
import Derived.Test.YtnjjpllplgidlaaBound
import Derived.Test.YtnjjpllplgidlaaTurnPlain
namespace Go.Proofs.Ytnjjpllplgidlaa
open Go.RowKit Bd Tu
def Tst (w : World) (g : Nat) (way held : Int) : Prop := Bk w g 27 #[.int .i64 way, .int .i64 held]
theorem Tst.c0 {w : World} {g : Nat} {way held : Int} (h : Tst w g way held) : w.cell? ⟨g, 0, none⟩ = some (.int .i64 way) := h.cell 0
theorem Tst.c1 {w : World} {g : Nat} {way held : Int} (h : Tst w g way held) : w.cell? ⟨g, 1, none⟩ = some (.int .i64 held) := h.cell 1
theorem Tst.other {w w' : World} {g g' : Nat} {way held : Int} (h : Tst w g way held) (hg : w.grownBy w' (some g')) (hne : g ≠ g') : Tst w' g way held := Bk.grown h hg (by simpa using hne)
theorem tnew_any (w : World) :
    Calls Try.prog 6 #[] w fun e w' => e = .returned (.pointer (some ⟨w.heap.size, 0, none⟩)) ∧ Tst w' w.heap.size 0 0 ∧ Below w.heap.size w w' := by
  go_enter Try.func6, Try.ntmps6
  go_wp2
  go_ret
  exact ⟨rfl, Bk.new _ _ _, (Below.refl _ _).alloc (Nat.le_refl _) _⟩
theorem thold_any {g : Nat} {way held : Int} (w : World) (h : Tst w g way held) :
    Calls Try.prog 14 #[.pointer (some ⟨g, 0, none⟩)] w fun e w' => e = .returned (.tuple #[]) ∧ Tst w' g way (addC held 1) ∧ w.grownBy w' (some g) := by
  have H := Lib.hid h
  have c0 := h.c0
  have c1 := h.c1
  have f1 := Bk.frozen h 1
  clear h
  go_enter Try.func14, Try.ntmps14
  go_wp2_with fail
  refine (add_any _ _ _).mono ?_; rintro e w1 ⟨rfl, b1⟩
  have H1 := Lib.hid (Bk.below H.out b1)
  have f1 := Bk.frozen H1.out 1
  have c1 := Bk.cell H1.out 1
  go_wp2_with fail
  go_end0
  exact ⟨rfl, H1.out.set_ 1 _, only_trans (only_below b1 _) (only_set _ _ _ _)⟩
theorem turns_of {way held v d : Int} (h : turns way held v d = true) : want v ≠ 0 ∧ want v ≠ way ∧ (way = 0 ∨ (d ≤ held ∧ 1 ≤ held)) := by
  simp only [turns, Bool.and_eq_true, Bool.or_eq_true, decide_eq_true_eq] at h
  exact ⟨h.1.1, h.1.2, h.2⟩
theorem turns_not {way held v d : Int} (h : turns way held v d = false) : want v = 0 ∨ want v = way ∨ (way ≠ 0 ∧ ¬ (d ≤ held ∧ 1 ≤ held)) := by
  have h' : ¬ turns way held v d = true := by rw [h]; decide
  simp only [turns, Bool.and_eq_true, Bool.or_eq_true, decide_eq_true_eq] at h'
  omega
/-- A way is wanted, 1 or -1. -/
theorem twant_any {g : Nat} {way held : Int} (v x d : Int) (hx : want v = x) (hx0 : x ≠ 0) (w : World) (h : Tst w g way held) (hi : Inv way held) :
    Calls Try.prog 13 #[.pointer (some ⟨g, 0, none⟩), .int .i64 x, .int .i64 d] w fun e w' => e = .returned (.int .i64 (tN way held v d)) ∧ Tst w' g (tW way held v d) (tH way held v d) ∧ w.grownBy w' (some g) := by
  have H := Lib.hid h
  have c0 := h.c0
  have c1 := h.c1
  have f0 := Bk.frozen h 0
  have f1 := Bk.frozen h 1
  clear h
  obtain ⟨i1, i2, i3, i4, i5⟩ := hi
  cases ht : turns way held v d with
  | true =>
    have E1 := Lib.hid (show tW way held v d = x by rw [tW, if_pos ht, hx])
    have E2 := Lib.hid (show tH way held v d = 1 by rw [tH, if_pos ht])
    have E3 := Lib.hid (show tN way held v d = x by rw [tN, if_pos ht, hx])
    have hto := turns_of ht
    rw [hx] at hto
    have hne : (x == way) = false := by simpa using hto.2.1
    clear ht hx
    by_cases hw : way = 0
    · subst hw
      obtain rfl : held = 0 := i1 rfl
      clear hto i1 i2 i5
      go_enter Try.func13, Try.ntmps13
      go_wp2_with fail
      go_ret
      exact ⟨ret_int E3.out.symm, by rw [E1.out, E2.out]; exact (H.out.set_ 0 _).set_ 1 _, only_trans (only_set _ _ _ _) (only_set _ _ _ _)⟩
    · have h1 : d ≤ held ∧ 1 ≤ held := by omega
      have hw2 : (way == 0) = false := by simpa using hw
      obtain ⟨j1, j2⟩ := h1
      clear hto i1 i2 i5 hw
      go_enter Try.func13, Try.ntmps13
      go_wp2_with fail
      all_goals
        go_ret
        exact ⟨ret_int E3.out.symm, by rw [E1.out, E2.out]; exact (H.out.set_ 0 _).set_ 1 _, only_trans (only_set _ _ _ _) (only_set _ _ _ _)⟩
  | false =>
    have hto := turns_not ht
    rw [hx] at hto
    have E1 := Lib.hid (show tW way held v d = way by rw [tW, ht]; rfl)
    have E2 := Lib.hid (show tH way held v d = addC held 1 by rw [tH, ht, if_neg (by decide), if_neg (by rw [hx]; omega)])
    by_cases hxw : x = way
    · subst hxw
      have E3 := Lib.hid (show tN x held v d = x by rw [tN, ht, if_neg (by decide), if_pos hx, hx])
      clear ht hx hto i1 i2 i5
      go_enter Try.func13, Try.ntmps13
      go_wp2_with fail
      refine (thold_any _ H.out).mono ?_; rintro e w1 ⟨rfl, t1, o1⟩
      have T1 := Lib.hid t1
      have O1 := Lib.hid o1
      clear t1 o1
      go_wp2_with fail
      go_ret
      exact ⟨ret_int E3.out.symm, by rw [E1.out, E2.out]; exact T1.out, O1.out⟩
    · have E3 := Lib.hid (show tN way held v d = 0 by rw [tN, ht, if_neg (by decide), if_neg (by rw [hx]; exact hxw)])
      have hw : way ≠ 0 := by omega
      have hd : ¬ (d ≤ held ∧ 1 ≤ held) := by omega
      have h1 := i2 hw
      have hd2 : held < d := by omega
      have hw2 : (way == 0) = false := by simpa using hw
      have hne : (x == way) = false := by simpa using hxw
      clear ht hx hto i1 i2 i5 hw hd hxw
      go_enter Try.func13, Try.ntmps13
      go_wp2_with fail
      refine (thold_any _ H.out).mono ?_; rintro e w1 ⟨rfl, t1, o1⟩
      have T1 := Lib.hid t1
      have O1 := Lib.hid o1
      clear t1 o1
      go_wp2_with fail
      go_ret
      exact ⟨ret_int E3.out.symm, by rw [E1.out, E2.out]; exact T1.out, O1.out⟩
theorem tstep_any {g : Nat} {way held : Int} (v d : Int) (w : World) (h : Tst w g way held) (hi : Inv way held) :
    Calls Try.prog 9 #[.pointer (some ⟨g, 0, none⟩), .int .i64 v, .int .i64 d] w fun e w' => e = .returned (.int .i64 (tN way held v d)) ∧ Tst w' g (tW way held v d) (tH way held v d) ∧ w.grownBy w' (some g) := by
  by_cases h1 : v = 1
  · subst h1
    have H := Lib.hid (twant_any 1 (-1) d rfl (by decide) w h hi)
    clear h hi
    go_enter Try.func9, Try.ntmps9
    go_wp2_with fail
    refine H.out.mono ?_; rintro e w1 ⟨rfl, t1, o1⟩
    have T1 := Lib.hid t1
    have O1 := Lib.hid o1
    clear t1 o1
    go_wp2_with fail
    go_ret
    exact ⟨rfl, T1.out, O1.out⟩
  · have hv1 : (v == 1) = false := by simpa using h1
    by_cases h2 : v = 2
    · subst h2
      have H := Lib.hid (twant_any 2 1 d rfl (by decide) w h hi)
      clear h hi h1 hv1
      go_enter Try.func9, Try.ntmps9
      go_wp2_with fail
      refine H.out.mono ?_; rintro e w1 ⟨rfl, t1, o1⟩
      have T1 := Lib.hid t1
      have O1 := Lib.hid o1
      clear t1 o1
      go_wp2_with fail
      go_ret
      exact ⟨rfl, T1.out, O1.out⟩
    · have hv2 : (v == 2) = false := by simpa using h2
      have hw0 : want v = 0 := by unfold want; rw [if_neg h1, if_neg h2]
      have ht : turns way held v d = false := by simp [turns, hw0]
      have H := Lib.hid h
      have c0 := h.c0
      have c1 := h.c1
      have E1 := Lib.hid (show tW way held v d = way by rw [tW, ht]; rfl)
      have E3 := Lib.hid (show tN way held v d = 0 by rw [tN, ht, if_neg (by decide), hw0]; simp)
      by_cases hw : way = 0
      · subst hw
        obtain rfl : held = 0 := hi.1 rfl
        have E2 := Lib.hid (show tH 0 0 v d = 0 by rw [tH, ht, if_neg (by decide), if_pos ⟨hw0, rfl⟩])
        clear h hi h1 h2 ht hw0
        go_enter Try.func9, Try.ntmps9
        go_wp2_with fail
        go_ret
        exact ⟨ret_int E3.out.symm, by rw [E1.out, E2.out]; exact H.out, only_below (Below.refl _ _) _⟩
      · have E2 := Lib.hid (show tH way held v d = addC held 1 by rw [tH, ht, if_neg (by decide), if_neg (by omega)])
        have hw2 : (way == 0) = false := by simpa using hw
        clear h hi h1 h2 ht hw0 hw
        go_enter Try.func9, Try.ntmps9
        go_wp2_with fail
        refine (thold_any _ H.out).mono ?_; rintro e w1 ⟨rfl, t1, o1⟩
        have T1 := Lib.hid t1
        have O1 := Lib.hid o1
        clear t1 o1
        go_wp2_with fail
        go_ret
        exact ⟨ret_int E3.out.symm, by rw [E1.out, E2.out]; exact T1.out, O1.out⟩
theorem tstep_nil (v d : Int) (w : World) :
    Calls Try.prog 9 #[.pointer none, .int .i64 v, .int .i64 d] w fun e w' => e = .returned (.int .i64 0) ∧ w = w' := by
  go_enter Try.func9, Try.ntmps9
  go_wp2_with fail
  go_ret
  exact ⟨rfl, rfl⟩
theorem tway_any {g : Nat} {way held : Int} (w : World) (h : Tst w g way held) :
    Calls Try.prog 10 #[.pointer (some ⟨g, 0, none⟩)] w fun e w' => e = .returned (.int .i64 way) ∧ w = w' := by
  have c0 := h.c0
  clear h
  go_enter Try.func10, Try.ntmps10
  go_wp2_with fail
  go_ret
  exact ⟨rfl, rfl⟩
theorem theld_any {g : Nat} {way held : Int} (w : World) (h : Tst w g way held) :
    Calls Try.prog 11 #[.pointer (some ⟨g, 0, none⟩)] w fun e w' => e = .returned (.int .i64 held) ∧ w = w' := by
  have c1 := h.c1
  clear h
  go_enter Try.func11, Try.ntmps11
  go_wp2_with fail
  go_ret
  exact ⟨rfl, rfl⟩
theorem tway_nil (w : World) : Calls Try.prog 10 #[.pointer none] w fun e w' => e = .returned (.int .i64 0) ∧ w = w' := by
  go_enter Try.func10, Try.ntmps10
  go_wp2_with fail
  go_ret
  exact ⟨rfl, rfl⟩
theorem theld_nil (w : World) : Calls Try.prog 11 #[.pointer none] w fun e w' => e = .returned (.int .i64 0) ∧ w = w' := by
  go_enter Try.func11, Try.ntmps11
  go_wp2_with fail
  go_ret
  exact ⟨rfl, rfl⟩
theorem tclear_any {g : Nat} {way held : Int} (w : World) (h : Tst w g way held) :
    Calls Try.prog 7 #[.pointer (some ⟨g, 0, none⟩)] w fun e w' => e = .returned (.tuple #[]) ∧ Tst w' g 0 0 ∧ w.grownBy w' (some g) := by
  have H := Lib.hid h
  have c0 := h.c0
  have c1 := h.c1
  have f0 := Bk.frozen h 0
  have f1 := Bk.frozen h 1
  clear h
  go_enter Try.func7, Try.ntmps7
  go_wp2_with fail
  go_end0
  exact ⟨rfl, (H.out.set_ 0 _).set_ 1 _, only_trans (only_set _ _ _ _) (only_set _ _ _ _)⟩
theorem tclear_nil (w : World) : Calls Try.prog 7 #[.pointer none] w fun e w' => e = .returned (.tuple #[]) ∧ w = w' := by
  go_enter Try.func7, Try.ntmps7
  go_wp2_with fail
  go_end0
  exact ⟨rfl, rfl⟩
end Go.Proofs.Ytnjjpllplgidlaa
