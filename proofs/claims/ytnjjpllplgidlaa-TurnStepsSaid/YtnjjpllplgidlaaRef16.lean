/-
  The contracts of the plain answers of layer 16.
-/
import Derived.Test.YtnjjpllplgidlaaTurn
import Derived.Test.YtnjjpllplgidlaaRef01
import Derived.Deep.RegionHeld3
namespace Go.Proofs.Ytnjjpllplgidlaa
open Go.RowKit Bd Tu
set_option maxHeartbeats 4000000 in
theorem rstep16_w {way held v d x : Int} (hx : want v = x) (hx0 : x ≠ 0) (hv : (v = 1 ∧ x = -1) ∨ (v = 2 ∧ x = 1)) (hi : Inv way held) (w : World) :
    Calls Try.prog 8 #[.agg #[.int .i64 way, .int .i64 held], .int .i64 v, .int .i64 d] w fun e w' => e = .returned (.tuple #[.agg #[.int .i64 (tW way held v d), .int .i64 (tH way held v d)], .int .i64 (tN way held v d)]) ∧ Below w.heap.size w w' := by
  obtain ⟨i1, i2, i3, i4, i5⟩ := hi
  cases ht : turns way held v d with
  | true =>
    have E1 := Lib.hid (show tW way held v d = x by rw [tW, if_pos ht, hx])
    have E2 := Lib.hid (show tH way held v d = 1 by rw [tH, if_pos ht])
    have E3 := Lib.hid (show tN way held v d = x by rw [tN, if_pos ht, hx])
    have hto := turns_of ht
    rw [hx] at hto
    by_cases hw : way = 0
    · subst hw
      obtain rfl : held = 0 := i1 rfl
      clear ht hx hto i1 i2 i5
      rcases hv with ⟨rfl, rfl⟩ | ⟨rfl, rfl⟩
      · go_enter Try.func8, Try.ntmps8
        go_wp2_with fail
        go_region_held3 (fun W => W.cell? ⟨w.heap.size, 0, none⟩ = some (.int .i64 0) ∧ W.cell? ⟨w.heap.size, 1, none⟩ = some (.int .i64 0)) (go_keep) ((go_at_call 12; refine (radd_any _ _ _).mono ?_; rintro e w' ⟨rfl, rfl⟩))
        all_goals
          go_wp2_with fail
          exact bodyPost_ret (v := .tuple #[.agg #[.int .i64 (-1), .int .i64 1], .int .i64 (-1)]) (by simp [results, Try.results8, go_sem]) rfl ⟨by rw [E1.out, E2.out, E3.out], by repeat' (first | exact Below.refl _ _ | refine Below.drew ?_ | refine Below.alloc ?_ (by simp <;> omega) _ | refine Below.setCell ?_ (by simp) _)⟩
      · go_enter Try.func8, Try.ntmps8
        go_wp2_with fail
        go_region_held3 (fun W => W.cell? ⟨w.heap.size, 0, none⟩ = some (.int .i64 0) ∧ W.cell? ⟨w.heap.size, 1, none⟩ = some (.int .i64 0)) (go_keep) ((go_at_call 12; refine (radd_any _ _ _).mono ?_; rintro e w' ⟨rfl, rfl⟩))
        all_goals
          go_wp2_with fail
          exact bodyPost_ret (v := .tuple #[.agg #[.int .i64 1, .int .i64 1], .int .i64 1]) (by simp [results, Try.results8, go_sem]) rfl ⟨by rw [E1.out, E2.out, E3.out], by repeat' (first | exact Below.refl _ _ | refine Below.drew ?_ | refine Below.alloc ?_ (by simp <;> omega) _ | refine Below.setCell ?_ (by simp) _)⟩
    · have hne : (x == way) = false := by simpa using hto.2.1
      have h1 : d ≤ held ∧ 1 ≤ held := by omega
      have hw2 : (way == 0) = false := by simpa using hw
      obtain ⟨j1, j2⟩ := h1
      clear ht hx hto i1 i2 i5 hw
      rcases hv with ⟨rfl, rfl⟩ | ⟨rfl, rfl⟩
      · go_enter Try.func8, Try.ntmps8
        go_wp2_with fail
        go_region_held3 (fun W => W.cell? ⟨w.heap.size, 0, none⟩ = some (.int .i64 way) ∧ W.cell? ⟨w.heap.size, 1, none⟩ = some (.int .i64 held)) (go_keep) ((go_at_call 12; refine (radd_any _ _ _).mono ?_; rintro e w' ⟨rfl, rfl⟩))
        all_goals
          go_wp2_with fail
          exact bodyPost_ret (v := .tuple #[.agg #[.int .i64 (-1), .int .i64 1], .int .i64 (-1)]) (by simp [results, Try.results8, go_sem]) rfl ⟨by rw [E1.out, E2.out, E3.out], by repeat' (first | exact Below.refl _ _ | refine Below.drew ?_ | refine Below.alloc ?_ (by simp <;> omega) _ | refine Below.setCell ?_ (by simp) _)⟩
      · go_enter Try.func8, Try.ntmps8
        go_wp2_with fail
        go_region_held3 (fun W => W.cell? ⟨w.heap.size, 0, none⟩ = some (.int .i64 way) ∧ W.cell? ⟨w.heap.size, 1, none⟩ = some (.int .i64 held)) (go_keep) ((go_at_call 12; refine (radd_any _ _ _).mono ?_; rintro e w' ⟨rfl, rfl⟩))
        all_goals
          go_wp2_with fail
          exact bodyPost_ret (v := .tuple #[.agg #[.int .i64 1, .int .i64 1], .int .i64 1]) (by simp [results, Try.results8, go_sem]) rfl ⟨by rw [E1.out, E2.out, E3.out], by repeat' (first | exact Below.refl _ _ | refine Below.drew ?_ | refine Below.alloc ?_ (by simp <;> omega) _ | refine Below.setCell ?_ (by simp) _)⟩
  | false =>
    have hto := turns_not ht
    rw [hx] at hto
    have E1 := Lib.hid (show tW way held v d = way by rw [tW, ht]; rfl)
    have E2 := Lib.hid (show tH way held v d = addC held 1 by rw [tH, ht, if_neg (by decide), if_neg (by rw [hx]; omega)])
    by_cases hxw : x = way
    · subst hxw
      have E3 := Lib.hid (show tN x held v d = x by rw [tN, ht, if_neg (by decide), if_pos hx, hx])
      clear ht hx hto i1 i2 i5
      rcases hv with ⟨rfl, rfl⟩ | ⟨rfl, rfl⟩
      · go_enter Try.func8, Try.ntmps8
        go_wp2_with fail
        go_region_held3 (fun W => W.cell? ⟨w.heap.size, 0, none⟩ = some (.int .i64 (-1)) ∧ W.cell? ⟨w.heap.size, 1, none⟩ = some (.int .i64 held)) (go_keep) ((go_at_call 12; refine (radd_any _ _ _).mono ?_; rintro e w' ⟨rfl, rfl⟩))
        all_goals
          go_wp2_with fail
          exact bodyPost_ret (v := .tuple #[.agg #[.int .i64 (-1), .int .i64 (addC held 1)], .int .i64 (-1)]) (by simp [results, Try.results8, go_sem]) rfl ⟨by rw [E1.out, E2.out, E3.out], by repeat' (first | exact Below.refl _ _ | refine Below.drew ?_ | refine Below.alloc ?_ (by simp <;> omega) _ | refine Below.setCell ?_ (by simp) _)⟩
      · go_enter Try.func8, Try.ntmps8
        go_wp2_with fail
        go_region_held3 (fun W => W.cell? ⟨w.heap.size, 0, none⟩ = some (.int .i64 1) ∧ W.cell? ⟨w.heap.size, 1, none⟩ = some (.int .i64 held)) (go_keep) ((go_at_call 12; refine (radd_any _ _ _).mono ?_; rintro e w' ⟨rfl, rfl⟩))
        all_goals
          go_wp2_with fail
          exact bodyPost_ret (v := .tuple #[.agg #[.int .i64 1, .int .i64 (addC held 1)], .int .i64 1]) (by simp [results, Try.results8, go_sem]) rfl ⟨by rw [E1.out, E2.out, E3.out], by repeat' (first | exact Below.refl _ _ | refine Below.drew ?_ | refine Below.alloc ?_ (by simp <;> omega) _ | refine Below.setCell ?_ (by simp) _)⟩
    · have E3 := Lib.hid (show tN way held v d = 0 by rw [tN, ht, if_neg (by decide), if_neg (by rw [hx]; exact hxw)])
      have hw : way ≠ 0 := by omega
      have h1 := i2 hw
      have hd2 : held < d := by omega
      have hw2 : (way == 0) = false := by simpa using hw
      have hne : (x == way) = false := by simpa using hxw
      clear ht hx hto i1 i2 i5 hw hxw
      rcases hv with ⟨rfl, rfl⟩ | ⟨rfl, rfl⟩
      · go_enter Try.func8, Try.ntmps8
        go_wp2_with fail
        go_region_held3 (fun W => W.cell? ⟨w.heap.size, 0, none⟩ = some (.int .i64 way) ∧ W.cell? ⟨w.heap.size, 1, none⟩ = some (.int .i64 held)) (go_keep) ((go_at_call 12; refine (radd_any _ _ _).mono ?_; rintro e w' ⟨rfl, rfl⟩))
        all_goals
          go_wp2_with fail
          exact bodyPost_ret (v := .tuple #[.agg #[.int .i64 way, .int .i64 (addC held 1)], .int .i64 0]) (by simp [results, Try.results8, go_sem]) rfl ⟨by rw [E1.out, E2.out, E3.out], by repeat' (first | exact Below.refl _ _ | refine Below.drew ?_ | refine Below.alloc ?_ (by simp <;> omega) _ | refine Below.setCell ?_ (by simp) _)⟩
      · go_enter Try.func8, Try.ntmps8
        go_wp2_with fail
        go_region_held3 (fun W => W.cell? ⟨w.heap.size, 0, none⟩ = some (.int .i64 way) ∧ W.cell? ⟨w.heap.size, 1, none⟩ = some (.int .i64 held)) (go_keep) ((go_at_call 12; refine (radd_any _ _ _).mono ?_; rintro e w' ⟨rfl, rfl⟩))
        all_goals
          go_wp2_with fail
          exact bodyPost_ret (v := .tuple #[.agg #[.int .i64 way, .int .i64 (addC held 1)], .int .i64 0]) (by simp [results, Try.results8, go_sem]) rfl ⟨by rw [E1.out, E2.out, E3.out], by repeat' (first | exact Below.refl _ _ | refine Below.drew ?_ | refine Below.alloc ?_ (by simp <;> omega) _ | refine Below.setCell ?_ (by simp) _)⟩
set_option maxHeartbeats 1000000 in
theorem rstep16_any (way held v d : Int) (hi : Inv way held) (w : World) :
    Calls Try.prog 8 #[.agg #[.int .i64 way, .int .i64 held], .int .i64 v, .int .i64 d] w fun e w' => e = .returned (.tuple #[.agg #[.int .i64 (tW way held v d), .int .i64 (tH way held v d)], .int .i64 (tN way held v d)]) ∧ Below w.heap.size w w' := by
  by_cases h1 : v = 1
  · exact rstep16_w (x := -1) (by rw [h1]; rfl) (by decide) (Or.inl ⟨h1, rfl⟩) hi w
  · by_cases h2 : v = 2
    · exact rstep16_w (x := 1) (by rw [h2]; rfl) (by decide) (Or.inr ⟨h2, rfl⟩) hi w
    · have hv1 : (v == 1) = false := by simpa using h1
      have hv2 : (v == 2) = false := by simpa using h2
      have hw0 : want v = 0 := by unfold want; rw [if_neg h1, if_neg h2]
      have ht : turns way held v d = false := by simp [turns, hw0]
      have E1 := Lib.hid (show tW way held v d = way by rw [tW, ht]; rfl)
      have E3 := Lib.hid (show tN way held v d = 0 by rw [tN, ht, if_neg (by decide), hw0]; simp)
      by_cases hw : way = 0
      · subst hw
        obtain rfl : held = 0 := hi.1 rfl
        have E2 := Lib.hid (show tH 0 0 v d = 0 by rw [tH, ht, if_neg (by decide), if_pos ⟨hw0, rfl⟩])
        clear hi h1 h2 ht hw0
        go_enter Try.func8, Try.ntmps8
        go_wp2_with fail
        go_region_held3 (fun W => W.cell? ⟨w.heap.size, 0, none⟩ = some (.int .i64 0) ∧ W.cell? ⟨w.heap.size, 1, none⟩ = some (.int .i64 0)) (go_keep) ((go_at_call 12; refine (radd_any _ _ _).mono ?_; rintro e w' ⟨rfl, rfl⟩))
        all_goals
          go_wp2_with fail
          exact bodyPost_ret (v := .tuple #[.agg #[.int .i64 0, .int .i64 0], .int .i64 0]) (by simp [results, Try.results8, go_sem]) rfl ⟨by rw [E1.out, E2.out, E3.out], by repeat' (first | exact Below.refl _ _ | refine Below.drew ?_ | refine Below.alloc ?_ (by simp <;> omega) _ | refine Below.setCell ?_ (by simp) _)⟩
      · have E2 := Lib.hid (show tH way held v d = addC held 1 by rw [tH, ht, if_neg (by decide), if_neg (by omega)])
        have hw2 : (way == 0) = false := by simpa using hw
        clear hi h1 h2 ht hw0 hw
        go_enter Try.func8, Try.ntmps8
        go_wp2_with fail
        go_region_held3 (fun W => W.cell? ⟨w.heap.size, 0, none⟩ = some (.int .i64 way) ∧ W.cell? ⟨w.heap.size, 1, none⟩ = some (.int .i64 held)) (go_keep) ((go_at_call 12; refine (radd_any _ _ _).mono ?_; rintro e w' ⟨rfl, rfl⟩))
        all_goals
          go_wp2_with fail
          exact bodyPost_ret (v := .tuple #[.agg #[.int .i64 way, .int .i64 (addC held 1)], .int .i64 0]) (by simp [results, Try.results8, go_sem]) rfl ⟨by rw [E1.out, E2.out, E3.out], by repeat' (first | exact Below.refl _ _ | refine Below.drew ?_ | refine Below.alloc ?_ (by simp <;> omega) _ | refine Below.setCell ?_ (by simp) _)⟩
end Go.Proofs.Ytnjjpllplgidlaa
