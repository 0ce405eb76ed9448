/-
  The contracts of the plain answers of layer 17.
-/
import Derived.Test.YtbkdbnolkaecdaaDimGo
import Derived.Test.YtbkdbnolkaecdaaRef01
namespace Go.Proofs.Ytbkdbnolkaecdaa
open Go.RowKit Bd Dm
theorem rnew17_any (n : Int) (w : World) :
    Calls Try.prog 8 #[.int .i64 n] w fun e w' => e = .returned (.agg #[.int .i64 n, .int .i64 n, .int .i64 32]) ∧ Below w.heap.size w w' := by
  go_enter Try.func8, Try.ntmps8
  go_wp2_with fail
  exact bodyPost_ret (v := .agg #[.int .i64 n, .int .i64 n, .int .i64 32]) (by simp [results, Try.results8, go_sem]) rfl ⟨rfl, by repeat' (first | exact Below.refl _ _ | refine Below.drew ?_ | refine Below.alloc ?_ (by simp <;> omega) _ | refine Below.setCell ?_ (by simp) _)⟩
set_option maxHeartbeats 2000000 in
theorem rstep17_any {a t h : Int} (v : Int) (o : Bool) (k : Int) (w : World) (hi : Inv a t h) :
    Calls Try.prog 10 #[.agg #[.int .i64 a, .int .i64 t, .int .i64 h], .int .i64 v, .bool o, .int .i64 k] w fun e w' => e = .returned (.tuple #[.agg #[.int .i64 a, .int .i64 (dT a t h v k o), .int .i64 (dH a t h v k o)], .bool (dI a t h v k o)]) ∧ Below w.heap.size w w' := by
  obtain ⟨h1, h2, h3, h4, h5⟩ := hi
  have stays : dgo a t h v k o = 0 → dI a t h v k o = false ∧ dT a t h v k o = t ∧ dH a t h v k o = addC h 1 := fun e => ⟨by unfold dI; simp [e], by unfold dT; omega, by unfold dH; rw [if_pos e]⟩
  by_cases hk : addC h 1 < k
  · obtain ⟨e1, e2, e3⟩ := stays (by unfold dgo; rw [if_pos hk])
    rw [e1, e2, e3]
    clear e1 e2 e3 stays
    go_enter Try.func10, Try.ntmps10
    go_wp2_with fail
    refine (radd_any _ _ _).mono ?_; rintro e w' ⟨rfl, rfl⟩
    go_wp2_with fail
    exact bodyPost_ret (v := .tuple #[.agg #[.int .i64 a, .int .i64 t, .int .i64 (addC h 1)], .bool false]) (by simp [results, Try.results10, go_sem]) rfl ⟨rfl, by repeat' (first | exact Below.refl _ _ | refine Below.drew ?_ | refine Below.alloc ?_ (by simp <;> omega) _ | refine Below.setCell ?_ (by simp) _)⟩
  · have hk2 : k ≤ addC h 1 := by omega
    by_cases v1 : v = 1
    · subst v1
      by_cases ht : 0 < t
      · have e : dgo a t h 1 k o = -1 := by unfold dgo; rw [if_neg hk, if_pos rfl, if_pos ht]
        rw [show dI a t h 1 k o = true by unfold dI; simp [e], show dT a t h 1 k o = t - 1 by unfold dT; omega, show dH a t h 1 k o = 0 by unfold dH; rw [e]; rfl]
        clear e stays hk
        go_enter Try.func10, Try.ntmps10
        go_wp2_with fail
        refine (radd_any _ _ _).mono ?_; rintro e w' ⟨rfl, rfl⟩
        go_wp2_with fail
        exact bodyPost_ret (v := .tuple #[.agg #[.int .i64 a, .int .i64 (t - 1), .int .i64 0], .bool true]) (by simp [results, Try.results10, go_sem]) rfl ⟨rfl, by repeat' (first | exact Below.refl _ _ | refine Below.drew ?_ | refine Below.alloc ?_ (by simp <;> omega) _ | refine Below.setCell ?_ (by simp) _)⟩
      · obtain ⟨e1, e2, e3⟩ := stays (by unfold dgo; rw [if_neg hk, if_pos rfl, if_neg ht])
        rw [e1, e2, e3]
        obtain rfl : t = 0 := by omega
        clear e1 e2 e3 stays hk
        go_enter Try.func10, Try.ntmps10
        go_wp2_with fail
        refine (radd_any _ _ _).mono ?_; rintro e w' ⟨rfl, rfl⟩
        go_wp2_with fail
        exact bodyPost_ret (v := .tuple #[.agg #[.int .i64 a, .int .i64 0, .int .i64 (addC h 1)], .bool false]) (by simp [results, Try.results10, go_sem]) rfl ⟨rfl, by repeat' (first | exact Below.refl _ _ | refine Below.drew ?_ | refine Below.alloc ?_ (by simp <;> omega) _ | refine Below.setCell ?_ (by simp) _)⟩
    · have v1' : (v == 1) = false := by simpa using v1
      by_cases v2 : v = 2
      · subst v2
        cases o with
        | false =>
          obtain ⟨e1, e2, e3⟩ := stays (by unfold dgo; rw [if_neg hk, if_neg v1, if_neg (by simp)])
          rw [e1, e2, e3]
          clear e1 e2 e3 stays hk v1 v1'
          go_enter Try.func10, Try.ntmps10
          go_wp2_with fail
          refine (radd_any _ _ _).mono ?_; rintro e w' ⟨rfl, rfl⟩
          go_wp2_with fail
          exact bodyPost_ret (v := .tuple #[.agg #[.int .i64 a, .int .i64 t, .int .i64 (addC h 1)], .bool false]) (by simp [results, Try.results10, go_sem]) rfl ⟨rfl, by repeat' (first | exact Below.refl _ _ | refine Below.drew ?_ | refine Below.alloc ?_ (by simp <;> omega) _ | refine Below.setCell ?_ (by simp) _)⟩
        | true =>
          by_cases ht : t < a
          · have e : dgo a t h 2 k true = 1 := by unfold dgo; rw [if_neg hk, if_neg v1, if_pos ⟨rfl, rfl, ht⟩]
            rw [show dI a t h 2 k true = true by unfold dI; simp [e], show dT a t h 2 k true = t + 1 by unfold dT; rw [e], show dH a t h 2 k true = 0 by unfold dH; rw [e]; rfl]
            clear e stays hk v1 v1'
            go_enter Try.func10, Try.ntmps10
            go_wp2_with fail
            refine (radd_any _ _ _).mono ?_; rintro e w' ⟨rfl, rfl⟩
            go_wp2_with fail
            exact bodyPost_ret (v := .tuple #[.agg #[.int .i64 a, .int .i64 (t + 1), .int .i64 0], .bool true]) (by simp [results, Try.results10, go_sem]) rfl ⟨rfl, by repeat' (first | exact Below.refl _ _ | refine Below.drew ?_ | refine Below.alloc ?_ (by simp <;> omega) _ | refine Below.setCell ?_ (by simp) _)⟩
          · obtain ⟨e1, e2, e3⟩ := stays (by unfold dgo; rw [if_neg hk, if_neg v1, if_neg (by simp; omega)])
            rw [e1, e2, e3]
            have ht2 : a ≤ t := by omega
            clear e1 e2 e3 stays hk v1 v1' ht
            go_enter Try.func10, Try.ntmps10
            go_wp2_with fail
            refine (radd_any _ _ _).mono ?_; rintro e w' ⟨rfl, rfl⟩
            go_wp2_with fail
            exact bodyPost_ret (v := .tuple #[.agg #[.int .i64 a, .int .i64 t, .int .i64 (addC h 1)], .bool false]) (by simp [results, Try.results10, go_sem]) rfl ⟨rfl, by repeat' (first | exact Below.refl _ _ | refine Below.drew ?_ | refine Below.alloc ?_ (by simp <;> omega) _ | refine Below.setCell ?_ (by simp) _)⟩
      · obtain ⟨e1, e2, e3⟩ := stays (by unfold dgo; rw [if_neg hk, if_neg v1, if_neg (by simp [v2])])
        rw [e1, e2, e3]
        have v2' : (v == 2) = false := by simpa using v2
        clear e1 e2 e3 stays hk v1 v2
        go_enter Try.func10, Try.ntmps10
        go_wp2_with fail
        refine (radd_any _ _ _).mono ?_; rintro e w' ⟨rfl, rfl⟩
        go_wp2_with fail
        exact bodyPost_ret (v := .tuple #[.agg #[.int .i64 a, .int .i64 t, .int .i64 (addC h 1)], .bool false]) (by simp [results, Try.results10, go_sem]) rfl ⟨rfl, by repeat' (first | exact Below.refl _ _ | refine Below.drew ?_ | refine Below.alloc ?_ (by simp <;> omega) _ | refine Below.setCell ?_ (by simp) _)⟩
theorem dnums : dI 2 2 32 1 2 true = true ∧ dT 2 2 32 1 2 true = 1 ∧ dH 2 2 32 1 2 true = 0 ∧ dI 2 1 0 1 2 true = false ∧ dT 2 1 0 1 2 true = 1 ∧ dH 2 1 0 1 2 true = 1 ∧ dI 2 1 1 1 2 true = true ∧ dT 2 1 1 1 2 true = 0 ∧ dH 2 1 1 1 2 true = 0 := by decide +kernel
theorem dnew2_any (w : World) :
    Calls Try.prog 7 #[.int .i64 2] w fun e w' => e = .returned (.tuple #[.pointer (some ⟨w.heap.size, 0, none⟩), .int .i64 0]) ∧ Dst w' w.heap.size 2 2 32 true ∧ Below w.heap.size w w' := dnew_any 2 (by decide) (by decide) w
theorem awake17 (w : World) :
    Calls Try.prog 6 #[] w fun e w' => e = .returned (.bool true) ∧ Below w.heap.size w w' := by
  have N := Lib.hid dnums
  have j1 := inv_step 2 2 32 1 2 true (inv_new 2 (by decide) (by decide))
  rw [N.out.2.1, N.out.2.2.1] at j1
  have j2 := inv_step _ _ _ 1 2 true j1
  rw [N.out.2.2.2.2.1, N.out.2.2.2.2.2.1] at j2
  have J := Lib.hid (And.intro j1 j2)
  clear j1 j2
  go_enter Try.func6, Try.ntmps6
  go_wp2_with fail
  refine (dnew2_any _).mono ?_; rintro e w1 ⟨rfl, d1, b1⟩
  go_wp2_with fail
  refine (dstep_any 1 true 2 _ d1 (inv_new 2 (by decide) (by decide))).mono ?_; rintro e w2 ⟨rfl, d2, o2⟩
  rw [N.out.1]
  rw [N.out.2.1, N.out.2.2.1] at d2
  go_wp2_with fail
  refine (dtier_any _ d2).mono ?_; rintro e w' ⟨rfl, rfl⟩
  go_wp2_with fail
  refine (dstep_any 1 true 2 _ d2 J.out.1).mono ?_; rintro e w3 ⟨rfl, d3, o3⟩
  rw [N.out.2.2.2.1]
  rw [N.out.2.2.2.2.1, N.out.2.2.2.2.2.1] at d3
  go_wp2_with fail
  refine (dstep_any 1 true 2 _ d3 J.out.2).mono ?_; rintro e w4 ⟨rfl, d4, o4⟩
  rw [N.out.2.2.2.2.2.2.1]
  rw [N.out.2.2.2.2.2.2.2.1, N.out.2.2.2.2.2.2.2.2] at d4
  go_wp2_with fail
  refine (dtier_any _ d4).mono ?_; rintro e w' ⟨rfl, rfl⟩
  go_wp2_with fail
  refine (dpermits_any 0 _ d4).mono ?_; rintro e w' ⟨rfl, rfl⟩
  go_wp2_with fail
  refine (dpermits_any 1 _ d4).mono ?_; rintro e w' ⟨rfl, rfl⟩
  go_wp2_with fail
  go_ret
  exact ⟨rfl, below_only b1 (only_trans (only_trans o2 o3) o4) b1.size (Nat.le_refl _)⟩
set_option maxHeartbeats 2000000 in
theorem w_DimNobody (w : World) (v : Int) (_ : (Lit.int .i64 v).wf = true) (k : Int) (_ : (Lit.int .i64 k).wf = true) (o : Bool) :
    Calls Try.prog 5 #[.int .i64 v, .int .i64 k, .bool o] w fun e w' => e = .returned (.bool true) ∧ Below w.heap.size w w' := by
  go_enter Try.func5, Try.ntmps5
  go_wp2_with fail
  refine (dclear_nil _).mono ?_; rintro e w' ⟨rfl, rfl⟩
  have d : Dst (w.alloc (.cells #[.int .i64 0, .int .i64 0, .int .i64 0, .bool false] 42)) w.heap.size 0 0 0 false := Bk.new _ _ _
  go_wp2_with fail
  refine (dclear_odd _ d).mono ?_; rintro e w' ⟨rfl, rfl⟩
  go_wp2_with fail
  refine (dstep_nil _ _ _ _).mono ?_; rintro e w' ⟨rfl, rfl⟩
  go_wp2_with fail
  refine (dstep_odd _ _ _ _ d).mono ?_; rintro e w' ⟨rfl, rfl⟩
  go_wp2_with fail
  refine (dtier_nil _).mono ?_; rintro e w' ⟨rfl, rfl⟩
  go_wp2_with fail
  refine (dtier_any _ d).mono ?_; rintro e w' ⟨rfl, rfl⟩
  go_wp2_with fail
  refine (dheld_nil _).mono ?_; rintro e w' ⟨rfl, rfl⟩
  go_wp2_with fail
  refine (dheld_any _ d).mono ?_; rintro e w' ⟨rfl, rfl⟩
  go_wp2_with fail
  refine (dpermits_nil k _).mono ?_; rintro e w' ⟨rfl, rfl⟩
  go_wp2_with fail
  refine (dpermits_any k _ d).mono ?_; rintro e w' ⟨rfl, rfl⟩
  go_wp2_with fail
  refine (awake17 _).mono ?_; rintro e w2 ⟨rfl, b2⟩
  go_wp2_with fail
  go_ret
  exact ⟨rfl, ((Below.refl _ _).alloc (Nat.le_refl _) _).trans (b2.mono (by simp))⟩
end Go.Proofs.Ytbkdbnolkaecdaa
