/-
  The contract of Wait of layer 14.
-/
import Derived.Test.YtcfncfmfmekeoaaLoad
namespace Go.Proofs.Ytcfncfmfmekeoaa
open Go.RowKit Bd Ld
theorem Lst.below {w w' : World} {g : Nat} {a b c : Int} (h : Lst w g a b c) (hb : Below w.heap.size w w') : Lst w' g a b c := Bk.below h hb
theorem Lst.drew {w : World} {g : Nat} {a b c : Int} (h : Lst w g a b c) : Lst w.drew g a b c := h
theorem Lst.s0 {w : World} {g : Nat} {a b c : Int} (h : Lst w g a b c) (v : Int) : Lst (w.setCell ⟨g, 0, none⟩ (.int .i64 v)) g v b c := Bk.set_ h 0 _
theorem Lst.s1 {w : World} {g : Nat} {a b c : Int} (h : Lst w g a b c) (v : Int) : Lst (w.setCell ⟨g, 1, none⟩ (.int .i64 v)) g a v c := Bk.set_ h 1 _
theorem Lst.s2 {w : World} {g : Nat} {a b c : Int} (h : Lst w g a b c) (v : Int) : Lst (w.setCell ⟨g, 2, none⟩ (.int .i64 v)) g a b v := Bk.set_ h 2 _
theorem grow_trip {w w1 : World} {g i : Nat} {u : Value} (b1 : Below w.heap.size w w1) : w.grownBy (w1.setCell ⟨g, i, none⟩ u) (some g) := only_trans (only_below b1 _) (only_set _ _ _ _)
set_option maxHeartbeats 1000000
theorem lwait_any {g : Nat} {a b c : Int} (t : Int) (w : World) (h : Lst w g a b c) :
    Calls Try.prog 7 #[.pointer (some ⟨g, 0, none⟩), .int .i64 t] w fun e w' => e = .returned (.tuple #[]) ∧ Lst w' g (addC a 1) (addC b t) (worC c t) ∧ w.grownBy w' (some g) := by
  have H := Lib.hid h
  have c0 := h.c0
  have f0 := Bk.frozen h 0
  have hkb := kc t
  clear h
  go_enter Try.func7, Try.ntmps7
  go_wp2_with fail
  go_region_law (first | (go_simp; go_at_call 18; refine (add_any _ _ _).mono ?_; rintro e w1 ⟨rfl, b1⟩; have b1 := undrew b1; have H1 := H.out.below b1; have f1 := Bk.frozen H1 0; have q0 := H1.c0))
  have O2 := Lib.hid (grow_trip (g := g) (i := 0) (u := .int .i64 (addC a 1)) b1)
  have H2 := Lib.hid (H1.s0 (addC a 1))
  clear b1 H1 f1 q0 c0 f0 H
  generalize w1.setCell _ _ = w2 at *
  have c1 := H2.out.c1
  have f1 := Bk.frozen H2.out 1
  go_wp2_with fail
  go_region_law (first | (go_simp; go_at_call 18; refine (add_any _ _ _).mono ?_; rintro e w1 ⟨rfl, b1⟩; have b1 := undrew b1; have H1 := H2.out.below b1; have f1 := Bk.frozen H1 1; have q1 := H1.c1))
  have O3 := Lib.hid (only_trans O2.out (grow_trip (g := g) (i := 1) (u := .int .i64 (addC b t)) b1))
  have H3 := Lib.hid (H1.s1 (addC b t))
  clear b1 H1 f1 q1 c1 O2 H2
  generalize w1.setCell _ _ = w3 at *
  have c2 := H3.out.c2
  have f2 := Bk.frozen H3.out 2
  have HK := Lib.hid (keep_any t cMost)
  have E := Lib.hid (show worC c t = if kp t cMost ≤ c then c else kp t cMost from rfl)
  unfold cMost at HK
  change Hid (worC c t = if kp t 2147483647 ≤ c then c else kp t 2147483647) at E
  change 0 ≤ kp t 2147483647 ∧ kp t 2147483647 ≤ 2147483647 at hkb
  generalize kp t 2147483647 = m at *
  by_cases hm : m ≤ c
  · have E2 := Lib.hid (show worC c t = c by rw [E.out, if_pos hm])
    go_wp2_with fail
    go_region_law (first | (go_simp; go_at_call 19; refine (HK.out _).mono ?_; rintro e w1 ⟨rfl, b1⟩; have b1 := undrew b1; have H1 := H3.out.below b1; have f1 := Bk.frozen H1 2; have q2 := H1.c2))
    all_goals
      go_wp2_with fail
      go_end0
      first
        | exact ⟨rfl, by rw [E2.out]; exact H1.s2 _, only_trans O3.out (grow_trip b1)⟩
        | (obtain rfl : m = c := by omega
           exact ⟨rfl, by rw [E2.out]; exact H1.s2 _, only_trans O3.out (grow_trip b1)⟩)
  · have E2 := Lib.hid (show worC c t = m by rw [E.out, if_neg hm])
    have hm : c < m := by omega
    go_wp2_with fail
    go_region_law (first | (go_simp; go_at_call 19; refine (HK.out _).mono ?_; rintro e w1 ⟨rfl, b1⟩; have b1 := undrew b1; have H1 := H3.out.below b1; have f1 := Bk.frozen H1 2; have q2 := H1.c2))
    all_goals
      go_wp2_with fail
      go_end0
      first
        | exact ⟨rfl, by rw [E2.out]; exact H1.s2 _, only_trans O3.out (grow_trip b1)⟩
        | (obtain rfl : m = c := by omega
           exact ⟨rfl, by rw [E2.out]; exact H1.s2 _, only_trans O3.out (grow_trip b1)⟩)
end Go.Proofs.Ytcfncfmfmekeoaa
