/-
  The contracts of the functions of layer 14.
-/
import Derived.Test.YtcfncfmfmekeoaaBound
import Derived.Test.YtcfncfmfmekeoaaLoadPlain
import Derived.Deep.RegionLaw
import Derived.Deep.RegionHeld3
namespace Go.Proofs.Ytcfncfmfmekeoaa
open Go.RowKit Bd Ld
def Lst (w : World) (g : Nat) (a b c : Int) : Prop := Bk w g 29 #[.int .i64 a, .int .i64 b, .int .i64 c]
theorem Lst.c0 {w : World} {g : Nat} {a b c : Int} (h : Lst w g a b c) : w.cell? ⟨g, 0, none⟩ = some (.int .i64 a) := h.cell 0
theorem Lst.c1 {w : World} {g : Nat} {a b c : Int} (h : Lst w g a b c) : w.cell? ⟨g, 1, none⟩ = some (.int .i64 b) := h.cell 1
theorem Lst.c2 {w : World} {g : Nat} {a b c : Int} (h : Lst w g a b c) : w.cell? ⟨g, 2, none⟩ = some (.int .i64 c) := h.cell 2
theorem lnew_any (w : World) :
    Calls Try.prog 6 #[] w fun e w' => e = .returned (.pointer (some ⟨w.heap.size, 0, none⟩)) ∧ Lst w' w.heap.size 0 0 0 ∧ Below w.heap.size w w' := by
  go_enter Try.func6, Try.ntmps6
  go_wp2
  go_ret
  exact ⟨rfl, Bk.new _ _ _, (Below.refl _ _).alloc (Nat.le_refl _) _⟩
theorem lat0_any {g : Nat} {a b c : Int} (w : World) (h : Lst w g a b c) :
    Calls Try.prog 20 #[.pointer (some ⟨g, 0, none⟩), .int .i64 0] w fun e w' => e = .returned (.int .i64 a) ∧ w = w' := by
  have c0 := h.c0
  clear h
  go_enter Try.func20, Try.ntmps20
  go_wp2_with fail
  go_ret
  exact ⟨rfl, rfl⟩
theorem lat1_any {g : Nat} {a b c : Int} (w : World) (h : Lst w g a b c) :
    Calls Try.prog 20 #[.pointer (some ⟨g, 0, none⟩), .int .i64 1] w fun e w' => e = .returned (.int .i64 b) ∧ w = w' := by
  have c1 := h.c1
  clear h
  go_enter Try.func20, Try.ntmps20
  go_wp2_with fail
  go_ret
  exact ⟨rfl, rfl⟩
theorem lat2_any {g : Nat} {a b c : Int} (w : World) (h : Lst w g a b c) :
    Calls Try.prog 20 #[.pointer (some ⟨g, 0, none⟩), .int .i64 2] w fun e w' => e = .returned (.int .i64 c) ∧ w = w' := by
  have c2 := h.c2
  clear h
  go_enter Try.func20, Try.ntmps20
  go_wp2_with fail
  go_ret
  exact ⟨rfl, rfl⟩
theorem lat_nil (i : Int) (w : World) : Calls Try.prog 20 #[.pointer none, .int .i64 i] w fun e w' => e = .returned (.int .i64 0) ∧ w = w' := by
  go_enter Try.func20, Try.ntmps20
  go_wp2_with fail
  go_ret
  exact ⟨rfl, rfl⟩
theorem lmany_any {g : Nat} {a b c : Int} (w : World) (h : Lst w g a b c) :
    Calls Try.prog 8 #[.pointer (some ⟨g, 0, none⟩)] w fun e w' => e = .returned (.int .i64 a) ∧ w = w' := by
  go_enter Try.func8, Try.ntmps8
  go_wp2_with fail
  refine (lat0_any _ h).mono ?_; rintro e w' ⟨rfl, rfl⟩
  go_wp2_with fail
  go_ret
  exact ⟨rfl, rfl⟩
theorem lsum_any {g : Nat} {a b c : Int} (w : World) (h : Lst w g a b c) :
    Calls Try.prog 9 #[.pointer (some ⟨g, 0, none⟩)] w fun e w' => e = .returned (.int .i64 b) ∧ w = w' := by
  go_enter Try.func9, Try.ntmps9
  go_wp2_with fail
  refine (lat1_any _ h).mono ?_; rintro e w' ⟨rfl, rfl⟩
  go_wp2_with fail
  go_ret
  exact ⟨rfl, rfl⟩
theorem lworst_any {g : Nat} {a b c : Int} (w : World) (h : Lst w g a b c) :
    Calls Try.prog 11 #[.pointer (some ⟨g, 0, none⟩)] w fun e w' => e = .returned (.int .i64 c) ∧ w = w' := by
  go_enter Try.func11, Try.ntmps11
  go_wp2_with fail
  refine (lat2_any _ h).mono ?_; rintro e w' ⟨rfl, rfl⟩
  go_wp2_with fail
  go_ret
  exact ⟨rfl, rfl⟩
theorem lmany_nil (w : World) : Calls Try.prog 8 #[.pointer none] w fun e w' => e = .returned (.int .i64 0) ∧ w = w' := by
  go_enter Try.func8, Try.ntmps8
  go_wp2_with fail
  refine (lat_nil _ _).mono ?_; rintro e w' ⟨rfl, rfl⟩
  go_wp2_with fail
  go_ret
  exact ⟨rfl, rfl⟩
theorem lsum_nil (w : World) : Calls Try.prog 9 #[.pointer none] w fun e w' => e = .returned (.int .i64 0) ∧ w = w' := by
  go_enter Try.func9, Try.ntmps9
  go_wp2_with fail
  refine (lat_nil _ _).mono ?_; rintro e w' ⟨rfl, rfl⟩
  go_wp2_with fail
  go_ret
  exact ⟨rfl, rfl⟩
theorem lworst_nil (w : World) : Calls Try.prog 11 #[.pointer none] w fun e w' => e = .returned (.int .i64 0) ∧ w = w' := by
  go_enter Try.func11, Try.ntmps11
  go_wp2_with fail
  refine (lat_nil _ _).mono ?_; rintro e w' ⟨rfl, rfl⟩
  go_wp2_with fail
  go_ret
  exact ⟨rfl, rfl⟩
theorem lmean_any {g : Nat} {a b c : Int} (w : World) (h : Lst w g a b c) :
    Calls Try.prog 13 #[.pointer (some ⟨g, 0, none⟩)] w fun e w' => e = .returned (.int .i64 (meanC b a)) ∧ Below w.heap.size w w' := by
  have H := Lib.hid h
  clear h
  go_enter Try.func13, Try.ntmps13
  go_wp2_with fail
  refine (lsum_any _ H.out).mono ?_; rintro e w' ⟨rfl, rfl⟩
  go_wp2_with fail
  refine (lmany_any _ H.out).mono ?_; rintro e w' ⟨rfl, rfl⟩
  go_wp2_with fail
  refine (mean_any _ _ _).mono ?_; rintro e w1 ⟨rfl, b1⟩
  go_wp2_with fail
  go_ret
  exact ⟨rfl, b1⟩
theorem lmean_nil (w : World) : Calls Try.prog 13 #[.pointer none] w fun e w' => e = .returned (.int .i64 0) ∧ Below w.heap.size w w' := by
  go_enter Try.func13, Try.ntmps13
  go_wp2_with fail
  refine (lsum_nil _).mono ?_; rintro e w' ⟨rfl, rfl⟩
  go_wp2_with fail
  refine (lmany_nil _).mono ?_; rintro e w' ⟨rfl, rfl⟩
  go_wp2_with fail
  refine (mean_any _ _ _).mono ?_; rintro e w1 ⟨rfl, b1⟩
  go_wp2_with fail
  go_ret
  exact ⟨rfl, b1⟩
theorem lclear_any {g : Nat} {a b c : Int} (w : World) (h : Lst w g a b c) :
    Calls Try.prog 17 #[.pointer (some ⟨g, 0, none⟩)] w fun e w' => e = .returned (.tuple #[]) ∧ Lst w' g 0 0 0 ∧ w.grownBy w' (some g) := by
  have H := Lib.hid h
  have c0 := h.c0
  have c1 := h.c1
  have c2 := h.c2
  have f0 := Bk.frozen h 0
  have f1 := Bk.frozen h 1
  have f2 := Bk.frozen h 2
  clear h
  go_enter Try.func17, Try.ntmps17
  go_wp2_with fail
  go_end0
  exact ⟨rfl, ((H.out.set_ 0 _).set_ 1 _).set_ 2 _, only_trans (only_trans (only_set _ _ _ _) (only_set _ _ _ _)) (only_set _ _ _ _)⟩
theorem lclear_nil (w : World) : Calls Try.prog 17 #[.pointer none] w fun e w' => e = .returned (.tuple #[]) ∧ w = w' := by
  go_enter Try.func17, Try.ntmps17
  go_wp2_with fail
  go_end0
  exact ⟨rfl, rfl⟩
theorem lwait_nil (t : Int) (w : World) : Calls Try.prog 7 #[.pointer none, .int .i64 t] w fun e w' => e = .returned (.tuple #[]) ∧ w = w' := by
  go_enter Try.func7, Try.ntmps7
  go_wp2_with fail
  refine bodyPost_ret (results_none rfl _ _ _) rfl ?_
  exact ⟨rfl, rfl⟩
theorem lverdict_any {g : Nat} {a b c : Int} (lo hi : Int) (w : World) (h : Lst w g a b c) :
    Calls Try.prog 15 #[.pointer (some ⟨g, 0, none⟩), .int .i64 lo, .int .i64 hi] w fun e w' => e = .returned (.int .i64 (judC (meanC b a) lo hi)) ∧ Below w.heap.size w w' := by
  have H := Lib.hid (lmean_any w h)
  have E := Lib.hid (show judC (meanC b a) lo hi = if hi < meanC b a then 1 else if meanC b a < lo then 2 else 0 from rfl)
  clear h
  generalize meanC b a = m at *
  by_cases h1 : hi < m
  · go_enter Try.func15, Try.ntmps15
    go_wp2_with fail
    refine H.out.mono ?_; rintro e w1 ⟨rfl, b1⟩
    go_wp2_with fail
    go_ret
    exact ⟨ret_int (by rw [E.out, if_pos h1]), b1⟩
  · by_cases h2 : m < lo
    · have h1' : m ≤ hi := by omega
      go_enter Try.func15, Try.ntmps15
      go_wp2_with fail
      refine H.out.mono ?_; rintro e w1 ⟨rfl, b1⟩
      go_wp2_with fail
      go_ret
      exact ⟨ret_int (by rw [E.out, if_neg (by omega), if_pos h2]), b1⟩
    · have h1' : m ≤ hi := by omega
      have h2' : lo ≤ m := by omega
      go_enter Try.func15, Try.ntmps15
      go_wp2_with fail
      refine H.out.mono ?_; rintro e w1 ⟨rfl, b1⟩
      go_wp2_with fail
      go_ret
      exact ⟨ret_int (by rw [E.out, if_neg (by omega), if_neg (by omega)]), b1⟩
theorem lverdict_nil (lo hi : Int) (w : World) :
    Calls Try.prog 15 #[.pointer none, .int .i64 lo, .int .i64 hi] w fun e w' => e = .returned (.int .i64 (judC 0 lo hi)) ∧ Below w.heap.size w w' := by
  have E := Lib.hid (show judC 0 lo hi = if hi < 0 then 1 else if 0 < lo then 2 else 0 from rfl)
  by_cases h1 : hi < 0
  · go_enter Try.func15, Try.ntmps15
    go_wp2_with fail
    refine (lmean_nil _).mono ?_; rintro e w1 ⟨rfl, b1⟩
    go_wp2_with fail
    go_ret
    exact ⟨ret_int (by rw [E.out, if_pos h1]), b1⟩
  · by_cases h2 : 0 < lo
    · have h1' : 0 ≤ hi := by omega
      go_enter Try.func15, Try.ntmps15
      go_wp2_with fail
      refine (lmean_nil _).mono ?_; rintro e w1 ⟨rfl, b1⟩
      go_wp2_with fail
      go_ret
      exact ⟨ret_int (by rw [E.out, if_neg (by omega), if_pos h2]), b1⟩
    · have h1' : 0 ≤ hi := by omega
      have h2' : lo ≤ 0 := by omega
      go_enter Try.func15, Try.ntmps15
      go_wp2_with fail
      refine (lmean_nil _).mono ?_; rintro e w1 ⟨rfl, b1⟩
      go_wp2_with fail
      go_ret
      exact ⟨ret_int (by rw [E.out, if_neg (by omega), if_neg (by omega)]), b1⟩
end Go.Proofs.Ytcfncfmfmekeoaa
