/-
  The walk of the law RankOrders of layer 11.
-/
import Derived.Test.YtnhjpblkenmccaaRank
import Derived.Test.YtnhjpblkenmccaaFld
import Derived.Test.YtnhjpblkenmccaaAgg
import Derived.IntWalk
namespace Go.Proofs.Ytnhjpblkenmccaa
open Go.RowKit Bd Rk
set_option maxHeartbeats 1000000 in
theorem rbefore_any (f h : Nat → Int) (w : World) : Calls Try.prog 6 #[.agg #[.int .i64 (f 0), .int .i64 (f 1), .int .i64 (f 2), .int .i64 (f 3), .int .i64 (f 4), .int .i64 (f 5), .int .i64 (f 6)], .agg #[.int .i64 (h 0), .int .i64 (h 1), .int .i64 (h 2), .int .i64 (h 3), .int .i64 (h 4), .int .i64 (h 5), .int .i64 (h 6)]] w fun e w' => e = .returned (.bool (bef f h)) ∧ Below w.heap.size w w' := by
  have E := Lib.hid (bef_def f h)
  rcases (by omega : f 3 ≠ h 3 ∨ (f 3 = h 3 ∧ f 6 ≠ h 6) ∨ (f 3 = h 3 ∧ f 6 = h 6)) with h1 | ⟨h1, h2⟩ | ⟨h1, h2⟩
  · have E2 := Lib.hid (show decide (f 3 < h 3) = bef f h by rw [E.out]; congr 1; simp only [eq_iff_iff]; omega)
    have h1 := dne_t h1
    clear E
    go_enter Try.func6, Try.ntmps6
    go_wp2_with fail
    go_ret
    exact ⟨ret_bool E2.out, ((Below.refl _ _).alloc (Nat.le_refl _) _).alloc (by simp) _⟩
  · have E2 := Lib.hid (show decide (f 6 < h 6) = bef f h by rw [E.out]; congr 1; simp only [eq_iff_iff]; omega)
    have h1 := dne_f h1
    have h2 := dne_t h2
    clear E
    go_enter Try.func6, Try.ntmps6
    go_wp2_with fail
    go_ret
    exact ⟨ret_bool E2.out, ((Below.refl _ _).alloc (Nat.le_refl _) _).alloc (by simp) _⟩
  · have E2 := Lib.hid (show decide (f 0 < h 0) = bef f h by rw [E.out]; congr 1; simp only [eq_iff_iff]; omega)
    have h1 := dne_f h1
    have h2 := dne_f h2
    clear E
    go_enter Try.func6, Try.ntmps6
    go_wp2_with fail
    go_ret
    exact ⟨ret_bool E2.out, ((Below.refl _ _).alloc (Nat.le_refl _) _).alloc (by simp) _⟩
set_option maxHeartbeats 1000000 in
theorem rworse_any (f h : Nat → Int) (w : World) : Calls Try.prog 8 #[.agg #[.int .i64 (f 0), .int .i64 (f 1), .int .i64 (f 2), .int .i64 (f 3), .int .i64 (f 4), .int .i64 (f 5), .int .i64 (f 6)], .agg #[.int .i64 (h 0), .int .i64 (h 1), .int .i64 (h 2), .int .i64 (h 3), .int .i64 (h 4), .int .i64 (h 5), .int .i64 (h 6)]] w fun e w' => e = .returned (.bool (wor f h)) ∧ Below w.heap.size w w' := by
  have E := Lib.hid (wor_def f h)
  rcases (by omega : f 1 ≠ h 1 ∨ (f 1 = h 1 ∧ f 3 ≠ h 3) ∨ (f 1 = h 1 ∧ f 3 = h 3 ∧ f 6 ≠ h 6) ∨ (f 1 = h 1 ∧ f 3 = h 3 ∧ f 6 = h 6)) with h0 | ⟨h0, h1⟩ | ⟨h0, h1, h2⟩ | ⟨h0, h1, h2⟩
  · have E2 := Lib.hid (show decide (h 1 < f 1) = wor f h by rw [E.out]; congr 1; simp only [eq_iff_iff]; omega)
    have h0 := dne_t h0
    clear E
    go_enter Try.func8, Try.ntmps8
    go_wp2_with fail
    go_ret
    exact ⟨ret_bool E2.out, ((Below.refl _ _).alloc (Nat.le_refl _) _).alloc (by simp) _⟩
  · have E2 := Lib.hid (show decide (h 3 < f 3) = wor f h by rw [E.out]; congr 1; simp only [eq_iff_iff]; omega)
    have h0 := dne_f h0
    have h1 := dne_t h1
    clear E
    go_enter Try.func8, Try.ntmps8
    go_wp2_with fail
    go_ret
    exact ⟨ret_bool E2.out, ((Below.refl _ _).alloc (Nat.le_refl _) _).alloc (by simp) _⟩
  · have E2 := Lib.hid (show decide (h 6 < f 6) = wor f h by rw [E.out]; congr 1; simp only [eq_iff_iff]; omega)
    have h0 := dne_f h0
    have h1 := dne_f h1
    have h2 := dne_t h2
    clear E
    go_enter Try.func8, Try.ntmps8
    go_wp2_with fail
    go_ret
    exact ⟨ret_bool E2.out, ((Below.refl _ _).alloc (Nat.le_refl _) _).alloc (by simp) _⟩
  · have E2 := Lib.hid (show decide (h 0 < f 0) = wor f h by rw [E.out]; congr 1; simp only [eq_iff_iff]; omega)
    have h0 := dne_f h0
    have h1 := dne_f h1
    have h2 := dne_f h2
    clear E
    go_enter Try.func8, Try.ntmps8
    go_wp2_with fail
    go_ret
    exact ⟨ret_bool E2.out, ((Below.refl _ _).alloc (Nat.le_refl _) _).alloc (by simp) _⟩
/-- The place of the least urgent among the first k. -/
def vicN (F : Nat → Nat → Int) : Nat → Nat
  | 0 => 0
  | k + 1 => if wor (F k) (F (vicN F k)) then k else vicN F k
theorem vicN_lt (F : Nat → Nat → Int) (n : Nat) (hn : 0 < n) : ∀ k, k ≤ n → vicN F k < n
  | 0, _ => hn
  | k + 1, hk => by
    rw [vicN]; split
    · omega
    · exact vicN_lt F n hn k (by omega)
set_option maxHeartbeats 1000000 in
theorem victim_any (a : Option Addr) (n cap : Nat) (F : Nat → Nat → Int) (w : World) (hF : Fld w a n 7 F) (hn : n ≤ 1000) :
    Calls Try.prog 10 #[.slice a n cap] w fun e w' => e = .returned (.tuple #[.int .i64 (vicN F n), .bool (decide (0 < n))]) ∧ Below w.heap.size w w' := by
  have HF := Lib.hid hF
  clear hF
  go_enter Try.func10, Try.ntmps10
  go_wp2_with fail
  go_loopw [4, 8] (fun v i wr => ∃ k : Nat, k ≤ n ∧ i = .int .i64 k ∧ v = .int .i64 (vicN F k) ∧ Below w.heap.size w wr) (fun _ i _ => n - (intOf i).toNat)
  case atStart => exact ⟨0, Nat.zero_le _, rfl, rfl, Below.refl _ _⟩
  case round =>
    obtain ⟨k, hk, rfl, rfl, hb⟩ := hrel
    have HB := Lib.hid hb
    clear hb
    by_cases hlt : k < n
    · have hv := vicN_lt F n (by omega) k hk
      have HV := Lib.hid (show vicN F (k + 1) = if wor (F k) (F (vicN F k)) then k else vicN F k from rfl)
      generalize vicN F k = v at *
      obtain ⟨b, off, ha, c⟩ := (HF.out.below HB.out).get hlt
      obtain ⟨b', off', ha', d⟩ := (HF.out.below HB.out).get hv
      subst ha
      simp only [Option.some.injEq, Addr.mk.injEq, and_true] at ha'
      obtain ⟨rfl, rfl⟩ := ha'
      have CC := Lib.hid (fun (W : World) (h : Below w.heap.size w W) => (show (W.cell? ⟨b, off + k * 7, none⟩ = some (.int .i64 (F k 0)) ∧ W.cell? ⟨b, off + k * 7 + 1, none⟩ = some (.int .i64 (F k 1)) ∧ W.cell? ⟨b, off + k * 7 + 2, none⟩ = some (.int .i64 (F k 2)) ∧ W.cell? ⟨b, off + k * 7 + 3, none⟩ = some (.int .i64 (F k 3)) ∧ W.cell? ⟨b, off + k * 7 + 4, none⟩ = some (.int .i64 (F k 4)) ∧ W.cell? ⟨b, off + k * 7 + 5, none⟩ = some (.int .i64 (F k 5)) ∧ W.cell? ⟨b, off + k * 7 + 6, none⟩ = some (.int .i64 (F k 6))) ∧ (W.cell? ⟨b, off + v * 7, none⟩ = some (.int .i64 (F v 0)) ∧ W.cell? ⟨b, off + v * 7 + 1, none⟩ = some (.int .i64 (F v 1)) ∧ W.cell? ⟨b, off + v * 7 + 2, none⟩ = some (.int .i64 (F v 2)) ∧ W.cell? ⟨b, off + v * 7 + 3, none⟩ = some (.int .i64 (F v 3)) ∧ W.cell? ⟨b, off + v * 7 + 4, none⟩ = some (.int .i64 (F v 4)) ∧ W.cell? ⟨b, off + v * 7 + 5, none⟩ = some (.int .i64 (F v 5)) ∧ W.cell? ⟨b, off + v * 7 + 6, none⟩ = some (.int .i64 (F v 6))) from by
        obtain ⟨b1, o1, e1, c1⟩ := (HF.out.below h).get hlt
        obtain ⟨b2, o2, e2, c2⟩ := (HF.out.below h).get hv
        simp only [Option.some.injEq, Addr.mk.injEq, and_true] at e1 e2
        obtain ⟨rfl, rfl⟩ := e1
        obtain ⟨rfl, rfl⟩ := e2
        exact ⟨⟨c1 0 (by decide), c1 1 (by decide), c1 2 (by decide), c1 3 (by decide), c1 4 (by decide), c1 5 (by decide), c1 6 (by decide)⟩, ⟨c2 0 (by decide), c2 1 (by decide), c2 2 (by decide), c2 3 (by decide), c2 4 (by decide), c2 5 (by decide), c2 6 (by decide)⟩⟩))
      clear c d
      obtain ⟨lb, hlb⟩ : ∃ lb, wor (F k) (F v) = lb := ⟨_, rfl⟩
      have W1 := Lib.hid (show ∀ W, Calls Try.prog 7 #[.agg #[.int .i64 (F k 0), .int .i64 (F k 1), .int .i64 (F k 2), .int .i64 (F k 3), .int .i64 (F k 4), .int .i64 (F k 5), .int .i64 (F k 6)], .agg #[.int .i64 (F v 0), .int .i64 (F v 1), .int .i64 (F v 2), .int .i64 (F v 3), .int .i64 (F v 4), .int .i64 (F v 5), .int .i64 (F v 6)]] W (fun e w' => e = .returned (.bool lb) ∧ Below W.heap.size W w') from fun W => by have := worse_any (F k) (F v) W; rw [hlb] at this; exact this)
      rw [hlb] at HV
      clear hlb
      go_wp2_with fail
      refine wp_region_held_drew (S := (fun W => ((W.cell? ⟨b, off + k * 7, none⟩ = some (.int .i64 (F k 0)) ∧ W.cell? ⟨b, off + k * 7 + 1, none⟩ = some (.int .i64 (F k 1)) ∧ W.cell? ⟨b, off + k * 7 + 2, none⟩ = some (.int .i64 (F k 2)) ∧ W.cell? ⟨b, off + k * 7 + 3, none⟩ = some (.int .i64 (F k 3)) ∧ W.cell? ⟨b, off + k * 7 + 4, none⟩ = some (.int .i64 (F k 4)) ∧ W.cell? ⟨b, off + k * 7 + 5, none⟩ = some (.int .i64 (F k 5)) ∧ W.cell? ⟨b, off + k * 7 + 6, none⟩ = some (.int .i64 (F k 6))) ∧ (W.cell? ⟨b, off + v * 7, none⟩ = some (.int .i64 (F v 0)) ∧ W.cell? ⟨b, off + v * 7 + 1, none⟩ = some (.int .i64 (F v 1)) ∧ W.cell? ⟨b, off + v * 7 + 2, none⟩ = some (.int .i64 (F v 2)) ∧ W.cell? ⟨b, off + v * 7 + 3, none⟩ = some (.int .i64 (F v 3)) ∧ W.cell? ⟨b, off + v * 7 + 4, none⟩ = some (.int .i64 (F v 4)) ∧ W.cell? ⟨b, off + v * 7 + 5, none⟩ = some (.int .i64 (F v 5)) ∧ W.cell? ⟨b, off + v * 7 + 6, none⟩ = some (.int .i64 (F v 6)))) ∧ Below w.heap.size w W)) (by kernel_rfl) ?_ (fun hHeld => ?_)
      · (try dsimp only); first | exact ⟨CC.out _ (below_step (Nat.le_refl _) hHeld.2 (by assumption)), below_step (Nat.le_refl _) hHeld.2 (by assumption)⟩ | exact ⟨CC.out _ HB.out.drew, HB.out.drew⟩
      refine wpD_go (by kernel_rfl) _ _ _ _ (by assumption) ?_
      refine wpD_step (i := 0) (o := { dst := some 11, op := Op.move (Operand.tmp 0), type := 27, pos := "rank.go:52", after := #[], guard := none }) (v := ?_) rfl (by kernel_rfl) (by kernel_rfl) ?_ ?_
      rotate_left
      · refine gives_pure (by rfl) ?_
        intro w0 hSw; (try dsimp only at hSw); go_simp; (try with_reducible rfl)
      try simp only [Act.put, List.setIfInBounds_toArray, List.set_cons_zero, List.set_cons_succ]
      refine wpD_step (i := 1) (o := { dst := some 12, op := Op.move (Operand.tmp 5), type := 3, pos := "rank.go:52", after := #[], guard := none }) (v := ?_) rfl (by kernel_rfl) (by kernel_rfl) ?_ ?_
      rotate_left
      · refine gives_pure (by rfl) ?_
        intro w0 hSw; (try dsimp only at hSw); go_simp; (try with_reducible rfl)
      try simp only [Act.put, List.setIfInBounds_toArray, List.set_cons_zero, List.set_cons_succ]
      refine wpD_step (i := 2) (o := { dst := some 13, op := Op.indexAddr 27 (Operand.tmp 11) (Operand.tmp 12), type := 0, pos := "rank.go:52", after := #[{ on := 0, ground := Ground.data }, { on := 1, ground := Ground.data }], guard := none }) (v := ?_) rfl (by kernel_rfl) (by kernel_rfl) ?_ ?_
      rotate_left
      · refine gives_pure (by rfl) ?_
        intro w0 hSw; (try dsimp only at hSw); go_simp; (try with_reducible rfl)
      try simp only [Act.put, List.setIfInBounds_toArray, List.set_cons_zero, List.set_cons_succ]
      refine wpD_step (i := 3) (o := { dst := some 14, op := Op.load 23 (Operand.tmp 13), type := 23, pos := "rank.go:52", after := #[{ on := 2, ground := Ground.data }], guard := none }) (v := ?_) rfl (by kernel_rfl) (by kernel_rfl) ?_ ?_
      rotate_left
      · refine gives_pure (by rfl) ?_
        intro w0 hSw; (try dsimp only at hSw); go_simp; (try with_reducible rfl)
      try simp only [Act.put, List.setIfInBounds_toArray, List.set_cons_zero, List.set_cons_succ]
      refine wpD_step (i := 4) (o := { dst := some 15, op := Op.move (Operand.tmp 0), type := 27, pos := "rank.go:52", after := #[], guard := none }) (v := ?_) rfl (by kernel_rfl) (by kernel_rfl) ?_ ?_
      rotate_left
      · refine gives_pure (by rfl) ?_
        intro w0 hSw; (try dsimp only at hSw); go_simp; (try with_reducible rfl)
      try simp only [Act.put, List.setIfInBounds_toArray, List.set_cons_zero, List.set_cons_succ]
      refine wpD_step (i := 5) (o := { dst := some 16, op := Op.move (Operand.tmp 4), type := 3, pos := "rank.go:52", after := #[], guard := none }) (v := ?_) rfl (by kernel_rfl) (by kernel_rfl) ?_ ?_
      rotate_left
      · refine gives_pure (by rfl) ?_
        intro w0 hSw; (try dsimp only at hSw); go_simp; (try with_reducible rfl)
      try simp only [Act.put, List.setIfInBounds_toArray, List.set_cons_zero, List.set_cons_succ]
      refine wpD_step (i := 6) (o := { dst := some 17, op := Op.indexAddr 27 (Operand.tmp 15) (Operand.tmp 16), type := 0, pos := "rank.go:52", after := #[{ on := 4, ground := Ground.data }, { on := 5, ground := Ground.data }], guard := none }) (v := ?_) rfl (by kernel_rfl) (by kernel_rfl) ?_ ?_
      rotate_left
      · refine gives_pure (by rfl) ?_
        intro w0 hSw; (try dsimp only at hSw); go_simp; (try with_reducible rfl)
      try simp only [Act.put, List.setIfInBounds_toArray, List.set_cons_zero, List.set_cons_succ]
      refine wpD_step (i := 7) (o := { dst := some 18, op := Op.load 23 (Operand.tmp 17), type := 23, pos := "rank.go:52", after := #[{ on := 6, ground := Ground.data }], guard := none }) (v := ?_) rfl (by kernel_rfl) (by kernel_rfl) ?_ ?_
      rotate_left
      · refine gives_pure (by rfl) ?_
        intro w0 hSw; (try dsimp only at hSw); go_simp; (try with_reducible rfl)
      try simp only [Act.put, List.setIfInBounds_toArray, List.set_cons_zero, List.set_cons_succ]
      refine wpD_step (i := 8) (o := { dst := some 19, op := Op.call { callee := Callee.value (Operand.func 7), args := #[Operand.tmp 14, Operand.tmp 18], argTypes := #[23, 23] }, type := 4, pos := "rank.go:52", after := #[{ on := 3, ground := Ground.data }, { on := 7, ground := Ground.data }], guard := none }) (v := (Value.bool (lb))) rfl (by kernel_rfl) (by kernel_rfl) ?_ ?_
      · refine gives_call (by rfl) ?_
        intro w0 hHeld b0 K0 Q0 hK0; have hSw := hHeld; (try dsimp only at hSw); go_simp; refine (W1.out _).mono ?_; rintro e w5 ⟨rfl, b5⟩; exact hK0 _ (by (try dsimp only); first | exact ⟨CC.out _ (below_step (Nat.le_refl _) hHeld.2 (by assumption)), below_step (Nat.le_refl _) hHeld.2 (by assumption)⟩ | exact ⟨CC.out _ HB.out.drew, HB.out.drew⟩)
      try simp only [Act.put, List.setIfInBounds_toArray, List.set_cons_zero, List.set_cons_succ]
      refine wpD_done (by kernel_rfl) (fun wz hHeld => ?_) _
      cases lb with
      | true =>
        go_wp2_with fail
        go_roundw
        case rel => exact ⟨k + 1, by omega, by go_num, by rw [HV.out]; rfl, hHeld.2⟩
        case measure => simp [intOf]; omega
      | false =>
        go_wp2_with fail
        go_roundw
        case rel => exact ⟨k + 1, by omega, by go_num, by rw [HV.out]; rfl, hHeld.2⟩
        case measure => simp [intOf]; omega
    · obtain rfl : k = n := by omega
      go_wp2_with fail
      go_ret2
      exact ⟨by simp, HB.out⟩
end Go.Proofs.Ytnhjpblkenmccaa
