/-
  The contracts of layer 9, but Spread.
-/
import Derived.Test.YtjppoiplcfifcaaBound
import Derived.Test.YtjppoiplcfifcaaUserPlain
import Derived.Test.YtjppoiplcfifcaaMixC
import Derived.Test.YtjppoiplcfifcaaQcall
namespace Go.Proofs.Ytjppoiplcfifcaa
open Go.RowKit Bd Us
open Mx (M In)
def usr (k c r : Int) : Value := .agg #[.int .u64 k, .int .i64 c, .int .i64 r]
theorem unew_bad (k c r : Int) (w : World) (h : ¬ (1 ≤ c ∧ c ≤ 16 ∧ 1 ≤ r ∧ r ≤ 1099511627776)) :
    Calls Try.prog 6 #[.int .u64 k, .int .i64 c, .int .i64 r] w fun e w' => e = .returned (.tuple #[.agg #[.int .u64 0, .int .i64 0, .int .i64 0], .int .i64 1]) ∧ Below w.heap.size w w' := by
  by_cases h1 : c < 1
  · go_enter Try.func6, Try.ntmps6
    go_wp2_with fail
    exact bodyPost_ret (v := .tuple #[.agg #[.int .u64 0, .int .i64 0, .int .i64 0], .int .i64 1]) (by simp [results, Try.results6, go_sem]) rfl ⟨rfl, by repeat' (first | exact Below.refl _ _ | refine Below.alloc ?_ (by simp <;> omega) _ | refine Below.setCell ?_ (by simp) _)⟩
  · by_cases h2 : 16 < c
    · go_enter Try.func6, Try.ntmps6
      go_wp2_with fail
      exact bodyPost_ret (v := .tuple #[.agg #[.int .u64 0, .int .i64 0, .int .i64 0], .int .i64 1]) (by simp [results, Try.results6, go_sem]) rfl ⟨rfl, by repeat' (first | exact Below.refl _ _ | refine Below.alloc ?_ (by simp <;> omega) _ | refine Below.setCell ?_ (by simp) _)⟩
    · by_cases h3 : r < 1
      · go_enter Try.func6, Try.ntmps6
        go_wp2_with fail
        exact bodyPost_ret (v := .tuple #[.agg #[.int .u64 0, .int .i64 0, .int .i64 0], .int .i64 1]) (by simp [results, Try.results6, go_sem]) rfl ⟨rfl, by repeat' (first | exact Below.refl _ _ | refine Below.alloc ?_ (by simp <;> omega) _ | refine Below.setCell ?_ (by simp) _)⟩
      · have h4 : 1099511627776 < r := by omega
        go_enter Try.func6, Try.ntmps6
        go_wp2_with fail
        exact bodyPost_ret (v := .tuple #[.agg #[.int .u64 0, .int .i64 0, .int .i64 0], .int .i64 1]) (by simp [results, Try.results6, go_sem]) rfl ⟨rfl, by repeat' (first | exact Below.refl _ _ | refine Below.alloc ?_ (by simp <;> omega) _ | refine Below.setCell ?_ (by simp) _)⟩
theorem unew_any (k c r : Int) (w : World) (h1 : 1 ≤ c) (h2 : c ≤ 16) (h3 : 1 ≤ r) (h4 : r ≤ 1099511627776) :
    Calls Try.prog 6 #[.int .u64 k, .int .i64 c, .int .i64 r] w fun e w' => e = .returned (.tuple #[.agg #[.int .u64 k, .int .i64 c, .int .i64 r], .int .i64 0]) ∧ Below w.heap.size w w' := by
  go_enter Try.func6, Try.ntmps6
  go_wp2_with fail
  exact bodyPost_ret (v := .tuple #[.agg #[.int .u64 k, .int .i64 c, .int .i64 r], .int .i64 0]) (by simp [results, Try.results6, go_sem]) rfl ⟨rfl, by repeat' (first | exact Below.refl _ _ | refine Below.alloc ?_ (by simp <;> omega) _ | refine Below.setCell ?_ (by simp) _)⟩
theorem unone_zero (w : World) :
    Calls Try.prog 17 #[.agg #[.int .u64 0, .int .i64 0, .int .i64 0]] w fun e w' => e = .returned (.bool true) ∧ Below w.heap.size w w' := by
  go_enter Try.func17, Try.ntmps17
  go_wp2_with fail
  go_ret
  exact ⟨rfl, (Below.refl _ _).alloc (Nat.le_refl _) _⟩
theorem unone_any (k c r : Int) (w : World) (h1 : 1 ≤ c) (h3 : 1 ≤ r) :
    Calls Try.prog 17 #[.agg #[.int .u64 k, .int .i64 c, .int .i64 r]] w fun e w' => e = .returned (.bool false) ∧ Below w.heap.size w w' := by
  have hz : (c == 0) = false := by simp; omega
  have hz2 : (r == 0) = false := by simp; omega
  go_enter Try.func17, Try.ntmps17
  go_wp2_with fail
  go_ret
  exact ⟨by simp [hz, hz2], (Below.refl _ _).alloc (Nat.le_refl _) _⟩
theorem uturn_zero (now : Int) (w : World) :
    Calls Try.prog 8 #[.agg #[.int .u64 0, .int .i64 0, .int .i64 0], .int .i64 now] w fun e w' => e = .returned (.int .i64 0) ∧ Below w.heap.size w w' := by
  go_enter Try.func8, Try.ntmps8
  go_wp2_with fail
  refine (unone_zero _).mono ?_; rintro e w1 ⟨rfl, b1⟩
  go_wp2_with fail
  go_ret
  exact ⟨rfl, ((Below.refl _ _).alloc (Nat.le_refl _) _).trans (b1.mono (by simp))⟩
theorem unext_zero (now : Int) (w : World) :
    Calls Try.prog 9 #[.agg #[.int .u64 0, .int .i64 0, .int .i64 0], .int .i64 now] w fun e w' => e = .returned (.int .i64 0) ∧ Below w.heap.size w w' := by
  go_enter Try.func9, Try.ntmps9
  go_wp2_with fail
  refine (unone_zero _).mono ?_; rintro e w1 ⟨rfl, b1⟩
  go_wp2_with fail
  go_ret
  exact ⟨rfl, ((Below.refl _ _).alloc (Nat.le_refl _) _).trans (b1.mono (by simp))⟩
/-- The box of the receiver, in a later world. -/
structure Box (w0 : World) (k c r : Int) (W : World) : Prop where
  bl : Below w0.heap.size w0 W
  bx : Bk W w0.heap.size 26 #[.int .u64 k, .int .i64 c, .int .i64 r]
theorem Box.new (w : World) (k c r : Int) : Box w k c r (w.alloc (.cells #[.int .u64 k, .int .i64 c, .int .i64 r] 26)) := ⟨(Below.refl _ _).alloc (Nat.le_refl _) _, Bk.new _ _ _⟩
theorem Box.below {w0 W W' : World} {k c r : Int} (h : Box w0 k c r W) (b : Below W.heap.size W W') : Box w0 k c r W' := ⟨h.bl.trans (b.mono h.bl.size), h.bx.below b⟩
theorem Box.drew {w0 W : World} {k c r : Int} (h : Box w0 k c r W) : Box w0 k c r W.drew := h.below (Below.refl _ _).drew
def Bs (w0 : World) (k c r : Int) (W : World) : Prop := Box w0 k c r W
set_option maxHeartbeats 1000000 in
theorem uturn_any (k c r now : Int) (w : World) (h1 : 1 ≤ c) (h3 : 1 ≤ r) (h4 : r ≤ 1099511627776) :
    Calls Try.prog 8 #[.agg #[.int .u64 k, .int .i64 c, .int .i64 r], .int .i64 now] w fun e w' => e = .returned (.int .i64 (trn r now)) ∧ Below w.heap.size w w' := by
  have H0 := Lib.hid (Box.new w k c r)
  have E := Lib.hid (show trn r now = kp now tMost / r from rfl)
  have hk := kt now
  have hk1 := hk.1
  have hk2 := hk.2
  have hr0 : (r = 0) = False := by simp; omega
  have hq : IntKind.i64.wrap ((kp now tMost).tdiv r) = trn r now := by
    rw [Int.tdiv_eq_ediv_of_nonneg hk1]
    obtain ⟨a1, a2, _⟩ := trn_b r now h3 h4
    exact IntWalk.i64_in _ ⟨by unfold trn at a1; omega, by unfold trn at a2; omega⟩
  have hz2 : (r == 0) = false := by simp; omega
  have HQ := Lib.hid hq
  clear hk hq
  go_enter Try.func8, Try.ntmps8
  go_wp2_with fail
  refine (unone_any k c r _ h1 h3).mono ?_; rintro e w1 ⟨rfl, b1⟩
  have H1 := Lib.hid (H0.out.below b1)
  have HM := Lib.hid (fun (W : World) (h : Box w k c r W) => (show W.cell? ⟨w.heap.size, 2, none⟩ = some (.int .i64 r) ∧ Box w k c r W from ⟨h.bx.cell 2, h⟩))
  clear b1
  go_wp2_with fail
  have hq := HQ.out
  refine wp_region_held_drew (S := (fun W => W.cell? ⟨w.heap.size, 2, none⟩ = some (.int .i64 r) ∧ Box w k c r W)) (by kernel_rfl) ?_ (fun hHeld => ?_)
  · (try dsimp only); first | exact HM.out _ (Box.below hHeld.2 (by assumption)) | exact HM.out _ H1.out.drew
  refine wpAnyH_take (i := 0) (oi := { dst := some 7, op := Op.move (Operand.tmp 1), type := 3, pos := "user.go:32", after := #[], guard := none }) (v := ?_) rfl (by kernel_rfl) (by kernel_rfl) (by kernel_rfl) (fun _ _ _ h => h) (Or.inl ⟨by rfl, ?_⟩) (by assumption) ?_
  rotate_left
  · intro w0 hSw; (try dsimp only at hSw); go_simp; (try with_reducible rfl)
  try simp only [Act.put, List.setIfInBounds_toArray, List.set_cons_zero, List.set_cons_succ]
  refine wpAnyH_take (i := 2) (oi := { dst := some 9, op := Op.fieldAddr 26 (Operand.tmp 2) 2, type := 0, pos := "user.go:32", after := #[], guard := none }) (v := ?_) rfl (by kernel_rfl) (by kernel_rfl) (by kernel_rfl) (fun _ _ _ h => h) (Or.inl ⟨by rfl, ?_⟩) (by assumption) ?_
  rotate_left
  · intro w0 hSw; (try dsimp only at hSw); go_simp; (try with_reducible rfl)
  try simp only [Act.put, List.setIfInBounds_toArray, List.set_cons_zero, List.set_cons_succ]
  refine wpAnyH_take (i := 3) (oi := { dst := some 10, op := Op.load 3 (Operand.tmp 9), type := 3, pos := "user.go:32", after := #[{ on := 2, ground := Ground.data }], guard := none }) (v := ?_) rfl (by kernel_rfl) (by kernel_rfl) (by kernel_rfl) (fun _ _ _ h => h) (Or.inl ⟨by rfl, ?_⟩) (by assumption) ?_
  rotate_left
  · intro w0 hSw; (try dsimp only at hSw); go_simp; (try with_reducible rfl)
  try simp only [Act.put, List.setIfInBounds_toArray, List.set_cons_zero, List.set_cons_succ]
  refine wpAnyH_ready (rs := [1]) (by kernel_rfl) (by simp) ?_
  refine AllReadyH.cons (o := { dst := some 8, op := Op.call { callee := Callee.value (Operand.func 18), args := #[Operand.tmp 7, Operand.const (Value.int IntKind.i64 1099511627776)], argTypes := #[3, 3] }, type := 3, pos := "user.go:32", after := #[{ on := 0, ground := Ground.data }], guard := none }) rfl (fun K hK => ?_) AllReadyH.nil
  go_simp
  refine (keep_any now tMost _).mono ?_; rintro e w5 ⟨rfl, b5⟩
  refine hK.out _ _ ?_ (fun hHeld => ?_)
  · (try dsimp only); first | exact HM.out _ (Box.below hHeld.2 (by assumption)) | exact HM.out _ H1.out.drew
  clear hK K
  try simp only [Act.put, List.setIfInBounds_toArray, List.set_cons_zero, List.set_cons_succ]
  refine wpAnyH_take (i := 4) (oi := { dst := some 11, op := Op.binOp BinOp.quo 3 (Operand.tmp 8) (Operand.tmp 10) 3, type := 3, pos := "user.go:32", after := #[{ on := 1, ground := Ground.data }, { on := 3, ground := Ground.data }], guard := none }) (v := ?_) rfl (by kernel_rfl) (by kernel_rfl) (by kernel_rfl) (fun _ _ _ h => h) (Or.inl ⟨by rfl, ?_⟩) (by assumption) ?_
  rotate_left
  · intro w0 hSw; (try dsimp only at hSw); go_simp; (try with_reducible rfl)
  try simp only [Act.put, List.setIfInBounds_toArray, List.set_cons_zero, List.set_cons_succ]
  refine wpAnyH_take (i := 5) (oi := { dst := some 4, op := Op.assign (Operand.tmp 11), type := 3, pos := "user.go:32", after := #[{ on := 4, ground := Ground.data }, { on := 1, ground := Ground.chain }, { on := 0, ground := Ground.phase }, { on := 1, ground := Ground.phase }, { on := 2, ground := Ground.phase }, { on := 3, ground := Ground.phase }, { on := 4, ground := Ground.phase }], guard := none }) (v := ?_) rfl (by kernel_rfl) (by kernel_rfl) (by kernel_rfl) (fun _ _ _ h => h) (Or.inl ⟨by rfl, ?_⟩) (by assumption) ?_
  rotate_left
  · intro w0 hSw; (try dsimp only at hSw); go_simp; (try with_reducible rfl)
  try simp only [Act.put, List.setIfInBounds_toArray, List.set_cons_zero, List.set_cons_succ]
  refine wpAnyH_done (by kernel_rfl) ?_ _
  go_wp2_with fail
  go_ret
  exact ⟨rfl, hHeld.2.bl⟩
set_option maxHeartbeats 1000000 in
theorem unext_any (k c r now : Int) (w : World) (h1 : 1 ≤ c) (h3 : 1 ≤ r) (h4 : r ≤ 1099511627776) :
    Calls Try.prog 9 #[.agg #[.int .u64 k, .int .i64 c, .int .i64 r], .int .i64 now] w fun e w' => e = .returned (.int .i64 (nxt r now)) ∧ Below w.heap.size w w' := by
  have H0 := Lib.hid (Box.new w k c r)
  have E := Lib.hid (show nxt r now = kp ((trn r now + 1) * r) tMost from rfl)
  have PT := Lib.hid (fun w => uturn_any k c r now w h1 h3 h4)
  obtain ⟨t1, t2, t3, t4, t5, t6⟩ := trn_b r now h3 h4
  have hw1 : IntKind.i64.wrap (trn r now + 1) = trn r now + 1 := IntWalk.i64_in _ (by omega)
  have hw2 : IntKind.i64.wrap ((trn r now + 1) * r) = (trn r now + 1) * r := IntWalk.i64_in _ (by omega)
  have W1 := Lib.hid hw1
  have W2 := Lib.hid hw2
  clear hw1 hw2 t3 t4
  generalize trn r now = tr at *
  go_enter Try.func9, Try.ntmps9
  go_wp2_with fail
  refine (unone_any k c r _ h1 h3).mono ?_; rintro e w1 ⟨rfl, b1⟩
  have H1 := Lib.hid (H0.out.below b1)
  have HM := Lib.hid (fun (W : World) (h : Box w k c r W) => (show (W.cell? ⟨w.heap.size, 0, none⟩ = some (.int .u64 k) ∧ W.cell? ⟨w.heap.size, 1, none⟩ = some (.int .i64 c) ∧ W.cell? ⟨w.heap.size, 2, none⟩ = some (.int .i64 r)) ∧ Box w k c r W from ⟨⟨h.bx.cell 0, h.bx.cell 1, h.bx.cell 2⟩, h⟩))
  clear b1
  have hw1 := W1.out
  have hw2 := W2.out
  go_wp2_with fail
  refine wp_region_held_drew (S := (fun W => (W.cell? ⟨w.heap.size, 0, none⟩ = some (.int .u64 k) ∧ W.cell? ⟨w.heap.size, 1, none⟩ = some (.int .i64 c) ∧ W.cell? ⟨w.heap.size, 2, none⟩ = some (.int .i64 r)) ∧ Box w k c r W)) (by kernel_rfl) ?_ (fun hHeld => ?_)
  · (try dsimp only); first | exact HM.out _ (Box.below hHeld.2 (by assumption)) | exact HM.out _ H1.out.drew
  refine wpAnyH_take (i := 0) (oi := { dst := some 7, op := Op.load 26 (Operand.tmp 2), type := 26, pos := "user.go:40", after := #[], guard := none }) (v := ?_) rfl (by kernel_rfl) (by kernel_rfl) (by kernel_rfl) (fun _ _ _ h => h) (Or.inl ⟨by rfl, ?_⟩) (by assumption) ?_
  rotate_left
  · intro w0 hSw; (try dsimp only at hSw); go_simp; (try with_reducible rfl)
  try simp only [Act.put, List.setIfInBounds_toArray, List.set_cons_zero, List.set_cons_succ]
  refine wpAnyH_take (i := 1) (oi := { dst := some 8, op := Op.move (Operand.tmp 1), type := 3, pos := "user.go:40", after := #[], guard := none }) (v := ?_) rfl (by kernel_rfl) (by kernel_rfl) (by kernel_rfl) (fun _ _ _ h => h) (Or.inl ⟨by rfl, ?_⟩) (by assumption) ?_
  rotate_left
  · intro w0 hSw; (try dsimp only at hSw); go_simp; (try with_reducible rfl)
  try simp only [Act.put, List.setIfInBounds_toArray, List.set_cons_zero, List.set_cons_succ]
  refine wpAnyH_take (i := 4) (oi := { dst := some 11, op := Op.fieldAddr 26 (Operand.tmp 2) 2, type := 0, pos := "user.go:40", after := #[], guard := none }) (v := ?_) rfl (by kernel_rfl) (by kernel_rfl) (by kernel_rfl) (fun _ _ _ h => h) (Or.inl ⟨by rfl, ?_⟩) (by assumption) ?_
  rotate_left
  · intro w0 hSw; (try dsimp only at hSw); go_simp; (try with_reducible rfl)
  try simp only [Act.put, List.setIfInBounds_toArray, List.set_cons_zero, List.set_cons_succ]
  refine wpAnyH_take (i := 5) (oi := { dst := some 12, op := Op.load 3 (Operand.tmp 11), type := 3, pos := "user.go:40", after := #[{ on := 4, ground := Ground.data }], guard := none }) (v := ?_) rfl (by kernel_rfl) (by kernel_rfl) (by kernel_rfl) (fun _ _ _ h => h) (Or.inl ⟨by rfl, ?_⟩) (by assumption) ?_
  rotate_left
  · intro w0 hSw; (try dsimp only at hSw); go_simp; (try with_reducible rfl)
  try simp only [Act.put, List.setIfInBounds_toArray, List.set_cons_zero, List.set_cons_succ]
  refine wpAnyH_ready (rs := [2]) (by kernel_rfl) (by simp) ?_
  refine AllReadyH.cons (o := { dst := some 9, op := Op.call { callee := Callee.value (Operand.func 8), args := #[Operand.tmp 7, Operand.tmp 8], argTypes := #[26, 3] }, type := 3, pos := "user.go:40", after := #[{ on := 0, ground := Ground.data }, { on := 1, ground := Ground.data }], guard := none }) rfl (fun K hK => ?_) AllReadyH.nil
  go_simp
  refine (PT.out _).mono ?_; rintro e w5 ⟨rfl, b5⟩
  refine hK.out _ _ ?_ (fun hHeld => ?_)
  · (try dsimp only); first | exact HM.out _ (Box.below hHeld.2 (by assumption)) | exact HM.out _ H1.out.drew
  clear hK K
  try simp only [Act.put, List.setIfInBounds_toArray, List.set_cons_zero, List.set_cons_succ]
  refine wpAnyH_take (i := 3) (oi := { dst := some 10, op := Op.binOp BinOp.add 3 (Operand.tmp 9) (Operand.const (Value.int IntKind.i64 1)) 3, type := 3, pos := "user.go:40", after := #[{ on := 2, ground := Ground.data }], guard := none }) (v := ?_) rfl (by kernel_rfl) (by kernel_rfl) (by kernel_rfl) (fun _ _ _ h => h) (Or.inl ⟨by rfl, ?_⟩) (by assumption) ?_
  rotate_left
  · intro w0 hSw; (try dsimp only at hSw); go_simp; (try with_reducible rfl)
  try simp only [Act.put, List.setIfInBounds_toArray, List.set_cons_zero, List.set_cons_succ]
  refine wpAnyH_take (i := 6) (oi := { dst := some 13, op := Op.binOp BinOp.mul 3 (Operand.tmp 10) (Operand.tmp 12) 3, type := 3, pos := "user.go:40", after := #[{ on := 3, ground := Ground.data }, { on := 5, ground := Ground.data }], guard := none }) (v := ?_) rfl (by kernel_rfl) (by kernel_rfl) (by kernel_rfl) (fun _ _ _ h => h) (Or.inl ⟨by rfl, ?_⟩) (by assumption) ?_
  rotate_left
  · intro w0 hSw; (try dsimp only at hSw); go_simp; (try with_reducible rfl)
  try simp only [Act.put, List.setIfInBounds_toArray, List.set_cons_zero, List.set_cons_succ]
  refine wpAnyH_ready (rs := [7]) (by kernel_rfl) (by simp) ?_
  refine AllReadyH.cons (o := { dst := some 14, op := Op.call { callee := Callee.value (Operand.func 18), args := #[Operand.tmp 13, Operand.const (Value.int IntKind.i64 1099511627776)], argTypes := #[3, 3] }, type := 3, pos := "user.go:40", after := #[{ on := 6, ground := Ground.data }, { on := 2, ground := Ground.chain }], guard := none }) rfl (fun K hK => ?_) AllReadyH.nil
  go_simp
  refine (keep_any _ tMost _).mono ?_; rintro e w5 ⟨rfl, b5⟩
  refine hK.out _ _ ?_ (fun hHeld => ?_)
  · (try dsimp only); first | exact HM.out _ (Box.below hHeld.2 (by assumption)) | exact HM.out _ H1.out.drew
  clear hK K
  try simp only [Act.put, List.setIfInBounds_toArray, List.set_cons_zero, List.set_cons_succ]
  refine wpAnyH_take (i := 8) (oi := { dst := some 4, op := Op.assign (Operand.tmp 14), type := 3, pos := "user.go:40", after := #[{ on := 7, ground := Ground.data }, { on := 7, ground := Ground.chain }, { on := 0, ground := Ground.phase }, { on := 1, ground := Ground.phase }, { on := 2, ground := Ground.phase }, { on := 3, ground := Ground.phase }, { on := 4, ground := Ground.phase }, { on := 5, ground := Ground.phase }, { on := 6, ground := Ground.phase }, { on := 7, ground := Ground.phase }], guard := none }) (v := ?_) rfl (by kernel_rfl) (by kernel_rfl) (by kernel_rfl) (fun _ _ _ h => h) (Or.inl ⟨by rfl, ?_⟩) (by assumption) ?_
  rotate_left
  · intro w0 hSw; (try dsimp only at hSw); go_simp; (try with_reducible rfl)
  try simp only [Act.put, List.setIfInBounds_toArray, List.set_cons_zero, List.set_cons_succ]
  refine wpAnyH_done (by kernel_rfl) ?_ _
  go_wp2_with fail
  go_ret
  exact ⟨ret_int E.out.symm, hHeld.2.bl⟩
set_option maxHeartbeats 1000000 in
theorem uclass_any (k : Nat) (c r : Int) (u : Nat) (now : Int) (w : World) (h1 : 1 ≤ c) (h2 : c ≤ 16) (h3 : 1 ≤ r) (h4 : r ≤ 1099511627776) (hk : k < M) (hu : u < M) :
    Calls Try.prog 10 #[.agg #[.int .u64 k, .int .i64 c, .int .i64 r], .int .u64 u, .int .i64 now] w fun e w' => e = .returned (.int .i64 (cls k (trn r now).toNat u c)) ∧ Below w.heap.size w w' := by
  have H0 := Lib.hid (Box.new w k c r)
  have PT := Lib.hid (fun w => uturn_any k c r now w h1 h3 h4)
  obtain ⟨t1, t2, _⟩ := trn_b r now h3 h4
  have hw := wn (trn r now) t1 (by omega)
  generalize trn r now = tr at *
  obtain ⟨x, rfl⟩ : ∃ x : Nat, tr = (x : Int) := ⟨tr.toNat, by omega⟩
  rw [Int.toNat_natCast]
  have PC := Lib.hid (fun w => class_any k x u c w ⟨by unfold M; omega, hu⟩ hk (by omega))
  have HM := Lib.hid (fun (W : World) (h : Box w k c r W) => (show (W.cell? ⟨w.heap.size, 0, none⟩ = some (.int .u64 k) ∧ W.cell? ⟨w.heap.size, 1, none⟩ = some (.int .i64 c) ∧ W.cell? ⟨w.heap.size, 2, none⟩ = some (.int .i64 r)) ∧ Box w k c r W from ⟨⟨h.bx.cell 0, h.bx.cell 1, h.bx.cell 2⟩, h⟩))
  go_enter Try.func10, Try.ntmps10
  go_wp2_with fail
  refine wp_region_held_drew (S := (fun W => (W.cell? ⟨w.heap.size, 0, none⟩ = some (.int .u64 k) ∧ W.cell? ⟨w.heap.size, 1, none⟩ = some (.int .i64 c) ∧ W.cell? ⟨w.heap.size, 2, none⟩ = some (.int .i64 r)) ∧ Box w k c r W)) (by kernel_rfl) ?_ (fun hHeld => ?_)
  · (try dsimp only); first | exact HM.out _ (Box.below hHeld.2 (by assumption)) | exact HM.out _ H0.out.drew
  refine wpAnyH_take (i := 0) (oi := { dst := some 7, op := Op.fieldAddr 26 (Operand.tmp 3) 0, type := 0, pos := "user.go:45", after := #[], guard := none }) (v := ?_) rfl (by kernel_rfl) (by kernel_rfl) (by kernel_rfl) (fun _ _ _ h => h) (Or.inl ⟨by rfl, ?_⟩) (by assumption) ?_
  rotate_left
  · intro w0 hSw; (try dsimp only at hSw); go_simp; (try with_reducible rfl)
  try simp only [Act.put, List.setIfInBounds_toArray, List.set_cons_zero, List.set_cons_succ]
  refine wpAnyH_take (i := 1) (oi := { dst := some 8, op := Op.load 22 (Operand.tmp 7), type := 22, pos := "user.go:45", after := #[{ on := 0, ground := Ground.data }], guard := none }) (v := ?_) rfl (by kernel_rfl) (by kernel_rfl) (by kernel_rfl) (fun _ _ _ h => h) (Or.inl ⟨by rfl, ?_⟩) (by assumption) ?_
  rotate_left
  · intro w0 hSw; (try dsimp only at hSw); go_simp; (try with_reducible rfl)
  try simp only [Act.put, List.setIfInBounds_toArray, List.set_cons_zero, List.set_cons_succ]
  refine wpAnyH_take (i := 2) (oi := { dst := some 9, op := Op.load 26 (Operand.tmp 3), type := 26, pos := "user.go:45", after := #[], guard := none }) (v := ?_) rfl (by kernel_rfl) (by kernel_rfl) (by kernel_rfl) (fun _ _ _ h => h) (Or.inl ⟨by rfl, ?_⟩) (by assumption) ?_
  rotate_left
  · intro w0 hSw; (try dsimp only at hSw); go_simp; (try with_reducible rfl)
  try simp only [Act.put, List.setIfInBounds_toArray, List.set_cons_zero, List.set_cons_succ]
  refine wpAnyH_take (i := 3) (oi := { dst := some 10, op := Op.move (Operand.tmp 2), type := 3, pos := "user.go:45", after := #[], guard := none }) (v := ?_) rfl (by kernel_rfl) (by kernel_rfl) (by kernel_rfl) (fun _ _ _ h => h) (Or.inl ⟨by rfl, ?_⟩) (by assumption) ?_
  rotate_left
  · intro w0 hSw; (try dsimp only at hSw); go_simp; (try with_reducible rfl)
  try simp only [Act.put, List.setIfInBounds_toArray, List.set_cons_zero, List.set_cons_succ]
  refine wpAnyH_take (i := 6) (oi := { dst := some 13, op := Op.move (Operand.tmp 1), type := 22, pos := "user.go:45", after := #[], guard := none }) (v := ?_) rfl (by kernel_rfl) (by kernel_rfl) (by kernel_rfl) (fun _ _ _ h => h) (Or.inl ⟨by rfl, ?_⟩) (by assumption) ?_
  rotate_left
  · intro w0 hSw; (try dsimp only at hSw); go_simp; (try with_reducible rfl)
  try simp only [Act.put, List.setIfInBounds_toArray, List.set_cons_zero, List.set_cons_succ]
  refine wpAnyH_take (i := 7) (oi := { dst := some 14, op := Op.fieldAddr 26 (Operand.tmp 3) 1, type := 0, pos := "user.go:45", after := #[], guard := none }) (v := ?_) rfl (by kernel_rfl) (by kernel_rfl) (by kernel_rfl) (fun _ _ _ h => h) (Or.inl ⟨by rfl, ?_⟩) (by assumption) ?_
  rotate_left
  · intro w0 hSw; (try dsimp only at hSw); go_simp; (try with_reducible rfl)
  try simp only [Act.put, List.setIfInBounds_toArray, List.set_cons_zero, List.set_cons_succ]
  refine wpAnyH_take (i := 8) (oi := { dst := some 15, op := Op.load 3 (Operand.tmp 14), type := 3, pos := "user.go:45", after := #[{ on := 7, ground := Ground.data }], guard := none }) (v := ?_) rfl (by kernel_rfl) (by kernel_rfl) (by kernel_rfl) (fun _ _ _ h => h) (Or.inl ⟨by rfl, ?_⟩) (by assumption) ?_
  rotate_left
  · intro w0 hSw; (try dsimp only at hSw); go_simp; (try with_reducible rfl)
  try simp only [Act.put, List.setIfInBounds_toArray, List.set_cons_zero, List.set_cons_succ]
  refine wpAnyH_ready (rs := [4]) (by kernel_rfl) (by simp) ?_
  refine AllReadyH.cons (o := { dst := some 11, op := Op.call { callee := Callee.value (Operand.func 8), args := #[Operand.tmp 9, Operand.tmp 10], argTypes := #[26, 3] }, type := 3, pos := "user.go:45", after := #[{ on := 2, ground := Ground.data }, { on := 3, ground := Ground.data }], guard := none }) rfl (fun K hK => ?_) AllReadyH.nil
  go_simp
  refine (PT.out _).mono ?_; rintro e w5 ⟨rfl, b5⟩
  refine hK.out _ _ ?_ (fun hHeld => ?_)
  · (try dsimp only); first | exact HM.out _ (Box.below hHeld.2 (by assumption)) | exact HM.out _ H0.out.drew
  clear hK K
  try simp only [Act.put, List.setIfInBounds_toArray, List.set_cons_zero, List.set_cons_succ]
  refine wpAnyH_take (i := 5) (oi := { dst := some 12, op := Op.convert 3 22 (Operand.tmp 11), type := 22, pos := "user.go:45", after := #[{ on := 4, ground := Ground.data }], guard := none }) (v := ?_) rfl (by kernel_rfl) (by kernel_rfl) (by kernel_rfl) (fun _ _ _ h => h) (Or.inl ⟨by rfl, ?_⟩) (by assumption) ?_
  rotate_left
  · intro w0 hSw; (try dsimp only at hSw); go_simp; (try with_reducible rfl)
  try simp only [Act.put, List.setIfInBounds_toArray, List.set_cons_zero, List.set_cons_succ]
  refine wpAnyH_ready (rs := [9]) (by kernel_rfl) (by simp) ?_
  refine AllReadyH.cons (o := { dst := some 16, op := Op.call { callee := Callee.value (Operand.func 19), args := #[Operand.tmp 8, Operand.tmp 12, Operand.tmp 13, Operand.tmp 15], argTypes := #[22, 22, 22, 3] }, type := 3, pos := "user.go:45", after := #[{ on := 1, ground := Ground.data }, { on := 5, ground := Ground.data }, { on := 6, ground := Ground.data }, { on := 8, ground := Ground.data }, { on := 4, ground := Ground.chain }], guard := none }) rfl (fun K hK => ?_) AllReadyH.nil
  go_simp
  refine (PC.out _).mono ?_; rintro e w5 ⟨rfl, b5⟩
  refine hK.out _ _ ?_ (fun hHeld => ?_)
  · (try dsimp only); first | exact HM.out _ (Box.below hHeld.2 (by assumption)) | exact HM.out _ H0.out.drew
  clear hK K
  try simp only [Act.put, List.setIfInBounds_toArray, List.set_cons_zero, List.set_cons_succ]
  refine wpAnyH_take (i := 10) (oi := { dst := some 6, op := Op.assign (Operand.tmp 16), type := 3, pos := "user.go:45", after := #[{ on := 9, ground := Ground.data }, { on := 9, ground := Ground.chain }, { on := 0, ground := Ground.phase }, { on := 1, ground := Ground.phase }, { on := 2, ground := Ground.phase }, { on := 3, ground := Ground.phase }, { on := 4, ground := Ground.phase }, { on := 5, ground := Ground.phase }, { on := 6, ground := Ground.phase }, { on := 7, ground := Ground.phase }, { on := 8, ground := Ground.phase }, { on := 9, ground := Ground.phase }], guard := none }) (v := ?_) rfl (by kernel_rfl) (by kernel_rfl) (by kernel_rfl) (fun _ _ _ h => h) (Or.inl ⟨by rfl, ?_⟩) (by assumption) ?_
  rotate_left
  · intro w0 hSw; (try dsimp only at hSw); go_simp; (try with_reducible rfl)
  try simp only [Act.put, List.setIfInBounds_toArray, List.set_cons_zero, List.set_cons_succ]
  refine wpAnyH_done (by kernel_rfl) ?_ _
  go_wp2_with fail
  go_ret
  exact ⟨rfl, hHeld.2.bl⟩
end Go.Proofs.Ytjppoiplcfifcaa
