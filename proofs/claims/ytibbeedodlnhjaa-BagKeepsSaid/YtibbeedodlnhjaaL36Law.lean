/-
  The walks of awake and of the law BagNobody of layer 36; the plain answer Same.
-/
import Derived.Test.YtibbeedodlnhjaaBagTake
namespace Go.Proofs.Ytibbeedodlnhjaa
open Go.RowKit
set_option maxHeartbeats 1000000 in
theorem wsame_any (a a2 : Option Addr) (n cap cap2 : Nat) (l : List ByteArray) (w : World) (h : RowAt w a (strs l)) (h2 : RowAt w a2 (strs l)) (hn : l.length = n) (hl : n ≤ 1000) :
    Calls Try.prog 16 #[.slice a n cap, .slice a2 n cap2] w fun e w' => e = .returned (.bool true) ∧ Below w.heap.size w w' := by
  subst hn
  have HK := Lib.hid h
  have HK2 := Lib.hid h2
  have hne : ((l.length : Int) != (l.length : Int)) = false := by simp
  clear h h2
  go_enter Try.func16, Try.ntmps16
  go_wp2_with fail
  go_loopw [5] (fun i wr => ∃ k : Nat, k ≤ l.length ∧ i = .int .i64 k ∧ Below w.heap.size w wr) (fun i _ => l.length - (intOf i).toNat)
  case atStart => exact ⟨0, Nat.zero_le _, rfl, Below.refl _ _⟩
  case round =>
    obtain ⟨k, hk, rfl, hb⟩ := hrel
    have HB := Lib.hid hb
    clear hb
    by_cases hlt : k < l.length
    · obtain ⟨b, off, ha, c0⟩ := RowAt.get (RowAt.below HK.out (HB.out)) (k := k) (v := .string l[k]) (by simp [strs, List.getElem?_eq_getElem hlt])
      obtain ⟨b2, off2, ha2, d0⟩ := RowAt.get (RowAt.below HK2.out (HB.out)) (k := k) (v := .string l[k]) (by simp [strs, List.getElem?_eq_getElem hlt])
      subst ha ha2
      generalize l[k] = x at *
      go_wp2_with fail
      go_quiet (fail)
      go_wp2_with fail
      go_roundw
      case rel => exact ⟨k + 1, by omega, by go_num, bl_drewN HB.out _⟩
      case measure => simp [intOf]; omega
    · go_wp2_with fail
      go_ret
      exact ⟨rfl, HB.out⟩
set_option maxHeartbeats 2000000 in
theorem awake36 (w : World) : Calls Try.prog 7 #[] w fun e w' => e = .returned (.bool true) ∧ Below w.heap.size w w' := by
  go_enter Try.func7, Try.ntmps7
  go_wp2_with fail
  refine (bnew_ok 3 (by decide) (by decide) _).mono ?_; rintro e w1 ⟨rfl, h1, b1⟩
  have H1 := Lib.hid h1
  have B1 := Lib.hid b1
  clear h1 b1
  go_wp2_with fail
  refine (bput_room ⟨#[97]⟩ (by decide) (by decide) _ H1.out).mono ?_; rintro e w2 ⟨rfl, v2, h2, o2, n2⟩
  have H2 := Lib.hid (show Bg w2 w.heap.size v2 3 [⟨#[97]⟩] from h2)
  have B2 := Lib.hid (Oth.below B1.out o2 B1.out.size (fun i hi => (H1.out.fp_lt i hi).1))
  clear h2 o2 n2 H1 B1
  go_wp2_with fail
  refine (bput_room ⟨#[98]⟩ (by decide) (by decide) _ H2.out).mono ?_; rintro e w3 ⟨rfl, v3, h3, o3, n3⟩
  have H3 := Lib.hid (show Bg w3 w.heap.size v3 3 [⟨#[97]⟩, ⟨#[98]⟩] from h3)
  have B3 := Lib.hid (Oth.below B2.out o3 B2.out.size (fun i hi => (H2.out.fp_lt i hi).1))
  clear h3 o3 n3 H2 B2
  go_wp2_with fail
  refine (btwin_room 0 (by decide) (by decide) (by decide) _ H3.out).mono ?_; rintro e w4 ⟨rfl, v4, h4, o4, n4⟩
  have H4 := Lib.hid (show Bg w4 w.heap.size v4 3 [⟨#[97]⟩, ⟨#[98]⟩, ⟨#[97]⟩] from h4)
  have B4 := Lib.hid (Oth.below B3.out o4 B3.out.size (fun i hi => (H3.out.fp_lt i hi).1))
  clear h4 o4 n4 H3 B3
  go_wp2_with fail
  refine (btake_in 1 (by decide) (by decide) _ H4.out).mono ?_; rintro e w5 ⟨rfl, v5, h5, o5, n5⟩
  have H5 := Lib.hid (show Bg w5 w.heap.size v5 3 [⟨#[97]⟩, ⟨#[97]⟩] from h5)
  have B5 := Lib.hid (Oth.below B4.out o5 B4.out.size (fun i hi => (H4.out.fp_lt i hi).1))
  clear h5 o5 n5 H4 B4
  go_wp2_with fail
  refine (btwin_none 5 _ (bat_far 5 (Or.inr (by decide)) _ (blen_any _ H5.out))).mono ?_; rintro e w' ⟨rfl, rfl⟩
  go_wp2_with fail
  refine (ball_any (by decide) _ H5.out).mono ?_; rintro e w6 ⟨a6, cap6, rfl, r6, b6, _⟩
  have R6 := Lib.hid r6
  have B6 := Lib.hid (B5.out.trans (b6.mono B5.out.size))
  clear r6 b6 H5 B5
  go_wp2_with fail
  refine (wsame_any a6 _ 2 cap6 _ [⟨#[97]⟩, ⟨#[97]⟩] _ (RowAt.below R6.out ((Below.refl _ _).alloc (Nat.le_refl _) _)) (lit_row w6 _ #[.string ⟨#[97]⟩, .string ⟨#[97]⟩]) rfl (by decide)).mono ?_; rintro e w7 ⟨rfl, b7⟩
  have B7 := Lib.hid ((B6.out.alloc B6.out.size _).trans (b7.mono (by have := B6.out.size; simp; omega)))
  clear b7 R6 B6
  go_wp2_with fail
  go_ret
  exact ⟨rfl, B7.out⟩
/-- What is known of all that BagNobody holds. -/
structure No36 (w0 W : World) : Prop where
  bl : Below w0.heap.size w0 W
  b : Bg W w0.heap.size (.slice none 0 0) 0 []
theorem No36.below {w0 W W' : World} (h : No36 w0 W) (k : Below W.heap.size W W') : No36 w0 W' := ⟨h.bl.trans (k.mono h.bl.size), h.b.below k⟩
theorem No36.drew {w0 W : World} (h : No36 w0 W) : No36 w0 W.drew := h.below (Below.refl _ _).drew
set_option maxRecDepth 100000 in
set_option maxHeartbeats 4000000 in
theorem w_BagNobody (w : World) (place : Int) (_ : (Lit.int .i64 place).wf = true) (s : ByteArray) (_ : s.size ≤ maxLen) :
    Calls Try.prog 5 #[.int .i64 place, .string s] w fun e w' => e = .returned (.bool true) ∧ Below w.heap.size w w' := by
  go_enter Try.func5, Try.ntmps5
  go_wp2_with fail
  refine (bat_far (n := 0) place (by omega) _ (blen_nil _)).mono ?_; rintro e w' ⟨rfl, rfl⟩
  have A0 := Lib.hid (show No36 w (w.alloc (.cells #[.slice none 0 0, .int .i64 0] 48)) from ⟨(Below.refl _ _).alloc (Nat.le_refl _) _, Bk.new _ _ _, Row.nil _ _ _⟩)
  go_wp2_with fail
  refine (btake_none place _ (bat_far (n := 0) place (by omega) _ (blen_any _ A0.out.b))).mono ?_; rintro e w' ⟨rfl, rfl⟩
  go_upto_region 5 with (fail)
  refine wpG_go (S := (fun W => True ∧ No36 w W)) ?_ ?_
  · (try dsimp only); first | exact ⟨trivial, No36.below hHeld.2 (by assumption)⟩ | exact ⟨trivial, A0.out.drew⟩ | exact ⟨trivial, A0.out⟩
  refine wpG_step (o := { dst := some 25, op := Op.move (Operand.tmp 5), type := 25, pos := "law.go:125", after := #[], guard := none }) (v := ?_) ?_ ?_
  rotate_left
  · refine gives_pure (by rfl) ?_
    intro w0 hSw; (try dsimp only at hSw); go_simp; (try with_reducible rfl)
  try simp only [Act.put, List.setIfInBounds_toArray, List.set_cons_zero, List.set_cons_succ]
  refine wpG_step (o := { dst := some 26, op := Op.move (Operand.tmp 1), type := 9, pos := "law.go:125", after := #[], guard := none }) (v := ?_) ?_ ?_
  rotate_left
  · refine gives_pure (by rfl) ?_
    intro w0 hSw; (try dsimp only at hSw); go_simp; (try with_reducible rfl)
  try simp only [Act.put, List.setIfInBounds_toArray, List.set_cons_zero, List.set_cons_succ]
  refine wpG_step (o := { dst := some 27, op := Op.call { callee := Callee.value (Operand.func 10), args := #[Operand.tmp 25, Operand.tmp 26], argTypes := #[25, 9] }, type := 4, pos := "law.go:125", after := #[{ on := 0, ground := Ground.data }, { on := 1, ground := Ground.data }], guard := none }) (v := (Value.bool (false))) ?_ ?_
  · refine gives_call (by rfl) ?_
    intro w0 hHeld b0 K0 Q0 hK0; have hSw := hHeld; (try dsimp only at hSw); go_simp; refine (bput_nil s _).mono ?_; rintro e w5 ⟨rfl, b5⟩; exact hK0 _ (by (try dsimp only); first | exact ⟨trivial, No36.below hHeld.2 (by assumption)⟩ | exact ⟨trivial, A0.out.drew⟩ | exact ⟨trivial, A0.out⟩)
  try simp only [Act.put, List.setIfInBounds_toArray, List.set_cons_zero, List.set_cons_succ]
  refine wpG_step (o := { dst := some 28, op := Op.unOp UnOp.not 4 (Operand.tmp 27), type := 4, pos := "law.go:125", after := #[{ on := 2, ground := Ground.data }], guard := none }) (v := (Value.bool (true))) ?_ ?_
  · refine gives_pure (by rfl) ?_
    intro w0 hSw; first | rfl | ((try dsimp only at hSw); go_simp; (try with_reducible rfl))
  try simp only [Act.put, List.setIfInBounds_toArray, List.set_cons_zero, List.set_cons_succ]
  refine wpG_step (o := { dst := some 29, op := Op.move (Operand.tmp 28), type := 4, pos := "law.go:125", after := #[{ on := 3, ground := Ground.data }, { on := 2, ground := Ground.chain }], guard := none }) (v := (Value.bool (true))) ?_ ?_
  · refine gives_pure (by rfl) ?_
    intro w0 hSw; (try dsimp only at hSw); go_simp; (try with_reducible rfl)
  try simp only [Act.put, List.setIfInBounds_toArray, List.set_cons_zero, List.set_cons_succ]
  refine wpG_step (o := { dst := some 30, op := Op.move (Operand.tmp 6), type := 25, pos := "law.go:125", after := #[{ on := 4, ground := Ground.guard }], guard := some (4, true) }) (v := ?_) ?_ ?_
  rotate_left
  · refine gives_pure (by rfl) ?_
    intro w0 hSw; (try dsimp only at hSw); go_simp; (try with_reducible rfl)
  try simp only [Act.put, List.setIfInBounds_toArray, List.set_cons_zero, List.set_cons_succ]
  refine wpG_step (o := { dst := some 31, op := Op.move (Operand.tmp 1), type := 9, pos := "law.go:125", after := #[{ on := 4, ground := Ground.guard }], guard := some (4, true) }) (v := ?_) ?_ ?_
  rotate_left
  · refine gives_pure (by rfl) ?_
    intro w0 hSw; (try dsimp only at hSw); go_simp; (try with_reducible rfl)
  try simp only [Act.put, List.setIfInBounds_toArray, List.set_cons_zero, List.set_cons_succ]
  refine wpG_step (o := { dst := some 32, op := Op.call { callee := Callee.value (Operand.func 10), args := #[Operand.tmp 30, Operand.tmp 31], argTypes := #[25, 9] }, type := 4, pos := "law.go:125", after := #[{ on := 5, ground := Ground.data }, { on := 6, ground := Ground.data }, { on := 4, ground := Ground.chain }, { on := 4, ground := Ground.guard }], guard := some (4, true) }) (v := (Value.bool (false))) ?_ ?_
  · refine gives_call (by rfl) ?_
    intro w0 hHeld b0 K0 Q0 hK0; have hSw := hHeld; (try dsimp only at hSw); go_simp; refine (bput_full s (by decide) _ hHeld.2.b).mono ?_; rintro e w5 ⟨rfl, b5⟩; exact hK0 _ (by (try dsimp only); first | exact ⟨trivial, No36.below hHeld.2 (by assumption)⟩ | exact ⟨trivial, A0.out.drew⟩ | exact ⟨trivial, A0.out⟩)
  try simp only [Act.put, List.setIfInBounds_toArray, List.set_cons_zero, List.set_cons_succ]
  refine wpG_step (o := { dst := some 33, op := Op.unOp UnOp.not 4 (Operand.tmp 32), type := 4, pos := "law.go:125", after := #[{ on := 7, ground := Ground.data }, { on := 4, ground := Ground.guard }], guard := some (4, true) }) (v := (Value.bool (true))) ?_ ?_
  · refine gives_pure (by rfl) ?_
    intro w0 hSw; first | rfl | ((try dsimp only at hSw); go_simp; (try with_reducible rfl))
  try simp only [Act.put, List.setIfInBounds_toArray, List.set_cons_zero, List.set_cons_succ]
  refine wpG_step (o := { dst := some 34, op := Op.pick (Operand.tmp 29) (Operand.tmp 33) (Operand.const (Value.bool false)), type := 4, pos := "law.go:125", after := #[{ on := 4, ground := Ground.data }, { on := 8, ground := Ground.data }], guard := none }) (v := (Value.bool (true))) ?_ ?_
  · refine gives_pure (by rfl) ?_
    intro w0 hSw; first | rfl | ((try dsimp only at hSw); go_simp; (try with_reducible rfl))
  try simp only [Act.put, List.setIfInBounds_toArray, List.set_cons_zero, List.set_cons_succ]
  refine wpG_step (o := { dst := some 35, op := Op.move (Operand.tmp 34), type := 4, pos := "law.go:125", after := #[{ on := 9, ground := Ground.data }, { on := 7, ground := Ground.chain }], guard := none }) (v := (Value.bool (true))) ?_ ?_
  · refine gives_pure (by rfl) ?_
    intro w0 hSw; (try dsimp only at hSw); go_simp; (try with_reducible rfl)
  try simp only [Act.put, List.setIfInBounds_toArray, List.set_cons_zero, List.set_cons_succ]
  refine wpG_step (o := { dst := some 36, op := Op.move (Operand.tmp 8), type := 4, pos := "law.go:125", after := #[{ on := 10, ground := Ground.guard }], guard := some (10, true) }) (v := (Value.bool (false))) ?_ ?_
  · refine gives_pure (by rfl) ?_
    intro w0 hSw; (try dsimp only at hSw); go_simp; (try with_reducible rfl)
  try simp only [Act.put, List.setIfInBounds_toArray, List.set_cons_zero, List.set_cons_succ]
  refine wpG_step (o := { dst := some 37, op := Op.unOp UnOp.not 4 (Operand.tmp 36), type := 4, pos := "law.go:125", after := #[{ on := 11, ground := Ground.data }, { on := 10, ground := Ground.guard }], guard := some (10, true) }) (v := (Value.bool (true))) ?_ ?_
  · refine gives_pure (by rfl) ?_
    intro w0 hSw; first | rfl | ((try dsimp only at hSw); go_simp; (try with_reducible rfl))
  try simp only [Act.put, List.setIfInBounds_toArray, List.set_cons_zero, List.set_cons_succ]
  refine wpG_step (o := { dst := some 38, op := Op.pick (Operand.tmp 35) (Operand.tmp 37) (Operand.const (Value.bool false)), type := 4, pos := "law.go:125", after := #[{ on := 10, ground := Ground.data }, { on := 12, ground := Ground.data }], guard := none }) (v := (Value.bool (true))) ?_ ?_
  · refine gives_pure (by rfl) ?_
    intro w0 hSw; first | rfl | ((try dsimp only at hSw); go_simp; (try with_reducible rfl))
  try simp only [Act.put, List.setIfInBounds_toArray, List.set_cons_zero, List.set_cons_succ]
  refine wpG_step (o := { dst := some 39, op := Op.move (Operand.tmp 38), type := 4, pos := "law.go:125", after := #[{ on := 13, ground := Ground.data }, { on := 10, ground := Ground.chain }], guard := none }) (v := (Value.bool (true))) ?_ ?_
  · refine gives_pure (by rfl) ?_
    intro w0 hSw; (try dsimp only at hSw); go_simp; (try with_reducible rfl)
  try simp only [Act.put, List.setIfInBounds_toArray, List.set_cons_zero, List.set_cons_succ]
  refine wpG_step (o := { dst := some 40, op := Op.move (Operand.tmp 10), type := 4, pos := "law.go:125", after := #[{ on := 14, ground := Ground.guard }], guard := some (14, true) }) (v := (Value.bool (false))) ?_ ?_
  · refine gives_pure (by rfl) ?_
    intro w0 hSw; (try dsimp only at hSw); go_simp; (try with_reducible rfl)
  try simp only [Act.put, List.setIfInBounds_toArray, List.set_cons_zero, List.set_cons_succ]
  refine wpG_step (o := { dst := some 41, op := Op.unOp UnOp.not 4 (Operand.tmp 40), type := 4, pos := "law.go:125", after := #[{ on := 15, ground := Ground.data }, { on := 14, ground := Ground.guard }], guard := some (14, true) }) (v := (Value.bool (true))) ?_ ?_
  · refine gives_pure (by rfl) ?_
    intro w0 hSw; first | rfl | ((try dsimp only at hSw); go_simp; (try with_reducible rfl))
  try simp only [Act.put, List.setIfInBounds_toArray, List.set_cons_zero, List.set_cons_succ]
  refine wpG_step (o := { dst := some 42, op := Op.pick (Operand.tmp 39) (Operand.tmp 41) (Operand.const (Value.bool false)), type := 4, pos := "law.go:125", after := #[{ on := 14, ground := Ground.data }, { on := 16, ground := Ground.data }], guard := none }) (v := (Value.bool (true))) ?_ ?_
  · refine gives_pure (by rfl) ?_
    intro w0 hSw; first | rfl | ((try dsimp only at hSw); go_simp; (try with_reducible rfl))
  try simp only [Act.put, List.setIfInBounds_toArray, List.set_cons_zero, List.set_cons_succ]
  refine wpG_step (o := { dst := some 43, op := Op.move (Operand.tmp 42), type := 4, pos := "law.go:125", after := #[{ on := 17, ground := Ground.data }, { on := 14, ground := Ground.chain }], guard := none }) (v := (Value.bool (true))) ?_ ?_
  · refine gives_pure (by rfl) ?_
    intro w0 hSw; (try dsimp only at hSw); go_simp; (try with_reducible rfl)
  try simp only [Act.put, List.setIfInBounds_toArray, List.set_cons_zero, List.set_cons_succ]
  refine wpG_step (o := { dst := some 44, op := Op.move (Operand.tmp 5), type := 25, pos := "law.go:125", after := #[{ on := 18, ground := Ground.guard }], guard := some (18, true) }) (v := ?_) ?_ ?_
  rotate_left
  · refine gives_pure (by rfl) ?_
    intro w0 hSw; (try dsimp only at hSw); go_simp; (try with_reducible rfl)
  try simp only [Act.put, List.setIfInBounds_toArray, List.set_cons_zero, List.set_cons_succ]
  refine wpG_step (o := { dst := some 45, op := Op.move (Operand.tmp 0), type := 3, pos := "law.go:125", after := #[{ on := 18, ground := Ground.guard }], guard := some (18, true) }) (v := ?_) ?_ ?_
  rotate_left
  · refine gives_pure (by rfl) ?_
    intro w0 hSw; (try dsimp only at hSw); go_simp; (try with_reducible rfl)
  try simp only [Act.put, List.setIfInBounds_toArray, List.set_cons_zero, List.set_cons_succ]
  refine wpG_step (o := { dst := some 46, op := Op.call { callee := Callee.value (Operand.func 14), args := #[Operand.tmp 44, Operand.tmp 45], argTypes := #[25, 3] }, type := 26, pos := "law.go:125", after := #[{ on := 19, ground := Ground.data }, { on := 20, ground := Ground.data }, { on := 18, ground := Ground.chain }, { on := 18, ground := Ground.guard }], guard := some (18, true) }) (v := ?_) ?_ ?_
  rotate_left
  · refine gives_call (by rfl) ?_
    intro w0 hSw b0 K0 Q0 hK0; have hHeld := hSw; (try dsimp only at hSw); go_simp; refine (btwin_none place _ (bat_far (n := 0) place (by omega) _ (blen_nil _))).mono ?_; rintro e w' ⟨rfl, rfl⟩; exact hK0 _ hHeld
  try simp only [Act.put, List.setIfInBounds_toArray, List.set_cons_zero, List.set_cons_succ]
  refine wpG_step (o := { dst := some 47, op := Op.binOp BinOp.eql 26 (Operand.tmp 46) (Operand.const (Value.int IntKind.i64 7)) 26, type := 4, pos := "law.go:125", after := #[{ on := 21, ground := Ground.data }, { on := 18, ground := Ground.guard }], guard := some (18, true) }) (v := (Value.bool (true))) ?_ ?_
  · refine gives_pure (by rfl) ?_
    intro w0 hSw; first | rfl | ((try dsimp only at hSw); go_simp; (try with_reducible rfl))
  try simp only [Act.put, List.setIfInBounds_toArray, List.set_cons_zero, List.set_cons_succ]
  refine wpG_step (o := { dst := some 48, op := Op.pick (Operand.tmp 43) (Operand.tmp 47) (Operand.const (Value.bool false)), type := 4, pos := "law.go:125", after := #[{ on := 18, ground := Ground.data }, { on := 22, ground := Ground.data }], guard := none }) (v := (Value.bool (true))) ?_ ?_
  · refine gives_pure (by rfl) ?_
    intro w0 hSw; first | rfl | ((try dsimp only at hSw); go_simp; (try with_reducible rfl))
  try simp only [Act.put, List.setIfInBounds_toArray, List.set_cons_zero, List.set_cons_succ]
  refine wpG_step (o := { dst := some 49, op := Op.move (Operand.tmp 48), type := 4, pos := "law.go:125", after := #[{ on := 23, ground := Ground.data }, { on := 21, ground := Ground.chain }], guard := none }) (v := (Value.bool (true))) ?_ ?_
  · refine gives_pure (by rfl) ?_
    intro w0 hSw; (try dsimp only at hSw); go_simp; (try with_reducible rfl)
  try simp only [Act.put, List.setIfInBounds_toArray, List.set_cons_zero, List.set_cons_succ]
  refine wpG_step (o := { dst := some 50, op := Op.move (Operand.tmp 6), type := 25, pos := "law.go:125", after := #[{ on := 24, ground := Ground.guard }], guard := some (24, true) }) (v := ?_) ?_ ?_
  rotate_left
  · refine gives_pure (by rfl) ?_
    intro w0 hSw; (try dsimp only at hSw); go_simp; (try with_reducible rfl)
  try simp only [Act.put, List.setIfInBounds_toArray, List.set_cons_zero, List.set_cons_succ]
  refine wpG_step (o := { dst := some 51, op := Op.move (Operand.tmp 0), type := 3, pos := "law.go:125", after := #[{ on := 24, ground := Ground.guard }], guard := some (24, true) }) (v := ?_) ?_ ?_
  rotate_left
  · refine gives_pure (by rfl) ?_
    intro w0 hSw; (try dsimp only at hSw); go_simp; (try with_reducible rfl)
  try simp only [Act.put, List.setIfInBounds_toArray, List.set_cons_zero, List.set_cons_succ]
  refine wpG_step (o := { dst := some 52, op := Op.call { callee := Callee.value (Operand.func 14), args := #[Operand.tmp 50, Operand.tmp 51], argTypes := #[25, 3] }, type := 26, pos := "law.go:125", after := #[{ on := 25, ground := Ground.data }, { on := 26, ground := Ground.data }, { on := 24, ground := Ground.chain }, { on := 24, ground := Ground.guard }], guard := some (24, true) }) (v := ?_) ?_ ?_
  rotate_left
  · refine gives_call (by rfl) ?_
    intro w0 hSw b0 K0 Q0 hK0; have hHeld := hSw; (try dsimp only at hSw); go_simp; refine (btwin_none place _ (bat_far (n := 0) place (by omega) _ (blen_any _ hHeld.2.b))).mono ?_; rintro e w' ⟨rfl, rfl⟩; exact hK0 _ hHeld
  try simp only [Act.put, List.setIfInBounds_toArray, List.set_cons_zero, List.set_cons_succ]
  refine wpG_step (o := { dst := some 53, op := Op.binOp BinOp.eql 26 (Operand.tmp 52) (Operand.const (Value.int IntKind.i64 7)) 26, type := 4, pos := "law.go:125", after := #[{ on := 27, ground := Ground.data }, { on := 24, ground := Ground.guard }], guard := some (24, true) }) (v := (Value.bool (true))) ?_ ?_
  · refine gives_pure (by rfl) ?_
    intro w0 hSw; first | rfl | ((try dsimp only at hSw); go_simp; (try with_reducible rfl))
  try simp only [Act.put, List.setIfInBounds_toArray, List.set_cons_zero, List.set_cons_succ]
  refine wpG_step (o := { dst := some 54, op := Op.pick (Operand.tmp 49) (Operand.tmp 53) (Operand.const (Value.bool false)), type := 4, pos := "law.go:125", after := #[{ on := 24, ground := Ground.data }, { on := 28, ground := Ground.data }], guard := none }) (v := (Value.bool (true))) ?_ ?_
  · refine gives_pure (by rfl) ?_
    intro w0 hSw; first | rfl | ((try dsimp only at hSw); go_simp; (try with_reducible rfl))
  try simp only [Act.put, List.setIfInBounds_toArray, List.set_cons_zero, List.set_cons_succ]
  refine wpG_step (o := { dst := some 55, op := Op.move (Operand.tmp 54), type := 4, pos := "law.go:125", after := #[{ on := 29, ground := Ground.data }, { on := 27, ground := Ground.chain }], guard := none }) (v := (Value.bool (true))) ?_ ?_
  · refine gives_pure (by rfl) ?_
    intro w0 hSw; (try dsimp only at hSw); go_simp; (try with_reducible rfl)
  try simp only [Act.put, List.setIfInBounds_toArray, List.set_cons_zero, List.set_cons_succ]
  refine wpG_step (o := { dst := some 56, op := Op.move (Operand.tmp 5), type := 25, pos := "law.go:125", after := #[{ on := 30, ground := Ground.guard }], guard := some (30, true) }) (v := ?_) ?_ ?_
  rotate_left
  · refine gives_pure (by rfl) ?_
    intro w0 hSw; (try dsimp only at hSw); go_simp; (try with_reducible rfl)
  try simp only [Act.put, List.setIfInBounds_toArray, List.set_cons_zero, List.set_cons_succ]
  refine wpG_step (o := { dst := some 57, op := Op.call { callee := Callee.value (Operand.func 18), args := #[Operand.tmp 56], argTypes := #[25] }, type := 3, pos := "law.go:125", after := #[{ on := 31, ground := Ground.data }, { on := 30, ground := Ground.chain }, { on := 30, ground := Ground.guard }], guard := some (30, true) }) (v := ?_) ?_ ?_
  rotate_left
  · refine gives_call (by rfl) ?_
    intro w0 hSw b0 K0 Q0 hK0; have hHeld := hSw; (try dsimp only at hSw); go_simp; refine (blen_nil _).mono ?_; rintro e w' ⟨rfl, rfl⟩; exact hK0 _ hHeld
  try simp only [Act.put, List.setIfInBounds_toArray, List.set_cons_zero, List.set_cons_succ]
  refine wpG_step (o := { dst := some 58, op := Op.move (Operand.tmp 6), type := 25, pos := "law.go:125", after := #[{ on := 30, ground := Ground.guard }], guard := some (30, true) }) (v := ?_) ?_ ?_
  rotate_left
  · refine gives_pure (by rfl) ?_
    intro w0 hSw; (try dsimp only at hSw); go_simp; (try with_reducible rfl)
  try simp only [Act.put, List.setIfInBounds_toArray, List.set_cons_zero, List.set_cons_succ]
  refine wpG_step (o := { dst := some 59, op := Op.call { callee := Callee.value (Operand.func 18), args := #[Operand.tmp 58], argTypes := #[25] }, type := 3, pos := "law.go:125", after := #[{ on := 33, ground := Ground.data }, { on := 32, ground := Ground.chain }, { on := 30, ground := Ground.guard }], guard := some (30, true) }) (v := ?_) ?_ ?_
  rotate_left
  · refine gives_call (by rfl) ?_
    intro w0 hSw b0 K0 Q0 hK0; have hHeld := hSw; (try dsimp only at hSw); go_simp; refine (blen_any _ hHeld.2.b).mono ?_; rintro e w' ⟨rfl, rfl⟩; exact hK0 _ hHeld
  try simp only [Act.put, List.setIfInBounds_toArray, List.set_cons_zero, List.set_cons_succ]
  refine wpG_step (o := { dst := some 60, op := Op.binOp BinOp.add 3 (Operand.tmp 57) (Operand.tmp 59) 3, type := 3, pos := "law.go:125", after := #[{ on := 32, ground := Ground.data }, { on := 34, ground := Ground.data }, { on := 30, ground := Ground.guard }], guard := some (30, true) }) (v := ?_) ?_ ?_
  rotate_left
  · refine gives_pure (by rfl) ?_
    intro w0 hSw; (try dsimp only at hSw); go_simp; (try with_reducible rfl)
  try simp only [Act.put, List.setIfInBounds_toArray, List.set_cons_zero, List.set_cons_succ]
  refine wpG_step (o := { dst := some 61, op := Op.move (Operand.tmp 5), type := 25, pos := "law.go:125", after := #[{ on := 30, ground := Ground.guard }], guard := some (30, true) }) (v := ?_) ?_ ?_
  rotate_left
  · refine gives_pure (by rfl) ?_
    intro w0 hSw; (try dsimp only at hSw); go_simp; (try with_reducible rfl)
  try simp only [Act.put, List.setIfInBounds_toArray, List.set_cons_zero, List.set_cons_succ]
  refine wpG_step (o := { dst := some 62, op := Op.call { callee := Callee.value (Operand.func 17), args := #[Operand.tmp 61], argTypes := #[25] }, type := 29, pos := "law.go:125", after := #[{ on := 36, ground := Ground.data }, { on := 34, ground := Ground.chain }, { on := 30, ground := Ground.guard }], guard := some (30, true) }) (v := ?_) ?_ ?_
  rotate_left
  · refine gives_call (by rfl) ?_
    intro w0 hSw b0 K0 Q0 hK0; have hHeld := hSw; (try dsimp only at hSw); go_simp; refine (ball_nil _ (blen_nil _)).mono ?_; rintro e w' ⟨rfl, rfl⟩; exact hK0 _ hHeld
  try simp only [Act.put, List.setIfInBounds_toArray, List.set_cons_zero, List.set_cons_succ]
  refine wpG_step (o := { dst := some 63, op := Op.call { callee := Callee.builtin Builtin.len, args := #[Operand.tmp 62], argTypes := #[29] }, type := 3, pos := "law.go:125", after := #[{ on := 37, ground := Ground.data }, { on := 30, ground := Ground.guard }], guard := some (30, true) }) (v := ?_) ?_ ?_
  rotate_left
  · refine gives_pure (by rfl) ?_
    intro w0 hSw; (try dsimp only at hSw); go_simp; (try with_reducible rfl)
  try simp only [Act.put, List.setIfInBounds_toArray, List.set_cons_zero, List.set_cons_succ]
  refine wpG_step (o := { dst := some 64, op := Op.binOp BinOp.add 3 (Operand.tmp 60) (Operand.tmp 63) 3, type := 3, pos := "law.go:125", after := #[{ on := 35, ground := Ground.data }, { on := 38, ground := Ground.data }, { on := 30, ground := Ground.guard }], guard := some (30, true) }) (v := ?_) ?_ ?_
  rotate_left
  · refine gives_pure (by rfl) ?_
    intro w0 hSw; (try dsimp only at hSw); go_simp; (try with_reducible rfl)
  try simp only [Act.put, List.setIfInBounds_toArray, List.set_cons_zero, List.set_cons_succ]
  refine wpG_step (o := { dst := some 65, op := Op.move (Operand.tmp 6), type := 25, pos := "law.go:125", after := #[{ on := 30, ground := Ground.guard }], guard := some (30, true) }) (v := ?_) ?_ ?_
  rotate_left
  · refine gives_pure (by rfl) ?_
    intro w0 hSw; (try dsimp only at hSw); go_simp; (try with_reducible rfl)
  try simp only [Act.put, List.setIfInBounds_toArray, List.set_cons_zero, List.set_cons_succ]
  refine wpG_step (o := { dst := some 66, op := Op.call { callee := Callee.value (Operand.func 17), args := #[Operand.tmp 65], argTypes := #[25] }, type := 29, pos := "law.go:125", after := #[{ on := 40, ground := Ground.data }, { on := 37, ground := Ground.chain }, { on := 30, ground := Ground.guard }], guard := some (30, true) }) (v := ?_) ?_ ?_
  rotate_left
  · refine gives_call (by rfl) ?_
    intro w0 hSw b0 K0 Q0 hK0; have hHeld := hSw; (try dsimp only at hSw); go_simp; refine (ball_nil _ (blen_any _ hHeld.2.b)).mono ?_; rintro e w' ⟨rfl, rfl⟩; exact hK0 _ hHeld
  try simp only [Act.put, List.setIfInBounds_toArray, List.set_cons_zero, List.set_cons_succ]
  refine wpG_step (o := { dst := some 67, op := Op.call { callee := Callee.builtin Builtin.len, args := #[Operand.tmp 66], argTypes := #[29] }, type := 3, pos := "law.go:125", after := #[{ on := 41, ground := Ground.data }, { on := 30, ground := Ground.guard }], guard := some (30, true) }) (v := ?_) ?_ ?_
  rotate_left
  · refine gives_pure (by rfl) ?_
    intro w0 hSw; (try dsimp only at hSw); go_simp; (try with_reducible rfl)
  try simp only [Act.put, List.setIfInBounds_toArray, List.set_cons_zero, List.set_cons_succ]
  refine wpG_step (o := { dst := some 68, op := Op.binOp BinOp.add 3 (Operand.tmp 64) (Operand.tmp 67) 3, type := 3, pos := "law.go:125", after := #[{ on := 39, ground := Ground.data }, { on := 42, ground := Ground.data }, { on := 30, ground := Ground.guard }], guard := some (30, true) }) (v := ?_) ?_ ?_
  rotate_left
  · refine gives_pure (by rfl) ?_
    intro w0 hSw; (try dsimp only at hSw); go_simp; (try with_reducible rfl)
  try simp only [Act.put, List.setIfInBounds_toArray, List.set_cons_zero, List.set_cons_succ]
  refine wpG_step (o := { dst := some 69, op := Op.binOp BinOp.eql 3 (Operand.tmp 68) (Operand.const (Value.int IntKind.i64 0)) 3, type := 4, pos := "law.go:125", after := #[{ on := 43, ground := Ground.data }, { on := 30, ground := Ground.guard }], guard := some (30, true) }) (v := (Value.bool (true))) ?_ ?_
  · refine gives_pure (by rfl) ?_
    intro w0 hSw; first | rfl | ((try dsimp only at hSw); go_simp; (try with_reducible rfl))
  try simp only [Act.put, List.setIfInBounds_toArray, List.set_cons_zero, List.set_cons_succ]
  refine wpG_step (o := { dst := some 70, op := Op.pick (Operand.tmp 55) (Operand.tmp 69) (Operand.const (Value.bool false)), type := 4, pos := "law.go:125", after := #[{ on := 30, ground := Ground.data }, { on := 44, ground := Ground.data }], guard := none }) (v := (Value.bool (true))) ?_ ?_
  · refine gives_pure (by rfl) ?_
    intro w0 hSw; first | rfl | ((try dsimp only at hSw); go_simp; (try with_reducible rfl))
  try simp only [Act.put, List.setIfInBounds_toArray, List.set_cons_zero, List.set_cons_succ]
  refine wpG_step (o := { dst := some 71, op := Op.move (Operand.tmp 70), type := 4, pos := "law.go:125", after := #[{ on := 45, ground := Ground.data }, { on := 41, ground := Ground.chain }], guard := none }) (v := (Value.bool (true))) ?_ ?_
  · refine gives_pure (by rfl) ?_
    intro w0 hSw; (try dsimp only at hSw); go_simp; (try with_reducible rfl)
  try simp only [Act.put, List.setIfInBounds_toArray, List.set_cons_zero, List.set_cons_succ]
  refine wpG_step (o := { dst := some 72, op := Op.call { callee := Callee.value (Operand.func 7), args := #[], argTypes := #[] }, type := 4, pos := "law.go:125", after := #[{ on := 46, ground := Ground.chain }, { on := 46, ground := Ground.guard }], guard := some (46, true) }) (v := (Value.bool (true))) ?_ ?_
  · refine gives_call (by rfl) ?_
    intro w0 hHeld b0 K0 Q0 hK0; have hSw := hHeld; (try dsimp only at hSw); go_simp; refine (awake36 _).mono ?_; rintro e w5 ⟨rfl, b5⟩; exact hK0 _ (by (try dsimp only); first | exact ⟨trivial, No36.below hHeld.2 (by assumption)⟩ | exact ⟨trivial, A0.out.drew⟩ | exact ⟨trivial, A0.out⟩)
  try simp only [Act.put, List.setIfInBounds_toArray, List.set_cons_zero, List.set_cons_succ]
  refine wpG_step (o := { dst := some 73, op := Op.pick (Operand.tmp 71) (Operand.tmp 72) (Operand.const (Value.bool false)), type := 4, pos := "law.go:125", after := #[{ on := 46, ground := Ground.data }, { on := 47, ground := Ground.data }], guard := none }) (v := (Value.bool (true))) ?_ ?_
  · refine gives_pure (by rfl) ?_
    intro w0 hSw; first | rfl | ((try dsimp only at hSw); go_simp; (try with_reducible rfl))
  try simp only [Act.put, List.setIfInBounds_toArray, List.set_cons_zero, List.set_cons_succ]
  refine wpG_step (o := { dst := some 4, op := Op.assign (Operand.tmp 73), type := 4, pos := "law.go:125", after := #[{ on := 48, ground := Ground.data }, { on := 47, ground := Ground.chain }, { on := 0, ground := Ground.phase }, { on := 1, ground := Ground.phase }, { on := 2, ground := Ground.phase }, { on := 3, ground := Ground.phase }, { on := 4, ground := Ground.phase }, { on := 5, ground := Ground.phase }, { on := 6, ground := Ground.phase }, { on := 7, ground := Ground.phase }, { on := 8, ground := Ground.phase }, { on := 9, ground := Ground.phase }, { on := 10, ground := Ground.phase }, { on := 11, ground := Ground.phase }, { on := 12, ground := Ground.phase }, { on := 13, ground := Ground.phase }, { on := 14, ground := Ground.phase }, { on := 15, ground := Ground.phase }, { on := 16, ground := Ground.phase }, { on := 17, ground := Ground.phase }, { on := 18, ground := Ground.phase }, { on := 19, ground := Ground.phase }, { on := 20, ground := Ground.phase }, { on := 21, ground := Ground.phase }, { on := 22, ground := Ground.phase }, { on := 23, ground := Ground.phase }, { on := 24, ground := Ground.phase }, { on := 25, ground := Ground.phase }, { on := 26, ground := Ground.phase }, { on := 27, ground := Ground.phase }, { on := 28, ground := Ground.phase }, { on := 29, ground := Ground.phase }, { on := 30, ground := Ground.phase }, { on := 31, ground := Ground.phase }, { on := 32, ground := Ground.phase }, { on := 33, ground := Ground.phase }, { on := 34, ground := Ground.phase }, { on := 35, ground := Ground.phase }, { on := 36, ground := Ground.phase }, { on := 37, ground := Ground.phase }, { on := 38, ground := Ground.phase }, { on := 39, ground := Ground.phase }, { on := 40, ground := Ground.phase }, { on := 41, ground := Ground.phase }, { on := 42, ground := Ground.phase }, { on := 43, ground := Ground.phase }, { on := 44, ground := Ground.phase }, { on := 45, ground := Ground.phase }, { on := 46, ground := Ground.phase }, { on := 47, ground := Ground.phase }, { on := 48, ground := Ground.phase }], guard := none }) (v := (Value.bool (true))) ?_ ?_
  · refine gives_pure (by rfl) ?_
    intro w0 hSw; (try dsimp only at hSw); go_simp; (try with_reducible rfl)
  try simp only [Act.put, List.setIfInBounds_toArray, List.set_cons_zero, List.set_cons_succ]
  refine wpG_done (fun wz hHeld => ?_)
  go_wp2_with fail
  go_ret
  exact ⟨rfl, hHeld.2.bl⟩
end Go.Proofs.Ytibbeedodlnhjaa
