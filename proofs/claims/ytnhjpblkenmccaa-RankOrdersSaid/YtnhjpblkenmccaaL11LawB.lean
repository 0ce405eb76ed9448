/-
  The walks of awake and of the law RankOrders of layer 11.
-/
import Derived.Test.YtnhjpblkenmccaaL11Law
import Derived.Deep.Cut
namespace Go.Proofs.Ytnhjpblkenmccaa
open Go.RowKit Bd Rk
def endV (f : Nat → Int) (now : Int) : Int := if f 4 < leftT now (f 5) then 4 else 0
theorem ends_late (f : Nat → Int) (now : Int) (h : f 3 ≤ now) (w : World) : Calls Try.prog 17 #[.agg #[.int .i64 (f 0), .int .i64 (f 1), .int .i64 (f 2), .int .i64 (f 3), .int .i64 (f 4), .int .i64 (f 5), .int .i64 (f 6)], .int .i64 now] w fun e w' => e = .returned (.int .i64 3) ∧ Below w.heap.size w w' := by
  go_enter Try.func17, Try.ntmps17
  go_wp2_with fail
  go_ret
  exact ⟨rfl, (Below.refl _ _).alloc (Nat.le_refl _) _⟩
set_option maxHeartbeats 1000000 in
theorem ends_any (f : Nat → Int) (now : Int) (h : ¬ f 3 ≤ now) (w : World) : Calls Try.prog 17 #[.agg #[.int .i64 (f 0), .int .i64 (f 1), .int .i64 (f 2), .int .i64 (f 3), .int .i64 (f 4), .int .i64 (f 5), .int .i64 (f 6)], .int .i64 now] w fun e w' => e = .returned (.int .i64 (endV f now)) ∧ Below w.heap.size w w' := by
  have h1 := dle_f (a := f 3) (b := now) (by omega)
  have L := Lib.hid (left_any now (f 5))
  obtain ⟨lf, hlf⟩ : ∃ x, leftT now (f 5) = x := ⟨_, rfl⟩
  rw [hlf] at L
  have HL := Lib.hid hlf
  clear h hlf
  go_enter Try.func17, Try.ntmps17
  go_wp2_with fail
  have X := Lib.hid (Bk.new w 23 #[.int .i64 (f 0), .int .i64 (f 1), .int .i64 (f 2), .int .i64 (f 3), .int .i64 (f 4), .int .i64 (f 5), .int .i64 (f 6)])
  have X5 := X.out.cell 5
  have X4 := X.out.cell 4
  have B0 := Lib.hid ((Below.refl w.heap.size w).alloc (Nat.le_refl _) (.cells #[.int .i64 (f 0), .int .i64 (f 1), .int .i64 (f 2), .int .i64 (f 3), .int .i64 (f 4), .int .i64 (f 5), .int .i64 (f 6)] 23))
  generalize World.alloc w _ = W at *
  clear X4 X5
  rcases (by omega : f 4 < lf ∨ lf ≤ f 4) with h2 | h2
  all_goals
    have h3 := Lib.hid h2
    first
      | (have h2' := dlt_t h3.out)
      | (have h2' := dlt_f h3.out)
    clear h2
    refine wp_region_held_drew (S := (fun W' => (W'.cell? ⟨w.heap.size, 5, none⟩ = some (.int .i64 (f 5)) ∧ W'.cell? ⟨w.heap.size, 4, none⟩ = some (.int .i64 (f 4))) ∧ Below w.heap.size w W' ∧ Bk W' w.heap.size 23 #[.int .i64 (f 0), .int .i64 (f 1), .int .i64 (f 2), .int .i64 (f 3), .int .i64 (f 4), .int .i64 (f 5), .int .i64 (f 6)])) (by kernel_rfl) ?_ (fun hHeld => ?_)
    · (try dsimp only); first | exact ⟨⟨(hHeld.2.2.below (by assumption)).cell 5, (hHeld.2.2.below (by assumption)).cell 4⟩, below_step (Nat.le_refl _) hHeld.2.1 (by assumption), hHeld.2.2.below (by assumption)⟩ | exact ⟨⟨X.out.cell 5, X.out.cell 4⟩, B0.out.drew, X.out⟩
    refine wpD_go (by kernel_rfl) _ _ _ _ (by assumption) ?_
    refine wpD_step (i := 0) (o := { dst := some 11, op := Op.move (Operand.tmp 1), type := 3, pos := "rank.go:64", after := #[], guard := none }) (v := ?_) rfl (by kernel_rfl) (by kernel_rfl) ?_ ?_
    rotate_left
    · refine gives_pure (by rfl) ?_
      intro w0 hSw; (try dsimp only at hSw); go_simp; (try with_reducible rfl)
    try simp only [Act.put, List.setIfInBounds_toArray, List.set_cons_zero, List.set_cons_succ]
    refine wpD_step (i := 1) (o := { dst := some 12, op := Op.fieldAddr 23 (Operand.tmp 2) 5, type := 0, pos := "rank.go:64", after := #[], guard := none }) (v := ?_) rfl (by kernel_rfl) (by kernel_rfl) ?_ ?_
    rotate_left
    · refine gives_pure (by rfl) ?_
      intro w0 hSw; (try dsimp only at hSw); go_simp; (try with_reducible rfl)
    try simp only [Act.put, List.setIfInBounds_toArray, List.set_cons_zero, List.set_cons_succ]
    refine wpD_step (i := 2) (o := { dst := some 13, op := Op.load 3 (Operand.tmp 12), type := 3, pos := "rank.go:64", after := #[{ on := 1, ground := Ground.data }], guard := none }) (v := ?_) rfl (by kernel_rfl) (by kernel_rfl) ?_ ?_
    rotate_left
    · refine gives_pure (by rfl) ?_
      intro w0 hSw; (try dsimp only at hSw); go_simp; (try with_reducible rfl)
    try simp only [Act.put, List.setIfInBounds_toArray, List.set_cons_zero, List.set_cons_succ]
    refine wpD_step (i := 4) (o := { dst := some 15, op := Op.fieldAddr 23 (Operand.tmp 2) 4, type := 0, pos := "rank.go:64", after := #[], guard := none }) (v := ?_) rfl (by kernel_rfl) (by kernel_rfl) ?_ ?_
    rotate_left
    · refine gives_pure (by rfl) ?_
      intro w0 hSw; (try dsimp only at hSw); go_simp; (try with_reducible rfl)
    try simp only [Act.put, List.setIfInBounds_toArray, List.set_cons_zero, List.set_cons_succ]
    refine wpD_step (i := 5) (o := { dst := some 16, op := Op.load 3 (Operand.tmp 15), type := 3, pos := "rank.go:64", after := #[{ on := 4, ground := Ground.data }], guard := none }) (v := ?_) rfl (by kernel_rfl) (by kernel_rfl) ?_ ?_
    rotate_left
    · refine gives_pure (by rfl) ?_
      intro w0 hSw; (try dsimp only at hSw); go_simp; (try with_reducible rfl)
    try simp only [Act.put, List.setIfInBounds_toArray, List.set_cons_zero, List.set_cons_succ]
    refine wpD_step (i := 3) (o := { dst := some 14, op := Op.call { callee := Callee.value (Operand.func 25), args := #[Operand.tmp 11, Operand.tmp 13], argTypes := #[3, 3] }, type := 3, pos := "rank.go:64", after := #[{ on := 0, ground := Ground.data }, { on := 2, ground := Ground.data }], guard := none }) (v := ?_) rfl (by kernel_rfl) (by kernel_rfl) ?_ ?_
    rotate_left
    · refine gives_call (by rfl) ?_
      intro w0 hHeld b0 K0 Q0 hK0; have hSw := hHeld; (try dsimp only at hSw); go_simp; refine (L.out _).mono ?_; rintro e w5 ⟨rfl, b5⟩; exact hK0 _ (by (try dsimp only); first | exact ⟨⟨(hHeld.2.2.below (by assumption)).cell 5, (hHeld.2.2.below (by assumption)).cell 4⟩, below_step (Nat.le_refl _) hHeld.2.1 (by assumption), hHeld.2.2.below (by assumption)⟩ | exact ⟨⟨X.out.cell 5, X.out.cell 4⟩, B0.out.drew, X.out⟩)
    try simp only [Act.put, List.setIfInBounds_toArray, List.set_cons_zero, List.set_cons_succ]
    refine wpD_step (i := 6) (o := { dst := some 17, op := Op.binOp BinOp.gtr 3 (Operand.tmp 14) (Operand.tmp 16) 3, type := 4, pos := "rank.go:64", after := #[{ on := 3, ground := Ground.data }, { on := 5, ground := Ground.data }], guard := none }) (v := ?_) rfl (by kernel_rfl) (by kernel_rfl) ?_ ?_
    rotate_left
    · refine gives_pure (by rfl) ?_
      intro w0 hSw; (try dsimp only at hSw); go_simp; (try with_reducible rfl)
    try simp only [Act.put, List.setIfInBounds_toArray, List.set_cons_zero, List.set_cons_succ]
    refine wpD_step (i := 7) (o := { dst := some 10, op := Op.assign (Operand.tmp 17), type := 4, pos := "rank.go:64", after := #[{ on := 6, ground := Ground.data }, { on := 3, ground := Ground.chain }], guard := none }) (v := ?_) rfl (by kernel_rfl) (by kernel_rfl) ?_ ?_
    rotate_left
    · refine gives_pure (by rfl) ?_
      intro w0 hSw; (try dsimp only at hSw); go_simp; (try with_reducible rfl)
    try simp only [Act.put, List.setIfInBounds_toArray, List.set_cons_zero, List.set_cons_succ]
    refine wpD_done (by kernel_rfl) (fun wz hHeld => ?_) _
    go_wp2_with fail
    go_ret
    exact ⟨ret_int (by unfold endV; rw [HL.out]; first | rw [if_pos h3.out] | rw [if_neg (by have := h3.out; omega)]), hHeld.2.1⟩
/-- What awake holds. -/
structure Aw11 (w0 W : World) : Prop where
  bl : Below w0.heap.size w0 W
  x : Bk W w0.heap.size 23 #[.int .i64 0, .int .i64 0, .int .i64 0, .int .i64 5, .int .i64 0, .int .i64 0, .int .i64 9]
  y : Bk W (w0.heap.size + 1) 23 #[.int .i64 0, .int .i64 0, .int .i64 0, .int .i64 6, .int .i64 0, .int .i64 0, .int .i64 1]
  z : Bk W (w0.heap.size + 2) 23 #[.int .i64 0, .int .i64 0, .int .i64 0, .int .i64 9, .int .i64 3, .int .i64 2, .int .i64 0]
theorem Aw11.below {w0 W W' : World} (h : Aw11 w0 W) (k : Below W.heap.size W W') : Aw11 w0 W' := ⟨h.bl.trans (k.mono h.bl.size), h.x.below k, h.y.below k, h.z.below k⟩
theorem Aw11.drew {w0 W : World} (h : Aw11 w0 W) : Aw11 w0 W.drew := h.below (Below.refl _ _).drew
theorem Aw11.s {w0 W : World} (h : Aw11 w0 W) : (W.cell? ⟨w0.heap.size, 0, none⟩ = some (.int .i64 0) ∧ W.cell? ⟨w0.heap.size, 1, none⟩ = some (.int .i64 0) ∧ W.cell? ⟨w0.heap.size, 2, none⟩ = some (.int .i64 0) ∧ W.cell? ⟨w0.heap.size, 3, none⟩ = some (.int .i64 5) ∧ W.cell? ⟨w0.heap.size, 4, none⟩ = some (.int .i64 0) ∧ W.cell? ⟨w0.heap.size, 5, none⟩ = some (.int .i64 0) ∧ W.cell? ⟨w0.heap.size, 6, none⟩ = some (.int .i64 9) ∧ W.cell? ⟨w0.heap.size + 1, 0, none⟩ = some (.int .i64 0) ∧ W.cell? ⟨w0.heap.size + 1, 1, none⟩ = some (.int .i64 0) ∧ W.cell? ⟨w0.heap.size + 1, 2, none⟩ = some (.int .i64 0) ∧ W.cell? ⟨w0.heap.size + 1, 3, none⟩ = some (.int .i64 6) ∧ W.cell? ⟨w0.heap.size + 1, 4, none⟩ = some (.int .i64 0) ∧ W.cell? ⟨w0.heap.size + 1, 5, none⟩ = some (.int .i64 0) ∧ W.cell? ⟨w0.heap.size + 1, 6, none⟩ = some (.int .i64 1) ∧ W.cell? ⟨w0.heap.size + 2, 0, none⟩ = some (.int .i64 0) ∧ W.cell? ⟨w0.heap.size + 2, 1, none⟩ = some (.int .i64 0) ∧ W.cell? ⟨w0.heap.size + 2, 2, none⟩ = some (.int .i64 0) ∧ W.cell? ⟨w0.heap.size + 2, 3, none⟩ = some (.int .i64 9) ∧ W.cell? ⟨w0.heap.size + 2, 4, none⟩ = some (.int .i64 3) ∧ W.cell? ⟨w0.heap.size + 2, 5, none⟩ = some (.int .i64 2) ∧ W.cell? ⟨w0.heap.size + 2, 6, none⟩ = some (.int .i64 0)) ∧ Aw11 w0 W :=
  ⟨⟨h.x.cell 0, h.x.cell 1, h.x.cell 2, h.x.cell 3, h.x.cell 4, h.x.cell 5, h.x.cell 6, h.y.cell 0, h.y.cell 1, h.y.cell 2, h.y.cell 3, h.y.cell 4, h.y.cell 5, h.y.cell 6, h.z.cell 0, h.z.cell 1, h.z.cell 2, h.z.cell 3, h.z.cell 4, h.z.cell 5, h.z.cell 6⟩, h⟩
def iA : Nat → Int := fun i => match i with | 3 => 5 | 6 => 9 | _ => 0
def iB : Nat → Int := fun i => match i with | 3 => 6 | 6 => 1 | _ => 0
def iC : Nat → Int := fun i => match i with | 3 => 9 | 5 => 2 | 4 => 3 | _ => 0
def iV : Nat → Nat → Int := fun i j => if i = 0 then (if j = 1 then 3 else 0) else if i = 1 then (if j = 1 then 7 else if j = 3 then 4 else 0) else (if j = 1 then 7 else if j = 3 then 6 else 0)
set_option maxRecDepth 100000 in
set_option maxHeartbeats 4000000 in
theorem awake11 (w : World) : Calls Try.prog 9 #[] w fun e w' => e = .returned (.bool true) ∧ Below w.heap.size w w' := by
  have P1 := Lib.hid (show ∀ W, Calls Try.prog 5 #[.agg #[.int .i64 0, .int .i64 0, .int .i64 0, .int .i64 5, .int .i64 0, .int .i64 0, .int .i64 9], .agg #[.int .i64 0, .int .i64 0, .int .i64 0, .int .i64 6, .int .i64 0, .int .i64 0, .int .i64 1]] W (fun e w' => e = .returned (.bool true) ∧ Below W.heap.size W w') from fun W => by have := before_any iA iB W; rw [show bef iA iB = true by decide] at this; exact this)
  have P2 := Lib.hid (show ∀ W, Calls Try.prog 5 #[.agg #[.int .i64 0, .int .i64 0, .int .i64 0, .int .i64 6, .int .i64 0, .int .i64 0, .int .i64 1], .agg #[.int .i64 0, .int .i64 0, .int .i64 0, .int .i64 5, .int .i64 0, .int .i64 0, .int .i64 9]] W (fun e w' => e = .returned (.bool false) ∧ Below W.heap.size W w') from fun W => by have := before_any iB iA W; rw [show bef iB iA = false by decide] at this; exact this)
  have P3 := Lib.hid (show ∀ W, Calls Try.prog 7 #[.agg #[.int .i64 0, .int .i64 0, .int .i64 0, .int .i64 6, .int .i64 0, .int .i64 0, .int .i64 1], .agg #[.int .i64 0, .int .i64 0, .int .i64 0, .int .i64 5, .int .i64 0, .int .i64 0, .int .i64 9]] W (fun e w' => e = .returned (.bool true) ∧ Below W.heap.size W w') from fun W => by have := worse_any iB iA W; rw [show wor iB iA = true by decide] at this; exact this)
  have P4 := Lib.hid (show ∀ W, Calls Try.prog 17 #[.agg #[.int .i64 0, .int .i64 0, .int .i64 0, .int .i64 9, .int .i64 3, .int .i64 2, .int .i64 0], .int .i64 5] W (fun e w' => e = .returned (.int .i64 0) ∧ Below W.heap.size W w') from fun W => by have := ends_any iC 5 (by decide) W; rw [show endV iC 5 = 0 by decide] at this; exact this)
  have P5 := Lib.hid (show ∀ W, Calls Try.prog 17 #[.agg #[.int .i64 0, .int .i64 0, .int .i64 0, .int .i64 9, .int .i64 3, .int .i64 2, .int .i64 0], .int .i64 6] W (fun e w' => e = .returned (.int .i64 4) ∧ Below W.heap.size W w') from fun W => by have := ends_any iC 6 (by decide) W; rw [show endV iC 6 = 4 by decide] at this; exact this)
  have P6 := Lib.hid (show ∀ W, Calls Try.prog 17 #[.agg #[.int .i64 0, .int .i64 0, .int .i64 0, .int .i64 9, .int .i64 3, .int .i64 2, .int .i64 0], .int .i64 9] W (fun e w' => e = .returned (.int .i64 3) ∧ Below W.heap.size W w') from fun W => ends_late iC 9 (by decide) W)
  go_enter Try.func9, Try.ntmps9
  go_wp2_with fail
  refine (victim_any _ 3 3 iV _ ?_ (by decide)).mono ?_
  · refine fld_bk (Bk.new' (by simp)) (fun i j hi hj => ?_)
    rcases (by omega : i = 0 ∨ i = 1 ∨ i = 2) with rfl | rfl | rfl
    all_goals
      rcases (by omega : j = 0 ∨ j = 1 ∨ j = 2 ∨ j = 3 ∨ j = 4 ∨ j = 5 ∨ j = 6) with rfl | rfl | rfl | rfl | rfl | rfl | rfl
      all_goals rfl
  rintro e w1 ⟨rfl, b1⟩
  rw [show vicN iV 3 = 2 by decide, show decide (0 < 3) = true from rfl]
  have A1 := Lib.hid (show Aw11 w w1 from by
    have X := Bk.new w 23 #[.int .i64 0, .int .i64 0, .int .i64 0, .int .i64 5, .int .i64 0, .int .i64 0, .int .i64 9]
    have Y : Bk ((w.alloc (.cells #[.int .i64 0, .int .i64 0, .int .i64 0, .int .i64 5, .int .i64 0, .int .i64 0, .int .i64 9] 23)).alloc (.cells #[.int .i64 0, .int .i64 0, .int .i64 0, .int .i64 6, .int .i64 0, .int .i64 0, .int .i64 1] 23)) (w.heap.size + 1) 23 #[.int .i64 0, .int .i64 0, .int .i64 0, .int .i64 6, .int .i64 0, .int .i64 0, .int .i64 1] := Bk.new' (by simp)
    have Z : Bk (((w.alloc (.cells #[.int .i64 0, .int .i64 0, .int .i64 0, .int .i64 5, .int .i64 0, .int .i64 0, .int .i64 9] 23)).alloc (.cells #[.int .i64 0, .int .i64 0, .int .i64 0, .int .i64 6, .int .i64 0, .int .i64 0, .int .i64 1] 23)).alloc (.cells #[.int .i64 0, .int .i64 0, .int .i64 0, .int .i64 9, .int .i64 3, .int .i64 2, .int .i64 0] 23)) (w.heap.size + 2) 23 #[.int .i64 0, .int .i64 0, .int .i64 0, .int .i64 9, .int .i64 3, .int .i64 2, .int .i64 0] := Bk.new' (by simp)
    have up := fun (W : World) (o : Obj) => (Below.refl W.heap.size W).alloc (Nat.le_refl _) o
    exact ⟨((((up w _).trans ((up _ _).mono (by simp))).trans ((up _ _).mono (by simp; omega))).trans ((up _ _).mono (by simp; omega))).trans (b1.mono (by simp; omega)), ((((X.below (up _ _)).below (up _ _)).below (up _ _))).below b1, (((Y.below (up _ _)).below (up _ _))).below b1, (Z.below (up _ _)).below b1⟩)
  clear b1
  go_upto_region 4 with (fail)
  refine wpG_go (S := (fun W => (W.cell? ⟨w.heap.size, 0, none⟩ = some (.int .i64 0) ∧ W.cell? ⟨w.heap.size, 1, none⟩ = some (.int .i64 0) ∧ W.cell? ⟨w.heap.size, 2, none⟩ = some (.int .i64 0) ∧ W.cell? ⟨w.heap.size, 3, none⟩ = some (.int .i64 5) ∧ W.cell? ⟨w.heap.size, 4, none⟩ = some (.int .i64 0) ∧ W.cell? ⟨w.heap.size, 5, none⟩ = some (.int .i64 0) ∧ W.cell? ⟨w.heap.size, 6, none⟩ = some (.int .i64 9) ∧ W.cell? ⟨w.heap.size + 1, 0, none⟩ = some (.int .i64 0) ∧ W.cell? ⟨w.heap.size + 1, 1, none⟩ = some (.int .i64 0) ∧ W.cell? ⟨w.heap.size + 1, 2, none⟩ = some (.int .i64 0) ∧ W.cell? ⟨w.heap.size + 1, 3, none⟩ = some (.int .i64 6) ∧ W.cell? ⟨w.heap.size + 1, 4, none⟩ = some (.int .i64 0) ∧ W.cell? ⟨w.heap.size + 1, 5, none⟩ = some (.int .i64 0) ∧ W.cell? ⟨w.heap.size + 1, 6, none⟩ = some (.int .i64 1) ∧ W.cell? ⟨w.heap.size + 2, 0, none⟩ = some (.int .i64 0) ∧ W.cell? ⟨w.heap.size + 2, 1, none⟩ = some (.int .i64 0) ∧ W.cell? ⟨w.heap.size + 2, 2, none⟩ = some (.int .i64 0) ∧ W.cell? ⟨w.heap.size + 2, 3, none⟩ = some (.int .i64 9) ∧ W.cell? ⟨w.heap.size + 2, 4, none⟩ = some (.int .i64 3) ∧ W.cell? ⟨w.heap.size + 2, 5, none⟩ = some (.int .i64 2) ∧ W.cell? ⟨w.heap.size + 2, 6, none⟩ = some (.int .i64 0)) ∧ Aw11 w W)) ?_ ?_
  · (try dsimp only); first | exact (Aw11.below hHeld.2 (by assumption)).s | exact A1.out.drew.s | exact A1.out.s
  refine wpG_step (o := { dst := some 17, op := Op.load 23 (Operand.tmp 1), type := 23, pos := "law.go:15", after := #[], guard := none }) (v := ?_) ?_ ?_
  rotate_left
  · refine gives_pure (by rfl) ?_
    intro w0 hSw; (try dsimp only at hSw); go_simp; (try with_reducible rfl)
  try simp only [Act.put, List.setIfInBounds_toArray, List.set_cons_zero, List.set_cons_succ]
  refine wpG_step (o := { dst := some 18, op := Op.load 23 (Operand.tmp 2), type := 23, pos := "law.go:15", after := #[], guard := none }) (v := ?_) ?_ ?_
  rotate_left
  · refine gives_pure (by rfl) ?_
    intro w0 hSw; (try dsimp only at hSw); go_simp; (try with_reducible rfl)
  try simp only [Act.put, List.setIfInBounds_toArray, List.set_cons_zero, List.set_cons_succ]
  refine wpG_step (o := { dst := some 19, op := Op.call { callee := Callee.value (Operand.func 5), args := #[Operand.tmp 17, Operand.tmp 18], argTypes := #[23, 23] }, type := 4, pos := "law.go:15", after := #[{ on := 0, ground := Ground.data }, { on := 1, ground := Ground.data }], guard := none }) (v := (Value.bool (true))) ?_ ?_
  · refine gives_call (by rfl) ?_
    intro w0 hHeld b0 K0 Q0 hK0; have hSw := hHeld; (try dsimp only at hSw); go_simp; refine (P1.out _).mono ?_; rintro e w5 ⟨rfl, b5⟩; exact hK0 _ (by (try dsimp only); first | exact (Aw11.below hHeld.2 (by assumption)).s | exact A1.out.drew.s | exact A1.out.s)
  try simp only [Act.put, List.setIfInBounds_toArray, List.set_cons_zero, List.set_cons_succ]
  refine wpG_step (o := { dst := some 20, op := Op.move (Operand.tmp 19), type := 4, pos := "law.go:15", after := #[{ on := 2, ground := Ground.data }, { on := 2, ground := Ground.chain }], guard := none }) (v := (Value.bool (true))) ?_ ?_
  · refine gives_pure (by rfl) ?_
    intro w0 hSw; (try dsimp only at hSw); go_simp; (try with_reducible rfl)
  try simp only [Act.put, List.setIfInBounds_toArray, List.set_cons_zero, List.set_cons_succ]
  refine wpG_step (o := { dst := some 21, op := Op.load 23 (Operand.tmp 2), type := 23, pos := "law.go:15", after := #[{ on := 3, ground := Ground.guard }], guard := some (3, true) }) (v := ?_) ?_ ?_
  rotate_left
  · refine gives_pure (by rfl) ?_
    intro w0 hSw; (try dsimp only at hSw); go_simp; (try with_reducible rfl)
  try simp only [Act.put, List.setIfInBounds_toArray, List.set_cons_zero, List.set_cons_succ]
  refine wpG_step (o := { dst := some 22, op := Op.load 23 (Operand.tmp 1), type := 23, pos := "law.go:15", after := #[{ on := 3, ground := Ground.guard }], guard := some (3, true) }) (v := ?_) ?_ ?_
  rotate_left
  · refine gives_pure (by rfl) ?_
    intro w0 hSw; (try dsimp only at hSw); go_simp; (try with_reducible rfl)
  try simp only [Act.put, List.setIfInBounds_toArray, List.set_cons_zero, List.set_cons_succ]
  refine wpG_step (o := { dst := some 23, op := Op.call { callee := Callee.value (Operand.func 5), args := #[Operand.tmp 21, Operand.tmp 22], argTypes := #[23, 23] }, type := 4, pos := "law.go:15", after := #[{ on := 4, ground := Ground.data }, { on := 5, ground := Ground.data }, { on := 3, ground := Ground.chain }, { on := 3, ground := Ground.guard }], guard := some (3, true) }) (v := (Value.bool (false))) ?_ ?_
  · refine gives_call (by rfl) ?_
    intro w0 hHeld b0 K0 Q0 hK0; have hSw := hHeld; (try dsimp only at hSw); go_simp; refine (P2.out _).mono ?_; rintro e w5 ⟨rfl, b5⟩; exact hK0 _ (by (try dsimp only); first | exact (Aw11.below hHeld.2 (by assumption)).s | exact A1.out.drew.s | exact A1.out.s)
  try simp only [Act.put, List.setIfInBounds_toArray, List.set_cons_zero, List.set_cons_succ]
  refine wpG_step (o := { dst := some 24, op := Op.unOp UnOp.not 4 (Operand.tmp 23), type := 4, pos := "law.go:15", after := #[{ on := 6, ground := Ground.data }, { on := 3, ground := Ground.guard }], guard := some (3, true) }) (v := (Value.bool (true))) ?_ ?_
  · refine gives_pure (by rfl) ?_
    intro w0 hSw; first | rfl | ((try dsimp only at hSw); go_simp; (try with_reducible rfl))
  try simp only [Act.put, List.setIfInBounds_toArray, List.set_cons_zero, List.set_cons_succ]
  refine wpG_step (o := { dst := some 25, op := Op.pick (Operand.tmp 20) (Operand.tmp 24) (Operand.const (Value.bool false)), type := 4, pos := "law.go:15", after := #[{ on := 3, ground := Ground.data }, { on := 7, ground := Ground.data }], guard := none }) (v := (Value.bool (true))) ?_ ?_
  · refine gives_pure (by rfl) ?_
    intro w0 hSw; first | rfl | ((try dsimp only at hSw); go_simp; (try with_reducible rfl))
  try simp only [Act.put, List.setIfInBounds_toArray, List.set_cons_zero, List.set_cons_succ]
  refine wpG_step (o := { dst := some 26, op := Op.move (Operand.tmp 25), type := 4, pos := "law.go:15", after := #[{ on := 8, ground := Ground.data }, { on := 6, ground := Ground.chain }], guard := none }) (v := (Value.bool (true))) ?_ ?_
  · refine gives_pure (by rfl) ?_
    intro w0 hSw; (try dsimp only at hSw); go_simp; (try with_reducible rfl)
  try simp only [Act.put, List.setIfInBounds_toArray, List.set_cons_zero, List.set_cons_succ]
  refine wpG_step (o := { dst := some 27, op := Op.load 23 (Operand.tmp 2), type := 23, pos := "law.go:15", after := #[{ on := 9, ground := Ground.guard }], guard := some (9, true) }) (v := ?_) ?_ ?_
  rotate_left
  · refine gives_pure (by rfl) ?_
    intro w0 hSw; (try dsimp only at hSw); go_simp; (try with_reducible rfl)
  try simp only [Act.put, List.setIfInBounds_toArray, List.set_cons_zero, List.set_cons_succ]
  refine wpG_step (o := { dst := some 28, op := Op.load 23 (Operand.tmp 1), type := 23, pos := "law.go:15", after := #[{ on := 9, ground := Ground.guard }], guard := some (9, true) }) (v := ?_) ?_ ?_
  rotate_left
  · refine gives_pure (by rfl) ?_
    intro w0 hSw; (try dsimp only at hSw); go_simp; (try with_reducible rfl)
  try simp only [Act.put, List.setIfInBounds_toArray, List.set_cons_zero, List.set_cons_succ]
  refine wpG_step (o := { dst := some 29, op := Op.call { callee := Callee.value (Operand.func 7), args := #[Operand.tmp 27, Operand.tmp 28], argTypes := #[23, 23] }, type := 4, pos := "law.go:15", after := #[{ on := 10, ground := Ground.data }, { on := 11, ground := Ground.data }, { on := 9, ground := Ground.chain }, { on := 9, ground := Ground.guard }], guard := some (9, true) }) (v := (Value.bool (true))) ?_ ?_
  · refine gives_call (by rfl) ?_
    intro w0 hHeld b0 K0 Q0 hK0; have hSw := hHeld; (try dsimp only at hSw); go_simp; refine (P3.out _).mono ?_; rintro e w5 ⟨rfl, b5⟩; exact hK0 _ (by (try dsimp only); first | exact (Aw11.below hHeld.2 (by assumption)).s | exact A1.out.drew.s | exact A1.out.s)
  try simp only [Act.put, List.setIfInBounds_toArray, List.set_cons_zero, List.set_cons_succ]
  refine wpG_step (o := { dst := some 30, op := Op.pick (Operand.tmp 26) (Operand.tmp 29) (Operand.const (Value.bool false)), type := 4, pos := "law.go:15", after := #[{ on := 9, ground := Ground.data }, { on := 12, ground := Ground.data }], guard := none }) (v := (Value.bool (true))) ?_ ?_
  · refine gives_pure (by rfl) ?_
    intro w0 hSw; first | rfl | ((try dsimp only at hSw); go_simp; (try with_reducible rfl))
  try simp only [Act.put, List.setIfInBounds_toArray, List.set_cons_zero, List.set_cons_succ]
  refine wpG_step (o := { dst := some 31, op := Op.move (Operand.tmp 30), type := 4, pos := "law.go:15", after := #[{ on := 13, ground := Ground.data }, { on := 12, ground := Ground.chain }], guard := none }) (v := (Value.bool (true))) ?_ ?_
  · refine gives_pure (by rfl) ?_
    intro w0 hSw; (try dsimp only at hSw); go_simp; (try with_reducible rfl)
  try simp only [Act.put, List.setIfInBounds_toArray, List.set_cons_zero, List.set_cons_succ]
  refine wpG_step (o := { dst := some 32, op := Op.move (Operand.tmp 4), type := 3, pos := "law.go:15", after := #[{ on := 14, ground := Ground.guard }], guard := some (14, true) }) (v := ?_) ?_ ?_
  rotate_left
  · refine gives_pure (by rfl) ?_
    intro w0 hSw; (try dsimp only at hSw); go_simp; (try with_reducible rfl)
  try simp only [Act.put, List.setIfInBounds_toArray, List.set_cons_zero, List.set_cons_succ]
  refine wpG_step (o := { dst := some 33, op := Op.binOp BinOp.eql 3 (Operand.tmp 32) (Operand.const (Value.int IntKind.i64 2)) 3, type := 4, pos := "law.go:15", after := #[{ on := 15, ground := Ground.data }, { on := 14, ground := Ground.guard }], guard := some (14, true) }) (v := (Value.bool (true))) ?_ ?_
  · refine gives_pure (by rfl) ?_
    intro w0 hSw; first | rfl | ((try dsimp only at hSw); go_simp; (try with_reducible rfl))
  try simp only [Act.put, List.setIfInBounds_toArray, List.set_cons_zero, List.set_cons_succ]
  refine wpG_step (o := { dst := some 34, op := Op.pick (Operand.tmp 31) (Operand.tmp 33) (Operand.const (Value.bool false)), type := 4, pos := "law.go:15", after := #[{ on := 14, ground := Ground.data }, { on := 16, ground := Ground.data }], guard := none }) (v := (Value.bool (true))) ?_ ?_
  · refine gives_pure (by rfl) ?_
    intro w0 hSw; first | rfl | ((try dsimp only at hSw); go_simp; (try with_reducible rfl))
  try simp only [Act.put, List.setIfInBounds_toArray, List.set_cons_zero, List.set_cons_succ]
  refine wpG_step (o := { dst := some 35, op := Op.move (Operand.tmp 34), type := 4, pos := "law.go:15", after := #[{ on := 17, ground := Ground.data }, { on := 14, ground := Ground.chain }], guard := none }) (v := (Value.bool (true))) ?_ ?_
  · refine gives_pure (by rfl) ?_
    intro w0 hSw; (try dsimp only at hSw); go_simp; (try with_reducible rfl)
  try simp only [Act.put, List.setIfInBounds_toArray, List.set_cons_zero, List.set_cons_succ]
  refine wpG_step (o := { dst := some 36, op := Op.move (Operand.tmp 5), type := 4, pos := "law.go:15", after := #[{ on := 18, ground := Ground.guard }], guard := some (18, true) }) (v := (Value.bool (true))) ?_ ?_
  · refine gives_pure (by rfl) ?_
    intro w0 hSw; (try dsimp only at hSw); go_simp; (try with_reducible rfl)
  try simp only [Act.put, List.setIfInBounds_toArray, List.set_cons_zero, List.set_cons_succ]
  refine wpG_step (o := { dst := some 37, op := Op.pick (Operand.tmp 35) (Operand.tmp 36) (Operand.const (Value.bool false)), type := 4, pos := "law.go:15", after := #[{ on := 18, ground := Ground.data }, { on := 19, ground := Ground.data }], guard := none }) (v := (Value.bool (true))) ?_ ?_
  · refine gives_pure (by rfl) ?_
    intro w0 hSw; first | rfl | ((try dsimp only at hSw); go_simp; (try with_reducible rfl))
  try simp only [Act.put, List.setIfInBounds_toArray, List.set_cons_zero, List.set_cons_succ]
  refine wpG_step (o := { dst := some 38, op := Op.move (Operand.tmp 37), type := 4, pos := "law.go:15", after := #[{ on := 20, ground := Ground.data }, { on := 18, ground := Ground.chain }], guard := none }) (v := (Value.bool (true))) ?_ ?_
  · refine gives_pure (by rfl) ?_
    intro w0 hSw; (try dsimp only at hSw); go_simp; (try with_reducible rfl)
  try simp only [Act.put, List.setIfInBounds_toArray, List.set_cons_zero, List.set_cons_succ]
  refine wpG_step (o := { dst := some 39, op := Op.load 23 (Operand.tmp 3), type := 23, pos := "law.go:15", after := #[{ on := 21, ground := Ground.guard }], guard := some (21, true) }) (v := ?_) ?_ ?_
  rotate_left
  · refine gives_pure (by rfl) ?_
    intro w0 hSw; (try dsimp only at hSw); go_simp; (try with_reducible rfl)
  try simp only [Act.put, List.setIfInBounds_toArray, List.set_cons_zero, List.set_cons_succ]
  refine wpG_step (o := { dst := some 40, op := Op.call { callee := Callee.value (Operand.func 17), args := #[Operand.tmp 39, Operand.const (Value.int IntKind.i64 5)], argTypes := #[23, 3] }, type := 3, pos := "law.go:15", after := #[{ on := 22, ground := Ground.data }, { on := 21, ground := Ground.chain }, { on := 21, ground := Ground.guard }], guard := some (21, true) }) (v := ?_) ?_ ?_
  rotate_left
  · refine gives_call (by rfl) ?_
    intro w0 hHeld b0 K0 Q0 hK0; have hSw := hHeld; (try dsimp only at hSw); go_simp; refine (P4.out _).mono ?_; rintro e w5 ⟨rfl, b5⟩; exact hK0 _ (by (try dsimp only); first | exact (Aw11.below hHeld.2 (by assumption)).s | exact A1.out.drew.s | exact A1.out.s)
  try simp only [Act.put, List.setIfInBounds_toArray, List.set_cons_zero, List.set_cons_succ]
  refine wpG_step (o := { dst := some 41, op := Op.binOp BinOp.eql 3 (Operand.tmp 40) (Operand.const (Value.int IntKind.i64 0)) 3, type := 4, pos := "law.go:15", after := #[{ on := 23, ground := Ground.data }, { on := 21, ground := Ground.guard }], guard := some (21, true) }) (v := (Value.bool (true))) ?_ ?_
  · refine gives_pure (by rfl) ?_
    intro w0 hSw; first | rfl | ((try dsimp only at hSw); go_simp; (try with_reducible rfl))
  try simp only [Act.put, List.setIfInBounds_toArray, List.set_cons_zero, List.set_cons_succ]
  refine wpG_step (o := { dst := some 42, op := Op.pick (Operand.tmp 38) (Operand.tmp 41) (Operand.const (Value.bool false)), type := 4, pos := "law.go:15", after := #[{ on := 21, ground := Ground.data }, { on := 24, ground := Ground.data }], guard := none }) (v := (Value.bool (true))) ?_ ?_
  · refine gives_pure (by rfl) ?_
    intro w0 hSw; first | rfl | ((try dsimp only at hSw); go_simp; (try with_reducible rfl))
  try simp only [Act.put, List.setIfInBounds_toArray, List.set_cons_zero, List.set_cons_succ]
  refine wpG_step (o := { dst := some 43, op := Op.move (Operand.tmp 42), type := 4, pos := "law.go:15", after := #[{ on := 25, ground := Ground.data }, { on := 23, ground := Ground.chain }], guard := none }) (v := (Value.bool (true))) ?_ ?_
  · refine gives_pure (by rfl) ?_
    intro w0 hSw; (try dsimp only at hSw); go_simp; (try with_reducible rfl)
  try simp only [Act.put, List.setIfInBounds_toArray, List.set_cons_zero, List.set_cons_succ]
  refine wpG_step (o := { dst := some 44, op := Op.load 23 (Operand.tmp 3), type := 23, pos := "law.go:15", after := #[{ on := 26, ground := Ground.guard }], guard := some (26, true) }) (v := ?_) ?_ ?_
  rotate_left
  · refine gives_pure (by rfl) ?_
    intro w0 hSw; (try dsimp only at hSw); go_simp; (try with_reducible rfl)
  try simp only [Act.put, List.setIfInBounds_toArray, List.set_cons_zero, List.set_cons_succ]
  refine wpG_step (o := { dst := some 45, op := Op.call { callee := Callee.value (Operand.func 17), args := #[Operand.tmp 44, Operand.const (Value.int IntKind.i64 6)], argTypes := #[23, 3] }, type := 3, pos := "law.go:15", after := #[{ on := 27, ground := Ground.data }, { on := 26, ground := Ground.chain }, { on := 26, ground := Ground.guard }], guard := some (26, true) }) (v := ?_) ?_ ?_
  rotate_left
  · refine gives_call (by rfl) ?_
    intro w0 hHeld b0 K0 Q0 hK0; have hSw := hHeld; (try dsimp only at hSw); go_simp; refine (P5.out _).mono ?_; rintro e w5 ⟨rfl, b5⟩; exact hK0 _ (by (try dsimp only); first | exact (Aw11.below hHeld.2 (by assumption)).s | exact A1.out.drew.s | exact A1.out.s)
  try simp only [Act.put, List.setIfInBounds_toArray, List.set_cons_zero, List.set_cons_succ]
  refine wpG_step (o := { dst := some 46, op := Op.binOp BinOp.eql 3 (Operand.tmp 45) (Operand.const (Value.int IntKind.i64 4)) 3, type := 4, pos := "law.go:15", after := #[{ on := 28, ground := Ground.data }, { on := 26, ground := Ground.guard }], guard := some (26, true) }) (v := (Value.bool (true))) ?_ ?_
  · refine gives_pure (by rfl) ?_
    intro w0 hSw; first | rfl | ((try dsimp only at hSw); go_simp; (try with_reducible rfl))
  try simp only [Act.put, List.setIfInBounds_toArray, List.set_cons_zero, List.set_cons_succ]
  refine wpG_step (o := { dst := some 47, op := Op.pick (Operand.tmp 43) (Operand.tmp 46) (Operand.const (Value.bool false)), type := 4, pos := "law.go:15", after := #[{ on := 26, ground := Ground.data }, { on := 29, ground := Ground.data }], guard := none }) (v := (Value.bool (true))) ?_ ?_
  · refine gives_pure (by rfl) ?_
    intro w0 hSw; first | rfl | ((try dsimp only at hSw); go_simp; (try with_reducible rfl))
  try simp only [Act.put, List.setIfInBounds_toArray, List.set_cons_zero, List.set_cons_succ]
  refine wpG_step (o := { dst := some 48, op := Op.move (Operand.tmp 47), type := 4, pos := "law.go:15", after := #[{ on := 30, ground := Ground.data }, { on := 28, ground := Ground.chain }], guard := none }) (v := (Value.bool (true))) ?_ ?_
  · refine gives_pure (by rfl) ?_
    intro w0 hSw; (try dsimp only at hSw); go_simp; (try with_reducible rfl)
  try simp only [Act.put, List.setIfInBounds_toArray, List.set_cons_zero, List.set_cons_succ]
  refine wpG_step (o := { dst := some 49, op := Op.load 23 (Operand.tmp 3), type := 23, pos := "law.go:15", after := #[{ on := 31, ground := Ground.guard }], guard := some (31, true) }) (v := ?_) ?_ ?_
  rotate_left
  · refine gives_pure (by rfl) ?_
    intro w0 hSw; (try dsimp only at hSw); go_simp; (try with_reducible rfl)
  try simp only [Act.put, List.setIfInBounds_toArray, List.set_cons_zero, List.set_cons_succ]
  refine wpG_step (o := { dst := some 50, op := Op.call { callee := Callee.value (Operand.func 17), args := #[Operand.tmp 49, Operand.const (Value.int IntKind.i64 9)], argTypes := #[23, 3] }, type := 3, pos := "law.go:15", after := #[{ on := 32, ground := Ground.data }, { on := 31, ground := Ground.chain }, { on := 31, ground := Ground.guard }], guard := some (31, true) }) (v := ?_) ?_ ?_
  rotate_left
  · refine gives_call (by rfl) ?_
    intro w0 hHeld b0 K0 Q0 hK0; have hSw := hHeld; (try dsimp only at hSw); go_simp; refine (P6.out _).mono ?_; rintro e w5 ⟨rfl, b5⟩; exact hK0 _ (by (try dsimp only); first | exact (Aw11.below hHeld.2 (by assumption)).s | exact A1.out.drew.s | exact A1.out.s)
  try simp only [Act.put, List.setIfInBounds_toArray, List.set_cons_zero, List.set_cons_succ]
  refine wpG_step (o := { dst := some 51, op := Op.binOp BinOp.eql 3 (Operand.tmp 50) (Operand.const (Value.int IntKind.i64 3)) 3, type := 4, pos := "law.go:15", after := #[{ on := 33, ground := Ground.data }, { on := 31, ground := Ground.guard }], guard := some (31, true) }) (v := (Value.bool (true))) ?_ ?_
  · refine gives_pure (by rfl) ?_
    intro w0 hSw; first | rfl | ((try dsimp only at hSw); go_simp; (try with_reducible rfl))
  try simp only [Act.put, List.setIfInBounds_toArray, List.set_cons_zero, List.set_cons_succ]
  refine wpG_step (o := { dst := some 52, op := Op.pick (Operand.tmp 48) (Operand.tmp 51) (Operand.const (Value.bool false)), type := 4, pos := "law.go:15", after := #[{ on := 31, ground := Ground.data }, { on := 34, ground := Ground.data }], guard := none }) (v := (Value.bool (true))) ?_ ?_
  · refine gives_pure (by rfl) ?_
    intro w0 hSw; first | rfl | ((try dsimp only at hSw); go_simp; (try with_reducible rfl))
  try simp only [Act.put, List.setIfInBounds_toArray, List.set_cons_zero, List.set_cons_succ]
  refine wpG_step (o := { dst := some 0, op := Op.assign (Operand.tmp 52), type := 4, pos := "law.go:15", after := #[{ on := 35, ground := Ground.data }, { on := 33, ground := Ground.chain }, { on := 0, ground := Ground.phase }, { on := 1, ground := Ground.phase }, { on := 2, ground := Ground.phase }, { on := 3, ground := Ground.phase }, { on := 4, ground := Ground.phase }, { on := 5, ground := Ground.phase }, { on := 6, ground := Ground.phase }, { on := 7, ground := Ground.phase }, { on := 8, ground := Ground.phase }, { on := 9, ground := Ground.phase }, { on := 10, ground := Ground.phase }, { on := 11, ground := Ground.phase }, { on := 12, ground := Ground.phase }, { on := 13, ground := Ground.phase }, { on := 14, ground := Ground.phase }, { on := 15, ground := Ground.phase }, { on := 16, ground := Ground.phase }, { on := 17, ground := Ground.phase }, { on := 18, ground := Ground.phase }, { on := 19, ground := Ground.phase }, { on := 20, ground := Ground.phase }, { on := 21, ground := Ground.phase }, { on := 22, ground := Ground.phase }, { on := 23, ground := Ground.phase }, { on := 24, ground := Ground.phase }, { on := 25, ground := Ground.phase }, { on := 26, ground := Ground.phase }, { on := 27, ground := Ground.phase }, { on := 28, ground := Ground.phase }, { on := 29, ground := Ground.phase }, { on := 30, ground := Ground.phase }, { on := 31, ground := Ground.phase }, { on := 32, ground := Ground.phase }, { on := 33, ground := Ground.phase }, { on := 34, ground := Ground.phase }, { on := 35, ground := Ground.phase }], guard := none }) (v := (Value.bool (true))) ?_ ?_
  · refine gives_pure (by rfl) ?_
    intro w0 hSw; (try dsimp only at hSw); go_simp; (try with_reducible rfl)
  try simp only [Act.put, List.setIfInBounds_toArray, List.set_cons_zero, List.set_cons_succ]
  refine wpG_done (fun wz hHeld => ?_)
  go_wp2_with fail
  go_ret
  exact ⟨rfl, hHeld.2.bl⟩
end Go.Proofs.Ytnhjpblkenmccaa
