/-
  The contracts of Get of layer 21.
-/
import Derived.Test.YtbfimnlffjkokaaTab
import Derived.Test.YtbfimnlffjkokaaQcall
import Derived.IntWalk
namespace Go.Proofs.Ytbfimnlffjkokaa
open Go.RowKit Bd Tb
/-- The zero entry. -/
def k0 : Array Value := #[.int .i64 0, .int .i64 0, .int .i64 0, .int .i64 0]
theorem tget_nil (to now : Int) (w : World) :
    Calls Try.prog 12 #[.pointer none, .int .i64 to, .int .i64 now] w fun e w' => e = .returned (.tuple #[.agg #[.int .i64 0, .int .i64 0, .int .i64 0, .int .i64 0], .bool false]) ∧ Below w.heap.size w w' := by
  go_enter Try.func12, Try.ntmps12
  go_wp2_with fail
  refine (tnone_nil _).mono ?_; rintro e w' ⟨rfl, rfl⟩
  go_wp2_with fail
  exact bodyPost_ret (v := .tuple #[.agg #[.int .i64 0, .int .i64 0, .int .i64 0, .int .i64 0], .bool false]) (by simp [results, Try.results12, go_sem]) rfl ⟨rfl, by repeat' (first | exact Below.refl _ _ | refine Below.drew ?_ | refine Below.alloc ?_ (by simp <;> omega) _ | refine Below.setCell ?_ (by simp) _)⟩
theorem tget_odd {g : Nat} (to now : Int) (w : World) (h : w.cell? ⟨g, 0, none⟩ = some (.bool false)) :
    Calls Try.prog 12 #[.pointer (some ⟨g, 0, none⟩), .int .i64 to, .int .i64 now] w fun e w' => e = .returned (.tuple #[.agg #[.int .i64 0, .int .i64 0, .int .i64 0, .int .i64 0], .bool false]) ∧ Below w.heap.size w w' := by
  have h' : ∀ o, (w.alloc o).cell? ⟨g, 0, none⟩ = some (.bool false) := fun o => (((Below.refl _ w).alloc (Nat.le_refl _) o).cell (p := ⟨g, 0, none⟩) (cell_lt h)).trans h
  go_enter Try.func12, Try.ntmps12
  go_wp2_with fail
  refine (tnone_any _ (h' _)).mono ?_; rintro e w' ⟨rfl, rfl⟩
  go_wp2_with fail
  exact bodyPost_ret (v := .tuple #[.agg #[.int .i64 0, .int .i64 0, .int .i64 0, .int .i64 0], .bool false]) (by simp [results, Try.results12, go_sem]) rfl ⟨rfl, by repeat' (first | exact Below.refl _ _ | refine Below.drew ?_ | refine Below.alloc ?_ (by simp <;> omega) _ | refine Below.setCell ?_ (by simp) _)⟩
theorem tget_far {g : Nat} (to now : Int) (w : World) (h : w.cell? ⟨g, 0, none⟩ = some (.bool true)) (hto : to < 0 ∨ 8 ≤ to) :
    Calls Try.prog 12 #[.pointer (some ⟨g, 0, none⟩), .int .i64 to, .int .i64 now] w fun e w' => e = .returned (.tuple #[.agg #[.int .i64 0, .int .i64 0, .int .i64 0, .int .i64 0], .bool false]) ∧ Below w.heap.size w w' := by
  have h' : ∀ o, (w.alloc o).cell? ⟨g, 0, none⟩ = some (.bool true) := fun o => (((Below.refl _ w).alloc (Nat.le_refl _) o).cell (p := ⟨g, 0, none⟩) (cell_lt h)).trans h
  have hd : (decide (to < 0) = true) ∨ (decide (to < 0) = false ∧ decide (8 ≤ to) = true) := by
    rcases (by omega : to < 0 ∨ 0 ≤ to) with h | h
    · exact Or.inl (dlt_t h)
    · exact Or.inr ⟨dlt_f h, dle_t (by omega)⟩
  clear hto
  rcases hd with h1 | ⟨h1, h2⟩
  all_goals
    go_enter Try.func12, Try.ntmps12
    go_wp2_with fail
    refine (tnone_any _ (h' _)).mono ?_; rintro e w' ⟨rfl, rfl⟩
    go_wp2_with fail
    exact bodyPost_ret (v := .tuple #[.agg #[.int .i64 0, .int .i64 0, .int .i64 0, .int .i64 0], .bool false]) (by simp [results, Try.results12, go_sem]) rfl ⟨rfl, by repeat' (first | exact Below.refl _ _ | refine Below.drew ?_ | refine Below.alloc ?_ (by simp <;> omega) _ | refine Below.setCell ?_ (by simp) _)⟩
/-- What is known in the middle of Get. -/
structure G21 (w0 : World) (g : Nat) (made : Bool) (ttl : Int) (ns : Nat → Nt) (cs : Array Value) (W : World) : Prop where
  bl : Below w0.heap.size w0 W
  r : Bk W w0.heap.size 36 #[.int .i64 0, .int .i64 0, .int .i64 0, .int .i64 0]
  n : Bk W (w0.heap.size + 1) 47 cs
  t : Tbl W g made ttl ns
theorem G21.below {w0 : World} {g : Nat} {made : Bool} {ttl : Int} {ns : Nat → Nt} {cs : Array Value} {W W' : World} (h : G21 w0 g made ttl ns cs W) (k : Below W.heap.size W W') : G21 w0 g made ttl ns cs W' :=
  ⟨h.bl.trans (k.mono h.bl.size), h.r.below k, h.n.below k, h.t.below k⟩
theorem G21.drew {w0 : World} {g : Nat} {made : Bool} {ttl : Int} {ns : Nat → Nt} {cs : Array Value} {W : World} (h : G21 w0 g made ttl ns cs W) : G21 w0 g made ttl ns cs W.drew := h.below (Below.refl _ _).drew
def G21s (w0 : World) (g : Nat) (made : Bool) (ttl : Int) (ns : Nat → Nt) (v0 v1 v2 v3 v4 : Value) (W : World) : Prop :=
  (W.cell? ⟨w0.heap.size + 1, 0, none⟩ = some v0 ∧ W.cell? ⟨w0.heap.size + 1, 1, none⟩ = some v1 ∧ W.cell? ⟨w0.heap.size + 1, 2, none⟩ = some v2 ∧ W.cell? ⟨w0.heap.size + 1, 3, none⟩ = some v3 ∧ W.cell? ⟨w0.heap.size + 1, 4, none⟩ = some v4 ∧ W.cell? ⟨g, 1, none⟩ = some (.int .i64 ttl)) ∧ G21 w0 g made ttl ns #[v0, v1, v2, v3, v4] W
theorem G21.s {w0 : World} {g : Nat} {made : Bool} {ttl : Int} {ns : Nat → Nt} {v0 v1 v2 v3 v4 : Value} {W : World} (h : G21 w0 g made ttl ns #[v0, v1, v2, v3, v4] W) :
    (W.cell? ⟨w0.heap.size + 1, 0, none⟩ = some v0 ∧ W.cell? ⟨w0.heap.size + 1, 1, none⟩ = some v1 ∧ W.cell? ⟨w0.heap.size + 1, 2, none⟩ = some v2 ∧ W.cell? ⟨w0.heap.size + 1, 3, none⟩ = some v3 ∧ W.cell? ⟨w0.heap.size + 1, 4, none⟩ = some v4 ∧ W.cell? ⟨g, 1, none⟩ = some (.int .i64 ttl)) ∧ G21 w0 g made ttl ns #[v0, v1, v2, v3, v4] W :=
  ⟨⟨h.n.cell 0, h.n.cell 1, h.n.cell 2, h.n.cell 3, h.n.cell 4, h.t.c1⟩, h⟩
set_option maxHeartbeats 1000000 in
theorem tget_none {g : Nat} {ttl : Int} {ns : Nat → Nt} (k : Nat) (hk : k < 8) (now : Int) (w : World) (h : Tbl w g true ttl ns) (hn : ns k = none) :
    Calls Try.prog 12 #[.pointer (some ⟨g, 0, none⟩), .int .i64 k, .int .i64 now] w fun e w' => e = .returned (.tuple #[.agg #[.int .i64 0, .int .i64 0, .int .i64 0, .int .i64 0], .bool false]) ∧ Below w.heap.size w w' := by
  have H := Lib.hid h
  have hc0 := (h.below ((Below.refl _ w).alloc (Nat.le_refl _) (.cells #[.int .i64 0, .int .i64 0, .int .i64 0, .int .i64 0] 36))).c0
  have c0 := h.ac k hk
  rw [hn] at c0
  simp only [nv] at c0
  clear h
  have hk0 := dlt_f (a := (k : Int)) (b := 0) (by omega)
  have hk8 := dle_f (a := 8) (b := (k : Int)) (by omega)
  go_enter Try.func12, Try.ntmps12
  go_wp2_with fail
  refine (tnone_any _ hc0).mono ?_; rintro e w' ⟨rfl, rfl⟩
  clear hc0
  go_wp2_with fail
  generalize hW : (World.alloc (World.alloc w _) _) = W
  have A := Lib.hid (show G21 w g true ttl ns #[.bool false, .int .i64 0, .int .i64 0, .int .i64 0, .int .i64 0] W by
    rw [← hW]
    exact ⟨((Below.refl _ w).alloc (Nat.le_refl _) _).alloc (by simp) _, Bk.below (Bk.new w _ _) ((Below.refl _ _).alloc (Nat.le_refl _) _), by simpa using Bk.new (w.alloc (.cells #[.int .i64 0, .int .i64 0, .int .i64 0, .int .i64 0] 36)) 47 #[.bool false, .int .i64 0, .int .i64 0, .int .i64 0, .int .i64 0], (H.out.below ((Below.refl _ _).alloc (Nat.le_refl _) _)).below ((Below.refl _ _).alloc (Nat.le_refl _) _)⟩)
  clear hW c0 H hk0 hk8
  refine wp_region_held_drew (S := (fun W => (W.cell? ⟨w.heap.size + 1, 0, none⟩ = some (.bool false) ∧ W.cell? ⟨w.heap.size + 1, 1, none⟩ = some (.int .i64 0) ∧ W.cell? ⟨w.heap.size + 1, 2, none⟩ = some (.int .i64 0) ∧ W.cell? ⟨w.heap.size + 1, 3, none⟩ = some (.int .i64 0) ∧ W.cell? ⟨w.heap.size + 1, 4, none⟩ = some (.int .i64 0) ∧ W.cell? ⟨g, 1, none⟩ = some (.int .i64 ttl)) ∧ G21 w g true ttl ns #[.bool false, .int .i64 0, .int .i64 0, .int .i64 0, .int .i64 0] W)) (by kernel_rfl) ?_ (fun hHeld => ?_)
  · (try dsimp only); first | exact (G21.below hHeld.2 (by assumption)).s | exact A.out.drew.s
  refine wpAnyH_take (i := 0) (oi := { dst := some 26, op := Op.load 47 (Operand.tmp 8), type := 47, pos := "table.go:58", after := #[], guard := none }) (v := ?_) rfl (by kernel_rfl) (by kernel_rfl) (by kernel_rfl) (fun _ _ _ h => h) (Or.inl ⟨by rfl, ?_⟩) (by assumption) ?_
  rotate_left
  · intro w0 hSw; (try dsimp only at hSw); go_simp; (try with_reducible rfl)
  try simp only [Act.put, List.setIfInBounds_toArray, List.set_cons_zero, List.set_cons_succ]
  refine wpAnyH_take (i := 1) (oi := { dst := some 27, op := Op.build 47 #[], type := 47, pos := "table.go:58", after := #[], guard := none }) (v := ?_) rfl (by kernel_rfl) (by kernel_rfl) (by kernel_rfl) (fun _ _ _ h => h) (Or.inl ⟨by rfl, ?_⟩) (by assumption) ?_
  rotate_left
  · intro w0 hSw; (try dsimp only at hSw); go_simp; (try with_reducible rfl)
  try simp only [Act.put, List.setIfInBounds_toArray, List.set_cons_zero, List.set_cons_succ]
  refine wpAnyH_take (i := 2) (oi := { dst := some 28, op := Op.binOp BinOp.eql 47 (Operand.tmp 26) (Operand.tmp 27) 47, type := 4, pos := "table.go:58", after := #[{ on := 0, ground := Ground.data }, { on := 1, ground := Ground.data }], guard := none }) (v := ?_) rfl (by kernel_rfl) (by kernel_rfl) (by kernel_rfl) (fun _ _ _ h => h) (Or.inl ⟨by rfl, ?_⟩) (by assumption) ?_
  rotate_left
  · intro w0 hSw; (try dsimp only at hSw); go_simp; (try with_reducible rfl)
  try simp only [Act.put, List.setIfInBounds_toArray, List.set_cons_zero, List.set_cons_succ]
  refine wpAnyH_take (i := 3) (oi := { dst := some 29, op := Op.move (Operand.tmp 28), type := 4, pos := "table.go:58", after := #[{ on := 2, ground := Ground.data }], guard := none }) (v := ?_) rfl (by kernel_rfl) (by kernel_rfl) (by kernel_rfl) (fun _ _ _ h => h) (Or.inl ⟨by rfl, ?_⟩) (by assumption) ?_
  rotate_left
  · intro w0 hSw; (try dsimp only at hSw); go_simp; (try with_reducible rfl)
  try simp only [Act.put, List.setIfInBounds_toArray, List.set_cons_zero, List.set_cons_succ]
  refine wpAnyH_take (i := 4) (oi := { dst := some 30, op := Op.move (Operand.tmp 2), type := 3, pos := "table.go:58", after := #[{ on := 3, ground := Ground.guard }], guard := some (3, false) }) (v := undef) rfl (by kernel_rfl) (by kernel_rfl) (by kernel_rfl) (fun _ _ _ h => h) (Or.inr ⟨by rfl, rfl⟩) (by assumption) ?_
  try simp only [Act.put, List.setIfInBounds_toArray, List.set_cons_zero, List.set_cons_succ]
  refine wpAnyH_take (i := 5) (oi := { dst := some 31, op := Op.fieldAddr 47 (Operand.tmp 8) 1, type := 0, pos := "table.go:58", after := #[{ on := 3, ground := Ground.guard }], guard := some (3, false) }) (v := undef) rfl (by kernel_rfl) (by kernel_rfl) (by kernel_rfl) (fun _ _ _ h => h) (Or.inr ⟨by rfl, rfl⟩) (by assumption) ?_
  try simp only [Act.put, List.setIfInBounds_toArray, List.set_cons_zero, List.set_cons_succ]
  refine wpAnyH_take (i := 6) (oi := { dst := some 32, op := Op.fieldAddr 36 (Operand.tmp 31) 3, type := 0, pos := "table.go:58", after := #[{ on := 5, ground := Ground.data }, { on := 3, ground := Ground.guard }], guard := some (3, false) }) (v := undef) rfl (by kernel_rfl) (by kernel_rfl) (by kernel_rfl) (fun _ _ _ h => h) (Or.inr ⟨by rfl, rfl⟩) (by assumption) ?_
  try simp only [Act.put, List.setIfInBounds_toArray, List.set_cons_zero, List.set_cons_succ]
  refine wpAnyH_take (i := 7) (oi := { dst := some 33, op := Op.load 3 (Operand.tmp 32), type := 3, pos := "table.go:58", after := #[{ on := 6, ground := Ground.data }, { on := 3, ground := Ground.guard }], guard := some (3, false) }) (v := undef) rfl (by kernel_rfl) (by kernel_rfl) (by kernel_rfl) (fun _ _ _ h => h) (Or.inr ⟨by rfl, rfl⟩) (by assumption) ?_
  try simp only [Act.put, List.setIfInBounds_toArray, List.set_cons_zero, List.set_cons_succ]
  refine wpAnyH_take (i := 8) (oi := { dst := some 34, op := Op.call { callee := Callee.value (Operand.func 22), args := #[Operand.tmp 30, Operand.tmp 33], argTypes := #[3, 3] }, type := 3, pos := "table.go:58", after := #[{ on := 4, ground := Ground.data }, { on := 7, ground := Ground.data }, { on := 3, ground := Ground.chain }, { on := 3, ground := Ground.guard }], guard := some (3, false) }) (v := undef) rfl (by kernel_rfl) (by kernel_rfl) (by kernel_rfl) (fun _ _ _ h => h) (Or.inr ⟨by rfl, rfl⟩) (by assumption) ?_
  try simp only [Act.put, List.setIfInBounds_toArray, List.set_cons_zero, List.set_cons_succ]
  refine wpAnyH_take (i := 9) (oi := { dst := some 35, op := Op.move (Operand.tmp 0), type := 24, pos := "table.go:58", after := #[{ on := 3, ground := Ground.guard }], guard := some (3, false) }) (v := undef) rfl (by kernel_rfl) (by kernel_rfl) (by kernel_rfl) (fun _ _ _ h => h) (Or.inr ⟨by rfl, rfl⟩) (by assumption) ?_
  try simp only [Act.put, List.setIfInBounds_toArray, List.set_cons_zero, List.set_cons_succ]
  refine wpAnyH_take (i := 10) (oi := { dst := some 36, op := Op.nilCheck (Operand.tmp 35), type := 0, pos := "table.go:58", after := #[{ on := 9, ground := Ground.data }, { on := 3, ground := Ground.guard }], guard := some (3, false) }) (v := undef) rfl (by kernel_rfl) (by kernel_rfl) (by kernel_rfl) (fun _ _ _ h => h) (Or.inr ⟨by rfl, rfl⟩) (by assumption) ?_
  try simp only [Act.put, List.setIfInBounds_toArray, List.set_cons_zero, List.set_cons_succ]
  refine wpAnyH_take (i := 11) (oi := { dst := some 37, op := Op.fieldAddr 50 (Operand.tmp 36) 1, type := 0, pos := "table.go:58", after := #[{ on := 10, ground := Ground.data }, { on := 3, ground := Ground.guard }], guard := some (3, false) }) (v := undef) rfl (by kernel_rfl) (by kernel_rfl) (by kernel_rfl) (fun _ _ _ h => h) (Or.inr ⟨by rfl, rfl⟩) (by assumption) ?_
  try simp only [Act.put, List.setIfInBounds_toArray, List.set_cons_zero, List.set_cons_succ]
  refine wpAnyH_take (i := 12) (oi := { dst := some 38, op := Op.load 3 (Operand.tmp 37), type := 3, pos := "table.go:58", after := #[{ on := 11, ground := Ground.data }, { on := 3, ground := Ground.guard }], guard := some (3, false) }) (v := undef) rfl (by kernel_rfl) (by kernel_rfl) (by kernel_rfl) (fun _ _ _ h => h) (Or.inr ⟨by rfl, rfl⟩) (by assumption) ?_
  try simp only [Act.put, List.setIfInBounds_toArray, List.set_cons_zero, List.set_cons_succ]
  refine wpAnyH_take (i := 13) (oi := { dst := some 39, op := Op.binOp BinOp.gtr 3 (Operand.tmp 34) (Operand.tmp 38) 3, type := 4, pos := "table.go:58", after := #[{ on := 8, ground := Ground.data }, { on := 12, ground := Ground.data }, { on := 3, ground := Ground.guard }], guard := some (3, false) }) (v := undef) rfl (by kernel_rfl) (by kernel_rfl) (by kernel_rfl) (fun _ _ _ h => h) (Or.inr ⟨by rfl, rfl⟩) (by assumption) ?_
  try simp only [Act.put, List.setIfInBounds_toArray, List.set_cons_zero, List.set_cons_succ]
  refine wpAnyH_take (i := 14) (oi := { dst := some 40, op := Op.pick (Operand.tmp 29) (Operand.const (Value.bool true)) (Operand.tmp 39), type := 4, pos := "table.go:58", after := #[{ on := 3, ground := Ground.data }, { on := 13, ground := Ground.data }], guard := none }) (v := ?_) rfl (by kernel_rfl) (by kernel_rfl) (by kernel_rfl) (fun _ _ _ h => h) (Or.inl ⟨by rfl, ?_⟩) (by assumption) ?_
  rotate_left
  · intro w0 hSw; (try dsimp only at hSw); go_simp; (try with_reducible rfl)
  try simp only [Act.put, List.setIfInBounds_toArray, List.set_cons_zero, List.set_cons_succ]
  refine wpAnyH_done (by kernel_rfl) ?_ _
  have r0 := A.out.r.cell 0
  have r1 := A.out.r.cell 1
  have r2 := A.out.r.cell 2
  have r3 := A.out.r.cell 3
  have q0 := A.out.r.frozen 0
  have q1 := A.out.r.frozen 1
  have q2 := A.out.r.frozen 2
  have q3 := A.out.r.frozen 3
  go_wp2_with fail
  generalize hW2 : World.setCell (World.setCell (World.setCell (World.setCell _ _ _) _ _) _ _) _ _ = W2
  have R2 := Lib.hid (show Bk W2 w.heap.size 36 #[.int .i64 0, .int .i64 0, .int .i64 0, .int .i64 0] by rw [← hW2]; exact (((A.out.r.set_ 0 _).set_ 1 _).set_ 2 _).set_ 3 _)
  have B2 := Lib.hid (show Below w.heap.size w W2 by rw [← hW2]; exact (((A.out.bl.setCell (by simp) _).setCell (by simp) _).setCell (by simp) _).setCell (by simp) _)
  clear hW2 r0 r1 r2 r3 q0 q1 q2 q3
  have r0 := R2.out.cell 0
  have r1 := R2.out.cell 1
  have r2 := R2.out.cell 2
  have r3 := R2.out.cell 3
  exact bodyPost_ret (v := .tuple #[.agg #[.int .i64 0, .int .i64 0, .int .i64 0, .int .i64 0], .bool false]) (by simp [results, Try.results12, go_sem, r0, r1, r2, r3]) rfl ⟨rfl, by first | exact B2.out.drew | exact B2.out⟩
set_option maxHeartbeats 1000000 in
theorem tget_some {g : Nat} {ttl : Int} {ns : Nat → Nt} (k : Nat) (hk : k < 8) (now t e a : Int) (w : World) (h : Tbl w g true ttl ns) (hn : ns k = some (t, e, a)) :
    Calls Try.prog 12 #[.pointer (some ⟨g, 0, none⟩), .int .i64 k, .int .i64 now] w fun e' w' => e' = .returned (.tuple #[.agg (kv k (some (t, e, a)) (decide (leftT now a ≤ ttl))), .bool (decide (leftT now a ≤ ttl))]) ∧ Below w.heap.size w w' := by
  have H := Lib.hid h
  have hc0 := (h.below ((Below.refl _ w).alloc (Nat.le_refl _) (.cells #[.int .i64 0, .int .i64 0, .int .i64 0, .int .i64 0] 36))).c0
  have c0 := h.ac k hk
  rw [hn] at c0
  simp only [nv] at c0
  clear h
  have hk0 := dlt_f (a := (k : Int)) (b := 0) (by omega)
  have hk8 := dle_f (a := 8) (b := (k : Int)) (by omega)
  go_enter Try.func12, Try.ntmps12
  go_wp2_with fail
  refine (tnone_any _ hc0).mono ?_; rintro e w' ⟨rfl, rfl⟩
  clear hc0
  go_wp2_with fail
  generalize hW : (World.alloc (World.alloc w _) _) = W
  have A := Lib.hid (show G21 w g true ttl ns #[.bool true, .int .i64 k, .int .i64 t, .int .i64 e, .int .i64 a] W by
    rw [← hW]
    exact ⟨((Below.refl _ w).alloc (Nat.le_refl _) _).alloc (by simp) _, Bk.below (Bk.new w _ _) ((Below.refl _ _).alloc (Nat.le_refl _) _), by simpa using Bk.new (w.alloc (.cells #[.int .i64 0, .int .i64 0, .int .i64 0, .int .i64 0] 36)) 47 #[.bool true, .int .i64 k, .int .i64 t, .int .i64 e, .int .i64 a], (H.out.below ((Below.refl _ _).alloc (Nat.le_refl _) _)).below ((Below.refl _ _).alloc (Nat.le_refl _) _)⟩)
  clear hW c0 H hk0 hk8
  have E := Lib.hid (left_any now a)
  obtain ⟨lf, hlf⟩ : ∃ x, leftT now a = x := ⟨_, rfl⟩
  rw [hlf] at E
  have HLF := Lib.hid hlf
  clear hlf
  rcases (by omega : lf ≤ ttl ∨ ttl < lf) with hl | hl
  · have E2 := Lib.hid (show decide (lf ≤ ttl) = true from dle_t hl)
    refine wp_region_held_drew (S := (fun W => (W.cell? ⟨w.heap.size + 1, 0, none⟩ = some (.bool true) ∧ W.cell? ⟨w.heap.size + 1, 1, none⟩ = some (.int .i64 k) ∧ W.cell? ⟨w.heap.size + 1, 2, none⟩ = some (.int .i64 t) ∧ W.cell? ⟨w.heap.size + 1, 3, none⟩ = some (.int .i64 e) ∧ W.cell? ⟨w.heap.size + 1, 4, none⟩ = some (.int .i64 a) ∧ W.cell? ⟨g, 1, none⟩ = some (.int .i64 ttl)) ∧ G21 w g true ttl ns #[.bool true, .int .i64 k, .int .i64 t, .int .i64 e, .int .i64 a] W)) (by kernel_rfl) ?_ (fun hHeld => ?_)
    · (try dsimp only); first | exact (G21.below hHeld.2 (by assumption)).s | exact A.out.drew.s
    refine wpAnyH_take (i := 0) (oi := { dst := some 26, op := Op.load 47 (Operand.tmp 8), type := 47, pos := "table.go:58", after := #[], guard := none }) (v := ?_) rfl (by kernel_rfl) (by kernel_rfl) (by kernel_rfl) (fun _ _ _ h => h) (Or.inl ⟨by rfl, ?_⟩) (by assumption) ?_
    rotate_left
    · intro w0 hSw; (try dsimp only at hSw); go_simp; (try with_reducible rfl)
    try simp only [Act.put, List.setIfInBounds_toArray, List.set_cons_zero, List.set_cons_succ]
    refine wpAnyH_take (i := 1) (oi := { dst := some 27, op := Op.build 47 #[], type := 47, pos := "table.go:58", after := #[], guard := none }) (v := ?_) rfl (by kernel_rfl) (by kernel_rfl) (by kernel_rfl) (fun _ _ _ h => h) (Or.inl ⟨by rfl, ?_⟩) (by assumption) ?_
    rotate_left
    · intro w0 hSw; (try dsimp only at hSw); go_simp; (try with_reducible rfl)
    try simp only [Act.put, List.setIfInBounds_toArray, List.set_cons_zero, List.set_cons_succ]
    refine wpAnyH_take (i := 2) (oi := { dst := some 28, op := Op.binOp BinOp.eql 47 (Operand.tmp 26) (Operand.tmp 27) 47, type := 4, pos := "table.go:58", after := #[{ on := 0, ground := Ground.data }, { on := 1, ground := Ground.data }], guard := none }) (v := ?_) rfl (by kernel_rfl) (by kernel_rfl) (by kernel_rfl) (fun _ _ _ h => h) (Or.inl ⟨by rfl, ?_⟩) (by assumption) ?_
    rotate_left
    · intro w0 hSw; (try dsimp only at hSw); go_simp; (try with_reducible rfl)
    try simp only [Act.put, List.setIfInBounds_toArray, List.set_cons_zero, List.set_cons_succ]
    refine wpAnyH_take (i := 3) (oi := { dst := some 29, op := Op.move (Operand.tmp 28), type := 4, pos := "table.go:58", after := #[{ on := 2, ground := Ground.data }], guard := none }) (v := ?_) rfl (by kernel_rfl) (by kernel_rfl) (by kernel_rfl) (fun _ _ _ h => h) (Or.inl ⟨by rfl, ?_⟩) (by assumption) ?_
    rotate_left
    · intro w0 hSw; (try dsimp only at hSw); go_simp; (try with_reducible rfl)
    try simp only [Act.put, List.setIfInBounds_toArray, List.set_cons_zero, List.set_cons_succ]
    refine wpAnyH_take (i := 4) (oi := { dst := some 30, op := Op.move (Operand.tmp 2), type := 3, pos := "table.go:58", after := #[{ on := 3, ground := Ground.guard }], guard := some (3, false) }) (v := ?_) rfl (by kernel_rfl) (by kernel_rfl) (by kernel_rfl) (fun _ _ _ h => h) (Or.inl ⟨by rfl, ?_⟩) (by assumption) ?_
    rotate_left
    · intro w0 hSw; (try dsimp only at hSw); go_simp; (try with_reducible rfl)
    try simp only [Act.put, List.setIfInBounds_toArray, List.set_cons_zero, List.set_cons_succ]
    refine wpAnyH_take (i := 5) (oi := { dst := some 31, op := Op.fieldAddr 47 (Operand.tmp 8) 1, type := 0, pos := "table.go:58", after := #[{ on := 3, ground := Ground.guard }], guard := some (3, false) }) (v := ?_) rfl (by kernel_rfl) (by kernel_rfl) (by kernel_rfl) (fun _ _ _ h => h) (Or.inl ⟨by rfl, ?_⟩) (by assumption) ?_
    rotate_left
    · intro w0 hSw; (try dsimp only at hSw); go_simp; (try with_reducible rfl)
    try simp only [Act.put, List.setIfInBounds_toArray, List.set_cons_zero, List.set_cons_succ]
    refine wpAnyH_take (i := 6) (oi := { dst := some 32, op := Op.fieldAddr 36 (Operand.tmp 31) 3, type := 0, pos := "table.go:58", after := #[{ on := 5, ground := Ground.data }, { on := 3, ground := Ground.guard }], guard := some (3, false) }) (v := ?_) rfl (by kernel_rfl) (by kernel_rfl) (by kernel_rfl) (fun _ _ _ h => h) (Or.inl ⟨by rfl, ?_⟩) (by assumption) ?_
    rotate_left
    · intro w0 hSw; (try dsimp only at hSw); go_simp; (try with_reducible rfl)
    try simp only [Act.put, List.setIfInBounds_toArray, List.set_cons_zero, List.set_cons_succ]
    refine wpAnyH_take (i := 7) (oi := { dst := some 33, op := Op.load 3 (Operand.tmp 32), type := 3, pos := "table.go:58", after := #[{ on := 6, ground := Ground.data }, { on := 3, ground := Ground.guard }], guard := some (3, false) }) (v := ?_) rfl (by kernel_rfl) (by kernel_rfl) (by kernel_rfl) (fun _ _ _ h => h) (Or.inl ⟨by rfl, ?_⟩) (by assumption) ?_
    rotate_left
    · intro w0 hSw; (try dsimp only at hSw); go_simp; (try with_reducible rfl)
    try simp only [Act.put, List.setIfInBounds_toArray, List.set_cons_zero, List.set_cons_succ]
    refine wpAnyH_take (i := 9) (oi := { dst := some 35, op := Op.move (Operand.tmp 0), type := 24, pos := "table.go:58", after := #[{ on := 3, ground := Ground.guard }], guard := some (3, false) }) (v := ?_) rfl (by kernel_rfl) (by kernel_rfl) (by kernel_rfl) (fun _ _ _ h => h) (Or.inl ⟨by rfl, ?_⟩) (by assumption) ?_
    rotate_left
    · intro w0 hSw; (try dsimp only at hSw); go_simp; (try with_reducible rfl)
    try simp only [Act.put, List.setIfInBounds_toArray, List.set_cons_zero, List.set_cons_succ]
    refine wpAnyH_take (i := 10) (oi := { dst := some 36, op := Op.nilCheck (Operand.tmp 35), type := 0, pos := "table.go:58", after := #[{ on := 9, ground := Ground.data }, { on := 3, ground := Ground.guard }], guard := some (3, false) }) (v := ?_) rfl (by kernel_rfl) (by kernel_rfl) (by kernel_rfl) (fun _ _ _ h => h) (Or.inl ⟨by rfl, ?_⟩) (by assumption) ?_
    rotate_left
    · intro w0 hSw; (try dsimp only at hSw); go_simp; (try with_reducible rfl)
    try simp only [Act.put, List.setIfInBounds_toArray, List.set_cons_zero, List.set_cons_succ]
    refine wpAnyH_take (i := 11) (oi := { dst := some 37, op := Op.fieldAddr 50 (Operand.tmp 36) 1, type := 0, pos := "table.go:58", after := #[{ on := 10, ground := Ground.data }, { on := 3, ground := Ground.guard }], guard := some (3, false) }) (v := ?_) rfl (by kernel_rfl) (by kernel_rfl) (by kernel_rfl) (fun _ _ _ h => h) (Or.inl ⟨by rfl, ?_⟩) (by assumption) ?_
    rotate_left
    · intro w0 hSw; (try dsimp only at hSw); go_simp; (try with_reducible rfl)
    try simp only [Act.put, List.setIfInBounds_toArray, List.set_cons_zero, List.set_cons_succ]
    refine wpAnyH_take (i := 12) (oi := { dst := some 38, op := Op.load 3 (Operand.tmp 37), type := 3, pos := "table.go:58", after := #[{ on := 11, ground := Ground.data }, { on := 3, ground := Ground.guard }], guard := some (3, false) }) (v := ?_) rfl (by kernel_rfl) (by kernel_rfl) (by kernel_rfl) (fun _ _ _ h => h) (Or.inl ⟨by rfl, ?_⟩) (by assumption) ?_
    rotate_left
    · intro w0 hSw; (try dsimp only at hSw); go_simp; (try with_reducible rfl)
    try simp only [Act.put, List.setIfInBounds_toArray, List.set_cons_zero, List.set_cons_succ]
    refine wpAnyH_ready (rs := [8]) (by kernel_rfl) (by simp) ?_
    refine AllReadyH.cons (o := { dst := some 34, op := Op.call { callee := Callee.value (Operand.func 22), args := #[Operand.tmp 30, Operand.tmp 33], argTypes := #[3, 3] }, type := 3, pos := "table.go:58", after := #[{ on := 4, ground := Ground.data }, { on := 7, ground := Ground.data }, { on := 3, ground := Ground.chain }, { on := 3, ground := Ground.guard }], guard := some (3, false) }) rfl (fun K hK => ?_) AllReadyH.nil
    go_simp
    refine (E.out _).mono ?_; rintro e' w5 ⟨rfl, b5⟩
    refine hK.out _ _ ?_ (fun hHeld => ?_)
    · (try dsimp only); first | exact (G21.below hHeld.2 (by assumption)).s | exact A.out.drew.s
    clear hK K
    try simp only [Act.put, List.setIfInBounds_toArray, List.set_cons_zero, List.set_cons_succ]
    refine wpAnyH_take (i := 13) (oi := { dst := some 39, op := Op.binOp BinOp.gtr 3 (Operand.tmp 34) (Operand.tmp 38) 3, type := 4, pos := "table.go:58", after := #[{ on := 8, ground := Ground.data }, { on := 12, ground := Ground.data }, { on := 3, ground := Ground.guard }], guard := some (3, false) }) (v := ?_) rfl (by kernel_rfl) (by kernel_rfl) (by kernel_rfl) (fun _ _ _ h => h) (Or.inl ⟨by rfl, ?_⟩) (by assumption) ?_
    rotate_left
    · intro w0 hSw; (try dsimp only at hSw); go_simp; (try with_reducible rfl)
    try simp only [Act.put, List.setIfInBounds_toArray, List.set_cons_zero, List.set_cons_succ]
    refine wpAnyH_take (i := 14) (oi := { dst := some 40, op := Op.pick (Operand.tmp 29) (Operand.const (Value.bool true)) (Operand.tmp 39), type := 4, pos := "table.go:58", after := #[{ on := 3, ground := Ground.data }, { on := 13, ground := Ground.data }], guard := none }) (v := ?_) rfl (by kernel_rfl) (by kernel_rfl) (by kernel_rfl) (fun _ _ _ h => h) (Or.inl ⟨by rfl, ?_⟩) (by assumption) ?_
    rotate_left
    · intro w0 hSw; (try dsimp only at hSw); go_simp; (try with_reducible rfl)
    try simp only [Act.put, List.setIfInBounds_toArray, List.set_cons_zero, List.set_cons_succ]
    refine wpAnyH_done (by kernel_rfl) ?_ _
    have r0 := hHeld.2.r.cell 0
    have r1 := hHeld.2.r.cell 1
    have r2 := hHeld.2.r.cell 2
    have r3 := hHeld.2.r.cell 3
    have q0 := hHeld.2.r.frozen 0
    have q1 := hHeld.2.r.frozen 1
    have q2 := hHeld.2.r.frozen 2
    have q3 := hHeld.2.r.frozen 3
    have n1 := hHeld.2.n.cell 1
    have n2 := hHeld.2.n.cell 2
    have n3 := hHeld.2.n.cell 3
    have n4 := hHeld.2.n.cell 4
    go_wp2_with fail
    generalize hW2 : World.setCell (World.setCell (World.setCell (World.setCell _ _ _) _ _) _ _) _ _ = W2
    have R2 := Lib.hid (show Bk W2 w.heap.size 36 #[.int .i64 k, .int .i64 t, .int .i64 e, .int .i64 a] by rw [← hW2]; exact (((hHeld.2.r.set_ 0 _).set_ 1 _).set_ 2 _).set_ 3 _)
    have B2 := Lib.hid (show Below w.heap.size w W2 by rw [← hW2]; exact (((hHeld.2.bl.setCell (by simp) _).setCell (by simp) _).setCell (by simp) _).setCell (by simp) _)
    clear hW2 r0 r1 r2 r3 q0 q1 q2 q3
    have r0 := R2.out.cell 0
    have r1 := R2.out.cell 1
    have r2 := R2.out.cell 2
    have r3 := R2.out.cell 3
    exact bodyPost_ret (v := .tuple #[.agg #[.int .i64 k, .int .i64 t, .int .i64 e, .int .i64 a], .bool true]) (by simp [results, Try.results12, go_sem, r0, r1, r2, r3]) rfl ⟨by rw [HLF.out, E2.out]; rfl, by first | exact B2.out.drew | exact B2.out⟩
  · have E2 := Lib.hid (show decide (lf ≤ ttl) = false from dle_f hl)
    refine wp_region_held_drew (S := (fun W => (W.cell? ⟨w.heap.size + 1, 0, none⟩ = some (.bool true) ∧ W.cell? ⟨w.heap.size + 1, 1, none⟩ = some (.int .i64 k) ∧ W.cell? ⟨w.heap.size + 1, 2, none⟩ = some (.int .i64 t) ∧ W.cell? ⟨w.heap.size + 1, 3, none⟩ = some (.int .i64 e) ∧ W.cell? ⟨w.heap.size + 1, 4, none⟩ = some (.int .i64 a) ∧ W.cell? ⟨g, 1, none⟩ = some (.int .i64 ttl)) ∧ G21 w g true ttl ns #[.bool true, .int .i64 k, .int .i64 t, .int .i64 e, .int .i64 a] W)) (by kernel_rfl) ?_ (fun hHeld => ?_)
    · (try dsimp only); first | exact (G21.below hHeld.2 (by assumption)).s | exact A.out.drew.s
    refine wpAnyH_take (i := 0) (oi := { dst := some 26, op := Op.load 47 (Operand.tmp 8), type := 47, pos := "table.go:58", after := #[], guard := none }) (v := ?_) rfl (by kernel_rfl) (by kernel_rfl) (by kernel_rfl) (fun _ _ _ h => h) (Or.inl ⟨by rfl, ?_⟩) (by assumption) ?_
    rotate_left
    · intro w0 hSw; (try dsimp only at hSw); go_simp; (try with_reducible rfl)
    try simp only [Act.put, List.setIfInBounds_toArray, List.set_cons_zero, List.set_cons_succ]
    refine wpAnyH_take (i := 1) (oi := { dst := some 27, op := Op.build 47 #[], type := 47, pos := "table.go:58", after := #[], guard := none }) (v := ?_) rfl (by kernel_rfl) (by kernel_rfl) (by kernel_rfl) (fun _ _ _ h => h) (Or.inl ⟨by rfl, ?_⟩) (by assumption) ?_
    rotate_left
    · intro w0 hSw; (try dsimp only at hSw); go_simp; (try with_reducible rfl)
    try simp only [Act.put, List.setIfInBounds_toArray, List.set_cons_zero, List.set_cons_succ]
    refine wpAnyH_take (i := 2) (oi := { dst := some 28, op := Op.binOp BinOp.eql 47 (Operand.tmp 26) (Operand.tmp 27) 47, type := 4, pos := "table.go:58", after := #[{ on := 0, ground := Ground.data }, { on := 1, ground := Ground.data }], guard := none }) (v := ?_) rfl (by kernel_rfl) (by kernel_rfl) (by kernel_rfl) (fun _ _ _ h => h) (Or.inl ⟨by rfl, ?_⟩) (by assumption) ?_
    rotate_left
    · intro w0 hSw; (try dsimp only at hSw); go_simp; (try with_reducible rfl)
    try simp only [Act.put, List.setIfInBounds_toArray, List.set_cons_zero, List.set_cons_succ]
    refine wpAnyH_take (i := 3) (oi := { dst := some 29, op := Op.move (Operand.tmp 28), type := 4, pos := "table.go:58", after := #[{ on := 2, ground := Ground.data }], guard := none }) (v := ?_) rfl (by kernel_rfl) (by kernel_rfl) (by kernel_rfl) (fun _ _ _ h => h) (Or.inl ⟨by rfl, ?_⟩) (by assumption) ?_
    rotate_left
    · intro w0 hSw; (try dsimp only at hSw); go_simp; (try with_reducible rfl)
    try simp only [Act.put, List.setIfInBounds_toArray, List.set_cons_zero, List.set_cons_succ]
    refine wpAnyH_take (i := 4) (oi := { dst := some 30, op := Op.move (Operand.tmp 2), type := 3, pos := "table.go:58", after := #[{ on := 3, ground := Ground.guard }], guard := some (3, false) }) (v := ?_) rfl (by kernel_rfl) (by kernel_rfl) (by kernel_rfl) (fun _ _ _ h => h) (Or.inl ⟨by rfl, ?_⟩) (by assumption) ?_
    rotate_left
    · intro w0 hSw; (try dsimp only at hSw); go_simp; (try with_reducible rfl)
    try simp only [Act.put, List.setIfInBounds_toArray, List.set_cons_zero, List.set_cons_succ]
    refine wpAnyH_take (i := 5) (oi := { dst := some 31, op := Op.fieldAddr 47 (Operand.tmp 8) 1, type := 0, pos := "table.go:58", after := #[{ on := 3, ground := Ground.guard }], guard := some (3, false) }) (v := ?_) rfl (by kernel_rfl) (by kernel_rfl) (by kernel_rfl) (fun _ _ _ h => h) (Or.inl ⟨by rfl, ?_⟩) (by assumption) ?_
    rotate_left
    · intro w0 hSw; (try dsimp only at hSw); go_simp; (try with_reducible rfl)
    try simp only [Act.put, List.setIfInBounds_toArray, List.set_cons_zero, List.set_cons_succ]
    refine wpAnyH_take (i := 6) (oi := { dst := some 32, op := Op.fieldAddr 36 (Operand.tmp 31) 3, type := 0, pos := "table.go:58", after := #[{ on := 5, ground := Ground.data }, { on := 3, ground := Ground.guard }], guard := some (3, false) }) (v := ?_) rfl (by kernel_rfl) (by kernel_rfl) (by kernel_rfl) (fun _ _ _ h => h) (Or.inl ⟨by rfl, ?_⟩) (by assumption) ?_
    rotate_left
    · intro w0 hSw; (try dsimp only at hSw); go_simp; (try with_reducible rfl)
    try simp only [Act.put, List.setIfInBounds_toArray, List.set_cons_zero, List.set_cons_succ]
    refine wpAnyH_take (i := 7) (oi := { dst := some 33, op := Op.load 3 (Operand.tmp 32), type := 3, pos := "table.go:58", after := #[{ on := 6, ground := Ground.data }, { on := 3, ground := Ground.guard }], guard := some (3, false) }) (v := ?_) rfl (by kernel_rfl) (by kernel_rfl) (by kernel_rfl) (fun _ _ _ h => h) (Or.inl ⟨by rfl, ?_⟩) (by assumption) ?_
    rotate_left
    · intro w0 hSw; (try dsimp only at hSw); go_simp; (try with_reducible rfl)
    try simp only [Act.put, List.setIfInBounds_toArray, List.set_cons_zero, List.set_cons_succ]
    refine wpAnyH_take (i := 9) (oi := { dst := some 35, op := Op.move (Operand.tmp 0), type := 24, pos := "table.go:58", after := #[{ on := 3, ground := Ground.guard }], guard := some (3, false) }) (v := ?_) rfl (by kernel_rfl) (by kernel_rfl) (by kernel_rfl) (fun _ _ _ h => h) (Or.inl ⟨by rfl, ?_⟩) (by assumption) ?_
    rotate_left
    · intro w0 hSw; (try dsimp only at hSw); go_simp; (try with_reducible rfl)
    try simp only [Act.put, List.setIfInBounds_toArray, List.set_cons_zero, List.set_cons_succ]
    refine wpAnyH_take (i := 10) (oi := { dst := some 36, op := Op.nilCheck (Operand.tmp 35), type := 0, pos := "table.go:58", after := #[{ on := 9, ground := Ground.data }, { on := 3, ground := Ground.guard }], guard := some (3, false) }) (v := ?_) rfl (by kernel_rfl) (by kernel_rfl) (by kernel_rfl) (fun _ _ _ h => h) (Or.inl ⟨by rfl, ?_⟩) (by assumption) ?_
    rotate_left
    · intro w0 hSw; (try dsimp only at hSw); go_simp; (try with_reducible rfl)
    try simp only [Act.put, List.setIfInBounds_toArray, List.set_cons_zero, List.set_cons_succ]
    refine wpAnyH_take (i := 11) (oi := { dst := some 37, op := Op.fieldAddr 50 (Operand.tmp 36) 1, type := 0, pos := "table.go:58", after := #[{ on := 10, ground := Ground.data }, { on := 3, ground := Ground.guard }], guard := some (3, false) }) (v := ?_) rfl (by kernel_rfl) (by kernel_rfl) (by kernel_rfl) (fun _ _ _ h => h) (Or.inl ⟨by rfl, ?_⟩) (by assumption) ?_
    rotate_left
    · intro w0 hSw; (try dsimp only at hSw); go_simp; (try with_reducible rfl)
    try simp only [Act.put, List.setIfInBounds_toArray, List.set_cons_zero, List.set_cons_succ]
    refine wpAnyH_take (i := 12) (oi := { dst := some 38, op := Op.load 3 (Operand.tmp 37), type := 3, pos := "table.go:58", after := #[{ on := 11, ground := Ground.data }, { on := 3, ground := Ground.guard }], guard := some (3, false) }) (v := ?_) rfl (by kernel_rfl) (by kernel_rfl) (by kernel_rfl) (fun _ _ _ h => h) (Or.inl ⟨by rfl, ?_⟩) (by assumption) ?_
    rotate_left
    · intro w0 hSw; (try dsimp only at hSw); go_simp; (try with_reducible rfl)
    try simp only [Act.put, List.setIfInBounds_toArray, List.set_cons_zero, List.set_cons_succ]
    refine wpAnyH_ready (rs := [8]) (by kernel_rfl) (by simp) ?_
    refine AllReadyH.cons (o := { dst := some 34, op := Op.call { callee := Callee.value (Operand.func 22), args := #[Operand.tmp 30, Operand.tmp 33], argTypes := #[3, 3] }, type := 3, pos := "table.go:58", after := #[{ on := 4, ground := Ground.data }, { on := 7, ground := Ground.data }, { on := 3, ground := Ground.chain }, { on := 3, ground := Ground.guard }], guard := some (3, false) }) rfl (fun K hK => ?_) AllReadyH.nil
    go_simp
    refine (E.out _).mono ?_; rintro e' w5 ⟨rfl, b5⟩
    refine hK.out _ _ ?_ (fun hHeld => ?_)
    · (try dsimp only); first | exact (G21.below hHeld.2 (by assumption)).s | exact A.out.drew.s
    clear hK K
    try simp only [Act.put, List.setIfInBounds_toArray, List.set_cons_zero, List.set_cons_succ]
    refine wpAnyH_take (i := 13) (oi := { dst := some 39, op := Op.binOp BinOp.gtr 3 (Operand.tmp 34) (Operand.tmp 38) 3, type := 4, pos := "table.go:58", after := #[{ on := 8, ground := Ground.data }, { on := 12, ground := Ground.data }, { on := 3, ground := Ground.guard }], guard := some (3, false) }) (v := ?_) rfl (by kernel_rfl) (by kernel_rfl) (by kernel_rfl) (fun _ _ _ h => h) (Or.inl ⟨by rfl, ?_⟩) (by assumption) ?_
    rotate_left
    · intro w0 hSw; (try dsimp only at hSw); go_simp; (try with_reducible rfl)
    try simp only [Act.put, List.setIfInBounds_toArray, List.set_cons_zero, List.set_cons_succ]
    refine wpAnyH_take (i := 14) (oi := { dst := some 40, op := Op.pick (Operand.tmp 29) (Operand.const (Value.bool true)) (Operand.tmp 39), type := 4, pos := "table.go:58", after := #[{ on := 3, ground := Ground.data }, { on := 13, ground := Ground.data }], guard := none }) (v := ?_) rfl (by kernel_rfl) (by kernel_rfl) (by kernel_rfl) (fun _ _ _ h => h) (Or.inl ⟨by rfl, ?_⟩) (by assumption) ?_
    rotate_left
    · intro w0 hSw; (try dsimp only at hSw); go_simp; (try with_reducible rfl)
    try simp only [Act.put, List.setIfInBounds_toArray, List.set_cons_zero, List.set_cons_succ]
    refine wpAnyH_done (by kernel_rfl) ?_ _
    have r0 := hHeld.2.r.cell 0
    have r1 := hHeld.2.r.cell 1
    have r2 := hHeld.2.r.cell 2
    have r3 := hHeld.2.r.cell 3
    have q0 := hHeld.2.r.frozen 0
    have q1 := hHeld.2.r.frozen 1
    have q2 := hHeld.2.r.frozen 2
    have q3 := hHeld.2.r.frozen 3
    go_wp2_with fail
    generalize hW2 : World.setCell (World.setCell (World.setCell (World.setCell _ _ _) _ _) _ _) _ _ = W2
    have R2 := Lib.hid (show Bk W2 w.heap.size 36 #[.int .i64 0, .int .i64 0, .int .i64 0, .int .i64 0] by rw [← hW2]; exact (((hHeld.2.r.set_ 0 _).set_ 1 _).set_ 2 _).set_ 3 _)
    have B2 := Lib.hid (show Below w.heap.size w W2 by rw [← hW2]; exact (((hHeld.2.bl.setCell (by simp) _).setCell (by simp) _).setCell (by simp) _).setCell (by simp) _)
    clear hW2 r0 r1 r2 r3 q0 q1 q2 q3
    have r0 := R2.out.cell 0
    have r1 := R2.out.cell 1
    have r2 := R2.out.cell 2
    have r3 := R2.out.cell 3
    exact bodyPost_ret (v := .tuple #[.agg #[.int .i64 0, .int .i64 0, .int .i64 0, .int .i64 0], .bool false]) (by simp [results, Try.results12, go_sem, r0, r1, r2, r3]) rfl ⟨by rw [HLF.out, E2.out]; rfl, by first | exact B2.out.drew | exact B2.out⟩
end Go.Proofs.Ytbfimnlffjkokaa
