/-
  The contracts of the functions of layer 36.
-/
import Derived.Test.YtibbeedodlnhjaaRow
import Derived.Test.YtibbeedodlnhjaaDreg
import Derived.Laws.CopyOwn
import Derived.Laws.MakeOwn
import Derived.Deep.Cut
import Derived.IntWalk
namespace Go.Proofs.Ytibbeedodlnhjaa
open Go.RowKit
def strs (l : List ByteArray) : List Value := l.map Value.string
theorem strs_len (l : List ByteArray) : (strs l).length = l.length := by simp [strs]
theorem strs_one (l : List ByteArray) : ∀ u ∈ strs l, u.oneCell' = true := fun u hu => by obtain ⟨s, _, rfl⟩ := List.mem_map.1 hu; rfl
theorem strs_app (l m : List ByteArray) : strs (l ++ m) = strs l ++ strs m := by simp [strs]
/-- What a bag's blocks are: its own, and its row's. -/
def fp (g : Nat) (v : Value) (k : Nat) : Prop := k = g ∨ v.ownBlock = some k
/-- All blocks but those of a bag are as they were. -/
structure Oth (F : Nat → Prop) (w w' : World) : Prop where
  os : w'.os = w.os
  tape : w'.tape = w.tape
  output : w'.output = w.output
  size : w.heap.size ≤ w'.heap.size
  block : ∀ k, k < w.heap.size → ¬ F k → w'.heap[k]? = w.heap[k]?
theorem Oth.refl (F : Nat → Prop) (w : World) : Oth F w w := ⟨rfl, rfl, rfl, Nat.le_refl _, fun _ _ _ => rfl⟩
theorem Oth.of_below {F : Nat → Prop} {w w' : World} (h : Below w.heap.size w w') : Oth F w w' := ⟨h.os, h.tape, h.output, h.size, fun k hk _ => h.block k hk⟩
theorem Oth.of_grown {F : Nat → Prop} {w w' : World} {r : Option Nat} (h : w.grownBy w' r) (hF : ∀ k, r = some k → F k) : Oth F w w' := ⟨h.os, h.tape, h.output, h.size, fun k hk hn => h.block k hk (fun e => hn (hF k e.symm))⟩
theorem Oth.trans {F F' : Nat → Prop} {a b c : World} (h : Oth F a b) (k : Oth F' b c) (hF : ∀ i, F' i → F i ∨ a.heap.size ≤ i) : Oth F a c :=
  ⟨k.os.trans h.os, k.tape.trans h.tape, k.output.trans h.output, Nat.le_trans h.size k.size, fun i hi hn => (k.block i (Nat.lt_of_lt_of_le hi h.size) (fun f => by rcases hF i f with f | f; exact hn f; omega)).trans (h.block i hi hn)⟩
theorem Oth.below {F : Nat → Prop} {w0 a b : World} {B : Nat} (h : Below B w0 a) (k : Oth F a b) (hB : B ≤ a.heap.size) (hF : ∀ i, F i → B ≤ i) : Below B w0 b :=
  h.trans ⟨k.os, k.tape, k.output, k.size, fun i hi => k.block i (by omega) (fun f => by have := hF i f; omega)⟩
/-- Block g is a bag whose texts are l. -/
structure Bg (w : World) (g : Nat) (v : Value) (most : Int) (l : List ByteArray) : Prop where
  b : Bk w g 48 #[v, .int .i64 most]
  r : Row w (g + 1) 1 v l.length (strs l)
section
variable {w w' : World} {g : Nat} {v : Value} {most : Int} {l : List ByteArray}
theorem Bg.below (h : Bg w g v most l) (k : Below w.heap.size w w') : Bg w' g v most l := ⟨h.b.below k, h.r.below k⟩
theorem Bg.oth {F : Nat → Prop} (h : Bg w g v most l) (k : Oth F w w') (hF : ∀ i, fp g v i → ¬ F i) : Bg w' g v most l := by
  have hb : w'.heap[g]? = w.heap[g]? := k.block g h.b.lt (hF g (Or.inl rfl))
  refine ⟨hb.trans h.b, h.r.len, ?_⟩
  rcases h.r.val with h0 | ⟨g', off, cap, rfl, h1, h2, h3, h4, h5, h6⟩
  · exact .inl h0
  · have hb : w'.heap[g']? = w.heap[g']? := k.block g' h2 (hF g' (Or.inr rfl))
    have hc : ∀ o, w'.cell? ⟨g', o, none⟩ = w.cell? ⟨g', o, none⟩ := fun o => by simp [World.cell?, hb]
    have hf : ∀ o, w'.frozen? ⟨g', o, none⟩ = w.frozen? ⟨g', o, none⟩ := fun o => by simp [World.frozen?, hb]
    exact .inr ⟨g', off, cap, rfl, h1, Nat.lt_of_lt_of_le h2 k.size, h3, h4, fun j u hu => (hc _).trans (h5 j u hu), fun j a b => by rw [hc, hf]; exact h6 j a b⟩
theorem Bg.fp_lt (h : Bg w g v most l) : ∀ k, fp g v k → g ≤ k ∧ k < w.heap.size := by
  rintro k (rfl | hk)
  · exact ⟨Nat.le_refl _, h.b.lt⟩
  · have := h.r.lt k hk; omega
end
theorem bnew_ok (most : Int) (h : 0 ≤ most) (h2 : most ≤ 64) (w : World) :
    Calls Try.prog 8 #[.int .i64 most] w fun e w' => e = .returned (.tuple #[.pointer (some ⟨w.heap.size, 0, none⟩), .int .i64 0]) ∧ Bg w' w.heap.size (.slice none 0 0) most [] ∧ Below w.heap.size w w' := by
  go_enter Try.func8, Try.ntmps8
  go_wp2_with fail
  go_ret2
  exact ⟨rfl, ⟨Bk.new _ _ _, Row.nil _ _ _⟩, (Below.refl _ _).alloc (Nat.le_refl _) _⟩
theorem bnew_no (most : Int) (h : most < 0 ∨ 64 < most) (w : World) :
    Calls Try.prog 8 #[.int .i64 most] w fun e w' => e = .returned (.tuple #[.pointer none, .int .i64 1]) ∧ w = w' := by
  have hd : decide (most < 0) = true ∨ (decide (most < 0) = false ∧ decide (64 < most) = true) := by
    rcases h with h | h
    · exact Or.inl (dlt_t h)
    · exact Or.inr ⟨dlt_f (by omega), dlt_t h⟩
  clear h
  rcases hd with h1 | ⟨h1, h2⟩
  all_goals
    go_enter Try.func8, Try.ntmps8
    go_wp2_with fail
    go_ret2
    exact ⟨rfl, rfl⟩
theorem blen_nil (w : World) : Calls Try.prog 18 #[.pointer none] w fun e w' => e = .returned (.int .i64 0) ∧ w = w' := by
  go_enter Try.func18, Try.ntmps18
  go_wp2_with fail
  go_ret
  exact ⟨rfl, rfl⟩
theorem blen_any {g : Nat} {v : Value} {most : Int} {l : List ByteArray} (w : World) (h : Bg w g v most l) :
    Calls Try.prog 18 #[.pointer (some ⟨g, 0, none⟩)] w fun e w' => e = .returned (.int .i64 l.length) ∧ w = w' := by
  obtain ⟨a, cap, rfl, _⟩ := h.r.row
  have c0 := h.b.cell 0
  clear h
  go_enter Try.func18, Try.ntmps18
  go_wp2_with fail
  go_ret
  exact ⟨rfl, rfl⟩
theorem bput_nil (s : ByteArray) (w : World) : Calls Try.prog 10 #[.pointer none, .string s] w fun e w' => e = .returned (.bool false) ∧ Below w.heap.size w w' := by
  go_enter Try.func10, Try.ntmps10
  go_wp2_with fail
  refine wp_region_held_drew (S := (fun W => True ∧ Below w.heap.size w W)) (by kernel_rfl) ?_ (fun hHeld => ?_)
  · (try dsimp only); exact ⟨trivial, (Below.refl _ _).drew⟩
  refine wpD_go (by kernel_rfl) _ _ _ _ (by assumption) ?_
  refine wpD_step (i := 0) (o := { dst := some 5, op := Op.move (Operand.tmp 0), type := 25, pos := "bag.go:22", after := #[], guard := none }) (v := ?_) rfl (by kernel_rfl) (by kernel_rfl) ?_ ?_
  rotate_left
  · refine gives_pure (by rfl) ?_
    intro w0 hSw; (try dsimp only at hSw); go_simp; (try with_reducible rfl)
  try simp only [Act.put, List.setIfInBounds_toArray, List.set_cons_zero, List.set_cons_succ]
  refine wpD_step (i := 1) (o := { dst := some 6, op := Op.binOp BinOp.eql 25 (Operand.tmp 5) (Operand.const (Value.pointer none)) 25, type := 4, pos := "bag.go:22", after := #[{ on := 0, ground := Ground.data }], guard := none }) (v := (Value.bool (true))) rfl (by kernel_rfl) (by kernel_rfl) ?_ ?_
  · refine gives_pure (by rfl) ?_
    intro w0 hSw; first | rfl | ((try dsimp only at hSw); go_simp; (try with_reducible rfl))
  try simp only [Act.put, List.setIfInBounds_toArray, List.set_cons_zero, List.set_cons_succ]
  refine wpD_step (i := 2) (o := { dst := some 7, op := Op.move (Operand.tmp 6), type := 4, pos := "bag.go:22", after := #[{ on := 1, ground := Ground.data }], guard := none }) (v := (Value.bool (true))) rfl (by kernel_rfl) (by kernel_rfl) ?_ ?_
  · refine gives_pure (by rfl) ?_
    intro w0 hSw; (try dsimp only at hSw); go_simp; (try with_reducible rfl)
  try simp only [Act.put, List.setIfInBounds_toArray, List.set_cons_zero, List.set_cons_succ]
  refine wpD_step (i := 3) (o := { dst := some 8, op := Op.move (Operand.tmp 0), type := 25, pos := "bag.go:22", after := #[{ on := 2, ground := Ground.guard }], guard := some (2, false) }) (v := undef) rfl (by kernel_rfl) (by kernel_rfl) (gives_not (by rfl)) ?_
  try simp only [Act.put, List.setIfInBounds_toArray, List.set_cons_zero, List.set_cons_succ]
  refine wpD_step (i := 4) (o := { dst := some 9, op := Op.nilCheck (Operand.tmp 8), type := 0, pos := "bag.go:22", after := #[{ on := 3, ground := Ground.data }, { on := 2, ground := Ground.guard }], guard := some (2, false) }) (v := undef) rfl (by kernel_rfl) (by kernel_rfl) (gives_not (by rfl)) ?_
  try simp only [Act.put, List.setIfInBounds_toArray, List.set_cons_zero, List.set_cons_succ]
  refine wpD_step (i := 5) (o := { dst := some 10, op := Op.fieldAddr 48 (Operand.tmp 9) 0, type := 0, pos := "bag.go:22", after := #[{ on := 4, ground := Ground.data }, { on := 2, ground := Ground.guard }], guard := some (2, false) }) (v := undef) rfl (by kernel_rfl) (by kernel_rfl) (gives_not (by rfl)) ?_
  try simp only [Act.put, List.setIfInBounds_toArray, List.set_cons_zero, List.set_cons_succ]
  refine wpD_step (i := 6) (o := { dst := some 11, op := Op.load 29 (Operand.tmp 10), type := 29, pos := "bag.go:22", after := #[{ on := 5, ground := Ground.data }, { on := 2, ground := Ground.guard }], guard := some (2, false) }) (v := undef) rfl (by kernel_rfl) (by kernel_rfl) (gives_not (by rfl)) ?_
  try simp only [Act.put, List.setIfInBounds_toArray, List.set_cons_zero, List.set_cons_succ]
  refine wpD_step (i := 7) (o := { dst := some 12, op := Op.call { callee := Callee.builtin Builtin.len, args := #[Operand.tmp 11], argTypes := #[29] }, type := 3, pos := "bag.go:22", after := #[{ on := 6, ground := Ground.data }, { on := 2, ground := Ground.guard }], guard := some (2, false) }) (v := undef) rfl (by kernel_rfl) (by kernel_rfl) (gives_not (by rfl)) ?_
  try simp only [Act.put, List.setIfInBounds_toArray, List.set_cons_zero, List.set_cons_succ]
  refine wpD_step (i := 8) (o := { dst := some 13, op := Op.move (Operand.tmp 0), type := 25, pos := "bag.go:22", after := #[{ on := 2, ground := Ground.guard }], guard := some (2, false) }) (v := undef) rfl (by kernel_rfl) (by kernel_rfl) (gives_not (by rfl)) ?_
  try simp only [Act.put, List.setIfInBounds_toArray, List.set_cons_zero, List.set_cons_succ]
  refine wpD_step (i := 9) (o := { dst := some 14, op := Op.nilCheck (Operand.tmp 13), type := 0, pos := "bag.go:22", after := #[{ on := 8, ground := Ground.data }, { on := 2, ground := Ground.guard }], guard := some (2, false) }) (v := undef) rfl (by kernel_rfl) (by kernel_rfl) (gives_not (by rfl)) ?_
  try simp only [Act.put, List.setIfInBounds_toArray, List.set_cons_zero, List.set_cons_succ]
  refine wpD_step (i := 10) (o := { dst := some 15, op := Op.fieldAddr 48 (Operand.tmp 14) 1, type := 0, pos := "bag.go:22", after := #[{ on := 9, ground := Ground.data }, { on := 2, ground := Ground.guard }], guard := some (2, false) }) (v := undef) rfl (by kernel_rfl) (by kernel_rfl) (gives_not (by rfl)) ?_
  try simp only [Act.put, List.setIfInBounds_toArray, List.set_cons_zero, List.set_cons_succ]
  refine wpD_step (i := 11) (o := { dst := some 16, op := Op.load 3 (Operand.tmp 15), type := 3, pos := "bag.go:22", after := #[{ on := 10, ground := Ground.data }, { on := 2, ground := Ground.guard }], guard := some (2, false) }) (v := undef) rfl (by kernel_rfl) (by kernel_rfl) (gives_not (by rfl)) ?_
  try simp only [Act.put, List.setIfInBounds_toArray, List.set_cons_zero, List.set_cons_succ]
  refine wpD_step (i := 12) (o := { dst := some 17, op := Op.binOp BinOp.geq 3 (Operand.tmp 12) (Operand.tmp 16) 3, type := 4, pos := "bag.go:22", after := #[{ on := 7, ground := Ground.data }, { on := 11, ground := Ground.data }, { on := 2, ground := Ground.guard }], guard := some (2, false) }) (v := undef) rfl (by kernel_rfl) (by kernel_rfl) (gives_not (by rfl)) ?_
  try simp only [Act.put, List.setIfInBounds_toArray, List.set_cons_zero, List.set_cons_succ]
  refine wpD_step (i := 13) (o := { dst := some 18, op := Op.pick (Operand.tmp 7) (Operand.const (Value.bool true)) (Operand.tmp 17), type := 4, pos := "bag.go:22", after := #[{ on := 2, ground := Ground.data }, { on := 12, ground := Ground.data }], guard := none }) (v := (Value.bool (true))) rfl (by kernel_rfl) (by kernel_rfl) ?_ ?_
  · refine gives_pure (by rfl) ?_
    intro w0 hSw; first | rfl | ((try dsimp only at hSw); go_simp; (try with_reducible rfl))
  try simp only [Act.put, List.setIfInBounds_toArray, List.set_cons_zero, List.set_cons_succ]
  refine wpD_done (by kernel_rfl) (fun wz hHeld => ?_) _
  go_wp2_with fail
  go_ret
  exact ⟨rfl, hHeld.2⟩
theorem info_str : (Try.prog.info? 9).map (fun i => (i.zero, i.size, i.bytes)) = some (some (.string ByteArray.empty), 1, 16) := by kernel_rfl
theorem bput_full {g : Nat} {v : Value} {most : Int} {l : List ByteArray} (s : ByteArray) (hf : most ≤ l.length) (w : World) (h : Bg w g v most l) :
    Calls Try.prog 10 #[.pointer (some ⟨g, 0, none⟩), .string s] w fun e w' => e = .returned (.bool false) ∧ Below w.heap.size w w' := by
  obtain ⟨a, cap, rfl, _⟩ := h.r.row
  have hd := dle_t hf
  clear hf
  have H := Lib.hid h
  have c0 := h.b.cell 0
  have c1 := h.b.cell 1
  have f0 := h.b.frozen 0
  clear h
  go_enter Try.func10, Try.ntmps10
  go_upto_region 1 with (fail)
  refine wp_region_held_drew (S := (fun W => (W.cell? ⟨g, 0, none⟩ = some (.slice a l.length cap) ∧ W.cell? ⟨g, 1, none⟩ = some (.int .i64 most)) ∧ Below w.heap.size w W)) (by kernel_rfl) ?_ (fun hHeld => ?_)
  · (try dsimp only); exact ⟨⟨c0, c1⟩, (Below.refl _ _).drew⟩
  refine wpD_go (by kernel_rfl) _ _ _ _ (by assumption) ?_
  refine wpD_step (i := 0) (o := { dst := some 5, op := Op.move (Operand.tmp 0), type := 25, pos := "bag.go:22", after := #[], guard := none }) (v := ?_) rfl (by kernel_rfl) (by kernel_rfl) ?_ ?_
  rotate_left
  · refine gives_pure (by rfl) ?_
    intro w0 hSw; (try dsimp only at hSw); go_simp; (try with_reducible rfl)
  try simp only [Act.put, List.setIfInBounds_toArray, List.set_cons_zero, List.set_cons_succ]
  refine wpD_step (i := 1) (o := { dst := some 6, op := Op.binOp BinOp.eql 25 (Operand.tmp 5) (Operand.const (Value.pointer none)) 25, type := 4, pos := "bag.go:22", after := #[{ on := 0, ground := Ground.data }], guard := none }) (v := (Value.bool (false))) rfl (by kernel_rfl) (by kernel_rfl) ?_ ?_
  · refine gives_pure (by rfl) ?_
    intro w0 hSw; first | rfl | ((try dsimp only at hSw); go_simp; (try with_reducible rfl))
  try simp only [Act.put, List.setIfInBounds_toArray, List.set_cons_zero, List.set_cons_succ]
  refine wpD_step (i := 2) (o := { dst := some 7, op := Op.move (Operand.tmp 6), type := 4, pos := "bag.go:22", after := #[{ on := 1, ground := Ground.data }], guard := none }) (v := (Value.bool (false))) rfl (by kernel_rfl) (by kernel_rfl) ?_ ?_
  · refine gives_pure (by rfl) ?_
    intro w0 hSw; (try dsimp only at hSw); go_simp; (try with_reducible rfl)
  try simp only [Act.put, List.setIfInBounds_toArray, List.set_cons_zero, List.set_cons_succ]
  refine wpD_step (i := 3) (o := { dst := some 8, op := Op.move (Operand.tmp 0), type := 25, pos := "bag.go:22", after := #[{ on := 2, ground := Ground.guard }], guard := some (2, false) }) (v := ?_) rfl (by kernel_rfl) (by kernel_rfl) ?_ ?_
  rotate_left
  · refine gives_pure (by rfl) ?_
    intro w0 hSw; (try dsimp only at hSw); go_simp; (try with_reducible rfl)
  try simp only [Act.put, List.setIfInBounds_toArray, List.set_cons_zero, List.set_cons_succ]
  refine wpD_step (i := 4) (o := { dst := some 9, op := Op.nilCheck (Operand.tmp 8), type := 0, pos := "bag.go:22", after := #[{ on := 3, ground := Ground.data }, { on := 2, ground := Ground.guard }], guard := some (2, false) }) (v := ?_) rfl (by kernel_rfl) (by kernel_rfl) ?_ ?_
  rotate_left
  · refine gives_pure (by rfl) ?_
    intro w0 hSw; (try dsimp only at hSw); go_simp; (try with_reducible rfl)
  try simp only [Act.put, List.setIfInBounds_toArray, List.set_cons_zero, List.set_cons_succ]
  refine wpD_step (i := 5) (o := { dst := some 10, op := Op.fieldAddr 48 (Operand.tmp 9) 0, type := 0, pos := "bag.go:22", after := #[{ on := 4, ground := Ground.data }, { on := 2, ground := Ground.guard }], guard := some (2, false) }) (v := ?_) rfl (by kernel_rfl) (by kernel_rfl) ?_ ?_
  rotate_left
  · refine gives_pure (by rfl) ?_
    intro w0 hSw; (try dsimp only at hSw); go_simp; (try with_reducible rfl)
  try simp only [Act.put, List.setIfInBounds_toArray, List.set_cons_zero, List.set_cons_succ]
  refine wpD_step (i := 6) (o := { dst := some 11, op := Op.load 29 (Operand.tmp 10), type := 29, pos := "bag.go:22", after := #[{ on := 5, ground := Ground.data }, { on := 2, ground := Ground.guard }], guard := some (2, false) }) (v := ?_) rfl (by kernel_rfl) (by kernel_rfl) ?_ ?_
  rotate_left
  · refine gives_pure (by rfl) ?_
    intro w0 hSw; (try dsimp only at hSw); go_simp; (try with_reducible rfl)
  try simp only [Act.put, List.setIfInBounds_toArray, List.set_cons_zero, List.set_cons_succ]
  refine wpD_step (i := 7) (o := { dst := some 12, op := Op.call { callee := Callee.builtin Builtin.len, args := #[Operand.tmp 11], argTypes := #[29] }, type := 3, pos := "bag.go:22", after := #[{ on := 6, ground := Ground.data }, { on := 2, ground := Ground.guard }], guard := some (2, false) }) (v := ?_) rfl (by kernel_rfl) (by kernel_rfl) ?_ ?_
  rotate_left
  · refine gives_pure (by rfl) ?_
    intro w0 hSw; (try dsimp only at hSw); go_simp; (try with_reducible rfl)
  try simp only [Act.put, List.setIfInBounds_toArray, List.set_cons_zero, List.set_cons_succ]
  refine wpD_step (i := 8) (o := { dst := some 13, op := Op.move (Operand.tmp 0), type := 25, pos := "bag.go:22", after := #[{ on := 2, ground := Ground.guard }], guard := some (2, false) }) (v := ?_) rfl (by kernel_rfl) (by kernel_rfl) ?_ ?_
  rotate_left
  · refine gives_pure (by rfl) ?_
    intro w0 hSw; (try dsimp only at hSw); go_simp; (try with_reducible rfl)
  try simp only [Act.put, List.setIfInBounds_toArray, List.set_cons_zero, List.set_cons_succ]
  refine wpD_step (i := 9) (o := { dst := some 14, op := Op.nilCheck (Operand.tmp 13), type := 0, pos := "bag.go:22", after := #[{ on := 8, ground := Ground.data }, { on := 2, ground := Ground.guard }], guard := some (2, false) }) (v := ?_) rfl (by kernel_rfl) (by kernel_rfl) ?_ ?_
  rotate_left
  · refine gives_pure (by rfl) ?_
    intro w0 hSw; (try dsimp only at hSw); go_simp; (try with_reducible rfl)
  try simp only [Act.put, List.setIfInBounds_toArray, List.set_cons_zero, List.set_cons_succ]
  refine wpD_step (i := 10) (o := { dst := some 15, op := Op.fieldAddr 48 (Operand.tmp 14) 1, type := 0, pos := "bag.go:22", after := #[{ on := 9, ground := Ground.data }, { on := 2, ground := Ground.guard }], guard := some (2, false) }) (v := ?_) rfl (by kernel_rfl) (by kernel_rfl) ?_ ?_
  rotate_left
  · refine gives_pure (by rfl) ?_
    intro w0 hSw; (try dsimp only at hSw); go_simp; (try with_reducible rfl)
  try simp only [Act.put, List.setIfInBounds_toArray, List.set_cons_zero, List.set_cons_succ]
  refine wpD_step (i := 11) (o := { dst := some 16, op := Op.load 3 (Operand.tmp 15), type := 3, pos := "bag.go:22", after := #[{ on := 10, ground := Ground.data }, { on := 2, ground := Ground.guard }], guard := some (2, false) }) (v := ?_) rfl (by kernel_rfl) (by kernel_rfl) ?_ ?_
  rotate_left
  · refine gives_pure (by rfl) ?_
    intro w0 hSw; (try dsimp only at hSw); go_simp; (try with_reducible rfl)
  try simp only [Act.put, List.setIfInBounds_toArray, List.set_cons_zero, List.set_cons_succ]
  refine wpD_step (i := 12) (o := { dst := some 17, op := Op.binOp BinOp.geq 3 (Operand.tmp 12) (Operand.tmp 16) 3, type := 4, pos := "bag.go:22", after := #[{ on := 7, ground := Ground.data }, { on := 11, ground := Ground.data }, { on := 2, ground := Ground.guard }], guard := some (2, false) }) (v := (Value.bool (true))) rfl (by kernel_rfl) (by kernel_rfl) ?_ ?_
  · refine gives_pure (by rfl) ?_
    intro w0 hSw; (try dsimp only at hSw); go_simp; (try with_reducible rfl)
  try simp only [Act.put, List.setIfInBounds_toArray, List.set_cons_zero, List.set_cons_succ]
  refine wpD_step (i := 13) (o := { dst := some 18, op := Op.pick (Operand.tmp 7) (Operand.const (Value.bool true)) (Operand.tmp 17), type := 4, pos := "bag.go:22", after := #[{ on := 2, ground := Ground.data }, { on := 12, ground := Ground.data }], guard := none }) (v := (Value.bool (true))) rfl (by kernel_rfl) (by kernel_rfl) ?_ ?_
  · refine gives_pure (by rfl) ?_
    intro w0 hSw; first | rfl | ((try dsimp only at hSw); go_simp; (try with_reducible rfl))
  try simp only [Act.put, List.setIfInBounds_toArray, List.set_cons_zero, List.set_cons_succ]
  refine wpD_done (by kernel_rfl) (fun wz hHeld => ?_) _
  go_wp2_with fail
  go_ret
  exact ⟨rfl, hHeld.2⟩
set_option maxHeartbeats 1000000 in
theorem bput_room {g : Nat} {v : Value} {most : Int} {l : List ByteArray} (s : ByteArray) (hf : l.length < most) (hm : most ≤ 1000) (w : World) (h : Bg w g v most l) :
    Calls Try.prog 10 #[.pointer (some ⟨g, 0, none⟩), .string s] w fun e w' => e = .returned (.bool true) ∧ ∃ v', Bg w' g v' most (l ++ [s]) ∧ Oth (fp g v) w w' ∧ (∀ k, v'.ownBlock = some k → v.ownBlock = some k ∨ w.heap.size ≤ k) := by
  obtain ⟨i0, hi, hz0, hz1, hz2⟩ := info_parts info_str
  have hI := Lib.hid (And.intro hi (And.intro hz0 (And.intro hz1 hz2)))
  clear hi hz0 hz1 hz2
  obtain ⟨a, cap, rfl, _⟩ := h.r.row
  have hd := dle_f hf
  have H := Lib.hid h
  have c0 := h.b.cell 0
  have c1 := h.b.cell 1
  have f0 := h.b.frozen 0
  clear h
  go_enter Try.func10, Try.ntmps10
  go_upto_region 1 with (fail)
  refine wp_region_held_drew (S := (fun W => (W.cell? ⟨g, 0, none⟩ = some (.slice a l.length cap) ∧ W.cell? ⟨g, 1, none⟩ = some (.int .i64 most)) ∧ Below w.heap.size w W)) (by kernel_rfl) ?_ (fun hHeld => ?_)
  · (try dsimp only); exact ⟨⟨c0, c1⟩, (Below.refl _ _).drew⟩
  refine wpD_go (by kernel_rfl) _ _ _ _ (by assumption) ?_
  refine wpD_step (i := 0) (o := { dst := some 5, op := Op.move (Operand.tmp 0), type := 25, pos := "bag.go:22", after := #[], guard := none }) (v := ?_) rfl (by kernel_rfl) (by kernel_rfl) ?_ ?_
  rotate_left
  · refine gives_pure (by rfl) ?_
    intro w0 hSw; (try dsimp only at hSw); go_simp; (try with_reducible rfl)
  try simp only [Act.put, List.setIfInBounds_toArray, List.set_cons_zero, List.set_cons_succ]
  refine wpD_step (i := 1) (o := { dst := some 6, op := Op.binOp BinOp.eql 25 (Operand.tmp 5) (Operand.const (Value.pointer none)) 25, type := 4, pos := "bag.go:22", after := #[{ on := 0, ground := Ground.data }], guard := none }) (v := (Value.bool (false))) rfl (by kernel_rfl) (by kernel_rfl) ?_ ?_
  · refine gives_pure (by rfl) ?_
    intro w0 hSw; first | rfl | ((try dsimp only at hSw); go_simp; (try with_reducible rfl))
  try simp only [Act.put, List.setIfInBounds_toArray, List.set_cons_zero, List.set_cons_succ]
  refine wpD_step (i := 2) (o := { dst := some 7, op := Op.move (Operand.tmp 6), type := 4, pos := "bag.go:22", after := #[{ on := 1, ground := Ground.data }], guard := none }) (v := (Value.bool (false))) rfl (by kernel_rfl) (by kernel_rfl) ?_ ?_
  · refine gives_pure (by rfl) ?_
    intro w0 hSw; (try dsimp only at hSw); go_simp; (try with_reducible rfl)
  try simp only [Act.put, List.setIfInBounds_toArray, List.set_cons_zero, List.set_cons_succ]
  refine wpD_step (i := 3) (o := { dst := some 8, op := Op.move (Operand.tmp 0), type := 25, pos := "bag.go:22", after := #[{ on := 2, ground := Ground.guard }], guard := some (2, false) }) (v := ?_) rfl (by kernel_rfl) (by kernel_rfl) ?_ ?_
  rotate_left
  · refine gives_pure (by rfl) ?_
    intro w0 hSw; (try dsimp only at hSw); go_simp; (try with_reducible rfl)
  try simp only [Act.put, List.setIfInBounds_toArray, List.set_cons_zero, List.set_cons_succ]
  refine wpD_step (i := 4) (o := { dst := some 9, op := Op.nilCheck (Operand.tmp 8), type := 0, pos := "bag.go:22", after := #[{ on := 3, ground := Ground.data }, { on := 2, ground := Ground.guard }], guard := some (2, false) }) (v := ?_) rfl (by kernel_rfl) (by kernel_rfl) ?_ ?_
  rotate_left
  · refine gives_pure (by rfl) ?_
    intro w0 hSw; (try dsimp only at hSw); go_simp; (try with_reducible rfl)
  try simp only [Act.put, List.setIfInBounds_toArray, List.set_cons_zero, List.set_cons_succ]
  refine wpD_step (i := 5) (o := { dst := some 10, op := Op.fieldAddr 48 (Operand.tmp 9) 0, type := 0, pos := "bag.go:22", after := #[{ on := 4, ground := Ground.data }, { on := 2, ground := Ground.guard }], guard := some (2, false) }) (v := ?_) rfl (by kernel_rfl) (by kernel_rfl) ?_ ?_
  rotate_left
  · refine gives_pure (by rfl) ?_
    intro w0 hSw; (try dsimp only at hSw); go_simp; (try with_reducible rfl)
  try simp only [Act.put, List.setIfInBounds_toArray, List.set_cons_zero, List.set_cons_succ]
  refine wpD_step (i := 6) (o := { dst := some 11, op := Op.load 29 (Operand.tmp 10), type := 29, pos := "bag.go:22", after := #[{ on := 5, ground := Ground.data }, { on := 2, ground := Ground.guard }], guard := some (2, false) }) (v := ?_) rfl (by kernel_rfl) (by kernel_rfl) ?_ ?_
  rotate_left
  · refine gives_pure (by rfl) ?_
    intro w0 hSw; (try dsimp only at hSw); go_simp; (try with_reducible rfl)
  try simp only [Act.put, List.setIfInBounds_toArray, List.set_cons_zero, List.set_cons_succ]
  refine wpD_step (i := 7) (o := { dst := some 12, op := Op.call { callee := Callee.builtin Builtin.len, args := #[Operand.tmp 11], argTypes := #[29] }, type := 3, pos := "bag.go:22", after := #[{ on := 6, ground := Ground.data }, { on := 2, ground := Ground.guard }], guard := some (2, false) }) (v := ?_) rfl (by kernel_rfl) (by kernel_rfl) ?_ ?_
  rotate_left
  · refine gives_pure (by rfl) ?_
    intro w0 hSw; (try dsimp only at hSw); go_simp; (try with_reducible rfl)
  try simp only [Act.put, List.setIfInBounds_toArray, List.set_cons_zero, List.set_cons_succ]
  refine wpD_step (i := 8) (o := { dst := some 13, op := Op.move (Operand.tmp 0), type := 25, pos := "bag.go:22", after := #[{ on := 2, ground := Ground.guard }], guard := some (2, false) }) (v := ?_) rfl (by kernel_rfl) (by kernel_rfl) ?_ ?_
  rotate_left
  · refine gives_pure (by rfl) ?_
    intro w0 hSw; (try dsimp only at hSw); go_simp; (try with_reducible rfl)
  try simp only [Act.put, List.setIfInBounds_toArray, List.set_cons_zero, List.set_cons_succ]
  refine wpD_step (i := 9) (o := { dst := some 14, op := Op.nilCheck (Operand.tmp 13), type := 0, pos := "bag.go:22", after := #[{ on := 8, ground := Ground.data }, { on := 2, ground := Ground.guard }], guard := some (2, false) }) (v := ?_) rfl (by kernel_rfl) (by kernel_rfl) ?_ ?_
  rotate_left
  · refine gives_pure (by rfl) ?_
    intro w0 hSw; (try dsimp only at hSw); go_simp; (try with_reducible rfl)
  try simp only [Act.put, List.setIfInBounds_toArray, List.set_cons_zero, List.set_cons_succ]
  refine wpD_step (i := 10) (o := { dst := some 15, op := Op.fieldAddr 48 (Operand.tmp 14) 1, type := 0, pos := "bag.go:22", after := #[{ on := 9, ground := Ground.data }, { on := 2, ground := Ground.guard }], guard := some (2, false) }) (v := ?_) rfl (by kernel_rfl) (by kernel_rfl) ?_ ?_
  rotate_left
  · refine gives_pure (by rfl) ?_
    intro w0 hSw; (try dsimp only at hSw); go_simp; (try with_reducible rfl)
  try simp only [Act.put, List.setIfInBounds_toArray, List.set_cons_zero, List.set_cons_succ]
  refine wpD_step (i := 11) (o := { dst := some 16, op := Op.load 3 (Operand.tmp 15), type := 3, pos := "bag.go:22", after := #[{ on := 10, ground := Ground.data }, { on := 2, ground := Ground.guard }], guard := some (2, false) }) (v := ?_) rfl (by kernel_rfl) (by kernel_rfl) ?_ ?_
  rotate_left
  · refine gives_pure (by rfl) ?_
    intro w0 hSw; (try dsimp only at hSw); go_simp; (try with_reducible rfl)
  try simp only [Act.put, List.setIfInBounds_toArray, List.set_cons_zero, List.set_cons_succ]
  refine wpD_step (i := 12) (o := { dst := some 17, op := Op.binOp BinOp.geq 3 (Operand.tmp 12) (Operand.tmp 16) 3, type := 4, pos := "bag.go:22", after := #[{ on := 7, ground := Ground.data }, { on := 11, ground := Ground.data }, { on := 2, ground := Ground.guard }], guard := some (2, false) }) (v := (Value.bool (false))) rfl (by kernel_rfl) (by kernel_rfl) ?_ ?_
  · refine gives_pure (by rfl) ?_
    intro w0 hSw; (try dsimp only at hSw); go_simp; (try with_reducible rfl)
  try simp only [Act.put, List.setIfInBounds_toArray, List.set_cons_zero, List.set_cons_succ]
  refine wpD_step (i := 13) (o := { dst := some 18, op := Op.pick (Operand.tmp 7) (Operand.const (Value.bool true)) (Operand.tmp 17), type := 4, pos := "bag.go:22", after := #[{ on := 2, ground := Ground.data }, { on := 12, ground := Ground.data }], guard := none }) (v := (Value.bool (false))) rfl (by kernel_rfl) (by kernel_rfl) ?_ ?_
  · refine gives_pure (by rfl) ?_
    intro w0 hSw; first | rfl | ((try dsimp only at hSw); go_simp; (try with_reducible rfl))
  try simp only [Act.put, List.setIfInBounds_toArray, List.set_cons_zero, List.set_cons_succ]
  refine wpD_done (by kernel_rfl) (fun wz hHeld => ?_) _
  have B1 := Lib.hid hHeld.2
  have H1 := Lib.hid (H.out.below hHeld.2)
  have d0 := hHeld.1.1
  have d1 := hHeld.1.2
  clear hHeld c0 c1 H f0
  have H2 := Lib.hid (H1.out.below ((Below.refl _ wz).alloc (Nat.le_refl _) (.cells #[.string s] 9)))
  have e0 := H2.out.b.cell 0
  go_wp2_with (at_builtin; refine wpList_append_row rfl _ _ 29 29 rfl H2.out.r rfl (xv := .slice (some ⟨wz.heap.size, 0, none⟩) 1 1) (m := 1) (news := strs [s]) rfl (src_at Try.underlying29 (lit_row wz _ #[.string s]) rfl (fun h => by cases h) (strs_one _)) Try.underlying29 hI.out.1 hI.out.2.1 hI.out.2.2.1 hI.out.2.2.2 rfl ?_ ?_ ?_ ?_)
  · unfold maxLen; omega
  · omega
  · have := H1.out.b.lt; simp; omega
  intro v' w2 hr hg hk
  obtain ⟨a2, cap2, rfl, _⟩ := hr.row
  have hgr : (Value.slice a l.length cap).ownBlock ≠ some g := fun e => by have := (H2.out.r.lt g e).1; omega
  have K2 := Lib.hid (show Bk w2 g 48 #[.slice a l.length cap, .int .i64 most] from H2.out.b.grown hg (fun e => hgr e.symm))
  have R2 := Lib.hid hr
  have O2 := Lib.hid (show Oth (fp g (.slice a l.length cap)) w w2 from ((Oth.of_below B1.out).trans (Oth.of_below ((Below.refl _ wz).alloc (Nat.le_refl _) _)) (fun i hi => Or.inl hi)).trans (Oth.of_grown (F := fp g (.slice a l.length cap)) hg (fun k hk => Or.inr hk)) (fun i hi => Or.inl hi))
  have N2 := Lib.hid (show ∀ k, (Value.slice a2 (l.length + 1) cap2).ownBlock = some k → (Value.slice a l.length cap).ownBlock = some k ∨ w.heap.size ≤ k from fun k hk' => by
    rcases hk k hk' with h | h
    · exact Or.inl h
    · right; have := B1.out.size; rw [h]; simp; omega)
  have V2 := Lib.hid (show (Value.slice a2 (l.length + 1) cap2).ownBlock ≠ some g from fun e => by have := (hr.lt g e).1; omega)
  clear hr hg hk hgr H1 H2 B1 d0 d1 e0
  have c0 := K2.out.cell 0
  have f0 := K2.out.frozen 0
  go_wp2_with fail
  go_ret
  refine ⟨rfl, (Value.slice a2 (l.length + 1) cap2), ⟨K2.out.set_ 0 _, ?_⟩, O2.out.trans (Oth.of_grown (F := fp g (.slice a l.length cap)) (only_set w2 g 0 (Value.slice a2 (l.length + 1) cap2)) (fun k hk => by injection hk with hk; exact Or.inl hk.symm)) (fun i hi => Or.inl hi), N2.out⟩
  have := R2.out.kept (only_set w2 g 0 (Value.slice a2 (l.length + 1) cap2)) (Or.inr V2.out)
  rw [List.length_append, strs_app]
  exact this
theorem bat_far {p : Value} {n : Int} (place : Int) (hp : place < 0 ∨ n ≤ place) (w : World) (hl : Calls Try.prog 18 #[p] w fun e w' => e = .returned (.int .i64 n) ∧ w = w') :
    Calls Try.prog 15 #[p, .int .i64 place] w fun e w' => e = .returned (.tuple #[.string ⟨#[]⟩, .bool false]) ∧ w = w' := by
  have HL := Lib.hid hl
  clear hl
  have hd : decide (place < 0) = true ∨ (decide (place < 0) = false ∧ decide (n ≤ place) = true) := by
    rcases (by omega : place < 0 ∨ (0 ≤ place ∧ n ≤ place)) with h | ⟨h, h'⟩
    · exact Or.inl (dlt_t h)
    · exact Or.inr ⟨dlt_f h, dle_t h'⟩
  clear hp
  rcases hd with h1 | ⟨h1, h2⟩
  · go_enter Try.func15, Try.ntmps15
    go_wp2_with fail
    go_ret2
    exact ⟨rfl, rfl⟩
  · go_enter Try.func15, Try.ntmps15
    go_wp2_with fail
    refine HL.out.mono ?_; rintro e w' ⟨rfl, rfl⟩
    go_wp2_with fail
    go_ret2
    exact ⟨rfl, rfl⟩
theorem bat_in {g : Nat} {v : Value} {most : Int} {l : List ByteArray} (k : Nat) (hk : k < l.length) (w : World) (h : Bg w g v most l) :
    Calls Try.prog 15 #[.pointer (some ⟨g, 0, none⟩), .int .i64 k] w fun e w' => e = .returned (.tuple #[.string l[k], .bool true]) ∧ w = w' := by
  have HL := Lib.hid (blen_any w h)
  obtain ⟨a, cap, rfl, hr, _⟩ := h.r.row
  obtain ⟨b, off, rfl, hc⟩ := hr.get (k := k) (v := .string l[k]) (by simp [strs, List.getElem?_eq_getElem hk])
  have c0 := h.b.cell 0
  have h1 := dlt_f (a := (k : Int)) (b := 0) (by omega)
  have h2 := dle_f (a := (l.length : Int)) (b := k) (by omega)
  clear h hr
  go_enter Try.func15, Try.ntmps15
  go_wp2_with fail
  refine HL.out.mono ?_; rintro e w' ⟨rfl, rfl⟩
  go_wp2_with fail
  go_ret2
  exact ⟨rfl, rfl⟩
theorem btwin_none {p : Value} (place : Int) (w : World) (ha : Calls Try.prog 15 #[p, .int .i64 place] w fun e w' => e = .returned (.tuple #[.string ⟨#[]⟩, .bool false]) ∧ w = w') :
    Calls Try.prog 14 #[p, .int .i64 place] w fun e w' => e = .returned (.int .i64 7) ∧ w = w' := by
  have HA := Lib.hid ha
  clear ha
  go_enter Try.func14, Try.ntmps14
  go_wp2_with fail
  refine HA.out.mono ?_; rintro e w' ⟨rfl, rfl⟩
  go_wp2_with fail
  go_ret
  exact ⟨rfl, rfl⟩
theorem btake_none {p : Value} (place : Int) (w : World) (ha : Calls Try.prog 15 #[p, .int .i64 place] w fun e w' => e = .returned (.tuple #[.string ⟨#[]⟩, .bool false]) ∧ w = w') :
    Calls Try.prog 11 #[p, .int .i64 place] w fun e w' => e = .returned (.tuple #[.string ⟨#[]⟩, .bool false]) ∧ w = w' := by
  have HA := Lib.hid ha
  clear ha
  go_enter Try.func11, Try.ntmps11
  go_wp2_with fail
  refine HA.out.mono ?_; rintro e w' ⟨rfl, rfl⟩
  go_wp2_with fail
  go_ret2
  exact ⟨rfl, rfl⟩
theorem btwin_full {g : Nat} {v : Value} {most : Int} {l : List ByteArray} (k : Nat) (hk : k < l.length) (hf : most ≤ l.length) (w : World) (h : Bg w g v most l) :
    Calls Try.prog 14 #[.pointer (some ⟨g, 0, none⟩), .int .i64 k] w fun e w' => e = .returned (.int .i64 6) ∧ Below w.heap.size w w' := by
  have HA := Lib.hid (bat_in k hk w h)
  have HP := Lib.hid (bput_full l[k] hf w h)
  clear h
  go_enter Try.func14, Try.ntmps14
  go_wp2_with fail
  refine HA.out.mono ?_; rintro e w' ⟨rfl, rfl⟩
  go_wp2_with fail
  refine HP.out.mono ?_; rintro e w1 ⟨rfl, b1⟩
  go_wp2_with fail
  go_ret
  exact ⟨rfl, b1⟩
theorem btwin_room {g : Nat} {v : Value} {most : Int} {l : List ByteArray} (k : Nat) (hk : k < l.length) (hf : l.length < most) (hm : most ≤ 1000) (w : World) (h : Bg w g v most l) :
    Calls Try.prog 14 #[.pointer (some ⟨g, 0, none⟩), .int .i64 k] w fun e w' => e = .returned (.int .i64 0) ∧ ∃ v', Bg w' g v' most (l ++ [l[k]]) ∧ Oth (fp g v) w w' ∧ (∀ k, v'.ownBlock = some k → v.ownBlock = some k ∨ w.heap.size ≤ k) := by
  have HA := Lib.hid (bat_in k hk w h)
  have HP := Lib.hid (bput_room l[k] hf hm w h)
  clear h
  go_enter Try.func14, Try.ntmps14
  go_wp2_with fail
  refine HA.out.mono ?_; rintro e w' ⟨rfl, rfl⟩
  go_wp2_with fail
  refine HP.out.mono ?_; rintro e w1 ⟨rfl, hp⟩
  have HP1 := Lib.hid hp
  clear hp
  go_wp2_with fail
  go_ret
  exact ⟨rfl, HP1.out⟩
end Go.Proofs.Ytibbeedodlnhjaa
