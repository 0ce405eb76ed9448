/-
  The contracts of the orders of layer 11.
-/
import Derived.Test.YtnhjpblkenmccaaBound
import Derived.Test.YtnhjpblkenmccaaSm
import Derived.Test.YtnhjpblkenmccaaDreg
import Derived.Test.YtnhjpblkenmccaaRankPlain
import Derived.Laws.EntriesVeiled
namespace Go.Proofs.Ytnhjpblkenmccaa
open Go.RowKit Bd Rk
/-- An item. -/
abbrev item (f : Nat → Int) : Array Value := #[.int .i64 (f 0), .int .i64 (f 1), .int .i64 (f 2), .int .i64 (f 3), .int .i64 (f 4), .int .i64 (f 5), .int .i64 (f 6)]
theorem levelOf_any (f : Nat → Int) (w : World) : Calls Try.prog 24 #[.agg #[.int .i64 (f 0), .int .i64 (f 1), .int .i64 (f 2), .int .i64 (f 3), .int .i64 (f 4), .int .i64 (f 5), .int .i64 (f 6)]] w fun e w' => e = .returned (.int .i64 (f 1)) ∧ Below w.heap.size w w' := by
  go_enter Try.func24, Try.ntmps24
  go_wp2_with fail
  go_ret
  exact ⟨rfl, (Below.refl _ _).alloc (Nat.le_refl _) _⟩
theorem deadlineOf_any (f : Nat → Int) (w : World) : Calls Try.prog 21 #[.agg #[.int .i64 (f 0), .int .i64 (f 1), .int .i64 (f 2), .int .i64 (f 3), .int .i64 (f 4), .int .i64 (f 5), .int .i64 (f 6)]] w fun e w' => e = .returned (.int .i64 (f 3)) ∧ Below w.heap.size w w' := by
  go_enter Try.func21, Try.ntmps21
  go_wp2_with fail
  go_ret
  exact ⟨rfl, (Below.refl _ _).alloc (Nat.le_refl _) _⟩
theorem seqOf_any (f : Nat → Int) (w : World) : Calls Try.prog 22 #[.agg #[.int .i64 (f 0), .int .i64 (f 1), .int .i64 (f 2), .int .i64 (f 3), .int .i64 (f 4), .int .i64 (f 5), .int .i64 (f 6)]] w fun e w' => e = .returned (.int .i64 (f 6)) ∧ Below w.heap.size w w' := by
  go_enter Try.func22, Try.ntmps22
  go_wp2_with fail
  go_ret
  exact ⟨rfl, (Below.refl _ _).alloc (Nat.le_refl _) _⟩
theorem idOf_any (f : Nat → Int) (w : World) : Calls Try.prog 23 #[.agg #[.int .i64 (f 0), .int .i64 (f 1), .int .i64 (f 2), .int .i64 (f 3), .int .i64 (f 4), .int .i64 (f 5), .int .i64 (f 6)]] w fun e w' => e = .returned (.int .i64 (f 0)) ∧ Below w.heap.size w w' := by
  go_enter Try.func23, Try.ntmps23
  go_wp2_with fail
  go_ret
  exact ⟨rfl, (Below.refl _ _).alloc (Nat.le_refl _) _⟩
theorem cmp_any (a b : Int) (w : World) : Calls Try.prog 28 #[.int .i64 a, .int .i64 b] w fun e w' => e = .returned (.int .i64 (cmpI a b)) ∧ w = w' := by
  go_enter Try.func28, Try.ntmps28
  go_wp2_with (go_in)
  all_goals
    go_ret
    exact ⟨ret_int (by unfold cmpI; (repeat' split) <;> omega), rfl⟩
def gfn : Nat → Nat | 0 => 23 | 1 => 24 | 3 => 21 | _ => 22
theorem gfn_any {j : Nat} (hj : j = 0 ∨ j = 1 ∨ j = 3 ∨ j = 6) (f : Nat → Int) (w : World) :
    Calls Try.prog (gfn j) #[.agg #[.int .i64 (f 0), .int .i64 (f 1), .int .i64 (f 2), .int .i64 (f 3), .int .i64 (f 4), .int .i64 (f 5), .int .i64 (f 6)]] w fun e w' => e = .returned (.int .i64 (f j)) ∧ Below w.heap.size w w' := by
  rcases hj with rfl | rfl | rfl | rfl
  · exact idOf_any f w
  · exact levelOf_any f w
  · exact deadlineOf_any f w
  · exact seqOf_any f w
/-- Two items in blocks of the call's own. -/
structure Two (w0 : World) (g1 g2 : Nat) (f h : Nat → Int) (W : World) : Prop where
  bl : Below w0.heap.size w0 W
  x : Bk W g1 23 #[.int .i64 (f 0), .int .i64 (f 1), .int .i64 (f 2), .int .i64 (f 3), .int .i64 (f 4), .int .i64 (f 5), .int .i64 (f 6)]
  y : Bk W g2 23 #[.int .i64 (h 0), .int .i64 (h 1), .int .i64 (h 2), .int .i64 (h 3), .int .i64 (h 4), .int .i64 (h 5), .int .i64 (h 6)]
section
variable {w0 W W' : World} {g1 g2 : Nat} {f h : Nat → Int}
theorem Two.below (q : Two w0 g1 g2 f h W) (k : Below W.heap.size W W') : Two w0 g1 g2 f h W' := ⟨q.bl.trans (k.mono q.bl.size), q.x.below k, q.y.below k⟩
theorem Two.drew (q : Two w0 g1 g2 f h W) : Two w0 g1 g2 f h W.drew := q.below (Below.refl _ _).drew
theorem Two.s (q : Two w0 g1 g2 f h W) : (W.cell? ⟨g1, 0, none⟩ = some (.int .i64 (f 0)) ∧ W.cell? ⟨g1, 1, none⟩ = some (.int .i64 (f 1)) ∧ W.cell? ⟨g1, 2, none⟩ = some (.int .i64 (f 2)) ∧ W.cell? ⟨g1, 3, none⟩ = some (.int .i64 (f 3)) ∧ W.cell? ⟨g1, 4, none⟩ = some (.int .i64 (f 4)) ∧ W.cell? ⟨g1, 5, none⟩ = some (.int .i64 (f 5)) ∧ W.cell? ⟨g1, 6, none⟩ = some (.int .i64 (f 6)) ∧
    W.cell? ⟨g2, 0, none⟩ = some (.int .i64 (h 0)) ∧ W.cell? ⟨g2, 1, none⟩ = some (.int .i64 (h 1)) ∧ W.cell? ⟨g2, 2, none⟩ = some (.int .i64 (h 2)) ∧ W.cell? ⟨g2, 3, none⟩ = some (.int .i64 (h 3)) ∧ W.cell? ⟨g2, 4, none⟩ = some (.int .i64 (h 4)) ∧ W.cell? ⟨g2, 5, none⟩ = some (.int .i64 (h 5)) ∧ W.cell? ⟨g2, 6, none⟩ = some (.int .i64 (h 6))) ∧ Two w0 g1 g2 f h W :=
  ⟨⟨q.x.cell 0, q.x.cell 1, q.x.cell 2, q.x.cell 3, q.x.cell 4, q.x.cell 5, q.x.cell 6, q.y.cell 0, q.y.cell 1, q.y.cell 2, q.y.cell 3, q.y.cell 4, q.y.cell 5, q.y.cell 6⟩, q⟩
end
theorem cmpL_skip {f h : Nat → Int} : ∀ (js : List Nat) (k : Nat), k ≤ js.length → (∀ i (hi : i < js.length), i < k → cmpI (f js[i]) (h js[i]) = 0) → cmpL js f h = cmpL (js.drop k) f h
  | js, 0, _, _ => rfl
  | [], k + 1, hk, _ => by simp at hk
  | j :: r, k + 1, hk, hz => by
    have h0 := hz 0 (by simp) (by omega)
    simp only [List.getElem_cons_zero] at h0
    rw [cmpL, if_neg (by omega), List.drop_succ_cons]
    exact cmpL_skip r k (by simpa using hk) (fun i hi hik => by have := hz (i + 1) (by simpa using hi) (by omega); simpa using this)
set_option maxHeartbeats 4000000 in
theorem by1_any (js : List Nat) (hjs : ∀ j ∈ js, j = 0 ∨ j = 1 ∨ j = 3 ∨ j = 6) (g gs : Nat) (f h : Nat → Int) (w : World) (hl : js.length ≤ 4)
    (hc : w.cell? ⟨g, 0, none⟩ = some (.slice (some ⟨gs, 0, none⟩) js.length js.length)) (hk : ∀ k (hk : k < js.length), w.cell? ⟨gs, k, none⟩ = some (.func (.func (gfn js[k])) #[] #[])) :
    Calls Try.prog 27 #[.agg #[.int .i64 (f 0), .int .i64 (f 1), .int .i64 (f 2), .int .i64 (f 3), .int .i64 (f 4), .int .i64 (f 5), .int .i64 (f 6)], .agg #[.int .i64 (h 0), .int .i64 (h 1), .int .i64 (h 2), .int .i64 (h 3), .int .i64 (h 4), .int .i64 (h 5), .int .i64 (h 6)], .pointer (some ⟨g, 0, none⟩)] w
      fun e w' => e = .returned (.int .i64 (cmpL js f h)) ∧ Below w.heap.size w w' := by
  have HC := Lib.hid hc
  have HK := Lib.hid hk
  have HJ := Lib.hid hjs
  have hc' : ∀ o o', ((w.alloc o).alloc o').cell? ⟨g, 0, none⟩ = some (.slice (some ⟨gs, 0, none⟩) js.length js.length) := fun o o' => (((((Below.refl w.heap.size w).alloc (Nat.le_refl _) o).alloc (by simp) o').cell (p := ⟨g, 0, none⟩) (cell_lt hc))).trans hc
  clear hc hk hjs
  go_enter Try.func27, Try.ntmps27
  go_wp2_with fail
  clear hc'
  generalize hW : World.alloc (World.alloc w _) _ = W
  have A0 := Lib.hid (show Two w w.heap.size (w.heap.size + 1) f h W by
    rw [← hW]
    exact ⟨((Below.refl _ w).alloc (Nat.le_refl _) _).alloc (by simp) _, Bk.below (Bk.new w _ _) ((Below.refl _ _).alloc (Nat.le_refl _) _), by simpa using Bk.new (w.alloc _) 23 _⟩)
  clear hW
  go_loopw [11] (fun i wr => ∃ k : Nat, k ≤ js.length ∧ i = .int .i64 k ∧ (∀ i (hi : i < js.length), i < k → cmpI (f js[i]) (h js[i]) = 0) ∧ Two w w.heap.size (w.heap.size + 1) f h wr) (fun i _ => js.length - (intOf i).toNat)
  case atStart => exact ⟨0, Nat.zero_le _, rfl, fun i _ hi => absurd hi (by omega), A0.out⟩
  case round =>
    obtain ⟨k, hk, rfl, hz, hA⟩ := hrel
    have HA := Lib.hid hA
    have HZ := Lib.hid hz
    clear A0 hA hz
    by_cases hlt : k < js.length
    · have ck := (HA.out.bl.cell (p := ⟨gs, k, none⟩) (cell_lt (HK.out k hlt))).trans (HK.out k hlt)
      have hj := HJ.out js[k] (List.getElem_mem hlt)
      have E1 := Lib.hid (cmpL_skip js k hk HZ.out)
      have E2 := Lib.hid (show cmpL (js.drop k) f h = if cmpI (f js[k]) (h js[k]) ≠ 0 then cmpI (f js[k]) (h js[k]) else cmpL (js.drop (k + 1)) f h by rw [List.drop_eq_getElem_cons hlt, cmpL])
      obtain ⟨j, hjk⟩ : ∃ j, js[k] = j := ⟨_, rfl⟩
      rw [hjk] at ck hj E2
      have HJK := Lib.hid hjk
      obtain ⟨c, hcmp⟩ : ∃ c, cmpI (f j) (h j) = c := ⟨_, rfl⟩
      have HCM := Lib.hid hcmp
      clear hcmp hjk
      rcases hj with rfl | rfl | rfl | rfl
      · have ck : wr.cell? ⟨gs, k, none⟩ = some (.func (.func 23) #[] #[]) := ck
        go_wp2_with fail
        refine wp_region_held_drew (S := (fun W => (W.cell? ⟨w.heap.size, 0, none⟩ = some (.int .i64 (f 0)) ∧ W.cell? ⟨w.heap.size, 1, none⟩ = some (.int .i64 (f 1)) ∧ W.cell? ⟨w.heap.size, 2, none⟩ = some (.int .i64 (f 2)) ∧ W.cell? ⟨w.heap.size, 3, none⟩ = some (.int .i64 (f 3)) ∧ W.cell? ⟨w.heap.size, 4, none⟩ = some (.int .i64 (f 4)) ∧ W.cell? ⟨w.heap.size, 5, none⟩ = some (.int .i64 (f 5)) ∧ W.cell? ⟨w.heap.size, 6, none⟩ = some (.int .i64 (f 6)) ∧ W.cell? ⟨w.heap.size + 1, 0, none⟩ = some (.int .i64 (h 0)) ∧ W.cell? ⟨w.heap.size + 1, 1, none⟩ = some (.int .i64 (h 1)) ∧ W.cell? ⟨w.heap.size + 1, 2, none⟩ = some (.int .i64 (h 2)) ∧ W.cell? ⟨w.heap.size + 1, 3, none⟩ = some (.int .i64 (h 3)) ∧ W.cell? ⟨w.heap.size + 1, 4, none⟩ = some (.int .i64 (h 4)) ∧ W.cell? ⟨w.heap.size + 1, 5, none⟩ = some (.int .i64 (h 5)) ∧ W.cell? ⟨w.heap.size + 1, 6, none⟩ = some (.int .i64 (h 6))) ∧ Two w w.heap.size (w.heap.size + 1) f h W)) (by kernel_rfl) ?_ (fun hHeld => ?_)
        · (try dsimp only); first | exact (Two.below hHeld.2 (by assumption)).s | exact HA.out.drew.s
        refine wpD_go (by kernel_rfl) _ _ _ _ (by assumption) ?_
        refine wpD_step (i := 0) (o := { dst := some 15, op := Op.move (Operand.tmp 7), type := 44, pos := "rank.go:23", after := #[], guard := none }) (v := ?_) rfl (by kernel_rfl) (by kernel_rfl) ?_ ?_
        rotate_left
        · refine gives_pure (by rfl) ?_
          intro w0 hSw; (try dsimp only at hSw); go_simp; (try with_reducible rfl)
        try simp only [Act.put, List.setIfInBounds_toArray, List.set_cons_zero, List.set_cons_succ]
        refine wpD_step (i := 1) (o := { dst := some 16, op := Op.load 23 (Operand.tmp 3), type := 23, pos := "rank.go:23", after := #[], guard := none }) (v := ?_) rfl (by kernel_rfl) (by kernel_rfl) ?_ ?_
        rotate_left
        · refine gives_pure (by rfl) ?_
          intro w0 hSw; (try dsimp only at hSw); go_simp; (try with_reducible rfl)
        try simp only [Act.put, List.setIfInBounds_toArray, List.set_cons_zero, List.set_cons_succ]
        refine wpD_step (i := 3) (o := { dst := some 18, op := Op.move (Operand.tmp 7), type := 44, pos := "rank.go:23", after := #[], guard := none }) (v := ?_) rfl (by kernel_rfl) (by kernel_rfl) ?_ ?_
        rotate_left
        · refine gives_pure (by rfl) ?_
          intro w0 hSw; (try dsimp only at hSw); go_simp; (try with_reducible rfl)
        try simp only [Act.put, List.setIfInBounds_toArray, List.set_cons_zero, List.set_cons_succ]
        refine wpD_step (i := 4) (o := { dst := some 19, op := Op.load 23 (Operand.tmp 4), type := 23, pos := "rank.go:23", after := #[], guard := none }) (v := ?_) rfl (by kernel_rfl) (by kernel_rfl) ?_ ?_
        rotate_left
        · refine gives_pure (by rfl) ?_
          intro w0 hSw; (try dsimp only at hSw); go_simp; (try with_reducible rfl)
        try simp only [Act.put, List.setIfInBounds_toArray, List.set_cons_zero, List.set_cons_succ]
        refine wpD_step (i := 2) (o := { dst := some 17, op := Op.call { callee := Callee.value (Operand.tmp 15), args := #[Operand.tmp 16], argTypes := #[23] }, type := 3, pos := "rank.go:23", after := #[{ on := 0, ground := Ground.data }, { on := 1, ground := Ground.data }], guard := none }) (v := ?_) rfl (by kernel_rfl) (by kernel_rfl) ?_ ?_
        rotate_left
        · refine gives_call (by rfl) ?_
          intro w0 hHeld b0 K0 Q0 hK0; have hSw := hHeld; (try dsimp only at hSw); go_simp; refine (idOf_any f _).mono ?_; rintro e w5 ⟨rfl, b5⟩; exact hK0 _ (by (try dsimp only); first | exact (Two.below hHeld.2 (by assumption)).s | exact HA.out.drew.s)
        try simp only [Act.put, List.setIfInBounds_toArray, List.set_cons_zero, List.set_cons_succ]
        refine wpD_step (i := 5) (o := { dst := some 20, op := Op.call { callee := Callee.value (Operand.tmp 18), args := #[Operand.tmp 19], argTypes := #[23] }, type := 3, pos := "rank.go:23", after := #[{ on := 3, ground := Ground.data }, { on := 4, ground := Ground.data }, { on := 2, ground := Ground.chain }], guard := none }) (v := ?_) rfl (by kernel_rfl) (by kernel_rfl) ?_ ?_
        rotate_left
        · refine gives_call (by rfl) ?_
          intro w0 hHeld b0 K0 Q0 hK0; have hSw := hHeld; (try dsimp only at hSw); go_simp; refine (idOf_any h _).mono ?_; rintro e w5 ⟨rfl, b5⟩; exact hK0 _ (by (try dsimp only); first | exact (Two.below hHeld.2 (by assumption)).s | exact HA.out.drew.s)
        try simp only [Act.put, List.setIfInBounds_toArray, List.set_cons_zero, List.set_cons_succ]
        refine wpD_step (i := 6) (o := { dst := some 21, op := Op.call { callee := Callee.value (Operand.func 28), args := #[Operand.tmp 17, Operand.tmp 20], argTypes := #[3, 3] }, type := 3, pos := "rank.go:23", after := #[{ on := 2, ground := Ground.data }, { on := 5, ground := Ground.data }, { on := 5, ground := Ground.chain }], guard := none }) (v := ?_) rfl (by kernel_rfl) (by kernel_rfl) ?_ ?_
        rotate_left
        · refine gives_call (by rfl) ?_
          intro w0 hSw b0 K0 Q0 hK0; have hHeld := hSw; (try dsimp only at hSw); go_simp; refine (cmp_any _ _ _).mono ?_; rintro e w' ⟨rfl, rfl⟩; exact hK0 _ hHeld
        try simp only [Act.put, List.setIfInBounds_toArray, List.set_cons_zero, List.set_cons_succ]
        refine wpD_step (i := 7) (o := { dst := some 8, op := Op.assign (Operand.tmp 21), type := 3, pos := "rank.go:23", after := #[{ on := 6, ground := Ground.data }, { on := 6, ground := Ground.chain }, { on := 0, ground := Ground.phase }, { on := 1, ground := Ground.phase }, { on := 2, ground := Ground.phase }, { on := 3, ground := Ground.phase }, { on := 4, ground := Ground.phase }, { on := 5, ground := Ground.phase }, { on := 6, ground := Ground.phase }], guard := none }) (v := ?_) rfl (by kernel_rfl) (by kernel_rfl) ?_ ?_
        rotate_left
        · refine gives_pure (by rfl) ?_
          intro w0 hSw; (try dsimp only at hSw); go_simp; (try with_reducible rfl)
        try simp only [Act.put, List.setIfInBounds_toArray, List.set_cons_zero, List.set_cons_succ]
        refine wpD_done (by kernel_rfl) (fun wz hHeld => ?_) _
        rw [HCM.out]
        by_cases hc0 : c = 0
        · have hc1 := dne_f hc0
          have E3 := Lib.hid hc0
          clear hc0
          go_wp2_with fail
          go_roundw
          case rel => exact ⟨k + 1, by omega, by go_num, fun i hi hik => by
            rcases (by omega : i < k ∨ i = k) with h' | h'
            · exact HZ.out i hi h'
            · subst h'; rw [HJK.out, HCM.out]; exact E3.out, hHeld.2⟩
          case measure => simp [intOf]; omega
        · have hc1 := dne_t hc0
          have E3 := Lib.hid hc0
          clear hc0
          go_wp2_with fail
          go_ret
          exact ⟨ret_int (by rw [E1.out, E2.out, HCM.out, if_pos E3.out]), hHeld.2.bl⟩
      · have ck : wr.cell? ⟨gs, k, none⟩ = some (.func (.func 24) #[] #[]) := ck
        go_wp2_with fail
        refine wp_region_held_drew (S := (fun W => (W.cell? ⟨w.heap.size, 0, none⟩ = some (.int .i64 (f 0)) ∧ W.cell? ⟨w.heap.size, 1, none⟩ = some (.int .i64 (f 1)) ∧ W.cell? ⟨w.heap.size, 2, none⟩ = some (.int .i64 (f 2)) ∧ W.cell? ⟨w.heap.size, 3, none⟩ = some (.int .i64 (f 3)) ∧ W.cell? ⟨w.heap.size, 4, none⟩ = some (.int .i64 (f 4)) ∧ W.cell? ⟨w.heap.size, 5, none⟩ = some (.int .i64 (f 5)) ∧ W.cell? ⟨w.heap.size, 6, none⟩ = some (.int .i64 (f 6)) ∧ W.cell? ⟨w.heap.size + 1, 0, none⟩ = some (.int .i64 (h 0)) ∧ W.cell? ⟨w.heap.size + 1, 1, none⟩ = some (.int .i64 (h 1)) ∧ W.cell? ⟨w.heap.size + 1, 2, none⟩ = some (.int .i64 (h 2)) ∧ W.cell? ⟨w.heap.size + 1, 3, none⟩ = some (.int .i64 (h 3)) ∧ W.cell? ⟨w.heap.size + 1, 4, none⟩ = some (.int .i64 (h 4)) ∧ W.cell? ⟨w.heap.size + 1, 5, none⟩ = some (.int .i64 (h 5)) ∧ W.cell? ⟨w.heap.size + 1, 6, none⟩ = some (.int .i64 (h 6))) ∧ Two w w.heap.size (w.heap.size + 1) f h W)) (by kernel_rfl) ?_ (fun hHeld => ?_)
        · (try dsimp only); first | exact (Two.below hHeld.2 (by assumption)).s | exact HA.out.drew.s
        refine wpD_go (by kernel_rfl) _ _ _ _ (by assumption) ?_
        refine wpD_step (i := 0) (o := { dst := some 15, op := Op.move (Operand.tmp 7), type := 44, pos := "rank.go:23", after := #[], guard := none }) (v := ?_) rfl (by kernel_rfl) (by kernel_rfl) ?_ ?_
        rotate_left
        · refine gives_pure (by rfl) ?_
          intro w0 hSw; (try dsimp only at hSw); go_simp; (try with_reducible rfl)
        try simp only [Act.put, List.setIfInBounds_toArray, List.set_cons_zero, List.set_cons_succ]
        refine wpD_step (i := 1) (o := { dst := some 16, op := Op.load 23 (Operand.tmp 3), type := 23, pos := "rank.go:23", after := #[], guard := none }) (v := ?_) rfl (by kernel_rfl) (by kernel_rfl) ?_ ?_
        rotate_left
        · refine gives_pure (by rfl) ?_
          intro w0 hSw; (try dsimp only at hSw); go_simp; (try with_reducible rfl)
        try simp only [Act.put, List.setIfInBounds_toArray, List.set_cons_zero, List.set_cons_succ]
        refine wpD_step (i := 3) (o := { dst := some 18, op := Op.move (Operand.tmp 7), type := 44, pos := "rank.go:23", after := #[], guard := none }) (v := ?_) rfl (by kernel_rfl) (by kernel_rfl) ?_ ?_
        rotate_left
        · refine gives_pure (by rfl) ?_
          intro w0 hSw; (try dsimp only at hSw); go_simp; (try with_reducible rfl)
        try simp only [Act.put, List.setIfInBounds_toArray, List.set_cons_zero, List.set_cons_succ]
        refine wpD_step (i := 4) (o := { dst := some 19, op := Op.load 23 (Operand.tmp 4), type := 23, pos := "rank.go:23", after := #[], guard := none }) (v := ?_) rfl (by kernel_rfl) (by kernel_rfl) ?_ ?_
        rotate_left
        · refine gives_pure (by rfl) ?_
          intro w0 hSw; (try dsimp only at hSw); go_simp; (try with_reducible rfl)
        try simp only [Act.put, List.setIfInBounds_toArray, List.set_cons_zero, List.set_cons_succ]
        refine wpD_step (i := 2) (o := { dst := some 17, op := Op.call { callee := Callee.value (Operand.tmp 15), args := #[Operand.tmp 16], argTypes := #[23] }, type := 3, pos := "rank.go:23", after := #[{ on := 0, ground := Ground.data }, { on := 1, ground := Ground.data }], guard := none }) (v := ?_) rfl (by kernel_rfl) (by kernel_rfl) ?_ ?_
        rotate_left
        · refine gives_call (by rfl) ?_
          intro w0 hHeld b0 K0 Q0 hK0; have hSw := hHeld; (try dsimp only at hSw); go_simp; refine (levelOf_any f _).mono ?_; rintro e w5 ⟨rfl, b5⟩; exact hK0 _ (by (try dsimp only); first | exact (Two.below hHeld.2 (by assumption)).s | exact HA.out.drew.s)
        try simp only [Act.put, List.setIfInBounds_toArray, List.set_cons_zero, List.set_cons_succ]
        refine wpD_step (i := 5) (o := { dst := some 20, op := Op.call { callee := Callee.value (Operand.tmp 18), args := #[Operand.tmp 19], argTypes := #[23] }, type := 3, pos := "rank.go:23", after := #[{ on := 3, ground := Ground.data }, { on := 4, ground := Ground.data }, { on := 2, ground := Ground.chain }], guard := none }) (v := ?_) rfl (by kernel_rfl) (by kernel_rfl) ?_ ?_
        rotate_left
        · refine gives_call (by rfl) ?_
          intro w0 hHeld b0 K0 Q0 hK0; have hSw := hHeld; (try dsimp only at hSw); go_simp; refine (levelOf_any h _).mono ?_; rintro e w5 ⟨rfl, b5⟩; exact hK0 _ (by (try dsimp only); first | exact (Two.below hHeld.2 (by assumption)).s | exact HA.out.drew.s)
        try simp only [Act.put, List.setIfInBounds_toArray, List.set_cons_zero, List.set_cons_succ]
        refine wpD_step (i := 6) (o := { dst := some 21, op := Op.call { callee := Callee.value (Operand.func 28), args := #[Operand.tmp 17, Operand.tmp 20], argTypes := #[3, 3] }, type := 3, pos := "rank.go:23", after := #[{ on := 2, ground := Ground.data }, { on := 5, ground := Ground.data }, { on := 5, ground := Ground.chain }], guard := none }) (v := ?_) rfl (by kernel_rfl) (by kernel_rfl) ?_ ?_
        rotate_left
        · refine gives_call (by rfl) ?_
          intro w0 hSw b0 K0 Q0 hK0; have hHeld := hSw; (try dsimp only at hSw); go_simp; refine (cmp_any _ _ _).mono ?_; rintro e w' ⟨rfl, rfl⟩; exact hK0 _ hHeld
        try simp only [Act.put, List.setIfInBounds_toArray, List.set_cons_zero, List.set_cons_succ]
        refine wpD_step (i := 7) (o := { dst := some 8, op := Op.assign (Operand.tmp 21), type := 3, pos := "rank.go:23", after := #[{ on := 6, ground := Ground.data }, { on := 6, ground := Ground.chain }, { on := 0, ground := Ground.phase }, { on := 1, ground := Ground.phase }, { on := 2, ground := Ground.phase }, { on := 3, ground := Ground.phase }, { on := 4, ground := Ground.phase }, { on := 5, ground := Ground.phase }, { on := 6, ground := Ground.phase }], guard := none }) (v := ?_) rfl (by kernel_rfl) (by kernel_rfl) ?_ ?_
        rotate_left
        · refine gives_pure (by rfl) ?_
          intro w0 hSw; (try dsimp only at hSw); go_simp; (try with_reducible rfl)
        try simp only [Act.put, List.setIfInBounds_toArray, List.set_cons_zero, List.set_cons_succ]
        refine wpD_done (by kernel_rfl) (fun wz hHeld => ?_) _
        rw [HCM.out]
        by_cases hc0 : c = 0
        · have hc1 := dne_f hc0
          have E3 := Lib.hid hc0
          clear hc0
          go_wp2_with fail
          go_roundw
          case rel => exact ⟨k + 1, by omega, by go_num, fun i hi hik => by
            rcases (by omega : i < k ∨ i = k) with h' | h'
            · exact HZ.out i hi h'
            · subst h'; rw [HJK.out, HCM.out]; exact E3.out, hHeld.2⟩
          case measure => simp [intOf]; omega
        · have hc1 := dne_t hc0
          have E3 := Lib.hid hc0
          clear hc0
          go_wp2_with fail
          go_ret
          exact ⟨ret_int (by rw [E1.out, E2.out, HCM.out, if_pos E3.out]), hHeld.2.bl⟩
      · have ck : wr.cell? ⟨gs, k, none⟩ = some (.func (.func 21) #[] #[]) := ck
        go_wp2_with fail
        refine wp_region_held_drew (S := (fun W => (W.cell? ⟨w.heap.size, 0, none⟩ = some (.int .i64 (f 0)) ∧ W.cell? ⟨w.heap.size, 1, none⟩ = some (.int .i64 (f 1)) ∧ W.cell? ⟨w.heap.size, 2, none⟩ = some (.int .i64 (f 2)) ∧ W.cell? ⟨w.heap.size, 3, none⟩ = some (.int .i64 (f 3)) ∧ W.cell? ⟨w.heap.size, 4, none⟩ = some (.int .i64 (f 4)) ∧ W.cell? ⟨w.heap.size, 5, none⟩ = some (.int .i64 (f 5)) ∧ W.cell? ⟨w.heap.size, 6, none⟩ = some (.int .i64 (f 6)) ∧ W.cell? ⟨w.heap.size + 1, 0, none⟩ = some (.int .i64 (h 0)) ∧ W.cell? ⟨w.heap.size + 1, 1, none⟩ = some (.int .i64 (h 1)) ∧ W.cell? ⟨w.heap.size + 1, 2, none⟩ = some (.int .i64 (h 2)) ∧ W.cell? ⟨w.heap.size + 1, 3, none⟩ = some (.int .i64 (h 3)) ∧ W.cell? ⟨w.heap.size + 1, 4, none⟩ = some (.int .i64 (h 4)) ∧ W.cell? ⟨w.heap.size + 1, 5, none⟩ = some (.int .i64 (h 5)) ∧ W.cell? ⟨w.heap.size + 1, 6, none⟩ = some (.int .i64 (h 6))) ∧ Two w w.heap.size (w.heap.size + 1) f h W)) (by kernel_rfl) ?_ (fun hHeld => ?_)
        · (try dsimp only); first | exact (Two.below hHeld.2 (by assumption)).s | exact HA.out.drew.s
        refine wpD_go (by kernel_rfl) _ _ _ _ (by assumption) ?_
        refine wpD_step (i := 0) (o := { dst := some 15, op := Op.move (Operand.tmp 7), type := 44, pos := "rank.go:23", after := #[], guard := none }) (v := ?_) rfl (by kernel_rfl) (by kernel_rfl) ?_ ?_
        rotate_left
        · refine gives_pure (by rfl) ?_
          intro w0 hSw; (try dsimp only at hSw); go_simp; (try with_reducible rfl)
        try simp only [Act.put, List.setIfInBounds_toArray, List.set_cons_zero, List.set_cons_succ]
        refine wpD_step (i := 1) (o := { dst := some 16, op := Op.load 23 (Operand.tmp 3), type := 23, pos := "rank.go:23", after := #[], guard := none }) (v := ?_) rfl (by kernel_rfl) (by kernel_rfl) ?_ ?_
        rotate_left
        · refine gives_pure (by rfl) ?_
          intro w0 hSw; (try dsimp only at hSw); go_simp; (try with_reducible rfl)
        try simp only [Act.put, List.setIfInBounds_toArray, List.set_cons_zero, List.set_cons_succ]
        refine wpD_step (i := 3) (o := { dst := some 18, op := Op.move (Operand.tmp 7), type := 44, pos := "rank.go:23", after := #[], guard := none }) (v := ?_) rfl (by kernel_rfl) (by kernel_rfl) ?_ ?_
        rotate_left
        · refine gives_pure (by rfl) ?_
          intro w0 hSw; (try dsimp only at hSw); go_simp; (try with_reducible rfl)
        try simp only [Act.put, List.setIfInBounds_toArray, List.set_cons_zero, List.set_cons_succ]
        refine wpD_step (i := 4) (o := { dst := some 19, op := Op.load 23 (Operand.tmp 4), type := 23, pos := "rank.go:23", after := #[], guard := none }) (v := ?_) rfl (by kernel_rfl) (by kernel_rfl) ?_ ?_
        rotate_left
        · refine gives_pure (by rfl) ?_
          intro w0 hSw; (try dsimp only at hSw); go_simp; (try with_reducible rfl)
        try simp only [Act.put, List.setIfInBounds_toArray, List.set_cons_zero, List.set_cons_succ]
        refine wpD_step (i := 2) (o := { dst := some 17, op := Op.call { callee := Callee.value (Operand.tmp 15), args := #[Operand.tmp 16], argTypes := #[23] }, type := 3, pos := "rank.go:23", after := #[{ on := 0, ground := Ground.data }, { on := 1, ground := Ground.data }], guard := none }) (v := ?_) rfl (by kernel_rfl) (by kernel_rfl) ?_ ?_
        rotate_left
        · refine gives_call (by rfl) ?_
          intro w0 hHeld b0 K0 Q0 hK0; have hSw := hHeld; (try dsimp only at hSw); go_simp; refine (deadlineOf_any f _).mono ?_; rintro e w5 ⟨rfl, b5⟩; exact hK0 _ (by (try dsimp only); first | exact (Two.below hHeld.2 (by assumption)).s | exact HA.out.drew.s)
        try simp only [Act.put, List.setIfInBounds_toArray, List.set_cons_zero, List.set_cons_succ]
        refine wpD_step (i := 5) (o := { dst := some 20, op := Op.call { callee := Callee.value (Operand.tmp 18), args := #[Operand.tmp 19], argTypes := #[23] }, type := 3, pos := "rank.go:23", after := #[{ on := 3, ground := Ground.data }, { on := 4, ground := Ground.data }, { on := 2, ground := Ground.chain }], guard := none }) (v := ?_) rfl (by kernel_rfl) (by kernel_rfl) ?_ ?_
        rotate_left
        · refine gives_call (by rfl) ?_
          intro w0 hHeld b0 K0 Q0 hK0; have hSw := hHeld; (try dsimp only at hSw); go_simp; refine (deadlineOf_any h _).mono ?_; rintro e w5 ⟨rfl, b5⟩; exact hK0 _ (by (try dsimp only); first | exact (Two.below hHeld.2 (by assumption)).s | exact HA.out.drew.s)
        try simp only [Act.put, List.setIfInBounds_toArray, List.set_cons_zero, List.set_cons_succ]
        refine wpD_step (i := 6) (o := { dst := some 21, op := Op.call { callee := Callee.value (Operand.func 28), args := #[Operand.tmp 17, Operand.tmp 20], argTypes := #[3, 3] }, type := 3, pos := "rank.go:23", after := #[{ on := 2, ground := Ground.data }, { on := 5, ground := Ground.data }, { on := 5, ground := Ground.chain }], guard := none }) (v := ?_) rfl (by kernel_rfl) (by kernel_rfl) ?_ ?_
        rotate_left
        · refine gives_call (by rfl) ?_
          intro w0 hSw b0 K0 Q0 hK0; have hHeld := hSw; (try dsimp only at hSw); go_simp; refine (cmp_any _ _ _).mono ?_; rintro e w' ⟨rfl, rfl⟩; exact hK0 _ hHeld
        try simp only [Act.put, List.setIfInBounds_toArray, List.set_cons_zero, List.set_cons_succ]
        refine wpD_step (i := 7) (o := { dst := some 8, op := Op.assign (Operand.tmp 21), type := 3, pos := "rank.go:23", after := #[{ on := 6, ground := Ground.data }, { on := 6, ground := Ground.chain }, { on := 0, ground := Ground.phase }, { on := 1, ground := Ground.phase }, { on := 2, ground := Ground.phase }, { on := 3, ground := Ground.phase }, { on := 4, ground := Ground.phase }, { on := 5, ground := Ground.phase }, { on := 6, ground := Ground.phase }], guard := none }) (v := ?_) rfl (by kernel_rfl) (by kernel_rfl) ?_ ?_
        rotate_left
        · refine gives_pure (by rfl) ?_
          intro w0 hSw; (try dsimp only at hSw); go_simp; (try with_reducible rfl)
        try simp only [Act.put, List.setIfInBounds_toArray, List.set_cons_zero, List.set_cons_succ]
        refine wpD_done (by kernel_rfl) (fun wz hHeld => ?_) _
        rw [HCM.out]
        by_cases hc0 : c = 0
        · have hc1 := dne_f hc0
          have E3 := Lib.hid hc0
          clear hc0
          go_wp2_with fail
          go_roundw
          case rel => exact ⟨k + 1, by omega, by go_num, fun i hi hik => by
            rcases (by omega : i < k ∨ i = k) with h' | h'
            · exact HZ.out i hi h'
            · subst h'; rw [HJK.out, HCM.out]; exact E3.out, hHeld.2⟩
          case measure => simp [intOf]; omega
        · have hc1 := dne_t hc0
          have E3 := Lib.hid hc0
          clear hc0
          go_wp2_with fail
          go_ret
          exact ⟨ret_int (by rw [E1.out, E2.out, HCM.out, if_pos E3.out]), hHeld.2.bl⟩
      · have ck : wr.cell? ⟨gs, k, none⟩ = some (.func (.func 22) #[] #[]) := ck
        go_wp2_with fail
        refine wp_region_held_drew (S := (fun W => (W.cell? ⟨w.heap.size, 0, none⟩ = some (.int .i64 (f 0)) ∧ W.cell? ⟨w.heap.size, 1, none⟩ = some (.int .i64 (f 1)) ∧ W.cell? ⟨w.heap.size, 2, none⟩ = some (.int .i64 (f 2)) ∧ W.cell? ⟨w.heap.size, 3, none⟩ = some (.int .i64 (f 3)) ∧ W.cell? ⟨w.heap.size, 4, none⟩ = some (.int .i64 (f 4)) ∧ W.cell? ⟨w.heap.size, 5, none⟩ = some (.int .i64 (f 5)) ∧ W.cell? ⟨w.heap.size, 6, none⟩ = some (.int .i64 (f 6)) ∧ W.cell? ⟨w.heap.size + 1, 0, none⟩ = some (.int .i64 (h 0)) ∧ W.cell? ⟨w.heap.size + 1, 1, none⟩ = some (.int .i64 (h 1)) ∧ W.cell? ⟨w.heap.size + 1, 2, none⟩ = some (.int .i64 (h 2)) ∧ W.cell? ⟨w.heap.size + 1, 3, none⟩ = some (.int .i64 (h 3)) ∧ W.cell? ⟨w.heap.size + 1, 4, none⟩ = some (.int .i64 (h 4)) ∧ W.cell? ⟨w.heap.size + 1, 5, none⟩ = some (.int .i64 (h 5)) ∧ W.cell? ⟨w.heap.size + 1, 6, none⟩ = some (.int .i64 (h 6))) ∧ Two w w.heap.size (w.heap.size + 1) f h W)) (by kernel_rfl) ?_ (fun hHeld => ?_)
        · (try dsimp only); first | exact (Two.below hHeld.2 (by assumption)).s | exact HA.out.drew.s
        refine wpD_go (by kernel_rfl) _ _ _ _ (by assumption) ?_
        refine wpD_step (i := 0) (o := { dst := some 15, op := Op.move (Operand.tmp 7), type := 44, pos := "rank.go:23", after := #[], guard := none }) (v := ?_) rfl (by kernel_rfl) (by kernel_rfl) ?_ ?_
        rotate_left
        · refine gives_pure (by rfl) ?_
          intro w0 hSw; (try dsimp only at hSw); go_simp; (try with_reducible rfl)
        try simp only [Act.put, List.setIfInBounds_toArray, List.set_cons_zero, List.set_cons_succ]
        refine wpD_step (i := 1) (o := { dst := some 16, op := Op.load 23 (Operand.tmp 3), type := 23, pos := "rank.go:23", after := #[], guard := none }) (v := ?_) rfl (by kernel_rfl) (by kernel_rfl) ?_ ?_
        rotate_left
        · refine gives_pure (by rfl) ?_
          intro w0 hSw; (try dsimp only at hSw); go_simp; (try with_reducible rfl)
        try simp only [Act.put, List.setIfInBounds_toArray, List.set_cons_zero, List.set_cons_succ]
        refine wpD_step (i := 3) (o := { dst := some 18, op := Op.move (Operand.tmp 7), type := 44, pos := "rank.go:23", after := #[], guard := none }) (v := ?_) rfl (by kernel_rfl) (by kernel_rfl) ?_ ?_
        rotate_left
        · refine gives_pure (by rfl) ?_
          intro w0 hSw; (try dsimp only at hSw); go_simp; (try with_reducible rfl)
        try simp only [Act.put, List.setIfInBounds_toArray, List.set_cons_zero, List.set_cons_succ]
        refine wpD_step (i := 4) (o := { dst := some 19, op := Op.load 23 (Operand.tmp 4), type := 23, pos := "rank.go:23", after := #[], guard := none }) (v := ?_) rfl (by kernel_rfl) (by kernel_rfl) ?_ ?_
        rotate_left
        · refine gives_pure (by rfl) ?_
          intro w0 hSw; (try dsimp only at hSw); go_simp; (try with_reducible rfl)
        try simp only [Act.put, List.setIfInBounds_toArray, List.set_cons_zero, List.set_cons_succ]
        refine wpD_step (i := 2) (o := { dst := some 17, op := Op.call { callee := Callee.value (Operand.tmp 15), args := #[Operand.tmp 16], argTypes := #[23] }, type := 3, pos := "rank.go:23", after := #[{ on := 0, ground := Ground.data }, { on := 1, ground := Ground.data }], guard := none }) (v := ?_) rfl (by kernel_rfl) (by kernel_rfl) ?_ ?_
        rotate_left
        · refine gives_call (by rfl) ?_
          intro w0 hHeld b0 K0 Q0 hK0; have hSw := hHeld; (try dsimp only at hSw); go_simp; refine (seqOf_any f _).mono ?_; rintro e w5 ⟨rfl, b5⟩; exact hK0 _ (by (try dsimp only); first | exact (Two.below hHeld.2 (by assumption)).s | exact HA.out.drew.s)
        try simp only [Act.put, List.setIfInBounds_toArray, List.set_cons_zero, List.set_cons_succ]
        refine wpD_step (i := 5) (o := { dst := some 20, op := Op.call { callee := Callee.value (Operand.tmp 18), args := #[Operand.tmp 19], argTypes := #[23] }, type := 3, pos := "rank.go:23", after := #[{ on := 3, ground := Ground.data }, { on := 4, ground := Ground.data }, { on := 2, ground := Ground.chain }], guard := none }) (v := ?_) rfl (by kernel_rfl) (by kernel_rfl) ?_ ?_
        rotate_left
        · refine gives_call (by rfl) ?_
          intro w0 hHeld b0 K0 Q0 hK0; have hSw := hHeld; (try dsimp only at hSw); go_simp; refine (seqOf_any h _).mono ?_; rintro e w5 ⟨rfl, b5⟩; exact hK0 _ (by (try dsimp only); first | exact (Two.below hHeld.2 (by assumption)).s | exact HA.out.drew.s)
        try simp only [Act.put, List.setIfInBounds_toArray, List.set_cons_zero, List.set_cons_succ]
        refine wpD_step (i := 6) (o := { dst := some 21, op := Op.call { callee := Callee.value (Operand.func 28), args := #[Operand.tmp 17, Operand.tmp 20], argTypes := #[3, 3] }, type := 3, pos := "rank.go:23", after := #[{ on := 2, ground := Ground.data }, { on := 5, ground := Ground.data }, { on := 5, ground := Ground.chain }], guard := none }) (v := ?_) rfl (by kernel_rfl) (by kernel_rfl) ?_ ?_
        rotate_left
        · refine gives_call (by rfl) ?_
          intro w0 hSw b0 K0 Q0 hK0; have hHeld := hSw; (try dsimp only at hSw); go_simp; refine (cmp_any _ _ _).mono ?_; rintro e w' ⟨rfl, rfl⟩; exact hK0 _ hHeld
        try simp only [Act.put, List.setIfInBounds_toArray, List.set_cons_zero, List.set_cons_succ]
        refine wpD_step (i := 7) (o := { dst := some 8, op := Op.assign (Operand.tmp 21), type := 3, pos := "rank.go:23", after := #[{ on := 6, ground := Ground.data }, { on := 6, ground := Ground.chain }, { on := 0, ground := Ground.phase }, { on := 1, ground := Ground.phase }, { on := 2, ground := Ground.phase }, { on := 3, ground := Ground.phase }, { on := 4, ground := Ground.phase }, { on := 5, ground := Ground.phase }, { on := 6, ground := Ground.phase }], guard := none }) (v := ?_) rfl (by kernel_rfl) (by kernel_rfl) ?_ ?_
        rotate_left
        · refine gives_pure (by rfl) ?_
          intro w0 hSw; (try dsimp only at hSw); go_simp; (try with_reducible rfl)
        try simp only [Act.put, List.setIfInBounds_toArray, List.set_cons_zero, List.set_cons_succ]
        refine wpD_done (by kernel_rfl) (fun wz hHeld => ?_) _
        rw [HCM.out]
        by_cases hc0 : c = 0
        · have hc1 := dne_f hc0
          have E3 := Lib.hid hc0
          clear hc0
          go_wp2_with fail
          go_roundw
          case rel => exact ⟨k + 1, by omega, by go_num, fun i hi hik => by
            rcases (by omega : i < k ∨ i = k) with h' | h'
            · exact HZ.out i hi h'
            · subst h'; rw [HJK.out, HCM.out]; exact E3.out, hHeld.2⟩
          case measure => simp [intOf]; omega
        · have hc1 := dne_t hc0
          have E3 := Lib.hid hc0
          clear hc0
          go_wp2_with fail
          go_ret
          exact ⟨ret_int (by rw [E1.out, E2.out, HCM.out, if_pos E3.out]), hHeld.2.bl⟩
    · have E1 := Lib.hid (cmpL_skip js k hk HZ.out)
      go_wp2_with fail
      go_ret
      exact ⟨ret_int (by rw [E1.out, List.drop_of_length_le (by omega)]; rfl), HA.out.bl⟩
/-- A function value that compares by the fields js. -/
def Cmp (w : World) (v : Value) (js : List Nat) : Prop :=
  ∃ g gs, v = .func (.func 27) #[] #[.pointer (some ⟨g, 0, none⟩)] ∧ w.cell? ⟨g, 0, none⟩ = some (.slice (some ⟨gs, 0, none⟩) js.length js.length) ∧ ∀ k (hk : k < js.length), w.cell? ⟨gs, k, none⟩ = some (.func (.func (gfn js[k])) #[] #[])
theorem by_any (gs : Nat) (js : List Nat) (w : World) (hk : ∀ k (hk : k < js.length), w.cell? ⟨gs, k, none⟩ = some (.func (.func (gfn js[k])) #[] #[])) :
    Calls Try.prog 20 #[.slice (some ⟨gs, 0, none⟩) js.length js.length] w fun e w' => ∃ v, e = .returned v ∧ Cmp w' v js ∧ Below w.heap.size w w' := by
  have HK := Lib.hid hk
  have hmf := mf_any
  clear hk
  go_enter Try.func20, Try.ntmps20
  go_wp2_with fail
  go_ret
  exact ⟨_, rfl, ⟨_, gs, rfl, newc _ _ _, fun k hk => (((Below.refl _ w).alloc (Nat.le_refl _) _).cell (p := ⟨gs, k, none⟩) (cell_lt (HK.out k hk))).trans (HK.out k hk)⟩, (Below.refl _ _).alloc (Nat.le_refl _) _⟩
theorem going_any (w : World) : Calls Try.prog 15 #[] w fun e w' => ∃ v, e = .returned v ∧ Cmp w' v [3, 6, 0] ∧ Below w.heap.size w w' := by
  go_enter Try.func15, Try.ntmps15
  go_wp2_with fail
  refine (by_any _ [3, 6, 0] _ ?_).mono ?_
  · intro k hk
    simp at hk
    rcases (by omega : k = 0 ∨ k = 1 ∨ k = 2) with rfl | rfl | rfl
    · exact (Bk.cell (Bk.new _ _ _) 0).trans rfl
    · exact (Bk.cell (Bk.new _ _ _) 1).trans rfl
    · exact (Bk.cell (Bk.new _ _ _) 2).trans rfl
  rintro e w1 ⟨v, rfl, hc, hb⟩
  have HC := Lib.hid hc
  have HB := Lib.hid (((Below.refl w.heap.size w).alloc (Nat.le_refl _) _).trans (hb.mono (by simp)))
  clear hc hb
  go_wp2_with fail
  go_ret
  exact ⟨_, rfl, HC.out, HB.out⟩
theorem leaving_any (w : World) : Calls Try.prog 16 #[] w fun e w' => ∃ v, e = .returned v ∧ Cmp w' v [1, 3, 6, 0] ∧ Below w.heap.size w w' := by
  go_enter Try.func16, Try.ntmps16
  go_wp2_with fail
  refine (by_any _ [1, 3, 6, 0] _ ?_).mono ?_
  · intro k hk
    simp at hk
    rcases (by omega : k = 0 ∨ k = 1 ∨ k = 2 ∨ k = 3) with rfl | rfl | rfl | rfl
    · exact (Bk.cell (Bk.new _ _ _) 0).trans rfl
    · exact (Bk.cell (Bk.new _ _ _) 1).trans rfl
    · exact (Bk.cell (Bk.new _ _ _) 2).trans rfl
    · exact (Bk.cell (Bk.new _ _ _) 3).trans rfl
  rintro e w1 ⟨v, rfl, hc, hb⟩
  have HC := Lib.hid hc
  have HB := Lib.hid (((Below.refl w.heap.size w).alloc (Nat.le_refl _) _).trans (hb.mono (by simp)))
  clear hc hb
  go_wp2_with fail
  go_ret
  exact ⟨_, rfl, HC.out, HB.out⟩
set_option maxHeartbeats 1000000 in
theorem before_any (f h : Nat → Int) (w : World) :
    Calls Try.prog 5 #[.agg #[.int .i64 (f 0), .int .i64 (f 1), .int .i64 (f 2), .int .i64 (f 3), .int .i64 (f 4), .int .i64 (f 5), .int .i64 (f 6)], .agg #[.int .i64 (h 0), .int .i64 (h 1), .int .i64 (h 2), .int .i64 (h 3), .int .i64 (h 4), .int .i64 (h 5), .int .i64 (h 6)]] w
      fun e w' => e = .returned (.bool (bef f h)) ∧ Below w.heap.size w w' := by
  go_enter Try.func5, Try.ntmps5
  go_wp2_with fail
  generalize hW : World.alloc (World.alloc w _) _ = W
  have A0 := Lib.hid (show Two w w.heap.size (w.heap.size + 1) f h W by
    rw [← hW]
    exact ⟨((Below.refl _ w).alloc (Nat.le_refl _) _).alloc (by simp) _, Bk.below (Bk.new w _ _) ((Below.refl _ _).alloc (Nat.le_refl _) _), by simpa using Bk.new (w.alloc _) 23 _⟩)
  clear hW
  refine wp_region_held_drew (S := (fun W => (W.cell? ⟨w.heap.size, 0, none⟩ = some (.int .i64 (f 0)) ∧ W.cell? ⟨w.heap.size, 1, none⟩ = some (.int .i64 (f 1)) ∧ W.cell? ⟨w.heap.size, 2, none⟩ = some (.int .i64 (f 2)) ∧ W.cell? ⟨w.heap.size, 3, none⟩ = some (.int .i64 (f 3)) ∧ W.cell? ⟨w.heap.size, 4, none⟩ = some (.int .i64 (f 4)) ∧ W.cell? ⟨w.heap.size, 5, none⟩ = some (.int .i64 (f 5)) ∧ W.cell? ⟨w.heap.size, 6, none⟩ = some (.int .i64 (f 6)) ∧ W.cell? ⟨w.heap.size + 1, 0, none⟩ = some (.int .i64 (h 0)) ∧ W.cell? ⟨w.heap.size + 1, 1, none⟩ = some (.int .i64 (h 1)) ∧ W.cell? ⟨w.heap.size + 1, 2, none⟩ = some (.int .i64 (h 2)) ∧ W.cell? ⟨w.heap.size + 1, 3, none⟩ = some (.int .i64 (h 3)) ∧ W.cell? ⟨w.heap.size + 1, 4, none⟩ = some (.int .i64 (h 4)) ∧ W.cell? ⟨w.heap.size + 1, 5, none⟩ = some (.int .i64 (h 5)) ∧ W.cell? ⟨w.heap.size + 1, 6, none⟩ = some (.int .i64 (h 6))) ∧ Two w w.heap.size (w.heap.size + 1) f h W)) (by kernel_rfl) ?_ (fun hHeld => ?_)
  · (try dsimp only); first | exact (Two.below hHeld.2 (by assumption)).s | exact A0.out.drew.s
  refine wpAnyH_take (i := 1) (oi := { dst := some 6, op := Op.load 23 (Operand.tmp 2), type := 23, pos := "rank.go:36", after := #[], guard := none }) (v := ?_) rfl (by kernel_rfl) (by kernel_rfl) (by kernel_rfl) (fun _ _ _ h => h) (Or.inl ⟨by rfl, ?_⟩) (by assumption) ?_
  rotate_left
  · intro w0 hSw; (try dsimp only at hSw); go_simp; (try with_reducible rfl)
  try simp only [Act.put, List.setIfInBounds_toArray, List.set_cons_zero, List.set_cons_succ]
  refine wpAnyH_take (i := 2) (oi := { dst := some 7, op := Op.load 23 (Operand.tmp 3), type := 23, pos := "rank.go:36", after := #[], guard := none }) (v := ?_) rfl (by kernel_rfl) (by kernel_rfl) (by kernel_rfl) (fun _ _ _ h => h) (Or.inl ⟨by rfl, ?_⟩) (by assumption) ?_
  rotate_left
  · intro w0 hSw; (try dsimp only at hSw); go_simp; (try with_reducible rfl)
  try simp only [Act.put, List.setIfInBounds_toArray, List.set_cons_zero, List.set_cons_succ]
  refine wpAnyH_ready (rs := [0]) (by kernel_rfl) (by simp) ?_
  refine AllReadyH.cons (o := { dst := some 5, op := Op.call { callee := Callee.value (Operand.func 15), args := #[], argTypes := #[] }, type := 35, pos := "rank.go:36", after := #[], guard := none }) rfl (fun K hK => ?_) AllReadyH.nil
  go_simp
  refine (going_any _).mono ?_; rintro e w5 ⟨v, rfl, ⟨g, gs, rfl, hc1, hc2⟩, b5⟩
  refine hK.out _ _ ?_ (fun hHeld => ?_)
  · (try dsimp only); first | exact (Two.below hHeld.2 (by assumption)).s | exact A0.out.drew.s
  clear hK K
  try simp only [Act.put, List.setIfInBounds_toArray, List.set_cons_zero, List.set_cons_succ]
  refine wpAnyH_ready (rs := [3]) (by kernel_rfl) (by simp) ?_
  refine AllReadyH.cons (o := { dst := some 8, op := Op.call { callee := Callee.value (Operand.tmp 5), args := #[Operand.tmp 6, Operand.tmp 7], argTypes := #[23, 23] }, type := 3, pos := "rank.go:36", after := #[{ on := 0, ground := Ground.data }, { on := 1, ground := Ground.data }, { on := 2, ground := Ground.data }, { on := 0, ground := Ground.chain }], guard := none }) rfl (fun K hK => ?_) AllReadyH.nil
  go_simp
  refine (by1_any [3, 6, 0] (by decide) g gs f h _ (by decide) hc1 hc2).mono ?_; rintro e w6 ⟨rfl, b6⟩
  refine hK.out _ _ ?_ (fun hHeld => ?_)
  · (try dsimp only); first | exact (Two.below hHeld.2 (by assumption)).s | exact A0.out.drew.s
  clear hK K
  try simp only [Act.put, List.setIfInBounds_toArray, List.set_cons_zero, List.set_cons_succ]
  refine wpD_go (by kernel_rfl) _ _ _ _ (by assumption) ?_
  refine wpD_step (i := 4) (o := { dst := some 9, op := Op.binOp BinOp.lss 3 (Operand.tmp 8) (Operand.const (Value.int IntKind.i64 0)) 3, type := 4, pos := "rank.go:36", after := #[{ on := 3, ground := Ground.data }], guard := none }) (v := ?_) rfl (by kernel_rfl) (by kernel_rfl) (gives_pure (by rfl) ?_) ?_
  rotate_left
  · intro w0 hSw; (try dsimp only at hSw); go_simp; (try with_reducible rfl)
  try simp only [Act.put, List.setIfInBounds_toArray, List.set_cons_zero, List.set_cons_succ]
  refine wpD_step (i := 5) (o := { dst := some 4, op := Op.assign (Operand.tmp 9), type := 4, pos := "rank.go:36", after := #[{ on := 4, ground := Ground.data }, { on := 3, ground := Ground.chain }, { on := 0, ground := Ground.phase }, { on := 1, ground := Ground.phase }, { on := 2, ground := Ground.phase }, { on := 3, ground := Ground.phase }, { on := 4, ground := Ground.phase }], guard := none }) (v := ?_) rfl (by kernel_rfl) (by kernel_rfl) (gives_pure (by rfl) ?_) ?_
  rotate_left
  · intro w0 hSw; (try dsimp only at hSw); go_simp; (try with_reducible rfl)
  try simp only [Act.put, List.setIfInBounds_toArray, List.set_cons_zero, List.set_cons_succ]
  refine wpD_done (by kernel_rfl) (fun wz hHeld => ?_) _
  go_wp2_with fail
  go_ret
  exact ⟨rfl, hHeld.2.bl⟩
set_option maxHeartbeats 1000000 in
theorem worse_any (f h : Nat → Int) (w : World) :
    Calls Try.prog 7 #[.agg #[.int .i64 (f 0), .int .i64 (f 1), .int .i64 (f 2), .int .i64 (f 3), .int .i64 (f 4), .int .i64 (f 5), .int .i64 (f 6)], .agg #[.int .i64 (h 0), .int .i64 (h 1), .int .i64 (h 2), .int .i64 (h 3), .int .i64 (h 4), .int .i64 (h 5), .int .i64 (h 6)]] w
      fun e w' => e = .returned (.bool (wor f h)) ∧ Below w.heap.size w w' := by
  go_enter Try.func7, Try.ntmps7
  go_wp2_with fail
  generalize hW : World.alloc (World.alloc w _) _ = W
  have A0 := Lib.hid (show Two w w.heap.size (w.heap.size + 1) f h W by
    rw [← hW]
    exact ⟨((Below.refl _ w).alloc (Nat.le_refl _) _).alloc (by simp) _, Bk.below (Bk.new w _ _) ((Below.refl _ _).alloc (Nat.le_refl _) _), by simpa using Bk.new (w.alloc _) 23 _⟩)
  clear hW
  refine wp_region_held_drew (S := (fun W => (W.cell? ⟨w.heap.size, 0, none⟩ = some (.int .i64 (f 0)) ∧ W.cell? ⟨w.heap.size, 1, none⟩ = some (.int .i64 (f 1)) ∧ W.cell? ⟨w.heap.size, 2, none⟩ = some (.int .i64 (f 2)) ∧ W.cell? ⟨w.heap.size, 3, none⟩ = some (.int .i64 (f 3)) ∧ W.cell? ⟨w.heap.size, 4, none⟩ = some (.int .i64 (f 4)) ∧ W.cell? ⟨w.heap.size, 5, none⟩ = some (.int .i64 (f 5)) ∧ W.cell? ⟨w.heap.size, 6, none⟩ = some (.int .i64 (f 6)) ∧ W.cell? ⟨w.heap.size + 1, 0, none⟩ = some (.int .i64 (h 0)) ∧ W.cell? ⟨w.heap.size + 1, 1, none⟩ = some (.int .i64 (h 1)) ∧ W.cell? ⟨w.heap.size + 1, 2, none⟩ = some (.int .i64 (h 2)) ∧ W.cell? ⟨w.heap.size + 1, 3, none⟩ = some (.int .i64 (h 3)) ∧ W.cell? ⟨w.heap.size + 1, 4, none⟩ = some (.int .i64 (h 4)) ∧ W.cell? ⟨w.heap.size + 1, 5, none⟩ = some (.int .i64 (h 5)) ∧ W.cell? ⟨w.heap.size + 1, 6, none⟩ = some (.int .i64 (h 6))) ∧ Two w w.heap.size (w.heap.size + 1) f h W)) (by kernel_rfl) ?_ (fun hHeld => ?_)
  · (try dsimp only); first | exact (Two.below hHeld.2 (by assumption)).s | exact A0.out.drew.s
  refine wpAnyH_take (i := 1) (oi := { dst := some 6, op := Op.load 23 (Operand.tmp 2), type := 23, pos := "rank.go:39", after := #[], guard := none }) (v := ?_) rfl (by kernel_rfl) (by kernel_rfl) (by kernel_rfl) (fun _ _ _ h => h) (Or.inl ⟨by rfl, ?_⟩) (by assumption) ?_
  rotate_left
  · intro w0 hSw; (try dsimp only at hSw); go_simp; (try with_reducible rfl)
  try simp only [Act.put, List.setIfInBounds_toArray, List.set_cons_zero, List.set_cons_succ]
  refine wpAnyH_take (i := 2) (oi := { dst := some 7, op := Op.load 23 (Operand.tmp 3), type := 23, pos := "rank.go:39", after := #[], guard := none }) (v := ?_) rfl (by kernel_rfl) (by kernel_rfl) (by kernel_rfl) (fun _ _ _ h => h) (Or.inl ⟨by rfl, ?_⟩) (by assumption) ?_
  rotate_left
  · intro w0 hSw; (try dsimp only at hSw); go_simp; (try with_reducible rfl)
  try simp only [Act.put, List.setIfInBounds_toArray, List.set_cons_zero, List.set_cons_succ]
  refine wpAnyH_ready (rs := [0]) (by kernel_rfl) (by simp) ?_
  refine AllReadyH.cons (o := { dst := some 5, op := Op.call { callee := Callee.value (Operand.func 16), args := #[], argTypes := #[] }, type := 35, pos := "rank.go:39", after := #[], guard := none }) rfl (fun K hK => ?_) AllReadyH.nil
  go_simp
  refine (leaving_any _).mono ?_; rintro e w5 ⟨v, rfl, ⟨g, gs, rfl, hc1, hc2⟩, b5⟩
  refine hK.out _ _ ?_ (fun hHeld => ?_)
  · (try dsimp only); first | exact (Two.below hHeld.2 (by assumption)).s | exact A0.out.drew.s
  clear hK K
  try simp only [Act.put, List.setIfInBounds_toArray, List.set_cons_zero, List.set_cons_succ]
  refine wpAnyH_ready (rs := [3]) (by kernel_rfl) (by simp) ?_
  refine AllReadyH.cons (o := { dst := some 8, op := Op.call { callee := Callee.value (Operand.tmp 5), args := #[Operand.tmp 6, Operand.tmp 7], argTypes := #[23, 23] }, type := 3, pos := "rank.go:39", after := #[{ on := 0, ground := Ground.data }, { on := 1, ground := Ground.data }, { on := 2, ground := Ground.data }, { on := 0, ground := Ground.chain }], guard := none }) rfl (fun K hK => ?_) AllReadyH.nil
  go_simp
  refine (by1_any [1, 3, 6, 0] (by decide) g gs f h _ (by decide) hc1 hc2).mono ?_; rintro e w6 ⟨rfl, b6⟩
  refine hK.out _ _ ?_ (fun hHeld => ?_)
  · (try dsimp only); first | exact (Two.below hHeld.2 (by assumption)).s | exact A0.out.drew.s
  clear hK K
  try simp only [Act.put, List.setIfInBounds_toArray, List.set_cons_zero, List.set_cons_succ]
  refine wpD_go (by kernel_rfl) _ _ _ _ (by assumption) ?_
  refine wpD_step (i := 4) (o := { dst := some 9, op := Op.binOp BinOp.gtr 3 (Operand.tmp 8) (Operand.const (Value.int IntKind.i64 0)) 3, type := 4, pos := "rank.go:39", after := #[{ on := 3, ground := Ground.data }], guard := none }) (v := ?_) rfl (by kernel_rfl) (by kernel_rfl) (gives_pure (by rfl) ?_) ?_
  rotate_left
  · intro w0 hSw; (try dsimp only at hSw); go_simp; (try with_reducible rfl)
  try simp only [Act.put, List.setIfInBounds_toArray, List.set_cons_zero, List.set_cons_succ]
  refine wpD_step (i := 5) (o := { dst := some 4, op := Op.assign (Operand.tmp 9), type := 4, pos := "rank.go:39", after := #[{ on := 4, ground := Ground.data }, { on := 3, ground := Ground.chain }, { on := 0, ground := Ground.phase }, { on := 1, ground := Ground.phase }, { on := 2, ground := Ground.phase }, { on := 3, ground := Ground.phase }, { on := 4, ground := Ground.phase }], guard := none }) (v := ?_) rfl (by kernel_rfl) (by kernel_rfl) (gives_pure (by rfl) ?_) ?_
  rotate_left
  · intro w0 hSw; (try dsimp only at hSw); go_simp; (try with_reducible rfl)
  try simp only [Act.put, List.setIfInBounds_toArray, List.set_cons_zero, List.set_cons_succ]
  refine wpD_done (by kernel_rfl) (fun wz hHeld => ?_) _
  go_wp2_with fail
  go_ret
  exact ⟨rfl, hHeld.2.bl⟩
end Go.Proofs.Ytnhjpblkenmccaa
