/-
  The contract of Spread of layer 9.
-/
import Derived.Test.YtjppoiplcfifcaaUser
import Derived.Laws.OwnMore
namespace Go.Proofs.Ytjppoiplcfifcaa
open Go.RowKit Bd Us
open Mx (M In)
theorem made_ints (n : Nat) : madeCells (Value.cells (.int .i64 0)) (n * 1) = (vals (List.replicate n 0)).toArray := by
  apply Array.ext
  · simp [madeCells, vals]
  · intro i h1 h2
    simp [madeCells, vals, Value.cells, Nat.mod_one]
def half (n : Nat) (L : List Int) (j : Nat) : List Int := (cntL n L).take j ++ List.replicate (n - j) 0
theorem half_zero (n : Nat) (L : List Int) : half n L 0 = List.replicate n 0 := by unfold half; simp
theorem half_all (n : Nat) (L : List Int) : half n L n = cntL n L := by
  unfold half; rw [Nat.sub_self, List.take_of_length_le (by rw [cntL_len]; exact Nat.le_refl _)]; simp
theorem half_set (n : Nat) (L : List Int) (j : Nat) (h : j < n) : (half n L j).set j (cnt j L) = half n L (j + 1) := by
  have e1 : ((cntL n L).take j).length = j := by rw [List.length_take, cntL_len]; omega
  unfold half
  rw [List.set_append_right _ _ (by rw [e1]; exact Nat.le_refl _), e1, Nat.sub_self, List.take_succ_eq_append_getElem (by rw [cntL_len]; exact h)]
  have e2 : (cntL n L)[j]'(by rw [cntL_len]; exact h) = cnt j L := by
    have := cntL_get n L j h
    rw [List.getElem?_eq_getElem (by rw [cntL_len]; exact h)] at this
    exact Option.some.inj this
  rw [e2, show n - j = (n - (j + 1)) + 1 by omega, List.replicate_succ]
  simp
/-- What Spread holds: its receiver, and the counts. -/
structure Sp (w0 : World) (k c r : Int) (L : List Int) (W : World) : Prop where
  bl : Below w0.heap.size w0 W
  bx : Bk W w0.heap.size 26 #[.int .u64 k, .int .i64 c, .int .i64 r]
  ct : Bk W (w0.heap.size + 1) 45 (cntA L)
section
variable {w0 W W' : World} {k c r : Int} {L : List Int}
theorem Sp.below (h : Sp w0 k c r L W) (b : Below W.heap.size W W') : Sp w0 k c r L W' := ⟨h.bl.trans (b.mono h.bl.size), h.bx.below b, h.ct.below b⟩
theorem Sp.drew (h : Sp w0 k c r L W) : Sp w0 k c r L W.drew := h.below (Below.refl _ _).drew
theorem Sp.inc (h : Sp w0 k c r L W) (m : Nat) : Sp w0 k c r (L ++ [(m : Int)]) (W.setCell ⟨w0.heap.size + 1, m, none⟩ (.int .i64 (cnt m L + 1))) :=
  ⟨below_only h.bl (only_set _ _ _ _) h.bl.size (by omega), h.bx.grown (only_set W (w0.heap.size + 1) m _) (by simp), by have := h.ct.set_ m (.int .i64 (cnt m L + 1)); rw [cntA_set] at this; exact this⟩
theorem Sp.far (h : Sp w0 k c r L W) {g i : Nat} (u : Value) (hg : w0.heap.size + 1 < g) : Sp w0 k c r L (W.setCell ⟨g, i, none⟩ u) :=
  ⟨below_only h.bl (only_set _ _ _ _) h.bl.size (by omega), h.bx.grown (only_set W g i u) (by simp; omega), h.ct.grown (only_set W g i u) (by simp; omega)⟩
end
theorem ints_far {w : World} {k : IntKind} {a : Option Addr} {zs : List Int} {B g i : Nat} {u : Value} (h : Ints w k a zs) (ha : ∀ b off, a = some ⟨b, off, none⟩ → B ≤ b) (hg : g < B) : Ints (w.setCell ⟨g, i, none⟩ u) k a zs := by
  intro hne
  obtain ⟨b, off, e, hc⟩ := h hne
  refine ⟨b, off, e, fun j v hv => ?_⟩
  have := ha b off e
  rw [World.cell?_setCell_far _ _ _ _ (by show g ≠ b; omega)]
  exact hc j v hv
theorem cls_all (k x : Nat) (n : Nat) (zs : List Int) (h2 : n ≤ 16) : ∀ z ∈ clsL k x n zs, 0 ≤ z ∧ z < 16 := by
  intro z hz
  unfold clsL at hz
  obtain ⟨y, _, rfl⟩ := List.mem_map.1 hz
  have := cls_b k x y.toNat n
  refine ⟨this.1, ?_⟩
  rcases Nat.eq_zero_or_pos n with h | h
  · rw [this.2.2 (by omega)]; decide
  · have := this.2.1 (by omega); omega
def RetC (w : World) (n : Nat) (xs : List Int) (e : Ending) (w' : World) : Prop :=
  ∃ a cap, e = .returned (.slice a n cap) ∧ Ints w' .i64 a xs ∧ Below w.heap.size w w'
set_option maxHeartbeats 4000000 in
theorem uspread_gen (k : Nat) (n : Nat) (r now : Int) (x : Nat) (ad : Option Addr) (cap : Nat) (zs : List Int) (w : World) (h2 : n ≤ 16) (hx : x ≤ 1099511627776) (hk : k < M) (hz : Ints w .u64 ad zs) (hl : zs.length ≤ 60) (hwf : ∀ z ∈ zs, 0 ≤ z ∧ z < 18446744073709551616)
    (hPT : ∀ w, Calls Try.prog 8 #[.agg #[.int .u64 k, .int .i64 n, .int .i64 r], .int .i64 now] w fun e w' => e = .returned (.int .i64 x) ∧ Below w.heap.size w w') :
    Calls Try.prog 11 #[.agg #[.int .u64 k, .int .i64 n, .int .i64 r], .int .i64 now, .slice ad zs.length cap] w (RetC w n (cntL n (clsL k x n zs))) := by
  have PT := Lib.hid hPT
  have hw := wn (x : Int) (by omega) (by omega)
  clear hPT
  have PA := Lib.hid (fun w h => all_new k x n ad cap zs w h (by omega) hwf (by unfold M; omega) hk (by omega))
  have hL : (clsL k x n zs).length = zs.length := by unfold clsL; simp
  have HL := Lib.hid hL
  have HC := Lib.hid (cls_all k x n zs h2)
  have HZ := Lib.hid hz
  clear hL hz hwf
  generalize clsL k x n zs = L at *
  have H0 := Lib.hid (show Sp w k n r [] ((w.alloc (.cells #[.int .u64 k, .int .i64 n, .int .i64 r] 26)).alloc (.cells (cntA []) 45)) from
    ⟨((Below.refl _ _).alloc (Nat.le_refl _) _).alloc (by simp) _, Bk.below (Bk.new w _ _) ((Below.refl _ _).alloc (Nat.le_refl _) _), by simpa using Bk.new (w.alloc (.cells #[.int .u64 (k : Int), .int .i64 (n : Int), .int .i64 r] 26)) 45 (cntA [])⟩)
  rw [cntA_nil] at H0
  have HM := Lib.hid (fun (W : World) (h : Sp w k n r [] W) => (show (W.cell? ⟨w.heap.size, 0, none⟩ = some (.int .u64 k) ∧ W.cell? ⟨w.heap.size, 1, none⟩ = some (.int .i64 n) ∧ W.cell? ⟨w.heap.size, 2, none⟩ = some (.int .i64 r)) ∧ Sp w k n r [] W from ⟨⟨h.bx.cell 0, h.bx.cell 1, h.bx.cell 2⟩, h⟩))
  go_enter Try.func11, Try.ntmps11
  go_wp2_with fail
  refine wp_region_held_drew (S := (fun W => (W.cell? ⟨w.heap.size, 0, none⟩ = some (.int .u64 k) ∧ W.cell? ⟨w.heap.size, 1, none⟩ = some (.int .i64 n) ∧ W.cell? ⟨w.heap.size, 2, none⟩ = some (.int .i64 r)) ∧ Sp w k n r [] W)) (by kernel_rfl) ?_ (fun hHeld => ?_)
  · (try dsimp only); first | exact HM.out _ (Sp.below hHeld.2 (by assumption)) | exact HM.out _ H0.out.drew
  refine wpAnyH_take (i := 0) (oi := { dst := some 12, op := Op.fieldAddr 26 (Operand.tmp 3) 0, type := 0, pos := "user.go:51", after := #[], guard := none }) (v := ?_) rfl (by kernel_rfl) (by kernel_rfl) (by kernel_rfl) (fun _ _ _ h => h) (Or.inl ⟨by rfl, ?_⟩) (by assumption) ?_
  rotate_left
  · intro w0 hSw; (try dsimp only at hSw); go_simp; (try with_reducible rfl)
  try simp only [Act.put, List.setIfInBounds_toArray, List.set_cons_zero, List.set_cons_succ]
  refine wpAnyH_take (i := 1) (oi := { dst := some 13, op := Op.load 22 (Operand.tmp 12), type := 22, pos := "user.go:51", after := #[{ on := 0, ground := Ground.data }], guard := none }) (v := ?_) rfl (by kernel_rfl) (by kernel_rfl) (by kernel_rfl) (fun _ _ _ h => h) (Or.inl ⟨by rfl, ?_⟩) (by assumption) ?_
  rotate_left
  · intro w0 hSw; (try dsimp only at hSw); go_simp; (try with_reducible rfl)
  try simp only [Act.put, List.setIfInBounds_toArray, List.set_cons_zero, List.set_cons_succ]
  refine wpAnyH_take (i := 2) (oi := { dst := some 14, op := Op.load 26 (Operand.tmp 3), type := 26, pos := "user.go:51", after := #[], guard := none }) (v := ?_) rfl (by kernel_rfl) (by kernel_rfl) (by kernel_rfl) (fun _ _ _ h => h) (Or.inl ⟨by rfl, ?_⟩) (by assumption) ?_
  rotate_left
  · intro w0 hSw; (try dsimp only at hSw); go_simp; (try with_reducible rfl)
  try simp only [Act.put, List.setIfInBounds_toArray, List.set_cons_zero, List.set_cons_succ]
  refine wpAnyH_take (i := 3) (oi := { dst := some 15, op := Op.move (Operand.tmp 1), type := 3, pos := "user.go:51", after := #[], guard := none }) (v := ?_) rfl (by kernel_rfl) (by kernel_rfl) (by kernel_rfl) (fun _ _ _ h => h) (Or.inl ⟨by rfl, ?_⟩) (by assumption) ?_
  rotate_left
  · intro w0 hSw; (try dsimp only at hSw); go_simp; (try with_reducible rfl)
  try simp only [Act.put, List.setIfInBounds_toArray, List.set_cons_zero, List.set_cons_succ]
  refine wpAnyH_take (i := 6) (oi := { dst := some 18, op := Op.fieldAddr 26 (Operand.tmp 3) 1, type := 0, pos := "user.go:51", after := #[], guard := none }) (v := ?_) rfl (by kernel_rfl) (by kernel_rfl) (by kernel_rfl) (fun _ _ _ h => h) (Or.inl ⟨by rfl, ?_⟩) (by assumption) ?_
  rotate_left
  · intro w0 hSw; (try dsimp only at hSw); go_simp; (try with_reducible rfl)
  try simp only [Act.put, List.setIfInBounds_toArray, List.set_cons_zero, List.set_cons_succ]
  refine wpAnyH_take (i := 7) (oi := { dst := some 19, op := Op.load 3 (Operand.tmp 18), type := 3, pos := "user.go:51", after := #[{ on := 6, ground := Ground.data }], guard := none }) (v := ?_) rfl (by kernel_rfl) (by kernel_rfl) (by kernel_rfl) (fun _ _ _ h => h) (Or.inl ⟨by rfl, ?_⟩) (by assumption) ?_
  rotate_left
  · intro w0 hSw; (try dsimp only at hSw); go_simp; (try with_reducible rfl)
  try simp only [Act.put, List.setIfInBounds_toArray, List.set_cons_zero, List.set_cons_succ]
  refine wpAnyH_take (i := 8) (oi := { dst := some 20, op := Op.move (Operand.tmp 2), type := 41, pos := "user.go:51", after := #[], guard := none }) (v := ?_) rfl (by kernel_rfl) (by kernel_rfl) (by kernel_rfl) (fun _ _ _ h => h) (Or.inl ⟨by rfl, ?_⟩) (by assumption) ?_
  rotate_left
  · intro w0 hSw; (try dsimp only at hSw); go_simp; (try with_reducible rfl)
  try simp only [Act.put, List.setIfInBounds_toArray, List.set_cons_zero, List.set_cons_succ]
  refine wpAnyH_take (i := 11) (oi := { dst := some 23, op := Op.move (Operand.const (Value.int IntKind.i64 0)), type := 3, pos := "user.go:51", after := #[], guard := none }) (v := ?_) rfl (by kernel_rfl) (by kernel_rfl) (by kernel_rfl) (fun _ _ _ h => h) (Or.inl ⟨by rfl, ?_⟩) (by assumption) ?_
  rotate_left
  · intro w0 hSw; (try dsimp only at hSw); go_simp; (try with_reducible rfl)
  try simp only [Act.put, List.setIfInBounds_toArray, List.set_cons_zero, List.set_cons_succ]
  refine wpAnyH_ready (rs := [4]) (by kernel_rfl) (by simp) ?_
  refine AllReadyH.cons (o := { dst := some 16, op := Op.call { callee := Callee.value (Operand.func 8), args := #[Operand.tmp 14, Operand.tmp 15], argTypes := #[26, 3] }, type := 3, pos := "user.go:51", after := #[{ on := 2, ground := Ground.data }, { on := 3, ground := Ground.data }], guard := none }) rfl (fun K hK => ?_) AllReadyH.nil
  go_simp
  refine (PT.out _).mono ?_; rintro e w5 ⟨rfl, b5⟩
  refine hK.out _ _ ?_ (fun hHeld => ?_)
  · (try dsimp only); first | exact HM.out _ (Sp.below hHeld.2 (by assumption)) | exact HM.out _ H0.out.drew
  clear hK K
  try simp only [Act.put, List.setIfInBounds_toArray, List.set_cons_zero, List.set_cons_succ]
  refine wpAnyH_take (i := 5) (oi := { dst := some 17, op := Op.convert 3 22 (Operand.tmp 16), type := 22, pos := "user.go:51", after := #[{ on := 4, ground := Ground.data }], guard := none }) (v := ?_) rfl (by kernel_rfl) (by kernel_rfl) (by kernel_rfl) (fun _ _ _ h => h) (Or.inl ⟨by rfl, ?_⟩) (by assumption) ?_
  rotate_left
  · intro w0 hSw; (try dsimp only at hSw); go_simp; (try with_reducible rfl)
  try simp only [Act.put, List.setIfInBounds_toArray, List.set_cons_zero, List.set_cons_succ]
  refine wpAnyH_ready (rs := [9]) (by kernel_rfl) (by simp) ?_
  refine AllReadyH.cons (o := { dst := some 21, op := Op.call { callee := Callee.value (Operand.func 20), args := #[Operand.tmp 13, Operand.tmp 17, Operand.tmp 19, Operand.tmp 20], argTypes := #[22, 22, 3, 41] }, type := 33, pos := "user.go:51", after := #[{ on := 1, ground := Ground.data }, { on := 5, ground := Ground.data }, { on := 7, ground := Ground.data }, { on := 8, ground := Ground.data }, { on := 4, ground := Ground.chain }], guard := none }) rfl (fun K hK => ?_) AllReadyH.nil
  go_simp
  have hsz := Bk.lt hHeld.2.ct; refine (PA.out _ (HZ.out.below hHeld.2.bl)).mono ?_; rintro e w6 ⟨a2, cap2, rfl, hi6, b6, hn6⟩; rw [HL.out]
  refine hK.out _ _ ?_ (fun hHeld => ?_)
  · (try dsimp only); first | exact HM.out _ (Sp.below hHeld.2 (by assumption)) | exact HM.out _ H0.out.drew
  clear hK K
  try simp only [Act.put, List.setIfInBounds_toArray, List.set_cons_zero, List.set_cons_succ]
  refine wpAnyH_take (i := 10) (oi := { dst := some 22, op := Op.call { callee := Callee.builtin Builtin.len, args := #[Operand.tmp 21], argTypes := #[33] }, type := 3, pos := "user.go:51", after := #[{ on := 9, ground := Ground.data }], guard := none }) (v := ?_) rfl (by kernel_rfl) (by kernel_rfl) (by kernel_rfl) (fun _ _ _ h => h) (Or.inl ⟨by rfl, ?_⟩) (by assumption) ?_
  rotate_left
  · intro w0 hSw; (try dsimp only at hSw); go_simp; (try with_reducible rfl)
  try simp only [Act.put, List.setIfInBounds_toArray, List.set_cons_zero, List.set_cons_succ]
  refine wpAnyH_done (by kernel_rfl) ?_ _
  have HS6 := Lib.hid hHeld.2
  have HI6 := Lib.hid hi6
  have HN6 := Lib.hid (show ∀ b off, a2 = some ⟨b, off, none⟩ → w.heap.size + 2 ≤ b from fun b off e => by have := hn6 b off e; omega)
  clear hHeld hi6 hn6 b6 hsz H0 HM b5
  go_wp2_with fail
  go_loopw [23] (fun i wr => ∃ j : Nat, j ≤ zs.length ∧ i = .int .i64 j ∧ Sp w k n r (L.take j) wr ∧ Ints wr .i64 a2 L) (fun i _ => zs.length - (intOf i).toNat)
  case atStart => exact ⟨0, Nat.zero_le _, rfl, HS6.out, HI6.out⟩
  case round =>
    obtain ⟨j, hj, rfl, hS, hI⟩ := hrel
    have HS := Lib.hid hS
    have HI := Lib.hid hI
    clear HS6 HI6
    by_cases hlt : j < zs.length
    · have hlt3 : j < L.length := by rw [HL.out]; exact hlt
      obtain ⟨b, off, ha, hc⟩ := hI.get hlt3
      subst ha
      have hm := HC.out L[j] (List.getElem_mem _)
      have ht := Lib.hid (List.take_succ_eq_append_getElem hlt3)
      generalize L[j] = z at *
      obtain ⟨m, rfl⟩ : ∃ m : Nat, z = (m : Int) := ⟨z.toNat, by omega⟩
      have hm16 : m < 16 := by omega
      have hg := (hS.ct.cell m).trans (cntA_get (L.take j) m hm16)
      have hf := hS.ct.frozen m
      have hcb := cnt_b m (L.take j)
      have hcl : ((L.take j).length : Int) ≤ 60 := by rw [List.length_take]; omega
      have HSn := Lib.hid (by have := HS.out.inc m; rw [← ht.out] at this; exact this)
      have HIn := Lib.hid (ints_far (g := w.heap.size + 1) (i := m) (u := .int .i64 (cnt m (L.take j) + 1)) HI.out HN6.out (by omega))
      generalize cnt m (L.take j) = q at *
      have q0 := hcb.1
      have q1 : q ≤ 60 := by omega
      clear hS hI hcb hm hlt3
      go_wp2_with fail
      go_roundw
      case rel => exact ⟨j + 1, by omega, by go_num, HSn.out, HIn.out⟩
      case measure => simp [intOf]; omega
    · obtain rfl : j = zs.length := by omega
      rw [List.take_of_length_le (by rw [HL.out]; exact Nat.le_refl _)] at hS HS
      clear hI HI
      obtain ⟨wo, rfl⟩ : ∃ wo : World, wo = wr := ⟨_, rfl⟩
      obtain ⟨i0, hi, hz0, hz1, hz2⟩ := info_parts info_int
      have hmk := run_makeSlice (P := Try.prog) wo 33 3 i0 (.int .i64 0) Try.underlying33 hi hz0 .i64 .i64 n n (by omega) (Int.le_refl _) (by rw [hz1]; simp; omega) (by rw [hz2]; omega) (by omega)
      rw [Int.toNat_natCast, hz1, made_ints] at hmk
      have c1 := hS.bx.cell 1
      have hsz := Bk.lt hS.ct
      have HS2 := Lib.hid (hS.below ((Below.refl _ _).alloc (Nat.le_refl _) (.cells (vals (List.replicate n 0)).toArray 3)))
      have HB2 := Lib.hid (Bk.new wo 3 (vals (List.replicate n 0)).toArray)
      clear hi hz0 hz1 hz2 hS
      go_wp2_with fail
      go_loopw [38] (fun i wq => ∃ j : Nat, j ≤ n ∧ i = .int .i64 j ∧ Sp w k n r L wq ∧ Bk wq wo.heap.size 3 (vals (half n L j)).toArray) (fun i _ => n - (intOf i).toNat)
      case atStart => exact ⟨0, Nat.zero_le _, rfl, HS2.out, by rw [half_zero]; exact HB2.out⟩
      case round =>
        obtain ⟨j, hj, rfl, hS, hB⟩ := hrel
        have HS3 := Lib.hid hS
        have HB3 := Lib.hid hB
        clear HS2 HB2 hmk c1
        by_cases hlt : j < n
        · have hg := (hS.ct.cell j).trans (cntA_get L j (by omega))
          have hlen : (half n L j).length = n := by unfold half; rw [List.length_append, List.length_take, cntL_len, List.length_replicate]; omega
          have hc0 : ∃ u, wr.cell? ⟨wo.heap.size, j, none⟩ = some u := by
            rw [hB.cell j, List.getElem?_toArray]
            exact ⟨_, List.getElem?_eq_getElem (by unfold vals; rw [List.length_map, hlen]; exact hlt)⟩
          obtain ⟨u, hu⟩ := hc0
          have hf := hB.frozen j
          have HSn := Lib.hid (hS.far (g := wo.heap.size) (i := j) (.int .i64 (cnt j L)) hsz)
          have HBn := Lib.hid (show Bk (wr.setCell ⟨wo.heap.size, j, none⟩ (.int .i64 (cnt j L))) wo.heap.size 3 (vals (half n L (j + 1))).toArray from by
            have := hB.set_ j (.int .i64 (cnt j L)); rw [List.setIfInBounds_toArray, vals_set, half_set n L j hlt] at this; exact this)
          clear hS hB hlen
          generalize cnt j L = q at *
          go_wp2_with fail
          go_roundw
          case rel => exact ⟨j + 1, by omega, by go_num, HSn.out, HBn.out⟩
          case measure => simp [intOf]; omega
        · obtain rfl : j = n := by omega
          rw [half_all] at hB
          have HB4 := Lib.hid hB
          clear hB hS HB3
          go_wp2_with fail
          go_ret
          exact ⟨_, _, rfl, fun _ => ⟨wo.heap.size, 0, rfl, fun i u hu => by rw [Nat.zero_add, HB4.out.cell i, List.getElem?_toArray]; exact hu⟩, HS3.out.bl⟩
theorem uspread_any (k : Nat) (n : Nat) (r now : Int) (ad : Option Addr) (cap : Nat) (zs : List Int) (w : World) (h1 : 1 ≤ n) (h2 : n ≤ 16) (h3 : 1 ≤ r) (h4 : r ≤ 1099511627776) (hk : k < M) (hz : Ints w .u64 ad zs) (hl : zs.length ≤ 60) (hwf : ∀ z ∈ zs, 0 ≤ z ∧ z < 18446744073709551616) :
    Calls Try.prog 11 #[.agg #[.int .u64 k, .int .i64 n, .int .i64 r], .int .i64 now, .slice ad zs.length cap] w (RetC w n (cntL n (clsL k (trn r now).toNat n zs))) := by
  obtain ⟨t1, t2, _⟩ := trn_b r now h3 h4
  have h := fun w => uturn_any k n r now w (by omega) h3 h4
  generalize trn r now = tr at *
  obtain ⟨x, rfl⟩ : ∃ x : Nat, tr = (x : Int) := ⟨tr.toNat, by omega⟩
  rw [Int.toNat_natCast]
  exact uspread_gen k n r now x ad cap zs w h2 (by omega) hk hz hl hwf h
theorem uspread_zero (now : Int) (ad : Option Addr) (cap : Nat) (z : Int) (w : World) (hz : Ints w .u64 ad [z]) (h0 : 0 ≤ z) (h1 : z < 18446744073709551616) :
    Calls Try.prog 11 #[.agg #[.int .u64 0, .int .i64 0, .int .i64 0], .int .i64 now, .slice ad 1 cap] w (RetC w 0 (cntL 0 (clsL 0 0 (0 : Nat) [z]))) :=
  uspread_gen 0 0 0 now 0 ad cap [z] w (by decide) (by decide) (by decide) hz (by simp) (by simpa using ⟨h0, h1⟩) (fun w => uturn_zero now w)
set_option maxHeartbeats 1000000 in
theorem uclass_zero (u : Nat) (now : Int) (w : World) (hu : u < M) :
    Calls Try.prog 10 #[.agg #[.int .u64 0, .int .i64 0, .int .i64 0], .int .u64 u, .int .i64 now] w fun e w' => e = .returned (.int .i64 0) ∧ Below w.heap.size w w' := by
  have H0 := Lib.hid (Box.new w 0 0 0)
  have hc : cls 0 0 u 0 = 0 := rfl
  have hpc := fun w => class_any 0 0 u 0 w ⟨show 0 < M by decide, hu⟩ (by decide) (by decide)
  rw [hc] at hpc
  have PC := Lib.hid (show ∀ w, Calls Try.prog 19 #[.int .u64 0, .int .u64 0, .int .u64 u, .int .i64 0] w fun e w' => e = .returned (.int .i64 0) ∧ Below w.heap.size w w' from hpc)
  have HM := Lib.hid (fun (W : World) (h : Box w 0 0 0 W) => (show (W.cell? ⟨w.heap.size, 0, none⟩ = some (.int .u64 0) ∧ W.cell? ⟨w.heap.size, 1, none⟩ = some (.int .i64 0) ∧ W.cell? ⟨w.heap.size, 2, none⟩ = some (.int .i64 0)) ∧ Box w 0 0 0 W from ⟨⟨h.bx.cell 0, h.bx.cell 1, h.bx.cell 2⟩, h⟩))
  clear hpc hc
  go_enter Try.func10, Try.ntmps10
  go_wp2_with fail
  refine wp_region_held_drew (S := (fun W => (W.cell? ⟨w.heap.size, 0, none⟩ = some (.int .u64 0) ∧ W.cell? ⟨w.heap.size, 1, none⟩ = some (.int .i64 0) ∧ W.cell? ⟨w.heap.size, 2, none⟩ = some (.int .i64 0)) ∧ Box w 0 0 0 W)) (by kernel_rfl) ?_ (fun hHeld => ?_)
  · (try dsimp only); first | exact HM.out _ (Box.below hHeld.2 (by assumption)) | exact HM.out _ H0.out.drew
  refine wpAnyH_take (i := 0) (oi := { dst := some 7, op := Op.fieldAddr 26 (Operand.tmp 3) 0, type := 0, pos := "user.go:45", after := #[], guard := none }) (v := ?_) rfl (by kernel_rfl) (by kernel_rfl) (by kernel_rfl) (fun _ _ _ h => h) (Or.inl ⟨by rfl, ?_⟩) (by assumption) ?_
  rotate_left
  · intro w0 hSw; (try dsimp only at hSw); go_simp; (try with_reducible rfl)
  try simp only [Act.put, List.setIfInBounds_toArray, List.set_cons_zero, List.set_cons_succ]
  refine wpAnyH_take (i := 1) (oi := { dst := some 8, op := Op.load 22 (Operand.tmp 7), type := 22, pos := "user.go:45", after := #[{ on := 0, ground := Ground.data }], guard := none }) (v := ?_) rfl (by kernel_rfl) (by kernel_rfl) (by kernel_rfl) (fun _ _ _ h => h) (Or.inl ⟨by rfl, ?_⟩) (by assumption) ?_
  rotate_left
  · intro w0 hSw; (try dsimp only at hSw); go_simp; (try with_reducible rfl)
  try simp only [Act.put, List.setIfInBounds_toArray, List.set_cons_zero, List.set_cons_succ]
  refine wpAnyH_take (i := 2) (oi := { dst := some 9, op := Op.load 26 (Operand.tmp 3), type := 26, pos := "user.go:45", after := #[], guard := none }) (v := ?_) rfl (by kernel_rfl) (by kernel_rfl) (by kernel_rfl) (fun _ _ _ h => h) (Or.inl ⟨by rfl, ?_⟩) (by assumption) ?_
  rotate_left
  · intro w0 hSw; (try dsimp only at hSw); go_simp; (try with_reducible rfl)
  try simp only [Act.put, List.setIfInBounds_toArray, List.set_cons_zero, List.set_cons_succ]
  refine wpAnyH_take (i := 3) (oi := { dst := some 10, op := Op.move (Operand.tmp 2), type := 3, pos := "user.go:45", after := #[], guard := none }) (v := ?_) rfl (by kernel_rfl) (by kernel_rfl) (by kernel_rfl) (fun _ _ _ h => h) (Or.inl ⟨by rfl, ?_⟩) (by assumption) ?_
  rotate_left
  · intro w0 hSw; (try dsimp only at hSw); go_simp; (try with_reducible rfl)
  try simp only [Act.put, List.setIfInBounds_toArray, List.set_cons_zero, List.set_cons_succ]
  refine wpAnyH_take (i := 6) (oi := { dst := some 13, op := Op.move (Operand.tmp 1), type := 22, pos := "user.go:45", after := #[], guard := none }) (v := ?_) rfl (by kernel_rfl) (by kernel_rfl) (by kernel_rfl) (fun _ _ _ h => h) (Or.inl ⟨by rfl, ?_⟩) (by assumption) ?_
  rotate_left
  · intro w0 hSw; (try dsimp only at hSw); go_simp; (try with_reducible rfl)
  try simp only [Act.put, List.setIfInBounds_toArray, List.set_cons_zero, List.set_cons_succ]
  refine wpAnyH_take (i := 7) (oi := { dst := some 14, op := Op.fieldAddr 26 (Operand.tmp 3) 1, type := 0, pos := "user.go:45", after := #[], guard := none }) (v := ?_) rfl (by kernel_rfl) (by kernel_rfl) (by kernel_rfl) (fun _ _ _ h => h) (Or.inl ⟨by rfl, ?_⟩) (by assumption) ?_
  rotate_left
  · intro w0 hSw; (try dsimp only at hSw); go_simp; (try with_reducible rfl)
  try simp only [Act.put, List.setIfInBounds_toArray, List.set_cons_zero, List.set_cons_succ]
  refine wpAnyH_take (i := 8) (oi := { dst := some 15, op := Op.load 3 (Operand.tmp 14), type := 3, pos := "user.go:45", after := #[{ on := 7, ground := Ground.data }], guard := none }) (v := ?_) rfl (by kernel_rfl) (by kernel_rfl) (by kernel_rfl) (fun _ _ _ h => h) (Or.inl ⟨by rfl, ?_⟩) (by assumption) ?_
  rotate_left
  · intro w0 hSw; (try dsimp only at hSw); go_simp; (try with_reducible rfl)
  try simp only [Act.put, List.setIfInBounds_toArray, List.set_cons_zero, List.set_cons_succ]
  refine wpAnyH_ready (rs := [4]) (by kernel_rfl) (by simp) ?_
  refine AllReadyH.cons (o := { dst := some 11, op := Op.call { callee := Callee.value (Operand.func 8), args := #[Operand.tmp 9, Operand.tmp 10], argTypes := #[26, 3] }, type := 3, pos := "user.go:45", after := #[{ on := 2, ground := Ground.data }, { on := 3, ground := Ground.data }], guard := none }) rfl (fun K hK => ?_) AllReadyH.nil
  go_simp
  refine (uturn_zero now _).mono ?_; rintro e w5 ⟨rfl, b5⟩
  refine hK.out _ _ ?_ (fun hHeld => ?_)
  · (try dsimp only); first | exact HM.out _ (Box.below hHeld.2 (by assumption)) | exact HM.out _ H0.out.drew
  clear hK K
  try simp only [Act.put, List.setIfInBounds_toArray, List.set_cons_zero, List.set_cons_succ]
  refine wpAnyH_take (i := 5) (oi := { dst := some 12, op := Op.convert 3 22 (Operand.tmp 11), type := 22, pos := "user.go:45", after := #[{ on := 4, ground := Ground.data }], guard := none }) (v := ?_) rfl (by kernel_rfl) (by kernel_rfl) (by kernel_rfl) (fun _ _ _ h => h) (Or.inl ⟨by rfl, ?_⟩) (by assumption) ?_
  rotate_left
  · intro w0 hSw; (try dsimp only at hSw); go_simp; (try with_reducible rfl)
  try simp only [Act.put, List.setIfInBounds_toArray, List.set_cons_zero, List.set_cons_succ]
  refine wpAnyH_ready (rs := [9]) (by kernel_rfl) (by simp) ?_
  refine AllReadyH.cons (o := { dst := some 16, op := Op.call { callee := Callee.value (Operand.func 19), args := #[Operand.tmp 8, Operand.tmp 12, Operand.tmp 13, Operand.tmp 15], argTypes := #[22, 22, 22, 3] }, type := 3, pos := "user.go:45", after := #[{ on := 1, ground := Ground.data }, { on := 5, ground := Ground.data }, { on := 6, ground := Ground.data }, { on := 8, ground := Ground.data }, { on := 4, ground := Ground.chain }], guard := none }) rfl (fun K hK => ?_) AllReadyH.nil
  go_simp
  refine (PC.out _).mono ?_; rintro e w5 ⟨rfl, b5⟩
  refine hK.out _ _ ?_ (fun hHeld => ?_)
  · (try dsimp only); first | exact HM.out _ (Box.below hHeld.2 (by assumption)) | exact HM.out _ H0.out.drew
  clear hK K
  try simp only [Act.put, List.setIfInBounds_toArray, List.set_cons_zero, List.set_cons_succ]
  refine wpAnyH_take (i := 10) (oi := { dst := some 6, op := Op.assign (Operand.tmp 16), type := 3, pos := "user.go:45", after := #[{ on := 9, ground := Ground.data }, { on := 9, ground := Ground.chain }, { on := 0, ground := Ground.phase }, { on := 1, ground := Ground.phase }, { on := 2, ground := Ground.phase }, { on := 3, ground := Ground.phase }, { on := 4, ground := Ground.phase }, { on := 5, ground := Ground.phase }, { on := 6, ground := Ground.phase }, { on := 7, ground := Ground.phase }, { on := 8, ground := Ground.phase }, { on := 9, ground := Ground.phase }], guard := none }) (v := ?_) rfl (by kernel_rfl) (by kernel_rfl) (by kernel_rfl) (fun _ _ _ h => h) (Or.inl ⟨by rfl, ?_⟩) (by assumption) ?_
  rotate_left
  · intro w0 hSw; (try dsimp only at hSw); go_simp; (try with_reducible rfl)
  try simp only [Act.put, List.setIfInBounds_toArray, List.set_cons_zero, List.set_cons_succ]
  refine wpAnyH_done (by kernel_rfl) ?_ _
  go_wp2_with fail
  go_ret
  exact ⟨rfl, hHeld.2.bl⟩
end Go.Proofs.Ytjppoiplcfifcaa
