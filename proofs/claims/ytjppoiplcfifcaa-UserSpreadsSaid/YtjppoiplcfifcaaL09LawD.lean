/-
  The walk of the law UserSpreads.
-/
import Derived.Test.YtjppoiplcfifcaaL09LawB
namespace Go.Proofs.Ytjppoiplcfifcaa
open Go.RowKit Bd Us
open Mx (M In)
structure Wt (w4 : World) (n : Nat) (L : List Int) (W : World) : Prop where
  bl : Below w4.heap.size w4 W
  wt : Bk W w4.heap.size 3 (vals (cntL n L)).toArray
theorem Wt.below {w4 W W' : World} {n : Nat} {L : List Int} (h : Wt w4 n L W) (b : Below W.heap.size W W') : Wt w4 n L W' := ⟨h.bl.trans (b.mono h.bl.size), h.wt.below b⟩
theorem Wt.inc {w4 W : World} {n : Nat} {L : List Int} (h : Wt w4 n L W) (m : Nat) : Wt w4 n (L ++ [(m : Int)]) (W.setCell ⟨w4.heap.size, m, none⟩ (.int .i64 (cnt m L + 1))) :=
  ⟨below_only h.bl (only_set _ _ _ _) h.bl.size (Nat.le_refl _), by have := h.wt.set_ m (.int .i64 (cnt m L + 1)); rw [List.setIfInBounds_toArray, vals_set, cntL_set] at this; exact this⟩
theorem rsame_n {n : Nat} (a b : Option Addr) (cap cap' : Nat) (zs : List Int) (w : World) (hz : Ints w .i64 a zs) (hz' : Ints w .i64 b zs) (hn : zs.length = n) (hl : n ≤ 100) :
    Calls Try.prog 16 #[.slice a n cap, .slice b n cap'] w fun e w' => e = .returned (.bool true) ∧ Below w.heap.size w w' := by
  subst hn; exact rsame_eq a b cap cap' zs w hz hz' (by omega)
set_option maxRecDepth 100000 in
set_option maxHeartbeats 4000000 in
theorem w_UserSpreads (w : World) (k0 c r : Int) (wk : (Lit.int .u64 k0).wf = true) (wc : (Lit.int .i64 c).wf = true) (wr : (Lit.int .i64 r).wf = true) (now : Int) (_ : (Lit.int .i64 now).wf = true) (ad : Option Addr) (cap : Nat) (zs : List Int) (hz : Ints w .u64 ad zs) (hl : zs.length ≤ maxLen) (hwf : ∀ z ∈ zs, (Lit.int .u64 z).wf = true) :
    Calls Try.prog 5 #[.agg #[.int .u64 k0, .int .i64 c, .int .i64 r], .int .i64 now, .slice ad zs.length cap] w fun e w' => e = .returned (.bool true) ∧ Below w.heap.size w w' := by
  obtain ⟨k, rfl, hk⟩ := nat_of k0 wk
  unfold maxLen at hl
  clear wk wc wr
  have HZ := Lib.hid hz
  have HW := Lib.hid (show ∀ z ∈ zs, 0 ≤ z ∧ z < 18446744073709551616 from fun z hzz => by obtain ⟨y, rfl, hy⟩ := nat_of z (hwf z hzz); unfold M at hy; omega)
  clear hz hwf
  have O0 := Lib.hid (Bk.new w 24 #[.int .u64 (k : Int), .int .i64 c, .int .i64 r])
  have B0 := Lib.hid ((Below.refl w.heap.size w).alloc (Nat.le_refl _) (.cells #[.int .u64 (k : Int), .int .i64 c, .int .i64 r] 24))
  by_cases hg : 60 < zs.length
  · have hd : decide (60 < (zs.length : Int)) = true := by simp; omega
    go_enter Try.func5, Try.ntmps5
    go_wp2_with fail
    refine (awake09 _).mono ?_; rintro e w1 ⟨rfl, b1⟩
    go_wp2_with fail
    go_ret
    exact ⟨rfl, B0.out.trans (b1.mono B0.out.size)⟩
  · have hd : decide (60 < (zs.length : Int)) = false := by simp; omega
    by_cases hR : 1 ≤ c ∧ c ≤ 16 ∧ 1 ≤ r ∧ r ≤ 1099511627776
    · obtain ⟨h1, h2, h3, h4⟩ := hR
      obtain ⟨n, rfl⟩ : ∃ n : Nat, c = (n : Int) := ⟨c.toNat, by omega⟩
      obtain ⟨t1, t2, _⟩ := trn_b r now h3 h4
      have PS := Lib.hid (fun w h => uspread_any k n r now ad cap zs w (by omega) (by omega) h3 h4 hk h (by omega) HW.out)
      have RC := Lib.hid (fun (u : Nat) (hu : u < M) w => rclass09 k u n r now w h1 h2 h3 h4 hk hu)
      generalize (trn r now).toNat = x at *
      have HL := Lib.hid (show (clsL k x n zs).length = zs.length by unfold clsL; simp)
      have HCL := Lib.hid (cntL_len n (clsL k x n zs))
      go_enter Try.func5, Try.ntmps5
      have c0 := O0.out.cell 0
      have c1 := O0.out.cell 1
      have c2 := O0.out.cell 2
      go_wp2_with fail
      refine (rright_yes n r _ h1 h2 h3 h4).mono ?_; rintro e w' ⟨rfl, rfl⟩
      go_wp2_with fail
      refine (unew_any k n r _ h1 h2 h3 h4).mono ?_; rintro e w1 ⟨rfl, b1⟩
      have H1 := Lib.hid (show Ou w w1.heap.size k n r k n r (w1.alloc (.cells #[.int .u64 (k : Int), .int .i64 (n : Int), .int .i64 r] 26)) from
        ⟨(B0.out.trans (b1.mono B0.out.size)).alloc (B0.out.trans (b1.mono B0.out.size)).size _, (O0.out.below b1).below ((Below.refl _ _).alloc (Nat.le_refl _) _), Bk.new _ _ _⟩)
      obtain ⟨d0, d1, d2, d3, d4, d5⟩ := H1.out.cells
      clear b1 c0 c1 c2
      go_wp2_with fail
      refine (PS.out _ (HZ.out.below H1.out.bl)).mono ?_; rintro e w4 ⟨a4, cap4, rfl, hi4, b4⟩
      have H4 := Lib.hid (H1.out.below b4)
      have HI4 := Lib.hid hi4
      obtain ⟨f0, f1, f2, f3, f4, f5⟩ := H4.out.cells
      obtain ⟨i0, hi, hz0, hz1, hz2⟩ := info_parts info_int
      have hmk := run_makeSlice (P := Try.prog) w4 33 3 i0 (.int .i64 0) Try.underlying33 hi hz0 .i64 .i64 n n (by omega) (Int.le_refl _) (by rw [hz1]; simp; omega) (by rw [hz2]; omega) (by omega)
      rw [Int.toNat_natCast, hz1, made_ints] at hmk
      have W0 := Lib.hid (show Wt w4 n [] (w4.alloc (.cells (vals (List.replicate n 0)).toArray 3)) from ⟨(Below.refl _ _).alloc (Nat.le_refl _) _, by rw [cntL_nil]; exact Bk.new _ _ _⟩)
      clear b4 hi4 hi hz0 hz1 hz2 d0 d1 d2 d3 d4 d5 f0 f2 f3 f4 f5
      go_wp2_with fail
      go_loopw [11] (fun i wr => ∃ j : Nat, j ≤ zs.length ∧ i = .int .i64 j ∧ Wt w4 n ((clsL k x n zs).take j) wr) (fun i _ => zs.length - (intOf i).toNat)
      case atStart => exact ⟨0, Nat.zero_le _, rfl, W0.out⟩
      case round =>
        obtain ⟨j, hj, rfl, hS⟩ := hrel
        have HS := Lib.hid hS
        clear hmk f1 W0
        have HO := Lib.hid (H4.out.below (hS.bl.mono (Nat.le_refl _)))
        by_cases hlt : j < zs.length
        · obtain ⟨b, off, ha, hc⟩ := HZ.out.get hlt
          subst ha
          have hat := Lib.hid (fun (W : World) (h : Below w.heap.size w W) => (h.cell (p := ⟨b, off + j, none⟩) (cell_lt hc)).trans hc)
          have hzj := HW.out zs[j] (List.getElem_mem _)
          have hs := Lib.hid (clsL_snoc k x n zs j hlt)
          have htk := Lib.hid (show clsL k x n (zs.take (j + 1)) = (clsL k x n zs).take (j + 1) ∧ clsL k x n (zs.take j) = (clsL k x n zs).take j by unfold clsL; simp [List.map_take])
          generalize zs[j] = z at *
          obtain ⟨y, rfl⟩ : ∃ y : Nat, z = (y : Int) := ⟨z.toNat, by omega⟩
          rw [Int.toNat_natCast] at hs
          have PC := Lib.hid (RC.out y (by unfold M; omega))
          have hcb := cls_b k x y n
          generalize cls k x y n = q at *
          obtain ⟨m, rfl⟩ : ∃ m : Nat, q = (m : Int) := ⟨q.toNat, by have := hcb.1; omega⟩
          have hm := hcb.2.1 h1
          have hmn : m < n := by omega
          have hcn := cnt_b m ((clsL k x n zs).take j)
          have hcl : (((clsL k x n zs).take j).length : Int) ≤ 60 := by rw [List.length_take, HL.out]; omega
          have hq0 := hcn.1
          have hq1 : cnt m ((clsL k x n zs).take j) ≤ 60 := by omega
          have HM := Lib.hid (fun (W : World) (h : Wt w4 n ((clsL k x n zs).take j) W) => (show (W.cell? ⟨w.heap.size, 0, none⟩ = some (.int .u64 k) ∧ W.cell? ⟨w.heap.size, 1, none⟩ = some (.int .i64 n) ∧ W.cell? ⟨w.heap.size, 2, none⟩ = some (.int .i64 r) ∧ W.cell? ⟨b, off + j, none⟩ = some (.int .u64 y)) ∧ Wt w4 n ((clsL k x n zs).take j) W from
            have o := H4.out.below h.bl; ⟨⟨o.ob.cell 0, o.ob.cell 1, o.ob.cell 2, hat.out W o.bl⟩, h⟩))
          clear hS hcn hcb hcl hc
          go_wp2_with fail
          refine wp_region_held_drew (S := (fun W => (W.cell? ⟨w.heap.size, 0, none⟩ = some (.int .u64 k) ∧ W.cell? ⟨w.heap.size, 1, none⟩ = some (.int .i64 n) ∧ W.cell? ⟨w.heap.size, 2, none⟩ = some (.int .i64 r) ∧ W.cell? ⟨b, off + j, none⟩ = some (.int .u64 y)) ∧ Wt w4 n ((clsL k x n zs).take j) W)) (by kernel_rfl) ?_ (fun hHeld => ?_)
          · (try dsimp only); exact HM.out _ (HS.out.below (Below.refl _ _).drew)
          refine wpAnyH_take (i := 0) (oi := { dst := some 48, op := Op.fieldAddr 24 (Operand.tmp 3) 0, type := 0, pos := "law.go:57", after := #[], guard := none }) (v := ?_) rfl (by kernel_rfl) (by kernel_rfl) (by kernel_rfl) (fun _ _ _ h => h) (Or.inl ⟨by rfl, ?_⟩) (by assumption) ?_
          rotate_left
          · intro w0 hSw; (try dsimp only at hSw); go_simp; (try with_reducible rfl)
          try simp only [Act.put, List.setIfInBounds_toArray, List.set_cons_zero, List.set_cons_succ]
          refine wpAnyH_take (i := 1) (oi := { dst := some 49, op := Op.load 22 (Operand.tmp 48), type := 22, pos := "law.go:57", after := #[{ on := 0, ground := Ground.data }], guard := none }) (v := ?_) rfl (by kernel_rfl) (by kernel_rfl) (by kernel_rfl) (fun _ _ _ h => h) (Or.inl ⟨by rfl, ?_⟩) (by assumption) ?_
          rotate_left
          · intro w0 hSw; (try dsimp only at hSw); go_simp; (try with_reducible rfl)
          try simp only [Act.put, List.setIfInBounds_toArray, List.set_cons_zero, List.set_cons_succ]
          refine wpAnyH_take (i := 2) (oi := { dst := some 50, op := Op.fieldAddr 24 (Operand.tmp 3) 1, type := 0, pos := "law.go:57", after := #[], guard := none }) (v := ?_) rfl (by kernel_rfl) (by kernel_rfl) (by kernel_rfl) (fun _ _ _ h => h) (Or.inl ⟨by rfl, ?_⟩) (by assumption) ?_
          rotate_left
          · intro w0 hSw; (try dsimp only at hSw); go_simp; (try with_reducible rfl)
          try simp only [Act.put, List.setIfInBounds_toArray, List.set_cons_zero, List.set_cons_succ]
          refine wpAnyH_take (i := 3) (oi := { dst := some 51, op := Op.load 3 (Operand.tmp 50), type := 3, pos := "law.go:57", after := #[{ on := 2, ground := Ground.data }], guard := none }) (v := ?_) rfl (by kernel_rfl) (by kernel_rfl) (by kernel_rfl) (fun _ _ _ h => h) (Or.inl ⟨by rfl, ?_⟩) (by assumption) ?_
          rotate_left
          · intro w0 hSw; (try dsimp only at hSw); go_simp; (try with_reducible rfl)
          try simp only [Act.put, List.setIfInBounds_toArray, List.set_cons_zero, List.set_cons_succ]
          refine wpAnyH_take (i := 4) (oi := { dst := some 52, op := Op.fieldAddr 24 (Operand.tmp 3) 2, type := 0, pos := "law.go:57", after := #[], guard := none }) (v := ?_) rfl (by kernel_rfl) (by kernel_rfl) (by kernel_rfl) (fun _ _ _ h => h) (Or.inl ⟨by rfl, ?_⟩) (by assumption) ?_
          rotate_left
          · intro w0 hSw; (try dsimp only at hSw); go_simp; (try with_reducible rfl)
          try simp only [Act.put, List.setIfInBounds_toArray, List.set_cons_zero, List.set_cons_succ]
          refine wpAnyH_take (i := 5) (oi := { dst := some 53, op := Op.load 3 (Operand.tmp 52), type := 3, pos := "law.go:57", after := #[{ on := 4, ground := Ground.data }], guard := none }) (v := ?_) rfl (by kernel_rfl) (by kernel_rfl) (by kernel_rfl) (fun _ _ _ h => h) (Or.inl ⟨by rfl, ?_⟩) (by assumption) ?_
          rotate_left
          · intro w0 hSw; (try dsimp only at hSw); go_simp; (try with_reducible rfl)
          try simp only [Act.put, List.setIfInBounds_toArray, List.set_cons_zero, List.set_cons_succ]
          refine wpAnyH_take (i := 6) (oi := { dst := some 54, op := Op.move (Operand.tmp 2), type := 41, pos := "law.go:57", after := #[], guard := none }) (v := ?_) rfl (by kernel_rfl) (by kernel_rfl) (by kernel_rfl) (fun _ _ _ h => h) (Or.inl ⟨by rfl, ?_⟩) (by assumption) ?_
          rotate_left
          · intro w0 hSw; (try dsimp only at hSw); go_simp; (try with_reducible rfl)
          try simp only [Act.put, List.setIfInBounds_toArray, List.set_cons_zero, List.set_cons_succ]
          refine wpAnyH_take (i := 7) (oi := { dst := some 55, op := Op.move (Operand.tmp 11), type := 3, pos := "law.go:57", after := #[], guard := none }) (v := ?_) rfl (by kernel_rfl) (by kernel_rfl) (by kernel_rfl) (fun _ _ _ h => h) (Or.inl ⟨by rfl, ?_⟩) (by assumption) ?_
          rotate_left
          · intro w0 hSw; (try dsimp only at hSw); go_simp; (try with_reducible rfl)
          try simp only [Act.put, List.setIfInBounds_toArray, List.set_cons_zero, List.set_cons_succ]
          refine wpAnyH_take (i := 8) (oi := { dst := some 56, op := Op.indexAddr 41 (Operand.tmp 54) (Operand.tmp 55), type := 0, pos := "law.go:57", after := #[{ on := 6, ground := Ground.data }, { on := 7, ground := Ground.data }], guard := none }) (v := ?_) rfl (by kernel_rfl) (by kernel_rfl) (by kernel_rfl) (fun _ _ _ h => h) (Or.inl ⟨by rfl, ?_⟩) (by assumption) ?_
          rotate_left
          · intro w0 hSw; (try dsimp only at hSw); go_simp; (try with_reducible rfl)
          try simp only [Act.put, List.setIfInBounds_toArray, List.set_cons_zero, List.set_cons_succ]
          refine wpAnyH_take (i := 9) (oi := { dst := some 57, op := Op.load 22 (Operand.tmp 56), type := 22, pos := "law.go:57", after := #[{ on := 8, ground := Ground.data }], guard := none }) (v := ?_) rfl (by kernel_rfl) (by kernel_rfl) (by kernel_rfl) (fun _ _ _ h => h) (Or.inl ⟨by rfl, ?_⟩) (by assumption) ?_
          rotate_left
          · intro w0 hSw; (try dsimp only at hSw); go_simp; (try with_reducible rfl)
          try simp only [Act.put, List.setIfInBounds_toArray, List.set_cons_zero, List.set_cons_succ]
          refine wpAnyH_take (i := 10) (oi := { dst := some 58, op := Op.move (Operand.tmp 1), type := 3, pos := "law.go:57", after := #[], guard := none }) (v := ?_) rfl (by kernel_rfl) (by kernel_rfl) (by kernel_rfl) (fun _ _ _ h => h) (Or.inl ⟨by rfl, ?_⟩) (by assumption) ?_
          rotate_left
          · intro w0 hSw; (try dsimp only at hSw); go_simp; (try with_reducible rfl)
          try simp only [Act.put, List.setIfInBounds_toArray, List.set_cons_zero, List.set_cons_succ]
          refine wpAnyH_hands (i := 11) (oi := { dst := some 59, op := Op.call { callee := Callee.value (Operand.func 15), args := #[Operand.tmp 49, Operand.tmp 51, Operand.tmp 53, Operand.tmp 57, Operand.tmp 58], argTypes := #[22, 3, 3, 22, 3] }, type := 3, pos := "law.go:57", after := #[{ on := 1, ground := Ground.data }, { on := 3, ground := Ground.data }, { on := 5, ground := Ground.data }, { on := 9, ground := Ground.data }, { on := 10, ground := Ground.data }], guard := none }) (v := ?_) rfl (by kernel_rfl) (by kernel_rfl) (by kernel_rfl) (fun _ _ _ h => h) (by assumption) (by rfl) ?_ ?_
          rotate_left
          · intro w0 hSw b0 K0 Q0 hK0; (try dsimp only at hSw); go_simp; refine (PC.out _).mono ?_; rintro e w' ⟨rfl, rfl⟩; exact hK0
          try simp only [Act.put, List.setIfInBounds_toArray, List.set_cons_zero, List.set_cons_succ]
          refine wpAnyH_take (i := 12) (oi := { dst := some 12, op := Op.assign (Operand.tmp 59), type := 3, pos := "law.go:57", after := #[{ on := 11, ground := Ground.data }, { on := 11, ground := Ground.chain }, { on := 0, ground := Ground.phase }, { on := 1, ground := Ground.phase }, { on := 2, ground := Ground.phase }, { on := 3, ground := Ground.phase }, { on := 4, ground := Ground.phase }, { on := 5, ground := Ground.phase }, { on := 6, ground := Ground.phase }, { on := 7, ground := Ground.phase }, { on := 8, ground := Ground.phase }, { on := 9, ground := Ground.phase }, { on := 10, ground := Ground.phase }, { on := 11, ground := Ground.phase }], guard := none }) (v := ?_) rfl (by kernel_rfl) (by kernel_rfl) (by kernel_rfl) (fun _ _ _ h => h) (Or.inl ⟨by rfl, ?_⟩) (by assumption) ?_
          rotate_left
          · intro w0 hSw; (try dsimp only at hSw); go_simp; (try with_reducible rfl)
          try simp only [Act.put, List.setIfInBounds_toArray, List.set_cons_zero, List.set_cons_succ]
          refine wpAnyH_done (by kernel_rfl) ?_ _
          have hS := hHeld.2
          have hcell := (fun (W : World) (h : Bk W w4.heap.size 3 (vals (cntL n ((clsL k x n zs).take j))).toArray) => (show W.cell? ⟨w4.heap.size, m, none⟩ = some (.int .i64 (cnt m ((clsL k x n zs).take j))) from (h.cell m).trans (by rw [List.getElem?_toArray]; exact vals_get (cntL_get n ((clsL k x n zs).take j) m hmn)))) _ hS.wt
          have hf := hS.wt.frozen m
          have HN := Lib.hid (by have h := hS.inc m; rw [← htk.out.2, ← hs.out, htk.out.1, htk.out.2] at h; exact h)
          clear hHeld hS
          generalize cnt m ((clsL k x n zs).take j) = q at *
          go_wp2_with fail
          go_roundw
          case rel => exact ⟨j + 1, by omega, by go_num, HN.out⟩
          case measure => simp [intOf]; omega
        · obtain rfl : j = zs.length := by omega
          rw [List.take_of_length_le (by rw [HL.out]; exact Nat.le_refl _)] at HS
          clear hS
          generalize clsL k x n zs = L at *
          have hrow : Ints wr .i64 (some ⟨w4.heap.size, 0, none⟩) (cntL n L) := fun _ => ⟨w4.heap.size, 0, rfl, fun i u hu => by rw [Nat.zero_add, HS.out.wt.cell i, List.getElem?_toArray]; exact hu⟩
          have HR := Lib.hid hrow
          have HI := Lib.hid (Ints.below HI4.out HS.out.bl)
          clear hrow
          go_wp2_with fail
          refine (rsame_n _ _ _ _ (cntL n L) _ HI.out HR.out HCL.out (by omega)).mono ?_; rintro e w5 ⟨rfl, b5⟩
          go_wp2_with fail
          refine (awake09 _).mono ?_; rintro e w6 ⟨rfl, b6⟩
          go_wp2_with fail
          go_ret
          exact ⟨rfl, (H4.out.below ((HS.out.below b5).below b6).bl).bl⟩
    · have PZ := Lib.hid (fun w => rright_no c r w hR)
      clear hR
      go_enter Try.func5, Try.ntmps5
      have c0 := O0.out.cell 0
      have c1 := O0.out.cell 1
      have c2 := O0.out.cell 2
      go_wp2_with fail
      refine (PZ.out _).mono ?_; rintro e w' ⟨rfl, rfl⟩
      go_wp2_with fail
      refine (awake09 _).mono ?_; rintro e w1 ⟨rfl, b1⟩
      go_wp2_with fail
      go_ret
      exact ⟨rfl, B0.out.trans (b1.mono B0.out.size)⟩
end Go.Proofs.Ytjppoiplcfifcaa
