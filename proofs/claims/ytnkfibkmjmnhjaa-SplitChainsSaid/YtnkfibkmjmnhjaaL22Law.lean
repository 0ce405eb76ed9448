/-
  The walks of the laws of layer 22.
-/
import Derived.Test.YtnkfibkmjmnhjaaRef22
import Derived.Test.YtnkfibkmjmnhjaaAgg
import Derived.Deep.RegionHeld3
namespace Go.Proofs.Ytnkfibkmjmnhjaa
open Go.RowKit Bd Sp
theorem awake22 (w : World) :
    Calls Try.prog 12 #[] w fun e w' => e = .returned (.bool true) ∧ Below w.heap.size w w' := by
  have a1 := Lib.hid (show callD 10 30 4 100 = 20 ∧ callW 10 30 4 100 = 5 ∧ callOk 10 30 4 100 = true by decide +kernel)
  have a2 := Lib.hid (show callOk 10 12 4 100 = false by decide +kernel)
  have hc : chainL 10 30 [4, 4] = [20, 15] := by decide +kernel
  have hch := fun a w (h : Ints w .i64 a [4, 4]) => chain_any 10 30 a 2 [4, 4] w h (by decide)
  rw [hc] at hch
  have HC := Lib.hid hch
  clear hc hch
  go_enter Try.func12, Try.ntmps12
  go_wp2_with fail
  refine (call_any _ _ _ _ _).mono ?_; rintro e w1 ⟨rfl, b1⟩
  rw [a1.out.1, a1.out.2.1, a1.out.2.2]
  go_wp2_with fail
  refine (call_any _ _ _ _ _).mono ?_; rintro e w2 ⟨rfl, b2⟩
  rw [a2.out]
  go_wp2_with fail
  refine (HC.out _ _ (lit_row _ _ _)).mono ?_; rintro e w3 ⟨a, cap, rfl, hi, b3⟩
  go_wp2_with fail
  refine (rsame_eq _ _ _ _ [20, 15] _ (hi.below ((Below.refl _ _).alloc (Nat.le_refl _) _)) (lit_row _ _ _) (by decide)).mono ?_; rintro e w4 ⟨rfl, b4⟩
  go_wp2_with fail
  go_ret
  have b3' := ((Below.refl w2.heap.size w2).alloc (Nat.le_refl _) _).trans (b3.mono (by simp))
  have b4' := ((Below.refl w3.heap.size w3).alloc (Nat.le_refl _) _).trans (b4.mono (by simp))
  exact ⟨rfl, (below3 (below3 (below3 b1 b2) b3') b4')⟩
set_option maxHeartbeats 1000000 in
theorem w_SplitCalls (w : World) (t0 t1 : Int) (_ : (Lit.int .i64 t0).wf = true) (_ : (Lit.int .i64 t1).wf = true) (v : Int) (_ : (Lit.int .i64 v).wf = true) (m : Int) (_ : (Lit.int .i64 m).wf = true) :
    Calls Try.prog 3 #[.agg #[.int .i64 t0, .int .i64 t1], .int .i64 v, .int .i64 m] w fun e w' => e = .returned (.bool true) ∧ Below w.heap.size w w' := by
  go_enter Try.func3, Try.ntmps3
  go_wp2_with fail
  have hbk := Bk.new w 22 #[.int .i64 t0, .int .i64 t1]
  have at0 := Lib.hid (fun (W : World) (hW : Below (w.heap.size + 1) (w.alloc (.cells #[.int .i64 t0, .int .i64 t1] 22)) W) => (hW.cell (p := ⟨w.heap.size, 0, none⟩) (by simp)).trans (hbk.cell 0))
  have at1 := Lib.hid (fun (W : World) (hW : Below (w.heap.size + 1) (w.alloc (.cells #[.int .i64 t0, .int .i64 t1] 22)) W) => (hW.cell (p := ⟨w.heap.size, 1, none⟩) (by simp)).trans (hbk.cell 1))
  have hBa := Lib.hid (show w.heap.size + 1 ≤ (w.alloc (.cells #[.int .i64 t0, .int .i64 t1] 22)).heap.size by simp)
  clear hbk
  refine (call_any _ _ _ _ _).mono ?_; rintro e w1 ⟨rfl, b1⟩
  have c0 := at0.out w1 (by simpa using b1)
  have c1 := at1.out w1 (by simpa using b1)
  go_wp2_with fail
  refine (rcall_any _ _ _ _ _).mono ?_; rintro e w' ⟨rfl, rfl⟩
  have bb : Below (w.heap.size + 1) (w.alloc (.cells #[.int .i64 t0, .int .i64 t1] 22)) w1.drew := by
    have h : Below (w.heap.size + 1) (w.alloc (.cells #[.int .i64 t0, .int .i64 t1] 22)) w1 := by simpa using b1
    exact h.drew
  clear b1
  go_wp2_with fail
  go_region_held3 (fun W => W.cell? ⟨w.heap.size, 0, none⟩ = some (.int .i64 t0) ∧ W.cell? ⟨w.heap.size, 1, none⟩ = some (.int .i64 t1)) (first | (go_keep; done) | exact ⟨at0.out _ (by assumption), at1.out _ (by assumption)⟩) (first
    | (go_at_call 8; refine (split_part_any _ _ _).mono ?_; rintro e w1 ⟨rfl, b1⟩; have bb := below_step hBa.out (by assumption) b1; clear b1)
    | (go_at_call 9; refine (rpart22_any _ _ _).mono ?_; rintro e w' ⟨rfl, rfl⟩)
    | (go_at_call 10; refine (hop_any _ _ _).mono ?_; rintro e w1 ⟨rfl, b1⟩; have bb := below_step hBa.out (by assumption) b1; clear b1)
    | (go_at_call 11; refine (rhop_any _ _ _).mono ?_; rintro e w' ⟨rfl, rfl⟩)
    | (go_at_call 12; refine (awake22 _).mono ?_; rintro e w1 ⟨rfl, b1⟩; have bb := below_step hBa.out (by assumption) b1; clear b1))
  go_wp2_with fail
  go_ret
  exact ⟨rfl, ((Below.refl _ _).alloc (Nat.le_refl _) _).trans (bb.mono (by omega))⟩
set_option maxHeartbeats 2000000 in
theorem w_SplitWithin (w : World) (t0 t1 : Int) (_ : (Lit.int .i64 t0).wf = true) (_ : (Lit.int .i64 t1).wf = true) (v0 v1 : Int) (_ : (Lit.int .i64 v0).wf = true) (_ : (Lit.int .i64 v1).wf = true) (m : Int) (_ : (Lit.int .i64 m).wf = true) :
    Calls Try.prog 4 #[.agg #[.int .i64 t0, .int .i64 t1], .agg #[.int .i64 v0, .int .i64 v1], .int .i64 m] w fun e w' => e = .returned (.bool true) ∧ Below w.heap.size w w' := by
  have h0 := kt t0
  have h1 := kt t1
  have hN0 := h0.1
  have hN1 := h0.2
  have e0 : kp (kp t0 tMost) tMost = kp t0 tMost := kp_id _ _ h0.1 h0.2
  have e1 : kp (kp t1 tMost) tMost = kp t1 tMost := kp_id _ _ h1.1 h1.2
  have at0 := Lib.hid (fun (W : World) (hW : Below (w.heap.size + 2) ((w.alloc (.cells #[.int .i64 t0, .int .i64 t1] 22)).alloc (.cells #[.int .i64 v0, .int .i64 v1] 22)) W) => (show W.cell? ⟨w.heap.size + 1, 0, none⟩ = some (.int .i64 v0) from (hW.cell (p := ⟨w.heap.size + 1, 0, none⟩) (by simp)).trans (by simp)))
  have at1 := Lib.hid (fun (W : World) (hW : Below (w.heap.size + 2) ((w.alloc (.cells #[.int .i64 t0, .int .i64 t1] 22)).alloc (.cells #[.int .i64 v0, .int .i64 v1] 22)) W) => (show W.cell? ⟨w.heap.size + 1, 1, none⟩ = some (.int .i64 v1) from (hW.cell (p := ⟨w.heap.size + 1, 1, none⟩) (by simp)).trans (by simp)))
  have hk := (kb m).1
  have hk2 := (kb m).2
  cases hok : callOk (kp t0 tMost) (kp t1 tMost) v0 m with
  | false =>
    have hno := call_no _ _ _ _ hok
    have hc1 := call_any (kp t0 tMost) (kp t1 tMost) v0 m
    have hc2 := call_any (kp t0 tMost) (kp t1 tMost) v1 m
    rw [hno.1, hno.2, hok] at hc1
    generalize callD (kp t0 tMost) (kp t1 tMost) v1 m = D2 at hc2
    generalize callW (kp t0 tMost) (kp t1 tMost) v1 m = W2 at hc2
    generalize callOk (kp t0 tMost) (kp t1 tMost) v1 m = ok2 at hc2
    have H1 := Lib.hid hc1
    have H2 := Lib.hid hc2
    clear hc1 hc2 hno hok e0 e1 h0 h1
    go_enter Try.func4, Try.ntmps4
    go_wp2_with fail
    go_quiet (first | (go_at_call 13; exact quiet_left (rtick_any _ _)))
    go_wp2_with fail
    refine (H1.out _).mono ?_; rintro e w1 ⟨rfl, b1⟩
    have B1 := Lib.hid ((bl_drewN (Below.refl (w.heap.size + 2) ((w.alloc (.cells #[.int .i64 t0, .int .i64 t1] 22)).alloc (.cells #[.int .i64 v0, .int .i64 v1] 22))) _).trans (b1.mono (by simp)))
    have c1 := at1.out _ B1.out
    clear b1
    go_wp2_with fail
    refine (H2.out _).mono ?_; rintro e w2 ⟨rfl, b2⟩
    have B2 := Lib.hid (B1.out.trans (b2.mono (Nat.le_trans (by simp) B1.out.size)))
    clear b2 c1
    have c0 := at0.out _ B2.out
    have c1 := at1.out _ B2.out
    go_wp2_with fail
    all_goals
      refine (awake22 _).mono ?_; rintro e w3 ⟨rfl, b3⟩
      go_wp2_with fail
      go_ret
      have hB0 := ((Below.refl w.heap.size w).alloc (Nat.le_refl _) (.cells #[.int .i64 t0, .int .i64 t1] 22)).alloc (by simp) (.cells #[.int .i64 v0, .int .i64 v1] 22)
      have hB2 := hB0.trans (B2.out.mono (by omega))
      exact ⟨rfl, hB2.trans (b3.mono hB2.size)⟩
  | true =>
    have hin := call_in _ _ _ _ hok
    rw [e0, e1] at hin
    have hc1 := call_any (kp t0 tMost) (kp t1 tMost) v0 m
    have hc2 := call_any (kp t0 tMost) (kp t1 tMost) v1 m
    rw [hok] at hc1
    by_cases hv : v0 ≤ v1
    · have hmo := call_mono _ (kp t1 tMost) v0 v1 m hv hok
      rw [hmo.1] at hc2
      generalize callD (kp t0 tMost) (kp t1 tMost) v1 m = D2 at *
      generalize callW (kp t0 tMost) (kp t1 tMost) v1 m = W2 at *
      generalize callD (kp t0 tMost) (kp t1 tMost) v0 m = D1 at *
      generalize callW (kp t0 tMost) (kp t1 tMost) v0 m = W1 at *
      have H1 := Lib.hid hc1
      have H2 := Lib.hid hc2
      obtain ⟨i1, i2, i3, i4, i5⟩ := hin
      obtain ⟨_, j1, j2⟩ := hmo
      have i6 : D1 ≤ 1099511627776 := Int.le_trans i1 h1.2
      clear hc1 hc2 hok e0 e1 h0 h1
      go_enter Try.func4, Try.ntmps4
      go_wp2_with fail
      go_quiet (first | (go_at_call 13; exact quiet_left (rtick_any _ _)))
      go_wp2_with fail
      refine (H1.out _).mono ?_; rintro e w1 ⟨rfl, b1⟩
      have B1 := Lib.hid ((bl_drewN (Below.refl (w.heap.size + 2) ((w.alloc (.cells #[.int .i64 t0, .int .i64 t1] 22)).alloc (.cells #[.int .i64 v0, .int .i64 v1] 22))) _).trans (b1.mono (by simp)))
      have c1 := at1.out _ B1.out
      clear b1
      go_wp2_with fail
      refine (H2.out _).mono ?_; rintro e w2 ⟨rfl, b2⟩
      have B2 := Lib.hid (B1.out.trans (b2.mono (Nat.le_trans (by simp) B1.out.size)))
      clear b2 c1
      have c0 := at0.out _ B2.out
      have c1 := at1.out _ B2.out
      go_wp2_with fail
      refine (rkeep_any _ 65535 _).mono ?_; rintro e w' ⟨rfl, rfl⟩
      go_wp2_with fail
      refine (awake22 _).mono ?_; rintro e w3 ⟨rfl, b3⟩
      go_wp2_with fail
      go_ret
      have hB0 := ((Below.refl w.heap.size w).alloc (Nat.le_refl _) (.cells #[.int .i64 t0, .int .i64 t1] 22)).alloc (by simp) (.cells #[.int .i64 v0, .int .i64 v1] 22)
      have hB2 := hB0.trans (B2.out.mono (by omega))
      exact ⟨rfl, hB2.trans (b3.mono hB2.size)⟩
    · generalize callD (kp t0 tMost) (kp t1 tMost) v1 m = D2 at hc2
      generalize callW (kp t0 tMost) (kp t1 tMost) v1 m = W2 at hc2
      generalize callOk (kp t0 tMost) (kp t1 tMost) v1 m = ok2 at hc2
      generalize callD (kp t0 tMost) (kp t1 tMost) v0 m = D1 at *
      generalize callW (kp t0 tMost) (kp t1 tMost) v0 m = W1 at *
      have H1 := Lib.hid hc1
      have H2 := Lib.hid hc2
      obtain ⟨i1, i2, i3, i4, i5⟩ := hin
      have i6 : D1 ≤ 1099511627776 := Int.le_trans i1 h1.2
      have hv' : v1 < v0 := by omega
      clear hc1 hc2 hok e0 e1 h0 h1 hv
      go_enter Try.func4, Try.ntmps4
      go_wp2_with fail
      go_quiet (first | (go_at_call 13; exact quiet_left (rtick_any _ _)))
      go_wp2_with fail
      refine (H1.out _).mono ?_; rintro e w1 ⟨rfl, b1⟩
      have B1 := Lib.hid ((bl_drewN (Below.refl (w.heap.size + 2) ((w.alloc (.cells #[.int .i64 t0, .int .i64 t1] 22)).alloc (.cells #[.int .i64 v0, .int .i64 v1] 22))) _).trans (b1.mono (by simp)))
      have c1 := at1.out _ B1.out
      clear b1
      go_wp2_with fail
      refine (H2.out _).mono ?_; rintro e w2 ⟨rfl, b2⟩
      have B2 := Lib.hid (B1.out.trans (b2.mono (Nat.le_trans (by simp) B1.out.size)))
      clear b2 c1
      have c0 := at0.out _ B2.out
      have c1 := at1.out _ B2.out
      go_wp2_with fail
      refine (rkeep_any _ 65535 _).mono ?_; rintro e w' ⟨rfl, rfl⟩
      go_wp2_with fail
      refine (awake22 _).mono ?_; rintro e w3 ⟨rfl, b3⟩
      go_wp2_with fail
      go_ret
      have hB0 := ((Below.refl w.heap.size w).alloc (Nat.le_refl _) (.cells #[.int .i64 t0, .int .i64 t1] 22)).alloc (by simp) (.cells #[.int .i64 v0, .int .i64 v1] 22)
      have hB2 := hB0.trans (B2.out.mono (by omega))
      exact ⟨rfl, hB2.trans (b3.mono hB2.size)⟩
set_option maxHeartbeats 1000000 in
theorem w_SplitChains (w : World) (now : Int) (_ : (Lit.int .i64 now).wf = true) (dl : Int) (_ : (Lit.int .i64 dl).wf = true) (a : Option Addr) (cap : Nat) (zs : List Int) (hz : Ints w .i64 a zs) (hl : zs.length ≤ maxLen) (_ : ∀ n ∈ zs, (Lit.int .i64 n).wf = true) :
    Calls Try.prog 5 #[.int .i64 now, .int .i64 dl, .slice a zs.length cap] w fun e w' => e = .returned (.bool true) ∧ Below w.heap.size w w' := by
  unfold maxLen at hl
  have HZ := Lib.hid hz
  clear hz
  by_cases hg : 60 < zs.length
  · go_enter Try.func5, Try.ntmps5
    go_wp2_with fail
    refine (awake22 _).mono ?_; rintro e w1 ⟨rfl, b1⟩
    go_wp2_with fail
    go_ret
    exact ⟨rfl, b1⟩
  · have hd : decide (60 < (zs.length : Int)) = false := by simp; omega
    have hfall := Lib.hid (chainL_falls now zs dl)
    have hcl := chainL_length now zs dl
    have HC := Lib.hid (fun W (h : Ints W .i64 a zs) => chain_any now dl a cap zs W h (by omega))
    have HR := Lib.hid (fun W (h : Ints W .i64 a zs) => rchain_any now dl a cap zs W h (by omega))
    go_enter Try.func5, Try.ntmps5
    go_wp2_with fail
    refine (HC.out _ HZ.out).mono ?_; rintro e w1 ⟨c, ccap, rfl, hci, b1⟩
    generalize chainL now dl zs = cs at *
    have HCI := Lib.hid hci
    have HB1 := Lib.hid b1
    clear hci b1
    go_wp2_with fail
    refine (rtick_any _ _).mono ?_; rintro e w' ⟨rfl, rfl⟩
    go_wp2_with fail
    go_loopw [8, 9] (fun l i wr => ∃ (k : Nat) (last : Int), k ≤ cs.length ∧ i = .int .i64 k ∧ l = .int .i64 last ∧ (kp dl tMost :: cs)[k]? = some last ∧ Below w1.heap.size w1 wr) (fun _ i _ => cs.length - (intOf i).toNat)
    case atStart => exact ⟨0, _, Nat.zero_le _, rfl, rfl, rfl, Below.refl _ _⟩
    case round =>
      obtain ⟨k, last, hk, rfl, rfl, hlast, hb⟩ := hrel
      have HB := Lib.hid hb
      by_cases hlt : k < cs.length
      · have hf := falls_at now cs _ hfall.out k hlt
        rw [List.getElem?_eq_getElem (by simp; omega)] at hlast
        injection hlast with hlast
        rw [hlast] at hf
        obtain ⟨b, off, ha, hc⟩ := (HCI.out.below hb).get hlt
        subst ha
        have hnx := Lib.hid (show (kp dl tMost :: cs)[k + 1]? = some cs[k] by simp [List.getElem?_eq_getElem hlt])
        obtain ⟨f1, f2⟩ := hf
        generalize cs[k] = v at *
        clear hlast hb
        go_wp2_with fail
        go_quiet (first | (go_at_call 13; exact quiet_left (rtick_any _ _)))
        go_wp2_with fail
        go_roundw
        case rel => exact ⟨k + 1, v, by omega, by go_num, rfl, hnx.out, bl_drewN HB.out _⟩
        case measure => simp [intOf]; omega
      · clear hlast hb
        go_wp2_with fail
        have B1 := Lib.hid (HB1.out.trans (HB.out.mono HB1.out.size))
        refine (HR.out _ (HZ.out.below B1.out)).mono ?_; rintro e w2 ⟨d, dcap, rfl, hdi, b2⟩
        have hci2 := Lib.hid ((HCI.out.below HB.out).below b2)
        have B2 := Lib.hid (B1.out.trans (b2.mono B1.out.size))
        have HD := Lib.hid hdi
        clear b2 hdi
        go_wp2_with fail
        refine (rsame_eq _ _ _ _ cs _ hci2.out HD.out (by omega)).mono ?_; rintro e w3 ⟨rfl, b3⟩
        have B3 := Lib.hid (B2.out.trans (b3.mono B2.out.size))
        clear b3
        go_wp2_with fail
        refine (awake22 _).mono ?_; rintro e w4 ⟨rfl, b4⟩
        go_wp2_with fail
        go_ret
        exact ⟨rfl, B3.out.trans (b4.mono B3.out.size)⟩
end Go.Proofs.Ytnkfibkmjmnhjaa
