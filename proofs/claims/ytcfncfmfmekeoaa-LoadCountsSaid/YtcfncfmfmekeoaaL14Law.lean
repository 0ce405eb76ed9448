/-
  The walk of the law LoadMean.
-/
import Derived.Test.YtcfncfmfmekeoaaRef14
import Derived.Deep.CutRange
namespace Go.Proofs.Ytcfncfmfmekeoaa
open Go.RowKit Bd Ld
theorem awake14 (w : World) :
    Calls Try.prog 5 #[] w fun e w' => e = .returned (.bool true) ∧ Below w.heap.size w w' := by
  have s1 := Lib.hid (show addC 0 1 = 1 ∧ addC 1 1 = 2 ∧ addC 2 1 = 3 ∧ addC 0 4 = 4 ∧ addC 4 5 = 9 ∧ addC 9 9 = 18 ∧ worC (worC (worC 0 4) 5) 9 = 9 by decide +kernel)
  have s2 := Lib.hid (show meanC 18 3 = 6 ∧ judC 6 3 5 = 1 ∧ judC 6 3 6 = 0 ∧ judC 6 7 8 = 2 by decide +kernel)
  go_enter Try.func5, Try.ntmps5
  go_wp2_with fail
  refine (lnew_any _).mono ?_; rintro e w1 ⟨rfl, t1, b1⟩
  go_wp2_with fail
  refine (lwait_any 4 _ t1).mono ?_; rintro e w2 ⟨rfl, t2, o2⟩
  rw [s1.out.1, s1.out.2.2.2.1] at t2
  go_wp2_with fail
  refine (lwait_any 5 _ t2).mono ?_; rintro e w3 ⟨rfl, t3, o3⟩
  rw [s1.out.2.1, s1.out.2.2.2.2.1] at t3
  go_wp2_with fail
  refine (lwait_any 9 _ t3).mono ?_; rintro e w4 ⟨rfl, t4, o4⟩
  rw [s1.out.2.2.1, s1.out.2.2.2.2.2.1, s1.out.2.2.2.2.2.2] at t4
  have B4 := Lib.hid (below_only b1 (only_trans (only_trans o2 o3) o4) b1.size (Nat.le_refl _))
  have T4 := Lib.hid t4
  clear t1 b1 t2 o2 t3 o3 t4 o4
  go_wp2_with fail
  refine (lmean_any _ T4.out).mono ?_; rintro e w5 ⟨rfl, b5⟩
  rw [s2.out.1]
  have T5 := Lib.hid (T4.out.below b5)
  go_wp2_with fail
  refine (lverdict_any 3 5 _ T5.out).mono ?_; rintro e w6 ⟨rfl, b6⟩
  rw [s2.out.1, s2.out.2.1]
  have T6 := Lib.hid (T5.out.below b6)
  go_wp2_with fail
  refine (lverdict_any 3 6 _ T6.out).mono ?_; rintro e w7 ⟨rfl, b7⟩
  rw [s2.out.1, s2.out.2.2.1]
  have T7 := Lib.hid (T6.out.below b7)
  go_wp2_with fail
  refine (lverdict_any 7 8 _ T7.out).mono ?_; rintro e w8 ⟨rfl, b8⟩
  rw [s2.out.1, s2.out.2.2.2]
  have T8 := Lib.hid (T7.out.below b8)
  go_wp2_with fail
  refine (lmany_any _ T8.out).mono ?_; rintro e w' ⟨rfl, rfl⟩
  go_wp2_with fail
  go_ret
  exact ⟨rfl, B4.out.trans ((below3 b5 (below3 b6 (below3 b7 b8))).mono B4.out.size)⟩
theorem mask_b (z : Int) : 0 ≤ bits BinOp.and IntKind.u32 z 1048575 ∧ bits BinOp.and IntKind.u32 z 1048575 ≤ 1048575 := by
  have h : ((BitVec.ofInt 32 z) &&& (BitVec.ofInt 32 1048575)).toNat ≤ 1048575 := by
    rw [BitVec.toNat_and]
    exact Nat.le_trans Nat.and_le_right (by decide)
  show 0 ≤ IntKind.u32.wrap (((BitVec.ofInt 32 z) &&& (BitVec.ofInt 32 1048575)).toNat : Int) ∧ IntKind.u32.wrap (((BitVec.ofInt 32 z) &&& (BitVec.ofInt 32 1048575)).toNat : Int) ≤ 1048575
  generalize ((BitVec.ofInt 32 z) &&& (BitVec.ofInt 32 1048575)).toNat = m at *
  have e : IntKind.u32.wrap (m : Int) = m := by rw [IntKind.wrap_u32]; omega
  rw [e]
  omega
/-- What LoadMean knows behind k waits: the sum, the greatest and the least. -/
structure Mid14 (k S W L : Int) : Prop where
  k0 : 0 ≤ k
  s0 : 0 ≤ S
  s1 : S ≤ k * 1048575
  w0 : 0 ≤ W
  w1 : W ≤ 1048575
  l0 : 0 ≤ L
  l1 : L ≤ 1048576
  lo : L * k ≤ S
  hi : S ≤ W * k
theorem mid0 : Mid14 0 0 0 1048576 := ⟨by decide, by decide, by decide, by decide, by decide, by decide, by decide, by decide, by decide⟩
theorem mid_step {k S W L W' L' n : Int} (h : Mid14 k S W L) (n0 : 0 ≤ n) (n1 : n ≤ 1048575) (hW : W' = worC W n) (hL : L' ≤ L ∧ L' ≤ n ∧ 0 ≤ L') : Mid14 (k + 1) (S + n) W' L' := by
  obtain ⟨k0, s0, s1, w0, w1, l0, l1, lo, hi⟩ := h
  have e : kp n cMost = n := kp_id _ _ n0 (by unfold cMost; omega)
  have hw : W ≤ W' ∧ n ≤ W' ∧ W' ≤ 1048575 := by rw [hW]; unfold worC; rw [e]; split <;> omega
  have p1 := Int.mul_le_mul_of_nonneg_right hL.1 k0
  have p2 := Int.mul_le_mul_of_nonneg_right hw.1 k0
  refine ⟨by omega, by omega, by omega, by omega, by omega, by omega, by omega, ?_, ?_⟩
  · rw [Int.mul_add]; omega
  · rw [Int.mul_add]; omega
theorem mean_mid {k S W L : Int} (h : Mid14 k S W L) (hk : 0 < k) (hk2 : k ≤ 100) : ∃ m : Int, meanC S k = m ∧ L ≤ m ∧ m ≤ W ∧ m * k ≤ S ∧ S < (m + 1) * k ∧ 0 ≤ m ∧ 0 ≤ m * k ∧ (m + 1) * k ≤ 200000000 := by
  obtain ⟨k0, s0, s1, w0, w1, l0, l1, lo, hi⟩ := h
  have e1 : kp S cMost = S := kp_id _ _ s0 (by unfold cMost; omega)
  have e2 : kp k cMost = k := kp_id _ _ k0 (by unfold cMost; omega)
  have e : meanC S k = S / k := by unfold meanC divZ; rw [e1, e2, if_neg (by omega)]
  have a1 : S / k * k ≤ S := Int.ediv_mul_le S (by omega)
  have a2 : S < (S / k + 1) * k := Int.lt_ediv_add_one_mul_self S hk
  have a3 : 0 ≤ S / k := Int.ediv_nonneg s0 k0
  have a4 : 0 ≤ S / k * k := Int.mul_nonneg a3 k0
  refine ⟨S / k, e, Int.le_ediv_of_mul_le hk lo, Int.ediv_le_of_le_mul hk hi, a1, a2, a3, a4, ?_⟩
  rw [Int.add_mul]; omega
set_option maxHeartbeats 4000000 in
theorem w_LoadMean (w : World) (a : Option Addr) (cap : Nat) (zs : List Int) (hz : Ints w .u32 a zs) (hl : zs.length ≤ maxLen) (_ : ∀ n ∈ zs, (Lit.int .u32 n).wf = true) (d : Int) (hd : (Lit.int .u16 d).wf = true) :
    Calls Try.prog 4 #[.slice a zs.length cap, .int .u16 d] w fun e w' => e = .returned (.bool true) ∧ Below w.heap.size w w' := by
  unfold maxLen at hl
  have HZ := Lib.hid hz
  clear hz
  simp only [Lit.wf, Bool.and_eq_true, decide_eq_true_eq] at hd
  have d1 : 0 ≤ d := hd.1
  have d2 : d ≤ 65535 := hd.2
  clear hd
  by_cases hg : 100 < zs.length
  · go_enter Try.func4, Try.ntmps4
    go_wp2_with fail
    refine (awake14 _).mono ?_; rintro e w1 ⟨rfl, b1⟩
    go_wp2_with fail
    go_ret
    exact ⟨rfl, b1⟩
  · have hd2 : decide (100 < (zs.length : Int)) = false := by simp; omega
    have hj : judC (meanC 0 0) 0 d = 0 := by
      rw [show meanC 0 0 = 0 by decide +kernel]; unfold judC; rw [if_neg (by omega), if_neg (by omega)]
    go_enter Try.func4, Try.ntmps4
    go_wp2_with fail
    refine (lnew_any _).mono ?_; rintro e w1 ⟨rfl, t1, b1⟩
    have T0 := Lib.hid t1
    have B0 := Lib.hid b1
    clear t1 b1
    go_wp2_with fail
    refine (lverdict_any _ _ _ T0.out).mono ?_; rintro e w2 ⟨rfl, b2⟩
    rw [hj]
    have T1 := Lib.hid (T0.out.below b2)
    have B1 := Lib.hid (B0.out.trans (b2.mono B0.out.size))
    clear b2 T0 B0 hj
    go_wp2_with fail
    go_loopw [6, 7] (fun l i wr => ∃ (k : Nat) (S W L : Int), k ≤ zs.length ∧ i = .int .i64 k ∧ l = .int .i64 L ∧ Mid14 k S W L ∧ Lst wr w.heap.size k S W ∧ Below w.heap.size w wr) (fun _ i _ => zs.length - (intOf i).toNat)
    case atStart => exact ⟨0, 0, 0, 1048576, Nat.zero_le _, rfl, rfl, mid0, T1.out, B1.out⟩
    case round =>
      obtain ⟨k, S, W, L, hk, rfl, rfl, hi, ht, hb⟩ := hrel
      have HI := Lib.hid hi
      have T2 := Lib.hid ht
      have B2 := Lib.hid hb
      clear hi ht
      by_cases hlt : k < zs.length
      · obtain ⟨b, off, ha, hc⟩ := (HZ.out.below hb).get hlt
        subst ha
        clear hb
        go_wp2_with fail
        have hmb : 0 ≤ wrap64 (bits BinOp.and IntKind.u32 zs[k] 1048575) ∧ wrap64 (bits BinOp.and IntKind.u32 zs[k] 1048575) ≤ 1048575 := by
          have := mask_b zs[k]
          rw [IntWalk.wrap64_in _ (by omega)]
          exact this
        generalize wrap64 (bits BinOp.and IntKind.u32 zs[k] 1048575) = n at *
        clear hc
        refine (lwait_any n _ T2.out).mono ?_; rintro e w3 ⟨rfl, t3, o3⟩
        have q1 := HI.out.s0
        have q2 := HI.out.s1
        rw [addC_id (k : Int) 1 (by omega) (by decide) (by omega), addC_id S n (by omega) hmb.1 (by omega)] at t3
        have T3 := Lib.hid t3
        have B3 := Lib.hid (below_only B2.out o3 B2.out.size (Nat.le_refl _))
        clear t3 o3
        go_upto_region 12 with (fail)
        go_cut [6] from 19 to 68 (fun l wx => ∃ L' : Int, l = .int .i64 L' ∧ L' ≤ L ∧ L' ≤ n ∧ 0 ≤ L' ∧ wx = w3)
        case first =>
          have hL0 := HI.out.l0
          by_cases hL : L ≤ n
          · go_wp2_with fail
            all_goals
              go_meet
              exact ⟨L, rfl, by omega, by omega, by omega, rfl⟩
          · have hL : n < L := by omega
            go_wp2_with fail
            all_goals
              go_meet
              exact ⟨n, rfl, by omega, by omega, by omega, rfl⟩
        case rest =>
          obtain ⟨L', rfl, l1, l2, l3, rfl⟩ := hcut
          have HM2 := Lib.hid (mid_step (L' := L') HI.out hmb.1 hmb.2 rfl ⟨l1, l2, l3⟩)
          have hmm := mean_mid HM2.out (by omega) (by omega)
          obtain ⟨m, hm, m1, m2, m3, m4, m5, m6, m7⟩ := hmm
          have s1 := HM2.out.s0
          have s2 := HM2.out.s1
          have HC : Hid (∀ W' : World, Lst W' w.heap.size ((k : Int) + 1) (S + n) (worC W n) → Calls Try.prog 13 #[.pointer (some ⟨w.heap.size, 0, none⟩)] W' fun e w' => e = .returned (.int .i64 m) ∧ Below W'.heap.size W' w') := Lib.hid (fun W' h => by rw [← hm]; exact lmean_any W' h)
          clear hm l1 l2 l3 HI
          generalize worC W n = nw at *
          generalize S + n = ns at *
          go_upto_region 13 with (fail)
          go_cut [68] from 19 to 68 (fun s wx => s = .bool false ∧ Lst wx w.heap.size ((k : Int) + 1) ns nw ∧ Below w.heap.size w wx)
          case first =>
            go_wp2_with fail
            refine (HC.out _ T3.out).mono ?_; rintro e w4 ⟨rfl, b4⟩
            have T4 := Lib.hid (T3.out.below b4)
            go_wp2_with fail
            refine (HC.out _ T4.out).mono ?_; rintro e w5 ⟨rfl, b5⟩
            have T5 := Lib.hid (T4.out.below b5)
            go_wp2_with fail
            refine (lworst_any _ T5.out).mono ?_; rintro e w' ⟨rfl, rfl⟩
            go_wp2_with fail
            refine (HC.out _ T5.out).mono ?_; rintro e w6 ⟨rfl, b6⟩
            have T6 := Lib.hid (T5.out.below b6)
            go_wp2_with fail
            refine (lmany_any _ T6.out).mono ?_; rintro e w' ⟨rfl, rfl⟩
            go_wp2_with fail
            refine (lsum_any _ T6.out).mono ?_; rintro e w' ⟨rfl, rfl⟩
            go_wp2_with fail
            refine (HC.out _ T6.out).mono ?_; rintro e w7 ⟨rfl, b7⟩
            have T7 := Lib.hid (T6.out.below b7)
            go_wp2_with fail
            refine (lmany_any _ T7.out).mono ?_; rintro e w' ⟨rfl, rfl⟩
            go_wp2_with fail
            refine (lsum_any _ T7.out).mono ?_; rintro e w' ⟨rfl, rfl⟩
            go_wp2_with fail
            go_meet
            have r2 := HM2.out.w1
            have e1 : wrap64 (m + 1) = m + 1 := IntWalk.wrap64_in _ (by omega)
            have e2 : wrap64 ((m + 1) * ((k : Int) + 1)) = (m + 1) * ((k : Int) + 1) := IntWalk.wrap64_in _ (by omega)
            have f1 : decide (m < L') = false := decide_eq_false (by omega)
            have f2 : decide (nw < m) = false := decide_eq_false (by omega)
            have f3 : decide (ns < m * ((k : Int) + 1)) = false := decide_eq_false (by omega)
            have f4 : decide ((m + 1) * ((k : Int) + 1) ≤ ns) = false := decide_eq_false (by omega)
            exact ⟨by rw [e1, e2, f1, f2, f3, f4]; rfl, T7.out, B3.out.trans ((below3 b4 (below3 b5 (below3 b6 b7))).mono B3.out.size)⟩
          case rest =>
            obtain ⟨rfl, t7, b7⟩ := hcut
            have T7 := Lib.hid t7
            have B7 := Lib.hid b7
            clear t7 b7
            go_wp2_with fail
            go_roundw
            case rel => exact ⟨k + 1, ns, nw, L', by omega, by go_num, rfl, HM2.out, T7.out, B7.out⟩
            case measure => simp [intOf]; omega
      · clear hb
        obtain rfl : k = zs.length := by omega
        go_wp2_with fail
        refine (lmany_any _ T2.out).mono ?_; rintro e w' ⟨rfl, rfl⟩
        go_wp2_with fail
        refine (awake14 _).mono ?_; rintro e w2 ⟨rfl, b2⟩
        go_wp2_with fail
        go_ret
        exact ⟨rfl, B2.out.trans (b2.mono B2.out.size)⟩
end Go.Proofs.Ytcfncfmfmekeoaa
