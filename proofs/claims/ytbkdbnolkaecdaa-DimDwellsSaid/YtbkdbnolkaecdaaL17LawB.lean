/-
  The walk of the law DimDwells.
-/
import Derived.Test.YtbkdbnolkaecdaaRef17
namespace Go.Proofs.Ytbkdbnolkaecdaa
open Go.RowKit Bd Dm
theorem low7 : ∀ z : Fin 256, 0 ≤ wrap64 (bits BinOp.and IntKind.u8 (z.val : Int) 7) ∧ wrap64 (bits BinOp.and IntKind.u8 (z.val : Int) 7) ≤ 7 := by decide +kernel
theorem low7i (z : Int) (h0 : 0 ≤ z) (h1 : z ≤ 255) : 0 ≤ wrap64 (bits BinOp.and IntKind.u8 z 7) ∧ wrap64 (bits BinOp.and IntKind.u8 z 7) ≤ 7 := by
  have := low7 ⟨z.toNat, by omega⟩
  rwa [show ((⟨z.toNat, by omega⟩ : Fin 256).val : Int) = z from by simp; omega] at this
theorem dgo_cases (a t h v k : Int) (o : Bool) : (dI a t h v k o = false ∧ dT a t h v k o = t ∧ dH a t h v k o = addC h 1) ∨
    (k ≤ addC h 1 ∧ dI a t h v k o = true ∧ dH a t h v k o = 0 ∧ ((v = 1 ∧ dT a t h v k o = t - 1 ∧ 0 < t) ∨ (v = 2 ∧ o = true ∧ dT a t h v k o = t + 1 ∧ t < a))) := by
  have stays : dgo a t h v k o = 0 → dI a t h v k o = false ∧ dT a t h v k o = t ∧ dH a t h v k o = addC h 1 := fun e => ⟨by unfold dI; simp [e], by unfold dT; omega, by unfold dH; rw [if_pos e]⟩
  by_cases hk : addC h 1 < k
  · exact Or.inl (stays (by unfold dgo; rw [if_pos hk]))
  · by_cases v1 : v = 1
    · by_cases ht : 0 < t
      · have e : dgo a t h v k o = -1 := by unfold dgo; rw [if_neg hk, if_pos v1, if_pos ht]
        exact Or.inr ⟨by omega, by unfold dI; simp [e], by unfold dH; rw [e]; rfl, Or.inl ⟨v1, by unfold dT; omega, ht⟩⟩
      · exact Or.inl (stays (by unfold dgo; rw [if_neg hk, if_pos v1, if_neg ht]))
    · by_cases hc : v = 2 ∧ o = true ∧ t < a
      · have e : dgo a t h v k o = 1 := by unfold dgo; rw [if_neg hk, if_neg v1, if_pos hc]
        exact Or.inr ⟨by omega, by unfold dI; simp [e], by unfold dH; rw [e]; rfl, Or.inr ⟨hc.1, hc.2.1, by unfold dT; omega, hc.2.2⟩⟩
      · exact Or.inl (stays (by unfold dgo; rw [if_neg hk, if_neg v1, if_neg hc]))
set_option maxRecDepth 100000 in
set_option maxHeartbeats 4000000 in
theorem w_DimDwells (w : World) (m : Int) (hm : (Lit.int .u8 m).wf = true) (ad : Option Addr) (cap : Nat) (zs : List Int) (hz : Ints w .u8 ad zs) (hl : zs.length ≤ maxLen) (hwf : ∀ n ∈ zs, (Lit.int .u8 n).wf = true) (d : Int) (_ : (Lit.int .i64 d).wf = true) :
    Calls Try.prog 4 #[.int .u8 m, .slice ad zs.length cap, .int .i64 d] w fun e w' => e = .returned (.bool true) ∧ Below w.heap.size w w' := by
  unfold maxLen at hl
  have HZ := Lib.hid hz
  have HW := Lib.hid hwf
  clear hz hwf
  by_cases hg : 200 < zs.length
  · go_enter Try.func4, Try.ntmps4
    go_wp2_with fail
    refine (awake17 _).mono ?_; rintro e w1 ⟨rfl, b1⟩
    go_wp2_with fail
    go_ret
    exact ⟨rfl, b1⟩
  · have hd2 : decide (200 < (zs.length : Int)) = false := by simp; omega
    simp only [Lit.wf, Bool.and_eq_true, decide_eq_true_eq] at hm
    have hb := low7i m hm.1 hm.2
    have hn0 := hb.1
    have hn1 := hb.2
    clear hb hm
    go_enter Try.func4, Try.ntmps4
    go_wp2_with fail
    generalize wrap64 (bits BinOp.and IntKind.u8 m 7) = n at *
    refine (dnew_any n hn0 hn1 _).mono ?_; rintro e w1 ⟨rfl, d1, b1⟩
    have D0 := Lib.hid d1
    have B0 := Lib.hid b1
    clear d1 b1
    go_wp2_with fail
    go_loopw [10, 11, 12] (fun x y i wr => ∃ (k : Nat) (la t h : Int), k ≤ zs.length ∧ i = .int .i64 k ∧ x = .int .i64 la ∧ y = .int .i64 t ∧ -1 ≤ la ∧ la < k ∧ Inv n t h ∧ (0 ≤ la → la + 1 + h = k) ∧ Dst wr w.heap.size n t h true ∧ Below w.heap.size w wr) (fun _ _ i _ => zs.length - (intOf i).toNat)
    case atStart => exact ⟨0, -1, n, 32, Nat.zero_le _, rfl, rfl, rfl, by decide, by decide, inv_new n hn0 hn1, fun h => absurd h (by decide), D0.out, B0.out⟩
    case round =>
      obtain ⟨k, la, t, h, hk, rfl, rfl, rfl, hf0, hf1, hi, hs, ht, hb⟩ := hrel
      have HI := Lib.hid hi
      have HS := Lib.hid hs
      have D1 := Lib.hid ht
      have B1 := Lib.hid hb
      have i1 := hi.1
      have i2 := hi.2.1
      clear hi hs ht
      by_cases hlt : k < zs.length
      · obtain ⟨b, off, ha, hc⟩ := (HZ.out.below hb).get hlt
        subst ha
        have hzw := HW.out zs[k] (List.getElem_mem _)
        generalize zs[k] = z at *
        simp only [Lit.wf, Bool.and_eq_true, decide_eq_true_eq] at hzw
        have z1 : 0 ≤ z := hzw.1
        have z2 : z ≤ 255 := hzw.2
        clear hb hzw
        go_wp2_with fail
        go_quiet (fail)
        go_wp2_with fail
        generalize wrap64 (bits BinOp.and IntKind.u8 z 3) = v
        generalize (bits BinOp.and IntKind.u8 z 4 != 0) = o
        refine (dstep_any v o d _ (show Dst (wr.drewN _) w.heap.size n t h true from D1.out) HI.out).mono ?_; rintro e w2 ⟨rfl, d2, o2⟩
        have B2 := Lib.hid (below_only (bl_drewN B1.out _) o2 B1.out.size (Nat.le_refl _))
        have D2 := Lib.hid d2
        have HI2 := Lib.hid (inv_step n t h v d o HI.out)
        have hcs := dgo_cases n t h v d o
        have hadd : 0 ≤ la → addC h 1 = h + 1 := fun q => addC_id _ _ HI.out.2.2.2.1 (by decide) (by have := HS.out q; omega)
        generalize dI n t h v d o = ii at *
        generalize dT n t h v d o = nt at *
        generalize dH n t h v d o = nh at *
        have HA := Lib.hid hadd
        clear d2 o2 hadd hc
        rcases hcs with ⟨rfl, rfl, rfl⟩ | ⟨hd, rfl, rfl, ⟨rfl, rfl, hv⟩ | ⟨rfl, rfl, rfl, hv⟩⟩
        · go_wp2_with fail
          refine (dtier_any _ D2.out).mono ?_; rintro e w' ⟨rfl, rfl⟩
          go_wp2_with fail
          go_roundw
          case rel => exact ⟨k + 1, la, nt, _, by omega, by go_num, rfl, rfl, hf0, by omega, HI2.out, fun q => by rw [HA.out q]; have := HS.out q; omega, D2.out, B2.out⟩
          case measure => simp [intOf]; omega
        · have hne : ((t - 1) != t) = true := by simp; omega
          have hgap : 0 ≤ la → d ≤ (k : Int) - la := fun q => by have := HS.out q; have := HA.out q; omega
          have HG := Lib.hid hgap
          clear hgap
          by_cases hla : 0 ≤ la
          · have hg2 : d ≤ (k : Int) - la := HG.out hla
            go_wp2_with fail
            refine (dtier_any _ D2.out).mono ?_; rintro e w' ⟨rfl, rfl⟩
            go_wp2_with fail
            all_goals first
              | (exfalso; omega)
              | (go_roundw
                 case rel => exact ⟨k + 1, k, _, _, by omega, by go_num, rfl, rfl, by omega, by omega, HI2.out, fun q => by omega, D2.out, B2.out⟩
                 case measure => simp [intOf]; omega)
          · obtain rfl : la = -1 := by omega
            clear hla
            go_wp2_with fail
            refine (dtier_any _ D2.out).mono ?_; rintro e w' ⟨rfl, rfl⟩
            go_wp2_with fail
            all_goals first
              | (exfalso; omega)
              | (go_roundw
                 case rel => exact ⟨k + 1, k, _, _, by omega, by go_num, rfl, rfl, by omega, by omega, HI2.out, fun q => by omega, D2.out, B2.out⟩
                 case measure => simp [intOf]; omega)
        · have hne : ((t + 1) != t) = true := by simp; omega
          have hgap : 0 ≤ la → d ≤ (k : Int) - la := fun q => by have := HS.out q; have := HA.out q; omega
          have HG := Lib.hid hgap
          clear hgap
          by_cases hla : 0 ≤ la
          · have hg2 : d ≤ (k : Int) - la := HG.out hla
            go_wp2_with fail
            refine (dtier_any _ D2.out).mono ?_; rintro e w' ⟨rfl, rfl⟩
            go_wp2_with fail
            all_goals first
              | (exfalso; omega)
              | (go_roundw
                 case rel => exact ⟨k + 1, k, _, _, by omega, by go_num, rfl, rfl, by omega, by omega, HI2.out, fun q => by omega, D2.out, B2.out⟩
                 case measure => simp [intOf]; omega)
          · obtain rfl : la = -1 := by omega
            clear hla
            go_wp2_with fail
            refine (dtier_any _ D2.out).mono ?_; rintro e w' ⟨rfl, rfl⟩
            go_wp2_with fail
            all_goals first
              | (exfalso; omega)
              | (go_roundw
                 case rel => exact ⟨k + 1, k, _, _, by omega, by go_num, rfl, rfl, by omega, by omega, HI2.out, fun q => by omega, D2.out, B2.out⟩
                 case measure => simp [intOf]; omega)
      · have HB := Lib.hid hb
        clear hb
        go_wp2_with fail
        refine (awake17 _).mono ?_; rintro e w2 ⟨rfl, b2⟩
        go_wp2_with fail
        go_ret
        exact ⟨rfl, HB.out.trans (b2.mono HB.out.size)⟩
end Go.Proofs.Ytbkdbnolkaecdaa
