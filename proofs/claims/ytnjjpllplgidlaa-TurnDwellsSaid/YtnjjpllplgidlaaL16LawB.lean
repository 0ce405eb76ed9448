/-
  The walk of the law TurnDwells.
-/
import Derived.Test.YtnjjpllplgidlaaL16Law
namespace Go.Proofs.Ytnjjpllplgidlaa
open Go.RowKit Bd Tu
/-- What the law keeps in mind: the way, and since when it is that. -/
def Since (way held fr k : Int) : Prop := way ≠ 0 → fr + held = k
theorem tN_cases (way held v d : Int) (hi : Inv way held) : (tN way held v d = 0 ∧ tW way held v d = way ∧ (way ≠ 0 → tH way held v d = addC held 1)) ∨
    ((v = 1 ∧ tN way held v d = -1 ∨ v = 2 ∧ tN way held v d = 1) ∧ ((tN way held v d = way ∧ tW way held v d = way ∧ tH way held v d = addC held 1) ∨ (tW way held v d = tN way held v d ∧ tH way held v d = 1 ∧ (way = 0 ∨ way = - tN way held v d ∧ d ≤ held)))) := by
  obtain ⟨i1, i2, i3, i4, i5⟩ := hi
  have hw : want v = 0 ∨ (v = 1 ∧ want v = -1) ∨ (v = 2 ∧ want v = 1) := by unfold want; split <;> (try split) <;> simp_all
  cases ht : turns way held v d with
  | true =>
    have hto := turns_of ht
    right
    have e1 : tN way held v d = want v := by rw [tN, if_pos ht]
    have e2 : tW way held v d = want v := by rw [tW, if_pos ht]
    have e3 : tH way held v d = 1 := by rw [tH, if_pos ht]
    rw [e1, e2, e3]
    refine ⟨by omega, Or.inr ⟨rfl, rfl, by omega⟩⟩
  | false =>
    have hto := turns_not ht
    have e2 : tW way held v d = way := by rw [tW, ht]; rfl
    rw [e2]
    by_cases hwv : want v = way
    · by_cases h0 : want v = 0
      · left
        have e1 : tN way held v d = 0 := by rw [tN, ht, if_neg (by decide), if_pos hwv, h0]
        exact ⟨e1, rfl, fun h => absurd (hwv.symm.trans h0) h⟩
      · right
        have e1 : tN way held v d = want v := by rw [tN, ht, if_neg (by decide), if_pos hwv]
        have e3 : tH way held v d = addC held 1 := by rw [tH, ht, if_neg (by decide), if_neg (by omega)]
        rw [e1, e3]
        exact ⟨by omega, Or.inl ⟨hwv, rfl, rfl⟩⟩
    · left
      have e1 : tN way held v d = 0 := by rw [tN, ht, if_neg (by decide), if_neg hwv]
      exact ⟨e1, rfl, fun h => by rw [tH, ht, if_neg (by decide), if_neg (by omega)]⟩
set_option maxHeartbeats 4000000 in
theorem w_TurnDwells (w : World) (a : Option Addr) (cap : Nat) (zs : List Int) (hz : Ints w .u8 a zs) (hl : zs.length ≤ maxLen) (hwf : ∀ n ∈ zs, (Lit.int .u8 n).wf = true) (d : Int) (_ : (Lit.int .i64 d).wf = true) :
    Calls Try.prog 4 #[.slice a zs.length cap, .int .i64 d] w fun e w' => e = .returned (.bool true) ∧ Below w.heap.size w w' := by
  unfold maxLen at hl
  have HZ := Lib.hid hz
  have HW := Lib.hid hwf
  clear hz hwf
  by_cases hg : 200 < zs.length
  · go_enter Try.func4, Try.ntmps4
    go_wp2_with fail
    refine (awake16 _).mono ?_; rintro e w1 ⟨rfl, b1⟩
    go_wp2_with fail
    go_ret
    exact ⟨rfl, b1⟩
  · have hd2 : decide (200 < (zs.length : Int)) = false := by simp; omega
    go_enter Try.func4, Try.ntmps4
    go_wp2_with fail
    refine (tnew_any _).mono ?_; rintro e w1 ⟨rfl, t1, b1⟩
    have T0 := Lib.hid t1
    have B0 := Lib.hid b1
    clear t1 b1
    go_wp2_with fail
    go_loopw [6, 7, 8] (fun x y i wr => ∃ (k : Nat) (way held fr : Int), k ≤ zs.length ∧ i = .int .i64 k ∧ x = .int .i64 way ∧ y = .int .i64 fr ∧ 0 ≤ fr ∧ fr ≤ k ∧ Inv way held ∧ Since way held fr k ∧ Tst wr w.heap.size way held ∧ Below w.heap.size w wr) (fun _ _ i _ => zs.length - (intOf i).toNat)
    case atStart => exact ⟨0, 0, 0, 0, Nat.zero_le _, rfl, rfl, rfl, Int.le_refl _, Int.le_refl _, inv0, fun h => absurd rfl h, T0.out, B0.out⟩
    case round =>
      obtain ⟨k, way, held, fr, hk, rfl, rfl, rfl, hf0, hf1, hi, hs, ht, hb⟩ := hrel
      have HI := Lib.hid hi
      have HS := Lib.hid hs
      have T1 := Lib.hid ht
      have B1 := Lib.hid hb
      clear hi hs ht
      by_cases hlt : k < zs.length
      · obtain ⟨b, off, ha, hc⟩ := (HZ.out.below hb).get hlt
        subst ha
        have hzw := HW.out zs[k] (List.getElem_mem _)
        generalize zs[k] = z at *
        simp only [Lit.wf, Bool.and_eq_true, decide_eq_true_eq] at hzw
        have z1 : 0 ≤ z := hzw.1
        have z2 : z ≤ 255 := hzw.2
        clear hb hzw
        go_wp2_with fail
        generalize wrap64 (bits BinOp.and IntKind.u8 z 3) = v
        refine (tstep_any v d _ T1.out HI.out).mono ?_; rintro e w2 ⟨rfl, t2, o2⟩
        have B2 := Lib.hid (below_only B1.out o2 B1.out.size (Nat.le_refl _))
        have T2 := Lib.hid t2
        have HI2 := Lib.hid (inv_step way held v d HI.out)
        have hcs := tN_cases way held v d HI.out
        have hadd : way ≠ 0 → addC held 1 = held + 1 := fun h => addC_id _ _ HI.out.2.2.1 (by decide) (by have := HS.out h; omega)
        generalize tN way held v d = n at *
        generalize tW way held v d = nw at *
        generalize tH way held v d = nh at *
        have HA := Lib.hid hadd
        clear t2 o2 hadd hc
        rcases hcs with ⟨rfl, rfl, h3⟩ | ⟨hv, ⟨rfl, rfl, rfl⟩ | ⟨rfl, rfl, hw⟩⟩
        · have H3 := Lib.hid h3
          clear h3
          go_wp2_with fail
          go_roundw
          case rel => exact ⟨k + 1, nw, nh, fr, by omega, by go_num, rfl, rfl, hf0, by omega, HI2.out, fun h => by rw [H3.out h, HA.out h]; have := HS.out h; omega, T2.out, B2.out⟩
          case measure => simp [intOf]; omega
        · rcases hv with ⟨rfl, rfl⟩ | ⟨rfl, rfl⟩
          · go_wp2_with fail
            go_roundw
            case rel => exact ⟨k + 1, _, _, fr, by omega, by go_num, rfl, rfl, hf0, by omega, HI2.out, fun h => by rw [HA.out h]; have := HS.out h; omega, T2.out, B2.out⟩
            case measure => simp [intOf]; omega
          · go_wp2_with fail
            go_roundw
            case rel => exact ⟨k + 1, _, _, fr, by omega, by go_num, rfl, rfl, hf0, by omega, HI2.out, fun h => by rw [HA.out h]; have := HS.out h; omega, T2.out, B2.out⟩
            case measure => simp [intOf]; omega
        · have hs2 := Lib.hid (show way ≠ 0 → fr + held = k from HS.out)
          rcases hw with rfl | ⟨hw1, hw2⟩
          · rcases hv with ⟨rfl, rfl⟩ | ⟨rfl, rfl⟩
            · go_wp2_with fail
              go_roundw
              case rel => exact ⟨k + 1, _, _, k, by omega, by go_num, rfl, rfl, by omega, by omega, HI2.out, fun _ => by omega, T2.out, B2.out⟩
              case measure => simp [intOf]; omega
            · go_wp2_with fail
              go_roundw
              case rel => exact ⟨k + 1, _, _, k, by omega, by go_num, rfl, rfl, by omega, by omega, HI2.out, fun _ => by omega, T2.out, B2.out⟩
              case measure => simp [intOf]; omega
          · rcases hv with ⟨rfl, rfl⟩ | ⟨rfl, rfl⟩
            · obtain rfl : way = 1 := by omega
              have hfr : d ≤ (k : Int) - fr := by have := hs2.out (by decide); omega
              clear hw1 hw2
              go_wp2_with fail
              go_roundw
              case rel => exact ⟨k + 1, _, _, k, by omega, by go_num, rfl, rfl, by omega, by omega, HI2.out, fun _ => by omega, T2.out, B2.out⟩
              case measure => simp [intOf]; omega
            · obtain rfl : way = -1 := by omega
              have hfr : d ≤ (k : Int) - fr := by have := hs2.out (by decide); omega
              clear hw1 hw2
              go_wp2_with fail
              go_roundw
              case rel => exact ⟨k + 1, _, _, k, by omega, by go_num, rfl, rfl, by omega, by omega, HI2.out, fun _ => by omega, T2.out, B2.out⟩
              case measure => simp [intOf]; omega
      · clear hb
        have hd : 0 ≤ held := HI.out.2.2.1
        go_wp2_with fail
        refine (tway_any _ T1.out).mono ?_; rintro e w' ⟨rfl, rfl⟩
        go_wp2_with fail
        refine (awake16 _).mono ?_; rintro e w2 ⟨rfl, b2⟩
        go_wp2_with fail
        go_ret
        exact ⟨rfl, B1.out.trans (b2.mono B1.out.size)⟩
end Go.Proofs.Ytnjjpllplgidlaa
