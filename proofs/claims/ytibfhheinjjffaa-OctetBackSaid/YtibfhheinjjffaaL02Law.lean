/-
  The walks of the laws of layer 2.
-/
import Derived.Test.YtibfhheinjjffaaL02
import Derived.Test.YtibfhheinjjffaaFld
import Derived.Deep.RegionHeld3
namespace Go.Proofs.Ytibfhheinjjffaa
open Go.RowKit Oc
theorem awake2 (w : World) :
    Calls Try.prog 6 #[] w fun e w' => e = .returned (.bool true) ∧ Below w.heap.size w w' := by
  have e1 := Lib.hid (show putS ⟨#[120]⟩ 258 3 = ⟨#[120, 0, 1, 2]⟩ by decide +kernel)
  have e2 := Lib.hid (show putE 258 3 = 0 by decide +kernel)
  have t1 := Lib.hid (show takeN ⟨#[1, 0, 7]⟩ 2 = 256 by decide +kernel)
  have t2 := Lib.hid (show takeE ⟨#[1, 0, 7]⟩ 2 = 0 by decide +kernel)
  have t3 := Lib.hid (show takeR ⟨#[1, 0, 7]⟩ 2 = ⟨#[7]⟩ by decide +kernel)
  have u1 := Lib.hid (show takeN ⟨#[7]⟩ 2 = 0 by decide +kernel)
  have u2 := Lib.hid (show takeE ⟨#[7]⟩ 2 = 3 by decide +kernel)
  have u3 := Lib.hid (show takeR ⟨#[7]⟩ 2 = ⟨#[7]⟩ by decide +kernel)
  have v1 := Lib.hid (show takeN ⟨#[7]⟩ 1 = 7 by decide +kernel)
  have v2 := Lib.hid (show takeE ⟨#[7]⟩ 1 = 0 by decide +kernel)
  go_enter Try.func6, Try.ntmps6
  go_wp2_with fail
  refine (put_any ⟨#[120]⟩ 258 3 (by decide) _).mono ?_; rintro e w1 ⟨rfl, b1⟩
  rw [e1.out, e2.out]
  go_wp2_with fail
  refine (read_any ⟨#[1, 0, 7]⟩ (by decide) _).mono ?_; rintro e w2 ⟨rfl, c2, b2⟩
  go_wp2_with fail
  refine (take_any 2 _ c2).mono ?_; rintro e w3 ⟨rfl, c3, o3⟩
  rw [t1.out, t2.out]
  rw [t3.out] at c3
  go_wp2_with fail
  refine (take_any 2 _ c3).mono ?_; rintro e w4 ⟨rfl, c4, o4⟩
  rw [u1.out, u2.out]
  rw [u3.out] at c4
  go_wp2_with fail
  refine (take_any 1 _ c4).mono ?_; rintro e w5 ⟨rfl, c5, o5⟩
  rw [v1.out, v2.out]
  go_wp2_with fail
  go_ret
  have B := below_only (below3 b1 b2) (only_trans (only_trans o3 o4) o5) (Nat.le_trans b1.size b2.size) b1.size
  exact ⟨rfl, B⟩
theorem w_OctetPuts (w : World) (s : ByteArray) (hs : s.size ≤ maxLen) (n : Int) (hn : (Lit.int .i64 n).wf = true) (m : Int) (_ : (Lit.int .i64 m).wf = true) :
    Calls Try.prog 3 #[.string s, .int .i64 n, .int .i64 m] w fun e w' => e = .returned (.bool true) ∧ Below w.heap.size w w' := by
  unfold maxLen at hs
  have hn' : n ≤ 9223372036854775807 := by
    simp only [Lit.wf, Bool.and_eq_true, decide_eq_true_eq] at hn; exact hn.2
  have Hn := Lib.hid hn'
  clear hn hn'
  by_cases hg : 500 < s.size
  · go_enter Try.func3, Try.ntmps3
    go_wp2_with fail
    refine (awake2 _).mono ?_; rintro e w1 ⟨rfl, b1⟩
    go_wp2_with fail
    go_ret
    exact ⟨rfl, b1⟩
  · go_enter Try.func3, Try.ntmps3
    go_wp2_with fail
    refine (put_any s n m (by omega) _).mono ?_; rintro e w1 ⟨rfl, b1⟩
    go_wp2_with fail
    refine (rput_any s n m Hn.out (by omega) _).mono ?_; rintro e w2 ⟨rfl, b2⟩
    go_wp2_with fail
    refine (awake2 _).mono ?_; rintro e w3 ⟨rfl, b3⟩
    go_wp2_with fail
    go_ret
    exact ⟨rfl, (below3 (below3 b1 b2) b3)⟩
set_option maxRecDepth 100000 in
set_option maxHeartbeats 2000000 in
theorem w_OctetReads (w : World) (s : ByteArray) (hs : s.size ≤ maxLen) (a : Option Addr) (len cap : Nat) (f : Nat → Nat → Int) (hF : Fld w a len 2 f) (hl : len ≤ maxLen) (_ : ∀ i j, i < len → j < 2 → (Lit.int .i64 (f i j)).wf = true) :
    Calls Try.prog 4 #[.string s, .slice a len cap] w fun e w' => e = .returned (.bool true) ∧ Below w.heap.size w w' := by
  unfold maxLen at hl
  have hss := hs
  unfold maxLen at hss
  have HF := Lib.hid hF
  have Hs := Lib.hid hs
  clear hF hs
  by_cases hg : 500 < s.size
  · go_enter Try.func4, Try.ntmps4
    go_wp2_with fail
    refine (awake2 _).mono ?_; rintro e w1 ⟨rfl, b1⟩
    go_wp2_with fail
    go_ret
    exact ⟨rfl, b1⟩
  · by_cases hg2 : 60 < len
    · go_enter Try.func4, Try.ntmps4
      go_wp2_with fail
      refine (awake2 _).mono ?_; rintro e w1 ⟨rfl, b1⟩
      go_wp2_with fail
      go_ret
      exact ⟨rfl, b1⟩
    · have hd1 : decide (500 < (s.size : Int)) = false := by simp; omega
      have hd2 : decide (60 < (len : Int)) = false := by simp; omega
      go_enter Try.func4, Try.ntmps4
      go_wp2_with fail
      refine (read_any s Hs.out _).mono ?_; rintro e w1 ⟨rfl, c1, b1⟩
      have hst := Lib.hid (And.intro (c1.below ((Below.refl _ _).alloc (Nat.le_refl _) (.cells #[.string s] 32))) (And.intro (show RCur (w1.alloc (.cells #[.string s] 32)) w1.heap.size s from ⟨Bk.new _ _ _, Hs.out⟩) (And.intro (b1.alloc b1.size (.cells #[.string s] 32)) c1.1.lt)))
      clear c1 b1
      go_wp2_with fail
      go_loopw [8] (fun i wr => ∃ k : Nat, k ≤ len ∧ i = .int .i64 k ∧ ∃ r, Cur wr w.heap.size r ∧ RCur wr w1.heap.size r ∧ Below w.heap.size w wr) (fun i _ => len - (intOf i).toNat)
      case atStart => exact ⟨0, Nat.zero_le _, rfl, s, hst.out.1, hst.out.2.1, hst.out.2.2.1⟩
      case round =>
        obtain ⟨k, hk, rfl, r, hc, hrc, hb⟩ := hrel
        by_cases hlt : k < len
        · obtain ⟨b, off, ha, hcell⟩ := HF.out.get hlt
          subst ha
          have hb0 : b < w.heap.size := cell_lt (hcell 0 (by omega))
          have hne : w.heap.size ≠ w1.heap.size := by have := hst.out.2.2.2; omega
          have at0 := Lib.hid (fun (W : World) (hW : Below w.heap.size w W) => (hW.cell (p := ⟨b, off + k * 2, none⟩) hb0).trans (hcell 0 (by omega)))
          have at1 := Lib.hid (fun (W : World) (hW : Below w.heap.size w W) => (hW.cell (p := ⟨b, off + k * 2 + 1, none⟩) hb0).trans (hcell 1 (by omega)))
          have Hb := Lib.hid hb
          have Hc := Lib.hid hc
          have Hrc := Lib.hid hrc
          have hr0 := at0.out _ hb
          have hr1 := at1.out _ hb
          clear hcell hb hc hrc
          generalize f k 0 = kind at *
          generalize f k 1 = n at *
          by_cases h0 : kind = 0
          · subst h0
            go_wp2_with fail
            refine (take_any n _ Hc.out).mono ?_; rintro e w2 ⟨rfl, c2, o2⟩
            have B2 := below_only Hb.out o2 Hb.out.size (Nat.le_refl _)
            have r2 := Hrc.out.other o2 (Ne.symm hne)
            clear hr0 hr1
            have hr1 := at1.out _ B2
            have C2 := Lib.hid c2
            have R2 := Lib.hid r2
            clear c2 r2 o2
            go_wp2_with fail
            refine (rtake_any n _ R2.out).mono ?_; rintro e w3 ⟨rfl, r3, o3⟩
            have B3 := below_only B2 o3 B2.size (by have := hst.out.2.2.2; omega)
            have c3 := C2.out.other o3 hne
            have R3 := Lib.hid r3
            have C3 := Lib.hid c3
            clear r3 c3 o3 hr1 B2
            go_wp2_with fail
            refine (take_nil 2 (by decide) (by decide) _).mono ?_; rintro e w' ⟨rfl, rfl⟩
            have hcr := R3.out.cell
            have HB3 := Lib.hid B3
            have hsz := R3.out.2
            unfold maxLen at hsz
            clear B3
            go_wp2_with fail
            go_quiet (first | (go_at_call_of 14 (Value.pointer none); exact quiet_left (left_nil _)) | (go_at_call 14; exact quiet_left (left_c _ (by exact C3.out))) | (go_at_call_of 15 (Value.pointer none); exact quiet_left (rest_nil _)) | (go_at_call 15; exact quiet_left (rest_any _ (by exact C3.out))))
            go_wp2_with fail
            go_roundw
            case rel => exact ⟨k + 1, by omega, by go_num, _, C3.out, R3.out, bl_drewN HB3.out _⟩
            case measure => simp [intOf]; omega
          · by_cases h1 : kind = 1
            · subst h1
              clear h0
              go_wp2_with fail
              refine (bytes_any n _ Hc.out).mono ?_; rintro e w2 ⟨rfl, c2, o2⟩
              have B2 := below_only Hb.out o2 Hb.out.size (Nat.le_refl _)
              have r2 := Hrc.out.other o2 (Ne.symm hne)
              clear hr0 hr1
              have hr1 := at1.out _ B2
              have C2 := Lib.hid c2
              have R2 := Lib.hid r2
              clear c2 r2 o2
              go_wp2_with fail
              refine (rbytes_any n _ R2.out).mono ?_; rintro e w3 ⟨rfl, r3, o3⟩
              have B3 := below_only B2 o3 B2.size (by have := hst.out.2.2.2; omega)
              have c3 := C2.out.other o3 hne
              have R3 := Lib.hid r3
              have C3 := Lib.hid c3
              clear r3 c3 o3 hr1 B2
              have hcr := R3.out.cell
              have HB3 := Lib.hid B3
              have hsz := R3.out.2
              unfold maxLen at hsz
              clear B3
              go_wp2_with fail
              go_quiet (first | (go_at_call_of 14 (Value.pointer none); exact quiet_left (left_nil _)) | (go_at_call 14; exact quiet_left (left_c _ (by exact C3.out))) | (go_at_call_of 15 (Value.pointer none); exact quiet_left (rest_nil _)) | (go_at_call 15; exact quiet_left (rest_any _ (by exact C3.out))))
              go_wp2_with fail
              go_roundw
              case rel => exact ⟨k + 1, by omega, by go_num, _, C3.out, R3.out, bl_drewN HB3.out _⟩
              case measure => simp [intOf]; omega
            · have hk0 : (kind == 0) = false := by simpa using h0
              have hk1 : (kind == 1) = false := by simpa using h1
              have B3 := Hb.out
              have R3 := Hrc
              have C3 := Hc
              clear h0 h1 hr1
              have hcr := R3.out.cell
              have HB3 := Lib.hid B3
              have hsz := R3.out.2
              unfold maxLen at hsz
              clear B3
              go_wp2_with fail
              go_quiet (first | (go_at_call_of 14 (Value.pointer none); exact quiet_left (left_nil _)) | (go_at_call 14; exact quiet_left (left_c _ (by exact C3.out))) | (go_at_call_of 15 (Value.pointer none); exact quiet_left (rest_nil _)) | (go_at_call 15; exact quiet_left (rest_any _ (by exact C3.out))))
              go_wp2_with fail
              go_roundw
              case rel => exact ⟨k + 1, by omega, by go_num, _, C3.out, R3.out, bl_drewN HB3.out _⟩
              case measure => simp [intOf]; omega
        · have Hb := Lib.hid hb
          clear hb hc hrc
          go_wp2_with fail
          refine (awake2 _).mono ?_; rintro e w2 ⟨rfl, b2⟩
          go_wp2_with fail
          go_ret
          exact ⟨rfl, Hb.out.trans (b2.mono Hb.out.size)⟩
set_option maxRecDepth 100000 in
set_option maxHeartbeats 2000000 in
theorem w_OctetBack (w : World) (a : Option Addr) (len cap : Nat) (f : Nat → Nat → Int) (hF : Fld w a len 2 f) (hl : len ≤ maxLen) (hwf : ∀ i j, i < len → j < 2 → (Lit.int .i64 (f i j)).wf = true) :
    Calls Try.prog 5 #[.slice a len cap] w fun e w' => e = .returned (.bool true) ∧ Below w.heap.size w w' := by
  unfold maxLen at hl
  have HF := Lib.hid hF
  have HW := Lib.hid hwf
  clear hF hwf
  by_cases hg : 60 < len
  · go_enter Try.func5, Try.ntmps5
    go_wp2_with fail
    refine (awake2 _).mono ?_; rintro e w1 ⟨rfl, b1⟩
    go_wp2_with fail
    go_ret
    exact ⟨rfl, b1⟩
  · have hd2 : decide (60 < (len : Int)) = false := by simp; omega
    go_enter Try.func5, Try.ntmps5
    go_wp2_with fail
    go_loopw [3, 4] (fun s i wr => ∃ k : Nat, k ≤ len ∧ i = .int .i64 k ∧ s = .string ⟨(upTo f k).toArray⟩ ∧ Below w.heap.size w wr) (fun _ i _ => len - (intOf i).toNat)
    case atStart => exact ⟨0, Nat.zero_le _, rfl, rfl, Below.refl _ _⟩
    case round =>
      obtain ⟨k, hk, rfl, rfl, hb⟩ := hrel
      by_cases hlt : k < len
      · obtain ⟨b, off, ha, hcell⟩ := HF.out.get hlt
        subst ha
        have hb0 : b < w.heap.size := cell_lt (hcell 0 (by omega))
        have hr0 := (hb.cell (p := ⟨b, off + k * 2, none⟩) hb0).trans (hcell 0 (by omega))
        have hr1 := (hb.cell (p := ⟨b, off + k * 2 + 1, none⟩) hb0).trans (hcell 1 (by omega))
        have at0 := Lib.hid (fun (W : World) (hW : Below w.heap.size w W) => (hW.cell (p := ⟨b, off + k * 2, none⟩) hb0).trans (hcell 0 (by omega)))
        have at1 := Lib.hid (fun (W : World) (hW : Below w.heap.size w W) => (hW.cell (p := ⟨b, off + k * 2 + 1, none⟩) hb0).trans (hcell 1 (by omega)))
        have hn := HW.out k 1 hlt (by omega)
        have hn' : f k 1 ≤ 9223372036854775807 := by
          simp only [Lit.wf, Bool.and_eq_true, decide_eq_true_eq] at hn; exact hn.2
        have hsz : (⟨(upTo f k).toArray⟩ : ByteArray).size ≤ 70368744177664 := by
          have := upTo_length f k
          simp [ByteArray.size]; omega
        have Hb := Lib.hid hb
        have Hn := Lib.hid hn'
        have hup := Lib.hid (show upTo f (k + 1) = upTo f k ++ piece f k from rfl)
        have hpc := Lib.hid (show piece f k = if fits (f k 1) (f k 0) then be (f k 0).toNat (f k 1).toNat else [] from rfl)
        have hS := Lib.hid (show putS ⟨(upTo f k).toArray⟩ (f k 1) (f k 0) = if fits (f k 1) (f k 0) then ⟨(upTo f k ++ be (f k 0).toNat (f k 1).toNat).toArray⟩ else ⟨#[]⟩ by unfold putS; split <;> simp)
        have hE := Lib.hid (show putE (f k 1) (f k 0) = if fits (f k 1) (f k 0) then 0 else 1 from rfl)
        clear hcell hb hn hn'
        generalize upTo f k = u at *
        generalize f k 0 = m at *
        generalize f k 1 = n at *
        have HZ := Lib.hid hsz
        clear hsz
        cases hfit : fits n m with
        | true =>
          have hp := put_any ⟨u.toArray⟩ n m HZ.out
          rw [show putS ⟨u.toArray⟩ n m = ⟨(u ++ be m.toNat n.toNat).toArray⟩ by rw [hS.out, hfit]; rfl, show putE n m = 0 by rw [hE.out, hfit]; rfl] at hp
          have HP := Lib.hid hp
          have e3 := Lib.hid (show upTo f (k + 1) = u ++ be m.toNat n.toNat by rw [hup.out, hpc.out, hfit]; rfl)
          clear hp hfit
          go_wp2_with fail
          go_region_held3 (fun W => W.cell? ⟨b, off + k * 2, none⟩ = some (.int .i64 m) ∧ W.cell? ⟨b, off + k * 2 + 1, none⟩ = some (.int .i64 n)) (first | (go_keep; done) | exact ⟨at0.out _ (Hb.out.drew.trans (b1.mono Hb.out.size)), at1.out _ (Hb.out.drew.trans (b1.mono Hb.out.size))⟩) ((go_at_call 7; refine (HP.out _).mono ?_; rintro e w1 ⟨rfl, b1⟩))
          clear hr0 hr1
          go_wp2_with fail
          go_roundw
          case rel => exact ⟨k + 1, by omega, by go_num, by rw [e3.out], Hb.out.drew.trans (b1.mono Hb.out.size)⟩
          case measure => simp [intOf]; omega
        | false =>
          have hp := put_any ⟨u.toArray⟩ n m HZ.out
          rw [show putS ⟨u.toArray⟩ n m = ⟨#[]⟩ by rw [hS.out, hfit]; rfl, show putE n m = 1 by rw [hE.out, hfit]; rfl] at hp
          have HP := Lib.hid hp
          have e3 := Lib.hid (show upTo f (k + 1) = u by rw [hup.out, hpc.out, hfit]; simp)
          clear hp hfit
          go_wp2_with fail
          go_region_held3 (fun W => W.cell? ⟨b, off + k * 2, none⟩ = some (.int .i64 m) ∧ W.cell? ⟨b, off + k * 2 + 1, none⟩ = some (.int .i64 n)) (first | (go_keep; done) | exact ⟨at0.out _ (Hb.out.drew.trans (b1.mono Hb.out.size)), at1.out _ (Hb.out.drew.trans (b1.mono Hb.out.size))⟩) ((go_at_call 7; refine (HP.out _).mono ?_; rintro e w1 ⟨rfl, b1⟩))
          clear hr0 hr1
          go_wp2_with fail
          go_roundw
          case rel => exact ⟨k + 1, by omega, by go_num, by rw [e3.out], Hb.out.drew.trans (b1.mono Hb.out.size)⟩
          case measure => simp [intOf]; omega
      · have hkl := Lib.hid (show upTo f k = from_ f 0 len by have h := upTo_from f len 0; rw [Nat.zero_add] at h; rw [show k = len by omega, h]; rfl)
        have hsz : (⟨(upTo f k).toArray⟩ : ByteArray).size ≤ maxLen := by
          have := upTo_length f k
          unfold maxLen
          simp [ByteArray.size]; omega
        have HZ := Lib.hid hsz
        have Hb := Lib.hid hb
        clear hsz hb
        go_wp2_with fail
        refine (read_any _ HZ.out _).mono ?_; rintro e w1 ⟨rfl, c1, b1⟩
        rw [hkl.out] at c1
        have hst := Lib.hid (And.intro c1 (And.intro (Hb.out.trans (b1.mono Hb.out.size)) Hb.out.size))
        obtain ⟨g, hgg⟩ : ∃ g, g = wr.heap.size := ⟨_, rfl⟩
        rw [← hgg] at hst ⊢
        clear c1 b1 hgg hkl HZ Hb
        go_wp2_with fail
        go_loopw [8] (fun i wr => ∃ k : Nat, k ≤ len ∧ i = .int .i64 k ∧ Cur wr g ⟨(from_ f k (len - k)).toArray⟩ ∧ Below w.heap.size w wr) (fun i _ => len - (intOf i).toNat)
        case atStart => exact ⟨0, Nat.zero_le _, rfl, hst.out.1, hst.out.2.1⟩
        case round =>
          obtain ⟨k, hk, rfl, hc, hb⟩ := hrel
          have hgw := Lib.hid hst.out.2.2
          clear hst
          by_cases hlt : k < len
          · obtain ⟨b, off, ha, hcell⟩ := HF.out.get hlt
            subst ha
            have hb0 : b < w.heap.size := cell_lt (hcell 0 (by omega))
            have at0 := Lib.hid (fun (W : World) (hW : Below w.heap.size w W) => (hW.cell (p := ⟨b, off + k * 2, none⟩) hb0).trans (hcell 0 (by omega)))
            have at1 := Lib.hid (fun (W : World) (hW : Below w.heap.size w W) => (hW.cell (p := ⟨b, off + k * 2 + 1, none⟩) hb0).trans (hcell 1 (by omega)))
            have hr0 := at0.out _ hb
            have hr1 := at1.out _ hb
            have hn := HW.out k 1 hlt (by omega)
            have hn' : f k 1 ≤ 9223372036854775807 := by
              simp only [Lit.wf, Bool.and_eq_true, decide_eq_true_eq] at hn; exact hn.2
            have Hb := Lib.hid hb
            have Hc := Lib.hid hc
            have hpc := Lib.hid (show piece f k = if fits (f k 1) (f k 0) then be (f k 0).toNat (f k 1).toNat else [] from rfl)
            have hfr := Lib.hid (show from_ f k (len - k) = piece f k ++ from_ f (k + 1) (len - (k + 1)) by rw [show len - k = (len - (k + 1)) + 1 by omega]; rfl)
            have hnum := number_any (f k 1) (f k 0) hn'
            generalize numStr (f k 1) (f k 0) = q at hnum
            clear hcell hb hc hn hn'
            generalize f k 0 = m at *
            generalize f k 1 = n at *
            cases hfit : fits n m with
            | true =>
              rw [hfit] at hnum
              have HN := Lib.hid hnum
              have ht := Lib.hid (take_piece n m (from_ f (k + 1) (len - (k + 1))) hfit)
              have hfr2 := Lib.hid (show from_ f k (len - k) = be m.toNat n.toNat ++ from_ f (k + 1) (len - (k + 1)) by rw [hfr.out, hpc.out, hfit]; rfl)
              clear hnum hfit
              go_wp2_with fail
              go_region_held3 (fun W => W.cell? ⟨b, off + k * 2, none⟩ = some (.int .i64 m) ∧ W.cell? ⟨b, off + k * 2 + 1, none⟩ = some (.int .i64 n)) (first | (go_keep; done) | exact ⟨at0.out _ (Hb.out.drew.trans (b1.mono Hb.out.size)), at1.out _ (Hb.out.drew.trans (b1.mono Hb.out.size))⟩) ((go_at_call 16; refine (HN.out _).mono ?_; rintro e w1 ⟨rfl, b1⟩))
              have B2 := Hb.out.drew.trans (b1.mono Hb.out.size)
              have c2 := Hc.out.below (undrew b1)
              rw [hfr2.out] at c2
              clear hr0 hr1 b1
              have hr0 := at0.out _ B2
              have C2 := Lib.hid c2
              have HB2 := Lib.hid B2
              clear c2 B2
              go_wp2_with fail
              refine (take_any m _ C2.out).mono ?_; rintro e w2 ⟨rfl, c3, o3⟩
              rw [ht.out.1, ht.out.2.1]
              rw [ht.out.2.2] at c3
              have B3 := below_only HB2.out o3 HB2.out.size hgw.out
              clear hr0
              have hr1 := at1.out _ B3
              have C3 := Lib.hid c3
              have HB3 := Lib.hid B3
              clear c3 B3 o3
              go_wp2_with fail
              go_roundw
              case rel => exact ⟨k + 1, by omega, by go_num, C3.out, HB3.out⟩
              case measure => simp [intOf]; omega
            | false =>
              rw [hfit] at hnum
              have HN := Lib.hid hnum
              have hfr2 := Lib.hid (show from_ f k (len - k) = from_ f (k + 1) (len - (k + 1)) by rw [hfr.out, hpc.out, hfit]; rfl)
              clear hnum hfit
              go_wp2_with fail
              go_region_held3 (fun W => W.cell? ⟨b, off + k * 2, none⟩ = some (.int .i64 m) ∧ W.cell? ⟨b, off + k * 2 + 1, none⟩ = some (.int .i64 n)) (first | (go_keep; done) | exact ⟨at0.out _ (Hb.out.drew.trans (b1.mono Hb.out.size)), at1.out _ (Hb.out.drew.trans (b1.mono Hb.out.size))⟩) ((go_at_call 16; refine (HN.out _).mono ?_; rintro e w1 ⟨rfl, b1⟩))
              have B2 := Hb.out.drew.trans (b1.mono Hb.out.size)
              have c2 := Hc.out.below (undrew b1)
              rw [hfr2.out] at c2
              have C2 := Lib.hid c2
              have HB2 := Lib.hid B2
              clear c2 B2 hr0 hr1 b1
              go_wp2_with fail
              go_roundw
              case rel => exact ⟨k + 1, by omega, by go_num, C2.out, HB2.out⟩
              case measure => simp [intOf]; omega
          · have hr : from_ f k (len - k) = [] := by rw [show len - k = 0 by omega]; rfl
            rw [hr] at hc
            have Hc := Lib.hid hc
            have Hb := Lib.hid hb
            clear hc hb hr
            have t1 := Lib.hid (show takeN ⟨#[]⟩ 1 = 0 by decide +kernel)
            have t2 := Lib.hid (show takeE ⟨#[]⟩ 1 = 3 by decide +kernel)
            have t3 := Lib.hid (show takeR ⟨#[]⟩ 1 = ⟨#[]⟩ by decide +kernel)
            go_wp2_with fail
            refine (take_any 1 _ Hc.out).mono ?_; rintro e w2 ⟨rfl, c3, o3⟩
            rw [t1.out, t2.out]
            rw [t3.out] at c3
            have HB3 := Lib.hid (below_only Hb.out o3 Hb.out.size hgw.out)
            have C3 := Lib.hid c3
            clear c3 o3
            go_wp2_with fail
            refine (left_c _ C3.out).mono ?_; rintro e w' ⟨rfl, rfl⟩
            go_wp2_with fail
            refine (awake2 _).mono ?_; rintro e w3 ⟨rfl, b3⟩
            go_wp2_with fail
            go_ret
            exact ⟨rfl, HB3.out.trans (b3.mono HB3.out.size)⟩
end Go.Proofs.Ytibfhheinjjffaa
