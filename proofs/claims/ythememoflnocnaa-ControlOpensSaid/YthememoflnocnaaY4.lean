/-
  The law ControlOpens of layer 20: the call comes to true.
-/
import Derived.Test.YthememoflnocnaaY3
import Derived.Test.YthememoflnocnaaY1
import Derived.Deep.RegionHeld3
import Derived.Test.YthememoflnocnaaMem
import Derived.Deep.Slices
import Derived.Deep.Fields
import Derived.Test.YthememoflnocnaaAEIn
import Derived.Test.YthememoflnocnaaAgg
import Derived.Test.YthememoflnocnaaAEList
namespace Go.Proofs.Ythememoflnocnaa.AE
set_option maxRecDepth 100000
open Go.RowKit
theorem awake_ok20 : ∀ args H r H', pure? awakeS args H = some (r, H') → HSound1 Try.prog nro 5 args H r H' := by
  refine pure_ok (fun us c hs => ?_) (has_fn (by kernel_rfl))
  unfold awakeS at hs
  split at hs
  · cases hs; exact fs_aw20
  · cases hs
theorem ac_get2 {l : List (Nat → Int)} {k : Nat} (h : k < l.length) : (l.map acV).getD (Int.toNat (k : Int)) .dead = acV l[k] := by
  rw [Int.toNat_natCast, List.getD_eq_getElem?_getD, List.getElem?_map, List.getElem?_eq_getElem h]; rfl
theorem ac_el {l : List (Nat → Int)} {k : Nat} (h : k < l.length) : (0 : Int) ≤ (k : Int) ∧ (l.map acV)[Int.toNat (k : Int)]? = some (acV l[k]) := ⟨Int.natCast_nonneg k, by
  rw [Int.toNat_natCast, List.getElem?_map, List.getElem?_eq_getElem h]; rfl⟩
theorem ac_kk (a : Nat → Int) : AV.v (.agg #[.int .i64 (exInt ((AV.cells (acV a)).getD 0 .dead)), .int .i64 (exInt ((AV.cells (acV a)).getD 1 .dead)), .int .i64 (exInt ((AV.cells (acV a)).getD 2 .dead)), .int .i64 (exInt ((AV.cells (acV a)).getD 3 .dead)), .int .i64 (exInt ((AV.cells (acV a)).getD 4 .dead)), .int .i64 (exInt ((AV.cells (acV a)).getD 5 .dead)), .int .i64 (exInt ((AV.cells (acV a)).getD 6 .dead)), .int .i64 (exInt ((AV.cells (acV a)).getD 7 .dead)), .int .i64 (exInt ((AV.cells (acV a)).getD 8 .dead))]) = acV a := rfl
def actA (s : St) (a : Nat → Int) : St := actS s (a 0) (a 1) (a 2) (a 3) (a 4) (a 5) (a 6) (a 7) (a 8)
theorem ks_act (s : St) (a : Nat → Int) : ksX.act s (acV a) = actA s a := rfl
theorem ks_isA (a : Nat → Int) : ksX.isA (acV a) = true := rfl
end Go.Proofs.Ythememoflnocnaa.AE
namespace Go.Proofs.Ythememoflnocnaa
set_option maxRecDepth 100000
open Go.RowKit Bd
theorem sum_any (a : Option Addr) (cap : Nat) (zs : List Int) (w : World) (hz : Ints w .i64 a zs) (hl : zs.length ≤ 9223372036854775807) :
    Calls Try.prog 76 #[.slice a zs.length cap] w fun e w' => e = .returned (.int .i64 (sumC zs)) ∧ Below w.heap.size w w' := by
  go_enter Try.func76, Try.ntmps76
  go_wp2_with fail
  go_loopw [3, 5, 8] (fun s _ i wr => ∃ k : Nat, k ≤ zs.length ∧ i = .int .i64 k ∧ s = .int .i64 (sumC (zs.take k)) ∧ Below w.heap.size w wr) (fun _ _ i _ => zs.length - (intOf i).toNat)
  case atStart => exact ⟨0, Nat.zero_le _, rfl, rfl, Below.refl _ _⟩
  case round =>
    obtain ⟨k, hk, rfl, rfl, hb⟩ := hrel
    by_cases hlt : k < zs.length
    · obtain ⟨b, off, rfl, hc⟩ := (hz.below hb).get hlt
      have hs := Lib.hid (sumC_snoc zs k hlt)
      go_wp2_with fail
      refine (add_any _ _ _).mono ?_; rintro e w1 ⟨rfl, b1⟩
      go_wp2_with fail
      go_roundw
      case rel => exact ⟨k + 1, by omega, by go_num, by rw [hs.out], hb.trans (b1.mono hb.size)⟩
      case measure => simp [intOf]; omega
    · go_wp2_with fail
      go_ret
      exact ⟨ret_int (by rw [List.take_of_length_le (by omega)]), hb⟩
end Go.Proofs.Ythememoflnocnaa
namespace Go.Proofs.Ythememoflnocnaa
set_option maxRecDepth 100000
namespace Cm
open Bd
def stepsC (a b : Int) : Int := if kp a cMost < kp b cMost then kp b cMost - kp a cMost else 0
def one (n : Int) : Int := if n < 1 then 1 else kp n cMost
def openF (t a b : Int) : Int := if stepsC a b = 0 then 0 else addC (one t - 1) (stepsC a b)
def brightF (d a b : Int) : Int := mulC (one d) (stepsC a b)
def windowsF (t d a l c n : Int) : Int := addC (openF t a l) (brightF d c n)
theorem kpk (n : Int) : kp (kp n cMost) cMost = kp n cMost := by have := kc n; exact kp_id _ _ this.1 this.2
theorem one_b (n : Int) : 1 ≤ one n ∧ one n ≤ 2147483647 := by
  have := kc n
  unfold one
  split
  · exact ⟨by decide, by decide⟩
  · rename_i h
    refine ⟨?_, this.2⟩
    rcases Int.lt_or_le cMost n with h2 | h2
    · rw [kp_big _ _ (by decide) (by omega)]; decide
    · rw [kp_id _ _ (by omega) h2]; omega
theorem one_max (n : Int) : kp (if n < 1 then 1 else n) cMost = one n := by
  unfold one; split
  · decide
  · rfl
theorem stepsC_b (a b : Int) : 0 ≤ stepsC a b ∧ stepsC a b ≤ 2147483647 := by
  have h1 := kc a; have h2 := kc b; unfold stepsC; split <;> omega
theorem addC0 (x : Int) (h : 0 ≤ x) (h2 : x ≤ 2147483647) : addC 0 x = x := by rw [addC_id 0 x (by decide) h (by omega)]; omega
theorem subC1 (n : Int) : subC (one n) 1 = one n - 1 := by
  have h := one_b n
  have e1 : kp (one n) cMost = one n := kp_id _ _ (by omega) (by unfold cMost; omega)
  have e2 : kp 1 cMost = 1 := by decide
  unfold subC; rw [e1, e2]
  exact kp_id _ _ (by omega) (by unfold cMost; omega)
theorem openF_b (t a b : Int) : 0 ≤ openF t a b ∧ openF t a b ≤ 2147483647 := by
  unfold openF; split
  · exact ⟨by decide, by decide⟩
  · exact addC_b _ _
theorem mul_one (d x : Int) : mulC (if d < 1 then 1 else d) x = mulC (one d) x := by
  unfold mulC
  have h := one_b d
  rw [one_max, kp_id (one d) cMost (by omega) (by unfold cMost; omega)]
theorem sum_two (x y : Int) (h : 0 ≤ x) (h2 : x ≤ 2147483647) : sumC [x, y] = addC x y := by
  show addC (addC 0 x) y = _
  rw [addC0 x h h2]
end Cm
end Go.Proofs.Ythememoflnocnaa
namespace Go.Proofs.Ythememoflnocnaa
set_option maxRecDepth 100000
open Go.RowKit Bd Cm
theorem steps_any (a b : Int) (h1 : 0 ≤ a) (h2 : a ≤ 2147483647) (h3 : 0 ≤ b) (h4 : b ≤ 2147483647) (w : World) :
    Calls Try.prog 77 #[.int .i64 a, .int .i64 b] w fun e w' => e = .returned (.int .i64 (stepsC a b)) ∧ w = w' := by
  have e1 : kp a cMost = a := kp_id _ _ h1 (by unfold cMost; omega)
  have e2 : kp b cMost = b := kp_id _ _ h3 (by unfold cMost; omega)
  have E := Lib.hid (show stepsC a b = if a < b then b - a else 0 by unfold stepsC; rw [e1, e2])
  clear e1 e2
  by_cases hab : b ≤ a
  · go_enter Try.func77, Try.ntmps77
    go_wp2
    go_ret
    exact ⟨ret_int (by rw [E.out, if_neg (by omega)]), rfl⟩
  · have hab2 : a < b := by omega
    go_enter Try.func77, Try.ntmps77
    go_wp2
    go_ret
    exact ⟨ret_int (by rw [E.out, if_pos hab2]), rfl⟩
theorem count19_any (n : Int) (w : World) :
    Calls Try.prog 78 #[.int .i64 n] w fun e w' => e = .returned (.int .i64 (kp n cMost)) ∧ Below w.heap.size w w' := by
  go_enter Try.func78, Try.ntmps78
  go_wp2_with fail
  refine (keep_any _ cMost _).mono ?_; rintro e w1 ⟨rfl, b1⟩
  go_wp2_with fail
  go_ret
  exact ⟨rfl, b1⟩
theorem first_any (k0 k1 k2 k3 k4 k5 k6 : Int) (w : World) :
    Calls Try.prog 79 #[.agg #[.int .i64 k0, .int .i64 k1, .int .i64 k2, .int .i64 k3, .int .i64 k4, .int .i64 k5, .int .i64 k6]] w fun e w' => e = .returned (.int .i64 (one k5)) ∧ Below w.heap.size w w' := by
  have E := Lib.hid (one_max k5)
  by_cases h : k5 < 1
  · have E1 := Lib.hid (show kp 1 cMost = one k5 by rw [← E.out, if_pos h])
    go_enter Try.func79, Try.ntmps79
    go_wp2_with fail
    refine (count19_any _ _).mono ?_; rintro e w1 ⟨rfl, b1⟩
    go_wp2_with fail
    go_ret
    exact ⟨ret_int E1.out, (((Below.refl _ _).alloc (Nat.le_refl _) _).trans (b1.mono (by simp)))⟩
  · have E1 := Lib.hid (show kp k5 cMost = one k5 by rw [← E.out, if_neg h])
    go_enter Try.func79, Try.ntmps79
    go_wp2_with fail
    refine (count19_any _ _).mono ?_; rintro e w1 ⟨rfl, b1⟩
    go_wp2_with fail
    go_ret
    exact ⟨ret_int E1.out, (((Below.refl _ _).alloc (Nat.le_refl _) _).trans (b1.mono (by simp)))⟩
theorem together_any (x y : Int) (h : 0 ≤ x) (h2 : x ≤ 2147483647) (a : Option Addr) (w : World) (hz : Ints w .i64 a [x, y]) :
    Calls Try.prog 53 #[.slice a 2 2] w fun e w' => e = .returned (.int .i64 (addC x y)) ∧ Below w.heap.size w w' := by
  have H := sum_any a 2 [x, y] w hz (by show 2 ≤ _; decide)
  rw [sum_two x y h h2] at H
  have HH := Lib.hid H
  clear H hz
  go_enter Try.func53, Try.ntmps53
  go_wp2_with fail
  refine HH.out.mono ?_; rintro e w1 ⟨rfl, b1⟩
  go_wp2_with fail
  go_ret
  exact ⟨rfl, b1⟩
theorem open19_any (k0 k1 k2 k3 k4 k5 k6 : Int) (a b : Int) (w : World) :
    Calls Try.prog 54 #[.agg #[.int .i64 k0, .int .i64 k1, .int .i64 k2, .int .i64 k3, .int .i64 k4, .int .i64 k5, .int .i64 k6], .int .i64 a, .int .i64 b] w fun e w' => e = .returned (.int .i64 (openF k5 a b)) ∧ Below w.heap.size w w' := by
  have h1 := kc a
  have h2 := kc b
  have hs : stepsC (kp a cMost) (kp b cMost) = stepsC a b := by unfold stepsC; rw [kpk, kpk]
  have hst := steps_any (kp a cMost) (kp b cMost) h1.1 h1.2 h2.1 h2.2
  rw [hs] at hst
  have HS := Lib.hid hst
  have hsb := stepsC_b a b
  have ho := one_b k5
  have h2' := Lib.hid (subC1 k5)
  have hbk := Bk.new w 23 #[.int .i64 k0, .int .i64 k1, .int .i64 k2, .int .i64 k3, .int .i64 k4, .int .i64 k5, .int .i64 k6]
  have HB := Lib.hid hbk
  have EO := Lib.hid (show openF k5 a b = if stepsC a b = 0 then 0 else addC (one k5 - 1) (stepsC a b) from rfl)
  clear hst hs hbk h1 h2
  generalize stepsC a b = n at *
  by_cases hn : n = 0
  · subst hn
    go_enter Try.func54, Try.ntmps54
    go_wp2_with fail
    refine (count19_any _ _).mono ?_; rintro e w1 ⟨rfl, b1⟩
    go_wp2_with fail
    refine (count19_any _ _).mono ?_; rintro e w2 ⟨rfl, b2⟩
    go_wp2_with fail
    refine (HS.out _).mono ?_; rintro e w' ⟨rfl, rfl⟩
    go_wp2_with fail
    go_ret
    exact ⟨ret_int (by rw [EO.out]; simp), ((((Below.refl _ _).alloc (Nat.le_refl _) _).trans (b1.mono (by simp))).trans (b2.mono (Nat.le_trans (by simp) b1.size)))⟩
  · have hn2 : (n == 0) = false := by simpa using hn
    have EO2 := Lib.hid (show openF k5 a b = addC (one k5 - 1) n by rw [EO.out, if_neg hn])
    clear hn
    go_enter Try.func54, Try.ntmps54
    go_wp2_with fail
    refine (count19_any _ _).mono ?_; rintro e w1 ⟨rfl, b1⟩
    go_wp2_with fail
    refine (count19_any _ _).mono ?_; rintro e w2 ⟨rfl, b2⟩
    go_wp2_with fail
    refine (HS.out _).mono ?_; rintro e w' ⟨rfl, rfl⟩
    have B2 := Lib.hid (HB.out.below b1)
    have B3 := Lib.hid (B2.out.below b2)
    have c0 := B3.out.cell 0
    have c1 := B3.out.cell 1
    have c2 := B3.out.cell 2
    have c3 := B3.out.cell 3
    have c4 := B3.out.cell 4
    have c5 := B3.out.cell 5
    have c6 := B3.out.cell 6
    go_wp2_with fail
    refine (first_any _ _ _ _ _ _ _ _).mono ?_; rintro e w3 ⟨rfl, b3⟩
    clear c0 c1 c2 c3 c4 c5 c6
    go_wp2_with fail
    refine (sub_any _ _ _).mono ?_; rintro e w4 ⟨rfl, b4⟩
    rw [h2'.out]
    go_wp2_with fail
    refine (together_any _ _ (by omega) (by omega) _ _ (lit_row _ _ _)).mono ?_; rintro e w5 ⟨rfl, b5⟩
    go_wp2_with fail
    go_ret
    have q1 := ((Below.refl w.heap.size w).alloc (Nat.le_refl _) _).trans (b1.mono (by simp))
    have q2 := q1.trans (b2.mono q1.size)
    have q3 := q2.trans (b3.mono q2.size)
    have q4 := q3.trans (b4.mono q3.size)
    have q5 := (q4.alloc q4.size _).trans (b5.mono (Nat.le_trans q4.size (by simp)))
    exact ⟨ret_int EO2.out.symm, q5⟩
theorem below_al {B : Nat} {a b : World} (hB : B ≤ a.heap.size) (h : Below B a b) (o : Obj) : Below B a (b.alloc o) := h.alloc (Nat.le_trans hB h.size) o
theorem kn_at (w : World) (cs : Array Value) (t : TypeId) (i : Nat) (W : World) (hW : Below (w.heap.size + 1) (w.alloc (.cells cs t)) W) : W.cell? ⟨w.heap.size, i, none⟩ = cs[i]? :=
  (hW.cell (p := ⟨w.heap.size, i, none⟩) (by simp)).trans ((Bk.new w t cs).cell i)
theorem bright19_any (k0 k1 k2 k3 k4 k5 k6 : Int) (a b : Int) (w : World) :
    Calls Try.prog 55 #[.agg #[.int .i64 k0, .int .i64 k1, .int .i64 k2, .int .i64 k3, .int .i64 k4, .int .i64 k5, .int .i64 k6], .int .i64 a, .int .i64 b] w fun e w' => e = .returned (.int .i64 (brightF k6 a b)) ∧ Below w.heap.size w w' := by
  have h1 := kc a
  have h2 := kc b
  have hs : stepsC (kp a cMost) (kp b cMost) = stepsC a b := by unfold stepsC; rw [kpk, kpk]
  have hst := steps_any (kp a cMost) (kp b cMost) h1.1 h1.2 h2.1 h2.2
  rw [hs] at hst
  have HS := Lib.hid hst
  have hm := mul_one k6 (stepsC a b)
  clear hst hs h1 h2
  by_cases h : k6 < 1
  · rw [if_pos h] at hm
    have HM := Lib.hid hm
    clear hm
    have hBa := Lib.hid (show w.heap.size + 1 ≤ (w.alloc (.cells #[.int .i64 k0, .int .i64 k1, .int .i64 k2, .int .i64 k3, .int .i64 k4, .int .i64 k5, .int .i64 k6] 23)).heap.size by simp)
    have at6 := Lib.hid (kn_at w #[.int .i64 k0, .int .i64 k1, .int .i64 k2, .int .i64 k3, .int .i64 k4, .int .i64 k5, .int .i64 k6] 23 6)
    go_enter Try.func55, Try.ntmps55
    go_wp2_with fail
    have bb : Below (w.heap.size + 1) (w.alloc (.cells #[.int .i64 k0, .int .i64 k1, .int .i64 k2, .int .i64 k3, .int .i64 k4, .int .i64 k5, .int .i64 k6] 23)) (w.alloc (.cells #[.int .i64 k0, .int .i64 k1, .int .i64 k2, .int .i64 k3, .int .i64 k4, .int .i64 k5, .int .i64 k6] 23)).drew := (Below.refl _ _).drew
    go_region_held3 (fun W => W.cell? ⟨w.heap.size, 6, none⟩ = some (.int .i64 k6)) (first | (go_keep; done) | exact at6.out _ (by assumption)) (first
      | (go_at_call 78; refine (count19_any _ _).mono ?_; rintro e w1 ⟨rfl, b1⟩; have bb := below_step hBa.out (by assumption) b1; clear b1)
      | (go_at_call 77; refine (HS.out _).mono ?_; rintro e w' ⟨rfl, rfl⟩)
      | (go_at_call 80; refine (mul_any _ _ _).mono ?_; rintro e w1 ⟨rfl, b1⟩; have bb := below_step hBa.out (by assumption) b1; clear b1))
    all_goals
      go_wp2_with fail
      go_ret
      exact ⟨ret_int HM.out, ((Below.refl w.heap.size w).alloc (Nat.le_refl _) _).trans (bb.mono (by omega))⟩
  · rw [if_neg h] at hm
    have HM := Lib.hid hm
    clear hm
    have hBa := Lib.hid (show w.heap.size + 1 ≤ (w.alloc (.cells #[.int .i64 k0, .int .i64 k1, .int .i64 k2, .int .i64 k3, .int .i64 k4, .int .i64 k5, .int .i64 k6] 23)).heap.size by simp)
    have at6 := Lib.hid (kn_at w #[.int .i64 k0, .int .i64 k1, .int .i64 k2, .int .i64 k3, .int .i64 k4, .int .i64 k5, .int .i64 k6] 23 6)
    go_enter Try.func55, Try.ntmps55
    go_wp2_with fail
    have bb : Below (w.heap.size + 1) (w.alloc (.cells #[.int .i64 k0, .int .i64 k1, .int .i64 k2, .int .i64 k3, .int .i64 k4, .int .i64 k5, .int .i64 k6] 23)) (w.alloc (.cells #[.int .i64 k0, .int .i64 k1, .int .i64 k2, .int .i64 k3, .int .i64 k4, .int .i64 k5, .int .i64 k6] 23)).drew := (Below.refl _ _).drew
    go_region_held3 (fun W => W.cell? ⟨w.heap.size, 6, none⟩ = some (.int .i64 k6)) (first | (go_keep; done) | exact at6.out _ (by assumption)) (first
      | (go_at_call 78; refine (count19_any _ _).mono ?_; rintro e w1 ⟨rfl, b1⟩; have bb := below_step hBa.out (by assumption) b1; clear b1)
      | (go_at_call 77; refine (HS.out _).mono ?_; rintro e w' ⟨rfl, rfl⟩)
      | (go_at_call 80; refine (mul_any _ _ _).mono ?_; rintro e w1 ⟨rfl, b1⟩; have bb := below_step hBa.out (by assumption) b1; clear b1))
    all_goals
      go_wp2_with fail
      go_ret
      exact ⟨ret_int HM.out, ((Below.refl w.heap.size w).alloc (Nat.le_refl _) _).trans (bb.mono (by omega))⟩
theorem windows_any (k0 k1 k2 k3 k4 k5 k6 : Int) (a l c n : Int) (w : World) :
    Calls Try.prog 35 #[.agg #[.int .i64 k0, .int .i64 k1, .int .i64 k2, .int .i64 k3, .int .i64 k4, .int .i64 k5, .int .i64 k6], .int .i64 a, .int .i64 l, .int .i64 c, .int .i64 n] w fun e w' => e = .returned (.int .i64 (windowsF k5 k6 a l c n)) ∧ Below w.heap.size w w' := by
  have ho := openF_b k5 a l
  have EW := Lib.hid (show windowsF k5 k6 a l c n = addC (openF k5 a l) (brightF k6 c n) from rfl)
  have hBa := Lib.hid (show w.heap.size + 1 ≤ (w.alloc (.cells #[.int .i64 k0, .int .i64 k1, .int .i64 k2, .int .i64 k3, .int .i64 k4, .int .i64 k5, .int .i64 k6] 23)).heap.size by simp)
  have at_ := Lib.hid (fun (W : World) (h : Below (w.heap.size + 1) (w.alloc (.cells #[.int .i64 k0, .int .i64 k1, .int .i64 k2, .int .i64 k3, .int .i64 k4, .int .i64 k5, .int .i64 k6] 23)) W) => (show W.cell? ⟨w.heap.size, 0, none⟩ = some (.int .i64 k0) ∧ W.cell? ⟨w.heap.size, 1, none⟩ = some (.int .i64 k1) ∧ W.cell? ⟨w.heap.size, 2, none⟩ = some (.int .i64 k2) ∧ W.cell? ⟨w.heap.size, 3, none⟩ = some (.int .i64 k3) ∧ W.cell? ⟨w.heap.size, 4, none⟩ = some (.int .i64 k4) ∧ W.cell? ⟨w.heap.size, 5, none⟩ = some (.int .i64 k5) ∧ W.cell? ⟨w.heap.size, 6, none⟩ = some (.int .i64 k6) from ⟨kn_at _ _ _ 0 _ h, kn_at _ _ _ 1 _ h, kn_at _ _ _ 2 _ h, kn_at _ _ _ 3 _ h, kn_at _ _ _ 4 _ h, kn_at _ _ _ 5 _ h, kn_at _ _ _ 6 _ h⟩))
  go_enter Try.func35, Try.ntmps35
  go_wp2_with fail
  have bb : Below (w.heap.size + 1) (w.alloc (.cells #[.int .i64 k0, .int .i64 k1, .int .i64 k2, .int .i64 k3, .int .i64 k4, .int .i64 k5, .int .i64 k6] 23)) (w.alloc (.cells #[.int .i64 k0, .int .i64 k1, .int .i64 k2, .int .i64 k3, .int .i64 k4, .int .i64 k5, .int .i64 k6] 23)).drew := (Below.refl _ _).drew
  go_region_held3 (fun W => W.cell? ⟨w.heap.size, 0, none⟩ = some (.int .i64 k0) ∧ W.cell? ⟨w.heap.size, 1, none⟩ = some (.int .i64 k1) ∧ W.cell? ⟨w.heap.size, 2, none⟩ = some (.int .i64 k2) ∧ W.cell? ⟨w.heap.size, 3, none⟩ = some (.int .i64 k3) ∧ W.cell? ⟨w.heap.size, 4, none⟩ = some (.int .i64 k4) ∧ W.cell? ⟨w.heap.size, 5, none⟩ = some (.int .i64 k5) ∧ W.cell? ⟨w.heap.size, 6, none⟩ = some (.int .i64 k6)) (first | (go_keep; done) | exact at_.out _ (by assumption) | exact at_.out _ (below_al hBa.out (by assumption) _)) (first
    | (go_at_call 54; refine (open19_any _ _ _ _ _ _ _ _ _ _).mono ?_; rintro e w1 ⟨rfl, b1⟩; have bb := below_step hBa.out (by assumption) b1; clear b1)
    | (go_at_call 55; refine (bright19_any _ _ _ _ _ _ _ _ _ _).mono ?_; rintro e w1 ⟨rfl, b1⟩; have bb := below_step hBa.out (by assumption) b1; clear b1)
    | (go_at_call 53; refine (together_any _ _ (by omega) (by omega) _ _ (lit_row _ _ _)).mono ?_; rintro e w1 ⟨rfl, b1⟩; have bb := below_step hBa.out (below_al hBa.out (by assumption) _) b1; clear b1))
  go_wp2_with fail
  go_ret
  exact ⟨ret_int EW.out.symm, ((Below.refl w.heap.size w).alloc (Nat.le_refl _) _).trans (bb.mono (by omega))⟩
/-! ### the plain answers -/
end Go.Proofs.Ythememoflnocnaa
namespace Go.Proofs.Ythememoflnocnaa.AE
set_option maxRecDepth 100000
open Go.RowKit
def wnP (W : Int → Int → Int → Int → Int → Int → Int) : List Value → Option (Value × Bool) := fun us => match us with
  | [.agg l, .int .i64 t, .int .i64 n, .int .i64 k, .int .i64 m] => match l.toList with
    | [.int .i64 _, .int .i64 _, .int .i64 _, .int .i64 _, .int .i64 _, .int .i64 f, .int .i64 g] => some (.int .i64 (W f g t n k m), true)
    | _ => none
  | _ => none
noncomputable def prE (S : CS) (W : Int → Int → Int → Int → Int → Int → Int) : FuncId → Option (List AV → AH → Ans) := fun g => match g with
  | 35 => some (pure? (wnP W))
  | 25 => some (look? (obT 70 fun C args => match args with
    | [] => some (gi (S.dt C), C, S.okd C)
    | _ => none))
  | _ => none
theorem c_cal (S : CS) (W : Int → Int → Int → Int → Int → Int → Int) (a b c d e f g l m t p : Int) (T D C L : List AV) (Φ : AV → AH → Prop) : callK nro mu0 (prE S W) 10 14 [.ptr 0 0] (coH a b c d e f g l m t p T D C L) (fun r h => some (h.cd ∧ Φ r (tidy h))) =
    (bif (l == (0 : Int)) then (some (True ∧ (Φ (AV.v (Value.int IntKind.i64 (0 : Int))) (AH.mk [((60 : Nat), [(AV.ptr (1 : Nat) (0 : Nat)), (AV.ptr (2 : Nat) (0 : Nat)), (AV.v (Value.int IntKind.i64 a)), (AV.v (Value.int IntKind.i64 b)), (AV.v (Value.int IntKind.i64 c)), (AV.v (Value.int IntKind.i64 d)), (AV.v (Value.int IntKind.i64 e)), (AV.v (Value.int IntKind.i64 f)), (AV.v (Value.int IntKind.i64 g)), (AV.v (Value.int IntKind.i64 l)), (AV.v (Value.int IntKind.i64 m)), (AV.v (Value.int IntKind.i64 t)), (AV.v (Value.int IntKind.i64 p)), (AV.ptr (3 : Nat) (0 : Nat)), (AV.ptr (4 : Nat) (0 : Nat))]), ((75 : Nat), T), ((70 : Nat), D), ((68 : Nat), C), ((78 : Nat), L)] (@List.nil Nat) (0 : Nat) (0 : Nat) true (@List.nil (Prod Nat Bool)) True)))) else (bif (l == (0 : Int)) then (some (True ∧ (Φ (AV.v (Value.int IntKind.i64 (W f g t l (0 : Int) m))) (AH.mk [((60 : Nat), [(AV.ptr (1 : Nat) (0 : Nat)), (AV.ptr (2 : Nat) (0 : Nat)), (AV.v (Value.int IntKind.i64 a)), (AV.v (Value.int IntKind.i64 b)), (AV.v (Value.int IntKind.i64 c)), (AV.v (Value.int IntKind.i64 d)), (AV.v (Value.int IntKind.i64 e)), (AV.v (Value.int IntKind.i64 f)), (AV.v (Value.int IntKind.i64 g)), (AV.v (Value.int IntKind.i64 l)), (AV.v (Value.int IntKind.i64 m)), (AV.v (Value.int IntKind.i64 t)), (AV.v (Value.int IntKind.i64 p)), (AV.ptr (3 : Nat) (0 : Nat)), (AV.ptr (4 : Nat) (0 : Nat))]), ((75 : Nat), T), ((70 : Nat), D), ((68 : Nat), C), ((78 : Nat), L)] (@List.nil Nat) (0 : Nat) (0 : Nat) true (@List.nil (Prod Nat Bool)) True)))) else (some (((cdb True (((Nat.beq (70 : Nat) (70 : Nat)) && ((S).11 D)) && (((plainC D) && true) && ((plainC D) && true)))) ∧ ([((60 : Nat), [(AV.ptr (1 : Nat) (0 : Nat)), (AV.ptr (2 : Nat) (0 : Nat)), (AV.v (Value.int IntKind.i64 a)), (AV.v (Value.int IntKind.i64 b)), (AV.v (Value.int IntKind.i64 c)), (AV.v (Value.int IntKind.i64 d)), (AV.v (Value.int IntKind.i64 e)), (AV.v (Value.int IntKind.i64 f)), (AV.v (Value.int IntKind.i64 g)), (AV.v (Value.int IntKind.i64 l)), (AV.v (Value.int IntKind.i64 m)), (AV.v (Value.int IntKind.i64 t)), (AV.v (Value.int IntKind.i64 p)), (AV.ptr (3 : Nat) (0 : Nat)), (AV.ptr (4 : Nat) (0 : Nat))]), ((75 : Nat), T), ((70 : Nat), D), ((68 : Nat), C), ((78 : Nat), L)] = [((60 : Nat), [(AV.ptr (1 : Nat) (0 : Nat)), (AV.ptr (2 : Nat) (0 : Nat)), (AV.v (Value.int IntKind.i64 a)), (AV.v (Value.int IntKind.i64 b)), (AV.v (Value.int IntKind.i64 c)), (AV.v (Value.int IntKind.i64 d)), (AV.v (Value.int IntKind.i64 e)), (AV.v (Value.int IntKind.i64 f)), (AV.v (Value.int IntKind.i64 g)), (AV.v (Value.int IntKind.i64 l)), (AV.v (Value.int IntKind.i64 m)), (AV.v (Value.int IntKind.i64 t)), (AV.v (Value.int IntKind.i64 p)), (AV.ptr (3 : Nat) (0 : Nat)), (AV.ptr (4 : Nat) (0 : Nat))]), ((75 : Nat), T), ((70 : Nat), D), ((68 : Nat), C), ((78 : Nat), L)])) ∧ (Φ (AV.v (Value.int IntKind.i64 (W f g t l ((S).15 D) m))) (AH.mk [((60 : Nat), [(AV.ptr (1 : Nat) (0 : Nat)), (AV.ptr (2 : Nat) (0 : Nat)), (AV.v (Value.int IntKind.i64 a)), (AV.v (Value.int IntKind.i64 b)), (AV.v (Value.int IntKind.i64 c)), (AV.v (Value.int IntKind.i64 d)), (AV.v (Value.int IntKind.i64 e)), (AV.v (Value.int IntKind.i64 f)), (AV.v (Value.int IntKind.i64 g)), (AV.v (Value.int IntKind.i64 l)), (AV.v (Value.int IntKind.i64 m)), (AV.v (Value.int IntKind.i64 t)), (AV.v (Value.int IntKind.i64 p)), (AV.ptr (3 : Nat) (0 : Nat)), (AV.ptr (4 : Nat) (0 : Nat))]), ((75 : Nat), T), ((70 : Nat), D), ((68 : Nat), C), ((78 : Nat), L)] (@List.nil Nat) (0 : Nat) (0 : Nat) true (@List.nil (Prod Nat Bool)) True)))))) := by kernel_rfl
end Go.Proofs.Ythememoflnocnaa.AE
namespace Go.Proofs.Ythememoflnocnaa.AE
set_option maxRecDepth 100000
open Go.RowKit
noncomputable def prO (M : MS) (K : KS) (cal : St → Int) (y : Bool) : FuncId → Option (List AV → AH → Ans) := fun g => match g with
  | 6 => some (obj? (oNewC K y))
  | 10 => some (obj? (stO (actF M K)))
  | 5 => some (pure? awakeS)
  | 15 => some (obj? (stO (m1F M (fun s n => .v (.bool (M.sB s n))) M.saw)))
  | 16 => some (obj? (stO (m1F M (fun _ _ => .v (.tuple #[])) M.wtd)))
  | 12 => some (obj? (stO (m0F M (cloV M) M.clo)))
  | 7 => some (peek? (stP (m0P M fun s => gi s.t)))
  | 8 => some (peek? (stP (m0P M fun s => gi (M.dt s))))
  | 13 => some (peek? (stP (m0P M knbA)))
  | 14 => some (peek? (stP (m0P M fun s => gi (cal s))))
  | _ => none
def muO : FuncId → Bool := fun g => Nat.beq g 15
def u8V (x : Int) : AV := .v (.int .u8 x)
def rl8 (z : List Int) : AV := .lst 1 (z.map u8V) .no
def coO (s : St) : List AV := [.ptr 4 0, .ptr 3 0, gi s.a, gi s.b, gi s.c, gi s.d, gi s.e, gi s.f, gi s.g, gi s.l, gi s.m, gi s.t, gi s.p, .ptr 2 0, .ptr 5 0]
def oHb (n m a b c d e f g : Int) (s : St) : List (TypeId × List AV) := [(25, ofC n m a b c d e f g), (23, [gi a, gi b, gi c, gi d, gi e, gi f, gi g]), (68, s.C), (70, s.D), (75, s.T), (78, s.L), (60, coO s)]
def oH (n m a b c d e f g : Int) (s : St) : AH := hp (oHb n m a b c d e f g s) []
def oS (l z i n j k : AV) : List AV := [.dead, l, z, .ptr 0 0, .dead, .dead, .dead, .ptr 6 0, .dead, i, n, j, k] ++ ded 95
theorem o_pre1 (M : MS) (K : KS) (cal : St → Int) (l : List (Nat → Int)) (z : List Int) (n m a b c d e f g : Int) (R : Exit → List AV → AH → Prop) : codeL nro mu0 (prO M K cal true) 12 ((flatten (bodyOf 4)).take 6) ([agN n m a b c d e f g, acs l, rl8 z] ++ und 105) (hp [] []) (kp [1, 2, 3, 6, 7] R) =
    (bif (decide ((150 : Int) < ((List.length (List.map acV l)) : Int))) then (some (True ∧ (R Exit.ret [AV.dead, (AV.lst (9 : Nat) (List.map acV l) Tip.no), (AV.lst (1 : Nat) (List.map u8V z) Tip.no), (AV.ptr (0 : Nat) (0 : Nat)), AV.dead, AV.dead, (AV.v (Value.bool true)), (AV.v (Value.tuple (Array.mk (@List.nil Go.Value)))), AV.dead, AV.dead, AV.dead, AV.dead, AV.dead, AV.dead, AV.dead, AV.dead, AV.dead, AV.dead, AV.dead, AV.dead, AV.dead, AV.dead, AV.dead, AV.dead, AV.dead, AV.dead, AV.dead, AV.dead, AV.dead, AV.dead, AV.dead, AV.dead, AV.dead, AV.dead, AV.dead, AV.dead, AV.dead, AV.dead, AV.dead, AV.dead, AV.dead, AV.dead, AV.dead, AV.dead, AV.dead, AV.dead, AV.dead, AV.dead, AV.dead, AV.dead, AV.dead, AV.dead, AV.dead, AV.dead, AV.dead, AV.dead, AV.dead, AV.dead, AV.dead, AV.dead, AV.dead, AV.dead, AV.dead, AV.dead, AV.dead, AV.dead, AV.dead, AV.dead, AV.dead, AV.dead, AV.dead, AV.dead, AV.dead, AV.dead, AV.dead, AV.dead, AV.dead, AV.dead, AV.dead, AV.dead, AV.dead, AV.dead, AV.dead, AV.dead, AV.dead, AV.dead, AV.dead, AV.dead, AV.dead, AV.dead, AV.dead, AV.dead, AV.dead, AV.dead, AV.dead, AV.dead, AV.dead, AV.dead, AV.dead, AV.dead, AV.dead, AV.dead, AV.dead, AV.dead, AV.dead, AV.dead, AV.dead, AV.dead] (AH.mk [((25 : Nat), [(AV.v (Value.int IntKind.i64 n)), (AV.v (Value.int IntKind.i64 m)), (AV.v (Value.int IntKind.i64 a)), (AV.v (Value.int IntKind.i64 b)), (AV.v (Value.int IntKind.i64 c)), (AV.v (Value.int IntKind.i64 d)), (AV.v (Value.int IntKind.i64 e)), (AV.v (Value.int IntKind.i64 f)), (AV.v (Value.int IntKind.i64 g))])] (@List.nil Nat) (0 : Nat) (0 : Nat) true (@List.nil (Prod Nat Bool)) True)))) else (some ((cdb True (((K).2 n m a b c d e f g) && (true && ((plainC [(AV.v (Value.int IntKind.i64 a)), (AV.v (Value.int IntKind.i64 b)), (AV.v (Value.int IntKind.i64 c)), (AV.v (Value.int IntKind.i64 d)), (AV.v (Value.int IntKind.i64 e)), (AV.v (Value.int IntKind.i64 f)), (AV.v (Value.int IntKind.i64 g))]) && ((plainC ((K).1 n)) && ((plainC [(AV.v (Value.int IntKind.i64 m)), (AV.v (Value.int IntKind.i64 m)), (AV.v (Value.int IntKind.i64 (32 : Int))), (AV.v (Value.bool true))]) && ((plainC [(AV.v (Value.int IntKind.i64 (0 : Int))), (AV.v (Value.int IntKind.i64 (0 : Int)))]) && ((plainC [(AV.v (Value.int IntKind.i64 (0 : Int))), (AV.v (Value.int IntKind.i64 (0 : Int))), (AV.v (Value.int IntKind.i64 (0 : Int)))]) && true)))))))) ∧ (R Exit.normal [AV.dead, (AV.lst (9 : Nat) (List.map acV l) Tip.no), (AV.lst (1 : Nat) (List.map u8V z) Tip.no), (AV.ptr (0 : Nat) (0 : Nat)), AV.dead, AV.dead, (AV.v (Value.bool false)), (AV.ptr ((List.length [((25 : Nat), [(AV.v (Value.int IntKind.i64 n)), (AV.v (Value.int IntKind.i64 m)), (AV.v (Value.int IntKind.i64 a)), (AV.v (Value.int IntKind.i64 b)), (AV.v (Value.int IntKind.i64 c)), (AV.v (Value.int IntKind.i64 d)), (AV.v (Value.int IntKind.i64 e)), (AV.v (Value.int IntKind.i64 f)), (AV.v (Value.int IntKind.i64 g))])]) + (5 : Nat)) (0 : Nat)), AV.dead, AV.dead, AV.dead, AV.dead, AV.dead, AV.dead, AV.dead, AV.dead, AV.dead, AV.dead, AV.dead, AV.dead, AV.dead, AV.dead, AV.dead, AV.dead, AV.dead, AV.dead, AV.dead, AV.dead, AV.dead, AV.dead, AV.dead, AV.dead, AV.dead, AV.dead, AV.dead, AV.dead, AV.dead, AV.dead, AV.dead, AV.dead, AV.dead, AV.dead, AV.dead, AV.dead, AV.dead, AV.dead, AV.dead, AV.dead, AV.dead, AV.dead, AV.dead, AV.dead, AV.dead, AV.dead, AV.dead, AV.dead, AV.dead, AV.dead, AV.dead, AV.dead, AV.dead, AV.dead, AV.dead, AV.dead, AV.dead, AV.dead, AV.dead, AV.dead, AV.dead, AV.dead, AV.dead, AV.dead, AV.dead, AV.dead, AV.dead, AV.dead, AV.dead, AV.dead, AV.dead, AV.dead, AV.dead, AV.dead, AV.dead, AV.dead, AV.dead, AV.dead, AV.dead, AV.dead, AV.dead, AV.dead, AV.dead, AV.dead, AV.dead, AV.dead, AV.dead, AV.dead, AV.dead, AV.dead, AV.dead, AV.dead, AV.dead, AV.dead, AV.dead, AV.dead, AV.dead, AV.dead, AV.dead, AV.dead] (AH.mk [((25 : Nat), [(AV.v (Value.int IntKind.i64 n)), (AV.v (Value.int IntKind.i64 m)), (AV.v (Value.int IntKind.i64 a)), (AV.v (Value.int IntKind.i64 b)), (AV.v (Value.int IntKind.i64 c)), (AV.v (Value.int IntKind.i64 d)), (AV.v (Value.int IntKind.i64 e)), (AV.v (Value.int IntKind.i64 f)), (AV.v (Value.int IntKind.i64 g))]), ((23 : Nat), [(AV.v (Value.int IntKind.i64 a)), (AV.v (Value.int IntKind.i64 b)), (AV.v (Value.int IntKind.i64 c)), (AV.v (Value.int IntKind.i64 d)), (AV.v (Value.int IntKind.i64 e)), (AV.v (Value.int IntKind.i64 f)), (AV.v (Value.int IntKind.i64 g))]), ((68 : Nat), ((K).1 n)), ((70 : Nat), [(AV.v (Value.int IntKind.i64 m)), (AV.v (Value.int IntKind.i64 m)), (AV.v (Value.int IntKind.i64 (32 : Int))), (AV.v (Value.bool true))]), ((75 : Nat), [(AV.v (Value.int IntKind.i64 (0 : Int))), (AV.v (Value.int IntKind.i64 (0 : Int)))]), ((78 : Nat), [(AV.v (Value.int IntKind.i64 (0 : Int))), (AV.v (Value.int IntKind.i64 (0 : Int))), (AV.v (Value.int IntKind.i64 (0 : Int)))]), ((60 : Nat), [(AV.ptr ((List.length [((25 : Nat), [(AV.v (Value.int IntKind.i64 n)), (AV.v (Value.int IntKind.i64 m)), (AV.v (Value.int IntKind.i64 a)), (AV.v (Value.int IntKind.i64 b)), (AV.v (Value.int IntKind.i64 c)), (AV.v (Value.int IntKind.i64 d)), (AV.v (Value.int IntKind.i64 e)), (AV.v (Value.int IntKind.i64 f)), (AV.v (Value.int IntKind.i64 g))])]) + (3 : Nat)) (0 : Nat)), (AV.ptr ((List.length [((25 : Nat), [(AV.v (Value.int IntKind.i64 n)), (AV.v (Value.int IntKind.i64 m)), (AV.v (Value.int IntKind.i64 a)), (AV.v (Value.int IntKind.i64 b)), (AV.v (Value.int IntKind.i64 c)), (AV.v (Value.int IntKind.i64 d)), (AV.v (Value.int IntKind.i64 e)), (AV.v (Value.int IntKind.i64 f)), (AV.v (Value.int IntKind.i64 g))])]) + (2 : Nat)) (0 : Nat)), (AV.v (Value.int IntKind.i64 a)), (AV.v (Value.int IntKind.i64 b)), (AV.v (Value.int IntKind.i64 c)), (AV.v (Value.int IntKind.i64 d)), (AV.v (Value.int IntKind.i64 e)), (AV.v (Value.int IntKind.i64 f)), (AV.v (Value.int IntKind.i64 g)), (AV.v (Value.int IntKind.i64 n)), (AV.v (Value.int IntKind.i64 m)), (AV.v (Value.int IntKind.i64 n)), (AV.v (Value.int IntKind.i64 (1 : Int))), (AV.ptr ((List.length [((25 : Nat), [(AV.v (Value.int IntKind.i64 n)), (AV.v (Value.int IntKind.i64 m)), (AV.v (Value.int IntKind.i64 a)), (AV.v (Value.int IntKind.i64 b)), (AV.v (Value.int IntKind.i64 c)), (AV.v (Value.int IntKind.i64 d)), (AV.v (Value.int IntKind.i64 e)), (AV.v (Value.int IntKind.i64 f)), (AV.v (Value.int IntKind.i64 g))])]) + (1 : Nat)) (0 : Nat)), (AV.ptr ((List.length [((25 : Nat), [(AV.v (Value.int IntKind.i64 n)), (AV.v (Value.int IntKind.i64 m)), (AV.v (Value.int IntKind.i64 a)), (AV.v (Value.int IntKind.i64 b)), (AV.v (Value.int IntKind.i64 c)), (AV.v (Value.int IntKind.i64 d)), (AV.v (Value.int IntKind.i64 e)), (AV.v (Value.int IntKind.i64 f)), (AV.v (Value.int IntKind.i64 g))])]) + (4 : Nat)) (0 : Nat))])] (@List.nil Nat) (0 : Nat) (0 : Nat) true (@List.nil (Prod Nat Bool)) True))))) := by kernel_rfl
theorem o_pre0 (M : MS) (K : KS) (cal : St → Int) (l : List (Nat → Int)) (z : List Int) (n m a b c d e f g : Int) (R : Exit → List AV → AH → Prop) : codeL nro mu0 (prO M K cal false) 12 ((flatten (bodyOf 4)).take 6) ([agN n m a b c d e f g, acs l, rl8 z] ++ und 105) (hp [] []) (kp [6] R) =
    (bif (decide ((150 : Int) < ((List.length (List.map acV l)) : Int))) then (some (True ∧ (R Exit.ret [AV.dead, AV.dead, AV.dead, AV.dead, AV.dead, AV.dead, (AV.v (Value.bool true)), AV.dead, AV.dead, AV.dead, AV.dead, AV.dead, AV.dead, AV.dead, AV.dead, AV.dead, AV.dead, AV.dead, AV.dead, AV.dead, AV.dead, AV.dead, AV.dead, AV.dead, AV.dead, AV.dead, AV.dead, AV.dead, AV.dead, AV.dead, AV.dead, AV.dead, AV.dead, AV.dead, AV.dead, AV.dead, AV.dead, AV.dead, AV.dead, AV.dead, AV.dead, AV.dead, AV.dead, AV.dead, AV.dead, AV.dead, AV.dead, AV.dead, AV.dead, AV.dead, AV.dead, AV.dead, AV.dead, AV.dead, AV.dead, AV.dead, AV.dead, AV.dead, AV.dead, AV.dead, AV.dead, AV.dead, AV.dead, AV.dead, AV.dead, AV.dead, AV.dead, AV.dead, AV.dead, AV.dead, AV.dead, AV.dead, AV.dead, AV.dead, AV.dead, AV.dead, AV.dead, AV.dead, AV.dead, AV.dead, AV.dead, AV.dead, AV.dead, AV.dead, AV.dead, AV.dead, AV.dead, AV.dead, AV.dead, AV.dead, AV.dead, AV.dead, AV.dead, AV.dead, AV.dead, AV.dead, AV.dead, AV.dead, AV.dead, AV.dead, AV.dead, AV.dead, AV.dead, AV.dead, AV.dead, AV.dead, AV.dead, AV.dead] (AH.mk [((25 : Nat), [(AV.v (Value.int IntKind.i64 n)), (AV.v (Value.int IntKind.i64 m)), (AV.v (Value.int IntKind.i64 a)), (AV.v (Value.int IntKind.i64 b)), (AV.v (Value.int IntKind.i64 c)), (AV.v (Value.int IntKind.i64 d)), (AV.v (Value.int IntKind.i64 e)), (AV.v (Value.int IntKind.i64 f)), (AV.v (Value.int IntKind.i64 g))])] (@List.nil Nat) (0 : Nat) (0 : Nat) true (@List.nil (Prod Nat Bool)) True)))) else (bif (((K).3 n m a b c d e f g) != (0 : Int)) then (some ((cdb True ((!((K).2 n m a b c d e f g)) && true)) ∧ (R Exit.ret [AV.dead, AV.dead, AV.dead, AV.dead, AV.dead, AV.dead, (AV.v (Value.bool true)), AV.dead, AV.dead, AV.dead, AV.dead, AV.dead, AV.dead, AV.dead, AV.dead, AV.dead, AV.dead, AV.dead, AV.dead, AV.dead, AV.dead, AV.dead, AV.dead, AV.dead, AV.dead, AV.dead, AV.dead, AV.dead, AV.dead, AV.dead, AV.dead, AV.dead, AV.dead, AV.dead, AV.dead, AV.dead, AV.dead, AV.dead, AV.dead, AV.dead, AV.dead, AV.dead, AV.dead, AV.dead, AV.dead, AV.dead, AV.dead, AV.dead, AV.dead, AV.dead, AV.dead, AV.dead, AV.dead, AV.dead, AV.dead, AV.dead, AV.dead, AV.dead, AV.dead, AV.dead, AV.dead, AV.dead, AV.dead, AV.dead, AV.dead, AV.dead, AV.dead, AV.dead, AV.dead, AV.dead, AV.dead, AV.dead, AV.dead, AV.dead, AV.dead, AV.dead, AV.dead, AV.dead, AV.dead, AV.dead, AV.dead, AV.dead, AV.dead, AV.dead, AV.dead, AV.dead, AV.dead, AV.dead, AV.dead, AV.dead, AV.dead, AV.dead, AV.dead, AV.dead, AV.dead, AV.dead, AV.dead, AV.dead, AV.dead, AV.dead, AV.dead, AV.dead, AV.dead, AV.dead, AV.dead, AV.dead, AV.dead, AV.dead] (AH.mk [((25 : Nat), [(AV.v (Value.int IntKind.i64 n)), (AV.v (Value.int IntKind.i64 m)), (AV.v (Value.int IntKind.i64 a)), (AV.v (Value.int IntKind.i64 b)), (AV.v (Value.int IntKind.i64 c)), (AV.v (Value.int IntKind.i64 d)), (AV.v (Value.int IntKind.i64 e)), (AV.v (Value.int IntKind.i64 f)), (AV.v (Value.int IntKind.i64 g))])] (@List.nil Nat) (0 : Nat) (0 : Nat) true (@List.nil (Prod Nat Bool)) True)))) else (some ((cdb True ((!((K).2 n m a b c d e f g)) && true)) ∧ (R Exit.normal [AV.dead, AV.dead, AV.dead, AV.dead, AV.dead, AV.dead, (AV.v (Value.bool false)), AV.dead, AV.dead, AV.dead, AV.dead, AV.dead, AV.dead, AV.dead, AV.dead, AV.dead, AV.dead, AV.dead, AV.dead, AV.dead, AV.dead, AV.dead, AV.dead, AV.dead, AV.dead, AV.dead, AV.dead, AV.dead, AV.dead, AV.dead, AV.dead, AV.dead, AV.dead, AV.dead, AV.dead, AV.dead, AV.dead, AV.dead, AV.dead, AV.dead, AV.dead, AV.dead, AV.dead, AV.dead, AV.dead, AV.dead, AV.dead, AV.dead, AV.dead, AV.dead, AV.dead, AV.dead, AV.dead, AV.dead, AV.dead, AV.dead, AV.dead, AV.dead, AV.dead, AV.dead, AV.dead, AV.dead, AV.dead, AV.dead, AV.dead, AV.dead, AV.dead, AV.dead, AV.dead, AV.dead, AV.dead, AV.dead, AV.dead, AV.dead, AV.dead, AV.dead, AV.dead, AV.dead, AV.dead, AV.dead, AV.dead, AV.dead, AV.dead, AV.dead, AV.dead, AV.dead, AV.dead, AV.dead, AV.dead, AV.dead, AV.dead, AV.dead, AV.dead, AV.dead, AV.dead, AV.dead, AV.dead, AV.dead, AV.dead, AV.dead, AV.dead, AV.dead, AV.dead, AV.dead, AV.dead, AV.dead, AV.dead, AV.dead] (AH.mk [((25 : Nat), [(AV.v (Value.int IntKind.i64 n)), (AV.v (Value.int IntKind.i64 m)), (AV.v (Value.int IntKind.i64 a)), (AV.v (Value.int IntKind.i64 b)), (AV.v (Value.int IntKind.i64 c)), (AV.v (Value.int IntKind.i64 d)), (AV.v (Value.int IntKind.i64 e)), (AV.v (Value.int IntKind.i64 f)), (AV.v (Value.int IntKind.i64 g))])] (@List.nil Nat) (0 : Nat) (0 : Nat) true (@List.nil (Prod Nat Bool)) True)))))) := by kernel_rfl
theorem o_i0 (l : List (Nat → Int)) (z : List Int) (B : List (TypeId × List AV)) (R : Exit → List AV → AH → Prop) : codeL nro mu0 (fun _ => none) 12 (((flatten (bodyOf 4)).drop 6).take 1) (oS (acs l) (rl8 z) .dead .dead .dead .dead) (hp B []) (kp [1, 2, 3, 7, 9] R) =
    (some (True ∧ (R Exit.normal [AV.dead, (AV.lst (9 : Nat) (List.map acV l) Tip.no), (AV.lst (1 : Nat) (List.map u8V z) Tip.no), (AV.ptr (0 : Nat) (0 : Nat)), AV.dead, AV.dead, AV.dead, (AV.ptr (6 : Nat) (0 : Nat)), AV.dead, (AV.v (Value.int IntKind.i64 (0 : Int))), AV.dead, AV.dead, AV.dead, AV.dead, AV.dead, AV.dead, AV.dead, AV.dead, AV.dead, AV.dead, AV.dead, AV.dead, AV.dead, AV.dead, AV.dead, AV.dead, AV.dead, AV.dead, AV.dead, AV.dead, AV.dead, AV.dead, AV.dead, AV.dead, AV.dead, AV.dead, AV.dead, AV.dead, AV.dead, AV.dead, AV.dead, AV.dead, AV.dead, AV.dead, AV.dead, AV.dead, AV.dead, AV.dead, AV.dead, AV.dead, AV.dead, AV.dead, AV.dead, AV.dead, AV.dead, AV.dead, AV.dead, AV.dead, AV.dead, AV.dead, AV.dead, AV.dead, AV.dead, AV.dead, AV.dead, AV.dead, AV.dead, AV.dead, AV.dead, AV.dead, AV.dead, AV.dead, AV.dead, AV.dead, AV.dead, AV.dead, AV.dead, AV.dead, AV.dead, AV.dead, AV.dead, AV.dead, AV.dead, AV.dead, AV.dead, AV.dead, AV.dead, AV.dead, AV.dead, AV.dead, AV.dead, AV.dead, AV.dead, AV.dead, AV.dead, AV.dead, AV.dead, AV.dead, AV.dead, AV.dead, AV.dead, AV.dead, AV.dead, AV.dead, AV.dead, AV.dead, AV.dead, AV.dead] (AH.mk B (@List.nil Nat) (0 : Nat) (0 : Nat) true (@List.nil (Prod Nat Bool)) True)))) := by kernel_rfl
theorem o_hd (l : List (Nat → Int)) (z : List Int) (i : Int) (B : List (TypeId × List AV)) (R : Exit → List AV → AH → Prop) : codeL nro mu0 (fun _ => none) 12 ((flatten (sub (bodyOf 4) [1, 1, 1, 1, 0, 1, 0, 0])).take 2) (oS (acs l) (rl8 z) (gi i) .dead .dead .dead) (hp B []) (kp [1, 2, 3, 7, 9] R) =
    (bif (decide (i < ((List.length (List.map acV l)) : Int))) then (some (True ∧ (R Exit.normal [AV.dead, (AV.lst (9 : Nat) (List.map acV l) Tip.no), (AV.lst (1 : Nat) (List.map u8V z) Tip.no), (AV.ptr (0 : Nat) (0 : Nat)), AV.dead, AV.dead, AV.dead, (AV.ptr (6 : Nat) (0 : Nat)), AV.dead, (AV.v (Value.int IntKind.i64 i)), AV.dead, AV.dead, AV.dead, AV.dead, AV.dead, AV.dead, AV.dead, AV.dead, AV.dead, AV.dead, AV.dead, AV.dead, AV.dead, AV.dead, AV.dead, AV.dead, AV.dead, AV.dead, AV.dead, AV.dead, AV.dead, AV.dead, AV.dead, AV.dead, AV.dead, AV.dead, AV.dead, AV.dead, AV.dead, AV.dead, AV.dead, AV.dead, AV.dead, AV.dead, AV.dead, AV.dead, AV.dead, AV.dead, AV.dead, AV.dead, AV.dead, AV.dead, AV.dead, AV.dead, AV.dead, AV.dead, AV.dead, AV.dead, AV.dead, AV.dead, AV.dead, AV.dead, AV.dead, AV.dead, AV.dead, AV.dead, AV.dead, AV.dead, AV.dead, AV.dead, AV.dead, AV.dead, AV.dead, AV.dead, AV.dead, AV.dead, AV.dead, AV.dead, AV.dead, AV.dead, AV.dead, AV.dead, AV.dead, AV.dead, AV.dead, AV.dead, AV.dead, AV.dead, AV.dead, AV.dead, AV.dead, AV.dead, AV.dead, AV.dead, AV.dead, AV.dead, AV.dead, AV.dead, AV.dead, AV.dead, AV.dead, AV.dead, AV.dead, AV.dead, AV.dead, AV.dead, AV.dead, AV.dead] (AH.mk B (@List.nil Nat) (0 : Nat) (0 : Nat) true (@List.nil (Prod Nat Bool)) True)))) else (some (True ∧ (R (Exit.exit (0 : Nat)) [AV.dead, (AV.lst (9 : Nat) (List.map acV l) Tip.no), (AV.lst (1 : Nat) (List.map u8V z) Tip.no), (AV.ptr (0 : Nat) (0 : Nat)), AV.dead, AV.dead, AV.dead, (AV.ptr (6 : Nat) (0 : Nat)), AV.dead, (AV.v (Value.int IntKind.i64 i)), AV.dead, AV.dead, AV.dead, AV.dead, AV.dead, AV.dead, AV.dead, AV.dead, AV.dead, AV.dead, AV.dead, AV.dead, AV.dead, AV.dead, AV.dead, AV.dead, AV.dead, AV.dead, AV.dead, AV.dead, AV.dead, AV.dead, AV.dead, AV.dead, AV.dead, AV.dead, AV.dead, AV.dead, AV.dead, AV.dead, AV.dead, AV.dead, AV.dead, AV.dead, AV.dead, AV.dead, AV.dead, AV.dead, AV.dead, AV.dead, AV.dead, AV.dead, AV.dead, AV.dead, AV.dead, AV.dead, AV.dead, AV.dead, AV.dead, AV.dead, AV.dead, AV.dead, AV.dead, AV.dead, AV.dead, AV.dead, AV.dead, AV.dead, AV.dead, AV.dead, AV.dead, AV.dead, AV.dead, AV.dead, AV.dead, AV.dead, AV.dead, AV.dead, AV.dead, AV.dead, AV.dead, AV.dead, AV.dead, AV.dead, AV.dead, AV.dead, AV.dead, AV.dead, AV.dead, AV.dead, AV.dead, AV.dead, AV.dead, AV.dead, AV.dead, AV.dead, AV.dead, AV.dead, AV.dead, AV.dead, AV.dead, AV.dead, AV.dead, AV.dead, AV.dead, AV.dead, AV.dead, AV.dead] (AH.mk B (@List.nil Nat) (0 : Nat) (0 : Nat) true (@List.nil (Prod Nat Bool)) True))))) := by kernel_rfl
theorem o_b1 (M : MS) (K : KS) (cal : St → Int) (l : List (Nat → Int)) (z : List Int) (i : Int) (n m a b c d e f g : Int) (sa sb sc sd se sf sg sl sm st sp : Int) (T D C L : List AV) (R : Exit → List AV → AH → Prop) : code nro mu0 (prO M K cal true) 12 (sub (bodyOf 4) [1, 1, 1, 1, 0, 1, 0, 0, 1, 0, 0]) (oS (acs l) (rl8 z) (gi i) .dead .dead .dead) (oH n m a b c d e f g ⟨sa, sb, sc, sd, se, sf, sg, sl, sm, st, sp, T, D, C, L⟩) (kp [1, 2, 3, 7, 9] R) =
    (some ((cdb (cds True (elemB Try.prog (36 : Nat) (List.map acV l) i) (((0 : Int) ≤ i) ∧ (((List.map acV l)[(Int.toNat i)]?) = (some (AV.v (Value.agg #[(Value.int IntKind.i64 (exInt (List.getD (AV.cells (List.getD (List.map acV l) (Int.toNat i) AV.dead)) (0 : Nat) AV.dead))), (Value.int IntKind.i64 (exInt (List.getD (AV.cells (List.getD (List.map acV l) (Int.toNat i) AV.dead)) (1 : Nat) AV.dead))), (Value.int IntKind.i64 (exInt (List.getD (AV.cells (List.getD (List.map acV l) (Int.toNat i) AV.dead)) (2 : Nat) AV.dead))), (Value.int IntKind.i64 (exInt (List.getD (AV.cells (List.getD (List.map acV l) (Int.toNat i) AV.dead)) (3 : Nat) AV.dead))), (Value.int IntKind.i64 (exInt (List.getD (AV.cells (List.getD (List.map acV l) (Int.toNat i) AV.dead)) (4 : Nat) AV.dead))), (Value.int IntKind.i64 (exInt (List.getD (AV.cells (List.getD (List.map acV l) (Int.toNat i) AV.dead)) (5 : Nat) AV.dead))), (Value.int IntKind.i64 (exInt (List.getD (AV.cells (List.getD (List.map acV l) (Int.toNat i) AV.dead)) (6 : Nat) AV.dead))), (Value.int IntKind.i64 (exInt (List.getD (AV.cells (List.getD (List.map acV l) (Int.toNat i) AV.dead)) (7 : Nat) AV.dead))), (Value.int IntKind.i64 (exInt (List.getD (AV.cells (List.getD (List.map acV l) (Int.toNat i) AV.dead)) (8 : Nat) AV.dead)))])))))) ((((Nat.beq (60 : Nat) (60 : Nat)) && (true && (true && (true && (true && (true && (true && (true && (true && (true && (true && (true && (true && (true && (true && (true && (true && (true && true)))))))))))))))))) && (((K).6 (AV.v (Value.agg #[(Value.int IntKind.i64 (exInt (List.getD (AV.cells (List.getD (List.map acV l) (Int.toNat i) AV.dead)) (0 : Nat) AV.dead))), (Value.int IntKind.i64 (exInt (List.getD (AV.cells (List.getD (List.map acV l) (Int.toNat i) AV.dead)) (1 : Nat) AV.dead))), (Value.int IntKind.i64 (exInt (List.getD (AV.cells (List.getD (List.map acV l) (Int.toNat i) AV.dead)) (2 : Nat) AV.dead))), (Value.int IntKind.i64 (exInt (List.getD (AV.cells (List.getD (List.map acV l) (Int.toNat i) AV.dead)) (3 : Nat) AV.dead))), (Value.int IntKind.i64 (exInt (List.getD (AV.cells (List.getD (List.map acV l) (Int.toNat i) AV.dead)) (4 : Nat) AV.dead))), (Value.int IntKind.i64 (exInt (List.getD (AV.cells (List.getD (List.map acV l) (Int.toNat i) AV.dead)) (5 : Nat) AV.dead))), (Value.int IntKind.i64 (exInt (List.getD (AV.cells (List.getD (List.map acV l) (Int.toNat i) AV.dead)) (6 : Nat) AV.dead))), (Value.int IntKind.i64 (exInt (List.getD (AV.cells (List.getD (List.map acV l) (Int.toNat i) AV.dead)) (7 : Nat) AV.dead))), (Value.int IntKind.i64 (exInt (List.getD (AV.cells (List.getD (List.map acV l) (Int.toNat i) AV.dead)) (8 : Nat) AV.dead)))]))) && ((M).1 (St.mk sa sb sc sd se sf sg sl sm st sp T D C L)))) && (((plainC T) && ((plainC D) && ((plainC C) && ((plainC L) && true)))) && ((plainC (((K).4 (St.mk sa sb sc sd se sf sg sl sm st sp T D C L) (AV.v (Value.agg #[(Value.int IntKind.i64 (exInt (List.getD (AV.cells (List.getD (List.map acV l) (Int.toNat i) AV.dead)) (0 : Nat) AV.dead))), (Value.int IntKind.i64 (exInt (List.getD (AV.cells (List.getD (List.map acV l) (Int.toNat i) AV.dead)) (1 : Nat) AV.dead))), (Value.int IntKind.i64 (exInt (List.getD (AV.cells (List.getD (List.map acV l) (Int.toNat i) AV.dead)) (2 : Nat) AV.dead))), (Value.int IntKind.i64 (exInt (List.getD (AV.cells (List.getD (List.map acV l) (Int.toNat i) AV.dead)) (3 : Nat) AV.dead))), (Value.int IntKind.i64 (exInt (List.getD (AV.cells (List.getD (List.map acV l) (Int.toNat i) AV.dead)) (4 : Nat) AV.dead))), (Value.int IntKind.i64 (exInt (List.getD (AV.cells (List.getD (List.map acV l) (Int.toNat i) AV.dead)) (5 : Nat) AV.dead))), (Value.int IntKind.i64 (exInt (List.getD (AV.cells (List.getD (List.map acV l) (Int.toNat i) AV.dead)) (6 : Nat) AV.dead))), (Value.int IntKind.i64 (exInt (List.getD (AV.cells (List.getD (List.map acV l) (Int.toNat i) AV.dead)) (7 : Nat) AV.dead))), (Value.int IntKind.i64 (exInt (List.getD (AV.cells (List.getD (List.map acV l) (Int.toNat i) AV.dead)) (8 : Nat) AV.dead)))])))).12) && ((plainC (((K).4 (St.mk sa sb sc sd se sf sg sl sm st sp T D C L) (AV.v (Value.agg #[(Value.int IntKind.i64 (exInt (List.getD (AV.cells (List.getD (List.map acV l) (Int.toNat i) AV.dead)) (0 : Nat) AV.dead))), (Value.int IntKind.i64 (exInt (List.getD (AV.cells (List.getD (List.map acV l) (Int.toNat i) AV.dead)) (1 : Nat) AV.dead))), (Value.int IntKind.i64 (exInt (List.getD (AV.cells (List.getD (List.map acV l) (Int.toNat i) AV.dead)) (2 : Nat) AV.dead))), (Value.int IntKind.i64 (exInt (List.getD (AV.cells (List.getD (List.map acV l) (Int.toNat i) AV.dead)) (3 : Nat) AV.dead))), (Value.int IntKind.i64 (exInt (List.getD (AV.cells (List.getD (List.map acV l) (Int.toNat i) AV.dead)) (4 : Nat) AV.dead))), (Value.int IntKind.i64 (exInt (List.getD (AV.cells (List.getD (List.map acV l) (Int.toNat i) AV.dead)) (5 : Nat) AV.dead))), (Value.int IntKind.i64 (exInt (List.getD (AV.cells (List.getD (List.map acV l) (Int.toNat i) AV.dead)) (6 : Nat) AV.dead))), (Value.int IntKind.i64 (exInt (List.getD (AV.cells (List.getD (List.map acV l) (Int.toNat i) AV.dead)) (7 : Nat) AV.dead))), (Value.int IntKind.i64 (exInt (List.getD (AV.cells (List.getD (List.map acV l) (Int.toNat i) AV.dead)) (8 : Nat) AV.dead)))])))).13) && ((plainC (((K).4 (St.mk sa sb sc sd se sf sg sl sm st sp T D C L) (AV.v (Value.agg #[(Value.int IntKind.i64 (exInt (List.getD (AV.cells (List.getD (List.map acV l) (Int.toNat i) AV.dead)) (0 : Nat) AV.dead))), (Value.int IntKind.i64 (exInt (List.getD (AV.cells (List.getD (List.map acV l) (Int.toNat i) AV.dead)) (1 : Nat) AV.dead))), (Value.int IntKind.i64 (exInt (List.getD (AV.cells (List.getD (List.map acV l) (Int.toNat i) AV.dead)) (2 : Nat) AV.dead))), (Value.int IntKind.i64 (exInt (List.getD (AV.cells (List.getD (List.map acV l) (Int.toNat i) AV.dead)) (3 : Nat) AV.dead))), (Value.int IntKind.i64 (exInt (List.getD (AV.cells (List.getD (List.map acV l) (Int.toNat i) AV.dead)) (4 : Nat) AV.dead))), (Value.int IntKind.i64 (exInt (List.getD (AV.cells (List.getD (List.map acV l) (Int.toNat i) AV.dead)) (5 : Nat) AV.dead))), (Value.int IntKind.i64 (exInt (List.getD (AV.cells (List.getD (List.map acV l) (Int.toNat i) AV.dead)) (6 : Nat) AV.dead))), (Value.int IntKind.i64 (exInt (List.getD (AV.cells (List.getD (List.map acV l) (Int.toNat i) AV.dead)) (7 : Nat) AV.dead))), (Value.int IntKind.i64 (exInt (List.getD (AV.cells (List.getD (List.map acV l) (Int.toNat i) AV.dead)) (8 : Nat) AV.dead)))])))).14) && ((plainC (((K).4 (St.mk sa sb sc sd se sf sg sl sm st sp T D C L) (AV.v (Value.agg #[(Value.int IntKind.i64 (exInt (List.getD (AV.cells (List.getD (List.map acV l) (Int.toNat i) AV.dead)) (0 : Nat) AV.dead))), (Value.int IntKind.i64 (exInt (List.getD (AV.cells (List.getD (List.map acV l) (Int.toNat i) AV.dead)) (1 : Nat) AV.dead))), (Value.int IntKind.i64 (exInt (List.getD (AV.cells (List.getD (List.map acV l) (Int.toNat i) AV.dead)) (2 : Nat) AV.dead))), (Value.int IntKind.i64 (exInt (List.getD (AV.cells (List.getD (List.map acV l) (Int.toNat i) AV.dead)) (3 : Nat) AV.dead))), (Value.int IntKind.i64 (exInt (List.getD (AV.cells (List.getD (List.map acV l) (Int.toNat i) AV.dead)) (4 : Nat) AV.dead))), (Value.int IntKind.i64 (exInt (List.getD (AV.cells (List.getD (List.map acV l) (Int.toNat i) AV.dead)) (5 : Nat) AV.dead))), (Value.int IntKind.i64 (exInt (List.getD (AV.cells (List.getD (List.map acV l) (Int.toNat i) AV.dead)) (6 : Nat) AV.dead))), (Value.int IntKind.i64 (exInt (List.getD (AV.cells (List.getD (List.map acV l) (Int.toNat i) AV.dead)) (7 : Nat) AV.dead))), (Value.int IntKind.i64 (exInt (List.getD (AV.cells (List.getD (List.map acV l) (Int.toNat i) AV.dead)) (8 : Nat) AV.dead)))])))).15) && true))))))) ∧ (R Exit.normal [AV.dead, (AV.lst (9 : Nat) (List.map acV l) Tip.no), (AV.lst (1 : Nat) (List.map u8V z) Tip.no), (AV.ptr (0 : Nat) (0 : Nat)), AV.dead, AV.dead, AV.dead, (AV.ptr (6 : Nat) (0 : Nat)), AV.dead, (AV.v (Value.int IntKind.i64 i)), AV.dead, AV.dead, AV.dead, AV.dead, AV.dead, AV.dead, AV.dead, AV.dead, AV.dead, AV.dead, AV.dead, AV.dead, AV.dead, AV.dead, AV.dead, AV.dead, AV.dead, AV.dead, AV.dead, AV.dead, AV.dead, AV.dead, AV.dead, AV.dead, AV.dead, AV.dead, AV.dead, AV.dead, AV.dead, AV.dead, AV.dead, AV.dead, AV.dead, AV.dead, AV.dead, AV.dead, AV.dead, AV.dead, AV.dead, AV.dead, AV.dead, AV.dead, AV.dead, AV.dead, AV.dead, AV.dead, AV.dead, AV.dead, AV.dead, AV.dead, AV.dead, AV.dead, AV.dead, AV.dead, AV.dead, AV.dead, AV.dead, AV.dead, AV.dead, AV.dead, AV.dead, AV.dead, AV.dead, AV.dead, AV.dead, AV.dead, AV.dead, AV.dead, AV.dead, AV.dead, AV.dead, AV.dead, AV.dead, AV.dead, AV.dead, AV.dead, AV.dead, AV.dead, AV.dead, AV.dead, AV.dead, AV.dead, AV.dead, AV.dead, AV.dead, AV.dead, AV.dead, AV.dead, AV.dead, AV.dead, AV.dead, AV.dead, AV.dead, AV.dead, AV.dead, AV.dead, AV.dead, AV.dead] (AH.mk [((25 : Nat), [(AV.v (Value.int IntKind.i64 n)), (AV.v (Value.int IntKind.i64 m)), (AV.v (Value.int IntKind.i64 a)), (AV.v (Value.int IntKind.i64 b)), (AV.v (Value.int IntKind.i64 c)), (AV.v (Value.int IntKind.i64 d)), (AV.v (Value.int IntKind.i64 e)), (AV.v (Value.int IntKind.i64 f)), (AV.v (Value.int IntKind.i64 g))]), ((23 : Nat), [(AV.v (Value.int IntKind.i64 a)), (AV.v (Value.int IntKind.i64 b)), (AV.v (Value.int IntKind.i64 c)), (AV.v (Value.int IntKind.i64 d)), (AV.v (Value.int IntKind.i64 e)), (AV.v (Value.int IntKind.i64 f)), (AV.v (Value.int IntKind.i64 g))]), ((68 : Nat), (((K).4 (St.mk sa sb sc sd se sf sg sl sm st sp T D C L) (AV.v (Value.agg #[(Value.int IntKind.i64 (exInt (List.getD (AV.cells (List.getD (List.map acV l) (Int.toNat i) AV.dead)) (0 : Nat) AV.dead))), (Value.int IntKind.i64 (exInt (List.getD (AV.cells (List.getD (List.map acV l) (Int.toNat i) AV.dead)) (1 : Nat) AV.dead))), (Value.int IntKind.i64 (exInt (List.getD (AV.cells (List.getD (List.map acV l) (Int.toNat i) AV.dead)) (2 : Nat) AV.dead))), (Value.int IntKind.i64 (exInt (List.getD (AV.cells (List.getD (List.map acV l) (Int.toNat i) AV.dead)) (3 : Nat) AV.dead))), (Value.int IntKind.i64 (exInt (List.getD (AV.cells (List.getD (List.map acV l) (Int.toNat i) AV.dead)) (4 : Nat) AV.dead))), (Value.int IntKind.i64 (exInt (List.getD (AV.cells (List.getD (List.map acV l) (Int.toNat i) AV.dead)) (5 : Nat) AV.dead))), (Value.int IntKind.i64 (exInt (List.getD (AV.cells (List.getD (List.map acV l) (Int.toNat i) AV.dead)) (6 : Nat) AV.dead))), (Value.int IntKind.i64 (exInt (List.getD (AV.cells (List.getD (List.map acV l) (Int.toNat i) AV.dead)) (7 : Nat) AV.dead))), (Value.int IntKind.i64 (exInt (List.getD (AV.cells (List.getD (List.map acV l) (Int.toNat i) AV.dead)) (8 : Nat) AV.dead)))])))).14), ((70 : Nat), (((K).4 (St.mk sa sb sc sd se sf sg sl sm st sp T D C L) (AV.v (Value.agg #[(Value.int IntKind.i64 (exInt (List.getD (AV.cells (List.getD (List.map acV l) (Int.toNat i) AV.dead)) (0 : Nat) AV.dead))), (Value.int IntKind.i64 (exInt (List.getD (AV.cells (List.getD (List.map acV l) (Int.toNat i) AV.dead)) (1 : Nat) AV.dead))), (Value.int IntKind.i64 (exInt (List.getD (AV.cells (List.getD (List.map acV l) (Int.toNat i) AV.dead)) (2 : Nat) AV.dead))), (Value.int IntKind.i64 (exInt (List.getD (AV.cells (List.getD (List.map acV l) (Int.toNat i) AV.dead)) (3 : Nat) AV.dead))), (Value.int IntKind.i64 (exInt (List.getD (AV.cells (List.getD (List.map acV l) (Int.toNat i) AV.dead)) (4 : Nat) AV.dead))), (Value.int IntKind.i64 (exInt (List.getD (AV.cells (List.getD (List.map acV l) (Int.toNat i) AV.dead)) (5 : Nat) AV.dead))), (Value.int IntKind.i64 (exInt (List.getD (AV.cells (List.getD (List.map acV l) (Int.toNat i) AV.dead)) (6 : Nat) AV.dead))), (Value.int IntKind.i64 (exInt (List.getD (AV.cells (List.getD (List.map acV l) (Int.toNat i) AV.dead)) (7 : Nat) AV.dead))), (Value.int IntKind.i64 (exInt (List.getD (AV.cells (List.getD (List.map acV l) (Int.toNat i) AV.dead)) (8 : Nat) AV.dead)))])))).13), ((75 : Nat), (((K).4 (St.mk sa sb sc sd se sf sg sl sm st sp T D C L) (AV.v (Value.agg #[(Value.int IntKind.i64 (exInt (List.getD (AV.cells (List.getD (List.map acV l) (Int.toNat i) AV.dead)) (0 : Nat) AV.dead))), (Value.int IntKind.i64 (exInt (List.getD (AV.cells (List.getD (List.map acV l) (Int.toNat i) AV.dead)) (1 : Nat) AV.dead))), (Value.int IntKind.i64 (exInt (List.getD (AV.cells (List.getD (List.map acV l) (Int.toNat i) AV.dead)) (2 : Nat) AV.dead))), (Value.int IntKind.i64 (exInt (List.getD (AV.cells (List.getD (List.map acV l) (Int.toNat i) AV.dead)) (3 : Nat) AV.dead))), (Value.int IntKind.i64 (exInt (List.getD (AV.cells (List.getD (List.map acV l) (Int.toNat i) AV.dead)) (4 : Nat) AV.dead))), (Value.int IntKind.i64 (exInt (List.getD (AV.cells (List.getD (List.map acV l) (Int.toNat i) AV.dead)) (5 : Nat) AV.dead))), (Value.int IntKind.i64 (exInt (List.getD (AV.cells (List.getD (List.map acV l) (Int.toNat i) AV.dead)) (6 : Nat) AV.dead))), (Value.int IntKind.i64 (exInt (List.getD (AV.cells (List.getD (List.map acV l) (Int.toNat i) AV.dead)) (7 : Nat) AV.dead))), (Value.int IntKind.i64 (exInt (List.getD (AV.cells (List.getD (List.map acV l) (Int.toNat i) AV.dead)) (8 : Nat) AV.dead)))])))).12), ((78 : Nat), (((K).4 (St.mk sa sb sc sd se sf sg sl sm st sp T D C L) (AV.v (Value.agg #[(Value.int IntKind.i64 (exInt (List.getD (AV.cells (List.getD (List.map acV l) (Int.toNat i) AV.dead)) (0 : Nat) AV.dead))), (Value.int IntKind.i64 (exInt (List.getD (AV.cells (List.getD (List.map acV l) (Int.toNat i) AV.dead)) (1 : Nat) AV.dead))), (Value.int IntKind.i64 (exInt (List.getD (AV.cells (List.getD (List.map acV l) (Int.toNat i) AV.dead)) (2 : Nat) AV.dead))), (Value.int IntKind.i64 (exInt (List.getD (AV.cells (List.getD (List.map acV l) (Int.toNat i) AV.dead)) (3 : Nat) AV.dead))), (Value.int IntKind.i64 (exInt (List.getD (AV.cells (List.getD (List.map acV l) (Int.toNat i) AV.dead)) (4 : Nat) AV.dead))), (Value.int IntKind.i64 (exInt (List.getD (AV.cells (List.getD (List.map acV l) (Int.toNat i) AV.dead)) (5 : Nat) AV.dead))), (Value.int IntKind.i64 (exInt (List.getD (AV.cells (List.getD (List.map acV l) (Int.toNat i) AV.dead)) (6 : Nat) AV.dead))), (Value.int IntKind.i64 (exInt (List.getD (AV.cells (List.getD (List.map acV l) (Int.toNat i) AV.dead)) (7 : Nat) AV.dead))), (Value.int IntKind.i64 (exInt (List.getD (AV.cells (List.getD (List.map acV l) (Int.toNat i) AV.dead)) (8 : Nat) AV.dead)))])))).15), ((60 : Nat), [(AV.ptr (4 : Nat) (0 : Nat)), (AV.ptr (3 : Nat) (0 : Nat)), (AV.v (Value.int IntKind.i64 (((K).4 (St.mk sa sb sc sd se sf sg sl sm st sp T D C L) (AV.v (Value.agg #[(Value.int IntKind.i64 (exInt (List.getD (AV.cells (List.getD (List.map acV l) (Int.toNat i) AV.dead)) (0 : Nat) AV.dead))), (Value.int IntKind.i64 (exInt (List.getD (AV.cells (List.getD (List.map acV l) (Int.toNat i) AV.dead)) (1 : Nat) AV.dead))), (Value.int IntKind.i64 (exInt (List.getD (AV.cells (List.getD (List.map acV l) (Int.toNat i) AV.dead)) (2 : Nat) AV.dead))), (Value.int IntKind.i64 (exInt (List.getD (AV.cells (List.getD (List.map acV l) (Int.toNat i) AV.dead)) (3 : Nat) AV.dead))), (Value.int IntKind.i64 (exInt (List.getD (AV.cells (List.getD (List.map acV l) (Int.toNat i) AV.dead)) (4 : Nat) AV.dead))), (Value.int IntKind.i64 (exInt (List.getD (AV.cells (List.getD (List.map acV l) (Int.toNat i) AV.dead)) (5 : Nat) AV.dead))), (Value.int IntKind.i64 (exInt (List.getD (AV.cells (List.getD (List.map acV l) (Int.toNat i) AV.dead)) (6 : Nat) AV.dead))), (Value.int IntKind.i64 (exInt (List.getD (AV.cells (List.getD (List.map acV l) (Int.toNat i) AV.dead)) (7 : Nat) AV.dead))), (Value.int IntKind.i64 (exInt (List.getD (AV.cells (List.getD (List.map acV l) (Int.toNat i) AV.dead)) (8 : Nat) AV.dead)))])))).1)), (AV.v (Value.int IntKind.i64 (((K).4 (St.mk sa sb sc sd se sf sg sl sm st sp T D C L) (AV.v (Value.agg #[(Value.int IntKind.i64 (exInt (List.getD (AV.cells (List.getD (List.map acV l) (Int.toNat i) AV.dead)) (0 : Nat) AV.dead))), (Value.int IntKind.i64 (exInt (List.getD (AV.cells (List.getD (List.map acV l) (Int.toNat i) AV.dead)) (1 : Nat) AV.dead))), (Value.int IntKind.i64 (exInt (List.getD (AV.cells (List.getD (List.map acV l) (Int.toNat i) AV.dead)) (2 : Nat) AV.dead))), (Value.int IntKind.i64 (exInt (List.getD (AV.cells (List.getD (List.map acV l) (Int.toNat i) AV.dead)) (3 : Nat) AV.dead))), (Value.int IntKind.i64 (exInt (List.getD (AV.cells (List.getD (List.map acV l) (Int.toNat i) AV.dead)) (4 : Nat) AV.dead))), (Value.int IntKind.i64 (exInt (List.getD (AV.cells (List.getD (List.map acV l) (Int.toNat i) AV.dead)) (5 : Nat) AV.dead))), (Value.int IntKind.i64 (exInt (List.getD (AV.cells (List.getD (List.map acV l) (Int.toNat i) AV.dead)) (6 : Nat) AV.dead))), (Value.int IntKind.i64 (exInt (List.getD (AV.cells (List.getD (List.map acV l) (Int.toNat i) AV.dead)) (7 : Nat) AV.dead))), (Value.int IntKind.i64 (exInt (List.getD (AV.cells (List.getD (List.map acV l) (Int.toNat i) AV.dead)) (8 : Nat) AV.dead)))])))).2)), (AV.v (Value.int IntKind.i64 (((K).4 (St.mk sa sb sc sd se sf sg sl sm st sp T D C L) (AV.v (Value.agg #[(Value.int IntKind.i64 (exInt (List.getD (AV.cells (List.getD (List.map acV l) (Int.toNat i) AV.dead)) (0 : Nat) AV.dead))), (Value.int IntKind.i64 (exInt (List.getD (AV.cells (List.getD (List.map acV l) (Int.toNat i) AV.dead)) (1 : Nat) AV.dead))), (Value.int IntKind.i64 (exInt (List.getD (AV.cells (List.getD (List.map acV l) (Int.toNat i) AV.dead)) (2 : Nat) AV.dead))), (Value.int IntKind.i64 (exInt (List.getD (AV.cells (List.getD (List.map acV l) (Int.toNat i) AV.dead)) (3 : Nat) AV.dead))), (Value.int IntKind.i64 (exInt (List.getD (AV.cells (List.getD (List.map acV l) (Int.toNat i) AV.dead)) (4 : Nat) AV.dead))), (Value.int IntKind.i64 (exInt (List.getD (AV.cells (List.getD (List.map acV l) (Int.toNat i) AV.dead)) (5 : Nat) AV.dead))), (Value.int IntKind.i64 (exInt (List.getD (AV.cells (List.getD (List.map acV l) (Int.toNat i) AV.dead)) (6 : Nat) AV.dead))), (Value.int IntKind.i64 (exInt (List.getD (AV.cells (List.getD (List.map acV l) (Int.toNat i) AV.dead)) (7 : Nat) AV.dead))), (Value.int IntKind.i64 (exInt (List.getD (AV.cells (List.getD (List.map acV l) (Int.toNat i) AV.dead)) (8 : Nat) AV.dead)))])))).3)), (AV.v (Value.int IntKind.i64 (((K).4 (St.mk sa sb sc sd se sf sg sl sm st sp T D C L) (AV.v (Value.agg #[(Value.int IntKind.i64 (exInt (List.getD (AV.cells (List.getD (List.map acV l) (Int.toNat i) AV.dead)) (0 : Nat) AV.dead))), (Value.int IntKind.i64 (exInt (List.getD (AV.cells (List.getD (List.map acV l) (Int.toNat i) AV.dead)) (1 : Nat) AV.dead))), (Value.int IntKind.i64 (exInt (List.getD (AV.cells (List.getD (List.map acV l) (Int.toNat i) AV.dead)) (2 : Nat) AV.dead))), (Value.int IntKind.i64 (exInt (List.getD (AV.cells (List.getD (List.map acV l) (Int.toNat i) AV.dead)) (3 : Nat) AV.dead))), (Value.int IntKind.i64 (exInt (List.getD (AV.cells (List.getD (List.map acV l) (Int.toNat i) AV.dead)) (4 : Nat) AV.dead))), (Value.int IntKind.i64 (exInt (List.getD (AV.cells (List.getD (List.map acV l) (Int.toNat i) AV.dead)) (5 : Nat) AV.dead))), (Value.int IntKind.i64 (exInt (List.getD (AV.cells (List.getD (List.map acV l) (Int.toNat i) AV.dead)) (6 : Nat) AV.dead))), (Value.int IntKind.i64 (exInt (List.getD (AV.cells (List.getD (List.map acV l) (Int.toNat i) AV.dead)) (7 : Nat) AV.dead))), (Value.int IntKind.i64 (exInt (List.getD (AV.cells (List.getD (List.map acV l) (Int.toNat i) AV.dead)) (8 : Nat) AV.dead)))])))).4)), (AV.v (Value.int IntKind.i64 (((K).4 (St.mk sa sb sc sd se sf sg sl sm st sp T D C L) (AV.v (Value.agg #[(Value.int IntKind.i64 (exInt (List.getD (AV.cells (List.getD (List.map acV l) (Int.toNat i) AV.dead)) (0 : Nat) AV.dead))), (Value.int IntKind.i64 (exInt (List.getD (AV.cells (List.getD (List.map acV l) (Int.toNat i) AV.dead)) (1 : Nat) AV.dead))), (Value.int IntKind.i64 (exInt (List.getD (AV.cells (List.getD (List.map acV l) (Int.toNat i) AV.dead)) (2 : Nat) AV.dead))), (Value.int IntKind.i64 (exInt (List.getD (AV.cells (List.getD (List.map acV l) (Int.toNat i) AV.dead)) (3 : Nat) AV.dead))), (Value.int IntKind.i64 (exInt (List.getD (AV.cells (List.getD (List.map acV l) (Int.toNat i) AV.dead)) (4 : Nat) AV.dead))), (Value.int IntKind.i64 (exInt (List.getD (AV.cells (List.getD (List.map acV l) (Int.toNat i) AV.dead)) (5 : Nat) AV.dead))), (Value.int IntKind.i64 (exInt (List.getD (AV.cells (List.getD (List.map acV l) (Int.toNat i) AV.dead)) (6 : Nat) AV.dead))), (Value.int IntKind.i64 (exInt (List.getD (AV.cells (List.getD (List.map acV l) (Int.toNat i) AV.dead)) (7 : Nat) AV.dead))), (Value.int IntKind.i64 (exInt (List.getD (AV.cells (List.getD (List.map acV l) (Int.toNat i) AV.dead)) (8 : Nat) AV.dead)))])))).5)), (AV.v (Value.int IntKind.i64 (((K).4 (St.mk sa sb sc sd se sf sg sl sm st sp T D C L) (AV.v (Value.agg #[(Value.int IntKind.i64 (exInt (List.getD (AV.cells (List.getD (List.map acV l) (Int.toNat i) AV.dead)) (0 : Nat) AV.dead))), (Value.int IntKind.i64 (exInt (List.getD (AV.cells (List.getD (List.map acV l) (Int.toNat i) AV.dead)) (1 : Nat) AV.dead))), (Value.int IntKind.i64 (exInt (List.getD (AV.cells (List.getD (List.map acV l) (Int.toNat i) AV.dead)) (2 : Nat) AV.dead))), (Value.int IntKind.i64 (exInt (List.getD (AV.cells (List.getD (List.map acV l) (Int.toNat i) AV.dead)) (3 : Nat) AV.dead))), (Value.int IntKind.i64 (exInt (List.getD (AV.cells (List.getD (List.map acV l) (Int.toNat i) AV.dead)) (4 : Nat) AV.dead))), (Value.int IntKind.i64 (exInt (List.getD (AV.cells (List.getD (List.map acV l) (Int.toNat i) AV.dead)) (5 : Nat) AV.dead))), (Value.int IntKind.i64 (exInt (List.getD (AV.cells (List.getD (List.map acV l) (Int.toNat i) AV.dead)) (6 : Nat) AV.dead))), (Value.int IntKind.i64 (exInt (List.getD (AV.cells (List.getD (List.map acV l) (Int.toNat i) AV.dead)) (7 : Nat) AV.dead))), (Value.int IntKind.i64 (exInt (List.getD (AV.cells (List.getD (List.map acV l) (Int.toNat i) AV.dead)) (8 : Nat) AV.dead)))])))).6)), (AV.v (Value.int IntKind.i64 (((K).4 (St.mk sa sb sc sd se sf sg sl sm st sp T D C L) (AV.v (Value.agg #[(Value.int IntKind.i64 (exInt (List.getD (AV.cells (List.getD (List.map acV l) (Int.toNat i) AV.dead)) (0 : Nat) AV.dead))), (Value.int IntKind.i64 (exInt (List.getD (AV.cells (List.getD (List.map acV l) (Int.toNat i) AV.dead)) (1 : Nat) AV.dead))), (Value.int IntKind.i64 (exInt (List.getD (AV.cells (List.getD (List.map acV l) (Int.toNat i) AV.dead)) (2 : Nat) AV.dead))), (Value.int IntKind.i64 (exInt (List.getD (AV.cells (List.getD (List.map acV l) (Int.toNat i) AV.dead)) (3 : Nat) AV.dead))), (Value.int IntKind.i64 (exInt (List.getD (AV.cells (List.getD (List.map acV l) (Int.toNat i) AV.dead)) (4 : Nat) AV.dead))), (Value.int IntKind.i64 (exInt (List.getD (AV.cells (List.getD (List.map acV l) (Int.toNat i) AV.dead)) (5 : Nat) AV.dead))), (Value.int IntKind.i64 (exInt (List.getD (AV.cells (List.getD (List.map acV l) (Int.toNat i) AV.dead)) (6 : Nat) AV.dead))), (Value.int IntKind.i64 (exInt (List.getD (AV.cells (List.getD (List.map acV l) (Int.toNat i) AV.dead)) (7 : Nat) AV.dead))), (Value.int IntKind.i64 (exInt (List.getD (AV.cells (List.getD (List.map acV l) (Int.toNat i) AV.dead)) (8 : Nat) AV.dead)))])))).7)), (AV.v (Value.int IntKind.i64 (((K).4 (St.mk sa sb sc sd se sf sg sl sm st sp T D C L) (AV.v (Value.agg #[(Value.int IntKind.i64 (exInt (List.getD (AV.cells (List.getD (List.map acV l) (Int.toNat i) AV.dead)) (0 : Nat) AV.dead))), (Value.int IntKind.i64 (exInt (List.getD (AV.cells (List.getD (List.map acV l) (Int.toNat i) AV.dead)) (1 : Nat) AV.dead))), (Value.int IntKind.i64 (exInt (List.getD (AV.cells (List.getD (List.map acV l) (Int.toNat i) AV.dead)) (2 : Nat) AV.dead))), (Value.int IntKind.i64 (exInt (List.getD (AV.cells (List.getD (List.map acV l) (Int.toNat i) AV.dead)) (3 : Nat) AV.dead))), (Value.int IntKind.i64 (exInt (List.getD (AV.cells (List.getD (List.map acV l) (Int.toNat i) AV.dead)) (4 : Nat) AV.dead))), (Value.int IntKind.i64 (exInt (List.getD (AV.cells (List.getD (List.map acV l) (Int.toNat i) AV.dead)) (5 : Nat) AV.dead))), (Value.int IntKind.i64 (exInt (List.getD (AV.cells (List.getD (List.map acV l) (Int.toNat i) AV.dead)) (6 : Nat) AV.dead))), (Value.int IntKind.i64 (exInt (List.getD (AV.cells (List.getD (List.map acV l) (Int.toNat i) AV.dead)) (7 : Nat) AV.dead))), (Value.int IntKind.i64 (exInt (List.getD (AV.cells (List.getD (List.map acV l) (Int.toNat i) AV.dead)) (8 : Nat) AV.dead)))])))).8)), (AV.v (Value.int IntKind.i64 (((K).4 (St.mk sa sb sc sd se sf sg sl sm st sp T D C L) (AV.v (Value.agg #[(Value.int IntKind.i64 (exInt (List.getD (AV.cells (List.getD (List.map acV l) (Int.toNat i) AV.dead)) (0 : Nat) AV.dead))), (Value.int IntKind.i64 (exInt (List.getD (AV.cells (List.getD (List.map acV l) (Int.toNat i) AV.dead)) (1 : Nat) AV.dead))), (Value.int IntKind.i64 (exInt (List.getD (AV.cells (List.getD (List.map acV l) (Int.toNat i) AV.dead)) (2 : Nat) AV.dead))), (Value.int IntKind.i64 (exInt (List.getD (AV.cells (List.getD (List.map acV l) (Int.toNat i) AV.dead)) (3 : Nat) AV.dead))), (Value.int IntKind.i64 (exInt (List.getD (AV.cells (List.getD (List.map acV l) (Int.toNat i) AV.dead)) (4 : Nat) AV.dead))), (Value.int IntKind.i64 (exInt (List.getD (AV.cells (List.getD (List.map acV l) (Int.toNat i) AV.dead)) (5 : Nat) AV.dead))), (Value.int IntKind.i64 (exInt (List.getD (AV.cells (List.getD (List.map acV l) (Int.toNat i) AV.dead)) (6 : Nat) AV.dead))), (Value.int IntKind.i64 (exInt (List.getD (AV.cells (List.getD (List.map acV l) (Int.toNat i) AV.dead)) (7 : Nat) AV.dead))), (Value.int IntKind.i64 (exInt (List.getD (AV.cells (List.getD (List.map acV l) (Int.toNat i) AV.dead)) (8 : Nat) AV.dead)))])))).9)), (AV.v (Value.int IntKind.i64 (((K).4 (St.mk sa sb sc sd se sf sg sl sm st sp T D C L) (AV.v (Value.agg #[(Value.int IntKind.i64 (exInt (List.getD (AV.cells (List.getD (List.map acV l) (Int.toNat i) AV.dead)) (0 : Nat) AV.dead))), (Value.int IntKind.i64 (exInt (List.getD (AV.cells (List.getD (List.map acV l) (Int.toNat i) AV.dead)) (1 : Nat) AV.dead))), (Value.int IntKind.i64 (exInt (List.getD (AV.cells (List.getD (List.map acV l) (Int.toNat i) AV.dead)) (2 : Nat) AV.dead))), (Value.int IntKind.i64 (exInt (List.getD (AV.cells (List.getD (List.map acV l) (Int.toNat i) AV.dead)) (3 : Nat) AV.dead))), (Value.int IntKind.i64 (exInt (List.getD (AV.cells (List.getD (List.map acV l) (Int.toNat i) AV.dead)) (4 : Nat) AV.dead))), (Value.int IntKind.i64 (exInt (List.getD (AV.cells (List.getD (List.map acV l) (Int.toNat i) AV.dead)) (5 : Nat) AV.dead))), (Value.int IntKind.i64 (exInt (List.getD (AV.cells (List.getD (List.map acV l) (Int.toNat i) AV.dead)) (6 : Nat) AV.dead))), (Value.int IntKind.i64 (exInt (List.getD (AV.cells (List.getD (List.map acV l) (Int.toNat i) AV.dead)) (7 : Nat) AV.dead))), (Value.int IntKind.i64 (exInt (List.getD (AV.cells (List.getD (List.map acV l) (Int.toNat i) AV.dead)) (8 : Nat) AV.dead)))])))).10)), (AV.v (Value.int IntKind.i64 (((K).4 (St.mk sa sb sc sd se sf sg sl sm st sp T D C L) (AV.v (Value.agg #[(Value.int IntKind.i64 (exInt (List.getD (AV.cells (List.getD (List.map acV l) (Int.toNat i) AV.dead)) (0 : Nat) AV.dead))), (Value.int IntKind.i64 (exInt (List.getD (AV.cells (List.getD (List.map acV l) (Int.toNat i) AV.dead)) (1 : Nat) AV.dead))), (Value.int IntKind.i64 (exInt (List.getD (AV.cells (List.getD (List.map acV l) (Int.toNat i) AV.dead)) (2 : Nat) AV.dead))), (Value.int IntKind.i64 (exInt (List.getD (AV.cells (List.getD (List.map acV l) (Int.toNat i) AV.dead)) (3 : Nat) AV.dead))), (Value.int IntKind.i64 (exInt (List.getD (AV.cells (List.getD (List.map acV l) (Int.toNat i) AV.dead)) (4 : Nat) AV.dead))), (Value.int IntKind.i64 (exInt (List.getD (AV.cells (List.getD (List.map acV l) (Int.toNat i) AV.dead)) (5 : Nat) AV.dead))), (Value.int IntKind.i64 (exInt (List.getD (AV.cells (List.getD (List.map acV l) (Int.toNat i) AV.dead)) (6 : Nat) AV.dead))), (Value.int IntKind.i64 (exInt (List.getD (AV.cells (List.getD (List.map acV l) (Int.toNat i) AV.dead)) (7 : Nat) AV.dead))), (Value.int IntKind.i64 (exInt (List.getD (AV.cells (List.getD (List.map acV l) (Int.toNat i) AV.dead)) (8 : Nat) AV.dead)))])))).11)), (AV.ptr (2 : Nat) (0 : Nat)), (AV.ptr (5 : Nat) (0 : Nat))])] (@List.nil Nat) (0 : Nat) (0 : Nat) true (@List.nil (Prod Nat Bool)) True)))) := by kernel_rfl
theorem o_up (l : List (Nat → Int)) (z : List Int) (i : Int) (B : List (TypeId × List AV)) (R : Exit → List AV → AH → Prop) : codeL nro mu0 (fun _ => none) 12 ((flatten (sub (bodyOf 4) [1, 1, 1, 1, 0, 1, 0, 0])).drop 3) (oS (acs l) (rl8 z) (gi i) .dead .dead .dead) (hp B []) (kp [1, 2, 3, 7, 9] R) =
    (some (True ∧ (R Exit.normal [AV.dead, (AV.lst (9 : Nat) (List.map acV l) Tip.no), (AV.lst (1 : Nat) (List.map u8V z) Tip.no), (AV.ptr (0 : Nat) (0 : Nat)), AV.dead, AV.dead, AV.dead, (AV.ptr (6 : Nat) (0 : Nat)), AV.dead, (AV.v (Value.int IntKind.i64 (IntKind.wrap IntKind.i64 (i + (1 : Int))))), AV.dead, AV.dead, AV.dead, AV.dead, AV.dead, AV.dead, AV.dead, AV.dead, AV.dead, AV.dead, AV.dead, AV.dead, AV.dead, AV.dead, AV.dead, AV.dead, AV.dead, AV.dead, AV.dead, AV.dead, AV.dead, AV.dead, AV.dead, AV.dead, AV.dead, AV.dead, AV.dead, AV.dead, AV.dead, AV.dead, AV.dead, AV.dead, AV.dead, AV.dead, AV.dead, AV.dead, AV.dead, AV.dead, AV.dead, AV.dead, AV.dead, AV.dead, AV.dead, AV.dead, AV.dead, AV.dead, AV.dead, AV.dead, AV.dead, AV.dead, AV.dead, AV.dead, AV.dead, AV.dead, AV.dead, AV.dead, AV.dead, AV.dead, AV.dead, AV.dead, AV.dead, AV.dead, AV.dead, AV.dead, AV.dead, AV.dead, AV.dead, AV.dead, AV.dead, AV.dead, AV.dead, AV.dead, AV.dead, AV.dead, AV.dead, AV.dead, AV.dead, AV.dead, AV.dead, AV.dead, AV.dead, AV.dead, AV.dead, AV.dead, AV.dead, AV.dead, AV.dead, AV.dead, AV.dead, AV.dead, AV.dead, AV.dead, AV.dead, AV.dead, AV.dead, AV.dead, AV.dead, AV.dead] (AH.mk B (@List.nil Nat) (0 : Nat) (0 : Nat) true (@List.nil (Prod Nat Bool)) True)))) := by kernel_rfl
theorem o_cl (M : MS) (K : KS) (cal : St → Int) (z : List Int) (n m a b c d e f g : Int) (sa sb sc sd se sf sg sl sm st sp : Int) (T D C L : List AV) (R : Exit → List AV → AH → Prop) : codeL nro mu0 (prO M K cal true) 12 (((flatten (bodyOf 4)).drop 8).take 1) (oS .dead (rl8 z) .dead .dead .dead .dead) (oH n m a b c d e f g ⟨sa, sb, sc, sd, se, sf, sg, sl, sm, st, sp, T, D, C, L⟩) (kp [2, 3, 7] R) =
    (some ((cdb True ((((Nat.beq (60 : Nat) (60 : Nat)) && (true && (true && (true && (true && (true && (true && (true && (true && (true && (true && (true && (true && (true && (true && (true && (true && (true && true)))))))))))))))))) && ((M).1 (St.mk sa sb sc sd se sf sg sl sm st sp T D C L))) && (((plainC T) && ((plainC D) && ((plainC C) && ((plainC L) && true)))) && ((plainC (((M).5 (St.mk sa sb sc sd se sf sg sl sm st sp T D C L))).12) && ((plainC (((M).5 (St.mk sa sb sc sd se sf sg sl sm st sp T D C L))).13) && ((plainC (((M).5 (St.mk sa sb sc sd se sf sg sl sm st sp T D C L))).14) && ((plainC (((M).5 (St.mk sa sb sc sd se sf sg sl sm st sp T D C L))).15) && true))))))) ∧ (R Exit.normal [AV.dead, AV.dead, (AV.lst (1 : Nat) (List.map u8V z) Tip.no), (AV.ptr (0 : Nat) (0 : Nat)), AV.dead, AV.dead, AV.dead, (AV.ptr (6 : Nat) (0 : Nat)), AV.dead, AV.dead, AV.dead, AV.dead, AV.dead, AV.dead, AV.dead, AV.dead, AV.dead, AV.dead, AV.dead, AV.dead, AV.dead, AV.dead, AV.dead, AV.dead, AV.dead, AV.dead, AV.dead, AV.dead, AV.dead, AV.dead, AV.dead, AV.dead, AV.dead, AV.dead, AV.dead, AV.dead, AV.dead, AV.dead, AV.dead, AV.dead, AV.dead, AV.dead, AV.dead, AV.dead, AV.dead, AV.dead, AV.dead, AV.dead, AV.dead, AV.dead, AV.dead, AV.dead, AV.dead, AV.dead, AV.dead, AV.dead, AV.dead, AV.dead, AV.dead, AV.dead, AV.dead, AV.dead, AV.dead, AV.dead, AV.dead, AV.dead, AV.dead, AV.dead, AV.dead, AV.dead, AV.dead, AV.dead, AV.dead, AV.dead, AV.dead, AV.dead, AV.dead, AV.dead, AV.dead, AV.dead, AV.dead, AV.dead, AV.dead, AV.dead, AV.dead, AV.dead, AV.dead, AV.dead, AV.dead, AV.dead, AV.dead, AV.dead, AV.dead, AV.dead, AV.dead, AV.dead, AV.dead, AV.dead, AV.dead, AV.dead, AV.dead, AV.dead, AV.dead, AV.dead, AV.dead, AV.dead, AV.dead, AV.dead] (AH.mk [((25 : Nat), [(AV.v (Value.int IntKind.i64 n)), (AV.v (Value.int IntKind.i64 m)), (AV.v (Value.int IntKind.i64 a)), (AV.v (Value.int IntKind.i64 b)), (AV.v (Value.int IntKind.i64 c)), (AV.v (Value.int IntKind.i64 d)), (AV.v (Value.int IntKind.i64 e)), (AV.v (Value.int IntKind.i64 f)), (AV.v (Value.int IntKind.i64 g))]), ((23 : Nat), [(AV.v (Value.int IntKind.i64 a)), (AV.v (Value.int IntKind.i64 b)), (AV.v (Value.int IntKind.i64 c)), (AV.v (Value.int IntKind.i64 d)), (AV.v (Value.int IntKind.i64 e)), (AV.v (Value.int IntKind.i64 f)), (AV.v (Value.int IntKind.i64 g))]), ((68 : Nat), (((M).5 (St.mk sa sb sc sd se sf sg sl sm st sp T D C L))).14), ((70 : Nat), (((M).5 (St.mk sa sb sc sd se sf sg sl sm st sp T D C L))).13), ((75 : Nat), (((M).5 (St.mk sa sb sc sd se sf sg sl sm st sp T D C L))).12), ((78 : Nat), (((M).5 (St.mk sa sb sc sd se sf sg sl sm st sp T D C L))).15), ((60 : Nat), [(AV.ptr (4 : Nat) (0 : Nat)), (AV.ptr (3 : Nat) (0 : Nat)), (AV.v (Value.int IntKind.i64 (((M).5 (St.mk sa sb sc sd se sf sg sl sm st sp T D C L))).1)), (AV.v (Value.int IntKind.i64 (((M).5 (St.mk sa sb sc sd se sf sg sl sm st sp T D C L))).2)), (AV.v (Value.int IntKind.i64 (((M).5 (St.mk sa sb sc sd se sf sg sl sm st sp T D C L))).3)), (AV.v (Value.int IntKind.i64 (((M).5 (St.mk sa sb sc sd se sf sg sl sm st sp T D C L))).4)), (AV.v (Value.int IntKind.i64 (((M).5 (St.mk sa sb sc sd se sf sg sl sm st sp T D C L))).5)), (AV.v (Value.int IntKind.i64 (((M).5 (St.mk sa sb sc sd se sf sg sl sm st sp T D C L))).6)), (AV.v (Value.int IntKind.i64 (((M).5 (St.mk sa sb sc sd se sf sg sl sm st sp T D C L))).7)), (AV.v (Value.int IntKind.i64 (((M).5 (St.mk sa sb sc sd se sf sg sl sm st sp T D C L))).8)), (AV.v (Value.int IntKind.i64 (((M).5 (St.mk sa sb sc sd se sf sg sl sm st sp T D C L))).9)), (AV.v (Value.int IntKind.i64 (((M).5 (St.mk sa sb sc sd se sf sg sl sm st sp T D C L))).10)), (AV.v (Value.int IntKind.i64 (((M).5 (St.mk sa sb sc sd se sf sg sl sm st sp T D C L))).11)), (AV.ptr (2 : Nat) (0 : Nat)), (AV.ptr (5 : Nat) (0 : Nat))])] (@List.nil Nat) (0 : Nat) (0 : Nat) true (@List.nil (Prod Nat Bool)) True)))) := by kernel_rfl
theorem o_kn (M : MS) (K : KS) (cal : St → Int) (z : List Int) (n m a b c d e f g : Int) (sa sb sc sd se sf sg sl sm st sp : Int) (T D C L : List AV) (R : Exit → List AV → AH → Prop) : codeL nro mu0 (prO M K cal true) 12 (((flatten (bodyOf 4)).drop 9).take 2) (oS .dead (rl8 z) .dead .dead .dead .dead) (oH n m a b c d e f g ⟨sa, sb, sc, sd, se, sf, sg, sl, sm, st, sp, T, D, C, L⟩) (kp [2, 3, 6, 7] R) =
    (bif (decide (sa < (1 : Int))) then (some ((cdb True ((((Nat.beq (60 : Nat) (60 : Nat)) && (true && (true && (true && (true && (true && (true && (true && (true && (true && (true && (true && (true && (true && (true && (true && (true && (true && true)))))))))))))))))) && ((M).1 (St.mk sa sb sc sd se sf sg sl sm st sp T D C L))) && ((plainC T) && ((plainC D) && ((plainC C) && ((plainC L) && true)))))) ∧ (R Exit.ret [AV.dead, AV.dead, (AV.lst (1 : Nat) (List.map u8V z) Tip.no), (AV.ptr (0 : Nat) (0 : Nat)), AV.dead, AV.dead, (AV.v (Value.bool true)), (AV.ptr (6 : Nat) (0 : Nat)), AV.dead, AV.dead, AV.dead, AV.dead, AV.dead, AV.dead, AV.dead, AV.dead, AV.dead, AV.dead, AV.dead, AV.dead, AV.dead, AV.dead, AV.dead, AV.dead, AV.dead, AV.dead, AV.dead, AV.dead, AV.dead, AV.dead, AV.dead, AV.dead, AV.dead, AV.dead, AV.dead, AV.dead, AV.dead, AV.dead, AV.dead, AV.dead, AV.dead, AV.dead, AV.dead, AV.dead, AV.dead, AV.dead, AV.dead, AV.dead, AV.dead, AV.dead, AV.dead, AV.dead, AV.dead, AV.dead, AV.dead, AV.dead, AV.dead, AV.dead, AV.dead, AV.dead, AV.dead, AV.dead, AV.dead, AV.dead, AV.dead, AV.dead, AV.dead, AV.dead, AV.dead, AV.dead, AV.dead, AV.dead, AV.dead, AV.dead, AV.dead, AV.dead, AV.dead, AV.dead, AV.dead, AV.dead, AV.dead, AV.dead, AV.dead, AV.dead, AV.dead, AV.dead, AV.dead, AV.dead, AV.dead, AV.dead, AV.dead, AV.dead, AV.dead, AV.dead, AV.dead, AV.dead, AV.dead, AV.dead, AV.dead, AV.dead, AV.dead, AV.dead, AV.dead, AV.dead, AV.dead, AV.dead, AV.dead, AV.dead] (AH.mk [((25 : Nat), [(AV.v (Value.int IntKind.i64 n)), (AV.v (Value.int IntKind.i64 m)), (AV.v (Value.int IntKind.i64 a)), (AV.v (Value.int IntKind.i64 b)), (AV.v (Value.int IntKind.i64 c)), (AV.v (Value.int IntKind.i64 d)), (AV.v (Value.int IntKind.i64 e)), (AV.v (Value.int IntKind.i64 f)), (AV.v (Value.int IntKind.i64 g))]), ((23 : Nat), [(AV.v (Value.int IntKind.i64 a)), (AV.v (Value.int IntKind.i64 b)), (AV.v (Value.int IntKind.i64 c)), (AV.v (Value.int IntKind.i64 d)), (AV.v (Value.int IntKind.i64 e)), (AV.v (Value.int IntKind.i64 f)), (AV.v (Value.int IntKind.i64 g))]), ((68 : Nat), C), ((70 : Nat), D), ((75 : Nat), T), ((78 : Nat), L), ((60 : Nat), [(AV.ptr (4 : Nat) (0 : Nat)), (AV.ptr (3 : Nat) (0 : Nat)), (AV.v (Value.int IntKind.i64 sa)), (AV.v (Value.int IntKind.i64 sb)), (AV.v (Value.int IntKind.i64 sc)), (AV.v (Value.int IntKind.i64 sd)), (AV.v (Value.int IntKind.i64 se)), (AV.v (Value.int IntKind.i64 sf)), (AV.v (Value.int IntKind.i64 sg)), (AV.v (Value.int IntKind.i64 sl)), (AV.v (Value.int IntKind.i64 sm)), (AV.v (Value.int IntKind.i64 st)), (AV.v (Value.int IntKind.i64 sp)), (AV.ptr (2 : Nat) (0 : Nat)), (AV.ptr (5 : Nat) (0 : Nat))])] (@List.nil Nat) (0 : Nat) (0 : Nat) true (@List.nil (Prod Nat Bool)) True)))) else (some ((cdb True ((((Nat.beq (60 : Nat) (60 : Nat)) && (true && (true && (true && (true && (true && (true && (true && (true && (true && (true && (true && (true && (true && (true && (true && (true && (true && true)))))))))))))))))) && ((M).1 (St.mk sa sb sc sd se sf sg sl sm st sp T D C L))) && ((plainC T) && ((plainC D) && ((plainC C) && ((plainC L) && true)))))) ∧ (R Exit.normal [AV.dead, AV.dead, (AV.lst (1 : Nat) (List.map u8V z) Tip.no), (AV.ptr (0 : Nat) (0 : Nat)), AV.dead, AV.dead, AV.dead, (AV.ptr (6 : Nat) (0 : Nat)), AV.dead, AV.dead, AV.dead, AV.dead, AV.dead, AV.dead, AV.dead, AV.dead, AV.dead, AV.dead, AV.dead, AV.dead, AV.dead, AV.dead, AV.dead, AV.dead, AV.dead, AV.dead, AV.dead, AV.dead, AV.dead, AV.dead, AV.dead, AV.dead, AV.dead, AV.dead, AV.dead, AV.dead, AV.dead, AV.dead, AV.dead, AV.dead, AV.dead, AV.dead, AV.dead, AV.dead, AV.dead, AV.dead, AV.dead, AV.dead, AV.dead, AV.dead, AV.dead, AV.dead, AV.dead, AV.dead, AV.dead, AV.dead, AV.dead, AV.dead, AV.dead, AV.dead, AV.dead, AV.dead, AV.dead, AV.dead, AV.dead, AV.dead, AV.dead, AV.dead, AV.dead, AV.dead, AV.dead, AV.dead, AV.dead, AV.dead, AV.dead, AV.dead, AV.dead, AV.dead, AV.dead, AV.dead, AV.dead, AV.dead, AV.dead, AV.dead, AV.dead, AV.dead, AV.dead, AV.dead, AV.dead, AV.dead, AV.dead, AV.dead, AV.dead, AV.dead, AV.dead, AV.dead, AV.dead, AV.dead, AV.dead, AV.dead, AV.dead, AV.dead, AV.dead, AV.dead, AV.dead, AV.dead, AV.dead, AV.dead] (AH.mk [((25 : Nat), [(AV.v (Value.int IntKind.i64 n)), (AV.v (Value.int IntKind.i64 m)), (AV.v (Value.int IntKind.i64 a)), (AV.v (Value.int IntKind.i64 b)), (AV.v (Value.int IntKind.i64 c)), (AV.v (Value.int IntKind.i64 d)), (AV.v (Value.int IntKind.i64 e)), (AV.v (Value.int IntKind.i64 f)), (AV.v (Value.int IntKind.i64 g))]), ((23 : Nat), [(AV.v (Value.int IntKind.i64 a)), (AV.v (Value.int IntKind.i64 b)), (AV.v (Value.int IntKind.i64 c)), (AV.v (Value.int IntKind.i64 d)), (AV.v (Value.int IntKind.i64 e)), (AV.v (Value.int IntKind.i64 f)), (AV.v (Value.int IntKind.i64 g))]), ((68 : Nat), C), ((70 : Nat), D), ((75 : Nat), T), ((78 : Nat), L), ((60 : Nat), [(AV.ptr (4 : Nat) (0 : Nat)), (AV.ptr (3 : Nat) (0 : Nat)), (AV.v (Value.int IntKind.i64 sa)), (AV.v (Value.int IntKind.i64 sb)), (AV.v (Value.int IntKind.i64 sc)), (AV.v (Value.int IntKind.i64 sd)), (AV.v (Value.int IntKind.i64 se)), (AV.v (Value.int IntKind.i64 sf)), (AV.v (Value.int IntKind.i64 sg)), (AV.v (Value.int IntKind.i64 sl)), (AV.v (Value.int IntKind.i64 sm)), (AV.v (Value.int IntKind.i64 st)), (AV.v (Value.int IntKind.i64 sp)), (AV.ptr (2 : Nat) (0 : Nat)), (AV.ptr (5 : Nat) (0 : Nat))])] (@List.nil Nat) (0 : Nat) (0 : Nat) true (@List.nil (Prod Nat Bool)) True))))) := by kernel_rfl
theorem o_ca (M : MS) (K : KS) (cal : St → Int) (z : List Int) (n m a b c d e f g : Int) (sa sb sc sd se sf sg sl sm st sp : Int) (T D C L : List AV) (R : Exit → List AV → AH → Prop) : codeL nro mu0 (prO M K cal true) 12 (((flatten (bodyOf 4)).drop 11).take 2) (oS .dead (rl8 z) .dead .dead .dead .dead) (oH n m a b c d e f g ⟨sa, sb, sc, sd, se, sf, sg, sl, sm, st, sp, T, D, C, L⟩) (kp [2, 3, 7, 10, 11] R) =
    (some ((cdb True ((((Nat.beq (60 : Nat) (60 : Nat)) && (true && (true && (true && (true && (true && (true && (true && (true && (true && (true && (true && (true && (true && (true && (true && (true && (true && true)))))))))))))))))) && ((M).1 (St.mk sa sb sc sd se sf sg sl sm st sp T D C L))) && ((plainC T) && ((plainC D) && ((plainC C) && ((plainC L) && true)))))) ∧ (R Exit.normal [AV.dead, AV.dead, (AV.lst (1 : Nat) (List.map u8V z) Tip.no), (AV.ptr (0 : Nat) (0 : Nat)), AV.dead, AV.dead, AV.dead, (AV.ptr (6 : Nat) (0 : Nat)), AV.dead, AV.dead, (AV.v (Value.int IntKind.i64 (cal (St.mk sa sb sc sd se sf sg sl sm st sp T D C L)))), (AV.v (Value.int IntKind.i64 (0 : Int))), AV.dead, AV.dead, AV.dead, AV.dead, AV.dead, AV.dead, AV.dead, AV.dead, AV.dead, AV.dead, AV.dead, AV.dead, AV.dead, AV.dead, AV.dead, AV.dead, AV.dead, AV.dead, AV.dead, AV.dead, AV.dead, AV.dead, AV.dead, AV.dead, AV.dead, AV.dead, AV.dead, AV.dead, AV.dead, AV.dead, AV.dead, AV.dead, AV.dead, AV.dead, AV.dead, AV.dead, AV.dead, AV.dead, AV.dead, AV.dead, AV.dead, AV.dead, AV.dead, AV.dead, AV.dead, AV.dead, AV.dead, AV.dead, AV.dead, AV.dead, AV.dead, AV.dead, AV.dead, AV.dead, AV.dead, AV.dead, AV.dead, AV.dead, AV.dead, AV.dead, AV.dead, AV.dead, AV.dead, AV.dead, AV.dead, AV.dead, AV.dead, AV.dead, AV.dead, AV.dead, AV.dead, AV.dead, AV.dead, AV.dead, AV.dead, AV.dead, AV.dead, AV.dead, AV.dead, AV.dead, AV.dead, AV.dead, AV.dead, AV.dead, AV.dead, AV.dead, AV.dead, AV.dead, AV.dead, AV.dead, AV.dead, AV.dead, AV.dead, AV.dead, AV.dead, AV.dead] (AH.mk [((25 : Nat), [(AV.v (Value.int IntKind.i64 n)), (AV.v (Value.int IntKind.i64 m)), (AV.v (Value.int IntKind.i64 a)), (AV.v (Value.int IntKind.i64 b)), (AV.v (Value.int IntKind.i64 c)), (AV.v (Value.int IntKind.i64 d)), (AV.v (Value.int IntKind.i64 e)), (AV.v (Value.int IntKind.i64 f)), (AV.v (Value.int IntKind.i64 g))]), ((23 : Nat), [(AV.v (Value.int IntKind.i64 a)), (AV.v (Value.int IntKind.i64 b)), (AV.v (Value.int IntKind.i64 c)), (AV.v (Value.int IntKind.i64 d)), (AV.v (Value.int IntKind.i64 e)), (AV.v (Value.int IntKind.i64 f)), (AV.v (Value.int IntKind.i64 g))]), ((68 : Nat), C), ((70 : Nat), D), ((75 : Nat), T), ((78 : Nat), L), ((60 : Nat), [(AV.ptr (4 : Nat) (0 : Nat)), (AV.ptr (3 : Nat) (0 : Nat)), (AV.v (Value.int IntKind.i64 sa)), (AV.v (Value.int IntKind.i64 sb)), (AV.v (Value.int IntKind.i64 sc)), (AV.v (Value.int IntKind.i64 sd)), (AV.v (Value.int IntKind.i64 se)), (AV.v (Value.int IntKind.i64 sf)), (AV.v (Value.int IntKind.i64 sg)), (AV.v (Value.int IntKind.i64 sl)), (AV.v (Value.int IntKind.i64 sm)), (AV.v (Value.int IntKind.i64 st)), (AV.v (Value.int IntKind.i64 sp)), (AV.ptr (2 : Nat) (0 : Nat)), (AV.ptr (5 : Nat) (0 : Nat))])] (@List.nil Nat) (0 : Nat) (0 : Nat) true (@List.nil (Prod Nat Bool)) True)))) := by kernel_rfl
theorem o2_hd (z : List Int) (k j : Int) (B : List (TypeId × List AV)) (R : Exit → List AV → AH → Prop) : codeL nro mu0 (fun _ => none) 12 ((flatten (sub (bodyOf 4) [1, 1, 1, 1, 1, 1, 1, 1, 0, 1, 0, 0])).take 2) (oS .dead (rl8 z) .dead (gi k) (gi j) .dead) (hp B []) (kp [2, 3, 7, 10, 11] R) =
    (bif (decide (j < k)) then (some (True ∧ (R Exit.normal [AV.dead, AV.dead, (AV.lst (1 : Nat) (List.map u8V z) Tip.no), (AV.ptr (0 : Nat) (0 : Nat)), AV.dead, AV.dead, AV.dead, (AV.ptr (6 : Nat) (0 : Nat)), AV.dead, AV.dead, (AV.v (Value.int IntKind.i64 k)), (AV.v (Value.int IntKind.i64 j)), AV.dead, AV.dead, AV.dead, AV.dead, AV.dead, AV.dead, AV.dead, AV.dead, AV.dead, AV.dead, AV.dead, AV.dead, AV.dead, AV.dead, AV.dead, AV.dead, AV.dead, AV.dead, AV.dead, AV.dead, AV.dead, AV.dead, AV.dead, AV.dead, AV.dead, AV.dead, AV.dead, AV.dead, AV.dead, AV.dead, AV.dead, AV.dead, AV.dead, AV.dead, AV.dead, AV.dead, AV.dead, AV.dead, AV.dead, AV.dead, AV.dead, AV.dead, AV.dead, AV.dead, AV.dead, AV.dead, AV.dead, AV.dead, AV.dead, AV.dead, AV.dead, AV.dead, AV.dead, AV.dead, AV.dead, AV.dead, AV.dead, AV.dead, AV.dead, AV.dead, AV.dead, AV.dead, AV.dead, AV.dead, AV.dead, AV.dead, AV.dead, AV.dead, AV.dead, AV.dead, AV.dead, AV.dead, AV.dead, AV.dead, AV.dead, AV.dead, AV.dead, AV.dead, AV.dead, AV.dead, AV.dead, AV.dead, AV.dead, AV.dead, AV.dead, AV.dead, AV.dead, AV.dead, AV.dead, AV.dead, AV.dead, AV.dead, AV.dead, AV.dead, AV.dead, AV.dead] (AH.mk B (@List.nil Nat) (0 : Nat) (0 : Nat) true (@List.nil (Prod Nat Bool)) True)))) else (some (True ∧ (R (Exit.exit (2 : Nat)) [AV.dead, AV.dead, (AV.lst (1 : Nat) (List.map u8V z) Tip.no), (AV.ptr (0 : Nat) (0 : Nat)), AV.dead, AV.dead, AV.dead, (AV.ptr (6 : Nat) (0 : Nat)), AV.dead, AV.dead, (AV.v (Value.int IntKind.i64 k)), (AV.v (Value.int IntKind.i64 j)), AV.dead, AV.dead, AV.dead, AV.dead, AV.dead, AV.dead, AV.dead, AV.dead, AV.dead, AV.dead, AV.dead, AV.dead, AV.dead, AV.dead, AV.dead, AV.dead, AV.dead, AV.dead, AV.dead, AV.dead, AV.dead, AV.dead, AV.dead, AV.dead, AV.dead, AV.dead, AV.dead, AV.dead, AV.dead, AV.dead, AV.dead, AV.dead, AV.dead, AV.dead, AV.dead, AV.dead, AV.dead, AV.dead, AV.dead, AV.dead, AV.dead, AV.dead, AV.dead, AV.dead, AV.dead, AV.dead, AV.dead, AV.dead, AV.dead, AV.dead, AV.dead, AV.dead, AV.dead, AV.dead, AV.dead, AV.dead, AV.dead, AV.dead, AV.dead, AV.dead, AV.dead, AV.dead, AV.dead, AV.dead, AV.dead, AV.dead, AV.dead, AV.dead, AV.dead, AV.dead, AV.dead, AV.dead, AV.dead, AV.dead, AV.dead, AV.dead, AV.dead, AV.dead, AV.dead, AV.dead, AV.dead, AV.dead, AV.dead, AV.dead, AV.dead, AV.dead, AV.dead, AV.dead, AV.dead, AV.dead, AV.dead, AV.dead, AV.dead, AV.dead, AV.dead, AV.dead] (AH.mk B (@List.nil Nat) (0 : Nat) (0 : Nat) true (@List.nil (Prod Nat Bool)) True))))) := by kernel_rfl
theorem o2_a (z : List Int) (k j : Int) (B : List (TypeId × List AV)) (R : Exit → List AV → AH → Prop) : codeL nro mu0 (fun _ => none) 12 ((flatten (sub (bodyOf 4) [1, 1, 1, 1, 1, 1, 1, 1, 0, 1, 0, 0, 1, 0, 0])).take 1) (oS .dead (rl8 z) .dead (gi k) (gi j) .dead) (hp B []) (kp [2, 3, 7, 10, 11, 12] R) =
    (some (True ∧ (R Exit.normal [AV.dead, AV.dead, (AV.lst (1 : Nat) (List.map u8V z) Tip.no), (AV.ptr (0 : Nat) (0 : Nat)), AV.dead, AV.dead, AV.dead, (AV.ptr (6 : Nat) (0 : Nat)), AV.dead, AV.dead, (AV.v (Value.int IntKind.i64 k)), (AV.v (Value.int IntKind.i64 j)), (AV.v (Value.int IntKind.i64 (0 : Int))), AV.dead, AV.dead, AV.dead, AV.dead, AV.dead, AV.dead, AV.dead, AV.dead, AV.dead, AV.dead, AV.dead, AV.dead, AV.dead, AV.dead, AV.dead, AV.dead, AV.dead, AV.dead, AV.dead, AV.dead, AV.dead, AV.dead, AV.dead, AV.dead, AV.dead, AV.dead, AV.dead, AV.dead, AV.dead, AV.dead, AV.dead, AV.dead, AV.dead, AV.dead, AV.dead, AV.dead, AV.dead, AV.dead, AV.dead, AV.dead, AV.dead, AV.dead, AV.dead, AV.dead, AV.dead, AV.dead, AV.dead, AV.dead, AV.dead, AV.dead, AV.dead, AV.dead, AV.dead, AV.dead, AV.dead, AV.dead, AV.dead, AV.dead, AV.dead, AV.dead, AV.dead, AV.dead, AV.dead, AV.dead, AV.dead, AV.dead, AV.dead, AV.dead, AV.dead, AV.dead, AV.dead, AV.dead, AV.dead, AV.dead, AV.dead, AV.dead, AV.dead, AV.dead, AV.dead, AV.dead, AV.dead, AV.dead, AV.dead, AV.dead, AV.dead, AV.dead, AV.dead, AV.dead, AV.dead, AV.dead, AV.dead, AV.dead, AV.dead, AV.dead, AV.dead] (AH.mk B (@List.nil Nat) (0 : Nat) (0 : Nat) true (@List.nil (Prod Nat Bool)) True)))) := by kernel_rfl
theorem o3_hd (z : List Int) (k j h : Int) (B : List (TypeId × List AV)) (R : Exit → List AV → AH → Prop) : codeL nro mu0 (fun _ => none) 12 ((flatten (sub (bodyOf 4) [1, 1, 1, 1, 1, 1, 1, 1, 0, 1, 0, 0, 1, 0, 0, 0, 1, 0, 0])).take 2) (oS .dead (rl8 z) .dead (gi k) (gi j) (gi h)) (hp B []) (kp [2, 3, 7, 10, 11, 12] R) =
    (bif (decide (h < ((List.length (List.map u8V z)) : Int))) then (bif (decide (h < (20 : Int))) then (some (True ∧ (R Exit.normal [AV.dead, AV.dead, (AV.lst (1 : Nat) (List.map u8V z) Tip.no), (AV.ptr (0 : Nat) (0 : Nat)), AV.dead, AV.dead, AV.dead, (AV.ptr (6 : Nat) (0 : Nat)), AV.dead, AV.dead, (AV.v (Value.int IntKind.i64 k)), (AV.v (Value.int IntKind.i64 j)), (AV.v (Value.int IntKind.i64 h)), AV.dead, AV.dead, AV.dead, AV.dead, AV.dead, AV.dead, AV.dead, AV.dead, AV.dead, AV.dead, AV.dead, AV.dead, AV.dead, AV.dead, AV.dead, AV.dead, AV.dead, AV.dead, AV.dead, AV.dead, AV.dead, AV.dead, AV.dead, AV.dead, AV.dead, AV.dead, AV.dead, AV.dead, AV.dead, AV.dead, AV.dead, AV.dead, AV.dead, AV.dead, AV.dead, AV.dead, AV.dead, AV.dead, AV.dead, AV.dead, AV.dead, AV.dead, AV.dead, AV.dead, AV.dead, AV.dead, AV.dead, AV.dead, AV.dead, AV.dead, AV.dead, AV.dead, AV.dead, AV.dead, AV.dead, AV.dead, AV.dead, AV.dead, AV.dead, AV.dead, AV.dead, AV.dead, AV.dead, AV.dead, AV.dead, AV.dead, AV.dead, AV.dead, AV.dead, AV.dead, AV.dead, AV.dead, AV.dead, AV.dead, AV.dead, AV.dead, AV.dead, AV.dead, AV.dead, AV.dead, AV.dead, AV.dead, AV.dead, AV.dead, AV.dead, AV.dead, AV.dead, AV.dead, AV.dead, AV.dead, AV.dead, AV.dead, AV.dead, AV.dead, AV.dead] (AH.mk B (@List.nil Nat) (0 : Nat) (0 : Nat) true (@List.nil (Prod Nat Bool)) True)))) else (some (True ∧ (R (Exit.exit (4 : Nat)) [AV.dead, AV.dead, (AV.lst (1 : Nat) (List.map u8V z) Tip.no), (AV.ptr (0 : Nat) (0 : Nat)), AV.dead, AV.dead, AV.dead, (AV.ptr (6 : Nat) (0 : Nat)), AV.dead, AV.dead, (AV.v (Value.int IntKind.i64 k)), (AV.v (Value.int IntKind.i64 j)), (AV.v (Value.int IntKind.i64 h)), AV.dead, AV.dead, AV.dead, AV.dead, AV.dead, AV.dead, AV.dead, AV.dead, AV.dead, AV.dead, AV.dead, AV.dead, AV.dead, AV.dead, AV.dead, AV.dead, AV.dead, AV.dead, AV.dead, AV.dead, AV.dead, AV.dead, AV.dead, AV.dead, AV.dead, AV.dead, AV.dead, AV.dead, AV.dead, AV.dead, AV.dead, AV.dead, AV.dead, AV.dead, AV.dead, AV.dead, AV.dead, AV.dead, AV.dead, AV.dead, AV.dead, AV.dead, AV.dead, AV.dead, AV.dead, AV.dead, AV.dead, AV.dead, AV.dead, AV.dead, AV.dead, AV.dead, AV.dead, AV.dead, AV.dead, AV.dead, AV.dead, AV.dead, AV.dead, AV.dead, AV.dead, AV.dead, AV.dead, AV.dead, AV.dead, AV.dead, AV.dead, AV.dead, AV.dead, AV.dead, AV.dead, AV.dead, AV.dead, AV.dead, AV.dead, AV.dead, AV.dead, AV.dead, AV.dead, AV.dead, AV.dead, AV.dead, AV.dead, AV.dead, AV.dead, AV.dead, AV.dead, AV.dead, AV.dead, AV.dead, AV.dead, AV.dead, AV.dead, AV.dead, AV.dead] (AH.mk B (@List.nil Nat) (0 : Nat) (0 : Nat) true (@List.nil (Prod Nat Bool)) True))))) else (some (True ∧ (R (Exit.exit (4 : Nat)) [AV.dead, AV.dead, (AV.lst (1 : Nat) (List.map u8V z) Tip.no), (AV.ptr (0 : Nat) (0 : Nat)), AV.dead, AV.dead, AV.dead, (AV.ptr (6 : Nat) (0 : Nat)), AV.dead, AV.dead, (AV.v (Value.int IntKind.i64 k)), (AV.v (Value.int IntKind.i64 j)), (AV.v (Value.int IntKind.i64 h)), AV.dead, AV.dead, AV.dead, AV.dead, AV.dead, AV.dead, AV.dead, AV.dead, AV.dead, AV.dead, AV.dead, AV.dead, AV.dead, AV.dead, AV.dead, AV.dead, AV.dead, AV.dead, AV.dead, AV.dead, AV.dead, AV.dead, AV.dead, AV.dead, AV.dead, AV.dead, AV.dead, AV.dead, AV.dead, AV.dead, AV.dead, AV.dead, AV.dead, AV.dead, AV.dead, AV.dead, AV.dead, AV.dead, AV.dead, AV.dead, AV.dead, AV.dead, AV.dead, AV.dead, AV.dead, AV.dead, AV.dead, AV.dead, AV.dead, AV.dead, AV.dead, AV.dead, AV.dead, AV.dead, AV.dead, AV.dead, AV.dead, AV.dead, AV.dead, AV.dead, AV.dead, AV.dead, AV.dead, AV.dead, AV.dead, AV.dead, AV.dead, AV.dead, AV.dead, AV.dead, AV.dead, AV.dead, AV.dead, AV.dead, AV.dead, AV.dead, AV.dead, AV.dead, AV.dead, AV.dead, AV.dead, AV.dead, AV.dead, AV.dead, AV.dead, AV.dead, AV.dead, AV.dead, AV.dead, AV.dead, AV.dead, AV.dead, AV.dead, AV.dead, AV.dead] (AH.mk B (@List.nil Nat) (0 : Nat) (0 : Nat) true (@List.nil (Prod Nat Bool)) True))))) := by kernel_rfl
theorem o3_b (M : MS) (K : KS) (cal : St → Int) (z : List Int) (k j h : Int) (n' : Nat) (m a b c d e f g : Int) (sa sb sc sd se sf sg sl sm st sp : Int) (T D C L : List AV) (R : Exit → List AV → AH → Prop) : code nro muO (prO M K cal true) 12 (sub (bodyOf 4) [1, 1, 1, 1, 1, 1, 1, 1, 0, 1, 0, 0, 1, 0, 0, 0, 1, 0, 0, 1, 0, 0]) (oS .dead (rl8 z) .dead (gi k) (gi j) (gi h)) (oH (Int.ofNat (n' + 1)) m a b c d e f g ⟨sa, sb, sc, sd, se, sf, sg, sl, sm, st, sp, T, D, C, L⟩) (kp [2, 3, 7, 10, 11, 12] R) =
    (some ((cdb (cds True (elemB Try.prog (5 : Nat) (List.map u8V z) h) (((0 : Int) ≤ h) ∧ (((List.map u8V z)[(Int.toNat h)]?) = (some (AV.v (Value.int IntKind.u8 (exInt (List.getD (List.map u8V z) (Int.toNat h) AV.dead)))))))) ((((Nat.beq (60 : Nat) (60 : Nat)) && (true && (true && (true && (true && (true && (true && (true && (true && (true && (true && (true && (true && (true && (true && (true && (true && (true && true)))))))))))))))))) && ((M).1 (St.mk sa sb sc sd se sf sg sl sm st sp T D C L))) && (((plainC T) && ((plainC D) && ((plainC C) && ((plainC L) && true)))) && ((plainC (((M).3 (St.mk sa sb sc sd se sf sg sl sm st sp T D C L) (Int.tmod (IntKind.wrap IntKind.i64 (exInt (List.getD (List.map u8V z) (Int.toNat h) AV.dead))) (Int.ofNat (n' + (1 : Nat)))))).12) && ((plainC (((M).3 (St.mk sa sb sc sd se sf sg sl sm st sp T D C L) (Int.tmod (IntKind.wrap IntKind.i64 (exInt (List.getD (List.map u8V z) (Int.toNat h) AV.dead))) (Int.ofNat (n' + (1 : Nat)))))).13) && ((plainC (((M).3 (St.mk sa sb sc sd se sf sg sl sm st sp T D C L) (Int.tmod (IntKind.wrap IntKind.i64 (exInt (List.getD (List.map u8V z) (Int.toNat h) AV.dead))) (Int.ofNat (n' + (1 : Nat)))))).14) && ((plainC (((M).3 (St.mk sa sb sc sd se sf sg sl sm st sp T D C L) (Int.tmod (IntKind.wrap IntKind.i64 (exInt (List.getD (List.map u8V z) (Int.toNat h) AV.dead))) (Int.ofNat (n' + (1 : Nat)))))).15) && true))))))) ∧ (R Exit.normal [AV.dead, AV.dead, (AV.lst (1 : Nat) (List.map u8V z) Tip.no), (AV.ptr (0 : Nat) (0 : Nat)), AV.dead, AV.dead, AV.dead, (AV.ptr (6 : Nat) (0 : Nat)), AV.dead, AV.dead, (AV.v (Value.int IntKind.i64 k)), (AV.v (Value.int IntKind.i64 j)), (AV.v (Value.int IntKind.i64 h)), AV.dead, AV.dead, AV.dead, AV.dead, AV.dead, AV.dead, AV.dead, AV.dead, AV.dead, AV.dead, AV.dead, AV.dead, AV.dead, AV.dead, AV.dead, AV.dead, AV.dead, AV.dead, AV.dead, AV.dead, AV.dead, AV.dead, AV.dead, AV.dead, AV.dead, AV.dead, AV.dead, AV.dead, AV.dead, AV.dead, AV.dead, AV.dead, AV.dead, AV.dead, AV.dead, AV.dead, AV.dead, AV.dead, AV.dead, AV.dead, AV.dead, AV.dead, AV.dead, AV.dead, AV.dead, AV.dead, AV.dead, AV.dead, AV.dead, AV.dead, AV.dead, AV.dead, AV.dead, AV.dead, AV.dead, AV.dead, AV.dead, AV.dead, AV.dead, AV.dead, AV.dead, AV.dead, AV.dead, AV.dead, AV.dead, AV.dead, AV.dead, AV.dead, AV.dead, AV.dead, AV.dead, AV.dead, AV.dead, AV.dead, AV.dead, AV.dead, AV.dead, AV.dead, AV.dead, AV.dead, AV.dead, AV.dead, AV.dead, AV.dead, AV.dead, AV.dead, AV.dead, AV.dead, AV.dead, AV.dead, AV.dead, AV.dead, AV.dead, AV.dead, AV.dead] (AH.mk [((25 : Nat), [(AV.v (Value.int IntKind.i64 (Int.ofNat (n' + (1 : Nat))))), (AV.v (Value.int IntKind.i64 m)), (AV.v (Value.int IntKind.i64 a)), (AV.v (Value.int IntKind.i64 b)), (AV.v (Value.int IntKind.i64 c)), (AV.v (Value.int IntKind.i64 d)), (AV.v (Value.int IntKind.i64 e)), (AV.v (Value.int IntKind.i64 f)), (AV.v (Value.int IntKind.i64 g))]), ((23 : Nat), [(AV.v (Value.int IntKind.i64 a)), (AV.v (Value.int IntKind.i64 b)), (AV.v (Value.int IntKind.i64 c)), (AV.v (Value.int IntKind.i64 d)), (AV.v (Value.int IntKind.i64 e)), (AV.v (Value.int IntKind.i64 f)), (AV.v (Value.int IntKind.i64 g))]), ((68 : Nat), (((M).3 (St.mk sa sb sc sd se sf sg sl sm st sp T D C L) (Int.tmod (IntKind.wrap IntKind.i64 (exInt (List.getD (List.map u8V z) (Int.toNat h) AV.dead))) (Int.ofNat (n' + (1 : Nat)))))).14), ((70 : Nat), (((M).3 (St.mk sa sb sc sd se sf sg sl sm st sp T D C L) (Int.tmod (IntKind.wrap IntKind.i64 (exInt (List.getD (List.map u8V z) (Int.toNat h) AV.dead))) (Int.ofNat (n' + (1 : Nat)))))).13), ((75 : Nat), (((M).3 (St.mk sa sb sc sd se sf sg sl sm st sp T D C L) (Int.tmod (IntKind.wrap IntKind.i64 (exInt (List.getD (List.map u8V z) (Int.toNat h) AV.dead))) (Int.ofNat (n' + (1 : Nat)))))).12), ((78 : Nat), (((M).3 (St.mk sa sb sc sd se sf sg sl sm st sp T D C L) (Int.tmod (IntKind.wrap IntKind.i64 (exInt (List.getD (List.map u8V z) (Int.toNat h) AV.dead))) (Int.ofNat (n' + (1 : Nat)))))).15), ((60 : Nat), [(AV.ptr (4 : Nat) (0 : Nat)), (AV.ptr (3 : Nat) (0 : Nat)), (AV.v (Value.int IntKind.i64 (((M).3 (St.mk sa sb sc sd se sf sg sl sm st sp T D C L) (Int.tmod (IntKind.wrap IntKind.i64 (exInt (List.getD (List.map u8V z) (Int.toNat h) AV.dead))) (Int.ofNat (n' + (1 : Nat)))))).1)), (AV.v (Value.int IntKind.i64 (((M).3 (St.mk sa sb sc sd se sf sg sl sm st sp T D C L) (Int.tmod (IntKind.wrap IntKind.i64 (exInt (List.getD (List.map u8V z) (Int.toNat h) AV.dead))) (Int.ofNat (n' + (1 : Nat)))))).2)), (AV.v (Value.int IntKind.i64 (((M).3 (St.mk sa sb sc sd se sf sg sl sm st sp T D C L) (Int.tmod (IntKind.wrap IntKind.i64 (exInt (List.getD (List.map u8V z) (Int.toNat h) AV.dead))) (Int.ofNat (n' + (1 : Nat)))))).3)), (AV.v (Value.int IntKind.i64 (((M).3 (St.mk sa sb sc sd se sf sg sl sm st sp T D C L) (Int.tmod (IntKind.wrap IntKind.i64 (exInt (List.getD (List.map u8V z) (Int.toNat h) AV.dead))) (Int.ofNat (n' + (1 : Nat)))))).4)), (AV.v (Value.int IntKind.i64 (((M).3 (St.mk sa sb sc sd se sf sg sl sm st sp T D C L) (Int.tmod (IntKind.wrap IntKind.i64 (exInt (List.getD (List.map u8V z) (Int.toNat h) AV.dead))) (Int.ofNat (n' + (1 : Nat)))))).5)), (AV.v (Value.int IntKind.i64 (((M).3 (St.mk sa sb sc sd se sf sg sl sm st sp T D C L) (Int.tmod (IntKind.wrap IntKind.i64 (exInt (List.getD (List.map u8V z) (Int.toNat h) AV.dead))) (Int.ofNat (n' + (1 : Nat)))))).6)), (AV.v (Value.int IntKind.i64 (((M).3 (St.mk sa sb sc sd se sf sg sl sm st sp T D C L) (Int.tmod (IntKind.wrap IntKind.i64 (exInt (List.getD (List.map u8V z) (Int.toNat h) AV.dead))) (Int.ofNat (n' + (1 : Nat)))))).7)), (AV.v (Value.int IntKind.i64 (((M).3 (St.mk sa sb sc sd se sf sg sl sm st sp T D C L) (Int.tmod (IntKind.wrap IntKind.i64 (exInt (List.getD (List.map u8V z) (Int.toNat h) AV.dead))) (Int.ofNat (n' + (1 : Nat)))))).8)), (AV.v (Value.int IntKind.i64 (((M).3 (St.mk sa sb sc sd se sf sg sl sm st sp T D C L) (Int.tmod (IntKind.wrap IntKind.i64 (exInt (List.getD (List.map u8V z) (Int.toNat h) AV.dead))) (Int.ofNat (n' + (1 : Nat)))))).9)), (AV.v (Value.int IntKind.i64 (((M).3 (St.mk sa sb sc sd se sf sg sl sm st sp T D C L) (Int.tmod (IntKind.wrap IntKind.i64 (exInt (List.getD (List.map u8V z) (Int.toNat h) AV.dead))) (Int.ofNat (n' + (1 : Nat)))))).10)), (AV.v (Value.int IntKind.i64 (((M).3 (St.mk sa sb sc sd se sf sg sl sm st sp T D C L) (Int.tmod (IntKind.wrap IntKind.i64 (exInt (List.getD (List.map u8V z) (Int.toNat h) AV.dead))) (Int.ofNat (n' + (1 : Nat)))))).11)), (AV.ptr (2 : Nat) (0 : Nat)), (AV.ptr (5 : Nat) (0 : Nat))])] (@List.nil Nat) (0 : Nat) (0 : Nat) true (@List.nil (Prod Nat Bool)) True)))) := by kernel_rfl
theorem o3_up (z : List Int) (k j h : Int) (B : List (TypeId × List AV)) (R : Exit → List AV → AH → Prop) : codeL nro mu0 (fun _ => none) 12 ((flatten (sub (bodyOf 4) [1, 1, 1, 1, 1, 1, 1, 1, 0, 1, 0, 0, 1, 0, 0, 0, 1, 0, 0])).drop 3) (oS .dead (rl8 z) .dead (gi k) (gi j) (gi h)) (hp B []) (kp [2, 3, 7, 10, 11, 12] R) =
    (some (True ∧ (R Exit.normal [AV.dead, AV.dead, (AV.lst (1 : Nat) (List.map u8V z) Tip.no), (AV.ptr (0 : Nat) (0 : Nat)), AV.dead, AV.dead, AV.dead, (AV.ptr (6 : Nat) (0 : Nat)), AV.dead, AV.dead, (AV.v (Value.int IntKind.i64 k)), (AV.v (Value.int IntKind.i64 j)), (AV.v (Value.int IntKind.i64 (IntKind.wrap IntKind.i64 (h + (1 : Int))))), AV.dead, AV.dead, AV.dead, AV.dead, AV.dead, AV.dead, AV.dead, AV.dead, AV.dead, AV.dead, AV.dead, AV.dead, AV.dead, AV.dead, AV.dead, AV.dead, AV.dead, AV.dead, AV.dead, AV.dead, AV.dead, AV.dead, AV.dead, AV.dead, AV.dead, AV.dead, AV.dead, AV.dead, AV.dead, AV.dead, AV.dead, AV.dead, AV.dead, AV.dead, AV.dead, AV.dead, AV.dead, AV.dead, AV.dead, AV.dead, AV.dead, AV.dead, AV.dead, AV.dead, AV.dead, AV.dead, AV.dead, AV.dead, AV.dead, AV.dead, AV.dead, AV.dead, AV.dead, AV.dead, AV.dead, AV.dead, AV.dead, AV.dead, AV.dead, AV.dead, AV.dead, AV.dead, AV.dead, AV.dead, AV.dead, AV.dead, AV.dead, AV.dead, AV.dead, AV.dead, AV.dead, AV.dead, AV.dead, AV.dead, AV.dead, AV.dead, AV.dead, AV.dead, AV.dead, AV.dead, AV.dead, AV.dead, AV.dead, AV.dead, AV.dead, AV.dead, AV.dead, AV.dead, AV.dead, AV.dead, AV.dead, AV.dead, AV.dead, AV.dead, AV.dead] (AH.mk B (@List.nil Nat) (0 : Nat) (0 : Nat) true (@List.nil (Prod Nat Bool)) True)))) := by kernel_rfl
theorem o2_w (M : MS) (K : KS) (cal : St → Int) (z : List Int) (k j : Int) (n m a b c d e f g : Int) (sa sb sc sd se sf sg sl sm st sp : Int) (T D C L : List AV) (R : Exit → List AV → AH → Prop) : codeL nro mu0 (prO M K cal true) 12 (((flatten (sub (bodyOf 4) [1, 1, 1, 1, 1, 1, 1, 1, 0, 1, 0, 0, 1, 0, 0])).drop 2).take 1) (oS .dead (rl8 z) .dead (gi k) (gi j) .dead) (oH n m a b c d e f g ⟨sa, sb, sc, sd, se, sf, sg, sl, sm, st, sp, T, D, C, L⟩) (kp [2, 3, 7, 10, 11] R) =
    (some ((cdb True ((((Nat.beq (60 : Nat) (60 : Nat)) && (true && (true && (true && (true && (true && (true && (true && (true && (true && (true && (true && (true && (true && (true && (true && (true && (true && true)))))))))))))))))) && ((M).1 (St.mk sa sb sc sd se sf sg sl sm st sp T D C L))) && (((plainC T) && ((plainC D) && ((plainC C) && ((plainC L) && true)))) && ((plainC (((M).4 (St.mk sa sb sc sd se sf sg sl sm st sp T D C L) (0 : Int))).12) && ((plainC (((M).4 (St.mk sa sb sc sd se sf sg sl sm st sp T D C L) (0 : Int))).13) && ((plainC (((M).4 (St.mk sa sb sc sd se sf sg sl sm st sp T D C L) (0 : Int))).14) && ((plainC (((M).4 (St.mk sa sb sc sd se sf sg sl sm st sp T D C L) (0 : Int))).15) && true))))))) ∧ (R Exit.normal [AV.dead, AV.dead, (AV.lst (1 : Nat) (List.map u8V z) Tip.no), (AV.ptr (0 : Nat) (0 : Nat)), AV.dead, AV.dead, AV.dead, (AV.ptr (6 : Nat) (0 : Nat)), AV.dead, AV.dead, (AV.v (Value.int IntKind.i64 k)), (AV.v (Value.int IntKind.i64 j)), AV.dead, AV.dead, AV.dead, AV.dead, AV.dead, AV.dead, AV.dead, AV.dead, AV.dead, AV.dead, AV.dead, AV.dead, AV.dead, AV.dead, AV.dead, AV.dead, AV.dead, AV.dead, AV.dead, AV.dead, AV.dead, AV.dead, AV.dead, AV.dead, AV.dead, AV.dead, AV.dead, AV.dead, AV.dead, AV.dead, AV.dead, AV.dead, AV.dead, AV.dead, AV.dead, AV.dead, AV.dead, AV.dead, AV.dead, AV.dead, AV.dead, AV.dead, AV.dead, AV.dead, AV.dead, AV.dead, AV.dead, AV.dead, AV.dead, AV.dead, AV.dead, AV.dead, AV.dead, AV.dead, AV.dead, AV.dead, AV.dead, AV.dead, AV.dead, AV.dead, AV.dead, AV.dead, AV.dead, AV.dead, AV.dead, AV.dead, AV.dead, AV.dead, AV.dead, AV.dead, AV.dead, AV.dead, AV.dead, AV.dead, AV.dead, AV.dead, AV.dead, AV.dead, AV.dead, AV.dead, AV.dead, AV.dead, AV.dead, AV.dead, AV.dead, AV.dead, AV.dead, AV.dead, AV.dead, AV.dead, AV.dead, AV.dead, AV.dead, AV.dead, AV.dead, AV.dead] (AH.mk [((25 : Nat), [(AV.v (Value.int IntKind.i64 n)), (AV.v (Value.int IntKind.i64 m)), (AV.v (Value.int IntKind.i64 a)), (AV.v (Value.int IntKind.i64 b)), (AV.v (Value.int IntKind.i64 c)), (AV.v (Value.int IntKind.i64 d)), (AV.v (Value.int IntKind.i64 e)), (AV.v (Value.int IntKind.i64 f)), (AV.v (Value.int IntKind.i64 g))]), ((23 : Nat), [(AV.v (Value.int IntKind.i64 a)), (AV.v (Value.int IntKind.i64 b)), (AV.v (Value.int IntKind.i64 c)), (AV.v (Value.int IntKind.i64 d)), (AV.v (Value.int IntKind.i64 e)), (AV.v (Value.int IntKind.i64 f)), (AV.v (Value.int IntKind.i64 g))]), ((68 : Nat), (((M).4 (St.mk sa sb sc sd se sf sg sl sm st sp T D C L) (0 : Int))).14), ((70 : Nat), (((M).4 (St.mk sa sb sc sd se sf sg sl sm st sp T D C L) (0 : Int))).13), ((75 : Nat), (((M).4 (St.mk sa sb sc sd se sf sg sl sm st sp T D C L) (0 : Int))).12), ((78 : Nat), (((M).4 (St.mk sa sb sc sd se sf sg sl sm st sp T D C L) (0 : Int))).15), ((60 : Nat), [(AV.ptr (4 : Nat) (0 : Nat)), (AV.ptr (3 : Nat) (0 : Nat)), (AV.v (Value.int IntKind.i64 (((M).4 (St.mk sa sb sc sd se sf sg sl sm st sp T D C L) (0 : Int))).1)), (AV.v (Value.int IntKind.i64 (((M).4 (St.mk sa sb sc sd se sf sg sl sm st sp T D C L) (0 : Int))).2)), (AV.v (Value.int IntKind.i64 (((M).4 (St.mk sa sb sc sd se sf sg sl sm st sp T D C L) (0 : Int))).3)), (AV.v (Value.int IntKind.i64 (((M).4 (St.mk sa sb sc sd se sf sg sl sm st sp T D C L) (0 : Int))).4)), (AV.v (Value.int IntKind.i64 (((M).4 (St.mk sa sb sc sd se sf sg sl sm st sp T D C L) (0 : Int))).5)), (AV.v (Value.int IntKind.i64 (((M).4 (St.mk sa sb sc sd se sf sg sl sm st sp T D C L) (0 : Int))).6)), (AV.v (Value.int IntKind.i64 (((M).4 (St.mk sa sb sc sd se sf sg sl sm st sp T D C L) (0 : Int))).7)), (AV.v (Value.int IntKind.i64 (((M).4 (St.mk sa sb sc sd se sf sg sl sm st sp T D C L) (0 : Int))).8)), (AV.v (Value.int IntKind.i64 (((M).4 (St.mk sa sb sc sd se sf sg sl sm st sp T D C L) (0 : Int))).9)), (AV.v (Value.int IntKind.i64 (((M).4 (St.mk sa sb sc sd se sf sg sl sm st sp T D C L) (0 : Int))).10)), (AV.v (Value.int IntKind.i64 (((M).4 (St.mk sa sb sc sd se sf sg sl sm st sp T D C L) (0 : Int))).11)), (AV.ptr (2 : Nat) (0 : Nat)), (AV.ptr (5 : Nat) (0 : Nat))])] (@List.nil Nat) (0 : Nat) (0 : Nat) true (@List.nil (Prod Nat Bool)) True)))) := by kernel_rfl
theorem o2_c (M : MS) (K : KS) (cal : St → Int) (z : List Int) (k j : Int) (n m a b c d e f g : Int) (sa sb sc sd se sf sg sl sm st sp : Int) (T D C L : List AV) (R : Exit → List AV → AH → Prop) : codeL nro mu0 (prO M K cal true) 12 (((flatten (sub (bodyOf 4) [1, 1, 1, 1, 1, 1, 1, 1, 0, 1, 0, 0, 1, 0, 0])).drop 3).take 1) (oS .dead (rl8 z) .dead (gi k) (gi j) .dead) (oH n m a b c d e f g ⟨sa, sb, sc, sd, se, sf, sg, sl, sm, st, sp, T, D, C, L⟩) (kp [2, 3, 7, 10, 11, 13] R) =
    (some ((cdb True ((((Nat.beq (60 : Nat) (60 : Nat)) && (true && (true && (true && (true && (true && (true && (true && (true && (true && (true && (true && (true && (true && (true && (true && (true && (true && true)))))))))))))))))) && ((M).1 (St.mk sa sb sc sd se sf sg sl sm st sp T D C L))) && (((plainC T) && ((plainC D) && ((plainC C) && ((plainC L) && true)))) && ((plainC (((M).5 (St.mk sa sb sc sd se sf sg sl sm st sp T D C L))).12) && ((plainC (((M).5 (St.mk sa sb sc sd se sf sg sl sm st sp T D C L))).13) && ((plainC (((M).5 (St.mk sa sb sc sd se sf sg sl sm st sp T D C L))).14) && ((plainC (((M).5 (St.mk sa sb sc sd se sf sg sl sm st sp T D C L))).15) && true))))))) ∧ (R Exit.normal [AV.dead, AV.dead, (AV.lst (1 : Nat) (List.map u8V z) Tip.no), (AV.ptr (0 : Nat) (0 : Nat)), AV.dead, AV.dead, AV.dead, (AV.ptr (6 : Nat) (0 : Nat)), AV.dead, AV.dead, (AV.v (Value.int IntKind.i64 k)), (AV.v (Value.int IntKind.i64 j)), AV.dead, (AV.ptr (List.length [((25 : Nat), [(AV.v (Value.int IntKind.i64 n)), (AV.v (Value.int IntKind.i64 m)), (AV.v (Value.int IntKind.i64 a)), (AV.v (Value.int IntKind.i64 b)), (AV.v (Value.int IntKind.i64 c)), (AV.v (Value.int IntKind.i64 d)), (AV.v (Value.int IntKind.i64 e)), (AV.v (Value.int IntKind.i64 f)), (AV.v (Value.int IntKind.i64 g))]), ((23 : Nat), [(AV.v (Value.int IntKind.i64 a)), (AV.v (Value.int IntKind.i64 b)), (AV.v (Value.int IntKind.i64 c)), (AV.v (Value.int IntKind.i64 d)), (AV.v (Value.int IntKind.i64 e)), (AV.v (Value.int IntKind.i64 f)), (AV.v (Value.int IntKind.i64 g))]), ((68 : Nat), (((M).5 (St.mk sa sb sc sd se sf sg sl sm st sp T D C L))).14), ((70 : Nat), (((M).5 (St.mk sa sb sc sd se sf sg sl sm st sp T D C L))).13), ((75 : Nat), (((M).5 (St.mk sa sb sc sd se sf sg sl sm st sp T D C L))).12), ((78 : Nat), (((M).5 (St.mk sa sb sc sd se sf sg sl sm st sp T D C L))).15), ((60 : Nat), [(AV.ptr (4 : Nat) (0 : Nat)), (AV.ptr (3 : Nat) (0 : Nat)), (AV.v (Value.int IntKind.i64 (((M).5 (St.mk sa sb sc sd se sf sg sl sm st sp T D C L))).1)), (AV.v (Value.int IntKind.i64 (((M).5 (St.mk sa sb sc sd se sf sg sl sm st sp T D C L))).2)), (AV.v (Value.int IntKind.i64 (((M).5 (St.mk sa sb sc sd se sf sg sl sm st sp T D C L))).3)), (AV.v (Value.int IntKind.i64 (((M).5 (St.mk sa sb sc sd se sf sg sl sm st sp T D C L))).4)), (AV.v (Value.int IntKind.i64 (((M).5 (St.mk sa sb sc sd se sf sg sl sm st sp T D C L))).5)), (AV.v (Value.int IntKind.i64 (((M).5 (St.mk sa sb sc sd se sf sg sl sm st sp T D C L))).6)), (AV.v (Value.int IntKind.i64 (((M).5 (St.mk sa sb sc sd se sf sg sl sm st sp T D C L))).7)), (AV.v (Value.int IntKind.i64 (((M).5 (St.mk sa sb sc sd se sf sg sl sm st sp T D C L))).8)), (AV.v (Value.int IntKind.i64 (((M).5 (St.mk sa sb sc sd se sf sg sl sm st sp T D C L))).9)), (AV.v (Value.int IntKind.i64 (((M).5 (St.mk sa sb sc sd se sf sg sl sm st sp T D C L))).10)), (AV.v (Value.int IntKind.i64 (((M).5 (St.mk sa sb sc sd se sf sg sl sm st sp T D C L))).11)), (AV.ptr (2 : Nat) (0 : Nat)), (AV.ptr (5 : Nat) (0 : Nat))])]) (0 : Nat)), AV.dead, AV.dead, AV.dead, AV.dead, AV.dead, AV.dead, AV.dead, AV.dead, AV.dead, AV.dead, AV.dead, AV.dead, AV.dead, AV.dead, AV.dead, AV.dead, AV.dead, AV.dead, AV.dead, AV.dead, AV.dead, AV.dead, AV.dead, AV.dead, AV.dead, AV.dead, AV.dead, AV.dead, AV.dead, AV.dead, AV.dead, AV.dead, AV.dead, AV.dead, AV.dead, AV.dead, AV.dead, AV.dead, AV.dead, AV.dead, AV.dead, AV.dead, AV.dead, AV.dead, AV.dead, AV.dead, AV.dead, AV.dead, AV.dead, AV.dead, AV.dead, AV.dead, AV.dead, AV.dead, AV.dead, AV.dead, AV.dead, AV.dead, AV.dead, AV.dead, AV.dead, AV.dead, AV.dead, AV.dead, AV.dead, AV.dead, AV.dead, AV.dead, AV.dead, AV.dead, AV.dead, AV.dead, AV.dead, AV.dead, AV.dead, AV.dead, AV.dead, AV.dead, AV.dead, AV.dead, AV.dead, AV.dead, AV.dead, AV.dead, AV.dead, AV.dead, AV.dead, AV.dead, AV.dead, AV.dead, AV.dead, AV.dead, AV.dead, AV.dead] (AH.mk [((25 : Nat), [(AV.v (Value.int IntKind.i64 n)), (AV.v (Value.int IntKind.i64 m)), (AV.v (Value.int IntKind.i64 a)), (AV.v (Value.int IntKind.i64 b)), (AV.v (Value.int IntKind.i64 c)), (AV.v (Value.int IntKind.i64 d)), (AV.v (Value.int IntKind.i64 e)), (AV.v (Value.int IntKind.i64 f)), (AV.v (Value.int IntKind.i64 g))]), ((23 : Nat), [(AV.v (Value.int IntKind.i64 a)), (AV.v (Value.int IntKind.i64 b)), (AV.v (Value.int IntKind.i64 c)), (AV.v (Value.int IntKind.i64 d)), (AV.v (Value.int IntKind.i64 e)), (AV.v (Value.int IntKind.i64 f)), (AV.v (Value.int IntKind.i64 g))]), ((68 : Nat), (((M).5 (St.mk sa sb sc sd se sf sg sl sm st sp T D C L))).14), ((70 : Nat), (((M).5 (St.mk sa sb sc sd se sf sg sl sm st sp T D C L))).13), ((75 : Nat), (((M).5 (St.mk sa sb sc sd se sf sg sl sm st sp T D C L))).12), ((78 : Nat), (((M).5 (St.mk sa sb sc sd se sf sg sl sm st sp T D C L))).15), ((60 : Nat), [(AV.ptr (4 : Nat) (0 : Nat)), (AV.ptr (3 : Nat) (0 : Nat)), (AV.v (Value.int IntKind.i64 (((M).5 (St.mk sa sb sc sd se sf sg sl sm st sp T D C L))).1)), (AV.v (Value.int IntKind.i64 (((M).5 (St.mk sa sb sc sd se sf sg sl sm st sp T D C L))).2)), (AV.v (Value.int IntKind.i64 (((M).5 (St.mk sa sb sc sd se sf sg sl sm st sp T D C L))).3)), (AV.v (Value.int IntKind.i64 (((M).5 (St.mk sa sb sc sd se sf sg sl sm st sp T D C L))).4)), (AV.v (Value.int IntKind.i64 (((M).5 (St.mk sa sb sc sd se sf sg sl sm st sp T D C L))).5)), (AV.v (Value.int IntKind.i64 (((M).5 (St.mk sa sb sc sd se sf sg sl sm st sp T D C L))).6)), (AV.v (Value.int IntKind.i64 (((M).5 (St.mk sa sb sc sd se sf sg sl sm st sp T D C L))).7)), (AV.v (Value.int IntKind.i64 (((M).5 (St.mk sa sb sc sd se sf sg sl sm st sp T D C L))).8)), (AV.v (Value.int IntKind.i64 (((M).5 (St.mk sa sb sc sd se sf sg sl sm st sp T D C L))).9)), (AV.v (Value.int IntKind.i64 (((M).5 (St.mk sa sb sc sd se sf sg sl sm st sp T D C L))).10)), (AV.v (Value.int IntKind.i64 (((M).5 (St.mk sa sb sc sd se sf sg sl sm st sp T D C L))).11)), (AV.ptr (2 : Nat) (0 : Nat)), (AV.ptr (5 : Nat) (0 : Nat))]), ((41 : Nat), [(AV.v (Value.int IntKind.i64 ((M).6 (St.mk sa sb sc sd se sf sg sl sm st sp T D C L)))), (AV.v (Value.int IntKind.i64 ((M).7 (St.mk sa sb sc sd se sf sg sl sm st sp T D C L)))), (AV.v (Value.int IntKind.i64 ((M).8 (St.mk sa sb sc sd se sf sg sl sm st sp T D C L)))), (AV.v (Value.int IntKind.i64 ((M).9 (St.mk sa sb sc sd se sf sg sl sm st sp T D C L)))), (AV.v (Value.bool ((M).10 (St.mk sa sb sc sd se sf sg sl sm st sp T D C L)))), (AV.v (Value.bool ((M).11 (St.mk sa sb sc sd se sf sg sl sm st sp T D C L))))])] (@List.nil Nat) (0 : Nat) (0 : Nat) true (@List.nil (Prod Nat Bool)) True)))) := by kernel_rfl
def oT (z : List Int) (k j : Int) : List AV := [.dead, .dead, rl8 z, .ptr 0 0, .dead, .dead, .dead, .ptr 6 0, .dead, .dead, gi k, gi j, .dead, .ptr 7 0] ++ ded 94
theorem o2_t (z : List Int) (k j : Int) (n m a b c d e f g : Int) (s : St) (cv ct ck cp : Int) (cm cd : Bool) (R : Exit → List AV → AH → Prop) : codeL nro mu0 (fun _ => none) 12 ((flatten (sub (bodyOf 4) [1, 1, 1, 1, 1, 1, 1, 1, 0, 1, 0, 0, 1, 0, 0])).drop 4) (oT z k j) (hp (oHb n m a b c d e f g s ++ [(41, aC cv ct ck cp cm cd)]) []) (kp [2, 3, 6, 7, 10, 11] R) =
    (bif (cv != (2 : Int)) then (some (True ∧ (R Exit.ret [AV.dead, AV.dead, (AV.lst (1 : Nat) (List.map u8V z) Tip.no), (AV.ptr (0 : Nat) (0 : Nat)), AV.dead, AV.dead, (AV.v (Value.bool false)), (AV.ptr (6 : Nat) (0 : Nat)), AV.dead, AV.dead, (AV.v (Value.int IntKind.i64 k)), (AV.v (Value.int IntKind.i64 j)), AV.dead, AV.dead, AV.dead, AV.dead, AV.dead, AV.dead, AV.dead, AV.dead, AV.dead, AV.dead, AV.dead, AV.dead, AV.dead, AV.dead, AV.dead, AV.dead, AV.dead, AV.dead, AV.dead, AV.dead, AV.dead, AV.dead, AV.dead, AV.dead, AV.dead, AV.dead, AV.dead, AV.dead, AV.dead, AV.dead, AV.dead, AV.dead, AV.dead, AV.dead, AV.dead, AV.dead, AV.dead, AV.dead, AV.dead, AV.dead, AV.dead, AV.dead, AV.dead, AV.dead, AV.dead, AV.dead, AV.dead, AV.dead, AV.dead, AV.dead, AV.dead, AV.dead, AV.dead, AV.dead, AV.dead, AV.dead, AV.dead, AV.dead, AV.dead, AV.dead, AV.dead, AV.dead, AV.dead, AV.dead, AV.dead, AV.dead, AV.dead, AV.dead, AV.dead, AV.dead, AV.dead, AV.dead, AV.dead, AV.dead, AV.dead, AV.dead, AV.dead, AV.dead, AV.dead, AV.dead, AV.dead, AV.dead, AV.dead, AV.dead, AV.dead, AV.dead, AV.dead, AV.dead, AV.dead, AV.dead, AV.dead, AV.dead, AV.dead, AV.dead, AV.dead, AV.dead] (AH.mk [((25 : Nat), [(AV.v (Value.int IntKind.i64 n)), (AV.v (Value.int IntKind.i64 m)), (AV.v (Value.int IntKind.i64 a)), (AV.v (Value.int IntKind.i64 b)), (AV.v (Value.int IntKind.i64 c)), (AV.v (Value.int IntKind.i64 d)), (AV.v (Value.int IntKind.i64 e)), (AV.v (Value.int IntKind.i64 f)), (AV.v (Value.int IntKind.i64 g))]), ((23 : Nat), [(AV.v (Value.int IntKind.i64 a)), (AV.v (Value.int IntKind.i64 b)), (AV.v (Value.int IntKind.i64 c)), (AV.v (Value.int IntKind.i64 d)), (AV.v (Value.int IntKind.i64 e)), (AV.v (Value.int IntKind.i64 f)), (AV.v (Value.int IntKind.i64 g))]), ((68 : Nat), (s).14), ((70 : Nat), (s).13), ((75 : Nat), (s).12), ((78 : Nat), (s).15), ((60 : Nat), [(AV.ptr (4 : Nat) (0 : Nat)), (AV.ptr (3 : Nat) (0 : Nat)), (AV.v (Value.int IntKind.i64 (s).1)), (AV.v (Value.int IntKind.i64 (s).2)), (AV.v (Value.int IntKind.i64 (s).3)), (AV.v (Value.int IntKind.i64 (s).4)), (AV.v (Value.int IntKind.i64 (s).5)), (AV.v (Value.int IntKind.i64 (s).6)), (AV.v (Value.int IntKind.i64 (s).7)), (AV.v (Value.int IntKind.i64 (s).8)), (AV.v (Value.int IntKind.i64 (s).9)), (AV.v (Value.int IntKind.i64 (s).10)), (AV.v (Value.int IntKind.i64 (s).11)), (AV.ptr (2 : Nat) (0 : Nat)), (AV.ptr (5 : Nat) (0 : Nat))]), ((41 : Nat), [(AV.v (Value.int IntKind.i64 cv)), (AV.v (Value.int IntKind.i64 ct)), (AV.v (Value.int IntKind.i64 ck)), (AV.v (Value.int IntKind.i64 cp)), (AV.v (Value.bool cm)), (AV.v (Value.bool cd))])] (@List.nil Nat) (0 : Nat) (0 : Nat) true (@List.nil (Prod Nat Bool)) True)))) else (some (True ∧ (R Exit.normal [AV.dead, AV.dead, (AV.lst (1 : Nat) (List.map u8V z) Tip.no), (AV.ptr (0 : Nat) (0 : Nat)), AV.dead, AV.dead, AV.dead, (AV.ptr (6 : Nat) (0 : Nat)), AV.dead, AV.dead, (AV.v (Value.int IntKind.i64 k)), (AV.v (Value.int IntKind.i64 j)), AV.dead, AV.dead, AV.dead, AV.dead, AV.dead, AV.dead, AV.dead, AV.dead, AV.dead, AV.dead, AV.dead, AV.dead, AV.dead, AV.dead, AV.dead, AV.dead, AV.dead, AV.dead, AV.dead, AV.dead, AV.dead, AV.dead, AV.dead, AV.dead, AV.dead, AV.dead, AV.dead, AV.dead, AV.dead, AV.dead, AV.dead, AV.dead, AV.dead, AV.dead, AV.dead, AV.dead, AV.dead, AV.dead, AV.dead, AV.dead, AV.dead, AV.dead, AV.dead, AV.dead, AV.dead, AV.dead, AV.dead, AV.dead, AV.dead, AV.dead, AV.dead, AV.dead, AV.dead, AV.dead, AV.dead, AV.dead, AV.dead, AV.dead, AV.dead, AV.dead, AV.dead, AV.dead, AV.dead, AV.dead, AV.dead, AV.dead, AV.dead, AV.dead, AV.dead, AV.dead, AV.dead, AV.dead, AV.dead, AV.dead, AV.dead, AV.dead, AV.dead, AV.dead, AV.dead, AV.dead, AV.dead, AV.dead, AV.dead, AV.dead, AV.dead, AV.dead, AV.dead, AV.dead, AV.dead, AV.dead, AV.dead, AV.dead, AV.dead, AV.dead, AV.dead, AV.dead] (AH.mk [((25 : Nat), [(AV.v (Value.int IntKind.i64 n)), (AV.v (Value.int IntKind.i64 m)), (AV.v (Value.int IntKind.i64 a)), (AV.v (Value.int IntKind.i64 b)), (AV.v (Value.int IntKind.i64 c)), (AV.v (Value.int IntKind.i64 d)), (AV.v (Value.int IntKind.i64 e)), (AV.v (Value.int IntKind.i64 f)), (AV.v (Value.int IntKind.i64 g))]), ((23 : Nat), [(AV.v (Value.int IntKind.i64 a)), (AV.v (Value.int IntKind.i64 b)), (AV.v (Value.int IntKind.i64 c)), (AV.v (Value.int IntKind.i64 d)), (AV.v (Value.int IntKind.i64 e)), (AV.v (Value.int IntKind.i64 f)), (AV.v (Value.int IntKind.i64 g))]), ((68 : Nat), (s).14), ((70 : Nat), (s).13), ((75 : Nat), (s).12), ((78 : Nat), (s).15), ((60 : Nat), [(AV.ptr (4 : Nat) (0 : Nat)), (AV.ptr (3 : Nat) (0 : Nat)), (AV.v (Value.int IntKind.i64 (s).1)), (AV.v (Value.int IntKind.i64 (s).2)), (AV.v (Value.int IntKind.i64 (s).3)), (AV.v (Value.int IntKind.i64 (s).4)), (AV.v (Value.int IntKind.i64 (s).5)), (AV.v (Value.int IntKind.i64 (s).6)), (AV.v (Value.int IntKind.i64 (s).7)), (AV.v (Value.int IntKind.i64 (s).8)), (AV.v (Value.int IntKind.i64 (s).9)), (AV.v (Value.int IntKind.i64 (s).10)), (AV.v (Value.int IntKind.i64 (s).11)), (AV.ptr (2 : Nat) (0 : Nat)), (AV.ptr (5 : Nat) (0 : Nat))]), ((41 : Nat), [(AV.v (Value.int IntKind.i64 cv)), (AV.v (Value.int IntKind.i64 ct)), (AV.v (Value.int IntKind.i64 ck)), (AV.v (Value.int IntKind.i64 cp)), (AV.v (Value.bool cm)), (AV.v (Value.bool cd))])] (@List.nil Nat) (0 : Nat) (0 : Nat) true (@List.nil (Prod Nat Bool)) True))))) := by kernel_rfl
theorem o2_up (z : List Int) (k j : Int) (B : List (TypeId × List AV)) (R : Exit → List AV → AH → Prop) : codeL nro mu0 (fun _ => none) 12 ((flatten (sub (bodyOf 4) [1, 1, 1, 1, 1, 1, 1, 1, 0, 1, 0, 0])).drop 3) (oS .dead (rl8 z) .dead (gi k) (gi j) .dead) (hp B []) (kp [2, 3, 7, 10, 11] R) =
    (some (True ∧ (R Exit.normal [AV.dead, AV.dead, (AV.lst (1 : Nat) (List.map u8V z) Tip.no), (AV.ptr (0 : Nat) (0 : Nat)), AV.dead, AV.dead, AV.dead, (AV.ptr (6 : Nat) (0 : Nat)), AV.dead, AV.dead, (AV.v (Value.int IntKind.i64 k)), (AV.v (Value.int IntKind.i64 (IntKind.wrap IntKind.i64 (j + (1 : Int))))), AV.dead, AV.dead, AV.dead, AV.dead, AV.dead, AV.dead, AV.dead, AV.dead, AV.dead, AV.dead, AV.dead, AV.dead, AV.dead, AV.dead, AV.dead, AV.dead, AV.dead, AV.dead, AV.dead, AV.dead, AV.dead, AV.dead, AV.dead, AV.dead, AV.dead, AV.dead, AV.dead, AV.dead, AV.dead, AV.dead, AV.dead, AV.dead, AV.dead, AV.dead, AV.dead, AV.dead, AV.dead, AV.dead, AV.dead, AV.dead, AV.dead, AV.dead, AV.dead, AV.dead, AV.dead, AV.dead, AV.dead, AV.dead, AV.dead, AV.dead, AV.dead, AV.dead, AV.dead, AV.dead, AV.dead, AV.dead, AV.dead, AV.dead, AV.dead, AV.dead, AV.dead, AV.dead, AV.dead, AV.dead, AV.dead, AV.dead, AV.dead, AV.dead, AV.dead, AV.dead, AV.dead, AV.dead, AV.dead, AV.dead, AV.dead, AV.dead, AV.dead, AV.dead, AV.dead, AV.dead, AV.dead, AV.dead, AV.dead, AV.dead, AV.dead, AV.dead, AV.dead, AV.dead, AV.dead, AV.dead, AV.dead, AV.dead, AV.dead, AV.dead, AV.dead, AV.dead] (AH.mk B (@List.nil Nat) (0 : Nat) (0 : Nat) true (@List.nil (Prod Nat Bool)) True)))) := by kernel_rfl
theorem o_fin (M : MS) (K : KS) (cal : St → Int) (n m a b c d e f g : Int) (sa sb sc sd se sf sg sl sm st sp : Int) (T D C L : List AV) (R : Exit → List AV → AH → Prop) : drS nro mu0 (prO M K cal true) 12 (sub (bodyOf 4) [1, 1, 1, 1, 1, 1, 1, 1, 1, 0]) (oS .dead .dead .dead .dead .dead .dead) (oH n m a b c d e f g ⟨sa, sb, sc, sd, se, sf, sg, sl, sm, st, sp, T, D, C, L⟩) (kp [6] R) =
    (bif (st == n) then (bif (((M).15 (St.mk sa sb sc sd se sf sg sl sm st sp T D C L)) == m) then (bif ((cal (St.mk sa sb sc sd se sf sg sl sm st sp T D C L)) == (0 : Int)) then (some ((cdb (cdb (cdb True ((((Nat.beq (60 : Nat) (60 : Nat)) && (true && (true && (true && (true && (true && (true && (true && (true && (true && (true && (true && (true && (true && (true && (true && (true && (true && true)))))))))))))))))) && ((M).1 (St.mk sa sb sc sd se sf sg sl sm st sp T D C L))) && ((plainC T) && ((plainC D) && ((plainC C) && ((plainC L) && true)))))) ((((Nat.beq (60 : Nat) (60 : Nat)) && (true && (true && (true && (true && (true && (true && (true && (true && (true && (true && (true && (true && (true && (true && (true && (true && (true && true)))))))))))))))))) && ((M).1 (St.mk sa sb sc sd se sf sg sl sm st sp T D C L))) && ((plainC T) && ((plainC D) && ((plainC C) && ((plainC L) && true)))))) ((((Nat.beq (60 : Nat) (60 : Nat)) && (true && (true && (true && (true && (true && (true && (true && (true && (true && (true && (true && (true && (true && (true && (true && (true && (true && true)))))))))))))))))) && ((M).1 (St.mk sa sb sc sd se sf sg sl sm st sp T D C L))) && ((plainC T) && ((plainC D) && ((plainC C) && ((plainC L) && true)))))) ∧ (R Exit.normal [AV.dead, AV.dead, AV.dead, AV.dead, AV.dead, AV.dead, (AV.v (Value.bool true)), AV.dead, AV.dead, AV.dead, AV.dead, AV.dead, AV.dead, AV.dead, AV.dead, AV.dead, AV.dead, AV.dead, AV.dead, AV.dead, AV.dead, AV.dead, AV.dead, AV.dead, AV.dead, AV.dead, AV.dead, AV.dead, AV.dead, AV.dead, AV.dead, AV.dead, AV.dead, AV.dead, AV.dead, AV.dead, AV.dead, AV.dead, AV.dead, AV.dead, AV.dead, AV.dead, AV.dead, AV.dead, AV.dead, AV.dead, AV.dead, AV.dead, AV.dead, AV.dead, AV.dead, AV.dead, AV.dead, AV.dead, AV.dead, AV.dead, AV.dead, AV.dead, AV.dead, AV.dead, AV.dead, AV.dead, AV.dead, AV.dead, AV.dead, AV.dead, AV.dead, AV.dead, AV.dead, AV.dead, AV.dead, AV.dead, AV.dead, AV.dead, AV.dead, AV.dead, AV.dead, AV.dead, AV.dead, AV.dead, AV.dead, AV.dead, AV.dead, AV.dead, AV.dead, AV.dead, AV.dead, AV.dead, AV.dead, AV.dead, AV.dead, AV.dead, AV.dead, AV.dead, AV.dead, AV.dead, AV.dead, AV.dead, AV.dead, AV.dead, AV.dead, AV.dead, AV.dead, AV.dead, AV.dead, AV.dead, AV.dead, AV.dead] (AH.mk [((25 : Nat), [(AV.v (Value.int IntKind.i64 n)), (AV.v (Value.int IntKind.i64 m)), (AV.v (Value.int IntKind.i64 a)), (AV.v (Value.int IntKind.i64 b)), (AV.v (Value.int IntKind.i64 c)), (AV.v (Value.int IntKind.i64 d)), (AV.v (Value.int IntKind.i64 e)), (AV.v (Value.int IntKind.i64 f)), (AV.v (Value.int IntKind.i64 g))]), ((23 : Nat), [(AV.v (Value.int IntKind.i64 a)), (AV.v (Value.int IntKind.i64 b)), (AV.v (Value.int IntKind.i64 c)), (AV.v (Value.int IntKind.i64 d)), (AV.v (Value.int IntKind.i64 e)), (AV.v (Value.int IntKind.i64 f)), (AV.v (Value.int IntKind.i64 g))]), ((68 : Nat), C), ((70 : Nat), D), ((75 : Nat), T), ((78 : Nat), L), ((60 : Nat), [(AV.ptr (4 : Nat) (0 : Nat)), (AV.ptr (3 : Nat) (0 : Nat)), (AV.v (Value.int IntKind.i64 sa)), (AV.v (Value.int IntKind.i64 sb)), (AV.v (Value.int IntKind.i64 sc)), (AV.v (Value.int IntKind.i64 sd)), (AV.v (Value.int IntKind.i64 se)), (AV.v (Value.int IntKind.i64 sf)), (AV.v (Value.int IntKind.i64 sg)), (AV.v (Value.int IntKind.i64 sl)), (AV.v (Value.int IntKind.i64 sm)), (AV.v (Value.int IntKind.i64 st)), (AV.v (Value.int IntKind.i64 sp)), (AV.ptr (2 : Nat) (0 : Nat)), (AV.ptr (5 : Nat) (0 : Nat))])] (@List.nil Nat) (0 : Nat) (0 : Nat) true (@List.nil (Prod Nat Bool)) True)))) else (some ((cdb (cdb (cdb True ((((Nat.beq (60 : Nat) (60 : Nat)) && (true && (true && (true && (true && (true && (true && (true && (true && (true && (true && (true && (true && (true && (true && (true && (true && (true && true)))))))))))))))))) && ((M).1 (St.mk sa sb sc sd se sf sg sl sm st sp T D C L))) && ((plainC T) && ((plainC D) && ((plainC C) && ((plainC L) && true)))))) ((((Nat.beq (60 : Nat) (60 : Nat)) && (true && (true && (true && (true && (true && (true && (true && (true && (true && (true && (true && (true && (true && (true && (true && (true && (true && true)))))))))))))))))) && ((M).1 (St.mk sa sb sc sd se sf sg sl sm st sp T D C L))) && ((plainC T) && ((plainC D) && ((plainC C) && ((plainC L) && true)))))) ((((Nat.beq (60 : Nat) (60 : Nat)) && (true && (true && (true && (true && (true && (true && (true && (true && (true && (true && (true && (true && (true && (true && (true && (true && (true && true)))))))))))))))))) && ((M).1 (St.mk sa sb sc sd se sf sg sl sm st sp T D C L))) && ((plainC T) && ((plainC D) && ((plainC C) && ((plainC L) && true)))))) ∧ (R Exit.normal [AV.dead, AV.dead, AV.dead, AV.dead, AV.dead, AV.dead, (AV.v (Value.bool false)), AV.dead, AV.dead, AV.dead, AV.dead, AV.dead, AV.dead, AV.dead, AV.dead, AV.dead, AV.dead, AV.dead, AV.dead, AV.dead, AV.dead, AV.dead, AV.dead, AV.dead, AV.dead, AV.dead, AV.dead, AV.dead, AV.dead, AV.dead, AV.dead, AV.dead, AV.dead, AV.dead, AV.dead, AV.dead, AV.dead, AV.dead, AV.dead, AV.dead, AV.dead, AV.dead, AV.dead, AV.dead, AV.dead, AV.dead, AV.dead, AV.dead, AV.dead, AV.dead, AV.dead, AV.dead, AV.dead, AV.dead, AV.dead, AV.dead, AV.dead, AV.dead, AV.dead, AV.dead, AV.dead, AV.dead, AV.dead, AV.dead, AV.dead, AV.dead, AV.dead, AV.dead, AV.dead, AV.dead, AV.dead, AV.dead, AV.dead, AV.dead, AV.dead, AV.dead, AV.dead, AV.dead, AV.dead, AV.dead, AV.dead, AV.dead, AV.dead, AV.dead, AV.dead, AV.dead, AV.dead, AV.dead, AV.dead, AV.dead, AV.dead, AV.dead, AV.dead, AV.dead, AV.dead, AV.dead, AV.dead, AV.dead, AV.dead, AV.dead, AV.dead, AV.dead, AV.dead, AV.dead, AV.dead, AV.dead, AV.dead, AV.dead] (AH.mk [((25 : Nat), [(AV.v (Value.int IntKind.i64 n)), (AV.v (Value.int IntKind.i64 m)), (AV.v (Value.int IntKind.i64 a)), (AV.v (Value.int IntKind.i64 b)), (AV.v (Value.int IntKind.i64 c)), (AV.v (Value.int IntKind.i64 d)), (AV.v (Value.int IntKind.i64 e)), (AV.v (Value.int IntKind.i64 f)), (AV.v (Value.int IntKind.i64 g))]), ((23 : Nat), [(AV.v (Value.int IntKind.i64 a)), (AV.v (Value.int IntKind.i64 b)), (AV.v (Value.int IntKind.i64 c)), (AV.v (Value.int IntKind.i64 d)), (AV.v (Value.int IntKind.i64 e)), (AV.v (Value.int IntKind.i64 f)), (AV.v (Value.int IntKind.i64 g))]), ((68 : Nat), C), ((70 : Nat), D), ((75 : Nat), T), ((78 : Nat), L), ((60 : Nat), [(AV.ptr (4 : Nat) (0 : Nat)), (AV.ptr (3 : Nat) (0 : Nat)), (AV.v (Value.int IntKind.i64 sa)), (AV.v (Value.int IntKind.i64 sb)), (AV.v (Value.int IntKind.i64 sc)), (AV.v (Value.int IntKind.i64 sd)), (AV.v (Value.int IntKind.i64 se)), (AV.v (Value.int IntKind.i64 sf)), (AV.v (Value.int IntKind.i64 sg)), (AV.v (Value.int IntKind.i64 sl)), (AV.v (Value.int IntKind.i64 sm)), (AV.v (Value.int IntKind.i64 st)), (AV.v (Value.int IntKind.i64 sp)), (AV.ptr (2 : Nat) (0 : Nat)), (AV.ptr (5 : Nat) (0 : Nat))])] (@List.nil Nat) (0 : Nat) (0 : Nat) true (@List.nil (Prod Nat Bool)) True))))) else (some ((cdb (cdb True ((((Nat.beq (60 : Nat) (60 : Nat)) && (true && (true && (true && (true && (true && (true && (true && (true && (true && (true && (true && (true && (true && (true && (true && (true && (true && true)))))))))))))))))) && ((M).1 (St.mk sa sb sc sd se sf sg sl sm st sp T D C L))) && ((plainC T) && ((plainC D) && ((plainC C) && ((plainC L) && true)))))) ((((Nat.beq (60 : Nat) (60 : Nat)) && (true && (true && (true && (true && (true && (true && (true && (true && (true && (true && (true && (true && (true && (true && (true && (true && (true && true)))))))))))))))))) && ((M).1 (St.mk sa sb sc sd se sf sg sl sm st sp T D C L))) && ((plainC T) && ((plainC D) && ((plainC C) && ((plainC L) && true)))))) ∧ (R Exit.normal [AV.dead, AV.dead, AV.dead, AV.dead, AV.dead, AV.dead, (AV.v (Value.bool false)), AV.dead, AV.dead, AV.dead, AV.dead, AV.dead, AV.dead, AV.dead, AV.dead, AV.dead, AV.dead, AV.dead, AV.dead, AV.dead, AV.dead, AV.dead, AV.dead, AV.dead, AV.dead, AV.dead, AV.dead, AV.dead, AV.dead, AV.dead, AV.dead, AV.dead, AV.dead, AV.dead, AV.dead, AV.dead, AV.dead, AV.dead, AV.dead, AV.dead, AV.dead, AV.dead, AV.dead, AV.dead, AV.dead, AV.dead, AV.dead, AV.dead, AV.dead, AV.dead, AV.dead, AV.dead, AV.dead, AV.dead, AV.dead, AV.dead, AV.dead, AV.dead, AV.dead, AV.dead, AV.dead, AV.dead, AV.dead, AV.dead, AV.dead, AV.dead, AV.dead, AV.dead, AV.dead, AV.dead, AV.dead, AV.dead, AV.dead, AV.dead, AV.dead, AV.dead, AV.dead, AV.dead, AV.dead, AV.dead, AV.dead, AV.dead, AV.dead, AV.dead, AV.dead, AV.dead, AV.dead, AV.dead, AV.dead, AV.dead, AV.dead, AV.dead, AV.dead, AV.dead, AV.dead, AV.dead, AV.dead, AV.dead, AV.dead, AV.dead, AV.dead, AV.dead, AV.dead, AV.dead, AV.dead, AV.dead, AV.dead, AV.dead] (AH.mk [((25 : Nat), [(AV.v (Value.int IntKind.i64 n)), (AV.v (Value.int IntKind.i64 m)), (AV.v (Value.int IntKind.i64 a)), (AV.v (Value.int IntKind.i64 b)), (AV.v (Value.int IntKind.i64 c)), (AV.v (Value.int IntKind.i64 d)), (AV.v (Value.int IntKind.i64 e)), (AV.v (Value.int IntKind.i64 f)), (AV.v (Value.int IntKind.i64 g))]), ((23 : Nat), [(AV.v (Value.int IntKind.i64 a)), (AV.v (Value.int IntKind.i64 b)), (AV.v (Value.int IntKind.i64 c)), (AV.v (Value.int IntKind.i64 d)), (AV.v (Value.int IntKind.i64 e)), (AV.v (Value.int IntKind.i64 f)), (AV.v (Value.int IntKind.i64 g))]), ((68 : Nat), C), ((70 : Nat), D), ((75 : Nat), T), ((78 : Nat), L), ((60 : Nat), [(AV.ptr (4 : Nat) (0 : Nat)), (AV.ptr (3 : Nat) (0 : Nat)), (AV.v (Value.int IntKind.i64 sa)), (AV.v (Value.int IntKind.i64 sb)), (AV.v (Value.int IntKind.i64 sc)), (AV.v (Value.int IntKind.i64 sd)), (AV.v (Value.int IntKind.i64 se)), (AV.v (Value.int IntKind.i64 sf)), (AV.v (Value.int IntKind.i64 sg)), (AV.v (Value.int IntKind.i64 sl)), (AV.v (Value.int IntKind.i64 sm)), (AV.v (Value.int IntKind.i64 st)), (AV.v (Value.int IntKind.i64 sp)), (AV.ptr (2 : Nat) (0 : Nat)), (AV.ptr (5 : Nat) (0 : Nat))])] (@List.nil Nat) (0 : Nat) (0 : Nat) true (@List.nil (Prod Nat Bool)) True))))) else (some ((cdb True ((((Nat.beq (60 : Nat) (60 : Nat)) && (true && (true && (true && (true && (true && (true && (true && (true && (true && (true && (true && (true && (true && (true && (true && (true && (true && true)))))))))))))))))) && ((M).1 (St.mk sa sb sc sd se sf sg sl sm st sp T D C L))) && ((plainC T) && ((plainC D) && ((plainC C) && ((plainC L) && true)))))) ∧ (R Exit.normal [AV.dead, AV.dead, AV.dead, AV.dead, AV.dead, AV.dead, (AV.v (Value.bool false)), AV.dead, AV.dead, AV.dead, AV.dead, AV.dead, AV.dead, AV.dead, AV.dead, AV.dead, AV.dead, AV.dead, AV.dead, AV.dead, AV.dead, AV.dead, AV.dead, AV.dead, AV.dead, AV.dead, AV.dead, AV.dead, AV.dead, AV.dead, AV.dead, AV.dead, AV.dead, AV.dead, AV.dead, AV.dead, AV.dead, AV.dead, AV.dead, AV.dead, AV.dead, AV.dead, AV.dead, AV.dead, AV.dead, AV.dead, AV.dead, AV.dead, AV.dead, AV.dead, AV.dead, AV.dead, AV.dead, AV.dead, AV.dead, AV.dead, AV.dead, AV.dead, AV.dead, AV.dead, AV.dead, AV.dead, AV.dead, AV.dead, AV.dead, AV.dead, AV.dead, AV.dead, AV.dead, AV.dead, AV.dead, AV.dead, AV.dead, AV.dead, AV.dead, AV.dead, AV.dead, AV.dead, AV.dead, AV.dead, AV.dead, AV.dead, AV.dead, AV.dead, AV.dead, AV.dead, AV.dead, AV.dead, AV.dead, AV.dead, AV.dead, AV.dead, AV.dead, AV.dead, AV.dead, AV.dead, AV.dead, AV.dead, AV.dead, AV.dead, AV.dead, AV.dead, AV.dead, AV.dead, AV.dead, AV.dead, AV.dead, AV.dead] (AH.mk [((25 : Nat), [(AV.v (Value.int IntKind.i64 n)), (AV.v (Value.int IntKind.i64 m)), (AV.v (Value.int IntKind.i64 a)), (AV.v (Value.int IntKind.i64 b)), (AV.v (Value.int IntKind.i64 c)), (AV.v (Value.int IntKind.i64 d)), (AV.v (Value.int IntKind.i64 e)), (AV.v (Value.int IntKind.i64 f)), (AV.v (Value.int IntKind.i64 g))]), ((23 : Nat), [(AV.v (Value.int IntKind.i64 a)), (AV.v (Value.int IntKind.i64 b)), (AV.v (Value.int IntKind.i64 c)), (AV.v (Value.int IntKind.i64 d)), (AV.v (Value.int IntKind.i64 e)), (AV.v (Value.int IntKind.i64 f)), (AV.v (Value.int IntKind.i64 g))]), ((68 : Nat), C), ((70 : Nat), D), ((75 : Nat), T), ((78 : Nat), L), ((60 : Nat), [(AV.ptr (4 : Nat) (0 : Nat)), (AV.ptr (3 : Nat) (0 : Nat)), (AV.v (Value.int IntKind.i64 sa)), (AV.v (Value.int IntKind.i64 sb)), (AV.v (Value.int IntKind.i64 sc)), (AV.v (Value.int IntKind.i64 sd)), (AV.v (Value.int IntKind.i64 se)), (AV.v (Value.int IntKind.i64 sf)), (AV.v (Value.int IntKind.i64 sg)), (AV.v (Value.int IntKind.i64 sl)), (AV.v (Value.int IntKind.i64 sm)), (AV.v (Value.int IntKind.i64 st)), (AV.v (Value.int IntKind.i64 sp)), (AV.ptr (2 : Nat) (0 : Nat)), (AV.ptr (5 : Nat) (0 : Nat))])] (@List.nil Nat) (0 : Nat) (0 : Nat) true (@List.nil (Prod Nat Bool)) True))))) := by kernel_rfl
theorem o_ret (b : AV) (B : List (TypeId × List AV)) (R : Exit → List AV → AH → Prop) : codeL nro mu0 (fun _ => none) 12 ((flatten (bodyOf 4)).drop 15) ([.dead, .dead, .dead, .dead, .dead, .dead, b] ++ ded 101) (hp B []) (kp [6] R) =
    (some (True ∧ (R Exit.ret [AV.dead, AV.dead, AV.dead, AV.dead, AV.dead, AV.dead, b, AV.dead, AV.dead, AV.dead, AV.dead, AV.dead, AV.dead, AV.dead, AV.dead, AV.dead, AV.dead, AV.dead, AV.dead, AV.dead, AV.dead, AV.dead, AV.dead, AV.dead, AV.dead, AV.dead, AV.dead, AV.dead, AV.dead, AV.dead, AV.dead, AV.dead, AV.dead, AV.dead, AV.dead, AV.dead, AV.dead, AV.dead, AV.dead, AV.dead, AV.dead, AV.dead, AV.dead, AV.dead, AV.dead, AV.dead, AV.dead, AV.dead, AV.dead, AV.dead, AV.dead, AV.dead, AV.dead, AV.dead, AV.dead, AV.dead, AV.dead, AV.dead, AV.dead, AV.dead, AV.dead, AV.dead, AV.dead, AV.dead, AV.dead, AV.dead, AV.dead, AV.dead, AV.dead, AV.dead, AV.dead, AV.dead, AV.dead, AV.dead, AV.dead, AV.dead, AV.dead, AV.dead, AV.dead, AV.dead, AV.dead, AV.dead, AV.dead, AV.dead, AV.dead, AV.dead, AV.dead, AV.dead, AV.dead, AV.dead, AV.dead, AV.dead, AV.dead, AV.dead, AV.dead, AV.dead, AV.dead, AV.dead, AV.dead, AV.dead, AV.dead, AV.dead, AV.dead, AV.dead, AV.dead, AV.dead, AV.dead, AV.dead] (AH.mk B (@List.nil Nat) (0 : Nat) (0 : Nat) true (@List.nil (Prod Nat Bool)) True)))) := by kernel_rfl
end Go.Proofs.Ythememoflnocnaa.AE
namespace Go.Proofs.Ythememoflnocnaa.AE
set_option maxRecDepth 100000
open Go.RowKit
theorem add1 (h : Int) (h0 : 0 ≤ h) : Bd.addC h 1 = if h < 2147483647 then h + 1 else 2147483647 := by
  unfold Bd.addC Bd.kp Bd.cMost
  repeat' split
  all_goals omega
theorem mx_id {d : Int} (h : 1 ≤ d) : mx1 d = d := by unfold mx1; rw [if_neg (by omega)]
def potA (t n w h f : Int) : Int := if t = n then 0 else (n - t) + (if w = 1 ∨ (w = 0 ∧ h = 0) then 0 else (if h < f then f - h else 0))
def potB (t m h g : Int) : Int := if t = m then 0 else (m - t) * g - (if h < g then h else g - 1)
theorem tX_inv {w h v d : Int} (h0 : (w = 0 ∧ h = 0) ∨ 1 ≤ h) : ((tX3 w h v d).1 = 0 ∧ (tX3 w h v d).2.1 = 0) ∨ 1 ≤ (tX3 w h v d).2.1 := by
  have ha : 1 ≤ Bd.addC h 1 := by rw [add1 h (by omega)]; split <;> omega
  unfold tX3
  repeat' split
  all_goals first
    | exact .inr ha
    | exact .inr (by decide)
    | (rename_i hh; exact .inl hh)
theorem dX_inv {m t h v g : Int} {o : Bool} (hm : m ≤ 7) (h1 : 0 ≤ t) (h2 : t ≤ m) (h3 : 0 ≤ h) : 0 ≤ (dX3 m t h v o g).1 ∧ (dX3 m t h v o g).1 ≤ m ∧ 0 ≤ (dX3 m t h v o g).2.1 := by
  have ha : 0 ≤ Bd.addC h 1 := by rw [add1 h h3]; split <;> omega
  have e1 : mvX t (-1) = t - 1 := by unfold mvX; rw [IntKind.wrap_i64]; omega
  have e2 : mvX t 1 = t + 1 := by unfold mvX; rw [IntKind.wrap_i64]; omega
  unfold dX3
  rw [e1, e2]
  repeat' split
  all_goals exact ⟨by simp only; omega, by simp only; omega, by simp only; omega⟩
theorem potA_nn {t n w h f : Int} (h1 : t ≤ n) : 0 ≤ potA t n w h f := by
  unfold potA; repeat' split
  all_goals omega
theorem A_step {n t w h f u : Int} (hf : 1 ≤ f) (hf2 : f ≤ 32) (ht : t ≤ n) (h0 : (w = 0 ∧ h = 0) ∨ 1 ≤ h) (hu1 : t = n → u = n) (hu2 : t ≠ n → t < u ∧ u ≤ n) :
    potA (if (tX3 w h 2 f).2.2 = 1 then u else t) n (tX3 w h 2 f).1 (tX3 w h 2 f).2.1 f ≤ potA t n w h f ∧ (1 ≤ potA t n w h f → potA (if (tX3 w h 2 f).2.2 = 1 then u else t) n (tX3 w h 2 f).1 (tX3 w h 2 f).2.1 f ≤ potA t n w h f - 1) ∧ (potA t n w h f = 0 → (if (tX3 w h 2 f).2.2 = 1 then u else t) = n) := by
  have ha := add1 h (by omega)
  have go : ∀ k : Int, potA u n 1 k f ≤ potA t n w h f ∧ (1 ≤ potA t n w h f → potA u n 1 k f ≤ potA t n w h f - 1) ∧ (potA t n w h f = 0 → u = n) := by
    intro k
    have e : ∀ k, potA u n 1 k f = if u = n then 0 else n - u := by intro k; unfold potA; rw [if_pos (Or.inl rfl), Int.add_zero]
    rw [e k]
    unfold potA
    by_cases hn : t = n
    · have := hu1 hn
      rw [if_pos hn, if_pos this]
      exact ⟨Int.le_refl _, fun h => absurd h (by decide), fun _ => this⟩
    · have := hu2 hn
      rw [if_neg hn]
      repeat' split
      all_goals exact ⟨by omega, fun _ => by omega, fun _ => by omega⟩
  by_cases hw : 1 = w
  · have e : tX3 w h 2 f = (w, Bd.addC h 1, 1) := by unfold tX3; rw [if_neg (by decide), if_pos rfl, if_pos hw]
    rw [e, ← hw]
    rw [← hw] at go
    exact go _
  by_cases hz : w = 0 ∧ h = 0
  · have e : tX3 w h 2 f = (1, 1, 1) := by unfold tX3; rw [if_neg (by decide), if_pos rfl, if_neg hw, if_pos hz]
    rw [e]; exact go 1
  by_cases hd : mx1 f ≤ h
  · have e : tX3 w h 2 f = (1, 1, 1) := by unfold tX3; rw [if_neg (by decide), if_pos rfl, if_neg hw, if_neg hz, if_pos hd]
    rw [e]; exact go 1
  · have e : tX3 w h 2 f = (w, Bd.addC h 1, 0) := by unfold tX3; rw [if_neg (by decide), if_pos rfl, if_neg hw, if_neg hz, if_neg hd]
    rw [mx_id hf] at hd
    rw [e]
    rw [ha]
    show potA t n w (if h < 2147483647 then h + 1 else 2147483647) f ≤ _ ∧ (_ → potA t n w (if h < 2147483647 then h + 1 else 2147483647) f ≤ _) ∧ (_ → t = n)
    rw [if_pos (by omega)]
    unfold potA
    have hw2 : ¬ w = 1 := fun h => hw h.symm
    by_cases hn : t = n
    · rw [if_pos hn, if_pos hn]; exact ⟨Int.le_refl _, fun h => absurd h (by decide), fun _ => hn⟩
    · rw [if_neg hn, if_neg hn, if_neg (show ¬ (w = 1 ∨ (w = 0 ∧ h + 1 = 0)) by omega), if_neg (show ¬ (w = 1 ∨ (w = 0 ∧ h = 0)) by omega)]
      rw [if_pos (show h < f by omega)]
      refine ⟨?_, fun hq => ?_, fun hq => ?_⟩
      · split <;> omega
      · split <;> omega
      · omega
theorem B_step {m t h g : Int} {o : Bool} (hg : 1 ≤ g) (hg2 : g ≤ 32) (hm : m ≤ 7) (h1 : 0 ≤ t) (h2 : t ≤ m) (h3 : 0 ≤ h) :
    potB (dX3 m t h 2 o g).1 m (dX3 m t h 2 o g).2.1 g ≤ potB t m h g ∧ (o = true → 1 ≤ potB t m h g → potB (dX3 m t h 2 o g).1 m (dX3 m t h 2 o g).2.1 g ≤ potB t m h g - 1) := by
  have ha := add1 h h3
  have e2 : mvX t 1 = t + 1 := by unfold mvX; rw [IntKind.wrap_i64]; omega
  have hX : (m - (t + 1)) * g = (m - t) * g - g := by rw [show m - (t + 1) = (m - t) - 1 by omega, Int.sub_mul]; omega
  have hX1 : t = m - 1 → (m - t) * g = g := fun h => by rw [show m - t = 1 by omega]; omega
  have hX2 : t < m → g ≤ (m - t) * g := fun h => by
    have : 1 * g ≤ (m - t) * g := Int.mul_le_mul_of_nonneg_right (by omega) (by omega)
    omega
  have stay : potB t m (Bd.addC h 1) g ≤ potB t m h g ∧ (h + 1 < g → 1 ≤ potB t m h g → potB t m (Bd.addC h 1) g ≤ potB t m h g - 1) := by
    rw [ha]
    unfold potB
    generalize (m - t) * g = X
    repeat' split
    all_goals exact ⟨by omega, fun _ _ => by omega⟩
  unfold dX3
  rw [mx_id hg, e2]
  by_cases hd : Bd.addC h 1 < g
  · rw [if_pos hd]
    refine ⟨stay.1, fun _ => stay.2 ?_⟩
    rw [ha] at hd
    split at hd <;> omega
  · rw [if_neg hd, if_neg (by decide), if_pos rfl]
    have hh : ¬ h + 1 < g := by rw [ha] at hd; split at hd <;> omega
    cases o with
    | false => exact ⟨stay.1, fun h => by cases h⟩
    | true =>
      rw [if_pos rfl]
      by_cases ht : t < m
      · rw [if_pos ht]
        have key : potB (t + 1) m 0 g ≤ potB t m h g - 1 := by
          unfold potB
          rw [if_neg (show ¬ t = m by omega), hX]
          have q1 := hX2 ht
          have q2 := hX1
          generalize (m - t) * g = X at *
          repeat' split
          all_goals omega
        exact ⟨by show potB (t + 1) m 0 g ≤ _; omega, fun _ _ => key⟩
      · rw [if_neg ht]
        have : t = m := by omega
        refine ⟨stay.1, fun _ hb => ?_⟩
        unfold potB at hb
        rw [if_pos this] at hb
        exact absurd hb (by decide)
theorem potB_nn {m t h g : Int} (hg : 1 ≤ g) (h2 : t ≤ m) : 0 ≤ potB t m h g ∧ (potB t m h g ≤ 0 → t = m) := by
  unfold potB
  by_cases ht : t = m
  · rw [if_pos ht]; exact ⟨Int.le_refl _, fun _ => ht⟩
  · rw [if_neg ht]
    have : 1 * g ≤ (m - t) * g := Int.mul_le_mul_of_nonneg_right (by omega) (by omega)
    generalize (m - t) * g = X at *
    split <;> exact ⟨by omega, fun _ => by omega⟩
theorem win_pot {f g t n k m w h hd : Int} (hf : 1 ≤ f) (hf2 : f ≤ 32) (hg : 1 ≤ g) (hg2 : g ≤ 32) (hn : n ≤ 128) (h0 : 0 ≤ t) (h1 : t ≤ n) (hm : m ≤ 7) (h2 : 0 ≤ k) (h3 : k ≤ m) (h4 : (w = 0 ∧ h = 0) ∨ 1 ≤ h) (h5 : 0 ≤ hd) :
    potA t n w h f + potB k m hd g ≤ Cm.windowsF f g t n k m ∧ Cm.windowsF f g t n k m ≤ 10000 := by
  have st : ∀ a b : Int, 0 ≤ a → a ≤ b → b ≤ 1000 → Cm.stepsC a b = b - a := fun a b ha hab hb => by
    unfold Cm.stepsC
    rw [Bd.kp_id a _ ha (by unfold Bd.cMost; omega), Bd.kp_id b _ (by omega) (by unfold Bd.cMost; omega)]
    split <;> omega
  have on : ∀ a : Int, 1 ≤ a → a ≤ 1000 → Cm.one a = a := fun a ha hb => by
    unfold Cm.one
    rw [if_neg (by omega), Bd.kp_id a _ (by omega) (by unfold Bd.cMost; omega)]
  have hO : Cm.openF f t n = if t = n then 0 else f - 1 + (n - t) := by
    unfold Cm.openF
    rw [st t n h0 h1 (by omega), on f hf (by omega)]
    by_cases ht : t = n
    · rw [if_pos (by omega), if_pos ht]
    · rw [if_neg (by omega), if_neg ht, Bd.addC_id _ _ (by omega) (by omega) (by omega)]
  have hq : 0 ≤ g * (m - k) ∧ g * (m - k) ≤ 224 := by
    have a1 : 0 ≤ g * (m - k) := Int.mul_nonneg (by omega) (by omega)
    have a2 : g * (m - k) ≤ 32 * 7 := Int.mul_le_mul hg2 (by omega) (by omega) (by decide)
    exact ⟨a1, by omega⟩
  have hB : Cm.brightF g k m = g * (m - k) := by
    unfold Cm.brightF Bd.mulC
    rw [st k m h2 h3 (by omega), on g hg (by omega), Bd.kp_id g _ (by omega) (by unfold Bd.cMost; omega), Bd.kp_id (m - k) _ (by omega) (by unfold Bd.cMost; omega)]
    exact Bd.kp_id _ _ hq.1 (by unfold Bd.cMost; omega)
  have hO2 : 0 ≤ Cm.openF f t n ∧ Cm.openF f t n ≤ 200 := by rw [hO]; split <;> omega
  have hW : Cm.windowsF f g t n k m = Cm.openF f t n + g * (m - k) := by
    unfold Cm.windowsF
    rw [hB, Bd.addC_id _ _ hO2.1 hq.1 (by omega)]
  rw [hW]
  refine ⟨?_, by omega⟩
  have hA : potA t n w h f ≤ Cm.openF f t n := by
    rw [hO]; unfold potA
    repeat' split
    all_goals omega
  have hP : potB k m hd g ≤ g * (m - k) := by
    rw [Int.mul_comm g]
    unfold potB
    split
    · rename_i h; rw [h]; simp
    · split <;> omega
  omega
theorem win_zero {f g n m : Int} : Cm.windowsF f g n n m m = 0 := by
  unfold Cm.windowsF Cm.openF Cm.brightF Bd.mulC Cm.stepsC
  rw [if_neg (Int.lt_irrefl _), if_neg (Int.lt_irrefl _), if_pos rfl]
  rw [show Bd.kp 0 Bd.cMost = 0 from rfl, Int.mul_zero]
  rfl
end Go.Proofs.Ythememoflnocnaa.AE
namespace Go.Proofs.Ythememoflnocnaa.AE
set_option maxRecDepth 100000
open Go.RowKit
structure VS (n m : Int) (s : St) : Prop where
  ok : okS s = true
  l : s.l = n
  mm : s.m = m
  n1 : 1 ≤ n
  n2 : n ≤ 128
  m1 : 0 ≤ m
  m2 : m ≤ 7
  hl : ((xOf s.C).length : Int) = n
  k : kcX s.a s.b s.c s.d s.e s.f s.g n = 0
  t1 : 0 ≤ s.t
  t2 : s.t ≤ n
  td : c0 s.D 0 = m
  tr1 : 0 ≤ c0 s.D 1
  tr2 : c0 s.D 1 ≤ m
  th : 0 ≤ c0 s.D 2
  tw : (c0 s.T 0 = 0 ∧ c0 s.T 1 = 0) ∨ 1 ≤ c0 s.T 1
theorem kc_out {a b c d e f g n : Int} (h : kcX a b c d e f g n = 0) : 0 ≤ a ∧ a ≤ b ∧ 0 ≤ e ∧ e ≤ n ∧ 1 ≤ f ∧ f ≤ 32 ∧ 1 ≤ g ∧ g ≤ 32 := by
  unfold kcX at h
  split at h
  · rename_i q; omega
  · cases h
theorem len_cC {C : List AV} (h : okH C = true) (a : Int) : (xOf (csX.cC C a)).length = (xOf C).length := by
  obtain ⟨x, hx, _, hxo⟩ := okH_out h
  show (xOf (hC (addX (xOf C) a 1))).length = _
  rw [hxo, xOf_hC (by rw [addX_len]; exact hx), addX_len]
theorem len_hcl {C : List AV} (h : okH C = true) : (xOf (csX.hcl C)).length = (xOf C).length := by
  obtain ⟨x, hx, _, hxo⟩ := okH_out h
  show (xOf (hC (clrX (xOf C)))).length = _
  rw [hxo, xOf_hC (by unfold clrX; rw [List.length_replicate]; exact hx)]
  unfold clrX
  rw [List.length_replicate]
theorem vs_new {n m a b c d e f g : Int} (h : okN n m a b c d e f g = true) : VS n m (newS n m a b c d e f g) := by
  unfold okN at h
  simp only [Bool.and_eq_true, decide_eq_true_eq, beq_iff_eq] at h
  obtain ⟨⟨h1, h2, h3, h4⟩, h5⟩ := h
  have hl : (nwW n).length = n.toNat := by unfold nwW; rw [List.length_replicate]
  refine ⟨ok_new (by omega) (by omega) .., rfl, rfl, h1, h2, h3, h4, ?_, h5, ?_, Int.le_refl _, rfl, h3, Int.le_refl _, (show (0 : Int) ≤ 32 by decide), .inl ⟨rfl, rfl⟩⟩
  · show ((xOf (hC (nwW n))).length : Int) = n
    rw [xOf_hC (by omega), hl]; omega
  · show 0 ≤ n; omega
theorem thr_in {n m : Int} {s : St} (V : VS n m s) : 0 ≤ thrN s ∧ thrN s ≤ n := by
  obtain ⟨k1, k2, k3, k4, k5, k6, k7, k8⟩ := kc_out V.k
  obtain ⟨x, hx, hCx, hxo⟩ := okH_out (okS_out V.ok).2.1
  have hl := V.hl
  rw [hxo] at hl
  have h1 := V.t1
  have h2 := V.t2
  unfold thrN
  split
  · have := up_in x hx s.d (t := s.t) h1 (by omega)
    rw [hCx]
    show 0 ≤ upC (hC x) s.t s.d ∧ upC (hC x) s.t s.d ≤ n
    split at this <;> omega
  split
  · have := dn_in x hx (t := s.t) (f := s.e) s.c h1 (by omega) k3 (by omega)
    rw [hCx]
    show 0 ≤ dnC (hC x) s.t s.e s.c ∧ dnC (hC x) s.t s.e s.c ≤ n
    split at this <;> omega
  · exact ⟨h1, h2⟩
theorem vs_clo {n m : Int} {s : St} (V : VS n m s) : VS n m (cloS s) := by
  obtain ⟨h1, h2⟩ := thr_in V
  obtain ⟨d1, d2, d3⟩ := dX_inv (m := m) (t := c0 s.D 1) (h := c0 s.D 2) (v := vdX s) (g := s.g) (o := thrN s == s.l) V.m2 V.tr1 V.tr2 V.th
  have e : dX s.D (vdX s) (thrN s == s.l) s.g = dX3 m (c0 s.D 1) (c0 s.D 2) (vdX s) (thrN s == s.l) s.g := by unfold dX; rw [V.td]
  refine ⟨ok_clo V.ok, V.l, V.mm, V.n1, V.n2, V.m1, V.m2, ?_, V.k, h1, h2, V.td, ?_, ?_, ?_, tX_inv V.tw⟩
  · show ((xOf (csX.hcl s.C)).length : Int) = n
    rw [len_hcl (okS_out V.ok).2.1]; exact V.hl
  · show 0 ≤ (dX s.D (vdX s) (thrN s == s.l) s.g).1
    rw [e]; exact d1
  · show (dX s.D (vdX s) (thrN s == s.l) s.g).1 ≤ m
    rw [e]; exact d2
  · show 0 ≤ (dX s.D (vdX s) (thrN s == s.l) s.g).2.1
    rw [e]; exact d3
theorem vs_saw {n m : Int} {s : St} (V : VS n m s) (r : Int) : VS n m (sawS s r) :=
  ⟨ok_saw V.ok r, V.l, V.mm, V.n1, V.n2, V.m1, V.m2, by
    show ((xOf (csX.cC s.C r)).length : Int) = n
    rw [len_cC (okS_out V.ok).2.1]; exact V.hl, V.k, V.t1, V.t2, V.td, V.tr1, V.tr2, V.th, V.tw⟩
theorem vs_wtd {n m : Int} {s : St} (V : VS n m s) (r : Int) : VS n m (wtdS s r) :=
  ⟨ok_wtd V.ok r, V.l, V.mm, V.n1, V.n2, V.m1, V.m2, V.hl, V.k, V.t1, V.t2, V.td, V.tr1, V.tr2, V.th, V.tw⟩
theorem vs_psh {n m : Int} {s : St} (V : VS n m s) (a b c d e f g : Int) : VS n m (pshS s a b c d e f g) := by
  have ho := ok_psh V.ok a b c d e f g
  unfold pshS at ho ⊢
  split
  · rename_i h
    rw [if_pos h] at ho
    have h : kcX a b c d e f g s.l = 0 := h
    rw [V.l] at h
    exact ⟨ho, V.l, V.mm, V.n1, V.n2, V.m1, V.m2, V.hl, h, V.t1, V.t2, V.td, V.tr1, V.tr2, V.th, V.tw⟩
  · exact V
theorem vs_rst {n m : Int} {s : St} (V : VS n m s) : VS n m (rstS s) := by
  have h1 := V.n1
  have hm := V.m1
  refine ⟨ok_rst V.ok, V.l, V.mm, V.n1, V.n2, V.m1, V.m2, ?_, V.k, ?_, ?_, V.td, ?_, ?_, (show (0 : Int) ≤ 32 by decide), .inl ⟨rfl, rfl⟩⟩
  · show ((xOf (csX.hcl s.C)).length : Int) = n
    rw [len_hcl (okS_out V.ok).2.1]; exact V.hl
  · show 0 ≤ s.l; rw [V.l]; omega
  · show s.l ≤ n; rw [V.l]; omega
  · show 0 ≤ c0 s.D 0; rw [V.td]; exact hm
  · show c0 s.D 0 ≤ m; rw [V.td]; omega
theorem vs_act {n m : Int} {s : St} (V : VS n m s) (a : Nat → Int) : VS n m (actS s (a 0) (a 1) (a 2) (a 3) (a 4) (a 5) (a 6) (a 7) (a 8)) := by
  unfold actS
  split
  · exact vs_saw V _
  split
  · exact vs_wtd V _
  split
  · exact vs_clo V
  split
  · exact vs_psh V ..
  split
  · exact vs_rst V
  · exact V
def pot (n m : Int) (s : St) : Int := potA s.t n (c0 s.T 0) (c0 s.T 1) s.f + potB (c0 s.D 1) m (c0 s.D 2) s.g
theorem calm_step {n m : Int} {s : St} (V : VS n m s) (hL : s.L = [gi 1, gi 0, gi 0]) (ha : 1 ≤ s.a) : vdX s = 2 ∧ pot n m (cloS s) ≤ pot n m s ∧ (1 ≤ pot n m s → pot n m (cloS s) ≤ pot n m s - 1) := by
  obtain ⟨k1, k2, k3, k4, k5, k6, k7, k8⟩ := kc_out V.k
  have hv : vdX s = 2 := by
    show lvX (c0 s.L 0) (c0 s.L 1) s.a s.b = 2
    rw [hL]
    show lvX 1 0 s.a s.b = 2
    have e : Bd.meanC 0 1 = 0 := by decide
    unfold lvX
    rw [e, if_neg (by omega), if_pos (by omega)]
  refine ⟨hv, ?_⟩
  obtain ⟨x, hx, hCx, hxo⟩ := okH_out (okS_out V.ok).2.1
  have hl := V.hl
  rw [hxo] at hl
  have h1 := V.t1
  have h2 := V.t2
  have up := up_in x hx s.d (t := s.t) h1 (by omega)
  have eu : csX.up s.C s.t s.d = upC (hC x) s.t s.d := by rw [hCx]; rfl
  have hw : wayX s = (tX3 (c0 s.T 0) (c0 s.T 1) 2 s.f).2.2 := by
    show (tX3 (c0 s.T 0) (c0 s.T 1) (vdX s) s.f).2.2 = _
    rw [hv]
  have hnm : ¬ (tX3 (c0 s.T 0) (c0 s.T 1) 2 s.f).2.2 = -1 := by
    unfold tX3
    rw [if_neg (by decide), if_pos rfl]
    repeat' split
    all_goals first | (show ¬ (1 : Int) = -1; decide) | (show ¬ (0 : Int) = -1; decide)
  have ht : thrN s = if (tX3 (c0 s.T 0) (c0 s.T 1) 2 s.f).2.2 = 1 then upC (hC x) s.t s.d else s.t := by
    unfold thrN
    rw [hw, eu]
    rw [if_neg hnm]
  obtain ⟨a1, a2, a3⟩ := A_step (n := n) (t := s.t) (w := c0 s.T 0) (h := c0 s.T 1) (f := s.f) (u := upC (hC x) s.t s.d) k5 k6 h2 V.tw (fun e => by rw [if_pos (by omega)] at up; omega) (fun e => by rw [if_neg (by omega)] at up; omega)
  rw [← ht] at a1 a2 a3
  obtain ⟨b1, b2⟩ := B_step (m := m) (t := c0 s.D 1) (h := c0 s.D 2) (g := s.g) (o := thrN s == s.l) k7 k8 V.m2 V.tr1 V.tr2 V.th
  have an := potA_nn (t := s.t) (n := n) (w := c0 s.T 0) (h := c0 s.T 1) (f := s.f) h2
  have e1 : pot n m (cloS s) = potA (thrN s) n (tX3 (c0 s.T 0) (c0 s.T 1) 2 s.f).1 (tX3 (c0 s.T 0) (c0 s.T 1) 2 s.f).2.1 s.f + potB (dX3 m (c0 s.D 1) (c0 s.D 2) 2 (thrN s == s.l) s.g).1 m (dX3 m (c0 s.D 1) (c0 s.D 2) 2 (thrN s == s.l) s.g).2.1 s.g := by
    show potA (thrN s) n (tX3 (c0 s.T 0) (c0 s.T 1) (vdX s) s.f).1 (tX3 (c0 s.T 0) (c0 s.T 1) (vdX s) s.f).2.1 s.f + potB (dX3 (c0 s.D 0) (c0 s.D 1) (c0 s.D 2) (vdX s) (thrN s == s.l) s.g).1 m (dX3 (c0 s.D 0) (c0 s.D 1) (c0 s.D 2) (vdX s) (thrN s == s.l) s.g).2.1 s.g = _
    rw [hv, V.td]
  rw [e1]
  unfold pot
  refine ⟨by omega, fun hp => ?_⟩
  by_cases hA : 1 ≤ potA s.t n (c0 s.T 0) (c0 s.T 1) s.f
  · have := a2 hA; omega
  · have hA0 : potA s.t n (c0 s.T 0) (c0 s.T 1) s.f = 0 := by omega
    have ho : (thrN s == s.l) = true := by rw [a3 hA0, V.l]; simp
    have := b2 ho (by omega)
    omega
theorem pot_zero {n m : Int} {s : St} (V : VS n m s) (h : pot n m s ≤ 0) : s.t = n ∧ c0 s.D 1 = m := by
  obtain ⟨k1, k2, k3, k4, k5, k6, k7, k8⟩ := kc_out V.k
  have h2 := V.t2
  have an := potA_nn (t := s.t) (n := n) (w := c0 s.T 0) (h := c0 s.T 1) (f := s.f) h2
  obtain ⟨b1, b2⟩ := potB_nn (t := c0 s.D 1) (m := m) (h := c0 s.D 2) (g := s.g) k7 V.tr2
  unfold pot at h
  refine ⟨?_, b2 (by omega)⟩
  have hA : potA s.t n (c0 s.T 0) (c0 s.T 1) s.f = 0 := by omega
  unfold potA at hA
  split at hA
  · assumption
  · split at hA <;> (try split at hA) <;> omega
end Go.Proofs.Ythememoflnocnaa.AE
namespace Go.Proofs.Ythememoflnocnaa.AE
set_option maxRecDepth 100000
open Go.RowKit
def calX (s : St) : Int := Cm.windowsF s.f s.g s.t s.l (csX.dt s.D) s.m
theorem knownE : Known nro (prE csX Cm.windowsF) := by
  intro g p h
  unfold prE at h
  split at h <;> cases h
  · refine pure_of_calls (has_fn (by kernel_rfl)) fun us c h W _ => ?_
    unfold wnP at h
    split at h
    · rename_i l t n k m
      split at h
      · rename_i a b c d e f g hl
        simp only [Option.some.injEq, Prod.mk.injEq, and_true] at h
        subst h
        have : l = #[.int .i64 a, .int .i64 b, .int .i64 c, .int .i64 d, .int .i64 e, .int .i64 f, .int .i64 g] := by
          cases l with
          | mk l => simp only at hl; rw [hl]
        subst this
        refine (windows_any a b c d e f g t n k m W).mono ?_
        rintro e W' ⟨rfl, hb⟩
        exact ⟨rfl, hb⟩
      · cases h
    · cases h
  · refine look_ok (obT_ok (has_fn (by kernel_rfl)) fun C rest r C' h => ?_)
    split at h
    · simp only [Option.some.injEq, Prod.mk.injEq] at h
      obtain ⟨rfl, rfl, h⟩ := h
      obtain ⟨n, t, k, rfl⟩ := okD4_out h
      exact fs_dti n t k
    · cases h
theorem fs_cal (s : St) (h : okS s = true) : Fs Try.prog nro 14 [.ptr 0 0] (stH s) (reS (gi (calX s)) s) := by
  obtain ⟨h0, h1, h2, h3, h4⟩ := okS_out h
  have k3 : csX.okd s.D = true := h3
  have p3 := plD h3
  refine Fs.of_call knownE (c_cal csX Cm.windowsF s.a s.b s.c s.d s.e s.f s.g s.l s.m s.t s.p s.T s.D s.C s.L (reS (gi (calX s)) s)) ?_
  refine holds_bif (fun q => absurd (eq_of_beq q) h0) fun _ => holds_bif (fun q => absurd (eq_of_beq q) h0) fun _ => holds_some ⟨?_, rfl, [], [], rfl⟩
  simp only [k3, p3]; simp [cdb_iff]
theorem knownOx (y : Bool) : Known nro (prO msX ksX calX y) := by
  intro g p h
  unfold prO at h
  split at h <;> cases h
  · exact new_ok20 y
  · exact act_ok20
  · exact awake_ok20
  · exact m1_ok (has_fn (by kernel_rfl)) fun s n hs => fs_saw s hs n
  · exact m1_ok (has_fn (by kernel_rfl)) fun s n hs => fs_wtd s hs n
  · exact m0_ok (has_fn (by kernel_rfl)) fun s hs => fs_clo s hs
  · exact m0p_ok (has_fn (by kernel_rfl)) fun s hs => fs_thr s hs
  · exact m0p_ok (has_fn (by kernel_rfl)) fun s hs => fs_tie s hs
  · exact m0p_ok (has_fn (by kernel_rfl)) fun s hs => fs_knb s hs
  · exact m0p_ok (has_fn (by kernel_rfl)) fun s hs => fs_cal s hs
theorem flatO {pr : FuncId → Option (List AV → AH → Ans)} : Flats muO pr := by
  intro (g : Nat) h
  unfold muO at h
  have h2 := Nat.eq_of_beq_eq_true h
  omega
theorem lows_gi (a b : Nat) : ∀ l : List Int, lows a b (l.map gi) = true
  | [] => rfl
  | x :: l => by
    show (low a b (gi x) && lows a b (l.map gi)) = true
    rw [lows_gi a b l]; rfl
theorem lows_s {s : St} (ho : okS s = true) (a b : Nat) : lows a b s.T = true ∧ lows a b s.D = true ∧ lows a b s.C = true ∧ lows a b s.L = true := by
  obtain ⟨_, h1, h2, h3, h4⟩ := okS_out ho
  obtain ⟨x, _, e1, _⟩ := okH_out h1
  obtain ⟨_, _, e2⟩ := okT2_out h2
  obtain ⟨_, _, _, e3⟩ := okD4_out h3
  obtain ⟨_, _, _, e4⟩ := okL3_out h4
  rw [e1, e2, e3, e4]
  exact ⟨rfl, rfl, lows_gi a b _, rfl⟩
theorem lows_oH {s : St} (ho : okS s = true) (n m a b c d e f g : Int) (more : List (TypeId × List AV)) : ((oHb n m a b c d e f g s ++ more).take 7).all (fun b => lows 7 0 b.2) = true := by
  obtain ⟨l1, l2, l3, l4⟩ := lows_s ho 7 0
  show (lows 7 0 (ofC n m a b c d e f g) && (lows 7 0 [gi a, gi b, gi c, gi d, gi e, gi f, gi g] && (lows 7 0 s.C && (lows 7 0 s.D && (lows 7 0 s.T && (lows 7 0 s.L && (lows 7 0 (coO s) && true))))))) = true
  rw [l1, l2, l3, l4]; rfl
theorem u8_get {l : List Int} {k : Nat} (h : k < l.length) : (l.map u8V).getD (Int.toNat (k : Int)) .dead = u8V l[k] := by
  rw [Int.toNat_natCast, List.getD_eq_getElem?_getD, List.getElem?_map, List.getElem?_eq_getElem h]; rfl
theorem u8_el {l : List Int} {k : Nat} (h : k < l.length) : (0 : Int) ≤ (k : Int) ∧ (l.map u8V)[Int.toNat (k : Int)]? = some (u8V l[k]) := ⟨Int.natCast_nonneg k, by
  rw [Int.toNat_natCast, List.getElem?_map, List.getElem?_eq_getElem h]; rfl⟩
theorem u8_ex (x : Int) : exInt (u8V x) = x := rfl
theorem oo_sl : slotsOf 4 = 108 := by kernel_rfl
theorem oo_re : resultsOf 4 = [.tmp 6] := by kernel_rfl
theorem oo_7 : (flatten (bodyOf 4)).drop 7 = .block 0 (.loop (sub (bodyOf 4) [1, 1, 1, 1, 0, 1, 0, 0])) :: (flatten (bodyOf 4)).drop 8 := by kernel_rfl
theorem oo_l1 : (flatten (sub (bodyOf 4) [1, 1, 1, 1, 0, 1, 0, 0])).drop 2 = .block 1 (sub (bodyOf 4) [1, 1, 1, 1, 0, 1, 0, 0, 1, 0, 0]) :: (flatten (sub (bodyOf 4) [1, 1, 1, 1, 0, 1, 0, 0])).drop 3 := by kernel_rfl
theorem oo_13 : (flatten (bodyOf 4)).drop 13 = .block 2 (.loop (sub (bodyOf 4) [1, 1, 1, 1, 1, 1, 1, 1, 0, 1, 0, 0])) :: (flatten (bodyOf 4)).drop 14 := by kernel_rfl
theorem oo_l2 : (flatten (sub (bodyOf 4) [1, 1, 1, 1, 1, 1, 1, 1, 0, 1, 0, 0])).drop 2 = .block 3 (sub (bodyOf 4) [1, 1, 1, 1, 1, 1, 1, 1, 0, 1, 0, 0, 1, 0, 0]) :: (flatten (sub (bodyOf 4) [1, 1, 1, 1, 1, 1, 1, 1, 0, 1, 0, 0])).drop 3 := by kernel_rfl
theorem oo_b2 : (flatten (sub (bodyOf 4) [1, 1, 1, 1, 1, 1, 1, 1, 0, 1, 0, 0, 1, 0, 0])).drop 1 = .block 4 (.loop (sub (bodyOf 4) [1, 1, 1, 1, 1, 1, 1, 1, 0, 1, 0, 0, 1, 0, 0, 0, 1, 0, 0])) :: (flatten (sub (bodyOf 4) [1, 1, 1, 1, 1, 1, 1, 1, 0, 1, 0, 0, 1, 0, 0])).drop 2 := by kernel_rfl
theorem oo_l3 : (flatten (sub (bodyOf 4) [1, 1, 1, 1, 1, 1, 1, 1, 0, 1, 0, 0, 1, 0, 0, 0, 1, 0, 0])).drop 2 = .block 5 (sub (bodyOf 4) [1, 1, 1, 1, 1, 1, 1, 1, 0, 1, 0, 0, 1, 0, 0, 0, 1, 0, 0, 1, 0, 0]) :: (flatten (sub (bodyOf 4) [1, 1, 1, 1, 1, 1, 1, 1, 0, 1, 0, 0, 1, 0, 0, 0, 1, 0, 0])).drop 3 := by kernel_rfl
theorem oo_14 : (flatten (bodyOf 4)).drop 14 = sub (bodyOf 4) [1, 1, 1, 1, 1, 1, 1, 1, 1, 0] :: (flatten (bodyOf 4)).drop 15 := by kernel_rfl
theorem oo_st : statC (sub (bodyOf 4) [1, 1, 1, 1, 1, 1, 1, 1, 1, 0]) = true := by kernel_rfl
theorem op_acts (l : List (Nat → Int)) (z : List Int) (hl : l.length ≤ 150) (n m a b c d e f g : Int) {s : St} (V : VS n m s) {F : Exit → List AV → AH → Prop}
    (hQ : ∀ s', VS n m s' → Trl Try.prog nro ((flatten (bodyOf 4)).drop 8) (oS .dead (rl8 z) .dead .dead .dead .dead) (oH n m a b c d e f g s') F) :
    Trl Try.prog nro ((flatten (bodyOf 4)).drop 7) (oS (acs l) (rl8 z) (gi 0) .dead .dead .dead) (oH n m a b c d e f g s) F := by
  rw [oo_7]
  let I : Nat → List AV → AH → Prop := fun k act H => ∃ (i : Nat) (s : St), i ≤ l.length ∧ k = l.length - i ∧ VS n m s ∧ act = oS (acs l) (rl8 z) (gi (i : Int)) .dead .dead .dead ∧ H = oH n m a b c d e f g s
  refine Tr.block (Tr.loop I ?_ (m := l.length) ⟨0, s, Nat.zero_le _, rfl, V, rfl, rfl⟩)
  clear V s
  rintro k act H ⟨i, s, hi, rfl, V, rfl, rfl⟩
  refine Tr.of_flat (Trl.split 2 (Trl.of_code (known_none _) (neN (by kernel_rfl)) (o_hd l z (i : Int) (oHb n m a b c d e f g s) _) (holds_bif (fun h => ⟨trivial, ?_⟩) fun h => ⟨trivial, ?_⟩)))
  · have hi : i < l.length := by
      have h : (i : Int) < ((l.map acV).length : Nat) := of_decide_eq_true h
      rw [List.length_map] at h; omega
    show Trl Try.prog nro ((flatten (sub (bodyOf 4) [1, 1, 1, 1, 0, 1, 0, 0])).drop 2) (oS (acs l) (rl8 z) (gi (i : Int)) .dead .dead .dead) (oH n m a b c d e f g s) _
    rw [oo_l1]
    have ho := V.ok
    obtain ⟨p1, p2, p3, p4⟩ := plainS ho
    have kk : msX.ok s = true := ho
    have es : (⟨s.a, s.b, s.c, s.d, s.e, s.f, s.g, s.l, s.m, s.t, s.p, s.T, s.D, s.C, s.L⟩ : St) = s := rfl
    have V' : VS n m (actA s l[i]) := vs_act V l[i]
    obtain ⟨q1, q2, q3, q4⟩ := plainS V'.ok
    have tb := fun R => o_b1 msX ksX calX l z (i : Int) n m a b c d e f g s.a s.b s.c s.d s.e s.f s.g s.l s.m s.t s.p s.T s.D s.C s.L R
    simp only [es, ac_get2 hi, ac_kk, ks_act, ks_isA] at tb
    refine Tr.block (Tr.of_code (knownOx true) (tb _) (holds_some ⟨?_, ?_⟩))
    · repeat' first
        | with_reducible exact trivial
        | with_reducible refine cdb_iff.2 ⟨?_, ?_⟩
        | with_reducible refine cds_of ?_ ?_
      all_goals first | exact ac_el hi | (simp only [kk, p1, p2, p3, p4, q1, q2, q3, q4]; rfl)
    show Trl Try.prog nro ((flatten (sub (bodyOf 4) [1, 1, 1, 1, 0, 1, 0, 0])).drop 3) (oS (acs l) (rl8 z) (gi (i : Int)) .dead .dead .dead) (oH n m a b c d e f g (actA s l[i])) _
    refine Trl.of_code (known_none _) (neN (by kernel_rfl)) (o_up l z (i : Int) (oHb n m a b c d e f g (actA s l[i])) _) ⟨trivial, l.length - (i + 1), by omega, i + 1, actA s l[i], by omega, rfl, V', ?_, rfl⟩
    rw [inc64 i (by omega)]; rfl
  · show Trl Try.prog nro ((flatten (bodyOf 4)).drop 8) (oS (acs l) (rl8 z) (gi (i : Int)) .dead .dead .dead) (oH n m a b c d e f g s) F
    exact Tr.keepL [2, 3, 7] (by kernel_rfl) (hQ s V)
/-- What is seen in a calm window. -/
theorem op_seen (z : List Int) (k j : Int) (n' : Nat) (m a b c d e f g : Int) {s : St} (V : VS (Int.ofNat (n' + 1)) m s) {F : Exit → List AV → AH → Prop}
    (hQ : ∀ C', VS (Int.ofNat (n' + 1)) m { s with C := C' } → Trl Try.prog nro ((flatten (sub (bodyOf 4) [1, 1, 1, 1, 1, 1, 1, 1, 0, 1, 0, 0, 1, 0, 0])).drop 2) (oS .dead (rl8 z) .dead (gi k) (gi j) .dead) (oH (Int.ofNat (n' + 1)) m a b c d e f g { s with C := C' }) F) :
    Trl Try.prog nro ((flatten (sub (bodyOf 4) [1, 1, 1, 1, 1, 1, 1, 1, 0, 1, 0, 0, 1, 0, 0])).drop 1) (oS .dead (rl8 z) .dead (gi k) (gi j) (gi 0)) (oH (Int.ofNat (n' + 1)) m a b c d e f g s) F := by
  rw [oo_b2]
  let I : Nat → List AV → AH → Prop := fun q act H => ∃ (h : Nat) (C' : List AV), h ≤ 20 ∧ q = 20 - h ∧ VS (Int.ofNat (n' + 1)) m { s with C := C' } ∧ act = oS .dead (rl8 z) .dead (gi k) (gi j) (gi (h : Int)) ∧ H = oH (Int.ofNat (n' + 1)) m a b c d e f g { s with C := C' }
  refine Tr.block (Tr.loop I ?_ (m := 20) ⟨0, s.C, by omega, rfl, V, rfl, rfl⟩)
  rintro q act H ⟨h, C', hh, rfl, V', rfl, rfl⟩
  have out : Trl Try.prog nro ((flatten (sub (bodyOf 4) [1, 1, 1, 1, 1, 1, 1, 1, 0, 1, 0, 0, 1, 0, 0])).drop 2) (oS .dead (rl8 z) .dead (gi k) (gi j) (gi (h : Int))) (oH (Int.ofNat (n' + 1)) m a b c d e f g { s with C := C' }) F := Tr.keepL [2, 3, 7, 10, 11] (by kernel_rfl) (hQ C' V')
  refine Tr.of_flat (Trl.split 2 (Trl.of_code (known_none _) (neN (by kernel_rfl)) (o3_hd z k j (h : Int) (oHb (Int.ofNat (n' + 1)) m a b c d e f g { s with C := C' }) _) (holds_bif (fun h1 => holds_bif (fun h2 => ⟨trivial, ?_⟩) fun _ => ⟨trivial, out⟩) fun _ => ⟨trivial, out⟩)))
  have h1 : h < z.length := by
    have h1 : (h : Int) < ((z.map u8V).length : Nat) := of_decide_eq_true h1
    rw [List.length_map] at h1; omega
  have h2 : (h : Int) < 20 := of_decide_eq_true h2
  show Trl Try.prog nro ((flatten (sub (bodyOf 4) [1, 1, 1, 1, 1, 1, 1, 1, 0, 1, 0, 0, 1, 0, 0, 0, 1, 0, 0])).drop 2) (oS .dead (rl8 z) .dead (gi k) (gi j) (gi (h : Int))) (oH (Int.ofNat (n' + 1)) m a b c d e f g { s with C := C' }) _
  rw [oo_l3]
  have ho := V'.ok
  obtain ⟨p1, p2, p3, p4⟩ := plainS ho
  have kk : msX.ok { s with C := C' } = true := ho
  have tb := fun R => o3_b msX ksX calX z k j (h : Int) n' m a b c d e f g s.a s.b s.c s.d s.e s.f s.g s.l s.m s.t s.p s.T s.D C' s.L R
  simp only [u8_get h1, u8_ex] at tb
  generalize Int.tmod (IntKind.wrap .i64 z[h]) (Int.ofNat (n' + 1)) = v at tb
  have V2 : VS (Int.ofNat (n' + 1)) m (sawS { s with C := C' } v) := vs_saw V' v
  obtain ⟨q1, q2, q3, q4⟩ := plainS V2.ok
  refine Tr.block (Tr.of_code (knownOx true) (tb _) (holds_some ⟨?_, ?_⟩) flatO)
  · repeat' first
        | with_reducible exact trivial
        | with_reducible refine cdb_iff.2 ⟨?_, ?_⟩
        | with_reducible refine cds_of ?_ ?_
    all_goals first | exact u8_el h1 | (simp only [kk, p1, p2, p3, p4]; simp; exact ⟨q1, q2, q3, q4⟩)
  show Trl Try.prog nro ((flatten (sub (bodyOf 4) [1, 1, 1, 1, 1, 1, 1, 1, 0, 1, 0, 0, 1, 0, 0, 0, 1, 0, 0])).drop 3) (oS .dead (rl8 z) .dead (gi k) (gi j) (gi (h : Int))) (oH (Int.ofNat (n' + 1)) m a b c d e f g { s with C := csX.cC C' v }) _
  refine Trl.of_code (known_none _) (neN (by kernel_rfl)) (o3_up z k j (h : Int) (oHb (Int.ofNat (n' + 1)) m a b c d e f g { s with C := csX.cC C' v }) _) ⟨trivial, 20 - (h + 1), by omega, h + 1, csX.cC C' v, by omega, rfl, V2, ?_, rfl⟩
  rw [inc64 h (by omega)]; rfl
theorem op_end (z : List Int) (n' : Nat) (m a b c d e f g k j : Int) {s : St} (V : VS (Int.ofNat (n' + 1)) m s) (hp : pot (Int.ofNat (n' + 1)) m s ≤ 0) :
    Trl Try.prog nro ((flatten (bodyOf 4)).drop 14) (oS .dead (rl8 z) .dead (gi k) (gi j) .dead) (oH (Int.ofNat (n' + 1)) m a b c d e f g s) (fun e' act h => (e' = .normal ∨ e' = .ret) ∧ ansOk (fun r _ => r = .v (.bool true)) (resOf Try.prog nro [.tmp 6] act h)) := by
  rw [oo_14]
  obtain ⟨e1, e2⟩ := pot_zero V hp
  obtain ⟨k1, k2, k3, k4, k5, k6, k7, k8⟩ := kc_out V.k
  have e3 : calX s = 0 := by
    unfold calX
    rw [e1, V.l, V.mm, show csX.dt s.D = m from e2]
    exact win_zero
  have ho := V.ok
  obtain ⟨p1, p2, p3, p4⟩ := plainS ho
  have kk : msX.ok s = true := ho
  have es : (⟨s.a, s.b, s.c, s.d, s.e, s.f, s.g, s.l, s.m, s.t, s.p, s.T, s.D, s.C, s.L⟩ : St) = s := rfl
  have g1 : (s.t == Int.ofNat (n' + 1)) = true := by rw [e1]; simp
  have g2 : (msX.dt s == m) = true := by rw [show msX.dt s = m from e2]; simp
  have g3 : (calX s == 0) = true := by rw [e3]; rfl
  refine Tr.keepL [3, 7] rfl ?_
  have tb := fun R => o_fin msX ksX calX (Int.ofNat (n' + 1)) m a b c d e f g s.a s.b s.c s.d s.e s.f s.g s.l s.m s.t s.p s.T s.D s.C s.L R
  simp only [es, g1, g2, g3, cond_true] at tb
  refine Tr.of_still (knownOx true) oo_st (tb _) (holds_some ⟨?_, ?_⟩)
  · simp only [kk, p1, p2, p3, p4]; simp [cdb_iff]
  exact Trl.of_code (known_none _) (neN (by kernel_rfl)) (o_ret (.v (.bool true)) (oHb (Int.ofNat (n' + 1)) m a b c d e f g s) _) ⟨trivial, .inr rfl, trivial, rfl⟩
end Go.Proofs.Ythememoflnocnaa.AE
namespace Go.Proofs.Ythememoflnocnaa.AE
set_option maxRecDepth 100000
open Go.RowKit
theorem lw_zero : csX.lw [gi 0, gi 0, gi 0] 0 = [gi 1, gi 0, gi 0] := by kernel_rfl
theorem op_calm (z : List Int) (n' : Nat) (m a b c d e f g : Int) (k : Nat) (hk : k ≤ 10000) {s : St} (V : VS (Int.ofNat (n' + 1)) m s) (hL : s.L = [gi 0, gi 0, gi 0]) (ha : 1 ≤ s.a) (hpo : pot (Int.ofNat (n' + 1)) m s ≤ (k : Int)) :
    Trl Try.prog nro ((flatten (bodyOf 4)).drop 13) (oS .dead (rl8 z) .dead (gi (k : Int)) (gi 0) .dead) (oH (Int.ofNat (n' + 1)) m a b c d e f g s) (fun e' act h => (e' = .normal ∨ e' = .ret) ∧ ansOk (fun r _ => r = .v (.bool true)) (resOf Try.prog nro [.tmp 6] act h)) := by
  rw [oo_13]
  let I : Nat → List AV → AH → Prop := fun q act H => ∃ (j : Nat) (s : St), j ≤ k ∧ q = k - j ∧ VS (Int.ofNat (n' + 1)) m s ∧ s.L = [gi 0, gi 0, gi 0] ∧ 1 ≤ s.a ∧ pot (Int.ofNat (n' + 1)) m s ≤ (k : Int) - j ∧ act = oS .dead (rl8 z) .dead (gi (k : Int)) (gi (j : Int)) .dead ∧ H = oH (Int.ofNat (n' + 1)) m a b c d e f g s
  refine Tr.block (Tr.loop I ?_ (m := k) ⟨0, s, Nat.zero_le _, rfl, V, hL, ha, by omega, rfl, rfl⟩)
  clear V hL ha hpo s
  rintro q act H ⟨j, s, hj, rfl, V, hL, ha, hpo, rfl, rfl⟩
  refine Tr.forget 7 0 (Nat.le_refl _) (Nat.le_refl _) (Tr.of_flat (Trl.split 2 (Trl.of_code (known_none _) (neN (by kernel_rfl)) (o2_hd z (k : Int) (j : Int) (oHb (Int.ofNat (n' + 1)) m a b c d e f g s) _) (holds_bif (fun h1 => ⟨trivial, ?_⟩) fun h1 => ⟨trivial, ?_⟩))))
  · have h1 : (j : Int) < (k : Int) := of_decide_eq_true h1
    show Trl Try.prog nro ((flatten (sub (bodyOf 4) [1, 1, 1, 1, 1, 1, 1, 1, 0, 1, 0, 0])).drop 2) (oS .dead (rl8 z) .dead (gi (k : Int)) (gi (j : Int)) .dead) (oH (Int.ofNat (n' + 1)) m a b c d e f g s) _
    rw [oo_l2]
    refine Tr.block (Tr.of_flat (Trl.split 1 (Trl.of_code (known_none _) (neN (by kernel_rfl)) (o2_a z (k : Int) (j : Int) (oHb (Int.ofNat (n' + 1)) m a b c d e f g s) _) ⟨trivial, ?_⟩)))
    refine op_seen z (k : Int) (j : Int) n' m a b c d e f g V fun C' V1 => ?_
    have es : ∀ s : St, (⟨s.a, s.b, s.c, s.d, s.e, s.f, s.g, s.l, s.m, s.t, s.p, s.T, s.D, s.C, s.L⟩ : St) = s := fun _ => rfl
    obtain ⟨s1, hs1⟩ : ∃ s1, s1 = { s with C := C' } := ⟨_, rfl⟩
    have e1 : s1.L = [gi 0, gi 0, gi 0] := by rw [hs1]; exact hL
    have e2 : 1 ≤ s1.a := by rw [hs1]; exact ha
    have e3 : pot (Int.ofNat (n' + 1)) m s1 ≤ (k : Int) - j := by rw [hs1]; exact hpo
    rw [← hs1] at V1 ⊢
    have V2 : VS (Int.ofNat (n' + 1)) m (wtdS s1 0) := vs_wtd V1 0
    obtain ⟨p1, p2, p3, p4⟩ := plainS V1.ok
    obtain ⟨q1, q2, q3, q4⟩ := plainS V2.ok
    have kk : msX.ok s1 = true := V1.ok
    refine Trl.split 1 (Trl.of_code (knownOx true) (neN (by kernel_rfl)) (o2_w msX ksX calX z (k : Int) (j : Int) (Int.ofNat (n' + 1)) m a b c d e f g s1.a s1.b s1.c s1.d s1.e s1.f s1.g s1.l s1.m s1.t s1.p s1.T s1.D s1.C s1.L _) (holds_some ⟨?_, ?_⟩))
    · simp only [kk, p1, p2, p3, p4]; simp [cdb_iff]; exact ⟨q1, q2, q3, q4⟩
    show Trl Try.prog nro ((flatten (sub (bodyOf 4) [1, 1, 1, 1, 1, 1, 1, 1, 0, 1, 0, 0, 1, 0, 0])).drop 3) (oS .dead (rl8 z) .dead (gi (k : Int)) (gi (j : Int)) .dead) (oH (Int.ofNat (n' + 1)) m a b c d e f g (wtdS s1 0)) _
    obtain ⟨s2, hs2⟩ : ∃ s2, s2 = wtdS s1 0 := ⟨_, rfl⟩
    have f1 : s2.L = [gi 1, gi 0, gi 0] := by
      rw [hs2]
      show csX.lw s1.L 0 = _
      rw [e1]; exact lw_zero
    have f2 : 1 ≤ s2.a := by rw [hs2]; exact e2
    have f3 : pot (Int.ofNat (n' + 1)) m s2 ≤ (k : Int) - j := by rw [hs2]; exact e3
    rw [← hs2] at V2 ⊢
    clear q1 q2 q3 q4 p1 p2 p3 p4 kk
    obtain ⟨p1, p2, p3, p4⟩ := plainS V2.ok
    have V3 : VS (Int.ofNat (n' + 1)) m (cloS s2) := vs_clo V2
    obtain ⟨q1, q2, q3, q4⟩ := plainS V3.ok
    have kk : msX.ok s2 = true := V2.ok
    obtain ⟨g1, g2, g3⟩ := calm_step V2 f1 f2
    refine Trl.split 1 (Trl.of_code (knownOx true) (neN (by kernel_rfl)) (o2_c msX ksX calX z (k : Int) (j : Int) (Int.ofNat (n' + 1)) m a b c d e f g s2.a s2.b s2.c s2.d s2.e s2.f s2.g s2.l s2.m s2.t s2.p s2.T s2.D s2.C s2.L _) (holds_some ⟨?_, ?_⟩))
    · simp only [kk, p1, p2, p3, p4]; simp [cdb_iff]; exact ⟨q1, q2, q3, q4⟩
    show Trl Try.prog nro ((flatten (sub (bodyOf 4) [1, 1, 1, 1, 1, 1, 1, 1, 0, 1, 0, 0, 1, 0, 0])).drop 4) (oT z (k : Int) (j : Int)) (hp (oHb (Int.ofNat (n' + 1)) m a b c d e f g (cloS s2) ++ [(41, aC (vdX s2) (msX.ct s2) (msX.ck s2) (msX.cp s2) (msX.cm s2) (msX.cd s2))]) []) _
    rw [g1]
    obtain ⟨s3, hs3⟩ : ∃ s3, s3 = cloS s2 := ⟨_, rfl⟩
    have i1 : s3.L = [gi 0, gi 0, gi 0] := by rw [hs3]; rfl
    have i2 : 1 ≤ s3.a := by rw [hs3]; exact f2
    have i3 : pot (Int.ofNat (n' + 1)) m s3 ≤ (k : Int) - (j + 1 : Nat) := by
      rw [hs3]
      by_cases h : 1 ≤ pot (Int.ofNat (n' + 1)) m s2
      · have := g3 h; omega
      · omega
    rw [← hs3] at V3 ⊢
    refine Trl.of_code (known_none _) (neN (by kernel_rfl)) (o2_t z (k : Int) (j : Int) (Int.ofNat (n' + 1)) m a b c d e f g s3 2 (msX.ct s2) (msX.ck s2) (msX.cp s2) (msX.cm s2) (msX.cd s2) _) (holds_bif (fun h => absurd h (by decide)) fun _ => ⟨trivial, ?_⟩)
    show Trl Try.prog nro ((flatten (sub (bodyOf 4) [1, 1, 1, 1, 1, 1, 1, 1, 0, 1, 0, 0])).drop 3) (oS .dead (rl8 z) .dead (gi (k : Int)) (gi (j : Int)) .dead) (hp (oHb (Int.ofNat (n' + 1)) m a b c d e f g s3 ++ [(41, aC 2 (msX.ct s2) (msX.ck s2) (msX.cp s2) (msX.cm s2) (msX.cd s2))]) []) _
    refine Trl.of_code (known_none _) (neN (by kernel_rfl)) (o2_up z (k : Int) (j : Int) (oHb (Int.ofNat (n' + 1)) m a b c d e f g s3 ++ [(41, aC 2 (msX.ct s2) (msX.ck s2) (msX.cp s2) (msX.cm s2) (msX.cd s2))]) _) ⟨trivial, ?_, lows_oH V3.ok .., k - (j + 1), by omega, j + 1, s3, by omega, rfl, V3, i1, i2, i3, ?_, rfl⟩
    · show lows 7 0 (oS .dead (rl8 z) .dead (gi (k : Int)) (gi (IntKind.wrap .i64 ((j : Int) + 1))) .dead) = true
      rfl
    · rw [inc64 j (by omega)]; rfl
  · have h1 : ¬ (j : Int) < (k : Int) := of_decide_eq_false h1
    refine ⟨rfl, ?_, ?_⟩
    · have := lows_oH V.ok (Int.ofNat (n' + 1)) m a b c d e f g []
      rw [List.append_nil] at this
      exact this
    · exact op_end z n' m a b c d e f g (k : Int) (j : Int) V (by omega)
theorem fs_opens (l : List (Nat → Int)) (z : List Int) (n m a b c d e f g : Int) :
    Fs Try.prog nro 4 [agN n m a b c d e f g, acs l, rl8 z] (hp [] []) fun r _ => r = .v (.bool true) := by
  refine Fs.of_body (has_fn (by kernel_rfl)) ?_
  rw [oo_sl, oo_re]
  cases hk : okN n m a b c d e f g with
  | false =>
    have e0 : ksX.nok n m a b c d e f g = false := hk
    have e1 : (ksX.ner n m a b c d e f g != 0) = true := by
      have : errN n m a b c d e f g ≠ 0 := by
        unfold okN at hk
        unfold errN kcX at *
        simp only [Bool.and_eq_false_iff, decide_eq_false_iff_not, beq_eq_false_iff_ne, ne_eq] at hk
        split
        · decide
        · rcases hk with hk | hk
          · omega
          · exact hk
      show (errN n m a b c d e f g != 0) = true
      simpa using this
    have tb := fun R => o_pre0 msX ksX calX l z n m a b c d e f g R
    simp only [e0, e1, cond_true, Bool.not_false] at tb
    refine Tr.of_flat (Trl.split 6 (Trl.of_code (knownOx false) (neN (by kernel_rfl)) (tb _) (holds_bif (fun h => ⟨trivial, .inr rfl, trivial, rfl⟩) fun h => ⟨?_, .inr rfl, trivial, rfl⟩)))
    simp [cdb_iff]
  | true =>
    have e0 : ksX.nok n m a b c d e f g = true := hk
    have V := vs_new hk
    obtain ⟨n', rfl⟩ : ∃ n' : Nat, n = Int.ofNat (n' + 1) := ⟨(n - 1).toNat, by have := V.n1; show n = (((n - 1).toNat + 1 : Nat) : Int); omega⟩
    have pn : plainC (ksX.nC (Int.ofNat (n' + 1))) = true := (plainS V.ok).2.2.1
    refine Tr.of_flat (Trl.split 6 (Trl.of_code (knownOx true) (neN (by kernel_rfl)) (o_pre1 msX ksX calX l z (Int.ofNat (n' + 1)) m a b c d e f g _) (holds_bif (fun h => ⟨trivial, .inr rfl, trivial, rfl⟩) fun h => ⟨?_, ?_⟩)))
    · simp only [e0, pn]; simp [cdb_iff, plainC, isP]
    have hl : l.length ≤ 150 := by
      have h : ¬ (150 : Int) < ((l.map acV).length : Nat) := of_decide_eq_false h
      rw [List.length_map] at h; omega
    refine Tr.keepL [1, 2, 3, 7] (by kernel_rfl) ?_
    show Trl Try.prog nro ((flatten (bodyOf 4)).drop 6) (oS (acs l) (rl8 z) .dead .dead .dead .dead) (oH (Int.ofNat (n' + 1)) m a b c d e f g (newS (Int.ofNat (n' + 1)) m a b c d e f g)) _
    generalize newS (Int.ofNat (n' + 1)) m a b c d e f g = s0 at V
    refine Trl.split 1 (Trl.of_code (known_none _) (neN (by kernel_rfl)) (o_i0 l z (oHb (Int.ofNat (n' + 1)) m a b c d e f g s0) _) (holds_some ⟨trivial, ?_⟩))
    refine op_acts l z hl (Int.ofNat (n' + 1)) m a b c d e f g V fun s V => ?_
    have kk : msX.ok s = true := V.ok
    obtain ⟨p1, p2, p3, p4⟩ := plainS V.ok
    have V1 : VS (Int.ofNat (n' + 1)) m (cloS s) := vs_clo V
    obtain ⟨q1, q2, q3, q4⟩ := plainS V1.ok
    refine Trl.split 1 (Trl.of_code (knownOx true) (neN (by kernel_rfl)) (o_cl msX ksX calX z (Int.ofNat (n' + 1)) m a b c d e f g s.a s.b s.c s.d s.e s.f s.g s.l s.m s.t s.p s.T s.D s.C s.L _) (holds_some ⟨?_, ?_⟩))
    · simp only [kk, p1, p2, p3, p4]; simp [cdb_iff]; exact ⟨q1, q2, q3, q4⟩
    show Trl Try.prog nro ((flatten (bodyOf 4)).drop 9) (oS .dead (rl8 z) .dead .dead .dead .dead) (oH (Int.ofNat (n' + 1)) m a b c d e f g (cloS s)) _
    obtain ⟨s1, hs1⟩ : ∃ s1, s1 = cloS s := ⟨_, rfl⟩
    have i1 : s1.L = [gi 0, gi 0, gi 0] := by rw [hs1]; rfl
    rw [← hs1] at V1 ⊢
    have kk : msX.ok s1 = true := V1.ok
    obtain ⟨p1, p2, p3, p4⟩ := plainS V1.ok
    refine Trl.split 2 (Trl.of_code (knownOx true) (neN (by kernel_rfl)) (o_kn msX ksX calX z (Int.ofNat (n' + 1)) m a b c d e f g s1.a s1.b s1.c s1.d s1.e s1.f s1.g s1.l s1.m s1.t s1.p s1.T s1.D s1.C s1.L _) (holds_bif (fun _ => ⟨?_, .inr rfl, trivial, rfl⟩) fun h => ⟨?_, ?_⟩))
    · simp only [kk, p1, p2, p3, p4]; simp [cdb_iff]
    · simp only [kk, p1, p2, p3, p4]; simp [cdb_iff]
    have ha : ¬ s1.a < 1 := of_decide_eq_false h
    show Trl Try.prog nro ((flatten (bodyOf 4)).drop 11) (oS .dead (rl8 z) .dead .dead .dead .dead) (oH (Int.ofNat (n' + 1)) m a b c d e f g s1) _
    obtain ⟨k1, k2, k3, k4, k5, k6, k7, k8⟩ := kc_out V1.k
    obtain ⟨w1, w2⟩ := win_pot (f := s1.f) (g := s1.g) (t := s1.t) (n := (Int.ofNat (n' + 1))) (k := c0 s1.D 1) (m := m) (w := c0 s1.T 0) (h := c0 s1.T 1) (hd := c0 s1.D 2) k5 k6 k7 k8 V1.n2 V1.t1 V1.t2 V1.m2 V1.tr1 V1.tr2 V1.tw V1.th
    have hcal : calX s1 = Cm.windowsF s1.f s1.g s1.t (Int.ofNat (n' + 1)) (c0 s1.D 1) m := by
      unfold calX
      rw [V1.l, V1.mm]; rfl
    rw [← hcal] at w1 w2
    have hp : pot (Int.ofNat (n' + 1)) m s1 ≤ calX s1 := w1
    have hn : 0 ≤ calX s1 := by
      show 0 ≤ Bd.addC _ _
      exact (Bd.addC_b _ _).1
    obtain ⟨k, hk⟩ : ∃ k : Nat, calX s1 = (k : Int) := ⟨(calX s1).toNat, by omega⟩
    refine Trl.split 2 (Trl.of_code (knownOx true) (neN (by kernel_rfl)) (o_ca msX ksX calX z (Int.ofNat (n' + 1)) m a b c d e f g s1.a s1.b s1.c s1.d s1.e s1.f s1.g s1.l s1.m s1.t s1.p s1.T s1.D s1.C s1.L _) (holds_some ⟨?_, ?_⟩))
    · simp only [kk, p1, p2, p3, p4]; simp [cdb_iff]
    show Trl Try.prog nro ((flatten (bodyOf 4)).drop 13) (oS .dead (rl8 z) .dead (gi (calX s1)) (gi 0) .dead) (oH (Int.ofNat (n' + 1)) m a b c d e f g s1) _
    rw [hk]
    exact op_calm z n' m a b c d e f g k (by omega) V1 i1 (by omega) (by omega)
end Go.Proofs.Ythememoflnocnaa.AE
namespace Go.Proofs.Ythememoflnocnaa
set_option maxRecDepth 100000
open Go.RowKit
/-- Element i's field j holds f i j. -/
def Fld (w : World) (a : Option Addr) (len m : Nat) (f : Nat → Nat → Int) : Prop :=
  0 < len → ∃ b off, a = some ⟨b, off, none⟩ ∧ ∀ i j, i < len → j < m → w.cell? ⟨b, off + i * m + j, none⟩ = some (.int .i64 (f i j))
theorem Fld.below {w w' : World} {a : Option Addr} {len m : Nat} {f : Nat → Nat → Int} (h : Fld w a len m f) (hb : Below w.heap.size w w') : Fld w' a len m f := by
  intro hl
  obtain ⟨b, off, e, hc⟩ := h hl
  exact ⟨b, off, e, fun i j hi hj => (hb.cell (p := ⟨b, off + i * m + j, none⟩) (cell_lt (hc i j hi hj))).trans (hc i j hi hj)⟩
theorem Fld.get {w : World} {a : Option Addr} {len m : Nat} {f : Nat → Nat → Int} (h : Fld w a len m f) {i : Nat} (hi : i < len) :
    ∃ b off, a = some ⟨b, off, none⟩ ∧ ∀ j, j < m → w.cell? ⟨b, off + i * m + j, none⟩ = some (.int .i64 (f i j)) := by
  obtain ⟨b, off, e, hc⟩ := h (by omega)
  exact ⟨b, off, e, fun j hj => hc i j hi hj⟩
end Go.Proofs.Ythememoflnocnaa
namespace Go.Proofs.Ythememoflnocnaa
set_option maxRecDepth 100000
open Go.RowKit
theorem fldn_in {H : Type} {enc : TypeId × Value → H} {w : World} {t e : TypeId} {a : Option Addr} {len cap d2 k : Nat} {d : DataW H} {p : List MemPlace}
    (ht : Try.prog.underlying t = some (.slice e)) (ha : allInts Try.prog d2 e = true) (hC : Try.prog.cellsOf e = k) (hk : 0 < k)
    (h : DataW.Trod enc Try.prog w 0 (fun _ => true) true t (.slice a len cap) d p) :
    ∃ f : Nat → Nat → Int, Fld w a len k f ∧ len ≤ cap ∧ cap ≤ maxLen := by
  obtain ⟨fuel, hf⟩ := h
  rcases Deep.open_slice ht hf with ⟨hcs, _⟩ | ⟨x, l, c, m, n, D, Pl, hcs, hb, hl, hm, hmm, hx, hi⟩
  · simp [Value.cells] at hcs
    obtain ⟨rfl, rfl, rfl⟩ := hcs
    exact ⟨fun _ _ => 0, fun h => absurd h (by omega), Nat.le_refl _, Nat.zero_le _⟩
  · simp [Value.cells] at hcs
    obtain ⟨rfl, rfl, rfl⟩ := hcs
    have hmc : m = cap := by simpa using hmm
    subst hmc
    have cell : ∀ i j, i < len → j < k → ∃ z : Int, w.cell? (x.add (i * k + j)) = some (.int .i64 z) := by
      intro i j hil hj
      obtain ⟨cs', hc, ht'⟩ := hi i (by omega)
      rw [hC] at hc
      obtain ⟨l', g1, g2, g3⟩ := trod_ints d2 e _ _ _ ha ht'
      obtain ⟨_, hcl, hat⟩ := World.cells?_some hc
      have hjl : j < l'.length := by rw [g2, hC]; exact hj
      refine ⟨l'[j], ?_⟩
      rw [← Deep.add_add, hat j hj, g1, List.getElem?_map, List.getElem?_eq_getElem hjl]
      rfl
    refine ⟨fun i j => if h : i < len ∧ j < k then Classical.choose (cell i j h.1 h.2) else 0, fun hlen => ?_, hl, hm⟩
    have h0 := Classical.choose_spec (cell 0 0 hlen hk)
    obtain ⟨b, off, spot⟩ := x
    have hspot : spot = none := by simpa [Addr.add] using World.cell?_spot h0
    subst hspot
    refine ⟨b, off, rfl, fun i j hi hj => ?_⟩
    have h1 := Classical.choose_spec (cell i j hi hj)
    dsimp only
    rw [dif_pos ⟨hi, hj⟩, ← h1, Go.WideShapes.add_plain, Nat.add_assoc]
end Go.Proofs.Ythememoflnocnaa
namespace Go.Proofs.Ythememoflnocnaa
set_option maxRecDepth 100000
open Go.RowKit AE
def acF (f : Nat → Nat → Int) (n : Nat) : List (Nat → Int) := (List.range n).map f
def acK (f : Nat → Nat → Int) (j : Nat) : Value := .int .i64 (f (j / 9) (j % 9))
theorem acF_cells (f : Nat → Nat → Int) : ∀ n, ((acF f n).map acV).flatMap AV.cells = ((List.range (n * 9)).map (acK f)).map AV.v
  | 0 => rfl
  | n + 1 => by
    have ih := acF_cells f n
    have e : acF f (n + 1) = acF f n ++ [f n] := by unfold acF; rw [List.range_succ, List.map_append]; rfl
    have r : List.range ((n + 1) * 9) = List.range (n * 9) ++ [n * 9, n * 9 + 1, n * 9 + 2, n * 9 + 3, n * 9 + 4, n * 9 + 5, n * 9 + 6, n * 9 + 7, n * 9 + 8] := by
      rw [show (n + 1) * 9 = n * 9 + 1 + 1 + 1 + 1 + 1 + 1 + 1 + 1 + 1 by omega]
      simp only [List.range_succ, List.append_assoc, List.cons_append, List.nil_append, Nat.add_assoc]
    rw [e, List.map_append, List.flatMap_append, ih, r, List.map_append, List.map_append]
    congr 1
    have d0 : acK f (n * 9) = .int .i64 (f n 0) := by unfold acK; rw [show n * 9 / 9 = n by omega, show n * 9 % 9 = 0 by omega]
    have d1 : acK f (n * 9 + 1) = .int .i64 (f n 1) := by unfold acK; rw [show (n * 9 + 1) / 9 = n by omega, show (n * 9 + 1) % 9 = 1 by omega]
    have d2 : acK f (n * 9 + 2) = .int .i64 (f n 2) := by unfold acK; rw [show (n * 9 + 2) / 9 = n by omega, show (n * 9 + 2) % 9 = 2 by omega]
    have d3 : acK f (n * 9 + 3) = .int .i64 (f n 3) := by unfold acK; rw [show (n * 9 + 3) / 9 = n by omega, show (n * 9 + 3) % 9 = 3 by omega]
    have d4 : acK f (n * 9 + 4) = .int .i64 (f n 4) := by unfold acK; rw [show (n * 9 + 4) / 9 = n by omega, show (n * 9 + 4) % 9 = 4 by omega]
    have d5 : acK f (n * 9 + 5) = .int .i64 (f n 5) := by unfold acK; rw [show (n * 9 + 5) / 9 = n by omega, show (n * 9 + 5) % 9 = 5 by omega]
    have d6 : acK f (n * 9 + 6) = .int .i64 (f n 6) := by unfold acK; rw [show (n * 9 + 6) / 9 = n by omega, show (n * 9 + 6) % 9 = 6 by omega]
    have d7 : acK f (n * 9 + 7) = .int .i64 (f n 7) := by unfold acK; rw [show (n * 9 + 7) / 9 = n by omega, show (n * 9 + 7) % 9 = 7 by omega]
    have d8 : acK f (n * 9 + 8) = .int .i64 (f n 8) := by unfold acK; rw [show (n * 9 + 8) / 9 = n by omega, show (n * 9 + 8) % 9 = 8 by omega]
    show _ = [AV.v (acK f (n * 9)), AV.v (acK f (n * 9 + 1)), AV.v (acK f (n * 9 + 2)), AV.v (acK f (n * 9 + 3)), AV.v (acK f (n * 9 + 4)), AV.v (acK f (n * 9 + 5)), AV.v (acK f (n * 9 + 6)), AV.v (acK f (n * 9 + 7)), AV.v (acK f (n * 9 + 8))]
    rw [d0, d1, d2, d3, d4, d5, d6, d7, d8]; rfl
theorem ac_rv {w : World} {a : Option Addr} {n cap : Nat} {f : Nat → Nat → Int} (h : Fld w a n 9 f) (hc : n ≤ cap) (hx : cap ≤ maxLen) : RV (G0 w) w (acs (acF f n)) (.slice a n cap) := by
  refine .lst (cs := (List.range (n * 9)).map (acK f)) (by unfold acF; simp) (by rw [acF_cells]; exact PVs.map_v _) (fun x hx => by
    obtain ⟨c, _, rfl⟩ := List.mem_map.1 hx
    rfl) ⟨fun u hu => by
    obtain ⟨j, _, rfl⟩ := List.mem_map.1 hu
    rfl, fun hne => ?_⟩ hc hx trivial
  have hn : 0 < n := by
    rcases Nat.eq_zero_or_pos n with rfl | hn
    · exact absurd rfl hne
    · exact hn
  obtain ⟨b, off, e, hcell⟩ := h hn
  refine ⟨b, off, e, fun j u hu => ?_⟩
  have hj : j < n * 9 := by
    have := (List.getElem?_eq_some_iff.1 hu).1
    simpa using this
  have hu : u = acK f j := by
    rw [List.getElem?_map, List.getElem?_range hj] at hu
    exact (Option.some.inj hu).symm
  have hk := hcell (j / 9) (j % 9) (by omega) (by omega)
  have e2 : off + j / 9 * 9 + j % 9 = off + j := by omega
  rw [e2] at hk
  rw [hu]
  exact ⟨by show b < w.heap.size; exact cell_lt hk, hk⟩
section
variable {H : Type} {enc : TypeId × Value → H} {w : World} {base : Nat}
theorem act_in {v : Value} {d : DataW H} {p : List MemPlace} (hv : Value.okWide Try.prog w .any base 26 v) (h : DataW.Trod enc Try.prog w 0 (fun _ => true) true 26 v d p) :
    ∃ a len cap f, v = .slice a len cap ∧ Fld w a len 9 f ∧ len ≤ cap ∧ cap ≤ maxLen := by
  obtain ⟨a, len, cap, rfl⟩ := WideShapes.okWide_slice Try.underlying26 hv
  obtain ⟨f, h1, h2, h3⟩ := fldn_in (d2 := 8) (k := 9) Try.underlying26 (by kernel_rfl) (by kernel_rfl) (by decide) h
  exact ⟨a, len, cap, f, rfl, h1, h2, h3⟩
end
end Go.Proofs.Ythememoflnocnaa
namespace Go.Proofs.Ythememoflnocnaa
set_option maxRecDepth 100000
open Go.RowKit AE
theorem w_ControlOpens (w : World) (x0 x1 x2 x3 x4 x5 x6 x7 x8 : Int) (a : Option Addr) (len cap : Nat) (f : Nat → Nat → Int) (hf : Fld w a len 9 f) (hc : len ≤ cap) (hx : cap ≤ maxLen) (b : Option Addr) (cap2 : Nat) (z : List Int) (hz : Ints w .u8 b z) (_ : z.length ≤ maxLen) (_ : ∀ x ∈ z, (Lit.int .u8 x).wf = true) (hc2 : z.length ≤ cap2) (hx2 : cap2 ≤ maxLen) :
    Calls Try.prog 4 #[.agg #[.int .i64 x0, .int .i64 x1, .int .i64 x2, .int .i64 x3, .int .i64 x4, .int .i64 x5, .int .i64 x6, .int .i64 x7, .int .i64 x8], .slice a len cap, .slice b z.length cap2] w fun e w' => e = .returned (.bool true) ∧ Below w.heap.size w w' :=
  law_true (fs_opens (acF f len) z x0 x1 x2 x3 x4 x5 x6 x7 x8) w _ (ro_none _ _) (.cons (.v _) (.cons (ac_rv hf hc hx) (.cons (ints_rv hz hc2 hx2) .nil)))
end Go.Proofs.Ythememoflnocnaa
