/-
  The walk of the law DimSteps.
-/
import Derived.Test.YtbkdbnolkaecdaaRef17
import Derived.Test.YtbkdbnolkaecdaaFldV
import Derived.Deep.RegionHeld3
namespace Go.Proofs.Ytbkdbnolkaecdaa
open Go.RowKit Bd Dm
theorem new_bk {W W' : World} {cs : Array Value} {t : TypeId} (b : Below (W.alloc (.cells cs t)).drew.heap.size (W.alloc (.cells cs t)).drew W') : Bk W' W.heap.size t cs :=
  Bk.below (w := (W.alloc (.cells cs t)).drew) (Bk.new W t cs) b
/-- What is known of all that DimSteps holds. -/
structure All17 (w0 : World) (g1 g3 : Nat) (W : World) (a t h : Int) : Prop where
  bl : Below w0.heap.size w0 W
  d : Dst W g1 a t h true
  x : Bk W g3 29 #[.int .i64 a, .int .i64 t, .int .i64 h]
  l1 : w0.heap.size ≤ g1
  l3 : w0.heap.size ≤ g3
  n13 : g1 ≠ g3
theorem Dst.other {W W' : World} {g g' : Nat} {a t h : Int} {m : Bool} (d : Dst W g a t h m) (o : W.grownBy W' (some g')) (hn : g ≠ g') : Dst W' g a t h m := Bk.grown d o (by simpa using hn)
/-- The same, with the plain answer's cells still other ones. -/
structure Two17 (w0 : World) (g1 g3 : Nat) (W : World) (a t h t' h' : Int) : Prop where
  bl : Below w0.heap.size w0 W
  d : Dst W g1 a t h true
  x : Bk W g3 29 #[.int .i64 a, .int .i64 t', .int .i64 h']
  l1 : w0.heap.size ≤ g1
  l3 : w0.heap.size ≤ g3
  n13 : g1 ≠ g3
section
variable {w0 : World} {g1 g3 : Nat} {W W' : World} {a t h t' h' : Int}
theorem Two17.below (q : Two17 w0 g1 g3 W a t h t' h') (k : Below W.heap.size W W') : Two17 w0 g1 g3 W' a t h t' h' :=
  ⟨q.bl.trans (k.mono q.bl.size), Bk.below q.d k, q.x.below k, q.l1, q.l3, q.n13⟩
theorem Two17.drewN (q : Two17 w0 g1 g3 W a t h t' h') (n : Nat) : Two17 w0 g1 g3 (W.drewN n) a t h t' h' :=
  ⟨bl_drewN q.bl n, q.d, q.x, q.l1, q.l3, q.n13⟩
theorem Two17.drew (q : Two17 w0 g1 g3 W a t h t' h') : Two17 w0 g1 g3 W.drew a t h t' h' :=
  ⟨q.bl.drew, q.d, q.x, q.l1, q.l3, q.n13⟩
theorem Two17.alloc (q : Two17 w0 g1 g3 W a t h t' h') (o : Obj) : Two17 w0 g1 g3 (W.alloc o) a t h t' h' := q.below ((Below.refl _ _).alloc (Nat.le_refl _) _)
theorem Two17.onD {t2 h2 : Int} (q : Two17 w0 g1 g3 W a t h t' h') (d : Dst W' g1 a t2 h2 true) (o : W.grownBy W' (some g1)) : Two17 w0 g1 g3 W' a t2 h2 t' h' :=
  ⟨below_only q.bl o q.bl.size q.l1, d, q.x.grown o (by simpa using Ne.symm q.n13), q.l1, q.l3, q.n13⟩
theorem Two17.onX (q : Two17 w0 g1 g3 W a t h t' h') (e f : Int) : Two17 w0 g1 g3 (((W.setCell ⟨g3, 0, none⟩ (.int .i64 a)).setCell ⟨g3, 1, none⟩ (.int .i64 e)).setCell ⟨g3, 2, none⟩ (.int .i64 f)) a t h e f := by
  have o := only_trans (only_trans (only_set W g3 0 (.int .i64 a)) (only_set (W.setCell ⟨g3, 0, none⟩ (.int .i64 a)) g3 1 (.int .i64 e))) (only_set ((W.setCell ⟨g3, 0, none⟩ (.int .i64 a)).setCell ⟨g3, 1, none⟩ (.int .i64 e)) g3 2 (.int .i64 f))
  exact ⟨below_only q.bl o q.bl.size q.l3, q.d.other o q.n13, ((q.x.set_ 0 _).set_ 1 _).set_ 2 _, q.l1, q.l3, q.n13⟩
theorem Two17.far (q : Two17 w0 g1 g3 W a t h t' h') {g : Nat} (hg : w0.heap.size ≤ g ∧ g1 ≠ g ∧ g3 ≠ g) (u u' u2 : Value) : Two17 w0 g1 g3 (((W.setCell ⟨g, 0, none⟩ u).setCell ⟨g, 1, none⟩ u').setCell ⟨g, 2, none⟩ u2) a t h t' h' := by
  have o := only_trans (only_trans (only_set W g 0 u) (only_set (W.setCell ⟨g, 0, none⟩ u) g 1 u')) (only_set ((W.setCell ⟨g, 0, none⟩ u).setCell ⟨g, 1, none⟩ u') g 2 u2)
  exact ⟨below_only q.bl o q.bl.size hg.1, q.d.other o hg.2.1, q.x.grown o (by simpa using hg.2.2), q.l1, q.l3, q.n13⟩
end
set_option maxRecDepth 100000 in
set_option maxHeartbeats 4000000 in
theorem w_DimSteps (w : World) (n : Int) (_ : (Lit.int .i64 n).wf = true) (ad : Option Addr) (len cap : Nat) (f : Nat → Nat → Value) (hF : FldV w ad len 4 f) (hl : len ≤ maxLen) (hT : ∀ i j, i < len → j < 4 → Typed ([3, 3, 4, 4].getD j 0) (f i j)) (p : Int) (_ : (Lit.int .i64 p).wf = true) :
    Calls Try.prog 3 #[.int .i64 n, .slice ad len cap, .int .i64 p] w fun e w' => e = .returned (.bool true) ∧ Below w.heap.size w w' := by
  unfold maxLen at hl
  have HF := Lib.hid hF
  have HT := Lib.hid hT
  clear hF hT
  by_cases hg : 200 < len
  · go_enter Try.func3, Try.ntmps3
    go_wp2_with fail
    refine (awake17 _).mono ?_; rintro e w1 ⟨rfl, b1⟩
    go_wp2_with fail
    go_ret
    exact ⟨rfl, b1⟩
  · have hd2 : decide (200 < (len : Int)) = false := by simp; omega
    by_cases hn : n < 0 ∨ 7 < n
    · rcases hn with hn | hn
      all_goals
        go_enter Try.func3, Try.ntmps3
        go_wp2_with fail
        refine (dnew_bad n (by omega) _).mono ?_; rintro e w' ⟨rfl, rfl⟩
        go_wp2_with fail
        refine (awake17 _).mono ?_; rintro e w2 ⟨rfl, b2⟩
        go_wp2_with fail
        go_ret
        exact ⟨rfl, b2⟩
    · have hn0 : 0 ≤ n := by omega
      have hn1 : n ≤ 7 := by omega
      clear hn
      go_enter Try.func3, Try.ntmps3
      go_wp2_with fail
      refine (dnew_any n hn0 hn1 _).mono ?_; rintro e w1 ⟨rfl, d1, b1⟩
      go_wp2_with fail
      refine (rnew17_any n _).mono ?_; rintro e w2 ⟨rfl, b2⟩
      have A0 := Lib.hid (show Two17 w w.heap.size w2.heap.size (w2.alloc (.cells #[.int .i64 n, .int .i64 n, .int .i64 32] 29)) n n 32 n 32 from
        ⟨(b1.trans (b2.mono b1.size)).alloc (by have := b1.size; have := b2.size; omega) _, Bk.below (Bk.below d1 b2) ((Below.refl _ _).alloc (Nat.le_refl _) _), Bk.new w2 _ _, Nat.le_refl _, by have := b1.size; have := b2.size; omega, by have := Bk.lt d1; have := b2.size; omega⟩)
      clear d1 b1 b2
      go_wp2_with fail
      go_loopw [10] (fun i wr => ∃ (k : Nat) (t h : Int), k ≤ len ∧ i = .int .i64 k ∧ Inv n t h ∧ Two17 w w.heap.size w2.heap.size wr n t h t h) (fun i _ => len - (intOf i).toNat)
      case atStart => exact ⟨0, n, 32, Nat.zero_le _, rfl, inv_new n hn0 hn1, A0.out⟩
      case round =>
        obtain ⟨k, t, h, hk, rfl, hi, hA⟩ := hrel
        have HA := Lib.hid hA
        have HI := Lib.hid hi
        clear A0
        by_cases hlt : k < len
        · obtain ⟨b, off, ha, hcell⟩ := HF.out.get hlt
          subst ha
          obtain ⟨v, ev, _⟩ := (HT.out k 0 hlt (by omega)).1 rfl
          obtain ⟨kk, ed, _⟩ := (HT.out k 1 hlt (by omega)).1 rfl
          obtain ⟨o, eo⟩ := (HT.out k 2 hlt (by omega)).2.1 rfl
          obtain ⟨cl, ec⟩ := (HT.out k 3 hlt (by omega)).2.1 rfl
          have hb0 : b < w.heap.size := cell_lt (hcell 0 (by omega))
          have at0 := Lib.hid (fun (W : World) (hW : Below w.heap.size w W) => (hW.cell (p := ⟨b, off + k * 4, none⟩) hb0).trans ((hcell 0 (by omega)).trans (congrArg some ev)))
          have at1 := Lib.hid (fun (W : World) (hW : Below w.heap.size w W) => (hW.cell (p := ⟨b, off + k * 4 + 1, none⟩) hb0).trans ((hcell 1 (by omega)).trans (congrArg some ed)))
          have at2 := Lib.hid (fun (W : World) (hW : Below w.heap.size w W) => (hW.cell (p := ⟨b, off + k * 4 + 2, none⟩) hb0).trans ((hcell 2 (by omega)).trans (congrArg some eo)))
          have hr3 := (hA.bl.cell (p := ⟨b, off + k * 4 + 3, none⟩) hb0).trans ((hcell 3 (by omega)).trans (congrArg some ec))
          clear hcell ev ed eo ec hi hA
          cases cl with
          | true =>
            go_wp2_with fail
            refine (dclear_any _ HA.out.d).mono ?_; rintro e w3 ⟨rfl, d3, o3⟩
            have A2 := Lib.hid (HA.out.onD d3 o3)
            clear d3 o3 hr3
            go_wp2_with fail
            refine (rnew17_any n _).mono ?_; rintro e w4 ⟨rfl, b4⟩
            have A3 := Lib.hid (A2.out.below b4)
            clear b4
            have c0 := A3.out.x.cell 0
            have c1 := A3.out.x.cell 1
            have c2 := A3.out.x.cell 2
            have f0 := A3.out.x.frozen 0
            have f1 := A3.out.x.frozen 1
            have f2 := A3.out.x.frozen 2
            have A := Lib.hid (A3.out.onX n 32)
            clear HI
            have HI := Lib.hid (inv_new n hn0 hn1)
            clear at0 at1 at2
            go_wp2_with fail
            have cx1 := A.out.x.cell 1
            have cx2 := A.out.x.cell 2
            go_quiet (first | (go_at_call 12; exact quiet_left (dtier_any _ (by exact A.out.d))) | (go_at_call 13; exact quiet_left (dheld_any _ (by exact A.out.d))) | (go_at_call 14; exact quiet_left (dpermits_any _ _ (by exact A.out.d))))
            go_wp2_with fail
            go_roundw
            case rel => exact ⟨k + 1, _, _, by omega, by go_num, HI.out, A.out.drewN _⟩
            case measure => simp [intOf]; omega
          | false =>
            have s14 := Lib.hid (fun (W : World) (q : Two17 w w.heap.size w2.heap.size W n t h t h) => (show W.cell? ⟨w2.heap.size, 0, none⟩ = some (.int .i64 n) ∧ W.cell? ⟨w2.heap.size, 1, none⟩ = some (.int .i64 t) ∧ W.cell? ⟨w2.heap.size, 2, none⟩ = some (.int .i64 h) ∧ W.cell? ⟨b, off + k * 4, none⟩ = some (.int .i64 v) ∧ W.cell? ⟨b, off + k * 4 + 1, none⟩ = some (.int .i64 kk) ∧ W.cell? ⟨b, off + k * 4 + 2, none⟩ = some (.bool o) from ⟨q.x.cell 0, q.x.cell 1, q.x.cell 2, at0.out _ q.bl, at1.out _ q.bl, at2.out _ q.bl⟩))
            have hfar := Lib.hid (show w.heap.size ≤ wr.heap.size ∧ w.heap.size ≠ wr.heap.size ∧ w2.heap.size ≠ wr.heap.size from ⟨HA.out.bl.size, by have := Bk.lt HA.out.d; omega, by have := Bk.lt HA.out.x; omega⟩)
            have hs0 := s14.out _ HA.out
            have hHd : Two17 w w.heap.size w2.heap.size wr.drew n t h t h := HA.out.drew
            go_wp2_with fail
            go_region_held3 (fun W => W.cell? ⟨w2.heap.size, 0, none⟩ = some (.int .i64 n) ∧ W.cell? ⟨w2.heap.size, 1, none⟩ = some (.int .i64 t) ∧ W.cell? ⟨w2.heap.size, 2, none⟩ = some (.int .i64 h) ∧ W.cell? ⟨b, off + k * 4, none⟩ = some (.int .i64 v) ∧ W.cell? ⟨b, off + k * 4 + 1, none⟩ = some (.int .i64 kk) ∧ W.cell? ⟨b, off + k * 4 + 2, none⟩ = some (.bool o)) (first | (go_keep; done) | exact s14.out _ (by assumption) | exact s14.out _ ((HA.out.alloc _).drew) | exact s14.out _ (Two17.alloc (by assumption) _) | exact s14.out _ (Two17.far (by assumption) hfar.out _ _ _)) ((go_at_call 10; refine (rstep17_any v o kk _ HI.out).mono ?_; rintro e w5 ⟨rfl, b5⟩; (first | have A2 := Two17.below (by assumption) b5 | have A2 := Two17.below ((HA.out.alloc _).drew) b5); (try (have q := new_bk b5; have q0 := q.cell 0; have q1 := q.cell 1; have q2 := q.cell 2; have q3 := q.frozen 0; have q4 := q.frozen 1; have q5 := q.frozen 2; clear q)); clear b5))
            · have A3 := Lib.hid (A2.alloc (.cells #[.int .i64 n, .int .i64 (dT n t h v kk o), .int .i64 (dH n t h v kk o)] 29))
              have x0 := A3.out.x.cell 0
              have x1 := A3.out.x.cell 1
              have x2 := A3.out.x.cell 2
              have y0 := A3.out.x.frozen 0
              have y1 := A3.out.x.frozen 1
              have y2 := A3.out.x.frozen 2
              clear A2
              go_wp2_with fail
              have A4 := A3.out.onX (dT n t h v kk o) (dH n t h v kk o)
              have HI2 := Lib.hid (inv_step n t h v kk o HI.out)
              generalize (World.setCell (World.setCell (World.setCell _ ⟨w2.heap.size, 0, none⟩ (.int .i64 n)) ⟨w2.heap.size, 1, none⟩ (.int .i64 (dT n t h v kk o))) ⟨w2.heap.size, 2, none⟩ (.int .i64 (dH n t h v kk o))) = W4 at A4 ⊢
              have s16 := Lib.hid (fun (W : World) (t h t' h' : Int) (q : Two17 w w.heap.size w2.heap.size W n t h t' h') => (show W.cell? ⟨b, off + k * 4, none⟩ = some (.int .i64 v) ∧ W.cell? ⟨b, off + k * 4 + 1, none⟩ = some (.int .i64 kk) ∧ W.cell? ⟨b, off + k * 4 + 2, none⟩ = some (.bool o) from ⟨at0.out _ q.bl, at1.out _ q.bl, at2.out _ q.bl⟩))
              have hs1 := s16.out _ _ _ _ _ A4
              have A4d := A4.drew
              have HA4 := Lib.hid A4
              clear A4 s14 hfar x0 x1 x2 y0 y1 y2 hs0 hHd HA A3 HF HT
              go_region_held3 (fun W => W.cell? ⟨b, off + k * 4, none⟩ = some (.int .i64 v) ∧ W.cell? ⟨b, off + k * 4 + 1, none⟩ = some (.int .i64 kk) ∧ W.cell? ⟨b, off + k * 4 + 2, none⟩ = some (.bool o)) (first | (go_keep; done) | exact s16.out _ _ _ _ _ (by assumption)) ((go_at_call 11; refine (dstep_any v o kk _ (Two17.d (by assumption)) HI.out).mono ?_; rintro e w5 ⟨rfl, d5, o5⟩; have A5 := Two17.onD (by assumption) d5 o5; clear d5 o5))
              go_wp2_with fail
              have A := Lib.hid A5
              clear HI
              have HI := HI2
              clear A4d HA4 A5 s16
              have cx1 := A.out.x.cell 1
              have cx2 := A.out.x.cell 2
              go_quiet (first | (go_at_call 12; exact quiet_left (dtier_any _ (by exact A.out.d))) | (go_at_call 13; exact quiet_left (dheld_any _ (by exact A.out.d))) | (go_at_call 14; exact quiet_left (dpermits_any _ _ (by exact A.out.d))))
              go_wp2_with fail
              go_roundw
              case rel => exact ⟨k + 1, _, _, by omega, by go_num, HI.out, A.out.drewN _⟩
              case measure => simp [intOf]; omega
            · have A3 := Lib.hid (A2.far hfar.out (.int .i64 n) (.int .i64 (dT n t h v kk o)) (.int .i64 (dH n t h v kk o)))
              have x0 := A3.out.x.cell 0
              have x1 := A3.out.x.cell 1
              have x2 := A3.out.x.cell 2
              have y0 := A3.out.x.frozen 0
              have y1 := A3.out.x.frozen 1
              have y2 := A3.out.x.frozen 2
              clear A2
              go_wp2_with fail
              have A4 := A3.out.onX (dT n t h v kk o) (dH n t h v kk o)
              have HI2 := Lib.hid (inv_step n t h v kk o HI.out)
              generalize (World.setCell (World.setCell (World.setCell _ ⟨w2.heap.size, 0, none⟩ (.int .i64 n)) ⟨w2.heap.size, 1, none⟩ (.int .i64 (dT n t h v kk o))) ⟨w2.heap.size, 2, none⟩ (.int .i64 (dH n t h v kk o))) = W4 at A4 ⊢
              have s16 := Lib.hid (fun (W : World) (t h t' h' : Int) (q : Two17 w w.heap.size w2.heap.size W n t h t' h') => (show W.cell? ⟨b, off + k * 4, none⟩ = some (.int .i64 v) ∧ W.cell? ⟨b, off + k * 4 + 1, none⟩ = some (.int .i64 kk) ∧ W.cell? ⟨b, off + k * 4 + 2, none⟩ = some (.bool o) from ⟨at0.out _ q.bl, at1.out _ q.bl, at2.out _ q.bl⟩))
              have hs1 := s16.out _ _ _ _ _ A4
              have A4d := A4.drew
              have HA4 := Lib.hid A4
              clear A4 s14 hfar x0 x1 x2 y0 y1 y2 hs0 hHd HA A3 HF HT
              go_region_held3 (fun W => W.cell? ⟨b, off + k * 4, none⟩ = some (.int .i64 v) ∧ W.cell? ⟨b, off + k * 4 + 1, none⟩ = some (.int .i64 kk) ∧ W.cell? ⟨b, off + k * 4 + 2, none⟩ = some (.bool o)) (first | (go_keep; done) | exact s16.out _ _ _ _ _ (by assumption)) ((go_at_call 11; refine (dstep_any v o kk _ (Two17.d (by assumption)) HI.out).mono ?_; rintro e w5 ⟨rfl, d5, o5⟩; have A5 := Two17.onD (by assumption) d5 o5; clear d5 o5))
              go_wp2_with fail
              have A := Lib.hid A5
              clear HI
              have HI := HI2
              clear A4d HA4 A5 s16
              have cx1 := A.out.x.cell 1
              have cx2 := A.out.x.cell 2
              go_quiet (first | (go_at_call 12; exact quiet_left (dtier_any _ (by exact A.out.d))) | (go_at_call 13; exact quiet_left (dheld_any _ (by exact A.out.d))) | (go_at_call 14; exact quiet_left (dpermits_any _ _ (by exact A.out.d))))
              go_wp2_with fail
              go_roundw
              case rel => exact ⟨k + 1, _, _, by omega, by go_num, HI.out, A.out.drewN _⟩
              case measure => simp [intOf]; omega
        · have HB := Lib.hid hA
          have cx1 := hA.x.cell 1
          clear hi hA
          have s17 := Lib.hid (fun (W : World) (q : Two17 w w.heap.size w2.heap.size W n t h t h) => (show W.cell? ⟨w2.heap.size, 1, none⟩ = some (.int .i64 t) from q.x.cell 1))
          have hBd := HB.out.drew
          go_wp2_with fail
          go_region_held3 (fun W => W.cell? ⟨w2.heap.size, 1, none⟩ = some (.int .i64 t)) (first | (go_keep; done) | exact s17.out _ (by assumption)) (first
            | (go_at_call 12; refine (dtier_any _ (Two17.d (by assumption))).mono ?_; rintro e w' ⟨rfl, rfl⟩)
            | (go_at_call 14; refine (dpermits_any _ _ (Two17.d (by assumption))).mono ?_; rintro e w' ⟨rfl, rfl⟩)
            | (go_at_call 6; refine (awake17 _).mono ?_; rintro e w7 ⟨rfl, b7⟩; have A7 := Two17.below (by assumption) b7; clear b7))
          all_goals
            go_wp2_with fail
            go_ret
            exact ⟨rfl, A7.bl⟩
end Go.Proofs.Ytbkdbnolkaecdaa
