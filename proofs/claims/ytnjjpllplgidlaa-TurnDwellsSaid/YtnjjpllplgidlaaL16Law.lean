/-
  The walks of the laws of layer 16.
-/
import Derived.Test.YtnjjpllplgidlaaRef16
import Derived.Test.YtnjjpllplgidlaaFldV
namespace Go.Proofs.Ytnjjpllplgidlaa
open Go.RowKit Bd Tu
theorem awake16 (w : World) :
    Calls Try.prog 5 #[] w fun e w' => e = .returned (.bool true) ∧ Below w.heap.size w w' := by
  have s1 := Lib.hid (show tN 0 0 1 3 = -1 ∧ tW 0 0 1 3 = -1 ∧ tH 0 0 1 3 = 1 by decide +kernel)
  have s2 := Lib.hid (show tN (-1) 1 2 3 = 0 ∧ tW (-1) 1 2 3 = -1 ∧ tH (-1) 1 2 3 = 2 by decide +kernel)
  have s3 := Lib.hid (show tN (-1) 2 2 3 = 0 ∧ tW (-1) 2 2 3 = -1 ∧ tH (-1) 2 2 3 = 3 by decide +kernel)
  have s4 := Lib.hid (show tN (-1) 3 2 3 = 1 ∧ tW (-1) 3 2 3 = 1 ∧ tH (-1) 3 2 3 = 1 by decide +kernel)
  have j1 := inv_step 0 0 1 3 inv0
  rw [s1.out.2.1, s1.out.2.2] at j1
  have j2 := inv_step _ _ 2 3 j1
  rw [s2.out.2.1, s2.out.2.2] at j2
  have j3 := inv_step _ _ 2 3 j2
  rw [s3.out.2.1, s3.out.2.2] at j3
  have J := Lib.hid (And.intro j1 (And.intro j2 j3))
  clear j1 j2 j3
  go_enter Try.func5, Try.ntmps5
  go_wp2_with fail
  refine (tnew_any _).mono ?_; rintro e w1 ⟨rfl, t1, b1⟩
  go_wp2_with fail
  refine (tstep_any 1 3 _ t1 inv0).mono ?_; rintro e w2 ⟨rfl, t2, o2⟩
  rw [s1.out.1]
  rw [s1.out.2.1, s1.out.2.2] at t2
  go_wp2_with fail
  refine (tstep_any 2 3 _ t2 J.out.1).mono ?_; rintro e w3 ⟨rfl, t3, o3⟩
  rw [s2.out.1]
  rw [s2.out.2.1, s2.out.2.2] at t3
  go_wp2_with fail
  refine (tstep_any 2 3 _ t3 J.out.2.1).mono ?_; rintro e w4 ⟨rfl, t4, o4⟩
  rw [s3.out.1]
  rw [s3.out.2.1, s3.out.2.2] at t4
  go_wp2_with fail
  refine (tstep_any 2 3 _ t4 J.out.2.2).mono ?_; rintro e w5 ⟨rfl, t5, o5⟩
  rw [s4.out.1]
  rw [s4.out.2.1, s4.out.2.2] at t5
  go_wp2_with fail
  refine (tway_any _ t5).mono ?_; rintro e w' ⟨rfl, rfl⟩
  go_wp2_with fail
  refine (theld_any _ t5).mono ?_; rintro e w' ⟨rfl, rfl⟩
  go_wp2_with fail
  go_ret
  exact ⟨rfl, below_only b1 (only_trans (only_trans (only_trans o2 o3) o4) o5) b1.size (Nat.le_refl _)⟩
theorem new_bk {W W' : World} {cs : Array Value} {t : TypeId} (b : Below (W.alloc (.cells cs t)).drew.heap.size (W.alloc (.cells cs t)).drew W') : Bk W' W.heap.size t cs :=
  Bk.below (w := (W.alloc (.cells cs t)).drew) (Bk.new W t cs) b
/-- What is known of all that TurnSteps holds. -/
structure All16 (w0 : World) (g1 g2 g3 : Nat) (W : World) (a b c d e f : Int) : Prop where
  bl : Below w0.heap.size w0 W
  t : Tst W g1 a b
  z : Tst W g2 c d
  x : Bk W g3 29 #[.int .i64 e, .int .i64 f]
  l1 : w0.heap.size ≤ g1
  l2 : w0.heap.size ≤ g2
  l3 : w0.heap.size ≤ g3
  n12 : g1 ≠ g2
  n13 : g1 ≠ g3
  n23 : g2 ≠ g3
theorem All16.below {w0 : World} {g1 g2 g3 : Nat} {W W' : World} {a b c d e f : Int} (h : All16 w0 g1 g2 g3 W a b c d e f) (k : Below W.heap.size W W') : All16 w0 g1 g2 g3 W' a b c d e f :=
  ⟨h.bl.trans (k.mono h.bl.size), Bk.below h.t k, Bk.below h.z k, h.x.below k, h.l1, h.l2, h.l3, h.n12, h.n13, h.n23⟩
theorem All16.drewN {w0 : World} {g1 g2 g3 : Nat} {W : World} {a b c d e f : Int} (h : All16 w0 g1 g2 g3 W a b c d e f) (n : Nat) : All16 w0 g1 g2 g3 (W.drewN n) a b c d e f :=
  ⟨bl_drewN h.bl n, h.t, h.z, h.x, h.l1, h.l2, h.l3, h.n12, h.n13, h.n23⟩
theorem All16.drew {w0 : World} {g1 g2 g3 : Nat} {W : World} {a b c d e f : Int} (h : All16 w0 g1 g2 g3 W a b c d e f) : All16 w0 g1 g2 g3 W.drew a b c d e f :=
  ⟨h.bl.drew, h.t, h.z, h.x, h.l1, h.l2, h.l3, h.n12, h.n13, h.n23⟩
theorem All16.alloc {w0 : World} {g1 g2 g3 : Nat} {W : World} {a b c d e f : Int} (h : All16 w0 g1 g2 g3 W a b c d e f) (o : Obj) : All16 w0 g1 g2 g3 (W.alloc o) a b c d e f := h.below ((Below.refl _ _).alloc (Nat.le_refl _) _)
theorem All16.onT {w0 : World} {g1 g2 g3 : Nat} {W W' : World} {a b c d e f a' b' : Int} (h : All16 w0 g1 g2 g3 W a b c d e f) (t : Tst W' g1 a' b') (o : W.grownBy W' (some g1)) : All16 w0 g1 g2 g3 W' a' b' c d e f :=
  ⟨below_only h.bl o h.bl.size h.l1, t, h.z.other o (Ne.symm h.n12), h.x.grown o (by simpa using Ne.symm h.n13), h.l1, h.l2, h.l3, h.n12, h.n13, h.n23⟩
theorem All16.onZ {w0 : World} {g1 g2 g3 : Nat} {W W' : World} {a b c d e f c' d' : Int} (h : All16 w0 g1 g2 g3 W a b c d e f) (t : Tst W' g2 c' d') (o : W.grownBy W' (some g2)) : All16 w0 g1 g2 g3 W' a b c' d' e f :=
  ⟨below_only h.bl o h.bl.size h.l2, h.t.other o h.n12, t, h.x.grown o (by simpa using Ne.symm h.n23), h.l1, h.l2, h.l3, h.n12, h.n13, h.n23⟩
theorem All16.onX {w0 : World} {g1 g2 g3 : Nat} {W : World} {a b c d e f : Int} (h : All16 w0 g1 g2 g3 W a b c d e f) (e' f' : Int) : All16 w0 g1 g2 g3 ((W.setCell ⟨g3, 0, none⟩ (.int .i64 e')).setCell ⟨g3, 1, none⟩ (.int .i64 f')) a b c d e' f' := by
  have o := only_trans (only_set W g3 0 (.int .i64 e')) (only_set (W.setCell ⟨g3, 0, none⟩ (.int .i64 e')) g3 1 (.int .i64 f'))
  exact ⟨below_only h.bl o h.bl.size h.l3, h.t.other o h.n13, h.z.other o h.n23, (h.x.set_ 0 _).set_ 1 _, h.l1, h.l2, h.l3, h.n12, h.n13, h.n23⟩
theorem All16.far {w0 : World} {g1 g2 g3 : Nat} {W : World} {a b c d e f : Int} (h : All16 w0 g1 g2 g3 W a b c d e f) {g : Nat} (hg : w0.heap.size ≤ g ∧ g1 ≠ g ∧ g2 ≠ g ∧ g3 ≠ g) (u u' : Value) : All16 w0 g1 g2 g3 ((W.setCell ⟨g, 0, none⟩ u).setCell ⟨g, 1, none⟩ u') a b c d e f := by
  have o := only_trans (only_set W g 0 u) (only_set (W.setCell ⟨g, 0, none⟩ u) g 1 u')
  exact ⟨below_only h.bl o h.bl.size hg.1, h.t.other o hg.2.1, h.z.other o hg.2.2.1, h.x.grown o (by simpa using hg.2.2.2), h.l1, h.l2, h.l3, h.n12, h.n13, h.n23⟩
set_option maxRecDepth 100000 in
set_option maxHeartbeats 4000000 in
theorem w_TurnSteps (w : World) (a : Option Addr) (len cap : Nat) (f : Nat → Nat → Value) (hF : FldV w a len 3 f) (hl : len ≤ maxLen) (hT : ∀ i j, i < len → j < 3 → Typed ([3, 3, 4].getD j 0) (f i j)) :
    Calls Try.prog 3 #[.slice a len cap] w fun e w' => e = .returned (.bool true) ∧ Below w.heap.size w w' := by
  unfold maxLen at hl
  have HF := Lib.hid hF
  have HT := Lib.hid hT
  clear hF hT
  by_cases hg : 200 < len
  · go_enter Try.func3, Try.ntmps3
    go_wp2_with fail
    refine (awake16 _).mono ?_; rintro e w1 ⟨rfl, b1⟩
    go_wp2_with fail
    go_ret
    exact ⟨rfl, b1⟩
  · have hd2 : decide (200 < (len : Int)) = false := by simp; omega
    go_enter Try.func3, Try.ntmps3
    go_wp2_with fail
    refine (tnew_any _).mono ?_; rintro e w1 ⟨rfl, t1, b1⟩
    have A0 := Lib.hid (show All16 w w.heap.size w1.heap.size (w1.heap.size + 1) ((w1.alloc (.cells #[.int .i64 0, .int .i64 0] 27)).alloc (.cells #[.int .i64 0, .int .i64 0] 29)) 0 0 0 0 0 0 from
      ⟨(b1.alloc b1.size _).alloc (by have := b1.size; simp; omega) _, Bk.below (Bk.below t1 ((Below.refl _ _).alloc (Nat.le_refl _) _)) ((Below.refl _ _).alloc (Nat.le_refl _) _), Bk.below (Bk.new w1 _ _) ((Below.refl _ _).alloc (Nat.le_refl _) _), by simpa using Bk.new (w1.alloc (.cells #[.int .i64 0, .int .i64 0] 27)) 29 #[.int .i64 0, .int .i64 0], Nat.le_refl _, b1.size, by have := b1.size; omega, by have := Bk.lt t1; omega, by have := Bk.lt t1; omega, by omega⟩)
    clear t1 b1
    go_wp2_with fail
    go_loopw [7] (fun i wr => ∃ (k : Nat) (way held : Int), k ≤ len ∧ i = .int .i64 k ∧ Inv way held ∧ All16 w w.heap.size w1.heap.size (w1.heap.size + 1) wr way held way held way held) (fun i _ => len - (intOf i).toNat)
    case atStart => exact ⟨0, 0, 0, Nat.zero_le _, rfl, inv0, A0.out⟩
    case round =>
      obtain ⟨k, way, held, hk, rfl, hi, hA⟩ := hrel
      have HA := Lib.hid hA
      have HI := Lib.hid hi
      clear A0
      by_cases hlt : k < len
      · obtain ⟨b, off, ha, hcell⟩ := HF.out.get hlt
        subst ha
        obtain ⟨v, ev, _⟩ := (HT.out k 0 hlt (by omega)).1 rfl
        obtain ⟨d, ed, _⟩ := (HT.out k 1 hlt (by omega)).1 rfl
        obtain ⟨cl, ec⟩ := (HT.out k 2 hlt (by omega)).2.1 rfl
        have hb0 : b < w.heap.size := cell_lt (hcell 0 (by omega))
        have at0 := Lib.hid (fun (W : World) (hW : Below w.heap.size w W) => (hW.cell (p := ⟨b, off + k * 3, none⟩) hb0).trans ((hcell 0 (by omega)).trans (congrArg some ev)))
        have at1 := Lib.hid (fun (W : World) (hW : Below w.heap.size w W) => (hW.cell (p := ⟨b, off + k * 3 + 1, none⟩) hb0).trans ((hcell 1 (by omega)).trans (congrArg some ed)))
        have hr2 := (hA.bl.cell (p := ⟨b, off + k * 3 + 2, none⟩) hb0).trans ((hcell 2 (by omega)).trans (congrArg some ec))
        clear hcell ev ed ec hi hA
        cases cl with
        | true =>
          go_wp2_with fail
          refine (tclear_any _ HA.out.t).mono ?_; rintro e w2 ⟨rfl, t2, o2⟩
          have A2 := Lib.hid (HA.out.onT t2 o2)
          clear t2 o2 hr2
          go_wp2_with fail
          refine (tclear_any _ A2.out.z).mono ?_; rintro e w3 ⟨rfl, t3, o3⟩
          have A3 := Lib.hid (A2.out.onZ t3 o3)
          clear t3 o3
          go_wp2_with fail
          refine (tclear_nil _).mono ?_; rintro e w' ⟨rfl, rfl⟩
          have c0 := A3.out.x.cell 0
          have c1 := A3.out.x.cell 1
          have f0 := A3.out.x.frozen 0
          have f1 := A3.out.x.frozen 1
          have A := Lib.hid (A3.out.onX 0 0)
          clear HI
          have HI := Lib.hid inv0
          clear at0 at1
          go_wp2_with fail
          have cx0 := A.out.x.cell 0
          have cx1 := A.out.x.cell 1
          go_quiet (first | (go_at_call_of 10 (Value.pointer none); exact quiet_left (tway_nil _)) | (go_at_call_of 11 (Value.pointer none); exact quiet_left (theld_nil _)) | (go_at_call_of 10 (Value.pointer (some ⟨w.heap.size, 0, none⟩)); exact quiet_left (tway_any _ (by exact A.out.t))) | (go_at_call_of 10 (Value.pointer (some ⟨w1.heap.size, 0, none⟩)); exact quiet_left (tway_any _ (by exact A.out.z))) | (go_at_call 11; exact quiet_left (theld_any _ (by exact A.out.t))))
          go_wp2_with fail
          go_roundw
          case rel => exact ⟨k + 1, _, _, by omega, by go_num, HI.out, A.out.drewN _⟩
          case measure => simp [intOf]; omega
        | false =>
          have s14 := Lib.hid (fun (W : World) (h : All16 w w.heap.size w1.heap.size (w1.heap.size + 1) W way held way held way held) => (show W.cell? ⟨w1.heap.size + 1, 0, none⟩ = some (.int .i64 way) ∧ W.cell? ⟨w1.heap.size + 1, 1, none⟩ = some (.int .i64 held) ∧ W.cell? ⟨b, off + k * 3, none⟩ = some (.int .i64 v) ∧ W.cell? ⟨b, off + k * 3 + 1, none⟩ = some (.int .i64 d) from ⟨h.x.cell 0, h.x.cell 1, at0.out _ h.bl, at1.out _ h.bl⟩))
          have hfar := Lib.hid (show w.heap.size ≤ wr.heap.size ∧ w.heap.size ≠ wr.heap.size ∧ w1.heap.size ≠ wr.heap.size ∧ w1.heap.size + 1 ≠ wr.heap.size from ⟨HA.out.bl.size, by have := Bk.lt HA.out.t; omega, by have := Bk.lt HA.out.z; omega, by have := Bk.lt HA.out.x; omega⟩)
          have hs0 := s14.out _ HA.out
          have hHd : All16 w w.heap.size w1.heap.size (w1.heap.size + 1) wr.drew way held way held way held := HA.out.drew
          go_wp2_with fail
          go_region_held3 (fun W => W.cell? ⟨w1.heap.size + 1, 0, none⟩ = some (.int .i64 way) ∧ W.cell? ⟨w1.heap.size + 1, 1, none⟩ = some (.int .i64 held) ∧ W.cell? ⟨b, off + k * 3, none⟩ = some (.int .i64 v) ∧ W.cell? ⟨b, off + k * 3 + 1, none⟩ = some (.int .i64 d)) (first | (go_keep; done) | exact s14.out _ (by assumption) | exact s14.out _ ((HA.out.alloc _).drew) | exact s14.out _ (All16.alloc (by assumption) _) | exact s14.out _ (All16.far (by assumption) hfar.out _ _)) ((go_at_call 8; refine (rstep16_any way held v d HI.out _).mono ?_; rintro e w2 ⟨rfl, b2⟩; (first | have A2 := All16.below (by assumption) b2 | have A2 := All16.below ((HA.out.alloc _).drew) b2); (try (have q := new_bk b2; have q0 := q.cell 0; have q1 := q.cell 1; have q2 := q.frozen 0; have q3 := q.frozen 1; clear q)); clear b2))
          · have A3 := Lib.hid (A2.alloc (.cells #[.int .i64 (tW way held v d), .int .i64 (tH way held v d)] 29))
            have x0 := A3.out.x.cell 0
            have x1 := A3.out.x.cell 1
            have x2 := A3.out.x.frozen 0
            have x3 := A3.out.x.frozen 1
            clear A2
            go_wp2_with fail
            have A4 := A3.out.onX (tW way held v d) (tH way held v d)
            have HI2 := Lib.hid (inv_step way held v d HI.out)
            generalize (World.setCell (World.setCell _ ⟨w1.heap.size + 1, 0, none⟩ (.int .i64 (tW way held v d))) ⟨w1.heap.size + 1, 1, none⟩ (.int .i64 (tH way held v d))) = W4 at A4 ⊢
            have s16 := Lib.hid (fun (W : World) (a b c e f g : Int) (h : All16 w w.heap.size w1.heap.size (w1.heap.size + 1) W a b c e f g) => (show W.cell? ⟨_, off + k * 3, none⟩ = some (.int .i64 v) ∧ W.cell? ⟨_, off + k * 3 + 1, none⟩ = some (.int .i64 d) from ⟨at0.out _ h.bl, at1.out _ h.bl⟩))
            have hs1 := s16.out _ _ _ _ _ _ _ A4
            have A4d := A4.drew
            have HA4 := Lib.hid A4
            clear A4 s14 hfar x0 x1 x2 x3 hs0 hHd HA A3 HF HT
            go_region_held3 (fun W => W.cell? ⟨b, off + k * 3, none⟩ = some (.int .i64 v) ∧ W.cell? ⟨b, off + k * 3 + 1, none⟩ = some (.int .i64 d)) (first | (go_keep; done) | exact s16.out _ _ _ _ _ _ _ (by assumption)) (first
              | (go_at_call_of 9 (Value.pointer none); refine (tstep_nil _ _ _).mono ?_; rintro e w' ⟨rfl, rfl⟩)
              | (go_at_call_of 9 (Value.pointer (some ⟨w.heap.size, 0, none⟩)); refine (tstep_any v d _ (All16.t (by assumption)) HI.out).mono ?_; rintro e w5 ⟨rfl, t5, o5⟩; have A5 := All16.onT (by assumption) t5 o5; clear t5 o5)
              | (go_at_call_of 9 (Value.pointer (some ⟨w1.heap.size, 0, none⟩)); refine (tstep_any v d _ (All16.z (by assumption)) HI.out).mono ?_; rintro e w6 ⟨rfl, t6, o6⟩; have A6 := All16.onZ (by assumption) t6 o6; clear t6 o6))
            go_wp2_with fail
            have A := Lib.hid A6
            clear HI
            have HI := HI2
            clear A4d HA4 A5 A6 s16
            have cx0 := A.out.x.cell 0
            have cx1 := A.out.x.cell 1
            go_quiet (first | (go_at_call_of 10 (Value.pointer none); exact quiet_left (tway_nil _)) | (go_at_call_of 11 (Value.pointer none); exact quiet_left (theld_nil _)) | (go_at_call_of 10 (Value.pointer (some ⟨w.heap.size, 0, none⟩)); exact quiet_left (tway_any _ (by exact A.out.t))) | (go_at_call_of 10 (Value.pointer (some ⟨w1.heap.size, 0, none⟩)); exact quiet_left (tway_any _ (by exact A.out.z))) | (go_at_call 11; exact quiet_left (theld_any _ (by exact A.out.t))))
            go_wp2_with fail
            go_roundw
            case rel => exact ⟨k + 1, _, _, by omega, by go_num, HI.out, A.out.drewN _⟩
            case measure => simp [intOf]; omega
          · have A3 := Lib.hid (A2.far hfar.out (.int .i64 (tW way held v d)) (.int .i64 (tH way held v d)))
            have x0 := A3.out.x.cell 0
            have x1 := A3.out.x.cell 1
            have x2 := A3.out.x.frozen 0
            have x3 := A3.out.x.frozen 1
            clear A2
            go_wp2_with fail
            have A4 := A3.out.onX (tW way held v d) (tH way held v d)
            have HI2 := Lib.hid (inv_step way held v d HI.out)
            generalize (World.setCell (World.setCell _ ⟨w1.heap.size + 1, 0, none⟩ (.int .i64 (tW way held v d))) ⟨w1.heap.size + 1, 1, none⟩ (.int .i64 (tH way held v d))) = W4 at A4 ⊢
            have s16 := Lib.hid (fun (W : World) (a b c e f g : Int) (h : All16 w w.heap.size w1.heap.size (w1.heap.size + 1) W a b c e f g) => (show W.cell? ⟨_, off + k * 3, none⟩ = some (.int .i64 v) ∧ W.cell? ⟨_, off + k * 3 + 1, none⟩ = some (.int .i64 d) from ⟨at0.out _ h.bl, at1.out _ h.bl⟩))
            have hs1 := s16.out _ _ _ _ _ _ _ A4
            have A4d := A4.drew
            have HA4 := Lib.hid A4
            clear A4 s14 hfar x0 x1 x2 x3 hs0 hHd HA A3 HF HT
            go_region_held3 (fun W => W.cell? ⟨b, off + k * 3, none⟩ = some (.int .i64 v) ∧ W.cell? ⟨b, off + k * 3 + 1, none⟩ = some (.int .i64 d)) (first | (go_keep; done) | exact s16.out _ _ _ _ _ _ _ (by assumption)) (first
              | (go_at_call_of 9 (Value.pointer none); refine (tstep_nil _ _ _).mono ?_; rintro e w' ⟨rfl, rfl⟩)
              | (go_at_call_of 9 (Value.pointer (some ⟨w.heap.size, 0, none⟩)); refine (tstep_any v d _ (All16.t (by assumption)) HI.out).mono ?_; rintro e w5 ⟨rfl, t5, o5⟩; have A5 := All16.onT (by assumption) t5 o5; clear t5 o5)
              | (go_at_call_of 9 (Value.pointer (some ⟨w1.heap.size, 0, none⟩)); refine (tstep_any v d _ (All16.z (by assumption)) HI.out).mono ?_; rintro e w6 ⟨rfl, t6, o6⟩; have A6 := All16.onZ (by assumption) t6 o6; clear t6 o6))
            go_wp2_with fail
            have A := Lib.hid A6
            clear HI
            have HI := HI2
            clear A4d HA4 A5 A6 s16
            have cx0 := A.out.x.cell 0
            have cx1 := A.out.x.cell 1
            go_quiet (first | (go_at_call_of 10 (Value.pointer none); exact quiet_left (tway_nil _)) | (go_at_call_of 11 (Value.pointer none); exact quiet_left (theld_nil _)) | (go_at_call_of 10 (Value.pointer (some ⟨w.heap.size, 0, none⟩)); exact quiet_left (tway_any _ (by exact A.out.t))) | (go_at_call_of 10 (Value.pointer (some ⟨w1.heap.size, 0, none⟩)); exact quiet_left (tway_any _ (by exact A.out.z))) | (go_at_call 11; exact quiet_left (theld_any _ (by exact A.out.t))))
            go_wp2_with fail
            go_roundw
            case rel => exact ⟨k + 1, _, _, by omega, by go_num, HI.out, A.out.drewN _⟩
            case measure => simp [intOf]; omega
      · have HB := Lib.hid hA.bl
        clear hi hA
        go_wp2_with fail
        refine (awake16 _).mono ?_; rintro e w2 ⟨rfl, b2⟩
        go_wp2_with fail
        go_ret
        exact ⟨rfl, HB.out.trans (b2.mono HB.out.size)⟩
end Go.Proofs.Ytnjjpllplgidlaa
