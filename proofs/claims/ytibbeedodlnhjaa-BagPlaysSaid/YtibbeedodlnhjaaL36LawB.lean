/-
  The walk of the law BagPlays of layer 36.
-/
import Derived.Test.YtibbeedodlnhjaaL36Ref
import Derived.Test.YtibbeedodlnhjaaFldV
namespace Go.Proofs.Ytibbeedodlnhjaa
open Go.RowKit
/-- few: if it says yes, there are no more than 100 acts. -/
def FewEnd (len : Nat) (w : World) (e : Ending) (w' : World) : Prop := ∃ b : Bool, e = .returned (.bool b) ∧ (b = true → len ≤ 100) ∧ w = w'
set_option maxHeartbeats 1000000 in
theorem few_any (a : Option Addr) (len cap : Nat) (f : Nat → Nat → Value) (w : World) (hF : FldV w a len 3 f) (hl : len ≤ maxLen) (hT : ∀ i j, i < len → j < 3 → Typed ([3, 3, 9].getD j 0) (f i j)) :
    Calls Try.prog 6 #[.slice a len cap] w (FewEnd len w) := by
  unfold maxLen at hl
  have HF := Lib.hid hF
  have HT := Lib.hid hT
  clear hF hT
  go_enter Try.func6, Try.ntmps6
  go_wp2_with fail
  go_loop [3] (fun i => ∃ k : Nat, k ≤ len ∧ k ≤ 100 ∧ i = .int .i64 k) (fun i => len - (intOf i).toNat)
  case atStart => exact ⟨0, Nat.zero_le _, Nat.zero_le _, rfl⟩
  case round =>
    obtain ⟨k, hk, hk2, rfl⟩ := hrel
    by_cases hlt : k < len
    · by_cases h100 : k < 100
      · obtain ⟨b, off, ha, hc⟩ := HF.out.get hlt
        subst ha
        obtain ⟨s, es, hs⟩ := (HT.out k 2 hlt (by omega)).2.2 rfl
        have c2 := (hc 2 (by omega)).trans (congrArg some es)
        unfold maxLen at hs
        clear hc es
        have h1 := dlt_t (a := (k : Int)) (b := 100) (by omega)
        rcases (by omega : 50 < s.size ∨ s.size ≤ 50) with h2 | h2
        · have h2 := dlt_t (a := 50) (b := (s.size : Int)) (by omega)
          go_wp2_with fail
          go_ret
          exact ⟨false, rfl, fun h => (by cases h), rfl⟩
        · have h2 := dlt_f (a := 50) (b := (s.size : Int)) (by omega)
          go_wp2_with fail
          go_round
          case rel => exact ⟨k + 1, by omega, by omega, by go_num⟩
          case measure => simp [intOf]; omega
      · obtain rfl : k = 100 := by omega
        go_wp2_with fail
        go_ret
        exact ⟨_, rfl, fun h => (by have := of_decide_eq_true h; omega), rfl⟩
    · obtain rfl : k = len := by omega
      go_wp2_with fail
      go_ret
      exact ⟨_, rfl, fun h => (by omega), rfl⟩
/-- What is known of all that the laws of bags hold. -/
structure Q36 (w0 : World) (most : Int) (v : Value) (xb xt : List ByteArray) (ax : Option Addr) (cx : Nat) (W : World) : Prop where
  bl : Below w0.heap.size w0 W
  b : Bg W w0.heap.size v most xb
  t : Tx W ax cx xt
  ap : ∀ x, ax = some x → x.block < W.heap.size ∧ ¬ fp w0.heap.size v x.block
section
variable {w0 W W' : World} {most : Int} {v v' : Value} {xb xt xb' xt' : List ByteArray} {ax a' : Option Addr} {cx c' : Nat}
theorem Q36.below (h : Q36 w0 most v xb xt ax cx W) (k : Below W.heap.size W W') : Q36 w0 most v xb xt ax cx W' :=
  ⟨h.bl.trans (k.mono h.bl.size), h.b.below k, h.t.below k, fun x hx => ⟨Nat.lt_of_lt_of_le (h.ap x hx).1 k.size, (h.ap x hx).2⟩⟩
theorem Q36.alloc (h : Q36 w0 most v xb xt ax cx W) (o : Obj) : Q36 w0 most v xb xt ax cx (W.alloc o) := h.below ((Below.refl _ _).alloc (Nat.le_refl _) o)
theorem rowat_oth {F : Nat → Prop} {xs : List Value} (h : RowAt W ax xs) (o : Oth F W W') (hn : ∀ x, ax = some x → ¬ F x.block) : RowAt W' ax xs := by
  intro hne
  obtain ⟨b, off, e, hc⟩ := h hne
  refine ⟨b, off, e, fun j u hu => ?_⟩
  have hlt := cell_lt (hc j u hu)
  have hb : W'.heap[b]? = W.heap[b]? := o.block b hlt (hn _ e)
  exact (by simp [World.cell?, hb] : W'.cell? ⟨b, off + j, none⟩ = W.cell? ⟨b, off + j, none⟩).trans (hc j u hu)
theorem Q36.onB (h : Q36 w0 most v xb xt ax cx W) (b : Bg W' w0.heap.size v' most xb') (o : Oth (fp w0.heap.size v) W W') (n : ∀ k, v'.ownBlock = some k → v.ownBlock = some k ∨ W.heap.size ≤ k) : Q36 w0 most v' xb' xt ax cx W' :=
  ⟨Oth.below h.bl o h.bl.size (fun i hi => (h.b.fp_lt i hi).1), b, ⟨rowat_oth h.t.r o (fun x hx => (h.ap x hx).2), h.t.c, h.t.m⟩, fun x hx => ⟨Nat.lt_of_lt_of_le (h.ap x hx).1 o.size, fun hf => by
    rcases hf with hf | hf
    · exact (h.ap x hx).2 (Or.inl hf)
    · rcases n _ hf with hf | hf
      · exact (h.ap x hx).2 (Or.inr hf)
      · have := (h.ap x hx).1; omega⟩⟩
theorem Q36.onR (h : Q36 w0 most v xb xt ax cx W) (t : Tx W' a' c' xt') (k : Below W.heap.size W W') (n : ∀ x, a' = some x → W.heap.size ≤ x.block ∧ x.block < W'.heap.size) : Q36 w0 most v xb xt' a' c' W' :=
  ⟨h.bl.trans (k.mono h.bl.size), h.b.below k, t, fun x hx => ⟨(n x hx).2, fun hf => by have := (n x hx).1; have := h.b.fp_lt _ hf; omega⟩⟩
/-- A block of the law's own that is no bag's. -/
theorem keep_blk {g g' : Nat} {T : TypeId} {cs : Array Value} (x : Bk W g' T cs) (o : Oth (fp g v) W W') (hn : ¬ fp g v g') : Bk W' g' T cs := (o.block g' x.lt hn).trans x
theorem Q36.fresh (h : Q36 w0 most v xb xt ax cx W) : ¬ fp w0.heap.size v W.heap.size := fun hf => by have := h.b.fp_lt _ hf; omega
theorem fresh_on {g k' : Nat} (h : ¬ fp g v k') (hk : k' < W.heap.size) (n : ∀ k, v'.ownBlock = some k → v.ownBlock = some k ∨ W.heap.size ≤ k) : ¬ fp g v' k' := fun hf => by
  rcases hf with hf | hf
  · exact h (Or.inl hf)
  · rcases n _ hf with hf | hf
    · exact h (Or.inr hf)
    · omega
end
set_option maxRecDepth 100000 in
set_option maxHeartbeats 8000000 in
theorem w_BagPlays (w : World) (most : Int) (_ : (Lit.int .i64 most).wf = true) (a : Option Addr) (len cap : Nat) (f : Nat → Nat → Value) (hF : FldV w a len 3 f) (hl : len ≤ maxLen) (hT : ∀ i j, i < len → j < 3 → Typed ([3, 3, 9].getD j 0) (f i j)) :
    Calls Try.prog 3 #[.int .i64 most, .slice a len cap] w fun e w' => e = .returned (.bool true) ∧ Below w.heap.size w w' := by
  have HFEW := Lib.hid (few_any a len cap f w hF hl hT)
  have HF := Lib.hid hF
  have HT := Lib.hid hT
  clear hF hT
  unfold maxLen at hl
  go_enter Try.func3, Try.ntmps3
  go_wp2_with fail
  refine HFEW.out.mono ?_; rintro e w' ⟨b, rfl, hb, rfl⟩
  clear HFEW
  cases b with
  | false =>
    clear hb
    go_wp2_with fail
    refine (awake36 _).mono ?_; rintro e w1 ⟨rfl, b1⟩
    go_wp2_with fail
    go_ret
    exact ⟨rfl, b1⟩
  | true =>
    have hlen := hb rfl
    clear hb
    by_cases hr : most < 0 ∨ 64 < most
    · have HN := Lib.hid (bnew_no most hr)
      have hd : decide (most < 0) = true ∨ (decide (most < 0) = false ∧ decide (64 < most) = true) := by
        rcases hr with h | h
        · exact Or.inl (dlt_t h)
        · exact Or.inr ⟨dlt_f (by omega), dlt_t h⟩
      clear hr
      go_wp2_with fail
      refine (HN.out _).mono ?_; rintro e w' ⟨rfl, rfl⟩
      rcases hd with h1 | ⟨h1, h2⟩
      all_goals
        go_wp2_with fail
        refine (awake36 _).mono ?_; rintro e w1 ⟨rfl, b1⟩
        go_wp2_with fail
        go_ret
        exact ⟨rfl, b1⟩
    · have h1 := dlt_f (a := most) (b := 0) (by omega)
      have h2 := dlt_f (a := 64) (b := most) (by omega)
      have hm0 : 0 ≤ most := by omega
      have hm64 : most ≤ 64 := by omega
      have HN := Lib.hid (bnew_ok most hm0 hm64)
      clear hr
      go_wp2_with fail
      refine (HN.out _).mono ?_; rintro e w1 ⟨rfl, t1, b1⟩
      have A0 := Lib.hid (show Q36 w most (.slice none 0 0) [] [] none 0 w1 from ⟨b1, t1, Tx.nil _, fun x hx => by cases hx⟩)
      clear t1 b1 HN
      go_wp2_with fail
      go_loopw [7, 8] (fun x i wr => ∃ (k : Nat) (xs : List ByteArray) (v : Value) (ax : Option Addr) (cx : Nat), k ≤ len ∧ i = .int .i64 k ∧ x = .slice ax xs.length cx ∧ (xs.length : Int) ≤ most ∧ Q36 w most v xs xs ax cx wr) (fun _ i _ => len - (intOf i).toNat)
      case atStart => exact ⟨0, [], _, none, 0, Nat.zero_le _, rfl, rfl, by simpa using hm0, A0.out⟩
      case round =>
        obtain ⟨k, xs, v, ax, cx, hk, rfl, rfl, hxl, hA⟩ := hrel
        have HA := Lib.hid hA
        clear A0 hA
        by_cases hlt : k < len
        · obtain ⟨b, off, ha, hc⟩ := (HF.out.below HA.out.bl).get hlt
          subst ha
          obtain ⟨kd, e0, _⟩ := (HT.out k 0 hlt (by omega)).1 rfl
          obtain ⟨pl, e1, _⟩ := (HT.out k 1 hlt (by omega)).1 rfl
          obtain ⟨tx, e2, _⟩ := (HT.out k 2 hlt (by omega)).2.2 rfl
          have c0 := (hc 0 (by omega)).trans (congrArg some e0)
          have c1 := (hc 1 (by omega)).trans (congrArg some e1)
          have c2 := (hc 2 (by omega)).trans (congrArg some e2)
          clear hc e0 e1 e2
          simp only [Nat.add_zero] at c0
          have HX := Lib.hid (Bk.new wr 31 #[.int .i64 kd, .int .i64 pl, .string tx])
          have HF0 := Lib.hid HA.out.fresh
          have HA1 := Lib.hid (HA.out.alloc (.cells #[.int .i64 kd, .int .i64 pl, .string tx] 31))
          have HZ := Lib.hid (show wr.heap.size < (wr.alloc (.cells #[.int .i64 kd, .int .i64 pl, .string tx] 31)).heap.size by simp)
          clear HA
          have hxn : xs.length ≤ 64 := by omega
          by_cases h0 : kd = 0
          · subst h0
            go_wp2_with fail
            clear c0 c1 c2
            by_cases hfull : most ≤ xs.length
            · refine (rput_full ax xs.length cx most tx hfull _).mono ?_; rintro e w' ⟨rfl, rfl⟩
              have d2 := HX.out.cell 2
              have d1 := HX.out.cell 1
              go_wp2_with fail
              refine (bput_full tx hfull _ HA1.out.b).mono ?_; rintro e w2 ⟨rfl, b2⟩
              have A9 := Lib.hid (HA1.out.below b2)
              have X9 := Lib.hid (HX.out.below b2)
              clear b2 d1 d2 HA1 HX HF0 HZ hfull
              as_aux_lemma =>
                generalize xs = ys at *
                generalize v = v9 at *
                generalize ax = a9 at *
                generalize cx = c9 at *
                have hyn : ys.length ≤ 64 := by omega
                have d1 := X9.out.cell 1
                have hne : ((ys.length : Int) != (ys.length : Int)) = false := by simp
                go_wp2_with fail
                by_cases hp : 0 ≤ pl ∧ pl < ys.length
                · obtain ⟨j, rfl⟩ : ∃ j : Nat, pl = j := ⟨pl.toNat, by omega⟩
                  have hj : j < ys.length := by omega
                  clear hp
                  refine (bat_in j hj _ A9.out.b).mono ?_; rintro e w' ⟨rfl, rfl⟩
                  go_wp2_with fail
                  refine (ball_any (by omega) _ A9.out.b).mono ?_; rintro e w4 ⟨a4, cap4, rfl, r4, b4, _⟩
                  have A4 := Lib.hid (A9.out.below b4)
                  have X4 := Lib.hid (X9.out.below b4)
                  have R4 := Lib.hid r4
                  clear b4 r4 A9 X9 d1
                  go_wp2_with fail
                  refine (wsame_any a4 _ _ cap4 _ ys _ R4.out A4.out.t.r rfl (by omega)).mono ?_; rintro e w5 ⟨rfl, b5⟩
                  have A5 := Lib.hid (A4.out.below b5)
                  have X5 := Lib.hid (X4.out.below b5)
                  clear b5 A4 X4 R4
                  go_wp2_with fail
                  refine (blen_any _ A5.out.b).mono ?_; rintro e w' ⟨rfl, rfl⟩
                  have d1 := X5.out.cell 1
                  obtain ⟨b', off', ha', cj⟩ := RowAt.get A5.out.t.r (k := j) (v := .string ys[j]) (by simp [strs, List.getElem?_eq_getElem hj])
                  subst ha'
                  go_wp2_with fail
                  go_roundw
                  case rel => exact ⟨k + 1, ys, v9, _, c9, by omega, by go_num, rfl, hxl, A5.out⟩
                  case measure => simp [intOf]; omega
                · refine (bat_far pl (by omega) _ (blen_any _ A9.out.b)).mono ?_; rintro e w' ⟨rfl, rfl⟩
                  have hd : decide (0 ≤ pl) = false ∨ (decide (0 ≤ pl) = true ∧ decide (pl < (ys.length : Int)) = false) := by
                    rcases (by omega : pl < 0 ∨ (0 ≤ pl ∧ (ys.length : Int) ≤ pl)) with h | ⟨h, h'⟩
                    · exact Or.inl (dle_f h)
                    · exact Or.inr ⟨dle_t h, dlt_f h'⟩
                  clear hp
                  rcases hd with g1 | ⟨g1, g2⟩
                  all_goals
                    go_wp2_with fail
                    refine (ball_any (by omega) _ A9.out.b).mono ?_; rintro e w4 ⟨a4, cap4, rfl, r4, b4, _⟩
                    have A4 := Lib.hid (A9.out.below b4)
                    have R4 := Lib.hid r4
                    clear b4 r4
                    go_wp2_with fail
                    refine (wsame_any a4 _ _ cap4 _ ys _ R4.out A4.out.t.r rfl (by omega)).mono ?_; rintro e w5 ⟨rfl, b5⟩
                    have A5 := Lib.hid (A4.out.below b5)
                    clear b5
                    go_wp2_with fail
                    refine (blen_any _ A5.out.b).mono ?_; rintro e w' ⟨rfl, rfl⟩
                    go_wp2_with fail
                    go_roundw
                    case rel => exact ⟨k + 1, ys, v9, _, c9, by omega, by go_num, rfl, hxl, A5.out⟩
                    case measure => simp [intOf]; omega
            · have hroom : (xs.length : Int) < most := by omega
              have hxl2 : (((xs ++ [tx]).length : Nat) : Int) ≤ most := by rw [show (xs ++ [tx]).length = xs.length + 1 from by simp]; omega
              have HBP := Lib.hid (fun (W : World) (h : Bg W w.heap.size v most xs) => bput_room tx hroom (by omega) W h)
              have HRP := Lib.hid (rput_room ax xs.length cx xs most tx rfl hroom (by omega) _ HA1.out.t)
              obtain ⟨ys, hys⟩ : ∃ ys, xs ++ [tx] = ys := ⟨_, rfl⟩
              rw [hys] at HBP HRP hxl2
              clear hys
              refine HRP.out.mono ?_; rintro e w2 ⟨ay, cy, rfl, t2, b2, n2⟩
              have A2 := Lib.hid (HA1.out.onR t2 b2 n2)
              have X2 := Lib.hid (HX.out.below b2)
              have Z2 := Lib.hid (Nat.lt_of_lt_of_le HZ.out b2.size)
              clear t2 b2 n2 HA1 HX HZ
              have d1 := X2.out.cell 1
              have d2 := X2.out.cell 2
              go_wp2_with fail
              refine (HBP.out _ A2.out.b).mono ?_; rintro e w3 ⟨rfl, v3, b3, o3, n3⟩
              have A9 := Lib.hid (A2.out.onB b3 o3 n3)
              have X9 := Lib.hid (keep_blk X2.out o3 HF0.out)
              clear b3 o3 n3 d1 d2 A2 X2 Z2 HF0 hfull hxl HBP HRP
              have hxl := hxl2
              clear hxl2
              as_aux_lemma =>
                generalize ys = ys at *
                generalize v3 = v9 at *
                generalize ay = a9 at *
                generalize cy = c9 at *
                have hyn : ys.length ≤ 64 := by omega
                have d1 := X9.out.cell 1
                have hne : ((ys.length : Int) != (ys.length : Int)) = false := by simp
                go_wp2_with fail
                by_cases hp : 0 ≤ pl ∧ pl < ys.length
                · obtain ⟨j, rfl⟩ : ∃ j : Nat, pl = j := ⟨pl.toNat, by omega⟩
                  have hj : j < ys.length := by omega
                  clear hp
                  refine (bat_in j hj _ A9.out.b).mono ?_; rintro e w' ⟨rfl, rfl⟩
                  go_wp2_with fail
                  refine (ball_any (by omega) _ A9.out.b).mono ?_; rintro e w4 ⟨a4, cap4, rfl, r4, b4, _⟩
                  have A4 := Lib.hid (A9.out.below b4)
                  have X4 := Lib.hid (X9.out.below b4)
                  have R4 := Lib.hid r4
                  clear b4 r4 A9 X9 d1
                  go_wp2_with fail
                  refine (wsame_any a4 _ _ cap4 _ ys _ R4.out A4.out.t.r rfl (by omega)).mono ?_; rintro e w5 ⟨rfl, b5⟩
                  have A5 := Lib.hid (A4.out.below b5)
                  have X5 := Lib.hid (X4.out.below b5)
                  clear b5 A4 X4 R4
                  go_wp2_with fail
                  refine (blen_any _ A5.out.b).mono ?_; rintro e w' ⟨rfl, rfl⟩
                  have d1 := X5.out.cell 1
                  obtain ⟨b', off', ha', cj⟩ := RowAt.get A5.out.t.r (k := j) (v := .string ys[j]) (by simp [strs, List.getElem?_eq_getElem hj])
                  subst ha'
                  go_wp2_with fail
                  go_roundw
                  case rel => exact ⟨k + 1, ys, v9, _, c9, by omega, by go_num, rfl, hxl, A5.out⟩
                  case measure => simp [intOf]; omega
                · refine (bat_far pl (by omega) _ (blen_any _ A9.out.b)).mono ?_; rintro e w' ⟨rfl, rfl⟩
                  have hd : decide (0 ≤ pl) = false ∨ (decide (0 ≤ pl) = true ∧ decide (pl < (ys.length : Int)) = false) := by
                    rcases (by omega : pl < 0 ∨ (0 ≤ pl ∧ (ys.length : Int) ≤ pl)) with h | ⟨h, h'⟩
                    · exact Or.inl (dle_f h)
                    · exact Or.inr ⟨dle_t h, dlt_f h'⟩
                  clear hp
                  rcases hd with g1 | ⟨g1, g2⟩
                  all_goals
                    go_wp2_with fail
                    refine (ball_any (by omega) _ A9.out.b).mono ?_; rintro e w4 ⟨a4, cap4, rfl, r4, b4, _⟩
                    have A4 := Lib.hid (A9.out.below b4)
                    have R4 := Lib.hid r4
                    clear b4 r4
                    go_wp2_with fail
                    refine (wsame_any a4 _ _ cap4 _ ys _ R4.out A4.out.t.r rfl (by omega)).mono ?_; rintro e w5 ⟨rfl, b5⟩
                    have A5 := Lib.hid (A4.out.below b5)
                    clear b5
                    go_wp2_with fail
                    refine (blen_any _ A5.out.b).mono ?_; rintro e w' ⟨rfl, rfl⟩
                    go_wp2_with fail
                    go_roundw
                    case rel => exact ⟨k + 1, ys, v9, _, c9, by omega, by go_num, rfl, hxl, A5.out⟩
                    case measure => simp [intOf]; omega
          · have e0 := deq_f h0
            by_cases h1 : kd = 1
            · subst h1
              go_wp2_with fail
              clear c0 c1 c2
              by_cases hp : 0 ≤ pl ∧ pl < xs.length
              · obtain ⟨j, rfl⟩ : ∃ j : Nat, pl = j := ⟨pl.toNat, by omega⟩
                have hj : j < xs.length := by omega
                clear hp
                have hxl2 : (((xs.eraseIdx j).length : Nat) : Int) ≤ most := by have := List.length_eraseIdx_le xs j; omega
                have HBP := Lib.hid (btake_in j hj (by omega) _ HA1.out.b)
                have HRP := Lib.hid (fun (W : World) (h : Tx W ax cx xs) => rtake_in ax xs.length cx xs j rfl hj (by omega) W h)
                generalize xs.eraseIdx j = ys at *
                refine HBP.out.mono ?_; rintro e w2 ⟨rfl, v2, b2, o2, n2⟩
                have A2 := Lib.hid (HA1.out.onB b2 o2 n2)
                have X2 := Lib.hid (keep_blk HX.out o2 HF0.out)
                clear b2 o2 n2 HA1 HX HZ HF0
                have d1 := X2.out.cell 1
                go_wp2_with fail
                refine (HRP.out _ A2.out.t).mono ?_; rintro e w3 ⟨ay, cy, rfl, t3, b3, n3⟩
                have A9 := Lib.hid (A2.out.onR t3 b3 n3)
                have X9 := Lib.hid (X2.out.below b3)
                clear t3 b3 n3 A2 X2 d1 hxl HBP HRP
                have hxl := hxl2
                clear hxl2
                generalize (j : Int) = pl at *
                as_aux_lemma =>
                  generalize ys = ys at *
                  generalize v2 = v9 at *
                  generalize ay = a9 at *
                  generalize cy = c9 at *
                  have hyn : ys.length ≤ 64 := by omega
                  have d1 := X9.out.cell 1
                  have hne : ((ys.length : Int) != (ys.length : Int)) = false := by simp
                  go_wp2_with fail
                  by_cases hp : 0 ≤ pl ∧ pl < ys.length
                  · obtain ⟨j, rfl⟩ : ∃ j : Nat, pl = j := ⟨pl.toNat, by omega⟩
                    have hj : j < ys.length := by omega
                    clear hp
                    refine (bat_in j hj _ A9.out.b).mono ?_; rintro e w' ⟨rfl, rfl⟩
                    go_wp2_with fail
                    refine (ball_any (by omega) _ A9.out.b).mono ?_; rintro e w4 ⟨a4, cap4, rfl, r4, b4, _⟩
                    have A4 := Lib.hid (A9.out.below b4)
                    have X4 := Lib.hid (X9.out.below b4)
                    have R4 := Lib.hid r4
                    clear b4 r4 A9 X9 d1
                    go_wp2_with fail
                    refine (wsame_any a4 _ _ cap4 _ ys _ R4.out A4.out.t.r rfl (by omega)).mono ?_; rintro e w5 ⟨rfl, b5⟩
                    have A5 := Lib.hid (A4.out.below b5)
                    have X5 := Lib.hid (X4.out.below b5)
                    clear b5 A4 X4 R4
                    go_wp2_with fail
                    refine (blen_any _ A5.out.b).mono ?_; rintro e w' ⟨rfl, rfl⟩
                    have d1 := X5.out.cell 1
                    obtain ⟨b', off', ha', cj⟩ := RowAt.get A5.out.t.r (k := j) (v := .string ys[j]) (by simp [strs, List.getElem?_eq_getElem hj])
                    subst ha'
                    go_wp2_with fail
                    go_roundw
                    case rel => exact ⟨k + 1, ys, v9, _, c9, by omega, by go_num, rfl, hxl, A5.out⟩
                    case measure => simp [intOf]; omega
                  · refine (bat_far pl (by omega) _ (blen_any _ A9.out.b)).mono ?_; rintro e w' ⟨rfl, rfl⟩
                    have hd : decide (0 ≤ pl) = false ∨ (decide (0 ≤ pl) = true ∧ decide (pl < (ys.length : Int)) = false) := by
                      rcases (by omega : pl < 0 ∨ (0 ≤ pl ∧ (ys.length : Int) ≤ pl)) with h | ⟨h, h'⟩
                      · exact Or.inl (dle_f h)
                      · exact Or.inr ⟨dle_t h, dlt_f h'⟩
                    clear hp
                    rcases hd with g1 | ⟨g1, g2⟩
                    all_goals
                      go_wp2_with fail
                      refine (ball_any (by omega) _ A9.out.b).mono ?_; rintro e w4 ⟨a4, cap4, rfl, r4, b4, _⟩
                      have A4 := Lib.hid (A9.out.below b4)
                      have R4 := Lib.hid r4
                      clear b4 r4
                      go_wp2_with fail
                      refine (wsame_any a4 _ _ cap4 _ ys _ R4.out A4.out.t.r rfl (by omega)).mono ?_; rintro e w5 ⟨rfl, b5⟩
                      have A5 := Lib.hid (A4.out.below b5)
                      clear b5
                      go_wp2_with fail
                      refine (blen_any _ A5.out.b).mono ?_; rintro e w' ⟨rfl, rfl⟩
                      go_wp2_with fail
                      go_roundw
                      case rel => exact ⟨k + 1, ys, v9, _, c9, by omega, by go_num, rfl, hxl, A5.out⟩
                      case measure => simp [intOf]; omega
              · refine (btake_none pl _ (bat_far pl (by omega) _ (blen_any _ HA1.out.b))).mono ?_; rintro e w' ⟨rfl, rfl⟩
                have d1 := HX.out.cell 1
                go_wp2_with fail
                refine (rtake_far ax xs.length cx pl (by omega) _).mono ?_; rintro e w' ⟨rfl, rfl⟩
                have A9 := HA1
                have X9 := HX
                clear hp d1 HA1 HX HZ HF0
                as_aux_lemma =>
                  generalize xs = ys at *
                  generalize v = v9 at *
                  generalize ax = a9 at *
                  generalize cx = c9 at *
                  have hyn : ys.length ≤ 64 := by omega
                  have d1 := X9.out.cell 1
                  have hne : ((ys.length : Int) != (ys.length : Int)) = false := by simp
                  go_wp2_with fail
                  by_cases hp : 0 ≤ pl ∧ pl < ys.length
                  · obtain ⟨j, rfl⟩ : ∃ j : Nat, pl = j := ⟨pl.toNat, by omega⟩
                    have hj : j < ys.length := by omega
                    clear hp
                    refine (bat_in j hj _ A9.out.b).mono ?_; rintro e w' ⟨rfl, rfl⟩
                    go_wp2_with fail
                    refine (ball_any (by omega) _ A9.out.b).mono ?_; rintro e w4 ⟨a4, cap4, rfl, r4, b4, _⟩
                    have A4 := Lib.hid (A9.out.below b4)
                    have X4 := Lib.hid (X9.out.below b4)
                    have R4 := Lib.hid r4
                    clear b4 r4 A9 X9 d1
                    go_wp2_with fail
                    refine (wsame_any a4 _ _ cap4 _ ys _ R4.out A4.out.t.r rfl (by omega)).mono ?_; rintro e w5 ⟨rfl, b5⟩
                    have A5 := Lib.hid (A4.out.below b5)
                    have X5 := Lib.hid (X4.out.below b5)
                    clear b5 A4 X4 R4
                    go_wp2_with fail
                    refine (blen_any _ A5.out.b).mono ?_; rintro e w' ⟨rfl, rfl⟩
                    have d1 := X5.out.cell 1
                    obtain ⟨b', off', ha', cj⟩ := RowAt.get A5.out.t.r (k := j) (v := .string ys[j]) (by simp [strs, List.getElem?_eq_getElem hj])
                    subst ha'
                    go_wp2_with fail
                    go_roundw
                    case rel => exact ⟨k + 1, ys, v9, _, c9, by omega, by go_num, rfl, hxl, A5.out⟩
                    case measure => simp [intOf]; omega
                  · refine (bat_far pl (by omega) _ (blen_any _ A9.out.b)).mono ?_; rintro e w' ⟨rfl, rfl⟩
                    have hd : decide (0 ≤ pl) = false ∨ (decide (0 ≤ pl) = true ∧ decide (pl < (ys.length : Int)) = false) := by
                      rcases (by omega : pl < 0 ∨ (0 ≤ pl ∧ (ys.length : Int) ≤ pl)) with h | ⟨h, h'⟩
                      · exact Or.inl (dle_f h)
                      · exact Or.inr ⟨dle_t h, dlt_f h'⟩
                    clear hp
                    rcases hd with g1 | ⟨g1, g2⟩
                    all_goals
                      go_wp2_with fail
                      refine (ball_any (by omega) _ A9.out.b).mono ?_; rintro e w4 ⟨a4, cap4, rfl, r4, b4, _⟩
                      have A4 := Lib.hid (A9.out.below b4)
                      have R4 := Lib.hid r4
                      clear b4 r4
                      go_wp2_with fail
                      refine (wsame_any a4 _ _ cap4 _ ys _ R4.out A4.out.t.r rfl (by omega)).mono ?_; rintro e w5 ⟨rfl, b5⟩
                      have A5 := Lib.hid (A4.out.below b5)
                      clear b5
                      go_wp2_with fail
                      refine (blen_any _ A5.out.b).mono ?_; rintro e w' ⟨rfl, rfl⟩
                      go_wp2_with fail
                      go_roundw
                      case rel => exact ⟨k + 1, ys, v9, _, c9, by omega, by go_num, rfl, hxl, A5.out⟩
                      case measure => simp [intOf]; omega
            · have e1 := deq_f h1
              by_cases h2 : kd = 2
              · subst h2
                go_wp2_with fail
                clear c0 c1 c2
                by_cases hp : 0 ≤ pl ∧ pl < xs.length
                · obtain ⟨j, rfl⟩ : ∃ j : Nat, pl = j := ⟨pl.toNat, by omega⟩
                  have hj : j < xs.length := by omega
                  clear hp
                  by_cases hfull : most ≤ xs.length
                  · refine (rtwin_full ax xs.length cx xs most j rfl hj hfull _ HA1.out.t).mono ?_; rintro e w' ⟨rfl, rfl⟩
                    have d1 := HX.out.cell 1
                    go_wp2_with fail
                    refine (btwin_full j hj hfull _ HA1.out.b).mono ?_; rintro e w2 ⟨rfl, b2⟩
                    have A9 := Lib.hid (HA1.out.below b2)
                    have X9 := Lib.hid (HX.out.below b2)
                    clear b2 d1 HA1 HX HF0 HZ hfull
                    generalize (j : Int) = pl at *
                    as_aux_lemma =>
                      generalize xs = ys at *
                      generalize v = v9 at *
                      generalize ax = a9 at *
                      generalize cx = c9 at *
                      have hyn : ys.length ≤ 64 := by omega
                      have d1 := X9.out.cell 1
                      have hne : ((ys.length : Int) != (ys.length : Int)) = false := by simp
                      go_wp2_with fail
                      by_cases hp : 0 ≤ pl ∧ pl < ys.length
                      · obtain ⟨j, rfl⟩ : ∃ j : Nat, pl = j := ⟨pl.toNat, by omega⟩
                        have hj : j < ys.length := by omega
                        clear hp
                        refine (bat_in j hj _ A9.out.b).mono ?_; rintro e w' ⟨rfl, rfl⟩
                        go_wp2_with fail
                        refine (ball_any (by omega) _ A9.out.b).mono ?_; rintro e w4 ⟨a4, cap4, rfl, r4, b4, _⟩
                        have A4 := Lib.hid (A9.out.below b4)
                        have X4 := Lib.hid (X9.out.below b4)
                        have R4 := Lib.hid r4
                        clear b4 r4 A9 X9 d1
                        go_wp2_with fail
                        refine (wsame_any a4 _ _ cap4 _ ys _ R4.out A4.out.t.r rfl (by omega)).mono ?_; rintro e w5 ⟨rfl, b5⟩
                        have A5 := Lib.hid (A4.out.below b5)
                        have X5 := Lib.hid (X4.out.below b5)
                        clear b5 A4 X4 R4
                        go_wp2_with fail
                        refine (blen_any _ A5.out.b).mono ?_; rintro e w' ⟨rfl, rfl⟩
                        have d1 := X5.out.cell 1
                        obtain ⟨b', off', ha', cj⟩ := RowAt.get A5.out.t.r (k := j) (v := .string ys[j]) (by simp [strs, List.getElem?_eq_getElem hj])
                        subst ha'
                        go_wp2_with fail
                        go_roundw
                        case rel => exact ⟨k + 1, ys, v9, _, c9, by omega, by go_num, rfl, hxl, A5.out⟩
                        case measure => simp [intOf]; omega
                      · refine (bat_far pl (by omega) _ (blen_any _ A9.out.b)).mono ?_; rintro e w' ⟨rfl, rfl⟩
                        have hd : decide (0 ≤ pl) = false ∨ (decide (0 ≤ pl) = true ∧ decide (pl < (ys.length : Int)) = false) := by
                          rcases (by omega : pl < 0 ∨ (0 ≤ pl ∧ (ys.length : Int) ≤ pl)) with h | ⟨h, h'⟩
                          · exact Or.inl (dle_f h)
                          · exact Or.inr ⟨dle_t h, dlt_f h'⟩
                        clear hp
                        rcases hd with g1 | ⟨g1, g2⟩
                        all_goals
                          go_wp2_with fail
                          refine (ball_any (by omega) _ A9.out.b).mono ?_; rintro e w4 ⟨a4, cap4, rfl, r4, b4, _⟩
                          have A4 := Lib.hid (A9.out.below b4)
                          have R4 := Lib.hid r4
                          clear b4 r4
                          go_wp2_with fail
                          refine (wsame_any a4 _ _ cap4 _ ys _ R4.out A4.out.t.r rfl (by omega)).mono ?_; rintro e w5 ⟨rfl, b5⟩
                          have A5 := Lib.hid (A4.out.below b5)
                          clear b5
                          go_wp2_with fail
                          refine (blen_any _ A5.out.b).mono ?_; rintro e w' ⟨rfl, rfl⟩
                          go_wp2_with fail
                          go_roundw
                          case rel => exact ⟨k + 1, ys, v9, _, c9, by omega, by go_num, rfl, hxl, A5.out⟩
                          case measure => simp [intOf]; omega
                  · have hroom : (xs.length : Int) < most := by omega
                    have hxl2 : (((xs ++ [xs[j]]).length : Nat) : Int) ≤ most := by rw [show (xs ++ [xs[j]]).length = xs.length + 1 from by simp]; omega
                    have HBP := Lib.hid (fun (W : World) (h : Bg W w.heap.size v most xs) => btwin_room j hj hroom (by omega) W h)
                    have HRP := Lib.hid (rtwin_room ax xs.length cx xs most j rfl hj hroom (by omega) _ HA1.out.t)
                    obtain ⟨ys, hys⟩ : ∃ ys, xs ++ [xs[j]] = ys := ⟨_, rfl⟩
                    rw [hys] at HBP HRP hxl2
                    clear hys
                    refine HRP.out.mono ?_; rintro e w2 ⟨ay, cy, rfl, t2, b2, n2⟩
                    have A2 := Lib.hid (HA1.out.onR t2 b2 n2)
                    have X2 := Lib.hid (HX.out.below b2)
                    clear t2 b2 n2 HA1 HX HZ
                    have d1 := X2.out.cell 1
                    go_wp2_with fail
                    refine (HBP.out _ A2.out.b).mono ?_; rintro e w3 ⟨rfl, v3, b3, o3, n3⟩
                    have A9 := Lib.hid (A2.out.onB b3 o3 n3)
                    have X9 := Lib.hid (keep_blk X2.out o3 HF0.out)
                    clear b3 o3 n3 d1 A2 X2 HF0 hfull hxl HBP HRP
                    have hxl := hxl2
                    clear hxl2
                    generalize (j : Int) = pl at *
                    as_aux_lemma =>
                      generalize ys = ys at *
                      generalize v3 = v9 at *
                      generalize ay = a9 at *
                      generalize cy = c9 at *
                      have hyn : ys.length ≤ 64 := by omega
                      have d1 := X9.out.cell 1
                      have hne : ((ys.length : Int) != (ys.length : Int)) = false := by simp
                      go_wp2_with fail
                      by_cases hp : 0 ≤ pl ∧ pl < ys.length
                      · obtain ⟨j, rfl⟩ : ∃ j : Nat, pl = j := ⟨pl.toNat, by omega⟩
                        have hj : j < ys.length := by omega
                        clear hp
                        refine (bat_in j hj _ A9.out.b).mono ?_; rintro e w' ⟨rfl, rfl⟩
                        go_wp2_with fail
                        refine (ball_any (by omega) _ A9.out.b).mono ?_; rintro e w4 ⟨a4, cap4, rfl, r4, b4, _⟩
                        have A4 := Lib.hid (A9.out.below b4)
                        have X4 := Lib.hid (X9.out.below b4)
                        have R4 := Lib.hid r4
                        clear b4 r4 A9 X9 d1
                        go_wp2_with fail
                        refine (wsame_any a4 _ _ cap4 _ ys _ R4.out A4.out.t.r rfl (by omega)).mono ?_; rintro e w5 ⟨rfl, b5⟩
                        have A5 := Lib.hid (A4.out.below b5)
                        have X5 := Lib.hid (X4.out.below b5)
                        clear b5 A4 X4 R4
                        go_wp2_with fail
                        refine (blen_any _ A5.out.b).mono ?_; rintro e w' ⟨rfl, rfl⟩
                        have d1 := X5.out.cell 1
                        obtain ⟨b', off', ha', cj⟩ := RowAt.get A5.out.t.r (k := j) (v := .string ys[j]) (by simp [strs, List.getElem?_eq_getElem hj])
                        subst ha'
                        go_wp2_with fail
                        go_roundw
                        case rel => exact ⟨k + 1, ys, v9, _, c9, by omega, by go_num, rfl, hxl, A5.out⟩
                        case measure => simp [intOf]; omega
                      · refine (bat_far pl (by omega) _ (blen_any _ A9.out.b)).mono ?_; rintro e w' ⟨rfl, rfl⟩
                        have hd : decide (0 ≤ pl) = false ∨ (decide (0 ≤ pl) = true ∧ decide (pl < (ys.length : Int)) = false) := by
                          rcases (by omega : pl < 0 ∨ (0 ≤ pl ∧ (ys.length : Int) ≤ pl)) with h | ⟨h, h'⟩
                          · exact Or.inl (dle_f h)
                          · exact Or.inr ⟨dle_t h, dlt_f h'⟩
                        clear hp
                        rcases hd with g1 | ⟨g1, g2⟩
                        all_goals
                          go_wp2_with fail
                          refine (ball_any (by omega) _ A9.out.b).mono ?_; rintro e w4 ⟨a4, cap4, rfl, r4, b4, _⟩
                          have A4 := Lib.hid (A9.out.below b4)
                          have R4 := Lib.hid r4
                          clear b4 r4
                          go_wp2_with fail
                          refine (wsame_any a4 _ _ cap4 _ ys _ R4.out A4.out.t.r rfl (by omega)).mono ?_; rintro e w5 ⟨rfl, b5⟩
                          have A5 := Lib.hid (A4.out.below b5)
                          clear b5
                          go_wp2_with fail
                          refine (blen_any _ A5.out.b).mono ?_; rintro e w' ⟨rfl, rfl⟩
                          go_wp2_with fail
                          go_roundw
                          case rel => exact ⟨k + 1, ys, v9, _, c9, by omega, by go_num, rfl, hxl, A5.out⟩
                          case measure => simp [intOf]; omega
                · refine (rtwin_far ax xs.length cx most pl (by omega) _).mono ?_; rintro e w' ⟨rfl, rfl⟩
                  have d1 := HX.out.cell 1
                  go_wp2_with fail
                  refine (btwin_none pl _ (bat_far pl (by omega) _ (blen_any _ HA1.out.b))).mono ?_; rintro e w' ⟨rfl, rfl⟩
                  have A9 := HA1
                  have X9 := HX
                  clear hp d1 HA1 HX HZ HF0
                  as_aux_lemma =>
                    generalize xs = ys at *
                    generalize v = v9 at *
                    generalize ax = a9 at *
                    generalize cx = c9 at *
                    have hyn : ys.length ≤ 64 := by omega
                    have d1 := X9.out.cell 1
                    have hne : ((ys.length : Int) != (ys.length : Int)) = false := by simp
                    go_wp2_with fail
                    by_cases hp : 0 ≤ pl ∧ pl < ys.length
                    · obtain ⟨j, rfl⟩ : ∃ j : Nat, pl = j := ⟨pl.toNat, by omega⟩
                      have hj : j < ys.length := by omega
                      clear hp
                      refine (bat_in j hj _ A9.out.b).mono ?_; rintro e w' ⟨rfl, rfl⟩
                      go_wp2_with fail
                      refine (ball_any (by omega) _ A9.out.b).mono ?_; rintro e w4 ⟨a4, cap4, rfl, r4, b4, _⟩
                      have A4 := Lib.hid (A9.out.below b4)
                      have X4 := Lib.hid (X9.out.below b4)
                      have R4 := Lib.hid r4
                      clear b4 r4 A9 X9 d1
                      go_wp2_with fail
                      refine (wsame_any a4 _ _ cap4 _ ys _ R4.out A4.out.t.r rfl (by omega)).mono ?_; rintro e w5 ⟨rfl, b5⟩
                      have A5 := Lib.hid (A4.out.below b5)
                      have X5 := Lib.hid (X4.out.below b5)
                      clear b5 A4 X4 R4
                      go_wp2_with fail
                      refine (blen_any _ A5.out.b).mono ?_; rintro e w' ⟨rfl, rfl⟩
                      have d1 := X5.out.cell 1
                      obtain ⟨b', off', ha', cj⟩ := RowAt.get A5.out.t.r (k := j) (v := .string ys[j]) (by simp [strs, List.getElem?_eq_getElem hj])
                      subst ha'
                      go_wp2_with fail
                      go_roundw
                      case rel => exact ⟨k + 1, ys, v9, _, c9, by omega, by go_num, rfl, hxl, A5.out⟩
                      case measure => simp [intOf]; omega
                    · refine (bat_far pl (by omega) _ (blen_any _ A9.out.b)).mono ?_; rintro e w' ⟨rfl, rfl⟩
                      have hd : decide (0 ≤ pl) = false ∨ (decide (0 ≤ pl) = true ∧ decide (pl < (ys.length : Int)) = false) := by
                        rcases (by omega : pl < 0 ∨ (0 ≤ pl ∧ (ys.length : Int) ≤ pl)) with h | ⟨h, h'⟩
                        · exact Or.inl (dle_f h)
                        · exact Or.inr ⟨dle_t h, dlt_f h'⟩
                      clear hp
                      rcases hd with g1 | ⟨g1, g2⟩
                      all_goals
                        go_wp2_with fail
                        refine (ball_any (by omega) _ A9.out.b).mono ?_; rintro e w4 ⟨a4, cap4, rfl, r4, b4, _⟩
                        have A4 := Lib.hid (A9.out.below b4)
                        have R4 := Lib.hid r4
                        clear b4 r4
                        go_wp2_with fail
                        refine (wsame_any a4 _ _ cap4 _ ys _ R4.out A4.out.t.r rfl (by omega)).mono ?_; rintro e w5 ⟨rfl, b5⟩
                        have A5 := Lib.hid (A4.out.below b5)
                        clear b5
                        go_wp2_with fail
                        refine (blen_any _ A5.out.b).mono ?_; rintro e w' ⟨rfl, rfl⟩
                        go_wp2_with fail
                        go_roundw
                        case rel => exact ⟨k + 1, ys, v9, _, c9, by omega, by go_num, rfl, hxl, A5.out⟩
                        case measure => simp [intOf]; omega
              · have e2 := deq_f h2
                go_wp2_with fail
                have A9 := HA1
                have X9 := HX
                clear c0 c1 c2 HA1 HX HZ HF0
                as_aux_lemma =>
                  generalize xs = ys at *
                  generalize v = v9 at *
                  generalize ax = a9 at *
                  generalize cx = c9 at *
                  have hyn : ys.length ≤ 64 := by omega
                  have d1 := X9.out.cell 1
                  have hne : ((ys.length : Int) != (ys.length : Int)) = false := by simp
                  go_wp2_with fail
                  by_cases hp : 0 ≤ pl ∧ pl < ys.length
                  · obtain ⟨j, rfl⟩ : ∃ j : Nat, pl = j := ⟨pl.toNat, by omega⟩
                    have hj : j < ys.length := by omega
                    clear hp
                    refine (bat_in j hj _ A9.out.b).mono ?_; rintro e w' ⟨rfl, rfl⟩
                    go_wp2_with fail
                    refine (ball_any (by omega) _ A9.out.b).mono ?_; rintro e w4 ⟨a4, cap4, rfl, r4, b4, _⟩
                    have A4 := Lib.hid (A9.out.below b4)
                    have X4 := Lib.hid (X9.out.below b4)
                    have R4 := Lib.hid r4
                    clear b4 r4 A9 X9 d1
                    go_wp2_with fail
                    refine (wsame_any a4 _ _ cap4 _ ys _ R4.out A4.out.t.r rfl (by omega)).mono ?_; rintro e w5 ⟨rfl, b5⟩
                    have A5 := Lib.hid (A4.out.below b5)
                    have X5 := Lib.hid (X4.out.below b5)
                    clear b5 A4 X4 R4
                    go_wp2_with fail
                    refine (blen_any _ A5.out.b).mono ?_; rintro e w' ⟨rfl, rfl⟩
                    have d1 := X5.out.cell 1
                    obtain ⟨b', off', ha', cj⟩ := RowAt.get A5.out.t.r (k := j) (v := .string ys[j]) (by simp [strs, List.getElem?_eq_getElem hj])
                    subst ha'
                    go_wp2_with fail
                    go_roundw
                    case rel => exact ⟨k + 1, ys, v9, _, c9, by omega, by go_num, rfl, hxl, A5.out⟩
                    case measure => simp [intOf]; omega
                  · refine (bat_far pl (by omega) _ (blen_any _ A9.out.b)).mono ?_; rintro e w' ⟨rfl, rfl⟩
                    have hd : decide (0 ≤ pl) = false ∨ (decide (0 ≤ pl) = true ∧ decide (pl < (ys.length : Int)) = false) := by
                      rcases (by omega : pl < 0 ∨ (0 ≤ pl ∧ (ys.length : Int) ≤ pl)) with h | ⟨h, h'⟩
                      · exact Or.inl (dle_f h)
                      · exact Or.inr ⟨dle_t h, dlt_f h'⟩
                    clear hp
                    rcases hd with g1 | ⟨g1, g2⟩
                    all_goals
                      go_wp2_with fail
                      refine (ball_any (by omega) _ A9.out.b).mono ?_; rintro e w4 ⟨a4, cap4, rfl, r4, b4, _⟩
                      have A4 := Lib.hid (A9.out.below b4)
                      have R4 := Lib.hid r4
                      clear b4 r4
                      go_wp2_with fail
                      refine (wsame_any a4 _ _ cap4 _ ys _ R4.out A4.out.t.r rfl (by omega)).mono ?_; rintro e w5 ⟨rfl, b5⟩
                      have A5 := Lib.hid (A4.out.below b5)
                      clear b5
                      go_wp2_with fail
                      refine (blen_any _ A5.out.b).mono ?_; rintro e w' ⟨rfl, rfl⟩
                      go_wp2_with fail
                      go_roundw
                      case rel => exact ⟨k + 1, ys, v9, _, c9, by omega, by go_num, rfl, hxl, A5.out⟩
                      case measure => simp [intOf]; omega
        · have HB := Lib.hid HA.out.bl
          go_wp2_with fail
          refine (awake36 _).mono ?_; rintro e w2 ⟨rfl, b2⟩
          go_wp2_with fail
          go_ret
          exact ⟨rfl, HB.out.trans (b2.mono HB.out.size)⟩
end Go.Proofs.Ytibbeedodlnhjaa
