/-
  The walk of the law BagKeeps of layer 36.
-/
import Derived.Test.YtibbeedodlnhjaaL36LawB
namespace Go.Proofs.Ytibbeedodlnhjaa
open Go.RowKit
theorem get_erase_lt {α : Type} (l : List α) (j k : Nat) (hk : k < j) (h1 : k < l.length) (h2 : k < (l.eraseIdx j).length) : (l.eraseIdx j)[k] = l[k] := by
  rw [List.getElem_eraseIdx]; rw [dif_pos hk]
theorem get_erase_ge {α : Type} (l : List α) (j k : Nat) (hk : j ≤ k) (h1 : k + 1 < l.length) (h2 : k < (l.eraseIdx j).length) : (l.eraseIdx j)[k] = l[k + 1] := by
  rw [List.getElem_eraseIdx]; rw [dif_neg (by omega)]
set_option maxRecDepth 100000 in
set_option maxHeartbeats 8000000 in
theorem w_BagKeeps (w : World) (m0 : Int) (hm0 : (Lit.int .u8 m0).wf = true) (a : Option Addr) (len cap : Nat) (f : Nat → Nat → Value) (hF : FldV w a len 3 f) (hl : len ≤ maxLen) (hT : ∀ i j, i < len → j < 3 → Typed ([3, 3, 9].getD j 0) (f i j)) :
    Calls Try.prog 4 #[.int .u8 m0, .slice a len cap] w fun e w' => e = .returned (.bool true) ∧ Below w.heap.size w w' := by
  have HFEW := Lib.hid (few_any a len cap f w hF hl hT)
  have HF := Lib.hid hF
  have HT := Lib.hid hT
  obtain ⟨hu1, hu2⟩ : IntKind.u8.min ≤ m0 ∧ m0 ≤ IntKind.u8.max := by simpa [Lit.wf] using hm0
  have hu1 : 0 ≤ m0 := hu1
  have hu2 : m0 ≤ 255 := hu2
  clear hF hT hm0
  unfold maxLen at hl
  go_enter Try.func4, Try.ntmps4
  go_wp2_with fail
  refine HFEW.out.mono ?_; rintro e w' ⟨b, rfl, hb, rfl⟩
  clear HFEW
  cases b with
  | false =>
    clear hb
    go_wp2_with fail
    refine (awake36 _).mono ?_; rintro e w1 ⟨rfl, b1⟩
    go_wp2_with fail
    go_ret
    exact ⟨rfl, b1⟩
  | true =>
    have hlen := hb rfl
    clear hb
    go_wp2_with fail
    have hn0 : 0 ≤ m0 % 65 := by omega
    have hn1 : m0 % 65 ≤ 64 := by omega
    generalize m0 % 65 = n at *
    refine (bnew_ok n hn0 hn1 _).mono ?_; rintro e w1 ⟨rfl, t1, b1⟩
    have A0 := Lib.hid (show Q36 w n (.slice none 0 0) [] [] none 0 w1 from ⟨b1, t1, Tx.nil _, fun x hx => by cases hx⟩)
    clear t1 b1
    go_wp2_with fail
    go_loopw [8] (fun i wr => ∃ (k : Nat) (xs : List ByteArray) (v : Value), k ≤ len ∧ i = .int .i64 k ∧ (xs.length : Int) ≤ n ∧ Q36 w n v xs [] none 0 wr) (fun i _ => len - (intOf i).toNat)
    case atStart => exact ⟨0, [], _, Nat.zero_le _, rfl, by simpa using hn0, A0.out⟩
    case round =>
      obtain ⟨k, xs, v, hk, rfl, hxl, hA⟩ := hrel
      have HA := Lib.hid hA
      clear A0 hA
      by_cases hlt : k < len
      · obtain ⟨b, off, ha, hc⟩ := HF.out.get hlt
        subst ha
        obtain ⟨kd, e0, _⟩ := (HT.out k 0 hlt (by omega)).1 rfl
        obtain ⟨pl, e1, _⟩ := (HT.out k 1 hlt (by omega)).1 rfl
        obtain ⟨tx, e2, _⟩ := (HT.out k 2 hlt (by omega)).2.2 rfl
        have hb0 : b < w.heap.size := cell_lt (hc 0 (by omega))
        have AT := Lib.hid (fun (W : World) (h : Below w.heap.size w W) => (show W.cell? ⟨b, off + k * 3, none⟩ = some (.int .i64 kd) ∧ W.cell? ⟨b, off + k * 3 + 1, none⟩ = some (.int .i64 pl) ∧ W.cell? ⟨b, off + k * 3 + 2, none⟩ = some (.string tx) from
          ⟨(h.cell (p := ⟨b, off + k * 3, none⟩) hb0).trans ((hc 0 (by omega)).trans (congrArg some e0)), (h.cell (p := ⟨b, off + k * 3 + 1, none⟩) hb0).trans ((hc 1 (by omega)).trans (congrArg some e1)), (h.cell (p := ⟨b, off + k * 3 + 2, none⟩) hb0).trans ((hc 2 (by omega)).trans (congrArg some e2))⟩))
        clear hc e0 e1 e2 hb0
        have hxn : xs.length ≤ 64 := by omega
        go_wp2_with fail
        refine (ball_any (by omega) _ HA.out.b).mono ?_; rintro e w2 ⟨a2, c2, rfl, r2, b2, n2, hc2, hm2⟩
        have A1 := Lib.hid (HA.out.onR (a' := a2) (c' := c2) ⟨r2, hc2, hm2⟩ b2 n2)
        clear r2 b2 n2 HA hc2 hm2
        have p1 := AT.out w2 A1.out.bl
        by_cases h0 : kd = 0
        · subst h0
          go_wp2_with fail
          by_cases hfull : n ≤ xs.length
          · refine (bput_full tx hfull _ A1.out.b).mono ?_; rintro e w3 ⟨rfl, b3⟩
            have A9 := Lib.hid (A1.out.below b3)
            have hk2 : ((0 : Int) == 1) = false := by decide
            clear b3 A1 p1 hfull hk2
            have p1 := AT.out w3 A9.out.bl
            as_aux_lemma =>
              have hne : ((xs.length : Int) != (xs.length : Int)) = false := by simp
              go_wp2_with fail
              refine (ball_any (by omega) _ A9.out.b).mono ?_; rintro e w4 ⟨a4, c4, rfl, r4, b4, _⟩
              have A4 := Lib.hid (A9.out.below b4)
              have R4 := Lib.hid r4
              clear b4 r4 A9 p1
              go_wp2_with fail
              obtain ⟨wo, rfl⟩ : ∃ wo : World, wo = wr := ⟨_, rfl⟩
              go_loopw [16] (fun i wr => ∃ m : Nat, m ≤ xs.length ∧ m ≤ xs.length ∧ i = .int .i64 m ∧ Below w4.heap.size w4 wr) (fun i _ => xs.length - (intOf i).toNat)
              case atStart => exact ⟨0, Nat.zero_le _, Nat.zero_le _, rfl, Below.refl _ _⟩
              case round =>
                obtain ⟨m, hm, hm', rfl, hb⟩ := hrel
                have HB := Lib.hid hb
                clear hb
                by_cases hml : m < xs.length ∧ m < xs.length
                · obtain ⟨hml, hml'⟩ := hml
                  obtain ⟨b5, off5, ha5, q1⟩ := RowAt.get (RowAt.below A4.out.t.r HB.out) (k := m) (v := .string (xs[m]'hml)) (by simp [strs, List.getElem?_eq_getElem (show m < xs.length from hml)])
                  obtain ⟨b6, off6, ha6, q2⟩ := RowAt.get (RowAt.below R4.out HB.out) (k := m) (v := .string (xs[m]'hml')) (by simp [strs, List.getElem?_eq_getElem hml'])
                  subst ha5 ha6
                  rw [show xs[m]'hml' = xs[m]'hml from rfl] at q2
                  generalize xs[m]'hml = x at *
                  go_upto_region 30 with (fail)
                  refine wp_region_held_drew (S := (fun W => (W.cell? ⟨b6, off6 + m, none⟩ = some (.string x) ∧ W.cell? ⟨b5, off5 + m, none⟩ = some (.string x)) ∧ Below w4.heap.size w4 W)) (by kernel_rfl) ?_ (fun hHeld => ?_)
                  · (try dsimp only); exact ⟨⟨q2, q1⟩, HB.out.drew⟩
                  refine wpD_go (by kernel_rfl) _ _ _ _ (by assumption) ?_
                  refine wpD_step (i := 0) (o := { dst := some 118, op := Op.move (Operand.tmp 16), type := 3, pos := "law.go:111", after := #[], guard := none }) (v := ?_) rfl (by kernel_rfl) (by kernel_rfl) ?_ ?_
                  rotate_left
                  · refine gives_pure (by rfl) ?_
                    intro w0 hSw; (try dsimp only at hSw); go_simp; (try with_reducible rfl)
                  try simp only [Act.put, List.setIfInBounds_toArray, List.set_cons_zero, List.set_cons_succ]
                  refine wpD_step (i := 1) (o := { dst := some 119, op := Op.move (Operand.tmp 11), type := 3, pos := "law.go:111", after := #[], guard := none }) (v := ?_) rfl (by kernel_rfl) (by kernel_rfl) ?_ ?_
                  rotate_left
                  · refine gives_pure (by rfl) ?_
                    intro w0 hSw; (try dsimp only at hSw); go_simp; (try with_reducible rfl)
                  try simp only [Act.put, List.setIfInBounds_toArray, List.set_cons_zero, List.set_cons_succ]
                  refine wpD_step (i := 2) (o := { dst := some 120, op := Op.binOp BinOp.lss 3 (Operand.tmp 118) (Operand.tmp 119) 3, type := 4, pos := "law.go:111", after := #[{ on := 0, ground := Ground.data }, { on := 1, ground := Ground.data }], guard := none }) (v := (Value.bool (true))) rfl (by kernel_rfl) (by kernel_rfl) ?_ ?_
                  · refine gives_pure (by rfl) ?_
                    intro w0 hSw; (try dsimp only at hSw); go_simp; (try with_reducible rfl)
                  try simp only [Act.put, List.setIfInBounds_toArray, List.set_cons_zero, List.set_cons_succ]
                  refine wpD_step (i := 3) (o := { dst := some 121, op := Op.move (Operand.tmp 120), type := 4, pos := "law.go:111", after := #[{ on := 2, ground := Ground.data }], guard := none }) (v := (Value.bool (true))) rfl (by kernel_rfl) (by kernel_rfl) ?_ ?_
                  · refine gives_pure (by rfl) ?_
                    intro w0 hSw; (try dsimp only at hSw); go_simp; (try with_reducible rfl)
                  try simp only [Act.put, List.setIfInBounds_toArray, List.set_cons_zero, List.set_cons_succ]
                  refine wpD_step (i := 4) (o := { dst := some 122, op := Op.move (Operand.tmp 14), type := 29, pos := "law.go:111", after := #[{ on := 3, ground := Ground.guard }], guard := some (3, true) }) (v := ?_) rfl (by kernel_rfl) (by kernel_rfl) ?_ ?_
                  rotate_left
                  · refine gives_pure (by rfl) ?_
                    intro w0 hSw; (try dsimp only at hSw); go_simp; (try with_reducible rfl)
                  try simp only [Act.put, List.setIfInBounds_toArray, List.set_cons_zero, List.set_cons_succ]
                  refine wpD_step (i := 5) (o := { dst := some 123, op := Op.move (Operand.tmp 16), type := 3, pos := "law.go:111", after := #[{ on := 3, ground := Ground.guard }], guard := some (3, true) }) (v := ?_) rfl (by kernel_rfl) (by kernel_rfl) ?_ ?_
                  rotate_left
                  · refine gives_pure (by rfl) ?_
                    intro w0 hSw; (try dsimp only at hSw); go_simp; (try with_reducible rfl)
                  try simp only [Act.put, List.setIfInBounds_toArray, List.set_cons_zero, List.set_cons_succ]
                  refine wpD_step (i := 6) (o := { dst := some 124, op := Op.indexAddr 29 (Operand.tmp 122) (Operand.tmp 123), type := 0, pos := "law.go:111", after := #[{ on := 4, ground := Ground.data }, { on := 5, ground := Ground.data }, { on := 3, ground := Ground.guard }], guard := some (3, true) }) (v := ?_) rfl (by kernel_rfl) (by kernel_rfl) ?_ ?_
                  rotate_left
                  · refine gives_pure (by rfl) ?_
                    intro w0 hSw; (try dsimp only at hSw); go_simp; (try with_reducible rfl)
                  try simp only [Act.put, List.setIfInBounds_toArray, List.set_cons_zero, List.set_cons_succ]
                  refine wpD_step (i := 7) (o := { dst := some 125, op := Op.load 9 (Operand.tmp 124), type := 9, pos := "law.go:111", after := #[{ on := 6, ground := Ground.data }, { on := 3, ground := Ground.guard }], guard := some (3, true) }) (v := ?_) rfl (by kernel_rfl) (by kernel_rfl) ?_ ?_
                  rotate_left
                  · refine gives_pure (by rfl) ?_
                    intro w0 hSw; (try dsimp only at hSw); go_simp; (try with_reducible rfl)
                  try simp only [Act.put, List.setIfInBounds_toArray, List.set_cons_zero, List.set_cons_succ]
                  refine wpD_step (i := 8) (o := { dst := some 126, op := Op.move (Operand.tmp 9), type := 29, pos := "law.go:111", after := #[{ on := 3, ground := Ground.guard }], guard := some (3, true) }) (v := ?_) rfl (by kernel_rfl) (by kernel_rfl) ?_ ?_
                  rotate_left
                  · refine gives_pure (by rfl) ?_
                    intro w0 hSw; (try dsimp only at hSw); go_simp; (try with_reducible rfl)
                  try simp only [Act.put, List.setIfInBounds_toArray, List.set_cons_zero, List.set_cons_succ]
                  refine wpD_step (i := 9) (o := { dst := some 127, op := Op.move (Operand.tmp 16), type := 3, pos := "law.go:111", after := #[{ on := 3, ground := Ground.guard }], guard := some (3, true) }) (v := ?_) rfl (by kernel_rfl) (by kernel_rfl) ?_ ?_
                  rotate_left
                  · refine gives_pure (by rfl) ?_
                    intro w0 hSw; (try dsimp only at hSw); go_simp; (try with_reducible rfl)
                  try simp only [Act.put, List.setIfInBounds_toArray, List.set_cons_zero, List.set_cons_succ]
                  refine wpD_step (i := 10) (o := { dst := some 128, op := Op.indexAddr 29 (Operand.tmp 126) (Operand.tmp 127), type := 0, pos := "law.go:111", after := #[{ on := 8, ground := Ground.data }, { on := 9, ground := Ground.data }, { on := 3, ground := Ground.guard }], guard := some (3, true) }) (v := ?_) rfl (by kernel_rfl) (by kernel_rfl) ?_ ?_
                  rotate_left
                  · refine gives_pure (by rfl) ?_
                    intro w0 hSw; (try dsimp only at hSw); go_simp; (try with_reducible rfl)
                  try simp only [Act.put, List.setIfInBounds_toArray, List.set_cons_zero, List.set_cons_succ]
                  refine wpD_step (i := 11) (o := { dst := some 129, op := Op.load 9 (Operand.tmp 128), type := 9, pos := "law.go:111", after := #[{ on := 10, ground := Ground.data }, { on := 3, ground := Ground.guard }], guard := some (3, true) }) (v := ?_) rfl (by kernel_rfl) (by kernel_rfl) ?_ ?_
                  rotate_left
                  · refine gives_pure (by rfl) ?_
                    intro w0 hSw; (try dsimp only at hSw); go_simp; (try with_reducible rfl)
                  try simp only [Act.put, List.setIfInBounds_toArray, List.set_cons_zero, List.set_cons_succ]
                  refine wpD_step (i := 12) (o := { dst := some 130, op := Op.binOp BinOp.neq 9 (Operand.tmp 125) (Operand.tmp 129) 9, type := 4, pos := "law.go:111", after := #[{ on := 7, ground := Ground.data }, { on := 11, ground := Ground.data }, { on := 3, ground := Ground.guard }], guard := some (3, true) }) (v := (Value.bool (false))) rfl (by kernel_rfl) (by kernel_rfl) ?_ ?_
                  · refine gives_pure (by rfl) ?_
                    intro w0 hSw; first | rfl | ((try dsimp only at hSw); go_simp; (try with_reducible rfl))
                  try simp only [Act.put, List.setIfInBounds_toArray, List.set_cons_zero, List.set_cons_succ]
                  refine wpD_step (i := 13) (o := { dst := some 131, op := Op.pick (Operand.tmp 121) (Operand.tmp 130) (Operand.const (Value.bool false)), type := 4, pos := "law.go:111", after := #[{ on := 3, ground := Ground.data }, { on := 12, ground := Ground.data }], guard := none }) (v := (Value.bool (false))) rfl (by kernel_rfl) (by kernel_rfl) ?_ ?_
                  · refine gives_pure (by rfl) ?_
                    intro w0 hSw; first | rfl | ((try dsimp only at hSw); go_simp; (try with_reducible rfl))
                  try simp only [Act.put, List.setIfInBounds_toArray, List.set_cons_zero, List.set_cons_succ]
                  refine wpD_step (i := 14) (o := { dst := some 132, op := Op.move (Operand.tmp 131), type := 4, pos := "law.go:111", after := #[{ on := 13, ground := Ground.data }, { on := 3, ground := Ground.chain }], guard := none }) (v := (Value.bool (false))) rfl (by kernel_rfl) (by kernel_rfl) ?_ ?_
                  · refine gives_pure (by rfl) ?_
                    intro w0 hSw; (try dsimp only at hSw); go_simp; (try with_reducible rfl)
                  try simp only [Act.put, List.setIfInBounds_toArray, List.set_cons_zero, List.set_cons_succ]
                  refine wpD_step (i := 15) (o := { dst := some 133, op := Op.move (Operand.tmp 16), type := 3, pos := "law.go:111", after := #[{ on := 14, ground := Ground.guard }], guard := some (14, false) }) (v := ?_) rfl (by kernel_rfl) (by kernel_rfl) ?_ ?_
                  rotate_left
                  · refine gives_pure (by rfl) ?_
                    intro w0 hSw; (try dsimp only at hSw); go_simp; (try with_reducible rfl)
                  try simp only [Act.put, List.setIfInBounds_toArray, List.set_cons_zero, List.set_cons_succ]
                  refine wpD_step (i := 16) (o := { dst := some 134, op := Op.move (Operand.tmp 11), type := 3, pos := "law.go:111", after := #[{ on := 14, ground := Ground.guard }], guard := some (14, false) }) (v := ?_) rfl (by kernel_rfl) (by kernel_rfl) ?_ ?_
                  rotate_left
                  · refine gives_pure (by rfl) ?_
                    intro w0 hSw; (try dsimp only at hSw); go_simp; (try with_reducible rfl)
                  try simp only [Act.put, List.setIfInBounds_toArray, List.set_cons_zero, List.set_cons_succ]
                  refine wpD_step (i := 17) (o := { dst := some 135, op := Op.binOp BinOp.geq 3 (Operand.tmp 133) (Operand.tmp 134) 3, type := 4, pos := "law.go:111", after := #[{ on := 15, ground := Ground.data }, { on := 16, ground := Ground.data }, { on := 14, ground := Ground.guard }], guard := some (14, false) }) (v := (Value.bool (false))) rfl (by kernel_rfl) (by kernel_rfl) ?_ ?_
                  · refine gives_pure (by rfl) ?_
                    intro w0 hSw; (try dsimp only at hSw); go_simp; (try with_reducible rfl)
                  try simp only [Act.put, List.setIfInBounds_toArray, List.set_cons_zero, List.set_cons_succ]
                  refine wpD_step (i := 18) (o := { dst := some 136, op := Op.move (Operand.tmp 135), type := 4, pos := "law.go:111", after := #[{ on := 17, ground := Ground.data }, { on := 14, ground := Ground.chain }, { on := 14, ground := Ground.guard }], guard := some (14, false) }) (v := (Value.bool (false))) rfl (by kernel_rfl) (by kernel_rfl) ?_ ?_
                  · refine gives_pure (by rfl) ?_
                    intro w0 hSw; (try dsimp only at hSw); go_simp; (try with_reducible rfl)
                  try simp only [Act.put, List.setIfInBounds_toArray, List.set_cons_zero, List.set_cons_succ]
                  refine wpD_step (i := 19) (o := { dst := some 137, op := Op.move (Operand.tmp 16), type := 3, pos := "law.go:111", after := #[{ on := 18, ground := Ground.guard }], guard := some (18, true) }) (v := undef) rfl (by kernel_rfl) (by kernel_rfl) (gives_not (by rfl)) ?_
                  try simp only [Act.put, List.setIfInBounds_toArray, List.set_cons_zero, List.set_cons_succ]
                  refine wpD_step (i := 20) (o := { dst := some 138, op := Op.binOp BinOp.add 3 (Operand.tmp 137) (Operand.const (Value.int IntKind.i64 1)) 3, type := 3, pos := "law.go:111", after := #[{ on := 19, ground := Ground.data }, { on := 18, ground := Ground.guard }], guard := some (18, true) }) (v := undef) rfl (by kernel_rfl) (by kernel_rfl) (gives_not (by rfl)) ?_
                  try simp only [Act.put, List.setIfInBounds_toArray, List.set_cons_zero, List.set_cons_succ]
                  refine wpD_step (i := 21) (o := { dst := some 139, op := Op.move (Operand.tmp 9), type := 29, pos := "law.go:111", after := #[{ on := 18, ground := Ground.guard }], guard := some (18, true) }) (v := undef) rfl (by kernel_rfl) (by kernel_rfl) (gives_not (by rfl)) ?_
                  try simp only [Act.put, List.setIfInBounds_toArray, List.set_cons_zero, List.set_cons_succ]
                  refine wpD_step (i := 22) (o := { dst := some 140, op := Op.call { callee := Callee.builtin Builtin.len, args := #[Operand.tmp 139], argTypes := #[29] }, type := 3, pos := "law.go:111", after := #[{ on := 21, ground := Ground.data }, { on := 18, ground := Ground.guard }], guard := some (18, true) }) (v := undef) rfl (by kernel_rfl) (by kernel_rfl) (gives_not (by rfl)) ?_
                  try simp only [Act.put, List.setIfInBounds_toArray, List.set_cons_zero, List.set_cons_succ]
                  refine wpD_step (i := 23) (o := { dst := some 141, op := Op.binOp BinOp.lss 3 (Operand.tmp 138) (Operand.tmp 140) 3, type := 4, pos := "law.go:111", after := #[{ on := 20, ground := Ground.data }, { on := 22, ground := Ground.data }, { on := 18, ground := Ground.guard }], guard := some (18, true) }) (v := undef) rfl (by kernel_rfl) (by kernel_rfl) (gives_not (by rfl)) ?_
                  try simp only [Act.put, List.setIfInBounds_toArray, List.set_cons_zero, List.set_cons_succ]
                  refine wpD_step (i := 24) (o := { dst := some 142, op := Op.pick (Operand.tmp 136) (Operand.tmp 141) (Operand.const (Value.bool false)), type := 4, pos := "law.go:111", after := #[{ on := 18, ground := Ground.data }, { on := 23, ground := Ground.data }, { on := 14, ground := Ground.guard }], guard := some (14, false) }) (v := (Value.bool (false))) rfl (by kernel_rfl) (by kernel_rfl) ?_ ?_
                  · refine gives_pure (by rfl) ?_
                    intro w0 hSw; first | rfl | ((try dsimp only at hSw); go_simp; (try with_reducible rfl))
                  try simp only [Act.put, List.setIfInBounds_toArray, List.set_cons_zero, List.set_cons_succ]
                  refine wpD_step (i := 25) (o := { dst := some 143, op := Op.move (Operand.tmp 142), type := 4, pos := "law.go:111", after := #[{ on := 24, ground := Ground.data }, { on := 18, ground := Ground.chain }, { on := 14, ground := Ground.guard }], guard := some (14, false) }) (v := (Value.bool (false))) rfl (by kernel_rfl) (by kernel_rfl) ?_ ?_
                  · refine gives_pure (by rfl) ?_
                    intro w0 hSw; (try dsimp only at hSw); go_simp; (try with_reducible rfl)
                  try simp only [Act.put, List.setIfInBounds_toArray, List.set_cons_zero, List.set_cons_succ]
                  refine wpD_step (i := 26) (o := { dst := some 144, op := Op.move (Operand.tmp 14), type := 29, pos := "law.go:111", after := #[{ on := 25, ground := Ground.guard }], guard := some (25, true) }) (v := undef) rfl (by kernel_rfl) (by kernel_rfl) (gives_not (by rfl)) ?_
                  try simp only [Act.put, List.setIfInBounds_toArray, List.set_cons_zero, List.set_cons_succ]
                  refine wpD_step (i := 27) (o := { dst := some 145, op := Op.move (Operand.tmp 16), type := 3, pos := "law.go:111", after := #[{ on := 25, ground := Ground.guard }], guard := some (25, true) }) (v := undef) rfl (by kernel_rfl) (by kernel_rfl) (gives_not (by rfl)) ?_
                  try simp only [Act.put, List.setIfInBounds_toArray, List.set_cons_zero, List.set_cons_succ]
                  refine wpD_step (i := 28) (o := { dst := some 146, op := Op.indexAddr 29 (Operand.tmp 144) (Operand.tmp 145), type := 0, pos := "law.go:111", after := #[{ on := 26, ground := Ground.data }, { on := 27, ground := Ground.data }, { on := 25, ground := Ground.guard }], guard := some (25, true) }) (v := undef) rfl (by kernel_rfl) (by kernel_rfl) (gives_not (by rfl)) ?_
                  try simp only [Act.put, List.setIfInBounds_toArray, List.set_cons_zero, List.set_cons_succ]
                  refine wpD_step (i := 29) (o := { dst := some 147, op := Op.load 9 (Operand.tmp 146), type := 9, pos := "law.go:111", after := #[{ on := 28, ground := Ground.data }, { on := 25, ground := Ground.guard }], guard := some (25, true) }) (v := undef) rfl (by kernel_rfl) (by kernel_rfl) (gives_not (by rfl)) ?_
                  try simp only [Act.put, List.setIfInBounds_toArray, List.set_cons_zero, List.set_cons_succ]
                  refine wpD_step (i := 30) (o := { dst := some 148, op := Op.move (Operand.tmp 9), type := 29, pos := "law.go:111", after := #[{ on := 25, ground := Ground.guard }], guard := some (25, true) }) (v := undef) rfl (by kernel_rfl) (by kernel_rfl) (gives_not (by rfl)) ?_
                  try simp only [Act.put, List.setIfInBounds_toArray, List.set_cons_zero, List.set_cons_succ]
                  refine wpD_step (i := 31) (o := { dst := some 149, op := Op.move (Operand.tmp 16), type := 3, pos := "law.go:111", after := #[{ on := 25, ground := Ground.guard }], guard := some (25, true) }) (v := undef) rfl (by kernel_rfl) (by kernel_rfl) (gives_not (by rfl)) ?_
                  try simp only [Act.put, List.setIfInBounds_toArray, List.set_cons_zero, List.set_cons_succ]
                  refine wpD_step (i := 32) (o := { dst := some 150, op := Op.binOp BinOp.add 3 (Operand.tmp 149) (Operand.const (Value.int IntKind.i64 1)) 3, type := 3, pos := "law.go:111", after := #[{ on := 31, ground := Ground.data }, { on := 25, ground := Ground.guard }], guard := some (25, true) }) (v := undef) rfl (by kernel_rfl) (by kernel_rfl) (gives_not (by rfl)) ?_
                  try simp only [Act.put, List.setIfInBounds_toArray, List.set_cons_zero, List.set_cons_succ]
                  refine wpD_step (i := 33) (o := { dst := some 151, op := Op.indexAddr 29 (Operand.tmp 148) (Operand.tmp 150), type := 0, pos := "law.go:111", after := #[{ on := 30, ground := Ground.data }, { on := 32, ground := Ground.data }, { on := 25, ground := Ground.guard }], guard := some (25, true) }) (v := undef) rfl (by kernel_rfl) (by kernel_rfl) (gives_not (by rfl)) ?_
                  try simp only [Act.put, List.setIfInBounds_toArray, List.set_cons_zero, List.set_cons_succ]
                  refine wpD_step (i := 34) (o := { dst := some 152, op := Op.load 9 (Operand.tmp 151), type := 9, pos := "law.go:111", after := #[{ on := 33, ground := Ground.data }, { on := 25, ground := Ground.guard }], guard := some (25, true) }) (v := undef) rfl (by kernel_rfl) (by kernel_rfl) (gives_not (by rfl)) ?_
                  try simp only [Act.put, List.setIfInBounds_toArray, List.set_cons_zero, List.set_cons_succ]
                  refine wpD_step (i := 35) (o := { dst := some 153, op := Op.binOp BinOp.neq 9 (Operand.tmp 147) (Operand.tmp 152) 9, type := 4, pos := "law.go:111", after := #[{ on := 29, ground := Ground.data }, { on := 34, ground := Ground.data }, { on := 25, ground := Ground.guard }], guard := some (25, true) }) (v := undef) rfl (by kernel_rfl) (by kernel_rfl) (gives_not (by rfl)) ?_
                  try simp only [Act.put, List.setIfInBounds_toArray, List.set_cons_zero, List.set_cons_succ]
                  refine wpD_step (i := 36) (o := { dst := some 154, op := Op.pick (Operand.tmp 143) (Operand.tmp 153) (Operand.const (Value.bool false)), type := 4, pos := "law.go:111", after := #[{ on := 25, ground := Ground.data }, { on := 35, ground := Ground.data }, { on := 14, ground := Ground.guard }], guard := some (14, false) }) (v := (Value.bool (false))) rfl (by kernel_rfl) (by kernel_rfl) ?_ ?_
                  · refine gives_pure (by rfl) ?_
                    intro w0 hSw; first | rfl | ((try dsimp only at hSw); go_simp; (try with_reducible rfl))
                  try simp only [Act.put, List.setIfInBounds_toArray, List.set_cons_zero, List.set_cons_succ]
                  refine wpD_step (i := 37) (o := { dst := some 155, op := Op.pick (Operand.tmp 132) (Operand.const (Value.bool true)) (Operand.tmp 154), type := 4, pos := "law.go:111", after := #[{ on := 14, ground := Ground.data }, { on := 36, ground := Ground.data }], guard := none }) (v := (Value.bool (false))) rfl (by kernel_rfl) (by kernel_rfl) ?_ ?_
                  · refine gives_pure (by rfl) ?_
                    intro w0 hSw; first | rfl | ((try dsimp only at hSw); go_simp; (try with_reducible rfl))
                  try simp only [Act.put, List.setIfInBounds_toArray, List.set_cons_zero, List.set_cons_succ]
                  refine wpD_done (by kernel_rfl) (fun wz hHeld => ?_) _
                  go_wp2_with fail
                  go_roundw
                  case rel => exact ⟨m + 1, by omega, by omega, by go_num, hHeld.2⟩
                  case measure => simp [intOf]; omega
                · have hd : (decide ((m : Int) < (xs.length : Int)) = false) ∨ (decide ((m : Int) < (xs.length : Int)) = true ∧ decide ((m : Int) < (xs.length : Int)) = false) := by
                    rcases (by omega : xs.length ≤ m ∨ (m < xs.length ∧ xs.length ≤ m)) with h | ⟨h, h'⟩
                    · exact Or.inl (dlt_f (by omega))
                    · exact Or.inr ⟨dlt_t (by omega), dlt_f (by omega)⟩
                  rcases hd with g1 | ⟨g1, g2⟩
                  all_goals
                    go_wp2_with fail
                    go_roundw
                    case rel => exact ⟨k + 1, xs, _, by omega, by go_num, hxl, (A4.out.below HB.out).onR (Tx.nil _) (Below.refl _ _) (fun x hx => by cases hx)⟩
                    case measure => simp [intOf]; omega
          · have hroom : (xs.length : Int) < n := by omega
            refine (bput_room tx hroom (by omega) _ A1.out.b).mono ?_; rintro e w3 ⟨rfl, v3, b3, o3, n3⟩
            have A9 := Lib.hid (A1.out.onB b3 o3 n3)
            clear b3 o3 n3 A1 p1 hfull
            have p1 := AT.out w3 A9.out.bl
            as_aux_lemma =>
              obtain ⟨ys, hys⟩ : ∃ ys, xs ++ [tx] = ys := ⟨_, rfl⟩
              rw [hys] at A9
              have hyl : ys.length = xs.length + 1 := by rw [← hys]; simp
              have hne : ((ys.length : Int) != (xs.length : Int) + 1) = false := by simp; omega
              have hyl1 : ys.length ≤ xs.length + 1 := by omega
              have hyl2 : xs.length + 1 ≤ ys.length := by omega
              clear hyl
              go_wp2_with fail
              refine (ball_any (by omega) _ A9.out.b).mono ?_; rintro e w4 ⟨a4, c4, rfl, r4, b4, _⟩
              have A4 := Lib.hid (A9.out.below b4)
              have R4 := Lib.hid r4
              clear b4 r4 A9 p1
              go_wp2_with fail
              obtain ⟨wo, rfl⟩ : ∃ wo : World, wo = wr := ⟨_, rfl⟩
              go_loopw [16] (fun i wr => ∃ m : Nat, m ≤ xs.length ∧ m ≤ ys.length ∧ i = .int .i64 m ∧ Below w4.heap.size w4 wr) (fun i _ => xs.length - (intOf i).toNat)
              case atStart => exact ⟨0, Nat.zero_le _, Nat.zero_le _, rfl, Below.refl _ _⟩
              case round =>
                obtain ⟨m, hm, hm', rfl, hb⟩ := hrel
                have HB := Lib.hid hb
                clear hb
                by_cases hml : m < xs.length ∧ m < ys.length
                · obtain ⟨hml, hml'⟩ := hml
                  obtain ⟨b5, off5, ha5, q1⟩ := RowAt.get (RowAt.below A4.out.t.r HB.out) (k := m) (v := .string (xs[m]'hml)) (by simp [strs, List.getElem?_eq_getElem (show m < xs.length from hml)])
                  obtain ⟨b6, off6, ha6, q2⟩ := RowAt.get (RowAt.below R4.out HB.out) (k := m) (v := .string (ys[m]'hml')) (by simp [strs, List.getElem?_eq_getElem hml'])
                  subst ha5 ha6
                  rw [show ys[m]'hml' = xs[m]'hml from by subst hys; exact List.getElem_append_left hml] at q2
                  clear hys
                  generalize xs[m]'hml = x at *
                  go_upto_region 30 with (fail)
                  refine wp_region_held_drew (S := (fun W => (W.cell? ⟨b6, off6 + m, none⟩ = some (.string x) ∧ W.cell? ⟨b5, off5 + m, none⟩ = some (.string x)) ∧ Below w4.heap.size w4 W)) (by kernel_rfl) ?_ (fun hHeld => ?_)
                  · (try dsimp only); exact ⟨⟨q2, q1⟩, HB.out.drew⟩
                  refine wpD_go (by kernel_rfl) _ _ _ _ (by assumption) ?_
                  refine wpD_step (i := 0) (o := { dst := some 118, op := Op.move (Operand.tmp 16), type := 3, pos := "law.go:111", after := #[], guard := none }) (v := ?_) rfl (by kernel_rfl) (by kernel_rfl) ?_ ?_
                  rotate_left
                  · refine gives_pure (by rfl) ?_
                    intro w0 hSw; (try dsimp only at hSw); go_simp; (try with_reducible rfl)
                  try simp only [Act.put, List.setIfInBounds_toArray, List.set_cons_zero, List.set_cons_succ]
                  refine wpD_step (i := 1) (o := { dst := some 119, op := Op.move (Operand.tmp 11), type := 3, pos := "law.go:111", after := #[], guard := none }) (v := ?_) rfl (by kernel_rfl) (by kernel_rfl) ?_ ?_
                  rotate_left
                  · refine gives_pure (by rfl) ?_
                    intro w0 hSw; (try dsimp only at hSw); go_simp; (try with_reducible rfl)
                  try simp only [Act.put, List.setIfInBounds_toArray, List.set_cons_zero, List.set_cons_succ]
                  refine wpD_step (i := 2) (o := { dst := some 120, op := Op.binOp BinOp.lss 3 (Operand.tmp 118) (Operand.tmp 119) 3, type := 4, pos := "law.go:111", after := #[{ on := 0, ground := Ground.data }, { on := 1, ground := Ground.data }], guard := none }) (v := (Value.bool (true))) rfl (by kernel_rfl) (by kernel_rfl) ?_ ?_
                  · refine gives_pure (by rfl) ?_
                    intro w0 hSw; (try dsimp only at hSw); go_simp; (try with_reducible rfl)
                  try simp only [Act.put, List.setIfInBounds_toArray, List.set_cons_zero, List.set_cons_succ]
                  refine wpD_step (i := 3) (o := { dst := some 121, op := Op.move (Operand.tmp 120), type := 4, pos := "law.go:111", after := #[{ on := 2, ground := Ground.data }], guard := none }) (v := (Value.bool (true))) rfl (by kernel_rfl) (by kernel_rfl) ?_ ?_
                  · refine gives_pure (by rfl) ?_
                    intro w0 hSw; (try dsimp only at hSw); go_simp; (try with_reducible rfl)
                  try simp only [Act.put, List.setIfInBounds_toArray, List.set_cons_zero, List.set_cons_succ]
                  refine wpD_step (i := 4) (o := { dst := some 122, op := Op.move (Operand.tmp 14), type := 29, pos := "law.go:111", after := #[{ on := 3, ground := Ground.guard }], guard := some (3, true) }) (v := ?_) rfl (by kernel_rfl) (by kernel_rfl) ?_ ?_
                  rotate_left
                  · refine gives_pure (by rfl) ?_
                    intro w0 hSw; (try dsimp only at hSw); go_simp; (try with_reducible rfl)
                  try simp only [Act.put, List.setIfInBounds_toArray, List.set_cons_zero, List.set_cons_succ]
                  refine wpD_step (i := 5) (o := { dst := some 123, op := Op.move (Operand.tmp 16), type := 3, pos := "law.go:111", after := #[{ on := 3, ground := Ground.guard }], guard := some (3, true) }) (v := ?_) rfl (by kernel_rfl) (by kernel_rfl) ?_ ?_
                  rotate_left
                  · refine gives_pure (by rfl) ?_
                    intro w0 hSw; (try dsimp only at hSw); go_simp; (try with_reducible rfl)
                  try simp only [Act.put, List.setIfInBounds_toArray, List.set_cons_zero, List.set_cons_succ]
                  refine wpD_step (i := 6) (o := { dst := some 124, op := Op.indexAddr 29 (Operand.tmp 122) (Operand.tmp 123), type := 0, pos := "law.go:111", after := #[{ on := 4, ground := Ground.data }, { on := 5, ground := Ground.data }, { on := 3, ground := Ground.guard }], guard := some (3, true) }) (v := ?_) rfl (by kernel_rfl) (by kernel_rfl) ?_ ?_
                  rotate_left
                  · refine gives_pure (by rfl) ?_
                    intro w0 hSw; (try dsimp only at hSw); go_simp; (try with_reducible rfl)
                  try simp only [Act.put, List.setIfInBounds_toArray, List.set_cons_zero, List.set_cons_succ]
                  refine wpD_step (i := 7) (o := { dst := some 125, op := Op.load 9 (Operand.tmp 124), type := 9, pos := "law.go:111", after := #[{ on := 6, ground := Ground.data }, { on := 3, ground := Ground.guard }], guard := some (3, true) }) (v := ?_) rfl (by kernel_rfl) (by kernel_rfl) ?_ ?_
                  rotate_left
                  · refine gives_pure (by rfl) ?_
                    intro w0 hSw; (try dsimp only at hSw); go_simp; (try with_reducible rfl)
                  try simp only [Act.put, List.setIfInBounds_toArray, List.set_cons_zero, List.set_cons_succ]
                  refine wpD_step (i := 8) (o := { dst := some 126, op := Op.move (Operand.tmp 9), type := 29, pos := "law.go:111", after := #[{ on := 3, ground := Ground.guard }], guard := some (3, true) }) (v := ?_) rfl (by kernel_rfl) (by kernel_rfl) ?_ ?_
                  rotate_left
                  · refine gives_pure (by rfl) ?_
                    intro w0 hSw; (try dsimp only at hSw); go_simp; (try with_reducible rfl)
                  try simp only [Act.put, List.setIfInBounds_toArray, List.set_cons_zero, List.set_cons_succ]
                  refine wpD_step (i := 9) (o := { dst := some 127, op := Op.move (Operand.tmp 16), type := 3, pos := "law.go:111", after := #[{ on := 3, ground := Ground.guard }], guard := some (3, true) }) (v := ?_) rfl (by kernel_rfl) (by kernel_rfl) ?_ ?_
                  rotate_left
                  · refine gives_pure (by rfl) ?_
                    intro w0 hSw; (try dsimp only at hSw); go_simp; (try with_reducible rfl)
                  try simp only [Act.put, List.setIfInBounds_toArray, List.set_cons_zero, List.set_cons_succ]
                  refine wpD_step (i := 10) (o := { dst := some 128, op := Op.indexAddr 29 (Operand.tmp 126) (Operand.tmp 127), type := 0, pos := "law.go:111", after := #[{ on := 8, ground := Ground.data }, { on := 9, ground := Ground.data }, { on := 3, ground := Ground.guard }], guard := some (3, true) }) (v := ?_) rfl (by kernel_rfl) (by kernel_rfl) ?_ ?_
                  rotate_left
                  · refine gives_pure (by rfl) ?_
                    intro w0 hSw; (try dsimp only at hSw); go_simp; (try with_reducible rfl)
                  try simp only [Act.put, List.setIfInBounds_toArray, List.set_cons_zero, List.set_cons_succ]
                  refine wpD_step (i := 11) (o := { dst := some 129, op := Op.load 9 (Operand.tmp 128), type := 9, pos := "law.go:111", after := #[{ on := 10, ground := Ground.data }, { on := 3, ground := Ground.guard }], guard := some (3, true) }) (v := ?_) rfl (by kernel_rfl) (by kernel_rfl) ?_ ?_
                  rotate_left
                  · refine gives_pure (by rfl) ?_
                    intro w0 hSw; (try dsimp only at hSw); go_simp; (try with_reducible rfl)
                  try simp only [Act.put, List.setIfInBounds_toArray, List.set_cons_zero, List.set_cons_succ]
                  refine wpD_step (i := 12) (o := { dst := some 130, op := Op.binOp BinOp.neq 9 (Operand.tmp 125) (Operand.tmp 129) 9, type := 4, pos := "law.go:111", after := #[{ on := 7, ground := Ground.data }, { on := 11, ground := Ground.data }, { on := 3, ground := Ground.guard }], guard := some (3, true) }) (v := (Value.bool (false))) rfl (by kernel_rfl) (by kernel_rfl) ?_ ?_
                  · refine gives_pure (by rfl) ?_
                    intro w0 hSw; first | rfl | ((try dsimp only at hSw); go_simp; (try with_reducible rfl))
                  try simp only [Act.put, List.setIfInBounds_toArray, List.set_cons_zero, List.set_cons_succ]
                  refine wpD_step (i := 13) (o := { dst := some 131, op := Op.pick (Operand.tmp 121) (Operand.tmp 130) (Operand.const (Value.bool false)), type := 4, pos := "law.go:111", after := #[{ on := 3, ground := Ground.data }, { on := 12, ground := Ground.data }], guard := none }) (v := (Value.bool (false))) rfl (by kernel_rfl) (by kernel_rfl) ?_ ?_
                  · refine gives_pure (by rfl) ?_
                    intro w0 hSw; first | rfl | ((try dsimp only at hSw); go_simp; (try with_reducible rfl))
                  try simp only [Act.put, List.setIfInBounds_toArray, List.set_cons_zero, List.set_cons_succ]
                  refine wpD_step (i := 14) (o := { dst := some 132, op := Op.move (Operand.tmp 131), type := 4, pos := "law.go:111", after := #[{ on := 13, ground := Ground.data }, { on := 3, ground := Ground.chain }], guard := none }) (v := (Value.bool (false))) rfl (by kernel_rfl) (by kernel_rfl) ?_ ?_
                  · refine gives_pure (by rfl) ?_
                    intro w0 hSw; (try dsimp only at hSw); go_simp; (try with_reducible rfl)
                  try simp only [Act.put, List.setIfInBounds_toArray, List.set_cons_zero, List.set_cons_succ]
                  refine wpD_step (i := 15) (o := { dst := some 133, op := Op.move (Operand.tmp 16), type := 3, pos := "law.go:111", after := #[{ on := 14, ground := Ground.guard }], guard := some (14, false) }) (v := ?_) rfl (by kernel_rfl) (by kernel_rfl) ?_ ?_
                  rotate_left
                  · refine gives_pure (by rfl) ?_
                    intro w0 hSw; (try dsimp only at hSw); go_simp; (try with_reducible rfl)
                  try simp only [Act.put, List.setIfInBounds_toArray, List.set_cons_zero, List.set_cons_succ]
                  refine wpD_step (i := 16) (o := { dst := some 134, op := Op.move (Operand.tmp 11), type := 3, pos := "law.go:111", after := #[{ on := 14, ground := Ground.guard }], guard := some (14, false) }) (v := ?_) rfl (by kernel_rfl) (by kernel_rfl) ?_ ?_
                  rotate_left
                  · refine gives_pure (by rfl) ?_
                    intro w0 hSw; (try dsimp only at hSw); go_simp; (try with_reducible rfl)
                  try simp only [Act.put, List.setIfInBounds_toArray, List.set_cons_zero, List.set_cons_succ]
                  refine wpD_step (i := 17) (o := { dst := some 135, op := Op.binOp BinOp.geq 3 (Operand.tmp 133) (Operand.tmp 134) 3, type := 4, pos := "law.go:111", after := #[{ on := 15, ground := Ground.data }, { on := 16, ground := Ground.data }, { on := 14, ground := Ground.guard }], guard := some (14, false) }) (v := (Value.bool (false))) rfl (by kernel_rfl) (by kernel_rfl) ?_ ?_
                  · refine gives_pure (by rfl) ?_
                    intro w0 hSw; (try dsimp only at hSw); go_simp; (try with_reducible rfl)
                  try simp only [Act.put, List.setIfInBounds_toArray, List.set_cons_zero, List.set_cons_succ]
                  refine wpD_step (i := 18) (o := { dst := some 136, op := Op.move (Operand.tmp 135), type := 4, pos := "law.go:111", after := #[{ on := 17, ground := Ground.data }, { on := 14, ground := Ground.chain }, { on := 14, ground := Ground.guard }], guard := some (14, false) }) (v := (Value.bool (false))) rfl (by kernel_rfl) (by kernel_rfl) ?_ ?_
                  · refine gives_pure (by rfl) ?_
                    intro w0 hSw; (try dsimp only at hSw); go_simp; (try with_reducible rfl)
                  try simp only [Act.put, List.setIfInBounds_toArray, List.set_cons_zero, List.set_cons_succ]
                  refine wpD_step (i := 19) (o := { dst := some 137, op := Op.move (Operand.tmp 16), type := 3, pos := "law.go:111", after := #[{ on := 18, ground := Ground.guard }], guard := some (18, true) }) (v := undef) rfl (by kernel_rfl) (by kernel_rfl) (gives_not (by rfl)) ?_
                  try simp only [Act.put, List.setIfInBounds_toArray, List.set_cons_zero, List.set_cons_succ]
                  refine wpD_step (i := 20) (o := { dst := some 138, op := Op.binOp BinOp.add 3 (Operand.tmp 137) (Operand.const (Value.int IntKind.i64 1)) 3, type := 3, pos := "law.go:111", after := #[{ on := 19, ground := Ground.data }, { on := 18, ground := Ground.guard }], guard := some (18, true) }) (v := undef) rfl (by kernel_rfl) (by kernel_rfl) (gives_not (by rfl)) ?_
                  try simp only [Act.put, List.setIfInBounds_toArray, List.set_cons_zero, List.set_cons_succ]
                  refine wpD_step (i := 21) (o := { dst := some 139, op := Op.move (Operand.tmp 9), type := 29, pos := "law.go:111", after := #[{ on := 18, ground := Ground.guard }], guard := some (18, true) }) (v := undef) rfl (by kernel_rfl) (by kernel_rfl) (gives_not (by rfl)) ?_
                  try simp only [Act.put, List.setIfInBounds_toArray, List.set_cons_zero, List.set_cons_succ]
                  refine wpD_step (i := 22) (o := { dst := some 140, op := Op.call { callee := Callee.builtin Builtin.len, args := #[Operand.tmp 139], argTypes := #[29] }, type := 3, pos := "law.go:111", after := #[{ on := 21, ground := Ground.data }, { on := 18, ground := Ground.guard }], guard := some (18, true) }) (v := undef) rfl (by kernel_rfl) (by kernel_rfl) (gives_not (by rfl)) ?_
                  try simp only [Act.put, List.setIfInBounds_toArray, List.set_cons_zero, List.set_cons_succ]
                  refine wpD_step (i := 23) (o := { dst := some 141, op := Op.binOp BinOp.lss 3 (Operand.tmp 138) (Operand.tmp 140) 3, type := 4, pos := "law.go:111", after := #[{ on := 20, ground := Ground.data }, { on := 22, ground := Ground.data }, { on := 18, ground := Ground.guard }], guard := some (18, true) }) (v := undef) rfl (by kernel_rfl) (by kernel_rfl) (gives_not (by rfl)) ?_
                  try simp only [Act.put, List.setIfInBounds_toArray, List.set_cons_zero, List.set_cons_succ]
                  refine wpD_step (i := 24) (o := { dst := some 142, op := Op.pick (Operand.tmp 136) (Operand.tmp 141) (Operand.const (Value.bool false)), type := 4, pos := "law.go:111", after := #[{ on := 18, ground := Ground.data }, { on := 23, ground := Ground.data }, { on := 14, ground := Ground.guard }], guard := some (14, false) }) (v := (Value.bool (false))) rfl (by kernel_rfl) (by kernel_rfl) ?_ ?_
                  · refine gives_pure (by rfl) ?_
                    intro w0 hSw; first | rfl | ((try dsimp only at hSw); go_simp; (try with_reducible rfl))
                  try simp only [Act.put, List.setIfInBounds_toArray, List.set_cons_zero, List.set_cons_succ]
                  refine wpD_step (i := 25) (o := { dst := some 143, op := Op.move (Operand.tmp 142), type := 4, pos := "law.go:111", after := #[{ on := 24, ground := Ground.data }, { on := 18, ground := Ground.chain }, { on := 14, ground := Ground.guard }], guard := some (14, false) }) (v := (Value.bool (false))) rfl (by kernel_rfl) (by kernel_rfl) ?_ ?_
                  · refine gives_pure (by rfl) ?_
                    intro w0 hSw; (try dsimp only at hSw); go_simp; (try with_reducible rfl)
                  try simp only [Act.put, List.setIfInBounds_toArray, List.set_cons_zero, List.set_cons_succ]
                  refine wpD_step (i := 26) (o := { dst := some 144, op := Op.move (Operand.tmp 14), type := 29, pos := "law.go:111", after := #[{ on := 25, ground := Ground.guard }], guard := some (25, true) }) (v := undef) rfl (by kernel_rfl) (by kernel_rfl) (gives_not (by rfl)) ?_
                  try simp only [Act.put, List.setIfInBounds_toArray, List.set_cons_zero, List.set_cons_succ]
                  refine wpD_step (i := 27) (o := { dst := some 145, op := Op.move (Operand.tmp 16), type := 3, pos := "law.go:111", after := #[{ on := 25, ground := Ground.guard }], guard := some (25, true) }) (v := undef) rfl (by kernel_rfl) (by kernel_rfl) (gives_not (by rfl)) ?_
                  try simp only [Act.put, List.setIfInBounds_toArray, List.set_cons_zero, List.set_cons_succ]
                  refine wpD_step (i := 28) (o := { dst := some 146, op := Op.indexAddr 29 (Operand.tmp 144) (Operand.tmp 145), type := 0, pos := "law.go:111", after := #[{ on := 26, ground := Ground.data }, { on := 27, ground := Ground.data }, { on := 25, ground := Ground.guard }], guard := some (25, true) }) (v := undef) rfl (by kernel_rfl) (by kernel_rfl) (gives_not (by rfl)) ?_
                  try simp only [Act.put, List.setIfInBounds_toArray, List.set_cons_zero, List.set_cons_succ]
                  refine wpD_step (i := 29) (o := { dst := some 147, op := Op.load 9 (Operand.tmp 146), type := 9, pos := "law.go:111", after := #[{ on := 28, ground := Ground.data }, { on := 25, ground := Ground.guard }], guard := some (25, true) }) (v := undef) rfl (by kernel_rfl) (by kernel_rfl) (gives_not (by rfl)) ?_
                  try simp only [Act.put, List.setIfInBounds_toArray, List.set_cons_zero, List.set_cons_succ]
                  refine wpD_step (i := 30) (o := { dst := some 148, op := Op.move (Operand.tmp 9), type := 29, pos := "law.go:111", after := #[{ on := 25, ground := Ground.guard }], guard := some (25, true) }) (v := undef) rfl (by kernel_rfl) (by kernel_rfl) (gives_not (by rfl)) ?_
                  try simp only [Act.put, List.setIfInBounds_toArray, List.set_cons_zero, List.set_cons_succ]
                  refine wpD_step (i := 31) (o := { dst := some 149, op := Op.move (Operand.tmp 16), type := 3, pos := "law.go:111", after := #[{ on := 25, ground := Ground.guard }], guard := some (25, true) }) (v := undef) rfl (by kernel_rfl) (by kernel_rfl) (gives_not (by rfl)) ?_
                  try simp only [Act.put, List.setIfInBounds_toArray, List.set_cons_zero, List.set_cons_succ]
                  refine wpD_step (i := 32) (o := { dst := some 150, op := Op.binOp BinOp.add 3 (Operand.tmp 149) (Operand.const (Value.int IntKind.i64 1)) 3, type := 3, pos := "law.go:111", after := #[{ on := 31, ground := Ground.data }, { on := 25, ground := Ground.guard }], guard := some (25, true) }) (v := undef) rfl (by kernel_rfl) (by kernel_rfl) (gives_not (by rfl)) ?_
                  try simp only [Act.put, List.setIfInBounds_toArray, List.set_cons_zero, List.set_cons_succ]
                  refine wpD_step (i := 33) (o := { dst := some 151, op := Op.indexAddr 29 (Operand.tmp 148) (Operand.tmp 150), type := 0, pos := "law.go:111", after := #[{ on := 30, ground := Ground.data }, { on := 32, ground := Ground.data }, { on := 25, ground := Ground.guard }], guard := some (25, true) }) (v := undef) rfl (by kernel_rfl) (by kernel_rfl) (gives_not (by rfl)) ?_
                  try simp only [Act.put, List.setIfInBounds_toArray, List.set_cons_zero, List.set_cons_succ]
                  refine wpD_step (i := 34) (o := { dst := some 152, op := Op.load 9 (Operand.tmp 151), type := 9, pos := "law.go:111", after := #[{ on := 33, ground := Ground.data }, { on := 25, ground := Ground.guard }], guard := some (25, true) }) (v := undef) rfl (by kernel_rfl) (by kernel_rfl) (gives_not (by rfl)) ?_
                  try simp only [Act.put, List.setIfInBounds_toArray, List.set_cons_zero, List.set_cons_succ]
                  refine wpD_step (i := 35) (o := { dst := some 153, op := Op.binOp BinOp.neq 9 (Operand.tmp 147) (Operand.tmp 152) 9, type := 4, pos := "law.go:111", after := #[{ on := 29, ground := Ground.data }, { on := 34, ground := Ground.data }, { on := 25, ground := Ground.guard }], guard := some (25, true) }) (v := undef) rfl (by kernel_rfl) (by kernel_rfl) (gives_not (by rfl)) ?_
                  try simp only [Act.put, List.setIfInBounds_toArray, List.set_cons_zero, List.set_cons_succ]
                  refine wpD_step (i := 36) (o := { dst := some 154, op := Op.pick (Operand.tmp 143) (Operand.tmp 153) (Operand.const (Value.bool false)), type := 4, pos := "law.go:111", after := #[{ on := 25, ground := Ground.data }, { on := 35, ground := Ground.data }, { on := 14, ground := Ground.guard }], guard := some (14, false) }) (v := (Value.bool (false))) rfl (by kernel_rfl) (by kernel_rfl) ?_ ?_
                  · refine gives_pure (by rfl) ?_
                    intro w0 hSw; first | rfl | ((try dsimp only at hSw); go_simp; (try with_reducible rfl))
                  try simp only [Act.put, List.setIfInBounds_toArray, List.set_cons_zero, List.set_cons_succ]
                  refine wpD_step (i := 37) (o := { dst := some 155, op := Op.pick (Operand.tmp 132) (Operand.const (Value.bool true)) (Operand.tmp 154), type := 4, pos := "law.go:111", after := #[{ on := 14, ground := Ground.data }, { on := 36, ground := Ground.data }], guard := none }) (v := (Value.bool (false))) rfl (by kernel_rfl) (by kernel_rfl) ?_ ?_
                  · refine gives_pure (by rfl) ?_
                    intro w0 hSw; first | rfl | ((try dsimp only at hSw); go_simp; (try with_reducible rfl))
                  try simp only [Act.put, List.setIfInBounds_toArray, List.set_cons_zero, List.set_cons_succ]
                  refine wpD_done (by kernel_rfl) (fun wz hHeld => ?_) _
                  go_wp2_with fail
                  go_roundw
                  case rel => exact ⟨m + 1, by omega, by omega, by go_num, hHeld.2⟩
                  case measure => simp [intOf]; omega
                · have hd : (decide ((m : Int) < (xs.length : Int)) = false) ∨ (decide ((m : Int) < (xs.length : Int)) = true ∧ decide ((m : Int) < (ys.length : Int)) = false) := by
                    rcases (by omega : xs.length ≤ m ∨ (m < xs.length ∧ ys.length ≤ m)) with h | ⟨h, h'⟩
                    · exact Or.inl (dlt_f (by omega))
                    · exact Or.inr ⟨dlt_t (by omega), dlt_f (by omega)⟩
                  rcases hd with g1 | ⟨g1, g2⟩
                  all_goals
                    go_wp2_with fail
                    go_roundw
                    case rel => exact ⟨k + 1, ys, _, by omega, by go_num, by omega, (A4.out.below HB.out).onR (Tx.nil _) (Below.refl _ _) (fun x hx => by cases hx)⟩
                    case measure => simp [intOf]; omega
        · have e0 := deq_f h0
          by_cases h1 : kd = 1
          · subst h1
            go_wp2_with fail
            by_cases hp : 0 ≤ pl ∧ pl < xs.length
            · obtain ⟨j, rfl⟩ : ∃ j : Nat, pl = j := ⟨pl.toNat, by omega⟩
              have hj : j < xs.length := by omega
              clear hp
              refine (btake_in j hj (by omega) _ A1.out.b).mono ?_; rintro e w3 ⟨rfl, v3, b3, o3, n3⟩
              have A9 := Lib.hid (A1.out.onB b3 o3 n3)
              clear b3 o3 n3 A1 p1
              have p1 := AT.out w3 A9.out.bl
              as_aux_lemma =>
                obtain ⟨ys, hys⟩ : ∃ ys, xs.eraseIdx j = ys := ⟨_, rfl⟩
                rw [hys] at A9
                have hyl : ys.length + 1 = xs.length := by rw [← hys, eraseIdx_eq]; simp; omega
                have hne : ((ys.length : Int) != (xs.length : Int) - 1) = false := by simp; omega
                have hyl1 : ys.length + 1 ≤ xs.length := by omega
                have hyl2 : xs.length ≤ ys.length + 1 := by omega
                clear hyl
                go_wp2_with fail
                refine (ball_any (by omega) _ A9.out.b).mono ?_; rintro e w4 ⟨a4, c4, rfl, r4, b4, _⟩
                have A4 := Lib.hid (A9.out.below b4)
                have R4 := Lib.hid r4
                clear b4 r4 A9 p1
                go_wp2_with fail
                obtain ⟨wo, rfl⟩ : ∃ wo : World, wo = wr := ⟨_, rfl⟩
                go_loopw [16] (fun i wr => ∃ m : Nat, m ≤ xs.length ∧ m ≤ ys.length ∧ i = .int .i64 m ∧ Below w4.heap.size w4 wr) (fun i _ => xs.length - (intOf i).toNat)
                case atStart => exact ⟨0, Nat.zero_le _, Nat.zero_le _, rfl, Below.refl _ _⟩
                case round =>
                  obtain ⟨m, hm, hm', rfl, hb⟩ := hrel
                  have HB := Lib.hid hb
                  clear hb
                  by_cases hml : m < xs.length ∧ m < ys.length
                  · obtain ⟨hml, hml'⟩ := hml
                    by_cases hmj : m < j
                    · obtain ⟨b5, off5, ha5, q1⟩ := RowAt.get (RowAt.below A4.out.t.r HB.out) (k := m) (v := .string (xs[m]'hml)) (by simp [strs, List.getElem?_eq_getElem (show m < xs.length from hml)])
                      obtain ⟨b6, off6, ha6, q2⟩ := RowAt.get (RowAt.below R4.out HB.out) (k := m) (v := .string (ys[m]'hml')) (by simp [strs, List.getElem?_eq_getElem hml'])
                      subst ha5 ha6
                      rw [show ys[m]'hml' = xs[m]'hml from by subst hys; exact get_erase_lt xs j m hmj hml hml'] at q2
                      clear hys
                      generalize xs[m]'hml = x at *
                      go_upto_region 30 with (fail)
                      refine wp_region_held_drew (S := (fun W => (W.cell? ⟨b6, off6 + m, none⟩ = some (.string x) ∧ W.cell? ⟨b5, off5 + m, none⟩ = some (.string x)) ∧ Below w4.heap.size w4 W)) (by kernel_rfl) ?_ (fun hHeld => ?_)
                      · (try dsimp only); exact ⟨⟨q2, q1⟩, HB.out.drew⟩
                      refine wpD_go (by kernel_rfl) _ _ _ _ (by assumption) ?_
                      refine wpD_step (i := 0) (o := { dst := some 118, op := Op.move (Operand.tmp 16), type := 3, pos := "law.go:111", after := #[], guard := none }) (v := ?_) rfl (by kernel_rfl) (by kernel_rfl) ?_ ?_
                      rotate_left
                      · refine gives_pure (by rfl) ?_
                        intro w0 hSw; (try dsimp only at hSw); go_simp; (try with_reducible rfl)
                      try simp only [Act.put, List.setIfInBounds_toArray, List.set_cons_zero, List.set_cons_succ]
                      refine wpD_step (i := 1) (o := { dst := some 119, op := Op.move (Operand.tmp 11), type := 3, pos := "law.go:111", after := #[], guard := none }) (v := ?_) rfl (by kernel_rfl) (by kernel_rfl) ?_ ?_
                      rotate_left
                      · refine gives_pure (by rfl) ?_
                        intro w0 hSw; (try dsimp only at hSw); go_simp; (try with_reducible rfl)
                      try simp only [Act.put, List.setIfInBounds_toArray, List.set_cons_zero, List.set_cons_succ]
                      refine wpD_step (i := 2) (o := { dst := some 120, op := Op.binOp BinOp.lss 3 (Operand.tmp 118) (Operand.tmp 119) 3, type := 4, pos := "law.go:111", after := #[{ on := 0, ground := Ground.data }, { on := 1, ground := Ground.data }], guard := none }) (v := (Value.bool (true))) rfl (by kernel_rfl) (by kernel_rfl) ?_ ?_
                      · refine gives_pure (by rfl) ?_
                        intro w0 hSw; (try dsimp only at hSw); go_simp; (try with_reducible rfl)
                      try simp only [Act.put, List.setIfInBounds_toArray, List.set_cons_zero, List.set_cons_succ]
                      refine wpD_step (i := 3) (o := { dst := some 121, op := Op.move (Operand.tmp 120), type := 4, pos := "law.go:111", after := #[{ on := 2, ground := Ground.data }], guard := none }) (v := (Value.bool (true))) rfl (by kernel_rfl) (by kernel_rfl) ?_ ?_
                      · refine gives_pure (by rfl) ?_
                        intro w0 hSw; (try dsimp only at hSw); go_simp; (try with_reducible rfl)
                      try simp only [Act.put, List.setIfInBounds_toArray, List.set_cons_zero, List.set_cons_succ]
                      refine wpD_step (i := 4) (o := { dst := some 122, op := Op.move (Operand.tmp 14), type := 29, pos := "law.go:111", after := #[{ on := 3, ground := Ground.guard }], guard := some (3, true) }) (v := ?_) rfl (by kernel_rfl) (by kernel_rfl) ?_ ?_
                      rotate_left
                      · refine gives_pure (by rfl) ?_
                        intro w0 hSw; (try dsimp only at hSw); go_simp; (try with_reducible rfl)
                      try simp only [Act.put, List.setIfInBounds_toArray, List.set_cons_zero, List.set_cons_succ]
                      refine wpD_step (i := 5) (o := { dst := some 123, op := Op.move (Operand.tmp 16), type := 3, pos := "law.go:111", after := #[{ on := 3, ground := Ground.guard }], guard := some (3, true) }) (v := ?_) rfl (by kernel_rfl) (by kernel_rfl) ?_ ?_
                      rotate_left
                      · refine gives_pure (by rfl) ?_
                        intro w0 hSw; (try dsimp only at hSw); go_simp; (try with_reducible rfl)
                      try simp only [Act.put, List.setIfInBounds_toArray, List.set_cons_zero, List.set_cons_succ]
                      refine wpD_step (i := 6) (o := { dst := some 124, op := Op.indexAddr 29 (Operand.tmp 122) (Operand.tmp 123), type := 0, pos := "law.go:111", after := #[{ on := 4, ground := Ground.data }, { on := 5, ground := Ground.data }, { on := 3, ground := Ground.guard }], guard := some (3, true) }) (v := ?_) rfl (by kernel_rfl) (by kernel_rfl) ?_ ?_
                      rotate_left
                      · refine gives_pure (by rfl) ?_
                        intro w0 hSw; (try dsimp only at hSw); go_simp; (try with_reducible rfl)
                      try simp only [Act.put, List.setIfInBounds_toArray, List.set_cons_zero, List.set_cons_succ]
                      refine wpD_step (i := 7) (o := { dst := some 125, op := Op.load 9 (Operand.tmp 124), type := 9, pos := "law.go:111", after := #[{ on := 6, ground := Ground.data }, { on := 3, ground := Ground.guard }], guard := some (3, true) }) (v := ?_) rfl (by kernel_rfl) (by kernel_rfl) ?_ ?_
                      rotate_left
                      · refine gives_pure (by rfl) ?_
                        intro w0 hSw; (try dsimp only at hSw); go_simp; (try with_reducible rfl)
                      try simp only [Act.put, List.setIfInBounds_toArray, List.set_cons_zero, List.set_cons_succ]
                      refine wpD_step (i := 8) (o := { dst := some 126, op := Op.move (Operand.tmp 9), type := 29, pos := "law.go:111", after := #[{ on := 3, ground := Ground.guard }], guard := some (3, true) }) (v := ?_) rfl (by kernel_rfl) (by kernel_rfl) ?_ ?_
                      rotate_left
                      · refine gives_pure (by rfl) ?_
                        intro w0 hSw; (try dsimp only at hSw); go_simp; (try with_reducible rfl)
                      try simp only [Act.put, List.setIfInBounds_toArray, List.set_cons_zero, List.set_cons_succ]
                      refine wpD_step (i := 9) (o := { dst := some 127, op := Op.move (Operand.tmp 16), type := 3, pos := "law.go:111", after := #[{ on := 3, ground := Ground.guard }], guard := some (3, true) }) (v := ?_) rfl (by kernel_rfl) (by kernel_rfl) ?_ ?_
                      rotate_left
                      · refine gives_pure (by rfl) ?_
                        intro w0 hSw; (try dsimp only at hSw); go_simp; (try with_reducible rfl)
                      try simp only [Act.put, List.setIfInBounds_toArray, List.set_cons_zero, List.set_cons_succ]
                      refine wpD_step (i := 10) (o := { dst := some 128, op := Op.indexAddr 29 (Operand.tmp 126) (Operand.tmp 127), type := 0, pos := "law.go:111", after := #[{ on := 8, ground := Ground.data }, { on := 9, ground := Ground.data }, { on := 3, ground := Ground.guard }], guard := some (3, true) }) (v := ?_) rfl (by kernel_rfl) (by kernel_rfl) ?_ ?_
                      rotate_left
                      · refine gives_pure (by rfl) ?_
                        intro w0 hSw; (try dsimp only at hSw); go_simp; (try with_reducible rfl)
                      try simp only [Act.put, List.setIfInBounds_toArray, List.set_cons_zero, List.set_cons_succ]
                      refine wpD_step (i := 11) (o := { dst := some 129, op := Op.load 9 (Operand.tmp 128), type := 9, pos := "law.go:111", after := #[{ on := 10, ground := Ground.data }, { on := 3, ground := Ground.guard }], guard := some (3, true) }) (v := ?_) rfl (by kernel_rfl) (by kernel_rfl) ?_ ?_
                      rotate_left
                      · refine gives_pure (by rfl) ?_
                        intro w0 hSw; (try dsimp only at hSw); go_simp; (try with_reducible rfl)
                      try simp only [Act.put, List.setIfInBounds_toArray, List.set_cons_zero, List.set_cons_succ]
                      refine wpD_step (i := 12) (o := { dst := some 130, op := Op.binOp BinOp.neq 9 (Operand.tmp 125) (Operand.tmp 129) 9, type := 4, pos := "law.go:111", after := #[{ on := 7, ground := Ground.data }, { on := 11, ground := Ground.data }, { on := 3, ground := Ground.guard }], guard := some (3, true) }) (v := (Value.bool (false))) rfl (by kernel_rfl) (by kernel_rfl) ?_ ?_
                      · refine gives_pure (by rfl) ?_
                        intro w0 hSw; first | rfl | ((try dsimp only at hSw); go_simp; (try with_reducible rfl))
                      try simp only [Act.put, List.setIfInBounds_toArray, List.set_cons_zero, List.set_cons_succ]
                      refine wpD_step (i := 13) (o := { dst := some 131, op := Op.pick (Operand.tmp 121) (Operand.tmp 130) (Operand.const (Value.bool false)), type := 4, pos := "law.go:111", after := #[{ on := 3, ground := Ground.data }, { on := 12, ground := Ground.data }], guard := none }) (v := (Value.bool (false))) rfl (by kernel_rfl) (by kernel_rfl) ?_ ?_
                      · refine gives_pure (by rfl) ?_
                        intro w0 hSw; first | rfl | ((try dsimp only at hSw); go_simp; (try with_reducible rfl))
                      try simp only [Act.put, List.setIfInBounds_toArray, List.set_cons_zero, List.set_cons_succ]
                      refine wpD_step (i := 14) (o := { dst := some 132, op := Op.move (Operand.tmp 131), type := 4, pos := "law.go:111", after := #[{ on := 13, ground := Ground.data }, { on := 3, ground := Ground.chain }], guard := none }) (v := (Value.bool (false))) rfl (by kernel_rfl) (by kernel_rfl) ?_ ?_
                      · refine gives_pure (by rfl) ?_
                        intro w0 hSw; (try dsimp only at hSw); go_simp; (try with_reducible rfl)
                      try simp only [Act.put, List.setIfInBounds_toArray, List.set_cons_zero, List.set_cons_succ]
                      refine wpD_step (i := 15) (o := { dst := some 133, op := Op.move (Operand.tmp 16), type := 3, pos := "law.go:111", after := #[{ on := 14, ground := Ground.guard }], guard := some (14, false) }) (v := ?_) rfl (by kernel_rfl) (by kernel_rfl) ?_ ?_
                      rotate_left
                      · refine gives_pure (by rfl) ?_
                        intro w0 hSw; (try dsimp only at hSw); go_simp; (try with_reducible rfl)
                      try simp only [Act.put, List.setIfInBounds_toArray, List.set_cons_zero, List.set_cons_succ]
                      refine wpD_step (i := 16) (o := { dst := some 134, op := Op.move (Operand.tmp 11), type := 3, pos := "law.go:111", after := #[{ on := 14, ground := Ground.guard }], guard := some (14, false) }) (v := ?_) rfl (by kernel_rfl) (by kernel_rfl) ?_ ?_
                      rotate_left
                      · refine gives_pure (by rfl) ?_
                        intro w0 hSw; (try dsimp only at hSw); go_simp; (try with_reducible rfl)
                      try simp only [Act.put, List.setIfInBounds_toArray, List.set_cons_zero, List.set_cons_succ]
                      refine wpD_step (i := 17) (o := { dst := some 135, op := Op.binOp BinOp.geq 3 (Operand.tmp 133) (Operand.tmp 134) 3, type := 4, pos := "law.go:111", after := #[{ on := 15, ground := Ground.data }, { on := 16, ground := Ground.data }, { on := 14, ground := Ground.guard }], guard := some (14, false) }) (v := (Value.bool (false))) rfl (by kernel_rfl) (by kernel_rfl) ?_ ?_
                      · refine gives_pure (by rfl) ?_
                        intro w0 hSw; (try dsimp only at hSw); go_simp; (try with_reducible rfl)
                      try simp only [Act.put, List.setIfInBounds_toArray, List.set_cons_zero, List.set_cons_succ]
                      refine wpD_step (i := 18) (o := { dst := some 136, op := Op.move (Operand.tmp 135), type := 4, pos := "law.go:111", after := #[{ on := 17, ground := Ground.data }, { on := 14, ground := Ground.chain }, { on := 14, ground := Ground.guard }], guard := some (14, false) }) (v := (Value.bool (false))) rfl (by kernel_rfl) (by kernel_rfl) ?_ ?_
                      · refine gives_pure (by rfl) ?_
                        intro w0 hSw; (try dsimp only at hSw); go_simp; (try with_reducible rfl)
                      try simp only [Act.put, List.setIfInBounds_toArray, List.set_cons_zero, List.set_cons_succ]
                      refine wpD_step (i := 19) (o := { dst := some 137, op := Op.move (Operand.tmp 16), type := 3, pos := "law.go:111", after := #[{ on := 18, ground := Ground.guard }], guard := some (18, true) }) (v := undef) rfl (by kernel_rfl) (by kernel_rfl) (gives_not (by rfl)) ?_
                      try simp only [Act.put, List.setIfInBounds_toArray, List.set_cons_zero, List.set_cons_succ]
                      refine wpD_step (i := 20) (o := { dst := some 138, op := Op.binOp BinOp.add 3 (Operand.tmp 137) (Operand.const (Value.int IntKind.i64 1)) 3, type := 3, pos := "law.go:111", after := #[{ on := 19, ground := Ground.data }, { on := 18, ground := Ground.guard }], guard := some (18, true) }) (v := undef) rfl (by kernel_rfl) (by kernel_rfl) (gives_not (by rfl)) ?_
                      try simp only [Act.put, List.setIfInBounds_toArray, List.set_cons_zero, List.set_cons_succ]
                      refine wpD_step (i := 21) (o := { dst := some 139, op := Op.move (Operand.tmp 9), type := 29, pos := "law.go:111", after := #[{ on := 18, ground := Ground.guard }], guard := some (18, true) }) (v := undef) rfl (by kernel_rfl) (by kernel_rfl) (gives_not (by rfl)) ?_
                      try simp only [Act.put, List.setIfInBounds_toArray, List.set_cons_zero, List.set_cons_succ]
                      refine wpD_step (i := 22) (o := { dst := some 140, op := Op.call { callee := Callee.builtin Builtin.len, args := #[Operand.tmp 139], argTypes := #[29] }, type := 3, pos := "law.go:111", after := #[{ on := 21, ground := Ground.data }, { on := 18, ground := Ground.guard }], guard := some (18, true) }) (v := undef) rfl (by kernel_rfl) (by kernel_rfl) (gives_not (by rfl)) ?_
                      try simp only [Act.put, List.setIfInBounds_toArray, List.set_cons_zero, List.set_cons_succ]
                      refine wpD_step (i := 23) (o := { dst := some 141, op := Op.binOp BinOp.lss 3 (Operand.tmp 138) (Operand.tmp 140) 3, type := 4, pos := "law.go:111", after := #[{ on := 20, ground := Ground.data }, { on := 22, ground := Ground.data }, { on := 18, ground := Ground.guard }], guard := some (18, true) }) (v := undef) rfl (by kernel_rfl) (by kernel_rfl) (gives_not (by rfl)) ?_
                      try simp only [Act.put, List.setIfInBounds_toArray, List.set_cons_zero, List.set_cons_succ]
                      refine wpD_step (i := 24) (o := { dst := some 142, op := Op.pick (Operand.tmp 136) (Operand.tmp 141) (Operand.const (Value.bool false)), type := 4, pos := "law.go:111", after := #[{ on := 18, ground := Ground.data }, { on := 23, ground := Ground.data }, { on := 14, ground := Ground.guard }], guard := some (14, false) }) (v := (Value.bool (false))) rfl (by kernel_rfl) (by kernel_rfl) ?_ ?_
                      · refine gives_pure (by rfl) ?_
                        intro w0 hSw; first | rfl | ((try dsimp only at hSw); go_simp; (try with_reducible rfl))
                      try simp only [Act.put, List.setIfInBounds_toArray, List.set_cons_zero, List.set_cons_succ]
                      refine wpD_step (i := 25) (o := { dst := some 143, op := Op.move (Operand.tmp 142), type := 4, pos := "law.go:111", after := #[{ on := 24, ground := Ground.data }, { on := 18, ground := Ground.chain }, { on := 14, ground := Ground.guard }], guard := some (14, false) }) (v := (Value.bool (false))) rfl (by kernel_rfl) (by kernel_rfl) ?_ ?_
                      · refine gives_pure (by rfl) ?_
                        intro w0 hSw; (try dsimp only at hSw); go_simp; (try with_reducible rfl)
                      try simp only [Act.put, List.setIfInBounds_toArray, List.set_cons_zero, List.set_cons_succ]
                      refine wpD_step (i := 26) (o := { dst := some 144, op := Op.move (Operand.tmp 14), type := 29, pos := "law.go:111", after := #[{ on := 25, ground := Ground.guard }], guard := some (25, true) }) (v := undef) rfl (by kernel_rfl) (by kernel_rfl) (gives_not (by rfl)) ?_
                      try simp only [Act.put, List.setIfInBounds_toArray, List.set_cons_zero, List.set_cons_succ]
                      refine wpD_step (i := 27) (o := { dst := some 145, op := Op.move (Operand.tmp 16), type := 3, pos := "law.go:111", after := #[{ on := 25, ground := Ground.guard }], guard := some (25, true) }) (v := undef) rfl (by kernel_rfl) (by kernel_rfl) (gives_not (by rfl)) ?_
                      try simp only [Act.put, List.setIfInBounds_toArray, List.set_cons_zero, List.set_cons_succ]
                      refine wpD_step (i := 28) (o := { dst := some 146, op := Op.indexAddr 29 (Operand.tmp 144) (Operand.tmp 145), type := 0, pos := "law.go:111", after := #[{ on := 26, ground := Ground.data }, { on := 27, ground := Ground.data }, { on := 25, ground := Ground.guard }], guard := some (25, true) }) (v := undef) rfl (by kernel_rfl) (by kernel_rfl) (gives_not (by rfl)) ?_
                      try simp only [Act.put, List.setIfInBounds_toArray, List.set_cons_zero, List.set_cons_succ]
                      refine wpD_step (i := 29) (o := { dst := some 147, op := Op.load 9 (Operand.tmp 146), type := 9, pos := "law.go:111", after := #[{ on := 28, ground := Ground.data }, { on := 25, ground := Ground.guard }], guard := some (25, true) }) (v := undef) rfl (by kernel_rfl) (by kernel_rfl) (gives_not (by rfl)) ?_
                      try simp only [Act.put, List.setIfInBounds_toArray, List.set_cons_zero, List.set_cons_succ]
                      refine wpD_step (i := 30) (o := { dst := some 148, op := Op.move (Operand.tmp 9), type := 29, pos := "law.go:111", after := #[{ on := 25, ground := Ground.guard }], guard := some (25, true) }) (v := undef) rfl (by kernel_rfl) (by kernel_rfl) (gives_not (by rfl)) ?_
                      try simp only [Act.put, List.setIfInBounds_toArray, List.set_cons_zero, List.set_cons_succ]
                      refine wpD_step (i := 31) (o := { dst := some 149, op := Op.move (Operand.tmp 16), type := 3, pos := "law.go:111", after := #[{ on := 25, ground := Ground.guard }], guard := some (25, true) }) (v := undef) rfl (by kernel_rfl) (by kernel_rfl) (gives_not (by rfl)) ?_
                      try simp only [Act.put, List.setIfInBounds_toArray, List.set_cons_zero, List.set_cons_succ]
                      refine wpD_step (i := 32) (o := { dst := some 150, op := Op.binOp BinOp.add 3 (Operand.tmp 149) (Operand.const (Value.int IntKind.i64 1)) 3, type := 3, pos := "law.go:111", after := #[{ on := 31, ground := Ground.data }, { on := 25, ground := Ground.guard }], guard := some (25, true) }) (v := undef) rfl (by kernel_rfl) (by kernel_rfl) (gives_not (by rfl)) ?_
                      try simp only [Act.put, List.setIfInBounds_toArray, List.set_cons_zero, List.set_cons_succ]
                      refine wpD_step (i := 33) (o := { dst := some 151, op := Op.indexAddr 29 (Operand.tmp 148) (Operand.tmp 150), type := 0, pos := "law.go:111", after := #[{ on := 30, ground := Ground.data }, { on := 32, ground := Ground.data }, { on := 25, ground := Ground.guard }], guard := some (25, true) }) (v := undef) rfl (by kernel_rfl) (by kernel_rfl) (gives_not (by rfl)) ?_
                      try simp only [Act.put, List.setIfInBounds_toArray, List.set_cons_zero, List.set_cons_succ]
                      refine wpD_step (i := 34) (o := { dst := some 152, op := Op.load 9 (Operand.tmp 151), type := 9, pos := "law.go:111", after := #[{ on := 33, ground := Ground.data }, { on := 25, ground := Ground.guard }], guard := some (25, true) }) (v := undef) rfl (by kernel_rfl) (by kernel_rfl) (gives_not (by rfl)) ?_
                      try simp only [Act.put, List.setIfInBounds_toArray, List.set_cons_zero, List.set_cons_succ]
                      refine wpD_step (i := 35) (o := { dst := some 153, op := Op.binOp BinOp.neq 9 (Operand.tmp 147) (Operand.tmp 152) 9, type := 4, pos := "law.go:111", after := #[{ on := 29, ground := Ground.data }, { on := 34, ground := Ground.data }, { on := 25, ground := Ground.guard }], guard := some (25, true) }) (v := undef) rfl (by kernel_rfl) (by kernel_rfl) (gives_not (by rfl)) ?_
                      try simp only [Act.put, List.setIfInBounds_toArray, List.set_cons_zero, List.set_cons_succ]
                      refine wpD_step (i := 36) (o := { dst := some 154, op := Op.pick (Operand.tmp 143) (Operand.tmp 153) (Operand.const (Value.bool false)), type := 4, pos := "law.go:111", after := #[{ on := 25, ground := Ground.data }, { on := 35, ground := Ground.data }, { on := 14, ground := Ground.guard }], guard := some (14, false) }) (v := (Value.bool (false))) rfl (by kernel_rfl) (by kernel_rfl) ?_ ?_
                      · refine gives_pure (by rfl) ?_
                        intro w0 hSw; first | rfl | ((try dsimp only at hSw); go_simp; (try with_reducible rfl))
                      try simp only [Act.put, List.setIfInBounds_toArray, List.set_cons_zero, List.set_cons_succ]
                      refine wpD_step (i := 37) (o := { dst := some 155, op := Op.pick (Operand.tmp 132) (Operand.const (Value.bool true)) (Operand.tmp 154), type := 4, pos := "law.go:111", after := #[{ on := 14, ground := Ground.data }, { on := 36, ground := Ground.data }], guard := none }) (v := (Value.bool (false))) rfl (by kernel_rfl) (by kernel_rfl) ?_ ?_
                      · refine gives_pure (by rfl) ?_
                        intro w0 hSw; first | rfl | ((try dsimp only at hSw); go_simp; (try with_reducible rfl))
                      try simp only [Act.put, List.setIfInBounds_toArray, List.set_cons_zero, List.set_cons_succ]
                      refine wpD_done (by kernel_rfl) (fun wz hHeld => ?_) _
                      go_wp2_with fail
                      go_roundw
                      case rel => exact ⟨m + 1, by omega, by omega, by go_num, hHeld.2⟩
                      case measure => simp [intOf]; omega
                    · have hw1 : IntKind.i64.wrap ((m : Int) + 1) = (m : Int) + 1 := IntWalk.i64_in _ (by omega)
                      have hw4 : ((m : Int) + 1).toNat = m + 1 := by omega
                      have hw2 : (0 : Int) ≤ (m : Int) + 1 := by omega
                      have hw3 : (m : Int) + 1 < (xs.length : Int) := by omega
                      have hw5 : j ≤ m := by omega
                      obtain ⟨b5, off5, ha5, q1⟩ := RowAt.get (RowAt.below A4.out.t.r HB.out) (k := (m + 1)) (v := .string (xs[(m + 1)]'(show m + 1 < xs.length by omega))) (by simp [strs, List.getElem?_eq_getElem (show (m + 1) < xs.length from (show m + 1 < xs.length by omega))])
                      obtain ⟨b6, off6, ha6, q2⟩ := RowAt.get (RowAt.below R4.out HB.out) (k := m) (v := .string (ys[m]'hml')) (by simp [strs, List.getElem?_eq_getElem hml'])
                      subst ha5 ha6
                      rw [show ys[m]'hml' = xs[m + 1]'(by omega) from by subst hys; exact get_erase_ge xs j m (by omega) (by omega) hml'] at q2
                      clear hys
                      generalize xs[(m + 1)]'(show m + 1 < xs.length by omega) = x at *
                      go_upto_region 30 with (fail)
                      refine wp_region_held_drew (S := (fun W => (W.cell? ⟨b6, off6 + m, none⟩ = some (.string x) ∧ W.cell? ⟨b5, off5 + (m + 1), none⟩ = some (.string x)) ∧ Below w4.heap.size w4 W)) (by kernel_rfl) ?_ (fun hHeld => ?_)
                      · (try dsimp only); exact ⟨⟨q2, q1⟩, HB.out.drew⟩
                      refine wpD_go (by kernel_rfl) _ _ _ _ (by assumption) ?_
                      refine wpD_step (i := 0) (o := { dst := some 118, op := Op.move (Operand.tmp 16), type := 3, pos := "law.go:111", after := #[], guard := none }) (v := ?_) rfl (by kernel_rfl) (by kernel_rfl) ?_ ?_
                      rotate_left
                      · refine gives_pure (by rfl) ?_
                        intro w0 hSw; (try dsimp only at hSw); go_simp; (try with_reducible rfl)
                      try simp only [Act.put, List.setIfInBounds_toArray, List.set_cons_zero, List.set_cons_succ]
                      refine wpD_step (i := 1) (o := { dst := some 119, op := Op.move (Operand.tmp 11), type := 3, pos := "law.go:111", after := #[], guard := none }) (v := ?_) rfl (by kernel_rfl) (by kernel_rfl) ?_ ?_
                      rotate_left
                      · refine gives_pure (by rfl) ?_
                        intro w0 hSw; (try dsimp only at hSw); go_simp; (try with_reducible rfl)
                      try simp only [Act.put, List.setIfInBounds_toArray, List.set_cons_zero, List.set_cons_succ]
                      refine wpD_step (i := 2) (o := { dst := some 120, op := Op.binOp BinOp.lss 3 (Operand.tmp 118) (Operand.tmp 119) 3, type := 4, pos := "law.go:111", after := #[{ on := 0, ground := Ground.data }, { on := 1, ground := Ground.data }], guard := none }) (v := (Value.bool (false))) rfl (by kernel_rfl) (by kernel_rfl) ?_ ?_
                      · refine gives_pure (by rfl) ?_
                        intro w0 hSw; (try dsimp only at hSw); go_simp; (try with_reducible rfl)
                      try simp only [Act.put, List.setIfInBounds_toArray, List.set_cons_zero, List.set_cons_succ]
                      refine wpD_step (i := 3) (o := { dst := some 121, op := Op.move (Operand.tmp 120), type := 4, pos := "law.go:111", after := #[{ on := 2, ground := Ground.data }], guard := none }) (v := (Value.bool (false))) rfl (by kernel_rfl) (by kernel_rfl) ?_ ?_
                      · refine gives_pure (by rfl) ?_
                        intro w0 hSw; (try dsimp only at hSw); go_simp; (try with_reducible rfl)
                      try simp only [Act.put, List.setIfInBounds_toArray, List.set_cons_zero, List.set_cons_succ]
                      refine wpD_step (i := 4) (o := { dst := some 122, op := Op.move (Operand.tmp 14), type := 29, pos := "law.go:111", after := #[{ on := 3, ground := Ground.guard }], guard := some (3, true) }) (v := undef) rfl (by kernel_rfl) (by kernel_rfl) (gives_not (by rfl)) ?_
                      try simp only [Act.put, List.setIfInBounds_toArray, List.set_cons_zero, List.set_cons_succ]
                      refine wpD_step (i := 5) (o := { dst := some 123, op := Op.move (Operand.tmp 16), type := 3, pos := "law.go:111", after := #[{ on := 3, ground := Ground.guard }], guard := some (3, true) }) (v := undef) rfl (by kernel_rfl) (by kernel_rfl) (gives_not (by rfl)) ?_
                      try simp only [Act.put, List.setIfInBounds_toArray, List.set_cons_zero, List.set_cons_succ]
                      refine wpD_step (i := 6) (o := { dst := some 124, op := Op.indexAddr 29 (Operand.tmp 122) (Operand.tmp 123), type := 0, pos := "law.go:111", after := #[{ on := 4, ground := Ground.data }, { on := 5, ground := Ground.data }, { on := 3, ground := Ground.guard }], guard := some (3, true) }) (v := undef) rfl (by kernel_rfl) (by kernel_rfl) (gives_not (by rfl)) ?_
                      try simp only [Act.put, List.setIfInBounds_toArray, List.set_cons_zero, List.set_cons_succ]
                      refine wpD_step (i := 7) (o := { dst := some 125, op := Op.load 9 (Operand.tmp 124), type := 9, pos := "law.go:111", after := #[{ on := 6, ground := Ground.data }, { on := 3, ground := Ground.guard }], guard := some (3, true) }) (v := undef) rfl (by kernel_rfl) (by kernel_rfl) (gives_not (by rfl)) ?_
                      try simp only [Act.put, List.setIfInBounds_toArray, List.set_cons_zero, List.set_cons_succ]
                      refine wpD_step (i := 8) (o := { dst := some 126, op := Op.move (Operand.tmp 9), type := 29, pos := "law.go:111", after := #[{ on := 3, ground := Ground.guard }], guard := some (3, true) }) (v := undef) rfl (by kernel_rfl) (by kernel_rfl) (gives_not (by rfl)) ?_
                      try simp only [Act.put, List.setIfInBounds_toArray, List.set_cons_zero, List.set_cons_succ]
                      refine wpD_step (i := 9) (o := { dst := some 127, op := Op.move (Operand.tmp 16), type := 3, pos := "law.go:111", after := #[{ on := 3, ground := Ground.guard }], guard := some (3, true) }) (v := undef) rfl (by kernel_rfl) (by kernel_rfl) (gives_not (by rfl)) ?_
                      try simp only [Act.put, List.setIfInBounds_toArray, List.set_cons_zero, List.set_cons_succ]
                      refine wpD_step (i := 10) (o := { dst := some 128, op := Op.indexAddr 29 (Operand.tmp 126) (Operand.tmp 127), type := 0, pos := "law.go:111", after := #[{ on := 8, ground := Ground.data }, { on := 9, ground := Ground.data }, { on := 3, ground := Ground.guard }], guard := some (3, true) }) (v := undef) rfl (by kernel_rfl) (by kernel_rfl) (gives_not (by rfl)) ?_
                      try simp only [Act.put, List.setIfInBounds_toArray, List.set_cons_zero, List.set_cons_succ]
                      refine wpD_step (i := 11) (o := { dst := some 129, op := Op.load 9 (Operand.tmp 128), type := 9, pos := "law.go:111", after := #[{ on := 10, ground := Ground.data }, { on := 3, ground := Ground.guard }], guard := some (3, true) }) (v := undef) rfl (by kernel_rfl) (by kernel_rfl) (gives_not (by rfl)) ?_
                      try simp only [Act.put, List.setIfInBounds_toArray, List.set_cons_zero, List.set_cons_succ]
                      refine wpD_step (i := 12) (o := { dst := some 130, op := Op.binOp BinOp.neq 9 (Operand.tmp 125) (Operand.tmp 129) 9, type := 4, pos := "law.go:111", after := #[{ on := 7, ground := Ground.data }, { on := 11, ground := Ground.data }, { on := 3, ground := Ground.guard }], guard := some (3, true) }) (v := undef) rfl (by kernel_rfl) (by kernel_rfl) (gives_not (by rfl)) ?_
                      try simp only [Act.put, List.setIfInBounds_toArray, List.set_cons_zero, List.set_cons_succ]
                      refine wpD_step (i := 13) (o := { dst := some 131, op := Op.pick (Operand.tmp 121) (Operand.tmp 130) (Operand.const (Value.bool false)), type := 4, pos := "law.go:111", after := #[{ on := 3, ground := Ground.data }, { on := 12, ground := Ground.data }], guard := none }) (v := (Value.bool (false))) rfl (by kernel_rfl) (by kernel_rfl) ?_ ?_
                      · refine gives_pure (by rfl) ?_
                        intro w0 hSw; first | rfl | ((try dsimp only at hSw); go_simp; (try with_reducible rfl))
                      try simp only [Act.put, List.setIfInBounds_toArray, List.set_cons_zero, List.set_cons_succ]
                      refine wpD_step (i := 14) (o := { dst := some 132, op := Op.move (Operand.tmp 131), type := 4, pos := "law.go:111", after := #[{ on := 13, ground := Ground.data }, { on := 3, ground := Ground.chain }], guard := none }) (v := (Value.bool (false))) rfl (by kernel_rfl) (by kernel_rfl) ?_ ?_
                      · refine gives_pure (by rfl) ?_
                        intro w0 hSw; (try dsimp only at hSw); go_simp; (try with_reducible rfl)
                      try simp only [Act.put, List.setIfInBounds_toArray, List.set_cons_zero, List.set_cons_succ]
                      refine wpD_step (i := 15) (o := { dst := some 133, op := Op.move (Operand.tmp 16), type := 3, pos := "law.go:111", after := #[{ on := 14, ground := Ground.guard }], guard := some (14, false) }) (v := ?_) rfl (by kernel_rfl) (by kernel_rfl) ?_ ?_
                      rotate_left
                      · refine gives_pure (by rfl) ?_
                        intro w0 hSw; (try dsimp only at hSw); go_simp; (try with_reducible rfl)
                      try simp only [Act.put, List.setIfInBounds_toArray, List.set_cons_zero, List.set_cons_succ]
                      refine wpD_step (i := 16) (o := { dst := some 134, op := Op.move (Operand.tmp 11), type := 3, pos := "law.go:111", after := #[{ on := 14, ground := Ground.guard }], guard := some (14, false) }) (v := ?_) rfl (by kernel_rfl) (by kernel_rfl) ?_ ?_
                      rotate_left
                      · refine gives_pure (by rfl) ?_
                        intro w0 hSw; (try dsimp only at hSw); go_simp; (try with_reducible rfl)
                      try simp only [Act.put, List.setIfInBounds_toArray, List.set_cons_zero, List.set_cons_succ]
                      refine wpD_step (i := 17) (o := { dst := some 135, op := Op.binOp BinOp.geq 3 (Operand.tmp 133) (Operand.tmp 134) 3, type := 4, pos := "law.go:111", after := #[{ on := 15, ground := Ground.data }, { on := 16, ground := Ground.data }, { on := 14, ground := Ground.guard }], guard := some (14, false) }) (v := (Value.bool (true))) rfl (by kernel_rfl) (by kernel_rfl) ?_ ?_
                      · refine gives_pure (by rfl) ?_
                        intro w0 hSw; (try dsimp only at hSw); go_simp; (try with_reducible rfl)
                      try simp only [Act.put, List.setIfInBounds_toArray, List.set_cons_zero, List.set_cons_succ]
                      refine wpD_step (i := 18) (o := { dst := some 136, op := Op.move (Operand.tmp 135), type := 4, pos := "law.go:111", after := #[{ on := 17, ground := Ground.data }, { on := 14, ground := Ground.chain }, { on := 14, ground := Ground.guard }], guard := some (14, false) }) (v := (Value.bool (true))) rfl (by kernel_rfl) (by kernel_rfl) ?_ ?_
                      · refine gives_pure (by rfl) ?_
                        intro w0 hSw; (try dsimp only at hSw); go_simp; (try with_reducible rfl)
                      try simp only [Act.put, List.setIfInBounds_toArray, List.set_cons_zero, List.set_cons_succ]
                      refine wpD_step (i := 19) (o := { dst := some 137, op := Op.move (Operand.tmp 16), type := 3, pos := "law.go:111", after := #[{ on := 18, ground := Ground.guard }], guard := some (18, true) }) (v := ?_) rfl (by kernel_rfl) (by kernel_rfl) ?_ ?_
                      rotate_left
                      · refine gives_pure (by rfl) ?_
                        intro w0 hSw; (try dsimp only at hSw); go_simp; (try with_reducible rfl)
                      try simp only [Act.put, List.setIfInBounds_toArray, List.set_cons_zero, List.set_cons_succ]
                      refine wpD_step (i := 20) (o := { dst := some 138, op := Op.binOp BinOp.add 3 (Operand.tmp 137) (Operand.const (Value.int IntKind.i64 1)) 3, type := 3, pos := "law.go:111", after := #[{ on := 19, ground := Ground.data }, { on := 18, ground := Ground.guard }], guard := some (18, true) }) (v := ?_) rfl (by kernel_rfl) (by kernel_rfl) ?_ ?_
                      rotate_left
                      · refine gives_pure (by rfl) ?_
                        intro w0 hSw; (try dsimp only at hSw); go_simp; (try with_reducible rfl)
                      try simp only [Act.put, List.setIfInBounds_toArray, List.set_cons_zero, List.set_cons_succ]
                      refine wpD_step (i := 21) (o := { dst := some 139, op := Op.move (Operand.tmp 9), type := 29, pos := "law.go:111", after := #[{ on := 18, ground := Ground.guard }], guard := some (18, true) }) (v := ?_) rfl (by kernel_rfl) (by kernel_rfl) ?_ ?_
                      rotate_left
                      · refine gives_pure (by rfl) ?_
                        intro w0 hSw; (try dsimp only at hSw); go_simp; (try with_reducible rfl)
                      try simp only [Act.put, List.setIfInBounds_toArray, List.set_cons_zero, List.set_cons_succ]
                      refine wpD_step (i := 22) (o := { dst := some 140, op := Op.call { callee := Callee.builtin Builtin.len, args := #[Operand.tmp 139], argTypes := #[29] }, type := 3, pos := "law.go:111", after := #[{ on := 21, ground := Ground.data }, { on := 18, ground := Ground.guard }], guard := some (18, true) }) (v := ?_) rfl (by kernel_rfl) (by kernel_rfl) ?_ ?_
                      rotate_left
                      · refine gives_pure (by rfl) ?_
                        intro w0 hSw; (try dsimp only at hSw); go_simp; (try with_reducible rfl)
                      try simp only [Act.put, List.setIfInBounds_toArray, List.set_cons_zero, List.set_cons_succ]
                      refine wpD_step (i := 23) (o := { dst := some 141, op := Op.binOp BinOp.lss 3 (Operand.tmp 138) (Operand.tmp 140) 3, type := 4, pos := "law.go:111", after := #[{ on := 20, ground := Ground.data }, { on := 22, ground := Ground.data }, { on := 18, ground := Ground.guard }], guard := some (18, true) }) (v := (Value.bool (true))) rfl (by kernel_rfl) (by kernel_rfl) ?_ ?_
                      · refine gives_pure (by rfl) ?_
                        intro w0 hSw; (try dsimp only at hSw); go_simp; (try with_reducible rfl)
                      try simp only [Act.put, List.setIfInBounds_toArray, List.set_cons_zero, List.set_cons_succ]
                      refine wpD_step (i := 24) (o := { dst := some 142, op := Op.pick (Operand.tmp 136) (Operand.tmp 141) (Operand.const (Value.bool false)), type := 4, pos := "law.go:111", after := #[{ on := 18, ground := Ground.data }, { on := 23, ground := Ground.data }, { on := 14, ground := Ground.guard }], guard := some (14, false) }) (v := (Value.bool (true))) rfl (by kernel_rfl) (by kernel_rfl) ?_ ?_
                      · refine gives_pure (by rfl) ?_
                        intro w0 hSw; first | rfl | ((try dsimp only at hSw); go_simp; (try with_reducible rfl))
                      try simp only [Act.put, List.setIfInBounds_toArray, List.set_cons_zero, List.set_cons_succ]
                      refine wpD_step (i := 25) (o := { dst := some 143, op := Op.move (Operand.tmp 142), type := 4, pos := "law.go:111", after := #[{ on := 24, ground := Ground.data }, { on := 18, ground := Ground.chain }, { on := 14, ground := Ground.guard }], guard := some (14, false) }) (v := (Value.bool (true))) rfl (by kernel_rfl) (by kernel_rfl) ?_ ?_
                      · refine gives_pure (by rfl) ?_
                        intro w0 hSw; (try dsimp only at hSw); go_simp; (try with_reducible rfl)
                      try simp only [Act.put, List.setIfInBounds_toArray, List.set_cons_zero, List.set_cons_succ]
                      refine wpD_step (i := 26) (o := { dst := some 144, op := Op.move (Operand.tmp 14), type := 29, pos := "law.go:111", after := #[{ on := 25, ground := Ground.guard }], guard := some (25, true) }) (v := ?_) rfl (by kernel_rfl) (by kernel_rfl) ?_ ?_
                      rotate_left
                      · refine gives_pure (by rfl) ?_
                        intro w0 hSw; (try dsimp only at hSw); go_simp; (try with_reducible rfl)
                      try simp only [Act.put, List.setIfInBounds_toArray, List.set_cons_zero, List.set_cons_succ]
                      refine wpD_step (i := 27) (o := { dst := some 145, op := Op.move (Operand.tmp 16), type := 3, pos := "law.go:111", after := #[{ on := 25, ground := Ground.guard }], guard := some (25, true) }) (v := ?_) rfl (by kernel_rfl) (by kernel_rfl) ?_ ?_
                      rotate_left
                      · refine gives_pure (by rfl) ?_
                        intro w0 hSw; (try dsimp only at hSw); go_simp; (try with_reducible rfl)
                      try simp only [Act.put, List.setIfInBounds_toArray, List.set_cons_zero, List.set_cons_succ]
                      refine wpD_step (i := 28) (o := { dst := some 146, op := Op.indexAddr 29 (Operand.tmp 144) (Operand.tmp 145), type := 0, pos := "law.go:111", after := #[{ on := 26, ground := Ground.data }, { on := 27, ground := Ground.data }, { on := 25, ground := Ground.guard }], guard := some (25, true) }) (v := ?_) rfl (by kernel_rfl) (by kernel_rfl) ?_ ?_
                      rotate_left
                      · refine gives_pure (by rfl) ?_
                        intro w0 hSw; (try dsimp only at hSw); go_simp; (try with_reducible rfl)
                      try simp only [Act.put, List.setIfInBounds_toArray, List.set_cons_zero, List.set_cons_succ]
                      refine wpD_step (i := 29) (o := { dst := some 147, op := Op.load 9 (Operand.tmp 146), type := 9, pos := "law.go:111", after := #[{ on := 28, ground := Ground.data }, { on := 25, ground := Ground.guard }], guard := some (25, true) }) (v := ?_) rfl (by kernel_rfl) (by kernel_rfl) ?_ ?_
                      rotate_left
                      · refine gives_pure (by rfl) ?_
                        intro w0 hSw; (try dsimp only at hSw); go_simp; (try with_reducible rfl)
                      try simp only [Act.put, List.setIfInBounds_toArray, List.set_cons_zero, List.set_cons_succ]
                      refine wpD_step (i := 30) (o := { dst := some 148, op := Op.move (Operand.tmp 9), type := 29, pos := "law.go:111", after := #[{ on := 25, ground := Ground.guard }], guard := some (25, true) }) (v := ?_) rfl (by kernel_rfl) (by kernel_rfl) ?_ ?_
                      rotate_left
                      · refine gives_pure (by rfl) ?_
                        intro w0 hSw; (try dsimp only at hSw); go_simp; (try with_reducible rfl)
                      try simp only [Act.put, List.setIfInBounds_toArray, List.set_cons_zero, List.set_cons_succ]
                      refine wpD_step (i := 31) (o := { dst := some 149, op := Op.move (Operand.tmp 16), type := 3, pos := "law.go:111", after := #[{ on := 25, ground := Ground.guard }], guard := some (25, true) }) (v := ?_) rfl (by kernel_rfl) (by kernel_rfl) ?_ ?_
                      rotate_left
                      · refine gives_pure (by rfl) ?_
                        intro w0 hSw; (try dsimp only at hSw); go_simp; (try with_reducible rfl)
                      try simp only [Act.put, List.setIfInBounds_toArray, List.set_cons_zero, List.set_cons_succ]
                      refine wpD_step (i := 32) (o := { dst := some 150, op := Op.binOp BinOp.add 3 (Operand.tmp 149) (Operand.const (Value.int IntKind.i64 1)) 3, type := 3, pos := "law.go:111", after := #[{ on := 31, ground := Ground.data }, { on := 25, ground := Ground.guard }], guard := some (25, true) }) (v := ?_) rfl (by kernel_rfl) (by kernel_rfl) ?_ ?_
                      rotate_left
                      · refine gives_pure (by rfl) ?_
                        intro w0 hSw; (try dsimp only at hSw); go_simp; (try with_reducible rfl)
                      try simp only [Act.put, List.setIfInBounds_toArray, List.set_cons_zero, List.set_cons_succ]
                      refine wpD_step (i := 33) (o := { dst := some 151, op := Op.indexAddr 29 (Operand.tmp 148) (Operand.tmp 150), type := 0, pos := "law.go:111", after := #[{ on := 30, ground := Ground.data }, { on := 32, ground := Ground.data }, { on := 25, ground := Ground.guard }], guard := some (25, true) }) (v := ?_) rfl (by kernel_rfl) (by kernel_rfl) ?_ ?_
                      rotate_left
                      · refine gives_pure (by rfl) ?_
                        intro w0 hSw; (try dsimp only at hSw); go_simp; (try with_reducible rfl)
                      try simp only [Act.put, List.setIfInBounds_toArray, List.set_cons_zero, List.set_cons_succ]
                      refine wpD_step (i := 34) (o := { dst := some 152, op := Op.load 9 (Operand.tmp 151), type := 9, pos := "law.go:111", after := #[{ on := 33, ground := Ground.data }, { on := 25, ground := Ground.guard }], guard := some (25, true) }) (v := ?_) rfl (by kernel_rfl) (by kernel_rfl) ?_ ?_
                      rotate_left
                      · refine gives_pure (by rfl) ?_
                        intro w0 hSw; (try dsimp only at hSw); go_simp; (try with_reducible rfl)
                      try simp only [Act.put, List.setIfInBounds_toArray, List.set_cons_zero, List.set_cons_succ]
                      refine wpD_step (i := 35) (o := { dst := some 153, op := Op.binOp BinOp.neq 9 (Operand.tmp 147) (Operand.tmp 152) 9, type := 4, pos := "law.go:111", after := #[{ on := 29, ground := Ground.data }, { on := 34, ground := Ground.data }, { on := 25, ground := Ground.guard }], guard := some (25, true) }) (v := (Value.bool (false))) rfl (by kernel_rfl) (by kernel_rfl) ?_ ?_
                      · refine gives_pure (by rfl) ?_
                        intro w0 hSw; first | rfl | ((try dsimp only at hSw); go_simp; (try with_reducible rfl))
                      try simp only [Act.put, List.setIfInBounds_toArray, List.set_cons_zero, List.set_cons_succ]
                      refine wpD_step (i := 36) (o := { dst := some 154, op := Op.pick (Operand.tmp 143) (Operand.tmp 153) (Operand.const (Value.bool false)), type := 4, pos := "law.go:111", after := #[{ on := 25, ground := Ground.data }, { on := 35, ground := Ground.data }, { on := 14, ground := Ground.guard }], guard := some (14, false) }) (v := (Value.bool (false))) rfl (by kernel_rfl) (by kernel_rfl) ?_ ?_
                      · refine gives_pure (by rfl) ?_
                        intro w0 hSw; first | rfl | ((try dsimp only at hSw); go_simp; (try with_reducible rfl))
                      try simp only [Act.put, List.setIfInBounds_toArray, List.set_cons_zero, List.set_cons_succ]
                      refine wpD_step (i := 37) (o := { dst := some 155, op := Op.pick (Operand.tmp 132) (Operand.const (Value.bool true)) (Operand.tmp 154), type := 4, pos := "law.go:111", after := #[{ on := 14, ground := Ground.data }, { on := 36, ground := Ground.data }], guard := none }) (v := (Value.bool (false))) rfl (by kernel_rfl) (by kernel_rfl) ?_ ?_
                      · refine gives_pure (by rfl) ?_
                        intro w0 hSw; first | rfl | ((try dsimp only at hSw); go_simp; (try with_reducible rfl))
                      try simp only [Act.put, List.setIfInBounds_toArray, List.set_cons_zero, List.set_cons_succ]
                      refine wpD_done (by kernel_rfl) (fun wz hHeld => ?_) _
                      clear hw1 hw4
                      go_wp2_with fail
                      go_roundw
                      case rel => exact ⟨m + 1, by omega, by omega, by go_num, hHeld.2⟩
                      case measure => simp [intOf]; omega
                  · have hd : (decide ((m : Int) < (xs.length : Int)) = false) ∨ (decide ((m : Int) < (xs.length : Int)) = true ∧ decide ((m : Int) < (ys.length : Int)) = false) := by
                      rcases (by omega : xs.length ≤ m ∨ (m < xs.length ∧ ys.length ≤ m)) with h | ⟨h, h'⟩
                      · exact Or.inl (dlt_f (by omega))
                      · exact Or.inr ⟨dlt_t (by omega), dlt_f (by omega)⟩
                    rcases hd with g1 | ⟨g1, g2⟩
                    all_goals
                      go_wp2_with fail
                      go_roundw
                      case rel => exact ⟨k + 1, ys, _, by omega, by go_num, by omega, (A4.out.below HB.out).onR (Tx.nil _) (Below.refl _ _) (fun x hx => by cases hx)⟩
                      case measure => simp [intOf]; omega
            · refine (btake_none pl _ (bat_far pl (by omega) _ (blen_any _ A1.out.b))).mono ?_; rintro e w' ⟨rfl, rfl⟩
              have A9 := A1
              clear A1 hp
              as_aux_lemma =>
                have hne : ((xs.length : Int) != (xs.length : Int)) = false := by simp
                go_wp2_with fail
                refine (ball_any (by omega) _ A9.out.b).mono ?_; rintro e w4 ⟨a4, c4, rfl, r4, b4, _⟩
                have A4 := Lib.hid (A9.out.below b4)
                have R4 := Lib.hid r4
                clear b4 r4 A9 p1
                go_wp2_with fail
                obtain ⟨wo, rfl⟩ : ∃ wo : World, wo = wr := ⟨_, rfl⟩
                go_loopw [16] (fun i wr => ∃ m : Nat, m ≤ xs.length ∧ m ≤ xs.length ∧ i = .int .i64 m ∧ Below w4.heap.size w4 wr) (fun i _ => xs.length - (intOf i).toNat)
                case atStart => exact ⟨0, Nat.zero_le _, Nat.zero_le _, rfl, Below.refl _ _⟩
                case round =>
                  obtain ⟨m, hm, hm', rfl, hb⟩ := hrel
                  have HB := Lib.hid hb
                  clear hb
                  by_cases hml : m < xs.length ∧ m < xs.length
                  · obtain ⟨hml, hml'⟩ := hml
                    obtain ⟨b5, off5, ha5, q1⟩ := RowAt.get (RowAt.below A4.out.t.r HB.out) (k := m) (v := .string (xs[m]'hml)) (by simp [strs, List.getElem?_eq_getElem (show m < xs.length from hml)])
                    obtain ⟨b6, off6, ha6, q2⟩ := RowAt.get (RowAt.below R4.out HB.out) (k := m) (v := .string (xs[m]'hml')) (by simp [strs, List.getElem?_eq_getElem hml'])
                    subst ha5 ha6
                    rw [show xs[m]'hml' = xs[m]'hml from rfl] at q2
                    generalize xs[m]'hml = x at *
                    go_upto_region 30 with (fail)
                    refine wp_region_held_drew (S := (fun W => (W.cell? ⟨b6, off6 + m, none⟩ = some (.string x) ∧ W.cell? ⟨b5, off5 + m, none⟩ = some (.string x)) ∧ Below w4.heap.size w4 W)) (by kernel_rfl) ?_ (fun hHeld => ?_)
                    · (try dsimp only); exact ⟨⟨q2, q1⟩, HB.out.drew⟩
                    refine wpD_go (by kernel_rfl) _ _ _ _ (by assumption) ?_
                    refine wpD_step (i := 0) (o := { dst := some 118, op := Op.move (Operand.tmp 16), type := 3, pos := "law.go:111", after := #[], guard := none }) (v := ?_) rfl (by kernel_rfl) (by kernel_rfl) ?_ ?_
                    rotate_left
                    · refine gives_pure (by rfl) ?_
                      intro w0 hSw; (try dsimp only at hSw); go_simp; (try with_reducible rfl)
                    try simp only [Act.put, List.setIfInBounds_toArray, List.set_cons_zero, List.set_cons_succ]
                    refine wpD_step (i := 1) (o := { dst := some 119, op := Op.move (Operand.tmp 11), type := 3, pos := "law.go:111", after := #[], guard := none }) (v := ?_) rfl (by kernel_rfl) (by kernel_rfl) ?_ ?_
                    rotate_left
                    · refine gives_pure (by rfl) ?_
                      intro w0 hSw; (try dsimp only at hSw); go_simp; (try with_reducible rfl)
                    try simp only [Act.put, List.setIfInBounds_toArray, List.set_cons_zero, List.set_cons_succ]
                    refine wpD_step (i := 2) (o := { dst := some 120, op := Op.binOp BinOp.lss 3 (Operand.tmp 118) (Operand.tmp 119) 3, type := 4, pos := "law.go:111", after := #[{ on := 0, ground := Ground.data }, { on := 1, ground := Ground.data }], guard := none }) (v := (Value.bool (true))) rfl (by kernel_rfl) (by kernel_rfl) ?_ ?_
                    · refine gives_pure (by rfl) ?_
                      intro w0 hSw; (try dsimp only at hSw); go_simp; (try with_reducible rfl)
                    try simp only [Act.put, List.setIfInBounds_toArray, List.set_cons_zero, List.set_cons_succ]
                    refine wpD_step (i := 3) (o := { dst := some 121, op := Op.move (Operand.tmp 120), type := 4, pos := "law.go:111", after := #[{ on := 2, ground := Ground.data }], guard := none }) (v := (Value.bool (true))) rfl (by kernel_rfl) (by kernel_rfl) ?_ ?_
                    · refine gives_pure (by rfl) ?_
                      intro w0 hSw; (try dsimp only at hSw); go_simp; (try with_reducible rfl)
                    try simp only [Act.put, List.setIfInBounds_toArray, List.set_cons_zero, List.set_cons_succ]
                    refine wpD_step (i := 4) (o := { dst := some 122, op := Op.move (Operand.tmp 14), type := 29, pos := "law.go:111", after := #[{ on := 3, ground := Ground.guard }], guard := some (3, true) }) (v := ?_) rfl (by kernel_rfl) (by kernel_rfl) ?_ ?_
                    rotate_left
                    · refine gives_pure (by rfl) ?_
                      intro w0 hSw; (try dsimp only at hSw); go_simp; (try with_reducible rfl)
                    try simp only [Act.put, List.setIfInBounds_toArray, List.set_cons_zero, List.set_cons_succ]
                    refine wpD_step (i := 5) (o := { dst := some 123, op := Op.move (Operand.tmp 16), type := 3, pos := "law.go:111", after := #[{ on := 3, ground := Ground.guard }], guard := some (3, true) }) (v := ?_) rfl (by kernel_rfl) (by kernel_rfl) ?_ ?_
                    rotate_left
                    · refine gives_pure (by rfl) ?_
                      intro w0 hSw; (try dsimp only at hSw); go_simp; (try with_reducible rfl)
                    try simp only [Act.put, List.setIfInBounds_toArray, List.set_cons_zero, List.set_cons_succ]
                    refine wpD_step (i := 6) (o := { dst := some 124, op := Op.indexAddr 29 (Operand.tmp 122) (Operand.tmp 123), type := 0, pos := "law.go:111", after := #[{ on := 4, ground := Ground.data }, { on := 5, ground := Ground.data }, { on := 3, ground := Ground.guard }], guard := some (3, true) }) (v := ?_) rfl (by kernel_rfl) (by kernel_rfl) ?_ ?_
                    rotate_left
                    · refine gives_pure (by rfl) ?_
                      intro w0 hSw; (try dsimp only at hSw); go_simp; (try with_reducible rfl)
                    try simp only [Act.put, List.setIfInBounds_toArray, List.set_cons_zero, List.set_cons_succ]
                    refine wpD_step (i := 7) (o := { dst := some 125, op := Op.load 9 (Operand.tmp 124), type := 9, pos := "law.go:111", after := #[{ on := 6, ground := Ground.data }, { on := 3, ground := Ground.guard }], guard := some (3, true) }) (v := ?_) rfl (by kernel_rfl) (by kernel_rfl) ?_ ?_
                    rotate_left
                    · refine gives_pure (by rfl) ?_
                      intro w0 hSw; (try dsimp only at hSw); go_simp; (try with_reducible rfl)
                    try simp only [Act.put, List.setIfInBounds_toArray, List.set_cons_zero, List.set_cons_succ]
                    refine wpD_step (i := 8) (o := { dst := some 126, op := Op.move (Operand.tmp 9), type := 29, pos := "law.go:111", after := #[{ on := 3, ground := Ground.guard }], guard := some (3, true) }) (v := ?_) rfl (by kernel_rfl) (by kernel_rfl) ?_ ?_
                    rotate_left
                    · refine gives_pure (by rfl) ?_
                      intro w0 hSw; (try dsimp only at hSw); go_simp; (try with_reducible rfl)
                    try simp only [Act.put, List.setIfInBounds_toArray, List.set_cons_zero, List.set_cons_succ]
                    refine wpD_step (i := 9) (o := { dst := some 127, op := Op.move (Operand.tmp 16), type := 3, pos := "law.go:111", after := #[{ on := 3, ground := Ground.guard }], guard := some (3, true) }) (v := ?_) rfl (by kernel_rfl) (by kernel_rfl) ?_ ?_
                    rotate_left
                    · refine gives_pure (by rfl) ?_
                      intro w0 hSw; (try dsimp only at hSw); go_simp; (try with_reducible rfl)
                    try simp only [Act.put, List.setIfInBounds_toArray, List.set_cons_zero, List.set_cons_succ]
                    refine wpD_step (i := 10) (o := { dst := some 128, op := Op.indexAddr 29 (Operand.tmp 126) (Operand.tmp 127), type := 0, pos := "law.go:111", after := #[{ on := 8, ground := Ground.data }, { on := 9, ground := Ground.data }, { on := 3, ground := Ground.guard }], guard := some (3, true) }) (v := ?_) rfl (by kernel_rfl) (by kernel_rfl) ?_ ?_
                    rotate_left
                    · refine gives_pure (by rfl) ?_
                      intro w0 hSw; (try dsimp only at hSw); go_simp; (try with_reducible rfl)
                    try simp only [Act.put, List.setIfInBounds_toArray, List.set_cons_zero, List.set_cons_succ]
                    refine wpD_step (i := 11) (o := { dst := some 129, op := Op.load 9 (Operand.tmp 128), type := 9, pos := "law.go:111", after := #[{ on := 10, ground := Ground.data }, { on := 3, ground := Ground.guard }], guard := some (3, true) }) (v := ?_) rfl (by kernel_rfl) (by kernel_rfl) ?_ ?_
                    rotate_left
                    · refine gives_pure (by rfl) ?_
                      intro w0 hSw; (try dsimp only at hSw); go_simp; (try with_reducible rfl)
                    try simp only [Act.put, List.setIfInBounds_toArray, List.set_cons_zero, List.set_cons_succ]
                    refine wpD_step (i := 12) (o := { dst := some 130, op := Op.binOp BinOp.neq 9 (Operand.tmp 125) (Operand.tmp 129) 9, type := 4, pos := "law.go:111", after := #[{ on := 7, ground := Ground.data }, { on := 11, ground := Ground.data }, { on := 3, ground := Ground.guard }], guard := some (3, true) }) (v := (Value.bool (false))) rfl (by kernel_rfl) (by kernel_rfl) ?_ ?_
                    · refine gives_pure (by rfl) ?_
                      intro w0 hSw; first | rfl | ((try dsimp only at hSw); go_simp; (try with_reducible rfl))
                    try simp only [Act.put, List.setIfInBounds_toArray, List.set_cons_zero, List.set_cons_succ]
                    refine wpD_step (i := 13) (o := { dst := some 131, op := Op.pick (Operand.tmp 121) (Operand.tmp 130) (Operand.const (Value.bool false)), type := 4, pos := "law.go:111", after := #[{ on := 3, ground := Ground.data }, { on := 12, ground := Ground.data }], guard := none }) (v := (Value.bool (false))) rfl (by kernel_rfl) (by kernel_rfl) ?_ ?_
                    · refine gives_pure (by rfl) ?_
                      intro w0 hSw; first | rfl | ((try dsimp only at hSw); go_simp; (try with_reducible rfl))
                    try simp only [Act.put, List.setIfInBounds_toArray, List.set_cons_zero, List.set_cons_succ]
                    refine wpD_step (i := 14) (o := { dst := some 132, op := Op.move (Operand.tmp 131), type := 4, pos := "law.go:111", after := #[{ on := 13, ground := Ground.data }, { on := 3, ground := Ground.chain }], guard := none }) (v := (Value.bool (false))) rfl (by kernel_rfl) (by kernel_rfl) ?_ ?_
                    · refine gives_pure (by rfl) ?_
                      intro w0 hSw; (try dsimp only at hSw); go_simp; (try with_reducible rfl)
                    try simp only [Act.put, List.setIfInBounds_toArray, List.set_cons_zero, List.set_cons_succ]
                    refine wpD_step (i := 15) (o := { dst := some 133, op := Op.move (Operand.tmp 16), type := 3, pos := "law.go:111", after := #[{ on := 14, ground := Ground.guard }], guard := some (14, false) }) (v := ?_) rfl (by kernel_rfl) (by kernel_rfl) ?_ ?_
                    rotate_left
                    · refine gives_pure (by rfl) ?_
                      intro w0 hSw; (try dsimp only at hSw); go_simp; (try with_reducible rfl)
                    try simp only [Act.put, List.setIfInBounds_toArray, List.set_cons_zero, List.set_cons_succ]
                    refine wpD_step (i := 16) (o := { dst := some 134, op := Op.move (Operand.tmp 11), type := 3, pos := "law.go:111", after := #[{ on := 14, ground := Ground.guard }], guard := some (14, false) }) (v := ?_) rfl (by kernel_rfl) (by kernel_rfl) ?_ ?_
                    rotate_left
                    · refine gives_pure (by rfl) ?_
                      intro w0 hSw; (try dsimp only at hSw); go_simp; (try with_reducible rfl)
                    try simp only [Act.put, List.setIfInBounds_toArray, List.set_cons_zero, List.set_cons_succ]
                    refine wpD_step (i := 17) (o := { dst := some 135, op := Op.binOp BinOp.geq 3 (Operand.tmp 133) (Operand.tmp 134) 3, type := 4, pos := "law.go:111", after := #[{ on := 15, ground := Ground.data }, { on := 16, ground := Ground.data }, { on := 14, ground := Ground.guard }], guard := some (14, false) }) (v := (Value.bool (false))) rfl (by kernel_rfl) (by kernel_rfl) ?_ ?_
                    · refine gives_pure (by rfl) ?_
                      intro w0 hSw; (try dsimp only at hSw); go_simp; (try with_reducible rfl)
                    try simp only [Act.put, List.setIfInBounds_toArray, List.set_cons_zero, List.set_cons_succ]
                    refine wpD_step (i := 18) (o := { dst := some 136, op := Op.move (Operand.tmp 135), type := 4, pos := "law.go:111", after := #[{ on := 17, ground := Ground.data }, { on := 14, ground := Ground.chain }, { on := 14, ground := Ground.guard }], guard := some (14, false) }) (v := (Value.bool (false))) rfl (by kernel_rfl) (by kernel_rfl) ?_ ?_
                    · refine gives_pure (by rfl) ?_
                      intro w0 hSw; (try dsimp only at hSw); go_simp; (try with_reducible rfl)
                    try simp only [Act.put, List.setIfInBounds_toArray, List.set_cons_zero, List.set_cons_succ]
                    refine wpD_step (i := 19) (o := { dst := some 137, op := Op.move (Operand.tmp 16), type := 3, pos := "law.go:111", after := #[{ on := 18, ground := Ground.guard }], guard := some (18, true) }) (v := undef) rfl (by kernel_rfl) (by kernel_rfl) (gives_not (by rfl)) ?_
                    try simp only [Act.put, List.setIfInBounds_toArray, List.set_cons_zero, List.set_cons_succ]
                    refine wpD_step (i := 20) (o := { dst := some 138, op := Op.binOp BinOp.add 3 (Operand.tmp 137) (Operand.const (Value.int IntKind.i64 1)) 3, type := 3, pos := "law.go:111", after := #[{ on := 19, ground := Ground.data }, { on := 18, ground := Ground.guard }], guard := some (18, true) }) (v := undef) rfl (by kernel_rfl) (by kernel_rfl) (gives_not (by rfl)) ?_
                    try simp only [Act.put, List.setIfInBounds_toArray, List.set_cons_zero, List.set_cons_succ]
                    refine wpD_step (i := 21) (o := { dst := some 139, op := Op.move (Operand.tmp 9), type := 29, pos := "law.go:111", after := #[{ on := 18, ground := Ground.guard }], guard := some (18, true) }) (v := undef) rfl (by kernel_rfl) (by kernel_rfl) (gives_not (by rfl)) ?_
                    try simp only [Act.put, List.setIfInBounds_toArray, List.set_cons_zero, List.set_cons_succ]
                    refine wpD_step (i := 22) (o := { dst := some 140, op := Op.call { callee := Callee.builtin Builtin.len, args := #[Operand.tmp 139], argTypes := #[29] }, type := 3, pos := "law.go:111", after := #[{ on := 21, ground := Ground.data }, { on := 18, ground := Ground.guard }], guard := some (18, true) }) (v := undef) rfl (by kernel_rfl) (by kernel_rfl) (gives_not (by rfl)) ?_
                    try simp only [Act.put, List.setIfInBounds_toArray, List.set_cons_zero, List.set_cons_succ]
                    refine wpD_step (i := 23) (o := { dst := some 141, op := Op.binOp BinOp.lss 3 (Operand.tmp 138) (Operand.tmp 140) 3, type := 4, pos := "law.go:111", after := #[{ on := 20, ground := Ground.data }, { on := 22, ground := Ground.data }, { on := 18, ground := Ground.guard }], guard := some (18, true) }) (v := undef) rfl (by kernel_rfl) (by kernel_rfl) (gives_not (by rfl)) ?_
                    try simp only [Act.put, List.setIfInBounds_toArray, List.set_cons_zero, List.set_cons_succ]
                    refine wpD_step (i := 24) (o := { dst := some 142, op := Op.pick (Operand.tmp 136) (Operand.tmp 141) (Operand.const (Value.bool false)), type := 4, pos := "law.go:111", after := #[{ on := 18, ground := Ground.data }, { on := 23, ground := Ground.data }, { on := 14, ground := Ground.guard }], guard := some (14, false) }) (v := (Value.bool (false))) rfl (by kernel_rfl) (by kernel_rfl) ?_ ?_
                    · refine gives_pure (by rfl) ?_
                      intro w0 hSw; first | rfl | ((try dsimp only at hSw); go_simp; (try with_reducible rfl))
                    try simp only [Act.put, List.setIfInBounds_toArray, List.set_cons_zero, List.set_cons_succ]
                    refine wpD_step (i := 25) (o := { dst := some 143, op := Op.move (Operand.tmp 142), type := 4, pos := "law.go:111", after := #[{ on := 24, ground := Ground.data }, { on := 18, ground := Ground.chain }, { on := 14, ground := Ground.guard }], guard := some (14, false) }) (v := (Value.bool (false))) rfl (by kernel_rfl) (by kernel_rfl) ?_ ?_
                    · refine gives_pure (by rfl) ?_
                      intro w0 hSw; (try dsimp only at hSw); go_simp; (try with_reducible rfl)
                    try simp only [Act.put, List.setIfInBounds_toArray, List.set_cons_zero, List.set_cons_succ]
                    refine wpD_step (i := 26) (o := { dst := some 144, op := Op.move (Operand.tmp 14), type := 29, pos := "law.go:111", after := #[{ on := 25, ground := Ground.guard }], guard := some (25, true) }) (v := undef) rfl (by kernel_rfl) (by kernel_rfl) (gives_not (by rfl)) ?_
                    try simp only [Act.put, List.setIfInBounds_toArray, List.set_cons_zero, List.set_cons_succ]
                    refine wpD_step (i := 27) (o := { dst := some 145, op := Op.move (Operand.tmp 16), type := 3, pos := "law.go:111", after := #[{ on := 25, ground := Ground.guard }], guard := some (25, true) }) (v := undef) rfl (by kernel_rfl) (by kernel_rfl) (gives_not (by rfl)) ?_
                    try simp only [Act.put, List.setIfInBounds_toArray, List.set_cons_zero, List.set_cons_succ]
                    refine wpD_step (i := 28) (o := { dst := some 146, op := Op.indexAddr 29 (Operand.tmp 144) (Operand.tmp 145), type := 0, pos := "law.go:111", after := #[{ on := 26, ground := Ground.data }, { on := 27, ground := Ground.data }, { on := 25, ground := Ground.guard }], guard := some (25, true) }) (v := undef) rfl (by kernel_rfl) (by kernel_rfl) (gives_not (by rfl)) ?_
                    try simp only [Act.put, List.setIfInBounds_toArray, List.set_cons_zero, List.set_cons_succ]
                    refine wpD_step (i := 29) (o := { dst := some 147, op := Op.load 9 (Operand.tmp 146), type := 9, pos := "law.go:111", after := #[{ on := 28, ground := Ground.data }, { on := 25, ground := Ground.guard }], guard := some (25, true) }) (v := undef) rfl (by kernel_rfl) (by kernel_rfl) (gives_not (by rfl)) ?_
                    try simp only [Act.put, List.setIfInBounds_toArray, List.set_cons_zero, List.set_cons_succ]
                    refine wpD_step (i := 30) (o := { dst := some 148, op := Op.move (Operand.tmp 9), type := 29, pos := "law.go:111", after := #[{ on := 25, ground := Ground.guard }], guard := some (25, true) }) (v := undef) rfl (by kernel_rfl) (by kernel_rfl) (gives_not (by rfl)) ?_
                    try simp only [Act.put, List.setIfInBounds_toArray, List.set_cons_zero, List.set_cons_succ]
                    refine wpD_step (i := 31) (o := { dst := some 149, op := Op.move (Operand.tmp 16), type := 3, pos := "law.go:111", after := #[{ on := 25, ground := Ground.guard }], guard := some (25, true) }) (v := undef) rfl (by kernel_rfl) (by kernel_rfl) (gives_not (by rfl)) ?_
                    try simp only [Act.put, List.setIfInBounds_toArray, List.set_cons_zero, List.set_cons_succ]
                    refine wpD_step (i := 32) (o := { dst := some 150, op := Op.binOp BinOp.add 3 (Operand.tmp 149) (Operand.const (Value.int IntKind.i64 1)) 3, type := 3, pos := "law.go:111", after := #[{ on := 31, ground := Ground.data }, { on := 25, ground := Ground.guard }], guard := some (25, true) }) (v := undef) rfl (by kernel_rfl) (by kernel_rfl) (gives_not (by rfl)) ?_
                    try simp only [Act.put, List.setIfInBounds_toArray, List.set_cons_zero, List.set_cons_succ]
                    refine wpD_step (i := 33) (o := { dst := some 151, op := Op.indexAddr 29 (Operand.tmp 148) (Operand.tmp 150), type := 0, pos := "law.go:111", after := #[{ on := 30, ground := Ground.data }, { on := 32, ground := Ground.data }, { on := 25, ground := Ground.guard }], guard := some (25, true) }) (v := undef) rfl (by kernel_rfl) (by kernel_rfl) (gives_not (by rfl)) ?_
                    try simp only [Act.put, List.setIfInBounds_toArray, List.set_cons_zero, List.set_cons_succ]
                    refine wpD_step (i := 34) (o := { dst := some 152, op := Op.load 9 (Operand.tmp 151), type := 9, pos := "law.go:111", after := #[{ on := 33, ground := Ground.data }, { on := 25, ground := Ground.guard }], guard := some (25, true) }) (v := undef) rfl (by kernel_rfl) (by kernel_rfl) (gives_not (by rfl)) ?_
                    try simp only [Act.put, List.setIfInBounds_toArray, List.set_cons_zero, List.set_cons_succ]
                    refine wpD_step (i := 35) (o := { dst := some 153, op := Op.binOp BinOp.neq 9 (Operand.tmp 147) (Operand.tmp 152) 9, type := 4, pos := "law.go:111", after := #[{ on := 29, ground := Ground.data }, { on := 34, ground := Ground.data }, { on := 25, ground := Ground.guard }], guard := some (25, true) }) (v := undef) rfl (by kernel_rfl) (by kernel_rfl) (gives_not (by rfl)) ?_
                    try simp only [Act.put, List.setIfInBounds_toArray, List.set_cons_zero, List.set_cons_succ]
                    refine wpD_step (i := 36) (o := { dst := some 154, op := Op.pick (Operand.tmp 143) (Operand.tmp 153) (Operand.const (Value.bool false)), type := 4, pos := "law.go:111", after := #[{ on := 25, ground := Ground.data }, { on := 35, ground := Ground.data }, { on := 14, ground := Ground.guard }], guard := some (14, false) }) (v := (Value.bool (false))) rfl (by kernel_rfl) (by kernel_rfl) ?_ ?_
                    · refine gives_pure (by rfl) ?_
                      intro w0 hSw; first | rfl | ((try dsimp only at hSw); go_simp; (try with_reducible rfl))
                    try simp only [Act.put, List.setIfInBounds_toArray, List.set_cons_zero, List.set_cons_succ]
                    refine wpD_step (i := 37) (o := { dst := some 155, op := Op.pick (Operand.tmp 132) (Operand.const (Value.bool true)) (Operand.tmp 154), type := 4, pos := "law.go:111", after := #[{ on := 14, ground := Ground.data }, { on := 36, ground := Ground.data }], guard := none }) (v := (Value.bool (false))) rfl (by kernel_rfl) (by kernel_rfl) ?_ ?_
                    · refine gives_pure (by rfl) ?_
                      intro w0 hSw; first | rfl | ((try dsimp only at hSw); go_simp; (try with_reducible rfl))
                    try simp only [Act.put, List.setIfInBounds_toArray, List.set_cons_zero, List.set_cons_succ]
                    refine wpD_done (by kernel_rfl) (fun wz hHeld => ?_) _
                    go_wp2_with fail
                    go_roundw
                    case rel => exact ⟨m + 1, by omega, by omega, by go_num, hHeld.2⟩
                    case measure => simp [intOf]; omega
                  · have hd : (decide ((m : Int) < (xs.length : Int)) = false) ∨ (decide ((m : Int) < (xs.length : Int)) = true ∧ decide ((m : Int) < (xs.length : Int)) = false) := by
                      rcases (by omega : xs.length ≤ m ∨ (m < xs.length ∧ xs.length ≤ m)) with h | ⟨h, h'⟩
                      · exact Or.inl (dlt_f (by omega))
                      · exact Or.inr ⟨dlt_t (by omega), dlt_f (by omega)⟩
                    rcases hd with g1 | ⟨g1, g2⟩
                    all_goals
                      go_wp2_with fail
                      go_roundw
                      case rel => exact ⟨k + 1, xs, _, by omega, by go_num, hxl, (A4.out.below HB.out).onR (Tx.nil _) (Below.refl _ _) (fun x hx => by cases hx)⟩
                      case measure => simp [intOf]; omega
          · have e1 := deq_f h1
            by_cases h2 : kd = 2
            · subst h2
              go_wp2_with fail
              by_cases hp : 0 ≤ pl ∧ pl < xs.length
              · obtain ⟨j, rfl⟩ : ∃ j : Nat, pl = j := ⟨pl.toNat, by omega⟩
                have hj : j < xs.length := by omega
                clear hp
                by_cases hfull : n ≤ xs.length
                · refine (btwin_full j hj hfull _ A1.out.b).mono ?_; rintro e w3 ⟨rfl, b3⟩
                  have A9 := Lib.hid (A1.out.below b3)
                  clear b3 A1 p1 hfull
                  have p1 := AT.out w3 A9.out.bl
                  as_aux_lemma =>
                    have hne : ((xs.length : Int) != (xs.length : Int)) = false := by simp
                    go_wp2_with fail
                    refine (ball_any (by omega) _ A9.out.b).mono ?_; rintro e w4 ⟨a4, c4, rfl, r4, b4, _⟩
                    have A4 := Lib.hid (A9.out.below b4)
                    have R4 := Lib.hid r4
                    clear b4 r4 A9 p1
                    go_wp2_with fail
                    obtain ⟨wo, rfl⟩ : ∃ wo : World, wo = wr := ⟨_, rfl⟩
                    go_loopw [16] (fun i wr => ∃ m : Nat, m ≤ xs.length ∧ m ≤ xs.length ∧ i = .int .i64 m ∧ Below w4.heap.size w4 wr) (fun i _ => xs.length - (intOf i).toNat)
                    case atStart => exact ⟨0, Nat.zero_le _, Nat.zero_le _, rfl, Below.refl _ _⟩
                    case round =>
                      obtain ⟨m, hm, hm', rfl, hb⟩ := hrel
                      have HB := Lib.hid hb
                      clear hb
                      by_cases hml : m < xs.length ∧ m < xs.length
                      · obtain ⟨hml, hml'⟩ := hml
                        obtain ⟨b5, off5, ha5, q1⟩ := RowAt.get (RowAt.below A4.out.t.r HB.out) (k := m) (v := .string (xs[m]'hml)) (by simp [strs, List.getElem?_eq_getElem (show m < xs.length from hml)])
                        obtain ⟨b6, off6, ha6, q2⟩ := RowAt.get (RowAt.below R4.out HB.out) (k := m) (v := .string (xs[m]'hml')) (by simp [strs, List.getElem?_eq_getElem hml'])
                        subst ha5 ha6
                        rw [show xs[m]'hml' = xs[m]'hml from rfl] at q2
                        generalize xs[m]'hml = x at *
                        go_upto_region 30 with (fail)
                        refine wp_region_held_drew (S := (fun W => (W.cell? ⟨b6, off6 + m, none⟩ = some (.string x) ∧ W.cell? ⟨b5, off5 + m, none⟩ = some (.string x)) ∧ Below w4.heap.size w4 W)) (by kernel_rfl) ?_ (fun hHeld => ?_)
                        · (try dsimp only); exact ⟨⟨q2, q1⟩, HB.out.drew⟩
                        refine wpD_go (by kernel_rfl) _ _ _ _ (by assumption) ?_
                        refine wpD_step (i := 0) (o := { dst := some 118, op := Op.move (Operand.tmp 16), type := 3, pos := "law.go:111", after := #[], guard := none }) (v := ?_) rfl (by kernel_rfl) (by kernel_rfl) ?_ ?_
                        rotate_left
                        · refine gives_pure (by rfl) ?_
                          intro w0 hSw; (try dsimp only at hSw); go_simp; (try with_reducible rfl)
                        try simp only [Act.put, List.setIfInBounds_toArray, List.set_cons_zero, List.set_cons_succ]
                        refine wpD_step (i := 1) (o := { dst := some 119, op := Op.move (Operand.tmp 11), type := 3, pos := "law.go:111", after := #[], guard := none }) (v := ?_) rfl (by kernel_rfl) (by kernel_rfl) ?_ ?_
                        rotate_left
                        · refine gives_pure (by rfl) ?_
                          intro w0 hSw; (try dsimp only at hSw); go_simp; (try with_reducible rfl)
                        try simp only [Act.put, List.setIfInBounds_toArray, List.set_cons_zero, List.set_cons_succ]
                        refine wpD_step (i := 2) (o := { dst := some 120, op := Op.binOp BinOp.lss 3 (Operand.tmp 118) (Operand.tmp 119) 3, type := 4, pos := "law.go:111", after := #[{ on := 0, ground := Ground.data }, { on := 1, ground := Ground.data }], guard := none }) (v := (Value.bool (true))) rfl (by kernel_rfl) (by kernel_rfl) ?_ ?_
                        · refine gives_pure (by rfl) ?_
                          intro w0 hSw; (try dsimp only at hSw); go_simp; (try with_reducible rfl)
                        try simp only [Act.put, List.setIfInBounds_toArray, List.set_cons_zero, List.set_cons_succ]
                        refine wpD_step (i := 3) (o := { dst := some 121, op := Op.move (Operand.tmp 120), type := 4, pos := "law.go:111", after := #[{ on := 2, ground := Ground.data }], guard := none }) (v := (Value.bool (true))) rfl (by kernel_rfl) (by kernel_rfl) ?_ ?_
                        · refine gives_pure (by rfl) ?_
                          intro w0 hSw; (try dsimp only at hSw); go_simp; (try with_reducible rfl)
                        try simp only [Act.put, List.setIfInBounds_toArray, List.set_cons_zero, List.set_cons_succ]
                        refine wpD_step (i := 4) (o := { dst := some 122, op := Op.move (Operand.tmp 14), type := 29, pos := "law.go:111", after := #[{ on := 3, ground := Ground.guard }], guard := some (3, true) }) (v := ?_) rfl (by kernel_rfl) (by kernel_rfl) ?_ ?_
                        rotate_left
                        · refine gives_pure (by rfl) ?_
                          intro w0 hSw; (try dsimp only at hSw); go_simp; (try with_reducible rfl)
                        try simp only [Act.put, List.setIfInBounds_toArray, List.set_cons_zero, List.set_cons_succ]
                        refine wpD_step (i := 5) (o := { dst := some 123, op := Op.move (Operand.tmp 16), type := 3, pos := "law.go:111", after := #[{ on := 3, ground := Ground.guard }], guard := some (3, true) }) (v := ?_) rfl (by kernel_rfl) (by kernel_rfl) ?_ ?_
                        rotate_left
                        · refine gives_pure (by rfl) ?_
                          intro w0 hSw; (try dsimp only at hSw); go_simp; (try with_reducible rfl)
                        try simp only [Act.put, List.setIfInBounds_toArray, List.set_cons_zero, List.set_cons_succ]
                        refine wpD_step (i := 6) (o := { dst := some 124, op := Op.indexAddr 29 (Operand.tmp 122) (Operand.tmp 123), type := 0, pos := "law.go:111", after := #[{ on := 4, ground := Ground.data }, { on := 5, ground := Ground.data }, { on := 3, ground := Ground.guard }], guard := some (3, true) }) (v := ?_) rfl (by kernel_rfl) (by kernel_rfl) ?_ ?_
                        rotate_left
                        · refine gives_pure (by rfl) ?_
                          intro w0 hSw; (try dsimp only at hSw); go_simp; (try with_reducible rfl)
                        try simp only [Act.put, List.setIfInBounds_toArray, List.set_cons_zero, List.set_cons_succ]
                        refine wpD_step (i := 7) (o := { dst := some 125, op := Op.load 9 (Operand.tmp 124), type := 9, pos := "law.go:111", after := #[{ on := 6, ground := Ground.data }, { on := 3, ground := Ground.guard }], guard := some (3, true) }) (v := ?_) rfl (by kernel_rfl) (by kernel_rfl) ?_ ?_
                        rotate_left
                        · refine gives_pure (by rfl) ?_
                          intro w0 hSw; (try dsimp only at hSw); go_simp; (try with_reducible rfl)
                        try simp only [Act.put, List.setIfInBounds_toArray, List.set_cons_zero, List.set_cons_succ]
                        refine wpD_step (i := 8) (o := { dst := some 126, op := Op.move (Operand.tmp 9), type := 29, pos := "law.go:111", after := #[{ on := 3, ground := Ground.guard }], guard := some (3, true) }) (v := ?_) rfl (by kernel_rfl) (by kernel_rfl) ?_ ?_
                        rotate_left
                        · refine gives_pure (by rfl) ?_
                          intro w0 hSw; (try dsimp only at hSw); go_simp; (try with_reducible rfl)
                        try simp only [Act.put, List.setIfInBounds_toArray, List.set_cons_zero, List.set_cons_succ]
                        refine wpD_step (i := 9) (o := { dst := some 127, op := Op.move (Operand.tmp 16), type := 3, pos := "law.go:111", after := #[{ on := 3, ground := Ground.guard }], guard := some (3, true) }) (v := ?_) rfl (by kernel_rfl) (by kernel_rfl) ?_ ?_
                        rotate_left
                        · refine gives_pure (by rfl) ?_
                          intro w0 hSw; (try dsimp only at hSw); go_simp; (try with_reducible rfl)
                        try simp only [Act.put, List.setIfInBounds_toArray, List.set_cons_zero, List.set_cons_succ]
                        refine wpD_step (i := 10) (o := { dst := some 128, op := Op.indexAddr 29 (Operand.tmp 126) (Operand.tmp 127), type := 0, pos := "law.go:111", after := #[{ on := 8, ground := Ground.data }, { on := 9, ground := Ground.data }, { on := 3, ground := Ground.guard }], guard := some (3, true) }) (v := ?_) rfl (by kernel_rfl) (by kernel_rfl) ?_ ?_
                        rotate_left
                        · refine gives_pure (by rfl) ?_
                          intro w0 hSw; (try dsimp only at hSw); go_simp; (try with_reducible rfl)
                        try simp only [Act.put, List.setIfInBounds_toArray, List.set_cons_zero, List.set_cons_succ]
                        refine wpD_step (i := 11) (o := { dst := some 129, op := Op.load 9 (Operand.tmp 128), type := 9, pos := "law.go:111", after := #[{ on := 10, ground := Ground.data }, { on := 3, ground := Ground.guard }], guard := some (3, true) }) (v := ?_) rfl (by kernel_rfl) (by kernel_rfl) ?_ ?_
                        rotate_left
                        · refine gives_pure (by rfl) ?_
                          intro w0 hSw; (try dsimp only at hSw); go_simp; (try with_reducible rfl)
                        try simp only [Act.put, List.setIfInBounds_toArray, List.set_cons_zero, List.set_cons_succ]
                        refine wpD_step (i := 12) (o := { dst := some 130, op := Op.binOp BinOp.neq 9 (Operand.tmp 125) (Operand.tmp 129) 9, type := 4, pos := "law.go:111", after := #[{ on := 7, ground := Ground.data }, { on := 11, ground := Ground.data }, { on := 3, ground := Ground.guard }], guard := some (3, true) }) (v := (Value.bool (false))) rfl (by kernel_rfl) (by kernel_rfl) ?_ ?_
                        · refine gives_pure (by rfl) ?_
                          intro w0 hSw; first | rfl | ((try dsimp only at hSw); go_simp; (try with_reducible rfl))
                        try simp only [Act.put, List.setIfInBounds_toArray, List.set_cons_zero, List.set_cons_succ]
                        refine wpD_step (i := 13) (o := { dst := some 131, op := Op.pick (Operand.tmp 121) (Operand.tmp 130) (Operand.const (Value.bool false)), type := 4, pos := "law.go:111", after := #[{ on := 3, ground := Ground.data }, { on := 12, ground := Ground.data }], guard := none }) (v := (Value.bool (false))) rfl (by kernel_rfl) (by kernel_rfl) ?_ ?_
                        · refine gives_pure (by rfl) ?_
                          intro w0 hSw; first | rfl | ((try dsimp only at hSw); go_simp; (try with_reducible rfl))
                        try simp only [Act.put, List.setIfInBounds_toArray, List.set_cons_zero, List.set_cons_succ]
                        refine wpD_step (i := 14) (o := { dst := some 132, op := Op.move (Operand.tmp 131), type := 4, pos := "law.go:111", after := #[{ on := 13, ground := Ground.data }, { on := 3, ground := Ground.chain }], guard := none }) (v := (Value.bool (false))) rfl (by kernel_rfl) (by kernel_rfl) ?_ ?_
                        · refine gives_pure (by rfl) ?_
                          intro w0 hSw; (try dsimp only at hSw); go_simp; (try with_reducible rfl)
                        try simp only [Act.put, List.setIfInBounds_toArray, List.set_cons_zero, List.set_cons_succ]
                        refine wpD_step (i := 15) (o := { dst := some 133, op := Op.move (Operand.tmp 16), type := 3, pos := "law.go:111", after := #[{ on := 14, ground := Ground.guard }], guard := some (14, false) }) (v := ?_) rfl (by kernel_rfl) (by kernel_rfl) ?_ ?_
                        rotate_left
                        · refine gives_pure (by rfl) ?_
                          intro w0 hSw; (try dsimp only at hSw); go_simp; (try with_reducible rfl)
                        try simp only [Act.put, List.setIfInBounds_toArray, List.set_cons_zero, List.set_cons_succ]
                        refine wpD_step (i := 16) (o := { dst := some 134, op := Op.move (Operand.tmp 11), type := 3, pos := "law.go:111", after := #[{ on := 14, ground := Ground.guard }], guard := some (14, false) }) (v := ?_) rfl (by kernel_rfl) (by kernel_rfl) ?_ ?_
                        rotate_left
                        · refine gives_pure (by rfl) ?_
                          intro w0 hSw; (try dsimp only at hSw); go_simp; (try with_reducible rfl)
                        try simp only [Act.put, List.setIfInBounds_toArray, List.set_cons_zero, List.set_cons_succ]
                        refine wpD_step (i := 17) (o := { dst := some 135, op := Op.binOp BinOp.geq 3 (Operand.tmp 133) (Operand.tmp 134) 3, type := 4, pos := "law.go:111", after := #[{ on := 15, ground := Ground.data }, { on := 16, ground := Ground.data }, { on := 14, ground := Ground.guard }], guard := some (14, false) }) (v := (Value.bool (false))) rfl (by kernel_rfl) (by kernel_rfl) ?_ ?_
                        · refine gives_pure (by rfl) ?_
                          intro w0 hSw; (try dsimp only at hSw); go_simp; (try with_reducible rfl)
                        try simp only [Act.put, List.setIfInBounds_toArray, List.set_cons_zero, List.set_cons_succ]
                        refine wpD_step (i := 18) (o := { dst := some 136, op := Op.move (Operand.tmp 135), type := 4, pos := "law.go:111", after := #[{ on := 17, ground := Ground.data }, { on := 14, ground := Ground.chain }, { on := 14, ground := Ground.guard }], guard := some (14, false) }) (v := (Value.bool (false))) rfl (by kernel_rfl) (by kernel_rfl) ?_ ?_
                        · refine gives_pure (by rfl) ?_
                          intro w0 hSw; (try dsimp only at hSw); go_simp; (try with_reducible rfl)
                        try simp only [Act.put, List.setIfInBounds_toArray, List.set_cons_zero, List.set_cons_succ]
                        refine wpD_step (i := 19) (o := { dst := some 137, op := Op.move (Operand.tmp 16), type := 3, pos := "law.go:111", after := #[{ on := 18, ground := Ground.guard }], guard := some (18, true) }) (v := undef) rfl (by kernel_rfl) (by kernel_rfl) (gives_not (by rfl)) ?_
                        try simp only [Act.put, List.setIfInBounds_toArray, List.set_cons_zero, List.set_cons_succ]
                        refine wpD_step (i := 20) (o := { dst := some 138, op := Op.binOp BinOp.add 3 (Operand.tmp 137) (Operand.const (Value.int IntKind.i64 1)) 3, type := 3, pos := "law.go:111", after := #[{ on := 19, ground := Ground.data }, { on := 18, ground := Ground.guard }], guard := some (18, true) }) (v := undef) rfl (by kernel_rfl) (by kernel_rfl) (gives_not (by rfl)) ?_
                        try simp only [Act.put, List.setIfInBounds_toArray, List.set_cons_zero, List.set_cons_succ]
                        refine wpD_step (i := 21) (o := { dst := some 139, op := Op.move (Operand.tmp 9), type := 29, pos := "law.go:111", after := #[{ on := 18, ground := Ground.guard }], guard := some (18, true) }) (v := undef) rfl (by kernel_rfl) (by kernel_rfl) (gives_not (by rfl)) ?_
                        try simp only [Act.put, List.setIfInBounds_toArray, List.set_cons_zero, List.set_cons_succ]
                        refine wpD_step (i := 22) (o := { dst := some 140, op := Op.call { callee := Callee.builtin Builtin.len, args := #[Operand.tmp 139], argTypes := #[29] }, type := 3, pos := "law.go:111", after := #[{ on := 21, ground := Ground.data }, { on := 18, ground := Ground.guard }], guard := some (18, true) }) (v := undef) rfl (by kernel_rfl) (by kernel_rfl) (gives_not (by rfl)) ?_
                        try simp only [Act.put, List.setIfInBounds_toArray, List.set_cons_zero, List.set_cons_succ]
                        refine wpD_step (i := 23) (o := { dst := some 141, op := Op.binOp BinOp.lss 3 (Operand.tmp 138) (Operand.tmp 140) 3, type := 4, pos := "law.go:111", after := #[{ on := 20, ground := Ground.data }, { on := 22, ground := Ground.data }, { on := 18, ground := Ground.guard }], guard := some (18, true) }) (v := undef) rfl (by kernel_rfl) (by kernel_rfl) (gives_not (by rfl)) ?_
                        try simp only [Act.put, List.setIfInBounds_toArray, List.set_cons_zero, List.set_cons_succ]
                        refine wpD_step (i := 24) (o := { dst := some 142, op := Op.pick (Operand.tmp 136) (Operand.tmp 141) (Operand.const (Value.bool false)), type := 4, pos := "law.go:111", after := #[{ on := 18, ground := Ground.data }, { on := 23, ground := Ground.data }, { on := 14, ground := Ground.guard }], guard := some (14, false) }) (v := (Value.bool (false))) rfl (by kernel_rfl) (by kernel_rfl) ?_ ?_
                        · refine gives_pure (by rfl) ?_
                          intro w0 hSw; first | rfl | ((try dsimp only at hSw); go_simp; (try with_reducible rfl))
                        try simp only [Act.put, List.setIfInBounds_toArray, List.set_cons_zero, List.set_cons_succ]
                        refine wpD_step (i := 25) (o := { dst := some 143, op := Op.move (Operand.tmp 142), type := 4, pos := "law.go:111", after := #[{ on := 24, ground := Ground.data }, { on := 18, ground := Ground.chain }, { on := 14, ground := Ground.guard }], guard := some (14, false) }) (v := (Value.bool (false))) rfl (by kernel_rfl) (by kernel_rfl) ?_ ?_
                        · refine gives_pure (by rfl) ?_
                          intro w0 hSw; (try dsimp only at hSw); go_simp; (try with_reducible rfl)
                        try simp only [Act.put, List.setIfInBounds_toArray, List.set_cons_zero, List.set_cons_succ]
                        refine wpD_step (i := 26) (o := { dst := some 144, op := Op.move (Operand.tmp 14), type := 29, pos := "law.go:111", after := #[{ on := 25, ground := Ground.guard }], guard := some (25, true) }) (v := undef) rfl (by kernel_rfl) (by kernel_rfl) (gives_not (by rfl)) ?_
                        try simp only [Act.put, List.setIfInBounds_toArray, List.set_cons_zero, List.set_cons_succ]
                        refine wpD_step (i := 27) (o := { dst := some 145, op := Op.move (Operand.tmp 16), type := 3, pos := "law.go:111", after := #[{ on := 25, ground := Ground.guard }], guard := some (25, true) }) (v := undef) rfl (by kernel_rfl) (by kernel_rfl) (gives_not (by rfl)) ?_
                        try simp only [Act.put, List.setIfInBounds_toArray, List.set_cons_zero, List.set_cons_succ]
                        refine wpD_step (i := 28) (o := { dst := some 146, op := Op.indexAddr 29 (Operand.tmp 144) (Operand.tmp 145), type := 0, pos := "law.go:111", after := #[{ on := 26, ground := Ground.data }, { on := 27, ground := Ground.data }, { on := 25, ground := Ground.guard }], guard := some (25, true) }) (v := undef) rfl (by kernel_rfl) (by kernel_rfl) (gives_not (by rfl)) ?_
                        try simp only [Act.put, List.setIfInBounds_toArray, List.set_cons_zero, List.set_cons_succ]
                        refine wpD_step (i := 29) (o := { dst := some 147, op := Op.load 9 (Operand.tmp 146), type := 9, pos := "law.go:111", after := #[{ on := 28, ground := Ground.data }, { on := 25, ground := Ground.guard }], guard := some (25, true) }) (v := undef) rfl (by kernel_rfl) (by kernel_rfl) (gives_not (by rfl)) ?_
                        try simp only [Act.put, List.setIfInBounds_toArray, List.set_cons_zero, List.set_cons_succ]
                        refine wpD_step (i := 30) (o := { dst := some 148, op := Op.move (Operand.tmp 9), type := 29, pos := "law.go:111", after := #[{ on := 25, ground := Ground.guard }], guard := some (25, true) }) (v := undef) rfl (by kernel_rfl) (by kernel_rfl) (gives_not (by rfl)) ?_
                        try simp only [Act.put, List.setIfInBounds_toArray, List.set_cons_zero, List.set_cons_succ]
                        refine wpD_step (i := 31) (o := { dst := some 149, op := Op.move (Operand.tmp 16), type := 3, pos := "law.go:111", after := #[{ on := 25, ground := Ground.guard }], guard := some (25, true) }) (v := undef) rfl (by kernel_rfl) (by kernel_rfl) (gives_not (by rfl)) ?_
                        try simp only [Act.put, List.setIfInBounds_toArray, List.set_cons_zero, List.set_cons_succ]
                        refine wpD_step (i := 32) (o := { dst := some 150, op := Op.binOp BinOp.add 3 (Operand.tmp 149) (Operand.const (Value.int IntKind.i64 1)) 3, type := 3, pos := "law.go:111", after := #[{ on := 31, ground := Ground.data }, { on := 25, ground := Ground.guard }], guard := some (25, true) }) (v := undef) rfl (by kernel_rfl) (by kernel_rfl) (gives_not (by rfl)) ?_
                        try simp only [Act.put, List.setIfInBounds_toArray, List.set_cons_zero, List.set_cons_succ]
                        refine wpD_step (i := 33) (o := { dst := some 151, op := Op.indexAddr 29 (Operand.tmp 148) (Operand.tmp 150), type := 0, pos := "law.go:111", after := #[{ on := 30, ground := Ground.data }, { on := 32, ground := Ground.data }, { on := 25, ground := Ground.guard }], guard := some (25, true) }) (v := undef) rfl (by kernel_rfl) (by kernel_rfl) (gives_not (by rfl)) ?_
                        try simp only [Act.put, List.setIfInBounds_toArray, List.set_cons_zero, List.set_cons_succ]
                        refine wpD_step (i := 34) (o := { dst := some 152, op := Op.load 9 (Operand.tmp 151), type := 9, pos := "law.go:111", after := #[{ on := 33, ground := Ground.data }, { on := 25, ground := Ground.guard }], guard := some (25, true) }) (v := undef) rfl (by kernel_rfl) (by kernel_rfl) (gives_not (by rfl)) ?_
                        try simp only [Act.put, List.setIfInBounds_toArray, List.set_cons_zero, List.set_cons_succ]
                        refine wpD_step (i := 35) (o := { dst := some 153, op := Op.binOp BinOp.neq 9 (Operand.tmp 147) (Operand.tmp 152) 9, type := 4, pos := "law.go:111", after := #[{ on := 29, ground := Ground.data }, { on := 34, ground := Ground.data }, { on := 25, ground := Ground.guard }], guard := some (25, true) }) (v := undef) rfl (by kernel_rfl) (by kernel_rfl) (gives_not (by rfl)) ?_
                        try simp only [Act.put, List.setIfInBounds_toArray, List.set_cons_zero, List.set_cons_succ]
                        refine wpD_step (i := 36) (o := { dst := some 154, op := Op.pick (Operand.tmp 143) (Operand.tmp 153) (Operand.const (Value.bool false)), type := 4, pos := "law.go:111", after := #[{ on := 25, ground := Ground.data }, { on := 35, ground := Ground.data }, { on := 14, ground := Ground.guard }], guard := some (14, false) }) (v := (Value.bool (false))) rfl (by kernel_rfl) (by kernel_rfl) ?_ ?_
                        · refine gives_pure (by rfl) ?_
                          intro w0 hSw; first | rfl | ((try dsimp only at hSw); go_simp; (try with_reducible rfl))
                        try simp only [Act.put, List.setIfInBounds_toArray, List.set_cons_zero, List.set_cons_succ]
                        refine wpD_step (i := 37) (o := { dst := some 155, op := Op.pick (Operand.tmp 132) (Operand.const (Value.bool true)) (Operand.tmp 154), type := 4, pos := "law.go:111", after := #[{ on := 14, ground := Ground.data }, { on := 36, ground := Ground.data }], guard := none }) (v := (Value.bool (false))) rfl (by kernel_rfl) (by kernel_rfl) ?_ ?_
                        · refine gives_pure (by rfl) ?_
                          intro w0 hSw; first | rfl | ((try dsimp only at hSw); go_simp; (try with_reducible rfl))
                        try simp only [Act.put, List.setIfInBounds_toArray, List.set_cons_zero, List.set_cons_succ]
                        refine wpD_done (by kernel_rfl) (fun wz hHeld => ?_) _
                        go_wp2_with fail
                        go_roundw
                        case rel => exact ⟨m + 1, by omega, by omega, by go_num, hHeld.2⟩
                        case measure => simp [intOf]; omega
                      · have hd : (decide ((m : Int) < (xs.length : Int)) = false) ∨ (decide ((m : Int) < (xs.length : Int)) = true ∧ decide ((m : Int) < (xs.length : Int)) = false) := by
                          rcases (by omega : xs.length ≤ m ∨ (m < xs.length ∧ xs.length ≤ m)) with h | ⟨h, h'⟩
                          · exact Or.inl (dlt_f (by omega))
                          · exact Or.inr ⟨dlt_t (by omega), dlt_f (by omega)⟩
                        rcases hd with g1 | ⟨g1, g2⟩
                        all_goals
                          go_wp2_with fail
                          go_roundw
                          case rel => exact ⟨k + 1, xs, _, by omega, by go_num, hxl, (A4.out.below HB.out).onR (Tx.nil _) (Below.refl _ _) (fun x hx => by cases hx)⟩
                          case measure => simp [intOf]; omega
                · have hroom : (xs.length : Int) < n := by omega
                  refine (btwin_room j hj hroom (by omega) _ A1.out.b).mono ?_; rintro e w3 ⟨rfl, v3, b3, o3, n3⟩
                  have A9 := Lib.hid (A1.out.onB b3 o3 n3)
                  clear b3 o3 n3 A1 p1 hfull
                  have p1 := AT.out w3 A9.out.bl
                  as_aux_lemma =>
                    obtain ⟨ys, hys⟩ : ∃ ys, xs ++ [xs[j]] = ys := ⟨_, rfl⟩
                    rw [hys] at A9
                    have hyl : ys.length = xs.length + 1 := by rw [← hys]; simp
                    have hne : ((ys.length : Int) != (xs.length : Int) + 1) = false := by simp; omega
                    have hyl1 : ys.length ≤ xs.length + 1 := by omega
                    have hyl2 : xs.length + 1 ≤ ys.length := by omega
                    clear hyl
                    go_wp2_with fail
                    refine (ball_any (by omega) _ A9.out.b).mono ?_; rintro e w4 ⟨a4, c4, rfl, r4, b4, _⟩
                    have A4 := Lib.hid (A9.out.below b4)
                    have R4 := Lib.hid r4
                    clear b4 r4 A9 p1
                    go_wp2_with fail
                    obtain ⟨wo, rfl⟩ : ∃ wo : World, wo = wr := ⟨_, rfl⟩
                    go_loopw [16] (fun i wr => ∃ m : Nat, m ≤ xs.length ∧ m ≤ ys.length ∧ i = .int .i64 m ∧ Below w4.heap.size w4 wr) (fun i _ => xs.length - (intOf i).toNat)
                    case atStart => exact ⟨0, Nat.zero_le _, Nat.zero_le _, rfl, Below.refl _ _⟩
                    case round =>
                      obtain ⟨m, hm, hm', rfl, hb⟩ := hrel
                      have HB := Lib.hid hb
                      clear hb
                      by_cases hml : m < xs.length ∧ m < ys.length
                      · obtain ⟨hml, hml'⟩ := hml
                        obtain ⟨b5, off5, ha5, q1⟩ := RowAt.get (RowAt.below A4.out.t.r HB.out) (k := m) (v := .string (xs[m]'hml)) (by simp [strs, List.getElem?_eq_getElem (show m < xs.length from hml)])
                        obtain ⟨b6, off6, ha6, q2⟩ := RowAt.get (RowAt.below R4.out HB.out) (k := m) (v := .string (ys[m]'hml')) (by simp [strs, List.getElem?_eq_getElem hml'])
                        subst ha5 ha6
                        rw [show ys[m]'hml' = xs[m]'hml from by subst hys; exact List.getElem_append_left hml] at q2
                        clear hys
                        generalize xs[m]'hml = x at *
                        go_upto_region 30 with (fail)
                        refine wp_region_held_drew (S := (fun W => (W.cell? ⟨b6, off6 + m, none⟩ = some (.string x) ∧ W.cell? ⟨b5, off5 + m, none⟩ = some (.string x)) ∧ Below w4.heap.size w4 W)) (by kernel_rfl) ?_ (fun hHeld => ?_)
                        · (try dsimp only); exact ⟨⟨q2, q1⟩, HB.out.drew⟩
                        refine wpD_go (by kernel_rfl) _ _ _ _ (by assumption) ?_
                        refine wpD_step (i := 0) (o := { dst := some 118, op := Op.move (Operand.tmp 16), type := 3, pos := "law.go:111", after := #[], guard := none }) (v := ?_) rfl (by kernel_rfl) (by kernel_rfl) ?_ ?_
                        rotate_left
                        · refine gives_pure (by rfl) ?_
                          intro w0 hSw; (try dsimp only at hSw); go_simp; (try with_reducible rfl)
                        try simp only [Act.put, List.setIfInBounds_toArray, List.set_cons_zero, List.set_cons_succ]
                        refine wpD_step (i := 1) (o := { dst := some 119, op := Op.move (Operand.tmp 11), type := 3, pos := "law.go:111", after := #[], guard := none }) (v := ?_) rfl (by kernel_rfl) (by kernel_rfl) ?_ ?_
                        rotate_left
                        · refine gives_pure (by rfl) ?_
                          intro w0 hSw; (try dsimp only at hSw); go_simp; (try with_reducible rfl)
                        try simp only [Act.put, List.setIfInBounds_toArray, List.set_cons_zero, List.set_cons_succ]
                        refine wpD_step (i := 2) (o := { dst := some 120, op := Op.binOp BinOp.lss 3 (Operand.tmp 118) (Operand.tmp 119) 3, type := 4, pos := "law.go:111", after := #[{ on := 0, ground := Ground.data }, { on := 1, ground := Ground.data }], guard := none }) (v := (Value.bool (true))) rfl (by kernel_rfl) (by kernel_rfl) ?_ ?_
                        · refine gives_pure (by rfl) ?_
                          intro w0 hSw; (try dsimp only at hSw); go_simp; (try with_reducible rfl)
                        try simp only [Act.put, List.setIfInBounds_toArray, List.set_cons_zero, List.set_cons_succ]
                        refine wpD_step (i := 3) (o := { dst := some 121, op := Op.move (Operand.tmp 120), type := 4, pos := "law.go:111", after := #[{ on := 2, ground := Ground.data }], guard := none }) (v := (Value.bool (true))) rfl (by kernel_rfl) (by kernel_rfl) ?_ ?_
                        · refine gives_pure (by rfl) ?_
                          intro w0 hSw; (try dsimp only at hSw); go_simp; (try with_reducible rfl)
                        try simp only [Act.put, List.setIfInBounds_toArray, List.set_cons_zero, List.set_cons_succ]
                        refine wpD_step (i := 4) (o := { dst := some 122, op := Op.move (Operand.tmp 14), type := 29, pos := "law.go:111", after := #[{ on := 3, ground := Ground.guard }], guard := some (3, true) }) (v := ?_) rfl (by kernel_rfl) (by kernel_rfl) ?_ ?_
                        rotate_left
                        · refine gives_pure (by rfl) ?_
                          intro w0 hSw; (try dsimp only at hSw); go_simp; (try with_reducible rfl)
                        try simp only [Act.put, List.setIfInBounds_toArray, List.set_cons_zero, List.set_cons_succ]
                        refine wpD_step (i := 5) (o := { dst := some 123, op := Op.move (Operand.tmp 16), type := 3, pos := "law.go:111", after := #[{ on := 3, ground := Ground.guard }], guard := some (3, true) }) (v := ?_) rfl (by kernel_rfl) (by kernel_rfl) ?_ ?_
                        rotate_left
                        · refine gives_pure (by rfl) ?_
                          intro w0 hSw; (try dsimp only at hSw); go_simp; (try with_reducible rfl)
                        try simp only [Act.put, List.setIfInBounds_toArray, List.set_cons_zero, List.set_cons_succ]
                        refine wpD_step (i := 6) (o := { dst := some 124, op := Op.indexAddr 29 (Operand.tmp 122) (Operand.tmp 123), type := 0, pos := "law.go:111", after := #[{ on := 4, ground := Ground.data }, { on := 5, ground := Ground.data }, { on := 3, ground := Ground.guard }], guard := some (3, true) }) (v := ?_) rfl (by kernel_rfl) (by kernel_rfl) ?_ ?_
                        rotate_left
                        · refine gives_pure (by rfl) ?_
                          intro w0 hSw; (try dsimp only at hSw); go_simp; (try with_reducible rfl)
                        try simp only [Act.put, List.setIfInBounds_toArray, List.set_cons_zero, List.set_cons_succ]
                        refine wpD_step (i := 7) (o := { dst := some 125, op := Op.load 9 (Operand.tmp 124), type := 9, pos := "law.go:111", after := #[{ on := 6, ground := Ground.data }, { on := 3, ground := Ground.guard }], guard := some (3, true) }) (v := ?_) rfl (by kernel_rfl) (by kernel_rfl) ?_ ?_
                        rotate_left
                        · refine gives_pure (by rfl) ?_
                          intro w0 hSw; (try dsimp only at hSw); go_simp; (try with_reducible rfl)
                        try simp only [Act.put, List.setIfInBounds_toArray, List.set_cons_zero, List.set_cons_succ]
                        refine wpD_step (i := 8) (o := { dst := some 126, op := Op.move (Operand.tmp 9), type := 29, pos := "law.go:111", after := #[{ on := 3, ground := Ground.guard }], guard := some (3, true) }) (v := ?_) rfl (by kernel_rfl) (by kernel_rfl) ?_ ?_
                        rotate_left
                        · refine gives_pure (by rfl) ?_
                          intro w0 hSw; (try dsimp only at hSw); go_simp; (try with_reducible rfl)
                        try simp only [Act.put, List.setIfInBounds_toArray, List.set_cons_zero, List.set_cons_succ]
                        refine wpD_step (i := 9) (o := { dst := some 127, op := Op.move (Operand.tmp 16), type := 3, pos := "law.go:111", after := #[{ on := 3, ground := Ground.guard }], guard := some (3, true) }) (v := ?_) rfl (by kernel_rfl) (by kernel_rfl) ?_ ?_
                        rotate_left
                        · refine gives_pure (by rfl) ?_
                          intro w0 hSw; (try dsimp only at hSw); go_simp; (try with_reducible rfl)
                        try simp only [Act.put, List.setIfInBounds_toArray, List.set_cons_zero, List.set_cons_succ]
                        refine wpD_step (i := 10) (o := { dst := some 128, op := Op.indexAddr 29 (Operand.tmp 126) (Operand.tmp 127), type := 0, pos := "law.go:111", after := #[{ on := 8, ground := Ground.data }, { on := 9, ground := Ground.data }, { on := 3, ground := Ground.guard }], guard := some (3, true) }) (v := ?_) rfl (by kernel_rfl) (by kernel_rfl) ?_ ?_
                        rotate_left
                        · refine gives_pure (by rfl) ?_
                          intro w0 hSw; (try dsimp only at hSw); go_simp; (try with_reducible rfl)
                        try simp only [Act.put, List.setIfInBounds_toArray, List.set_cons_zero, List.set_cons_succ]
                        refine wpD_step (i := 11) (o := { dst := some 129, op := Op.load 9 (Operand.tmp 128), type := 9, pos := "law.go:111", after := #[{ on := 10, ground := Ground.data }, { on := 3, ground := Ground.guard }], guard := some (3, true) }) (v := ?_) rfl (by kernel_rfl) (by kernel_rfl) ?_ ?_
                        rotate_left
                        · refine gives_pure (by rfl) ?_
                          intro w0 hSw; (try dsimp only at hSw); go_simp; (try with_reducible rfl)
                        try simp only [Act.put, List.setIfInBounds_toArray, List.set_cons_zero, List.set_cons_succ]
                        refine wpD_step (i := 12) (o := { dst := some 130, op := Op.binOp BinOp.neq 9 (Operand.tmp 125) (Operand.tmp 129) 9, type := 4, pos := "law.go:111", after := #[{ on := 7, ground := Ground.data }, { on := 11, ground := Ground.data }, { on := 3, ground := Ground.guard }], guard := some (3, true) }) (v := (Value.bool (false))) rfl (by kernel_rfl) (by kernel_rfl) ?_ ?_
                        · refine gives_pure (by rfl) ?_
                          intro w0 hSw; first | rfl | ((try dsimp only at hSw); go_simp; (try with_reducible rfl))
                        try simp only [Act.put, List.setIfInBounds_toArray, List.set_cons_zero, List.set_cons_succ]
                        refine wpD_step (i := 13) (o := { dst := some 131, op := Op.pick (Operand.tmp 121) (Operand.tmp 130) (Operand.const (Value.bool false)), type := 4, pos := "law.go:111", after := #[{ on := 3, ground := Ground.data }, { on := 12, ground := Ground.data }], guard := none }) (v := (Value.bool (false))) rfl (by kernel_rfl) (by kernel_rfl) ?_ ?_
                        · refine gives_pure (by rfl) ?_
                          intro w0 hSw; first | rfl | ((try dsimp only at hSw); go_simp; (try with_reducible rfl))
                        try simp only [Act.put, List.setIfInBounds_toArray, List.set_cons_zero, List.set_cons_succ]
                        refine wpD_step (i := 14) (o := { dst := some 132, op := Op.move (Operand.tmp 131), type := 4, pos := "law.go:111", after := #[{ on := 13, ground := Ground.data }, { on := 3, ground := Ground.chain }], guard := none }) (v := (Value.bool (false))) rfl (by kernel_rfl) (by kernel_rfl) ?_ ?_
                        · refine gives_pure (by rfl) ?_
                          intro w0 hSw; (try dsimp only at hSw); go_simp; (try with_reducible rfl)
                        try simp only [Act.put, List.setIfInBounds_toArray, List.set_cons_zero, List.set_cons_succ]
                        refine wpD_step (i := 15) (o := { dst := some 133, op := Op.move (Operand.tmp 16), type := 3, pos := "law.go:111", after := #[{ on := 14, ground := Ground.guard }], guard := some (14, false) }) (v := ?_) rfl (by kernel_rfl) (by kernel_rfl) ?_ ?_
                        rotate_left
                        · refine gives_pure (by rfl) ?_
                          intro w0 hSw; (try dsimp only at hSw); go_simp; (try with_reducible rfl)
                        try simp only [Act.put, List.setIfInBounds_toArray, List.set_cons_zero, List.set_cons_succ]
                        refine wpD_step (i := 16) (o := { dst := some 134, op := Op.move (Operand.tmp 11), type := 3, pos := "law.go:111", after := #[{ on := 14, ground := Ground.guard }], guard := some (14, false) }) (v := ?_) rfl (by kernel_rfl) (by kernel_rfl) ?_ ?_
                        rotate_left
                        · refine gives_pure (by rfl) ?_
                          intro w0 hSw; (try dsimp only at hSw); go_simp; (try with_reducible rfl)
                        try simp only [Act.put, List.setIfInBounds_toArray, List.set_cons_zero, List.set_cons_succ]
                        refine wpD_step (i := 17) (o := { dst := some 135, op := Op.binOp BinOp.geq 3 (Operand.tmp 133) (Operand.tmp 134) 3, type := 4, pos := "law.go:111", after := #[{ on := 15, ground := Ground.data }, { on := 16, ground := Ground.data }, { on := 14, ground := Ground.guard }], guard := some (14, false) }) (v := (Value.bool (false))) rfl (by kernel_rfl) (by kernel_rfl) ?_ ?_
                        · refine gives_pure (by rfl) ?_
                          intro w0 hSw; (try dsimp only at hSw); go_simp; (try with_reducible rfl)
                        try simp only [Act.put, List.setIfInBounds_toArray, List.set_cons_zero, List.set_cons_succ]
                        refine wpD_step (i := 18) (o := { dst := some 136, op := Op.move (Operand.tmp 135), type := 4, pos := "law.go:111", after := #[{ on := 17, ground := Ground.data }, { on := 14, ground := Ground.chain }, { on := 14, ground := Ground.guard }], guard := some (14, false) }) (v := (Value.bool (false))) rfl (by kernel_rfl) (by kernel_rfl) ?_ ?_
                        · refine gives_pure (by rfl) ?_
                          intro w0 hSw; (try dsimp only at hSw); go_simp; (try with_reducible rfl)
                        try simp only [Act.put, List.setIfInBounds_toArray, List.set_cons_zero, List.set_cons_succ]
                        refine wpD_step (i := 19) (o := { dst := some 137, op := Op.move (Operand.tmp 16), type := 3, pos := "law.go:111", after := #[{ on := 18, ground := Ground.guard }], guard := some (18, true) }) (v := undef) rfl (by kernel_rfl) (by kernel_rfl) (gives_not (by rfl)) ?_
                        try simp only [Act.put, List.setIfInBounds_toArray, List.set_cons_zero, List.set_cons_succ]
                        refine wpD_step (i := 20) (o := { dst := some 138, op := Op.binOp BinOp.add 3 (Operand.tmp 137) (Operand.const (Value.int IntKind.i64 1)) 3, type := 3, pos := "law.go:111", after := #[{ on := 19, ground := Ground.data }, { on := 18, ground := Ground.guard }], guard := some (18, true) }) (v := undef) rfl (by kernel_rfl) (by kernel_rfl) (gives_not (by rfl)) ?_
                        try simp only [Act.put, List.setIfInBounds_toArray, List.set_cons_zero, List.set_cons_succ]
                        refine wpD_step (i := 21) (o := { dst := some 139, op := Op.move (Operand.tmp 9), type := 29, pos := "law.go:111", after := #[{ on := 18, ground := Ground.guard }], guard := some (18, true) }) (v := undef) rfl (by kernel_rfl) (by kernel_rfl) (gives_not (by rfl)) ?_
                        try simp only [Act.put, List.setIfInBounds_toArray, List.set_cons_zero, List.set_cons_succ]
                        refine wpD_step (i := 22) (o := { dst := some 140, op := Op.call { callee := Callee.builtin Builtin.len, args := #[Operand.tmp 139], argTypes := #[29] }, type := 3, pos := "law.go:111", after := #[{ on := 21, ground := Ground.data }, { on := 18, ground := Ground.guard }], guard := some (18, true) }) (v := undef) rfl (by kernel_rfl) (by kernel_rfl) (gives_not (by rfl)) ?_
                        try simp only [Act.put, List.setIfInBounds_toArray, List.set_cons_zero, List.set_cons_succ]
                        refine wpD_step (i := 23) (o := { dst := some 141, op := Op.binOp BinOp.lss 3 (Operand.tmp 138) (Operand.tmp 140) 3, type := 4, pos := "law.go:111", after := #[{ on := 20, ground := Ground.data }, { on := 22, ground := Ground.data }, { on := 18, ground := Ground.guard }], guard := some (18, true) }) (v := undef) rfl (by kernel_rfl) (by kernel_rfl) (gives_not (by rfl)) ?_
                        try simp only [Act.put, List.setIfInBounds_toArray, List.set_cons_zero, List.set_cons_succ]
                        refine wpD_step (i := 24) (o := { dst := some 142, op := Op.pick (Operand.tmp 136) (Operand.tmp 141) (Operand.const (Value.bool false)), type := 4, pos := "law.go:111", after := #[{ on := 18, ground := Ground.data }, { on := 23, ground := Ground.data }, { on := 14, ground := Ground.guard }], guard := some (14, false) }) (v := (Value.bool (false))) rfl (by kernel_rfl) (by kernel_rfl) ?_ ?_
                        · refine gives_pure (by rfl) ?_
                          intro w0 hSw; first | rfl | ((try dsimp only at hSw); go_simp; (try with_reducible rfl))
                        try simp only [Act.put, List.setIfInBounds_toArray, List.set_cons_zero, List.set_cons_succ]
                        refine wpD_step (i := 25) (o := { dst := some 143, op := Op.move (Operand.tmp 142), type := 4, pos := "law.go:111", after := #[{ on := 24, ground := Ground.data }, { on := 18, ground := Ground.chain }, { on := 14, ground := Ground.guard }], guard := some (14, false) }) (v := (Value.bool (false))) rfl (by kernel_rfl) (by kernel_rfl) ?_ ?_
                        · refine gives_pure (by rfl) ?_
                          intro w0 hSw; (try dsimp only at hSw); go_simp; (try with_reducible rfl)
                        try simp only [Act.put, List.setIfInBounds_toArray, List.set_cons_zero, List.set_cons_succ]
                        refine wpD_step (i := 26) (o := { dst := some 144, op := Op.move (Operand.tmp 14), type := 29, pos := "law.go:111", after := #[{ on := 25, ground := Ground.guard }], guard := some (25, true) }) (v := undef) rfl (by kernel_rfl) (by kernel_rfl) (gives_not (by rfl)) ?_
                        try simp only [Act.put, List.setIfInBounds_toArray, List.set_cons_zero, List.set_cons_succ]
                        refine wpD_step (i := 27) (o := { dst := some 145, op := Op.move (Operand.tmp 16), type := 3, pos := "law.go:111", after := #[{ on := 25, ground := Ground.guard }], guard := some (25, true) }) (v := undef) rfl (by kernel_rfl) (by kernel_rfl) (gives_not (by rfl)) ?_
                        try simp only [Act.put, List.setIfInBounds_toArray, List.set_cons_zero, List.set_cons_succ]
                        refine wpD_step (i := 28) (o := { dst := some 146, op := Op.indexAddr 29 (Operand.tmp 144) (Operand.tmp 145), type := 0, pos := "law.go:111", after := #[{ on := 26, ground := Ground.data }, { on := 27, ground := Ground.data }, { on := 25, ground := Ground.guard }], guard := some (25, true) }) (v := undef) rfl (by kernel_rfl) (by kernel_rfl) (gives_not (by rfl)) ?_
                        try simp only [Act.put, List.setIfInBounds_toArray, List.set_cons_zero, List.set_cons_succ]
                        refine wpD_step (i := 29) (o := { dst := some 147, op := Op.load 9 (Operand.tmp 146), type := 9, pos := "law.go:111", after := #[{ on := 28, ground := Ground.data }, { on := 25, ground := Ground.guard }], guard := some (25, true) }) (v := undef) rfl (by kernel_rfl) (by kernel_rfl) (gives_not (by rfl)) ?_
                        try simp only [Act.put, List.setIfInBounds_toArray, List.set_cons_zero, List.set_cons_succ]
                        refine wpD_step (i := 30) (o := { dst := some 148, op := Op.move (Operand.tmp 9), type := 29, pos := "law.go:111", after := #[{ on := 25, ground := Ground.guard }], guard := some (25, true) }) (v := undef) rfl (by kernel_rfl) (by kernel_rfl) (gives_not (by rfl)) ?_
                        try simp only [Act.put, List.setIfInBounds_toArray, List.set_cons_zero, List.set_cons_succ]
                        refine wpD_step (i := 31) (o := { dst := some 149, op := Op.move (Operand.tmp 16), type := 3, pos := "law.go:111", after := #[{ on := 25, ground := Ground.guard }], guard := some (25, true) }) (v := undef) rfl (by kernel_rfl) (by kernel_rfl) (gives_not (by rfl)) ?_
                        try simp only [Act.put, List.setIfInBounds_toArray, List.set_cons_zero, List.set_cons_succ]
                        refine wpD_step (i := 32) (o := { dst := some 150, op := Op.binOp BinOp.add 3 (Operand.tmp 149) (Operand.const (Value.int IntKind.i64 1)) 3, type := 3, pos := "law.go:111", after := #[{ on := 31, ground := Ground.data }, { on := 25, ground := Ground.guard }], guard := some (25, true) }) (v := undef) rfl (by kernel_rfl) (by kernel_rfl) (gives_not (by rfl)) ?_
                        try simp only [Act.put, List.setIfInBounds_toArray, List.set_cons_zero, List.set_cons_succ]
                        refine wpD_step (i := 33) (o := { dst := some 151, op := Op.indexAddr 29 (Operand.tmp 148) (Operand.tmp 150), type := 0, pos := "law.go:111", after := #[{ on := 30, ground := Ground.data }, { on := 32, ground := Ground.data }, { on := 25, ground := Ground.guard }], guard := some (25, true) }) (v := undef) rfl (by kernel_rfl) (by kernel_rfl) (gives_not (by rfl)) ?_
                        try simp only [Act.put, List.setIfInBounds_toArray, List.set_cons_zero, List.set_cons_succ]
                        refine wpD_step (i := 34) (o := { dst := some 152, op := Op.load 9 (Operand.tmp 151), type := 9, pos := "law.go:111", after := #[{ on := 33, ground := Ground.data }, { on := 25, ground := Ground.guard }], guard := some (25, true) }) (v := undef) rfl (by kernel_rfl) (by kernel_rfl) (gives_not (by rfl)) ?_
                        try simp only [Act.put, List.setIfInBounds_toArray, List.set_cons_zero, List.set_cons_succ]
                        refine wpD_step (i := 35) (o := { dst := some 153, op := Op.binOp BinOp.neq 9 (Operand.tmp 147) (Operand.tmp 152) 9, type := 4, pos := "law.go:111", after := #[{ on := 29, ground := Ground.data }, { on := 34, ground := Ground.data }, { on := 25, ground := Ground.guard }], guard := some (25, true) }) (v := undef) rfl (by kernel_rfl) (by kernel_rfl) (gives_not (by rfl)) ?_
                        try simp only [Act.put, List.setIfInBounds_toArray, List.set_cons_zero, List.set_cons_succ]
                        refine wpD_step (i := 36) (o := { dst := some 154, op := Op.pick (Operand.tmp 143) (Operand.tmp 153) (Operand.const (Value.bool false)), type := 4, pos := "law.go:111", after := #[{ on := 25, ground := Ground.data }, { on := 35, ground := Ground.data }, { on := 14, ground := Ground.guard }], guard := some (14, false) }) (v := (Value.bool (false))) rfl (by kernel_rfl) (by kernel_rfl) ?_ ?_
                        · refine gives_pure (by rfl) ?_
                          intro w0 hSw; first | rfl | ((try dsimp only at hSw); go_simp; (try with_reducible rfl))
                        try simp only [Act.put, List.setIfInBounds_toArray, List.set_cons_zero, List.set_cons_succ]
                        refine wpD_step (i := 37) (o := { dst := some 155, op := Op.pick (Operand.tmp 132) (Operand.const (Value.bool true)) (Operand.tmp 154), type := 4, pos := "law.go:111", after := #[{ on := 14, ground := Ground.data }, { on := 36, ground := Ground.data }], guard := none }) (v := (Value.bool (false))) rfl (by kernel_rfl) (by kernel_rfl) ?_ ?_
                        · refine gives_pure (by rfl) ?_
                          intro w0 hSw; first | rfl | ((try dsimp only at hSw); go_simp; (try with_reducible rfl))
                        try simp only [Act.put, List.setIfInBounds_toArray, List.set_cons_zero, List.set_cons_succ]
                        refine wpD_done (by kernel_rfl) (fun wz hHeld => ?_) _
                        go_wp2_with fail
                        go_roundw
                        case rel => exact ⟨m + 1, by omega, by omega, by go_num, hHeld.2⟩
                        case measure => simp [intOf]; omega
                      · have hd : (decide ((m : Int) < (xs.length : Int)) = false) ∨ (decide ((m : Int) < (xs.length : Int)) = true ∧ decide ((m : Int) < (ys.length : Int)) = false) := by
                          rcases (by omega : xs.length ≤ m ∨ (m < xs.length ∧ ys.length ≤ m)) with h | ⟨h, h'⟩
                          · exact Or.inl (dlt_f (by omega))
                          · exact Or.inr ⟨dlt_t (by omega), dlt_f (by omega)⟩
                        rcases hd with g1 | ⟨g1, g2⟩
                        all_goals
                          go_wp2_with fail
                          go_roundw
                          case rel => exact ⟨k + 1, ys, _, by omega, by go_num, by omega, (A4.out.below HB.out).onR (Tx.nil _) (Below.refl _ _) (fun x hx => by cases hx)⟩
                          case measure => simp [intOf]; omega
              · refine (btwin_none pl _ (bat_far pl (by omega) _ (blen_any _ A1.out.b))).mono ?_; rintro e w' ⟨rfl, rfl⟩
                have A9 := A1
                clear A1 hp
                as_aux_lemma =>
                  have hne : ((xs.length : Int) != (xs.length : Int)) = false := by simp
                  go_wp2_with fail
                  refine (ball_any (by omega) _ A9.out.b).mono ?_; rintro e w4 ⟨a4, c4, rfl, r4, b4, _⟩
                  have A4 := Lib.hid (A9.out.below b4)
                  have R4 := Lib.hid r4
                  clear b4 r4 A9 p1
                  go_wp2_with fail
                  obtain ⟨wo, rfl⟩ : ∃ wo : World, wo = wr := ⟨_, rfl⟩
                  go_loopw [16] (fun i wr => ∃ m : Nat, m ≤ xs.length ∧ m ≤ xs.length ∧ i = .int .i64 m ∧ Below w4.heap.size w4 wr) (fun i _ => xs.length - (intOf i).toNat)
                  case atStart => exact ⟨0, Nat.zero_le _, Nat.zero_le _, rfl, Below.refl _ _⟩
                  case round =>
                    obtain ⟨m, hm, hm', rfl, hb⟩ := hrel
                    have HB := Lib.hid hb
                    clear hb
                    by_cases hml : m < xs.length ∧ m < xs.length
                    · obtain ⟨hml, hml'⟩ := hml
                      obtain ⟨b5, off5, ha5, q1⟩ := RowAt.get (RowAt.below A4.out.t.r HB.out) (k := m) (v := .string (xs[m]'hml)) (by simp [strs, List.getElem?_eq_getElem (show m < xs.length from hml)])
                      obtain ⟨b6, off6, ha6, q2⟩ := RowAt.get (RowAt.below R4.out HB.out) (k := m) (v := .string (xs[m]'hml')) (by simp [strs, List.getElem?_eq_getElem hml'])
                      subst ha5 ha6
                      rw [show xs[m]'hml' = xs[m]'hml from rfl] at q2
                      generalize xs[m]'hml = x at *
                      go_upto_region 30 with (fail)
                      refine wp_region_held_drew (S := (fun W => (W.cell? ⟨b6, off6 + m, none⟩ = some (.string x) ∧ W.cell? ⟨b5, off5 + m, none⟩ = some (.string x)) ∧ Below w4.heap.size w4 W)) (by kernel_rfl) ?_ (fun hHeld => ?_)
                      · (try dsimp only); exact ⟨⟨q2, q1⟩, HB.out.drew⟩
                      refine wpD_go (by kernel_rfl) _ _ _ _ (by assumption) ?_
                      refine wpD_step (i := 0) (o := { dst := some 118, op := Op.move (Operand.tmp 16), type := 3, pos := "law.go:111", after := #[], guard := none }) (v := ?_) rfl (by kernel_rfl) (by kernel_rfl) ?_ ?_
                      rotate_left
                      · refine gives_pure (by rfl) ?_
                        intro w0 hSw; (try dsimp only at hSw); go_simp; (try with_reducible rfl)
                      try simp only [Act.put, List.setIfInBounds_toArray, List.set_cons_zero, List.set_cons_succ]
                      refine wpD_step (i := 1) (o := { dst := some 119, op := Op.move (Operand.tmp 11), type := 3, pos := "law.go:111", after := #[], guard := none }) (v := ?_) rfl (by kernel_rfl) (by kernel_rfl) ?_ ?_
                      rotate_left
                      · refine gives_pure (by rfl) ?_
                        intro w0 hSw; (try dsimp only at hSw); go_simp; (try with_reducible rfl)
                      try simp only [Act.put, List.setIfInBounds_toArray, List.set_cons_zero, List.set_cons_succ]
                      refine wpD_step (i := 2) (o := { dst := some 120, op := Op.binOp BinOp.lss 3 (Operand.tmp 118) (Operand.tmp 119) 3, type := 4, pos := "law.go:111", after := #[{ on := 0, ground := Ground.data }, { on := 1, ground := Ground.data }], guard := none }) (v := (Value.bool (true))) rfl (by kernel_rfl) (by kernel_rfl) ?_ ?_
                      · refine gives_pure (by rfl) ?_
                        intro w0 hSw; (try dsimp only at hSw); go_simp; (try with_reducible rfl)
                      try simp only [Act.put, List.setIfInBounds_toArray, List.set_cons_zero, List.set_cons_succ]
                      refine wpD_step (i := 3) (o := { dst := some 121, op := Op.move (Operand.tmp 120), type := 4, pos := "law.go:111", after := #[{ on := 2, ground := Ground.data }], guard := none }) (v := (Value.bool (true))) rfl (by kernel_rfl) (by kernel_rfl) ?_ ?_
                      · refine gives_pure (by rfl) ?_
                        intro w0 hSw; (try dsimp only at hSw); go_simp; (try with_reducible rfl)
                      try simp only [Act.put, List.setIfInBounds_toArray, List.set_cons_zero, List.set_cons_succ]
                      refine wpD_step (i := 4) (o := { dst := some 122, op := Op.move (Operand.tmp 14), type := 29, pos := "law.go:111", after := #[{ on := 3, ground := Ground.guard }], guard := some (3, true) }) (v := ?_) rfl (by kernel_rfl) (by kernel_rfl) ?_ ?_
                      rotate_left
                      · refine gives_pure (by rfl) ?_
                        intro w0 hSw; (try dsimp only at hSw); go_simp; (try with_reducible rfl)
                      try simp only [Act.put, List.setIfInBounds_toArray, List.set_cons_zero, List.set_cons_succ]
                      refine wpD_step (i := 5) (o := { dst := some 123, op := Op.move (Operand.tmp 16), type := 3, pos := "law.go:111", after := #[{ on := 3, ground := Ground.guard }], guard := some (3, true) }) (v := ?_) rfl (by kernel_rfl) (by kernel_rfl) ?_ ?_
                      rotate_left
                      · refine gives_pure (by rfl) ?_
                        intro w0 hSw; (try dsimp only at hSw); go_simp; (try with_reducible rfl)
                      try simp only [Act.put, List.setIfInBounds_toArray, List.set_cons_zero, List.set_cons_succ]
                      refine wpD_step (i := 6) (o := { dst := some 124, op := Op.indexAddr 29 (Operand.tmp 122) (Operand.tmp 123), type := 0, pos := "law.go:111", after := #[{ on := 4, ground := Ground.data }, { on := 5, ground := Ground.data }, { on := 3, ground := Ground.guard }], guard := some (3, true) }) (v := ?_) rfl (by kernel_rfl) (by kernel_rfl) ?_ ?_
                      rotate_left
                      · refine gives_pure (by rfl) ?_
                        intro w0 hSw; (try dsimp only at hSw); go_simp; (try with_reducible rfl)
                      try simp only [Act.put, List.setIfInBounds_toArray, List.set_cons_zero, List.set_cons_succ]
                      refine wpD_step (i := 7) (o := { dst := some 125, op := Op.load 9 (Operand.tmp 124), type := 9, pos := "law.go:111", after := #[{ on := 6, ground := Ground.data }, { on := 3, ground := Ground.guard }], guard := some (3, true) }) (v := ?_) rfl (by kernel_rfl) (by kernel_rfl) ?_ ?_
                      rotate_left
                      · refine gives_pure (by rfl) ?_
                        intro w0 hSw; (try dsimp only at hSw); go_simp; (try with_reducible rfl)
                      try simp only [Act.put, List.setIfInBounds_toArray, List.set_cons_zero, List.set_cons_succ]
                      refine wpD_step (i := 8) (o := { dst := some 126, op := Op.move (Operand.tmp 9), type := 29, pos := "law.go:111", after := #[{ on := 3, ground := Ground.guard }], guard := some (3, true) }) (v := ?_) rfl (by kernel_rfl) (by kernel_rfl) ?_ ?_
                      rotate_left
                      · refine gives_pure (by rfl) ?_
                        intro w0 hSw; (try dsimp only at hSw); go_simp; (try with_reducible rfl)
                      try simp only [Act.put, List.setIfInBounds_toArray, List.set_cons_zero, List.set_cons_succ]
                      refine wpD_step (i := 9) (o := { dst := some 127, op := Op.move (Operand.tmp 16), type := 3, pos := "law.go:111", after := #[{ on := 3, ground := Ground.guard }], guard := some (3, true) }) (v := ?_) rfl (by kernel_rfl) (by kernel_rfl) ?_ ?_
                      rotate_left
                      · refine gives_pure (by rfl) ?_
                        intro w0 hSw; (try dsimp only at hSw); go_simp; (try with_reducible rfl)
                      try simp only [Act.put, List.setIfInBounds_toArray, List.set_cons_zero, List.set_cons_succ]
                      refine wpD_step (i := 10) (o := { dst := some 128, op := Op.indexAddr 29 (Operand.tmp 126) (Operand.tmp 127), type := 0, pos := "law.go:111", after := #[{ on := 8, ground := Ground.data }, { on := 9, ground := Ground.data }, { on := 3, ground := Ground.guard }], guard := some (3, true) }) (v := ?_) rfl (by kernel_rfl) (by kernel_rfl) ?_ ?_
                      rotate_left
                      · refine gives_pure (by rfl) ?_
                        intro w0 hSw; (try dsimp only at hSw); go_simp; (try with_reducible rfl)
                      try simp only [Act.put, List.setIfInBounds_toArray, List.set_cons_zero, List.set_cons_succ]
                      refine wpD_step (i := 11) (o := { dst := some 129, op := Op.load 9 (Operand.tmp 128), type := 9, pos := "law.go:111", after := #[{ on := 10, ground := Ground.data }, { on := 3, ground := Ground.guard }], guard := some (3, true) }) (v := ?_) rfl (by kernel_rfl) (by kernel_rfl) ?_ ?_
                      rotate_left
                      · refine gives_pure (by rfl) ?_
                        intro w0 hSw; (try dsimp only at hSw); go_simp; (try with_reducible rfl)
                      try simp only [Act.put, List.setIfInBounds_toArray, List.set_cons_zero, List.set_cons_succ]
                      refine wpD_step (i := 12) (o := { dst := some 130, op := Op.binOp BinOp.neq 9 (Operand.tmp 125) (Operand.tmp 129) 9, type := 4, pos := "law.go:111", after := #[{ on := 7, ground := Ground.data }, { on := 11, ground := Ground.data }, { on := 3, ground := Ground.guard }], guard := some (3, true) }) (v := (Value.bool (false))) rfl (by kernel_rfl) (by kernel_rfl) ?_ ?_
                      · refine gives_pure (by rfl) ?_
                        intro w0 hSw; first | rfl | ((try dsimp only at hSw); go_simp; (try with_reducible rfl))
                      try simp only [Act.put, List.setIfInBounds_toArray, List.set_cons_zero, List.set_cons_succ]
                      refine wpD_step (i := 13) (o := { dst := some 131, op := Op.pick (Operand.tmp 121) (Operand.tmp 130) (Operand.const (Value.bool false)), type := 4, pos := "law.go:111", after := #[{ on := 3, ground := Ground.data }, { on := 12, ground := Ground.data }], guard := none }) (v := (Value.bool (false))) rfl (by kernel_rfl) (by kernel_rfl) ?_ ?_
                      · refine gives_pure (by rfl) ?_
                        intro w0 hSw; first | rfl | ((try dsimp only at hSw); go_simp; (try with_reducible rfl))
                      try simp only [Act.put, List.setIfInBounds_toArray, List.set_cons_zero, List.set_cons_succ]
                      refine wpD_step (i := 14) (o := { dst := some 132, op := Op.move (Operand.tmp 131), type := 4, pos := "law.go:111", after := #[{ on := 13, ground := Ground.data }, { on := 3, ground := Ground.chain }], guard := none }) (v := (Value.bool (false))) rfl (by kernel_rfl) (by kernel_rfl) ?_ ?_
                      · refine gives_pure (by rfl) ?_
                        intro w0 hSw; (try dsimp only at hSw); go_simp; (try with_reducible rfl)
                      try simp only [Act.put, List.setIfInBounds_toArray, List.set_cons_zero, List.set_cons_succ]
                      refine wpD_step (i := 15) (o := { dst := some 133, op := Op.move (Operand.tmp 16), type := 3, pos := "law.go:111", after := #[{ on := 14, ground := Ground.guard }], guard := some (14, false) }) (v := ?_) rfl (by kernel_rfl) (by kernel_rfl) ?_ ?_
                      rotate_left
                      · refine gives_pure (by rfl) ?_
                        intro w0 hSw; (try dsimp only at hSw); go_simp; (try with_reducible rfl)
                      try simp only [Act.put, List.setIfInBounds_toArray, List.set_cons_zero, List.set_cons_succ]
                      refine wpD_step (i := 16) (o := { dst := some 134, op := Op.move (Operand.tmp 11), type := 3, pos := "law.go:111", after := #[{ on := 14, ground := Ground.guard }], guard := some (14, false) }) (v := ?_) rfl (by kernel_rfl) (by kernel_rfl) ?_ ?_
                      rotate_left
                      · refine gives_pure (by rfl) ?_
                        intro w0 hSw; (try dsimp only at hSw); go_simp; (try with_reducible rfl)
                      try simp only [Act.put, List.setIfInBounds_toArray, List.set_cons_zero, List.set_cons_succ]
                      refine wpD_step (i := 17) (o := { dst := some 135, op := Op.binOp BinOp.geq 3 (Operand.tmp 133) (Operand.tmp 134) 3, type := 4, pos := "law.go:111", after := #[{ on := 15, ground := Ground.data }, { on := 16, ground := Ground.data }, { on := 14, ground := Ground.guard }], guard := some (14, false) }) (v := (Value.bool (false))) rfl (by kernel_rfl) (by kernel_rfl) ?_ ?_
                      · refine gives_pure (by rfl) ?_
                        intro w0 hSw; (try dsimp only at hSw); go_simp; (try with_reducible rfl)
                      try simp only [Act.put, List.setIfInBounds_toArray, List.set_cons_zero, List.set_cons_succ]
                      refine wpD_step (i := 18) (o := { dst := some 136, op := Op.move (Operand.tmp 135), type := 4, pos := "law.go:111", after := #[{ on := 17, ground := Ground.data }, { on := 14, ground := Ground.chain }, { on := 14, ground := Ground.guard }], guard := some (14, false) }) (v := (Value.bool (false))) rfl (by kernel_rfl) (by kernel_rfl) ?_ ?_
                      · refine gives_pure (by rfl) ?_
                        intro w0 hSw; (try dsimp only at hSw); go_simp; (try with_reducible rfl)
                      try simp only [Act.put, List.setIfInBounds_toArray, List.set_cons_zero, List.set_cons_succ]
                      refine wpD_step (i := 19) (o := { dst := some 137, op := Op.move (Operand.tmp 16), type := 3, pos := "law.go:111", after := #[{ on := 18, ground := Ground.guard }], guard := some (18, true) }) (v := undef) rfl (by kernel_rfl) (by kernel_rfl) (gives_not (by rfl)) ?_
                      try simp only [Act.put, List.setIfInBounds_toArray, List.set_cons_zero, List.set_cons_succ]
                      refine wpD_step (i := 20) (o := { dst := some 138, op := Op.binOp BinOp.add 3 (Operand.tmp 137) (Operand.const (Value.int IntKind.i64 1)) 3, type := 3, pos := "law.go:111", after := #[{ on := 19, ground := Ground.data }, { on := 18, ground := Ground.guard }], guard := some (18, true) }) (v := undef) rfl (by kernel_rfl) (by kernel_rfl) (gives_not (by rfl)) ?_
                      try simp only [Act.put, List.setIfInBounds_toArray, List.set_cons_zero, List.set_cons_succ]
                      refine wpD_step (i := 21) (o := { dst := some 139, op := Op.move (Operand.tmp 9), type := 29, pos := "law.go:111", after := #[{ on := 18, ground := Ground.guard }], guard := some (18, true) }) (v := undef) rfl (by kernel_rfl) (by kernel_rfl) (gives_not (by rfl)) ?_
                      try simp only [Act.put, List.setIfInBounds_toArray, List.set_cons_zero, List.set_cons_succ]
                      refine wpD_step (i := 22) (o := { dst := some 140, op := Op.call { callee := Callee.builtin Builtin.len, args := #[Operand.tmp 139], argTypes := #[29] }, type := 3, pos := "law.go:111", after := #[{ on := 21, ground := Ground.data }, { on := 18, ground := Ground.guard }], guard := some (18, true) }) (v := undef) rfl (by kernel_rfl) (by kernel_rfl) (gives_not (by rfl)) ?_
                      try simp only [Act.put, List.setIfInBounds_toArray, List.set_cons_zero, List.set_cons_succ]
                      refine wpD_step (i := 23) (o := { dst := some 141, op := Op.binOp BinOp.lss 3 (Operand.tmp 138) (Operand.tmp 140) 3, type := 4, pos := "law.go:111", after := #[{ on := 20, ground := Ground.data }, { on := 22, ground := Ground.data }, { on := 18, ground := Ground.guard }], guard := some (18, true) }) (v := undef) rfl (by kernel_rfl) (by kernel_rfl) (gives_not (by rfl)) ?_
                      try simp only [Act.put, List.setIfInBounds_toArray, List.set_cons_zero, List.set_cons_succ]
                      refine wpD_step (i := 24) (o := { dst := some 142, op := Op.pick (Operand.tmp 136) (Operand.tmp 141) (Operand.const (Value.bool false)), type := 4, pos := "law.go:111", after := #[{ on := 18, ground := Ground.data }, { on := 23, ground := Ground.data }, { on := 14, ground := Ground.guard }], guard := some (14, false) }) (v := (Value.bool (false))) rfl (by kernel_rfl) (by kernel_rfl) ?_ ?_
                      · refine gives_pure (by rfl) ?_
                        intro w0 hSw; first | rfl | ((try dsimp only at hSw); go_simp; (try with_reducible rfl))
                      try simp only [Act.put, List.setIfInBounds_toArray, List.set_cons_zero, List.set_cons_succ]
                      refine wpD_step (i := 25) (o := { dst := some 143, op := Op.move (Operand.tmp 142), type := 4, pos := "law.go:111", after := #[{ on := 24, ground := Ground.data }, { on := 18, ground := Ground.chain }, { on := 14, ground := Ground.guard }], guard := some (14, false) }) (v := (Value.bool (false))) rfl (by kernel_rfl) (by kernel_rfl) ?_ ?_
                      · refine gives_pure (by rfl) ?_
                        intro w0 hSw; (try dsimp only at hSw); go_simp; (try with_reducible rfl)
                      try simp only [Act.put, List.setIfInBounds_toArray, List.set_cons_zero, List.set_cons_succ]
                      refine wpD_step (i := 26) (o := { dst := some 144, op := Op.move (Operand.tmp 14), type := 29, pos := "law.go:111", after := #[{ on := 25, ground := Ground.guard }], guard := some (25, true) }) (v := undef) rfl (by kernel_rfl) (by kernel_rfl) (gives_not (by rfl)) ?_
                      try simp only [Act.put, List.setIfInBounds_toArray, List.set_cons_zero, List.set_cons_succ]
                      refine wpD_step (i := 27) (o := { dst := some 145, op := Op.move (Operand.tmp 16), type := 3, pos := "law.go:111", after := #[{ on := 25, ground := Ground.guard }], guard := some (25, true) }) (v := undef) rfl (by kernel_rfl) (by kernel_rfl) (gives_not (by rfl)) ?_
                      try simp only [Act.put, List.setIfInBounds_toArray, List.set_cons_zero, List.set_cons_succ]
                      refine wpD_step (i := 28) (o := { dst := some 146, op := Op.indexAddr 29 (Operand.tmp 144) (Operand.tmp 145), type := 0, pos := "law.go:111", after := #[{ on := 26, ground := Ground.data }, { on := 27, ground := Ground.data }, { on := 25, ground := Ground.guard }], guard := some (25, true) }) (v := undef) rfl (by kernel_rfl) (by kernel_rfl) (gives_not (by rfl)) ?_
                      try simp only [Act.put, List.setIfInBounds_toArray, List.set_cons_zero, List.set_cons_succ]
                      refine wpD_step (i := 29) (o := { dst := some 147, op := Op.load 9 (Operand.tmp 146), type := 9, pos := "law.go:111", after := #[{ on := 28, ground := Ground.data }, { on := 25, ground := Ground.guard }], guard := some (25, true) }) (v := undef) rfl (by kernel_rfl) (by kernel_rfl) (gives_not (by rfl)) ?_
                      try simp only [Act.put, List.setIfInBounds_toArray, List.set_cons_zero, List.set_cons_succ]
                      refine wpD_step (i := 30) (o := { dst := some 148, op := Op.move (Operand.tmp 9), type := 29, pos := "law.go:111", after := #[{ on := 25, ground := Ground.guard }], guard := some (25, true) }) (v := undef) rfl (by kernel_rfl) (by kernel_rfl) (gives_not (by rfl)) ?_
                      try simp only [Act.put, List.setIfInBounds_toArray, List.set_cons_zero, List.set_cons_succ]
                      refine wpD_step (i := 31) (o := { dst := some 149, op := Op.move (Operand.tmp 16), type := 3, pos := "law.go:111", after := #[{ on := 25, ground := Ground.guard }], guard := some (25, true) }) (v := undef) rfl (by kernel_rfl) (by kernel_rfl) (gives_not (by rfl)) ?_
                      try simp only [Act.put, List.setIfInBounds_toArray, List.set_cons_zero, List.set_cons_succ]
                      refine wpD_step (i := 32) (o := { dst := some 150, op := Op.binOp BinOp.add 3 (Operand.tmp 149) (Operand.const (Value.int IntKind.i64 1)) 3, type := 3, pos := "law.go:111", after := #[{ on := 31, ground := Ground.data }, { on := 25, ground := Ground.guard }], guard := some (25, true) }) (v := undef) rfl (by kernel_rfl) (by kernel_rfl) (gives_not (by rfl)) ?_
                      try simp only [Act.put, List.setIfInBounds_toArray, List.set_cons_zero, List.set_cons_succ]
                      refine wpD_step (i := 33) (o := { dst := some 151, op := Op.indexAddr 29 (Operand.tmp 148) (Operand.tmp 150), type := 0, pos := "law.go:111", after := #[{ on := 30, ground := Ground.data }, { on := 32, ground := Ground.data }, { on := 25, ground := Ground.guard }], guard := some (25, true) }) (v := undef) rfl (by kernel_rfl) (by kernel_rfl) (gives_not (by rfl)) ?_
                      try simp only [Act.put, List.setIfInBounds_toArray, List.set_cons_zero, List.set_cons_succ]
                      refine wpD_step (i := 34) (o := { dst := some 152, op := Op.load 9 (Operand.tmp 151), type := 9, pos := "law.go:111", after := #[{ on := 33, ground := Ground.data }, { on := 25, ground := Ground.guard }], guard := some (25, true) }) (v := undef) rfl (by kernel_rfl) (by kernel_rfl) (gives_not (by rfl)) ?_
                      try simp only [Act.put, List.setIfInBounds_toArray, List.set_cons_zero, List.set_cons_succ]
                      refine wpD_step (i := 35) (o := { dst := some 153, op := Op.binOp BinOp.neq 9 (Operand.tmp 147) (Operand.tmp 152) 9, type := 4, pos := "law.go:111", after := #[{ on := 29, ground := Ground.data }, { on := 34, ground := Ground.data }, { on := 25, ground := Ground.guard }], guard := some (25, true) }) (v := undef) rfl (by kernel_rfl) (by kernel_rfl) (gives_not (by rfl)) ?_
                      try simp only [Act.put, List.setIfInBounds_toArray, List.set_cons_zero, List.set_cons_succ]
                      refine wpD_step (i := 36) (o := { dst := some 154, op := Op.pick (Operand.tmp 143) (Operand.tmp 153) (Operand.const (Value.bool false)), type := 4, pos := "law.go:111", after := #[{ on := 25, ground := Ground.data }, { on := 35, ground := Ground.data }, { on := 14, ground := Ground.guard }], guard := some (14, false) }) (v := (Value.bool (false))) rfl (by kernel_rfl) (by kernel_rfl) ?_ ?_
                      · refine gives_pure (by rfl) ?_
                        intro w0 hSw; first | rfl | ((try dsimp only at hSw); go_simp; (try with_reducible rfl))
                      try simp only [Act.put, List.setIfInBounds_toArray, List.set_cons_zero, List.set_cons_succ]
                      refine wpD_step (i := 37) (o := { dst := some 155, op := Op.pick (Operand.tmp 132) (Operand.const (Value.bool true)) (Operand.tmp 154), type := 4, pos := "law.go:111", after := #[{ on := 14, ground := Ground.data }, { on := 36, ground := Ground.data }], guard := none }) (v := (Value.bool (false))) rfl (by kernel_rfl) (by kernel_rfl) ?_ ?_
                      · refine gives_pure (by rfl) ?_
                        intro w0 hSw; first | rfl | ((try dsimp only at hSw); go_simp; (try with_reducible rfl))
                      try simp only [Act.put, List.setIfInBounds_toArray, List.set_cons_zero, List.set_cons_succ]
                      refine wpD_done (by kernel_rfl) (fun wz hHeld => ?_) _
                      go_wp2_with fail
                      go_roundw
                      case rel => exact ⟨m + 1, by omega, by omega, by go_num, hHeld.2⟩
                      case measure => simp [intOf]; omega
                    · have hd : (decide ((m : Int) < (xs.length : Int)) = false) ∨ (decide ((m : Int) < (xs.length : Int)) = true ∧ decide ((m : Int) < (xs.length : Int)) = false) := by
                        rcases (by omega : xs.length ≤ m ∨ (m < xs.length ∧ xs.length ≤ m)) with h | ⟨h, h'⟩
                        · exact Or.inl (dlt_f (by omega))
                        · exact Or.inr ⟨dlt_t (by omega), dlt_f (by omega)⟩
                      rcases hd with g1 | ⟨g1, g2⟩
                      all_goals
                        go_wp2_with fail
                        go_roundw
                        case rel => exact ⟨k + 1, xs, _, by omega, by go_num, hxl, (A4.out.below HB.out).onR (Tx.nil _) (Below.refl _ _) (fun x hx => by cases hx)⟩
                        case measure => simp [intOf]; omega
            · have e2 := deq_f h2
              have A9 := A1
              clear A1
              as_aux_lemma =>
                have hne : ((xs.length : Int) != (xs.length : Int)) = false := by simp
                go_wp2_with fail
                refine (ball_any (by omega) _ A9.out.b).mono ?_; rintro e w4 ⟨a4, c4, rfl, r4, b4, _⟩
                have A4 := Lib.hid (A9.out.below b4)
                have R4 := Lib.hid r4
                clear b4 r4 A9 p1
                go_wp2_with fail
                obtain ⟨wo, rfl⟩ : ∃ wo : World, wo = wr := ⟨_, rfl⟩
                go_loopw [16] (fun i wr => ∃ m : Nat, m ≤ xs.length ∧ m ≤ xs.length ∧ i = .int .i64 m ∧ Below w4.heap.size w4 wr) (fun i _ => xs.length - (intOf i).toNat)
                case atStart => exact ⟨0, Nat.zero_le _, Nat.zero_le _, rfl, Below.refl _ _⟩
                case round =>
                  obtain ⟨m, hm, hm', rfl, hb⟩ := hrel
                  have HB := Lib.hid hb
                  clear hb
                  by_cases hml : m < xs.length ∧ m < xs.length
                  · obtain ⟨hml, hml'⟩ := hml
                    obtain ⟨b5, off5, ha5, q1⟩ := RowAt.get (RowAt.below A4.out.t.r HB.out) (k := m) (v := .string (xs[m]'hml)) (by simp [strs, List.getElem?_eq_getElem (show m < xs.length from hml)])
                    obtain ⟨b6, off6, ha6, q2⟩ := RowAt.get (RowAt.below R4.out HB.out) (k := m) (v := .string (xs[m]'hml')) (by simp [strs, List.getElem?_eq_getElem hml'])
                    subst ha5 ha6
                    rw [show xs[m]'hml' = xs[m]'hml from rfl] at q2
                    generalize xs[m]'hml = x at *
                    go_upto_region 30 with (fail)
                    refine wp_region_held_drew (S := (fun W => (W.cell? ⟨b6, off6 + m, none⟩ = some (.string x) ∧ W.cell? ⟨b5, off5 + m, none⟩ = some (.string x)) ∧ Below w4.heap.size w4 W)) (by kernel_rfl) ?_ (fun hHeld => ?_)
                    · (try dsimp only); exact ⟨⟨q2, q1⟩, HB.out.drew⟩
                    refine wpD_go (by kernel_rfl) _ _ _ _ (by assumption) ?_
                    refine wpD_step (i := 0) (o := { dst := some 118, op := Op.move (Operand.tmp 16), type := 3, pos := "law.go:111", after := #[], guard := none }) (v := ?_) rfl (by kernel_rfl) (by kernel_rfl) ?_ ?_
                    rotate_left
                    · refine gives_pure (by rfl) ?_
                      intro w0 hSw; (try dsimp only at hSw); go_simp; (try with_reducible rfl)
                    try simp only [Act.put, List.setIfInBounds_toArray, List.set_cons_zero, List.set_cons_succ]
                    refine wpD_step (i := 1) (o := { dst := some 119, op := Op.move (Operand.tmp 11), type := 3, pos := "law.go:111", after := #[], guard := none }) (v := ?_) rfl (by kernel_rfl) (by kernel_rfl) ?_ ?_
                    rotate_left
                    · refine gives_pure (by rfl) ?_
                      intro w0 hSw; (try dsimp only at hSw); go_simp; (try with_reducible rfl)
                    try simp only [Act.put, List.setIfInBounds_toArray, List.set_cons_zero, List.set_cons_succ]
                    refine wpD_step (i := 2) (o := { dst := some 120, op := Op.binOp BinOp.lss 3 (Operand.tmp 118) (Operand.tmp 119) 3, type := 4, pos := "law.go:111", after := #[{ on := 0, ground := Ground.data }, { on := 1, ground := Ground.data }], guard := none }) (v := (Value.bool (true))) rfl (by kernel_rfl) (by kernel_rfl) ?_ ?_
                    · refine gives_pure (by rfl) ?_
                      intro w0 hSw; (try dsimp only at hSw); go_simp; (try with_reducible rfl)
                    try simp only [Act.put, List.setIfInBounds_toArray, List.set_cons_zero, List.set_cons_succ]
                    refine wpD_step (i := 3) (o := { dst := some 121, op := Op.move (Operand.tmp 120), type := 4, pos := "law.go:111", after := #[{ on := 2, ground := Ground.data }], guard := none }) (v := (Value.bool (true))) rfl (by kernel_rfl) (by kernel_rfl) ?_ ?_
                    · refine gives_pure (by rfl) ?_
                      intro w0 hSw; (try dsimp only at hSw); go_simp; (try with_reducible rfl)
                    try simp only [Act.put, List.setIfInBounds_toArray, List.set_cons_zero, List.set_cons_succ]
                    refine wpD_step (i := 4) (o := { dst := some 122, op := Op.move (Operand.tmp 14), type := 29, pos := "law.go:111", after := #[{ on := 3, ground := Ground.guard }], guard := some (3, true) }) (v := ?_) rfl (by kernel_rfl) (by kernel_rfl) ?_ ?_
                    rotate_left
                    · refine gives_pure (by rfl) ?_
                      intro w0 hSw; (try dsimp only at hSw); go_simp; (try with_reducible rfl)
                    try simp only [Act.put, List.setIfInBounds_toArray, List.set_cons_zero, List.set_cons_succ]
                    refine wpD_step (i := 5) (o := { dst := some 123, op := Op.move (Operand.tmp 16), type := 3, pos := "law.go:111", after := #[{ on := 3, ground := Ground.guard }], guard := some (3, true) }) (v := ?_) rfl (by kernel_rfl) (by kernel_rfl) ?_ ?_
                    rotate_left
                    · refine gives_pure (by rfl) ?_
                      intro w0 hSw; (try dsimp only at hSw); go_simp; (try with_reducible rfl)
                    try simp only [Act.put, List.setIfInBounds_toArray, List.set_cons_zero, List.set_cons_succ]
                    refine wpD_step (i := 6) (o := { dst := some 124, op := Op.indexAddr 29 (Operand.tmp 122) (Operand.tmp 123), type := 0, pos := "law.go:111", after := #[{ on := 4, ground := Ground.data }, { on := 5, ground := Ground.data }, { on := 3, ground := Ground.guard }], guard := some (3, true) }) (v := ?_) rfl (by kernel_rfl) (by kernel_rfl) ?_ ?_
                    rotate_left
                    · refine gives_pure (by rfl) ?_
                      intro w0 hSw; (try dsimp only at hSw); go_simp; (try with_reducible rfl)
                    try simp only [Act.put, List.setIfInBounds_toArray, List.set_cons_zero, List.set_cons_succ]
                    refine wpD_step (i := 7) (o := { dst := some 125, op := Op.load 9 (Operand.tmp 124), type := 9, pos := "law.go:111", after := #[{ on := 6, ground := Ground.data }, { on := 3, ground := Ground.guard }], guard := some (3, true) }) (v := ?_) rfl (by kernel_rfl) (by kernel_rfl) ?_ ?_
                    rotate_left
                    · refine gives_pure (by rfl) ?_
                      intro w0 hSw; (try dsimp only at hSw); go_simp; (try with_reducible rfl)
                    try simp only [Act.put, List.setIfInBounds_toArray, List.set_cons_zero, List.set_cons_succ]
                    refine wpD_step (i := 8) (o := { dst := some 126, op := Op.move (Operand.tmp 9), type := 29, pos := "law.go:111", after := #[{ on := 3, ground := Ground.guard }], guard := some (3, true) }) (v := ?_) rfl (by kernel_rfl) (by kernel_rfl) ?_ ?_
                    rotate_left
                    · refine gives_pure (by rfl) ?_
                      intro w0 hSw; (try dsimp only at hSw); go_simp; (try with_reducible rfl)
                    try simp only [Act.put, List.setIfInBounds_toArray, List.set_cons_zero, List.set_cons_succ]
                    refine wpD_step (i := 9) (o := { dst := some 127, op := Op.move (Operand.tmp 16), type := 3, pos := "law.go:111", after := #[{ on := 3, ground := Ground.guard }], guard := some (3, true) }) (v := ?_) rfl (by kernel_rfl) (by kernel_rfl) ?_ ?_
                    rotate_left
                    · refine gives_pure (by rfl) ?_
                      intro w0 hSw; (try dsimp only at hSw); go_simp; (try with_reducible rfl)
                    try simp only [Act.put, List.setIfInBounds_toArray, List.set_cons_zero, List.set_cons_succ]
                    refine wpD_step (i := 10) (o := { dst := some 128, op := Op.indexAddr 29 (Operand.tmp 126) (Operand.tmp 127), type := 0, pos := "law.go:111", after := #[{ on := 8, ground := Ground.data }, { on := 9, ground := Ground.data }, { on := 3, ground := Ground.guard }], guard := some (3, true) }) (v := ?_) rfl (by kernel_rfl) (by kernel_rfl) ?_ ?_
                    rotate_left
                    · refine gives_pure (by rfl) ?_
                      intro w0 hSw; (try dsimp only at hSw); go_simp; (try with_reducible rfl)
                    try simp only [Act.put, List.setIfInBounds_toArray, List.set_cons_zero, List.set_cons_succ]
                    refine wpD_step (i := 11) (o := { dst := some 129, op := Op.load 9 (Operand.tmp 128), type := 9, pos := "law.go:111", after := #[{ on := 10, ground := Ground.data }, { on := 3, ground := Ground.guard }], guard := some (3, true) }) (v := ?_) rfl (by kernel_rfl) (by kernel_rfl) ?_ ?_
                    rotate_left
                    · refine gives_pure (by rfl) ?_
                      intro w0 hSw; (try dsimp only at hSw); go_simp; (try with_reducible rfl)
                    try simp only [Act.put, List.setIfInBounds_toArray, List.set_cons_zero, List.set_cons_succ]
                    refine wpD_step (i := 12) (o := { dst := some 130, op := Op.binOp BinOp.neq 9 (Operand.tmp 125) (Operand.tmp 129) 9, type := 4, pos := "law.go:111", after := #[{ on := 7, ground := Ground.data }, { on := 11, ground := Ground.data }, { on := 3, ground := Ground.guard }], guard := some (3, true) }) (v := (Value.bool (false))) rfl (by kernel_rfl) (by kernel_rfl) ?_ ?_
                    · refine gives_pure (by rfl) ?_
                      intro w0 hSw; first | rfl | ((try dsimp only at hSw); go_simp; (try with_reducible rfl))
                    try simp only [Act.put, List.setIfInBounds_toArray, List.set_cons_zero, List.set_cons_succ]
                    refine wpD_step (i := 13) (o := { dst := some 131, op := Op.pick (Operand.tmp 121) (Operand.tmp 130) (Operand.const (Value.bool false)), type := 4, pos := "law.go:111", after := #[{ on := 3, ground := Ground.data }, { on := 12, ground := Ground.data }], guard := none }) (v := (Value.bool (false))) rfl (by kernel_rfl) (by kernel_rfl) ?_ ?_
                    · refine gives_pure (by rfl) ?_
                      intro w0 hSw; first | rfl | ((try dsimp only at hSw); go_simp; (try with_reducible rfl))
                    try simp only [Act.put, List.setIfInBounds_toArray, List.set_cons_zero, List.set_cons_succ]
                    refine wpD_step (i := 14) (o := { dst := some 132, op := Op.move (Operand.tmp 131), type := 4, pos := "law.go:111", after := #[{ on := 13, ground := Ground.data }, { on := 3, ground := Ground.chain }], guard := none }) (v := (Value.bool (false))) rfl (by kernel_rfl) (by kernel_rfl) ?_ ?_
                    · refine gives_pure (by rfl) ?_
                      intro w0 hSw; (try dsimp only at hSw); go_simp; (try with_reducible rfl)
                    try simp only [Act.put, List.setIfInBounds_toArray, List.set_cons_zero, List.set_cons_succ]
                    refine wpD_step (i := 15) (o := { dst := some 133, op := Op.move (Operand.tmp 16), type := 3, pos := "law.go:111", after := #[{ on := 14, ground := Ground.guard }], guard := some (14, false) }) (v := ?_) rfl (by kernel_rfl) (by kernel_rfl) ?_ ?_
                    rotate_left
                    · refine gives_pure (by rfl) ?_
                      intro w0 hSw; (try dsimp only at hSw); go_simp; (try with_reducible rfl)
                    try simp only [Act.put, List.setIfInBounds_toArray, List.set_cons_zero, List.set_cons_succ]
                    refine wpD_step (i := 16) (o := { dst := some 134, op := Op.move (Operand.tmp 11), type := 3, pos := "law.go:111", after := #[{ on := 14, ground := Ground.guard }], guard := some (14, false) }) (v := ?_) rfl (by kernel_rfl) (by kernel_rfl) ?_ ?_
                    rotate_left
                    · refine gives_pure (by rfl) ?_
                      intro w0 hSw; (try dsimp only at hSw); go_simp; (try with_reducible rfl)
                    try simp only [Act.put, List.setIfInBounds_toArray, List.set_cons_zero, List.set_cons_succ]
                    refine wpD_step (i := 17) (o := { dst := some 135, op := Op.binOp BinOp.geq 3 (Operand.tmp 133) (Operand.tmp 134) 3, type := 4, pos := "law.go:111", after := #[{ on := 15, ground := Ground.data }, { on := 16, ground := Ground.data }, { on := 14, ground := Ground.guard }], guard := some (14, false) }) (v := (Value.bool (false))) rfl (by kernel_rfl) (by kernel_rfl) ?_ ?_
                    · refine gives_pure (by rfl) ?_
                      intro w0 hSw; (try dsimp only at hSw); go_simp; (try with_reducible rfl)
                    try simp only [Act.put, List.setIfInBounds_toArray, List.set_cons_zero, List.set_cons_succ]
                    refine wpD_step (i := 18) (o := { dst := some 136, op := Op.move (Operand.tmp 135), type := 4, pos := "law.go:111", after := #[{ on := 17, ground := Ground.data }, { on := 14, ground := Ground.chain }, { on := 14, ground := Ground.guard }], guard := some (14, false) }) (v := (Value.bool (false))) rfl (by kernel_rfl) (by kernel_rfl) ?_ ?_
                    · refine gives_pure (by rfl) ?_
                      intro w0 hSw; (try dsimp only at hSw); go_simp; (try with_reducible rfl)
                    try simp only [Act.put, List.setIfInBounds_toArray, List.set_cons_zero, List.set_cons_succ]
                    refine wpD_step (i := 19) (o := { dst := some 137, op := Op.move (Operand.tmp 16), type := 3, pos := "law.go:111", after := #[{ on := 18, ground := Ground.guard }], guard := some (18, true) }) (v := undef) rfl (by kernel_rfl) (by kernel_rfl) (gives_not (by rfl)) ?_
                    try simp only [Act.put, List.setIfInBounds_toArray, List.set_cons_zero, List.set_cons_succ]
                    refine wpD_step (i := 20) (o := { dst := some 138, op := Op.binOp BinOp.add 3 (Operand.tmp 137) (Operand.const (Value.int IntKind.i64 1)) 3, type := 3, pos := "law.go:111", after := #[{ on := 19, ground := Ground.data }, { on := 18, ground := Ground.guard }], guard := some (18, true) }) (v := undef) rfl (by kernel_rfl) (by kernel_rfl) (gives_not (by rfl)) ?_
                    try simp only [Act.put, List.setIfInBounds_toArray, List.set_cons_zero, List.set_cons_succ]
                    refine wpD_step (i := 21) (o := { dst := some 139, op := Op.move (Operand.tmp 9), type := 29, pos := "law.go:111", after := #[{ on := 18, ground := Ground.guard }], guard := some (18, true) }) (v := undef) rfl (by kernel_rfl) (by kernel_rfl) (gives_not (by rfl)) ?_
                    try simp only [Act.put, List.setIfInBounds_toArray, List.set_cons_zero, List.set_cons_succ]
                    refine wpD_step (i := 22) (o := { dst := some 140, op := Op.call { callee := Callee.builtin Builtin.len, args := #[Operand.tmp 139], argTypes := #[29] }, type := 3, pos := "law.go:111", after := #[{ on := 21, ground := Ground.data }, { on := 18, ground := Ground.guard }], guard := some (18, true) }) (v := undef) rfl (by kernel_rfl) (by kernel_rfl) (gives_not (by rfl)) ?_
                    try simp only [Act.put, List.setIfInBounds_toArray, List.set_cons_zero, List.set_cons_succ]
                    refine wpD_step (i := 23) (o := { dst := some 141, op := Op.binOp BinOp.lss 3 (Operand.tmp 138) (Operand.tmp 140) 3, type := 4, pos := "law.go:111", after := #[{ on := 20, ground := Ground.data }, { on := 22, ground := Ground.data }, { on := 18, ground := Ground.guard }], guard := some (18, true) }) (v := undef) rfl (by kernel_rfl) (by kernel_rfl) (gives_not (by rfl)) ?_
                    try simp only [Act.put, List.setIfInBounds_toArray, List.set_cons_zero, List.set_cons_succ]
                    refine wpD_step (i := 24) (o := { dst := some 142, op := Op.pick (Operand.tmp 136) (Operand.tmp 141) (Operand.const (Value.bool false)), type := 4, pos := "law.go:111", after := #[{ on := 18, ground := Ground.data }, { on := 23, ground := Ground.data }, { on := 14, ground := Ground.guard }], guard := some (14, false) }) (v := (Value.bool (false))) rfl (by kernel_rfl) (by kernel_rfl) ?_ ?_
                    · refine gives_pure (by rfl) ?_
                      intro w0 hSw; first | rfl | ((try dsimp only at hSw); go_simp; (try with_reducible rfl))
                    try simp only [Act.put, List.setIfInBounds_toArray, List.set_cons_zero, List.set_cons_succ]
                    refine wpD_step (i := 25) (o := { dst := some 143, op := Op.move (Operand.tmp 142), type := 4, pos := "law.go:111", after := #[{ on := 24, ground := Ground.data }, { on := 18, ground := Ground.chain }, { on := 14, ground := Ground.guard }], guard := some (14, false) }) (v := (Value.bool (false))) rfl (by kernel_rfl) (by kernel_rfl) ?_ ?_
                    · refine gives_pure (by rfl) ?_
                      intro w0 hSw; (try dsimp only at hSw); go_simp; (try with_reducible rfl)
                    try simp only [Act.put, List.setIfInBounds_toArray, List.set_cons_zero, List.set_cons_succ]
                    refine wpD_step (i := 26) (o := { dst := some 144, op := Op.move (Operand.tmp 14), type := 29, pos := "law.go:111", after := #[{ on := 25, ground := Ground.guard }], guard := some (25, true) }) (v := undef) rfl (by kernel_rfl) (by kernel_rfl) (gives_not (by rfl)) ?_
                    try simp only [Act.put, List.setIfInBounds_toArray, List.set_cons_zero, List.set_cons_succ]
                    refine wpD_step (i := 27) (o := { dst := some 145, op := Op.move (Operand.tmp 16), type := 3, pos := "law.go:111", after := #[{ on := 25, ground := Ground.guard }], guard := some (25, true) }) (v := undef) rfl (by kernel_rfl) (by kernel_rfl) (gives_not (by rfl)) ?_
                    try simp only [Act.put, List.setIfInBounds_toArray, List.set_cons_zero, List.set_cons_succ]
                    refine wpD_step (i := 28) (o := { dst := some 146, op := Op.indexAddr 29 (Operand.tmp 144) (Operand.tmp 145), type := 0, pos := "law.go:111", after := #[{ on := 26, ground := Ground.data }, { on := 27, ground := Ground.data }, { on := 25, ground := Ground.guard }], guard := some (25, true) }) (v := undef) rfl (by kernel_rfl) (by kernel_rfl) (gives_not (by rfl)) ?_
                    try simp only [Act.put, List.setIfInBounds_toArray, List.set_cons_zero, List.set_cons_succ]
                    refine wpD_step (i := 29) (o := { dst := some 147, op := Op.load 9 (Operand.tmp 146), type := 9, pos := "law.go:111", after := #[{ on := 28, ground := Ground.data }, { on := 25, ground := Ground.guard }], guard := some (25, true) }) (v := undef) rfl (by kernel_rfl) (by kernel_rfl) (gives_not (by rfl)) ?_
                    try simp only [Act.put, List.setIfInBounds_toArray, List.set_cons_zero, List.set_cons_succ]
                    refine wpD_step (i := 30) (o := { dst := some 148, op := Op.move (Operand.tmp 9), type := 29, pos := "law.go:111", after := #[{ on := 25, ground := Ground.guard }], guard := some (25, true) }) (v := undef) rfl (by kernel_rfl) (by kernel_rfl) (gives_not (by rfl)) ?_
                    try simp only [Act.put, List.setIfInBounds_toArray, List.set_cons_zero, List.set_cons_succ]
                    refine wpD_step (i := 31) (o := { dst := some 149, op := Op.move (Operand.tmp 16), type := 3, pos := "law.go:111", after := #[{ on := 25, ground := Ground.guard }], guard := some (25, true) }) (v := undef) rfl (by kernel_rfl) (by kernel_rfl) (gives_not (by rfl)) ?_
                    try simp only [Act.put, List.setIfInBounds_toArray, List.set_cons_zero, List.set_cons_succ]
                    refine wpD_step (i := 32) (o := { dst := some 150, op := Op.binOp BinOp.add 3 (Operand.tmp 149) (Operand.const (Value.int IntKind.i64 1)) 3, type := 3, pos := "law.go:111", after := #[{ on := 31, ground := Ground.data }, { on := 25, ground := Ground.guard }], guard := some (25, true) }) (v := undef) rfl (by kernel_rfl) (by kernel_rfl) (gives_not (by rfl)) ?_
                    try simp only [Act.put, List.setIfInBounds_toArray, List.set_cons_zero, List.set_cons_succ]
                    refine wpD_step (i := 33) (o := { dst := some 151, op := Op.indexAddr 29 (Operand.tmp 148) (Operand.tmp 150), type := 0, pos := "law.go:111", after := #[{ on := 30, ground := Ground.data }, { on := 32, ground := Ground.data }, { on := 25, ground := Ground.guard }], guard := some (25, true) }) (v := undef) rfl (by kernel_rfl) (by kernel_rfl) (gives_not (by rfl)) ?_
                    try simp only [Act.put, List.setIfInBounds_toArray, List.set_cons_zero, List.set_cons_succ]
                    refine wpD_step (i := 34) (o := { dst := some 152, op := Op.load 9 (Operand.tmp 151), type := 9, pos := "law.go:111", after := #[{ on := 33, ground := Ground.data }, { on := 25, ground := Ground.guard }], guard := some (25, true) }) (v := undef) rfl (by kernel_rfl) (by kernel_rfl) (gives_not (by rfl)) ?_
                    try simp only [Act.put, List.setIfInBounds_toArray, List.set_cons_zero, List.set_cons_succ]
                    refine wpD_step (i := 35) (o := { dst := some 153, op := Op.binOp BinOp.neq 9 (Operand.tmp 147) (Operand.tmp 152) 9, type := 4, pos := "law.go:111", after := #[{ on := 29, ground := Ground.data }, { on := 34, ground := Ground.data }, { on := 25, ground := Ground.guard }], guard := some (25, true) }) (v := undef) rfl (by kernel_rfl) (by kernel_rfl) (gives_not (by rfl)) ?_
                    try simp only [Act.put, List.setIfInBounds_toArray, List.set_cons_zero, List.set_cons_succ]
                    refine wpD_step (i := 36) (o := { dst := some 154, op := Op.pick (Operand.tmp 143) (Operand.tmp 153) (Operand.const (Value.bool false)), type := 4, pos := "law.go:111", after := #[{ on := 25, ground := Ground.data }, { on := 35, ground := Ground.data }, { on := 14, ground := Ground.guard }], guard := some (14, false) }) (v := (Value.bool (false))) rfl (by kernel_rfl) (by kernel_rfl) ?_ ?_
                    · refine gives_pure (by rfl) ?_
                      intro w0 hSw; first | rfl | ((try dsimp only at hSw); go_simp; (try with_reducible rfl))
                    try simp only [Act.put, List.setIfInBounds_toArray, List.set_cons_zero, List.set_cons_succ]
                    refine wpD_step (i := 37) (o := { dst := some 155, op := Op.pick (Operand.tmp 132) (Operand.const (Value.bool true)) (Operand.tmp 154), type := 4, pos := "law.go:111", after := #[{ on := 14, ground := Ground.data }, { on := 36, ground := Ground.data }], guard := none }) (v := (Value.bool (false))) rfl (by kernel_rfl) (by kernel_rfl) ?_ ?_
                    · refine gives_pure (by rfl) ?_
                      intro w0 hSw; first | rfl | ((try dsimp only at hSw); go_simp; (try with_reducible rfl))
                    try simp only [Act.put, List.setIfInBounds_toArray, List.set_cons_zero, List.set_cons_succ]
                    refine wpD_done (by kernel_rfl) (fun wz hHeld => ?_) _
                    go_wp2_with fail
                    go_roundw
                    case rel => exact ⟨m + 1, by omega, by omega, by go_num, hHeld.2⟩
                    case measure => simp [intOf]; omega
                  · have hd : (decide ((m : Int) < (xs.length : Int)) = false) ∨ (decide ((m : Int) < (xs.length : Int)) = true ∧ decide ((m : Int) < (xs.length : Int)) = false) := by
                      rcases (by omega : xs.length ≤ m ∨ (m < xs.length ∧ xs.length ≤ m)) with h | ⟨h, h'⟩
                      · exact Or.inl (dlt_f (by omega))
                      · exact Or.inr ⟨dlt_t (by omega), dlt_f (by omega)⟩
                    rcases hd with g1 | ⟨g1, g2⟩
                    all_goals
                      go_wp2_with fail
                      go_roundw
                      case rel => exact ⟨k + 1, xs, _, by omega, by go_num, hxl, (A4.out.below HB.out).onR (Tx.nil _) (Below.refl _ _) (fun x hx => by cases hx)⟩
                      case measure => simp [intOf]; omega
      · have HB := Lib.hid HA.out.bl
        go_wp2_with fail
        refine (awake36 _).mono ?_; rintro e w2 ⟨rfl, b2⟩
        go_wp2_with fail
        go_ret
        exact ⟨rfl, HB.out.trans (b2.mono HB.out.size)⟩
end Go.Proofs.Ytibbeedodlnhjaa
