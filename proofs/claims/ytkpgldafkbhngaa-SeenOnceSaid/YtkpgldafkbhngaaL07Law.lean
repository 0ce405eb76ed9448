/-
  The law SeenPlays of layer 7: the call comes to true.
-/
import Derived.Test.YtkpgldafkbhngaaT07H
namespace Go.Proofs.Ytkpgldafkbhngaa
open Go.RowKit AE
theorem win0 (n : Nat) (h : n ≤ 256) : Win n 0 (List.replicate n 0) [] := ⟨by simp, by omega, by omega, by simp, by simp, by simp⟩
theorem rep_gi (n : Nat) : List.replicate n (AV.v (.int .i64 (0 : Int))) = (List.replicate n (0 : Int)).map gi := by rw [List.map_replicate]; rfl
set_option maxRecDepth 100000 in
theorem fs_plays (m : Int) (qs : List (Int × Int)) : Fs Try.prog nro 3 [gi m, .lst 2 (qs.map acA) .no] (hp [] []) fun r _ => r = .v (.bool true) := by
  refine Fs.of_body (has_fn (by kernel_rfl)) ?_
  rw [sp_sl, sp_re]
  have pre := fun R => sp_pre wsx m qs R
  rw [acl] at pre
  refine Tr.of_flat (Trl.split 8 (Trl.of_code knownL (ne_nil (by kernel_rfl)) (pre _) (holds_bif (fun _ => ⟨trivial, .inr rfl, trivial, rfl⟩) fun hq => ?_) flatL))
  have hq : qs.length ≤ 100 := by have := of_decide_eq_false hq; omega
  refine holds_bif (fun h1 => holds_bif (fun h2 => ⟨trivial, .inr rfl, trivial, rfl⟩) fun h2 => absurd (of_decide_eq_true h1) (of_decide_eq_false h2)) fun h1 => holds_bif (fun h2 => holds_bif (fun h3 => absurd (of_decide_eq_true h3) (of_decide_eq_false h1)) fun h3 => holds_bif (fun h4 => ⟨trivial, .inr rfl, trivial, rfl⟩) fun h4 => absurd (of_decide_eq_true h2) (of_decide_eq_false h4)) fun h2 => holds_bif (fun h3 => absurd (of_decide_eq_true h3) (of_decide_eq_false h1)) fun h3 => holds_bif (fun h4 => absurd (of_decide_eq_true h4) (of_decide_eq_false h2)) fun h4 => ?_
  have h1 := of_decide_eq_false h1
  have h2 := of_decide_eq_false h2
  obtain ⟨n, rfl⟩ : ∃ n : Nat, m = (n : Int) := ⟨m.toNat, by omega⟩
  have hn : n ≤ 256 := by omega
  refine ⟨cdb_iff.2 ⟨trivial, decide_eq_true ⟨by omega, by omega, by omega, by omega⟩⟩, ?_⟩
  show Trl _ _ ((flatten (bodyOf 3)).drop 8) _ _ _
  rw [sp_fl, Int.toNat_natCast, if_pos rfl, rep_gi]
  refine Tr.keepL [0, 1, 5, 6, 7, 8] rfl ?_
  let I : Nat → List AV → AH → Prop := fun t act H => ∃ (i o : Nat) (L x : List Int) (X : AV), i ≤ qs.length ∧ t = qs.length - i ∧ Win n o L x ∧ Le X (.lst 1 (x.map gi) .no) ∧ act = spA n qs 0 X (i : Int) ∧ H = spH n (o : Int) L (mcs n o x)
  refine Tr.block (Tr.loop I ?_ (m := qs.length) ⟨0, 0, _, [], nilS, Nat.zero_le _, rfl, win0 n hn, Le.nil1, rfl, rfl⟩)
  rintro t act H ⟨i, o, L, x, X, hi, rfl, hw, hX, rfl, rfl⟩
  refine Tr.leAt 7 rfl hX ?_
  show Tr _ _ _ (spA n qs 0 (.lst 1 (x.map gi) .no) (i : Int)) _ _
  have body := fun R => sp_in wsx n qs 0 x (o : Int) L (mcs n o x) (i : Int) R
  rw [acl, inc64 i (by omega)] at body
  by_cases hil : qs.length ≤ i
  · refine Tr.of_code knownL (body _) (holds_bif (fun h => absurd (of_decide_eq_true h) (by omega)) fun _ => ⟨trivial, ?_⟩) flatL
    show Trl _ _ ((flatten (bodyOf 3)).drop 9) _ _ _
    exact Trl.of_code knownL (ne_nil (by kernel_rfl)) (sp_post wsx n qs 0 x (o : Int) L (mcs n o x) (i : Int) _) ⟨trivial, .inr rfl, trivial, rfl⟩ flatL
  have hil : i < qs.length := by omega
  obtain ⟨a, ha⟩ : ∃ a, a = qs[i] := ⟨_, rfl⟩
  have hwn := hw.note a.2
  have hxl : x.length ≤ 100000 := by have := hw.2.2.2.2.1; have := hw.2.1; omega
  have hyl : (noteL x n a.2).length ≤ 1000000 := by have := noteL_len x n a.2; omega
  have el := ac_el hil
  rw [← ha] at el
  simp only [Int.toNat_natCast, ac_get hil, ← ha, ac_k, ac_i, x_nb, x_no, x_nr, x_nm, x_all, x_has, x_len, x_ok hw, x_ok hwn, x_rn, x_rb, x_rh, x_rh0, x_si, x_si0, x_all0, x_has0, x_len0, x_ok0 hw, plainC_gi, plainC_mcs, gil, rnOk_of x .no n a.2 (by omega) (by omega), rhOk_of _ .no a.2 hyl, sameIOk_of _ _ .no .no hyl, beq_self_eq_true, Bool.not_true, cond_false, Bool.and_true, Bool.true_and, bne_self_eq_false, decide_true] at body
  have k1 : rnOk [.lst 1 (x.map gi) .no, .v (.int .i64 (n : Int)), .v (.int .i64 a.2)] = true := rnOk_of x .no n a.2 (by omega) (by omega)
  have k2 : rhOk [.lst 1 ((noteL x n a.2).map gi) .no, .v (.int .i64 a.2)] = true := rhOk_of _ .no a.2 hyl
  have k3 : rhOk [.lst 1 (x.map gi) .no, .v (.int .i64 a.2)] = true := rhOk_of x .no a.2 (by omega)
  have k4 := sameIOk_of x x .no .no (by omega)
  have k5 := sameIOk0 [] .no (by simp)
  refine Tr.of_code knownL (body _) (holds_bif (fun _ => holds_bif (fun _ => ⟨?_, qs.length - (i + 1), by omega, i + 1, _, _, _, _, hil, rfl, hwn, Le.refl _, rfl, rfl⟩) fun _ => holds_bif (fun _ => holds_bif (fun h => by cases h) fun _ => ⟨?_, qs.length - (i + 1), by omega, i + 1, 0, _, [], nilS, hil, rfl, hw.clear, Le.nil1, rfl, rfl⟩) fun _ => ⟨?_, qs.length - (i + 1), by omega, i + 1, _, _, _, _, hil, rfl, hw, Le.refl _, rfl, rfl⟩) fun h => absurd hil (by have := of_decide_eq_false h; omega)) flatL
  all_goals
    repeat' first
      | with_reducible exact trivial
      | with_reducible refine cdb_iff.2 ⟨?_, ?_⟩
      | with_reducible refine cds_of ?_ ?_
      | with_reducible exact el
      | with_reducible exact k1
      | with_reducible exact k2
      | with_reducible exact k3
      | with_reducible exact k4
      | exact k5
      | with_reducible rfl
      | rfl
end Go.Proofs.Ytkpgldafkbhngaa
