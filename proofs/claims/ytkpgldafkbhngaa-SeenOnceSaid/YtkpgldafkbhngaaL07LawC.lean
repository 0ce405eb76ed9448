/-
  The law SeenOnce of layer 7: the call comes to true.
-/
import Derived.Test.YtkpgldafkbhngaaT07R
import Derived.Test.YtkpgldafkbhngaaL07Law
import Derived.Test.YtkpgldafkbhngaaFld
namespace Go.Proofs.Ytkpgldafkbhngaa
open Go.RowKit AE
theorem so_sl : slotsOf 4 = 76 := by kernel_rfl
theorem so_re : resultsOf 4 = [.tmp 4] := by kernel_rfl
theorem so_fl : (flatten (bodyOf 4)).drop 6 = .block 0 (.loop soL) :: (flatten (bodyOf 4)).drop 7 := by kernel_rfl
theorem so_fl1 : (flatten soL).drop 2 = .block 1 soB :: (flatten soL).drop 3 := by kernel_rfl
theorem so_fl2 : (flatten soB).drop 2 = .block 2 (.loop soY) :: (flatten soB).drop 3 := by kernel_rfl
/-- The last n of the new ones. -/
def lastN (F : List Int) (n : Nat) : List Int := F.drop (F.length - n)
theorem note_new {F : List Int} {n : Nat} {id : Int} (h : id ∉ lastN F n) : noteL (lastN F n) n id = lastN (F ++ [id]) n := by
  unfold noteL
  rw [if_neg h]
  unfold lastN
  rw [List.length_drop, List.length_append, List.length_singleton]
  by_cases hn : F.length < n
  · rw [if_neg (by omega), show F.length - n = 0 by omega, show F.length + 1 - n = 0 by omega]; rfl
  · rw [if_pos (by omega), ← List.drop_append_of_le_length (by omega), List.drop_drop, show F.length - n + 1 = F.length + 1 - n by omega]
theorem note_old {F : List Int} {n : Nat} {id : Int} (h : id ∈ lastN F n) : noteL (lastN F n) n id = lastN F n := by
  unfold noteL; rw [if_pos h]
theorem last_step {F : List Int} {j : Nat} (h : j < F.length) : lastN F (j + 1) = (F.getD (F.length - (j + 1)) 0) :: lastN F j := by
  unfold lastN
  rw [List.drop_eq_getElem_cons (by omega), getD_j (by omega), show F.length - (j + 1) + 1 = F.length - j by omega]
set_option maxRecDepth 100000 in
theorem fs_once (n : Nat) (hn : n ≤ 255) (l : List Int) : Fs Try.prog nro 4 [.v (.int .u8 (n : Int)), .lst 1 (l.map gi) .no] (hp [] []) fun r _ => r = .v (.bool true) := by
  refine Fs.of_body (has_fn (by kernel_rfl)) ?_
  rw [so_sl, so_re]
  have pre := fun R => so_pre wsx (n : Int) l R
  have wn : IntKind.wrap .i64 (n : Int) = (n : Int) := by rw [IntKind.wrap_i64]; omega
  rw [gil, wn] at pre
  refine Tr.of_flat (Trl.split 6 (Trl.of_code knownL (ne_nil (by kernel_rfl)) (pre _) (holds_bif (fun _ => ⟨trivial, .inr rfl, trivial, rfl⟩) fun hq => holds_bif (fun h1 => absurd (of_decide_eq_true h1) (by omega)) fun h1 => holds_bif (fun h2 => absurd (of_decide_eq_true h2) (by omega)) fun h2 => ⟨cdb_iff.2 ⟨trivial, decide_eq_true ⟨by omega, by omega, by omega, by omega⟩⟩, ?_⟩) flatL))
  have hq : l.length ≤ 100 := by have := of_decide_eq_false hq; omega
  clear pre
  show Trl _ _ ((flatten (bodyOf 4)).drop 6) _ _ _
  rw [so_fl, Int.toNat_natCast, if_pos rfl, rep_gi]
  refine Tr.keepL [0, 1, 5, 6, 7, 8] rfl (Trl.nilTip 7 1 rfl rfl ?_)
  let I : Nat → List AV → AH → Prop := fun t act H => ∃ (i o : Nat) (L F : List Int) (ver : Nat), i ≤ l.length ∧ t = l.length - i ∧ F.length ≤ i ∧ Win n o L (lastN F n) ∧ act = soA n l 0 F ver (i : Int) .dead .dead ∧ H = soH n (o : Int) L (mcs n o (lastN F n)) ver
  have e0 : lastN [] n = [] := by unfold lastN; simp
  refine Tr.block (Tr.loop I ?_ (m := l.length) ⟨0, 0, List.replicate n 0, [], 0, Nat.zero_le _, rfl, Nat.le_refl _, by rw [e0]; exact win0 n (by omega), rfl, by rw [e0]; rfl⟩)
  rintro t act H ⟨i, o, L, F, ver, hi, rfl, hF, hw, rfl, rfl⟩
  have head := fun R => so_head wsx n l 0 F ver (i : Int) (o : Int) L (mcs n o (lastN F n)) R
  rw [gil] at head
  refine Tr.of_flat (Trl.split 2 (Trl.of_code knownL (ne_nil (by kernel_rfl)) (head _) (holds_bif (fun h1 => ⟨trivial, ?_⟩) fun h1 => ⟨trivial, ?_⟩) flatL))
  rotate_left
  · show Trl _ _ ((flatten (bodyOf 4)).drop 7) _ _ _
    exact Trl.of_code knownL (ne_nil (by kernel_rfl)) (so_post wsx n l 0 F ver (i : Int) (o : Int) L (mcs n o (lastN F n)) _) ⟨trivial, .inr rfl, trivial, rfl⟩ flatL
  have hil : i < l.length := by have := of_decide_eq_true h1; omega
  clear head
  show Trl _ _ ((flatten soL).drop 2) _ _ _
  rw [so_fl1]
  refine Tr.block (Tr.of_flat (Trl.split 2 (Trl.of_code knownL (ne_nil (by kernel_rfl)) (so_b1 wsx n l 0 F ver (i : Int) (o : Int) L (mcs n o (lastN F n)) _) ⟨trivial, ?_⟩ flatL)))
  show Trl _ _ ((flatten soB).drop 2) _ _ _
  rw [so_fl2]
  obtain ⟨id, hid⟩ : ∃ id, id = l[i] := ⟨_, rfl⟩
  have el := gi_el hil
  rw [← hid, Int.toNat_natCast] at el
  have ex : exInt ((l.map gi).getD i .dead) = id := by rw [hid]; exact gi_exj hil
  have inc : ∀ (F' : List Int) (ver' o' : Nat) (L' : List Int), F'.length ≤ i + 1 → Win n o' L' (lastN F' n) → Trl Try.prog nro ((flatten soL).drop 3) (soA n l 0 F' ver' (i : Int) .dead .dead) (soH n (o' : Int) L' (mcs n o' (lastN F' n)) ver') (fun e a h => match e with
      | .normal => ∃ m', m' < l.length - i ∧ I m' a h
      | e => leave 0 (nx (fun a h => Trl Try.prog nro ((flatten (bodyOf 4)).drop 7) a h (fun e a h => (e = .normal ∨ e = .ret) ∧ ansOk (fun r _ => r = .v (.bool true)) (resOf Try.prog nro [.tmp 4] a h))) (fun e a h => (e = .normal ∨ e = .ret) ∧ ansOk (fun r _ => r = .v (.bool true)) (resOf Try.prog nro [.tmp 4] a h))) e a h) := by
    intro F' ver' o' L' hF' hw'
    have b := fun R => so_inc wsx n l 0 F' ver' (i : Int) (o' : Int) L' (mcs n o' (lastN F' n)) R
    rw [inc64 i (by omega)] at b
    exact Trl.of_code knownL (ne_nil (by kernel_rfl)) (b _) ⟨trivial, l.length - (i + 1), by omega, i + 1, o', L', F', ver', hil, rfl, hF', hw', rfl, rfl⟩ flatL
  let J : Nat → List AV → AH → Prop := fun t act H => ∃ j : Nat, j ≤ F.length ∧ j ≤ n ∧ t = F.length - j ∧ act = soA n l 0 F ver (i : Int) (.v (.bool (decide (id ∈ lastN F j)))) (gi ((j + 1 : Nat) : Int)) ∧ H = soH n (o : Int) L (mcs n o (lastN F n)) ver
  refine Tr.block (Tr.loop J ?_ (m := F.length) ⟨0, Nat.zero_le _, Nat.zero_le _, rfl, by rw [show lastN F 0 = [] by unfold lastN; simp]; rfl, rfl⟩)
  rintro t act H ⟨j, hj, hjn, rfl, rfl, rfl⟩
  have y := fun R => so_y wsx n l 0 F ver (i : Int) (o : Int) L (mcs n o (lastN F n)) (decide (id ∈ lastN F j)) ((j + 1 : Nat) : Int) R
  by_cases hc : j + 1 ≤ n ∧ j + 1 ≤ F.length
  · obtain ⟨hc1, hc2⟩ := hc
    have w3 : IntKind.wrap .i64 ((F.length : Int) - ((j + 1 : Nat) : Int)) = ((F.length - (j + 1) : Nat) : Int) := by rw [IntKind.wrap_i64]; omega
    have hlt : F.length - (j + 1) < F.length := by omega
    have exj : exInt ((F.map gi).getD (F.length - (j + 1)) .dead) = F.getD (F.length - (j + 1)) 0 := by rw [gi_exj hlt, getD_j hlt]
    have elj := gi_el hlt
    rw [← getD_j hlt, Int.toNat_natCast] at elj
    simp only [gil, wn, inc64 (j + 1) (by omega), w3, Int.toNat_natCast, ex, exj] at y
    have ls := last_step hc2
    refine Tr.of_code knownL (y _) (holds_bif (fun _ => holds_bif (fun _ => holds_bif (fun hb => ⟨trivial, F.length - (j + 1), by omega, j + 1, hc2, hc1, rfl, ?_, rfl⟩) fun hb => ⟨cds_of (cds_of trivial elj) el, F.length - (j + 1), by omega, j + 1, hc2, hc1, rfl, ?_, rfl⟩) fun h => absurd (of_decide_eq_false h) (by omega)) fun h => absurd (of_decide_eq_false h) (by omega)) flatL
    · have hb : id ∈ lastN F j := of_decide_eq_true hb
      rw [show decide (id ∈ lastN F (j + 1)) = true from decide_eq_true (by rw [ls]; exact List.mem_cons_of_mem _ hb)]; rfl
    · have hb : id ∉ lastN F j := of_decide_eq_false hb
      rw [show decide (id ∈ lastN F (j + 1)) = (F.getD (F.length - (j + 1)) 0 == id) from by
        rw [ls]
        by_cases e : F.getD (F.length - (j + 1)) 0 = id
        · rw [e, beq_self_eq_true]; exact decide_eq_true (List.mem_cons_self ..)
        · rw [beq_false_of_ne e]
          exact decide_eq_false (fun h => by
            rcases List.mem_cons.1 h with h | h
            · exact e h.symm
            · exact hb h)]
      rfl
  · simp only [gil, wn] at y
    refine Tr.of_code knownL (y _) (holds_bif (fun h1 => holds_bif (fun h2 => absurd ⟨by have := of_decide_eq_true h1; omega, by have := of_decide_eq_true h2; omega⟩ hc) fun _ => ⟨trivial, ?_⟩) fun _ => ⟨trivial, ?_⟩) flatL
    all_goals
      have hjl : lastN F j = lastN F n := by unfold lastN; congr 1; omega
      show Trl _ _ ((flatten soB).drop 3) _ _ _
      have b2 := fun R => so_b2 wsx n l 0 F ver (i : Int) (o : Int) L (mcs n o (lastN F n)) (decide (id ∈ lastN F j)) ((j + 1 : Nat) : Int) R
      have hwn := hw.note id
      by_cases hm : id ∈ lastN F n
      · have hb : decide (id ∈ lastN F j) = true := decide_eq_true (by rw [hjl]; exact hm)
        rw [note_old hm] at hwn
        simp only [hb, Int.toNat_natCast, ex, x_nb, x_no, x_nr, x_nm, x_ok hw, plainC_gi, plainC_mcs, gil, Bool.and_true, Bool.not_true, cond_false, note_old hm, decide_eq_false (fun h : id ∉ lastN F n => h hm), show (false == true) = false from rfl] at b2
        rw [hb]
        refine Trl.of_code knownL (ne_nil (by kernel_rfl)) (b2 _) ⟨?_, inc F ver _ _ (by omega) hwn⟩ flatL
        exact cdb_iff.2 ⟨cds_of trivial el, rfl⟩
      · have hb : decide (id ∈ lastN F j) = false := decide_eq_false (by rw [hjl]; exact hm)
        rw [note_new hm] at hwn
        have e1 : F.map gi ++ [AV.v (.int .i64 id)] = (F ++ [id]).map gi := by rw [List.map_append]; rfl
        simp only [hb, Int.toNat_natCast, ex, x_nb, x_no, x_nr, x_nm, x_ok hw, plainC_gi, plainC_mcs, gil, Bool.and_true, Bool.not_false, cond_true, cond_false, note_new hm, decide_eq_true hm, show (true == false) = false from rfl, e1, List.length_cons, List.length_nil] at b2
        rw [hb]
        refine Trl.of_code knownL (ne_nil (by kernel_rfl)) (b2 _) ⟨?_, inc (F ++ [id]) (ver + 1) _ _ (by simp; omega) hwn⟩ flatL
        refine cdb_iff.2 ⟨cds_of (cdb_iff.2 ⟨cds_of trivial el, rfl⟩) el, decide_eq_true ⟨⟨by omega, by omega⟩, trivial⟩⟩
theorem w_SeenOnce (w : World) (m : Int) (hm : (Lit.int .u8 m).wf = true) (a : Option Addr) (cap : Nat) (z : List Int) (hr : Ints w .i64 a z) (_ : z.length ≤ maxLen) (_ : ∀ x ∈ z, (Lit.int .i64 x).wf = true) (hc : z.length ≤ cap) (hx : cap ≤ maxLen) :
    Calls Try.prog 4 #[.int .u8 m, .slice a z.length cap] w fun e w' => e = .returned (.bool true) ∧ Below w.heap.size w w' := by
  have h8 : 0 ≤ m ∧ m ≤ 255 := by simp [Lit.wf, IntKind.min, IntKind.max, IntKind.signed, IntKind.bits] at hm; omega
  obtain ⟨n, rfl⟩ : ∃ n : Nat, m = (n : Int) := ⟨m.toNat, by omega⟩
  exact law_true (fs_once n (by omega) z) w _ (ro_none _ _) (.cons (.v _) (.cons (ints_rv hr hc hx) .nil))
end Go.Proofs.Ytkpgldafkbhngaa
