/-
  Layer 7: all numbers of a window, in their order; whether a row has a number.
-/
import Derived.Test.YtkpgldafkbhngaaT07B
namespace Go.Proofs.Ytkpgldafkbhngaa.AE
open Go.RowKit
theorem ne_nil {α : Type} {l : List α} (h : l.isEmpty = false) : l ≠ [] := by cases l <;> simp_all
theorem gil (l : List Int) : (l.map gi).length = l.length := List.length_map ..
theorem gi_el {l : List Int} {i : Nat} (h : i < l.length) : (0 : Int) ≤ (i : Int) ∧ (l.map gi)[Int.toNat (i : Int)]? = some (.v (.int .i64 l[i])) := ⟨Int.natCast_nonneg i, gi_get h⟩
theorem al_sl : slotsOf 12 = 33 := by kernel_rfl
theorem al_re : resultsOf 12 = [.tmp 2] := by kernel_rfl
theorem al_fl : (flatten (bodyOf 12)).drop 3 = .block 0 (.loop (sub (bodyOf 12) [1, 1, 0, 1, 0, 0])) :: (flatten (bodyOf 12)).drop 4 := by kernel_rfl
/-- The numbers from the oldest on. -/
def allX (n o : Nat) (L : List Int) (m : Nat) : List Int := (List.range m).map fun i => L.getD ((o + i) % n) 0
theorem allX_succ (n o : Nat) (L : List Int) (i : Nat) : allX n o L (i + 1) = allX n o L i ++ [L.getD ((o + i) % n) 0] := by
  unfold allX; rw [List.range_succ, List.map_append]; rfl
theorem allX_len (n o : Nat) (L : List Int) (m : Nat) : (allX n o L m).length = m := by unfold allX; simp
theorem drop_one {l : List Int} {j : Nat} (h : j < l.length) : ((l.map gi).drop j).take 1 = [gi l[j]] := by
  rw [← List.map_drop, ← List.map_take]
  rw [List.drop_eq_getElem_cons h]
  rfl
theorem gi_exj {l : List Int} {j : Nat} (h : j < l.length) : exInt ((l.map gi).getD j .dead) = l[j] := by
  have := gi_ex h
  simpa using this
theorem getD_j {l : List Int} {j : Nat} (h : j < l.length) : l.getD j 0 = l[j] := by
  rw [List.getD_eq_getElem?_getD, List.getElem?_eq_getElem h]; rfl
set_option maxRecDepth 100000 in
theorem fs_all (k o : Nat) (L : List Int) (M : List AV) (hL : L.length = k + 1) (hk : k ≤ 100000) (ho : o ≤ 1000000) (hM : mlen M ≤ 1000000) :
    Fs Try.prog nro 12 [.ptr 0 0] (seH (k + 1) o L M []) fun r H' => (∃ y, clean r = some y ∧ Le y (.lst 1 ((allX (k + 1) o L (mlen M)).map gi) .no)) ∧ ∃ tips, H' = seH (k + 1) o L M tips := by
  refine Fs.of_body (has_fn (by kernel_rfl)) ?_
  rw [al_sl, al_re]
  refine Tr.of_flat (Trl.split 3 (Trl.of_code (known_none _) (ne_nil (by kernel_rfl)) (al_pre _ _ _ _ _) ⟨trivial, ?_⟩))
  show Trl _ _ ((flatten (bodyOf 12)).drop 3) _ _ _
  rw [al_fl]
  refine Tr.keepL [0, 3, 6, 7] rfl (Trl.nilTip 3 1 rfl rfl ?_)
  obtain ⟨m, hm⟩ : ∃ m, m = mlen M := ⟨_, rfl⟩
  rw [← hm] at hM ⊢
  let I : Nat → List AV → AH → Prop := fun t act H => ∃ i ver : Nat, i ≤ m ∧ t = m - i ∧ act = alA (.lst 1 ((allX (k + 1) o L i).map gi) (.tp 0 ver)) (m : Int) (i : Int) ∧ H = seH (k + 1) o L M [ver]
  refine Tr.block (Tr.loop I ?_ (m := m) ⟨0, 0, Nat.zero_le _, rfl, rfl, rfl⟩)
  rintro t act H ⟨i, ver, hi, rfl, rfl, rfl⟩
  have body := fun R => al_in k (o : Int) L M (allX (k + 1) o L i) ver (m : Int) (i : Int) R
  have w1 : IntKind.wrap .i64 ((o : Int) + (i : Int)) = ((o + i : Nat) : Int) := by rw [IntKind.wrap_i64]; omega
  obtain ⟨j, hj⟩ : ∃ j, j = (o + i) % (k + 1) := ⟨_, rfl⟩
  have hjk : j < k + 1 := by rw [hj]; exact Nat.mod_lt _ (Nat.succ_pos k)
  have t1 : Int.tmod ((o + i : Nat) : Int) ((k : Int) + ((1 : Nat) : Int)) = (j : Int) := by
    rw [hj]
    show Int.tmod (Int.ofNat (o + i)) (Int.ofNat (k + 1)) = _
    rfl
  have hjL : j < L.length := by omega
  rw [inc64 i (by omega), w1, t1] at body
  simp only [Int.toNat_natCast, Nat.zero_add, Nat.mul_one, Nat.add_zero, gi_exj hjL, gil, allX_len, List.length_cons, List.length_nil] at body
  refine Tr.of_code (known_none _) (body _) (holds_bif (fun h1 => ⟨?_, ?_⟩) fun h1 => ⟨trivial, ?_⟩)
  · refine cdb_iff.2 ⟨cds_of (cdb_iff.2 ⟨trivial, decide_eq_true ⟨by omega, by omega⟩⟩) (drop_one hjL), decide_eq_true ⟨⟨?_, ?_⟩, trivial⟩⟩
    · omega
    · omega
  · have h1 : i < m := by have := of_decide_eq_true h1; omega
    refine ⟨m - (i + 1), by omega, i + 1, ver + 1, h1, rfl, ?_, rfl⟩
    rw [allX_succ, ← hj, getD_j hjL, List.map_append]
    rfl
  · have h1 : i = m := by have := of_decide_eq_false h1; omega
    subst h1
    show Trl _ _ ((flatten (bodyOf 12)).drop 4) _ _ _
    refine Trl.of_code (known_none _) (ne_nil (by kernel_rfl)) (al_post k (o : Int) L M _ ver _ _ _) ⟨trivial, .inr rfl, trivial, ⟨_, rfl, ?_⟩, _, rfl⟩
    exact Le.refl _
theorem rh_sl : slotsOf 15 = 18 := by kernel_rfl
theorem rh_re : resultsOf 15 = [.tmp 4] := by kernel_rfl
theorem rh_fl : (flatten (bodyOf 15)).drop 2 = .block 0 (.loop (sub (bodyOf 15) [1, 0, 1, 0, 0])) :: (flatten (bodyOf 15)).drop 3 := by kernel_rfl
set_option maxRecDepth 100000 in
theorem fs_rhas (x : List Int) (id : Int) (hx : x.length ≤ 1000000) : Fs Try.prog nro 15 [.lst 1 (x.map gi) .no, gi id] (hp [] []) fun r _ => r = .v (.bool (decide (id ∈ x))) := by
  refine Fs.of_body (has_fn (by kernel_rfl)) ?_
  rw [rh_sl, rh_re]
  refine Tr.of_flat (Trl.split 2 (Trl.of_code (known_none _) (ne_nil (by kernel_rfl)) (rh_pre _ _ _) ⟨trivial, ?_⟩))
  show Trl _ _ ((flatten (bodyOf 15)).drop 2) _ _ _
  rw [rh_fl]
  refine Tr.keepL [0, 1, 5] rfl ?_
  let I : Nat → List AV → AH → Prop := fun t act H => ∃ i : Nat, i ≤ x.length ∧ t = x.length - i ∧ act = rhA x id (i : Int) ∧ H = hp [] [] ∧ id ∉ x.take i
  refine Tr.block (Tr.loop I ?_ (m := x.length) ⟨0, Nat.zero_le _, rfl, rfl, rfl, by simp⟩)
  rintro t act H ⟨i, hi, rfl, rfl, rfl, hn⟩
  have body := fun R => rh_in x id (i : Int) R
  rw [gil, inc64 i (by omega)] at body
  refine Tr.of_code (known_none _) (body _) (holds_bif (fun h1 => ?_) fun h1 => ⟨trivial, ?_⟩)
  · have h1 : i < x.length := by have := of_decide_eq_true h1; omega
    rw [gi_ex h1]
    refine holds_bif (fun h2 => ⟨cds_of trivial (gi_el h1), .inr rfl, trivial, ?_⟩) fun h2 => ⟨cds_of trivial (gi_el h1), x.length - (i + 1), by omega, i + 1, h1, rfl, rfl, rfl, ?_⟩
    · have h2 : x[i] = id := by simpa using h2
      rw [decide_eq_true (by rw [← h2]; exact List.getElem_mem h1)]; rfl
    · have h2 : ¬ x[i] = id := by simpa using h2
      rw [take_snoc h1, List.mem_append]
      rintro (h | h)
      · exact hn h
      · simp at h; exact h2 h.symm
  · have h1 : i = x.length := by have := of_decide_eq_false h1; omega
    rw [h1, List.take_length] at hn
    show Trl _ _ ((flatten (bodyOf 15)).drop 3) _ _ _
    refine Trl.of_code (known_none _) (ne_nil (by kernel_rfl)) (rh_post _ _ _ _) ⟨trivial, .inr rfl, trivial, ?_⟩
    rw [decide_eq_false hn]; rfl
end Go.Proofs.Ytkpgldafkbhngaa.AE
