/-
  Layer 6: words come back from their line, and lines from their text: the loops.
-/
import Derived.Test.YtjllakfoeknhdaaT06M
namespace Go.Proofs.Ytjllakfoeknhdaa.AE
open Go.RowKit
theorem nq32 (c : UInt8) : ((c.toNat : Int) != 32) = !(c == 32) := by
  have : ((c.toNat : Int) == 32) = (c == 32) := by
    rw [Bool.eq_iff_iff, beq_iff_eq, beq_iff_eq]; exact nat_eq (n := 32) (by decide)
  show (!((c.toNat : Int) == 32)) = _
  rw [this]
theorem nq9 (c : UInt8) : ((c.toNat : Int) != 9) = !(c == 9) := by
  have : ((c.toNat : Int) == 9) = (c == 9) := by
    rw [Bool.eq_iff_iff, beq_iff_eq, beq_iff_eq]; exact nat_eq (n := 9) (by decide)
  show (!((c.toNat : Int) == 9)) = _
  rw [this]
theorem nq35 (c : UInt8) : ((c.toNat : Int) != 35) = !(c == 35) := by
  have : ((c.toNat : Int) == 35) = (c == 35) := by
    rw [Bool.eq_iff_iff, beq_iff_eq, beq_iff_eq]; exact nat_eq (n := 35) (by decide)
  show (!((c.toNat : Int) == 35)) = _
  rw [this]
theorem nq10 (c : UInt8) : ((c.toNat : Int) != 10) = !(c == 10) := by
  have : ((c.toNat : Int) == 10) = (c == 10) := by
    rw [Bool.eq_iff_iff, beq_iff_eq, beq_iff_eq]; exact nat_eq (n := 10) (by decide)
  show (!((c.toNat : Int) == 10)) = _
  rw [this]
theorem textB_le {N : Nat} (l : List ByteArray) (h : ∀ x ∈ l, x.size ≤ N) : (textB l).size ≤ (N + 1) * l.length := by
  have := textB_size l h
  show (List.toArray _).size ≤ _
  rwa [List.size_toArray]
theorem joinX_of (l : List ByteArray) (t : Tip) : joinX (.lst 1 (l.map sv) t) = joinB l blank := by unfold joinX; rw [strsX_lst]
theorem wb_sl : slotsOf 5 = 97 := by kernel_rfl
theorem wb_re : resultsOf 5 = [.tmp 2] := by kernel_rfl
theorem wb_fl : (flatten (bodyOf 5)).drop 6 = .block 0 (.loop wbL) :: (flatten (bodyOf 5)).drop 7 := by kernel_rfl
theorem wb_fl1 : (flatten wbL).drop 2 = .block 1 wbB :: (flatten wbL).drop 3 := by kernel_rfl
theorem wb_fl2 : (flatten wbB).drop 2 = .block 2 (.loop wbM) :: (flatten wbB).drop 3 := by kernel_rfl
/-- One text: is it a word, is it a line? -/
theorem wb_scan (l : List ByteArray) (os ms : List ByteArray) (t : ByteArray) (v u i : Nat) (h1 : i < l.length) (hs : l[i].size ≤ 100) (Q : Exit → List AV → AH → Prop)
    (hQ : Trl Try.prog nro ((flatten wbB).drop 3) (wbC l (.lst 1 (os.map sv) (.tp 0 v)) (.lst 1 (ms.map sv) (.tp 1 u)) t i (isWord l[i]) (isLine l[i]) (l[i].size : Nat)) (hp [] [v, u]) Q) :
    Trl Try.prog nro ((flatten wbB).drop 2) (wbC l (.lst 1 (os.map sv) (.tp 0 v)) (.lst 1 (ms.map sv) (.tp 1 u)) t i (decide ((0 : Int) < (l[i].size : Int))) true 0) (hp [] [v, u]) Q := by
  rw [wb_fl2]
  obtain ⟨x, hx⟩ : ∃ x, x = l[i] := ⟨_, rfl⟩
  rw [← hx] at hs hQ ⊢
  let L := x.data.toList
  have hL : L.length = x.size := len_data x
  let I : Nat → List AV → AH → Prop := fun m act H => ∃ (k : Nat) (B C : Bool), k ≤ x.size ∧ m = x.size - k ∧ act = wbC l (.lst 1 (os.map sv) (.tp 0 v)) (.lst 1 (ms.map sv) (.tp 1 u)) t i B C k ∧ H = hp [] [v, u] ∧ B = (decide (0 < x.size) && (L.take k).all wordC) ∧ C = (L.take k).all lineC
  have el : (0 : Int) ≤ (i : Int) ∧ (l.map sv)[Int.toNat (i : Int)]? = some (.v (.string x)) := by rw [hx]; exact el_ok h1
  refine Tr.block (Tr.loop I ?_ (m := x.size) ⟨0, _, _, Nat.zero_le _, rfl, rfl, rfl, ?_, rfl⟩)
  · rintro m act H ⟨k, B, C, hk, rfl, rfl, rfl, hB, hC⟩
    have body := fun R => wb_in l os ms t v u i B C k R
    rw [sv_ex h1, ← hx, inc64 k (by omega), Int.toNat_natCast k, nq32, nq9, nq35, nq10] at body
    refine Tr.of_code (knownJ _) (body _) (holds_bif (fun h2 => ?_) fun h2 => ⟨cds_of trivial el, ?_⟩)
    · have h2 : k < x.size := by have := of_decide_eq_true h2; omega
      have ht : L.take (k + 1) = L.take k ++ [x.data.getD k 0] := take_byte x k h2
      have fin : ∀ b' c' : Bool, b' = (B && wordC (x.data.getD k 0)) → c' = (C && lineC (x.data.getD k 0)) → ∃ m', m' < x.size - k ∧ I m' (wbC l (.lst 1 (os.map sv) (.tp 0 v)) (.lst 1 (ms.map sv) (.tp 1 u)) t i b' c' (k + 1 : Nat)) (hp [] [v, u]) := by
        intro b' c' e1 e2
        refine ⟨x.size - (k + 1), by omega, k + 1, b', c', h2, rfl, rfl, rfl, ?_, ?_⟩
        · rw [e1, hB, ht, List.all_append]; simp [Bool.and_assoc]
        · rw [e2, hC, ht, List.all_append]; simp
      have ix := ix_ok h2
      rw [Int.toNat_natCast k] at ix
      clear hB hC
      refine holds_bif (fun hb => holds_bif (fun h32 => holds_bif (fun h9 => holds_bif (fun hc => ⟨?_, fin _ _ ?_ ?_⟩) fun hc => ⟨?_, fin _ _ ?_ ?_⟩) fun h9 => holds_bif (fun hc => ⟨?_, fin _ _ ?_ ?_⟩) fun hc => ⟨?_, fin _ _ ?_ ?_⟩) fun h32 => holds_bif (fun hc => ⟨?_, fin _ _ ?_ ?_⟩) fun hc => ⟨?_, fin _ _ ?_ ?_⟩) fun hb => holds_bif (fun hc => ⟨?_, fin _ _ ?_ ?_⟩) fun hc => ⟨?_, fin _ _ ?_ ?_⟩
      all_goals first
        | (simp_all [wordC, lineC]; done)
        | (repeat' first
            | with_reducible exact trivial
            | with_reducible refine cdb_iff.2 ⟨?_, ?_⟩
            | with_reducible refine cds_of ?_ el
            | with_reducible exact ix)
    · have h2 : k = x.size := by have := of_decide_eq_false h2; omega
      subst h2
      have e : L.take x.size = L := List.take_of_length_le (Nat.le_of_eq hL)
      rw [e] at hB hC
      rw [hB, hC]
      exact hQ
  · show decide ((0 : Int) < (x.size : Int)) = (decide (0 < x.size) && true)
    rw [Bool.and_true, decide_eq_decide]; omega
end Go.Proofs.Ytjllakfoeknhdaa.AE
