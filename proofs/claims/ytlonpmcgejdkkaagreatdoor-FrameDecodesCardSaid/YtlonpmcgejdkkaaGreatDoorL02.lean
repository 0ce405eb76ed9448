/-
  The contracts of the plain answers of layer 2.
-/
import Derived.Test.YtlonpmcgejdkkaaGreatDoorOctetRead
namespace Go.Proofs.YtlonpmcgejdkkaaGreatDoor
open Go.RowKit Oc
set_option maxRecDepth 100000 in
theorem num_step (m n k : Nat) (hk : k < m) :
    (u8s (List.replicate (m - k) 0 ++ (be m n).drop (m - k))).set (m - 1 - k) (.int .u8 ((n / 256 ^ k % 256 : Nat) : Int)) = u8s (List.replicate (m - (k + 1)) 0 ++ (be m n).drop (m - (k + 1))) := by
  have hl := be_length m n
  have hg := be_get m n (m - 1 - k) (by omega)
  rw [show m - 1 - (m - 1 - k) = k by omega] at hg
  rw [List.getElem?_eq_getElem (by omega)] at hg
  injection hg with hg
  have e1 : m - k = (m - (k + 1)) + 1 := by omega
  have e2 : (be m n).drop (m - (k + 1)) = UInt8.ofNat (n / 256 ^ k) :: (be m n).drop (m - k) := by
    rw [e1, List.drop_eq_getElem_cons (by omega)]
    congr 1
    rw [← hg]
    congr 1
    omega
  have e3 : List.replicate (m - k) (0 : UInt8) = List.replicate (m - (k + 1)) 0 ++ [0] := by rw [e1, List.replicate_succ']
  rw [e2, e3, List.append_assoc]
  unfold u8s
  rw [List.map_append, List.map_append, List.set_append_right _ _ (by simp; omega)]
  congr 1
  simp only [List.length_map, List.length_replicate, List.map_append, List.map_cons, List.map_nil, List.singleton_append]
  rw [show m - 1 - k - (m - (k + 1)) = 0 by omega]
  simp
set_option maxRecDepth 100000 in
theorem number_yes (n m : Nat) (h1 : 1 ≤ m) (h2 : m ≤ 6) (hn : n ≤ 9223372036854775807) (w : World) :
    Calls Tryz.prog 70 #[.int .i64 n, .int .i64 m] w fun e w' => e = .returned (.tuple #[.string ⟨(be m n).toArray⟩, .bool (decide (n < 256 ^ m))]) ∧ Below w.heap.size w w' := by
  obtain ⟨i0, hi, hz0, hz1, hz2⟩ := info_parts info_u8
  have h0 : decide ((n : Int) < 0) = false := by simp
  have hd1 : decide ((m : Int) < 1) = false := by simp; omega
  have hd2 : decide (6 < (m : Int)) = false := by simp; omega
  have hI := Lib.hid (And.intro hi (And.intro hz0 (And.intro hz1 hz2)))
  clear hi hz0 hz1 hz2
  go_enter Tryz.func70, Tryz.ntmps70
  go_wp2_with (at_make; refine wpList_make_full _ rfl (.tmp 18) (.tmp 18) 83 rfl w.heap.size 5 i0 (.int .u8 0) 1 Tryz.underlying83 hI.out.1 hI.out.2.1 hI.out.2.2.1 .i64 .i64 m m m rfl rfl rfl rfl ?_ ?_ (Nat.le_refl _) ?_)
  · rw [hI.out.2.2.2]; omega
  · unfold maxLen; omega
  intro w1 hown hgr
  have hbel := Lib.hid ((Below.refl w.heap.size w).grown hgr (Nat.le_refl _) (fun k h => by cases h))
  have hown' := Lib.hid hown
  clear hown hgr
  go_wp2_with fail
  go_loopw [0, 7] (fun x i wr => ∃ k : Nat, k ≤ m ∧ i = .int .i64 ((m : Int) - 1 - k) ∧ x = .int .i64 ((n / 256 ^ k : Nat) : Int) ∧ wr.ownsRow w.heap.size 5 1 (.slice (some ⟨w.heap.size, 0, none⟩) m m) m (u8s (List.replicate (m - k) 0 ++ (be m n).drop (m - k))) ∧ Below w.heap.size w wr) (fun _ i _ => (intOf i + 1).toNat)
  case atStart =>
    refine ⟨0, Nat.zero_le _, by simp, by simp, ?_, hbel.out⟩
    have h := hown'.out
    rw [List.drop_of_length_le (by rw [be_length]; omega)]
    have e : (madeCells #[Value.int .u8 0] m).toList = u8s (List.replicate (m - 0) 0 ++ []) := by
      refine (toList_madeCells_one _ _).trans ?_
      simp [u8s]
    rw [e] at h
    exact h
  case round =>
    obtain ⟨k, hk, rfl, rfl, hown, hb⟩ := hrel
    clear hbel hown'
    generalize hq : n / 256 ^ k = q
    have Hq := Lib.hid hq
    have hqb : q ≤ 9223372036854775807 := by rw [← hq]; exact Nat.le_trans (Nat.div_le_self _ _) hn
    by_cases hlt : k < m
    · have hc := hown.cellAt (m - 1 - k) (by omega)
      have hf := hown.frozenAt (m - 1 - k)
      have hl := be_length m n
      rw [List.getElem?_eq_getElem (by simp [u8s]; omega)] at hc
      have hst := hown.stored (m - 1 - k) (.int .u8 ((n / 256 ^ k % 256 : Nat) : Int))
      rw [num_step m n k hlt, hq] at hst
      have Hst := Lib.hid hst
      clear hst hown hq
      generalize (u8s (List.replicate (m - k) 0 ++ (be m n).drop (m - k)))[m - 1 - k]'_ = old at hc
      go_wp2_with fail
      go_roundw
      case rel => exact ⟨k + 1, by omega, by go_num, by rw [← Hq.out, Nat.pow_succ, ← Nat.div_div_eq_div_mul]; go_num, Hst.out.1, hb.setCell (p := ⟨w.heap.size, m - 1 - k, none⟩) (Nat.le_refl _) _⟩
      case measure => simp [intOf]; omega
    · have hkm : k = m := by omega
      subst hkm
      have hrt : (convert 83 9 (.slice (some ⟨w.heap.size, 0, none⟩) k k)).run Tryz.prog wr = .ok (.string ⟨(be k n).toArray⟩) wr := by
        have h := run_convert_bytes_back (P := Tryz.prog) wr 83 9 5 ⟨w.heap.size, 0, none⟩ k (be k n) Tryz.underlying83 Tryz.underlying5 Tryz.underlying9 (fun j hj => by
          have hj' : j < k := by rw [be_length] at hj; exact hj
          have := hown.cellAt j (by omega)
          rw [Nat.sub_self] at this
          simp [u8s, List.getElem?_eq_getElem hj] at this
          simpa [Go.WideShapes.add_plain] using this)
        rw [be_length] at h
        exact h
      have e : decide (n < 256 ^ k) = ((q : Int) == 0) := by
        rw [← hq]
        have hp : 0 < 256 ^ k := Nat.pow_pos (by decide)
        have h1 : n / 256 ^ k = 0 ↔ n < 256 ^ k := by rw [Nat.div_eq_zero_iff]; omega
        generalize n / 256 ^ k = z at *
        rw [Bool.eq_iff_iff, decide_eq_true_eq, beq_iff_eq, ← h1]
        omega
      have E := Lib.hid e
      clear e hq hown hn
      go_wp2_with fail
      go_ret2
      exact ⟨by rw [E.out]; rfl, hb⟩
set_option maxRecDepth 100000 in
theorem number_no (n m : Int) (h : m < 1 ∨ 6 < m ∨ n < 0) (w : World) :
    Calls Tryz.prog 70 #[.int .i64 n, .int .i64 m] w fun e w' => e = .returned (.tuple #[.string ⟨#[]⟩, .bool false]) ∧ w = w' := by
  by_cases hm : m < 1
  · clear h
    go_enter Tryz.func70, Tryz.ntmps70
    go_wp2_with fail
    go_ret2
    exact ⟨rfl, rfl⟩
  · by_cases hm2 : 6 < m
    · clear h
      go_enter Tryz.func70, Tryz.ntmps70
      go_wp2_with fail
      go_ret2
      exact ⟨rfl, rfl⟩
    · have hn : n < 0 := by omega
      clear h
      go_enter Tryz.func70, Tryz.ntmps70
      go_wp2_with fail
      go_ret2
      exact ⟨rfl, rfl⟩
def numStr (n m : Int) : ByteArray := if m < 1 ∨ 6 < m ∨ n < 0 then ⟨#[]⟩ else ⟨(be m.toNat n.toNat).toArray⟩
set_option maxRecDepth 100000 in
theorem number_any (n m : Int) (hn : n ≤ 9223372036854775807) (w : World) :
    Calls Tryz.prog 70 #[.int .i64 n, .int .i64 m] w fun e w' => e = .returned (.tuple #[.string (numStr n m), .bool (fits n m)]) ∧ Below w.heap.size w w' := by
  by_cases h : m < 1 ∨ 6 < m ∨ n < 0
  · refine (number_no n m h w).mono fun e w' ⟨he, hb⟩ => ⟨?_, by subst hb; exact Below.refl _ _⟩
    have hf : fits n m = false := by
      rw [Bool.eq_false_iff]
      intro hf
      simp only [fits, Bool.and_eq_true, decide_eq_true_eq] at hf
      omega
    rw [he, hf, numStr, if_pos h]
  · obtain ⟨n', rfl⟩ := Int.eq_ofNat_of_zero_le (show 0 ≤ n by omega)
    obtain ⟨m', rfl⟩ := Int.eq_ofNat_of_zero_le (show 0 ≤ m by omega)
    refine (number_yes n' m' (by omega) (by omega) (by omega) w).mono fun e w' ⟨he, hb⟩ => ⟨?_, hb⟩
    have e256 : ((256 ^ m' : Nat) : Int) = (256 : Int) ^ m' := by simp
    have hf : fits n' m' = decide (n' < 256 ^ m') := by
      rw [Bool.eq_iff_iff]
      simp only [fits, Bool.and_eq_true, decide_eq_true_eq, Int.toNat_natCast]
      omega
    rw [he, hf, numStr, if_neg h]
    rfl
set_option maxRecDepth 100000 in
theorem of_any (d : ByteArray) (hd : d.size ≤ 6) (w : World) :
    Calls Tryz.prog 83 #[.string d] w fun e w' => e = .returned (.int .i64 (num d.data.toList)) ∧ w = w' := by
  have Hsd2 := Lib.hid (show d.data.toList.length = d.size by simp)
  go_enter Tryz.func83, Tryz.ntmps83
  go_wp2_with fail
  go_loop [3, 4] (fun x i => ∃ k : Nat, k ≤ d.size ∧ i = .int .i64 k ∧ x = .int .i64 (num (d.data.toList.take k))) (fun _ i => d.size - (intOf i).toNat)
  case atStart => exact ⟨0, Nat.zero_le _, rfl, rfl⟩
  case round =>
    obtain ⟨k, hk, rfl, rfl⟩ := hrel
    have hb := num_take_lt d.data.toList k (by omega)
    by_cases hlt : k < d.size
    · have hs := Lib.hid (num_take d.data.toList k (by rw [Hsd2.out]; omega))
      generalize num (d.data.toList.take k) = q at *
      have hb8 : (d[k].toNat : Int) ≤ 255 := by have := d[k].toNat_lt; omega
      go_wp2_with fail
      go_round
      case rel => exact ⟨k + 1, by omega, by go_num, by rw [hs.out]; simp; rfl⟩
      case measure => simp [intOf]; omega
    · have hkm := Lib.hid (show d.data.toList.take k = d.data.toList from List.take_of_length_le (by rw [Hsd2.out]; omega))
      clear hb
      go_wp2_with fail
      go_ret
      exact ⟨by simp only [hkm.out]; rfl, rfl⟩
end Go.Proofs.YtlonpmcgejdkkaaGreatDoor
