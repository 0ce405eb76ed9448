
/-
  The law JobOnce of layer 32: the call comes to true.
-/
import Derived.Test.YtcajdmplggpfdaaZ5
import Derived.Test.YtcajdmplggpfdaaFld
import Derived.Test.YtcajdmplggpfdaaAEIn
import Derived.Test.YtcajdmplggpfdaaAEList
namespace Go.Proofs.Ytcajdmplggpfdaa.AE
open Go.RowKit
def mB (C : List Int) (u : Int) (N : List Int) (k : Nat) : Bool := decide (u ∈ N.take k ∧ u ∉ C)
def lF (C : List Int) (u : Int) (N : List Int) (k : Nat) : Nat := ((N.take k).filter fun z => decide (z ∉ C ∧ z ≠ u)).length
def HB (B : List Bool) (C : List Int) (u : Int) (N : List Int) (k : Nat) : Prop := B.length = N.length ∧ ∀ (j : Nat) (h : j < N.length) (h' : j < B.length), B[j] = decide (N[j] ∈ C ∨ (j < k ∧ N[j] = u))
theorem mB_succ (C : List Int) (u : Int) {N : List Int} {k : Nat} (h : k < N.length) : mB C u N (k + 1) = (mB C u N k || (decide (N[k] = u) && decide (u ∉ C))) := by
  unfold mB
  rw [take_snoc h, Bool.eq_iff_iff]
  simp only [List.mem_append, List.mem_singleton, decide_eq_true_eq, Bool.or_eq_true, Bool.and_eq_true]
  constructor
  · rintro ⟨h1 | h1, h2⟩
    · exact .inl ⟨h1, h2⟩
    · exact .inr ⟨h1.symm, h2⟩
  · rintro (⟨h1, h2⟩ | ⟨h1, h2⟩)
    · exact ⟨.inl h1, h2⟩
    · exact ⟨.inr h1.symm, h2⟩
theorem lF_succ (C : List Int) (u : Int) {N : List Int} {k : Nat} (h : k < N.length) : lF C u N (k + 1) = lF C u N k + (if N[k] ∈ C ∨ N[k] = u then 0 else 1) := by
  unfold lF
  rw [take_snoc h, List.filter_append, List.length_append]
  congr 1
  by_cases h1 : N[k] ∈ C <;> by_cases h2 : N[k] = u <;> simp [h1, h2]
theorem HB_set {B : List Bool} {C : List Int} {u : Int} {N : List Int} {k : Nat} (h : HB B C u N k) (hk : k < N.length) {b : Bool} (hb : b = decide (N[k] ∈ C ∨ N[k] = u)) : HB (B.set k b) C u N (k + 1) := by
  refine ⟨by rw [List.length_set]; exact h.1, fun j h1 h2 => ?_⟩
  rw [List.getElem_set]
  split
  · rename_i e
    subst e
    rw [hb]
    congr 1
    simp
  · rename_i e
    rw [h.2 j h1 (by rw [List.length_set] at h2; exact h2)]
    congr 1
    have : j < k ↔ j < k + 1 := by omega
    rw [this]
theorem gb_ex {B : List Bool} {k : Nat} (h : k < B.length) : exBool ((B.map gb).getD (0 + Int.toNat (k : Int) * 1 + 0) .dead) = B[k] := by
  rw [Int.toNat_natCast, Nat.zero_add, Nat.mul_one, Nat.add_zero, List.getD_eq_getElem?_getD, List.getElem?_map, List.getElem?_eq_getElem h]; rfl
theorem gb_cell {B : List Bool} {k : Nat} (h : k < B.length) : ((B.map gb).drop (0 + Int.toNat (k : Int) * 1)).take 1 = [gb B[k]] := by
  rw [Int.toNat_natCast, Nat.zero_add, Nat.mul_one, List.drop_eq_getElem_cons (by rw [List.length_map]; exact h)]
  simp
theorem gb_set {B : List Bool} {k : Nat} (h : k < B.length) (b : Bool) : ((B.map gb).take (0 + Int.toNat (k : Int) * 1) ++ [gb b]) ++ (B.map gb).drop (0 + Int.toNat (k : Int) * 1 + [gb b].length) = (B.set k b).map gb := by
  rw [Int.toNat_natCast, Nat.zero_add, Nat.mul_one, List.map_set, List.append_assoc]
  rw [List.set_eq_take_append_cons_drop, if_pos (by rw [List.length_map]; exact h)]; rfl
theorem an_get {l : List (Int × Int)} {i : Nat} (h : i < l.length) : (l.map anA).getD (Int.toNat (i : Int)) .dead = anA l[i] := by
  rw [Int.toNat_natCast, List.getD_eq_getElem?_getD, List.getElem?_map, List.getElem?_eq_getElem h]; rfl
theorem an_el {l : List (Int × Int)} {i : Nat} (h : i < l.length) : (0 : Int) ≤ (i : Int) ∧ (l.map anA)[Int.toNat (i : Int)]? = some (.v (.agg #[.int .i64 l[i].1, .int .i64 l[i].2])) := ⟨Int.natCast_nonneg i, by
  rw [Int.toNat_natCast, List.getElem?_map, List.getElem?_eq_getElem h]; rfl⟩
theorem jo_f8 : (flatten (bodyOf 4)).drop 8 = .block 0 (.loop (sub (bodyOf 4) [1, 1, 1, 1, 1, 0, 1, 0, 0])) :: (flatten (bodyOf 4)).drop 9 := by kernel_rfl
theorem jo_fb : (flatten (sub (bodyOf 4) [1, 1, 1, 1, 1, 0, 1, 0, 0])).drop 2 = .block 1 (sub (bodyOf 4) [1, 1, 1, 1, 1, 0, 1, 0, 0, 1, 0, 0]) :: (flatten (sub (bodyOf 4) [1, 1, 1, 1, 1, 0, 1, 0, 0])).drop 3 := by kernel_rfl
theorem jo_fc : (flatten (sub (bodyOf 4) [1, 1, 1, 1, 1, 0, 1, 0, 0, 1, 0, 0])).drop 2 = .block 2 (.loop (sub (bodyOf 4) [1, 1, 1, 1, 1, 0, 1, 0, 0, 1, 0, 0, 1, 0, 1, 0, 0])) :: (flatten (sub (bodyOf 4) [1, 1, 1, 1, 1, 0, 1, 0, 0, 1, 0, 0])).drop 3 := by kernel_rfl
theorem jo_f2 : (flatten (sub (bodyOf 4) [1, 1, 1, 1, 1, 0, 1, 0, 0, 1, 0, 0, 1, 0, 1, 0, 0])).drop 2 = .block 3 (sub (bodyOf 4) [1, 1, 1, 1, 1, 0, 1, 0, 0, 1, 0, 0, 1, 0, 1, 0, 0, 1, 0, 0]) :: (flatten (sub (bodyOf 4) [1, 1, 1, 1, 1, 0, 1, 0, 0, 1, 0, 0, 1, 0, 1, 0, 0])).drop 3 := by kernel_rfl
set_option maxHeartbeats 4000000 in
set_option maxRecDepth 100000 in
theorem jo_round (a b c d e f g : Int) (N : List Int) (hN : N.length ≤ 30) (l : List (Int × Int)) (X : Nat → Int) (XM : List Int) {i : Nat} (hi : i < l.length) (C : List Int) (B : List Bool) {k : Nat} (hB : HB B C l[i].1 N k) (h1 : k < N.length) {Q : Exit → List AV → AH → Prop}
    (hQ : ∀ (w : Bool) (v : Nat), w = decide (N[k] ∈ C ∨ N[k] = l[i].1) → v = lF C l[i].1 N (k + 1) → Q .normal (joA N l (i : Int) (gb (mB C l[i].1 N (k + 1))) (gi (v : Int)) (gi (k : Int))) (joH a b c d e f g X XM (B.set k w))) :
    Trl Try.prog nro (flatten (sub (bodyOf 4) [1, 1, 1, 1, 1, 0, 1, 0, 0, 1, 0, 0, 1, 0, 1, 0, 0, 1, 0, 0])) (joA N l (i : Int) (gb (mB C l[i].1 N k)) (gi ((lF C l[i].1 N k : Nat) : Int)) (gi (k : Int))) (joH a b c d e f g X XM B) Q := by
  have hkB : k < B.length := by rw [hB.1]; exact h1
  have hBk : B[k] = decide (N[k] ∈ C) := by rw [hB.2 k h1 hkB]; congr 1; simp
  have hlen : lF C l[i].1 N k ≤ 30 := by
    have := List.length_filter_le (fun z => decide (z ∉ C ∧ z ≠ l[i].1)) (N.take k)
    rw [List.length_take] at this
    unfold lF; omega
  have hin : (0 : Int) ≤ (k : Int) ∧ (k : Int) < (N.length : Int) := by omega
  have t14 := fun R => jo_14 ksX enX rlX a b c d e f g N l X XM B (i : Int) (mB C l[i].1 N k) ((lF C l[i].1 N k : Nat) : Int) (k : Int) R
  rw [gi_ex h1, an_get hi, gb_ex hkB] at t14
  -- the count
  have key2 : ∀ w : Bool, w = decide (N[k] ∈ C ∨ N[k] = l[i].1) → Trl Try.prog nro ((flatten (sub (bodyOf 4) [1, 1, 1, 1, 1, 0, 1, 0, 0, 1, 0, 0, 1, 0, 1, 0, 0, 1, 0, 0])).drop 2) (joA N l (i : Int) (gb (mB C l[i].1 N (k + 1))) (gi ((lF C l[i].1 N k : Nat) : Int)) (gi (k : Int))) (joH a b c d e f g X XM (B.set k w)) Q := fun w hw => by
    have hkw : k < (B.set k w).length := by rw [List.length_set]; exact hkB
    have t16 := fun R => jo_16 ksX enX rlX a b c d e f g N l X XM (B.set k w) (i : Int) (mB C l[i].1 N (k + 1)) ((lF C l[i].1 N k : Nat) : Int) (k : Int) R
    rw [gb_ex hkw, List.getElem_set_self, inc64 (lF C l[i].1 N k) (by omega)] at t16
    have hc := gb_cell hkw
    rw [List.getElem_set_self] at hc
    refine Trl.of_code knownA (ne_nil (by kernel_rfl)) (t16 _) (holds_bif (fun h2 => ⟨cds_of (cdb_iff.2 ⟨trivial, decide_eq_true hin⟩) hc, ?_⟩) fun h2 => ⟨cds_of (cdb_iff.2 ⟨trivial, decide_eq_true hin⟩) hc, ?_⟩) flatA
    · refine hQ w (lF C l[i].1 N k + 1) hw ?_
      have h2 : w = false := by simpa using h2
      rw [h2] at hw
      rw [lF_succ C l[i].1 h1, if_neg (of_decide_eq_false hw.symm)]
    · refine hQ w (lF C l[i].1 N k) hw ?_
      have h2 : w = true := by simpa using h2
      rw [h2] at hw
      rw [lF_succ C l[i].1 h1, if_pos (of_decide_eq_true hw.symm), Nat.add_zero]
  -- what was heard is noted
  have key1 : Trl Try.prog nro ((flatten (sub (bodyOf 4) [1, 1, 1, 1, 1, 0, 1, 0, 0, 1, 0, 0, 1, 0, 1, 0, 0, 1, 0, 0])).drop 1) (joA N l (i : Int) (gb (mB C l[i].1 N (k + 1))) (gi ((lF C l[i].1 N k : Nat) : Int)) (gi (k : Int))) (joH a b c d e f g X XM B) Q := by
    have t15 := fun R => jo_15 ksX enX rlX a b c d e f g N l X XM B (i : Int) (mB C l[i].1 N (k + 1)) ((lF C l[i].1 N k : Nat) : Int) (k : Int) R
    rw [gb_ex hkB, gi_ex h1, an_get hi] at t15
    have hc := gb_cell hkB
    have hr : 0 + Int.toNat (k : Int) * 1 + 1 ≤ (B.map gb).length := by rw [List.length_map, Int.toNat_natCast]; omega
    refine Trl.split 1 (Trl.of_code knownA (ne_nil (by kernel_rfl)) (t15 _) (holds_bif (fun h2 => ⟨?_, ?_⟩) fun h2 => ⟨?_, ?_⟩) flatA)
    · exact cdb_iff.2 ⟨cdb_iff.2 ⟨cds_of (cdb_iff.2 ⟨trivial, decide_eq_true hin⟩) hc, decide_eq_true hin⟩, decide_eq_true hr⟩
    · have h3 : true = decide (N[k] ∈ C ∨ N[k] = l[i].1) := by
        rw [hBk] at h2
        exact (decide_eq_true (.inl (of_decide_eq_true h2))).symm
      have := key2 true h3
      unfold joH at this
      rw [← gb_set hkB true] at this
      exact this
    · repeat' first
        | with_reducible exact trivial
        | with_reducible refine cdb_iff.2 ⟨?_, ?_⟩
        | exact decide_eq_true hin
        | exact decide_eq_true hr
        | with_reducible refine cds_of ?_ (gi_el h1)
        | refine cds_of ?_ hc
        | refine cds_of ?_ (an_el hi)
    · have h3 : (N[k] == l[i].1) = decide (N[k] ∈ C ∨ N[k] = l[i].1) := by
        rw [hBk] at h2
        have h2 := of_decide_eq_false h2
        rw [Bool.eq_iff_iff, beq_iff_eq, decide_eq_true_eq]
        exact ⟨.inr, fun h => h.resolve_left h2⟩
      have := key2 (N[k] == l[i].1) h3
      unfold joH at this
      rw [← gb_set hkB (N[k] == l[i].1)] at this
      exact this
  have hs := mB_succ C l[i].1 h1
  have hc := gb_cell hkB
  refine Trl.split 1 (Trl.of_code knownA (ne_nil (by kernel_rfl)) (t14 _) (holds_bif (fun h2 => ⟨trivial, ?_⟩) fun h2 => holds_bif (fun h3 => ⟨?_, ?_⟩) fun h3 => ⟨?_, ?_⟩) flatA)
  · rw [h2, Bool.true_or] at hs
    rw [hs] at key1
    exact key1
  · repeat' first
      | with_reducible exact trivial
      | with_reducible refine cdb_iff.2 ⟨?_, ?_⟩
      | exact decide_eq_true hin
      | with_reducible refine cds_of ?_ (gi_el h1)
      | refine cds_of ?_ hc
      | refine cds_of ?_ (an_el hi)
  · have h3 : N[k] = l[i].1 := eq_of_beq (show (N[k] == l[i].1) = true from h3)
    have e2 : mB C l[i].1 N (k + 1) = !B[k] := by
      rw [hs, h2, hBk, h3]
      simp
    rw [e2] at key1
    exact key1
  · repeat' first
      | with_reducible exact trivial
      | with_reducible refine cdb_iff.2 ⟨?_, ?_⟩
      | with_reducible refine cds_of ?_ (gi_el h1)
      | refine cds_of ?_ (an_el hi)
  · have h3 : ¬ N[k] = l[i].1 := fun h => by
      have h3 : (N[k] == l[i].1) = false := h3
      rw [h] at h3
      simp at h3
    rw [h2, decide_eq_false h3] at hs
    rw [hs] at key1
    exact key1
set_option maxHeartbeats 4000000 in
set_option maxRecDepth 100000 in
theorem jo_inner (a b c d e f g : Int) (N : List Int) (hN : N.length ≤ 30) (l : List (Int × Int)) (X : Nat → Int) (XM : List Int) {i : Nat} (hi : i < l.length) (C : List Int) (B0 : List Bool) (hB0 : HB B0 C l[i].1 N 0) {Q : Exit → List AV → AH → Prop}
    (hQ : ∀ B, HB B C l[i].1 N N.length → Trl Try.prog nro ((flatten (sub (bodyOf 4) [1, 1, 1, 1, 1, 0, 1, 0, 0, 1, 0, 0])).drop 3) (joA N l (i : Int) (gb (mB C l[i].1 N N.length)) (gi ((lF C l[i].1 N N.length : Nat) : Int)) (gi ((N.length : Nat) : Int))) (joH a b c d e f g X XM B) Q) :
    Trl Try.prog nro ((flatten (sub (bodyOf 4) [1, 1, 1, 1, 1, 0, 1, 0, 0, 1, 0, 0])).drop 2) (joA N l (i : Int) (gb false) (gi 0) (gi 0)) (joH a b c d e f g X XM B0) Q := by
  rw [jo_fc]
  let I : Nat → List AV → AH → Prop := fun t act H => ∃ (k : Nat) (B : List Bool), k ≤ N.length ∧ t = N.length - k ∧ act = joA N l (i : Int) (gb (mB C l[i].1 N k)) (gi ((lF C l[i].1 N k : Nat) : Int)) (gi (k : Int)) ∧ H = joH a b c d e f g X XM B ∧ HB B C l[i].1 N k
  have e0 : mB C l[i].1 N 0 = false := by unfold mB; simp
  have e1 : lF C l[i].1 N 0 = 0 := rfl
  refine Tr.block (Tr.loop I ?_ (m := N.length) ⟨0, B0, Nat.zero_le _, rfl, by rw [e0, e1]; rfl, rfl, hB0⟩)
  rintro t act H ⟨k, B, hk, rfl, rfl, rfl, hB⟩
  have t12 := fun R => jo_12 ksX enX rlX a b c d e f g N l X XM B (i : Int) (mB C l[i].1 N k) ((lF C l[i].1 N k : Nat) : Int) (k : Int) R
  rw [gil] at t12
  refine Tr.of_flat (Trl.split 2 (Trl.of_code knownA (ne_nil (by kernel_rfl)) (t12 _) (holds_bif (fun h1 => ⟨trivial, ?_⟩) fun h1 => ⟨trivial, ?_⟩) flatA))
  · have h1 : k < N.length := by have := of_decide_eq_true h1; omega
    have hkB : k < B.length := by rw [hB.1]; exact h1
    have hBk : B[k] = decide (N[k] ∈ C) := by rw [hB.2 k h1 hkB]; congr 1; simp
    show Trl _ _ ((flatten (sub (bodyOf 4) [1, 1, 1, 1, 1, 0, 1, 0, 0, 1, 0, 0, 1, 0, 1, 0, 0])).drop 2) _ _ _
    rw [jo_f2]
    refine Tr.block (Tr.of_flat (jo_round a b c d e f g N hN l X XM hi C B hB h1 fun w v hw hv => ?_))
    have t13 := fun R => jo_13 ksX enX rlX a b c d e f g N l X XM (B.set k w) (i : Int) (mB C l[i].1 N (k + 1)) (v : Int) (k : Int) R
    rw [inc64 k (by omega)] at t13
    refine Trl.of_code knownA (ne_nil (by kernel_rfl)) (t13 _) ⟨trivial, ?_⟩ flatA
    exact ⟨N.length - (k + 1), by omega, k + 1, B.set k w, h1, rfl, by rw [hv]; rfl, rfl, HB_set hB h1 hw⟩
  · have h1 : k = N.length := by have := of_decide_eq_false h1; omega
    subst h1
    exact hQ B hB
end Go.Proofs.Ytcajdmplggpfdaa.AE
namespace Go.Proofs.Ytcajdmplggpfdaa.AE
open Go.RowKit
def itX (a b c d e f g : Int) (k : Nat) : Int := ([a, b, c, d, e, f, g, 2] : List Int).getD k 0
def opN (N C : List Int) : List Int := (riseL N).filter fun z => decide (z ∉ C)
def HC (B : List Bool) (C N : List Int) : Prop := B.length = N.length ∧ ∀ (j : Nat) (h : j < N.length) (h' : j < B.length), B[j] = decide (N[j] ∈ C)
theorem HC_HB {B : List Bool} {C N : List Int} (h : HC B C N) (u : Int) : HB B C u N 0 := ⟨h.1, fun j h1 h2 => by
  rw [h.2 j h1 h2]; congr 1; simp⟩
theorem HB_HC {B : List Bool} {C N : List Int} {u : Int} (h : HB B C u N N.length) : HC B (C ++ [u]) N := ⟨h.1, fun j h1 h2 => by
  rw [h.2 j h1 h2]; congr 1; simp [h1]⟩
theorem opN_snoc (N C : List Int) (u : Int) : opN N (C ++ [u]) = keepN (opN N C) u := by
  unfold opN keepN
  rw [List.filter_filter]
  congr 1
  funext z
  by_cases h1 : z ∈ C <;> by_cases h2 : z = u <;> simp [h1, h2]
theorem opN_mem {N C : List Int} {z : Int} : z ∈ opN N C ↔ z ∈ N ∧ z ∉ C := by
  unfold opN
  rw [List.mem_filter, mem_rise, decide_eq_true_eq]
theorem opN_len (N C : List Int) : (opN N C).length ≤ N.length := Nat.le_trans (List.length_filter_le ..) (rise_len N)
theorem mB_op (N C : List Int) (u : Int) : mB C u N N.length = decide (u ∈ opN N C) := by
  unfold mB
  rw [List.take_length]
  congr 1
  rw [opN_mem]
theorem lF_op (N C : List Int) (u : Int) : lF C u N N.length = 0 ↔ keepN (opN N C) u = [] := by
  unfold lF
  rw [List.take_length, ← opN_snoc, List.length_eq_zero_iff, List.filter_eq_nil_iff]
  constructor
  · intro h
    rw [List.eq_nil_iff_forall_not_mem]
    intro z hz
    rw [opN_mem] at hz
    have := h z hz.1
    simp only [List.mem_append, List.mem_singleton, not_or] at hz
    simp only [decide_eq_true_eq] at this
    exact this ⟨hz.2.1, hz.2.2⟩
  · intro h z hz
    rw [decide_eq_true_eq]
    rintro ⟨h1, h2⟩
    have : z ∈ opN N (C ++ [u]) := opN_mem.2 ⟨hz, by simp [h1, h2]⟩
    rw [h] at this
    cases this
theorem keepN_no {M : List Int} {u : Int} (h : u ∉ M) : keepN M u = M := by
  unfold keepN
  rw [List.filter_eq_self]
  intro z hz
  rw [decide_eq_true_eq]
  rintro rfl
  exact h hz
theorem lows_gb (n k : Nat) : ∀ B : List Bool, lows n k (B.map gb) = true
  | [] => rfl
  | b :: B => by
    show (low n k (gb b) && lows n k (B.map gb)) = true
    rw [lows_gb n k B]; rfl
def joX (a b c d e f g : Int) (X : Nat → Int) (XM : List Int) (B : List Bool) (rest : List (TypeId × List AV)) : AH := hp ([(23, [gi a, gi b, gi c, gi d, gi e, gi f, gi g]), (26, tabJ X ++ [lsA XM]), (4, B.map gb)] ++ rest) []
def joT (N : List Int) (l : List (Int × Int)) (i : Int) : List AV := [.dead, lsA N, lsL l, .ptr 0 0, .dead, .dead, .v (.bool true), .ptr 1 0, .dead, .dead, .sl 2 0 N.length N.length, gi i] ++ ded 158
def joD (N : List Int) (l : List (Int × Int)) (i : Int) : List AV := joA N l i .dead .dead .dead
theorem jo_leaf (a b c d e f g : Int) (X : Nat → Int) (XM : List Int) (B : List Bool) (rest : List (TypeId × List AV)) {R : Exit → List AV → AH → Prop} {e_1 : Exit} {act : List AV} (ha : lows 3 0 act = true) (hR : R e_1 act (joH a b c d e f g X XM B)) :
    lows 3 0 act = true ∧ ((joX a b c d e f g X XM B rest).blks.take 3).all (fun b => lows 3 0 b.2) = true ∧ R e_1 act (trimH 3 0 (joX a b c d e f g X XM B rest)) := by
  refine ⟨ha, ?_, ?_⟩
  · show (lows 3 0 [gi a, gi b, gi c, gi d, gi e, gi f, gi g] && (lows 3 0 (tabJ X ++ [lsA XM]) && (lows 3 0 (B.map gb) && true))) = true
    rw [lows_gb]; rfl
  · exact hR
def joR (a b c d e f g : Int) (N : List Int) (l : List (Int × Int)) (i : Nat) (C : List Int) (u : Int) (e_1 : Exit) (a_1 : List AV) (h_1 : AH) : Prop :=
  (e_1 = .normal ∧ ∃ B, HC B (C ++ [u]) N ∧ a_1 = joD N l (i : Int) ∧ h_1 = joH a b c d e f g (itX a b c d e f g) (opN N (C ++ [u])) B) ∨ (e_1 = .ret ∧ ∃ B, a_1 = joT N l (i : Int) ∧ h_1 = joH a b c d e f g (itX a b c d e f g) (opN N C) B)
def okY (Y : Nat → Int) (YM : List Int) (m : Int) (args : List AV) : Bool := hrOk args && decide ((List.range 8).map (ksX.GI args) = (List.range 8).map Y ∧ ksX.GM args = YM ∧ ksX.GC args = m)
theorem okY_less (Y : Nat → Int) (YM : List Int) (m : Int) (args : List AV) (h : okY Y YM m args = true) : hrOk args = true ∧ hrS ksX args = ansJ Y YM [m] := by
  unfold okY at h
  rw [Bool.and_eq_true, decide_eq_true_eq] at h
  obtain ⟨h1, h2, h3, h4⟩ := h
  refine ⟨h1, ?_⟩
  have e : ∀ f : Nat → Int, (List.range 8).map f = [f 0, f 1, f 2, f 3, f 4, f 5, f 6, f 7] := fun _ => rfl
  rw [e, e] at h2
  simp only [List.cons.injEq, and_true] at h2
  obtain ⟨g0, g1, g2, g3, g4, g5, g6, g7⟩ := h2
  unfold hrS ansJ
  rw [g0, g1, g2, g3, g4, g5, g6, g7, h3, h4]
theorem knownY (Y : Nat → Int) (YM : List Int) (m : Int) : Known nro (prY ksX Y YM m (okY Y YM m)) := by
  intro g p h
  have k := knownA g p
  unfold prY at h
  split at h
  · exact k h
  · cases h; exact tot_less heard_ok (okY_less Y YM m)
  · exact k h
  · cases h
theorem flatY {S : KS} {Y : Nat → Int} {YM : List Int} {m : Int} {OK : List AV → Bool} : Flats muY (prY S Y YM m OK) := by
  intro g h
  unfold muY at h
  simp only [Bool.or_eq_true, beq_iff_eq] at h
  rcases h with (h | h) | h <;> (have h := Nat.add_right_cancel h; subst h; exact ⟨_, rfl, tot_flat _ _⟩)
set_option maxHeartbeats 4000000 in
set_option maxRecDepth 100000 in
theorem jo_last (a b c d e f g : Int) (N : List Int) (hN : N.length ≤ 30) (l : List (Int × Int)) {i : Nat} (hi : i < l.length) (C : List Int) (B : List Bool) (hB : HB B C l[i].1 N N.length) :
    Trl Try.prog nro ((flatten (sub (bodyOf 4) [1, 1, 1, 1, 1, 0, 1, 0, 0, 1, 0, 0])).drop 3) (joA N l (i : Int) (gb (mB C l[i].1 N N.length)) (gi ((lF C l[i].1 N N.length : Nat) : Int)) (gi ((N.length : Nat) : Int))) (joH a b c d e f g (itX a b c d e f g) (opN N C) B)
      fun e_1 a_1 h_1 => lows 3 0 a_1 = true ∧ (h_1.blks.take 3).all (fun b => lows 3 0 b.2) = true ∧ joR a b c d e f g N l i C l[i].1 e_1 a_1 (trimH 3 0 h_1) := by
  have hm := mB_op N C l[i].1
  have hl := lF_op N C l[i].1
  have hs := opN_snoc N C l[i].1
  have hML : (opN N C).length ≤ 1000 := by have := opN_len N C; omega
  have hHC := HB_HC hB
  generalize hv : lF C l[i].1 N N.length = v at hl
  have hR : ∀ e_1 a_1 h_1, joR a b c d e f g N l i C l[i].1 e_1 a_1 h_1 ↔ (e_1 = .normal ∧ ∃ B, HC B (C ++ [l[i].1]) N ∧ a_1 = joD N l (i : Int) ∧ h_1 = joH a b c d e f g (itX a b c d e f g) (keepN (opN N C) l[i].1) B) ∨ (e_1 = .ret ∧ ∃ B, a_1 = joT N l (i : Int) ∧ h_1 = joH a b c d e f g (itX a b c d e f g) (opN N C) B) := fun e_1 a_1 h_1 => by
    unfold joR; rw [hs]
  simp only [hR]
  generalize opN N C = M at hm hl hML
  have hj : jobA? (.agg (tabJ (itX a b c d e f g) ++ [lsA M])) = some ([a, b, c, d, e, f, g, 2], M) := jobA_agg a b c d e f g 2 (lsA M) M (intsA_lst M .no) hML
  have hok : hrOk [.agg (tabJ (itX a b c d e f g) ++ [lsA M]), gi l[i].1, gi l[i].2] = true := par_tab _ M hML
  have hGC : ksX.GC [.agg (tabJ (itX a b c d e f g) ++ [lsA M]), gi l[i].1, gi l[i].2] = hrC [a, b, c, d, e, f, g, 2] M l[i].1 l[i].2 := by
    show hrC (isY (.agg (tabJ (itX a b c d e f g) ++ [lsA M]))) (neY (.agg (tabJ (itX a b c d e f g) ++ [lsA M]))) l[i].1 l[i].2 = _
    rw [isY_of hj, neY_of hj]
  have hGM : ksX.GM [.agg (tabJ (itX a b c d e f g) ++ [lsA M]), gi l[i].1, gi l[i].2] = hrM [a, b, c, d, e, f, g, 2] M l[i].1 l[i].2 := by
    show hrM (isY (.agg (tabJ (itX a b c d e f g) ++ [lsA M]))) (neY (.agg (tabJ (itX a b c d e f g) ++ [lsA M]))) l[i].1 l[i].2 = _
    rw [isY_of hj, neY_of hj]
  have hGI : ksX.GI [.agg (tabJ (itX a b c d e f g) ++ [lsA M]), gi l[i].1, gi l[i].2] = fun k => (hrI [a, b, c, d, e, f, g, 2] M l[i].1 l[i].2).getD k 0 := by
    show (fun k => (hrI (isY (.agg (tabJ (itX a b c d e f g) ++ [lsA M]))) (neY (.agg (tabJ (itX a b c d e f g) ++ [lsA M]))) l[i].1 l[i].2).getD k 0) = _
    rw [isY_of hj, neY_of hj]
  have ret : ∀ (rest : List (TypeId × List AV)), _ := fun rest => jo_leaf a b c d e f g (itX a b c d e f g) M B rest (R := fun e_1 a_1 h_1 => (e_1 = .normal ∧ ∃ B, HC B (C ++ [l[i].1]) N ∧ a_1 = joD N l (i : Int) ∧ h_1 = joH a b c d e f g (itX a b c d e f g) (keepN M l[i].1) B) ∨ (e_1 = .ret ∧ ∃ B, a_1 = joT N l (i : Int) ∧ h_1 = joH a b c d e f g (itX a b c d e f g) M B)) (e_1 := .ret) (act := joT N l (i : Int)) rfl (.inr ⟨rfl, B, rfl, rfl⟩)
  have nor : ∀ (X : Nat → Int) (XM : List Int) (rest : List (TypeId × List AV)), X = (itX a b c d e f g) → XM = keepN M l[i].1 → _ := fun X XM rest hX hXM => jo_leaf a b c d e f g X XM B rest (R := fun e_1 a_1 h_1 => (e_1 = .normal ∧ ∃ B, HC B (C ++ [l[i].1]) N ∧ a_1 = joD N l (i : Int) ∧ h_1 = joH a b c d e f g (itX a b c d e f g) (keepN M l[i].1) B) ∨ (e_1 = .ret ∧ ∃ B, a_1 = joT N l (i : Int) ∧ h_1 = joH a b c d e f g (itX a b c d e f g) M B)) (e_1 := .normal) (act := joD N l (i : Int)) rfl (.inl ⟨rfl, B, hHC, rfl, by rw [hX, hXM]⟩)
  have hoky : okY (fun k => (hrI [a, b, c, d, e, f, g, 2] M l[i].1 l[i].2).getD k 0) (hrM [a, b, c, d, e, f, g, 2] M l[i].1 l[i].2) (hrC [a, b, c, d, e, f, g, 2] M l[i].1 l[i].2) [(.agg (tabJ (itX a b c d e f g) ++ [lsA M])), gi l[i].1, gi l[i].2] = true := by
    unfold okY
    rw [hok, hGI, hGM, hGC, Bool.true_and]
    exact decide_eq_true ⟨rfl, rfl, rfl⟩
  have hsmo : smOk [.agg (tabJ (fun k => (hrI [a, b, c, d, e, f, g, 2] M l[i].1 l[i].2).getD k 0) ++ [lsA (hrM [a, b, c, d, e, f, g, 2] M l[i].1 l[i].2)]), (.agg (tabJ (itX a b c d e f g) ++ [lsA M]))] = true := by
    refine sm2 (par_tab _ _ ?_) (par_tab _ M hML)
    unfold hrM waM
    split
    · split
      · exact Nat.zero_le _
      · exact Nat.le_trans (keepN_len M _) hML
    · exact hML
  by_cases hmu : l[i].1 ∈ M
  · have hP : hrP [a, b, c, d, e, f, g, 2] M l[i].1 := ⟨rfl, hmu⟩
    rw [hm, decide_eq_true hmu]
    have t18 := fun R => jo_18t ksX (fun k => (hrI [a, b, c, d, e, f, g, 2] M l[i].1 l[i].2).getD k 0) (hrM [a, b, c, d, e, f, g, 2] M l[i].1 l[i].2) (hrC [a, b, c, d, e, f, g, 2] M l[i].1 l[i].2) (okY (fun k => (hrI [a, b, c, d, e, f, g, 2] M l[i].1 l[i].2).getD k 0) (hrM [a, b, c, d, e, f, g, 2] M l[i].1 l[i].2) (hrC [a, b, c, d, e, f, g, 2] M l[i].1 l[i].2)) a b c d e f g N l (itX a b c d e f g) M B (i : Int) (v : Int) (N.length : Int) R
    rw [an_get hi] at t18
    have hC : hrC [a, b, c, d, e, f, g, 2] M l[i].1 l[i].2 = waC M l[i].1 l[i].2 := by unfold hrC; rw [if_pos hP]
    refine Trl.of_code (knownY _ _ _) (ne_nil (by kernel_rfl)) (t18 _) (holds_bif (fun k1 => holds_bif (fun k2 => ?_) fun k2 => holds_bif (fun k3 => ⟨?_, ret _⟩) fun k3 => ?_) fun k1 => holds_bif (fun k4 => holds_bif (fun k2 => ?_) fun k2 => holds_bif (fun k3 => ⟨?_, ret _⟩) fun k3 => ?_) fun k4 => holds_bif (fun k2 => ?_) fun k2 => holds_bif (fun k3 => ?_) fun k3 => ⟨?_, nor (fun k => (hrI [a, b, c, d, e, f, g, 2] M l[i].1 l[i].2).getD k 0) (hrM [a, b, c, d, e, f, g, 2] M l[i].1 l[i].2) _ ?_ ?_⟩) flatY
    · have k1 : (l[i].2 != 1) = true := k1
      have k2 : (hrC [a, b, c, d, e, f, g, 2] M l[i].1 l[i].2 != 7) = true := k2
      rw [hC] at k2
      unfold waC at k2
      rw [if_pos (by simpa using k1)] at k2
      cases k2
    · repeat' first
        | with_reducible exact trivial
        | with_reducible refine cdb_iff.2 ⟨?_, ?_⟩
        | exact hoky
        | exact hsmo
        | refine cds_of ?_ (an_el hi)
    · have k1 : (l[i].2 != 1) = true := k1
      have k3 : (hrC [a, b, c, d, e, f, g, 2] M l[i].1 l[i].2 != 0) = false := k3
      rw [hC] at k3
      unfold waC at k3
      rw [if_pos (by simpa using k1)] at k3
      cases k3
    · have k1 : (l[i].2 != 1) = false := k1
      have k2 : (hrC [a, b, c, d, e, f, g, 2] M l[i].1 l[i].2 != 1) = true := k2
      rw [hC] at k2
      unfold waC at k2
      rw [if_neg (by simpa using k1), if_pos (hl.1 (by simpa using k4))] at k2
      cases k2
    · repeat' first
        | with_reducible exact trivial
        | with_reducible refine cdb_iff.2 ⟨?_, ?_⟩
        | exact hoky
        | exact hsmo
        | refine cds_of ?_ (an_el hi)
    · have k1 : (l[i].2 != 1) = false := k1
      have k3 : (hrC [a, b, c, d, e, f, g, 2] M l[i].1 l[i].2 != 0) = false := k3
      rw [hC] at k3
      unfold waC at k3
      rw [if_neg (by simpa using k1), if_pos (hl.1 (by simpa using k4))] at k3
      cases k3
    · have k1 : (l[i].2 != 1) = false := k1
      have k2 : (hrC [a, b, c, d, e, f, g, 2] M l[i].1 l[i].2 != 0) = true := k2
      rw [hC] at k2
      unfold waC at k2
      rw [if_neg (by simpa using k1), if_neg (fun h => by have := hl.2 h; simp [this] at k4)] at k2
      cases k2
    · have k1 : (l[i].2 != 1) = false := k1
      have k2 : (hrC [a, b, c, d, e, f, g, 2] M l[i].1 l[i].2 != 0) = true := k3
      rw [hC] at k2
      unfold waC at k2
      rw [if_neg (by simpa using k1), if_neg (fun h => by have := hl.2 h; simp [this] at k4)] at k2
      cases k2
    · repeat' first
        | with_reducible exact trivial
        | with_reducible refine cdb_iff.2 ⟨?_, ?_⟩
        | exact hoky
        | exact hsmo
        | refine cds_of ?_ (an_el hi)
    · have k1 : (l[i].2 != 1) = false := k1
      show (fun k => (hrI [a, b, c, d, e, f, g, 2] M l[i].1 l[i].2).getD k 0) = _
      unfold hrI waI
      rw [if_pos hP, if_neg (by simpa using k1), if_neg (fun h => by have := hl.2 h; simp [this] at k4)]
      rfl
    · have k1 : (l[i].2 != 1) = false := k1
      show hrM [a, b, c, d, e, f, g, 2] M l[i].1 l[i].2 = _
      unfold hrM waM
      rw [if_pos hP, if_neg (by simpa using k1)]
  · have hP : ¬ hrP [a, b, c, d, e, f, g, 2] M l[i].1 := fun h => hmu h.2
    rw [hm, decide_eq_false hmu]
    have t18 := fun R => jo_18f ksX (fun k => (hrI [a, b, c, d, e, f, g, 2] M l[i].1 l[i].2).getD k 0) (hrM [a, b, c, d, e, f, g, 2] M l[i].1 l[i].2) (hrC [a, b, c, d, e, f, g, 2] M l[i].1 l[i].2) (okY (fun k => (hrI [a, b, c, d, e, f, g, 2] M l[i].1 l[i].2).getD k 0) (hrM [a, b, c, d, e, f, g, 2] M l[i].1 l[i].2) (hrC [a, b, c, d, e, f, g, 2] M l[i].1 l[i].2)) a b c d e f g N l (itX a b c d e f g) M B (i : Int) (v : Int) (N.length : Int) R
    rw [an_get hi] at t18
    have hC : hrC [a, b, c, d, e, f, g, 2] M l[i].1 l[i].2 = 0 := by unfold hrC; rw [if_neg hP]
    have hI : (fun k => (hrI [a, b, c, d, e, f, g, 2] M l[i].1 l[i].2).getD k 0) = (itX a b c d e f g) := by
      unfold hrI; rw [if_neg hP]; rfl
    have hM : hrM [a, b, c, d, e, f, g, 2] M l[i].1 l[i].2 = M := by
      unfold hrM; rw [if_neg hP]
    have hsm : ksX.SM (.agg (tabJ (fun k => (hrI [a, b, c, d, e, f, g, 2] M l[i].1 l[i].2).getD k 0) ++ [lsA (hrM [a, b, c, d, e, f, g, 2] M l[i].1 l[i].2)])) (.agg (tabJ (itX a b c d e f g) ++ [lsA M])) = true := by
      rw [hI, hM]; exact sm_self _
    refine Trl.of_code (knownY _ _ _) (ne_nil (by kernel_rfl)) (t18 _) (holds_bif (fun k2 => ?_) fun k2 => holds_bif (fun k1 => ?_) fun k1 => holds_bif (fun k3 => ?_) fun k3 => ⟨?_, nor (fun k => (hrI [a, b, c, d, e, f, g, 2] M l[i].1 l[i].2).getD k 0) (hrM [a, b, c, d, e, f, g, 2] M l[i].1 l[i].2) _ ?_ ?_⟩) flatY
    · have k2 : (hrC [a, b, c, d, e, f, g, 2] M l[i].1 l[i].2 != 0) = true := k2
      rw [hC] at k2
      cases k2
    · have k1 : (!ksX.SM (.agg (tabJ (fun k => (hrI [a, b, c, d, e, f, g, 2] M l[i].1 l[i].2).getD k 0) ++ [lsA (hrM [a, b, c, d, e, f, g, 2] M l[i].1 l[i].2)])) (.agg (tabJ (itX a b c d e f g) ++ [lsA M]))) = true := k1
      rw [hsm] at k1
      cases k1
    · have k2 : (hrC [a, b, c, d, e, f, g, 2] M l[i].1 l[i].2 != 0) = true := k3
      rw [hC] at k2
      cases k2
    · repeat' first
        | with_reducible exact trivial
        | with_reducible refine cdb_iff.2 ⟨?_, ?_⟩
        | exact hoky
        | exact hsmo
        | refine cds_of ?_ (an_el hi)
    · exact hI
    · exact hM.trans (keepN_no hmu).symm
end Go.Proofs.Ytcajdmplggpfdaa.AE
namespace Go.Proofs.Ytcajdmplggpfdaa.AE
open Go.RowKit
theorem jo_sl : slotsOf 4 = 170 := by kernel_rfl
theorem jo_re : resultsOf 4 = [.tmp 6] := by kernel_rfl
set_option maxHeartbeats 4000000 in
set_option maxRecDepth 100000 in
theorem jo_mid (a b c d e f g : Int) (N : List Int) (hN : N.length ≤ 30) (l : List (Int × Int)) {i : Nat} (hi : i < l.length) (C : List Int) (B : List Bool) (hB : HC B C N) :
    Tr Try.prog nro (sub (bodyOf 4) [1, 1, 1, 1, 1, 0, 1, 0, 0, 1, 0, 0]) (joD N l (i : Int)) (joH a b c d e f g (itX a b c d e f g) (opN N C) B) (joR a b c d e f g N l i C l[i].1) := by
  refine Tr.forget 3 0 (Nat.le_refl _) (Nat.le_refl _) ?_
  refine Tr.of_flat (Trl.split 2 (Trl.of_code knownA (ne_nil (by kernel_rfl)) (jo_10 ksX enX rlX a b c d e f g N l (itX a b c d e f g) (opN N C) B (i : Int) _) ⟨trivial, ?_⟩ flatA))
  exact jo_inner a b c d e f g N hN l (itX a b c d e f g) (opN N C) hi C B (HC_HB hB _) fun B' hB' => jo_last a b c d e f g N hN l hi C B' hB'
set_option maxHeartbeats 8000000 in
set_option maxRecDepth 100000 in
theorem jo_outer (a b c d e f g : Int) (N : List Int) (hN : N.length ≤ 30) (l : List (Int × Int)) (hl : l.length ≤ 60) (B0 : List Bool) (hB0 : HC B0 [] N) :
    Trl Try.prog nro ((flatten (bodyOf 4)).drop 8) (joD N l 0) (joH a b c d e f g (itX a b c d e f g) (opN N []) B0) fun e_1 a_1 h_1 => (e_1 = .normal ∨ e_1 = .ret) ∧ ansOk (fun r _ => r = .v (.bool true)) (resOf Try.prog nro [.tmp 6] a_1 h_1) := by
  rw [jo_f8]
  let I : Nat → List AV → AH → Prop := fun t act H => ∃ (i : Nat) (B : List Bool), i ≤ l.length ∧ t = l.length - i ∧ act = joD N l (i : Int) ∧ H = joH a b c d e f g (itX a b c d e f g) (opN N ((l.take i).map Prod.fst)) B ∧ HC B ((l.take i).map Prod.fst) N
  refine Tr.block (Tr.loop I ?_ (m := l.length) ⟨0, B0, Nat.zero_le _, rfl, rfl, rfl, hB0⟩)
  rintro t act H ⟨i, B, hi, rfl, rfl, rfl, hB⟩
  have th := fun R => jo_h ksX enX rlX a b c d e f g N l (itX a b c d e f g) (opN N ((l.take i).map Prod.fst)) B (i : Int) R
  rw [List.length_map] at th
  refine Tr.of_flat (Trl.split 2 (Trl.of_code knownA (ne_nil (by kernel_rfl)) (th _) (holds_bif (fun h1 => ⟨trivial, ?_⟩) fun h1 => ⟨trivial, ?_⟩) flatA))
  · have h1 : i < l.length := by have := of_decide_eq_true h1; omega
    show Trl _ _ ((flatten (sub (bodyOf 4) [1, 1, 1, 1, 1, 0, 1, 0, 0])).drop 2) _ _ _
    rw [jo_fb]
    refine Tr.block (Tr.mono (jo_mid a b c d e f g N hN l h1 _ B hB) fun e_1 a_1 h_1 q => ?_)
    rcases q with ⟨rfl, B', k1, rfl, rfl⟩ | ⟨rfl, B', rfl, rfl⟩
    · have e2 : (l.take (i + 1)).map Prod.fst = (l.take i).map Prod.fst ++ [l[i].1] := by rw [take_snoc h1, List.map_append]; rfl
      have t9 := fun R => jo_9 ksX enX rlX a b c d e f g N l (itX a b c d e f g) (opN N ((l.take i).map Prod.fst ++ [l[i].1])) B' (i : Int) R
      rw [inc64 i (by omega)] at t9
      refine Trl.of_code knownA (ne_nil (by kernel_rfl)) (t9 _) ⟨trivial, ?_⟩ flatA
      exact ⟨l.length - (i + 1), by omega, i + 1, B', h1, rfl, rfl, by rw [e2]; rfl, by rw [e2]; exact k1⟩
    · exact ⟨.inr rfl, trivial, rfl⟩
  · have t29 := fun R => jo_29 ksX enX rlX a b c d e f g N l (itX a b c d e f g) (opN N ((l.take i).map Prod.fst)) B (i : Int) R
    refine Trl.of_code knownA (ne_nil (by kernel_rfl)) (t29 _) (holds_bif (fun k1 => holds_bif (fun k2 => ⟨trivial, .inr rfl, trivial, rfl⟩) fun k2 => ?_) fun k1 => ?_) flatA
    · have k2 : ((a == a) && ((b == b) && ((c == c) && ((d == d) && ((e == e) && ((f == f) && ((g == g) && true))))))) = false := k2
      simp at k2
    · exact absurd (show ((2 : Int) == 2) = false from k1) (by decide)
set_option maxHeartbeats 8000000 in
set_option maxRecDepth 100000 in
theorem fs_once (a b c d e f g : Int) (N : List Int) (l : List (Int × Int)) : Fs Try.prog nro 4 [.agg [gi a, gi b, gi c, gi d, gi e, gi f, gi g], lsA N, lsL l] (hp [] []) fun r _ => r = .v (.bool true) := by
  refine Fs.of_body (has_fn (by kernel_rfl)) ?_
  rw [jo_sl, jo_re]
  have pre := fun R => jo_pre ksX enX rlX a b c d e f g N l R
  have hj : jobA? (.agg [gi a, gi b, gi c, gi d, gi e, gi f, gi g, gi 1, .lst 1 [] .no]) = some ([a, b, c, d, e, f, g, 1], []) := jobA_agg a b c d e f g 1 (.lst 1 [] .no) [] rfl (Nat.zero_le _)
  have hDE : ksX.DE [.agg [gi a, gi b, gi c, gi d, gi e, gi f, gi g, gi 1, .lst 1 [] .no], lsA N] = 0 := by
    show dnE (isY (.agg [gi a, gi b, gi c, gi d, gi e, gi f, gi g, gi 1, .lst 1 [] .no])) (intsY (.lst 1 (N.map gi) .no)) = 0
    rw [isY_of hj]; rfl
  have hDC : N = [] → ksX.DC [.agg [gi a, gi b, gi c, gi d, gi e, gi f, gi g, gi 1, .lst 1 [] .no], lsA N] = 1 := fun h => by
    show dnC (isY (.agg [gi a, gi b, gi c, gi d, gi e, gi f, gi g, gi 1, .lst 1 [] .no])) (intsY (.lst 1 (N.map gi) .no)) = 1
    rw [isY_of hj, intsY_lst, h]; rfl
  have hDM : N ≠ [] → ksX.DM [.agg [gi a, gi b, gi c, gi d, gi e, gi f, gi g, gi 1, .lst 1 [] .no], lsA N] = riseL N := fun h => by
    show dnM (isY (.agg [gi a, gi b, gi c, gi d, gi e, gi f, gi g, gi 1, .lst 1 [] .no])) (intsY (.lst 1 (N.map gi) .no)) = _
    rw [isY_of hj, intsY_lst]
    unfold dnM
    rw [if_neg (by simp), if_neg h]
  have hDI : N ≠ [] → ksX.DI [.agg [gi a, gi b, gi c, gi d, gi e, gi f, gi g, gi 1, .lst 1 [] .no], lsA N] = (itX a b c d e f g) := fun h => by
    show (fun k => (dnI (isY (.agg [gi a, gi b, gi c, gi d, gi e, gi f, gi g, gi 1, .lst 1 [] .no])) (intsY (.lst 1 (N.map gi) .no))).getD k 0) = _
    rw [isY_of hj, intsY_lst]
    unfold dnI
    rw [if_neg (by simp), if_neg h]; rfl
  have hok : N.length ≤ 30 → dnOk [.agg [gi a, gi b, gi c, gi d, gi e, gi f, gi g, gi 1, .lst 1 [] .no], lsA N] = true := fun h => by
    show (jb1 (.agg [gi a, gi b, gi c, gi d, gi e, gi f, gi g, gi 1, .lst 1 [] .no]) && (match intsA? (.lst 1 (N.map gi) .no) with | some l => decide (l.length ≤ 1000) | none => false)) = true
    rw [intsA_lst]
    unfold jb1
    rw [hj]
    exact decide_eq_true (by omega)
  simp only [List.length_map] at pre
  refine Tr.of_flat (Trl.split 8 (Trl.of_code knownA (ne_nil (by kernel_rfl)) (pre _) (holds_bif (fun h1 => ⟨trivial, .inr rfl, trivial, rfl⟩) fun h1 => holds_bif (fun h2 => ⟨trivial, .inr rfl, trivial, rfl⟩) fun h2 => holds_bif (fun h3 => ?_) fun h3 => holds_bif (fun h4 => holds_bif (fun h5 => holds_bif (fun h6 => ⟨?_, .inr rfl, trivial, rfl⟩) fun h6 => ?_) fun h5 => ?_) fun h4 => ⟨?_, ?_⟩) flatA))
  · have h3 : (ksX.DE [.agg [gi a, gi b, gi c, gi d, gi e, gi f, gi g, gi 1, .lst 1 [] .no], lsA N] != 0) = true := h3
    rw [hDE] at h3
    cases h3
  · exact cdb_iff.2 ⟨trivial, hok (by have := of_decide_eq_false h1; omega)⟩
  · have h6 : (ksX.DC [.agg [gi a, gi b, gi c, gi d, gi e, gi f, gi g, gi 1, .lst 1 [] .no], lsA N] == 1) = false := h6
    rw [hDC (List.eq_nil_of_length_eq_zero (by simpa using h4))] at h6
    cases h6
  · have h5 : (ksX.DE [.agg [gi a, gi b, gi c, gi d, gi e, gi f, gi g, gi 1, .lst 1 [] .no], lsA N] == 0) = false := h5
    rw [hDE] at h5
    cases h5
  · have h1 := of_decide_eq_false h1
    refine cdb_iff.2 ⟨cdb_iff.2 ⟨trivial, hok (by omega)⟩, decide_eq_true ?_⟩
    refine ⟨by omega, by omega, ?_, ?_⟩ <;> omega
  · have h1 := of_decide_eq_false h1
    have h2 := of_decide_eq_false h2
    have hne : N ≠ [] := by rintro rfl; simp at h4
    have e0 : opN N [] = riseL N := by unfold opN; rw [List.filter_eq_self]; intro z _; simp
    have hB : HC (List.replicate N.length false) [] N := ⟨List.length_replicate, fun j h h' => by rw [List.getElem_replicate]; simp⟩
    have out := jo_outer a b c d e f g N (by omega) l (by omega) _ hB
    have er : (List.replicate N.length false).map gb = List.replicate N.length (.v (.bool false)) := List.map_replicate
    rw [e0] at out
    unfold joH at out
    rw [er, ← hDI hne, ← hDM hne] at out
    exact out
end Go.Proofs.Ytcajdmplggpfdaa.AE
namespace Go.Proofs.Ytcajdmplggpfdaa
open Go.RowKit AE
def anF (f : Nat → Nat → Int) (n : Nat) : List (Int × Int) := (List.range n).map fun i => (f i 0, f i 1)
def anC (f : Nat → Nat → Int) (j : Nat) : Value := .int .i64 (f (j / 2) (j % 2))
theorem anF_cells (f : Nat → Nat → Int) : ∀ n, ((anF f n).map anA).flatMap AV.cells = ((List.range (n * 2)).map (anC f)).map AV.v
  | 0 => rfl
  | n + 1 => by
    have ih := anF_cells f n
    have e : anF f (n + 1) = anF f n ++ [(f n 0, f n 1)] := by unfold anF; rw [List.range_succ, List.map_append]; rfl
    have r : List.range ((n + 1) * 2) = List.range (n * 2) ++ [n * 2, n * 2 + 1] := by
      rw [show (n + 1) * 2 = n * 2 + 1 + 1 by omega, List.range_succ, List.range_succ]
      simp
    rw [e, List.map_append, List.flatMap_append, ih, r, List.map_append, List.map_append]
    congr 1
    have d0 : anC f (n * 2) = .int .i64 (f n 0) := by unfold anC; rw [show n * 2 / 2 = n by omega, show n * 2 % 2 = 0 by omega]
    have d1 : anC f (n * 2 + 1) = .int .i64 (f n 1) := by unfold anC; rw [show (n * 2 + 1) / 2 = n by omega, show (n * 2 + 1) % 2 = 1 by omega]
    show _ = [AV.v (anC f (n * 2)), AV.v (anC f (n * 2 + 1))]
    rw [d0, d1]; rfl
theorem an_rv {w : World} {a : Option Addr} {n cap : Nat} {f : Nat → Nat → Int} (h : Fld w a n 2 f) (hc : n ≤ cap) (hx : cap ≤ maxLen) : RV (G0 w) w (lsL (anF f n)) (.slice a n cap) := by
  refine .lst (cs := (List.range (n * 2)).map (anC f)) (by unfold anF; simp) (by rw [anF_cells]; exact PVs.map_v _) (fun x hx => by
    obtain ⟨c, _, rfl⟩ := List.mem_map.1 hx
    rfl) ⟨fun u hu => by
    obtain ⟨j, _, rfl⟩ := List.mem_map.1 hu
    rfl, fun hne => ?_⟩ hc hx trivial
  have hn : 0 < n := by
    rcases Nat.eq_zero_or_pos n with rfl | hn
    · exact absurd rfl hne
    · exact hn
  obtain ⟨b, off, e, hcell⟩ := h hn
  refine ⟨b, off, e, fun j u hu => ?_⟩
  have hj : j < n * 2 := by
    have := (List.getElem?_eq_some_iff.1 hu).1
    simpa using this
  have hu : u = anC f j := by
    rw [List.getElem?_map, List.getElem?_range hj] at hu
    exact (Option.some.inj hu).symm
  have hk := hcell (j / 2) (j % 2) (by omega) (by omega)
  have e2 : off + j / 2 * 2 + j % 2 = off + j := by omega
  rw [e2] at hk
  rw [hu]
  exact ⟨by show b < w.heap.size; exact cell_lt hk, hk⟩
theorem w_JobOnce (w : World) (x1 x2 x3 x4 x5 x6 x7 : Int) (a : Option Addr) (cap : Nat) (l : List Int) (ha : Ints w .i64 a l) (_ : l.length ≤ maxLen) (_ : ∀ n ∈ l, (Lit.int .i64 n).wf = true) (hc : l.length ≤ cap) (hx : cap ≤ maxLen)
    (b : Option Addr) (len cap2 : Nat) (f : Nat → Nat → Int) (hf : Fld w b len 2 f) (_ : len ≤ maxLen) (_ : ∀ i j, i < len → j < 2 → (Lit.int .i64 (f i j)).wf = true) (hc2 : len ≤ cap2) (hx2 : cap2 ≤ maxLen) :
    Calls Try.prog 4 #[.agg #[.int .i64 x1, .int .i64 x2, .int .i64 x3, .int .i64 x4, .int .i64 x5, .int .i64 x6, .int .i64 x7], .slice a l.length cap, .slice b len cap2] w fun e w' => e = .returned (.bool true) ∧ Below w.heap.size w w' :=
  law_true (fs_once x1 x2 x3 x4 x5 x6 x7 l (anF f len)) w _ (ro_none _ _) (.cons (.agg (.cons (.v _) (.cons (.v _) (.cons (.v _) (.cons (.v _) (.cons (.v _) (.cons (.v _) (.cons (.v _) .nil)))))))) (.cons (ints_rv ha hc hx) (.cons (an_rv hf hc2 hx2) .nil)))
end Go.Proofs.Ytcajdmplggpfdaa
