/-
  The function that reads numbers of so many bytes each, by its loop.
-/
import Derived.Test.YtemjnfncncmbdaaDoorAENumT
namespace Go.Proofs.YtemjnfncncmbdaaDoor.AE
open Go.RowKit Oc
def numsOf : List Int → ByteArray → List Int
  | [], _ => []
  | w :: ws, s => takeN s w :: numsOf ws (takeR s w)
def enough : List Int → ByteArray → Bool
  | [], _ => true
  | w :: ws, s => inT s w && enough ws (takeR s w)
theorem ne_nil {α : Type} {l : List α} (h : l.isEmpty = false) : l ≠ [] := by cases l <;> simp_all
theorem Fs.ro {g : FuncId} {args : List AV} {H : AH} {Φ : AV → AH → Prop} (h : Fs Tryd.prog nro g args H Φ) (ro : Nat → Option (List Value)) : Fs Tryd.prog ro g args H Φ :=
  fun G W cargs hI _ hA => h G W cargs hI (ro_none _ _) hA
theorem gi_get {wl : List Int} {i : Nat} (h : i < wl.length) : (wl.map gi)[i]? = some (gi wl[i]) := by simp [h]
theorem gi_ex {wl : List Int} {i : Nat} (h : i < wl.length) : exInt ((wl.map gi).getD (Int.toNat (Int.ofNat i)) .dead) = wl[i] := by
  show exInt ((wl.map gi).getD i .dead) = wl[i]
  rw [List.getD_eq_getElem?_getD, gi_get h]; rfl
theorem takeR_le (s : ByteArray) (w : Int) : (takeR s w).size ≤ s.size := by
  unfold takeR
  split
  · simp only [ByteArray.size_extract]; omega
  · exact Nat.le_refl _
theorem wrap_small (n : Nat) (h : n ≤ 1000000) : IntKind.wrap .i64 (Int.ofNat n + 1) = Int.ofNat (n + 1) := by
  rw [IntKind.wrap_i64]
  show _ = ((n + 1 : Nat) : Int)
  have : (Int.ofNat n) = (n : Int) := rfl
  rw [this]
  omega
theorem sl_num : slotsOf 26 = 30 := by kernel_rfl
theorem re_num : resultsOf 26 = [.tmp 4] := by kernel_rfl
theorem fl_num : (flatten (bodyOf 26)).drop 3 = .block 0 (.loop (sub (bodyOf 26) [1, 1, 0, 1, 0, 0])) :: (flatten (bodyOf 26)).drop 4 := by kernel_rfl
def A0 (s : ByteArray) (wl : List Int) (tip : Tip) (i : Nat) : List AV := [.v (.string s), .lst 1 (wl.map gi) tip, .dead, .dead, nilS, nilS, .v (.int .i64 (Int.ofNat i))] ++ List.replicate 23 .dead
def A1 (s : ByteArray) (wl : List Int) (tip : Tip) (i ver : Nat) (xs : List Int) : List AV := [.v (.string s), .lst 1 (wl.map gi) tip, .dead, .dead, nilS, .lst 1 (xs.map gi) (.tp 0 ver), .v (.int .i64 (Int.ofNat i))] ++ List.replicate 23 .dead
theorem fs_nums (s : ByteArray) (wl : List Int) (tip : Tip) (hs : s.size ≤ maxLen) (hl : wl.length ≤ 1000) (hne : wl ≠ []) (hen : enough wl s = true) :
    Fs Tryd.prog nro 26 [.v (.string s), .lst 1 (wl.map gi) tip] (hp [] []) fun r _ => clean r = some (.lst 1 ((numsOf wl s).map gi) .no) := by
  refine Fs.of_body (has_fn (by kernel_rfl)) ?_
  rw [sl_num, re_num]
  refine Tr.of_flat (Trl.split 3 (Trl.of_code (knownO nro) (ne_nil (by kernel_rfl)) (n_pre s (wl.map gi) tip _) ⟨trivial, ?_⟩))
  show Trl _ _ ((flatten (bodyOf 26)).drop 3) _ _ _
  rw [fl_num]
  let I : Nat → List AV → AH → Prop := fun m act H => ∃ (i : Nat) (s' : ByteArray) (xs : List Int), i ≤ wl.length ∧ m = wl.length - i ∧ enough (wl.drop i) s' = true ∧ xs ++ numsOf (wl.drop i) s' = numsOf wl s ∧ xs.length = i ∧ s'.size ≤ maxLen ∧
    ((xs = [] ∧ act = A0 s' wl tip i ∧ H = hp [] []) ∨ ∃ ver, act = A1 s' wl tip i ver xs ∧ H = hp [] [ver])
  refine Tr.block (Tr.loop I ?_ (m := wl.length) ⟨0, s, [], Nat.zero_le _, rfl, hen, rfl, rfl, hs, .inl ⟨rfl, rfl, rfl⟩⟩)
  have step : ∀ (i : Nat) (s' : ByteArray), i < wl.length → enough (wl.drop i) s' = true → ∃ w, wl[i]? = some w ∧ exInt ((wl.map gi).getD (Int.toNat (Int.ofNat i)) .dead) = w ∧ (wl.map gi)[Int.toNat (Int.ofNat i)]? = some (gi w) ∧ inT s' w = true ∧ enough (wl.drop (i + 1)) (takeR s' w) = true ∧ numsOf (wl.drop i) s' = takeN s' w :: numsOf (wl.drop (i + 1)) (takeR s' w) := by
    intro i s' hi he
    have hd : wl.drop i = wl[i] :: wl.drop (i + 1) := List.drop_eq_getElem_cons hi
    rw [hd] at he
    simp only [enough, Bool.and_eq_true] at he
    exact ⟨wl[i], by simp [hi], gi_ex hi, gi_get hi, he.1, he.2, by rw [hd]; rfl⟩
  rintro m act H ⟨i, s', xs, hi, rfl, he, hx, hxl, hs', ⟨rfl, rfl, rfl⟩ | ⟨ver, rfl, rfl⟩⟩
  · refine Tr.of_code (knownO nro) (n_body0 s' wl tip i _) (holds_bif (fun hlt => ?_) (fun hge => ?_))
    · have hlt : i < wl.length := by
        have := of_decide_eq_true hlt
        rw [List.length_map] at this
        exact Int.ofNat_lt.1 this
      obtain ⟨w, h1, h2, h3, h4, h5, h6⟩ := step i s' hlt he
      rw [h2, h3]
      have hT := h4
      simp only [inT, Bool.and_eq_true, decide_eq_true_eq] at hT
      obtain ⟨⟨t1, t2⟩, t3⟩ := hT
      have hwr := wrap_small i (by omega)
      rw [hwr]
      have hN : ((num (s'.extract 0 w.toNat).data.toList : Nat) : Int) = takeN s' w := by unfold takeN; rw [if_pos h4]
      have hR : s'.extract w.toNat (Int.toNat ((s'.size : Nat) : Int)) = takeR s' w := by unfold takeR; rw [if_pos h4]; rfl
      rw [hN, hR]
      have h0 : (0 : Int) ≤ Int.ofNat i := Int.natCast_nonneg i
      refine ⟨?_, ?_⟩
      · repeat' first
          | with_reducible exact trivial
          | with_reducible refine cdb_iff.2 ⟨?_, ?_⟩
          | refine cds_of ?_ ⟨h0, rfl⟩
        all_goals (refine decide_eq_true ?_; first | omega | (simp only [ByteArray.size_extract]; omega))
      · refine ⟨wl.length - (i + 1), by omega, i + 1, takeR s' w, [takeN s' w], by omega, rfl, h5, ?_, by simp at hxl; simp; omega, Nat.le_trans (takeR_le _ _) hs', .inr ⟨0, rfl, rfl⟩⟩
        rw [← hx, h6]; rfl
    · have hge : i = wl.length := by
        have := of_decide_eq_false hge
        rw [List.length_map] at this
        have h2 : ¬ (i < wl.length) := fun h => this (Int.ofNat_lt.2 h)
        omega
      simp at hxl
      exact absurd (List.eq_nil_of_length_eq_zero (by omega)) hne
  · refine Tr.of_code (knownO nro) (n_body1 s' wl tip i ver xs _) (holds_bif (fun hlt => ?_) (fun hge => ?_))
    · have hlt : i < wl.length := by
        have := of_decide_eq_true hlt
        rw [List.length_map] at this
        exact Int.ofNat_lt.1 this
      obtain ⟨w, h1, h2, h3, h4, h5, h6⟩ := step i s' hlt he
      rw [h2, h3]
      have hT := h4
      simp only [inT, Bool.and_eq_true, decide_eq_true_eq] at hT
      obtain ⟨⟨t1, t2⟩, t3⟩ := hT
      have hwr := wrap_small i (by omega)
      rw [hwr]
      have hN : ((num (s'.extract 0 w.toNat).data.toList : Nat) : Int) = takeN s' w := by unfold takeN; rw [if_pos h4]
      have hR : s'.extract w.toNat (Int.toNat ((s'.size : Nat) : Int)) = takeR s' w := by unfold takeR; rw [if_pos h4]; rfl
      rw [hN, hR]
      have h0 : (0 : Int) ≤ Int.ofNat i := Int.natCast_nonneg i
      refine ⟨?_, ?_⟩
      · repeat' first
          | with_reducible exact trivial
          | with_reducible refine cdb_iff.2 ⟨?_, ?_⟩
          | refine cds_of ?_ ⟨h0, rfl⟩
        all_goals (refine decide_eq_true ?_; first | omega | (simp only [ByteArray.size_extract]; omega) | (simp only [List.length_map, List.length_cons, List.length_nil, and_true]; unfold maxLen at *; omega))
      · refine ⟨wl.length - (i + 1), by omega, i + 1, takeR s' w, xs ++ [takeN s' w], by omega, rfl, h5, ?_, by simp [hxl], Nat.le_trans (takeR_le _ _) hs', .inr ⟨ver + 1, ?_, rfl⟩⟩
        · rw [← hx, h6, List.append_assoc]; rfl
        · unfold A1; rw [List.map_append]; rfl
    · have hge : i = wl.length := by
        have := of_decide_eq_false hge
        rw [List.length_map] at this
        have h2 : ¬ (i < wl.length) := fun h => this (Int.ofNat_lt.2 h)
        omega
      refine ⟨trivial, ?_⟩
      show Trl _ _ ((flatten (bodyOf 26)).drop 4) _ _ _
      have hx' : xs = numsOf wl s := by rw [← hx, hge, List.drop_length]; simp [numsOf]
      subst hx'
      refine Tr.keepL [4, 5] (by kernel_rfl) (Trl.of_code (knownO nro) (ne_nil (by kernel_rfl)) (n_post (.lst 1 ((numsOf wl s).map gi) (.tp 0 ver)) [ver] _) ⟨trivial, .inr rfl, trivial, rfl⟩)
end Go.Proofs.YtemjnfncncmbdaaDoor.AE
