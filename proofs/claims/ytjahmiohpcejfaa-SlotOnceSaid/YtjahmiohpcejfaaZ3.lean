
/-
  The law SlotOnce of layer 31: the call comes to true.
-/
import Derived.Test.YtjahmiohpcejfaaZ2
import Derived.Test.YtjahmiohpcejfaaAEIn
import Derived.Test.YtjahmiohpcejfaaFld
import Derived.Test.YtjahmiohpcejfaaAEList
namespace Go.Proofs.Ytjahmiohpcejfaa.AE
set_option maxRecDepth 100000
open Go.RowKit
theorem oPut_ok : ∀ args H r H', obj? (oPut tsX) args H = some (r, H') → HSound1 Try.prog nro 9 args H r H' := by
  refine oSl_ok (has_fn (by kernel_rfl)) fun args t C r C' h => ?_
  split at h
  · rename_i a
    simp only [Option.some.injEq, Prod.mk.injEq, Bool.and_eq_true] at h
    obtain ⟨rfl, rfl, h, ha⟩ := h
    obtain ⟨rfl, P, n, hG, rfl⟩ := okC_out h
    rw [(itOk_out ha).1]
    refine (fs_put hG (itD a)).mono fun r h => ?_
    rintro ⟨rfl, rfl⟩
    refine ⟨.inl ?_, [], [], ?_⟩
    · show _ = AV.v (.tuple #[.int .i64 (putK (decP (enc P n)) (decN (enc P n)) (itD a 0)), .int .i64 (putE (decP (enc P n)) (decN (enc P n)) (itD a 0))])
      rw [(dec_enc hG).1, (dec_enc hG).2]
    · show _ = hp ([(60, enc (putP (decP (enc P n)) (decN (enc P n)) (itD a)) (decN (enc P n)))] ++ []) []
      rw [(dec_enc hG).1, (dec_enc hG).2]; rfl
  · cases h
theorem oTake_ok : ∀ args H r H', obj? (oTake tsX) args H = some (r, H') → HSound1 Try.prog nro 11 args H r H' := by
  refine oSl_ok (has_fn (by kernel_rfl)) fun args t C r C' h => ?_
  split at h
  · rename_i k
    simp only [Option.some.injEq, Prod.mk.injEq] at h
    obtain ⟨rfl, rfl, h⟩ := h
    obtain ⟨rfl, P, n, hG, rfl⟩ := okC_out h
    refine (fs_take hG k).mono fun r h => ?_
    rintro ⟨rfl, more, rfl⟩
    refine ⟨.inl ?_, [], more, ?_⟩
    · show _ = AV.v (.tuple #[.agg #[.int .i64 (oF (hdO ((allP (decP (enc P n)) (decN (enc P n))).filter (wT k))) 0), .int .i64 (oF (hdO ((allP (decP (enc P n)) (decN (enc P n))).filter (wT k))) 1), .int .i64 (oF (hdO ((allP (decP (enc P n)) (decN (enc P n))).filter (wT k))) 2), .int .i64 (oF (hdO ((allP (decP (enc P n)) (decN (enc P n))).filter (wT k))) 3), .int .i64 (oF (hdO ((allP (decP (enc P n)) (decN (enc P n))).filter (wT k))) 4), .int .i64 (oF (hdO ((allP (decP (enc P n)) (decN (enc P n))).filter (wT k))) 5), .int .i64 (oF (hdO ((allP (decP (enc P n)) (decN (enc P n))).filter (wT k))) 6)], .bool (hdO ((allP (decP (enc P n)) (decN (enc P n))).filter (wT k))).isSome])
      rw [(dec_enc hG).1, (dec_enc hG).2]; rfl
    · rw [x_tC hG]
  · cases h
theorem oLate_ok : ∀ args H r H', obj? (oLate tsX) args H = some (r, H') → HSound1 Try.prog nro 14 args H r H' := by
  refine oSl_ok (has_fn (by kernel_rfl)) fun args t C r C' h => ?_
  split at h
  · rename_i k
    simp only [Option.some.injEq, Prod.mk.injEq] at h
    obtain ⟨rfl, rfl, h⟩ := h
    obtain ⟨rfl, P, n, hG, rfl⟩ := okC_out h
    refine (fs_late hG k).mono fun r h => ?_
    rintro ⟨rfl, more, rfl⟩
    refine ⟨.inl ?_, [], more, ?_⟩
    · rw [x_lL hG]
    · rw [x_lC hG]
  · cases h
theorem oFree_ok : ∀ args H r H', obj? (oFree tsX) args H = some (r, H') → HSound1 Try.prog nro 21 args H r H' := by
  refine oSl_ok (has_fn (by kernel_rfl)) fun args t C r C' h => ?_
  split at h
  · simp only [Option.some.injEq, Prod.mk.injEq] at h
    obtain ⟨rfl, rfl, h⟩ := h
    obtain ⟨rfl, P, n, hG, rfl⟩ := okC_out h
    refine (fs_free hG).mono fun r h => ?_
    rintro ⟨rfl, rfl⟩
    exact ⟨.inl (by rw [x_fr hG]), [], [], rfl⟩
  · cases h
theorem knownX : Known nro (prX tsX) := by
  intro g p h
  unfold prX at h
  split at h
  · cases h; exact known31 _ _ rfl
  · cases h; exact oPut_ok
  · cases h; exact oTake_ok
  · cases h; exact oLate_ok
  · cases h; exact oAll_ok
  · cases h; exact oFree_ok
  · cases h; exact oPlace_ok
  · cases h; exact oAt_ok
  · cases h
/-- No id at two places. -/
def Dist (P : Nat → Option It) : Prop := ∀ i j f g, P i = some f → P j = some g → f 0 = g 0 → i = j
theorem fnd_none {w : Nat → Bool} : ∀ {m i : Nat}, fnd w m i = none → ∀ j, i ≤ j → j < i + m → w j = false
  | 0, i, _, j, h1, h2 => by omega
  | m + 1, i, h, j, h1, h2 => by
    unfold fnd at h
    split at h
    · cases h
    · rename_i hw
      by_cases hj : j = i
      · subst hj; simpa using hw
      · exact fnd_none h j (by omega) (by omega)
theorem fnd_one {w : Nat → Bool} {k : Nat} (hk : w k = true) (hu : ∀ j, w j = true → j = k) : ∀ {m i : Nat}, i ≤ k → k < i + m → fnd w m i = some k
  | 0, i, h1, h2 => by omega
  | m + 1, i, h1, h2 => by
    unfold fnd
    by_cases hw : w i = true
    · rw [if_pos hw, hu i hw]
    · rw [if_neg hw]
      exact fnd_one hk hu (by by_cases h : i = k; · subst h; exact absurd hk hw
                              · omega) (by omega)
theorem mem_all {P : Nat → Option It} {n : Nat} {f : It} : f ∈ allP P n ↔ ∃ i, i < n ∧ P i = some f := by
  unfold allP
  simp [List.mem_filterMap, List.mem_range]
theorem dist_pw {P : Nat → Option It} (hD : Dist P) : ∀ m, (allP P m).Pairwise fun f g => f 0 ≠ g 0
  | 0 => by unfold allP; simp
  | m + 1 => by
    rw [allP_succ, List.pairwise_append]
    refine ⟨dist_pw hD m, by cases P m <;> simp, fun f hf g hg e => ?_⟩
    obtain ⟨i, hi, hP⟩ := mem_all.1 hf
    rw [Option.mem_toList] at hg
    have := hD i m f g hP hg e
    omega
theorem place_of {P : Nat → Option It} {n : Nat} (hD : Dist P) {f : It} (hf : f ∈ allP P n) : ∃ p, p < n ∧ P p = some f ∧ fnd (wI P (f 0)) n 0 = some p := by
  obtain ⟨p, hp, hP⟩ := mem_all.1 hf
  refine ⟨p, hp, hP, fnd_one ?_ (fun j hj => ?_) (Nat.zero_le _) (by omega)⟩
  · show hasO (P p) (f 0) = true
    rw [hP]; exact beq_self_eq_true _
  · have hj : hasO (P j) (f 0) = true := hj
    cases hg : P j with
    | none => rw [hg] at hj; cases hj
    | some g =>
      rw [hg] at hj
      exact hD j p g f hg hP (eq_of_beq hj)
theorem dist_emp {P : Nat → Option It} (hD : Dist P) (w : It → Bool) (m : Nat) : Dist (empP w P m) := by
  have key : ∀ i f, empP w P m i = some f → P i = some f := fun i f h => by
    unfold empP at h
    split at h
    · cases h
    · exact h
  exact fun i j f g hi hj e => hD i j f g (key i f hi) (key j g hj) e
theorem dist_put {P : Nat → Option It} {n : Nat} (hG : Good P n) (hD : Dist P) (f : It) : Dist (putP P n f) := by
  unfold putP
  cases h1 : fnd (wI P (f 0)) n 0 with
  | some k => exact hD
  | none =>
    show Dist (match fnd (wN P) n 0 with | some k => fun j => if j = k then some f else P j | none => P)
    cases hk : fnd (wN P) n 0 with
    | none => exact hD
    | some k =>
      have no : ∀ j g, P j = some g → g 0 ≠ f 0 := fun j g hg e => by
        have hj : j < n := by
          rcases Nat.lt_or_ge j n with h | h
          · exact h
          · rw [hG.2.1 j h] at hg; cases hg
        have := fnd_none h1 j (Nat.zero_le _) (by omega)
        have h2 : hasO (P j) (f 0) = false := this
        rw [hg] at h2
        have h2 : (g 0 == f 0) = false := h2
        rw [e] at h2; simp at h2
      intro i j a b hi hj e
      have hi : (if i = k then some f else P i) = some a := hi
      have hj : (if j = k then some f else P j) = some b := hj
      split at hi <;> split at hj
      · omega
      · cases hi; exact absurd e.symm (no j b hj)
      · cases hj; exact absurd e (no i a hi)
      · exact hD i j a b hi hj e
theorem late_emp {P : Nat → Option It} {n : Nat} {now : Int} {f : It} (h : f ∈ allP (empP (wL now) P n) n) : ¬ f 3 ≤ now := by
  obtain ⟨i, hi, hP⟩ := mem_all.1 h
  unfold empP at hP
  split at hP
  · cases hP
  · rename_i hn
    intro hf
    exact hn ⟨hi, by rw [hP]; exact decide_eq_true hf⟩
theorem mi_get {L : List It} {k : Nat} (h : k < L.length) : (L.map (fun f : It => AV.v (.agg #[.int .i64 (f 0), .int .i64 (f 1), .int .i64 (f 2), .int .i64 (f 3), .int .i64 (f 4), .int .i64 (f 5), .int .i64 (f 6)]))).getD (Int.toNat (k : Int)) .dead = .v (itV L[k]) := by
  rw [Int.toNat_natCast, List.getD_eq_getElem?_getD, List.getElem?_map, List.getElem?_eq_getElem h]; rfl
theorem mi_get2 {L : List It} {k : Nat} (h : k < L.length) : (L.map fun f => AV.v (itV f)).getD (Int.toNat (k : Int)) .dead = .v (itV L[k]) := mi_get h
theorem mi_el {L : List It} {k : Nat} (h : k < L.length) : (0 : Int) ≤ (k : Int) ∧ (L.map (fun f : It => AV.v (.agg #[.int .i64 (f 0), .int .i64 (f 1), .int .i64 (f 2), .int .i64 (f 3), .int .i64 (f 4), .int .i64 (f 5), .int .i64 (f 6)])))[Int.toNat (k : Int)]? = some (.v (itV L[k])) := ⟨Int.natCast_nonneg k, by
  rw [Int.toNat_natCast, List.getElem?_map, List.getElem?_eq_getElem h]; rfl⟩
theorem ac_get {l : List (Nat → Int)} {k : Nat} (h : k < l.length) : (l.map fun a : Nat → Int => AV.v (.agg #[.int .i64 (a 0), .int .i64 (a 1), .int .i64 (a 2), .int .i64 (a 3), .int .i64 (a 4), .int .i64 (a 5), .int .i64 (a 6), .int .i64 (a 7), .int .i64 (a 8)])).getD (Int.toNat (k : Int)) .dead = acV l[k] := by
  rw [Int.toNat_natCast, List.getD_eq_getElem?_getD, List.getElem?_map, List.getElem?_eq_getElem h]; rfl
theorem ac_get2 {l : List (Nat → Int)} {k : Nat} (h : k < l.length) : (l.map acV).getD (Int.toNat (k : Int)) .dead = acV l[k] := ac_get h
theorem ac_el {l : List (Nat → Int)} {k : Nat} (h : k < l.length) : (0 : Int) ≤ (k : Int) ∧ (l.map fun a : Nat → Int => AV.v (.agg #[.int .i64 (a 0), .int .i64 (a 1), .int .i64 (a 2), .int .i64 (a 3), .int .i64 (a 4), .int .i64 (a 5), .int .i64 (a 6), .int .i64 (a 7), .int .i64 (a 8)]))[Int.toNat (k : Int)]? = some (acV l[k]) := ⟨Int.natCast_nonneg k, by
  rw [Int.toNat_natCast, List.getElem?_map, List.getElem?_eq_getElem h]; rfl⟩
end Go.Proofs.Ytjahmiohpcejfaa.AE
namespace Go.Proofs.Ytjahmiohpcejfaa.AE
set_option maxRecDepth 100000
open Go.RowKit
theorem in_bl : (flatten (sub (bodyOf 4) [1, 1, 1, 1, 0, 1, 0, 0, 1, 0, 0, 1, 1, 1, 1, 1, 0, 0, 1, 0, 0, 1, 1, 1, 1, 0, 0])).drop 2 = .block 6 (sub (bodyOf 4) [1, 1, 1, 1, 0, 1, 0, 0, 1, 0, 0, 1, 1, 1, 1, 1, 0, 0, 1, 0, 0, 1, 1, 1, 1, 0, 0, 1, 0, 0]) :: (flatten (sub (bodyOf 4) [1, 1, 1, 1, 0, 1, 0, 0, 1, 0, 0, 1, 1, 1, 1, 1, 0, 0, 1, 0, 0, 1, 1, 1, 1, 0, 0])).drop 3 := by kernel_rfl
theorem mi_b5 : ((flatten (sub (bodyOf 4) [1, 1, 1, 1, 0, 1, 0, 0, 1, 0, 0, 1, 1, 1, 1, 1, 0, 0, 1, 0, 0])).drop 1).drop 4 = [.block 5 (.loop (sub (bodyOf 4) [1, 1, 1, 1, 0, 1, 0, 0, 1, 0, 0, 1, 1, 1, 1, 1, 0, 0, 1, 0, 0, 1, 1, 1, 1, 0, 0]))] := by kernel_rfl
theorem mi_b4 : (flatten (sub (bodyOf 4) [1, 1, 1, 1, 0, 1, 0, 0, 1, 0, 0, 1, 1, 1, 1, 1, 0, 0])).drop 2 = .block 4 (sub (bodyOf 4) [1, 1, 1, 1, 0, 1, 0, 0, 1, 0, 0, 1, 1, 1, 1, 1, 0, 0, 1, 0, 0]) :: (flatten (sub (bodyOf 4) [1, 1, 1, 1, 0, 1, 0, 0, 1, 0, 0, 1, 1, 1, 1, 1, 0, 0])).drop 3 := by kernel_rfl
theorem so_b3 : ((flatten (sub (bodyOf 4) [1, 1, 1, 1, 0, 1, 0, 0, 1, 0, 0])).drop 1).drop 6 = [.block 3 (.loop (sub (bodyOf 4) [1, 1, 1, 1, 0, 1, 0, 0, 1, 0, 0, 1, 1, 1, 1, 1, 0, 0]))] := by kernel_rfl
theorem so_b1 : (flatten (sub (bodyOf 4) [1, 1, 1, 1, 0, 1, 0, 0])).drop 2 = .block 1 (sub (bodyOf 4) [1, 1, 1, 1, 0, 1, 0, 0, 1, 0, 0]) :: (flatten (sub (bodyOf 4) [1, 1, 1, 1, 0, 1, 0, 0])).drop 3 := by kernel_rfl
theorem so_b0 : (flatten (bodyOf 4)).drop 6 = .block 0 (.loop (sub (bodyOf 4) [1, 1, 1, 1, 0, 1, 0, 0])) :: (flatten (bodyOf 4)).drop 7 := by kernel_rfl
theorem so_inner (l : List (Nat → Int)) (P : Nat → Option It) (n : Nat) (a : Nat → Int) (i : Int) (L : List It) (X : It) (hL : L.length ≤ 16) (hw : L.Pairwise fun f g => f 0 ≠ g 0) {k : Nat} (hk : k < L.length) {Q : Exit → List AV → AH → Prop}
    (hQ : ∀ j : Nat, Q .normal (oA l (.v (.bool false)) (gi n) (gi 0) (gi i) (.ptr 1 0) (mis L) (gi k) .dead .dead .dead .dead (gi j)) (hp [(60, enc P n), (32, acC a), (30, itC X)] [])) :
    Tr Try.prog nro (.block 5 (.loop (sub (bodyOf 4) [1, 1, 1, 1, 0, 1, 0, 0, 1, 0, 0, 1, 1, 1, 1, 1, 0, 0, 1, 0, 0, 1, 1, 1, 1, 0, 0]))) (oA l (.v (.bool false)) (gi n) (gi 0) (gi i) (.ptr 1 0) (mis L) (gi k) .dead .dead .dead .dead (gi 0)) (hp [(60, enc P n), (32, acC a), (30, itC X)] []) Q := by
  let I : Nat → List AV → AH → Prop := fun m act H => ∃ j : Nat, j ≤ k ∧ m = k - j ∧ act = (oA l (.v (.bool false)) (gi n) (gi 0) (gi i) (.ptr 1 0) (mis L) (gi k) .dead .dead .dead .dead (gi j)) ∧ H = (hp [(60, enc P n), (32, acC a), (30, itC X)] [])
  refine Tr.block (Tr.loop I ?_ (m := k) ⟨0, Nat.zero_le _, rfl, rfl, rfl⟩)
  rintro m act H ⟨j, hj, rfl, rfl, rfl⟩
  refine Tr.of_flat (Trl.split 2 (Trl.of_code (mu := fun _ => false) (known_none _) (neN (by kernel_rfl)) (in_hd l 60 (enc P n) a false n i L X k j _) (holds_bif (fun h1 => ⟨trivial, ?_⟩) fun h1 => ⟨trivial, ?_⟩)))
  · have h1 : j < k := by have := of_decide_eq_true h1; omega
    have hj : j < L.length := by omega
    show Trl _ _ ((flatten (sub (bodyOf 4) [1, 1, 1, 1, 0, 1, 0, 0, 1, 0, 0, 1, 1, 1, 1, 1, 0, 0, 1, 0, 0, 1, 1, 1, 1, 0, 0])).drop 2) _ _ _
    rw [in_bl]
    have body := fun R => in_b l 60 (enc P n) a false n i L X k j R
    simp only [mi_get hj, mi_get hk] at body
    refine Tr.block (Tr.of_code (mu := fun _ => false) (known_none _) (body _) (holds_bif (fun h2 => ?_) fun h2 => ⟨?_, ?_⟩))
    · have h2 : L[j] 0 = L[k] 0 := eq_of_beq h2
      exact absurd h2 (List.pairwise_iff_getElem.1 hw j k hj hk h1)
    · repeat' first
        | with_reducible exact trivial
        | with_reducible refine cdb_iff.2 ⟨?_, ?_⟩
        | refine cds_of ?_ (mi_el hj)
        | refine cds_of ?_ (mi_el hk)
    · show Trl _ _ ((flatten (sub (bodyOf 4) [1, 1, 1, 1, 0, 1, 0, 0, 1, 0, 0, 1, 1, 1, 1, 1, 0, 0, 1, 0, 0, 1, 1, 1, 1, 0, 0])).drop 3) (oA l (.v (.bool false)) (gi n) (gi 0) (gi i) (.ptr 1 0) (mis L) (gi k) .dead .dead .dead .dead (gi j)) (hp [(60, enc P n), (32, acC a), (30, itC X)] []) _
      refine Trl.of_code (mu := fun _ => false) (known_none _) (neN (by kernel_rfl)) (in_28 l 60 (enc P n) a false n i L X k j _) ⟨trivial, k - (j + 1), by omega, j + 1, by omega, rfl, ?_, rfl⟩
      rw [wr1 j (by omega)]; rfl
  · exact hQ j
end Go.Proofs.Ytjahmiohpcejfaa.AE
namespace Go.Proofs.Ytjahmiohpcejfaa.AE
set_option maxRecDepth 100000
open Go.RowKit
theorem lows_enc2 (a b : Nat) (P : Nat → Option It) (n : Nat) (t : TypeId) (c : Nat → Int) (more : List (TypeId × List AV)) : (List.take 2 ((60, stC (fun j => pcA (P j)) n) :: (t, acC c) :: more)).all (fun z => lows a b z.2) = true := by
  show (lows a b (stC (fun j => pcA (P j)) n) && (lows a b (acC c) && true)) = true
  have h1 : lows a b (stC (fun j => pcA (P j)) n) = true := by
    unfold stC
    simp only [lows, lows_pc, Bool.true_and, Bool.and_true]
    rfl
  rw [h1]; rfl
theorem beq7 {x : It} {y : It} (h : ∀ i, x i = y i) : (x 0 == y 0 && (x 1 == y 1 && (x 2 == y 2 && (x 3 == y 3 && (x 4 == y 4 && (x 5 == y 5 && (x 6 == y 6 && true))))))) = true := by
  simp only [h, beq_self_eq_true, Bool.true_and]
theorem so_mloop (l : List (Nat → Int)) {P : Nat → Option It} {n : Nat} (hG : Good P n) (hD : Dist P) (a : Nat → Int) (i : Int) (L : List It) (hL : allP P n = L) (hT : a 0 = 2 → ∀ f ∈ L, ¬ f 3 ≤ a 1) {Q : Exit → List AV → AH → Prop}
    (hQ : ∀ k : Nat, Q .normal (oA l (.v (.bool false)) (gi n) (gi 0) (gi i) (.ptr 1 0) (mis L) (gi k) .dead .dead .dead .dead .dead) (hp [(60, enc P n), (32, acC a)] [])) :
    Tr Try.prog nro (.block 3 (.loop (sub (bodyOf 4) [1, 1, 1, 1, 0, 1, 0, 0, 1, 0, 0, 1, 1, 1, 1, 1, 0, 0]))) (oA l (.v (.bool false)) (gi n) (gi 0) (gi i) (.ptr 1 0) (mis L) (gi 0) .dead .dead .dead .dead .dead) (hp [(60, enc P n), (32, acC a)] []) Q := by
  have hn := hG.1
  have hl : L.length ≤ 16 := by rw [← hL]; exact Nat.le_trans (allP_len P n) hn
  have hw : L.Pairwise fun f g => f 0 ≠ g 0 := by rw [← hL]; exact dist_pw hD n
  have ok0 : (tsX.s.ok 60 (enc P n) && ((plainC (enc P n) && true) && (plainC (enc P n) && true))) = true := by rw [x_ok hG, x_pl]; rfl
  let I : Nat → List AV → AH → Prop := fun m act H => ∃ k : Nat, k ≤ L.length ∧ m = L.length - k ∧ act = (oA l (.v (.bool false)) (gi n) (gi 0) (gi i) (.ptr 1 0) (mis L) (gi k) .dead .dead .dead .dead .dead) ∧ H = (hp [(60, enc P n), (32, acC a)] [])
  refine Tr.block (Tr.loop I ?_ (m := L.length) ⟨0, Nat.zero_le _, rfl, rfl, rfl⟩)
  rintro m act H ⟨k, hk, rfl, rfl, rfl⟩
  refine Tr.forget 2 0 (Nat.le_refl _) (Nat.le_refl _) (Tr.of_flat (Trl.split 2 (Trl.of_code (mu := fun _ => false) (known_none _) (neN (by kernel_rfl)) (mi_hd l 60 (enc P n) a false n i L k _) (holds_bif (fun h1 => ⟨trivial, ?_⟩) fun h1 => ⟨trivial, ?_⟩))))
  · have h1 : k < L.length := by
      have h1 : (k : Int) < ((L.map fun f => AV.v (itV f)).length : Nat) := of_decide_eq_true h1
      rw [List.length_map] at h1; omega
    obtain ⟨p, hpn, hP, hF⟩ := place_of hD (n := n) (f := L[k]) (by rw [hL]; exact List.getElem_mem h1)
    show Trl _ _ ((flatten (sub (bodyOf 4) [1, 1, 1, 1, 0, 1, 0, 0, 1, 0, 0, 1, 1, 1, 1, 1, 0, 0])).drop 2) _ _ _
    rw [mi_b4]
    have body := fun R => mi_22 tsX l 60 (enc P n) a false n i L k R
    simp only [mi_get h1, mi_get2 h1] at body
    refine Tr.block (Tr.of_flat (Trl.split 1 (Trl.of_code (mu := fun _ => false) knownX (neN (by kernel_rfl)) (body _) ⟨cdb_iff.2 ⟨cds_of trivial (mi_el h1), ok0⟩, ?_⟩)))
    have eN : tsX.s.iN (enc P n) (L[k] 0) = (p : Int) := by
      show (((fnd (wI (decP (enc P n)) (L[k] 0)) (decN (enc P n)) 0).getD 0 : Nat) : Int) = _
      rw [(dec_enc hG).1, (dec_enc hG).2, hF]; rfl
    have eB : tsX.s.iB (enc P n) (L[k] 0) = true := by rw [x_iB hG, hF]; rfl
    show Trl _ _ ((flatten (sub (bodyOf 4) [1, 1, 1, 1, 0, 1, 0, 0, 1, 0, 0, 1, 1, 1, 1, 1, 0, 0, 1, 0, 0])).drop 1) (oA l (.v (.bool false)) (gi n) (gi 0) (gi i) (.ptr 1 0) (mis L) (gi k) (gi (tsX.s.iN (enc P n) (L[k] 0))) (.v (.bool (tsX.s.iB (enc P n) (L[k] 0)))) .dead .dead .dead) (hp [(60, enc P n), (32, acC a)] []) _
    rw [eN, eB]
    have body2 := fun R => mi_23 tsX l 60 (enc P n) a false true n i L k p R
    simp only [mi_get h1] at body2
    have hA : ∀ j, tsX.aF (enc P n) p j = L[k] j := fun j => by rw [x_aF hG, atO_in hpn, hP]; rfl
    refine Trl.split 4 (Trl.of_code (mu := fun _ => false) knownX (neN (by kernel_rfl)) (body2 _) (holds_bif (fun h2 => ?_) fun _ => holds_bif (fun h2 => ?_) fun _ => holds_bif (fun h2 => ?_) fun _ => holds_bif (fun h3 => holds_bif (fun h4 => ?_) fun h4 => ⟨?_, ?_⟩) fun h3 => ⟨?_, ?_⟩))
    · cases h2
    · rw [x_aB hG, atO_in hpn, hP] at h2; cases h2
    · have h2 : (!(tsX.aF (enc P n) p 0 == L[k] 0 && (tsX.aF (enc P n) p 1 == L[k] 1 && (tsX.aF (enc P n) p 2 == L[k] 2 && (tsX.aF (enc P n) p 3 == L[k] 3 && (tsX.aF (enc P n) p 4 == L[k] 4 && (tsX.aF (enc P n) p 5 == L[k] 5 && (tsX.aF (enc P n) p 6 == L[k] 6 && true)))))))) = true := h2
      rw [beq7 (x := fun j => tsX.aF (enc P n) p j) hA] at h2; cases h2
    · rw [hA 3] at h4
      exact absurd (of_decide_eq_true h4) (hT (eq_of_beq h3) _ (List.getElem_mem h1))
    all_goals first
      | (repeat' first
          | with_reducible exact trivial
          | with_reducible refine cdb_iff.2 ⟨?_, ?_⟩
          | refine cds_of ?_ (mi_el h1)
          | exact ok0
         done)
      | (show Trl _ _ (((flatten (sub (bodyOf 4) [1, 1, 1, 1, 0, 1, 0, 0, 1, 0, 0, 1, 1, 1, 1, 1, 0, 0, 1, 0, 0])).drop 1).drop 4) (oA l (.v (.bool false)) (gi n) (gi 0) (gi i) (.ptr 1 0) (mis L) (gi k) .dead .dead .dead .dead (gi 0)) (hp [(60, enc P n), (32, acC a), (30, itC fun j => tsX.aF (enc P n) p j)] []) _
         rw [mi_b5]
         refine so_inner l P n a i L _ hl hw h1 (fun j => ?_)
         show Trl _ _ ((flatten (sub (bodyOf 4) [1, 1, 1, 1, 0, 1, 0, 0, 1, 0, 0, 1, 1, 1, 1, 1, 0, 0])).drop 3) _ _ _
         refine Trl.of_code (mu := fun _ => false) (known_none _) (neN (by kernel_rfl)) (mi_21 l 60 (enc P n) a false n i L _ k j _) ⟨trivial, by kernel_rfl, lows_enc2 .., L.length - (k + 1), by omega, k + 1, by omega, rfl, ?_, rfl⟩
         rw [wr1 k (by omega)]; rfl)
  · exact ⟨by kernel_rfl, lows_enc2 .., hQ k⟩
end Go.Proofs.Ytjahmiohpcejfaa.AE
namespace Go.Proofs.Ytjahmiohpcejfaa.AE
set_option maxRecDepth 100000
open Go.RowKit
theorem so_round (l : List (Nat → Int)) {P : Nat → Option It} {n : Nat} (hG : Good P n) (hD : Dist P) (a : Nat → Int) (k : Nat) {L : List It} (hL : allP P n = L) (hT : a 0 = 2 → ∀ f ∈ L, ¬ f 3 ≤ a 1) {Q : Exit → List AV → AH → Prop}
    (hQ : ∀ (P : Nat → Option It) (L : List It) (j : Nat), Good P n → Dist P → Q .normal (oA l (.v (.bool false)) (gi n) (gi 0) (gi k) (.ptr 1 0) (mis L) (gi j) .dead .dead .dead .dead .dead) (hp [(60, enc P n), (32, acC a)] [])) :
    Trl Try.prog nro (((flatten (sub (bodyOf 4) [1, 1, 1, 1, 0, 1, 0, 0, 1, 0, 0])).drop 1).drop 6) (oA l (.v (.bool false)) (gi n) (gi 0) (gi k) (.ptr 1 0) (mis L) (gi 0) .dead .dead .dead .dead .dead) (hp [(60, enc P n), (32, acC a)] []) Q := by
  rw [so_b3]
  exact so_mloop l hG hD a k L hL hT fun j => hQ P L j hG hD
theorem itOk_a (a : Nat → Int) : itOk #[.int .i64 (a 2), .int .i64 (a 3), .int .i64 (a 4), .int .i64 (a 5), .int .i64 (a 6), .int .i64 (a 7), .int .i64 (a 8)] = true := rfl
theorem uO_a (a : Nat → Int) : tsX.uO #[.int .i64 (a 2), .int .i64 (a 3), .int .i64 (a 4), .int .i64 (a 5), .int .i64 (a 6), .int .i64 (a 7), .int .i64 (a 8)] = true := rfl
theorem so_step (l : List (Nat → Int)) {P : Nat → Option It} {n : Nat} (hG : Good P n) (hD : Dist P) (a : Nat → Int) (k : Nat) {Q : Exit → List AV → AH → Prop}
    (hQ : ∀ (P : Nat → Option It) (L : List It) (j : Nat), Good P n → Dist P → Q .normal (oA l (.v (.bool false)) (gi n) (gi 0) (gi k) (.ptr 1 0) (mis L) (gi j) .dead .dead .dead .dead .dead) (hp [(60, enc P n), (32, acC a)] [])) :
    Trl Try.prog nro ((flatten (sub (bodyOf 4) [1, 1, 1, 1, 0, 1, 0, 0, 1, 0, 0])).drop 1) (oA l (.v (.bool false)) (gi n) (gi 0) (gi k) (.ptr 1 0) .dead .dead .dead .dead .dead .dead .dead) (hp [(60, enc P n), (32, acC a)] []) Q := by
  have plE : plainC (enc P n) = true := enc_P
  have hn := hG.1
  have e1 : tsX.uC (enc P n) #[.int .i64 (a 2), .int .i64 (a 3), .int .i64 (a 4), .int .i64 (a 5), .int .i64 (a 6), .int .i64 (a 7), .int .i64 (a 8)] = enc (putP P n (itD #[.int .i64 (a 2), .int .i64 (a 3), .int .i64 (a 4), .int .i64 (a 5), .int .i64 (a 6), .int .i64 (a 7), .int .i64 (a 8)])) n := by
    show enc (putP (decP (enc P n)) (decN (enc P n)) _) (decN (enc P n)) = _
    rw [(dec_enc hG).1, (dec_enc hG).2]
  have hf := (itOk_out (itOk_a a)).2
  have body := fun R => so_mid tsX l 60 (enc P n) a false n k R
  simp only [e1, x_tC hG, x_lC hG, x_all hG, x_all (good_put hG hf), x_all (good_emp hG _ _), x_fr hG, x_fr (good_put hG hf), x_fr (good_emp hG _ _)] at body
  refine Trl.split 6 (Trl.of_code (mu := fun _ => false) knownX (neN (by kernel_rfl)) (body _) (holds_bif (fun h1 => ?_) fun h0 => holds_bif (fun h1 => ?_) fun h1' => holds_bif (fun h1 => ?_) fun h1 => ?_))
  · -- Put
    have hG2 : Good (putP P n (itD #[.int .i64 (a 2), .int .i64 (a 3), .int .i64 (a 4), .int .i64 (a 5), .int .i64 (a 6), .int .i64 (a 7), .int .i64 (a 8)])) n := good_put hG hf
    have hD2 : Dist (putP P n (itD #[.int .i64 (a 2), .int .i64 (a 3), .int .i64 (a 4), .int .i64 (a 5), .int .i64 (a 6), .int .i64 (a 7), .int .i64 (a 8)])) := dist_put hG hD _
    have pl2 : plainC (enc (putP P n (itD #[.int .i64 (a 2), .int .i64 (a 3), .int .i64 (a 4), .int .i64 (a 5), .int .i64 (a 6), .int .i64 (a 7), .int .i64 (a 8)])) n) = true := enc_P
    have len2 := allP_len (putP P n (itD #[.int .i64 (a 2), .int .i64 (a 3), .int .i64 (a 4), .int .i64 (a 5), .int .i64 (a 6), .int .i64 (a 7), .int .i64 (a 8)])) n
    refine holds_bif (fun h2 => ?_) fun _ => holds_bif (fun h2 => ?_) fun _ => ⟨?_, ?_⟩
    · have h2 : (n : Int) < (((allP (putP P n (itD #[.int .i64 (a 2), .int .i64 (a 3), .int .i64 (a 4), .int .i64 (a 5), .int .i64 (a 6), .int .i64 (a 7), .int .i64 (a 8)])) n).map fun f => AV.v (itV f)).length : Nat) := of_decide_eq_true h2
      rw [List.length_map] at h2; omega
    · have h2 : ((n : Int) - (allP (putP P n (itD #[.int .i64 (a 2), .int .i64 (a 3), .int .i64 (a 4), .int .i64 (a 5), .int .i64 (a 6), .int .i64 (a 7), .int .i64 (a 8)])) n).length != IntKind.wrap .i64 ((n : Int) - (((allP (putP P n (itD #[.int .i64 (a 2), .int .i64 (a 3), .int .i64 (a 4), .int .i64 (a 5), .int .i64 (a 6), .int .i64 (a 7), .int .i64 (a 8)])) n).map fun f => AV.v (itV f)).length : Nat))) = true := h2
      rw [List.length_map, wr0 _ (by omega) (by omega)] at h2
      simp at h2
    · simp only [x_ok hG, x_ok hG2, plE, pl2, uO_a, Bool.and_true, cdb_iff, and_true]
    · exact so_round l hG2 hD2 a k rfl (fun e => by rw [e] at h1; cases h1) hQ

  · -- Take
    have hG2 : Good (empP (wT (a 2)) P n) n := good_emp hG _ _
    have hD2 : Dist (empP (wT (a 2)) P n) := dist_emp hD _ _
    have pl2 : plainC (enc (empP (wT (a 2)) P n) n) = true := enc_P
    have len2 := allP_len (empP (wT (a 2)) P n) n
    refine holds_bif (fun h2 => ?_) fun _ => holds_bif (fun h2 => ?_) fun _ => ⟨?_, ?_⟩
    · have h2 : (n : Int) < (((allP (empP (wT (a 2)) P n) n).map fun f => AV.v (itV f)).length : Nat) := of_decide_eq_true h2
      rw [List.length_map] at h2; omega
    · have h2 : ((n : Int) - (allP (empP (wT (a 2)) P n) n).length != IntKind.wrap .i64 ((n : Int) - (((allP (empP (wT (a 2)) P n) n).map fun f => AV.v (itV f)).length : Nat))) = true := h2
      rw [List.length_map, wr0 _ (by omega) (by omega)] at h2
      simp at h2
    · simp only [x_ok hG, x_ok hG2, plE, pl2, Bool.and_true, cdb_iff, and_true]
    · exact so_round l hG2 hD2 a k rfl (fun e => by rw [e] at h1; cases h1) hQ

  · -- Late
    have hG2 : Good (empP (wL (a 1)) P n) n := good_emp hG _ _
    have hD2 : Dist (empP (wL (a 1)) P n) := dist_emp hD _ _
    have pl2 : plainC (enc (empP (wL (a 1)) P n) n) = true := enc_P
    have len2 := allP_len (empP (wL (a 1)) P n) n
    refine holds_bif (fun h2 => ?_) fun _ => holds_bif (fun h2 => ?_) fun _ => ⟨?_, ?_⟩
    · have h2 : (n : Int) < (((allP (empP (wL (a 1)) P n) n).map fun f => AV.v (itV f)).length : Nat) := of_decide_eq_true h2
      rw [List.length_map] at h2; omega
    · have h2 : ((n : Int) - (allP (empP (wL (a 1)) P n) n).length != IntKind.wrap .i64 ((n : Int) - (((allP (empP (wL (a 1)) P n) n).map fun f => AV.v (itV f)).length : Nat))) = true := h2
      rw [List.length_map, wr0 _ (by omega) (by omega)] at h2
      simp at h2
    · simp only [x_ok hG, x_ok hG2, plE, pl2, Bool.and_true, cdb_iff, and_true]
    · exact so_round l hG2 hD2 a k rfl (fun _ f hf => late_emp hf) hQ

  · -- else
    have hG2 : Good (P) n := hG
    have hD2 : Dist (P) := hD
    have pl2 : plainC (enc (P) n) = true := enc_P
    have len2 := allP_len (P) n
    refine holds_bif (fun h2 => ?_) fun _ => holds_bif (fun h2 => ?_) fun _ => ⟨?_, ?_⟩
    · have h2 : (n : Int) < (((allP (P) n).map fun f => AV.v (itV f)).length : Nat) := of_decide_eq_true h2
      rw [List.length_map] at h2; omega
    · have h2 : ((n : Int) - (allP (P) n).length != IntKind.wrap .i64 ((n : Int) - (((allP (P) n).map fun f => AV.v (itV f)).length : Nat))) = true := h2
      rw [List.length_map, wr0 _ (by omega) (by omega)] at h2
      simp at h2
    · simp only [x_ok hG, plE, Bool.and_true, cdb_iff, and_true]
    · exact so_round l hG2 hD2 a k rfl (fun e => by rw [e] at h1; cases h1) hQ
end Go.Proofs.Ytjahmiohpcejfaa.AE
namespace Go.Proofs.Ytjahmiohpcejfaa.AE
set_option maxRecDepth 100000
open Go.RowKit
theorem lows_enc1 (a b : Nat) (P : Nat → Option It) (n : Nat) (more : List (TypeId × List AV)) : (List.take 1 ((60, stC (fun j => pcA (P j)) n) :: more)).all (fun z => lows a b z.2) = true := by
  show (lows a b (stC (fun j => pcA (P j)) n) && true) = true
  have h1 : lows a b (stC (fun j => pcA (P j)) n) = true := by
    unfold stC
    simp only [lows, lows_pc, Bool.true_and, Bool.and_true]
    rfl
  rw [h1]; rfl
theorem so_loop (l : List (Nat → Int)) (hl : l.length ≤ 100) {P : Nat → Option It} {n : Nat} (hG : Good P n) (hD : Dist P) {Q : Exit → List AV → AH → Prop}
    (hQ : ∀ (P : Nat → Option It) (k : Nat), Q .normal (oA l (.v (.bool false)) (gi n) (gi 0) (gi k) .dead .dead .dead .dead .dead .dead .dead .dead) (hp [(60, enc P n)] [])) :
    Tr Try.prog nro (.block 0 (.loop (sub (bodyOf 4) [1, 1, 1, 1, 0, 1, 0, 0]))) (oA l (.v (.bool false)) (gi n) (gi 0) (gi 0) .dead .dead .dead .dead .dead .dead .dead .dead) (hp [(60, enc P n)] []) Q := by
  let I : Nat → List AV → AH → Prop := fun m act H => ∃ (k : Nat) (P : Nat → Option It), k ≤ l.length ∧ Good P n ∧ Dist P ∧ m = l.length - k ∧ act = (oA l (.v (.bool false)) (gi n) (gi 0) (gi k) .dead .dead .dead .dead .dead .dead .dead .dead) ∧ H = (hp [(60, enc P n)] [])
  refine Tr.block (Tr.loop I ?_ (m := l.length) ⟨0, P, Nat.zero_le _, hG, hD, rfl, rfl, rfl⟩)
  clear hG hD P
  rintro m act H ⟨k, P, hk, hG, hD, rfl, rfl, rfl⟩
  refine Tr.forget 1 0 (Nat.le_refl _) (Nat.le_refl _) (Tr.of_flat (Trl.split 2 (Trl.of_code (mu := fun _ => false) (known_none _) (neN (by kernel_rfl)) (so_hd l 60 (enc P n) false n k _) (holds_bif (fun h1 => ⟨trivial, ?_⟩) fun h1 => ⟨trivial, ?_⟩))))
  · have h1 : k < l.length := by
      have h1 : (k : Int) < ((l.map acV).length : Nat) := of_decide_eq_true h1
      rw [List.length_map] at h1; omega
    show Trl _ _ ((flatten (sub (bodyOf 4) [1, 1, 1, 1, 0, 1, 0, 0])).drop 2) _ _ _
    rw [so_b1]
    have body := fun R => so_r8 l 60 (enc P n) false n k R
    simp only [ac_get h1, ac_get2 h1] at body
    refine Tr.block (Tr.of_flat (Trl.split 1 (Trl.of_code (mu := fun _ => false) (known_none _) (neN (by kernel_rfl)) (body _) ⟨cds_of trivial (ac_el h1), ?_⟩)))
    refine so_step l hG hD l[k] k (fun P L j hG hD => ?_)
    show Trl _ _ ((flatten (sub (bodyOf 4) [1, 1, 1, 1, 0, 1, 0, 0])).drop 3) _ _ _
    refine Trl.of_code (mu := fun _ => false) (known_none _) (neN (by kernel_rfl)) (so_r7 l 60 (enc P n) l[k] L j false n k _) ⟨trivial, by kernel_rfl, lows_enc1 .., l.length - (k + 1), by omega, k + 1, P, by omega, hG, hD, rfl, ?_, rfl⟩
    rw [wr1 k (by omega)]; rfl
  · exact ⟨by kernel_rfl, lows_enc1 .., hQ P k⟩
theorem n16 (w : Int) : ∃ m : Nat, 1 ≤ m ∧ m ≤ 16 ∧ IntKind.wrap .i64 (1 + IntKind.wrap .i64 (IntKind.wrap .u8 (((BitVec.ofInt (IntKind.bits .u8) w &&& BitVec.ofInt (IntKind.bits .u8) 15).toFin.1 : Nat) : Int))) = (m : Int) := by
  have key : ∀ x : Nat, x ≤ 15 → IntKind.wrap .i64 (1 + IntKind.wrap .i64 (IntKind.wrap .u8 (x : Int))) = ((1 + x : Nat) : Int) := by
    intro x hx
    rcases (by omega : x = 0 ∨ x = 1 ∨ x = 2 ∨ x = 3 ∨ x = 4 ∨ x = 5 ∨ x = 6 ∨ x = 7 ∨ x = 8 ∨ x = 9 ∨ x = 10 ∨ x = 11 ∨ x = 12 ∨ x = 13 ∨ x = 14 ∨ x = 15) with rfl | rfl | rfl | rfl | rfl | rfl | rfl | rfl | rfl | rfl | rfl | rfl | rfl | rfl | rfl | rfl <;> rfl
  have hx : ((BitVec.ofInt (IntKind.bits .u8) w &&& BitVec.ofInt (IntKind.bits .u8) 15).toFin.1 : Nat) ≤ 15 := by
    show (BitVec.ofInt (IntKind.bits .u8) w &&& BitVec.ofInt (IntKind.bits .u8) 15).toNat ≤ 15
    rw [BitVec.toNat_and]
    exact Nat.le_trans Nat.and_le_right (by decide)
  exact ⟨1 + ((BitVec.ofInt (IntKind.bits .u8) w &&& BitVec.ofInt (IntKind.bits .u8) 15).toFin.1 : Nat), by omega, by omega, key _ hx⟩
theorem so_sl : slotsOf 4 = 145 := by kernel_rfl
theorem so_re : resultsOf 4 = [.tmp 4] := by kernel_rfl
def P0 : Nat → Option It := fun _ => none
theorem fs_once (w : Int) (l : List (Nat → Int)) : Fs Try.prog nro 4 [.v (.int .u8 w), acs l] (hp [] []) fun r _ => r = .v (.bool true) := by
  refine Fs.of_body (has_fn (by kernel_rfl)) ?_
  rw [so_sl, so_re]
  obtain ⟨n, hn1, hn2, hn⟩ := n16 w
  have pre := fun R => so_pre tsX w l R
  simp only [hn] at pre
  refine Tr.of_flat (Trl.split 6 (Trl.of_code (mu := fun _ => false) knownX (neN (by kernel_rfl)) (pre _) (holds_bif (fun h0 => ⟨trivial, .inr rfl, trivial, rfl⟩) fun h0 => holds_bif (fun h1 => ?_) fun h1 => holds_bif (fun h2 => ?_) fun h2 => ⟨trivial, ?_⟩)))
  · have := of_decide_eq_true h1; omega
  · have := of_decide_eq_true h2; omega
  · have hl : l.length ≤ 100 := by
      have h0 : ¬ (100 : Int) < ((l.map acV).length : Nat) := of_decide_eq_false h0
      rw [List.length_map] at h0; omega
    show Trl _ _ ((flatten (bodyOf 4)).drop 6) _ _ _
    rw [so_b0]
    have hG : Good P0 n := ⟨hn2, fun _ _ => rfl, fun i f h => by cases h⟩
    have hD : Dist P0 := fun i j f g h => by cases h
    refine so_loop l hl hG hD (fun P k => ?_)
    exact Trl.of_code (mu := fun _ => false) knownX (neN (by kernel_rfl)) (so_post tsX l 60 (enc P n) false n k _) ⟨trivial, .inr rfl, trivial, rfl⟩
end Go.Proofs.Ytjahmiohpcejfaa.AE
namespace Go.Proofs.Ytjahmiohpcejfaa
set_option maxRecDepth 100000
open Go.RowKit
theorem fldn_in {H : Type} {enc : TypeId × Value → H} {w : World} {t e : TypeId} {a : Option Addr} {len cap d2 k : Nat} {d : DataW H} {p : List MemPlace}
    (ht : Try.prog.underlying t = some (.slice e)) (ha : allInts Try.prog d2 e = true) (hC : Try.prog.cellsOf e = k) (hk : 0 < k)
    (h : DataW.Trod enc Try.prog w 0 (fun _ => true) true t (.slice a len cap) d p) :
    ∃ f : Nat → Nat → Int, Fld w a len k f ∧ len ≤ cap ∧ cap ≤ maxLen := by
  obtain ⟨fuel, hf⟩ := h
  rcases Deep.open_slice ht hf with ⟨hcs, _⟩ | ⟨x, l, c, m, n, D, Pl, hcs, hb, hl, hm, hmm, hx, hi⟩
  · simp [Value.cells] at hcs
    obtain ⟨rfl, rfl, rfl⟩ := hcs
    exact ⟨fun _ _ => 0, fun h => absurd h (by omega), Nat.le_refl _, Nat.zero_le _⟩
  · simp [Value.cells] at hcs
    obtain ⟨rfl, rfl, rfl⟩ := hcs
    have hmc : m = cap := by simpa using hmm
    subst hmc
    have cell : ∀ i j, i < len → j < k → ∃ z : Int, w.cell? (x.add (i * k + j)) = some (.int .i64 z) := by
      intro i j hil hj
      obtain ⟨cs', hc, ht'⟩ := hi i (by omega)
      rw [hC] at hc
      obtain ⟨l', g1, g2, g3⟩ := trod_ints d2 e _ _ _ ha ht'
      obtain ⟨_, hcl, hat⟩ := World.cells?_some hc
      have hjl : j < l'.length := by rw [g2, hC]; exact hj
      refine ⟨l'[j], ?_⟩
      rw [← Deep.add_add, hat j hj, g1, List.getElem?_map, List.getElem?_eq_getElem hjl]
      rfl
    refine ⟨fun i j => if h : i < len ∧ j < k then Classical.choose (cell i j h.1 h.2) else 0, fun hlen => ?_, hl, hm⟩
    have h0 := Classical.choose_spec (cell 0 0 hlen hk)
    obtain ⟨b, off, spot⟩ := x
    have hspot : spot = none := by simpa [Addr.add] using World.cell?_spot h0
    subst hspot
    refine ⟨b, off, rfl, fun i j hi hj => ?_⟩
    have h1 := Classical.choose_spec (cell i j hi hj)
    dsimp only
    rw [dif_pos ⟨hi, hj⟩, ← h1, Go.WideShapes.add_plain, Nat.add_assoc]
end Go.Proofs.Ytjahmiohpcejfaa
namespace Go.Proofs.Ytjahmiohpcejfaa
set_option maxRecDepth 100000
open Go.RowKit AE
def acF (f : Nat → Nat → Int) (n : Nat) : List (Nat → Int) := (List.range n).map f
def acK (f : Nat → Nat → Int) (j : Nat) : Value := .int .i64 (f (j / 9) (j % 9))
theorem acF_cells (f : Nat → Nat → Int) : ∀ n, ((acF f n).map acV).flatMap AV.cells = ((List.range (n * 9)).map (acK f)).map AV.v
  | 0 => rfl
  | n + 1 => by
    have ih := acF_cells f n
    have e : acF f (n + 1) = acF f n ++ [f n] := by unfold acF; rw [List.range_succ, List.map_append]; rfl
    have r : List.range ((n + 1) * 9) = List.range (n * 9) ++ [n * 9, n * 9 + 1, n * 9 + 2, n * 9 + 3, n * 9 + 4, n * 9 + 5, n * 9 + 6, n * 9 + 7, n * 9 + 8] := by
      rw [show (n + 1) * 9 = n * 9 + 1 + 1 + 1 + 1 + 1 + 1 + 1 + 1 + 1 by omega]
      simp only [List.range_succ, List.append_assoc, List.cons_append, List.nil_append, Nat.add_assoc]
    rw [e, List.map_append, List.flatMap_append, ih, r, List.map_append, List.map_append]
    congr 1
    have d0 : acK f (n * 9) = .int .i64 (f n 0) := by unfold acK; rw [show n * 9 / 9 = n by omega, show n * 9 % 9 = 0 by omega]
    have d1 : acK f (n * 9 + 1) = .int .i64 (f n 1) := by unfold acK; rw [show (n * 9 + 1) / 9 = n by omega, show (n * 9 + 1) % 9 = 1 by omega]
    have d2 : acK f (n * 9 + 2) = .int .i64 (f n 2) := by unfold acK; rw [show (n * 9 + 2) / 9 = n by omega, show (n * 9 + 2) % 9 = 2 by omega]
    have d3 : acK f (n * 9 + 3) = .int .i64 (f n 3) := by unfold acK; rw [show (n * 9 + 3) / 9 = n by omega, show (n * 9 + 3) % 9 = 3 by omega]
    have d4 : acK f (n * 9 + 4) = .int .i64 (f n 4) := by unfold acK; rw [show (n * 9 + 4) / 9 = n by omega, show (n * 9 + 4) % 9 = 4 by omega]
    have d5 : acK f (n * 9 + 5) = .int .i64 (f n 5) := by unfold acK; rw [show (n * 9 + 5) / 9 = n by omega, show (n * 9 + 5) % 9 = 5 by omega]
    have d6 : acK f (n * 9 + 6) = .int .i64 (f n 6) := by unfold acK; rw [show (n * 9 + 6) / 9 = n by omega, show (n * 9 + 6) % 9 = 6 by omega]
    have d7 : acK f (n * 9 + 7) = .int .i64 (f n 7) := by unfold acK; rw [show (n * 9 + 7) / 9 = n by omega, show (n * 9 + 7) % 9 = 7 by omega]
    have d8 : acK f (n * 9 + 8) = .int .i64 (f n 8) := by unfold acK; rw [show (n * 9 + 8) / 9 = n by omega, show (n * 9 + 8) % 9 = 8 by omega]
    show _ = [AV.v (acK f (n * 9)), AV.v (acK f (n * 9 + 1)), AV.v (acK f (n * 9 + 2)), AV.v (acK f (n * 9 + 3)), AV.v (acK f (n * 9 + 4)), AV.v (acK f (n * 9 + 5)), AV.v (acK f (n * 9 + 6)), AV.v (acK f (n * 9 + 7)), AV.v (acK f (n * 9 + 8))]
    rw [d0, d1, d2, d3, d4, d5, d6, d7, d8]; rfl
theorem ac_rv {w : World} {a : Option Addr} {n cap : Nat} {f : Nat → Nat → Int} (h : Fld w a n 9 f) (hc : n ≤ cap) (hx : cap ≤ maxLen) : RV (G0 w) w (acs (acF f n)) (.slice a n cap) := by
  refine .lst (cs := (List.range (n * 9)).map (acK f)) (by unfold acF; simp) (by rw [acF_cells]; exact PVs.map_v _) (fun x hx => by
    obtain ⟨c, _, rfl⟩ := List.mem_map.1 hx
    rfl) ⟨fun u hu => by
    obtain ⟨j, _, rfl⟩ := List.mem_map.1 hu
    rfl, fun hne => ?_⟩ hc hx trivial
  have hn : 0 < n := by
    rcases Nat.eq_zero_or_pos n with rfl | hn
    · exact absurd rfl hne
    · exact hn
  obtain ⟨b, off, e, hcell⟩ := h hn
  refine ⟨b, off, e, fun j u hu => ?_⟩
  have hj : j < n * 9 := by
    have := (List.getElem?_eq_some_iff.1 hu).1
    simpa using this
  have hu : u = acK f j := by
    rw [List.getElem?_map, List.getElem?_range hj] at hu
    exact (Option.some.inj hu).symm
  have hk := hcell (j / 9) (j % 9) (by omega) (by omega)
  have e2 : off + j / 9 * 9 + j % 9 = off + j := by omega
  rw [e2] at hk
  rw [hu]
  exact ⟨by show b < w.heap.size; exact cell_lt hk, hk⟩
section
variable {H : Type} {enc : TypeId × Value → H} {w : World} {base : Nat}
theorem act_in {v : Value} {d : DataW H} {p : List MemPlace} (hv : Value.okWide Try.prog w .any base 22 v) (h : DataW.Trod enc Try.prog w 0 (fun _ => true) true 22 v d p) :
    ∃ a len cap f, v = .slice a len cap ∧ Fld w a len 9 f ∧ len ≤ cap ∧ cap ≤ maxLen := by
  obtain ⟨a, len, cap, rfl⟩ := WideShapes.okWide_slice Try.underlying22 hv
  obtain ⟨f, h1, h2, h3⟩ := fldn_in (d2 := 8) (k := 9) Try.underlying22 (by kernel_rfl) (by kernel_rfl) (by decide) h
  exact ⟨a, len, cap, f, rfl, h1, h2, h3⟩
end
theorem w_SlotOnce (w : World) (x : Int) (_ : (Lit.int .u8 x).wf = true) (a : Option Addr) (len cap : Nat) (f : Nat → Nat → Int) (hf : Fld w a len 9 f) (hc : len ≤ cap) (hx : cap ≤ maxLen) :
    Calls Try.prog 4 #[.int .u8 x, .slice a len cap] w fun e w' => e = .returned (.bool true) ∧ Below w.heap.size w w' :=
  law_true (fs_once x (acF f len)) w _ (ro_none _ _) (.cons (.v _) (.cons (ac_rv hf hc hx) .nil))
end Go.Proofs.Ytjahmiohpcejfaa
