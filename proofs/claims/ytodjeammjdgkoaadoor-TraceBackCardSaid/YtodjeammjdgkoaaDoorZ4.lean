/-
  The law TraceLines of layer 39: the call comes to true.
-/
import Derived.Test.YtodjeammjdgkoaaDoorZ3
import Derived.Test.YtodjeammjdgkoaaDoorAETr
import Derived.MakeChecks
import Derived.Lib.LaidTab
import Derived.Test.YtodjeammjdgkoaaDoorMem
import Derived.Deep.Fields
import Derived.Test.YtodjeammjdgkoaaDoorAEIn
namespace Go.Proofs.YtodjeammjdgkoaaDoor.AE
open Go.RowKit
theorem koL_fnd (w : ByteArray) : ∀ (l : List ByteArray) (i : Nat), koL l (i : Int) w = match fnd w i l with
    | some j => (j : Int)
    | none => 0
  | [], i => rfl
  | x :: l, i => by
    unfold koL fnd
    by_cases h : x = w
    · rw [if_pos h, if_pos h]
    · rw [if_neg h, if_neg h]; exact koL_fnd w l (i + 1)
theorem ko_find (w : ByteArray) (t : Tip) : findN w (.lst 1 (wlL.map sv) t) = koX w := by
  unfold findN
  rw [strsX_lst]
  unfold fndN wlL fnd
  by_cases h : ByteArray.empty = w
  · subst h
    rw [if_pos rfl]; kernel_rfl
  · rw [if_neg h]
    exact (koL_fnd w kwB 1).symm
def eL (L : List ByteArray) : List Int := [koX (L.getD 2 ByteArray.empty), dpX (L.getD 1 ByteArray.empty), sX (L.getD 3 ByteArray.empty), dpX (L.getD 4 ByteArray.empty), dpX (L.getD 5 ByteArray.empty), dpX (L.getD 6 ByteArray.empty), dpX (L.getD 7 ByteArray.empty)]
def eT (L : List ByteArray) : ByteArray := lineT (koX (L.getD 2 ByteArray.empty)) (dpX (L.getD 1 ByteArray.empty)) (sX (L.getD 3 ByteArray.empty)) (dpX (L.getD 4 ByteArray.empty)) (dpX (L.getD 5 ByteArray.empty)) (dpX (L.getD 6 ByteArray.empty)) (dpX (L.getD 7 ByteArray.empty))
abbrev pOk (L : List ByteArray) : Prop := L.length = 8 ∧ (1 ≤ koX (L.getD 2 ByteArray.empty) ∧ koX (L.getD 2 ByteArray.empty) ≤ 15) ∧ eT L = joinB L blank
def pE (L : List ByteArray) (i : Nat) : Int := if pOk L then (eL L).getD i 0 else 0
def pF (L : List ByteArray) : Int := if pOk L then 0 else 2
def pV (E : Nat → Int) (F : Int) : Value := .tuple #[evV (E 0) (E 1) (E 2) (E 3) (E 4) (E 5) (E 6), .int .i64 F]
theorem pV_no {L : List ByteArray} (h : ¬ pOk L) : pV (pE L) (pF L) = .tuple #[evV 0 0 0 0 0 0 0, .int .i64 2] := by
  have e : pE L = fun _ => 0 := by funext i; exact if_neg h
  have f : pF L = 2 := if_neg h
  rw [e, f]; rfl
theorem pV_yes {L : List ByteArray} (h : pOk L) : pV (pE L) (pF L) = .tuple #[rdX L koX dpX sX, .int .i64 0] := by
  have e : pE L = fun i => (eL L).getD i 0 := by funext i; exact if_pos h
  have f : pF L = 0 := if_pos h
  rw [e, f]; rfl
theorem lineE_ne {k : Int} (h : (lineE k != 0) = true) : ¬ (1 ≤ k ∧ k ≤ 15) := fun e => by
  unfold lineE at h; rw [if_pos e] at h; cases h
theorem lineE_eq {k : Int} (h : (lineE k != 0) = false) : 1 ≤ k ∧ k ≤ 15 := by
  unfold lineE at h
  split at h
  · assumption
  · cases h
theorem qb_eq {l : List UInt8} {w : ByteArray} (h : (!(ByteArray.toList w == l)) = false) : w = ⟨l.toArray⟩ := by
  have : (ByteArray.toList w == l) = true := by simpa using h
  have e := eq_of_beq this
  rw [ByteArray.toList_eq] at e
  subst e
  rfl
theorem qb_ne {l : List UInt8} {w : ByteArray} (h : (!(ByteArray.toList w == l)) = true) : ¬ w = ⟨l.toArray⟩ := by
  intro e
  subst e
  rw [ByteArray.toList_eq] at h
  simp at h
theorem nb_ne {a b : ByteArray} (h : (!(ByteArray.toList a == ByteArray.toList b)) = true) : ¬ a = b := fun e => by subst e; simp at h
theorem nb_eq {a b : ByteArray} (h : (!(ByteArray.toList a == ByteArray.toList b)) = false) : a = b := by
  have : (ByteArray.toList a == ByteArray.toList b) = true := by simpa using h
  have := eq_of_beq this
  rw [ByteArray.toList_eq, ByteArray.toList_eq] at this
  exact WideShapes.bytes_inj this
theorem koX_in (w : ByteArray) : w64 (koX w) := by
  have key : ∀ (l : List ByteArray) (i : Int), 0 ≤ i → i + l.length ≤ 1000 → 0 ≤ koL l i w ∧ koL l i w ≤ 1000 := by
    intro l
    induction l with
    | nil => intro i _ _; exact ⟨Int.le_refl _, by show (0 : Int) ≤ 1000; omega⟩
    | cons x l ih =>
      intro i h1 h2
      unfold koL
      rw [List.length_cons] at h2
      split
      · omega
      · exact ih (i + 1) (by omega) (by omega)
  have := key kwB 1 (by decide) (by decide)
  show _ ≤ koX w ∧ koX w ≤ _
  have e : koX w = koL kwB 1 w := rfl
  omega
theorem sX_in (w : ByteArray) : w64 (sX w) := by
  unfold sX
  split
  · exact ⟨by decide, by decide⟩
  · exact dpX_in w
theorem pa_sl : slotsOf 9 = 31 := by kernel_rfl
theorem pa_re : resultsOf 9 = [.cell 2 23, .tmp 3] := by kernel_rfl
theorem rp_sl : slotsOf 10 = 104 := by kernel_rfl
theorem rp_re : resultsOf 10 = [.cell 2 23, .tmp 3] := by kernel_rfl
theorem len_ne8 {L : List ByteArray} (h : ¬ L.length = 8) : ((((L.map sv).length : Nat) : Int) != 8) = true := by
  rw [List.length_map]
  simp only [bne_iff_ne, ne_eq]
  omega
section
variable {tS tR : TypeId} {pS pR : Value}
set_option maxHeartbeats 4000000 in
set_option maxRecDepth 100000 in
theorem fs_tparse (s : ByteArray) (hs : s.size ≤ 100000) : Fs Tryd.prog (roT tS pS tR pR) 9 [.v (.string s)] (hp [] []) fun r _ => r = .v (pV (pE (wordsS s)) (pF (wordsS s))) := by
  refine Fs.of_body (has_fn (by kernel_rfl)) ?_
  rw [pa_sl, pa_re]
  have ht : textOk [.v (.string s)] = true := decide_eq_true hs
  refine Tr.of_flat (Trl.split 3 (Trl.of_code knownP (ne_nil (by kernel_rfl)) (pa_pre rsX tS tR pS pR s _) ⟨cdb_iff.2 ⟨trivial, ht⟩, ?_⟩ flatP))
  show Trl _ _ ((flatten (bodyOf 9)).drop 3) ([.dead, .dead, .ptr 0 0, .dead, .lst 1 ((wordsS s).map sv) .no] ++ ded 7 ++ [.v (.bool (((((wordsS s).map sv).length : Nat) : Int) != 8))] ++ ded 18) (hp [ev0] []) _
  have hw := words_le s
  by_cases h8 : (wordsS s).length = 8
  · obtain ⟨y1, y2, y3, y4, y5, y6, y7, y8, e⟩ := len8 h8
    rw [e] at hw ⊢
    have hz : ∀ y ∈ [y1, y2, y3, y4, y5, y6, y7, y8], y.size ≤ 100000 := fun y hy => Nat.le_trans (hw y hy) hs
    have c1 : [y1, y2, y3, y4, y5, y6, y7, y8].all okT = true := List.all_eq_true.2 fun y hy => decide_eq_true (hz y hy)
    have c2 := in64_to (koX_in y3)
    have c3 : (in64 (koX y3) && (in64 (dpX y2) && (in64 (sX y4) && (in64 (dpX y5) && (in64 (dpX y6) && (in64 (dpX y7) && in64 (dpX y8))))))) = true := by
      rw [in64_to (koX_in y3), in64_to (dpX_in y2), in64_to (sX_in y4), in64_to (dpX_in y5), in64_to (dpX_in y6), in64_to (dpX_in y7), in64_to (dpX_in y8)]; rfl
    have c4 : joinOk' [.lst 1 ([y1, y2, y3, y4, y5, y6, y7, y8].map sv) .no] = true := joinOk_of (Nat.le_of_ble_eq_true rfl) hz
    have hj : joinX (.lst 1 ([y1, y2, y3, y4, y5, y6, y7, y8].map sv) .no) = joinB [y1, y2, y3, y4, y5, y6, y7, y8] blank := joinX_of _ _
    refine Trl.of_code knownP (ne_nil (by kernel_rfl)) (pa_f rsX tS tR pS pR y1 y2 y3 y4 y5 y6 y7 y8 _) (holds_bif (fun h => ?_) fun h => holds_bif (fun g => ?_) fun g => ?_) flatP
    · rw [pV_no (L := [y1, y2, y3, y4, y5, y6, y7, y8]) (fun p => lineE_ne h p.2.1)]
      exact ⟨cdb_iff.2 ⟨cdb_iff.2 ⟨trivial, c1⟩, c3⟩, .inr rfl, trivial, rfl⟩
    · rw [pV_no (L := [y1, y2, y3, y4, y5, y6, y7, y8]) (fun p => nb_ne (a := eT [y1, y2, y3, y4, y5, y6, y7, y8]) (b := joinX (.lst 1 ([y1, y2, y3, y4, y5, y6, y7, y8].map sv) .no)) g (p.2.2.trans hj.symm))]
      exact ⟨cdb_iff.2 ⟨cdb_iff.2 ⟨cdb_iff.2 ⟨trivial, c1⟩, c3⟩, c4⟩, .inr rfl, trivial, rfl⟩
    · rw [pV_yes (L := [y1, y2, y3, y4, y5, y6, y7, y8]) ⟨rfl, lineE_eq h, (nb_eq (a := eT [y1, y2, y3, y4, y5, y6, y7, y8]) (b := joinX (.lst 1 ([y1, y2, y3, y4, y5, y6, y7, y8].map sv) .no)) g).trans hj⟩]
      exact ⟨cdb_iff.2 ⟨cdb_iff.2 ⟨cdb_iff.2 ⟨trivial, c1⟩, c3⟩, c4⟩, .inr rfl, trivial, rfl⟩
  · rw [pV_no (fun p => h8 p.1), len_ne8 h8]
    refine Tr.keepL [2, 12] (by kernel_rfl) ?_
    exact Trl.of_code knownP (ne_nil (by kernel_rfl)) (pa_t rsX tS tR pS pR _) ⟨trivial, .inr rfl, trivial, rfl⟩ flatP
set_option maxHeartbeats 4000000 in
set_option maxRecDepth 100000 in
theorem fs_trparse (s : ByteArray) (hs : s.size ≤ 100000) : Fs Tryd.prog (roT tS pS tR pR) 10 [.v (.string s)] (hp [] []) fun r _ => r = .v (pV (pE (wordsS s)) (pF (wordsS s))) := by
  refine Fs.of_body (has_fn (by kernel_rfl)) ?_
  rw [rp_sl, rp_re]
  have ht : textOk [.v (.string s)] = true := decide_eq_true hs
  refine Tr.of_flat (Trl.split 3 (Trl.of_code knownP (ne_nil (by kernel_rfl)) (rp_pre rsX tS tR pS pR s _) ⟨cdb_iff.2 ⟨trivial, ht⟩, ?_⟩ flatP))
  show Trl _ _ ((flatten (bodyOf 10)).drop 3) ([.dead, .dead, .ptr 0 0, .dead, .lst 1 ((wordsS s).map sv) .no] ++ ded 20 ++ [.v (.bool (((((wordsS s).map sv).length : Nat) : Int) != 8))] ++ ded 78) (hp [ev0] []) _
  have hw := words_le s
  by_cases h8 : (wordsS s).length = 8
  · obtain ⟨y1, y2, y3, y4, y5, y6, y7, y8, e⟩ := len8 h8
    rw [e] at hw ⊢
    have hz : ∀ y ∈ [y1, y2, y3, y4, y5, y6, y7, y8], y.size ≤ 100000 := fun y hy => Nat.le_trans (hw y hy) hs
    have c1 : [y1, y2, y3, y4, y5, y6, y7, y8].all okT = true := List.all_eq_true.2 fun y hy => decide_eq_true (hz y hy)
    have c3 : ∀ v, w64 v → (in64 (koX y3) && (in64 (dpX y2) && (in64 v && (in64 (dpX y5) && (in64 (dpX y6) && (in64 (dpX y7) && in64 (dpX y8))))))) = true := fun v hv => by
      rw [in64_to (koX_in y3), in64_to (dpX_in y2), in64_to hv, in64_to (dpX_in y5), in64_to (dpX_in y6), in64_to (dpX_in y7), in64_to (dpX_in y8)]; rfl
    have c4 : joinOk' [.lst 1 ([y1, y2, y3, y4, y5, y6, y7, y8].map sv) .no] = true := joinOk_of (Nat.le_of_ble_eq_true rfl) hz
    have hj : joinX (.lst 1 ([y1, y2, y3, y4, y5, y6, y7, y8].map sv) .no) = joinB [y1, y2, y3, y4, y5, y6, y7, y8] blank := joinX_of _ _
    have z := fun y hy => decide_eq_true (hz y hy)
    have z2 := z y2 (by simp)
    have z4 := z y4 (by simp)
    have z5 := z y5 (by simp)
    have z6 := z y6 (by simp)
    have z7 := z y7 (by simp)
    have z8 := z y8 (by simp)
    refine Trl.of_code knownP (ne_nil (by kernel_rfl)) (rp_f rsX tS tR pS pR y1 y2 y3 y4 y5 y6 y7 y8 _) ?_ flatP
    have hko : findN y3 (.lst 1 (wlL.map sv) .no) = koX y3 := ko_find y3 .no
    refine holds_bif (fun q => ?_) fun q => ?_
    · have hq : ¬ y4 = clientB := fun e => qb_ne q (e.trans rfl)
      have hs4 : sX y4 = dpX y4 := if_neg hq
      have c3' := c3 (dpX y4) (dpX_in y4)
      rw [← hko] at c3'
      refine holds_bif (fun h => ?_) fun h => holds_bif (fun g => ?_) fun g => ?_
      · have h : (lineE (findN y3 (.lst 1 (wlL.map sv) .no)) != 0) = true := h
        rw [hko] at h
        rw [pV_no (L := [y1, y2, y3, y4, y5, y6, y7, y8]) (fun p => lineE_ne h p.2.1)]
        exact ⟨cdb_iff.2 ⟨cdb_iff.2 ⟨cdb_iff.2 ⟨cdb_iff.2 ⟨cdb_iff.2 ⟨cdb_iff.2 ⟨cdb_iff.2 ⟨trivial, z4⟩, z2⟩, z5⟩, z6⟩, z7⟩, z8⟩, c3'⟩, .inr rfl, trivial, rfl⟩
      · have g : (!(ByteArray.toList (lineT (findN y3 (.lst 1 (wlL.map sv) .no)) (dpX y2) (dpX y4) (dpX y5) (dpX y6) (dpX y7) (dpX y8)) == ByteArray.toList (joinX (.lst 1 ([y1, y2, y3, y4, y5, y6, y7, y8].map sv) .no)))) = true := g
        rw [hko, ← hs4] at g
        rw [pV_no (L := [y1, y2, y3, y4, y5, y6, y7, y8]) (fun p => nb_ne (a := eT [y1, y2, y3, y4, y5, y6, y7, y8]) g (p.2.2.trans hj.symm))]
        exact ⟨cdb_iff.2 ⟨cdb_iff.2 ⟨cdb_iff.2 ⟨cdb_iff.2 ⟨cdb_iff.2 ⟨cdb_iff.2 ⟨cdb_iff.2 ⟨cdb_iff.2 ⟨trivial, z4⟩, z2⟩, z5⟩, z6⟩, z7⟩, z8⟩, c3'⟩, c4⟩, .inr rfl, trivial, rfl⟩
      · have h : (lineE (findN y3 (.lst 1 (wlL.map sv) .no)) != 0) = false := h
        have g : (!(ByteArray.toList (lineT (findN y3 (.lst 1 (wlL.map sv) .no)) (dpX y2) (dpX y4) (dpX y5) (dpX y6) (dpX y7) (dpX y8)) == ByteArray.toList (joinX (.lst 1 ([y1, y2, y3, y4, y5, y6, y7, y8].map sv) .no)))) = false := g
        rw [hko] at h
        rw [hko, ← hs4] at g
        rw [pV_yes (L := [y1, y2, y3, y4, y5, y6, y7, y8]) ⟨rfl, lineE_eq h, (nb_eq (a := eT [y1, y2, y3, y4, y5, y6, y7, y8]) g).trans hj⟩]
        refine ⟨cdb_iff.2 ⟨cdb_iff.2 ⟨cdb_iff.2 ⟨cdb_iff.2 ⟨cdb_iff.2 ⟨cdb_iff.2 ⟨cdb_iff.2 ⟨cdb_iff.2 ⟨trivial, z4⟩, z2⟩, z5⟩, z6⟩, z7⟩, z8⟩, c3'⟩, c4⟩, .inr rfl, trivial, ?_⟩
        show AV.v (.tuple #[evV (findN y3 (.lst 1 (wlL.map sv) .no)) (dpX y2) (dpX y4) (dpX y5) (dpX y6) (dpX y7) (dpX y8), .int .i64 0]) = _
        rw [hko, ← hs4]; rfl
    · have hq : y4 = clientB := (qb_eq q).trans rfl
      have hs4 : sX y4 = -1 := if_pos hq
      have c3' := c3 (-1) ⟨by decide, by decide⟩
      rw [← hko] at c3'
      refine holds_bif (fun h => ?_) fun h => holds_bif (fun g => ?_) fun g => ?_
      · have h : (lineE (findN y3 (.lst 1 (wlL.map sv) .no)) != 0) = true := h
        rw [hko] at h
        rw [pV_no (L := [y1, y2, y3, y4, y5, y6, y7, y8]) (fun p => lineE_ne h p.2.1)]
        exact ⟨cdb_iff.2 ⟨cdb_iff.2 ⟨cdb_iff.2 ⟨cdb_iff.2 ⟨cdb_iff.2 ⟨cdb_iff.2 ⟨trivial, z2⟩, z5⟩, z6⟩, z7⟩, z8⟩, c3'⟩, .inr rfl, trivial, rfl⟩
      · have g : (!(ByteArray.toList (lineT (findN y3 (.lst 1 (wlL.map sv) .no)) (dpX y2) (-1) (dpX y5) (dpX y6) (dpX y7) (dpX y8)) == ByteArray.toList (joinX (.lst 1 ([y1, y2, y3, y4, y5, y6, y7, y8].map sv) .no)))) = true := g
        rw [hko, ← hs4] at g
        rw [pV_no (L := [y1, y2, y3, y4, y5, y6, y7, y8]) (fun p => nb_ne (a := eT [y1, y2, y3, y4, y5, y6, y7, y8]) g (p.2.2.trans hj.symm))]
        exact ⟨cdb_iff.2 ⟨cdb_iff.2 ⟨cdb_iff.2 ⟨cdb_iff.2 ⟨cdb_iff.2 ⟨cdb_iff.2 ⟨cdb_iff.2 ⟨trivial, z2⟩, z5⟩, z6⟩, z7⟩, z8⟩, c3'⟩, c4⟩, .inr rfl, trivial, rfl⟩
      · have h : (lineE (findN y3 (.lst 1 (wlL.map sv) .no)) != 0) = false := h
        have g : (!(ByteArray.toList (lineT (findN y3 (.lst 1 (wlL.map sv) .no)) (dpX y2) (-1) (dpX y5) (dpX y6) (dpX y7) (dpX y8)) == ByteArray.toList (joinX (.lst 1 ([y1, y2, y3, y4, y5, y6, y7, y8].map sv) .no)))) = false := g
        rw [hko] at h
        rw [hko, ← hs4] at g
        rw [pV_yes (L := [y1, y2, y3, y4, y5, y6, y7, y8]) ⟨rfl, lineE_eq h, (nb_eq (a := eT [y1, y2, y3, y4, y5, y6, y7, y8]) g).trans hj⟩]
        refine ⟨cdb_iff.2 ⟨cdb_iff.2 ⟨cdb_iff.2 ⟨cdb_iff.2 ⟨cdb_iff.2 ⟨cdb_iff.2 ⟨cdb_iff.2 ⟨trivial, z2⟩, z5⟩, z6⟩, z7⟩, z8⟩, c3'⟩, c4⟩, .inr rfl, trivial, ?_⟩
        show AV.v (.tuple #[evV (findN y3 (.lst 1 (wlL.map sv) .no)) (dpX y2) (-1) (dpX y5) (dpX y6) (dpX y7) (dpX y8), .int .i64 0]) = _
        rw [hko, ← hs4]; rfl
  · rw [pV_no (fun p => h8 p.1), len_ne8 h8]
    refine Tr.keepL [2, 25] (by kernel_rfl) ?_
    exact Trl.of_code knownP (ne_nil (by kernel_rfl)) (rp_t rsX tS tR pS pR _) ⟨trivial, .inr rfl, trivial, rfl⟩ flatP
end
end Go.Proofs.YtodjeammjdgkoaaDoor.AE
namespace Go.Proofs.YtodjeammjdgkoaaDoor.AE
open Go.RowKit
noncomputable def prA : FuncId → Option (List AV → AH → Ans) := fun g => match g with
  | 32 => some (data? (rdP koX dpX sX))
  | g => prW linesS wordsS plainX cutA cutB cutK joinX findN findB sameX g
theorem knownA {tS tR : TypeId} {pS pR : Value} : Known (roT tS pS tR pR) prA := by
  intro g p h
  unfold prA at h
  split at h
  · cases h; exact read_ok
  · exact knownW _ g p h
theorem aw_tree (tS tR : TypeId) (pS pR : Value) (Φ : AV → Prop) : callK (roT tS pS tR pR) (fun _ => false) prA 12 6 [] (hp [] []) (fun r h => some (h.cd ∧ Φ r)) =
    (some (True ∧ (Φ (AV.v (Value.bool true))))) := by kernel_rfl
end Go.Proofs.YtodjeammjdgkoaaDoor.AE
namespace Go.Proofs.YtodjeammjdgkoaaDoor.AE
open Go.RowKit
structure QS where
  LT : Int → Int → Int → Int → Int → Int → Int → ByteArray
  LE : Int → Int
  E : ByteArray → Nat → Int
  F : ByteArray → Int
  WK : Int → ByteArray
def paE (E : ByteArray → Nat → Int) (F : ByteArray → Int) : List Value → Option (Value × Bool) := fun us => match us with
  | [.string s] => some (pV (E s) (F s), okT s)
  | _ => none
end Go.Proofs.YtodjeammjdgkoaaDoor.AE
namespace Go.Proofs.YtodjeammjdgkoaaDoor.AE
open Go.RowKit
theorem laid_mem {P : Program} {W : World} : ∀ {l : List (String × DataW Unit)} {ps : List MemPlace}, DataW.LaidVars P W l ps → ∀ {n : String} {d : DataW Unit}, (n, d) ∈ l →
    ∃ g t cs fuel p, P.globalNamed n = some g ∧ (P.globals[g]?).map (·.type) = some t ∧ W.var? P n = some cs ∧ DataW.trod (fun _ => ()) P W 0 (fun _ => true) false fuel t cs.toList = some (d, p) ∧ ∀ x ∈ MemPlace.row ⟨g, 0, none⟩ cs.size, x ∈ ps
  | [], _, _, _, _, h => by cases h
  | (n0, d0) :: l, ps, hv, n, d, h => by
    obtain ⟨g, t, cs, fuel, p, q, h1, h2, h3, h4, h5, h6⟩ := hv
    rcases List.mem_cons.1 h with h | h
    · cases h
      exact ⟨g, t, cs, fuel, p, h1, h2, h3, h4, fun x hx => by rw [h6]; simp [hx]⟩
    · obtain ⟨g', t', cs', fuel', p', k1, k2, k3, k4, k5⟩ := laid_mem h5 h
      exact ⟨g', t', cs', fuel', p', k1, k2, k3, k4, fun x hx => by rw [h6]; simp [k5 x hx]⟩
/-- The block of a variable on the list. -/
theorem laid_block {P : Program} {W : World} {l : List (String × DataW Unit)} (hL : laidMet P l W) {n : String} {d : DataW Unit} (h : (n, d) ∈ l) {g : Nat} (hg : P.globalNamed n = some g) :
    ∃ t cs fuel p, (P.globals[g]?).map (·.type) = some t ∧ W.var? P n = some cs ∧ DataW.trod (fun _ => ()) P W 0 (fun _ => true) false fuel t cs.toList = some (d, p) ∧ (0 < cs.size → ∃ e, W.heap[g]? = some (.cells cs e (0, 0))) := by
  obtain ⟨ps, hv, _, hc⟩ := hL
  obtain ⟨g', t, cs, fuel, p, h1, h2, h3, h4, h5⟩ := laid_mem hv h
  rw [hg] at h1
  cases h1
  refine ⟨t, cs, fuel, p, h2, h3, h4, fun h0 => ?_⟩
  have hm : MemPlace.cell g 0 ∈ ps := h5 _ (by unfold MemPlace.row; simp; exact h0)
  obtain ⟨⟨c, e, he⟩, _⟩ := hc g 0 hm
  have hv3 := h3
  unfold World.var? at hv3
  rw [hg] at hv3
  simp only [Option.bind_some, he, Option.some.injEq] at hv3
  rw [hv3] at he
  exact ⟨e, he⟩
/-- A table of numbers, wherever it stands on the list. -/
theorem laid_table {P : Program} {W : World} {l : List (String × DataW Unit)} (hL : laidMet P l W) {name : String} {k : IntKind} {zs : List Int} (h : (name, Lib.tabData k zs) ∈ l) {g : Nat} {t e : TypeId} {n : Nat} (hg : P.globalNamed name = some g)
    (hty : (P.globals[g]?).map (·.type) = some t) (ht : P.underlying t = some (.array n e)) (he : P.underlying e = some (.int k)) (hce : P.cellsOf e = 1) (hct : P.cellsOf t = n) (h0 : 0 < zs.length) :
    (∀ (j : Nat) (u : Value), (zs.map fun z => Value.int k z)[j]? = some u → (G0 W).prot g j ∧ W.cell? ⟨g, j, none⟩ = some u) ∧ ¬ (G0 W).own g ∧ ∃ t, W.heap[g]? = some (.cells (zs.map fun z => Value.int k z).toArray t (0, 0)) := by
  obtain ⟨t', cs, fuel, p, h2, h3, h4, h5⟩ := laid_block hL h hg
  rw [hty] at h2
  cases h2
  have hcs := Lib.cells_of_tab ht he hce hct h4
  have hsz : cs.size = zs.length := by
    have := congrArg List.length hcs
    simpa using this
  obtain ⟨e', hb⟩ := h5 (by omega)
  have ha : cs = (zs.map fun z => Value.int k z).toArray := by rw [← hcs]
  rw [ha] at hb
  refine ⟨fun j u hu => ⟨?_, ?_⟩, fun o => o, e', hb⟩
  · show g < W.heap.size
    by_cases hlt : g < W.heap.size
    · exact hlt
    · rw [Array.getElem?_eq_none (by omega)] at hb; cases hb
  · simp only [World.cell?, hb]
    simpa using hu
theorem trod_iface {P : Program} {W : World} {t m : _} (hu : P.underlying t = some (.interface m)) {fuel : Nat} {cs : List Value} {nm : String} {d : DataW Unit} {p : List MemPlace} (h : DataW.trod (fun _ => ()) P W 0 (fun _ => true) false fuel t cs = some (.iface nm d, p)) : ∃ u v, cs = [.iface u v] := by
  cases fuel with
  | zero => simp [DataW.trod] at h
  | succ fuel =>
    rcases cs with _ | ⟨c, _ | ⟨c2, r⟩⟩
    · simp [DataW.trod, hu] at h
    · cases c <;> first
        | exact ⟨_, _, rfl⟩
        | (simp [DataW.trod, hu] at h)
    · cases c <;> simp [DataW.trod, hu] at h
/-- A variable that holds an error. -/
theorem laid_error {P : Program} {W : World} {l : List (String × DataW Unit)} (hL : laidMet P l W) {name nm : String} {d : DataW Unit} (h : (name, .iface nm d) ∈ l) {g : Nat} {t m : _} (hg : P.globalNamed name = some g)
    (hty : (P.globals[g]?).map (·.type) = some t) (ht : P.underlying t = some (.interface m)) :
    ∃ u v, (∀ (j : Nat) (x : Value), [Value.iface u v][j]? = some x → (G0 W).prot g j ∧ W.cell? ⟨g, j, none⟩ = some x) ∧ ¬ (G0 W).own g ∧ ∃ t, W.heap[g]? = some (.cells [Value.iface u v].toArray t (0, 0)) := by
  obtain ⟨t', cs, fuel, p, h2, h3, h4, h5⟩ := laid_block hL h hg
  rw [hty] at h2
  cases h2
  obtain ⟨u, v, hcs⟩ := trod_iface ht h4
  have ha : cs = [Value.iface u v].toArray := by rw [← hcs]
  have hsz : 0 < cs.size := by rw [ha]; exact Nat.zero_lt_one
  obtain ⟨e', hb⟩ := h5 hsz
  rw [ha] at hb
  refine ⟨u, v, fun j x hx => ⟨?_, ?_⟩, fun o => o, e', hb⟩
  · show g < W.heap.size
    by_cases hlt : g < W.heap.size
    · exact hlt
    · rw [Array.getElem?_eq_none (by omega)] at hb; cases hb
  · simp only [World.cell?, hb]
    simpa using hx
end Go.Proofs.YtodjeammjdgkoaaDoor.AE
namespace Go.Proofs.YtodjeammjdgkoaaDoor.AE
open Go.RowKit
theorem cells_of_strs {P : Program} {w : World} {base : Nat} {sp : Nat → Bool} {held : Bool} {fuel : Nat} {t e : TypeId} {n : Nat} {cs : List Value} {zs : List (List UInt8)} {p : List MemPlace}
    (ht : P.underlying t = some (.array n e)) (he : P.underlying e = some .string) (hce : P.cellsOf e = 1) (hct : P.cellsOf t = n)
    (h : DataW.trod (fun _ => ()) P w base sp held fuel t cs = some (.agg (zs.map fun z => .lit (.string z)), p)) : cs = zs.map fun z => Value.string ⟨z.toArray⟩ := by
  cases fuel with
  | zero => simp [DataW.trod] at h
  | succ fuel =>
    simp only [DataW.trod, ht, hce, hct, Nat.mul_one] at h
    split at h
    · rename_i hl
      obtain ⟨xs, hm, hx⟩ := Option.map_eq_some_iff.1 h
      have hxs : xs.map (·.1) = zs.map fun z => (DataW.lit (.string z) : DataW Unit) := by
        have := congrArg Prod.fst hx
        simpa using this
      have hxl : xs.length = n := by simpa using Lib.mapM_length hm
      have hzl : zs.length = n := by
        have := congrArg List.length hxs
        simp at this
        omega
      apply List.ext_getElem?
      intro i
      by_cases hi : i < n
      · obtain ⟨b, hb, hf⟩ := Lib.mapM_at hm i i (by simp [hi])
        obtain ⟨s, hc, rfl, _⟩ := DataW.trod_string he hf
        have h1 : cs[i]? = some (.string s) := by
          have := congrArg (·[0]?) hc
          simpa [List.getElem?_take, List.getElem?_drop] using this
        have h2 : (xs.map (·.1))[i]? = some (DataW.lit (.string s.data.toList) : DataW Unit) := by simp [hb]
        rw [hxs] at h2
        simp only [List.getElem?_map, Option.map_eq_some_iff, DataW.lit.injEq, Lit.string.injEq] at h2
        obtain ⟨z', hz', h3⟩ := h2
        have h4 : s = ⟨z'.toArray⟩ := by
          rw [h3]
        rw [h1, List.getElem?_map, hz', h4]; rfl
      · rw [List.getElem?_eq_none (by omega), List.getElem?_eq_none (by simp; omega)]
    · cases h
theorem laid_strs {P : Program} {W : World} {l : List (String × DataW Unit)} (hL : laidMet P l W) {name : String} {zs : List (List UInt8)} (h : (name, .agg (zs.map fun z => .lit (.string z))) ∈ l) {g : Nat} {t e : TypeId} {n : Nat} (hg : P.globalNamed name = some g)
    (hty : (P.globals[g]?).map (·.type) = some t) (ht : P.underlying t = some (.array n e)) (he : P.underlying e = some .string) (hce : P.cellsOf e = 1) (hct : P.cellsOf t = n) (h0 : 0 < zs.length) :
    (∀ (j : Nat) (u : Value), (zs.map fun z => Value.string ⟨z.toArray⟩)[j]? = some u → (G0 W).prot g j ∧ W.cell? ⟨g, j, none⟩ = some u) ∧ ¬ (G0 W).own g ∧ ∃ t, W.heap[g]? = some (.cells (zs.map fun z => Value.string ⟨z.toArray⟩).toArray t (0, 0)) := by
  obtain ⟨t', cs, fuel, p, h2, h3, h4, h5⟩ := laid_block hL h hg
  rw [hty] at h2
  cases h2
  have hcs := cells_of_strs ht he hce hct h4
  have hsz : cs.size = zs.length := by
    have := congrArg List.length hcs
    simpa using this
  obtain ⟨e', hb⟩ := h5 (by omega)
  have ha : cs = (zs.map fun z => Value.string ⟨z.toArray⟩).toArray := by rw [← hcs]
  rw [ha] at hb
  refine ⟨fun j u hu => ⟨?_, ?_⟩, fun o => o, e', hb⟩
  · show g < W.heap.size
    by_cases hlt : g < W.heap.size
    · exact hlt
    · rw [Array.getElem?_eq_none (by omega)] at hb; cases hb
  · simp only [World.cell?, hb]
    simpa using hu
end Go.Proofs.YtodjeammjdgkoaaDoor.AE
namespace Go.Proofs.YtodjeammjdgkoaaDoor
open Go.RowKit
end Go.Proofs.YtodjeammjdgkoaaDoor
namespace Go.Proofs.YtodjeammjdgkoaaDoor
open Go.RowKit AE
namespace AE
section
variable {tS tR : TypeId} {pS pR : Value}
theorem pae_ok {g : FuncId} (hf : ∃ fn, Tryd.prog.funcs[g]? = some fn ∧ fn.body.isSome = true) (h : ∀ s : ByteArray, s.size ≤ 100000 → Fs Tryd.prog (roT tS pS tR pR) g [.v (.string s)] (hp [] []) fun r _ => r = .v (pV (pE (wordsS s)) (pF (wordsS s)))) :
    ∀ args H r H', pure? (paE (fun s => pE (wordsS s)) (fun s => pF (wordsS s))) args H = some (r, H') → HSound1 Tryd.prog (roT tS pS tR pR) g args H r H' := by
  refine pure_ok (fun us c hs => ?_) hf
  unfold paE at hs
  split at hs
  · simp only [Option.some.injEq, Prod.mk.injEq] at hs
    obtain ⟨rfl, h1⟩ := hs
    exact h _ (of_decide_eq_true h1)
  · cases hs
end
end AE
theorem AE.ro39_of {W : World} (h : laidMet Tryd.prog Rows.traceLinesRow.laid W) : ∃ tS pS tR pR, Ro (roT tS pS tR pR) (G0 W) W := by
  obtain ⟨tS, pS, hS⟩ := laid_error h (name := "strconv.ErrSyntax") (nm := "*errors.errorString") (d := _) (List.mem_of_getElem? (i := 4) rfl) (g := 3) (by kernel_rfl) (t := 64) (by kernel_rfl) Tryd.underlying64
  obtain ⟨tR, pR, hR⟩ := laid_error h (name := "strconv.ErrRange") (nm := "*errors.errorString") (d := _) (List.mem_of_getElem? (i := 3) rfl) (g := 4) (by kernel_rfl) (t := 64) (by kernel_rfl) Tryd.underlying64
  have hT := laid_table h (name := "internal/strconv.uint64pow10") (k := .u64) (zs := Lib.pow10Tab) (List.mem_of_getElem? (i := 2) (by kernel_rfl)) (g := 2) (by kernel_rfl) (t := 100) (by kernel_rfl) Tryd.underlying100 Tryd.underlying87 (by kernel_rfl) (by kernel_rfl) (by decide)
  have hK := laid_strs h (name := "lockkeeper/trace.kindWords") (zs := kwL) (List.mem_of_getElem? (i := 5) (by kernel_rfl)) (g := 0) (by kernel_rfl) (t := 58) (by kernel_rfl) Tryd.underlying58 Tryd.underlying9 (by kernel_rfl) (by kernel_rfl) (by decide)
  refine ⟨tS, pS, tR, pR, fun b cs hb => ?_⟩
  unfold roT roM at hb
  split at hb
  · rename_i e; subst e; cases hb; exact hK
  · unfold ro05 at hb
    split at hb
    · cases hb; exact hT
    · cases hb; exact hS
    · cases hb; exact hR
    · cases hb
end Go.Proofs.YtodjeammjdgkoaaDoor
