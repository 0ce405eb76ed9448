/-
  Layer 6: few; what is known with it.
-/
import Derived.Test.YtjllakfoeknhdaaT06L
namespace Go.Proofs.Ytjllakfoeknhdaa.AE
open Go.RowKit
theorem fw_sl : slotsOf 16 = 23 := by kernel_rfl
theorem fw_re : resultsOf 16 = [.tmp 2] := by kernel_rfl
theorem fw_fl : (flatten (bodyOf 16)).drop 2 = .block 0 (.loop (sub (bodyOf 16) [1, 0, 1, 0, 0])) :: (flatten (bodyOf 16)).drop 3 := by kernel_rfl
theorem el_ok {l : List ByteArray} {i : Nat} (h : i < l.length) : (0 : Int) ≤ (i : Int) ∧ (l.map sv)[Int.toNat (i : Int)]? = some (.v (.string l[i])) := ⟨Int.natCast_nonneg i, sv_get h⟩
theorem fs_few (l : List ByteArray) : Fs Try.prog nro 16 [.lst 1 (l.map sv) .no] (hp [] []) fun r _ => r = .v (.bool (fewL l)) := by
  refine Fs.of_body (has_fn (by kernel_rfl)) ?_
  rw [fw_sl, fw_re]
  refine Tr.of_flat (Trl.split 2 (Trl.of_code (knownJ _) (ne_nil (by kernel_rfl)) (fw_pre l _) ⟨trivial, ?_⟩))
  show Trl _ _ ((flatten (bodyOf 16)).drop 2) _ _ _
  rw [fw_fl]
  let I : Nat → List AV → AH → Prop := fun m act H => ∃ i : Nat, i ≤ l.length ∧ i ≤ 40 ∧ m = l.length - i ∧ act = fewA l i ∧ H = hp [] [] ∧ (l.take i).all (fun x => decide (x.size ≤ 100)) = true
  refine Tr.block (Tr.loop I ?_ (m := l.length) ⟨0, Nat.zero_le _, Nat.zero_le _, rfl, rfl, rfl, rfl⟩)
  rintro m' act H ⟨i, hi, hi4, rfl, rfl, rfl, hI⟩
  have body := fun R => fw_in l i R
  rw [sv_len, inc64 i (by omega)] at body
  have post : ∀ Q, (l.length ≤ i ∨ 40 ≤ i) → (∀ a h, ansOk (fun r _ => r = .v (.bool (fewL l))) (resOf Try.prog nro [.tmp 2] a h) → Q Exit.ret a h) → Trl Try.prog nro ((flatten (bodyOf 16)).drop 3) (fewA l i) (hp [] []) Q := by
    intro Q hd hQ
    refine Trl.of_code (knownJ _) (ne_nil (by kernel_rfl)) (fw_post l _ _) ⟨trivial, hQ _ _ ⟨trivial, ?_⟩⟩
    rw [sv_len]
    show AV.v (.bool (decide ((l.length : Int) ≤ 40))) = _
    have : fewL l = decide ((l.length : Int) ≤ 40) := by
      unfold fewL
      have e : l.take i = l.take 40 := by
        rcases hd with h | h
        · rw [List.take_of_length_le h, List.take_of_length_le (by omega)]
        · have : i = 40 := by omega
          rw [this]
      rw [← e, hI, Bool.true_and, decide_eq_decide]
      omega
    rw [this]
  refine Tr.of_code (knownJ _) (body _) (holds_bif (fun h1 => holds_bif (fun h2 => ?_) fun h2 => ⟨trivial, ?_⟩) fun h1 => ⟨trivial, ?_⟩)
  · have h1 : i < l.length := by have := of_decide_eq_true h1; omega
    have h2 : i < 40 := by have := of_decide_eq_true h2; omega
    rw [sv_ex h1]
    have c0 := cds_of (b := elemB Try.prog 9 (l.map sv) i) (c := True) trivial (el_ok h1)
    refine holds_bif (fun h3 => ⟨c0, .inr rfl, trivial, ?_⟩) fun h3 => ⟨c0, l.length - (i + 1), by omega, i + 1, h1, h2, rfl, rfl, rfl, ?_⟩
    · have h3 : ¬ l[i].size ≤ 100 := by have := of_decide_eq_true h3; omega
      show AV.v (.bool false) = .v (.bool (fewL l))
      have : fewL l = false := by
        unfold fewL
        rw [Bool.and_eq_false_iff]
        refine .inl ?_
        rw [List.all_eq_false]
        refine ⟨l[i], ?_, by simpa using h3⟩
        rw [List.mem_take_iff_getElem]
        exact ⟨i, by omega, rfl⟩
      rw [this]
    · have h3 : l[i].size ≤ 100 := by have := of_decide_eq_false h3; omega
      rw [take_snoc h1, List.all_append, hI]
      simpa using h3
  · exact post _ (.inr (by have := of_decide_eq_false h2; omega)) fun a h q => ⟨.inr rfl, q⟩
  · exact post _ (.inl (by have := of_decide_eq_false h1; omega)) fun a h q => ⟨.inr rfl, q⟩
def fewX (x : AV) : Bool := fewL (strsX x)
theorem fewX_of (l : List ByteArray) (t : Tip) : fewX (.lst 1 (l.map sv) t) = fewL l := by unfold fewX; rw [strsX_lst]
theorem fewOk_of (l : List ByteArray) (t : Tip) : fewOk [.lst 1 (l.map sv) t] = true := by
  show (match strsA? (.lst 1 (l.map sv) t) with | some _ => true | none => false) = true
  rw [strsA_lst]
theorem few_ok : ∀ args H r H', tot? (fewP fewX) fewOk args H = some (r, H') → HSound1 Try.prog nro 16 args H r H' := by
  refine tot_nrm (has_fn (by kernel_rfl)) fun args hok => ?_
  unfold fewOk at hok
  split at hok
  · rename_i x
    split at hok
    · rename_i l hl
      obtain ⟨h4, h5⟩ := strsA_nrm hl
      refine ⟨by simp [h4], ?_⟩
      rw [List.map_cons, List.map_nil, h5]
      refine (fs_few l).mono fun r _ h => ?_
      subst h
      refine ⟨_, rfl, ?_⟩
      show Le _ (.v (.bool (fewL (strsX x))))
      rw [strsX_some hl]
      exact Le.refl _
    · cases hok
  · cases hok
theorem knownU : Known nro (prU fewX linesS wordsS (fun s => plainL s.data.toList) cutA cutB cutK joinX findN findB sameX) := by
  intro g p h
  unfold prU at h
  split at h
  · cases h; exact awake6_ok
  · cases h; exact few_ok
  · exact knownW _ g p h
theorem findOk_of (w : ByteArray) (l : List ByteArray) (t : Tip) (h : l.length ≤ 1000000) : findOk [.v (.string w), .lst 1 (l.map sv) t] = true := by
  show (match strsA? (.lst 1 (l.map sv) t) with | some l => decide (l.length ≤ 1000000) | none => false) = true
  rw [strsA_lst]
  exact decide_eq_true h
end Go.Proofs.Ytjllakfoeknhdaa.AE
