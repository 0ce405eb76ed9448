/-
  The law WordsBack of layer 6: the call comes to true.
-/
import Derived.Test.YtjllakfoeknhdaaT06N
import Derived.Test.YtjllakfoeknhdaaL06LawB
namespace Go.Proofs.Ytjllakfoeknhdaa
open Go.RowKit AE
theorem no_sameB {l : List ByteArray} {P : Prop} (h : decide (l = l) = false) : P := by simp at h
theorem filt_snoc {l : List ByteArray} {i : Nat} (h : i < l.length) (p : ByteArray → Bool) : (l.take (i + 1)).filter p = bif p l[i] then (l.take i).filter p ++ [l[i]] else (l.take i).filter p := by
  rw [take_snoc h, List.filter_append]
  cases e : p l[i] with
  | true => simp [e]
  | false => simp [e]
theorem fs_back6 (l : List ByteArray) : Fs Try.prog nro 5 [.lst 1 (l.map sv) .no] (hp [] []) fun r _ => r = .v (.bool true) := by
  refine Fs.of_body (has_fn (by kernel_rfl)) ?_
  rw [wb_sl, wb_re]
  have h0 := fewOk_of l .no
  refine Tr.of_flat (Trl.split 6 (Trl.of_code knownU (ne_nil (by kernel_rfl)) (wb_pre fewX linesS wordsS (fun s => plainL s.data.toList) cutA cutB cutK joinX findN findB sameX l _) (holds_bif (fun _ => ⟨cdb_iff.2 ⟨trivial, h0⟩, .inr rfl, trivial, rfl⟩) fun hf => ⟨cdb_iff.2 ⟨trivial, h0⟩, ?_⟩)))
  have hf : fewL l = true := by rw [fewX_of] at hf; simpa using hf
  obtain ⟨hl, hs⟩ := fewL_of hf
  show Trl _ _ ((flatten (bodyOf 5)).drop 6) _ _ _
  rw [wb_fl]
  refine Tr.keepL [0, 3, 4, 5, 6] rfl (Trl.nilTip 3 1 rfl rfl (Trl.nilTip 4 1 rfl rfl ?_))
  let I : Nat → List AV → AH → Prop := fun m act H => ∃ i v u : Nat, i ≤ l.length ∧ m = l.length - i ∧ act = wbA l (.lst 1 (((l.take i).filter isWord).map sv) (.tp 0 v)) (.lst 1 (((l.take i).filter isLine).map sv) (.tp 1 u)) (textB ((l.take i).filter isLine)) i ∧ H = hp [] [v, u]
  refine Tr.block (Tr.loop I ?_ (m := l.length) ⟨0, 0, 0, Nat.zero_le _, rfl, rfl, rfl⟩)
  rintro m' act H ⟨i, v, u, hi, rfl, rfl, rfl⟩
  obtain ⟨os, hos⟩ : ∃ os, os = (l.take i).filter isWord := ⟨_, rfl⟩
  obtain ⟨ms, hms⟩ : ∃ ms, ms = (l.take i).filter isLine := ⟨_, rfl⟩
  have lo : os.length ≤ i := by rw [hos]; exact Nat.le_trans (List.length_filter_le _ _) (by rw [List.length_take]; omega)
  have lm : ms.length ≤ i := by rw [hms]; exact Nat.le_trans (List.length_filter_le _ _) (by rw [List.length_take]; omega)
  have so : ∀ x ∈ os, x.size ≤ 100 ∧ isWord x = true := fun x hx => by
    rw [hos] at hx
    have := List.mem_filter.1 hx
    exact ⟨hs x (List.mem_of_mem_take this.1), this.2⟩
  have sm : ∀ x ∈ ms, x.size ≤ 100 ∧ isLine x = true := fun x hx => by
    rw [hms] at hx
    have := List.mem_filter.1 hx
    exact ⟨hs x (List.mem_of_mem_take this.1), this.2⟩
  have ht := textB_le (N := 100) ms fun x hx => (sm x hx).1
  rw [← hos, ← hms]
  have head := fun R => wb_head l os ms (textB ms) v u i R
  rw [sv_len] at head
  refine Tr.of_flat (Trl.split 2 (Trl.of_code (knownJ _) (ne_nil (by kernel_rfl)) (head _) (holds_bif (fun h1 => ⟨trivial, ?_⟩) fun h1 => ⟨trivial, ?_⟩)))
  · have h1 : i < l.length := by have := of_decide_eq_true h1; omega
    have hx := hs l[i] (List.getElem_mem h1)
    show Trl _ _ ((flatten wbL).drop 2) _ _ _
    rw [wb_fl1]
    have begn := fun R => wb_begin l os ms (textB ms) v u i R
    rw [sv_ex h1] at begn
    refine Tr.block (Tr.of_flat (Trl.split 2 (Trl.of_code (knownJ _) (ne_nil (by kernel_rfl)) (begn _) ⟨cds_of trivial (el_ok h1), ?_⟩)))
    refine wb_scan l os ms (textB ms) v u i h1 hx _ ?_
    have hw := filt_snoc h1 isWord
    have hn := filt_snoc h1 isLine
    rw [← hos] at hw
    rw [← hms] at hn
    have fin : ∀ (os' ms' : List ByteArray) (v' u' : Nat), os' = (l.take (i + 1)).filter isWord → ms' = (l.take (i + 1)).filter isLine → Trl Try.prog nro ((flatten wbL).drop 3) (wbA l (.lst 1 (os'.map sv) (.tp 0 v')) (.lst 1 (ms'.map sv) (.tp 1 u')) (textB ms') i) (hp [] [v', u']) (fun e a h => match e with
        | .normal => ∃ m', m' < l.length - i ∧ I m' a h
        | e => leave 0 (nx (fun a h => Trl Try.prog nro ((flatten (bodyOf 5)).drop 7) a h (fun e a h => (e = .normal ∨ e = .ret) ∧ ansOk (fun r _ => r = .v (.bool true)) (resOf Try.prog nro [.tmp 2] a h))) (fun e a h => (e = .normal ∨ e = .ret) ∧ ansOk (fun r _ => r = .v (.bool true)) (resOf Try.prog nro [.tmp 2] a h))) e a h) := by
      intro os' ms' v' u' e1 e2
      have inc := fun R => wb_inc l os' ms' (textB ms') v' u' i R
      rw [inc64 i (by omega)] at inc
      refine Trl.of_code (knownJ _) (ne_nil (by kernel_rfl)) (inc _) ⟨trivial, l.length - (i + 1), by omega, i + 1, v', u', h1, rfl, ?_, rfl⟩
      subst e1 e2; rfl
    have tail := fun R => wb_tail l os ms (textB ms) v u i (isWord l[i]) (isLine l[i]) (l[i].size : Nat) R
    rw [sv_ex h1] at tail
    have el := el_ok h1
    have sn : ∀ (xs : List ByteArray) (x : ByteArray), xs.map sv ++ [AV.v (.string x)] = (xs ++ [x]).map sv := fun xs x => by rw [List.map_append]; rfl
    have tx : textB ms ++ l[i] ++ ByteArray.mk #[10] = textB (ms ++ [l[i]]) := (textB_snoc ms l[i]).symm
    rw [sn, sn, tx] at tail
    have rmO : ∀ x : AV, decide ((((os.map sv).length + [x].length) * 16 ≤ 140737488355328 ∧ (os.map sv).length + [x].length ≤ 9223372036854775807) ∧ v = v) = true := fun x => decide_eq_true (room (by omega))
    have rmM : ∀ x : AV, decide ((((ms.map sv).length + [x].length) * 16 ≤ 140737488355328 ∧ (ms.map sv).length + [x].length ≤ 9223372036854775807) ∧ u = u) = true := fun x => decide_eq_true (room (by omega))
    have z1 : decide ((textB ms).size + l[i].size ≤ 9223372036854775807) = true := decide_eq_true (by omega)
    have z2 : decide ((textB ms ++ l[i]).size + 1 ≤ 9223372036854775807) = true := decide_eq_true (by rw [ByteArray.size_append]; omega)
    refine Trl.of_code (knownJ _) (ne_nil (by kernel_rfl)) (tail _) (holds_bif (fun hb => holds_bif (fun hc => ⟨?_, fin _ _ _ _ ?_ ?_⟩) fun hc => ⟨?_, fin _ _ _ _ ?_ ?_⟩) fun hb => holds_bif (fun hc => ⟨?_, fin _ _ _ _ ?_ ?_⟩) fun hc => ⟨?_, fin _ _ _ _ ?_ ?_⟩)
    all_goals first
      | (rw [hw, hb]; rfl)
      | (rw [hn, hc]; rfl)
      | (repeat' first
          | with_reducible exact trivial
          | with_reducible refine cdb_iff.2 ⟨?_, ?_⟩
          | with_reducible refine cds_of ?_ el
          | with_reducible exact rmO _
          | with_reducible exact rmM _
          | with_reducible exact z1
          | with_reducible exact z2)
  · have h1 : i = l.length := by have := of_decide_eq_false h1; omega
    show Trl _ _ ((flatten (bodyOf 5)).drop 7) _ _ _
    have post := fun R => wb_post fewX linesS wordsS (fun s => plainL s.data.toList) cutA cutB cutK joinX findN findB sameX l os ms (textB ms) v u i R
    rw [joinX_of, words_back fun x hx => (so x hx).2, lines_back fun x hx => (sm x hx).2, sameX_of, sameX_of] at post
    have jz := joinB_size (N := 100) os fun x hx => (so x hx).1
    have k1 := joinOk_of (l := os) (tip := .tp 0 v) (by omega) (fun x hx => by have := (so x hx).1; omega)
    have k2 : textOk [.v (.string (joinB os AE.blank))] = true := decide_eq_true (by omega)
    have k3 : textOk [.v (.string (textB ms))] = true := decide_eq_true (by omega)
    have k4 := sameOk_of os os .no (.tp 0 v) (by omega)
    have k5 := sameOk_of ms ms .no (.tp 1 u) (by omega)
    refine Trl.of_code knownU (ne_nil (by kernel_rfl)) (post _) (holds_bif (fun _ => holds_bif (fun _ => ⟨?_, .inr rfl, trivial, rfl⟩) no_sameB) no_sameB)
    exact cdb_iff.2 ⟨cdb_iff.2 ⟨cdb_iff.2 ⟨cdb_iff.2 ⟨cdb_iff.2 ⟨trivial, k1⟩, k2⟩, k4⟩, k3⟩, k5⟩
theorem w_WordsBack (w : World) (a : Option Addr) (cap : Nat) (l : List ByteArray) (hr : RowAt w a (l.map Value.string)) (hc : l.length ≤ cap) (hx : cap ≤ maxLen) (_ : ∀ s ∈ l, s.size ≤ maxLen) :
    Calls Try.prog 5 #[.slice a l.length cap] w fun e w' => e = .returned (.bool true) ∧ Below w.heap.size w w' :=
  law_true (fs_back6 l) w _ (ro_none _ _) (.cons (strs_rv hr hc hx) .nil)
end Go.Proofs.Ytjllakfoeknhdaa
