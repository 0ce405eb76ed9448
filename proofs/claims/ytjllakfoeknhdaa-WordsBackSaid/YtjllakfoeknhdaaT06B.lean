/-
  Layer 6: what is plain, lines, and words: the program's loops over runes.
-/
import Derived.Test.YtjllakfoeknhdaaT06
namespace Go.Proofs.Ytjllakfoeknhdaa.AE
open Go.RowKit
theorem ne_nil {α : Type} {l : List α} (h : l.isEmpty = false) : l ≠ [] := by cases l <;> simp_all
theorem Fs.ro {g : FuncId} {args : List AV} {H : AH} {Φ : AV → AH → Prop} (h : Fs Try.prog nro g args H Φ) (ro : Nat → Option (List Value)) : Fs Try.prog ro g args H Φ :=
  fun G W cargs hI _ hA => h G W cargs hI (ro_none _ _) hA
theorem ba_ext {a b : ByteArray} (h : a.data.toList = b.data.toList) : a = b := ByteArray.ext (Array.toList_inj.1 h)
def ba (l : List UInt8) : ByteArray := ⟨l.toArray⟩
theorem ba_data (l : List UInt8) : (ba l).data.toList = l := by show (List.toArray l).toList = l; simp
theorem ext_ba (s : ByteArray) (f i : Nat) : s.extract f i = ba ((s.data.toList.take i).drop f) := by
  apply ba_ext
  rw [ByteArray.data_extract, ba_data]
  simp [List.drop_take]
theorem len_data (s : ByteArray) : s.data.toList.length = s.size := by rw [Array.length_toList]; rfl
/-- A rune, and the bytes that it is read from. -/
theorem rune_step (s : ByteArray) (p : Nat) (hp : p < s.size) : ∃ seg, s.data.toList.drop p = seg ++ s.data.toList.drop (p + (Utf8.decode s p).2) ∧ seg.length = (Utf8.decode s p).2 ∧ 1 ≤ (Utf8.decode s p).2 ∧ p + (Utf8.decode s p).2 ≤ s.size ∧
    ((∃ b : UInt8, seg = [b] ∧ (Utf8.decode s p).1 = b.toNat ∧ b.toNat < 128) ∨ (128 ≤ (Utf8.decode s p).1 ∧ ∀ c ∈ seg, 128 ≤ c.toNat)) := by
  have hl := len_data s
  have cut : ∀ w, p + w ≤ s.size → s.data.toList.drop p = (s.data.toList.drop p).take w ++ s.data.toList.drop (p + w) := fun w hw => by
    rw [← List.drop_drop, List.take_append_drop]
  have at0 : s.data.toList[p]? = some (s.data.getD p 0) := by
    have h2 : p < s.data.size := hp
    rw [Array.getElem?_toList, Array.getElem?_eq_getElem h2]
    simp [Array.getD, h2]
    intro h3; omega
  by_cases h : (s.data.getD p 0).toNat < 128
  · rw [dec_low s p h]
    refine ⟨_, cut 1 (by omega), ?_, Nat.le_refl _, by omega, .inl ⟨s.data.getD p 0, ?_, rfl, h⟩⟩
    · rw [List.length_take, List.length_drop]; show min 1 _ = 1; omega
    · have hlt : p < s.data.toList.length := by omega
      rw [List.drop_eq_getElem_cons hlt]
      rw [List.getElem?_eq_getElem hlt] at at0
      simp only [Option.some.injEq] at at0
      rw [at0]; rfl
  · obtain ⟨h1, h2, h3, h4⟩ := dec_high s p hp h
    generalize Utf8.decode s p = d at *
    refine ⟨_, cut d.2 h3, ?_, h2, h3, .inr ⟨h1, fun c hc => ?_⟩⟩
    · rw [List.length_take, List.length_drop]; omega
    · obtain ⟨j, hj, rfl⟩ := List.getElem_of_mem hc
      rw [List.length_take, List.length_drop] at hj
      have h5 := h4 j (by omega)
      rw [List.getElem_take, List.getElem_drop]
      have hlt : p + j < s.data.size := by show p + j < s.size; omega
      have : s.data.toList[p + j]'(by rw [Array.length_toList]; exact hlt) = s.data.getD (p + j) 0 := by
        rw [Array.getElem_toList]
        simp [Array.getD, hlt]
        intro h6; have : s.data.size = s.size := rfl; omega
      rw [this]; exact h5
theorem itP_get (act : List AV) (i k : Nat) (h : act[i]? = some (itP k)) : act[i]? = some (.v (.pointer (some ⟨k, 0, none⟩))) := h
/-! What is plain. -/
def plainL (l : List UInt8) : Bool := l.all fun c => decide (32 ≤ c.toNat) && decide (c.toNat ≤ 126)
theorem plain_app (a b : List UInt8) : plainL (a ++ b) = (plainL a && plainL b) := by simp [plainL, List.all_append]
theorem plain_bad {c : UInt8} {l : List UInt8} (h : c ∈ l) (hc : ¬ (32 ≤ c.toNat ∧ c.toNat ≤ 126)) : plainL l = false := by
  cases e : plainL l with
  | false => rfl
  | true =>
    simp only [plainL, List.all_eq_true, Bool.and_eq_true, decide_eq_true_eq] at e
    exact absurd (e c h) hc
theorem pn_sl : slotsOf 14 = 16 := by kernel_rfl
theorem pn_re : resultsOf 14 = [.tmp 2] := by kernel_rfl
noncomputable abbrev pnB : Code := sub (bodyOf 14) [1, 0, 1, 0, 0]
theorem pn_b : bodyOf 14 = ((flatten (bodyOf 14)).take 1).foldr .seq (.seq (.seq (sub (bodyOf 14) [1, 0, 0]) (.block 0 (.loop pnB))) (sub (bodyOf 14) [1, 1])) := by kernel_rfl
theorem pn_r1 : RangeAt (sub (bodyOf 14) [1, 0, 0]) 0 5 6 9 := ⟨by kernel_rfl, by kernel_rfl, by kernel_rfl, by kernel_rfl, by kernel_rfl, by kernel_rfl, by kernel_rfl⟩
theorem pn_r2 : NextAt (sub pnB [0]) 6 7 8 := ⟨by kernel_rfl, by kernel_rfl, by kernel_rfl, by kernel_rfl, by kernel_rfl, by kernel_rfl, by kernel_rfl⟩
theorem pn_f : flatten pnB = sub pnB [0] :: (flatten pnB).drop 1 := by kernel_rfl
theorem fs_plain (s : ByteArray) : Fs Try.prog nro 14 [.v (.string s)] (hp [] []) fun r _ => r = .v (.bool (plainL s.data.toList)) := by
  refine Fs.of_body (has_fn (by kernel_rfl)) ?_
  rw [pn_sl, pn_re, pn_b]
  refine Tr.pre (c := _) (act := []) (H := hp [] []) (Trl.of_code (known_none _) (ne_nil (by kernel_rfl)) (pn_pre s _) ⟨trivial, ?_⟩)
  refine Tr.seq (Tr.rangeAt (s := s) pn_r1 Try.underlying9 rfl (Nat.lt_of_lt_of_eq (by decide : 5 < 16) rfl) fun B k hB => ?_)
  refine TrI.keep [0, 6] ?_
  have hl := len_data s
  let I : Nat → List AV → AH → Nat → Prop := fun m act H p => p ≤ s.size ∧ m = s.size - p ∧ act = pnA s k .dead .dead ∧ H = hp [] [] ∧ plainL s.data.toList = plainL (s.data.toList.drop p)
  refine TrI.block (TrI.loop hB I ?_ (m := s.size) ⟨Nat.zero_le _, rfl, rfl, rfl, rfl⟩)
  rintro m act H p ⟨hp, rfl, rfl, rfl, hI⟩
  refine TrI.round hB pn_f pn_r2 rfl (Nat.lt_of_lt_of_eq (by decide : 7 < 16) rfl) (fun hlt => ?_) (fun hge => ?_)
  · obtain ⟨seg, h1, h2, h3, h4, h5⟩ := rune_step s p hlt
    rw [h1, plain_app] at hI
    refine Trl.of_code (known_none _) (ne_nil (by kernel_rfl)) (pn_rd s k p _ _) (holds_bif (fun h => ⟨trivial, .inr rfl, trivial, ?_⟩) fun h => holds_bif (fun h' => ⟨trivial, .inr rfl, trivial, ?_⟩) fun h' => ⟨trivial, ?_⟩)
    · have h := of_decide_eq_true h
      have hb : plainL seg = false := by
        rcases h5 with ⟨b, e1, e2, e3⟩ | ⟨e1, e2⟩
        · rw [e1]; exact plain_bad (List.mem_singleton.2 rfl) (by omega)
        · omega
      rw [hI, hb]; rfl
    · have h' := of_decide_eq_true h'
      have hb : plainL seg = false := by
        rcases h5 with ⟨b, e1, e2, e3⟩ | ⟨e1, e2⟩
        · rw [e1]; exact plain_bad (List.mem_singleton.2 rfl) (by omega)
        · cases seg with
          | nil => simp at h2; omega
          | cons c t => exact plain_bad (List.mem_cons_self ..) (by have := e2 c (List.mem_cons_self ..); omega)
      rw [hI, hb]; rfl
    · have h := of_decide_eq_false h
      have h' := of_decide_eq_false h'
      have hb : plainL seg = true := by
        rcases h5 with ⟨b, e1, e2, e3⟩ | ⟨e1, e2⟩
        · rw [e1]; simp [plainL]; omega
        · omega
      rw [hb, Bool.true_and] at hI
      exact ⟨s.size - (p + (Utf8.decode s p).2), by omega, h4, rfl, rfl, rfl, hI⟩
  · refine Trl.of_code (known_none _) (ne_nil (by kernel_rfl)) (pn_ov s k _) ⟨trivial, ?_⟩
    show Tr Try.prog nro (sub (bodyOf 14) [1, 1]) _ _ _
    rw [List.drop_of_length_le (by omega)] at hI
    refine Tr.of_flat (Tr.keepL [] (by kernel_rfl) (Trl.of_code (known_none _) (ne_nil (by kernel_rfl)) (pn_post _) ⟨trivial, .inr rfl, trivial, ?_⟩))
    rw [hI]; rfl
end Go.Proofs.Ytjllakfoeknhdaa.AE
