/-
  Layer 3: a text is fed; sums.
-/
import Derived.Test.YtimocgjeikgilaaT03C
namespace Go.Proofs.Ytimocgjeikgilaa.AE
open Go.RowKit Cr
def bytsOf (s : ByteArray) : List UInt8 := s.data.toList
theorem sl_all : slotsOf 30 = 16 := by kernel_rfl
theorem re_all : resultsOf 30 = [] := by kernel_rfl
theorem fl_all : (flatten (bodyOf 30)).drop 1 = [.block 0 (.loop (sub (bodyOf 30) [1, 0, 0]))] := by kernel_rfl
def allA (s : ByteArray) (k : Nat) : List AV := [.v (.string s), .fn (.func 32) [] [.ptr 0 0]] ++ List.replicate 4 .dead ++ [.v (.int .i64 (s.size : Nat)), .v (.int .i64 k)] ++ List.replicate 8 .dead
theorem len_byts (s : ByteArray) : (bytsOf s).length = s.size := by unfold bytsOf; rw [Array.length_toList]; rfl
theorem getD_byts (s : ByteArray) (k : Nat) (h : k < s.size) : Array.getD s.data k 0 = (bytsOf s)[k]'(by rw [len_byts]; exact h) := by
  have h2 : k < s.data.size := h
  unfold bytsOf
  simp only [Array.getD, h2, dif_pos]
  rfl
theorem fs_all (s : ByteArray) (n : Nat) (hn : n < 65536) (hs : s.size ≤ 100000) :
    Fs Try.prog nro 30 [.v (.string s), .fn (.func 32) [] [.ptr 0 0]] (bx n) fun r h => r = .v unit ∧ h.blks = [(33, [.v (.int .u16 (bytL n (bytsOf s) : Nat))])] ∧ h.tips = [] := by
  refine Fs.of_body (has_fn (by kernel_rfl)) ?_
  rw [sl_all, re_all]
  refine Tr.of_flat (Trl.split 1 (Trl.of_code (knownF nro) (ne_nil (by kernel_rfl)) (a_pre s n _) ⟨trivial, ?_⟩))
  show Trl _ _ ((flatten (bodyOf 30)).drop 1) _ _ _
  rw [fl_all]
  let I : Nat → List AV → AH → Prop := fun m act H => ∃ k v, k ≤ s.size ∧ m = s.size - k ∧ act = allA s k ∧ v = ((bytL n ((bytsOf s).take k) : Nat) : Int) ∧ H = hp [(33, [.v (.int .u16 v)])] []
  refine Tr.block (Tr.loop I ?_ (m := s.size) ⟨0, _, Nat.zero_le _, rfl, rfl, rfl, rfl⟩)
  rintro m act H ⟨k, v, hk, rfl, rfl, rfl, rfl⟩
  have hlt := bytL_lt hn ((bytsOf s).take k)
  refine Tr.of_code (knownF nro) (a_body s _ _ k _) (holds_bif (fun h8 => ?_) (fun h8 => ?_))
  · have h8 := of_decide_eq_true h8
    have h8 : k < s.size := by omega
    have hg := getD_byts s k h8
    have hb := ((bytsOf s)[k]'(by rw [len_byts]; exact h8)).toNat_lt
    refine ⟨?_, s.size - (k + 1), by omega, k + 1, _, by omega, rfl, ?_, ?_, rfl⟩
    · with_reducible refine cdb_iff.2 ⟨cdb_iff.2 ⟨trivial, ?_⟩, ?_⟩
      · exact decide_eq_true ⟨Int.natCast_nonneg k, h8⟩
      · have hb' : (UInt8.toNat (Array.getD s.data k 0) : Int) < 256 := by rw [hg]; omega
        have h0 : (0 : Int) ≤ (bytL n ((bytsOf s).take k) : Nat) := Int.natCast_nonneg _
        have h1 : ((bytL n ((bytsOf s).take k) : Nat) : Int) < 65536 := by omega
        exact decide_eq_true ⟨h0, h1, Int.natCast_nonneg _, hb'⟩
    · rw [add_one k (by omega)]; rfl
    · show ((byt (bytL n ((bytsOf s).take k)) (UInt8.toNat (Array.getD s.data k 0)) : Nat) : Int) = _
      rw [hg, List.take_succ_eq_append_getElem (by rw [len_byts]; exact h8), bytL_app]
      rfl
  · have h8 := of_decide_eq_false h8
    obtain rfl : k = s.size := by omega
    refine ⟨trivial, .inl rfl, trivial, rfl, ?_, rfl⟩
    rw [← len_byts, List.take_length]
    rfl
def allP (t : TypeId) (args : List AV) (x : Value) : Option (Value × Value × Bool) := match args, x with
  | [.v (.string s), .fn (.func f) [] [.ptr 0 0]], .int .u16 n => match decide (f = 32) && decide (t = 33) with
    | true => some (unit, .int .u16 (bytL n.toNat (bytsOf s) : Nat), decide (0 ≤ n ∧ n < 65536 ∧ s.size ≤ 100000))
    | false => none
  | _, _ => none
theorem all_ok (ro : Nat → Option (List Value)) : ∀ args H r H', box? allP args H = some (r, H') → HSound1 Try.prog ro 30 args H r H' := by
  refine box_ok (has_fn (by kernel_rfl)) fun t args x c x' hs => Fs.ro ?_ ro
  unfold allP at hs
  split at hs
  · rename_i s f n
    split at hs
    · rename_i ht
      simp only [Bool.and_eq_true, decide_eq_true_eq] at ht
      obtain ⟨hf, ht⟩ := ht
      simp only [Option.some.injEq, Prod.mk.injEq, decide_eq_true_eq] at hs
      obtain ⟨rfl, rfl, h1, h2, h3⟩ := hs
      obtain ⟨n, rfl⟩ := Int.eq_ofNat_of_zero_le h1
      subst ht hf
      exact fs_all s n (by omega) h3
    · cases hs
  · cases hs
noncomputable def prM : FuncId → Option (List AV → AH → Ans) := fun g => match g with
  | 30 => some (box? allP)
  | _ => none
theorem knownM (ro : Nat → Option (List Value)) : Known ro prM := by
  intro g p h
  unfold prM at h
  split at h
  · cases h; exact all_ok _
  · cases h
theorem more_run (n : Int) (s : ByteArray) (Φ : AV → AH → Prop) : callK nro (fun _ => false) prM 5 27 [.v (.int .i64 n), .v (.string s)] (hp [] []) (fun r h => some (h.cd ∧ Φ r (tidy h))) =
    (some ((cdb True (decide (((0 : Int) ≤ (IntKind.wrap IntKind.u16 n)) ∧ (((IntKind.wrap IntKind.u16 n) < (65536 : Int)) ∧ ((ByteArray.size s) ≤ (100000 : Nat)))))) ∧ (Φ (AV.v (Value.int IntKind.i64 (IntKind.wrap IntKind.i64 ((Cr.bytL (Int.toNat (IntKind.wrap IntKind.u16 n)) (bytsOf s)) : Int)))) (AH.mk [((33 : Nat), [(AV.v (Value.int IntKind.u16 ((Cr.bytL (Int.toNat (IntKind.wrap IntKind.u16 n)) (bytsOf s)) : Int)))])] (@List.nil Nat) (0 : Nat) (0 : Nat) true (@List.nil (Prod Nat Bool)) True)))) := by kernel_rfl
end Go.Proofs.Ytimocgjeikgilaa.AE
