/-
  Layer 6: finding, and holding against each other; what is known of words.
-/
import Derived.Test.YtjllakfoeknhdaaT06F
namespace Go.Proofs.Ytjllakfoeknhdaa.AE
open Go.RowKit
theorem ba_inj {a b : ByteArray} : (a.toList == b.toList) = decide (a = b) := by
  rw [Bool.eq_iff_iff, beq_iff_eq, decide_eq_true_eq, ByteArray.toList_eq, ByteArray.toList_eq]
  exact ⟨fun h => ba_ext h, fun h => by rw [h]⟩
def fnd (w : ByteArray) : Nat → List ByteArray → Option Nat
  | _, [] => none
  | i, x :: l => if x = w then some i else fnd w (i + 1) l
def fndV (w : ByteArray) (l : List ByteArray) : Value := match fnd w 0 l with
  | some i => .tuple #[.int .i64 (i : Nat), .bool true]
  | none => .tuple #[.int .i64 0, .bool false]
def fndN (w : ByteArray) (l : List ByteArray) : Int := match fnd w 0 l with
  | some i => (i : Nat)
  | none => 0
def fndB (w : ByteArray) (l : List ByteArray) : Bool := match fnd w 0 l with
  | some _ => true
  | none => false
theorem fndV_eq (w : ByteArray) (l : List ByteArray) : fndV w l = .tuple #[.int .i64 (fndN w l), .bool (fndB w l)] := by
  unfold fndV fndN fndB
  cases fnd w 0 l <;> rfl
theorem rf_sl : slotsOf 18 = 20 := by kernel_rfl
theorem rf_re : resultsOf 18 = [.tmp 4, .tmp 5] := by kernel_rfl
theorem rf_fl : (flatten (bodyOf 18)).drop 2 = .block 0 (.loop (sub (bodyOf 18) [1, 0, 1, 0, 0])) :: (flatten (bodyOf 18)).drop 3 := by kernel_rfl
theorem fs_rfind (w : ByteArray) (l : List ByteArray) (hl : l.length ≤ 1000000) : Fs Try.prog nro 18 [.v (.string w), .lst 1 (l.map sv) .no] (hp [] []) fun r _ => r = .v (fndV w l) := by
  refine Fs.of_body (has_fn (by kernel_rfl)) ?_
  rw [rf_sl, rf_re]
  refine Tr.of_flat (Trl.split 2 (Trl.of_code (knownJ _) (ne_nil (by kernel_rfl)) (rf_pre w l _) ⟨trivial, ?_⟩))
  show Trl _ _ ((flatten (bodyOf 18)).drop 2) _ _ _
  rw [rf_fl]
  let I : Nat → List AV → AH → Prop := fun m act H => ∃ i : Nat, i ≤ l.length ∧ m = l.length - i ∧ act = rfA w l i ∧ H = hp [] [] ∧ fnd w 0 l = fnd w i (l.drop i)
  refine Tr.block (Tr.loop I ?_ (m := l.length) ⟨0, Nat.zero_le _, rfl, rfl, rfl, rfl⟩)
  rintro m' act H ⟨i, hi, rfl, rfl, rfl, hI⟩
  have body := fun R => rf_in w l i R
  rw [sv_len, inc64 i (by omega)] at body
  refine Tr.of_code (knownJ _) (body _) (holds_bif (fun h1 => ?_) fun h1 => ⟨trivial, ?_⟩)
  · have h1 : i < l.length := by have := of_decide_eq_true h1; omega
    have hg : (l.map sv)[Int.toNat (i : Int)]? = some (.v (.string l[i])) := sv_get h1
    rw [sv_ex h1, ba_inj]
    rw [List.drop_eq_getElem_cons h1, fnd] at hI
    have c0 := cds_of (b := elemB Try.prog 9 (l.map sv) i) (c := True) trivial (⟨Int.natCast_nonneg i, hg⟩ : 0 ≤ (i : Int) ∧ (l.map sv)[Int.toNat (i : Int)]? = some (.v (.string l[i])))
    refine holds_bif (fun h2 => ⟨c0, .inr rfl, trivial, ?_⟩) fun h2 => ⟨c0, l.length - (i + 1), by omega, i + 1, h1, rfl, rfl, rfl, ?_⟩
    · rw [if_pos (of_decide_eq_true h2)] at hI
      unfold fndV; rw [hI]; rfl
    · rw [if_neg (of_decide_eq_false h2)] at hI
      exact hI
  · have h1 : i = l.length := by have := of_decide_eq_false h1; omega
    subst h1
    rw [List.drop_length] at hI
    show Trl _ _ ((flatten (bodyOf 18)).drop 3) _ _ _
    refine Trl.of_code (knownJ _) (ne_nil (by kernel_rfl)) (rf_post w l _ _) ⟨trivial, .inr rfl, trivial, ?_⟩
    unfold fndV; rw [hI]; rfl
theorem fd_sl : slotsOf 17 = 20 := by kernel_rfl
theorem fd_re : resultsOf 17 = [.tmp 4, .tmp 5] := by kernel_rfl
theorem fd_fl : (flatten (bodyOf 17)).drop 2 = .block 0 (.loop (sub (bodyOf 17) [1, 0, 1, 0, 0])) :: (flatten (bodyOf 17)).drop 3 := by kernel_rfl
theorem fs_find (w : ByteArray) (l : List ByteArray) (hl : l.length ≤ 1000000) : Fs Try.prog nro 17 [.v (.string w), .lst 1 (l.map sv) .no] (hp [] []) fun r _ => r = .v (fndV w l) := by
  refine Fs.of_body (has_fn (by kernel_rfl)) ?_
  rw [fd_sl, fd_re]
  have pre := fun R => fd_pre w l R
  rw [sv_len] at pre
  refine Tr.of_flat (Trl.split 2 (Trl.of_code (knownJ _) (ne_nil (by kernel_rfl)) (pre _) ⟨trivial, ?_⟩))
  show Trl _ _ ((flatten (bodyOf 17)).drop 2) _ _ _
  rw [fd_fl]
  let I : Nat → List AV → AH → Prop := fun m act H => ∃ i : Nat, i ≤ l.length ∧ m = l.length - i ∧ act = fdA w l (l.length : Nat) i ∧ H = hp [] [] ∧ fnd w 0 l = fnd w i (l.drop i)
  refine Tr.block (Tr.loop I ?_ (m := l.length) ⟨0, Nat.zero_le _, rfl, rfl, rfl, rfl⟩)
  rintro m' act H ⟨i, hi, rfl, rfl, rfl, hI⟩
  have body := fun R => fd_in w l (l.length : Nat) i R
  rw [inc64 i (by omega)] at body
  refine Tr.of_code (knownJ _) (body _) (holds_bif (fun h1 => ?_) fun h1 => ⟨trivial, ?_⟩)
  · have h1 : i < l.length := by have := of_decide_eq_true h1; omega
    have hg : (l.map sv)[Int.toNat (i : Int)]? = some (.v (.string l[i])) := sv_get h1
    rw [sv_ex h1, ba_inj]
    rw [List.drop_eq_getElem_cons h1, fnd] at hI
    have c0 := cds_of (b := elemB Try.prog 9 (l.map sv) i) (c := True) trivial (⟨Int.natCast_nonneg i, hg⟩ : 0 ≤ (i : Int) ∧ (l.map sv)[Int.toNat (i : Int)]? = some (.v (.string l[i])))
    refine holds_bif (fun h2 => ⟨c0, .inr rfl, trivial, ?_⟩) fun h2 => ⟨c0, l.length - (i + 1), by omega, i + 1, h1, rfl, rfl, rfl, ?_⟩
    · rw [if_pos (of_decide_eq_true h2)] at hI
      unfold fndV; rw [hI]; rfl
    · rw [if_neg (of_decide_eq_false h2)] at hI
      exact hI
  · have h1 : i = l.length := by have := of_decide_eq_false h1; omega
    subst h1
    rw [List.drop_length] at hI
    show Trl _ _ ((flatten (bodyOf 17)).drop 3) _ _ _
    refine Trl.of_code (knownJ _) (ne_nil (by kernel_rfl)) (fd_post w l _ _ _) ⟨trivial, .inr rfl, trivial, ?_⟩
    unfold fndV; rw [hI]; rfl
theorem rs_sl : slotsOf 9 = 32 := by kernel_rfl
theorem rs_re : resultsOf 9 = [.tmp 4] := by kernel_rfl
theorem rs_fl : (flatten (bodyOf 9)).drop 4 = .block 0 (.loop (sub (bodyOf 9) [1, 1, 0, 1, 0, 0])) :: (flatten (bodyOf 9)).drop 5 := by kernel_rfl
theorem fs_rsame (a b : List ByteArray) (ha : a.length ≤ 1000000) : Fs Try.prog nro 9 [.lst 1 (a.map sv) .no, .lst 1 (b.map sv) .no] (hp [] []) fun r _ => r = .v (.bool (decide (a = b))) := by
  refine Fs.of_body (has_fn (by kernel_rfl)) ?_
  rw [rs_sl, rs_re]
  have pre := fun R => rs_pre a b R
  rw [sv_len, sv_len] at pre
  refine Tr.of_flat (Trl.split 4 (Trl.of_code (knownJ _) (ne_nil (by kernel_rfl)) (pre _) (holds_bif (fun h => ⟨trivial, .inr rfl, trivial, ?_⟩) fun h => ⟨trivial, ?_⟩)))
  · have h : ¬ a = b := by rintro rfl; simp at h
    rw [decide_eq_false h]; rfl
  have hlen : a.length = b.length := by simp at h; omega
  show Trl _ _ ((flatten (bodyOf 9)).drop 4) _ _ _
  rw [rs_fl]
  refine Tr.keepL [0, 1, 5] rfl ?_
  let I : Nat → List AV → AH → Prop := fun m act H => ∃ i : Nat, i ≤ a.length ∧ m = a.length - i ∧ act = rsA a b i ∧ H = hp [] [] ∧ a.take i = b.take i
  refine Tr.block (Tr.loop I ?_ (m := a.length) ⟨0, Nat.zero_le _, rfl, rfl, rfl, rfl⟩)
  rintro m act H ⟨i, hi, rfl, rfl, rfl, hp⟩
  have body := fun R => rs_in a b i R
  rw [sv_len, sv_len, inc64 i (by omega)] at body
  refine Tr.of_code (knownJ _) (body _) (holds_bif (fun h1 => holds_bif (fun h2 => ?_) (fun h2 => ?_)) fun h1 => ⟨trivial, ?_⟩)
  · have h1 : i < a.length := by have := of_decide_eq_true h1; omega
    have h2 : i < b.length := by omega
    have g1 : (a.map sv)[Int.toNat (i : Int)]? = some (.v (.string a[i])) := sv_get h1
    have g2 : (b.map sv)[Int.toNat (i : Int)]? = some (.v (.string b[i])) := sv_get h2
    have h0 := Int.natCast_nonneg i
    rw [sv_ex h1, sv_ex h2, ba_inj]
    refine holds_bif (fun h3 => ⟨cds_of (cds_of trivial ⟨h0, g1⟩) ⟨h0, g2⟩, .inr rfl, trivial, ?_⟩) (fun h3 => ⟨cds_of (cds_of trivial ⟨h0, g1⟩) ⟨h0, g2⟩, a.length - (i + 1), by omega, i + 1, h1, rfl, rfl, rfl, ?_⟩)
    · have h3 : ¬ a[i] = b[i] := by simpa using h3
      have : ¬ a = b := by rintro rfl; exact h3 rfl
      rw [decide_eq_false this]; rfl
    · have h3 : a[i] = b[i] := by simpa using h3
      rw [take_snoc h1, take_snoc h2, hp, h3]
  · have h1 := of_decide_eq_true h1
    have h2 := of_decide_eq_false h2
    omega
  · have h1 : i = a.length := by have := of_decide_eq_false h1; omega
    have hab : a = b := by
      rw [h1, List.take_length, hlen, List.take_length] at hp; exact hp
    show Trl _ _ ((flatten (bodyOf 9)).drop 5) _ _ _
    refine Trl.of_code (knownJ _) (ne_nil (by kernel_rfl)) (rs_post _ _ _ _) ⟨trivial, .inr rfl, trivial, ?_⟩
    rw [decide_eq_true hab]; rfl
end Go.Proofs.Ytjllakfoeknhdaa.AE
