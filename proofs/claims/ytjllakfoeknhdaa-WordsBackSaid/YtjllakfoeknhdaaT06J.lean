/-
  Layer 6: what is known with awake; the law of any text, as a tree.
-/
import Derived.Test.YtjllakfoeknhdaaT06I
namespace Go.Proofs.Ytjllakfoeknhdaa.AE
open Go.RowKit
theorem fs_awake6 : Fs Try.prog nro 6 [] (hp [] []) fun r _ => r = .v (.bool true) :=
  Fs.of_call (knownW _) (t_awake fun r => r = .v (.bool true)) (by repeat' first | exact rfl | exact trivial | refine ⟨?_, ?_⟩)
theorem awake6_ok : ∀ args H r H', pure? awakeS args H = some (r, H') → HSound1 Try.prog nro 6 args H r H' := by
  refine pure_ok (fun us c hs => ?_) (has_fn (by kernel_rfl))
  unfold awakeS at hs
  split at hs
  · cases hs; exact fs_awake6
  · cases hs
noncomputable def prV (FL FW : ByteArray → List ByteArray) (P : ByteArray → Bool) (A B : ByteArray → ByteArray) (K : ByteArray → Bool) (J : AV → ByteArray) (N : ByteArray → AV → Int) (D : ByteArray → AV → Bool) (S : AV → AV → Bool) : FuncId → Option (List AV → AH → Ans) := fun g => match g with
  | 6 => some (pure? awakeS)
  | g => prW FL FW P A B K J N D S g
theorem knownV : Known nro (prV linesS wordsS (fun s => plainL s.data.toList) cutA cutB cutK joinX findN findB sameX) := by
  intro g p h
  unfold prV at h
  split at h
  · cases h; exact awake6_ok
  · exact knownW _ g p h
theorem flush_len (w : List UInt8) : (flush w).length ≤ 1 := by unfold flush; split <;> simp
theorem lns_len : ∀ (l w : List UInt8), (lns w l).length ≤ l.length + 1
  | [], w => flush_len w
  | c :: l, w => by
    unfold lns
    split
    · have := lns_len l []; simp; omega
    · have := lns_len l (w ++ [c]); simp; omega
theorem wds_len : ∀ (l w : List UInt8), (wds w l).length ≤ l.length + 1
  | [], w => flush_len w
  | c :: l, w => by
    unfold wds
    split
    · have := flush_len w; simp; omega
    · split
      · have := flush_len w
        have := wds_len l []
        simp; omega
      · have := wds_len l (w ++ [c]); simp; omega
theorem lines_len (s : ByteArray) : (linesS s).length ≤ s.size + 1 := by
  unfold linesS; rw [List.length_map]; exact lns_len _ _
theorem words_len (s : ByteArray) : (wordsS s).length ≤ s.size + 1 := by
  unfold wordsS; rw [List.length_map]; exact wds_len _ _
theorem t_WordsTells (FL FW : ByteArray → List ByteArray) (P : ByteArray → Bool) (A B : ByteArray → ByteArray) (K : ByteArray → Bool) (J : AV → ByteArray) (N : ByteArray → AV → Int) (D : ByteArray → AV → Bool) (S : AV → AV → Bool) (s : ByteArray) (Φ : AV → Prop) : callK nro (fun _ => false) (prV FL FW P A B K J N D S) 5 3 [.v (.string s)] (hp [] []) (fun r h => some (h.cd ∧ Φ r)) =
    (bif (decide ((500 : Int) < ((ByteArray.size s) : Int))) then (some (True ∧ (Φ (AV.v (Value.bool true))))) else (bif (S (AV.lst (1 : Nat) (List.map sv (FL s)) Tip.no) (AV.lst (1 : Nat) (List.map sv (FL s)) Tip.no)) then (bif (S (AV.lst (1 : Nat) (List.map sv (FW s)) Tip.no) (AV.lst (1 : Nat) (List.map sv (FW s)) Tip.no)) then (bif ((ByteArray.toList (A s)) == (ByteArray.toList (A s))) then (bif ((ByteArray.toList (B s)) == (ByteArray.toList (B s))) then (bif ((K s) == (K s)) then (bif ((P s) == (P s)) then (some ((cdb (cdb (cdb (cdb (cdb (cdb (cdb (cdb (cdb (cdb True (decide ((ByteArray.size s) ≤ (100000 : Nat)))) (decide ((ByteArray.size s) ≤ (100000 : Nat)))) (textOk [(AV.v (Value.string s))])) (textOk [(AV.v (Value.string s))])) (sameOk [(AV.lst (1 : Nat) (List.map sv (FL s)) Tip.no), (AV.lst (1 : Nat) (List.map sv (FL s)) Tip.no)])) (textOk [(AV.v (Value.string s))])) (textOk [(AV.v (Value.string s))])) (sameOk [(AV.lst (1 : Nat) (List.map sv (FW s)) Tip.no), (AV.lst (1 : Nat) (List.map sv (FW s)) Tip.no)])) (decide ((ByteArray.size s) ≤ (100000 : Nat)))) (decide ((ByteArray.size s) ≤ (100000 : Nat)))) ∧ (Φ (AV.v (Value.bool true))))) else (some ((cdb (cdb (cdb (cdb (cdb (cdb (cdb (cdb (cdb (cdb True (decide ((ByteArray.size s) ≤ (100000 : Nat)))) (decide ((ByteArray.size s) ≤ (100000 : Nat)))) (textOk [(AV.v (Value.string s))])) (textOk [(AV.v (Value.string s))])) (sameOk [(AV.lst (1 : Nat) (List.map sv (FL s)) Tip.no), (AV.lst (1 : Nat) (List.map sv (FL s)) Tip.no)])) (textOk [(AV.v (Value.string s))])) (textOk [(AV.v (Value.string s))])) (sameOk [(AV.lst (1 : Nat) (List.map sv (FW s)) Tip.no), (AV.lst (1 : Nat) (List.map sv (FW s)) Tip.no)])) (decide ((ByteArray.size s) ≤ (100000 : Nat)))) (decide ((ByteArray.size s) ≤ (100000 : Nat)))) ∧ (Φ (AV.v (Value.bool false)))))) else (some ((cdb (cdb (cdb (cdb (cdb (cdb (cdb (cdb True (decide ((ByteArray.size s) ≤ (100000 : Nat)))) (decide ((ByteArray.size s) ≤ (100000 : Nat)))) (textOk [(AV.v (Value.string s))])) (textOk [(AV.v (Value.string s))])) (sameOk [(AV.lst (1 : Nat) (List.map sv (FL s)) Tip.no), (AV.lst (1 : Nat) (List.map sv (FL s)) Tip.no)])) (textOk [(AV.v (Value.string s))])) (textOk [(AV.v (Value.string s))])) (sameOk [(AV.lst (1 : Nat) (List.map sv (FW s)) Tip.no), (AV.lst (1 : Nat) (List.map sv (FW s)) Tip.no)])) ∧ (Φ (AV.v (Value.bool false)))))) else (some ((cdb (cdb (cdb (cdb (cdb (cdb (cdb (cdb True (decide ((ByteArray.size s) ≤ (100000 : Nat)))) (decide ((ByteArray.size s) ≤ (100000 : Nat)))) (textOk [(AV.v (Value.string s))])) (textOk [(AV.v (Value.string s))])) (sameOk [(AV.lst (1 : Nat) (List.map sv (FL s)) Tip.no), (AV.lst (1 : Nat) (List.map sv (FL s)) Tip.no)])) (textOk [(AV.v (Value.string s))])) (textOk [(AV.v (Value.string s))])) (sameOk [(AV.lst (1 : Nat) (List.map sv (FW s)) Tip.no), (AV.lst (1 : Nat) (List.map sv (FW s)) Tip.no)])) ∧ (Φ (AV.v (Value.bool false)))))) else (some ((cdb (cdb (cdb (cdb (cdb (cdb (cdb (cdb True (decide ((ByteArray.size s) ≤ (100000 : Nat)))) (decide ((ByteArray.size s) ≤ (100000 : Nat)))) (textOk [(AV.v (Value.string s))])) (textOk [(AV.v (Value.string s))])) (sameOk [(AV.lst (1 : Nat) (List.map sv (FL s)) Tip.no), (AV.lst (1 : Nat) (List.map sv (FL s)) Tip.no)])) (textOk [(AV.v (Value.string s))])) (textOk [(AV.v (Value.string s))])) (sameOk [(AV.lst (1 : Nat) (List.map sv (FW s)) Tip.no), (AV.lst (1 : Nat) (List.map sv (FW s)) Tip.no)])) ∧ (Φ (AV.v (Value.bool false)))))) else (some ((cdb (cdb (cdb (cdb (cdb (cdb (cdb (cdb True (decide ((ByteArray.size s) ≤ (100000 : Nat)))) (decide ((ByteArray.size s) ≤ (100000 : Nat)))) (textOk [(AV.v (Value.string s))])) (textOk [(AV.v (Value.string s))])) (sameOk [(AV.lst (1 : Nat) (List.map sv (FL s)) Tip.no), (AV.lst (1 : Nat) (List.map sv (FL s)) Tip.no)])) (textOk [(AV.v (Value.string s))])) (textOk [(AV.v (Value.string s))])) (sameOk [(AV.lst (1 : Nat) (List.map sv (FW s)) Tip.no), (AV.lst (1 : Nat) (List.map sv (FW s)) Tip.no)])) ∧ (Φ (AV.v (Value.bool false)))))) else (some ((cdb (cdb (cdb (cdb (cdb True (decide ((ByteArray.size s) ≤ (100000 : Nat)))) (decide ((ByteArray.size s) ≤ (100000 : Nat)))) (textOk [(AV.v (Value.string s))])) (textOk [(AV.v (Value.string s))])) (sameOk [(AV.lst (1 : Nat) (List.map sv (FL s)) Tip.no), (AV.lst (1 : Nat) (List.map sv (FL s)) Tip.no)])) ∧ (Φ (AV.v (Value.bool false))))))) := by kernel_rfl
end Go.Proofs.Ytjllakfoeknhdaa.AE
