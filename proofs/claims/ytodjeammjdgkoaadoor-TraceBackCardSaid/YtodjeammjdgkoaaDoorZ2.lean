/-
  Layer 39: an event's line: the program's and the document's.
-/
import Derived.Test.YtodjeammjdgkoaaDoorZ1
namespace Go.Proofs.YtodjeammjdgkoaaDoor.AE
open Go.RowKit
theorem wh_ok {ro : Nat → Option (List Value)} {g : FuncId} (hf : ∃ fn, Tryd.prog.funcs[g]? = some fn ∧ fn.body.isSome = true) (h : ∀ n, w64 n → Fs Tryd.prog ro g [.v (.int .i64 n)] (hp [] []) fun r _ => r = .v (.string (whS n))) :
    ∀ args H r H', pure? (whP whS) args H = some (r, H') → HSound1 Tryd.prog ro g args H r H' := by
  refine pure_ok (fun us c hs => ?_) hf
  unfold whP at hs
  split at hs
  · simp only [Option.some.injEq, Prod.mk.injEq] at hs
    obtain ⟨rfl, h1⟩ := hs
    exact h _ (in64_of h1)
  · cases hs
section
variable {tS tR : TypeId} {pS pR : Value}
theorem fs_who (n : Int) (hn : w64 n) : Fs Tryd.prog (roT tS pS tR pR) 27 [.v (.int .i64 n)] (hp [] []) fun r _ => r = .v (.string (whS n)) := by
  refine Fs.of_call (knownDW (roT_le _ _ _ _)) (k_who linesS wordsS plainX cutA cutB cutK joinX findN findB sameX tx dpX dpY (roT tS pS tR pR) n fun r => r = .v (.string (whS n))) (holds_bif (fun h => ⟨trivial, ?_⟩) fun h => ⟨by with_reducible exact cdb_iff.2 ⟨trivial, decide_eq_true hn⟩, ?_⟩)
  · unfold whS; rw [if_pos (eq_of_beq h)]; rfl
  · unfold whS; rw [if_neg (by simpa using h)]
theorem fs_rwho (n : Int) (hn : w64 n) : Fs Tryd.prog (roT tS pS tR pR) 30 [.v (.int .i64 n)] (hp [] []) fun r _ => r = .v (.string (whS n)) := by
  refine Fs.of_call (knownDW (roT_le _ _ _ _)) (k_rwho linesS wordsS plainX cutA cutB cutK joinX findN findB sameX tx dpX dpY (roT tS pS tR pR) n fun r => r = .v (.string (whS n))) (holds_bif (fun h => ⟨trivial, ?_⟩) fun h => ⟨by with_reducible exact cdb_iff.2 ⟨trivial, decide_eq_true hn⟩, ?_⟩)
  · unfold whS; rw [if_pos (eq_of_beq h)]; rfl
  · unfold whS; rw [if_neg (by simpa using h)]
end
noncomputable def prT (FL FW : ByteArray → List ByteArray) (Pl : ByteArray → Bool) (A B : ByteArray → ByteArray) (K : ByteArray → Bool) (J : AV → ByteArray) (N : ByteArray → AV → Int) (D : ByteArray → AV → Bool) (S : AV → AV → Bool) (T : Int → ByteArray) (P Q : ByteArray → Int) (W : Int → ByteArray) : FuncId → Option (List AV → AH → Ans) := fun g => match g with
  | 27 => some (pure? (whP W))
  | 30 => some (pure? (whP W))
  | g => prDW FL FW Pl A B K J N D S T P Q g
theorem knownT {tS tR : TypeId} {pS pR : Value} : Known (roT tS pS tR pR) (prT linesS wordsS plainX cutA cutB cutK joinX findN findB sameX tx dpX dpY whS) := by
  intro g p h
  unfold prT at h
  split at h
  · cases h; exact wh_ok (has_fn (by kernel_rfl)) fs_who
  · cases h; exact wh_ok (has_fn (by kernel_rfl)) fs_rwho
  · exact knownDW (roT_le _ _ _ _) g p h
def muT : FuncId → Bool := fun g => (g == 26 + 1000000) || (g == 29 + 1000000) || (g == 48 + 1000000) || (g == 35 + 1000000) || (g == 27 + 1000000) || (g == 30 + 1000000)
theorem flatT {FL FW : ByteArray → List ByteArray} {Pl : ByteArray → Bool} {A B : ByteArray → ByteArray} {K : ByteArray → Bool} {J : AV → ByteArray} {N : ByteArray → AV → Int} {D : ByteArray → AV → Bool} {S : AV → AV → Bool} {T : Int → ByteArray} {P Q : ByteArray → Int} {W : Int → ByteArray} : Flats muT (prT FL FW Pl A B K J N D S T P Q W) := by
  intro g h
  unfold muT at h
  simp only [Bool.or_eq_true] at h
  rcases h with ((((h | h) | h) | h) | h) | h
  all_goals
    have h := Nat.add_right_cancel (eq_of_beq h)
    subst h
    exact ⟨_, rfl, pure_flat _⟩
def evV (k t s i c a b : Int) : Value := .agg #[.int .i64 k, .int .i64 t, .int .i64 s, .int .i64 i, .int .i64 c, .int .i64 a, .int .i64 b]
end Go.Proofs.YtodjeammjdgkoaaDoor.AE
namespace Go.Proofs.YtodjeammjdgkoaaDoor.AE
open Go.RowKit
theorem k_line (FL FW : ByteArray → List ByteArray) (Pl : ByteArray → Bool) (A B : ByteArray → ByteArray) (K : ByteArray → Bool) (J : AV → ByteArray) (N : ByteArray → AV → Int) (D : ByteArray → AV → Bool) (S : AV → AV → Bool) (T : Int → ByteArray) (P Q : ByteArray → Int) (W : Int → ByteArray) (tS tR : TypeId) (pS pR : Value) (k t s i c a b : Int) (Φ : AV → Prop) : callK (roT tS pS tR pR) muT (prT FL FW Pl A B K J N D S T P Q W) 8 7 [.v (evV k t s i c a b)] (hp [] []) (fun r h => some (h.cd ∧ Φ r)) =
    (bif (decide (k < (1 : Int))) then (some (True ∧ (Φ (AV.v (Value.tuple #[(Value.string (ByteArray.mk (Array.mk (@List.nil UInt8)))), (Value.int IntKind.i64 (1 : Int))]))))) else (bif (decide ((15 : Int) < k)) then (some (True ∧ (Φ (AV.v (Value.tuple #[(Value.string (ByteArray.mk (Array.mk (@List.nil UInt8)))), (Value.int IntKind.i64 (1 : Int))]))))) else (some ((cdb (cdb (cdb (cdb (cdb (cdb (cdb (cds (cdb True (decide (((0 : Int) ≤ (IntKind.wrap IntKind.i64 (k - (1 : Int)))) ∧ ((IntKind.wrap IntKind.i64 (k - (1 : Int))) < (15 : Int))))) (shapes Tryd.prog (List.take (1 : Nat) (List.drop ((0 : Nat) + ((Int.toNat (IntKind.wrap IntKind.i64 (k - (1 : Int)))) * (1 : Nat))) [(AV.v (Value.string (ByteArray.mk #[(99 : UInt8), (97 : UInt8), (109 : UInt8), (101 : UInt8)]))), (AV.v (Value.string (ByteArray.mk #[(116 : UInt8), (119 : UInt8), (105 : UInt8), (99 : UInt8), (101 : UInt8)]))), (AV.v (Value.string (ByteArray.mk #[(115 : UInt8), (116 : UInt8), (97 : UInt8), (114 : UInt8), (116 : UInt8)]))), (AV.v (Value.string (ByteArray.mk #[(101 : UInt8), (110 : UInt8), (100 : UInt8)]))), (AV.v (Value.string (ByteArray.mk #[(99 : UInt8), (97 : UInt8), (108 : UInt8), (108 : UInt8)]))), (AV.v (Value.string (ByteArray.mk #[(115 : UInt8), (107 : UInt8), (105 : UInt8), (112 : UInt8)]))), (AV.v (Value.string (ByteArray.mk #[(104 : UInt8), (101 : UInt8), (97 : UInt8), (114 : UInt8), (100 : UInt8)]))), (AV.v (Value.string (ByteArray.mk #[(108 : UInt8), (101 : UInt8), (97 : UInt8), (114 : UInt8), (110 : UInt8)]))), (AV.v (Value.string (ByteArray.mk #[(99 : UInt8), (108 : UInt8), (111 : UInt8), (115 : UInt8), (101 : UInt8)]))), (AV.v (Value.string (ByteArray.mk #[(112 : UInt8), (117 : UInt8), (115 : UInt8), (104 : UInt8)]))), (AV.v (Value.string (ByteArray.mk #[(114 : UInt8), (101 : UInt8), (115 : UInt8), (116 : UInt8), (97 : UInt8), (114 : UInt8), (116 : UInt8)]))), (AV.v (Value.string (ByteArray.mk #[(101 : UInt8), (114 : UInt8), (97 : UInt8), (115 : UInt8), (101 : UInt8)]))), (AV.v (Value.string (ByteArray.mk #[(97 : UInt8), (115 : UInt8), (107 : UInt8)]))), (AV.v (Value.string (ByteArray.mk #[(97 : UInt8), (110 : UInt8), (115 : UInt8), (119 : UInt8), (101 : UInt8), (114 : UInt8)]))), (AV.v (Value.string (ByteArray.mk #[(108 : UInt8), (111 : UInt8), (115 : UInt8), (116 : UInt8)])))])) [(9 : Nat)]) ((List.take (1 : Nat) (List.drop ((0 : Nat) + ((Int.toNat (IntKind.wrap IntKind.i64 (k - (1 : Int)))) * (1 : Nat))) [(AV.v (Value.string (ByteArray.mk #[(99 : UInt8), (97 : UInt8), (109 : UInt8), (101 : UInt8)]))), (AV.v (Value.string (ByteArray.mk #[(116 : UInt8), (119 : UInt8), (105 : UInt8), (99 : UInt8), (101 : UInt8)]))), (AV.v (Value.string (ByteArray.mk #[(115 : UInt8), (116 : UInt8), (97 : UInt8), (114 : UInt8), (116 : UInt8)]))), (AV.v (Value.string (ByteArray.mk #[(101 : UInt8), (110 : UInt8), (100 : UInt8)]))), (AV.v (Value.string (ByteArray.mk #[(99 : UInt8), (97 : UInt8), (108 : UInt8), (108 : UInt8)]))), (AV.v (Value.string (ByteArray.mk #[(115 : UInt8), (107 : UInt8), (105 : UInt8), (112 : UInt8)]))), (AV.v (Value.string (ByteArray.mk #[(104 : UInt8), (101 : UInt8), (97 : UInt8), (114 : UInt8), (100 : UInt8)]))), (AV.v (Value.string (ByteArray.mk #[(108 : UInt8), (101 : UInt8), (97 : UInt8), (114 : UInt8), (110 : UInt8)]))), (AV.v (Value.string (ByteArray.mk #[(99 : UInt8), (108 : UInt8), (111 : UInt8), (115 : UInt8), (101 : UInt8)]))), (AV.v (Value.string (ByteArray.mk #[(112 : UInt8), (117 : UInt8), (115 : UInt8), (104 : UInt8)]))), (AV.v (Value.string (ByteArray.mk #[(114 : UInt8), (101 : UInt8), (115 : UInt8), (116 : UInt8), (97 : UInt8), (114 : UInt8), (116 : UInt8)]))), (AV.v (Value.string (ByteArray.mk #[(101 : UInt8), (114 : UInt8), (97 : UInt8), (115 : UInt8), (101 : UInt8)]))), (AV.v (Value.string (ByteArray.mk #[(97 : UInt8), (115 : UInt8), (107 : UInt8)]))), (AV.v (Value.string (ByteArray.mk #[(97 : UInt8), (110 : UInt8), (115 : UInt8), (119 : UInt8), (101 : UInt8), (114 : UInt8)]))), (AV.v (Value.string (ByteArray.mk #[(108 : UInt8), (111 : UInt8), (115 : UInt8), (116 : UInt8)])))])) = [(AV.v (Value.string (exStr (List.getD [(AV.v (Value.string (ByteArray.mk #[(99 : UInt8), (97 : UInt8), (109 : UInt8), (101 : UInt8)]))), (AV.v (Value.string (ByteArray.mk #[(116 : UInt8), (119 : UInt8), (105 : UInt8), (99 : UInt8), (101 : UInt8)]))), (AV.v (Value.string (ByteArray.mk #[(115 : UInt8), (116 : UInt8), (97 : UInt8), (114 : UInt8), (116 : UInt8)]))), (AV.v (Value.string (ByteArray.mk #[(101 : UInt8), (110 : UInt8), (100 : UInt8)]))), (AV.v (Value.string (ByteArray.mk #[(99 : UInt8), (97 : UInt8), (108 : UInt8), (108 : UInt8)]))), (AV.v (Value.string (ByteArray.mk #[(115 : UInt8), (107 : UInt8), (105 : UInt8), (112 : UInt8)]))), (AV.v (Value.string (ByteArray.mk #[(104 : UInt8), (101 : UInt8), (97 : UInt8), (114 : UInt8), (100 : UInt8)]))), (AV.v (Value.string (ByteArray.mk #[(108 : UInt8), (101 : UInt8), (97 : UInt8), (114 : UInt8), (110 : UInt8)]))), (AV.v (Value.string (ByteArray.mk #[(99 : UInt8), (108 : UInt8), (111 : UInt8), (115 : UInt8), (101 : UInt8)]))), (AV.v (Value.string (ByteArray.mk #[(112 : UInt8), (117 : UInt8), (115 : UInt8), (104 : UInt8)]))), (AV.v (Value.string (ByteArray.mk #[(114 : UInt8), (101 : UInt8), (115 : UInt8), (116 : UInt8), (97 : UInt8), (114 : UInt8), (116 : UInt8)]))), (AV.v (Value.string (ByteArray.mk #[(101 : UInt8), (114 : UInt8), (97 : UInt8), (115 : UInt8), (101 : UInt8)]))), (AV.v (Value.string (ByteArray.mk #[(97 : UInt8), (115 : UInt8), (107 : UInt8)]))), (AV.v (Value.string (ByteArray.mk #[(97 : UInt8), (110 : UInt8), (115 : UInt8), (119 : UInt8), (101 : UInt8), (114 : UInt8)]))), (AV.v (Value.string (ByteArray.mk #[(108 : UInt8), (111 : UInt8), (115 : UInt8), (116 : UInt8)])))] (((0 : Nat) + ((Int.toNat (IntKind.wrap IntKind.i64 (k - (1 : Int)))) * (1 : Nat))) + (0 : Nat)) AV.dead))))])) (decide (((-(9223372036854775808 : Int)) ≤ t) ∧ (t ≤ (9223372036854775807 : Int))))) (in64 s)) (decide (((-(9223372036854775808 : Int)) ≤ i) ∧ (i ≤ (9223372036854775807 : Int))))) (decide (((-(9223372036854775808 : Int)) ≤ c) ∧ (c ≤ (9223372036854775807 : Int))))) (decide (((-(9223372036854775808 : Int)) ≤ a) ∧ (a ≤ (9223372036854775807 : Int))))) (decide (((-(9223372036854775808 : Int)) ≤ b) ∧ (b ≤ (9223372036854775807 : Int))))) (joinOk' [(AV.lst (1 : Nat) [(AV.v (Value.string (ByteArray.mk #[(97 : UInt8), (116 : UInt8)]))), (AV.v (Value.string (T t))), (AV.v (Value.string (exStr (List.getD [(AV.v (Value.string (ByteArray.mk #[(99 : UInt8), (97 : UInt8), (109 : UInt8), (101 : UInt8)]))), (AV.v (Value.string (ByteArray.mk #[(116 : UInt8), (119 : UInt8), (105 : UInt8), (99 : UInt8), (101 : UInt8)]))), (AV.v (Value.string (ByteArray.mk #[(115 : UInt8), (116 : UInt8), (97 : UInt8), (114 : UInt8), (116 : UInt8)]))), (AV.v (Value.string (ByteArray.mk #[(101 : UInt8), (110 : UInt8), (100 : UInt8)]))), (AV.v (Value.string (ByteArray.mk #[(99 : UInt8), (97 : UInt8), (108 : UInt8), (108 : UInt8)]))), (AV.v (Value.string (ByteArray.mk #[(115 : UInt8), (107 : UInt8), (105 : UInt8), (112 : UInt8)]))), (AV.v (Value.string (ByteArray.mk #[(104 : UInt8), (101 : UInt8), (97 : UInt8), (114 : UInt8), (100 : UInt8)]))), (AV.v (Value.string (ByteArray.mk #[(108 : UInt8), (101 : UInt8), (97 : UInt8), (114 : UInt8), (110 : UInt8)]))), (AV.v (Value.string (ByteArray.mk #[(99 : UInt8), (108 : UInt8), (111 : UInt8), (115 : UInt8), (101 : UInt8)]))), (AV.v (Value.string (ByteArray.mk #[(112 : UInt8), (117 : UInt8), (115 : UInt8), (104 : UInt8)]))), (AV.v (Value.string (ByteArray.mk #[(114 : UInt8), (101 : UInt8), (115 : UInt8), (116 : UInt8), (97 : UInt8), (114 : UInt8), (116 : UInt8)]))), (AV.v (Value.string (ByteArray.mk #[(101 : UInt8), (114 : UInt8), (97 : UInt8), (115 : UInt8), (101 : UInt8)]))), (AV.v (Value.string (ByteArray.mk #[(97 : UInt8), (115 : UInt8), (107 : UInt8)]))), (AV.v (Value.string (ByteArray.mk #[(97 : UInt8), (110 : UInt8), (115 : UInt8), (119 : UInt8), (101 : UInt8), (114 : UInt8)]))), (AV.v (Value.string (ByteArray.mk #[(108 : UInt8), (111 : UInt8), (115 : UInt8), (116 : UInt8)])))] (((0 : Nat) + ((Int.toNat (IntKind.wrap IntKind.i64 (k - (1 : Int)))) * (1 : Nat))) + (0 : Nat)) AV.dead)))), (AV.v (Value.string (W s))), (AV.v (Value.string (T i))), (AV.v (Value.string (T c))), (AV.v (Value.string (T a))), (AV.v (Value.string (T b)))] Tip.exact)])) ∧ (Φ (AV.v (Value.tuple #[(Value.string (J (AV.lst (1 : Nat) [(AV.v (Value.string (ByteArray.mk #[(97 : UInt8), (116 : UInt8)]))), (AV.v (Value.string (T t))), (AV.v (Value.string (exStr (List.getD [(AV.v (Value.string (ByteArray.mk #[(99 : UInt8), (97 : UInt8), (109 : UInt8), (101 : UInt8)]))), (AV.v (Value.string (ByteArray.mk #[(116 : UInt8), (119 : UInt8), (105 : UInt8), (99 : UInt8), (101 : UInt8)]))), (AV.v (Value.string (ByteArray.mk #[(115 : UInt8), (116 : UInt8), (97 : UInt8), (114 : UInt8), (116 : UInt8)]))), (AV.v (Value.string (ByteArray.mk #[(101 : UInt8), (110 : UInt8), (100 : UInt8)]))), (AV.v (Value.string (ByteArray.mk #[(99 : UInt8), (97 : UInt8), (108 : UInt8), (108 : UInt8)]))), (AV.v (Value.string (ByteArray.mk #[(115 : UInt8), (107 : UInt8), (105 : UInt8), (112 : UInt8)]))), (AV.v (Value.string (ByteArray.mk #[(104 : UInt8), (101 : UInt8), (97 : UInt8), (114 : UInt8), (100 : UInt8)]))), (AV.v (Value.string (ByteArray.mk #[(108 : UInt8), (101 : UInt8), (97 : UInt8), (114 : UInt8), (110 : UInt8)]))), (AV.v (Value.string (ByteArray.mk #[(99 : UInt8), (108 : UInt8), (111 : UInt8), (115 : UInt8), (101 : UInt8)]))), (AV.v (Value.string (ByteArray.mk #[(112 : UInt8), (117 : UInt8), (115 : UInt8), (104 : UInt8)]))), (AV.v (Value.string (ByteArray.mk #[(114 : UInt8), (101 : UInt8), (115 : UInt8), (116 : UInt8), (97 : UInt8), (114 : UInt8), (116 : UInt8)]))), (AV.v (Value.string (ByteArray.mk #[(101 : UInt8), (114 : UInt8), (97 : UInt8), (115 : UInt8), (101 : UInt8)]))), (AV.v (Value.string (ByteArray.mk #[(97 : UInt8), (115 : UInt8), (107 : UInt8)]))), (AV.v (Value.string (ByteArray.mk #[(97 : UInt8), (110 : UInt8), (115 : UInt8), (119 : UInt8), (101 : UInt8), (114 : UInt8)]))), (AV.v (Value.string (ByteArray.mk #[(108 : UInt8), (111 : UInt8), (115 : UInt8), (116 : UInt8)])))] (((0 : Nat) + ((Int.toNat (IntKind.wrap IntKind.i64 (k - (1 : Int)))) * (1 : Nat))) + (0 : Nat)) AV.dead)))), (AV.v (Value.string (W s))), (AV.v (Value.string (T i))), (AV.v (Value.string (T c))), (AV.v (Value.string (T a))), (AV.v (Value.string (T b)))] Tip.exact))), (Value.int IntKind.i64 (0 : Int))]))))))) := by kernel_rfl
theorem k_rline (FL FW : ByteArray → List ByteArray) (Pl : ByteArray → Bool) (A B : ByteArray → ByteArray) (K : ByteArray → Bool) (J : AV → ByteArray) (N : ByteArray → AV → Int) (D : ByteArray → AV → Bool) (S : AV → AV → Bool) (T : Int → ByteArray) (P Q : ByteArray → Int) (W : Int → ByteArray) (tS tR : TypeId) (pS pR : Value) (k t s i c a b : Int) (Φ : AV → Prop) : callK (roT tS pS tR pR) muT (prT FL FW Pl A B K J N D S T P Q W) 8 8 [.v (evV k t s i c a b)] (hp [] []) (fun r h => some (h.cd ∧ Φ r)) =
    (bif (decide (k < (1 : Int))) then (some (True ∧ (Φ (AV.v (Value.tuple #[(Value.string (ByteArray.mk (Array.mk (@List.nil UInt8)))), (Value.int IntKind.i64 (1 : Int))]))))) else (bif (decide ((15 : Int) < k)) then (some (True ∧ (Φ (AV.v (Value.tuple #[(Value.string (ByteArray.mk (Array.mk (@List.nil UInt8)))), (Value.int IntKind.i64 (1 : Int))]))))) else (some ((cdb (cdb (cdb (cdb (cdb (cdb (cds (cdb True (decide (((-(9223372036854775808 : Int)) ≤ t) ∧ (t ≤ (9223372036854775807 : Int))))) (elemB Tryd.prog (9 : Nat) [(AV.v (Value.string (ByteArray.mk (Array.mk (@List.nil UInt8))))), (AV.v (Value.string (ByteArray.mk #[(99 : UInt8), (97 : UInt8), (109 : UInt8), (101 : UInt8)]))), (AV.v (Value.string (ByteArray.mk #[(116 : UInt8), (119 : UInt8), (105 : UInt8), (99 : UInt8), (101 : UInt8)]))), (AV.v (Value.string (ByteArray.mk #[(115 : UInt8), (116 : UInt8), (97 : UInt8), (114 : UInt8), (116 : UInt8)]))), (AV.v (Value.string (ByteArray.mk #[(101 : UInt8), (110 : UInt8), (100 : UInt8)]))), (AV.v (Value.string (ByteArray.mk #[(99 : UInt8), (97 : UInt8), (108 : UInt8), (108 : UInt8)]))), (AV.v (Value.string (ByteArray.mk #[(115 : UInt8), (107 : UInt8), (105 : UInt8), (112 : UInt8)]))), (AV.v (Value.string (ByteArray.mk #[(104 : UInt8), (101 : UInt8), (97 : UInt8), (114 : UInt8), (100 : UInt8)]))), (AV.v (Value.string (ByteArray.mk #[(108 : UInt8), (101 : UInt8), (97 : UInt8), (114 : UInt8), (110 : UInt8)]))), (AV.v (Value.string (ByteArray.mk #[(99 : UInt8), (108 : UInt8), (111 : UInt8), (115 : UInt8), (101 : UInt8)]))), (AV.v (Value.string (ByteArray.mk #[(112 : UInt8), (117 : UInt8), (115 : UInt8), (104 : UInt8)]))), (AV.v (Value.string (ByteArray.mk #[(114 : UInt8), (101 : UInt8), (115 : UInt8), (116 : UInt8), (97 : UInt8), (114 : UInt8), (116 : UInt8)]))), (AV.v (Value.string (ByteArray.mk #[(101 : UInt8), (114 : UInt8), (97 : UInt8), (115 : UInt8), (101 : UInt8)]))), (AV.v (Value.string (ByteArray.mk #[(97 : UInt8), (115 : UInt8), (107 : UInt8)]))), (AV.v (Value.string (ByteArray.mk #[(97 : UInt8), (110 : UInt8), (115 : UInt8), (119 : UInt8), (101 : UInt8), (114 : UInt8)]))), (AV.v (Value.string (ByteArray.mk #[(108 : UInt8), (111 : UInt8), (115 : UInt8), (116 : UInt8)])))] k) (((0 : Int) ≤ k) ∧ (([(AV.v (Value.string (ByteArray.mk (Array.mk (@List.nil UInt8))))), (AV.v (Value.string (ByteArray.mk #[(99 : UInt8), (97 : UInt8), (109 : UInt8), (101 : UInt8)]))), (AV.v (Value.string (ByteArray.mk #[(116 : UInt8), (119 : UInt8), (105 : UInt8), (99 : UInt8), (101 : UInt8)]))), (AV.v (Value.string (ByteArray.mk #[(115 : UInt8), (116 : UInt8), (97 : UInt8), (114 : UInt8), (116 : UInt8)]))), (AV.v (Value.string (ByteArray.mk #[(101 : UInt8), (110 : UInt8), (100 : UInt8)]))), (AV.v (Value.string (ByteArray.mk #[(99 : UInt8), (97 : UInt8), (108 : UInt8), (108 : UInt8)]))), (AV.v (Value.string (ByteArray.mk #[(115 : UInt8), (107 : UInt8), (105 : UInt8), (112 : UInt8)]))), (AV.v (Value.string (ByteArray.mk #[(104 : UInt8), (101 : UInt8), (97 : UInt8), (114 : UInt8), (100 : UInt8)]))), (AV.v (Value.string (ByteArray.mk #[(108 : UInt8), (101 : UInt8), (97 : UInt8), (114 : UInt8), (110 : UInt8)]))), (AV.v (Value.string (ByteArray.mk #[(99 : UInt8), (108 : UInt8), (111 : UInt8), (115 : UInt8), (101 : UInt8)]))), (AV.v (Value.string (ByteArray.mk #[(112 : UInt8), (117 : UInt8), (115 : UInt8), (104 : UInt8)]))), (AV.v (Value.string (ByteArray.mk #[(114 : UInt8), (101 : UInt8), (115 : UInt8), (116 : UInt8), (97 : UInt8), (114 : UInt8), (116 : UInt8)]))), (AV.v (Value.string (ByteArray.mk #[(101 : UInt8), (114 : UInt8), (97 : UInt8), (115 : UInt8), (101 : UInt8)]))), (AV.v (Value.string (ByteArray.mk #[(97 : UInt8), (115 : UInt8), (107 : UInt8)]))), (AV.v (Value.string (ByteArray.mk #[(97 : UInt8), (110 : UInt8), (115 : UInt8), (119 : UInt8), (101 : UInt8), (114 : UInt8)]))), (AV.v (Value.string (ByteArray.mk #[(108 : UInt8), (111 : UInt8), (115 : UInt8), (116 : UInt8)])))][(Int.toNat k)]?) = (some (AV.v (Value.string (exStr (List.getD [(AV.v (Value.string (ByteArray.mk (Array.mk (@List.nil UInt8))))), (AV.v (Value.string (ByteArray.mk #[(99 : UInt8), (97 : UInt8), (109 : UInt8), (101 : UInt8)]))), (AV.v (Value.string (ByteArray.mk #[(116 : UInt8), (119 : UInt8), (105 : UInt8), (99 : UInt8), (101 : UInt8)]))), (AV.v (Value.string (ByteArray.mk #[(115 : UInt8), (116 : UInt8), (97 : UInt8), (114 : UInt8), (116 : UInt8)]))), (AV.v (Value.string (ByteArray.mk #[(101 : UInt8), (110 : UInt8), (100 : UInt8)]))), (AV.v (Value.string (ByteArray.mk #[(99 : UInt8), (97 : UInt8), (108 : UInt8), (108 : UInt8)]))), (AV.v (Value.string (ByteArray.mk #[(115 : UInt8), (107 : UInt8), (105 : UInt8), (112 : UInt8)]))), (AV.v (Value.string (ByteArray.mk #[(104 : UInt8), (101 : UInt8), (97 : UInt8), (114 : UInt8), (100 : UInt8)]))), (AV.v (Value.string (ByteArray.mk #[(108 : UInt8), (101 : UInt8), (97 : UInt8), (114 : UInt8), (110 : UInt8)]))), (AV.v (Value.string (ByteArray.mk #[(99 : UInt8), (108 : UInt8), (111 : UInt8), (115 : UInt8), (101 : UInt8)]))), (AV.v (Value.string (ByteArray.mk #[(112 : UInt8), (117 : UInt8), (115 : UInt8), (104 : UInt8)]))), (AV.v (Value.string (ByteArray.mk #[(114 : UInt8), (101 : UInt8), (115 : UInt8), (116 : UInt8), (97 : UInt8), (114 : UInt8), (116 : UInt8)]))), (AV.v (Value.string (ByteArray.mk #[(101 : UInt8), (114 : UInt8), (97 : UInt8), (115 : UInt8), (101 : UInt8)]))), (AV.v (Value.string (ByteArray.mk #[(97 : UInt8), (115 : UInt8), (107 : UInt8)]))), (AV.v (Value.string (ByteArray.mk #[(97 : UInt8), (110 : UInt8), (115 : UInt8), (119 : UInt8), (101 : UInt8), (114 : UInt8)]))), (AV.v (Value.string (ByteArray.mk #[(108 : UInt8), (111 : UInt8), (115 : UInt8), (116 : UInt8)])))] (Int.toNat k) AV.dead)))))))) (in64 s)) (decide (((-(9223372036854775808 : Int)) ≤ i) ∧ (i ≤ (9223372036854775807 : Int))))) (decide (((-(9223372036854775808 : Int)) ≤ c) ∧ (c ≤ (9223372036854775807 : Int))))) (decide (((-(9223372036854775808 : Int)) ≤ a) ∧ (a ≤ (9223372036854775807 : Int))))) (decide (((-(9223372036854775808 : Int)) ≤ b) ∧ (b ≤ (9223372036854775807 : Int))))) (joinOk' [(AV.lst (1 : Nat) [(AV.v (Value.string (ByteArray.mk #[(97 : UInt8), (116 : UInt8)]))), (AV.v (Value.string (T t))), (AV.v (Value.string (exStr (List.getD [(AV.v (Value.string (ByteArray.mk (Array.mk (@List.nil UInt8))))), (AV.v (Value.string (ByteArray.mk #[(99 : UInt8), (97 : UInt8), (109 : UInt8), (101 : UInt8)]))), (AV.v (Value.string (ByteArray.mk #[(116 : UInt8), (119 : UInt8), (105 : UInt8), (99 : UInt8), (101 : UInt8)]))), (AV.v (Value.string (ByteArray.mk #[(115 : UInt8), (116 : UInt8), (97 : UInt8), (114 : UInt8), (116 : UInt8)]))), (AV.v (Value.string (ByteArray.mk #[(101 : UInt8), (110 : UInt8), (100 : UInt8)]))), (AV.v (Value.string (ByteArray.mk #[(99 : UInt8), (97 : UInt8), (108 : UInt8), (108 : UInt8)]))), (AV.v (Value.string (ByteArray.mk #[(115 : UInt8), (107 : UInt8), (105 : UInt8), (112 : UInt8)]))), (AV.v (Value.string (ByteArray.mk #[(104 : UInt8), (101 : UInt8), (97 : UInt8), (114 : UInt8), (100 : UInt8)]))), (AV.v (Value.string (ByteArray.mk #[(108 : UInt8), (101 : UInt8), (97 : UInt8), (114 : UInt8), (110 : UInt8)]))), (AV.v (Value.string (ByteArray.mk #[(99 : UInt8), (108 : UInt8), (111 : UInt8), (115 : UInt8), (101 : UInt8)]))), (AV.v (Value.string (ByteArray.mk #[(112 : UInt8), (117 : UInt8), (115 : UInt8), (104 : UInt8)]))), (AV.v (Value.string (ByteArray.mk #[(114 : UInt8), (101 : UInt8), (115 : UInt8), (116 : UInt8), (97 : UInt8), (114 : UInt8), (116 : UInt8)]))), (AV.v (Value.string (ByteArray.mk #[(101 : UInt8), (114 : UInt8), (97 : UInt8), (115 : UInt8), (101 : UInt8)]))), (AV.v (Value.string (ByteArray.mk #[(97 : UInt8), (115 : UInt8), (107 : UInt8)]))), (AV.v (Value.string (ByteArray.mk #[(97 : UInt8), (110 : UInt8), (115 : UInt8), (119 : UInt8), (101 : UInt8), (114 : UInt8)]))), (AV.v (Value.string (ByteArray.mk #[(108 : UInt8), (111 : UInt8), (115 : UInt8), (116 : UInt8)])))] (Int.toNat k) AV.dead)))), (AV.v (Value.string (W s))), (AV.v (Value.string (T i))), (AV.v (Value.string (T c))), (AV.v (Value.string (T a))), (AV.v (Value.string (T b)))] Tip.exact)])) ∧ (Φ (AV.v (Value.tuple #[(Value.string (J (AV.lst (1 : Nat) [(AV.v (Value.string (ByteArray.mk #[(97 : UInt8), (116 : UInt8)]))), (AV.v (Value.string (T t))), (AV.v (Value.string (exStr (List.getD [(AV.v (Value.string (ByteArray.mk (Array.mk (@List.nil UInt8))))), (AV.v (Value.string (ByteArray.mk #[(99 : UInt8), (97 : UInt8), (109 : UInt8), (101 : UInt8)]))), (AV.v (Value.string (ByteArray.mk #[(116 : UInt8), (119 : UInt8), (105 : UInt8), (99 : UInt8), (101 : UInt8)]))), (AV.v (Value.string (ByteArray.mk #[(115 : UInt8), (116 : UInt8), (97 : UInt8), (114 : UInt8), (116 : UInt8)]))), (AV.v (Value.string (ByteArray.mk #[(101 : UInt8), (110 : UInt8), (100 : UInt8)]))), (AV.v (Value.string (ByteArray.mk #[(99 : UInt8), (97 : UInt8), (108 : UInt8), (108 : UInt8)]))), (AV.v (Value.string (ByteArray.mk #[(115 : UInt8), (107 : UInt8), (105 : UInt8), (112 : UInt8)]))), (AV.v (Value.string (ByteArray.mk #[(104 : UInt8), (101 : UInt8), (97 : UInt8), (114 : UInt8), (100 : UInt8)]))), (AV.v (Value.string (ByteArray.mk #[(108 : UInt8), (101 : UInt8), (97 : UInt8), (114 : UInt8), (110 : UInt8)]))), (AV.v (Value.string (ByteArray.mk #[(99 : UInt8), (108 : UInt8), (111 : UInt8), (115 : UInt8), (101 : UInt8)]))), (AV.v (Value.string (ByteArray.mk #[(112 : UInt8), (117 : UInt8), (115 : UInt8), (104 : UInt8)]))), (AV.v (Value.string (ByteArray.mk #[(114 : UInt8), (101 : UInt8), (115 : UInt8), (116 : UInt8), (97 : UInt8), (114 : UInt8), (116 : UInt8)]))), (AV.v (Value.string (ByteArray.mk #[(101 : UInt8), (114 : UInt8), (97 : UInt8), (115 : UInt8), (101 : UInt8)]))), (AV.v (Value.string (ByteArray.mk #[(97 : UInt8), (115 : UInt8), (107 : UInt8)]))), (AV.v (Value.string (ByteArray.mk #[(97 : UInt8), (110 : UInt8), (115 : UInt8), (119 : UInt8), (101 : UInt8), (114 : UInt8)]))), (AV.v (Value.string (ByteArray.mk #[(108 : UInt8), (111 : UInt8), (115 : UInt8), (116 : UInt8)])))] (Int.toNat k) AV.dead)))), (AV.v (Value.string (W s))), (AV.v (Value.string (T i))), (AV.v (Value.string (T c))), (AV.v (Value.string (T a))), (AV.v (Value.string (T b)))] Tip.exact))), (Value.int IntKind.i64 (0 : Int))]))))))) := by kernel_rfl
theorem k_kind (tS tR : TypeId) (pS pR : Value) (w : ByteArray) (Φ : AV → Prop) : callK (roT tS pS tR pR) (fun _ => false) (fun _ => none) 8 49 [.v (.string w)] (hp [] []) (fun r h => some (h.cd ∧ Φ r)) =
    (bif ([(Array.getD #[(99 : UInt8), (97 : UInt8), (109 : UInt8), (101 : UInt8)] (0 : Nat) (UInt8.ofBitVec (BitVec.ofFin (Fin.mk (0 : Nat) instInhabitedUInt8._proof_1)))), (Array.getD #[(99 : UInt8), (97 : UInt8), (109 : UInt8), (101 : UInt8)] (1 : Nat) (UInt8.ofBitVec (BitVec.ofFin (Fin.mk (0 : Nat) instInhabitedUInt8._proof_1)))), (Array.getD #[(99 : UInt8), (97 : UInt8), (109 : UInt8), (101 : UInt8)] (2 : Nat) (UInt8.ofBitVec (BitVec.ofFin (Fin.mk (0 : Nat) instInhabitedUInt8._proof_1)))), (Array.getD #[(99 : UInt8), (97 : UInt8), (109 : UInt8), (101 : UInt8)] (3 : Nat) (UInt8.ofBitVec (BitVec.ofFin (Fin.mk (0 : Nat) instInhabitedUInt8._proof_1))))] == (ByteArray.toList w)) then (some (True ∧ (Φ (AV.v (Value.int IntKind.i64 (1 : Int)))))) else (bif ([(Array.getD #[(116 : UInt8), (119 : UInt8), (105 : UInt8), (99 : UInt8), (101 : UInt8)] (0 : Nat) (UInt8.ofBitVec (BitVec.ofFin (Fin.mk (0 : Nat) instInhabitedUInt8._proof_1)))), (Array.getD #[(116 : UInt8), (119 : UInt8), (105 : UInt8), (99 : UInt8), (101 : UInt8)] (1 : Nat) (UInt8.ofBitVec (BitVec.ofFin (Fin.mk (0 : Nat) instInhabitedUInt8._proof_1)))), (Array.getD #[(116 : UInt8), (119 : UInt8), (105 : UInt8), (99 : UInt8), (101 : UInt8)] (2 : Nat) (UInt8.ofBitVec (BitVec.ofFin (Fin.mk (0 : Nat) instInhabitedUInt8._proof_1)))), (Array.getD #[(116 : UInt8), (119 : UInt8), (105 : UInt8), (99 : UInt8), (101 : UInt8)] (3 : Nat) (UInt8.ofBitVec (BitVec.ofFin (Fin.mk (0 : Nat) instInhabitedUInt8._proof_1)))), (Array.getD #[(116 : UInt8), (119 : UInt8), (105 : UInt8), (99 : UInt8), (101 : UInt8)] (4 : Nat) (UInt8.ofBitVec (BitVec.ofFin (Fin.mk (0 : Nat) instInhabitedUInt8._proof_1))))] == (ByteArray.toList w)) then (some (True ∧ (Φ (AV.v (Value.int IntKind.i64 (2 : Int)))))) else (bif ([(Array.getD #[(115 : UInt8), (116 : UInt8), (97 : UInt8), (114 : UInt8), (116 : UInt8)] (0 : Nat) (UInt8.ofBitVec (BitVec.ofFin (Fin.mk (0 : Nat) instInhabitedUInt8._proof_1)))), (Array.getD #[(115 : UInt8), (116 : UInt8), (97 : UInt8), (114 : UInt8), (116 : UInt8)] (1 : Nat) (UInt8.ofBitVec (BitVec.ofFin (Fin.mk (0 : Nat) instInhabitedUInt8._proof_1)))), (Array.getD #[(115 : UInt8), (116 : UInt8), (97 : UInt8), (114 : UInt8), (116 : UInt8)] (2 : Nat) (UInt8.ofBitVec (BitVec.ofFin (Fin.mk (0 : Nat) instInhabitedUInt8._proof_1)))), (Array.getD #[(115 : UInt8), (116 : UInt8), (97 : UInt8), (114 : UInt8), (116 : UInt8)] (3 : Nat) (UInt8.ofBitVec (BitVec.ofFin (Fin.mk (0 : Nat) instInhabitedUInt8._proof_1)))), (Array.getD #[(115 : UInt8), (116 : UInt8), (97 : UInt8), (114 : UInt8), (116 : UInt8)] (4 : Nat) (UInt8.ofBitVec (BitVec.ofFin (Fin.mk (0 : Nat) instInhabitedUInt8._proof_1))))] == (ByteArray.toList w)) then (some (True ∧ (Φ (AV.v (Value.int IntKind.i64 (3 : Int)))))) else (bif ([(Array.getD #[(101 : UInt8), (110 : UInt8), (100 : UInt8)] (0 : Nat) (UInt8.ofBitVec (BitVec.ofFin (Fin.mk (0 : Nat) instInhabitedUInt8._proof_1)))), (Array.getD #[(101 : UInt8), (110 : UInt8), (100 : UInt8)] (1 : Nat) (UInt8.ofBitVec (BitVec.ofFin (Fin.mk (0 : Nat) instInhabitedUInt8._proof_1)))), (Array.getD #[(101 : UInt8), (110 : UInt8), (100 : UInt8)] (2 : Nat) (UInt8.ofBitVec (BitVec.ofFin (Fin.mk (0 : Nat) instInhabitedUInt8._proof_1))))] == (ByteArray.toList w)) then (some (True ∧ (Φ (AV.v (Value.int IntKind.i64 (4 : Int)))))) else (bif ([(Array.getD #[(99 : UInt8), (97 : UInt8), (108 : UInt8), (108 : UInt8)] (0 : Nat) (UInt8.ofBitVec (BitVec.ofFin (Fin.mk (0 : Nat) instInhabitedUInt8._proof_1)))), (Array.getD #[(99 : UInt8), (97 : UInt8), (108 : UInt8), (108 : UInt8)] (1 : Nat) (UInt8.ofBitVec (BitVec.ofFin (Fin.mk (0 : Nat) instInhabitedUInt8._proof_1)))), (Array.getD #[(99 : UInt8), (97 : UInt8), (108 : UInt8), (108 : UInt8)] (2 : Nat) (UInt8.ofBitVec (BitVec.ofFin (Fin.mk (0 : Nat) instInhabitedUInt8._proof_1)))), (Array.getD #[(99 : UInt8), (97 : UInt8), (108 : UInt8), (108 : UInt8)] (3 : Nat) (UInt8.ofBitVec (BitVec.ofFin (Fin.mk (0 : Nat) instInhabitedUInt8._proof_1))))] == (ByteArray.toList w)) then (some (True ∧ (Φ (AV.v (Value.int IntKind.i64 (5 : Int)))))) else (bif ([(Array.getD #[(115 : UInt8), (107 : UInt8), (105 : UInt8), (112 : UInt8)] (0 : Nat) (UInt8.ofBitVec (BitVec.ofFin (Fin.mk (0 : Nat) instInhabitedUInt8._proof_1)))), (Array.getD #[(115 : UInt8), (107 : UInt8), (105 : UInt8), (112 : UInt8)] (1 : Nat) (UInt8.ofBitVec (BitVec.ofFin (Fin.mk (0 : Nat) instInhabitedUInt8._proof_1)))), (Array.getD #[(115 : UInt8), (107 : UInt8), (105 : UInt8), (112 : UInt8)] (2 : Nat) (UInt8.ofBitVec (BitVec.ofFin (Fin.mk (0 : Nat) instInhabitedUInt8._proof_1)))), (Array.getD #[(115 : UInt8), (107 : UInt8), (105 : UInt8), (112 : UInt8)] (3 : Nat) (UInt8.ofBitVec (BitVec.ofFin (Fin.mk (0 : Nat) instInhabitedUInt8._proof_1))))] == (ByteArray.toList w)) then (some (True ∧ (Φ (AV.v (Value.int IntKind.i64 (6 : Int)))))) else (bif ([(Array.getD #[(104 : UInt8), (101 : UInt8), (97 : UInt8), (114 : UInt8), (100 : UInt8)] (0 : Nat) (UInt8.ofBitVec (BitVec.ofFin (Fin.mk (0 : Nat) instInhabitedUInt8._proof_1)))), (Array.getD #[(104 : UInt8), (101 : UInt8), (97 : UInt8), (114 : UInt8), (100 : UInt8)] (1 : Nat) (UInt8.ofBitVec (BitVec.ofFin (Fin.mk (0 : Nat) instInhabitedUInt8._proof_1)))), (Array.getD #[(104 : UInt8), (101 : UInt8), (97 : UInt8), (114 : UInt8), (100 : UInt8)] (2 : Nat) (UInt8.ofBitVec (BitVec.ofFin (Fin.mk (0 : Nat) instInhabitedUInt8._proof_1)))), (Array.getD #[(104 : UInt8), (101 : UInt8), (97 : UInt8), (114 : UInt8), (100 : UInt8)] (3 : Nat) (UInt8.ofBitVec (BitVec.ofFin (Fin.mk (0 : Nat) instInhabitedUInt8._proof_1)))), (Array.getD #[(104 : UInt8), (101 : UInt8), (97 : UInt8), (114 : UInt8), (100 : UInt8)] (4 : Nat) (UInt8.ofBitVec (BitVec.ofFin (Fin.mk (0 : Nat) instInhabitedUInt8._proof_1))))] == (ByteArray.toList w)) then (some (True ∧ (Φ (AV.v (Value.int IntKind.i64 (7 : Int)))))) else (bif ([(Array.getD #[(108 : UInt8), (101 : UInt8), (97 : UInt8), (114 : UInt8), (110 : UInt8)] (0 : Nat) (UInt8.ofBitVec (BitVec.ofFin (Fin.mk (0 : Nat) instInhabitedUInt8._proof_1)))), (Array.getD #[(108 : UInt8), (101 : UInt8), (97 : UInt8), (114 : UInt8), (110 : UInt8)] (1 : Nat) (UInt8.ofBitVec (BitVec.ofFin (Fin.mk (0 : Nat) instInhabitedUInt8._proof_1)))), (Array.getD #[(108 : UInt8), (101 : UInt8), (97 : UInt8), (114 : UInt8), (110 : UInt8)] (2 : Nat) (UInt8.ofBitVec (BitVec.ofFin (Fin.mk (0 : Nat) instInhabitedUInt8._proof_1)))), (Array.getD #[(108 : UInt8), (101 : UInt8), (97 : UInt8), (114 : UInt8), (110 : UInt8)] (3 : Nat) (UInt8.ofBitVec (BitVec.ofFin (Fin.mk (0 : Nat) instInhabitedUInt8._proof_1)))), (Array.getD #[(108 : UInt8), (101 : UInt8), (97 : UInt8), (114 : UInt8), (110 : UInt8)] (4 : Nat) (UInt8.ofBitVec (BitVec.ofFin (Fin.mk (0 : Nat) instInhabitedUInt8._proof_1))))] == (ByteArray.toList w)) then (some (True ∧ (Φ (AV.v (Value.int IntKind.i64 (8 : Int)))))) else (bif ([(Array.getD #[(99 : UInt8), (108 : UInt8), (111 : UInt8), (115 : UInt8), (101 : UInt8)] (0 : Nat) (UInt8.ofBitVec (BitVec.ofFin (Fin.mk (0 : Nat) instInhabitedUInt8._proof_1)))), (Array.getD #[(99 : UInt8), (108 : UInt8), (111 : UInt8), (115 : UInt8), (101 : UInt8)] (1 : Nat) (UInt8.ofBitVec (BitVec.ofFin (Fin.mk (0 : Nat) instInhabitedUInt8._proof_1)))), (Array.getD #[(99 : UInt8), (108 : UInt8), (111 : UInt8), (115 : UInt8), (101 : UInt8)] (2 : Nat) (UInt8.ofBitVec (BitVec.ofFin (Fin.mk (0 : Nat) instInhabitedUInt8._proof_1)))), (Array.getD #[(99 : UInt8), (108 : UInt8), (111 : UInt8), (115 : UInt8), (101 : UInt8)] (3 : Nat) (UInt8.ofBitVec (BitVec.ofFin (Fin.mk (0 : Nat) instInhabitedUInt8._proof_1)))), (Array.getD #[(99 : UInt8), (108 : UInt8), (111 : UInt8), (115 : UInt8), (101 : UInt8)] (4 : Nat) (UInt8.ofBitVec (BitVec.ofFin (Fin.mk (0 : Nat) instInhabitedUInt8._proof_1))))] == (ByteArray.toList w)) then (some (True ∧ (Φ (AV.v (Value.int IntKind.i64 (9 : Int)))))) else (bif ([(Array.getD #[(112 : UInt8), (117 : UInt8), (115 : UInt8), (104 : UInt8)] (0 : Nat) (UInt8.ofBitVec (BitVec.ofFin (Fin.mk (0 : Nat) instInhabitedUInt8._proof_1)))), (Array.getD #[(112 : UInt8), (117 : UInt8), (115 : UInt8), (104 : UInt8)] (1 : Nat) (UInt8.ofBitVec (BitVec.ofFin (Fin.mk (0 : Nat) instInhabitedUInt8._proof_1)))), (Array.getD #[(112 : UInt8), (117 : UInt8), (115 : UInt8), (104 : UInt8)] (2 : Nat) (UInt8.ofBitVec (BitVec.ofFin (Fin.mk (0 : Nat) instInhabitedUInt8._proof_1)))), (Array.getD #[(112 : UInt8), (117 : UInt8), (115 : UInt8), (104 : UInt8)] (3 : Nat) (UInt8.ofBitVec (BitVec.ofFin (Fin.mk (0 : Nat) instInhabitedUInt8._proof_1))))] == (ByteArray.toList w)) then (some (True ∧ (Φ (AV.v (Value.int IntKind.i64 (10 : Int)))))) else (bif ([(Array.getD #[(114 : UInt8), (101 : UInt8), (115 : UInt8), (116 : UInt8), (97 : UInt8), (114 : UInt8), (116 : UInt8)] (0 : Nat) (UInt8.ofBitVec (BitVec.ofFin (Fin.mk (0 : Nat) instInhabitedUInt8._proof_1)))), (Array.getD #[(114 : UInt8), (101 : UInt8), (115 : UInt8), (116 : UInt8), (97 : UInt8), (114 : UInt8), (116 : UInt8)] (1 : Nat) (UInt8.ofBitVec (BitVec.ofFin (Fin.mk (0 : Nat) instInhabitedUInt8._proof_1)))), (Array.getD #[(114 : UInt8), (101 : UInt8), (115 : UInt8), (116 : UInt8), (97 : UInt8), (114 : UInt8), (116 : UInt8)] (2 : Nat) (UInt8.ofBitVec (BitVec.ofFin (Fin.mk (0 : Nat) instInhabitedUInt8._proof_1)))), (Array.getD #[(114 : UInt8), (101 : UInt8), (115 : UInt8), (116 : UInt8), (97 : UInt8), (114 : UInt8), (116 : UInt8)] (3 : Nat) (UInt8.ofBitVec (BitVec.ofFin (Fin.mk (0 : Nat) instInhabitedUInt8._proof_1)))), (Array.getD #[(114 : UInt8), (101 : UInt8), (115 : UInt8), (116 : UInt8), (97 : UInt8), (114 : UInt8), (116 : UInt8)] (4 : Nat) (UInt8.ofBitVec (BitVec.ofFin (Fin.mk (0 : Nat) instInhabitedUInt8._proof_1)))), (Array.getD #[(114 : UInt8), (101 : UInt8), (115 : UInt8), (116 : UInt8), (97 : UInt8), (114 : UInt8), (116 : UInt8)] (5 : Nat) (UInt8.ofBitVec (BitVec.ofFin (Fin.mk (0 : Nat) instInhabitedUInt8._proof_1)))), (Array.getD #[(114 : UInt8), (101 : UInt8), (115 : UInt8), (116 : UInt8), (97 : UInt8), (114 : UInt8), (116 : UInt8)] (6 : Nat) (UInt8.ofBitVec (BitVec.ofFin (Fin.mk (0 : Nat) instInhabitedUInt8._proof_1))))] == (ByteArray.toList w)) then (some (True ∧ (Φ (AV.v (Value.int IntKind.i64 (11 : Int)))))) else (bif ([(Array.getD #[(101 : UInt8), (114 : UInt8), (97 : UInt8), (115 : UInt8), (101 : UInt8)] (0 : Nat) (UInt8.ofBitVec (BitVec.ofFin (Fin.mk (0 : Nat) instInhabitedUInt8._proof_1)))), (Array.getD #[(101 : UInt8), (114 : UInt8), (97 : UInt8), (115 : UInt8), (101 : UInt8)] (1 : Nat) (UInt8.ofBitVec (BitVec.ofFin (Fin.mk (0 : Nat) instInhabitedUInt8._proof_1)))), (Array.getD #[(101 : UInt8), (114 : UInt8), (97 : UInt8), (115 : UInt8), (101 : UInt8)] (2 : Nat) (UInt8.ofBitVec (BitVec.ofFin (Fin.mk (0 : Nat) instInhabitedUInt8._proof_1)))), (Array.getD #[(101 : UInt8), (114 : UInt8), (97 : UInt8), (115 : UInt8), (101 : UInt8)] (3 : Nat) (UInt8.ofBitVec (BitVec.ofFin (Fin.mk (0 : Nat) instInhabitedUInt8._proof_1)))), (Array.getD #[(101 : UInt8), (114 : UInt8), (97 : UInt8), (115 : UInt8), (101 : UInt8)] (4 : Nat) (UInt8.ofBitVec (BitVec.ofFin (Fin.mk (0 : Nat) instInhabitedUInt8._proof_1))))] == (ByteArray.toList w)) then (some (True ∧ (Φ (AV.v (Value.int IntKind.i64 (12 : Int)))))) else (bif ([(Array.getD #[(97 : UInt8), (115 : UInt8), (107 : UInt8)] (0 : Nat) (UInt8.ofBitVec (BitVec.ofFin (Fin.mk (0 : Nat) instInhabitedUInt8._proof_1)))), (Array.getD #[(97 : UInt8), (115 : UInt8), (107 : UInt8)] (1 : Nat) (UInt8.ofBitVec (BitVec.ofFin (Fin.mk (0 : Nat) instInhabitedUInt8._proof_1)))), (Array.getD #[(97 : UInt8), (115 : UInt8), (107 : UInt8)] (2 : Nat) (UInt8.ofBitVec (BitVec.ofFin (Fin.mk (0 : Nat) instInhabitedUInt8._proof_1))))] == (ByteArray.toList w)) then (some (True ∧ (Φ (AV.v (Value.int IntKind.i64 (13 : Int)))))) else (bif ([(Array.getD #[(97 : UInt8), (110 : UInt8), (115 : UInt8), (119 : UInt8), (101 : UInt8), (114 : UInt8)] (0 : Nat) (UInt8.ofBitVec (BitVec.ofFin (Fin.mk (0 : Nat) instInhabitedUInt8._proof_1)))), (Array.getD #[(97 : UInt8), (110 : UInt8), (115 : UInt8), (119 : UInt8), (101 : UInt8), (114 : UInt8)] (1 : Nat) (UInt8.ofBitVec (BitVec.ofFin (Fin.mk (0 : Nat) instInhabitedUInt8._proof_1)))), (Array.getD #[(97 : UInt8), (110 : UInt8), (115 : UInt8), (119 : UInt8), (101 : UInt8), (114 : UInt8)] (2 : Nat) (UInt8.ofBitVec (BitVec.ofFin (Fin.mk (0 : Nat) instInhabitedUInt8._proof_1)))), (Array.getD #[(97 : UInt8), (110 : UInt8), (115 : UInt8), (119 : UInt8), (101 : UInt8), (114 : UInt8)] (3 : Nat) (UInt8.ofBitVec (BitVec.ofFin (Fin.mk (0 : Nat) instInhabitedUInt8._proof_1)))), (Array.getD #[(97 : UInt8), (110 : UInt8), (115 : UInt8), (119 : UInt8), (101 : UInt8), (114 : UInt8)] (4 : Nat) (UInt8.ofBitVec (BitVec.ofFin (Fin.mk (0 : Nat) instInhabitedUInt8._proof_1)))), (Array.getD #[(97 : UInt8), (110 : UInt8), (115 : UInt8), (119 : UInt8), (101 : UInt8), (114 : UInt8)] (5 : Nat) (UInt8.ofBitVec (BitVec.ofFin (Fin.mk (0 : Nat) instInhabitedUInt8._proof_1))))] == (ByteArray.toList w)) then (some (True ∧ (Φ (AV.v (Value.int IntKind.i64 (14 : Int)))))) else (bif ([(Array.getD #[(108 : UInt8), (111 : UInt8), (115 : UInt8), (116 : UInt8)] (0 : Nat) (UInt8.ofBitVec (BitVec.ofFin (Fin.mk (0 : Nat) instInhabitedUInt8._proof_1)))), (Array.getD #[(108 : UInt8), (111 : UInt8), (115 : UInt8), (116 : UInt8)] (1 : Nat) (UInt8.ofBitVec (BitVec.ofFin (Fin.mk (0 : Nat) instInhabitedUInt8._proof_1)))), (Array.getD #[(108 : UInt8), (111 : UInt8), (115 : UInt8), (116 : UInt8)] (2 : Nat) (UInt8.ofBitVec (BitVec.ofFin (Fin.mk (0 : Nat) instInhabitedUInt8._proof_1)))), (Array.getD #[(108 : UInt8), (111 : UInt8), (115 : UInt8), (116 : UInt8)] (3 : Nat) (UInt8.ofBitVec (BitVec.ofFin (Fin.mk (0 : Nat) instInhabitedUInt8._proof_1))))] == (ByteArray.toList w)) then (some (True ∧ (Φ (AV.v (Value.int IntKind.i64 (15 : Int)))))) else (some (True ∧ (Φ (AV.v (Value.int IntKind.i64 (0 : Int))))))))))))))))))))) := by kernel_rfl
end Go.Proofs.YtodjeammjdgkoaaDoor.AE
namespace Go.Proofs.YtodjeammjdgkoaaDoor.AE
open Go.RowKit
def kwB : List ByteArray := [⟨#[99, 97, 109, 101]⟩, ⟨#[116, 119, 105, 99, 101]⟩, ⟨#[115, 116, 97, 114, 116]⟩, ⟨#[101, 110, 100]⟩, ⟨#[99, 97, 108, 108]⟩, ⟨#[115, 107, 105, 112]⟩, ⟨#[104, 101, 97, 114, 100]⟩, ⟨#[108, 101, 97, 114, 110]⟩, ⟨#[99, 108, 111, 115, 101]⟩, ⟨#[112, 117, 115, 104]⟩, ⟨#[114, 101, 115, 116, 97, 114, 116]⟩, ⟨#[101, 114, 97, 115, 101]⟩, ⟨#[97, 115, 107]⟩, ⟨#[97, 110, 115, 119, 101, 114]⟩, ⟨#[108, 111, 115, 116]⟩]
def wordK (k : Int) : ByteArray := kwB.getD (k - 1).toNat ByteArray.empty
def lineL (k t s i c a b : Int) : List ByteArray := [⟨#[97, 116]⟩, tx t, wordK k, whS s, tx i, tx c, tx a, tx b]
def lineT (k t s i c a b : Int) : ByteArray := if 1 ≤ k ∧ k ≤ 15 then joinB (lineL k t s i c a b) blank else ByteArray.empty
def lineE (k : Int) : Int := if 1 ≤ k ∧ k ≤ 15 then 0 else 1
theorem cds_tr {c p : Prop} {b : Bool} (hb : b = true) (h : c) : cds c b p := by subst hb; exact h
theorem joinX_of (l : List ByteArray) (t : Tip) : joinX (.lst 1 (l.map sv) t) = joinB l blank := by unfold joinX; rw [strsX_lst]
theorem k15 {k : Int} (h : 1 ≤ k ∧ k ≤ 15) : k = 1 ∨ k = 2 ∨ k = 3 ∨ k = 4 ∨ k = 5 ∨ k = 6 ∨ k = 7 ∨ k = 8 ∨ k = 9 ∨ k = 10 ∨ k = 11 ∨ k = 12 ∨ k = 13 ∨ k = 14 ∨ k = 15 := by omega
theorem whS_len {n : Int} (h : w64 n) : (whS n).size ≤ 21 := by
  unfold whS
  split
  · exact (by decide : (6 : Nat) ≤ 21)
  · exact itoa_len n h.1 h.2
theorem wordK_len (k : Int) : (wordK k).size ≤ 21 := by
  unfold wordK
  rw [List.getD_eq_getElem?_getD]
  cases e : kwB[(k - 1).toNat]? with
  | none => exact Nat.zero_le _
  | some x =>
    have hm : x ∈ kwB := List.mem_of_getElem? e
    have : ∀ x ∈ kwB, x.size ≤ 21 := by decide
    exact this x hm
theorem lineL_len {k t s i c a b : Int} (ht : w64 t) (hs : w64 s) (hi : w64 i) (hc : w64 c) (ha : w64 a) (hb : w64 b) : ∀ x ∈ lineL k t s i c a b, x.size ≤ 21 := by
  intro x hx
  unfold lineL at hx
  simp only [List.mem_cons, List.not_mem_nil, or_false] at hx
  rcases hx with rfl | rfl | rfl | rfl | rfl | rfl | rfl | rfl
  · exact (by decide : (2 : Nat) ≤ 21)
  · exact itoa_len _ ht.1 ht.2
  · exact wordK_len k
  · exact whS_len hs
  · exact itoa_len _ hi.1 hi.2
  · exact itoa_len _ hc.1 hc.2
  · exact itoa_len _ ha.1 ha.2
  · exact itoa_len _ hb.1 hb.2
section
variable {tS tR : TypeId} {pS pR : Value}
set_option maxHeartbeats 4000000 in
set_option maxRecDepth 100000 in
theorem fs_line {k t s i c a b : Int} (ht : w64 t) (hs : w64 s) (hi : w64 i) (hc : w64 c) (ha : w64 a) (hb : w64 b) : Fs Tryd.prog (roT tS pS tR pR) 7 [.v (evV k t s i c a b)] (hp [] []) fun r _ => r = .v (.tuple #[.string (lineT k t s i c a b), .int .i64 (lineE k)]) := by
  by_cases hk : 1 ≤ k ∧ k ≤ 15
  · have hj : ∀ tip, joinOk' [.lst 1 ((lineL k t s i c a b).map sv) tip] = true := fun tip => joinOk_of (Nat.le_of_ble_eq_true rfl) (fun x hx => Nat.le_trans (lineL_len ht hs hi hc ha hb x hx) (by omega))
    have d1 := decide_eq_true ht
    have d2 := in64_to hs
    have d3 := decide_eq_true hi
    have d4 := decide_eq_true hc
    have d5 := decide_eq_true ha
    have d6 := decide_eq_true hb
    have hT : lineT k t s i c a b = joinB (lineL k t s i c a b) blank := if_pos hk
    have hE : lineE k = 0 := if_pos hk
    rw [hT, hE]
    clear hT hE
    rcases k15 hk with rfl | rfl | rfl | rfl | rfl | rfl | rfl | rfl | rfl | rfl | rfl | rfl | rfl | rfl | rfl
    · refine Fs.of_call (hm := flatT) knownT (k_line linesS wordsS plainX cutA cutB cutK joinX findN findB sameX tx dpX dpY whS tS tR pS pR 1 t s i c a b fun r => r = .v (.tuple #[.string (joinB (lineL 1 t s i c a b) blank), .int .i64 0])) (holds_bif (fun h => by cases h) fun _ => holds_bif (fun h => by cases h) fun _ => ⟨?_, ?_⟩)
      · repeat' first
          | with_reducible exact trivial
          | with_reducible refine cdb_iff.2 ⟨?_, ?_⟩
          | with_reducible refine cds_tr (by kernel_rfl) ?_
          | with_reducible exact d1
          | with_reducible exact d2
          | with_reducible exact d3
          | with_reducible exact d4
          | with_reducible exact d5
          | with_reducible exact d6
          | (with_reducible refine decide_eq_true ?_; decide)
          | exact Eq.trans (by kernel_rfl) (hj .exact)
          | fail
      · refine Eq.trans (b := AV.v (.tuple #[.string (joinX (.lst 1 ((lineL 1 t s i c a b).map sv) .exact)), .int .i64 0])) (by kernel_rfl) ?_
        rw [joinX_of]
    · refine Fs.of_call (hm := flatT) knownT (k_line linesS wordsS plainX cutA cutB cutK joinX findN findB sameX tx dpX dpY whS tS tR pS pR 2 t s i c a b fun r => r = .v (.tuple #[.string (joinB (lineL 2 t s i c a b) blank), .int .i64 0])) (holds_bif (fun h => by cases h) fun _ => holds_bif (fun h => by cases h) fun _ => ⟨?_, ?_⟩)
      · repeat' first
          | with_reducible exact trivial
          | with_reducible refine cdb_iff.2 ⟨?_, ?_⟩
          | with_reducible refine cds_tr (by kernel_rfl) ?_
          | with_reducible exact d1
          | with_reducible exact d2
          | with_reducible exact d3
          | with_reducible exact d4
          | with_reducible exact d5
          | with_reducible exact d6
          | (with_reducible refine decide_eq_true ?_; decide)
          | exact Eq.trans (by kernel_rfl) (hj .exact)
          | fail
      · refine Eq.trans (b := AV.v (.tuple #[.string (joinX (.lst 1 ((lineL 2 t s i c a b).map sv) .exact)), .int .i64 0])) (by kernel_rfl) ?_
        rw [joinX_of]
    · refine Fs.of_call (hm := flatT) knownT (k_line linesS wordsS plainX cutA cutB cutK joinX findN findB sameX tx dpX dpY whS tS tR pS pR 3 t s i c a b fun r => r = .v (.tuple #[.string (joinB (lineL 3 t s i c a b) blank), .int .i64 0])) (holds_bif (fun h => by cases h) fun _ => holds_bif (fun h => by cases h) fun _ => ⟨?_, ?_⟩)
      · repeat' first
          | with_reducible exact trivial
          | with_reducible refine cdb_iff.2 ⟨?_, ?_⟩
          | with_reducible refine cds_tr (by kernel_rfl) ?_
          | with_reducible exact d1
          | with_reducible exact d2
          | with_reducible exact d3
          | with_reducible exact d4
          | with_reducible exact d5
          | with_reducible exact d6
          | (with_reducible refine decide_eq_true ?_; decide)
          | exact Eq.trans (by kernel_rfl) (hj .exact)
          | fail
      · refine Eq.trans (b := AV.v (.tuple #[.string (joinX (.lst 1 ((lineL 3 t s i c a b).map sv) .exact)), .int .i64 0])) (by kernel_rfl) ?_
        rw [joinX_of]
    · refine Fs.of_call (hm := flatT) knownT (k_line linesS wordsS plainX cutA cutB cutK joinX findN findB sameX tx dpX dpY whS tS tR pS pR 4 t s i c a b fun r => r = .v (.tuple #[.string (joinB (lineL 4 t s i c a b) blank), .int .i64 0])) (holds_bif (fun h => by cases h) fun _ => holds_bif (fun h => by cases h) fun _ => ⟨?_, ?_⟩)
      · repeat' first
          | with_reducible exact trivial
          | with_reducible refine cdb_iff.2 ⟨?_, ?_⟩
          | with_reducible refine cds_tr (by kernel_rfl) ?_
          | with_reducible exact d1
          | with_reducible exact d2
          | with_reducible exact d3
          | with_reducible exact d4
          | with_reducible exact d5
          | with_reducible exact d6
          | (with_reducible refine decide_eq_true ?_; decide)
          | exact Eq.trans (by kernel_rfl) (hj .exact)
          | fail
      · refine Eq.trans (b := AV.v (.tuple #[.string (joinX (.lst 1 ((lineL 4 t s i c a b).map sv) .exact)), .int .i64 0])) (by kernel_rfl) ?_
        rw [joinX_of]
    · refine Fs.of_call (hm := flatT) knownT (k_line linesS wordsS plainX cutA cutB cutK joinX findN findB sameX tx dpX dpY whS tS tR pS pR 5 t s i c a b fun r => r = .v (.tuple #[.string (joinB (lineL 5 t s i c a b) blank), .int .i64 0])) (holds_bif (fun h => by cases h) fun _ => holds_bif (fun h => by cases h) fun _ => ⟨?_, ?_⟩)
      · repeat' first
          | with_reducible exact trivial
          | with_reducible refine cdb_iff.2 ⟨?_, ?_⟩
          | with_reducible refine cds_tr (by kernel_rfl) ?_
          | with_reducible exact d1
          | with_reducible exact d2
          | with_reducible exact d3
          | with_reducible exact d4
          | with_reducible exact d5
          | with_reducible exact d6
          | (with_reducible refine decide_eq_true ?_; decide)
          | exact Eq.trans (by kernel_rfl) (hj .exact)
          | fail
      · refine Eq.trans (b := AV.v (.tuple #[.string (joinX (.lst 1 ((lineL 5 t s i c a b).map sv) .exact)), .int .i64 0])) (by kernel_rfl) ?_
        rw [joinX_of]
    · refine Fs.of_call (hm := flatT) knownT (k_line linesS wordsS plainX cutA cutB cutK joinX findN findB sameX tx dpX dpY whS tS tR pS pR 6 t s i c a b fun r => r = .v (.tuple #[.string (joinB (lineL 6 t s i c a b) blank), .int .i64 0])) (holds_bif (fun h => by cases h) fun _ => holds_bif (fun h => by cases h) fun _ => ⟨?_, ?_⟩)
      · repeat' first
          | with_reducible exact trivial
          | with_reducible refine cdb_iff.2 ⟨?_, ?_⟩
          | with_reducible refine cds_tr (by kernel_rfl) ?_
          | with_reducible exact d1
          | with_reducible exact d2
          | with_reducible exact d3
          | with_reducible exact d4
          | with_reducible exact d5
          | with_reducible exact d6
          | (with_reducible refine decide_eq_true ?_; decide)
          | exact Eq.trans (by kernel_rfl) (hj .exact)
          | fail
      · refine Eq.trans (b := AV.v (.tuple #[.string (joinX (.lst 1 ((lineL 6 t s i c a b).map sv) .exact)), .int .i64 0])) (by kernel_rfl) ?_
        rw [joinX_of]
    · refine Fs.of_call (hm := flatT) knownT (k_line linesS wordsS plainX cutA cutB cutK joinX findN findB sameX tx dpX dpY whS tS tR pS pR 7 t s i c a b fun r => r = .v (.tuple #[.string (joinB (lineL 7 t s i c a b) blank), .int .i64 0])) (holds_bif (fun h => by cases h) fun _ => holds_bif (fun h => by cases h) fun _ => ⟨?_, ?_⟩)
      · repeat' first
          | with_reducible exact trivial
          | with_reducible refine cdb_iff.2 ⟨?_, ?_⟩
          | with_reducible refine cds_tr (by kernel_rfl) ?_
          | with_reducible exact d1
          | with_reducible exact d2
          | with_reducible exact d3
          | with_reducible exact d4
          | with_reducible exact d5
          | with_reducible exact d6
          | (with_reducible refine decide_eq_true ?_; decide)
          | exact Eq.trans (by kernel_rfl) (hj .exact)
          | fail
      · refine Eq.trans (b := AV.v (.tuple #[.string (joinX (.lst 1 ((lineL 7 t s i c a b).map sv) .exact)), .int .i64 0])) (by kernel_rfl) ?_
        rw [joinX_of]
    · refine Fs.of_call (hm := flatT) knownT (k_line linesS wordsS plainX cutA cutB cutK joinX findN findB sameX tx dpX dpY whS tS tR pS pR 8 t s i c a b fun r => r = .v (.tuple #[.string (joinB (lineL 8 t s i c a b) blank), .int .i64 0])) (holds_bif (fun h => by cases h) fun _ => holds_bif (fun h => by cases h) fun _ => ⟨?_, ?_⟩)
      · repeat' first
          | with_reducible exact trivial
          | with_reducible refine cdb_iff.2 ⟨?_, ?_⟩
          | with_reducible refine cds_tr (by kernel_rfl) ?_
          | with_reducible exact d1
          | with_reducible exact d2
          | with_reducible exact d3
          | with_reducible exact d4
          | with_reducible exact d5
          | with_reducible exact d6
          | (with_reducible refine decide_eq_true ?_; decide)
          | exact Eq.trans (by kernel_rfl) (hj .exact)
          | fail
      · refine Eq.trans (b := AV.v (.tuple #[.string (joinX (.lst 1 ((lineL 8 t s i c a b).map sv) .exact)), .int .i64 0])) (by kernel_rfl) ?_
        rw [joinX_of]
    · refine Fs.of_call (hm := flatT) knownT (k_line linesS wordsS plainX cutA cutB cutK joinX findN findB sameX tx dpX dpY whS tS tR pS pR 9 t s i c a b fun r => r = .v (.tuple #[.string (joinB (lineL 9 t s i c a b) blank), .int .i64 0])) (holds_bif (fun h => by cases h) fun _ => holds_bif (fun h => by cases h) fun _ => ⟨?_, ?_⟩)
      · repeat' first
          | with_reducible exact trivial
          | with_reducible refine cdb_iff.2 ⟨?_, ?_⟩
          | with_reducible refine cds_tr (by kernel_rfl) ?_
          | with_reducible exact d1
          | with_reducible exact d2
          | with_reducible exact d3
          | with_reducible exact d4
          | with_reducible exact d5
          | with_reducible exact d6
          | (with_reducible refine decide_eq_true ?_; decide)
          | exact Eq.trans (by kernel_rfl) (hj .exact)
          | fail
      · refine Eq.trans (b := AV.v (.tuple #[.string (joinX (.lst 1 ((lineL 9 t s i c a b).map sv) .exact)), .int .i64 0])) (by kernel_rfl) ?_
        rw [joinX_of]
    · refine Fs.of_call (hm := flatT) knownT (k_line linesS wordsS plainX cutA cutB cutK joinX findN findB sameX tx dpX dpY whS tS tR pS pR 10 t s i c a b fun r => r = .v (.tuple #[.string (joinB (lineL 10 t s i c a b) blank), .int .i64 0])) (holds_bif (fun h => by cases h) fun _ => holds_bif (fun h => by cases h) fun _ => ⟨?_, ?_⟩)
      · repeat' first
          | with_reducible exact trivial
          | with_reducible refine cdb_iff.2 ⟨?_, ?_⟩
          | with_reducible refine cds_tr (by kernel_rfl) ?_
          | with_reducible exact d1
          | with_reducible exact d2
          | with_reducible exact d3
          | with_reducible exact d4
          | with_reducible exact d5
          | with_reducible exact d6
          | (with_reducible refine decide_eq_true ?_; decide)
          | exact Eq.trans (by kernel_rfl) (hj .exact)
          | fail
      · refine Eq.trans (b := AV.v (.tuple #[.string (joinX (.lst 1 ((lineL 10 t s i c a b).map sv) .exact)), .int .i64 0])) (by kernel_rfl) ?_
        rw [joinX_of]
    · refine Fs.of_call (hm := flatT) knownT (k_line linesS wordsS plainX cutA cutB cutK joinX findN findB sameX tx dpX dpY whS tS tR pS pR 11 t s i c a b fun r => r = .v (.tuple #[.string (joinB (lineL 11 t s i c a b) blank), .int .i64 0])) (holds_bif (fun h => by cases h) fun _ => holds_bif (fun h => by cases h) fun _ => ⟨?_, ?_⟩)
      · repeat' first
          | with_reducible exact trivial
          | with_reducible refine cdb_iff.2 ⟨?_, ?_⟩
          | with_reducible refine cds_tr (by kernel_rfl) ?_
          | with_reducible exact d1
          | with_reducible exact d2
          | with_reducible exact d3
          | with_reducible exact d4
          | with_reducible exact d5
          | with_reducible exact d6
          | (with_reducible refine decide_eq_true ?_; decide)
          | exact Eq.trans (by kernel_rfl) (hj .exact)
          | fail
      · refine Eq.trans (b := AV.v (.tuple #[.string (joinX (.lst 1 ((lineL 11 t s i c a b).map sv) .exact)), .int .i64 0])) (by kernel_rfl) ?_
        rw [joinX_of]
    · refine Fs.of_call (hm := flatT) knownT (k_line linesS wordsS plainX cutA cutB cutK joinX findN findB sameX tx dpX dpY whS tS tR pS pR 12 t s i c a b fun r => r = .v (.tuple #[.string (joinB (lineL 12 t s i c a b) blank), .int .i64 0])) (holds_bif (fun h => by cases h) fun _ => holds_bif (fun h => by cases h) fun _ => ⟨?_, ?_⟩)
      · repeat' first
          | with_reducible exact trivial
          | with_reducible refine cdb_iff.2 ⟨?_, ?_⟩
          | with_reducible refine cds_tr (by kernel_rfl) ?_
          | with_reducible exact d1
          | with_reducible exact d2
          | with_reducible exact d3
          | with_reducible exact d4
          | with_reducible exact d5
          | with_reducible exact d6
          | (with_reducible refine decide_eq_true ?_; decide)
          | exact Eq.trans (by kernel_rfl) (hj .exact)
          | fail
      · refine Eq.trans (b := AV.v (.tuple #[.string (joinX (.lst 1 ((lineL 12 t s i c a b).map sv) .exact)), .int .i64 0])) (by kernel_rfl) ?_
        rw [joinX_of]
    · refine Fs.of_call (hm := flatT) knownT (k_line linesS wordsS plainX cutA cutB cutK joinX findN findB sameX tx dpX dpY whS tS tR pS pR 13 t s i c a b fun r => r = .v (.tuple #[.string (joinB (lineL 13 t s i c a b) blank), .int .i64 0])) (holds_bif (fun h => by cases h) fun _ => holds_bif (fun h => by cases h) fun _ => ⟨?_, ?_⟩)
      · repeat' first
          | with_reducible exact trivial
          | with_reducible refine cdb_iff.2 ⟨?_, ?_⟩
          | with_reducible refine cds_tr (by kernel_rfl) ?_
          | with_reducible exact d1
          | with_reducible exact d2
          | with_reducible exact d3
          | with_reducible exact d4
          | with_reducible exact d5
          | with_reducible exact d6
          | (with_reducible refine decide_eq_true ?_; decide)
          | exact Eq.trans (by kernel_rfl) (hj .exact)
          | fail
      · refine Eq.trans (b := AV.v (.tuple #[.string (joinX (.lst 1 ((lineL 13 t s i c a b).map sv) .exact)), .int .i64 0])) (by kernel_rfl) ?_
        rw [joinX_of]
    · refine Fs.of_call (hm := flatT) knownT (k_line linesS wordsS plainX cutA cutB cutK joinX findN findB sameX tx dpX dpY whS tS tR pS pR 14 t s i c a b fun r => r = .v (.tuple #[.string (joinB (lineL 14 t s i c a b) blank), .int .i64 0])) (holds_bif (fun h => by cases h) fun _ => holds_bif (fun h => by cases h) fun _ => ⟨?_, ?_⟩)
      · repeat' first
          | with_reducible exact trivial
          | with_reducible refine cdb_iff.2 ⟨?_, ?_⟩
          | with_reducible refine cds_tr (by kernel_rfl) ?_
          | with_reducible exact d1
          | with_reducible exact d2
          | with_reducible exact d3
          | with_reducible exact d4
          | with_reducible exact d5
          | with_reducible exact d6
          | (with_reducible refine decide_eq_true ?_; decide)
          | exact Eq.trans (by kernel_rfl) (hj .exact)
          | fail
      · refine Eq.trans (b := AV.v (.tuple #[.string (joinX (.lst 1 ((lineL 14 t s i c a b).map sv) .exact)), .int .i64 0])) (by kernel_rfl) ?_
        rw [joinX_of]
    · refine Fs.of_call (hm := flatT) knownT (k_line linesS wordsS plainX cutA cutB cutK joinX findN findB sameX tx dpX dpY whS tS tR pS pR 15 t s i c a b fun r => r = .v (.tuple #[.string (joinB (lineL 15 t s i c a b) blank), .int .i64 0])) (holds_bif (fun h => by cases h) fun _ => holds_bif (fun h => by cases h) fun _ => ⟨?_, ?_⟩)
      · repeat' first
          | with_reducible exact trivial
          | with_reducible refine cdb_iff.2 ⟨?_, ?_⟩
          | with_reducible refine cds_tr (by kernel_rfl) ?_
          | with_reducible exact d1
          | with_reducible exact d2
          | with_reducible exact d3
          | with_reducible exact d4
          | with_reducible exact d5
          | with_reducible exact d6
          | (with_reducible refine decide_eq_true ?_; decide)
          | exact Eq.trans (by kernel_rfl) (hj .exact)
          | fail
      · refine Eq.trans (b := AV.v (.tuple #[.string (joinX (.lst 1 ((lineL 15 t s i c a b).map sv) .exact)), .int .i64 0])) (by kernel_rfl) ?_
        rw [joinX_of]
  · have hT : lineT k t s i c a b = ByteArray.empty := if_neg hk
    have hE : lineE k = 1 := if_neg hk
    rw [hT, hE]
    refine Fs.of_call (hm := flatT) knownT (k_line linesS wordsS plainX cutA cutB cutK joinX findN findB sameX tx dpX dpY whS tS tR pS pR k t s i c a b fun r => r = .v (.tuple #[.string ByteArray.empty, .int .i64 1])) (holds_bif (fun _ => ⟨trivial, rfl⟩) fun h => holds_bif (fun _ => ⟨trivial, rfl⟩) fun h2 => absurd ⟨by have := of_decide_eq_false h; omega, by have := of_decide_eq_false h2; omega⟩ hk)
set_option maxHeartbeats 4000000 in
set_option maxRecDepth 100000 in
theorem fs_rline {k t s i c a b : Int} (ht : w64 t) (hs : w64 s) (hi : w64 i) (hc : w64 c) (ha : w64 a) (hb : w64 b) : Fs Tryd.prog (roT tS pS tR pR) 8 [.v (evV k t s i c a b)] (hp [] []) fun r _ => r = .v (.tuple #[.string (lineT k t s i c a b), .int .i64 (lineE k)]) := by
  by_cases hk : 1 ≤ k ∧ k ≤ 15
  · have hj : ∀ tip, joinOk' [.lst 1 ((lineL k t s i c a b).map sv) tip] = true := fun tip => joinOk_of (Nat.le_of_ble_eq_true rfl) (fun x hx => Nat.le_trans (lineL_len ht hs hi hc ha hb x hx) (by omega))
    have d1 := decide_eq_true ht
    have d2 := in64_to hs
    have d3 := decide_eq_true hi
    have d4 := decide_eq_true hc
    have d5 := decide_eq_true ha
    have d6 := decide_eq_true hb
    have hT : lineT k t s i c a b = joinB (lineL k t s i c a b) blank := if_pos hk
    have hE : lineE k = 0 := if_pos hk
    rw [hT, hE]
    clear hT hE
    rcases k15 hk with rfl | rfl | rfl | rfl | rfl | rfl | rfl | rfl | rfl | rfl | rfl | rfl | rfl | rfl | rfl
    · refine Fs.of_call (hm := flatT) knownT (k_rline linesS wordsS plainX cutA cutB cutK joinX findN findB sameX tx dpX dpY whS tS tR pS pR 1 t s i c a b fun r => r = .v (.tuple #[.string (joinB (lineL 1 t s i c a b) blank), .int .i64 0])) (holds_bif (fun h => by cases h) fun _ => holds_bif (fun h => by cases h) fun _ => ⟨?_, ?_⟩)
      · repeat' first
          | with_reducible exact trivial
          | with_reducible refine cdb_iff.2 ⟨?_, ?_⟩
          | with_reducible refine cds_tr (by kernel_rfl) ?_
          | with_reducible exact d1
          | with_reducible exact d2
          | with_reducible exact d3
          | with_reducible exact d4
          | with_reducible exact d5
          | with_reducible exact d6
          | (with_reducible refine decide_eq_true ?_; decide)
          | exact Eq.trans (by kernel_rfl) (hj .exact)
          | fail
      · refine Eq.trans (b := AV.v (.tuple #[.string (joinX (.lst 1 ((lineL 1 t s i c a b).map sv) .exact)), .int .i64 0])) (by kernel_rfl) ?_
        rw [joinX_of]
    · refine Fs.of_call (hm := flatT) knownT (k_rline linesS wordsS plainX cutA cutB cutK joinX findN findB sameX tx dpX dpY whS tS tR pS pR 2 t s i c a b fun r => r = .v (.tuple #[.string (joinB (lineL 2 t s i c a b) blank), .int .i64 0])) (holds_bif (fun h => by cases h) fun _ => holds_bif (fun h => by cases h) fun _ => ⟨?_, ?_⟩)
      · repeat' first
          | with_reducible exact trivial
          | with_reducible refine cdb_iff.2 ⟨?_, ?_⟩
          | with_reducible refine cds_tr (by kernel_rfl) ?_
          | with_reducible exact d1
          | with_reducible exact d2
          | with_reducible exact d3
          | with_reducible exact d4
          | with_reducible exact d5
          | with_reducible exact d6
          | (with_reducible refine decide_eq_true ?_; decide)
          | exact Eq.trans (by kernel_rfl) (hj .exact)
          | fail
      · refine Eq.trans (b := AV.v (.tuple #[.string (joinX (.lst 1 ((lineL 2 t s i c a b).map sv) .exact)), .int .i64 0])) (by kernel_rfl) ?_
        rw [joinX_of]
    · refine Fs.of_call (hm := flatT) knownT (k_rline linesS wordsS plainX cutA cutB cutK joinX findN findB sameX tx dpX dpY whS tS tR pS pR 3 t s i c a b fun r => r = .v (.tuple #[.string (joinB (lineL 3 t s i c a b) blank), .int .i64 0])) (holds_bif (fun h => by cases h) fun _ => holds_bif (fun h => by cases h) fun _ => ⟨?_, ?_⟩)
      · repeat' first
          | with_reducible exact trivial
          | with_reducible refine cdb_iff.2 ⟨?_, ?_⟩
          | with_reducible refine cds_tr (by kernel_rfl) ?_
          | with_reducible exact d1
          | with_reducible exact d2
          | with_reducible exact d3
          | with_reducible exact d4
          | with_reducible exact d5
          | with_reducible exact d6
          | (with_reducible refine decide_eq_true ?_; decide)
          | exact Eq.trans (by kernel_rfl) (hj .exact)
          | fail
      · refine Eq.trans (b := AV.v (.tuple #[.string (joinX (.lst 1 ((lineL 3 t s i c a b).map sv) .exact)), .int .i64 0])) (by kernel_rfl) ?_
        rw [joinX_of]
    · refine Fs.of_call (hm := flatT) knownT (k_rline linesS wordsS plainX cutA cutB cutK joinX findN findB sameX tx dpX dpY whS tS tR pS pR 4 t s i c a b fun r => r = .v (.tuple #[.string (joinB (lineL 4 t s i c a b) blank), .int .i64 0])) (holds_bif (fun h => by cases h) fun _ => holds_bif (fun h => by cases h) fun _ => ⟨?_, ?_⟩)
      · repeat' first
          | with_reducible exact trivial
          | with_reducible refine cdb_iff.2 ⟨?_, ?_⟩
          | with_reducible refine cds_tr (by kernel_rfl) ?_
          | with_reducible exact d1
          | with_reducible exact d2
          | with_reducible exact d3
          | with_reducible exact d4
          | with_reducible exact d5
          | with_reducible exact d6
          | (with_reducible refine decide_eq_true ?_; decide)
          | exact Eq.trans (by kernel_rfl) (hj .exact)
          | fail
      · refine Eq.trans (b := AV.v (.tuple #[.string (joinX (.lst 1 ((lineL 4 t s i c a b).map sv) .exact)), .int .i64 0])) (by kernel_rfl) ?_
        rw [joinX_of]
    · refine Fs.of_call (hm := flatT) knownT (k_rline linesS wordsS plainX cutA cutB cutK joinX findN findB sameX tx dpX dpY whS tS tR pS pR 5 t s i c a b fun r => r = .v (.tuple #[.string (joinB (lineL 5 t s i c a b) blank), .int .i64 0])) (holds_bif (fun h => by cases h) fun _ => holds_bif (fun h => by cases h) fun _ => ⟨?_, ?_⟩)
      · repeat' first
          | with_reducible exact trivial
          | with_reducible refine cdb_iff.2 ⟨?_, ?_⟩
          | with_reducible refine cds_tr (by kernel_rfl) ?_
          | with_reducible exact d1
          | with_reducible exact d2
          | with_reducible exact d3
          | with_reducible exact d4
          | with_reducible exact d5
          | with_reducible exact d6
          | (with_reducible refine decide_eq_true ?_; decide)
          | exact Eq.trans (by kernel_rfl) (hj .exact)
          | fail
      · refine Eq.trans (b := AV.v (.tuple #[.string (joinX (.lst 1 ((lineL 5 t s i c a b).map sv) .exact)), .int .i64 0])) (by kernel_rfl) ?_
        rw [joinX_of]
    · refine Fs.of_call (hm := flatT) knownT (k_rline linesS wordsS plainX cutA cutB cutK joinX findN findB sameX tx dpX dpY whS tS tR pS pR 6 t s i c a b fun r => r = .v (.tuple #[.string (joinB (lineL 6 t s i c a b) blank), .int .i64 0])) (holds_bif (fun h => by cases h) fun _ => holds_bif (fun h => by cases h) fun _ => ⟨?_, ?_⟩)
      · repeat' first
          | with_reducible exact trivial
          | with_reducible refine cdb_iff.2 ⟨?_, ?_⟩
          | with_reducible refine cds_tr (by kernel_rfl) ?_
          | with_reducible exact d1
          | with_reducible exact d2
          | with_reducible exact d3
          | with_reducible exact d4
          | with_reducible exact d5
          | with_reducible exact d6
          | (with_reducible refine decide_eq_true ?_; decide)
          | exact Eq.trans (by kernel_rfl) (hj .exact)
          | fail
      · refine Eq.trans (b := AV.v (.tuple #[.string (joinX (.lst 1 ((lineL 6 t s i c a b).map sv) .exact)), .int .i64 0])) (by kernel_rfl) ?_
        rw [joinX_of]
    · refine Fs.of_call (hm := flatT) knownT (k_rline linesS wordsS plainX cutA cutB cutK joinX findN findB sameX tx dpX dpY whS tS tR pS pR 7 t s i c a b fun r => r = .v (.tuple #[.string (joinB (lineL 7 t s i c a b) blank), .int .i64 0])) (holds_bif (fun h => by cases h) fun _ => holds_bif (fun h => by cases h) fun _ => ⟨?_, ?_⟩)
      · repeat' first
          | with_reducible exact trivial
          | with_reducible refine cdb_iff.2 ⟨?_, ?_⟩
          | with_reducible refine cds_tr (by kernel_rfl) ?_
          | with_reducible exact d1
          | with_reducible exact d2
          | with_reducible exact d3
          | with_reducible exact d4
          | with_reducible exact d5
          | with_reducible exact d6
          | (with_reducible refine decide_eq_true ?_; decide)
          | exact Eq.trans (by kernel_rfl) (hj .exact)
          | fail
      · refine Eq.trans (b := AV.v (.tuple #[.string (joinX (.lst 1 ((lineL 7 t s i c a b).map sv) .exact)), .int .i64 0])) (by kernel_rfl) ?_
        rw [joinX_of]
    · refine Fs.of_call (hm := flatT) knownT (k_rline linesS wordsS plainX cutA cutB cutK joinX findN findB sameX tx dpX dpY whS tS tR pS pR 8 t s i c a b fun r => r = .v (.tuple #[.string (joinB (lineL 8 t s i c a b) blank), .int .i64 0])) (holds_bif (fun h => by cases h) fun _ => holds_bif (fun h => by cases h) fun _ => ⟨?_, ?_⟩)
      · repeat' first
          | with_reducible exact trivial
          | with_reducible refine cdb_iff.2 ⟨?_, ?_⟩
          | with_reducible refine cds_tr (by kernel_rfl) ?_
          | with_reducible exact d1
          | with_reducible exact d2
          | with_reducible exact d3
          | with_reducible exact d4
          | with_reducible exact d5
          | with_reducible exact d6
          | (with_reducible refine decide_eq_true ?_; decide)
          | exact Eq.trans (by kernel_rfl) (hj .exact)
          | fail
      · refine Eq.trans (b := AV.v (.tuple #[.string (joinX (.lst 1 ((lineL 8 t s i c a b).map sv) .exact)), .int .i64 0])) (by kernel_rfl) ?_
        rw [joinX_of]
    · refine Fs.of_call (hm := flatT) knownT (k_rline linesS wordsS plainX cutA cutB cutK joinX findN findB sameX tx dpX dpY whS tS tR pS pR 9 t s i c a b fun r => r = .v (.tuple #[.string (joinB (lineL 9 t s i c a b) blank), .int .i64 0])) (holds_bif (fun h => by cases h) fun _ => holds_bif (fun h => by cases h) fun _ => ⟨?_, ?_⟩)
      · repeat' first
          | with_reducible exact trivial
          | with_reducible refine cdb_iff.2 ⟨?_, ?_⟩
          | with_reducible refine cds_tr (by kernel_rfl) ?_
          | with_reducible exact d1
          | with_reducible exact d2
          | with_reducible exact d3
          | with_reducible exact d4
          | with_reducible exact d5
          | with_reducible exact d6
          | (with_reducible refine decide_eq_true ?_; decide)
          | exact Eq.trans (by kernel_rfl) (hj .exact)
          | fail
      · refine Eq.trans (b := AV.v (.tuple #[.string (joinX (.lst 1 ((lineL 9 t s i c a b).map sv) .exact)), .int .i64 0])) (by kernel_rfl) ?_
        rw [joinX_of]
    · refine Fs.of_call (hm := flatT) knownT (k_rline linesS wordsS plainX cutA cutB cutK joinX findN findB sameX tx dpX dpY whS tS tR pS pR 10 t s i c a b fun r => r = .v (.tuple #[.string (joinB (lineL 10 t s i c a b) blank), .int .i64 0])) (holds_bif (fun h => by cases h) fun _ => holds_bif (fun h => by cases h) fun _ => ⟨?_, ?_⟩)
      · repeat' first
          | with_reducible exact trivial
          | with_reducible refine cdb_iff.2 ⟨?_, ?_⟩
          | with_reducible refine cds_tr (by kernel_rfl) ?_
          | with_reducible exact d1
          | with_reducible exact d2
          | with_reducible exact d3
          | with_reducible exact d4
          | with_reducible exact d5
          | with_reducible exact d6
          | (with_reducible refine decide_eq_true ?_; decide)
          | exact Eq.trans (by kernel_rfl) (hj .exact)
          | fail
      · refine Eq.trans (b := AV.v (.tuple #[.string (joinX (.lst 1 ((lineL 10 t s i c a b).map sv) .exact)), .int .i64 0])) (by kernel_rfl) ?_
        rw [joinX_of]
    · refine Fs.of_call (hm := flatT) knownT (k_rline linesS wordsS plainX cutA cutB cutK joinX findN findB sameX tx dpX dpY whS tS tR pS pR 11 t s i c a b fun r => r = .v (.tuple #[.string (joinB (lineL 11 t s i c a b) blank), .int .i64 0])) (holds_bif (fun h => by cases h) fun _ => holds_bif (fun h => by cases h) fun _ => ⟨?_, ?_⟩)
      · repeat' first
          | with_reducible exact trivial
          | with_reducible refine cdb_iff.2 ⟨?_, ?_⟩
          | with_reducible refine cds_tr (by kernel_rfl) ?_
          | with_reducible exact d1
          | with_reducible exact d2
          | with_reducible exact d3
          | with_reducible exact d4
          | with_reducible exact d5
          | with_reducible exact d6
          | (with_reducible refine decide_eq_true ?_; decide)
          | exact Eq.trans (by kernel_rfl) (hj .exact)
          | fail
      · refine Eq.trans (b := AV.v (.tuple #[.string (joinX (.lst 1 ((lineL 11 t s i c a b).map sv) .exact)), .int .i64 0])) (by kernel_rfl) ?_
        rw [joinX_of]
    · refine Fs.of_call (hm := flatT) knownT (k_rline linesS wordsS plainX cutA cutB cutK joinX findN findB sameX tx dpX dpY whS tS tR pS pR 12 t s i c a b fun r => r = .v (.tuple #[.string (joinB (lineL 12 t s i c a b) blank), .int .i64 0])) (holds_bif (fun h => by cases h) fun _ => holds_bif (fun h => by cases h) fun _ => ⟨?_, ?_⟩)
      · repeat' first
          | with_reducible exact trivial
          | with_reducible refine cdb_iff.2 ⟨?_, ?_⟩
          | with_reducible refine cds_tr (by kernel_rfl) ?_
          | with_reducible exact d1
          | with_reducible exact d2
          | with_reducible exact d3
          | with_reducible exact d4
          | with_reducible exact d5
          | with_reducible exact d6
          | (with_reducible refine decide_eq_true ?_; decide)
          | exact Eq.trans (by kernel_rfl) (hj .exact)
          | fail
      · refine Eq.trans (b := AV.v (.tuple #[.string (joinX (.lst 1 ((lineL 12 t s i c a b).map sv) .exact)), .int .i64 0])) (by kernel_rfl) ?_
        rw [joinX_of]
    · refine Fs.of_call (hm := flatT) knownT (k_rline linesS wordsS plainX cutA cutB cutK joinX findN findB sameX tx dpX dpY whS tS tR pS pR 13 t s i c a b fun r => r = .v (.tuple #[.string (joinB (lineL 13 t s i c a b) blank), .int .i64 0])) (holds_bif (fun h => by cases h) fun _ => holds_bif (fun h => by cases h) fun _ => ⟨?_, ?_⟩)
      · repeat' first
          | with_reducible exact trivial
          | with_reducible refine cdb_iff.2 ⟨?_, ?_⟩
          | with_reducible refine cds_tr (by kernel_rfl) ?_
          | with_reducible exact d1
          | with_reducible exact d2
          | with_reducible exact d3
          | with_reducible exact d4
          | with_reducible exact d5
          | with_reducible exact d6
          | (with_reducible refine decide_eq_true ?_; decide)
          | exact Eq.trans (by kernel_rfl) (hj .exact)
          | fail
      · refine Eq.trans (b := AV.v (.tuple #[.string (joinX (.lst 1 ((lineL 13 t s i c a b).map sv) .exact)), .int .i64 0])) (by kernel_rfl) ?_
        rw [joinX_of]
    · refine Fs.of_call (hm := flatT) knownT (k_rline linesS wordsS plainX cutA cutB cutK joinX findN findB sameX tx dpX dpY whS tS tR pS pR 14 t s i c a b fun r => r = .v (.tuple #[.string (joinB (lineL 14 t s i c a b) blank), .int .i64 0])) (holds_bif (fun h => by cases h) fun _ => holds_bif (fun h => by cases h) fun _ => ⟨?_, ?_⟩)
      · repeat' first
          | with_reducible exact trivial
          | with_reducible refine cdb_iff.2 ⟨?_, ?_⟩
          | with_reducible refine cds_tr (by kernel_rfl) ?_
          | with_reducible exact d1
          | with_reducible exact d2
          | with_reducible exact d3
          | with_reducible exact d4
          | with_reducible exact d5
          | with_reducible exact d6
          | (with_reducible refine decide_eq_true ?_; decide)
          | exact Eq.trans (by kernel_rfl) (hj .exact)
          | fail
      · refine Eq.trans (b := AV.v (.tuple #[.string (joinX (.lst 1 ((lineL 14 t s i c a b).map sv) .exact)), .int .i64 0])) (by kernel_rfl) ?_
        rw [joinX_of]
    · refine Fs.of_call (hm := flatT) knownT (k_rline linesS wordsS plainX cutA cutB cutK joinX findN findB sameX tx dpX dpY whS tS tR pS pR 15 t s i c a b fun r => r = .v (.tuple #[.string (joinB (lineL 15 t s i c a b) blank), .int .i64 0])) (holds_bif (fun h => by cases h) fun _ => holds_bif (fun h => by cases h) fun _ => ⟨?_, ?_⟩)
      · repeat' first
          | with_reducible exact trivial
          | with_reducible refine cdb_iff.2 ⟨?_, ?_⟩
          | with_reducible refine cds_tr (by kernel_rfl) ?_
          | with_reducible exact d1
          | with_reducible exact d2
          | with_reducible exact d3
          | with_reducible exact d4
          | with_reducible exact d5
          | with_reducible exact d6
          | (with_reducible refine decide_eq_true ?_; decide)
          | exact Eq.trans (by kernel_rfl) (hj .exact)
          | fail
      · refine Eq.trans (b := AV.v (.tuple #[.string (joinX (.lst 1 ((lineL 15 t s i c a b).map sv) .exact)), .int .i64 0])) (by kernel_rfl) ?_
        rw [joinX_of]
  · have hT : lineT k t s i c a b = ByteArray.empty := if_neg hk
    have hE : lineE k = 1 := if_neg hk
    rw [hT, hE]
    refine Fs.of_call (hm := flatT) knownT (k_rline linesS wordsS plainX cutA cutB cutK joinX findN findB sameX tx dpX dpY whS tS tR pS pR k t s i c a b fun r => r = .v (.tuple #[.string ByteArray.empty, .int .i64 1])) (holds_bif (fun _ => ⟨trivial, rfl⟩) fun h => holds_bif (fun _ => ⟨trivial, rfl⟩) fun h2 => absurd ⟨by have := of_decide_eq_false h; omega, by have := of_decide_eq_false h2; omega⟩ hk)
end
end Go.Proofs.YtodjeammjdgkoaaDoor.AE
