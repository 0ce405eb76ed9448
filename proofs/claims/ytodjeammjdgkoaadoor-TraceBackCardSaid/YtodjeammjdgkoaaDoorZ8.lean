
/-
  The law TraceBack of layer 39: the call comes to true.
-/
import Derived.Test.YtodjeammjdgkoaaDoorZ7
namespace Go.Proofs.YtodjeammjdgkoaaDoor.AE
open Go.RowKit
def tbA (L : List Evt) (acc : AV) (i : Int) : List AV := [evL L, .dead, .dead, acc, gi i] ++ ded 111
def tbV (L : List Evt) (acc : AV) (i : Int) : List AV := [evL L, .dead, .dead, acc, gi i, .ptr 0 0] ++ ded 110
def tbB (acc : AV) : List AV := [.dead, .dead, .dead, acc] ++ ded 112
def tbC (acc : AV) (k : Int) : List AV := [.dead, .dead, .dead, acc, .dead, .dead, .dead, .dead, .dead, .dead, .dead, .sl 0 0 16 16, gi k] ++ ded 103
def smH (C : List Int) (v : Nat) : AH := hp [(3, C.map gi)] [v]
theorem b_0 (S : LS) (tS tR : TypeId) (pS pR : Value) (L : List Evt) (R : Exit → List AV → AH → Prop) : codeL (roT tS pS tR pR) (fun _ => false) (prLS S) 8 ((flatten (bodyOf 5)).take 5) ([evL L] ++ List.replicate 115 (.v undef)) (hp [] []) (kp [0, 2, 3, 4] R) =
    (bif (decide ((60 : Int) < ((List.length (List.map evA L)) : Int))) then (some (True ∧ (R Exit.ret [(AV.lst (7 : Nat) (List.map evA L) Tip.no), AV.dead, (AV.v (Value.bool true)), (AV.v (Value.tuple (Array.mk (@List.nil Go.Value)))), (AV.v (Value.tuple (Array.mk (@List.nil Go.Value)))), AV.dead, AV.dead, AV.dead, AV.dead, AV.dead, AV.dead, AV.dead, AV.dead, AV.dead, AV.dead, AV.dead, AV.dead, AV.dead, AV.dead, AV.dead, AV.dead, AV.dead, AV.dead, AV.dead, AV.dead, AV.dead, AV.dead, AV.dead, AV.dead, AV.dead, AV.dead, AV.dead, AV.dead, AV.dead, AV.dead, AV.dead, AV.dead, AV.dead, AV.dead, AV.dead, AV.dead, AV.dead, AV.dead, AV.dead, AV.dead, AV.dead, AV.dead, AV.dead, AV.dead, AV.dead, AV.dead, AV.dead, AV.dead, AV.dead, AV.dead, AV.dead, AV.dead, AV.dead, AV.dead, AV.dead, AV.dead, AV.dead, AV.dead, AV.dead, AV.dead, AV.dead, AV.dead, AV.dead, AV.dead, AV.dead, AV.dead, AV.dead, AV.dead, AV.dead, AV.dead, AV.dead, AV.dead, AV.dead, AV.dead, AV.dead, AV.dead, AV.dead, AV.dead, AV.dead, AV.dead, AV.dead, AV.dead, AV.dead, AV.dead, AV.dead, AV.dead, AV.dead, AV.dead, AV.dead, AV.dead, AV.dead, AV.dead, AV.dead, AV.dead, AV.dead, AV.dead, AV.dead, AV.dead, AV.dead, AV.dead, AV.dead, AV.dead, AV.dead, AV.dead, AV.dead, AV.dead, AV.dead, AV.dead, AV.dead, AV.dead, AV.dead] (AH.mk (@List.nil (Prod Go.TypeId (List AV))) (@List.nil Nat) (0 : Nat) (0 : Nat) true (@List.nil (Prod Nat Bool)) True)))) else (some (True ∧ (R Exit.normal [(AV.lst (7 : Nat) (List.map evA L) Tip.no), AV.dead, (AV.v (Value.bool false)), (AV.v (Value.slice none (0 : Nat) (0 : Nat))), (AV.v (Value.int IntKind.i64 (0 : Int))), AV.dead, AV.dead, AV.dead, AV.dead, AV.dead, AV.dead, AV.dead, AV.dead, AV.dead, AV.dead, AV.dead, AV.dead, AV.dead, AV.dead, AV.dead, AV.dead, AV.dead, AV.dead, AV.dead, AV.dead, AV.dead, AV.dead, AV.dead, AV.dead, AV.dead, AV.dead, AV.dead, AV.dead, AV.dead, AV.dead, AV.dead, AV.dead, AV.dead, AV.dead, AV.dead, AV.dead, AV.dead, AV.dead, AV.dead, AV.dead, AV.dead, AV.dead, AV.dead, AV.dead, AV.dead, AV.dead, AV.dead, AV.dead, AV.dead, AV.dead, AV.dead, AV.dead, AV.dead, AV.dead, AV.dead, AV.dead, AV.dead, AV.dead, AV.dead, AV.dead, AV.dead, AV.dead, AV.dead, AV.dead, AV.dead, AV.dead, AV.dead, AV.dead, AV.dead, AV.dead, AV.dead, AV.dead, AV.dead, AV.dead, AV.dead, AV.dead, AV.dead, AV.dead, AV.dead, AV.dead, AV.dead, AV.dead, AV.dead, AV.dead, AV.dead, AV.dead, AV.dead, AV.dead, AV.dead, AV.dead, AV.dead, AV.dead, AV.dead, AV.dead, AV.dead, AV.dead, AV.dead, AV.dead, AV.dead, AV.dead, AV.dead, AV.dead, AV.dead, AV.dead, AV.dead, AV.dead, AV.dead, AV.dead, AV.dead, AV.dead, AV.dead] (AH.mk (@List.nil (Prod Go.TypeId (List AV))) (@List.nil Nat) (0 : Nat) (0 : Nat) true (@List.nil (Prod Nat Bool)) True))))) := by kernel_rfl
theorem b_1h (S : LS) (tS tR : TypeId) (pS pR : Value) (L acc : List Evt) (v : Nat) (i : Int) (R : Exit → List AV → AH → Prop) : codeL (roT tS pS tR pR) (fun _ => false) (prLS S) 8 ((flatten (sub (bodyOf 5) [1, 1, 1, 0, 1, 0, 0])).take 2) (tbA L (accA acc v) i) (hp [] [v]) (kp [0, 3, 4] R) =
    (bif (decide (i < ((List.length (List.map evA L)) : Int))) then (some (True ∧ (R Exit.normal [(AV.lst (7 : Nat) (List.map evA L) Tip.no), AV.dead, AV.dead, (AV.lst (7 : Nat) (List.map evA acc) (Tip.tp (0 : Nat) v)), (AV.v (Value.int IntKind.i64 i)), AV.dead, AV.dead, AV.dead, AV.dead, AV.dead, AV.dead, AV.dead, AV.dead, AV.dead, AV.dead, AV.dead, AV.dead, AV.dead, AV.dead, AV.dead, AV.dead, AV.dead, AV.dead, AV.dead, AV.dead, AV.dead, AV.dead, AV.dead, AV.dead, AV.dead, AV.dead, AV.dead, AV.dead, AV.dead, AV.dead, AV.dead, AV.dead, AV.dead, AV.dead, AV.dead, AV.dead, AV.dead, AV.dead, AV.dead, AV.dead, AV.dead, AV.dead, AV.dead, AV.dead, AV.dead, AV.dead, AV.dead, AV.dead, AV.dead, AV.dead, AV.dead, AV.dead, AV.dead, AV.dead, AV.dead, AV.dead, AV.dead, AV.dead, AV.dead, AV.dead, AV.dead, AV.dead, AV.dead, AV.dead, AV.dead, AV.dead, AV.dead, AV.dead, AV.dead, AV.dead, AV.dead, AV.dead, AV.dead, AV.dead, AV.dead, AV.dead, AV.dead, AV.dead, AV.dead, AV.dead, AV.dead, AV.dead, AV.dead, AV.dead, AV.dead, AV.dead, AV.dead, AV.dead, AV.dead, AV.dead, AV.dead, AV.dead, AV.dead, AV.dead, AV.dead, AV.dead, AV.dead, AV.dead, AV.dead, AV.dead, AV.dead, AV.dead, AV.dead, AV.dead, AV.dead, AV.dead, AV.dead, AV.dead, AV.dead, AV.dead, AV.dead] (AH.mk (@List.nil (Prod Go.TypeId (List AV))) [v] (0 : Nat) (0 : Nat) true (@List.nil (Prod Nat Bool)) True)))) else (some (True ∧ (R (Exit.exit (0 : Nat)) [(AV.lst (7 : Nat) (List.map evA L) Tip.no), AV.dead, AV.dead, (AV.lst (7 : Nat) (List.map evA acc) (Tip.tp (0 : Nat) v)), (AV.v (Value.int IntKind.i64 i)), AV.dead, AV.dead, AV.dead, AV.dead, AV.dead, AV.dead, AV.dead, AV.dead, AV.dead, AV.dead, AV.dead, AV.dead, AV.dead, AV.dead, AV.dead, AV.dead, AV.dead, AV.dead, AV.dead, AV.dead, AV.dead, AV.dead, AV.dead, AV.dead, AV.dead, AV.dead, AV.dead, AV.dead, AV.dead, AV.dead, AV.dead, AV.dead, AV.dead, AV.dead, AV.dead, AV.dead, AV.dead, AV.dead, AV.dead, AV.dead, AV.dead, AV.dead, AV.dead, AV.dead, AV.dead, AV.dead, AV.dead, AV.dead, AV.dead, AV.dead, AV.dead, AV.dead, AV.dead, AV.dead, AV.dead, AV.dead, AV.dead, AV.dead, AV.dead, AV.dead, AV.dead, AV.dead, AV.dead, AV.dead, AV.dead, AV.dead, AV.dead, AV.dead, AV.dead, AV.dead, AV.dead, AV.dead, AV.dead, AV.dead, AV.dead, AV.dead, AV.dead, AV.dead, AV.dead, AV.dead, AV.dead, AV.dead, AV.dead, AV.dead, AV.dead, AV.dead, AV.dead, AV.dead, AV.dead, AV.dead, AV.dead, AV.dead, AV.dead, AV.dead, AV.dead, AV.dead, AV.dead, AV.dead, AV.dead, AV.dead, AV.dead, AV.dead, AV.dead, AV.dead, AV.dead, AV.dead, AV.dead, AV.dead, AV.dead, AV.dead, AV.dead] (AH.mk (@List.nil (Prod Go.TypeId (List AV))) [v] (0 : Nat) (0 : Nat) true (@List.nil (Prod Nat Bool)) True))))) := by kernel_rfl
theorem b_17 (S : LS) (tS tR : TypeId) (pS pR : Value) (L acc : List Evt) (v : Nat) (i : Int) (R : Exit → List AV → AH → Prop) : code (roT tS pS tR pR) (fun _ => false) (prLS S) 8 (sub (bodyOf 5) [1, 1, 1, 0, 1, 0, 0, 1, 0, 0, 0]) (tbA L (accA acc v) i) (hp [] [v]) (kp [0, 3, 4, 38] R) =
    (bif (decide ((1 : Int) ≤ (exInt (List.getD (AV.cells (List.getD (List.map evA L) (Int.toNat i) AV.dead)) (0 : Nat) AV.dead)))) then (some ((cds (cds True (elemB Tryd.prog (23 : Nat) (List.map evA L) i) (((0 : Int) ≤ i) ∧ (((List.map evA L)[(Int.toNat i)]?) = (some (AV.v (Value.agg #[(Value.int IntKind.i64 (exInt (List.getD (AV.cells (List.getD (List.map evA L) (Int.toNat i) AV.dead)) (0 : Nat) AV.dead))), (Value.int IntKind.i64 (exInt (List.getD (AV.cells (List.getD (List.map evA L) (Int.toNat i) AV.dead)) (1 : Nat) AV.dead))), (Value.int IntKind.i64 (exInt (List.getD (AV.cells (List.getD (List.map evA L) (Int.toNat i) AV.dead)) (2 : Nat) AV.dead))), (Value.int IntKind.i64 (exInt (List.getD (AV.cells (List.getD (List.map evA L) (Int.toNat i) AV.dead)) (3 : Nat) AV.dead))), (Value.int IntKind.i64 (exInt (List.getD (AV.cells (List.getD (List.map evA L) (Int.toNat i) AV.dead)) (4 : Nat) AV.dead))), (Value.int IntKind.i64 (exInt (List.getD (AV.cells (List.getD (List.map evA L) (Int.toNat i) AV.dead)) (5 : Nat) AV.dead))), (Value.int IntKind.i64 (exInt (List.getD (AV.cells (List.getD (List.map evA L) (Int.toNat i) AV.dead)) (6 : Nat) AV.dead)))])))))) (elemB Tryd.prog (23 : Nat) (List.map evA L) i) (((0 : Int) ≤ i) ∧ (((List.map evA L)[(Int.toNat i)]?) = (some (AV.v (Value.agg #[(Value.int IntKind.i64 (exInt (List.getD (AV.cells (List.getD (List.map evA L) (Int.toNat i) AV.dead)) (0 : Nat) AV.dead))), (Value.int IntKind.i64 (exInt (List.getD (AV.cells (List.getD (List.map evA L) (Int.toNat i) AV.dead)) (1 : Nat) AV.dead))), (Value.int IntKind.i64 (exInt (List.getD (AV.cells (List.getD (List.map evA L) (Int.toNat i) AV.dead)) (2 : Nat) AV.dead))), (Value.int IntKind.i64 (exInt (List.getD (AV.cells (List.getD (List.map evA L) (Int.toNat i) AV.dead)) (3 : Nat) AV.dead))), (Value.int IntKind.i64 (exInt (List.getD (AV.cells (List.getD (List.map evA L) (Int.toNat i) AV.dead)) (4 : Nat) AV.dead))), (Value.int IntKind.i64 (exInt (List.getD (AV.cells (List.getD (List.map evA L) (Int.toNat i) AV.dead)) (5 : Nat) AV.dead))), (Value.int IntKind.i64 (exInt (List.getD (AV.cells (List.getD (List.map evA L) (Int.toNat i) AV.dead)) (6 : Nat) AV.dead)))])))))) ∧ (R Exit.normal [(AV.lst (7 : Nat) (List.map evA L) Tip.no), AV.dead, AV.dead, (AV.lst (7 : Nat) (List.map evA acc) (Tip.tp (0 : Nat) v)), (AV.v (Value.int IntKind.i64 i)), AV.dead, AV.dead, AV.dead, AV.dead, AV.dead, AV.dead, AV.dead, AV.dead, AV.dead, AV.dead, AV.dead, AV.dead, AV.dead, AV.dead, AV.dead, AV.dead, AV.dead, AV.dead, AV.dead, AV.dead, AV.dead, AV.dead, AV.dead, AV.dead, AV.dead, AV.dead, AV.dead, AV.dead, AV.dead, AV.dead, AV.dead, AV.dead, AV.dead, (AV.v (Value.bool (decide ((exInt (List.getD (AV.cells (List.getD (List.map evA L) (Int.toNat i) AV.dead)) (0 : Nat) AV.dead)) ≤ (15 : Int))))), AV.dead, AV.dead, AV.dead, AV.dead, AV.dead, AV.dead, AV.dead, AV.dead, AV.dead, AV.dead, AV.dead, AV.dead, AV.dead, AV.dead, AV.dead, AV.dead, AV.dead, AV.dead, AV.dead, AV.dead, AV.dead, AV.dead, AV.dead, AV.dead, AV.dead, AV.dead, AV.dead, AV.dead, AV.dead, AV.dead, AV.dead, AV.dead, AV.dead, AV.dead, AV.dead, AV.dead, AV.dead, AV.dead, AV.dead, AV.dead, AV.dead, AV.dead, AV.dead, AV.dead, AV.dead, AV.dead, AV.dead, AV.dead, AV.dead, AV.dead, AV.dead, AV.dead, AV.dead, AV.dead, AV.dead, AV.dead, AV.dead, AV.dead, AV.dead, AV.dead, AV.dead, AV.dead, AV.dead, AV.dead, AV.dead, AV.dead, AV.dead, AV.dead, AV.dead, AV.dead, AV.dead, AV.dead, AV.dead, AV.dead, AV.dead, AV.dead, AV.dead] (AH.mk (@List.nil (Prod Go.TypeId (List AV))) [v] (0 : Nat) (0 : Nat) true (@List.nil (Prod Nat Bool)) True)))) else (some ((cds True (elemB Tryd.prog (23 : Nat) (List.map evA L) i) (((0 : Int) ≤ i) ∧ (((List.map evA L)[(Int.toNat i)]?) = (some (AV.v (Value.agg #[(Value.int IntKind.i64 (exInt (List.getD (AV.cells (List.getD (List.map evA L) (Int.toNat i) AV.dead)) (0 : Nat) AV.dead))), (Value.int IntKind.i64 (exInt (List.getD (AV.cells (List.getD (List.map evA L) (Int.toNat i) AV.dead)) (1 : Nat) AV.dead))), (Value.int IntKind.i64 (exInt (List.getD (AV.cells (List.getD (List.map evA L) (Int.toNat i) AV.dead)) (2 : Nat) AV.dead))), (Value.int IntKind.i64 (exInt (List.getD (AV.cells (List.getD (List.map evA L) (Int.toNat i) AV.dead)) (3 : Nat) AV.dead))), (Value.int IntKind.i64 (exInt (List.getD (AV.cells (List.getD (List.map evA L) (Int.toNat i) AV.dead)) (4 : Nat) AV.dead))), (Value.int IntKind.i64 (exInt (List.getD (AV.cells (List.getD (List.map evA L) (Int.toNat i) AV.dead)) (5 : Nat) AV.dead))), (Value.int IntKind.i64 (exInt (List.getD (AV.cells (List.getD (List.map evA L) (Int.toNat i) AV.dead)) (6 : Nat) AV.dead)))])))))) ∧ (R Exit.normal [(AV.lst (7 : Nat) (List.map evA L) Tip.no), AV.dead, AV.dead, (AV.lst (7 : Nat) (List.map evA acc) (Tip.tp (0 : Nat) v)), (AV.v (Value.int IntKind.i64 i)), AV.dead, AV.dead, AV.dead, AV.dead, AV.dead, AV.dead, AV.dead, AV.dead, AV.dead, AV.dead, AV.dead, AV.dead, AV.dead, AV.dead, AV.dead, AV.dead, AV.dead, AV.dead, AV.dead, AV.dead, AV.dead, AV.dead, AV.dead, AV.dead, AV.dead, AV.dead, AV.dead, AV.dead, AV.dead, AV.dead, AV.dead, AV.dead, AV.dead, (AV.v (Value.bool false)), AV.dead, AV.dead, AV.dead, AV.dead, AV.dead, AV.dead, AV.dead, AV.dead, AV.dead, AV.dead, AV.dead, AV.dead, AV.dead, AV.dead, AV.dead, AV.dead, AV.dead, AV.dead, AV.dead, AV.dead, AV.dead, AV.dead, AV.dead, AV.dead, AV.dead, AV.dead, AV.dead, AV.dead, AV.dead, AV.dead, AV.dead, AV.dead, AV.dead, AV.dead, AV.dead, AV.dead, AV.dead, AV.dead, AV.dead, AV.dead, AV.dead, AV.dead, AV.dead, AV.dead, AV.dead, AV.dead, AV.dead, AV.dead, AV.dead, AV.dead, AV.dead, AV.dead, AV.dead, AV.dead, AV.dead, AV.dead, AV.dead, AV.dead, AV.dead, AV.dead, AV.dead, AV.dead, AV.dead, AV.dead, AV.dead, AV.dead, AV.dead, AV.dead, AV.dead, AV.dead, AV.dead, AV.dead, AV.dead, AV.dead, AV.dead, AV.dead, AV.dead] (AH.mk (@List.nil (Prod Go.TypeId (List AV))) [v] (0 : Nat) (0 : Nat) true (@List.nil (Prod Nat Bool)) True))))) := by kernel_rfl
theorem b_18 (S : LS) (tS tR : TypeId) (pS pR : Value) (L acc : List Evt) (v : Nat) (i : Int) (R : Exit → List AV → AH → Prop) : codeL (roT tS pS tR pR) (fun _ => false) (prLS S) 8 ((flatten (sub (bodyOf 5) [1, 1, 1, 0, 1, 0, 0, 1, 0, 0, 1, 0])).take 1) (tbA L (accA acc v) i) (hp [] [v]) (kp [0, 3, 4, 5] R) =
    (some ((cds True (elemB Tryd.prog (23 : Nat) (List.map evA L) i) (((0 : Int) ≤ i) ∧ (((List.map evA L)[(Int.toNat i)]?) = (some (AV.v (Value.agg #[(Value.int IntKind.i64 (exInt (List.getD (AV.cells (List.getD (List.map evA L) (Int.toNat i) AV.dead)) (0 : Nat) AV.dead))), (Value.int IntKind.i64 (exInt (List.getD (AV.cells (List.getD (List.map evA L) (Int.toNat i) AV.dead)) (1 : Nat) AV.dead))), (Value.int IntKind.i64 (exInt (List.getD (AV.cells (List.getD (List.map evA L) (Int.toNat i) AV.dead)) (2 : Nat) AV.dead))), (Value.int IntKind.i64 (exInt (List.getD (AV.cells (List.getD (List.map evA L) (Int.toNat i) AV.dead)) (3 : Nat) AV.dead))), (Value.int IntKind.i64 (exInt (List.getD (AV.cells (List.getD (List.map evA L) (Int.toNat i) AV.dead)) (4 : Nat) AV.dead))), (Value.int IntKind.i64 (exInt (List.getD (AV.cells (List.getD (List.map evA L) (Int.toNat i) AV.dead)) (5 : Nat) AV.dead))), (Value.int IntKind.i64 (exInt (List.getD (AV.cells (List.getD (List.map evA L) (Int.toNat i) AV.dead)) (6 : Nat) AV.dead)))])))))) ∧ (R Exit.normal [(AV.lst (7 : Nat) (List.map evA L) Tip.no), AV.dead, AV.dead, (AV.lst (7 : Nat) (List.map evA acc) (Tip.tp (0 : Nat) v)), (AV.v (Value.int IntKind.i64 i)), (AV.ptr (List.length (@List.nil (Prod Go.TypeId (List AV)))) (0 : Nat)), AV.dead, AV.dead, AV.dead, AV.dead, AV.dead, AV.dead, AV.dead, AV.dead, AV.dead, AV.dead, AV.dead, AV.dead, AV.dead, AV.dead, AV.dead, AV.dead, AV.dead, AV.dead, AV.dead, AV.dead, AV.dead, AV.dead, AV.dead, AV.dead, AV.dead, AV.dead, AV.dead, AV.dead, AV.dead, AV.dead, AV.dead, AV.dead, AV.dead, AV.dead, AV.dead, AV.dead, AV.dead, AV.dead, AV.dead, AV.dead, AV.dead, AV.dead, AV.dead, AV.dead, AV.dead, AV.dead, AV.dead, AV.dead, AV.dead, AV.dead, AV.dead, AV.dead, AV.dead, AV.dead, AV.dead, AV.dead, AV.dead, AV.dead, AV.dead, AV.dead, AV.dead, AV.dead, AV.dead, AV.dead, AV.dead, AV.dead, AV.dead, AV.dead, AV.dead, AV.dead, AV.dead, AV.dead, AV.dead, AV.dead, AV.dead, AV.dead, AV.dead, AV.dead, AV.dead, AV.dead, AV.dead, AV.dead, AV.dead, AV.dead, AV.dead, AV.dead, AV.dead, AV.dead, AV.dead, AV.dead, AV.dead, AV.dead, AV.dead, AV.dead, AV.dead, AV.dead, AV.dead, AV.dead, AV.dead, AV.dead, AV.dead, AV.dead, AV.dead, AV.dead, AV.dead, AV.dead, AV.dead, AV.dead, AV.dead, AV.dead] (AH.mk [((23 : Nat), [(AV.v (Value.int IntKind.i64 (exInt (List.getD (AV.cells (List.getD (List.map evA L) (Int.toNat i) AV.dead)) (0 : Nat) AV.dead)))), (AV.v (Value.int IntKind.i64 (exInt (List.getD (AV.cells (List.getD (List.map evA L) (Int.toNat i) AV.dead)) (1 : Nat) AV.dead)))), (AV.v (Value.int IntKind.i64 (exInt (List.getD (AV.cells (List.getD (List.map evA L) (Int.toNat i) AV.dead)) (2 : Nat) AV.dead)))), (AV.v (Value.int IntKind.i64 (exInt (List.getD (AV.cells (List.getD (List.map evA L) (Int.toNat i) AV.dead)) (3 : Nat) AV.dead)))), (AV.v (Value.int IntKind.i64 (exInt (List.getD (AV.cells (List.getD (List.map evA L) (Int.toNat i) AV.dead)) (4 : Nat) AV.dead)))), (AV.v (Value.int IntKind.i64 (exInt (List.getD (AV.cells (List.getD (List.map evA L) (Int.toNat i) AV.dead)) (5 : Nat) AV.dead)))), (AV.v (Value.int IntKind.i64 (exInt (List.getD (AV.cells (List.getD (List.map evA L) (Int.toNat i) AV.dead)) (6 : Nat) AV.dead))))])] [v] (0 : Nat) (0 : Nat) true (@List.nil (Prod Nat Bool)) True)))) := by kernel_rfl
theorem b_19 (S : LS) (tS tR : TypeId) (pS pR : Value) (L acc : List Evt) (v : Nat) (i a0 a1 a2 a3 a4 a5 a6 : Int) (R : Exit → List AV → AH → Prop) : codeL (roT tS pS tR pR) (fun _ => false) (prLS S) 8 ((flatten (sub (bodyOf 5) [1, 1, 1, 0, 1, 0, 0, 1, 0, 0, 1, 0])).drop 1) (tbV L (accA acc v) i) (hp [(23, [gi a0, gi a1, gi a2, gi a3, gi a4, gi a5, gi a6])] [v]) (kp [0, 3, 4] R) =
    (some ((cdb True (decide ((((((List.length (List.map evA acc)) + (List.length [(AV.v (Value.agg #[(Value.int IntKind.i64 a0), (Value.int IntKind.i64 a1), (Value.int IntKind.i64 (IntKind.wrap IntKind.i64 ((IntKind.wrap IntKind.i64 (((@BitVec.toFin (IntKind.bits IntKind.i64) ((BitVec.ofInt (IntKind.bits IntKind.i64) a2) &&& (BitVec.ofInt (IntKind.bits IntKind.i64) (3 : Int))))).1 : Int)) - (1 : Int)))), (Value.int IntKind.i64 a3), (Value.int IntKind.i64 a4), (Value.int IntKind.i64 a5), (Value.int IntKind.i64 a6)]))])) * (56 : Nat)) ≤ (140737488355328 : Nat)) ∧ (((List.length (List.map evA acc)) + (List.length [(AV.v (Value.agg #[(Value.int IntKind.i64 a0), (Value.int IntKind.i64 a1), (Value.int IntKind.i64 (IntKind.wrap IntKind.i64 ((IntKind.wrap IntKind.i64 (((@BitVec.toFin (IntKind.bits IntKind.i64) ((BitVec.ofInt (IntKind.bits IntKind.i64) a2) &&& (BitVec.ofInt (IntKind.bits IntKind.i64) (3 : Int))))).1 : Int)) - (1 : Int)))), (Value.int IntKind.i64 a3), (Value.int IntKind.i64 a4), (Value.int IntKind.i64 a5), (Value.int IntKind.i64 a6)]))])) ≤ (9223372036854775807 : Nat))) ∧ (v = v)))) ∧ (R Exit.normal [(AV.lst (7 : Nat) (List.map evA L) Tip.no), AV.dead, AV.dead, (AV.lst (7 : Nat) ((List.map evA acc) ++ [(AV.v (Value.agg #[(Value.int IntKind.i64 a0), (Value.int IntKind.i64 a1), (Value.int IntKind.i64 (IntKind.wrap IntKind.i64 ((IntKind.wrap IntKind.i64 (((@BitVec.toFin (IntKind.bits IntKind.i64) ((BitVec.ofInt (IntKind.bits IntKind.i64) a2) &&& (BitVec.ofInt (IntKind.bits IntKind.i64) (3 : Int))))).1 : Int)) - (1 : Int)))), (Value.int IntKind.i64 a3), (Value.int IntKind.i64 a4), (Value.int IntKind.i64 a5), (Value.int IntKind.i64 a6)]))]) (Tip.tp (0 : Nat) (v + (1 : Nat)))), (AV.v (Value.int IntKind.i64 i)), AV.dead, AV.dead, AV.dead, AV.dead, AV.dead, AV.dead, AV.dead, AV.dead, AV.dead, AV.dead, AV.dead, AV.dead, AV.dead, AV.dead, AV.dead, AV.dead, AV.dead, AV.dead, AV.dead, AV.dead, AV.dead, AV.dead, AV.dead, AV.dead, AV.dead, AV.dead, AV.dead, AV.dead, AV.dead, AV.dead, AV.dead, AV.dead, AV.dead, AV.dead, AV.dead, AV.dead, AV.dead, AV.dead, AV.dead, AV.dead, AV.dead, AV.dead, AV.dead, AV.dead, AV.dead, AV.dead, AV.dead, AV.dead, AV.dead, AV.dead, AV.dead, AV.dead, AV.dead, AV.dead, AV.dead, AV.dead, AV.dead, AV.dead, AV.dead, AV.dead, AV.dead, AV.dead, AV.dead, AV.dead, AV.dead, AV.dead, AV.dead, AV.dead, AV.dead, AV.dead, AV.dead, AV.dead, AV.dead, AV.dead, AV.dead, AV.dead, AV.dead, AV.dead, AV.dead, AV.dead, AV.dead, AV.dead, AV.dead, AV.dead, AV.dead, AV.dead, AV.dead, AV.dead, AV.dead, AV.dead, AV.dead, AV.dead, AV.dead, AV.dead, AV.dead, AV.dead, AV.dead, AV.dead, AV.dead, AV.dead, AV.dead, AV.dead, AV.dead, AV.dead, AV.dead, AV.dead, AV.dead, AV.dead, AV.dead, AV.dead, AV.dead] (AH.mk [((23 : Nat), [(AV.v (Value.int IntKind.i64 a0)), (AV.v (Value.int IntKind.i64 a1)), (AV.v (Value.int IntKind.i64 (IntKind.wrap IntKind.i64 ((IntKind.wrap IntKind.i64 (((@BitVec.toFin (IntKind.bits IntKind.i64) ((BitVec.ofInt (IntKind.bits IntKind.i64) a2) &&& (BitVec.ofInt (IntKind.bits IntKind.i64) (3 : Int))))).1 : Int)) - (1 : Int))))), (AV.v (Value.int IntKind.i64 a3)), (AV.v (Value.int IntKind.i64 a4)), (AV.v (Value.int IntKind.i64 a5)), (AV.v (Value.int IntKind.i64 a6))])] [(v + (1 : Nat))] (0 : Nat) (0 : Nat) true (@List.nil (Prod Nat Bool)) True)))) := by kernel_rfl
theorem b_16 (S : LS) (tS tR : TypeId) (pS pR : Value) (L acc : List Evt) (v : Nat) (i : Int) (R : Exit → List AV → AH → Prop) : code (roT tS pS tR pR) (fun _ => false) (prLS S) 8 (sub (bodyOf 5) [1, 1, 1, 0, 1, 0, 0, 1, 1]) (tbA L (accA acc v) i) (hp [] [v]) (kp [0, 3, 4] R) =
    (some (True ∧ (R Exit.normal [(AV.lst (7 : Nat) (List.map evA L) Tip.no), AV.dead, AV.dead, (AV.lst (7 : Nat) (List.map evA acc) (Tip.tp (0 : Nat) v)), (AV.v (Value.int IntKind.i64 (IntKind.wrap IntKind.i64 (i + (1 : Int))))), AV.dead, AV.dead, AV.dead, AV.dead, AV.dead, AV.dead, AV.dead, AV.dead, AV.dead, AV.dead, AV.dead, AV.dead, AV.dead, AV.dead, AV.dead, AV.dead, AV.dead, AV.dead, AV.dead, AV.dead, AV.dead, AV.dead, AV.dead, AV.dead, AV.dead, AV.dead, AV.dead, AV.dead, AV.dead, AV.dead, AV.dead, AV.dead, AV.dead, AV.dead, AV.dead, AV.dead, AV.dead, AV.dead, AV.dead, AV.dead, AV.dead, AV.dead, AV.dead, AV.dead, AV.dead, AV.dead, AV.dead, AV.dead, AV.dead, AV.dead, AV.dead, AV.dead, AV.dead, AV.dead, AV.dead, AV.dead, AV.dead, AV.dead, AV.dead, AV.dead, AV.dead, AV.dead, AV.dead, AV.dead, AV.dead, AV.dead, AV.dead, AV.dead, AV.dead, AV.dead, AV.dead, AV.dead, AV.dead, AV.dead, AV.dead, AV.dead, AV.dead, AV.dead, AV.dead, AV.dead, AV.dead, AV.dead, AV.dead, AV.dead, AV.dead, AV.dead, AV.dead, AV.dead, AV.dead, AV.dead, AV.dead, AV.dead, AV.dead, AV.dead, AV.dead, AV.dead, AV.dead, AV.dead, AV.dead, AV.dead, AV.dead, AV.dead, AV.dead, AV.dead, AV.dead, AV.dead, AV.dead, AV.dead, AV.dead, AV.dead, AV.dead] (AH.mk (@List.nil (Prod Go.TypeId (List AV))) [v] (0 : Nat) (0 : Nat) true (@List.nil (Prod Nat Bool)) True)))) := by kernel_rfl
theorem b_2 (S : LS) (tS tR : TypeId) (pS pR : Value) (M : List Evt) (v : Nat) (R : Exit → List AV → AH → Prop) : codeL (roT tS pS tR pR) (fun _ => false) (prLS S) 8 (((flatten (bodyOf 5)).drop 6).take 6) (tbB (accA M v)) (hp [] [v]) (kp [2, 3, 11, 12] R) =
    (bif (((S).2 [(AV.lst (7 : Nat) (List.map evA M) (Tip.tp (0 : Nat) v))]) != (0 : Int)) then (some ((cdb (cdb (cdb (cdb True (lsOk [(AV.lst (7 : Nat) (List.map evA M) (Tip.tp (0 : Nat) v))])) (decide (((2 : Nat) + (ByteArray.size ((S).1 [(AV.lst (7 : Nat) (List.map evA M) (Tip.tp (0 : Nat) v))]))) ≤ (9223372036854775807 : Nat)))) (decide (((ByteArray.size ((ByteArray.mk #[(32 : UInt8), (10 : UInt8)]) ++ ((S).1 [(AV.lst (7 : Nat) (List.map evA M) (Tip.tp (0 : Nat) v))]))) + (1 : Nat)) ≤ (9223372036854775807 : Nat)))) (textOk [(AV.v (Value.string (((ByteArray.mk #[(32 : UInt8), (10 : UInt8)]) ++ ((S).1 [(AV.lst (7 : Nat) (List.map evA M) (Tip.tp (0 : Nat) v))])) ++ (ByteArray.mk #[(35 : UInt8)]))))])) ∧ (R Exit.ret [AV.dead, AV.dead, (AV.v (Value.bool false)), (AV.lst (7 : Nat) (List.map evA M) (Tip.tp (0 : Nat) v)), AV.dead, AV.dead, AV.dead, AV.dead, AV.dead, AV.dead, AV.dead, AV.dead, AV.dead, AV.dead, AV.dead, AV.dead, AV.dead, AV.dead, AV.dead, AV.dead, AV.dead, AV.dead, AV.dead, AV.dead, AV.dead, AV.dead, AV.dead, AV.dead, AV.dead, AV.dead, AV.dead, AV.dead, AV.dead, AV.dead, AV.dead, AV.dead, AV.dead, AV.dead, AV.dead, AV.dead, AV.dead, AV.dead, AV.dead, AV.dead, AV.dead, AV.dead, AV.dead, AV.dead, AV.dead, AV.dead, AV.dead, AV.dead, AV.dead, AV.dead, AV.dead, AV.dead, AV.dead, AV.dead, AV.dead, AV.dead, AV.dead, AV.dead, AV.dead, AV.dead, AV.dead, AV.dead, AV.dead, AV.dead, AV.dead, AV.dead, AV.dead, AV.dead, AV.dead, AV.dead, AV.dead, AV.dead, AV.dead, AV.dead, AV.dead, AV.dead, AV.dead, AV.dead, AV.dead, AV.dead, AV.dead, AV.dead, AV.dead, AV.dead, AV.dead, AV.dead, AV.dead, AV.dead, AV.dead, AV.dead, AV.dead, AV.dead, AV.dead, AV.dead, AV.dead, AV.dead, AV.dead, AV.dead, AV.dead, AV.dead, AV.dead, AV.dead, AV.dead, AV.dead, AV.dead, AV.dead, AV.dead, AV.dead, AV.dead, AV.dead, AV.dead, AV.dead] (AH.mk (@List.nil (Prod Go.TypeId (List AV))) [v] (0 : Nat) (0 : Nat) true (@List.nil (Prod Nat Bool)) True)))) else (bif (!((S).9 [(AV.lst (7 : Nat) ((S).3 [(AV.v (Value.string (((ByteArray.mk #[(32 : UInt8), (10 : UInt8)]) ++ ((S).1 [(AV.lst (7 : Nat) (List.map evA M) (Tip.tp (0 : Nat) v))])) ++ (ByteArray.mk #[(35 : UInt8)]))))]) Tip.no), (AV.lst (7 : Nat) (List.map evA M) (Tip.tp (0 : Nat) v))])) then (some ((cdb (cdb (cdb (cdb (cdb True (lsOk [(AV.lst (7 : Nat) (List.map evA M) (Tip.tp (0 : Nat) v))])) (decide (((2 : Nat) + (ByteArray.size ((S).1 [(AV.lst (7 : Nat) (List.map evA M) (Tip.tp (0 : Nat) v))]))) ≤ (9223372036854775807 : Nat)))) (decide (((ByteArray.size ((ByteArray.mk #[(32 : UInt8), (10 : UInt8)]) ++ ((S).1 [(AV.lst (7 : Nat) (List.map evA M) (Tip.tp (0 : Nat) v))]))) + (1 : Nat)) ≤ (9223372036854775807 : Nat)))) (textOk [(AV.v (Value.string (((ByteArray.mk #[(32 : UInt8), (10 : UInt8)]) ++ ((S).1 [(AV.lst (7 : Nat) (List.map evA M) (Tip.tp (0 : Nat) v))])) ++ (ByteArray.mk #[(35 : UInt8)]))))])) (seOk [(AV.lst (7 : Nat) ((S).3 [(AV.v (Value.string (((ByteArray.mk #[(32 : UInt8), (10 : UInt8)]) ++ ((S).1 [(AV.lst (7 : Nat) (List.map evA M) (Tip.tp (0 : Nat) v))])) ++ (ByteArray.mk #[(35 : UInt8)]))))]) Tip.no), (AV.lst (7 : Nat) (List.map evA M) (Tip.tp (0 : Nat) v))])) ∧ (R Exit.ret [AV.dead, AV.dead, (AV.v (Value.bool false)), (AV.lst (7 : Nat) (List.map evA M) (Tip.tp (0 : Nat) v)), AV.dead, AV.dead, AV.dead, AV.dead, AV.dead, AV.dead, AV.dead, AV.dead, AV.dead, AV.dead, AV.dead, AV.dead, AV.dead, AV.dead, AV.dead, AV.dead, AV.dead, AV.dead, AV.dead, AV.dead, AV.dead, AV.dead, AV.dead, AV.dead, AV.dead, AV.dead, AV.dead, AV.dead, AV.dead, AV.dead, AV.dead, AV.dead, AV.dead, AV.dead, AV.dead, AV.dead, AV.dead, AV.dead, AV.dead, AV.dead, AV.dead, AV.dead, AV.dead, AV.dead, AV.dead, AV.dead, AV.dead, AV.dead, AV.dead, AV.dead, AV.dead, AV.dead, AV.dead, AV.dead, AV.dead, AV.dead, AV.dead, AV.dead, AV.dead, AV.dead, AV.dead, AV.dead, AV.dead, AV.dead, AV.dead, AV.dead, AV.dead, AV.dead, AV.dead, AV.dead, AV.dead, AV.dead, AV.dead, AV.dead, AV.dead, AV.dead, AV.dead, AV.dead, AV.dead, AV.dead, AV.dead, AV.dead, AV.dead, AV.dead, AV.dead, AV.dead, AV.dead, AV.dead, AV.dead, AV.dead, AV.dead, AV.dead, AV.dead, AV.dead, AV.dead, AV.dead, AV.dead, AV.dead, AV.dead, AV.dead, AV.dead, AV.dead, AV.dead, AV.dead, AV.dead, AV.dead, AV.dead, AV.dead, AV.dead, AV.dead, AV.dead, AV.dead] (AH.mk (@List.nil (Prod Go.TypeId (List AV))) [v] (0 : Nat) (0 : Nat) true (@List.nil (Prod Nat Bool)) True)))) else (bif (((S).4 [(AV.v (Value.string (((ByteArray.mk #[(32 : UInt8), (10 : UInt8)]) ++ ((S).1 [(AV.lst (7 : Nat) (List.map evA M) (Tip.tp (0 : Nat) v))])) ++ (ByteArray.mk #[(35 : UInt8)]))))]) != (0 : Int)) then (some ((cdb (cdb (cdb (cdb (cdb True (lsOk [(AV.lst (7 : Nat) (List.map evA M) (Tip.tp (0 : Nat) v))])) (decide (((2 : Nat) + (ByteArray.size ((S).1 [(AV.lst (7 : Nat) (List.map evA M) (Tip.tp (0 : Nat) v))]))) ≤ (9223372036854775807 : Nat)))) (decide (((ByteArray.size ((ByteArray.mk #[(32 : UInt8), (10 : UInt8)]) ++ ((S).1 [(AV.lst (7 : Nat) (List.map evA M) (Tip.tp (0 : Nat) v))]))) + (1 : Nat)) ≤ (9223372036854775807 : Nat)))) (textOk [(AV.v (Value.string (((ByteArray.mk #[(32 : UInt8), (10 : UInt8)]) ++ ((S).1 [(AV.lst (7 : Nat) (List.map evA M) (Tip.tp (0 : Nat) v))])) ++ (ByteArray.mk #[(35 : UInt8)]))))])) (seOk [(AV.lst (7 : Nat) ((S).3 [(AV.v (Value.string (((ByteArray.mk #[(32 : UInt8), (10 : UInt8)]) ++ ((S).1 [(AV.lst (7 : Nat) (List.map evA M) (Tip.tp (0 : Nat) v))])) ++ (ByteArray.mk #[(35 : UInt8)]))))]) Tip.no), (AV.lst (7 : Nat) (List.map evA M) (Tip.tp (0 : Nat) v))])) ∧ (R Exit.ret [AV.dead, AV.dead, (AV.v (Value.bool false)), (AV.lst (7 : Nat) (List.map evA M) (Tip.tp (0 : Nat) v)), AV.dead, AV.dead, AV.dead, AV.dead, AV.dead, AV.dead, AV.dead, AV.dead, AV.dead, AV.dead, AV.dead, AV.dead, AV.dead, AV.dead, AV.dead, AV.dead, AV.dead, AV.dead, AV.dead, AV.dead, AV.dead, AV.dead, AV.dead, AV.dead, AV.dead, AV.dead, AV.dead, AV.dead, AV.dead, AV.dead, AV.dead, AV.dead, AV.dead, AV.dead, AV.dead, AV.dead, AV.dead, AV.dead, AV.dead, AV.dead, AV.dead, AV.dead, AV.dead, AV.dead, AV.dead, AV.dead, AV.dead, AV.dead, AV.dead, AV.dead, AV.dead, AV.dead, AV.dead, AV.dead, AV.dead, AV.dead, AV.dead, AV.dead, AV.dead, AV.dead, AV.dead, AV.dead, AV.dead, AV.dead, AV.dead, AV.dead, AV.dead, AV.dead, AV.dead, AV.dead, AV.dead, AV.dead, AV.dead, AV.dead, AV.dead, AV.dead, AV.dead, AV.dead, AV.dead, AV.dead, AV.dead, AV.dead, AV.dead, AV.dead, AV.dead, AV.dead, AV.dead, AV.dead, AV.dead, AV.dead, AV.dead, AV.dead, AV.dead, AV.dead, AV.dead, AV.dead, AV.dead, AV.dead, AV.dead, AV.dead, AV.dead, AV.dead, AV.dead, AV.dead, AV.dead, AV.dead, AV.dead, AV.dead, AV.dead, AV.dead, AV.dead, AV.dead] (AH.mk (@List.nil (Prod Go.TypeId (List AV))) [v] (0 : Nat) (0 : Nat) true (@List.nil (Prod Nat Bool)) True)))) else (bif (((S).5 [(AV.v (Value.string (((ByteArray.mk #[(32 : UInt8), (10 : UInt8)]) ++ ((S).1 [(AV.lst (7 : Nat) (List.map evA M) (Tip.tp (0 : Nat) v))])) ++ (ByteArray.mk #[(35 : UInt8)]))))]) != (0 : Int)) then (some ((cdb (cdb (cdb (cdb (cdb True (lsOk [(AV.lst (7 : Nat) (List.map evA M) (Tip.tp (0 : Nat) v))])) (decide (((2 : Nat) + (ByteArray.size ((S).1 [(AV.lst (7 : Nat) (List.map evA M) (Tip.tp (0 : Nat) v))]))) ≤ (9223372036854775807 : Nat)))) (decide (((ByteArray.size ((ByteArray.mk #[(32 : UInt8), (10 : UInt8)]) ++ ((S).1 [(AV.lst (7 : Nat) (List.map evA M) (Tip.tp (0 : Nat) v))]))) + (1 : Nat)) ≤ (9223372036854775807 : Nat)))) (textOk [(AV.v (Value.string (((ByteArray.mk #[(32 : UInt8), (10 : UInt8)]) ++ ((S).1 [(AV.lst (7 : Nat) (List.map evA M) (Tip.tp (0 : Nat) v))])) ++ (ByteArray.mk #[(35 : UInt8)]))))])) (seOk [(AV.lst (7 : Nat) ((S).3 [(AV.v (Value.string (((ByteArray.mk #[(32 : UInt8), (10 : UInt8)]) ++ ((S).1 [(AV.lst (7 : Nat) (List.map evA M) (Tip.tp (0 : Nat) v))])) ++ (ByteArray.mk #[(35 : UInt8)]))))]) Tip.no), (AV.lst (7 : Nat) (List.map evA M) (Tip.tp (0 : Nat) v))])) ∧ (R Exit.ret [AV.dead, AV.dead, (AV.v (Value.bool false)), (AV.lst (7 : Nat) (List.map evA M) (Tip.tp (0 : Nat) v)), AV.dead, AV.dead, AV.dead, AV.dead, AV.dead, AV.dead, AV.dead, AV.dead, AV.dead, AV.dead, AV.dead, AV.dead, AV.dead, AV.dead, AV.dead, AV.dead, AV.dead, AV.dead, AV.dead, AV.dead, AV.dead, AV.dead, AV.dead, AV.dead, AV.dead, AV.dead, AV.dead, AV.dead, AV.dead, AV.dead, AV.dead, AV.dead, AV.dead, AV.dead, AV.dead, AV.dead, AV.dead, AV.dead, AV.dead, AV.dead, AV.dead, AV.dead, AV.dead, AV.dead, AV.dead, AV.dead, AV.dead, AV.dead, AV.dead, AV.dead, AV.dead, AV.dead, AV.dead, AV.dead, AV.dead, AV.dead, AV.dead, AV.dead, AV.dead, AV.dead, AV.dead, AV.dead, AV.dead, AV.dead, AV.dead, AV.dead, AV.dead, AV.dead, AV.dead, AV.dead, AV.dead, AV.dead, AV.dead, AV.dead, AV.dead, AV.dead, AV.dead, AV.dead, AV.dead, AV.dead, AV.dead, AV.dead, AV.dead, AV.dead, AV.dead, AV.dead, AV.dead, AV.dead, AV.dead, AV.dead, AV.dead, AV.dead, AV.dead, AV.dead, AV.dead, AV.dead, AV.dead, AV.dead, AV.dead, AV.dead, AV.dead, AV.dead, AV.dead, AV.dead, AV.dead, AV.dead, AV.dead, AV.dead, AV.dead, AV.dead, AV.dead, AV.dead] (AH.mk (@List.nil (Prod Go.TypeId (List AV))) [v] (0 : Nat) (0 : Nat) true (@List.nil (Prod Nat Bool)) True)))) else (some ((cdb (cdb (cdb (cdb (cdb True (lsOk [(AV.lst (7 : Nat) (List.map evA M) (Tip.tp (0 : Nat) v))])) (decide (((2 : Nat) + (ByteArray.size ((S).1 [(AV.lst (7 : Nat) (List.map evA M) (Tip.tp (0 : Nat) v))]))) ≤ (9223372036854775807 : Nat)))) (decide (((ByteArray.size ((ByteArray.mk #[(32 : UInt8), (10 : UInt8)]) ++ ((S).1 [(AV.lst (7 : Nat) (List.map evA M) (Tip.tp (0 : Nat) v))]))) + (1 : Nat)) ≤ (9223372036854775807 : Nat)))) (textOk [(AV.v (Value.string (((ByteArray.mk #[(32 : UInt8), (10 : UInt8)]) ++ ((S).1 [(AV.lst (7 : Nat) (List.map evA M) (Tip.tp (0 : Nat) v))])) ++ (ByteArray.mk #[(35 : UInt8)]))))])) (seOk [(AV.lst (7 : Nat) ((S).3 [(AV.v (Value.string (((ByteArray.mk #[(32 : UInt8), (10 : UInt8)]) ++ ((S).1 [(AV.lst (7 : Nat) (List.map evA M) (Tip.tp (0 : Nat) v))])) ++ (ByteArray.mk #[(35 : UInt8)]))))]) Tip.no), (AV.lst (7 : Nat) (List.map evA M) (Tip.tp (0 : Nat) v))])) ∧ (R Exit.normal [AV.dead, AV.dead, AV.dead, (AV.lst (7 : Nat) (List.map evA M) (Tip.tp (0 : Nat) v)), AV.dead, AV.dead, AV.dead, AV.dead, AV.dead, AV.dead, AV.dead, (AV.sl (List.length (@List.nil (Prod Go.TypeId (List AV)))) (0 : Nat) (16 : Nat) (16 : Nat)), (AV.v (Value.int IntKind.i64 (-(1 : Int)))), AV.dead, AV.dead, AV.dead, AV.dead, AV.dead, AV.dead, AV.dead, AV.dead, AV.dead, AV.dead, AV.dead, AV.dead, AV.dead, AV.dead, AV.dead, AV.dead, AV.dead, AV.dead, AV.dead, AV.dead, AV.dead, AV.dead, AV.dead, AV.dead, AV.dead, AV.dead, AV.dead, AV.dead, AV.dead, AV.dead, AV.dead, AV.dead, AV.dead, AV.dead, AV.dead, AV.dead, AV.dead, AV.dead, AV.dead, AV.dead, AV.dead, AV.dead, AV.dead, AV.dead, AV.dead, AV.dead, AV.dead, AV.dead, AV.dead, AV.dead, AV.dead, AV.dead, AV.dead, AV.dead, AV.dead, AV.dead, AV.dead, AV.dead, AV.dead, AV.dead, AV.dead, AV.dead, AV.dead, AV.dead, AV.dead, AV.dead, AV.dead, AV.dead, AV.dead, AV.dead, AV.dead, AV.dead, AV.dead, AV.dead, AV.dead, AV.dead, AV.dead, AV.dead, AV.dead, AV.dead, AV.dead, AV.dead, AV.dead, AV.dead, AV.dead, AV.dead, AV.dead, AV.dead, AV.dead, AV.dead, AV.dead, AV.dead, AV.dead, AV.dead, AV.dead, AV.dead, AV.dead, AV.dead, AV.dead, AV.dead, AV.dead, AV.dead, AV.dead] (AH.mk [((3 : Nat), [(AV.v (Value.int IntKind.i64 (0 : Int))), (AV.v (Value.int IntKind.i64 (0 : Int))), (AV.v (Value.int IntKind.i64 (0 : Int))), (AV.v (Value.int IntKind.i64 (0 : Int))), (AV.v (Value.int IntKind.i64 (0 : Int))), (AV.v (Value.int IntKind.i64 (0 : Int))), (AV.v (Value.int IntKind.i64 (0 : Int))), (AV.v (Value.int IntKind.i64 (0 : Int))), (AV.v (Value.int IntKind.i64 (0 : Int))), (AV.v (Value.int IntKind.i64 (0 : Int))), (AV.v (Value.int IntKind.i64 (0 : Int))), (AV.v (Value.int IntKind.i64 (0 : Int))), (AV.v (Value.int IntKind.i64 (0 : Int))), (AV.v (Value.int IntKind.i64 (0 : Int))), (AV.v (Value.int IntKind.i64 (0 : Int))), (AV.v (Value.int IntKind.i64 (0 : Int)))])] [v] (0 : Nat) (0 : Nat) true (@List.nil (Prod Nat Bool)) True)))))))) := by kernel_rfl
set_option maxRecDepth 1000000 in
theorem b_3 (S : LS) (tS tR : TypeId) (pS pR : Value) (M : List Evt) (v : Nat) (s0 s1 s2 s3 s4 s5 s6 s7 s8 s9 s10 s11 s12 s13 s14 s15 : Int) (k : Int) (R : Exit → List AV → AH → Prop) : code (roT tS pS tR pR) (fun _ => false) (prLS S) 8 (sub (bodyOf 5) [1, 1, 1, 1, 1, 1, 1, 1, 0, 1, 0, 0]) (tbC (accA M v) k) (smH [s0, s1, s2, s3, s4, s5, s6, s7, s8, s9, s10, s11, s12, s13, s14, s15] v) (kp [2, 3, 11, 12] R) =
    (bif (decide (k < (3 : Int))) then (bif (((List.length ((S).8 [(AV.lst (7 : Nat) ((S).6 [(AV.v (Value.int IntKind.i64 k)), (AV.lst (7 : Nat) (List.map evA M) (Tip.tp (0 : Nat) v))]) Tip.no)])) : Int) != (16 : Int)) then (some ((cdb (cdb True (lnOk [(AV.v (Value.int IntKind.i64 k)), (AV.lst (7 : Nat) (List.map evA M) (Tip.tp (0 : Nat) v))])) (pkK ((S).6 [(AV.v (Value.int IntKind.i64 k)), (AV.lst (7 : Nat) (List.map evA M) (Tip.tp (0 : Nat) v))]))) ∧ (R Exit.ret [AV.dead, AV.dead, (AV.v (Value.bool false)), (AV.lst (7 : Nat) (List.map evA M) (Tip.tp (0 : Nat) v)), AV.dead, AV.dead, AV.dead, AV.dead, AV.dead, AV.dead, AV.dead, (AV.sl (0 : Nat) (0 : Nat) (16 : Nat) (16 : Nat)), (AV.v (Value.int IntKind.i64 k)), AV.dead, AV.dead, AV.dead, AV.dead, AV.dead, AV.dead, AV.dead, AV.dead, AV.dead, AV.dead, AV.dead, AV.dead, AV.dead, AV.dead, AV.dead, AV.dead, AV.dead, AV.dead, AV.dead, AV.dead, AV.dead, AV.dead, AV.dead, AV.dead, AV.dead, AV.dead, AV.dead, AV.dead, AV.dead, AV.dead, AV.dead, AV.dead, AV.dead, AV.dead, AV.dead, AV.dead, AV.dead, AV.dead, AV.dead, AV.dead, AV.dead, AV.dead, AV.dead, AV.dead, AV.dead, AV.dead, AV.dead, AV.dead, AV.dead, AV.dead, AV.dead, AV.dead, AV.dead, AV.dead, AV.dead, AV.dead, AV.dead, AV.dead, AV.dead, AV.dead, AV.dead, AV.dead, AV.dead, AV.dead, AV.dead, AV.dead, AV.dead, AV.dead, AV.dead, AV.dead, AV.dead, AV.dead, AV.dead, AV.dead, AV.dead, AV.dead, AV.dead, AV.dead, AV.dead, AV.dead, AV.dead, AV.dead, AV.dead, AV.dead, AV.dead, AV.dead, AV.dead, AV.dead, AV.dead, AV.dead, AV.dead, AV.dead, AV.dead, AV.dead, AV.dead, AV.dead, AV.dead, AV.dead, AV.dead, AV.dead, AV.dead, AV.dead, AV.dead] (AH.mk [((3 : Nat), [(AV.v (Value.int IntKind.i64 s0)), (AV.v (Value.int IntKind.i64 s1)), (AV.v (Value.int IntKind.i64 s2)), (AV.v (Value.int IntKind.i64 s3)), (AV.v (Value.int IntKind.i64 s4)), (AV.v (Value.int IntKind.i64 s5)), (AV.v (Value.int IntKind.i64 s6)), (AV.v (Value.int IntKind.i64 s7)), (AV.v (Value.int IntKind.i64 s8)), (AV.v (Value.int IntKind.i64 s9)), (AV.v (Value.int IntKind.i64 s10)), (AV.v (Value.int IntKind.i64 s11)), (AV.v (Value.int IntKind.i64 s12)), (AV.v (Value.int IntKind.i64 s13)), (AV.v (Value.int IntKind.i64 s14)), (AV.v (Value.int IntKind.i64 s15))])] [v] (0 : Nat) (0 : Nat) true (@List.nil (Prod Nat Bool)) True)))) else (some ((cds (cds (cds (cds (cds (cds (cds (cds (cds (cds (cds (cds (cds (cds (cds (cds (cdb (cdb True (lnOk [(AV.v (Value.int IntKind.i64 k)), (AV.lst (7 : Nat) (List.map evA M) (Tip.tp (0 : Nat) v))])) (pkK ((S).6 [(AV.v (Value.int IntKind.i64 k)), (AV.lst (7 : Nat) (List.map evA M) (Tip.tp (0 : Nat) v))]))) (elemB Tryd.prog (3 : Nat) ((S).8 [(AV.lst (7 : Nat) ((S).6 [(AV.v (Value.int IntKind.i64 k)), (AV.lst (7 : Nat) (List.map evA M) (Tip.tp (0 : Nat) v))]) Tip.no)]) (0 : Int)) (((0 : Int) ≤ (0 : Int)) ∧ ((((S).8 [(AV.lst (7 : Nat) ((S).6 [(AV.v (Value.int IntKind.i64 k)), (AV.lst (7 : Nat) (List.map evA M) (Tip.tp (0 : Nat) v))]) Tip.no)])[(0 : Nat)]?) = (some (AV.v (Value.int IntKind.i64 (exInt (List.getD ((S).8 [(AV.lst (7 : Nat) ((S).6 [(AV.v (Value.int IntKind.i64 k)), (AV.lst (7 : Nat) (List.map evA M) (Tip.tp (0 : Nat) v))]) Tip.no)]) (0 : Nat) AV.dead)))))))) (elemB Tryd.prog (3 : Nat) ((S).8 [(AV.lst (7 : Nat) ((S).6 [(AV.v (Value.int IntKind.i64 k)), (AV.lst (7 : Nat) (List.map evA M) (Tip.tp (0 : Nat) v))]) Tip.no)]) (1 : Int)) (((0 : Int) ≤ (1 : Int)) ∧ ((((S).8 [(AV.lst (7 : Nat) ((S).6 [(AV.v (Value.int IntKind.i64 k)), (AV.lst (7 : Nat) (List.map evA M) (Tip.tp (0 : Nat) v))]) Tip.no)])[(1 : Nat)]?) = (some (AV.v (Value.int IntKind.i64 (exInt (List.getD ((S).8 [(AV.lst (7 : Nat) ((S).6 [(AV.v (Value.int IntKind.i64 k)), (AV.lst (7 : Nat) (List.map evA M) (Tip.tp (0 : Nat) v))]) Tip.no)]) (1 : Nat) AV.dead)))))))) (elemB Tryd.prog (3 : Nat) ((S).8 [(AV.lst (7 : Nat) ((S).6 [(AV.v (Value.int IntKind.i64 k)), (AV.lst (7 : Nat) (List.map evA M) (Tip.tp (0 : Nat) v))]) Tip.no)]) (2 : Int)) (((0 : Int) ≤ (2 : Int)) ∧ ((((S).8 [(AV.lst (7 : Nat) ((S).6 [(AV.v (Value.int IntKind.i64 k)), (AV.lst (7 : Nat) (List.map evA M) (Tip.tp (0 : Nat) v))]) Tip.no)])[(2 : Nat)]?) = (some (AV.v (Value.int IntKind.i64 (exInt (List.getD ((S).8 [(AV.lst (7 : Nat) ((S).6 [(AV.v (Value.int IntKind.i64 k)), (AV.lst (7 : Nat) (List.map evA M) (Tip.tp (0 : Nat) v))]) Tip.no)]) (2 : Nat) AV.dead)))))))) (elemB Tryd.prog (3 : Nat) ((S).8 [(AV.lst (7 : Nat) ((S).6 [(AV.v (Value.int IntKind.i64 k)), (AV.lst (7 : Nat) (List.map evA M) (Tip.tp (0 : Nat) v))]) Tip.no)]) (3 : Int)) (((0 : Int) ≤ (3 : Int)) ∧ ((((S).8 [(AV.lst (7 : Nat) ((S).6 [(AV.v (Value.int IntKind.i64 k)), (AV.lst (7 : Nat) (List.map evA M) (Tip.tp (0 : Nat) v))]) Tip.no)])[(3 : Nat)]?) = (some (AV.v (Value.int IntKind.i64 (exInt (List.getD ((S).8 [(AV.lst (7 : Nat) ((S).6 [(AV.v (Value.int IntKind.i64 k)), (AV.lst (7 : Nat) (List.map evA M) (Tip.tp (0 : Nat) v))]) Tip.no)]) (3 : Nat) AV.dead)))))))) (elemB Tryd.prog (3 : Nat) ((S).8 [(AV.lst (7 : Nat) ((S).6 [(AV.v (Value.int IntKind.i64 k)), (AV.lst (7 : Nat) (List.map evA M) (Tip.tp (0 : Nat) v))]) Tip.no)]) (4 : Int)) (((0 : Int) ≤ (4 : Int)) ∧ ((((S).8 [(AV.lst (7 : Nat) ((S).6 [(AV.v (Value.int IntKind.i64 k)), (AV.lst (7 : Nat) (List.map evA M) (Tip.tp (0 : Nat) v))]) Tip.no)])[(4 : Nat)]?) = (some (AV.v (Value.int IntKind.i64 (exInt (List.getD ((S).8 [(AV.lst (7 : Nat) ((S).6 [(AV.v (Value.int IntKind.i64 k)), (AV.lst (7 : Nat) (List.map evA M) (Tip.tp (0 : Nat) v))]) Tip.no)]) (4 : Nat) AV.dead)))))))) (elemB Tryd.prog (3 : Nat) ((S).8 [(AV.lst (7 : Nat) ((S).6 [(AV.v (Value.int IntKind.i64 k)), (AV.lst (7 : Nat) (List.map evA M) (Tip.tp (0 : Nat) v))]) Tip.no)]) (5 : Int)) (((0 : Int) ≤ (5 : Int)) ∧ ((((S).8 [(AV.lst (7 : Nat) ((S).6 [(AV.v (Value.int IntKind.i64 k)), (AV.lst (7 : Nat) (List.map evA M) (Tip.tp (0 : Nat) v))]) Tip.no)])[(5 : Nat)]?) = (some (AV.v (Value.int IntKind.i64 (exInt (List.getD ((S).8 [(AV.lst (7 : Nat) ((S).6 [(AV.v (Value.int IntKind.i64 k)), (AV.lst (7 : Nat) (List.map evA M) (Tip.tp (0 : Nat) v))]) Tip.no)]) (5 : Nat) AV.dead)))))))) (elemB Tryd.prog (3 : Nat) ((S).8 [(AV.lst (7 : Nat) ((S).6 [(AV.v (Value.int IntKind.i64 k)), (AV.lst (7 : Nat) (List.map evA M) (Tip.tp (0 : Nat) v))]) Tip.no)]) (6 : Int)) (((0 : Int) ≤ (6 : Int)) ∧ ((((S).8 [(AV.lst (7 : Nat) ((S).6 [(AV.v (Value.int IntKind.i64 k)), (AV.lst (7 : Nat) (List.map evA M) (Tip.tp (0 : Nat) v))]) Tip.no)])[(6 : Nat)]?) = (some (AV.v (Value.int IntKind.i64 (exInt (List.getD ((S).8 [(AV.lst (7 : Nat) ((S).6 [(AV.v (Value.int IntKind.i64 k)), (AV.lst (7 : Nat) (List.map evA M) (Tip.tp (0 : Nat) v))]) Tip.no)]) (6 : Nat) AV.dead)))))))) (elemB Tryd.prog (3 : Nat) ((S).8 [(AV.lst (7 : Nat) ((S).6 [(AV.v (Value.int IntKind.i64 k)), (AV.lst (7 : Nat) (List.map evA M) (Tip.tp (0 : Nat) v))]) Tip.no)]) (7 : Int)) (((0 : Int) ≤ (7 : Int)) ∧ ((((S).8 [(AV.lst (7 : Nat) ((S).6 [(AV.v (Value.int IntKind.i64 k)), (AV.lst (7 : Nat) (List.map evA M) (Tip.tp (0 : Nat) v))]) Tip.no)])[(7 : Nat)]?) = (some (AV.v (Value.int IntKind.i64 (exInt (List.getD ((S).8 [(AV.lst (7 : Nat) ((S).6 [(AV.v (Value.int IntKind.i64 k)), (AV.lst (7 : Nat) (List.map evA M) (Tip.tp (0 : Nat) v))]) Tip.no)]) (7 : Nat) AV.dead)))))))) (elemB Tryd.prog (3 : Nat) ((S).8 [(AV.lst (7 : Nat) ((S).6 [(AV.v (Value.int IntKind.i64 k)), (AV.lst (7 : Nat) (List.map evA M) (Tip.tp (0 : Nat) v))]) Tip.no)]) (8 : Int)) (((0 : Int) ≤ (8 : Int)) ∧ ((((S).8 [(AV.lst (7 : Nat) ((S).6 [(AV.v (Value.int IntKind.i64 k)), (AV.lst (7 : Nat) (List.map evA M) (Tip.tp (0 : Nat) v))]) Tip.no)])[(8 : Nat)]?) = (some (AV.v (Value.int IntKind.i64 (exInt (List.getD ((S).8 [(AV.lst (7 : Nat) ((S).6 [(AV.v (Value.int IntKind.i64 k)), (AV.lst (7 : Nat) (List.map evA M) (Tip.tp (0 : Nat) v))]) Tip.no)]) (8 : Nat) AV.dead)))))))) (elemB Tryd.prog (3 : Nat) ((S).8 [(AV.lst (7 : Nat) ((S).6 [(AV.v (Value.int IntKind.i64 k)), (AV.lst (7 : Nat) (List.map evA M) (Tip.tp (0 : Nat) v))]) Tip.no)]) (9 : Int)) (((0 : Int) ≤ (9 : Int)) ∧ ((((S).8 [(AV.lst (7 : Nat) ((S).6 [(AV.v (Value.int IntKind.i64 k)), (AV.lst (7 : Nat) (List.map evA M) (Tip.tp (0 : Nat) v))]) Tip.no)])[(9 : Nat)]?) = (some (AV.v (Value.int IntKind.i64 (exInt (List.getD ((S).8 [(AV.lst (7 : Nat) ((S).6 [(AV.v (Value.int IntKind.i64 k)), (AV.lst (7 : Nat) (List.map evA M) (Tip.tp (0 : Nat) v))]) Tip.no)]) (9 : Nat) AV.dead)))))))) (elemB Tryd.prog (3 : Nat) ((S).8 [(AV.lst (7 : Nat) ((S).6 [(AV.v (Value.int IntKind.i64 k)), (AV.lst (7 : Nat) (List.map evA M) (Tip.tp (0 : Nat) v))]) Tip.no)]) (10 : Int)) (((0 : Int) ≤ (10 : Int)) ∧ ((((S).8 [(AV.lst (7 : Nat) ((S).6 [(AV.v (Value.int IntKind.i64 k)), (AV.lst (7 : Nat) (List.map evA M) (Tip.tp (0 : Nat) v))]) Tip.no)])[(10 : Nat)]?) = (some (AV.v (Value.int IntKind.i64 (exInt (List.getD ((S).8 [(AV.lst (7 : Nat) ((S).6 [(AV.v (Value.int IntKind.i64 k)), (AV.lst (7 : Nat) (List.map evA M) (Tip.tp (0 : Nat) v))]) Tip.no)]) (10 : Nat) AV.dead)))))))) (elemB Tryd.prog (3 : Nat) ((S).8 [(AV.lst (7 : Nat) ((S).6 [(AV.v (Value.int IntKind.i64 k)), (AV.lst (7 : Nat) (List.map evA M) (Tip.tp (0 : Nat) v))]) Tip.no)]) (11 : Int)) (((0 : Int) ≤ (11 : Int)) ∧ ((((S).8 [(AV.lst (7 : Nat) ((S).6 [(AV.v (Value.int IntKind.i64 k)), (AV.lst (7 : Nat) (List.map evA M) (Tip.tp (0 : Nat) v))]) Tip.no)])[(11 : Nat)]?) = (some (AV.v (Value.int IntKind.i64 (exInt (List.getD ((S).8 [(AV.lst (7 : Nat) ((S).6 [(AV.v (Value.int IntKind.i64 k)), (AV.lst (7 : Nat) (List.map evA M) (Tip.tp (0 : Nat) v))]) Tip.no)]) (11 : Nat) AV.dead)))))))) (elemB Tryd.prog (3 : Nat) ((S).8 [(AV.lst (7 : Nat) ((S).6 [(AV.v (Value.int IntKind.i64 k)), (AV.lst (7 : Nat) (List.map evA M) (Tip.tp (0 : Nat) v))]) Tip.no)]) (12 : Int)) (((0 : Int) ≤ (12 : Int)) ∧ ((((S).8 [(AV.lst (7 : Nat) ((S).6 [(AV.v (Value.int IntKind.i64 k)), (AV.lst (7 : Nat) (List.map evA M) (Tip.tp (0 : Nat) v))]) Tip.no)])[(12 : Nat)]?) = (some (AV.v (Value.int IntKind.i64 (exInt (List.getD ((S).8 [(AV.lst (7 : Nat) ((S).6 [(AV.v (Value.int IntKind.i64 k)), (AV.lst (7 : Nat) (List.map evA M) (Tip.tp (0 : Nat) v))]) Tip.no)]) (12 : Nat) AV.dead)))))))) (elemB Tryd.prog (3 : Nat) ((S).8 [(AV.lst (7 : Nat) ((S).6 [(AV.v (Value.int IntKind.i64 k)), (AV.lst (7 : Nat) (List.map evA M) (Tip.tp (0 : Nat) v))]) Tip.no)]) (13 : Int)) (((0 : Int) ≤ (13 : Int)) ∧ ((((S).8 [(AV.lst (7 : Nat) ((S).6 [(AV.v (Value.int IntKind.i64 k)), (AV.lst (7 : Nat) (List.map evA M) (Tip.tp (0 : Nat) v))]) Tip.no)])[(13 : Nat)]?) = (some (AV.v (Value.int IntKind.i64 (exInt (List.getD ((S).8 [(AV.lst (7 : Nat) ((S).6 [(AV.v (Value.int IntKind.i64 k)), (AV.lst (7 : Nat) (List.map evA M) (Tip.tp (0 : Nat) v))]) Tip.no)]) (13 : Nat) AV.dead)))))))) (elemB Tryd.prog (3 : Nat) ((S).8 [(AV.lst (7 : Nat) ((S).6 [(AV.v (Value.int IntKind.i64 k)), (AV.lst (7 : Nat) (List.map evA M) (Tip.tp (0 : Nat) v))]) Tip.no)]) (14 : Int)) (((0 : Int) ≤ (14 : Int)) ∧ ((((S).8 [(AV.lst (7 : Nat) ((S).6 [(AV.v (Value.int IntKind.i64 k)), (AV.lst (7 : Nat) (List.map evA M) (Tip.tp (0 : Nat) v))]) Tip.no)])[(14 : Nat)]?) = (some (AV.v (Value.int IntKind.i64 (exInt (List.getD ((S).8 [(AV.lst (7 : Nat) ((S).6 [(AV.v (Value.int IntKind.i64 k)), (AV.lst (7 : Nat) (List.map evA M) (Tip.tp (0 : Nat) v))]) Tip.no)]) (14 : Nat) AV.dead)))))))) (elemB Tryd.prog (3 : Nat) ((S).8 [(AV.lst (7 : Nat) ((S).6 [(AV.v (Value.int IntKind.i64 k)), (AV.lst (7 : Nat) (List.map evA M) (Tip.tp (0 : Nat) v))]) Tip.no)]) (15 : Int)) (((0 : Int) ≤ (15 : Int)) ∧ ((((S).8 [(AV.lst (7 : Nat) ((S).6 [(AV.v (Value.int IntKind.i64 k)), (AV.lst (7 : Nat) (List.map evA M) (Tip.tp (0 : Nat) v))]) Tip.no)])[(15 : Nat)]?) = (some (AV.v (Value.int IntKind.i64 (exInt (List.getD ((S).8 [(AV.lst (7 : Nat) ((S).6 [(AV.v (Value.int IntKind.i64 k)), (AV.lst (7 : Nat) (List.map evA M) (Tip.tp (0 : Nat) v))]) Tip.no)]) (15 : Nat) AV.dead)))))))) ∧ (R Exit.normal [AV.dead, AV.dead, AV.dead, (AV.lst (7 : Nat) (List.map evA M) (Tip.tp (0 : Nat) v)), AV.dead, AV.dead, AV.dead, AV.dead, AV.dead, AV.dead, AV.dead, (AV.sl (0 : Nat) (0 : Nat) (16 : Nat) (16 : Nat)), (AV.v (Value.int IntKind.i64 (IntKind.wrap IntKind.i64 (k + (1 : Int))))), AV.dead, AV.dead, AV.dead, AV.dead, AV.dead, AV.dead, AV.dead, AV.dead, AV.dead, AV.dead, AV.dead, AV.dead, AV.dead, AV.dead, AV.dead, AV.dead, AV.dead, AV.dead, AV.dead, AV.dead, AV.dead, AV.dead, AV.dead, AV.dead, AV.dead, AV.dead, AV.dead, AV.dead, AV.dead, AV.dead, AV.dead, AV.dead, AV.dead, AV.dead, AV.dead, AV.dead, AV.dead, AV.dead, AV.dead, AV.dead, AV.dead, AV.dead, AV.dead, AV.dead, AV.dead, AV.dead, AV.dead, AV.dead, AV.dead, AV.dead, AV.dead, AV.dead, AV.dead, AV.dead, AV.dead, AV.dead, AV.dead, AV.dead, AV.dead, AV.dead, AV.dead, AV.dead, AV.dead, AV.dead, AV.dead, AV.dead, AV.dead, AV.dead, AV.dead, AV.dead, AV.dead, AV.dead, AV.dead, AV.dead, AV.dead, AV.dead, AV.dead, AV.dead, AV.dead, AV.dead, AV.dead, AV.dead, AV.dead, AV.dead, AV.dead, AV.dead, AV.dead, AV.dead, AV.dead, AV.dead, AV.dead, AV.dead, AV.dead, AV.dead, AV.dead, AV.dead, AV.dead, AV.dead, AV.dead, AV.dead, AV.dead, AV.dead, AV.dead] (AH.mk [((3 : Nat), [(AV.v (Value.int IntKind.i64 (IntKind.wrap IntKind.i64 (s0 + (exInt (List.getD ((S).8 [(AV.lst (7 : Nat) ((S).6 [(AV.v (Value.int IntKind.i64 k)), (AV.lst (7 : Nat) (List.map evA M) (Tip.tp (0 : Nat) v))]) Tip.no)]) (0 : Nat) AV.dead)))))), (AV.v (Value.int IntKind.i64 (IntKind.wrap IntKind.i64 (s1 + (exInt (List.getD ((S).8 [(AV.lst (7 : Nat) ((S).6 [(AV.v (Value.int IntKind.i64 k)), (AV.lst (7 : Nat) (List.map evA M) (Tip.tp (0 : Nat) v))]) Tip.no)]) (1 : Nat) AV.dead)))))), (AV.v (Value.int IntKind.i64 (IntKind.wrap IntKind.i64 (s2 + (exInt (List.getD ((S).8 [(AV.lst (7 : Nat) ((S).6 [(AV.v (Value.int IntKind.i64 k)), (AV.lst (7 : Nat) (List.map evA M) (Tip.tp (0 : Nat) v))]) Tip.no)]) (2 : Nat) AV.dead)))))), (AV.v (Value.int IntKind.i64 (IntKind.wrap IntKind.i64 (s3 + (exInt (List.getD ((S).8 [(AV.lst (7 : Nat) ((S).6 [(AV.v (Value.int IntKind.i64 k)), (AV.lst (7 : Nat) (List.map evA M) (Tip.tp (0 : Nat) v))]) Tip.no)]) (3 : Nat) AV.dead)))))), (AV.v (Value.int IntKind.i64 (IntKind.wrap IntKind.i64 (s4 + (exInt (List.getD ((S).8 [(AV.lst (7 : Nat) ((S).6 [(AV.v (Value.int IntKind.i64 k)), (AV.lst (7 : Nat) (List.map evA M) (Tip.tp (0 : Nat) v))]) Tip.no)]) (4 : Nat) AV.dead)))))), (AV.v (Value.int IntKind.i64 (IntKind.wrap IntKind.i64 (s5 + (exInt (List.getD ((S).8 [(AV.lst (7 : Nat) ((S).6 [(AV.v (Value.int IntKind.i64 k)), (AV.lst (7 : Nat) (List.map evA M) (Tip.tp (0 : Nat) v))]) Tip.no)]) (5 : Nat) AV.dead)))))), (AV.v (Value.int IntKind.i64 (IntKind.wrap IntKind.i64 (s6 + (exInt (List.getD ((S).8 [(AV.lst (7 : Nat) ((S).6 [(AV.v (Value.int IntKind.i64 k)), (AV.lst (7 : Nat) (List.map evA M) (Tip.tp (0 : Nat) v))]) Tip.no)]) (6 : Nat) AV.dead)))))), (AV.v (Value.int IntKind.i64 (IntKind.wrap IntKind.i64 (s7 + (exInt (List.getD ((S).8 [(AV.lst (7 : Nat) ((S).6 [(AV.v (Value.int IntKind.i64 k)), (AV.lst (7 : Nat) (List.map evA M) (Tip.tp (0 : Nat) v))]) Tip.no)]) (7 : Nat) AV.dead)))))), (AV.v (Value.int IntKind.i64 (IntKind.wrap IntKind.i64 (s8 + (exInt (List.getD ((S).8 [(AV.lst (7 : Nat) ((S).6 [(AV.v (Value.int IntKind.i64 k)), (AV.lst (7 : Nat) (List.map evA M) (Tip.tp (0 : Nat) v))]) Tip.no)]) (8 : Nat) AV.dead)))))), (AV.v (Value.int IntKind.i64 (IntKind.wrap IntKind.i64 (s9 + (exInt (List.getD ((S).8 [(AV.lst (7 : Nat) ((S).6 [(AV.v (Value.int IntKind.i64 k)), (AV.lst (7 : Nat) (List.map evA M) (Tip.tp (0 : Nat) v))]) Tip.no)]) (9 : Nat) AV.dead)))))), (AV.v (Value.int IntKind.i64 (IntKind.wrap IntKind.i64 (s10 + (exInt (List.getD ((S).8 [(AV.lst (7 : Nat) ((S).6 [(AV.v (Value.int IntKind.i64 k)), (AV.lst (7 : Nat) (List.map evA M) (Tip.tp (0 : Nat) v))]) Tip.no)]) (10 : Nat) AV.dead)))))), (AV.v (Value.int IntKind.i64 (IntKind.wrap IntKind.i64 (s11 + (exInt (List.getD ((S).8 [(AV.lst (7 : Nat) ((S).6 [(AV.v (Value.int IntKind.i64 k)), (AV.lst (7 : Nat) (List.map evA M) (Tip.tp (0 : Nat) v))]) Tip.no)]) (11 : Nat) AV.dead)))))), (AV.v (Value.int IntKind.i64 (IntKind.wrap IntKind.i64 (s12 + (exInt (List.getD ((S).8 [(AV.lst (7 : Nat) ((S).6 [(AV.v (Value.int IntKind.i64 k)), (AV.lst (7 : Nat) (List.map evA M) (Tip.tp (0 : Nat) v))]) Tip.no)]) (12 : Nat) AV.dead)))))), (AV.v (Value.int IntKind.i64 (IntKind.wrap IntKind.i64 (s13 + (exInt (List.getD ((S).8 [(AV.lst (7 : Nat) ((S).6 [(AV.v (Value.int IntKind.i64 k)), (AV.lst (7 : Nat) (List.map evA M) (Tip.tp (0 : Nat) v))]) Tip.no)]) (13 : Nat) AV.dead)))))), (AV.v (Value.int IntKind.i64 (IntKind.wrap IntKind.i64 (s14 + (exInt (List.getD ((S).8 [(AV.lst (7 : Nat) ((S).6 [(AV.v (Value.int IntKind.i64 k)), (AV.lst (7 : Nat) (List.map evA M) (Tip.tp (0 : Nat) v))]) Tip.no)]) (14 : Nat) AV.dead)))))), (AV.v (Value.int IntKind.i64 (IntKind.wrap IntKind.i64 (s15 + (exInt (List.getD ((S).8 [(AV.lst (7 : Nat) ((S).6 [(AV.v (Value.int IntKind.i64 k)), (AV.lst (7 : Nat) (List.map evA M) (Tip.tp (0 : Nat) v))]) Tip.no)]) (15 : Nat) AV.dead))))))])] [v] (0 : Nat) (0 : Nat) true (@List.nil (Prod Nat Bool)) True))))) else (some (True ∧ (R (Exit.exit (2 : Nat)) [AV.dead, AV.dead, AV.dead, (AV.lst (7 : Nat) (List.map evA M) (Tip.tp (0 : Nat) v)), AV.dead, AV.dead, AV.dead, AV.dead, AV.dead, AV.dead, AV.dead, (AV.sl (0 : Nat) (0 : Nat) (16 : Nat) (16 : Nat)), (AV.v (Value.int IntKind.i64 k)), AV.dead, AV.dead, AV.dead, AV.dead, AV.dead, AV.dead, AV.dead, AV.dead, AV.dead, AV.dead, AV.dead, AV.dead, AV.dead, AV.dead, AV.dead, AV.dead, AV.dead, AV.dead, AV.dead, AV.dead, AV.dead, AV.dead, AV.dead, AV.dead, AV.dead, AV.dead, AV.dead, AV.dead, AV.dead, AV.dead, AV.dead, AV.dead, AV.dead, AV.dead, AV.dead, AV.dead, AV.dead, AV.dead, AV.dead, AV.dead, AV.dead, AV.dead, AV.dead, AV.dead, AV.dead, AV.dead, AV.dead, AV.dead, AV.dead, AV.dead, AV.dead, AV.dead, AV.dead, AV.dead, AV.dead, AV.dead, AV.dead, AV.dead, AV.dead, AV.dead, AV.dead, AV.dead, AV.dead, AV.dead, AV.dead, AV.dead, AV.dead, AV.dead, AV.dead, AV.dead, AV.dead, AV.dead, AV.dead, AV.dead, AV.dead, AV.dead, AV.dead, AV.dead, AV.dead, AV.dead, AV.dead, AV.dead, AV.dead, AV.dead, AV.dead, AV.dead, AV.dead, AV.dead, AV.dead, AV.dead, AV.dead, AV.dead, AV.dead, AV.dead, AV.dead, AV.dead, AV.dead, AV.dead, AV.dead, AV.dead, AV.dead, AV.dead, AV.dead] (AH.mk [((3 : Nat), [(AV.v (Value.int IntKind.i64 s0)), (AV.v (Value.int IntKind.i64 s1)), (AV.v (Value.int IntKind.i64 s2)), (AV.v (Value.int IntKind.i64 s3)), (AV.v (Value.int IntKind.i64 s4)), (AV.v (Value.int IntKind.i64 s5)), (AV.v (Value.int IntKind.i64 s6)), (AV.v (Value.int IntKind.i64 s7)), (AV.v (Value.int IntKind.i64 s8)), (AV.v (Value.int IntKind.i64 s9)), (AV.v (Value.int IntKind.i64 s10)), (AV.v (Value.int IntKind.i64 s11)), (AV.v (Value.int IntKind.i64 s12)), (AV.v (Value.int IntKind.i64 s13)), (AV.v (Value.int IntKind.i64 s14)), (AV.v (Value.int IntKind.i64 s15))])] [v] (0 : Nat) (0 : Nat) true (@List.nil (Prod Nat Bool)) True))))) := by kernel_rfl
end Go.Proofs.YtodjeammjdgkoaaDoor.AE
namespace Go.Proofs.YtodjeammjdgkoaaDoor.AE
open Go.RowKit
theorem join_no10 : ∀ l : List (List UInt8), (∀ x ∈ l, (10 : UInt8) ∉ x) → (10 : UInt8) ∉ Lib.join l [32]
  | [], _ => by simp [Lib.join]
  | [x], h => by
    have e : Lib.join [x] [32] = x := by simp [Lib.join]
    rw [e]; exact h x (List.mem_cons_self ..)
  | x :: y :: l, h => by
    have e : Lib.join (x :: y :: l) [32] = x ++ 32 :: Lib.join (y :: l) [32] := by simp [Lib.join]
    rw [e]
    intro hm
    rcases List.mem_append.1 hm with hm | hm
    · exact h x (List.mem_cons_self ..) hm
    · rcases List.mem_cons.1 hm with hm | hm
      · exact absurd hm (by decide)
      · exact join_no10 (y :: l) (fun z hz => h z (List.mem_cons_of_mem _ hz)) hm
theorem line_words {e : Evt} (h : 1 ≤ e.k ∧ e.k ≤ 15) : ∀ x ∈ lineL e.k e.t e.s e.i e.c e.a e.b, isWord x = true := by
  intro x hx
  unfold lineL at hx
  simp only [List.mem_cons, List.not_mem_nil, or_false] at hx
  have hwho : ∀ n, isWord (whS n) = true := fun n => by
    unfold whS
    split
    · exact (by kernel_rfl : isWord clientB = true)
    · exact tx_isWord n
  rcases hx with rfl | rfl | rfl | rfl | rfl | rfl | rfl | rfl
  · exact (by kernel_rfl : isWord ⟨#[97, 116]⟩ = true)
  · exact tx_isWord _
  · obtain ⟨k, t, s, i, c, a, b⟩ := e
    have h : 1 ≤ k ∧ k ≤ 15 := h
    show isWord (wordK k) = true
    rcases k15 h with rfl | rfl | rfl | rfl | rfl | rfl | rfl | rfl | rfl | rfl | rfl | rfl | rfl | rfl | rfl <;> kernel_rfl
  · exact hwho _
  · exact tx_isWord _
  · exact tx_isWord _
  · exact tx_isWord _
  · exact tx_isWord _
theorem lineO_eq {e : Evt} (h : 1 ≤ e.k ∧ e.k ≤ 15) : lineO e = joinB (lineL e.k e.t e.s e.i e.c e.a e.b) blank := if_pos h
theorem lineO_words {e : Evt} (h : 1 ≤ e.k ∧ e.k ≤ 15) : wordsS (lineO e) = lineL e.k e.t e.s e.i e.c e.a e.b := by
  rw [lineO_eq h]; exact words_back (line_words h)
theorem ko_back {k : Int} (h : 1 ≤ k ∧ k ≤ 15) : koX (wordK k) = k := by
  rcases k15 h with rfl | rfl | rfl | rfl | rfl | rfl | rfl | rfl | rfl | rfl | rfl | rfl | rfl | rfl | rfl <;> kernel_rfl
theorem tx_chars (n : Int) : ∀ c ∈ (tx n).data.toList, c = 45 ∨ (48 ≤ c.toNat ∧ c.toNat ≤ 57) := by
  rw [tx_data]
  intro c hc
  have hdig : ∀ m : Nat, ∀ c ∈ Lib.decDigits m, 48 ≤ c.toNat ∧ c.toNat ≤ 57 := by
    intro m
    induction m using Nat.strongRecOn with
    | _ m ih =>
      intro c hc
      rw [Lib.decDigits] at hc
      split at hc
      · rename_i h10
        simp only [List.mem_singleton] at hc
        subst hc
        rw [UInt8.toNat_ofNat']
        omega
      · rename_i h10
        rcases List.mem_append.1 hc with hc | hc
        · exact ih (m / 10) (by omega) c hc
        · simp only [List.mem_singleton] at hc
          subst hc
          rw [UInt8.toNat_ofNat']
          omega
  unfold Lib.itoa at hc
  split at hc
  · rcases List.mem_cons.1 hc with rfl | hc
    · exact .inl rfl
    · exact .inr (hdig _ c hc)
  · exact .inr (hdig _ c hc)
theorem tx_no10 (n : Int) : (10 : UInt8) ∉ (tx n).data.toList := fun hm => by
  rcases tx_chars n 10 hm with h | h
  · exact absurd h (by decide)
  · exact absurd h.1 (by decide)
theorem itoa_ne99 (n : Int) : tx n ≠ clientB := by
  intro e
  have hm : (99 : UInt8) ∈ (tx n).data.toList := by rw [e]; decide
  rcases tx_chars n 99 hm with h | h
  · exact absurd h (by decide)
  · exact absurd h.2 (by decide)
theorem line_no10 {e : Evt} (h : 1 ≤ e.k ∧ e.k ≤ 15) : ∀ x ∈ lineL e.k e.t e.s e.i e.c e.a e.b, (10 : UInt8) ∉ x.data.toList := by
  intro x hx
  unfold lineL at hx
  simp only [List.mem_cons, List.not_mem_nil, or_false] at hx
  rcases hx with rfl | rfl | rfl | rfl | rfl | rfl | rfl | rfl
  · decide
  · exact tx_no10 _
  · obtain ⟨k, t, s, i, c, a, b⟩ := e
    have h : 1 ≤ k ∧ k ≤ 15 := h
    show (10 : UInt8) ∉ (wordK k).data.toList
    rcases k15 h with rfl | rfl | rfl | rfl | rfl | rfl | rfl | rfl | rfl | rfl | rfl | rfl | rfl | rfl | rfl <;> decide
  · unfold whS
    split
    · decide
    · exact tx_no10 _
  · exact tx_no10 _
  · exact tx_no10 _
  · exact tx_no10 _
  · exact tx_no10 _
theorem lineO_no10 {e : Evt} (h : 1 ≤ e.k ∧ e.k ≤ 15) : (10 : UInt8) ∉ (lineO e).data.toList := by
  rw [lineO_eq h, join_data]
  refine join_no10 _ fun x hx => ?_
  obtain ⟨y, hy, rfl⟩ := List.mem_map.1 hx
  exact line_no10 h y hy
theorem sX_back {n : Int} (h : w64 n) : sX (whS n) = n := by
  unfold whS
  by_cases hn : n = -1
  · rw [if_pos hn, hn]; exact if_pos rfl
  · rw [if_neg hn]
    unfold sX
    rw [if_neg (itoa_ne99 n)]
    exact (dp_tx h).1
theorem pe_back {e : Evt} (h : 1 ≤ e.k ∧ e.k ≤ 15) (hw : evOk e) : pe (lineL e.k e.t e.s e.i e.c e.a e.b) = e ∧ pF (lineL e.k e.t e.s e.i e.c e.a e.b) = 0 := by
  obtain ⟨k, t, s, i, c, a, b⟩ := e
  obtain ⟨h1, h2, h3, h4, h5, h6, h7⟩ := hw
  have hE : eL (lineL k t s i c a b) = [k, t, s, i, c, a, b] := by
    show [koX (wordK k), dpX (tx t), sX (whS s), dpX (tx i), dpX (tx c), dpX (tx a), dpX (tx b)] = _
    rw [ko_back h, (dp_tx h2).1, sX_back h3, (dp_tx h4).1, (dp_tx h5).1, (dp_tx h6).1, (dp_tx h7).1]
  have hT : eT (lineL k t s i c a b) = joinB (lineL k t s i c a b) blank := by
    show lineT (koX (wordK k)) (dpX (tx t)) (sX (whS s)) (dpX (tx i)) (dpX (tx c)) (dpX (tx a)) (dpX (tx b)) = _
    rw [ko_back h, (dp_tx h2).1, sX_back h3, (dp_tx h4).1, (dp_tx h5).1, (dp_tx h6).1, (dp_tx h7).1]
    exact if_pos h
  have ok : pOk (lineL k t s i c a b) := by
    refine ⟨rfl, ?_, hT⟩
    show 1 ≤ koX (wordK k) ∧ koX (wordK k) ≤ 15
    rw [ko_back h]; exact h
  have g : ∀ j, pE (lineL k t s i c a b) j = [k, t, s, i, c, a, b].getD j 0 := fun j => by
    unfold pE
    rw [if_pos ok, hE]
  refine ⟨?_, if_pos ok⟩
  show Evt.mk (pE _ 0) (pE _ 1) (pE _ 2) (pE _ 3) (pE _ 4) (pE _ 5) (pE _ 6) = _
  rw [g 0, g 1, g 2, g 3, g 4, g 5, g 6]
  rfl
def remB : ByteArray := ⟨#[35]⟩
def begB : ByteArray := ⟨#[32, 10]⟩
theorem catT_data : ∀ (M : List Evt) (s : ByteArray), (catT M s).data.toList = s.data.toList ++ M.flatMap (fun e => (lineO e).data.toList ++ [10])
  | [], s => by unfold catT; simp
  | e :: M, s => by
    unfold catT
    rw [catT_data M, ByteArray.data_append, Array.toList_append, ByteArray.data_append, Array.toList_append, List.flatMap_cons, List.append_assoc]
    rfl
theorem lns_back : ∀ M : List Evt, (∀ e ∈ M, 1 ≤ e.k ∧ e.k ≤ 15) → lns [] (M.flatMap (fun e => (lineO e).data.toList ++ [10]) ++ [35]) = M.map (fun e => (lineO e).data.toList) ++ [[35]]
  | [], _ => rfl
  | e :: M, h => by
    rw [List.flatMap_cons, List.append_assoc, List.append_assoc, lns_run _ [] _ (lineO_no10 (h e (List.mem_cons_self ..))), List.nil_append, List.singleton_append, lns, if_pos rfl, lns_back M fun x hx => h x (List.mem_cons_of_mem _ hx)]
    rfl
theorem lines_back' {M : List Evt} (h : ∀ e ∈ M, 1 ≤ e.k ∧ e.k ≤ 15) : linesS ((begB ++ catT M ⟨#[]⟩) ++ remB) = ba [32] :: (M.map lineO ++ [remB]) := by
  unfold linesS
  rw [ByteArray.data_append, Array.toList_append, ByteArray.data_append, Array.toList_append, catT_data]
  show (lns [] (([32, 10] ++ ([] ++ M.flatMap _)) ++ [35])).map ba = _
  rw [List.nil_append, List.append_assoc]
  show (lns [] (32 :: 10 :: (M.flatMap (fun e => (lineO e).data.toList ++ [10]) ++ [35]))).map ba = _
  rw [lns, if_neg (by decide), lns, if_pos rfl, lns_back M h, List.map_cons, List.map_append, List.map_map]
  congr 1
theorem pall_ev : ∀ (M : List Evt) (i : Nat) (acc : List Evt), (∀ e ∈ M, (1 ≤ e.k ∧ e.k ≤ 15) ∧ evOk e) → pall (M.map lineO ++ [remB]) i acc = (acc ++ M, 0, 0)
  | [], i, acc, _ => by
    show pall [remB] i acc = _
    unfold pall
    have : (wordsS remB).length = 0 := by kernel_rfl
    rw [if_pos this, List.append_nil]; rfl
  | e :: M, i, acc, h => by
    obtain ⟨h1, h2⟩ := h e (List.mem_cons_self ..)
    obtain ⟨h3, h4⟩ := pe_back h1 h2
    rw [List.map_cons, List.cons_append, pall, lineO_words h1, if_neg (by unfold lineL; simp), h4, if_pos rfl, h3, pall_ev M _ _ fun x hx => h x (List.mem_cons_of_mem _ hx), List.append_assoc]
    rfl
theorem pall_back {M : List Evt} (h : ∀ e ∈ M, (1 ≤ e.k ∧ e.k ≤ 15) ∧ evOk e) : pall (linesS ((begB ++ catT M ⟨#[]⟩) ++ remB)) 0 [] = (M, 0, 0) := by
  rw [lines_back' fun e he => (h e he).1, pall]
  have : (wordsS (ba [32])).length = 0 := by kernel_rfl
  rw [if_pos this, pall_ev M _ _ h, List.nil_append]
def lowS (n : Int) : Int := IntKind.wrap .i64 (bits .and .i64 n 3 - 1)
theorem and3 (n : Int) : 0 ≤ bits .and .i64 n 3 ∧ bits .and .i64 n 3 ≤ 3 := by
  have h127 : (BitVec.ofInt 64 3).toNat = 2 ^ 2 - 1 := by decide
  have key : (BitVec.ofInt 64 n &&& BitVec.ofInt 64 3).toNat = (n % ((2 ^ 64 : Nat) : Int)).toNat % 2 ^ 2 := by
    rw [BitVec.toNat_and, BitVec.toNat_ofInt, h127, Nat.and_two_pow_sub_one_eq_mod]
  have e : bits .and .i64 n 3 = IntKind.i64.wrap ((BitVec.ofInt 64 n &&& BitVec.ofInt 64 3).toNat : Nat) := rfl
  rw [e, key, IntKind.wrap_i64]
  omega
theorem lowS_in (n : Int) : -1 ≤ lowS n ∧ lowS n ≤ 2 := by
  have := and3 n
  unfold lowS
  rw [IntKind.wrap_i64]
  omega
def mayE (e : Evt) : Evt := ⟨e.k, e.t, lowS e.s, e.i, e.c, e.a, e.b⟩
def mayL (L : List Evt) : List Evt := (L.filter goodK).map mayE
theorem mayL_ok {L : List Evt} (h : ∀ e ∈ L, evOk e) : ∀ e ∈ mayL L, ((1 ≤ e.k ∧ e.k ≤ 15) ∧ evOk e) ∧ -1 ≤ e.s ∧ e.s ≤ 2 := by
  intro e he
  obtain ⟨x, hx, rfl⟩ := List.mem_map.1 he
  obtain ⟨hx, hg⟩ := List.mem_filter.1 hx
  have hg : 1 ≤ x.k ∧ x.k ≤ 15 := of_decide_eq_true hg
  obtain ⟨h1, h2, h3, h4, h5, h6, h7⟩ := h x hx
  have hs := lowS_in x.s
  exact ⟨⟨hg, h1, h2, ⟨by show _ ≤ lowS x.s; omega, by show lowS x.s ≤ _; omega⟩, h4, h5, h6, h7⟩, hs⟩
/-- What is counted of the services below k, together. -/
def sumK (M : List Evt) (k : Int) : List Int := ctK (M.filter fun e => decide (e.s < k))
theorem sumK_step {M : List Evt} {k : Int} (hM : M.length ≤ 1000000) (j : Nat) (hj : j < 16) : IntKind.wrap .i64 ((sumK M k).getD j 0 + (ctK (M.filter (ofB k))).getD j 0) = (sumK M (k + 1)).getD j 0 := by
  have g : ∀ X : List Evt, (ctK X).getD j 0 = ((X.countP fun e => e.k == (j : Int) : Nat) : Int) := fun X => by
    have hl : j < (ctK X).length := by rw [ctK_len]; exact hj
    rw [List.getD_eq_getElem?_getD, List.getElem?_eq_getElem hl, Option.getD_some, ctK_get X]
  unfold sumK
  rw [g, g, g, List.countP_filter, List.countP_filter, List.countP_filter]
  have h1 : ∀ l : List Evt, l.countP (fun e => e.k == (j : Int) && decide (e.s < k)) + l.countP (fun e => e.k == (j : Int) && ofB k e) = l.countP (fun e => e.k == (j : Int) && decide (e.s < k + 1)) := by
    intro l
    induction l with
    | nil => rfl
    | cons e l ih =>
      simp only [List.countP_cons]
      have : (if (e.k == (j : Int) && decide (e.s < k)) = true then 1 else 0) + (if (e.k == (j : Int) && ofB k e) = true then 1 else 0) = if (e.k == (j : Int) && decide (e.s < k + 1)) = true then 1 else 0 := by
        unfold ofB
        by_cases hk : e.k = (j : Int)
        · simp only [hk, beq_self_eq_true, Bool.true_and, decide_eq_true_eq, beq_iff_eq]
          by_cases a1 : e.s < k
          · rw [if_pos a1, if_neg (by omega), if_pos (by omega)]
          · by_cases a2 : e.s = k
            · rw [if_neg a1, if_pos a2, if_pos (by omega)]
            · rw [if_neg a1, if_neg a2, if_neg (by omega)]
        · simp only [beq_false_of_ne hk, Bool.false_and, Bool.false_eq_true, if_false]
      omega
  have h2 := h1 M
  have h3 := List.countP_le_length (p := fun e => e.k == (j : Int) && decide (e.s < k + 1)) (l := M)
  rw [IntKind.wrap_i64]
  omega
theorem sumK_0 {M : List Evt} (h : ∀ e ∈ M, -1 ≤ e.s) : sumK M (-1) = [0, 0, 0, 0, 0, 0, 0, 0, 0, 0, 0, 0, 0, 0, 0, 0] := by
  unfold sumK
  have : (M.filter fun e => decide (e.s < -1)) = [] := by
    rw [List.filter_eq_nil_iff]
    intro e he
    have := h e he
    simp; omega
  rw [this]; rfl
theorem sumK_3 {M : List Evt} (h : ∀ e ∈ M, e.s ≤ 2) : sumK M 3 = ctK M := by
  unfold sumK
  have : (M.filter fun e => decide (e.s < 3)) = M := by
    rw [List.filter_eq_self]
    intro e he
    have := h e he
    simp; omega
  rw [this]
theorem sumK_len (M : List Evt) (k : Int) : (sumK M k).length = 16 := ctK_len _
end Go.Proofs.YtodjeammjdgkoaaDoor.AE
namespace Go.Proofs.YtodjeammjdgkoaaDoor.AE
open Go.RowKit
def s2A (a : List Int) (i : Int) : List AV := [.lst 1 (a.map gi) .no, .sl 0 0 16 16, .dead, .dead, .dead, gi i] ++ List.replicate 26 .dead
def s2H (b : List Int) : AH := hp [(3, b.map gi)] []
theorem s2_0 (ro : Nat → Option (List Value)) (a b : List Int) (R : Exit → List AV → AH → Prop) : codeL ro (fun _ => false) (fun _ => none) 8 ((flatten (bodyOf 22)).take 4) ([.lst 1 (a.map gi) .no, .sl 0 0 16 16] ++ List.replicate 30 (.v undef)) (s2H b) (kp [0, 1, 4, 5] R) =
    (bif (((List.length (List.map gi a)) : Int) != (16 : Int)) then (some (True ∧ (R Exit.ret [(AV.lst (1 : Nat) (List.map gi a) Tip.no), (AV.sl (0 : Nat) (0 : Nat) (16 : Nat) (16 : Nat)), AV.dead, AV.dead, (AV.v (Value.bool false)), (AV.v (Value.tuple (Array.mk (@List.nil Go.Value)))), AV.dead, AV.dead, AV.dead, AV.dead, AV.dead, AV.dead, AV.dead, AV.dead, AV.dead, AV.dead, AV.dead, AV.dead, AV.dead, AV.dead, AV.dead, AV.dead, AV.dead, AV.dead, AV.dead, AV.dead, AV.dead, AV.dead, AV.dead, AV.dead, AV.dead, AV.dead] (AH.mk [((3 : Nat), (List.map gi b))] (@List.nil Nat) (0 : Nat) (0 : Nat) true (@List.nil (Prod Nat Bool)) True)))) else (some (True ∧ (R Exit.normal [(AV.lst (1 : Nat) (List.map gi a) Tip.no), (AV.sl (0 : Nat) (0 : Nat) (16 : Nat) (16 : Nat)), AV.dead, AV.dead, (AV.v (Value.bool false)), (AV.v (Value.int IntKind.i64 (0 : Int))), AV.dead, AV.dead, AV.dead, AV.dead, AV.dead, AV.dead, AV.dead, AV.dead, AV.dead, AV.dead, AV.dead, AV.dead, AV.dead, AV.dead, AV.dead, AV.dead, AV.dead, AV.dead, AV.dead, AV.dead, AV.dead, AV.dead, AV.dead, AV.dead, AV.dead, AV.dead] (AH.mk [((3 : Nat), (List.map gi b))] (@List.nil Nat) (0 : Nat) (0 : Nat) true (@List.nil (Prod Nat Bool)) True))))) := by kernel_rfl
theorem s2_in (ro : Nat → Option (List Value)) (a b : List Int) (i : Int) (R : Exit → List AV → AH → Prop) : code ro (fun _ => false) (fun _ => none) 8 (sub (bodyOf 22) [1, 1, 0, 1, 0, 0]) (s2A a i) (s2H b) (kp [0, 1, 4, 5] R) =
    (bif (decide (i < ((List.length (List.map gi a)) : Int))) then (bif (decide (i < (16 : Int))) then (bif ((exInt (List.getD (List.map gi a) (Int.toNat i) AV.dead)) != (exInt (List.getD (List.map gi b) (((0 : Nat) + ((Int.toNat i) * (1 : Nat))) + (0 : Nat)) AV.dead))) then (some ((cds (cdb (cds True (elemB Tryd.prog (3 : Nat) (List.map gi a) i) (((0 : Int) ≤ i) ∧ (((List.map gi a)[(Int.toNat i)]?) = (some (AV.v (Value.int IntKind.i64 (exInt (List.getD (List.map gi a) (Int.toNat i) AV.dead)))))))) (decide (((0 : Int) ≤ i) ∧ (i < (16 : Int))))) (shapes Tryd.prog (List.take (1 : Nat) (List.drop ((0 : Nat) + ((Int.toNat i) * (1 : Nat))) (List.map gi b))) [(3 : Nat)]) ((List.take (1 : Nat) (List.drop ((0 : Nat) + ((Int.toNat i) * (1 : Nat))) (List.map gi b))) = [(AV.v (Value.int IntKind.i64 (exInt (List.getD (List.map gi b) (((0 : Nat) + ((Int.toNat i) * (1 : Nat))) + (0 : Nat)) AV.dead))))])) ∧ (R Exit.ret [(AV.lst (1 : Nat) (List.map gi a) Tip.no), (AV.sl (0 : Nat) (0 : Nat) (16 : Nat) (16 : Nat)), AV.dead, AV.dead, (AV.v (Value.bool false)), (AV.v (Value.int IntKind.i64 i)), AV.dead, AV.dead, AV.dead, AV.dead, AV.dead, AV.dead, AV.dead, AV.dead, AV.dead, AV.dead, AV.dead, AV.dead, AV.dead, AV.dead, AV.dead, AV.dead, AV.dead, AV.dead, AV.dead, AV.dead, AV.dead, AV.dead, AV.dead, AV.dead, AV.dead, AV.dead] (AH.mk [((3 : Nat), (List.map gi b))] (@List.nil Nat) (0 : Nat) (0 : Nat) true (@List.nil (Prod Nat Bool)) True)))) else (some ((cds (cdb (cds True (elemB Tryd.prog (3 : Nat) (List.map gi a) i) (((0 : Int) ≤ i) ∧ (((List.map gi a)[(Int.toNat i)]?) = (some (AV.v (Value.int IntKind.i64 (exInt (List.getD (List.map gi a) (Int.toNat i) AV.dead)))))))) (decide (((0 : Int) ≤ i) ∧ (i < (16 : Int))))) (shapes Tryd.prog (List.take (1 : Nat) (List.drop ((0 : Nat) + ((Int.toNat i) * (1 : Nat))) (List.map gi b))) [(3 : Nat)]) ((List.take (1 : Nat) (List.drop ((0 : Nat) + ((Int.toNat i) * (1 : Nat))) (List.map gi b))) = [(AV.v (Value.int IntKind.i64 (exInt (List.getD (List.map gi b) (((0 : Nat) + ((Int.toNat i) * (1 : Nat))) + (0 : Nat)) AV.dead))))])) ∧ (R Exit.normal [(AV.lst (1 : Nat) (List.map gi a) Tip.no), (AV.sl (0 : Nat) (0 : Nat) (16 : Nat) (16 : Nat)), AV.dead, AV.dead, AV.dead, (AV.v (Value.int IntKind.i64 (IntKind.wrap IntKind.i64 (i + (1 : Int))))), AV.dead, AV.dead, AV.dead, AV.dead, AV.dead, AV.dead, AV.dead, AV.dead, AV.dead, AV.dead, AV.dead, AV.dead, AV.dead, AV.dead, AV.dead, AV.dead, AV.dead, AV.dead, AV.dead, AV.dead, AV.dead, AV.dead, AV.dead, AV.dead, AV.dead, AV.dead] (AH.mk [((3 : Nat), (List.map gi b))] (@List.nil Nat) (0 : Nat) (0 : Nat) true (@List.nil (Prod Nat Bool)) True))))) else (some (True ∧ (R (Exit.exit (0 : Nat)) [(AV.lst (1 : Nat) (List.map gi a) Tip.no), (AV.sl (0 : Nat) (0 : Nat) (16 : Nat) (16 : Nat)), AV.dead, AV.dead, AV.dead, (AV.v (Value.int IntKind.i64 i)), AV.dead, AV.dead, AV.dead, AV.dead, AV.dead, AV.dead, AV.dead, AV.dead, AV.dead, AV.dead, AV.dead, AV.dead, AV.dead, AV.dead, AV.dead, AV.dead, AV.dead, AV.dead, AV.dead, AV.dead, AV.dead, AV.dead, AV.dead, AV.dead, AV.dead, AV.dead] (AH.mk [((3 : Nat), (List.map gi b))] (@List.nil Nat) (0 : Nat) (0 : Nat) true (@List.nil (Prod Nat Bool)) True))))) else (some (True ∧ (R (Exit.exit (0 : Nat)) [(AV.lst (1 : Nat) (List.map gi a) Tip.no), (AV.sl (0 : Nat) (0 : Nat) (16 : Nat) (16 : Nat)), AV.dead, AV.dead, AV.dead, (AV.v (Value.int IntKind.i64 i)), AV.dead, AV.dead, AV.dead, AV.dead, AV.dead, AV.dead, AV.dead, AV.dead, AV.dead, AV.dead, AV.dead, AV.dead, AV.dead, AV.dead, AV.dead, AV.dead, AV.dead, AV.dead, AV.dead, AV.dead, AV.dead, AV.dead, AV.dead, AV.dead, AV.dead, AV.dead] (AH.mk [((3 : Nat), (List.map gi b))] (@List.nil Nat) (0 : Nat) (0 : Nat) true (@List.nil (Prod Nat Bool)) True))))) := by kernel_rfl
theorem s2_9 (ro : Nat → Option (List Value)) (a b : List Int) (i : Int) (R : Exit → List AV → AH → Prop) : codeL ro (fun _ => false) (fun _ => none) 8 ((flatten (bodyOf 22)).drop 5) (s2A a i) (s2H b) (kp [4] R) =
    (some (True ∧ (R Exit.ret [AV.dead, AV.dead, AV.dead, AV.dead, (AV.v (Value.bool true)), AV.dead, AV.dead, AV.dead, AV.dead, AV.dead, AV.dead, AV.dead, AV.dead, AV.dead, AV.dead, AV.dead, AV.dead, AV.dead, AV.dead, AV.dead, AV.dead, AV.dead, AV.dead, AV.dead, AV.dead, AV.dead, AV.dead, AV.dead, AV.dead, AV.dead, AV.dead, AV.dead] (AH.mk [((3 : Nat), (List.map gi b))] (@List.nil Nat) (0 : Nat) (0 : Nat) true (@List.nil (Prod Nat Bool)) True)))) := by kernel_rfl
end Go.Proofs.YtodjeammjdgkoaaDoor.AE
namespace Go.Proofs.YtodjeammjdgkoaaDoor.AE
open Go.RowKit
theorem i16_get {b : List Int} (hb : b.length = 16) {i : Nat} (h : i < 16) : exInt ((b.map gi).getD (0 + Int.toNat (i : Int) * 1 + 0) .dead) = b[i]'(by omega) := by
  rw [show 0 + Int.toNat (i : Int) * 1 + 0 = i by omega, List.getD_eq_getElem?_getD, List.getElem?_map, List.getElem?_eq_getElem (by omega)]; rfl
set_option maxRecDepth 100000 in
set_option maxHeartbeats 4000000 in
theorem fs_s2 {ro : Nat → Option (List Value)} (a b : List Int) (hb : b.length = 16) : Fs Tryd.prog ro 22 [.lst 1 (a.map gi) .no, .sl 0 0 16 16] (s2H b) fun r H' => r = .v (.bool (decide (a = b))) ∧ H' = s2H b := by
  refine Fs.of_body (has_fn (by kernel_rfl)) ?_
  rw [si_sl, si_re]
  have pre := fun R => s2_0 ro a b R
  rw [gilS] at pre
  refine Tr.of_flat (Trl.split 4 (Trl.of_code (known_none _) (ne_nil (by kernel_rfl)) (pre _) (holds_bif (fun h => ⟨trivial, .inr rfl, trivial, ?_, rfl⟩) fun h => ⟨trivial, ?_⟩)))
  · have h : ¬ a = b := by rintro rfl; rw [hb] at h; simp at h
    rw [decide_eq_false h]; rfl
  have hlen : a.length = 16 := by simp at h; omega
  show Trl _ _ ((flatten (bodyOf 22)).drop 4) _ _ _
  rw [si_fl]
  let I : Nat → List AV → AH → Prop := fun m act H => ∃ i : Nat, i ≤ a.length ∧ m = a.length - i ∧ act = s2A a i ∧ H = s2H b ∧ a.take i = b.take i
  refine Tr.keepL [0, 1, 5] rfl (Tr.block (Tr.loop I ?_ (m := a.length) ⟨0, Nat.zero_le _, rfl, rfl, rfl, rfl⟩))
  rintro m act H ⟨i, hi, rfl, rfl, rfl, hp⟩
  have body := fun R => s2_in ro a b i R
  rw [gilS, inc64 i (by omega)] at body
  refine Tr.of_code (known_none _) (body _) (holds_bif (fun h1 => holds_bif (fun h2 => ?_) (fun h2 => ?_)) fun h1 => ⟨trivial, ?_⟩)
  · have h1 : i < a.length := by have := of_decide_eq_true h1; omega
    have h2 : i < b.length := by omega
    have g1 : (a.map gi)[Int.toNat (i : Int)]? = some (.v (.int .i64 a[i])) := gi_get h1
    have g2 : ((b.map gi).drop (0 + Int.toNat (i : Int) * 1)).take 1 = [gi (exInt ((b.map gi).getD (0 + Int.toNat (i : Int) * 1 + 0) .dead))] := bump_el b (i : Int) (by show i < _; omega)
    have h0 := Int.natCast_nonneg i
    have h5 : (0 : Int) ≤ (i : Int) ∧ (i : Int) < 16 := ⟨h0, by omega⟩
    rw [i16_get hb (by omega)] at g2
    rw [gi_ex h1, i16_get hb (by omega)]
    refine holds_bif (fun h3 => ⟨cds_of (cdb_iff.2 ⟨cds_of trivial ⟨h0, g1⟩, decide_eq_true h5⟩) g2, .inr rfl, trivial, ?_, rfl⟩) (fun h3 => ⟨cds_of (cdb_iff.2 ⟨cds_of trivial ⟨h0, g1⟩, decide_eq_true h5⟩) g2, a.length - (i + 1), by omega, i + 1, h1, rfl, rfl, rfl, ?_⟩)
    · have h3 : ¬ a[i] = b[i] := by simpa using h3
      have : ¬ a = b := by rintro rfl; exact h3 rfl
      rw [decide_eq_false this]; rfl
    · have h3 : a[i] = b[i] := by simpa using h3
      rw [take_snoc h1, take_snoc h2, hp, h3]
  · have h1 := of_decide_eq_true h1
    have h2 := of_decide_eq_false h2
    omega
  · have h1 : i = a.length := by have := of_decide_eq_false h1; omega
    have hab : a = b := by
      rw [h1, List.take_length, hlen, ← hb, List.take_length] at hp; exact hp
    show Trl _ _ ((flatten (bodyOf 22)).drop 5) _ _ _
    refine Trl.of_code (known_none _) (ne_nil (by kernel_rfl)) (s2_9 ro a b _ _) ⟨trivial, .inr rfl, trivial, ?_, rfl⟩
    rw [decide_eq_true hab]; rfl
def smK (xs cs : List AV) : Bool := match ints? xs, ints? cs with
  | some _, some b => decide (b.length = 16)
  | _, _ => false
def smO (SO : List AV → List AV → Bool) : ObjS where
  pick := fun args _ => match args with
    | [_, .sl id _ _ _] => some [id]
    | _ => none
  mask := [true]
  maskB := [true]
  spec := fun args bs => match args with
    | [.lst 1 xs .no, .sl 0 0 16 16] => match bs with
      | [(t, cs)] => some (.v (.bool (SO xs cs)), [(t, cs)], decide (t = 3) && smK xs cs)
      | _ => none
    | _ => none
def smX (xs cs : List AV) : Bool := match ints? xs, ints? cs with
  | some a, some b => decide (a = b)
  | _, _ => false
theorem smo_ok {ro : Nat → Option (List Value)} : ∀ args H r H', obj? (smO smX) args H = some (r, H') → HSound1 Tryd.prog ro 22 args H r H' := by
  refine obj_ok (has_fn (by kernel_rfl)) fun args bs r bs2 h => ?_
  unfold smO at h
  simp only at h
  split at h
  · rename_i xs
    split at h
    · rename_i t cs
      simp only [Option.some.injEq, Prod.mk.injEq, Bool.and_eq_true] at h
      obtain ⟨rfl, rfl, h1, h2⟩ := h
      obtain rfl := of_decide_eq_true h1
      unfold smK at h2
      split at h2
      · rename_i a b ha hb
        obtain rfl := ints_eq ha
        obtain rfl := ints_eq hb
        have e : smX (a.map gi) (b.map gi) = decide (a = b) := by unfold smX; rw [ints_map, ints_map]
        rw [e]
        exact (fs_s2 a b (of_decide_eq_true h2)).mono fun r' H' ⟨q1, q2⟩ => ⟨.inl q1, [], [], by rw [q2]; rfl⟩
      · cases h2
    · cases h
  · cases h
noncomputable def prL4 (S : LS) (SO : List AV → List AV → Bool) : FuncId → Option (List AV → AH → Ans) := fun g => match g with
  | 22 => some (obj? (smO SO))
  | g => prLS S g
theorem knownL4 {tS tR : TypeId} {pS pR : Value} : Known (roT tS pS tR pR) (prL4 lsX smX) := by
  intro g p h
  unfold prL4 at h
  split at h
  · cases h; exact smo_ok
  · exact knownLS g p h
theorem b_4 (S : LS) (SO : List AV → List AV → Bool) (tS tR : TypeId) (pS pR : Value) (M : List Evt) (v : Nat) (s0 s1 s2 s3 s4 s5 s6 s7 s8 s9 s10 s11 s12 s13 s14 s15 : Int) (k : Int) (R : Exit → List AV → AH → Prop) : codeL (roT tS pS tR pR) (fun _ => false) (prL4 S SO) 8 ((flatten (bodyOf 5)).drop 13) (tbC (accA M v) k) (smH [s0, s1, s2, s3, s4, s5, s6, s7, s8, s9, s10, s11, s12, s13, s14, s15] v) (kp [2] R) =
    (bif (SO ((S).8 [(AV.lst (7 : Nat) (List.map evA M) Tip.no)]) [(AV.v (Value.int IntKind.i64 s0)), (AV.v (Value.int IntKind.i64 s1)), (AV.v (Value.int IntKind.i64 s2)), (AV.v (Value.int IntKind.i64 s3)), (AV.v (Value.int IntKind.i64 s4)), (AV.v (Value.int IntKind.i64 s5)), (AV.v (Value.int IntKind.i64 s6)), (AV.v (Value.int IntKind.i64 s7)), (AV.v (Value.int IntKind.i64 s8)), (AV.v (Value.int IntKind.i64 s9)), (AV.v (Value.int IntKind.i64 s10)), (AV.v (Value.int IntKind.i64 s11)), (AV.v (Value.int IntKind.i64 s12)), (AV.v (Value.int IntKind.i64 s13)), (AV.v (Value.int IntKind.i64 s14)), (AV.v (Value.int IntKind.i64 s15))]) then (some ((cdb (cdb True (pkK (List.map evA M))) ((true && (smK ((S).8 [(AV.lst (7 : Nat) (List.map evA M) Tip.no)]) [(AV.v (Value.int IntKind.i64 s0)), (AV.v (Value.int IntKind.i64 s1)), (AV.v (Value.int IntKind.i64 s2)), (AV.v (Value.int IntKind.i64 s3)), (AV.v (Value.int IntKind.i64 s4)), (AV.v (Value.int IntKind.i64 s5)), (AV.v (Value.int IntKind.i64 s6)), (AV.v (Value.int IntKind.i64 s7)), (AV.v (Value.int IntKind.i64 s8)), (AV.v (Value.int IntKind.i64 s9)), (AV.v (Value.int IntKind.i64 s10)), (AV.v (Value.int IntKind.i64 s11)), (AV.v (Value.int IntKind.i64 s12)), (AV.v (Value.int IntKind.i64 s13)), (AV.v (Value.int IntKind.i64 s14)), (AV.v (Value.int IntKind.i64 s15))])) && (((List.all [(AV.v (Value.int IntKind.i64 s0)), (AV.v (Value.int IntKind.i64 s1)), (AV.v (Value.int IntKind.i64 s2)), (AV.v (Value.int IntKind.i64 s3)), (AV.v (Value.int IntKind.i64 s4)), (AV.v (Value.int IntKind.i64 s5)), (AV.v (Value.int IntKind.i64 s6)), (AV.v (Value.int IntKind.i64 s7)), (AV.v (Value.int IntKind.i64 s8)), (AV.v (Value.int IntKind.i64 s9)), (AV.v (Value.int IntKind.i64 s10)), (AV.v (Value.int IntKind.i64 s11)), (AV.v (Value.int IntKind.i64 s12)), (AV.v (Value.int IntKind.i64 s13)), (AV.v (Value.int IntKind.i64 s14)), (AV.v (Value.int IntKind.i64 s15))] (fun (x : AV) => (isV.match_1 (fun (_ : AV) => Bool) x (fun (_ : Go.Value) => true) (fun (_ : AV) => false)))) && true) && ((List.all [(AV.v (Value.int IntKind.i64 s0)), (AV.v (Value.int IntKind.i64 s1)), (AV.v (Value.int IntKind.i64 s2)), (AV.v (Value.int IntKind.i64 s3)), (AV.v (Value.int IntKind.i64 s4)), (AV.v (Value.int IntKind.i64 s5)), (AV.v (Value.int IntKind.i64 s6)), (AV.v (Value.int IntKind.i64 s7)), (AV.v (Value.int IntKind.i64 s8)), (AV.v (Value.int IntKind.i64 s9)), (AV.v (Value.int IntKind.i64 s10)), (AV.v (Value.int IntKind.i64 s11)), (AV.v (Value.int IntKind.i64 s12)), (AV.v (Value.int IntKind.i64 s13)), (AV.v (Value.int IntKind.i64 s14)), (AV.v (Value.int IntKind.i64 s15))] (fun (x : AV) => (isV.match_1 (fun (_ : AV) => Bool) x (fun (_ : Go.Value) => true) (fun (_ : AV) => false)))) && true)))) ∧ (R Exit.ret [AV.dead, AV.dead, (AV.v (Value.bool true)), AV.dead, AV.dead, AV.dead, AV.dead, AV.dead, AV.dead, AV.dead, AV.dead, AV.dead, AV.dead, AV.dead, AV.dead, AV.dead, AV.dead, AV.dead, AV.dead, AV.dead, AV.dead, AV.dead, AV.dead, AV.dead, AV.dead, AV.dead, AV.dead, AV.dead, AV.dead, AV.dead, AV.dead, AV.dead, AV.dead, AV.dead, AV.dead, AV.dead, AV.dead, AV.dead, AV.dead, AV.dead, AV.dead, AV.dead, AV.dead, AV.dead, AV.dead, AV.dead, AV.dead, AV.dead, AV.dead, AV.dead, AV.dead, AV.dead, AV.dead, AV.dead, AV.dead, AV.dead, AV.dead, AV.dead, AV.dead, AV.dead, AV.dead, AV.dead, AV.dead, AV.dead, AV.dead, AV.dead, AV.dead, AV.dead, AV.dead, AV.dead, AV.dead, AV.dead, AV.dead, AV.dead, AV.dead, AV.dead, AV.dead, AV.dead, AV.dead, AV.dead, AV.dead, AV.dead, AV.dead, AV.dead, AV.dead, AV.dead, AV.dead, AV.dead, AV.dead, AV.dead, AV.dead, AV.dead, AV.dead, AV.dead, AV.dead, AV.dead, AV.dead, AV.dead, AV.dead, AV.dead, AV.dead, AV.dead, AV.dead, AV.dead, AV.dead, AV.dead, AV.dead, AV.dead, AV.dead, AV.dead, AV.dead, AV.dead, AV.dead, AV.dead, AV.dead, AV.dead] (AH.mk [((3 : Nat), [(AV.v (Value.int IntKind.i64 s0)), (AV.v (Value.int IntKind.i64 s1)), (AV.v (Value.int IntKind.i64 s2)), (AV.v (Value.int IntKind.i64 s3)), (AV.v (Value.int IntKind.i64 s4)), (AV.v (Value.int IntKind.i64 s5)), (AV.v (Value.int IntKind.i64 s6)), (AV.v (Value.int IntKind.i64 s7)), (AV.v (Value.int IntKind.i64 s8)), (AV.v (Value.int IntKind.i64 s9)), (AV.v (Value.int IntKind.i64 s10)), (AV.v (Value.int IntKind.i64 s11)), (AV.v (Value.int IntKind.i64 s12)), (AV.v (Value.int IntKind.i64 s13)), (AV.v (Value.int IntKind.i64 s14)), (AV.v (Value.int IntKind.i64 s15))])] [v] (0 : Nat) (0 : Nat) true (@List.nil (Prod Nat Bool)) True)))) else (some ((cdb (cdb True (pkK (List.map evA M))) ((true && (smK ((S).8 [(AV.lst (7 : Nat) (List.map evA M) Tip.no)]) [(AV.v (Value.int IntKind.i64 s0)), (AV.v (Value.int IntKind.i64 s1)), (AV.v (Value.int IntKind.i64 s2)), (AV.v (Value.int IntKind.i64 s3)), (AV.v (Value.int IntKind.i64 s4)), (AV.v (Value.int IntKind.i64 s5)), (AV.v (Value.int IntKind.i64 s6)), (AV.v (Value.int IntKind.i64 s7)), (AV.v (Value.int IntKind.i64 s8)), (AV.v (Value.int IntKind.i64 s9)), (AV.v (Value.int IntKind.i64 s10)), (AV.v (Value.int IntKind.i64 s11)), (AV.v (Value.int IntKind.i64 s12)), (AV.v (Value.int IntKind.i64 s13)), (AV.v (Value.int IntKind.i64 s14)), (AV.v (Value.int IntKind.i64 s15))])) && (((List.all [(AV.v (Value.int IntKind.i64 s0)), (AV.v (Value.int IntKind.i64 s1)), (AV.v (Value.int IntKind.i64 s2)), (AV.v (Value.int IntKind.i64 s3)), (AV.v (Value.int IntKind.i64 s4)), (AV.v (Value.int IntKind.i64 s5)), (AV.v (Value.int IntKind.i64 s6)), (AV.v (Value.int IntKind.i64 s7)), (AV.v (Value.int IntKind.i64 s8)), (AV.v (Value.int IntKind.i64 s9)), (AV.v (Value.int IntKind.i64 s10)), (AV.v (Value.int IntKind.i64 s11)), (AV.v (Value.int IntKind.i64 s12)), (AV.v (Value.int IntKind.i64 s13)), (AV.v (Value.int IntKind.i64 s14)), (AV.v (Value.int IntKind.i64 s15))] (fun (x : AV) => (isV.match_1 (fun (_ : AV) => Bool) x (fun (_ : Go.Value) => true) (fun (_ : AV) => false)))) && true) && ((List.all [(AV.v (Value.int IntKind.i64 s0)), (AV.v (Value.int IntKind.i64 s1)), (AV.v (Value.int IntKind.i64 s2)), (AV.v (Value.int IntKind.i64 s3)), (AV.v (Value.int IntKind.i64 s4)), (AV.v (Value.int IntKind.i64 s5)), (AV.v (Value.int IntKind.i64 s6)), (AV.v (Value.int IntKind.i64 s7)), (AV.v (Value.int IntKind.i64 s8)), (AV.v (Value.int IntKind.i64 s9)), (AV.v (Value.int IntKind.i64 s10)), (AV.v (Value.int IntKind.i64 s11)), (AV.v (Value.int IntKind.i64 s12)), (AV.v (Value.int IntKind.i64 s13)), (AV.v (Value.int IntKind.i64 s14)), (AV.v (Value.int IntKind.i64 s15))] (fun (x : AV) => (isV.match_1 (fun (_ : AV) => Bool) x (fun (_ : Go.Value) => true) (fun (_ : AV) => false)))) && true)))) ∧ (R Exit.ret [AV.dead, AV.dead, (AV.v (Value.bool false)), AV.dead, AV.dead, AV.dead, AV.dead, AV.dead, AV.dead, AV.dead, AV.dead, AV.dead, AV.dead, AV.dead, AV.dead, AV.dead, AV.dead, AV.dead, AV.dead, AV.dead, AV.dead, AV.dead, AV.dead, AV.dead, AV.dead, AV.dead, AV.dead, AV.dead, AV.dead, AV.dead, AV.dead, AV.dead, AV.dead, AV.dead, AV.dead, AV.dead, AV.dead, AV.dead, AV.dead, AV.dead, AV.dead, AV.dead, AV.dead, AV.dead, AV.dead, AV.dead, AV.dead, AV.dead, AV.dead, AV.dead, AV.dead, AV.dead, AV.dead, AV.dead, AV.dead, AV.dead, AV.dead, AV.dead, AV.dead, AV.dead, AV.dead, AV.dead, AV.dead, AV.dead, AV.dead, AV.dead, AV.dead, AV.dead, AV.dead, AV.dead, AV.dead, AV.dead, AV.dead, AV.dead, AV.dead, AV.dead, AV.dead, AV.dead, AV.dead, AV.dead, AV.dead, AV.dead, AV.dead, AV.dead, AV.dead, AV.dead, AV.dead, AV.dead, AV.dead, AV.dead, AV.dead, AV.dead, AV.dead, AV.dead, AV.dead, AV.dead, AV.dead, AV.dead, AV.dead, AV.dead, AV.dead, AV.dead, AV.dead, AV.dead, AV.dead, AV.dead, AV.dead, AV.dead, AV.dead, AV.dead, AV.dead, AV.dead, AV.dead, AV.dead, AV.dead, AV.dead] (AH.mk [((3 : Nat), [(AV.v (Value.int IntKind.i64 s0)), (AV.v (Value.int IntKind.i64 s1)), (AV.v (Value.int IntKind.i64 s2)), (AV.v (Value.int IntKind.i64 s3)), (AV.v (Value.int IntKind.i64 s4)), (AV.v (Value.int IntKind.i64 s5)), (AV.v (Value.int IntKind.i64 s6)), (AV.v (Value.int IntKind.i64 s7)), (AV.v (Value.int IntKind.i64 s8)), (AV.v (Value.int IntKind.i64 s9)), (AV.v (Value.int IntKind.i64 s10)), (AV.v (Value.int IntKind.i64 s11)), (AV.v (Value.int IntKind.i64 s12)), (AV.v (Value.int IntKind.i64 s13)), (AV.v (Value.int IntKind.i64 s14)), (AV.v (Value.int IntKind.i64 s15))])] [v] (0 : Nat) (0 : Nat) true (@List.nil (Prod Nat Bool)) True))))) := by kernel_rfl
end Go.Proofs.YtodjeammjdgkoaaDoor.AE
namespace Go.Proofs.YtodjeammjdgkoaaDoor.AE
open Go.RowKit
theorem bk_sl : slotsOf 5 = 116 := by kernel_rfl
theorem bk_re : resultsOf 5 = [.tmp 2] := by kernel_rfl
theorem bk_f5 : (flatten (bodyOf 5)).drop 5 = .block 0 (.loop (sub (bodyOf 5) [1, 1, 1, 0, 1, 0, 0])) :: (flatten (bodyOf 5)).drop 6 := by kernel_rfl
theorem bk_f12 : ((flatten (bodyOf 5)).drop 6).drop 6 = .block 2 (.loop (sub (bodyOf 5) [1, 1, 1, 1, 1, 1, 1, 1, 0, 1, 0, 0])) :: (flatten (bodyOf 5)).drop 13 := by kernel_rfl
theorem bk_fl : (flatten (sub (bodyOf 5) [1, 1, 1, 0, 1, 0, 0])).drop 2 = [.block 1 (sub (bodyOf 5) [1, 1, 1, 0, 1, 0, 0, 1, 0, 0]), sub (bodyOf 5) [1, 1, 1, 0, 1, 0, 0, 1, 1]] := by kernel_rfl
theorem bk_fc : flatten (sub (bodyOf 5) [1, 1, 1, 0, 1, 0, 0, 1, 0, 0]) = [sub (bodyOf 5) [1, 1, 1, 0, 1, 0, 0, 1, 0, 0, 0], .cond (.tmp 38) (sub (bodyOf 5) [1, 1, 1, 0, 1, 0, 0, 1, 0, 0, 1, 0]) .skip] := by kernel_rfl
theorem Tr.skip {P : Program} {ro : Nat → Option (List Value)} {act : List AV} {H : AH} {Q : Exit → List AV → AH → Prop} (h : Q .normal act H) : Tr P ro .skip act H Q := fun G W a hI _ hA => wp_skip ⟨act, H, G, h, .refl _ _, hI, hA, rfl⟩
theorem may_yes {L : List Evt} {i : Nat} (h : i < L.length) (hg : goodK L[i] = true) : mayL (L.take (i + 1)) = mayL (L.take i) ++ [mayE L[i]] := by
  unfold mayL; rw [fil_yes h hg, List.map_append]; rfl
theorem may_no {L : List Evt} {i : Nat} (h : i < L.length) (hg : goodK L[i] = false) : mayL (L.take (i + 1)) = mayL (L.take i) := by
  unfold mayL; rw [fil_no h hg]
theorem may_le {L : List Evt} {i : Nat} (h : i ≤ L.length) : (mayL (L.take i)).length ≤ i := by
  unfold mayL; rw [List.length_map]; exact fil_le h
section
variable {tS tR : TypeId} {pS pR : Value}
set_option maxHeartbeats 8000000 in
set_option maxRecDepth 100000 in
theorem bk_loop (L : List Evt) (hl : L.length ≤ 60) (i v : Nat) (h1 : i < L.length) : Tr Tryd.prog (roT tS pS tR pR) (.block 1 (sub (bodyOf 5) [1, 1, 1, 0, 1, 0, 0, 1, 0, 0])) (tbA L (accA (mayL (L.take i)) v) i) (hp [] [v]) fun e a h => e = .normal ∧ ∃ v', a = tbA L (accA (mayL (L.take (i + 1))) v') i ∧ h = hp [] [v'] := by
  have hle := may_le (L := L) (i := i) (by omega)
  have g1 := ev_el h1
  refine Tr.forget 0 1 (Nat.le_refl _) (Nat.le_refl _) (Tr.block (Tr.of_flat ?_))
  rw [bk_fc]
  refine Tr.of_code knownLS (b_17 lsX tS tR pS pR L (mayL (L.take i)) v i _) ?_
  rw [ev_get h1]
  have no : goodK L[i] = false → (lows 0 1 (tbA L (accA (mayL (L.take i)) v) i) = true ∧ ((hp [] [v]).blks.take 0).all (fun b => lows 0 1 b.2) = true ∧ Exit.normal = Exit.normal ∧ ∃ v', tbA L (accA (mayL (L.take i)) v) i = tbA L (accA (mayL (L.take (i + 1))) v') i ∧ trimH 0 1 (hp [] [v]) = hp [] [v']) := fun hg => ⟨by kernel_rfl, by kernel_rfl, rfl, v, by rw [may_no h1 hg], rfl⟩
  refine holds_bif (fun h2 => ⟨cds_of (cds_of trivial g1) g1, ?_⟩) (fun h2 => ⟨cds_of trivial g1, ?_⟩)
  · have h2 : 1 ≤ L[i].k := of_decide_eq_true h2
    refine Tr.cond (b := decide (L[i].k ≤ 15)) rfl (fun h3 => ?_) (fun h3 => ?_)
    · have h3 := of_decide_eq_true h3
      have hg : goodK L[i] = true := decide_eq_true ⟨h2, h3⟩
      refine Tr.of_flat (Tr.keepL [0, 3, 4] (by kernel_rfl) (Trl.split 1 (Trl.of_code knownLS (ne_nil (by kernel_rfl)) (b_18 lsX tS tR pS pR L (mayL (L.take i)) v i _) ?_)))
      rw [ev_get h1]
      refine ⟨cds_of trivial g1, ?_⟩
      show Trl _ _ ((flatten (sub (bodyOf 5) [1, 1, 1, 0, 1, 0, 0, 1, 0, 0, 1, 0])).drop 1) (tbV L (accA (mayL (L.take i)) v) i) (hp [(23, [gi L[i].k, gi L[i].t, gi L[i].s, gi L[i].i, gi L[i].c, gi L[i].a, gi L[i].b])] [v]) _
      have last := fun R => b_19 lsX tS tR pS pR L (mayL (L.take i)) v i L[i].k L[i].t L[i].s L[i].i L[i].c L[i].a L[i].b R
      rw [evl (mayL (L.take i))] at last
      refine Trl.of_code knownLS (ne_nil (by kernel_rfl)) (last _) ⟨cdb_iff.2 ⟨trivial, decide_eq_true ⟨⟨by simp only [List.length_cons, List.length_nil]; omega, by simp only [List.length_cons, List.length_nil]; omega⟩, rfl⟩⟩, by kernel_rfl, by kernel_rfl, rfl, v + 1, ?_, rfl⟩
      rw [may_yes h1 hg]
      unfold tbA accA
      rw [List.map_append]
      rfl
    · have h3 := of_decide_eq_false h3
      exact Tr.keep [0, 3, 4] (Tr.skip (no (decide_eq_false (fun e => h3 e.2))))
  · have h2 : ¬ 1 ≤ L[i].k := of_decide_eq_false h2
    refine Tr.cond (b := false) rfl (fun h3 => by cases h3) (fun h3 => ?_)
    exact Tr.keep [0, 3, 4] (Tr.skip (no (decide_eq_false (fun e => h2 e.1))))
set_option maxHeartbeats 8000000 in
set_option maxRecDepth 100000 in
theorem bk_round (M : List Evt) (hM : M.length ≤ 1000000) (v : Nat) (k : Int) (hk : -1 ≤ k) (hk3 : k ≤ 3) (Q : Exit → List AV → AH → Prop)
    (g1 : k < 3 → Q .normal (tbC (accA M v) (k + 1)) (smH (sumK M (k + 1)) v)) (g2 : ¬ k < 3 → Q (.exit 2) (tbC (accA M v) k) (smH (sumK M k) v)) : Tr Tryd.prog (roT tS pS tR pR) (sub (bodyOf 5) [1, 1, 1, 1, 1, 1, 1, 1, 0, 1, 0, 0]) (tbC (accA M v) k) (smH (sumK M k) v) Q := by
  obtain ⟨s0, s1, s2, s3, s4, s5, s6, s7, s8, s9, s10, s11, s12, s13, s14, s15, es⟩ := list16 (sumK_len M k)
  rw [es] at g2 ⊢
  refine Tr.of_code knownLS (b_3 lsX tS tR pS pR M v s0 s1 s2 s3 s4 s5 s6 s7 s8 s9 s10 s11 s12 s13 s14 s15 k _) (holds_bif (fun h3 => ?_) fun h3 => ⟨trivial, g2 (of_decide_eq_false h3)⟩)
  have hk4 : k < 3 := of_decide_eq_true h3
  have e0 : lsX.FO [.v (.int .i64 k), .lst 7 (M.map evA) (.tp 0 v)] = (M.filter (ofB k)).map evA := by show ((lnE _).filter _).map evA = _; rw [lnE_of]; rfl
  have e1 : lsX.CT [.lst 7 ((M.filter (ofB k)).map evA) .no] = (ctK (M.filter (ofB k))).map gi := by show (ctK (lsE _)).map gi = _; rw [lsE_of]
  obtain ⟨c0, c1, c2, c3, c4, c5, c6, c7, c8, c9, c10, c11, c12, c13, c14, c15, ec⟩ := list16 (ctK_len (M.filter (ofB k)))
  have d1 : lnOk [.v (.int .i64 k), .lst 7 (M.map evA) (.tp 0 v)] = true := pkK_to hM
  have d2 : pkK ((M.filter (ofB k)).map evA) = true := pkK_to (Nat.le_trans (List.length_filter_le _ _) hM)
  rw [e0, e1, ec]
  refine holds_bif (fun h4 => by cases h4) fun _ => ⟨?_, ?_⟩
  · repeat' first
      | with_reducible exact trivial
      | with_reducible exact d1
      | with_reducible exact d2
      | with_reducible refine cdb_iff.2 ⟨?_, ?_⟩
      | refine cds_of ?_ ⟨by decide, rfl⟩
      | fail
  · obtain ⟨t0, t1, t2, t3, t4, t5, t6, t7, t8, t9, t10, t11, t12, t13, t14, t15, et⟩ := list16 (sumK_len M (k + 1))
    have hn : IntKind.wrap .i64 (k + 1) = k + 1 := by rw [IntKind.wrap_i64]; omega
    have h0 : IntKind.wrap .i64 (s0 + c0) = t0 := by have := sumK_step (M := M) (k := k) hM 0 (by decide); rw [es, ec, et] at this; exact this
    have h1 : IntKind.wrap .i64 (s1 + c1) = t1 := by have := sumK_step (M := M) (k := k) hM 1 (by decide); rw [es, ec, et] at this; exact this
    have h2 : IntKind.wrap .i64 (s2 + c2) = t2 := by have := sumK_step (M := M) (k := k) hM 2 (by decide); rw [es, ec, et] at this; exact this
    have h3 : IntKind.wrap .i64 (s3 + c3) = t3 := by have := sumK_step (M := M) (k := k) hM 3 (by decide); rw [es, ec, et] at this; exact this
    have h4 : IntKind.wrap .i64 (s4 + c4) = t4 := by have := sumK_step (M := M) (k := k) hM 4 (by decide); rw [es, ec, et] at this; exact this
    have h5 : IntKind.wrap .i64 (s5 + c5) = t5 := by have := sumK_step (M := M) (k := k) hM 5 (by decide); rw [es, ec, et] at this; exact this
    have h6 : IntKind.wrap .i64 (s6 + c6) = t6 := by have := sumK_step (M := M) (k := k) hM 6 (by decide); rw [es, ec, et] at this; exact this
    have h7 : IntKind.wrap .i64 (s7 + c7) = t7 := by have := sumK_step (M := M) (k := k) hM 7 (by decide); rw [es, ec, et] at this; exact this
    have h8 : IntKind.wrap .i64 (s8 + c8) = t8 := by have := sumK_step (M := M) (k := k) hM 8 (by decide); rw [es, ec, et] at this; exact this
    have h9 : IntKind.wrap .i64 (s9 + c9) = t9 := by have := sumK_step (M := M) (k := k) hM 9 (by decide); rw [es, ec, et] at this; exact this
    have h10 : IntKind.wrap .i64 (s10 + c10) = t10 := by have := sumK_step (M := M) (k := k) hM 10 (by decide); rw [es, ec, et] at this; exact this
    have h11 : IntKind.wrap .i64 (s11 + c11) = t11 := by have := sumK_step (M := M) (k := k) hM 11 (by decide); rw [es, ec, et] at this; exact this
    have h12 : IntKind.wrap .i64 (s12 + c12) = t12 := by have := sumK_step (M := M) (k := k) hM 12 (by decide); rw [es, ec, et] at this; exact this
    have h13 : IntKind.wrap .i64 (s13 + c13) = t13 := by have := sumK_step (M := M) (k := k) hM 13 (by decide); rw [es, ec, et] at this; exact this
    have h14 : IntKind.wrap .i64 (s14 + c14) = t14 := by have := sumK_step (M := M) (k := k) hM 14 (by decide); rw [es, ec, et] at this; exact this
    have h15 : IntKind.wrap .i64 (s15 + c15) = t15 := by have := sumK_step (M := M) (k := k) hM 15 (by decide); rw [es, ec, et] at this; exact this
    have := g1 hk4
    rw [et, ← h0, ← h1, ← h2, ← h3, ← h4, ← h5, ← h6, ← h7, ← h8, ← h9, ← h10, ← h11, ← h12, ← h13, ← h14, ← h15, ← hn] at this
    exact this
set_option maxHeartbeats 8000000 in
set_option maxRecDepth 100000 in
theorem fs_back (L : List Evt) (hok : ∀ e ∈ L, evOk e) : Fs Tryd.prog (roT tS pS tR pR) 5 [evL L] (hp [] []) fun r _ => r = .v (.bool true) := by
  refine Fs.of_body (has_fn (by kernel_rfl)) ?_
  rw [bk_sl, bk_re]
  have first := fun R => b_0 lsX tS tR pS pR L R
  rw [evl] at first
  refine Tr.of_flat (Trl.split 5 (Trl.of_code knownLS (ne_nil (by kernel_rfl)) (first _) (holds_bif (fun h => ⟨trivial, .inr rfl, trivial, rfl⟩) fun h => ⟨trivial, ?_⟩)))
  have hl : L.length ≤ 60 := by have := of_decide_eq_false h; omega
  show Trl _ _ ((flatten (bodyOf 5)).drop 5) _ _ _
  rw [bk_f5]
  refine Tr.keepL [0, 3, 4] rfl (Trl.nilTip 3 7 rfl rfl ?_)
  let I : Nat → List AV → AH → Prop := fun m act H => ∃ i v : Nat, i ≤ L.length ∧ m = L.length - i ∧ act = tbA L (accA (mayL (L.take i)) v) i ∧ H = hp [] [v]
  refine Tr.block (Tr.loop I ?_ (m := L.length) ⟨0, 0, Nat.zero_le _, rfl, rfl, rfl⟩)
  rintro m act H ⟨i, v, hi, rfl, rfl, rfl⟩
  have hd := fun R => b_1h lsX tS tR pS pR L (mayL (L.take i)) v i R
  rw [evl] at hd
  refine Tr.of_flat (Trl.split 2 (Trl.of_code knownLS (ne_nil (by kernel_rfl)) (hd _) (holds_bif (fun h1 => ⟨trivial, ?_⟩) fun h1 => ⟨trivial, ?_⟩)))
  · have h1 : i < L.length := by have := of_decide_eq_true h1; omega
    show Trl _ _ ((flatten (sub (bodyOf 5) [1, 1, 1, 0, 1, 0, 0])).drop 2) _ _ _
    rw [bk_fl]
    refine Tr.mono (bk_loop L hl i v h1) ?_
    rintro e a h ⟨rfl, v', rfl, rfl⟩
    have last := fun R => b_16 lsX tS tR pS pR L (mayL (L.take (i + 1))) v' i R
    rw [inc64 i (by omega)] at last
    exact Tr.of_code knownLS (last _) ⟨trivial, L.length - (i + 1), by omega, i + 1, v', h1, rfl, rfl, rfl⟩
  · have h1 : i = L.length := by have := of_decide_eq_false h1; omega
    subst h1
    have hb := mayL_ok hok
    have hbl : (mayL L).length ≤ 60 := by have := may_le (L := L) (i := L.length) (Nat.le_refl _); rw [List.take_length] at this; omega
    rw [List.take_length]
    generalize mayL L = M at hb hbl ⊢
    have hall : M.all goodK = true := List.all_eq_true.2 fun e he => decide_eq_true (hb e he).1.1
    obtain ⟨q1, q2⟩ := text_all hall
    have pb := pall_back (M := M) fun e he => (hb e he).1
    have hz : (catT M ⟨#[]⟩).size ≤ 0 + (400 + 1) * M.length := catT_size _ _ fun e he => lineO_len (hb e he).1.2
    have e1 : lsX.TX [.lst 7 (M.map evA) (.tp 0 v)] = catT M ⟨#[]⟩ := by show textT (lsE _) = _; rw [lsE_of, q1]
    have e2 : lsX.TE [.lst 7 (M.map evA) (.tp 0 v)] = 0 := by show textE (lsE _) = _; rw [lsE_of, q2]
    have e3 : lsX.PX [.v (.string ((⟨#[32, 10]⟩ ++ catT M ⟨#[]⟩) ++ ⟨#[35]⟩))] = M.map evA := by
      show (pall (linesS ((begB ++ catT M ⟨#[]⟩) ++ remB)) 0 []).1.map evA = _
      rw [pb]
    have e4 : lsX.PN [.v (.string ((⟨#[32, 10]⟩ ++ catT M ⟨#[]⟩) ++ ⟨#[35]⟩))] = 0 := by
      show ((pall (linesS ((begB ++ catT M ⟨#[]⟩) ++ remB)) 0 []).2.1 : Int) = _
      rw [pb]; rfl
    have e5 : lsX.PE [.v (.string ((⟨#[32, 10]⟩ ++ catT M ⟨#[]⟩) ++ ⟨#[35]⟩))] = 0 := by
      show (pall (linesS ((begB ++ catT M ⟨#[]⟩) ++ remB)) 0 []).2.2 = _
      rw [pb]
    have e6 : lsX.SE [.lst 7 (M.map evA) .no, .lst 7 (M.map evA) (.tp 0 v)] = true := (seX_of M M _ _).trans (decide_eq_true rfl)
    have c1 : lsOk [.lst 7 (M.map evA) (.tp 0 v)] = true := evsOk_to (by omega) fun e he => (hb e he).1.2
    have c2 : textOk [.v (.string ((⟨#[32, 10]⟩ ++ catT M ⟨#[]⟩) ++ ⟨#[35]⟩))] = true := decide_eq_true (by
      rw [ByteArray.size_append, ByteArray.size_append, show (ByteArray.mk #[32, 10]).size = 2 from rfl, show (ByteArray.mk #[35]).size = 1 from rfl]; omega)
    have c3 : seOk [.lst 7 (M.map evA) .no, .lst 7 (M.map evA) (.tp 0 v)] = true := Bool.and_eq_true_iff.2 ⟨pkK_to (by omega), pkK_to (by omega)⟩
    have z1 : decide (2 + (catT M ⟨#[]⟩).size ≤ 9223372036854775807) = true := decide_eq_true (by omega)
    have z2 : decide ((ByteArray.mk #[32, 10] ++ catT M ⟨#[]⟩).size + 1 ≤ 9223372036854775807) = true := decide_eq_true (by
      rw [ByteArray.size_append, show (ByteArray.mk #[32, 10]).size = 2 from rfl]; omega)
    show Trl _ _ ((flatten (bodyOf 5)).drop 6) _ _ _
    refine Tr.keepL [3] rfl (Trl.split 6 (Trl.of_code knownLS (ne_nil (by kernel_rfl)) (b_2 lsX tS tR pS pR M v _) ?_))
    rw [e1, e2, e3, e4, e5, e6]
    refine holds_bif (fun h => by cases h) fun _ => holds_bif (fun h => by cases h) fun _ => holds_bif (fun h => by cases h) fun _ => holds_bif (fun h => by cases h) fun _ => ⟨?_, ?_⟩
    · repeat' first
        | with_reducible exact trivial
        | with_reducible exact c1
        | with_reducible exact c2
        | with_reducible exact c3
        | with_reducible exact z1
        | with_reducible exact z2
        | with_reducible refine cdb_iff.2 ⟨?_, ?_⟩
        | fail
    show Trl _ _ (((flatten (bodyOf 5)).drop 6).drop 6) _ _ _
    rw [bk_f12]
    let J : Nat → List AV → AH → Prop := fun m act H => ∃ k : Int, -1 ≤ k ∧ k ≤ 3 ∧ m = (3 - k).toNat ∧ act = tbC (accA M v) k ∧ H = smH (sumK M k) v
    refine Tr.keepL [3, 11, 12] rfl (Tr.block (Tr.loop J ?_ (m := 4) ⟨-1, by decide, by decide, rfl, rfl, by rw [sumK_0 fun e he => (hb e he).2.1]; rfl⟩))
    rintro m act H ⟨k, hk, hk3, rfl, rfl, rfl⟩
    refine bk_round M (by omega) v k hk hk3 _ (fun h => ⟨(3 - (k + 1)).toNat, by omega, k + 1, by omega, by omega, rfl, rfl, rfl⟩) fun h => ?_
    obtain rfl : k = 3 := by omega
    rw [sumK_3 fun e he => (hb e he).2.2]
    obtain ⟨s0, s1, s2, s3, s4, s5, s6, s7, s8, s9, s10, s11, s12, s13, s14, s15, es⟩ := list16 (ctK_len M)
    have e7 : lsX.CT [.lst 7 (M.map evA) .no] = (ctK M).map gi := by show (ctK (lsE _)).map gi = _; rw [lsE_of]
    rw [es]
    show Trl _ _ ((flatten (bodyOf 5)).drop 13) _ _ _
    refine Trl.of_code knownL4 (ne_nil (by kernel_rfl)) (b_4 lsX smX tS tR pS pR M v s0 s1 s2 s3 s4 s5 s6 s7 s8 s9 s10 s11 s12 s13 s14 s15 3 _) ?_
    rw [e7, es]
    have d1 : pkK (M.map evA) = true := pkK_to (by omega)
    refine holds_bif (fun _ => ⟨cdb_iff.2 ⟨cdb_iff.2 ⟨trivial, d1⟩, rfl⟩, .inr rfl, trivial, rfl⟩) fun h => ?_
    exfalso
    have h : decide ([s0, s1, s2, s3, s4, s5, s6, s7, s8, s9, s10, s11, s12, s13, s14, s15] = [s0, s1, s2, s3, s4, s5, s6, s7, s8, s9, s10, s11, s12, s13, s14, s15]) = false := h
    simp at h
end
end Go.Proofs.YtodjeammjdgkoaaDoor.AE
namespace Go.Proofs.YtodjeammjdgkoaaDoor
open Go.RowKit AE
theorem w_TraceBack (w : World) (hR : ∃ tS pS tR pR, Ro (roT tS pS tR pR) (G0 w) w) (a : Option Addr) (len cap : Nat) (f : Nat → Nat → Int) (hF : Fld w a len 7 f) (_ : len ≤ maxLen) (hw : ∀ i j, i < len → j < 7 → (Lit.int .i64 (f i j)).wf = true) (hc : len ≤ cap) (hx : cap ≤ maxLen) :
    Calls Tryd.prog 5 #[.slice a len cap] w fun e w' => e = .returned (.bool true) ∧ Below w.heap.size w w' := by
  obtain ⟨tS, pS, tR, pR, hR⟩ := hR
  exact law_true (fs_back (efF f len) (ef_ok hw)) w _ hR (.cons (ef_rv hF hc hx) .nil)
end Go.Proofs.YtodjeammjdgkoaaDoor
