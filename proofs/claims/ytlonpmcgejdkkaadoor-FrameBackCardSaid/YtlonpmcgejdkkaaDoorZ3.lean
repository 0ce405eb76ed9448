
/-
  The law FrameBack of layer 27: the call comes to true.
-/
import Derived.Test.YtlonpmcgejdkkaaDoorZ2
import Derived.Test.YtlonpmcgejdkkaaDoorAEDefer
import Derived.Test.YtlonpmcgejdkkaaDoorAEStrs
import Derived.Test.YtlonpmcgejdkkaaDoorZ1
import Derived.Test.YtlonpmcgejdkkaaDoorAEIn
import Derived.Test.YtlonpmcgejdkkaaDoorLaid
namespace Go.Proofs.YtlonpmcgejdkkaaDoor.AE
set_option maxRecDepth 100000
open Go.RowKit
structure ES where
  qP : (Nat → Int) → ByteArray
  qE : (Nat → Int) → Int
  aP : (Nat → Int) → ByteArray
  aE : (Nat → Int) → Int
  pP : (Nat → Int) → ByteArray
  pE : (Nat → Int) → Int
  hP : Int → ByteArray → ByteArray
  hE : Int → ByteArray → Int
def pe2 (P : (Nat → Int) → ByteArray) (E : (Nat → Int) → Int) (f : Nat → Int) : Value := .tuple #[.string (P f), .int .i64 (E f)]
def nineP (F : (Nat → Int) → Value) : List Value → Option (Value × Bool) := fun us => match us with
  | [.agg cs] => match P26.ints? cs.toList with
    | some l => match decide (l.length = 9) with
      | true => some (F (P26.nine l), true)
      | false => none
    | none => none
  | _ => none
def hpP (P : Int → ByteArray → ByteArray) (E : Int → ByteArray → Int) : List Value → Option (Value × Bool) := fun us => match us with
  | [.int .i64 k, .string s] => some (.tuple #[.string (P k s), .int .i64 (E k s)], true)
  | _ => none
noncomputable def prE (S : ES) : FuncId → Option (List AV → AH → Ans) := fun g => match g with
  | 13 => some (pure? (hpP S.hP S.hE))
  | 66 => some (pure? (Q24.sixP (pe2 S.qP S.qE)))
  | 96 => some (pure? (A25.sixP (pe2 S.aP S.aE)))
  | 102 => some (pure? (nineP (pe2 S.pP S.pE)))
  | _ => none
def gI (n : Int) : AV := .v (.int .i64 n)
def frV (k : Int) (q a p : Nat → Int) : Value := .agg #[.int .i64 k, .int .i64 (q 0), .int .i64 (q 1), .int .i64 (q 2), .int .i64 (q 3), .int .i64 (q 4), .int .i64 (q 5), .int .i64 (a 0), .int .i64 (a 1), .int .i64 (a 2), .int .i64 (a 3), .int .i64 (a 4), .int .i64 (a 5), .int .i64 (a 6), .int .i64 (p 0), .int .i64 (p 1), .int .i64 (p 2), .int .i64 (p 3), .int .i64 (p 4), .int .i64 (p 5), .int .i64 (p 6), .int .i64 (p 7), .int .i64 (p 8)]
def eH (k : Int) (q a p : Nat → Int) : AH := hp [(31, [gI k, gI (q 0), gI (q 1), gI (q 2), gI (q 3), gI (q 4), gI (q 5), gI (a 0), gI (a 1), gI (a 2), gI (a 3), gI (a 4), gI (a 5), gI (a 6), gI (p 0), gI (p 1), gI (p 2), gI (p 3), gI (p 4), gI (p 5), gI (p 6), gI (p 7), gI (p 8)]), (9, [.v (.string ⟨#[]⟩)]), (33, [.v (.int .i64 0)])] []
def eA : List AV := [.dead, .ptr 0 0, .ptr 1 0, .ptr 2 0, .dead, .dead, .dead, .fn (.func 10) [] [.ptr 1 0, .ptr 2 0]] ++ List.replicate 22 .dead
theorem e_x (k : Int) (q a p : Nat → Int) (R : Exit → List AV → AH → Prop) : code roF (fun _ => false) (fun _ => none) 8 (sub (bodyOf 5) [0]) ([.v (frV k q a p)] ++ List.replicate 29 (.v undef)) (hp [] []) (kp [1, 2, 3] R) =
    (some (True ∧ (R Exit.normal [AV.dead, (AV.ptr (0 : Nat) (0 : Nat)), (AV.ptr (List.length [((31 : Nat), [(AV.v (Value.int IntKind.i64 k)), (AV.v (Value.int IntKind.i64 (q (0 : Nat)))), (AV.v (Value.int IntKind.i64 (q (1 : Nat)))), (AV.v (Value.int IntKind.i64 (q (2 : Nat)))), (AV.v (Value.int IntKind.i64 (q (3 : Nat)))), (AV.v (Value.int IntKind.i64 (q (4 : Nat)))), (AV.v (Value.int IntKind.i64 (q (5 : Nat)))), (AV.v (Value.int IntKind.i64 (a (0 : Nat)))), (AV.v (Value.int IntKind.i64 (a (1 : Nat)))), (AV.v (Value.int IntKind.i64 (a (2 : Nat)))), (AV.v (Value.int IntKind.i64 (a (3 : Nat)))), (AV.v (Value.int IntKind.i64 (a (4 : Nat)))), (AV.v (Value.int IntKind.i64 (a (5 : Nat)))), (AV.v (Value.int IntKind.i64 (a (6 : Nat)))), (AV.v (Value.int IntKind.i64 (p (0 : Nat)))), (AV.v (Value.int IntKind.i64 (p (1 : Nat)))), (AV.v (Value.int IntKind.i64 (p (2 : Nat)))), (AV.v (Value.int IntKind.i64 (p (3 : Nat)))), (AV.v (Value.int IntKind.i64 (p (4 : Nat)))), (AV.v (Value.int IntKind.i64 (p (5 : Nat)))), (AV.v (Value.int IntKind.i64 (p (6 : Nat)))), (AV.v (Value.int IntKind.i64 (p (7 : Nat)))), (AV.v (Value.int IntKind.i64 (p (8 : Nat))))])]) (0 : Nat)), (AV.ptr (List.length [((31 : Nat), [(AV.v (Value.int IntKind.i64 k)), (AV.v (Value.int IntKind.i64 (q (0 : Nat)))), (AV.v (Value.int IntKind.i64 (q (1 : Nat)))), (AV.v (Value.int IntKind.i64 (q (2 : Nat)))), (AV.v (Value.int IntKind.i64 (q (3 : Nat)))), (AV.v (Value.int IntKind.i64 (q (4 : Nat)))), (AV.v (Value.int IntKind.i64 (q (5 : Nat)))), (AV.v (Value.int IntKind.i64 (a (0 : Nat)))), (AV.v (Value.int IntKind.i64 (a (1 : Nat)))), (AV.v (Value.int IntKind.i64 (a (2 : Nat)))), (AV.v (Value.int IntKind.i64 (a (3 : Nat)))), (AV.v (Value.int IntKind.i64 (a (4 : Nat)))), (AV.v (Value.int IntKind.i64 (a (5 : Nat)))), (AV.v (Value.int IntKind.i64 (a (6 : Nat)))), (AV.v (Value.int IntKind.i64 (p (0 : Nat)))), (AV.v (Value.int IntKind.i64 (p (1 : Nat)))), (AV.v (Value.int IntKind.i64 (p (2 : Nat)))), (AV.v (Value.int IntKind.i64 (p (3 : Nat)))), (AV.v (Value.int IntKind.i64 (p (4 : Nat)))), (AV.v (Value.int IntKind.i64 (p (5 : Nat)))), (AV.v (Value.int IntKind.i64 (p (6 : Nat)))), (AV.v (Value.int IntKind.i64 (p (7 : Nat)))), (AV.v (Value.int IntKind.i64 (p (8 : Nat))))]), ((9 : Nat), [(AV.v (Value.string (ByteArray.mk (Array.mk (@List.nil UInt8)))))])]) (0 : Nat)), AV.dead, AV.dead, AV.dead, AV.dead, AV.dead, AV.dead, AV.dead, AV.dead, AV.dead, AV.dead, AV.dead, AV.dead, AV.dead, AV.dead, AV.dead, AV.dead, AV.dead, AV.dead, AV.dead, AV.dead, AV.dead, AV.dead, AV.dead, AV.dead, AV.dead, AV.dead] (AH.mk [((31 : Nat), [(AV.v (Value.int IntKind.i64 k)), (AV.v (Value.int IntKind.i64 (q (0 : Nat)))), (AV.v (Value.int IntKind.i64 (q (1 : Nat)))), (AV.v (Value.int IntKind.i64 (q (2 : Nat)))), (AV.v (Value.int IntKind.i64 (q (3 : Nat)))), (AV.v (Value.int IntKind.i64 (q (4 : Nat)))), (AV.v (Value.int IntKind.i64 (q (5 : Nat)))), (AV.v (Value.int IntKind.i64 (a (0 : Nat)))), (AV.v (Value.int IntKind.i64 (a (1 : Nat)))), (AV.v (Value.int IntKind.i64 (a (2 : Nat)))), (AV.v (Value.int IntKind.i64 (a (3 : Nat)))), (AV.v (Value.int IntKind.i64 (a (4 : Nat)))), (AV.v (Value.int IntKind.i64 (a (5 : Nat)))), (AV.v (Value.int IntKind.i64 (a (6 : Nat)))), (AV.v (Value.int IntKind.i64 (p (0 : Nat)))), (AV.v (Value.int IntKind.i64 (p (1 : Nat)))), (AV.v (Value.int IntKind.i64 (p (2 : Nat)))), (AV.v (Value.int IntKind.i64 (p (3 : Nat)))), (AV.v (Value.int IntKind.i64 (p (4 : Nat)))), (AV.v (Value.int IntKind.i64 (p (5 : Nat)))), (AV.v (Value.int IntKind.i64 (p (6 : Nat)))), (AV.v (Value.int IntKind.i64 (p (7 : Nat)))), (AV.v (Value.int IntKind.i64 (p (8 : Nat))))]), ((9 : Nat), [(AV.v (Value.string (ByteArray.mk (Array.mk (@List.nil UInt8)))))]), ((33 : Nat), [(AV.v (Value.int IntKind.i64 (0 : Int)))])] (@List.nil Nat) (0 : Nat) (0 : Nat) true (@List.nil (Prod Nat Bool)) True)))) := by kernel_rfl
theorem e_y (S : ES) (k : Int) (q a p : Nat → Int) (R : Exit → List AV → AH → Prop) : code roF (fun _ => false) (prE S) 10 (sub (bodyOf 5) [1, 1]) eA (eH k q a p) (kp [2, 3] R) =
    (bif (k == (1 : Int)) then (bif (((S).2 (Q24.six [(q (0 : Nat)), (q (1 : Nat)), (q (2 : Nat)), (q (3 : Nat)), (q (4 : Nat)), (q (5 : Nat))])) != (0 : Int)) then (some (True ∧ (R Exit.ret [AV.dead, AV.dead, (AV.ptr (1 : Nat) (0 : Nat)), (AV.ptr (2 : Nat) (0 : Nat)), AV.dead, AV.dead, AV.dead, AV.dead, AV.dead, AV.dead, AV.dead, AV.dead, AV.dead, AV.dead, AV.dead, AV.dead, AV.dead, AV.dead, AV.dead, AV.dead, AV.dead, AV.dead, AV.dead, AV.dead, AV.dead, AV.dead, AV.dead, AV.dead, AV.dead, AV.dead] (AH.mk [((31 : Nat), [(AV.v (Value.int IntKind.i64 k)), (AV.v (Value.int IntKind.i64 (q (0 : Nat)))), (AV.v (Value.int IntKind.i64 (q (1 : Nat)))), (AV.v (Value.int IntKind.i64 (q (2 : Nat)))), (AV.v (Value.int IntKind.i64 (q (3 : Nat)))), (AV.v (Value.int IntKind.i64 (q (4 : Nat)))), (AV.v (Value.int IntKind.i64 (q (5 : Nat)))), (AV.v (Value.int IntKind.i64 (a (0 : Nat)))), (AV.v (Value.int IntKind.i64 (a (1 : Nat)))), (AV.v (Value.int IntKind.i64 (a (2 : Nat)))), (AV.v (Value.int IntKind.i64 (a (3 : Nat)))), (AV.v (Value.int IntKind.i64 (a (4 : Nat)))), (AV.v (Value.int IntKind.i64 (a (5 : Nat)))), (AV.v (Value.int IntKind.i64 (a (6 : Nat)))), (AV.v (Value.int IntKind.i64 (p (0 : Nat)))), (AV.v (Value.int IntKind.i64 (p (1 : Nat)))), (AV.v (Value.int IntKind.i64 (p (2 : Nat)))), (AV.v (Value.int IntKind.i64 (p (3 : Nat)))), (AV.v (Value.int IntKind.i64 (p (4 : Nat)))), (AV.v (Value.int IntKind.i64 (p (5 : Nat)))), (AV.v (Value.int IntKind.i64 (p (6 : Nat)))), (AV.v (Value.int IntKind.i64 (p (7 : Nat)))), (AV.v (Value.int IntKind.i64 (p (8 : Nat))))]), ((9 : Nat), [(AV.v (Value.string (ByteArray.mk (Array.mk (@List.nil UInt8)))))]), ((33 : Nat), [(AV.v (Value.int IntKind.i64 (1 : Int)))]), ((31 : Nat), [(AV.v (Value.int IntKind.i64 k)), (AV.v (Value.int IntKind.i64 (q (0 : Nat)))), (AV.v (Value.int IntKind.i64 (q (1 : Nat)))), (AV.v (Value.int IntKind.i64 (q (2 : Nat)))), (AV.v (Value.int IntKind.i64 (q (3 : Nat)))), (AV.v (Value.int IntKind.i64 (q (4 : Nat)))), (AV.v (Value.int IntKind.i64 (q (5 : Nat)))), (AV.v (Value.int IntKind.i64 (a (0 : Nat)))), (AV.v (Value.int IntKind.i64 (a (1 : Nat)))), (AV.v (Value.int IntKind.i64 (a (2 : Nat)))), (AV.v (Value.int IntKind.i64 (a (3 : Nat)))), (AV.v (Value.int IntKind.i64 (a (4 : Nat)))), (AV.v (Value.int IntKind.i64 (a (5 : Nat)))), (AV.v (Value.int IntKind.i64 (a (6 : Nat)))), (AV.v (Value.int IntKind.i64 (p (0 : Nat)))), (AV.v (Value.int IntKind.i64 (p (1 : Nat)))), (AV.v (Value.int IntKind.i64 (p (2 : Nat)))), (AV.v (Value.int IntKind.i64 (p (3 : Nat)))), (AV.v (Value.int IntKind.i64 (p (4 : Nat)))), (AV.v (Value.int IntKind.i64 (p (5 : Nat)))), (AV.v (Value.int IntKind.i64 (p (6 : Nat)))), (AV.v (Value.int IntKind.i64 (p (7 : Nat)))), (AV.v (Value.int IntKind.i64 (p (8 : Nat))))]), ((60 : Nat), [(AV.v (Value.int IntKind.i64 (q (0 : Nat)))), (AV.v (Value.int IntKind.i64 (q (1 : Nat)))), (AV.v (Value.int IntKind.i64 (q (2 : Nat)))), (AV.v (Value.int IntKind.i64 (q (3 : Nat)))), (AV.v (Value.int IntKind.i64 (q (4 : Nat)))), (AV.v (Value.int IntKind.i64 (q (5 : Nat))))]), ((60 : Nat), [(AV.v (Value.int IntKind.i64 (q (0 : Nat)))), (AV.v (Value.int IntKind.i64 (q (1 : Nat)))), (AV.v (Value.int IntKind.i64 (q (2 : Nat)))), (AV.v (Value.int IntKind.i64 (q (3 : Nat)))), (AV.v (Value.int IntKind.i64 (q (4 : Nat)))), (AV.v (Value.int IntKind.i64 (q (5 : Nat))))])] (@List.nil Nat) (0 : Nat) (0 : Nat) true (@List.nil (Prod Nat Bool)) True)))) else (bif (!(((1 : Int) == k) && ((((q (0 : Nat)) == (q (0 : Nat))) && (((q (1 : Nat)) == (q (1 : Nat))) && (((q (2 : Nat)) == (q (2 : Nat))) && (((q (3 : Nat)) == (q (3 : Nat))) && (((q (4 : Nat)) == (q (4 : Nat))) && (((q (5 : Nat)) == (q (5 : Nat))) && true)))))) && ((((0 : Int) == (a (0 : Nat))) && (((0 : Int) == (a (1 : Nat))) && (((0 : Int) == (a (2 : Nat))) && (((0 : Int) == (a (3 : Nat))) && (((0 : Int) == (a (4 : Nat))) && (((0 : Int) == (a (5 : Nat))) && (((0 : Int) == (a (6 : Nat))) && true))))))) && ((((0 : Int) == (p (0 : Nat))) && (((0 : Int) == (p (1 : Nat))) && ((((0 : Int) == (p (2 : Nat))) && (((0 : Int) == (p (3 : Nat))) && (((0 : Int) == (p (4 : Nat))) && (((0 : Int) == (p (5 : Nat))) && (((0 : Int) == (p (6 : Nat))) && (((0 : Int) == (p (7 : Nat))) && (((0 : Int) == (p (8 : Nat))) && true))))))) && true))) && true))))) then (some ((True ∧ ((some ((31 : Nat), [(AV.v (Value.int IntKind.i64 k)), (AV.v (Value.int IntKind.i64 (q (0 : Nat)))), (AV.v (Value.int IntKind.i64 (q (1 : Nat)))), (AV.v (Value.int IntKind.i64 (q (2 : Nat)))), (AV.v (Value.int IntKind.i64 (q (3 : Nat)))), (AV.v (Value.int IntKind.i64 (q (4 : Nat)))), (AV.v (Value.int IntKind.i64 (q (5 : Nat)))), (AV.v (Value.int IntKind.i64 (a (0 : Nat)))), (AV.v (Value.int IntKind.i64 (a (1 : Nat)))), (AV.v (Value.int IntKind.i64 (a (2 : Nat)))), (AV.v (Value.int IntKind.i64 (a (3 : Nat)))), (AV.v (Value.int IntKind.i64 (a (4 : Nat)))), (AV.v (Value.int IntKind.i64 (a (5 : Nat)))), (AV.v (Value.int IntKind.i64 (a (6 : Nat)))), (AV.v (Value.int IntKind.i64 (p (0 : Nat)))), (AV.v (Value.int IntKind.i64 (p (1 : Nat)))), (AV.v (Value.int IntKind.i64 (p (2 : Nat)))), (AV.v (Value.int IntKind.i64 (p (3 : Nat)))), (AV.v (Value.int IntKind.i64 (p (4 : Nat)))), (AV.v (Value.int IntKind.i64 (p (5 : Nat)))), (AV.v (Value.int IntKind.i64 (p (6 : Nat)))), (AV.v (Value.int IntKind.i64 (p (7 : Nat)))), (AV.v (Value.int IntKind.i64 (p (8 : Nat))))])) = (some ((31 : Nat), [(AV.v (Value.int IntKind.i64 k)), (AV.v (Value.int IntKind.i64 (q (0 : Nat)))), (AV.v (Value.int IntKind.i64 (q (1 : Nat)))), (AV.v (Value.int IntKind.i64 (q (2 : Nat)))), (AV.v (Value.int IntKind.i64 (q (3 : Nat)))), (AV.v (Value.int IntKind.i64 (q (4 : Nat)))), (AV.v (Value.int IntKind.i64 (q (5 : Nat)))), (AV.v (Value.int IntKind.i64 (a (0 : Nat)))), (AV.v (Value.int IntKind.i64 (a (1 : Nat)))), (AV.v (Value.int IntKind.i64 (a (2 : Nat)))), (AV.v (Value.int IntKind.i64 (a (3 : Nat)))), (AV.v (Value.int IntKind.i64 (a (4 : Nat)))), (AV.v (Value.int IntKind.i64 (a (5 : Nat)))), (AV.v (Value.int IntKind.i64 (a (6 : Nat)))), (AV.v (Value.int IntKind.i64 (p (0 : Nat)))), (AV.v (Value.int IntKind.i64 (p (1 : Nat)))), (AV.v (Value.int IntKind.i64 (p (2 : Nat)))), (AV.v (Value.int IntKind.i64 (p (3 : Nat)))), (AV.v (Value.int IntKind.i64 (p (4 : Nat)))), (AV.v (Value.int IntKind.i64 (p (5 : Nat)))), (AV.v (Value.int IntKind.i64 (p (6 : Nat)))), (AV.v (Value.int IntKind.i64 (p (7 : Nat)))), (AV.v (Value.int IntKind.i64 (p (8 : Nat))))])))) ∧ (R Exit.ret [AV.dead, AV.dead, (AV.ptr (1 : Nat) (0 : Nat)), (AV.ptr (2 : Nat) (0 : Nat)), AV.dead, AV.dead, AV.dead, AV.dead, AV.dead, AV.dead, AV.dead, AV.dead, AV.dead, AV.dead, AV.dead, AV.dead, AV.dead, AV.dead, AV.dead, AV.dead, AV.dead, AV.dead, AV.dead, AV.dead, AV.dead, AV.dead, AV.dead, AV.dead, AV.dead, AV.dead] (AH.mk [((31 : Nat), [(AV.v (Value.int IntKind.i64 k)), (AV.v (Value.int IntKind.i64 (q (0 : Nat)))), (AV.v (Value.int IntKind.i64 (q (1 : Nat)))), (AV.v (Value.int IntKind.i64 (q (2 : Nat)))), (AV.v (Value.int IntKind.i64 (q (3 : Nat)))), (AV.v (Value.int IntKind.i64 (q (4 : Nat)))), (AV.v (Value.int IntKind.i64 (q (5 : Nat)))), (AV.v (Value.int IntKind.i64 (a (0 : Nat)))), (AV.v (Value.int IntKind.i64 (a (1 : Nat)))), (AV.v (Value.int IntKind.i64 (a (2 : Nat)))), (AV.v (Value.int IntKind.i64 (a (3 : Nat)))), (AV.v (Value.int IntKind.i64 (a (4 : Nat)))), (AV.v (Value.int IntKind.i64 (a (5 : Nat)))), (AV.v (Value.int IntKind.i64 (a (6 : Nat)))), (AV.v (Value.int IntKind.i64 (p (0 : Nat)))), (AV.v (Value.int IntKind.i64 (p (1 : Nat)))), (AV.v (Value.int IntKind.i64 (p (2 : Nat)))), (AV.v (Value.int IntKind.i64 (p (3 : Nat)))), (AV.v (Value.int IntKind.i64 (p (4 : Nat)))), (AV.v (Value.int IntKind.i64 (p (5 : Nat)))), (AV.v (Value.int IntKind.i64 (p (6 : Nat)))), (AV.v (Value.int IntKind.i64 (p (7 : Nat)))), (AV.v (Value.int IntKind.i64 (p (8 : Nat))))]), ((9 : Nat), [(AV.v (Value.string (ByteArray.mk (Array.mk (@List.nil UInt8)))))]), ((33 : Nat), [(AV.v (Value.int IntKind.i64 (1 : Int)))]), ((31 : Nat), [(AV.v (Value.int IntKind.i64 k)), (AV.v (Value.int IntKind.i64 (q (0 : Nat)))), (AV.v (Value.int IntKind.i64 (q (1 : Nat)))), (AV.v (Value.int IntKind.i64 (q (2 : Nat)))), (AV.v (Value.int IntKind.i64 (q (3 : Nat)))), (AV.v (Value.int IntKind.i64 (q (4 : Nat)))), (AV.v (Value.int IntKind.i64 (q (5 : Nat)))), (AV.v (Value.int IntKind.i64 (a (0 : Nat)))), (AV.v (Value.int IntKind.i64 (a (1 : Nat)))), (AV.v (Value.int IntKind.i64 (a (2 : Nat)))), (AV.v (Value.int IntKind.i64 (a (3 : Nat)))), (AV.v (Value.int IntKind.i64 (a (4 : Nat)))), (AV.v (Value.int IntKind.i64 (a (5 : Nat)))), (AV.v (Value.int IntKind.i64 (a (6 : Nat)))), (AV.v (Value.int IntKind.i64 (p (0 : Nat)))), (AV.v (Value.int IntKind.i64 (p (1 : Nat)))), (AV.v (Value.int IntKind.i64 (p (2 : Nat)))), (AV.v (Value.int IntKind.i64 (p (3 : Nat)))), (AV.v (Value.int IntKind.i64 (p (4 : Nat)))), (AV.v (Value.int IntKind.i64 (p (5 : Nat)))), (AV.v (Value.int IntKind.i64 (p (6 : Nat)))), (AV.v (Value.int IntKind.i64 (p (7 : Nat)))), (AV.v (Value.int IntKind.i64 (p (8 : Nat))))]), ((60 : Nat), [(AV.v (Value.int IntKind.i64 (q (0 : Nat)))), (AV.v (Value.int IntKind.i64 (q (1 : Nat)))), (AV.v (Value.int IntKind.i64 (q (2 : Nat)))), (AV.v (Value.int IntKind.i64 (q (3 : Nat)))), (AV.v (Value.int IntKind.i64 (q (4 : Nat)))), (AV.v (Value.int IntKind.i64 (q (5 : Nat))))]), ((60 : Nat), [(AV.v (Value.int IntKind.i64 (q (0 : Nat)))), (AV.v (Value.int IntKind.i64 (q (1 : Nat)))), (AV.v (Value.int IntKind.i64 (q (2 : Nat)))), (AV.v (Value.int IntKind.i64 (q (3 : Nat)))), (AV.v (Value.int IntKind.i64 (q (4 : Nat)))), (AV.v (Value.int IntKind.i64 (q (5 : Nat))))]), ((60 : Nat), [(AV.v (Value.int IntKind.i64 (q (0 : Nat)))), (AV.v (Value.int IntKind.i64 (q (1 : Nat)))), (AV.v (Value.int IntKind.i64 (q (2 : Nat)))), (AV.v (Value.int IntKind.i64 (q (3 : Nat)))), (AV.v (Value.int IntKind.i64 (q (4 : Nat)))), (AV.v (Value.int IntKind.i64 (q (5 : Nat))))]), ((31 : Nat), [(AV.v (Value.int IntKind.i64 (1 : Int))), (AV.v (Value.int IntKind.i64 (q (0 : Nat)))), (AV.v (Value.int IntKind.i64 (q (1 : Nat)))), (AV.v (Value.int IntKind.i64 (q (2 : Nat)))), (AV.v (Value.int IntKind.i64 (q (3 : Nat)))), (AV.v (Value.int IntKind.i64 (q (4 : Nat)))), (AV.v (Value.int IntKind.i64 (q (5 : Nat)))), (AV.v (Value.int IntKind.i64 (0 : Int))), (AV.v (Value.int IntKind.i64 (0 : Int))), (AV.v (Value.int IntKind.i64 (0 : Int))), (AV.v (Value.int IntKind.i64 (0 : Int))), (AV.v (Value.int IntKind.i64 (0 : Int))), (AV.v (Value.int IntKind.i64 (0 : Int))), (AV.v (Value.int IntKind.i64 (0 : Int))), (AV.v (Value.int IntKind.i64 (0 : Int))), (AV.v (Value.int IntKind.i64 (0 : Int))), (AV.v (Value.int IntKind.i64 (0 : Int))), (AV.v (Value.int IntKind.i64 (0 : Int))), (AV.v (Value.int IntKind.i64 (0 : Int))), (AV.v (Value.int IntKind.i64 (0 : Int))), (AV.v (Value.int IntKind.i64 (0 : Int))), (AV.v (Value.int IntKind.i64 (0 : Int))), (AV.v (Value.int IntKind.i64 (0 : Int)))])] (@List.nil Nat) (0 : Nat) (0 : Nat) true (@List.nil (Prod Nat Bool)) True)))) else (some ((True ∧ ((some ((31 : Nat), [(AV.v (Value.int IntKind.i64 k)), (AV.v (Value.int IntKind.i64 (q (0 : Nat)))), (AV.v (Value.int IntKind.i64 (q (1 : Nat)))), (AV.v (Value.int IntKind.i64 (q (2 : Nat)))), (AV.v (Value.int IntKind.i64 (q (3 : Nat)))), (AV.v (Value.int IntKind.i64 (q (4 : Nat)))), (AV.v (Value.int IntKind.i64 (q (5 : Nat)))), (AV.v (Value.int IntKind.i64 (a (0 : Nat)))), (AV.v (Value.int IntKind.i64 (a (1 : Nat)))), (AV.v (Value.int IntKind.i64 (a (2 : Nat)))), (AV.v (Value.int IntKind.i64 (a (3 : Nat)))), (AV.v (Value.int IntKind.i64 (a (4 : Nat)))), (AV.v (Value.int IntKind.i64 (a (5 : Nat)))), (AV.v (Value.int IntKind.i64 (a (6 : Nat)))), (AV.v (Value.int IntKind.i64 (p (0 : Nat)))), (AV.v (Value.int IntKind.i64 (p (1 : Nat)))), (AV.v (Value.int IntKind.i64 (p (2 : Nat)))), (AV.v (Value.int IntKind.i64 (p (3 : Nat)))), (AV.v (Value.int IntKind.i64 (p (4 : Nat)))), (AV.v (Value.int IntKind.i64 (p (5 : Nat)))), (AV.v (Value.int IntKind.i64 (p (6 : Nat)))), (AV.v (Value.int IntKind.i64 (p (7 : Nat)))), (AV.v (Value.int IntKind.i64 (p (8 : Nat))))])) = (some ((31 : Nat), [(AV.v (Value.int IntKind.i64 k)), (AV.v (Value.int IntKind.i64 (q (0 : Nat)))), (AV.v (Value.int IntKind.i64 (q (1 : Nat)))), (AV.v (Value.int IntKind.i64 (q (2 : Nat)))), (AV.v (Value.int IntKind.i64 (q (3 : Nat)))), (AV.v (Value.int IntKind.i64 (q (4 : Nat)))), (AV.v (Value.int IntKind.i64 (q (5 : Nat)))), (AV.v (Value.int IntKind.i64 (a (0 : Nat)))), (AV.v (Value.int IntKind.i64 (a (1 : Nat)))), (AV.v (Value.int IntKind.i64 (a (2 : Nat)))), (AV.v (Value.int IntKind.i64 (a (3 : Nat)))), (AV.v (Value.int IntKind.i64 (a (4 : Nat)))), (AV.v (Value.int IntKind.i64 (a (5 : Nat)))), (AV.v (Value.int IntKind.i64 (a (6 : Nat)))), (AV.v (Value.int IntKind.i64 (p (0 : Nat)))), (AV.v (Value.int IntKind.i64 (p (1 : Nat)))), (AV.v (Value.int IntKind.i64 (p (2 : Nat)))), (AV.v (Value.int IntKind.i64 (p (3 : Nat)))), (AV.v (Value.int IntKind.i64 (p (4 : Nat)))), (AV.v (Value.int IntKind.i64 (p (5 : Nat)))), (AV.v (Value.int IntKind.i64 (p (6 : Nat)))), (AV.v (Value.int IntKind.i64 (p (7 : Nat)))), (AV.v (Value.int IntKind.i64 (p (8 : Nat))))])))) ∧ (R Exit.ret [AV.dead, AV.dead, (AV.ptr (1 : Nat) (0 : Nat)), (AV.ptr (2 : Nat) (0 : Nat)), AV.dead, AV.dead, AV.dead, AV.dead, AV.dead, AV.dead, AV.dead, AV.dead, AV.dead, AV.dead, AV.dead, AV.dead, AV.dead, AV.dead, AV.dead, AV.dead, AV.dead, AV.dead, AV.dead, AV.dead, AV.dead, AV.dead, AV.dead, AV.dead, AV.dead, AV.dead] (AH.mk [((31 : Nat), [(AV.v (Value.int IntKind.i64 k)), (AV.v (Value.int IntKind.i64 (q (0 : Nat)))), (AV.v (Value.int IntKind.i64 (q (1 : Nat)))), (AV.v (Value.int IntKind.i64 (q (2 : Nat)))), (AV.v (Value.int IntKind.i64 (q (3 : Nat)))), (AV.v (Value.int IntKind.i64 (q (4 : Nat)))), (AV.v (Value.int IntKind.i64 (q (5 : Nat)))), (AV.v (Value.int IntKind.i64 (a (0 : Nat)))), (AV.v (Value.int IntKind.i64 (a (1 : Nat)))), (AV.v (Value.int IntKind.i64 (a (2 : Nat)))), (AV.v (Value.int IntKind.i64 (a (3 : Nat)))), (AV.v (Value.int IntKind.i64 (a (4 : Nat)))), (AV.v (Value.int IntKind.i64 (a (5 : Nat)))), (AV.v (Value.int IntKind.i64 (a (6 : Nat)))), (AV.v (Value.int IntKind.i64 (p (0 : Nat)))), (AV.v (Value.int IntKind.i64 (p (1 : Nat)))), (AV.v (Value.int IntKind.i64 (p (2 : Nat)))), (AV.v (Value.int IntKind.i64 (p (3 : Nat)))), (AV.v (Value.int IntKind.i64 (p (4 : Nat)))), (AV.v (Value.int IntKind.i64 (p (5 : Nat)))), (AV.v (Value.int IntKind.i64 (p (6 : Nat)))), (AV.v (Value.int IntKind.i64 (p (7 : Nat)))), (AV.v (Value.int IntKind.i64 (p (8 : Nat))))]), ((9 : Nat), [(AV.v (Value.string ((S).7 (1 : Int) ((S).1 (Q24.six [(q (0 : Nat)), (q (1 : Nat)), (q (2 : Nat)), (q (3 : Nat)), (q (4 : Nat)), (q (5 : Nat))])))))]), ((33 : Nat), [(AV.v (Value.int IntKind.i64 ((S).8 (1 : Int) ((S).1 (Q24.six [(q (0 : Nat)), (q (1 : Nat)), (q (2 : Nat)), (q (3 : Nat)), (q (4 : Nat)), (q (5 : Nat))])))))]), ((31 : Nat), [(AV.v (Value.int IntKind.i64 k)), (AV.v (Value.int IntKind.i64 (q (0 : Nat)))), (AV.v (Value.int IntKind.i64 (q (1 : Nat)))), (AV.v (Value.int IntKind.i64 (q (2 : Nat)))), (AV.v (Value.int IntKind.i64 (q (3 : Nat)))), (AV.v (Value.int IntKind.i64 (q (4 : Nat)))), (AV.v (Value.int IntKind.i64 (q (5 : Nat)))), (AV.v (Value.int IntKind.i64 (a (0 : Nat)))), (AV.v (Value.int IntKind.i64 (a (1 : Nat)))), (AV.v (Value.int IntKind.i64 (a (2 : Nat)))), (AV.v (Value.int IntKind.i64 (a (3 : Nat)))), (AV.v (Value.int IntKind.i64 (a (4 : Nat)))), (AV.v (Value.int IntKind.i64 (a (5 : Nat)))), (AV.v (Value.int IntKind.i64 (a (6 : Nat)))), (AV.v (Value.int IntKind.i64 (p (0 : Nat)))), (AV.v (Value.int IntKind.i64 (p (1 : Nat)))), (AV.v (Value.int IntKind.i64 (p (2 : Nat)))), (AV.v (Value.int IntKind.i64 (p (3 : Nat)))), (AV.v (Value.int IntKind.i64 (p (4 : Nat)))), (AV.v (Value.int IntKind.i64 (p (5 : Nat)))), (AV.v (Value.int IntKind.i64 (p (6 : Nat)))), (AV.v (Value.int IntKind.i64 (p (7 : Nat)))), (AV.v (Value.int IntKind.i64 (p (8 : Nat))))]), ((60 : Nat), [(AV.v (Value.int IntKind.i64 (q (0 : Nat)))), (AV.v (Value.int IntKind.i64 (q (1 : Nat)))), (AV.v (Value.int IntKind.i64 (q (2 : Nat)))), (AV.v (Value.int IntKind.i64 (q (3 : Nat)))), (AV.v (Value.int IntKind.i64 (q (4 : Nat)))), (AV.v (Value.int IntKind.i64 (q (5 : Nat))))]), ((60 : Nat), [(AV.v (Value.int IntKind.i64 (q (0 : Nat)))), (AV.v (Value.int IntKind.i64 (q (1 : Nat)))), (AV.v (Value.int IntKind.i64 (q (2 : Nat)))), (AV.v (Value.int IntKind.i64 (q (3 : Nat)))), (AV.v (Value.int IntKind.i64 (q (4 : Nat)))), (AV.v (Value.int IntKind.i64 (q (5 : Nat))))]), ((60 : Nat), [(AV.v (Value.int IntKind.i64 (q (0 : Nat)))), (AV.v (Value.int IntKind.i64 (q (1 : Nat)))), (AV.v (Value.int IntKind.i64 (q (2 : Nat)))), (AV.v (Value.int IntKind.i64 (q (3 : Nat)))), (AV.v (Value.int IntKind.i64 (q (4 : Nat)))), (AV.v (Value.int IntKind.i64 (q (5 : Nat))))]), ((31 : Nat), [(AV.v (Value.int IntKind.i64 (1 : Int))), (AV.v (Value.int IntKind.i64 (q (0 : Nat)))), (AV.v (Value.int IntKind.i64 (q (1 : Nat)))), (AV.v (Value.int IntKind.i64 (q (2 : Nat)))), (AV.v (Value.int IntKind.i64 (q (3 : Nat)))), (AV.v (Value.int IntKind.i64 (q (4 : Nat)))), (AV.v (Value.int IntKind.i64 (q (5 : Nat)))), (AV.v (Value.int IntKind.i64 (0 : Int))), (AV.v (Value.int IntKind.i64 (0 : Int))), (AV.v (Value.int IntKind.i64 (0 : Int))), (AV.v (Value.int IntKind.i64 (0 : Int))), (AV.v (Value.int IntKind.i64 (0 : Int))), (AV.v (Value.int IntKind.i64 (0 : Int))), (AV.v (Value.int IntKind.i64 (0 : Int))), (AV.v (Value.int IntKind.i64 (0 : Int))), (AV.v (Value.int IntKind.i64 (0 : Int))), (AV.v (Value.int IntKind.i64 (0 : Int))), (AV.v (Value.int IntKind.i64 (0 : Int))), (AV.v (Value.int IntKind.i64 (0 : Int))), (AV.v (Value.int IntKind.i64 (0 : Int))), (AV.v (Value.int IntKind.i64 (0 : Int))), (AV.v (Value.int IntKind.i64 (0 : Int))), (AV.v (Value.int IntKind.i64 (0 : Int)))])] (@List.nil Nat) (0 : Nat) (0 : Nat) true (@List.nil (Prod Nat Bool)) True)))))) else (bif (k == (2 : Int)) then (bif (((S).4 (A25.six [(a (0 : Nat)), (a (1 : Nat)), (a (2 : Nat)), (a (3 : Nat)), (a (4 : Nat)), (a (5 : Nat)), (a (6 : Nat))])) != (0 : Int)) then (some (True ∧ (R Exit.ret [AV.dead, AV.dead, (AV.ptr (1 : Nat) (0 : Nat)), (AV.ptr (2 : Nat) (0 : Nat)), AV.dead, AV.dead, AV.dead, AV.dead, AV.dead, AV.dead, AV.dead, AV.dead, AV.dead, AV.dead, AV.dead, AV.dead, AV.dead, AV.dead, AV.dead, AV.dead, AV.dead, AV.dead, AV.dead, AV.dead, AV.dead, AV.dead, AV.dead, AV.dead, AV.dead, AV.dead] (AH.mk [((31 : Nat), [(AV.v (Value.int IntKind.i64 k)), (AV.v (Value.int IntKind.i64 (q (0 : Nat)))), (AV.v (Value.int IntKind.i64 (q (1 : Nat)))), (AV.v (Value.int IntKind.i64 (q (2 : Nat)))), (AV.v (Value.int IntKind.i64 (q (3 : Nat)))), (AV.v (Value.int IntKind.i64 (q (4 : Nat)))), (AV.v (Value.int IntKind.i64 (q (5 : Nat)))), (AV.v (Value.int IntKind.i64 (a (0 : Nat)))), (AV.v (Value.int IntKind.i64 (a (1 : Nat)))), (AV.v (Value.int IntKind.i64 (a (2 : Nat)))), (AV.v (Value.int IntKind.i64 (a (3 : Nat)))), (AV.v (Value.int IntKind.i64 (a (4 : Nat)))), (AV.v (Value.int IntKind.i64 (a (5 : Nat)))), (AV.v (Value.int IntKind.i64 (a (6 : Nat)))), (AV.v (Value.int IntKind.i64 (p (0 : Nat)))), (AV.v (Value.int IntKind.i64 (p (1 : Nat)))), (AV.v (Value.int IntKind.i64 (p (2 : Nat)))), (AV.v (Value.int IntKind.i64 (p (3 : Nat)))), (AV.v (Value.int IntKind.i64 (p (4 : Nat)))), (AV.v (Value.int IntKind.i64 (p (5 : Nat)))), (AV.v (Value.int IntKind.i64 (p (6 : Nat)))), (AV.v (Value.int IntKind.i64 (p (7 : Nat)))), (AV.v (Value.int IntKind.i64 (p (8 : Nat))))]), ((9 : Nat), [(AV.v (Value.string (ByteArray.mk (Array.mk (@List.nil UInt8)))))]), ((33 : Nat), [(AV.v (Value.int IntKind.i64 (1 : Int)))]), ((31 : Nat), [(AV.v (Value.int IntKind.i64 k)), (AV.v (Value.int IntKind.i64 (q (0 : Nat)))), (AV.v (Value.int IntKind.i64 (q (1 : Nat)))), (AV.v (Value.int IntKind.i64 (q (2 : Nat)))), (AV.v (Value.int IntKind.i64 (q (3 : Nat)))), (AV.v (Value.int IntKind.i64 (q (4 : Nat)))), (AV.v (Value.int IntKind.i64 (q (5 : Nat)))), (AV.v (Value.int IntKind.i64 (a (0 : Nat)))), (AV.v (Value.int IntKind.i64 (a (1 : Nat)))), (AV.v (Value.int IntKind.i64 (a (2 : Nat)))), (AV.v (Value.int IntKind.i64 (a (3 : Nat)))), (AV.v (Value.int IntKind.i64 (a (4 : Nat)))), (AV.v (Value.int IntKind.i64 (a (5 : Nat)))), (AV.v (Value.int IntKind.i64 (a (6 : Nat)))), (AV.v (Value.int IntKind.i64 (p (0 : Nat)))), (AV.v (Value.int IntKind.i64 (p (1 : Nat)))), (AV.v (Value.int IntKind.i64 (p (2 : Nat)))), (AV.v (Value.int IntKind.i64 (p (3 : Nat)))), (AV.v (Value.int IntKind.i64 (p (4 : Nat)))), (AV.v (Value.int IntKind.i64 (p (5 : Nat)))), (AV.v (Value.int IntKind.i64 (p (6 : Nat)))), (AV.v (Value.int IntKind.i64 (p (7 : Nat)))), (AV.v (Value.int IntKind.i64 (p (8 : Nat))))]), ((60 : Nat), [(AV.v (Value.int IntKind.i64 (0 : Int))), (AV.v (Value.int IntKind.i64 (0 : Int))), (AV.v (Value.int IntKind.i64 (0 : Int))), (AV.v (Value.int IntKind.i64 (0 : Int))), (AV.v (Value.int IntKind.i64 (0 : Int))), (AV.v (Value.int IntKind.i64 (0 : Int)))]), ((63 : Nat), [(AV.v (Value.int IntKind.i64 (a (0 : Nat)))), (AV.v (Value.int IntKind.i64 (a (1 : Nat)))), (AV.v (Value.int IntKind.i64 (a (2 : Nat)))), (AV.v (Value.int IntKind.i64 (a (3 : Nat)))), (AV.v (Value.int IntKind.i64 (a (4 : Nat)))), (AV.v (Value.int IntKind.i64 (a (5 : Nat)))), (AV.v (Value.int IntKind.i64 (a (6 : Nat))))]), ((63 : Nat), [(AV.v (Value.int IntKind.i64 (a (0 : Nat)))), (AV.v (Value.int IntKind.i64 (a (1 : Nat)))), (AV.v (Value.int IntKind.i64 (a (2 : Nat)))), (AV.v (Value.int IntKind.i64 (a (3 : Nat)))), (AV.v (Value.int IntKind.i64 (a (4 : Nat)))), (AV.v (Value.int IntKind.i64 (a (5 : Nat)))), (AV.v (Value.int IntKind.i64 (a (6 : Nat))))])] (@List.nil Nat) (0 : Nat) (0 : Nat) true (@List.nil (Prod Nat Bool)) True)))) else (bif (!(((2 : Int) == k) && ((((0 : Int) == (q (0 : Nat))) && (((0 : Int) == (q (1 : Nat))) && (((0 : Int) == (q (2 : Nat))) && (((0 : Int) == (q (3 : Nat))) && (((0 : Int) == (q (4 : Nat))) && (((0 : Int) == (q (5 : Nat))) && true)))))) && ((((a (0 : Nat)) == (a (0 : Nat))) && (((a (1 : Nat)) == (a (1 : Nat))) && (((a (2 : Nat)) == (a (2 : Nat))) && (((a (3 : Nat)) == (a (3 : Nat))) && (((a (4 : Nat)) == (a (4 : Nat))) && (((a (5 : Nat)) == (a (5 : Nat))) && (((a (6 : Nat)) == (a (6 : Nat))) && true))))))) && ((((0 : Int) == (p (0 : Nat))) && (((0 : Int) == (p (1 : Nat))) && ((((0 : Int) == (p (2 : Nat))) && (((0 : Int) == (p (3 : Nat))) && (((0 : Int) == (p (4 : Nat))) && (((0 : Int) == (p (5 : Nat))) && (((0 : Int) == (p (6 : Nat))) && (((0 : Int) == (p (7 : Nat))) && (((0 : Int) == (p (8 : Nat))) && true))))))) && true))) && true))))) then (some ((True ∧ ((some ((31 : Nat), [(AV.v (Value.int IntKind.i64 k)), (AV.v (Value.int IntKind.i64 (q (0 : Nat)))), (AV.v (Value.int IntKind.i64 (q (1 : Nat)))), (AV.v (Value.int IntKind.i64 (q (2 : Nat)))), (AV.v (Value.int IntKind.i64 (q (3 : Nat)))), (AV.v (Value.int IntKind.i64 (q (4 : Nat)))), (AV.v (Value.int IntKind.i64 (q (5 : Nat)))), (AV.v (Value.int IntKind.i64 (a (0 : Nat)))), (AV.v (Value.int IntKind.i64 (a (1 : Nat)))), (AV.v (Value.int IntKind.i64 (a (2 : Nat)))), (AV.v (Value.int IntKind.i64 (a (3 : Nat)))), (AV.v (Value.int IntKind.i64 (a (4 : Nat)))), (AV.v (Value.int IntKind.i64 (a (5 : Nat)))), (AV.v (Value.int IntKind.i64 (a (6 : Nat)))), (AV.v (Value.int IntKind.i64 (p (0 : Nat)))), (AV.v (Value.int IntKind.i64 (p (1 : Nat)))), (AV.v (Value.int IntKind.i64 (p (2 : Nat)))), (AV.v (Value.int IntKind.i64 (p (3 : Nat)))), (AV.v (Value.int IntKind.i64 (p (4 : Nat)))), (AV.v (Value.int IntKind.i64 (p (5 : Nat)))), (AV.v (Value.int IntKind.i64 (p (6 : Nat)))), (AV.v (Value.int IntKind.i64 (p (7 : Nat)))), (AV.v (Value.int IntKind.i64 (p (8 : Nat))))])) = (some ((31 : Nat), [(AV.v (Value.int IntKind.i64 k)), (AV.v (Value.int IntKind.i64 (q (0 : Nat)))), (AV.v (Value.int IntKind.i64 (q (1 : Nat)))), (AV.v (Value.int IntKind.i64 (q (2 : Nat)))), (AV.v (Value.int IntKind.i64 (q (3 : Nat)))), (AV.v (Value.int IntKind.i64 (q (4 : Nat)))), (AV.v (Value.int IntKind.i64 (q (5 : Nat)))), (AV.v (Value.int IntKind.i64 (a (0 : Nat)))), (AV.v (Value.int IntKind.i64 (a (1 : Nat)))), (AV.v (Value.int IntKind.i64 (a (2 : Nat)))), (AV.v (Value.int IntKind.i64 (a (3 : Nat)))), (AV.v (Value.int IntKind.i64 (a (4 : Nat)))), (AV.v (Value.int IntKind.i64 (a (5 : Nat)))), (AV.v (Value.int IntKind.i64 (a (6 : Nat)))), (AV.v (Value.int IntKind.i64 (p (0 : Nat)))), (AV.v (Value.int IntKind.i64 (p (1 : Nat)))), (AV.v (Value.int IntKind.i64 (p (2 : Nat)))), (AV.v (Value.int IntKind.i64 (p (3 : Nat)))), (AV.v (Value.int IntKind.i64 (p (4 : Nat)))), (AV.v (Value.int IntKind.i64 (p (5 : Nat)))), (AV.v (Value.int IntKind.i64 (p (6 : Nat)))), (AV.v (Value.int IntKind.i64 (p (7 : Nat)))), (AV.v (Value.int IntKind.i64 (p (8 : Nat))))])))) ∧ (R Exit.ret [AV.dead, AV.dead, (AV.ptr (1 : Nat) (0 : Nat)), (AV.ptr (2 : Nat) (0 : Nat)), AV.dead, AV.dead, AV.dead, AV.dead, AV.dead, AV.dead, AV.dead, AV.dead, AV.dead, AV.dead, AV.dead, AV.dead, AV.dead, AV.dead, AV.dead, AV.dead, AV.dead, AV.dead, AV.dead, AV.dead, AV.dead, AV.dead, AV.dead, AV.dead, AV.dead, AV.dead] (AH.mk [((31 : Nat), [(AV.v (Value.int IntKind.i64 k)), (AV.v (Value.int IntKind.i64 (q (0 : Nat)))), (AV.v (Value.int IntKind.i64 (q (1 : Nat)))), (AV.v (Value.int IntKind.i64 (q (2 : Nat)))), (AV.v (Value.int IntKind.i64 (q (3 : Nat)))), (AV.v (Value.int IntKind.i64 (q (4 : Nat)))), (AV.v (Value.int IntKind.i64 (q (5 : Nat)))), (AV.v (Value.int IntKind.i64 (a (0 : Nat)))), (AV.v (Value.int IntKind.i64 (a (1 : Nat)))), (AV.v (Value.int IntKind.i64 (a (2 : Nat)))), (AV.v (Value.int IntKind.i64 (a (3 : Nat)))), (AV.v (Value.int IntKind.i64 (a (4 : Nat)))), (AV.v (Value.int IntKind.i64 (a (5 : Nat)))), (AV.v (Value.int IntKind.i64 (a (6 : Nat)))), (AV.v (Value.int IntKind.i64 (p (0 : Nat)))), (AV.v (Value.int IntKind.i64 (p (1 : Nat)))), (AV.v (Value.int IntKind.i64 (p (2 : Nat)))), (AV.v (Value.int IntKind.i64 (p (3 : Nat)))), (AV.v (Value.int IntKind.i64 (p (4 : Nat)))), (AV.v (Value.int IntKind.i64 (p (5 : Nat)))), (AV.v (Value.int IntKind.i64 (p (6 : Nat)))), (AV.v (Value.int IntKind.i64 (p (7 : Nat)))), (AV.v (Value.int IntKind.i64 (p (8 : Nat))))]), ((9 : Nat), [(AV.v (Value.string (ByteArray.mk (Array.mk (@List.nil UInt8)))))]), ((33 : Nat), [(AV.v (Value.int IntKind.i64 (1 : Int)))]), ((31 : Nat), [(AV.v (Value.int IntKind.i64 k)), (AV.v (Value.int IntKind.i64 (q (0 : Nat)))), (AV.v (Value.int IntKind.i64 (q (1 : Nat)))), (AV.v (Value.int IntKind.i64 (q (2 : Nat)))), (AV.v (Value.int IntKind.i64 (q (3 : Nat)))), (AV.v (Value.int IntKind.i64 (q (4 : Nat)))), (AV.v (Value.int IntKind.i64 (q (5 : Nat)))), (AV.v (Value.int IntKind.i64 (a (0 : Nat)))), (AV.v (Value.int IntKind.i64 (a (1 : Nat)))), (AV.v (Value.int IntKind.i64 (a (2 : Nat)))), (AV.v (Value.int IntKind.i64 (a (3 : Nat)))), (AV.v (Value.int IntKind.i64 (a (4 : Nat)))), (AV.v (Value.int IntKind.i64 (a (5 : Nat)))), (AV.v (Value.int IntKind.i64 (a (6 : Nat)))), (AV.v (Value.int IntKind.i64 (p (0 : Nat)))), (AV.v (Value.int IntKind.i64 (p (1 : Nat)))), (AV.v (Value.int IntKind.i64 (p (2 : Nat)))), (AV.v (Value.int IntKind.i64 (p (3 : Nat)))), (AV.v (Value.int IntKind.i64 (p (4 : Nat)))), (AV.v (Value.int IntKind.i64 (p (5 : Nat)))), (AV.v (Value.int IntKind.i64 (p (6 : Nat)))), (AV.v (Value.int IntKind.i64 (p (7 : Nat)))), (AV.v (Value.int IntKind.i64 (p (8 : Nat))))]), ((60 : Nat), [(AV.v (Value.int IntKind.i64 (0 : Int))), (AV.v (Value.int IntKind.i64 (0 : Int))), (AV.v (Value.int IntKind.i64 (0 : Int))), (AV.v (Value.int IntKind.i64 (0 : Int))), (AV.v (Value.int IntKind.i64 (0 : Int))), (AV.v (Value.int IntKind.i64 (0 : Int)))]), ((63 : Nat), [(AV.v (Value.int IntKind.i64 (a (0 : Nat)))), (AV.v (Value.int IntKind.i64 (a (1 : Nat)))), (AV.v (Value.int IntKind.i64 (a (2 : Nat)))), (AV.v (Value.int IntKind.i64 (a (3 : Nat)))), (AV.v (Value.int IntKind.i64 (a (4 : Nat)))), (AV.v (Value.int IntKind.i64 (a (5 : Nat)))), (AV.v (Value.int IntKind.i64 (a (6 : Nat))))]), ((63 : Nat), [(AV.v (Value.int IntKind.i64 (a (0 : Nat)))), (AV.v (Value.int IntKind.i64 (a (1 : Nat)))), (AV.v (Value.int IntKind.i64 (a (2 : Nat)))), (AV.v (Value.int IntKind.i64 (a (3 : Nat)))), (AV.v (Value.int IntKind.i64 (a (4 : Nat)))), (AV.v (Value.int IntKind.i64 (a (5 : Nat)))), (AV.v (Value.int IntKind.i64 (a (6 : Nat))))]), ((63 : Nat), [(AV.v (Value.int IntKind.i64 (a (0 : Nat)))), (AV.v (Value.int IntKind.i64 (a (1 : Nat)))), (AV.v (Value.int IntKind.i64 (a (2 : Nat)))), (AV.v (Value.int IntKind.i64 (a (3 : Nat)))), (AV.v (Value.int IntKind.i64 (a (4 : Nat)))), (AV.v (Value.int IntKind.i64 (a (5 : Nat)))), (AV.v (Value.int IntKind.i64 (a (6 : Nat))))]), ((31 : Nat), [(AV.v (Value.int IntKind.i64 (2 : Int))), (AV.v (Value.int IntKind.i64 (0 : Int))), (AV.v (Value.int IntKind.i64 (0 : Int))), (AV.v (Value.int IntKind.i64 (0 : Int))), (AV.v (Value.int IntKind.i64 (0 : Int))), (AV.v (Value.int IntKind.i64 (0 : Int))), (AV.v (Value.int IntKind.i64 (0 : Int))), (AV.v (Value.int IntKind.i64 (a (0 : Nat)))), (AV.v (Value.int IntKind.i64 (a (1 : Nat)))), (AV.v (Value.int IntKind.i64 (a (2 : Nat)))), (AV.v (Value.int IntKind.i64 (a (3 : Nat)))), (AV.v (Value.int IntKind.i64 (a (4 : Nat)))), (AV.v (Value.int IntKind.i64 (a (5 : Nat)))), (AV.v (Value.int IntKind.i64 (a (6 : Nat)))), (AV.v (Value.int IntKind.i64 (0 : Int))), (AV.v (Value.int IntKind.i64 (0 : Int))), (AV.v (Value.int IntKind.i64 (0 : Int))), (AV.v (Value.int IntKind.i64 (0 : Int))), (AV.v (Value.int IntKind.i64 (0 : Int))), (AV.v (Value.int IntKind.i64 (0 : Int))), (AV.v (Value.int IntKind.i64 (0 : Int))), (AV.v (Value.int IntKind.i64 (0 : Int))), (AV.v (Value.int IntKind.i64 (0 : Int)))])] (@List.nil Nat) (0 : Nat) (0 : Nat) true (@List.nil (Prod Nat Bool)) True)))) else (some ((True ∧ ((some ((31 : Nat), [(AV.v (Value.int IntKind.i64 k)), (AV.v (Value.int IntKind.i64 (q (0 : Nat)))), (AV.v (Value.int IntKind.i64 (q (1 : Nat)))), (AV.v (Value.int IntKind.i64 (q (2 : Nat)))), (AV.v (Value.int IntKind.i64 (q (3 : Nat)))), (AV.v (Value.int IntKind.i64 (q (4 : Nat)))), (AV.v (Value.int IntKind.i64 (q (5 : Nat)))), (AV.v (Value.int IntKind.i64 (a (0 : Nat)))), (AV.v (Value.int IntKind.i64 (a (1 : Nat)))), (AV.v (Value.int IntKind.i64 (a (2 : Nat)))), (AV.v (Value.int IntKind.i64 (a (3 : Nat)))), (AV.v (Value.int IntKind.i64 (a (4 : Nat)))), (AV.v (Value.int IntKind.i64 (a (5 : Nat)))), (AV.v (Value.int IntKind.i64 (a (6 : Nat)))), (AV.v (Value.int IntKind.i64 (p (0 : Nat)))), (AV.v (Value.int IntKind.i64 (p (1 : Nat)))), (AV.v (Value.int IntKind.i64 (p (2 : Nat)))), (AV.v (Value.int IntKind.i64 (p (3 : Nat)))), (AV.v (Value.int IntKind.i64 (p (4 : Nat)))), (AV.v (Value.int IntKind.i64 (p (5 : Nat)))), (AV.v (Value.int IntKind.i64 (p (6 : Nat)))), (AV.v (Value.int IntKind.i64 (p (7 : Nat)))), (AV.v (Value.int IntKind.i64 (p (8 : Nat))))])) = (some ((31 : Nat), [(AV.v (Value.int IntKind.i64 k)), (AV.v (Value.int IntKind.i64 (q (0 : Nat)))), (AV.v (Value.int IntKind.i64 (q (1 : Nat)))), (AV.v (Value.int IntKind.i64 (q (2 : Nat)))), (AV.v (Value.int IntKind.i64 (q (3 : Nat)))), (AV.v (Value.int IntKind.i64 (q (4 : Nat)))), (AV.v (Value.int IntKind.i64 (q (5 : Nat)))), (AV.v (Value.int IntKind.i64 (a (0 : Nat)))), (AV.v (Value.int IntKind.i64 (a (1 : Nat)))), (AV.v (Value.int IntKind.i64 (a (2 : Nat)))), (AV.v (Value.int IntKind.i64 (a (3 : Nat)))), (AV.v (Value.int IntKind.i64 (a (4 : Nat)))), (AV.v (Value.int IntKind.i64 (a (5 : Nat)))), (AV.v (Value.int IntKind.i64 (a (6 : Nat)))), (AV.v (Value.int IntKind.i64 (p (0 : Nat)))), (AV.v (Value.int IntKind.i64 (p (1 : Nat)))), (AV.v (Value.int IntKind.i64 (p (2 : Nat)))), (AV.v (Value.int IntKind.i64 (p (3 : Nat)))), (AV.v (Value.int IntKind.i64 (p (4 : Nat)))), (AV.v (Value.int IntKind.i64 (p (5 : Nat)))), (AV.v (Value.int IntKind.i64 (p (6 : Nat)))), (AV.v (Value.int IntKind.i64 (p (7 : Nat)))), (AV.v (Value.int IntKind.i64 (p (8 : Nat))))])))) ∧ (R Exit.ret [AV.dead, AV.dead, (AV.ptr (1 : Nat) (0 : Nat)), (AV.ptr (2 : Nat) (0 : Nat)), AV.dead, AV.dead, AV.dead, AV.dead, AV.dead, AV.dead, AV.dead, AV.dead, AV.dead, AV.dead, AV.dead, AV.dead, AV.dead, AV.dead, AV.dead, AV.dead, AV.dead, AV.dead, AV.dead, AV.dead, AV.dead, AV.dead, AV.dead, AV.dead, AV.dead, AV.dead] (AH.mk [((31 : Nat), [(AV.v (Value.int IntKind.i64 k)), (AV.v (Value.int IntKind.i64 (q (0 : Nat)))), (AV.v (Value.int IntKind.i64 (q (1 : Nat)))), (AV.v (Value.int IntKind.i64 (q (2 : Nat)))), (AV.v (Value.int IntKind.i64 (q (3 : Nat)))), (AV.v (Value.int IntKind.i64 (q (4 : Nat)))), (AV.v (Value.int IntKind.i64 (q (5 : Nat)))), (AV.v (Value.int IntKind.i64 (a (0 : Nat)))), (AV.v (Value.int IntKind.i64 (a (1 : Nat)))), (AV.v (Value.int IntKind.i64 (a (2 : Nat)))), (AV.v (Value.int IntKind.i64 (a (3 : Nat)))), (AV.v (Value.int IntKind.i64 (a (4 : Nat)))), (AV.v (Value.int IntKind.i64 (a (5 : Nat)))), (AV.v (Value.int IntKind.i64 (a (6 : Nat)))), (AV.v (Value.int IntKind.i64 (p (0 : Nat)))), (AV.v (Value.int IntKind.i64 (p (1 : Nat)))), (AV.v (Value.int IntKind.i64 (p (2 : Nat)))), (AV.v (Value.int IntKind.i64 (p (3 : Nat)))), (AV.v (Value.int IntKind.i64 (p (4 : Nat)))), (AV.v (Value.int IntKind.i64 (p (5 : Nat)))), (AV.v (Value.int IntKind.i64 (p (6 : Nat)))), (AV.v (Value.int IntKind.i64 (p (7 : Nat)))), (AV.v (Value.int IntKind.i64 (p (8 : Nat))))]), ((9 : Nat), [(AV.v (Value.string ((S).7 (2 : Int) ((S).3 (A25.six [(a (0 : Nat)), (a (1 : Nat)), (a (2 : Nat)), (a (3 : Nat)), (a (4 : Nat)), (a (5 : Nat)), (a (6 : Nat))])))))]), ((33 : Nat), [(AV.v (Value.int IntKind.i64 ((S).8 (2 : Int) ((S).3 (A25.six [(a (0 : Nat)), (a (1 : Nat)), (a (2 : Nat)), (a (3 : Nat)), (a (4 : Nat)), (a (5 : Nat)), (a (6 : Nat))])))))]), ((31 : Nat), [(AV.v (Value.int IntKind.i64 k)), (AV.v (Value.int IntKind.i64 (q (0 : Nat)))), (AV.v (Value.int IntKind.i64 (q (1 : Nat)))), (AV.v (Value.int IntKind.i64 (q (2 : Nat)))), (AV.v (Value.int IntKind.i64 (q (3 : Nat)))), (AV.v (Value.int IntKind.i64 (q (4 : Nat)))), (AV.v (Value.int IntKind.i64 (q (5 : Nat)))), (AV.v (Value.int IntKind.i64 (a (0 : Nat)))), (AV.v (Value.int IntKind.i64 (a (1 : Nat)))), (AV.v (Value.int IntKind.i64 (a (2 : Nat)))), (AV.v (Value.int IntKind.i64 (a (3 : Nat)))), (AV.v (Value.int IntKind.i64 (a (4 : Nat)))), (AV.v (Value.int IntKind.i64 (a (5 : Nat)))), (AV.v (Value.int IntKind.i64 (a (6 : Nat)))), (AV.v (Value.int IntKind.i64 (p (0 : Nat)))), (AV.v (Value.int IntKind.i64 (p (1 : Nat)))), (AV.v (Value.int IntKind.i64 (p (2 : Nat)))), (AV.v (Value.int IntKind.i64 (p (3 : Nat)))), (AV.v (Value.int IntKind.i64 (p (4 : Nat)))), (AV.v (Value.int IntKind.i64 (p (5 : Nat)))), (AV.v (Value.int IntKind.i64 (p (6 : Nat)))), (AV.v (Value.int IntKind.i64 (p (7 : Nat)))), (AV.v (Value.int IntKind.i64 (p (8 : Nat))))]), ((60 : Nat), [(AV.v (Value.int IntKind.i64 (0 : Int))), (AV.v (Value.int IntKind.i64 (0 : Int))), (AV.v (Value.int IntKind.i64 (0 : Int))), (AV.v (Value.int IntKind.i64 (0 : Int))), (AV.v (Value.int IntKind.i64 (0 : Int))), (AV.v (Value.int IntKind.i64 (0 : Int)))]), ((63 : Nat), [(AV.v (Value.int IntKind.i64 (a (0 : Nat)))), (AV.v (Value.int IntKind.i64 (a (1 : Nat)))), (AV.v (Value.int IntKind.i64 (a (2 : Nat)))), (AV.v (Value.int IntKind.i64 (a (3 : Nat)))), (AV.v (Value.int IntKind.i64 (a (4 : Nat)))), (AV.v (Value.int IntKind.i64 (a (5 : Nat)))), (AV.v (Value.int IntKind.i64 (a (6 : Nat))))]), ((63 : Nat), [(AV.v (Value.int IntKind.i64 (a (0 : Nat)))), (AV.v (Value.int IntKind.i64 (a (1 : Nat)))), (AV.v (Value.int IntKind.i64 (a (2 : Nat)))), (AV.v (Value.int IntKind.i64 (a (3 : Nat)))), (AV.v (Value.int IntKind.i64 (a (4 : Nat)))), (AV.v (Value.int IntKind.i64 (a (5 : Nat)))), (AV.v (Value.int IntKind.i64 (a (6 : Nat))))]), ((63 : Nat), [(AV.v (Value.int IntKind.i64 (a (0 : Nat)))), (AV.v (Value.int IntKind.i64 (a (1 : Nat)))), (AV.v (Value.int IntKind.i64 (a (2 : Nat)))), (AV.v (Value.int IntKind.i64 (a (3 : Nat)))), (AV.v (Value.int IntKind.i64 (a (4 : Nat)))), (AV.v (Value.int IntKind.i64 (a (5 : Nat)))), (AV.v (Value.int IntKind.i64 (a (6 : Nat))))]), ((31 : Nat), [(AV.v (Value.int IntKind.i64 (2 : Int))), (AV.v (Value.int IntKind.i64 (0 : Int))), (AV.v (Value.int IntKind.i64 (0 : Int))), (AV.v (Value.int IntKind.i64 (0 : Int))), (AV.v (Value.int IntKind.i64 (0 : Int))), (AV.v (Value.int IntKind.i64 (0 : Int))), (AV.v (Value.int IntKind.i64 (0 : Int))), (AV.v (Value.int IntKind.i64 (a (0 : Nat)))), (AV.v (Value.int IntKind.i64 (a (1 : Nat)))), (AV.v (Value.int IntKind.i64 (a (2 : Nat)))), (AV.v (Value.int IntKind.i64 (a (3 : Nat)))), (AV.v (Value.int IntKind.i64 (a (4 : Nat)))), (AV.v (Value.int IntKind.i64 (a (5 : Nat)))), (AV.v (Value.int IntKind.i64 (a (6 : Nat)))), (AV.v (Value.int IntKind.i64 (0 : Int))), (AV.v (Value.int IntKind.i64 (0 : Int))), (AV.v (Value.int IntKind.i64 (0 : Int))), (AV.v (Value.int IntKind.i64 (0 : Int))), (AV.v (Value.int IntKind.i64 (0 : Int))), (AV.v (Value.int IntKind.i64 (0 : Int))), (AV.v (Value.int IntKind.i64 (0 : Int))), (AV.v (Value.int IntKind.i64 (0 : Int))), (AV.v (Value.int IntKind.i64 (0 : Int)))])] (@List.nil Nat) (0 : Nat) (0 : Nat) true (@List.nil (Prod Nat Bool)) True)))))) else (bif (k == (3 : Int)) then (bif (((S).6 (P26.nine [(p (0 : Nat)), (p (1 : Nat)), (p (2 : Nat)), (p (3 : Nat)), (p (4 : Nat)), (p (5 : Nat)), (p (6 : Nat)), (p (7 : Nat)), (p (8 : Nat))])) != (0 : Int)) then (some (True ∧ (R Exit.ret [AV.dead, AV.dead, (AV.ptr (1 : Nat) (0 : Nat)), (AV.ptr (2 : Nat) (0 : Nat)), AV.dead, AV.dead, AV.dead, AV.dead, AV.dead, AV.dead, AV.dead, AV.dead, AV.dead, AV.dead, AV.dead, AV.dead, AV.dead, AV.dead, AV.dead, AV.dead, AV.dead, AV.dead, AV.dead, AV.dead, AV.dead, AV.dead, AV.dead, AV.dead, AV.dead, AV.dead] (AH.mk [((31 : Nat), [(AV.v (Value.int IntKind.i64 k)), (AV.v (Value.int IntKind.i64 (q (0 : Nat)))), (AV.v (Value.int IntKind.i64 (q (1 : Nat)))), (AV.v (Value.int IntKind.i64 (q (2 : Nat)))), (AV.v (Value.int IntKind.i64 (q (3 : Nat)))), (AV.v (Value.int IntKind.i64 (q (4 : Nat)))), (AV.v (Value.int IntKind.i64 (q (5 : Nat)))), (AV.v (Value.int IntKind.i64 (a (0 : Nat)))), (AV.v (Value.int IntKind.i64 (a (1 : Nat)))), (AV.v (Value.int IntKind.i64 (a (2 : Nat)))), (AV.v (Value.int IntKind.i64 (a (3 : Nat)))), (AV.v (Value.int IntKind.i64 (a (4 : Nat)))), (AV.v (Value.int IntKind.i64 (a (5 : Nat)))), (AV.v (Value.int IntKind.i64 (a (6 : Nat)))), (AV.v (Value.int IntKind.i64 (p (0 : Nat)))), (AV.v (Value.int IntKind.i64 (p (1 : Nat)))), (AV.v (Value.int IntKind.i64 (p (2 : Nat)))), (AV.v (Value.int IntKind.i64 (p (3 : Nat)))), (AV.v (Value.int IntKind.i64 (p (4 : Nat)))), (AV.v (Value.int IntKind.i64 (p (5 : Nat)))), (AV.v (Value.int IntKind.i64 (p (6 : Nat)))), (AV.v (Value.int IntKind.i64 (p (7 : Nat)))), (AV.v (Value.int IntKind.i64 (p (8 : Nat))))]), ((9 : Nat), [(AV.v (Value.string (ByteArray.mk (Array.mk (@List.nil UInt8)))))]), ((33 : Nat), [(AV.v (Value.int IntKind.i64 (1 : Int)))]), ((31 : Nat), [(AV.v (Value.int IntKind.i64 k)), (AV.v (Value.int IntKind.i64 (q (0 : Nat)))), (AV.v (Value.int IntKind.i64 (q (1 : Nat)))), (AV.v (Value.int IntKind.i64 (q (2 : Nat)))), (AV.v (Value.int IntKind.i64 (q (3 : Nat)))), (AV.v (Value.int IntKind.i64 (q (4 : Nat)))), (AV.v (Value.int IntKind.i64 (q (5 : Nat)))), (AV.v (Value.int IntKind.i64 (a (0 : Nat)))), (AV.v (Value.int IntKind.i64 (a (1 : Nat)))), (AV.v (Value.int IntKind.i64 (a (2 : Nat)))), (AV.v (Value.int IntKind.i64 (a (3 : Nat)))), (AV.v (Value.int IntKind.i64 (a (4 : Nat)))), (AV.v (Value.int IntKind.i64 (a (5 : Nat)))), (AV.v (Value.int IntKind.i64 (a (6 : Nat)))), (AV.v (Value.int IntKind.i64 (p (0 : Nat)))), (AV.v (Value.int IntKind.i64 (p (1 : Nat)))), (AV.v (Value.int IntKind.i64 (p (2 : Nat)))), (AV.v (Value.int IntKind.i64 (p (3 : Nat)))), (AV.v (Value.int IntKind.i64 (p (4 : Nat)))), (AV.v (Value.int IntKind.i64 (p (5 : Nat)))), (AV.v (Value.int IntKind.i64 (p (6 : Nat)))), (AV.v (Value.int IntKind.i64 (p (7 : Nat)))), (AV.v (Value.int IntKind.i64 (p (8 : Nat))))]), ((60 : Nat), [(AV.v (Value.int IntKind.i64 (0 : Int))), (AV.v (Value.int IntKind.i64 (0 : Int))), (AV.v (Value.int IntKind.i64 (0 : Int))), (AV.v (Value.int IntKind.i64 (0 : Int))), (AV.v (Value.int IntKind.i64 (0 : Int))), (AV.v (Value.int IntKind.i64 (0 : Int)))]), ((63 : Nat), [(AV.v (Value.int IntKind.i64 (0 : Int))), (AV.v (Value.int IntKind.i64 (0 : Int))), (AV.v (Value.int IntKind.i64 (0 : Int))), (AV.v (Value.int IntKind.i64 (0 : Int))), (AV.v (Value.int IntKind.i64 (0 : Int))), (AV.v (Value.int IntKind.i64 (0 : Int))), (AV.v (Value.int IntKind.i64 (0 : Int)))]), ((67 : Nat), [(AV.v (Value.int IntKind.i64 (p (0 : Nat)))), (AV.v (Value.int IntKind.i64 (p (1 : Nat)))), (AV.v (Value.int IntKind.i64 (p (2 : Nat)))), (AV.v (Value.int IntKind.i64 (p (3 : Nat)))), (AV.v (Value.int IntKind.i64 (p (4 : Nat)))), (AV.v (Value.int IntKind.i64 (p (5 : Nat)))), (AV.v (Value.int IntKind.i64 (p (6 : Nat)))), (AV.v (Value.int IntKind.i64 (p (7 : Nat)))), (AV.v (Value.int IntKind.i64 (p (8 : Nat))))])] (@List.nil Nat) (0 : Nat) (0 : Nat) true (@List.nil (Prod Nat Bool)) True)))) else (bif (!(((3 : Int) == k) && ((((0 : Int) == (q (0 : Nat))) && (((0 : Int) == (q (1 : Nat))) && (((0 : Int) == (q (2 : Nat))) && (((0 : Int) == (q (3 : Nat))) && (((0 : Int) == (q (4 : Nat))) && (((0 : Int) == (q (5 : Nat))) && true)))))) && ((((0 : Int) == (a (0 : Nat))) && (((0 : Int) == (a (1 : Nat))) && (((0 : Int) == (a (2 : Nat))) && (((0 : Int) == (a (3 : Nat))) && (((0 : Int) == (a (4 : Nat))) && (((0 : Int) == (a (5 : Nat))) && (((0 : Int) == (a (6 : Nat))) && true))))))) && ((((p (0 : Nat)) == (p (0 : Nat))) && (((p (1 : Nat)) == (p (1 : Nat))) && ((((p (2 : Nat)) == (p (2 : Nat))) && (((p (3 : Nat)) == (p (3 : Nat))) && (((p (4 : Nat)) == (p (4 : Nat))) && (((p (5 : Nat)) == (p (5 : Nat))) && (((p (6 : Nat)) == (p (6 : Nat))) && (((p (7 : Nat)) == (p (7 : Nat))) && (((p (8 : Nat)) == (p (8 : Nat))) && true))))))) && true))) && true))))) then (some ((True ∧ ((some ((31 : Nat), [(AV.v (Value.int IntKind.i64 k)), (AV.v (Value.int IntKind.i64 (q (0 : Nat)))), (AV.v (Value.int IntKind.i64 (q (1 : Nat)))), (AV.v (Value.int IntKind.i64 (q (2 : Nat)))), (AV.v (Value.int IntKind.i64 (q (3 : Nat)))), (AV.v (Value.int IntKind.i64 (q (4 : Nat)))), (AV.v (Value.int IntKind.i64 (q (5 : Nat)))), (AV.v (Value.int IntKind.i64 (a (0 : Nat)))), (AV.v (Value.int IntKind.i64 (a (1 : Nat)))), (AV.v (Value.int IntKind.i64 (a (2 : Nat)))), (AV.v (Value.int IntKind.i64 (a (3 : Nat)))), (AV.v (Value.int IntKind.i64 (a (4 : Nat)))), (AV.v (Value.int IntKind.i64 (a (5 : Nat)))), (AV.v (Value.int IntKind.i64 (a (6 : Nat)))), (AV.v (Value.int IntKind.i64 (p (0 : Nat)))), (AV.v (Value.int IntKind.i64 (p (1 : Nat)))), (AV.v (Value.int IntKind.i64 (p (2 : Nat)))), (AV.v (Value.int IntKind.i64 (p (3 : Nat)))), (AV.v (Value.int IntKind.i64 (p (4 : Nat)))), (AV.v (Value.int IntKind.i64 (p (5 : Nat)))), (AV.v (Value.int IntKind.i64 (p (6 : Nat)))), (AV.v (Value.int IntKind.i64 (p (7 : Nat)))), (AV.v (Value.int IntKind.i64 (p (8 : Nat))))])) = (some ((31 : Nat), [(AV.v (Value.int IntKind.i64 k)), (AV.v (Value.int IntKind.i64 (q (0 : Nat)))), (AV.v (Value.int IntKind.i64 (q (1 : Nat)))), (AV.v (Value.int IntKind.i64 (q (2 : Nat)))), (AV.v (Value.int IntKind.i64 (q (3 : Nat)))), (AV.v (Value.int IntKind.i64 (q (4 : Nat)))), (AV.v (Value.int IntKind.i64 (q (5 : Nat)))), (AV.v (Value.int IntKind.i64 (a (0 : Nat)))), (AV.v (Value.int IntKind.i64 (a (1 : Nat)))), (AV.v (Value.int IntKind.i64 (a (2 : Nat)))), (AV.v (Value.int IntKind.i64 (a (3 : Nat)))), (AV.v (Value.int IntKind.i64 (a (4 : Nat)))), (AV.v (Value.int IntKind.i64 (a (5 : Nat)))), (AV.v (Value.int IntKind.i64 (a (6 : Nat)))), (AV.v (Value.int IntKind.i64 (p (0 : Nat)))), (AV.v (Value.int IntKind.i64 (p (1 : Nat)))), (AV.v (Value.int IntKind.i64 (p (2 : Nat)))), (AV.v (Value.int IntKind.i64 (p (3 : Nat)))), (AV.v (Value.int IntKind.i64 (p (4 : Nat)))), (AV.v (Value.int IntKind.i64 (p (5 : Nat)))), (AV.v (Value.int IntKind.i64 (p (6 : Nat)))), (AV.v (Value.int IntKind.i64 (p (7 : Nat)))), (AV.v (Value.int IntKind.i64 (p (8 : Nat))))])))) ∧ (R Exit.ret [AV.dead, AV.dead, (AV.ptr (1 : Nat) (0 : Nat)), (AV.ptr (2 : Nat) (0 : Nat)), AV.dead, AV.dead, AV.dead, AV.dead, AV.dead, AV.dead, AV.dead, AV.dead, AV.dead, AV.dead, AV.dead, AV.dead, AV.dead, AV.dead, AV.dead, AV.dead, AV.dead, AV.dead, AV.dead, AV.dead, AV.dead, AV.dead, AV.dead, AV.dead, AV.dead, AV.dead] (AH.mk [((31 : Nat), [(AV.v (Value.int IntKind.i64 k)), (AV.v (Value.int IntKind.i64 (q (0 : Nat)))), (AV.v (Value.int IntKind.i64 (q (1 : Nat)))), (AV.v (Value.int IntKind.i64 (q (2 : Nat)))), (AV.v (Value.int IntKind.i64 (q (3 : Nat)))), (AV.v (Value.int IntKind.i64 (q (4 : Nat)))), (AV.v (Value.int IntKind.i64 (q (5 : Nat)))), (AV.v (Value.int IntKind.i64 (a (0 : Nat)))), (AV.v (Value.int IntKind.i64 (a (1 : Nat)))), (AV.v (Value.int IntKind.i64 (a (2 : Nat)))), (AV.v (Value.int IntKind.i64 (a (3 : Nat)))), (AV.v (Value.int IntKind.i64 (a (4 : Nat)))), (AV.v (Value.int IntKind.i64 (a (5 : Nat)))), (AV.v (Value.int IntKind.i64 (a (6 : Nat)))), (AV.v (Value.int IntKind.i64 (p (0 : Nat)))), (AV.v (Value.int IntKind.i64 (p (1 : Nat)))), (AV.v (Value.int IntKind.i64 (p (2 : Nat)))), (AV.v (Value.int IntKind.i64 (p (3 : Nat)))), (AV.v (Value.int IntKind.i64 (p (4 : Nat)))), (AV.v (Value.int IntKind.i64 (p (5 : Nat)))), (AV.v (Value.int IntKind.i64 (p (6 : Nat)))), (AV.v (Value.int IntKind.i64 (p (7 : Nat)))), (AV.v (Value.int IntKind.i64 (p (8 : Nat))))]), ((9 : Nat), [(AV.v (Value.string (ByteArray.mk (Array.mk (@List.nil UInt8)))))]), ((33 : Nat), [(AV.v (Value.int IntKind.i64 (1 : Int)))]), ((31 : Nat), [(AV.v (Value.int IntKind.i64 k)), (AV.v (Value.int IntKind.i64 (q (0 : Nat)))), (AV.v (Value.int IntKind.i64 (q (1 : Nat)))), (AV.v (Value.int IntKind.i64 (q (2 : Nat)))), (AV.v (Value.int IntKind.i64 (q (3 : Nat)))), (AV.v (Value.int IntKind.i64 (q (4 : Nat)))), (AV.v (Value.int IntKind.i64 (q (5 : Nat)))), (AV.v (Value.int IntKind.i64 (a (0 : Nat)))), (AV.v (Value.int IntKind.i64 (a (1 : Nat)))), (AV.v (Value.int IntKind.i64 (a (2 : Nat)))), (AV.v (Value.int IntKind.i64 (a (3 : Nat)))), (AV.v (Value.int IntKind.i64 (a (4 : Nat)))), (AV.v (Value.int IntKind.i64 (a (5 : Nat)))), (AV.v (Value.int IntKind.i64 (a (6 : Nat)))), (AV.v (Value.int IntKind.i64 (p (0 : Nat)))), (AV.v (Value.int IntKind.i64 (p (1 : Nat)))), (AV.v (Value.int IntKind.i64 (p (2 : Nat)))), (AV.v (Value.int IntKind.i64 (p (3 : Nat)))), (AV.v (Value.int IntKind.i64 (p (4 : Nat)))), (AV.v (Value.int IntKind.i64 (p (5 : Nat)))), (AV.v (Value.int IntKind.i64 (p (6 : Nat)))), (AV.v (Value.int IntKind.i64 (p (7 : Nat)))), (AV.v (Value.int IntKind.i64 (p (8 : Nat))))]), ((60 : Nat), [(AV.v (Value.int IntKind.i64 (0 : Int))), (AV.v (Value.int IntKind.i64 (0 : Int))), (AV.v (Value.int IntKind.i64 (0 : Int))), (AV.v (Value.int IntKind.i64 (0 : Int))), (AV.v (Value.int IntKind.i64 (0 : Int))), (AV.v (Value.int IntKind.i64 (0 : Int)))]), ((63 : Nat), [(AV.v (Value.int IntKind.i64 (0 : Int))), (AV.v (Value.int IntKind.i64 (0 : Int))), (AV.v (Value.int IntKind.i64 (0 : Int))), (AV.v (Value.int IntKind.i64 (0 : Int))), (AV.v (Value.int IntKind.i64 (0 : Int))), (AV.v (Value.int IntKind.i64 (0 : Int))), (AV.v (Value.int IntKind.i64 (0 : Int)))]), ((67 : Nat), [(AV.v (Value.int IntKind.i64 (p (0 : Nat)))), (AV.v (Value.int IntKind.i64 (p (1 : Nat)))), (AV.v (Value.int IntKind.i64 (p (2 : Nat)))), (AV.v (Value.int IntKind.i64 (p (3 : Nat)))), (AV.v (Value.int IntKind.i64 (p (4 : Nat)))), (AV.v (Value.int IntKind.i64 (p (5 : Nat)))), (AV.v (Value.int IntKind.i64 (p (6 : Nat)))), (AV.v (Value.int IntKind.i64 (p (7 : Nat)))), (AV.v (Value.int IntKind.i64 (p (8 : Nat))))]), ((67 : Nat), [(AV.v (Value.int IntKind.i64 (p (0 : Nat)))), (AV.v (Value.int IntKind.i64 (p (1 : Nat)))), (AV.v (Value.int IntKind.i64 (p (2 : Nat)))), (AV.v (Value.int IntKind.i64 (p (3 : Nat)))), (AV.v (Value.int IntKind.i64 (p (4 : Nat)))), (AV.v (Value.int IntKind.i64 (p (5 : Nat)))), (AV.v (Value.int IntKind.i64 (p (6 : Nat)))), (AV.v (Value.int IntKind.i64 (p (7 : Nat)))), (AV.v (Value.int IntKind.i64 (p (8 : Nat))))]), ((31 : Nat), [(AV.v (Value.int IntKind.i64 (3 : Int))), (AV.v (Value.int IntKind.i64 (0 : Int))), (AV.v (Value.int IntKind.i64 (0 : Int))), (AV.v (Value.int IntKind.i64 (0 : Int))), (AV.v (Value.int IntKind.i64 (0 : Int))), (AV.v (Value.int IntKind.i64 (0 : Int))), (AV.v (Value.int IntKind.i64 (0 : Int))), (AV.v (Value.int IntKind.i64 (0 : Int))), (AV.v (Value.int IntKind.i64 (0 : Int))), (AV.v (Value.int IntKind.i64 (0 : Int))), (AV.v (Value.int IntKind.i64 (0 : Int))), (AV.v (Value.int IntKind.i64 (0 : Int))), (AV.v (Value.int IntKind.i64 (0 : Int))), (AV.v (Value.int IntKind.i64 (0 : Int))), (AV.v (Value.int IntKind.i64 (p (0 : Nat)))), (AV.v (Value.int IntKind.i64 (p (1 : Nat)))), (AV.v (Value.int IntKind.i64 (p (2 : Nat)))), (AV.v (Value.int IntKind.i64 (p (3 : Nat)))), (AV.v (Value.int IntKind.i64 (p (4 : Nat)))), (AV.v (Value.int IntKind.i64 (p (5 : Nat)))), (AV.v (Value.int IntKind.i64 (p (6 : Nat)))), (AV.v (Value.int IntKind.i64 (p (7 : Nat)))), (AV.v (Value.int IntKind.i64 (p (8 : Nat))))])] (@List.nil Nat) (0 : Nat) (0 : Nat) true (@List.nil (Prod Nat Bool)) True)))) else (some ((True ∧ ((some ((31 : Nat), [(AV.v (Value.int IntKind.i64 k)), (AV.v (Value.int IntKind.i64 (q (0 : Nat)))), (AV.v (Value.int IntKind.i64 (q (1 : Nat)))), (AV.v (Value.int IntKind.i64 (q (2 : Nat)))), (AV.v (Value.int IntKind.i64 (q (3 : Nat)))), (AV.v (Value.int IntKind.i64 (q (4 : Nat)))), (AV.v (Value.int IntKind.i64 (q (5 : Nat)))), (AV.v (Value.int IntKind.i64 (a (0 : Nat)))), (AV.v (Value.int IntKind.i64 (a (1 : Nat)))), (AV.v (Value.int IntKind.i64 (a (2 : Nat)))), (AV.v (Value.int IntKind.i64 (a (3 : Nat)))), (AV.v (Value.int IntKind.i64 (a (4 : Nat)))), (AV.v (Value.int IntKind.i64 (a (5 : Nat)))), (AV.v (Value.int IntKind.i64 (a (6 : Nat)))), (AV.v (Value.int IntKind.i64 (p (0 : Nat)))), (AV.v (Value.int IntKind.i64 (p (1 : Nat)))), (AV.v (Value.int IntKind.i64 (p (2 : Nat)))), (AV.v (Value.int IntKind.i64 (p (3 : Nat)))), (AV.v (Value.int IntKind.i64 (p (4 : Nat)))), (AV.v (Value.int IntKind.i64 (p (5 : Nat)))), (AV.v (Value.int IntKind.i64 (p (6 : Nat)))), (AV.v (Value.int IntKind.i64 (p (7 : Nat)))), (AV.v (Value.int IntKind.i64 (p (8 : Nat))))])) = (some ((31 : Nat), [(AV.v (Value.int IntKind.i64 k)), (AV.v (Value.int IntKind.i64 (q (0 : Nat)))), (AV.v (Value.int IntKind.i64 (q (1 : Nat)))), (AV.v (Value.int IntKind.i64 (q (2 : Nat)))), (AV.v (Value.int IntKind.i64 (q (3 : Nat)))), (AV.v (Value.int IntKind.i64 (q (4 : Nat)))), (AV.v (Value.int IntKind.i64 (q (5 : Nat)))), (AV.v (Value.int IntKind.i64 (a (0 : Nat)))), (AV.v (Value.int IntKind.i64 (a (1 : Nat)))), (AV.v (Value.int IntKind.i64 (a (2 : Nat)))), (AV.v (Value.int IntKind.i64 (a (3 : Nat)))), (AV.v (Value.int IntKind.i64 (a (4 : Nat)))), (AV.v (Value.int IntKind.i64 (a (5 : Nat)))), (AV.v (Value.int IntKind.i64 (a (6 : Nat)))), (AV.v (Value.int IntKind.i64 (p (0 : Nat)))), (AV.v (Value.int IntKind.i64 (p (1 : Nat)))), (AV.v (Value.int IntKind.i64 (p (2 : Nat)))), (AV.v (Value.int IntKind.i64 (p (3 : Nat)))), (AV.v (Value.int IntKind.i64 (p (4 : Nat)))), (AV.v (Value.int IntKind.i64 (p (5 : Nat)))), (AV.v (Value.int IntKind.i64 (p (6 : Nat)))), (AV.v (Value.int IntKind.i64 (p (7 : Nat)))), (AV.v (Value.int IntKind.i64 (p (8 : Nat))))])))) ∧ (R Exit.ret [AV.dead, AV.dead, (AV.ptr (1 : Nat) (0 : Nat)), (AV.ptr (2 : Nat) (0 : Nat)), AV.dead, AV.dead, AV.dead, AV.dead, AV.dead, AV.dead, AV.dead, AV.dead, AV.dead, AV.dead, AV.dead, AV.dead, AV.dead, AV.dead, AV.dead, AV.dead, AV.dead, AV.dead, AV.dead, AV.dead, AV.dead, AV.dead, AV.dead, AV.dead, AV.dead, AV.dead] (AH.mk [((31 : Nat), [(AV.v (Value.int IntKind.i64 k)), (AV.v (Value.int IntKind.i64 (q (0 : Nat)))), (AV.v (Value.int IntKind.i64 (q (1 : Nat)))), (AV.v (Value.int IntKind.i64 (q (2 : Nat)))), (AV.v (Value.int IntKind.i64 (q (3 : Nat)))), (AV.v (Value.int IntKind.i64 (q (4 : Nat)))), (AV.v (Value.int IntKind.i64 (q (5 : Nat)))), (AV.v (Value.int IntKind.i64 (a (0 : Nat)))), (AV.v (Value.int IntKind.i64 (a (1 : Nat)))), (AV.v (Value.int IntKind.i64 (a (2 : Nat)))), (AV.v (Value.int IntKind.i64 (a (3 : Nat)))), (AV.v (Value.int IntKind.i64 (a (4 : Nat)))), (AV.v (Value.int IntKind.i64 (a (5 : Nat)))), (AV.v (Value.int IntKind.i64 (a (6 : Nat)))), (AV.v (Value.int IntKind.i64 (p (0 : Nat)))), (AV.v (Value.int IntKind.i64 (p (1 : Nat)))), (AV.v (Value.int IntKind.i64 (p (2 : Nat)))), (AV.v (Value.int IntKind.i64 (p (3 : Nat)))), (AV.v (Value.int IntKind.i64 (p (4 : Nat)))), (AV.v (Value.int IntKind.i64 (p (5 : Nat)))), (AV.v (Value.int IntKind.i64 (p (6 : Nat)))), (AV.v (Value.int IntKind.i64 (p (7 : Nat)))), (AV.v (Value.int IntKind.i64 (p (8 : Nat))))]), ((9 : Nat), [(AV.v (Value.string ((S).7 (3 : Int) ((S).5 (P26.nine [(p (0 : Nat)), (p (1 : Nat)), (p (2 : Nat)), (p (3 : Nat)), (p (4 : Nat)), (p (5 : Nat)), (p (6 : Nat)), (p (7 : Nat)), (p (8 : Nat))])))))]), ((33 : Nat), [(AV.v (Value.int IntKind.i64 ((S).8 (3 : Int) ((S).5 (P26.nine [(p (0 : Nat)), (p (1 : Nat)), (p (2 : Nat)), (p (3 : Nat)), (p (4 : Nat)), (p (5 : Nat)), (p (6 : Nat)), (p (7 : Nat)), (p (8 : Nat))])))))]), ((31 : Nat), [(AV.v (Value.int IntKind.i64 k)), (AV.v (Value.int IntKind.i64 (q (0 : Nat)))), (AV.v (Value.int IntKind.i64 (q (1 : Nat)))), (AV.v (Value.int IntKind.i64 (q (2 : Nat)))), (AV.v (Value.int IntKind.i64 (q (3 : Nat)))), (AV.v (Value.int IntKind.i64 (q (4 : Nat)))), (AV.v (Value.int IntKind.i64 (q (5 : Nat)))), (AV.v (Value.int IntKind.i64 (a (0 : Nat)))), (AV.v (Value.int IntKind.i64 (a (1 : Nat)))), (AV.v (Value.int IntKind.i64 (a (2 : Nat)))), (AV.v (Value.int IntKind.i64 (a (3 : Nat)))), (AV.v (Value.int IntKind.i64 (a (4 : Nat)))), (AV.v (Value.int IntKind.i64 (a (5 : Nat)))), (AV.v (Value.int IntKind.i64 (a (6 : Nat)))), (AV.v (Value.int IntKind.i64 (p (0 : Nat)))), (AV.v (Value.int IntKind.i64 (p (1 : Nat)))), (AV.v (Value.int IntKind.i64 (p (2 : Nat)))), (AV.v (Value.int IntKind.i64 (p (3 : Nat)))), (AV.v (Value.int IntKind.i64 (p (4 : Nat)))), (AV.v (Value.int IntKind.i64 (p (5 : Nat)))), (AV.v (Value.int IntKind.i64 (p (6 : Nat)))), (AV.v (Value.int IntKind.i64 (p (7 : Nat)))), (AV.v (Value.int IntKind.i64 (p (8 : Nat))))]), ((60 : Nat), [(AV.v (Value.int IntKind.i64 (0 : Int))), (AV.v (Value.int IntKind.i64 (0 : Int))), (AV.v (Value.int IntKind.i64 (0 : Int))), (AV.v (Value.int IntKind.i64 (0 : Int))), (AV.v (Value.int IntKind.i64 (0 : Int))), (AV.v (Value.int IntKind.i64 (0 : Int)))]), ((63 : Nat), [(AV.v (Value.int IntKind.i64 (0 : Int))), (AV.v (Value.int IntKind.i64 (0 : Int))), (AV.v (Value.int IntKind.i64 (0 : Int))), (AV.v (Value.int IntKind.i64 (0 : Int))), (AV.v (Value.int IntKind.i64 (0 : Int))), (AV.v (Value.int IntKind.i64 (0 : Int))), (AV.v (Value.int IntKind.i64 (0 : Int)))]), ((67 : Nat), [(AV.v (Value.int IntKind.i64 (p (0 : Nat)))), (AV.v (Value.int IntKind.i64 (p (1 : Nat)))), (AV.v (Value.int IntKind.i64 (p (2 : Nat)))), (AV.v (Value.int IntKind.i64 (p (3 : Nat)))), (AV.v (Value.int IntKind.i64 (p (4 : Nat)))), (AV.v (Value.int IntKind.i64 (p (5 : Nat)))), (AV.v (Value.int IntKind.i64 (p (6 : Nat)))), (AV.v (Value.int IntKind.i64 (p (7 : Nat)))), (AV.v (Value.int IntKind.i64 (p (8 : Nat))))]), ((67 : Nat), [(AV.v (Value.int IntKind.i64 (p (0 : Nat)))), (AV.v (Value.int IntKind.i64 (p (1 : Nat)))), (AV.v (Value.int IntKind.i64 (p (2 : Nat)))), (AV.v (Value.int IntKind.i64 (p (3 : Nat)))), (AV.v (Value.int IntKind.i64 (p (4 : Nat)))), (AV.v (Value.int IntKind.i64 (p (5 : Nat)))), (AV.v (Value.int IntKind.i64 (p (6 : Nat)))), (AV.v (Value.int IntKind.i64 (p (7 : Nat)))), (AV.v (Value.int IntKind.i64 (p (8 : Nat))))]), ((31 : Nat), [(AV.v (Value.int IntKind.i64 (3 : Int))), (AV.v (Value.int IntKind.i64 (0 : Int))), (AV.v (Value.int IntKind.i64 (0 : Int))), (AV.v (Value.int IntKind.i64 (0 : Int))), (AV.v (Value.int IntKind.i64 (0 : Int))), (AV.v (Value.int IntKind.i64 (0 : Int))), (AV.v (Value.int IntKind.i64 (0 : Int))), (AV.v (Value.int IntKind.i64 (0 : Int))), (AV.v (Value.int IntKind.i64 (0 : Int))), (AV.v (Value.int IntKind.i64 (0 : Int))), (AV.v (Value.int IntKind.i64 (0 : Int))), (AV.v (Value.int IntKind.i64 (0 : Int))), (AV.v (Value.int IntKind.i64 (0 : Int))), (AV.v (Value.int IntKind.i64 (0 : Int))), (AV.v (Value.int IntKind.i64 (p (0 : Nat)))), (AV.v (Value.int IntKind.i64 (p (1 : Nat)))), (AV.v (Value.int IntKind.i64 (p (2 : Nat)))), (AV.v (Value.int IntKind.i64 (p (3 : Nat)))), (AV.v (Value.int IntKind.i64 (p (4 : Nat)))), (AV.v (Value.int IntKind.i64 (p (5 : Nat)))), (AV.v (Value.int IntKind.i64 (p (6 : Nat)))), (AV.v (Value.int IntKind.i64 (p (7 : Nat)))), (AV.v (Value.int IntKind.i64 (p (8 : Nat))))])] (@List.nil Nat) (0 : Nat) (0 : Nat) true (@List.nil (Prod Nat Bool)) True)))))) else none))) := by kernel_rfl
end Go.Proofs.YtlonpmcgejdkkaaDoor.AE
namespace Go.Proofs.YtlonpmcgejdkkaaDoor.AE
set_option maxRecDepth 100000
open Go.RowKit
theorem e_r0  : recG Tryd.prog (sub (bodyOf 10) [0]) ([.ptr 1 0, .ptr 2 0] ++ List.replicate 2 (.v undef)) .nilIface =
    (some [(AV.ptr (1 : Nat) (0 : Nat)), (AV.ptr (2 : Nat) (0 : Nat)), (AV.v Value.nilIface), (AV.v (Value.bool false))]) := by kernel_rfl
theorem e_r1 (T : TypeId) (b : Nat) : recG Tryd.prog (sub (bodyOf 10) [0]) ([.ptr 1 0, .ptr 2 0] ++ List.replicate 2 (.v undef)) (.iface T (.pointer (some ⟨b, 0, none⟩))) =
    (some [(AV.ptr (1 : Nat) (0 : Nat)), (AV.ptr (2 : Nat) (0 : Nat)), (AV.v (Value.iface T (Value.pointer (some (Go.Addr.mk b (0 : Nat) none))))), (AV.v (Value.bool true))]) := by kernel_rfl
theorem e_t0 (w : Value) (fr : List AV) (x : ByteArray) (e : Int) (more : List (TypeId × List AV)) (R : Exit → List AV → AH → Prop) : code roF (fun _ => false) (fun _ => none) 8 (sub (bodyOf 10) [1]) [.ptr 1 0, .ptr 2 0, .v w, .v (.bool false)] (hp ((31, fr) :: (9, [.v (.string x)]) :: (33, [.v (.int .i64 e)]) :: more) []) (kp [] R) =
    (some (True ∧ (R Exit.normal [AV.dead, AV.dead, AV.dead, AV.dead] (AH.mk (((31 : Nat), fr) :: ((9 : Nat), [(AV.v (Value.string x))]) :: ((33 : Nat), [(AV.v (Value.int IntKind.i64 e))]) :: more) (@List.nil Nat) (0 : Nat) (0 : Nat) true (@List.nil (Prod Nat Bool)) True)))) := by kernel_rfl
theorem e_t1 (w : Value) (fr : List AV) (x : ByteArray) (e : Int) (more : List (TypeId × List AV)) (R : Exit → List AV → AH → Prop) : code roF (fun _ => false) (fun _ => none) 8 (sub (bodyOf 10) [1]) [.ptr 1 0, .ptr 2 0, .v w, .v (.bool true)] (hp ((31, fr) :: (9, [.v (.string x)]) :: (33, [.v (.int .i64 e)]) :: more) []) (kp [] R) =
    (some (True ∧ (R Exit.normal [AV.dead, AV.dead, AV.dead, AV.dead] (AH.mk (((31 : Nat), fr) :: ((9 : Nat), [(AV.v (Value.string (ByteArray.mk (Array.mk (@List.nil UInt8)))))]) :: ((33 : Nat), [(AV.v (Value.int IntKind.i64 (5 : Int)))]) :: more) (@List.nil Nat) (0 : Nat) (0 : Nat) true (@List.nil (Prod Nat Bool)) True)))) := by kernel_rfl
theorem k_pre (R : Exit → List AV → AH → Prop) : codeL nro (fun _ => false) (fun _ => none) 8 ((flatten (bodyOf 12)).take 7) ([.v .nilIface] ++ List.replicate 20 (.v undef)) (hp [] []) (kp [0] R) =
    (some (True ∧ (R Exit.normal [(AV.v Value.nilIface), AV.dead, AV.dead, AV.dead, AV.dead, AV.dead, AV.dead, AV.dead, AV.dead, AV.dead, AV.dead, AV.dead, AV.dead, AV.dead, AV.dead, AV.dead, AV.dead, AV.dead, AV.dead, AV.dead, AV.dead] (AH.mk [((60 : Nat), [(AV.v (Value.int IntKind.i64 (0 : Int))), (AV.v (Value.int IntKind.i64 (0 : Int))), (AV.v (Value.int IntKind.i64 (0 : Int))), (AV.v (Value.int IntKind.i64 (0 : Int))), (AV.v (Value.int IntKind.i64 (0 : Int))), (AV.v (Value.int IntKind.i64 (0 : Int)))]), ((63 : Nat), [(AV.v (Value.int IntKind.i64 (0 : Int))), (AV.v (Value.int IntKind.i64 (0 : Int))), (AV.v (Value.int IntKind.i64 (0 : Int))), (AV.v (Value.int IntKind.i64 (0 : Int))), (AV.v (Value.int IntKind.i64 (0 : Int))), (AV.v (Value.int IntKind.i64 (0 : Int))), (AV.v (Value.int IntKind.i64 (0 : Int)))])] (@List.nil Nat) (0 : Nat) (0 : Nat) true (@List.nil (Prod Nat Bool)) True)))) := by kernel_rfl
theorem e_z (k : Int) (q a p : Nat → Int) (R : Exit → List AV → AH → Prop) : code roF (fun _ => false) (fun _ => none) 10 (sub (bodyOf 5) [1, 1, 0]) eA (eH k q a p) (kp [1, 2, 3, 4] R) =
    (bif (k == (1 : Int)) then (some (True ∧ (R Exit.normal [AV.dead, (AV.ptr (0 : Nat) (0 : Nat)), (AV.ptr (1 : Nat) (0 : Nat)), (AV.ptr (2 : Nat) (0 : Nat)), (AV.v (Value.iface (60 : Nat) (Value.agg #[(Value.int IntKind.i64 (q (0 : Nat))), (Value.int IntKind.i64 (q (1 : Nat))), (Value.int IntKind.i64 (q (2 : Nat))), (Value.int IntKind.i64 (q (3 : Nat))), (Value.int IntKind.i64 (q (4 : Nat))), (Value.int IntKind.i64 (q (5 : Nat)))]))), AV.dead, AV.dead, AV.dead, AV.dead, AV.dead, AV.dead, AV.dead, AV.dead, AV.dead, AV.dead, AV.dead, AV.dead, AV.dead, AV.dead, AV.dead, AV.dead, AV.dead, AV.dead, AV.dead, AV.dead, AV.dead, AV.dead, AV.dead, AV.dead, AV.dead] (AH.mk [((31 : Nat), [(AV.v (Value.int IntKind.i64 k)), (AV.v (Value.int IntKind.i64 (q (0 : Nat)))), (AV.v (Value.int IntKind.i64 (q (1 : Nat)))), (AV.v (Value.int IntKind.i64 (q (2 : Nat)))), (AV.v (Value.int IntKind.i64 (q (3 : Nat)))), (AV.v (Value.int IntKind.i64 (q (4 : Nat)))), (AV.v (Value.int IntKind.i64 (q (5 : Nat)))), (AV.v (Value.int IntKind.i64 (a (0 : Nat)))), (AV.v (Value.int IntKind.i64 (a (1 : Nat)))), (AV.v (Value.int IntKind.i64 (a (2 : Nat)))), (AV.v (Value.int IntKind.i64 (a (3 : Nat)))), (AV.v (Value.int IntKind.i64 (a (4 : Nat)))), (AV.v (Value.int IntKind.i64 (a (5 : Nat)))), (AV.v (Value.int IntKind.i64 (a (6 : Nat)))), (AV.v (Value.int IntKind.i64 (p (0 : Nat)))), (AV.v (Value.int IntKind.i64 (p (1 : Nat)))), (AV.v (Value.int IntKind.i64 (p (2 : Nat)))), (AV.v (Value.int IntKind.i64 (p (3 : Nat)))), (AV.v (Value.int IntKind.i64 (p (4 : Nat)))), (AV.v (Value.int IntKind.i64 (p (5 : Nat)))), (AV.v (Value.int IntKind.i64 (p (6 : Nat)))), (AV.v (Value.int IntKind.i64 (p (7 : Nat)))), (AV.v (Value.int IntKind.i64 (p (8 : Nat))))]), ((9 : Nat), [(AV.v (Value.string (ByteArray.mk (Array.mk (@List.nil UInt8)))))]), ((33 : Nat), [(AV.v (Value.int IntKind.i64 (0 : Int)))]), ((31 : Nat), [(AV.v (Value.int IntKind.i64 k)), (AV.v (Value.int IntKind.i64 (q (0 : Nat)))), (AV.v (Value.int IntKind.i64 (q (1 : Nat)))), (AV.v (Value.int IntKind.i64 (q (2 : Nat)))), (AV.v (Value.int IntKind.i64 (q (3 : Nat)))), (AV.v (Value.int IntKind.i64 (q (4 : Nat)))), (AV.v (Value.int IntKind.i64 (q (5 : Nat)))), (AV.v (Value.int IntKind.i64 (a (0 : Nat)))), (AV.v (Value.int IntKind.i64 (a (1 : Nat)))), (AV.v (Value.int IntKind.i64 (a (2 : Nat)))), (AV.v (Value.int IntKind.i64 (a (3 : Nat)))), (AV.v (Value.int IntKind.i64 (a (4 : Nat)))), (AV.v (Value.int IntKind.i64 (a (5 : Nat)))), (AV.v (Value.int IntKind.i64 (a (6 : Nat)))), (AV.v (Value.int IntKind.i64 (p (0 : Nat)))), (AV.v (Value.int IntKind.i64 (p (1 : Nat)))), (AV.v (Value.int IntKind.i64 (p (2 : Nat)))), (AV.v (Value.int IntKind.i64 (p (3 : Nat)))), (AV.v (Value.int IntKind.i64 (p (4 : Nat)))), (AV.v (Value.int IntKind.i64 (p (5 : Nat)))), (AV.v (Value.int IntKind.i64 (p (6 : Nat)))), (AV.v (Value.int IntKind.i64 (p (7 : Nat)))), (AV.v (Value.int IntKind.i64 (p (8 : Nat))))])] (@List.nil Nat) (0 : Nat) (0 : Nat) true (@List.nil (Prod Nat Bool)) True)))) else (bif (k == (2 : Int)) then (some (True ∧ (R Exit.normal [AV.dead, (AV.ptr (0 : Nat) (0 : Nat)), (AV.ptr (1 : Nat) (0 : Nat)), (AV.ptr (2 : Nat) (0 : Nat)), (AV.v (Value.iface (63 : Nat) (Value.agg #[(Value.int IntKind.i64 (a (0 : Nat))), (Value.int IntKind.i64 (a (1 : Nat))), (Value.int IntKind.i64 (a (2 : Nat))), (Value.int IntKind.i64 (a (3 : Nat))), (Value.int IntKind.i64 (a (4 : Nat))), (Value.int IntKind.i64 (a (5 : Nat))), (Value.int IntKind.i64 (a (6 : Nat)))]))), AV.dead, AV.dead, AV.dead, AV.dead, AV.dead, AV.dead, AV.dead, AV.dead, AV.dead, AV.dead, AV.dead, AV.dead, AV.dead, AV.dead, AV.dead, AV.dead, AV.dead, AV.dead, AV.dead, AV.dead, AV.dead, AV.dead, AV.dead, AV.dead, AV.dead] (AH.mk [((31 : Nat), [(AV.v (Value.int IntKind.i64 k)), (AV.v (Value.int IntKind.i64 (q (0 : Nat)))), (AV.v (Value.int IntKind.i64 (q (1 : Nat)))), (AV.v (Value.int IntKind.i64 (q (2 : Nat)))), (AV.v (Value.int IntKind.i64 (q (3 : Nat)))), (AV.v (Value.int IntKind.i64 (q (4 : Nat)))), (AV.v (Value.int IntKind.i64 (q (5 : Nat)))), (AV.v (Value.int IntKind.i64 (a (0 : Nat)))), (AV.v (Value.int IntKind.i64 (a (1 : Nat)))), (AV.v (Value.int IntKind.i64 (a (2 : Nat)))), (AV.v (Value.int IntKind.i64 (a (3 : Nat)))), (AV.v (Value.int IntKind.i64 (a (4 : Nat)))), (AV.v (Value.int IntKind.i64 (a (5 : Nat)))), (AV.v (Value.int IntKind.i64 (a (6 : Nat)))), (AV.v (Value.int IntKind.i64 (p (0 : Nat)))), (AV.v (Value.int IntKind.i64 (p (1 : Nat)))), (AV.v (Value.int IntKind.i64 (p (2 : Nat)))), (AV.v (Value.int IntKind.i64 (p (3 : Nat)))), (AV.v (Value.int IntKind.i64 (p (4 : Nat)))), (AV.v (Value.int IntKind.i64 (p (5 : Nat)))), (AV.v (Value.int IntKind.i64 (p (6 : Nat)))), (AV.v (Value.int IntKind.i64 (p (7 : Nat)))), (AV.v (Value.int IntKind.i64 (p (8 : Nat))))]), ((9 : Nat), [(AV.v (Value.string (ByteArray.mk (Array.mk (@List.nil UInt8)))))]), ((33 : Nat), [(AV.v (Value.int IntKind.i64 (0 : Int)))]), ((31 : Nat), [(AV.v (Value.int IntKind.i64 k)), (AV.v (Value.int IntKind.i64 (q (0 : Nat)))), (AV.v (Value.int IntKind.i64 (q (1 : Nat)))), (AV.v (Value.int IntKind.i64 (q (2 : Nat)))), (AV.v (Value.int IntKind.i64 (q (3 : Nat)))), (AV.v (Value.int IntKind.i64 (q (4 : Nat)))), (AV.v (Value.int IntKind.i64 (q (5 : Nat)))), (AV.v (Value.int IntKind.i64 (a (0 : Nat)))), (AV.v (Value.int IntKind.i64 (a (1 : Nat)))), (AV.v (Value.int IntKind.i64 (a (2 : Nat)))), (AV.v (Value.int IntKind.i64 (a (3 : Nat)))), (AV.v (Value.int IntKind.i64 (a (4 : Nat)))), (AV.v (Value.int IntKind.i64 (a (5 : Nat)))), (AV.v (Value.int IntKind.i64 (a (6 : Nat)))), (AV.v (Value.int IntKind.i64 (p (0 : Nat)))), (AV.v (Value.int IntKind.i64 (p (1 : Nat)))), (AV.v (Value.int IntKind.i64 (p (2 : Nat)))), (AV.v (Value.int IntKind.i64 (p (3 : Nat)))), (AV.v (Value.int IntKind.i64 (p (4 : Nat)))), (AV.v (Value.int IntKind.i64 (p (5 : Nat)))), (AV.v (Value.int IntKind.i64 (p (6 : Nat)))), (AV.v (Value.int IntKind.i64 (p (7 : Nat)))), (AV.v (Value.int IntKind.i64 (p (8 : Nat))))])] (@List.nil Nat) (0 : Nat) (0 : Nat) true (@List.nil (Prod Nat Bool)) True)))) else (bif (k == (3 : Int)) then (some (True ∧ (R Exit.normal [AV.dead, (AV.ptr (0 : Nat) (0 : Nat)), (AV.ptr (1 : Nat) (0 : Nat)), (AV.ptr (2 : Nat) (0 : Nat)), (AV.v (Value.iface (67 : Nat) (Value.agg #[(Value.int IntKind.i64 (p (0 : Nat))), (Value.int IntKind.i64 (p (1 : Nat))), (Value.int IntKind.i64 (p (2 : Nat))), (Value.int IntKind.i64 (p (3 : Nat))), (Value.int IntKind.i64 (p (4 : Nat))), (Value.int IntKind.i64 (p (5 : Nat))), (Value.int IntKind.i64 (p (6 : Nat))), (Value.int IntKind.i64 (p (7 : Nat))), (Value.int IntKind.i64 (p (8 : Nat)))]))), AV.dead, AV.dead, AV.dead, AV.dead, AV.dead, AV.dead, AV.dead, AV.dead, AV.dead, AV.dead, AV.dead, AV.dead, AV.dead, AV.dead, AV.dead, AV.dead, AV.dead, AV.dead, AV.dead, AV.dead, AV.dead, AV.dead, AV.dead, AV.dead, AV.dead] (AH.mk [((31 : Nat), [(AV.v (Value.int IntKind.i64 k)), (AV.v (Value.int IntKind.i64 (q (0 : Nat)))), (AV.v (Value.int IntKind.i64 (q (1 : Nat)))), (AV.v (Value.int IntKind.i64 (q (2 : Nat)))), (AV.v (Value.int IntKind.i64 (q (3 : Nat)))), (AV.v (Value.int IntKind.i64 (q (4 : Nat)))), (AV.v (Value.int IntKind.i64 (q (5 : Nat)))), (AV.v (Value.int IntKind.i64 (a (0 : Nat)))), (AV.v (Value.int IntKind.i64 (a (1 : Nat)))), (AV.v (Value.int IntKind.i64 (a (2 : Nat)))), (AV.v (Value.int IntKind.i64 (a (3 : Nat)))), (AV.v (Value.int IntKind.i64 (a (4 : Nat)))), (AV.v (Value.int IntKind.i64 (a (5 : Nat)))), (AV.v (Value.int IntKind.i64 (a (6 : Nat)))), (AV.v (Value.int IntKind.i64 (p (0 : Nat)))), (AV.v (Value.int IntKind.i64 (p (1 : Nat)))), (AV.v (Value.int IntKind.i64 (p (2 : Nat)))), (AV.v (Value.int IntKind.i64 (p (3 : Nat)))), (AV.v (Value.int IntKind.i64 (p (4 : Nat)))), (AV.v (Value.int IntKind.i64 (p (5 : Nat)))), (AV.v (Value.int IntKind.i64 (p (6 : Nat)))), (AV.v (Value.int IntKind.i64 (p (7 : Nat)))), (AV.v (Value.int IntKind.i64 (p (8 : Nat))))]), ((9 : Nat), [(AV.v (Value.string (ByteArray.mk (Array.mk (@List.nil UInt8)))))]), ((33 : Nat), [(AV.v (Value.int IntKind.i64 (0 : Int)))]), ((31 : Nat), [(AV.v (Value.int IntKind.i64 k)), (AV.v (Value.int IntKind.i64 (q (0 : Nat)))), (AV.v (Value.int IntKind.i64 (q (1 : Nat)))), (AV.v (Value.int IntKind.i64 (q (2 : Nat)))), (AV.v (Value.int IntKind.i64 (q (3 : Nat)))), (AV.v (Value.int IntKind.i64 (q (4 : Nat)))), (AV.v (Value.int IntKind.i64 (q (5 : Nat)))), (AV.v (Value.int IntKind.i64 (a (0 : Nat)))), (AV.v (Value.int IntKind.i64 (a (1 : Nat)))), (AV.v (Value.int IntKind.i64 (a (2 : Nat)))), (AV.v (Value.int IntKind.i64 (a (3 : Nat)))), (AV.v (Value.int IntKind.i64 (a (4 : Nat)))), (AV.v (Value.int IntKind.i64 (a (5 : Nat)))), (AV.v (Value.int IntKind.i64 (a (6 : Nat)))), (AV.v (Value.int IntKind.i64 (p (0 : Nat)))), (AV.v (Value.int IntKind.i64 (p (1 : Nat)))), (AV.v (Value.int IntKind.i64 (p (2 : Nat)))), (AV.v (Value.int IntKind.i64 (p (3 : Nat)))), (AV.v (Value.int IntKind.i64 (p (4 : Nat)))), (AV.v (Value.int IntKind.i64 (p (5 : Nat)))), (AV.v (Value.int IntKind.i64 (p (6 : Nat)))), (AV.v (Value.int IntKind.i64 (p (7 : Nat)))), (AV.v (Value.int IntKind.i64 (p (8 : Nat))))])] (@List.nil Nat) (0 : Nat) (0 : Nat) true (@List.nil (Prod Nat Bool)) True)))) else (some (True ∧ (R Exit.normal [AV.dead, (AV.ptr (0 : Nat) (0 : Nat)), (AV.ptr (1 : Nat) (0 : Nat)), (AV.ptr (2 : Nat) (0 : Nat)), (AV.v Value.nilIface), AV.dead, AV.dead, AV.dead, AV.dead, AV.dead, AV.dead, AV.dead, AV.dead, AV.dead, AV.dead, AV.dead, AV.dead, AV.dead, AV.dead, AV.dead, AV.dead, AV.dead, AV.dead, AV.dead, AV.dead, AV.dead, AV.dead, AV.dead, AV.dead, AV.dead] (AH.mk [((31 : Nat), [(AV.v (Value.int IntKind.i64 k)), (AV.v (Value.int IntKind.i64 (q (0 : Nat)))), (AV.v (Value.int IntKind.i64 (q (1 : Nat)))), (AV.v (Value.int IntKind.i64 (q (2 : Nat)))), (AV.v (Value.int IntKind.i64 (q (3 : Nat)))), (AV.v (Value.int IntKind.i64 (q (4 : Nat)))), (AV.v (Value.int IntKind.i64 (q (5 : Nat)))), (AV.v (Value.int IntKind.i64 (a (0 : Nat)))), (AV.v (Value.int IntKind.i64 (a (1 : Nat)))), (AV.v (Value.int IntKind.i64 (a (2 : Nat)))), (AV.v (Value.int IntKind.i64 (a (3 : Nat)))), (AV.v (Value.int IntKind.i64 (a (4 : Nat)))), (AV.v (Value.int IntKind.i64 (a (5 : Nat)))), (AV.v (Value.int IntKind.i64 (a (6 : Nat)))), (AV.v (Value.int IntKind.i64 (p (0 : Nat)))), (AV.v (Value.int IntKind.i64 (p (1 : Nat)))), (AV.v (Value.int IntKind.i64 (p (2 : Nat)))), (AV.v (Value.int IntKind.i64 (p (3 : Nat)))), (AV.v (Value.int IntKind.i64 (p (4 : Nat)))), (AV.v (Value.int IntKind.i64 (p (5 : Nat)))), (AV.v (Value.int IntKind.i64 (p (6 : Nat)))), (AV.v (Value.int IntKind.i64 (p (7 : Nat)))), (AV.v (Value.int IntKind.i64 (p (8 : Nat))))]), ((9 : Nat), [(AV.v (Value.string (ByteArray.mk (Array.mk (@List.nil UInt8)))))]), ((33 : Nat), [(AV.v (Value.int IntKind.i64 (0 : Int)))]), ((31 : Nat), [(AV.v (Value.int IntKind.i64 k)), (AV.v (Value.int IntKind.i64 (q (0 : Nat)))), (AV.v (Value.int IntKind.i64 (q (1 : Nat)))), (AV.v (Value.int IntKind.i64 (q (2 : Nat)))), (AV.v (Value.int IntKind.i64 (q (3 : Nat)))), (AV.v (Value.int IntKind.i64 (q (4 : Nat)))), (AV.v (Value.int IntKind.i64 (q (5 : Nat)))), (AV.v (Value.int IntKind.i64 (a (0 : Nat)))), (AV.v (Value.int IntKind.i64 (a (1 : Nat)))), (AV.v (Value.int IntKind.i64 (a (2 : Nat)))), (AV.v (Value.int IntKind.i64 (a (3 : Nat)))), (AV.v (Value.int IntKind.i64 (a (4 : Nat)))), (AV.v (Value.int IntKind.i64 (a (5 : Nat)))), (AV.v (Value.int IntKind.i64 (a (6 : Nat)))), (AV.v (Value.int IntKind.i64 (p (0 : Nat)))), (AV.v (Value.int IntKind.i64 (p (1 : Nat)))), (AV.v (Value.int IntKind.i64 (p (2 : Nat)))), (AV.v (Value.int IntKind.i64 (p (3 : Nat)))), (AV.v (Value.int IntKind.i64 (p (4 : Nat)))), (AV.v (Value.int IntKind.i64 (p (5 : Nat)))), (AV.v (Value.int IntKind.i64 (p (6 : Nat)))), (AV.v (Value.int IntKind.i64 (p (7 : Nat)))), (AV.v (Value.int IntKind.i64 (p (8 : Nat))))])] (@List.nil Nat) (0 : Nat) (0 : Nat) true (@List.nil (Prod Nat Bool)) True))))))) := by kernel_rfl
end Go.Proofs.YtlonpmcgejdkkaaDoor.AE
namespace Go.Proofs.YtlonpmcgejdkkaaDoor.AE
set_option maxRecDepth 100000
open Go.RowKit
/-- A function that panics. -/
theorem Fs.pan {P : Program} {ro : Nat → Option (List Value)} {g : FuncId} {fn : Func} {c : Code} {us : List Value} {V : Value → Prop} (hf : P.funcs[g]? = some fn) (hc : fn.body = some c)
    (h : Tr P ro c (us.map .v ++ List.replicate (fn.ntmps - us.length) (.v undef)) (hp [] []) fun e _ _ => ∃ v, V v ∧ e = panE v) (W : World) (hR : Ro ro (G0 W) W) :
    Calls P g us.toArray W fun e W' => (∃ v, V v ∧ e = .panicked [{ v, recovered := false }]) ∧ Below W.heap.size W W' := by
  refine calls_of_wp hf hc (wp_mono (h (G0 W) W { tmps := us.toArray ++ Array.replicate (fn.ntmps - us.toArray.size) undef, defers := [] } ((inv0 W).same rfl rfl) hR ?_) ?_)
  · simp only [Array.toList_append, Array.toList_replicate]
    refine (RVs.map_v us).app ?_
    rw [show us.toArray.size = us.length from rfl]
    generalize fn.ntmps - us.length = n
    induction n with
    | zero => exact .nil
    | succ n ih => exact .cons (.v _) ih
  · rintro e a W' ⟨act, H2, G', ⟨v, hv, rfl⟩, h2, h3, h4, h5⟩
    exact ⟨h5, ⟨v, hv, rfl⟩, h2.below⟩
/-- A region that begins with a call that panics. -/
theorem Tr.panCall {P : Program} {ro : Nat → Option (List Value)} (hN : Named P) {id : Nat} {o : Oper} {os : List Oper} {g : FuncId} {us : List Value} {act : List AV} {H : AH} {V : Value → Prop} (hg : o.guard = none) (hcl : call? act o = some (g, us.map .v)) (hf : ∃ fn, P.funcs[g]? = some fn ∧ fn.body.isSome = true)
    (h : ∀ W, Ro ro (G0 W) W → Calls P g us.toArray W fun e W' => (∃ v, V v ∧ e = .panicked [{ v, recovered := false }]) ∧ Below W.heap.size W W') :
    Tr P ro (.region id (o :: os).toArray false) act H fun e a h => (∃ v, V v ∧ e = panE v) ∧ a = act ∧ h = H := by
  intro G W a hI hR hA
  refine wp_region_list ?_
  show wpList P _ _ (o :: os) a W
  obtain ⟨cargs, h1, h2⟩ := call_run (W := W) hN hA hcl
  have hu : cargs = us.toArray := by
    have := vals_rel h1 (show vals? (us.map AV.v) = some us by
      clear hcl h h1
      induction us with
      | nil => rfl
      | cons u l ih => simp [vals?, AV.val?, ih])
    rw [← this]
  subst hu
  unfold wpList
  rw [if_pos (by simp [Region.wanted, hg])]
  left
  unfold Oper.wp
  rw [h2 hf]
  refine Calls.mono (h W (ro_lt hR)) ?_
  rintro e W' ⟨⟨v, hv, rfl⟩, hb⟩
  obtain ⟨e1, e2⟩ := hI.below hb
  exact ⟨act, H, G, ⟨⟨v, hv, rfl⟩, rfl, rfl⟩, e1, e2, hA.ext e1, rfl⟩
end Go.Proofs.YtlonpmcgejdkkaaDoor.AE
namespace Go.Proofs.YtlonpmcgejdkkaaDoor.AE
set_option maxRecDepth 100000
open Go.RowKit
def isPan (v : Value) : Prop := ∃ T b, v = .iface T (.pointer (some ⟨b, 0, none⟩))
def opAt (l : List Code) (i : Nat) : Oper := match l with
  | .region _ os _ :: _ => os[i]?.getD default
  | _ => default
def idAt (l : List Code) : Nat := match l with
  | .region id _ _ :: _ => id
  | _ => 0
noncomputable def kL : List Code := (flatten (bodyOf 12)).drop 7
theorem k_flat : kL = .region (idAt kL) #[opAt kL 0, opAt kL 1] false :: kL.drop 1 := by kernel_rfl
theorem k_op0 : (opAt kL 0).op = .move (.tmp 0) := by kernel_rfl
theorem k_d0 : (opAt kL 0).dst = some 19 := by kernel_rfl
theorem k_gd0 : (opAt kL 0).guard = none := by kernel_rfl
theorem k_op : (opAt kL 1).op = .typeAssert (.tmp 19) 45 67 false := by kernel_rfl
theorem k_gd : (opAt kL 1).guard = none := by kernel_rfl
theorem as_run (f : Operand → Value) (o : Oper) (ho : o.op = .typeAssert (.tmp 19) 45 67 false) (hf : f (.tmp 19) = .nilIface) (W : World) : ∃ T obj, (execOp f o).run Tryd.prog W = .halt (.panic (.iface T (.pointer (some ⟨W.heap.size, 0, none⟩)))) (W.alloc obj) := by
  unfold execOp
  rw [ho]
  simp only [hf]
  exact ⟨_, _, rfl⟩
theorem tr_assert {ro : Nat → Option (List Value)} {act : List AV} {H : AH} (h0 : ev act (.tmp 0) = .v .nilIface) (hl : 19 < act.length) : Tr Tryd.prog ro (.region (idAt kL) #[opAt kL 0, opAt kL 1] false) act H fun e _ _ => ∃ v, isPan v ∧ e = panE v := by
  intro G W a hI hR hA
  refine wp_region_list ?_
  show wpList _ _ _ [opAt kL 0, opAt kL 1] a W
  have hr := ev_rel hA (.tmp 0)
  rw [h0] at hr
  have hev : a.eval (.tmp 0) = .nilIface := by
    generalize a.eval (.tmp 0) = u at hr
    cases hr; rfl
  unfold wpList
  rw [if_pos (by simp [Region.wanted, k_gd0])]
  left
  unfold Oper.wp
  rw [show (execOp a.eval (opAt kL 0)).run Tryd.prog W = .ok (.value .nilIface) W by rw [execOp, k_op0]; simp [hev]]
  show wpList _ _ _ [opAt kL 1] (a.put (opAt kL 0).dst .nilIface) W
  have A1 := put_rel hA (opAt kL 0).dst (show RV G W (.v .nilIface) .nilIface from .v _)
  rw [k_d0] at A1 ⊢
  have A2 : RVs G W (act.set 19 (.v .nilIface)) (a.put (some 19) .nilIface).tmps.toList := A1
  have hr2 := ev_rel A2 (.tmp 19)
  have he2 : ev (act.set 19 (.v .nilIface)) (.tmp 19) = .v .nilIface := by
    show (act.set 19 _).getD 19 _ = _
    rw [List.getD_eq_getElem?_getD, List.getElem?_set_self hl]; rfl
  rw [he2] at hr2
  have hev2 : (a.put (some 19) .nilIface).eval (.tmp 19) = .nilIface := by
    generalize (a.put (some 19) .nilIface).eval (.tmp 19) = u at hr2
    cases hr2; rfl
  obtain ⟨T, obj, hrun⟩ := as_run (a.put (some 19) .nilIface).eval (opAt kL 1) k_op hev2 W
  unfold wpList
  rw [if_pos (by simp [Region.wanted, k_gd])]
  left
  unfold Oper.wp
  rw [hrun]
  obtain ⟨e1, e2⟩ := hI.below (Below.alloc (Below.refl W.heap.size W) (Nat.le_refl _) obj)
  exact ⟨_, H, G, ⟨_, ⟨_, _, rfl⟩, rfl⟩, e1, e2, A2.ext e1, put_defers _ _⟩
theorem kind_nil (W : World) : Calls Tryd.prog 12 #[.nilIface] W fun e W' => (∃ v, isPan v ∧ e = .panicked [{ v, recovered := false }]) ∧ Below W.heap.size W W' := by
  refine Fs.pan (us := [.nilIface]) (ro := nro) (c := bodyOf 12) Tryd.func12 (by kernel_rfl) ?_ W (ro_none _ _)
  show Tr Tryd.prog nro (bodyOf 12) ([.v .nilIface] ++ List.replicate 20 (.v undef)) (hp [] []) _
  have hne : (flatten (bodyOf 12)).take 7 ≠ [] := Nm.ne_nil (by kernel_rfl)
  refine Tr.of_flat (Trl.split 7 (Trl.of_code (mu := fun _ => false) (known_none _) hne (k_pre _) ⟨trivial, ?_⟩))
  show Trl Tryd.prog nro kL _ _ _
  rw [k_flat]
  refine Tr.mono (tr_assert rfl (by show 19 < 21; decide)) ?_
  rintro e a h ⟨v, hv, rfl⟩
  exact ⟨v, hv, rfl⟩
end Go.Proofs.YtlonpmcgejdkkaaDoor.AE
namespace Go.Proofs.YtlonpmcgejdkkaaDoor.AE
set_option maxRecDepth 100000
open Go.RowKit
def chkE (S : ES) (k : Int) (q a p : Nat → Int) : Int := if k = 1 then S.qE (Q24.six [q 0, q 1, q 2, q 3, q 4, q 5]) else if k = 2 then S.aE (A25.six [a 0, a 1, a 2, a 3, a 4, a 5, a 6]) else S.pE (P26.nine [p 0, p 1, p 2, p 3, p 4, p 5, p 6, p 7, p 8])
def bodE (S : ES) (k : Int) (q a p : Nat → Int) : ByteArray := if k = 1 then S.qP (Q24.six [q 0, q 1, q 2, q 3, q 4, q 5]) else if k = 2 then S.aP (A25.six [a 0, a 1, a 2, a 3, a 4, a 5, a 6]) else S.pP (P26.nine [p 0, p 1, p 2, p 3, p 4, p 5, p 6, p 7, p 8])
def zer (k : Int) (q a p : Nat → Int) : Prop := (k = 1 ∨ (q 0 = 0 ∧ q 1 = 0 ∧ q 2 = 0 ∧ q 3 = 0 ∧ q 4 = 0 ∧ q 5 = 0)) ∧ (k = 2 ∨ (a 0 = 0 ∧ a 1 = 0 ∧ a 2 = 0 ∧ a 3 = 0 ∧ a 4 = 0 ∧ a 5 = 0 ∧ a 6 = 0)) ∧ (k = 3 ∨ (p 0 = 0 ∧ p 1 = 0 ∧ p 2 = 0 ∧ p 3 = 0 ∧ p 4 = 0 ∧ p 5 = 0 ∧ p 6 = 0 ∧ p 7 = 0 ∧ p 8 = 0))
instance (k : Int) (q a p : Nat → Int) : Decidable (zer k q a p) := by unfold zer; infer_instance
def encE (S : ES) (k : Int) (q a p : Nat → Int) : Int := if ¬ (1 ≤ k ∧ k ≤ 3) then 5 else if chkE S k q a p ≠ 0 ∨ ¬ zer k q a p then 1 else S.hE k (bodE S k q a p)
def encS (S : ES) (k : Int) (q a p : Nat → Int) : ByteArray := if ¬ (1 ≤ k ∧ k ≤ 3) then ⟨#[]⟩ else if chkE S k q a p ≠ 0 ∨ ¬ zer k q a p then ⟨#[]⟩ else S.hP k (bodE S k q a p)
def encV (S : ES) (k : Int) (q a p : Nat → Int) : Value := .tuple #[.string (encS S k q a p), .int .i64 (encE S k q a p)]
def eD : List AV := [.dead, .dead, .ptr 1 0, .ptr 2 0] ++ List.replicate 26 .dead
def eHH (fr : List AV) (x : ByteArray) (e : Int) (more : List (TypeId × List AV)) : AH := hp ((31, fr) :: (9, [.v (.string x)]) :: (33, [.v (.int .i64 e)]) :: more) []
def eP : List AV := List.set (([.dead, .ptr 0 0, .ptr 1 0, .ptr 2 0, .v .nilIface] : List AV) ++ List.replicate 25 AV.dead) 10 (.v .nilIface)
def eEnd (a2 : List AV) (e : Exit) (H2 : AH) (v : AV) : Prop := ∃ rv ar, endV e = some rv ∧ recG Tryd.prog (sub (bodyOf 10) [0]) ([.ptr 1 0, .ptr 2 0] ++ List.replicate 2 (.v undef)) (rv.getD .nilIface) = some ar ∧
  Tr Tryd.prog roF (sub (bodyOf 10) [1]) ar H2 fun e3 _ H3 => (e3 = .normal ∨ e3 = .ret) ∧ ansOk (fun r _ => r = v) (resOf Tryd.prog roF [.cell 2 9, .cell 3 33] a2 H3)
theorem eclo0 (fr : List AV) (x : ByteArray) (e : Int) (more : List (TypeId × List AV)) {v : AV} (hv : AV.v (.tuple #[.string x, .int .i64 e]) = v) : eEnd eD .ret (eHH fr x e more) v := by
  subst hv
  refine ⟨none, _, rfl, e_r0, Tr.keep [0, 1, 2, 3] ?_⟩
  exact Tr.of_code (mu := fun _ => false) (known_none _) (e_t0 .nilIface fr x e more _) ⟨trivial, .inl rfl, trivial, rfl⟩
theorem eclo1 (w : Value) (hw : isPan w) (fr : List AV) (x : ByteArray) (e : Int) (more : List (TypeId × List AV)) {v : AV} (hv : AV.v (.tuple #[.string ⟨#[]⟩, .int .i64 5]) = v) : eEnd eP (panE w) (eHH fr x e more) v := by
  subst hv
  obtain ⟨T, b, rfl⟩ := hw
  refine ⟨some (.iface T (.pointer (some ⟨b, 0, none⟩))), _, rfl, e_r1 T b, Tr.keep [0, 1, 2, 3] ?_⟩
  exact Tr.of_code (mu := fun _ => false) (known_none _) (e_t1 (.iface T (.pointer (some ⟨b, 0, none⟩))) fr x e more _) ⟨trivial, .inl rfl, trivial, rfl⟩
/-- A region that names a value and calls with it a function that panics. -/
theorem Tr.panCall3 {P : Program} {ro : Nat → Option (List Value)} (hN : Named P) {c : Code} {id i j : Nat} {o1 o2 o3 : Oper} {g : FuncId} {u : Value} {act : List AV} {H : AH} {V : Value → Prop} (hc : c = .region id #[o1, o2, o3] false) (p1 : o1.op = .move (.tmp i)) (d1 : o1.dst = some j) (g1 : o1.guard = none) (g2 : o2.guard = none)
    (hcl : ∀ act, call? act o2 = some (g, [ev act (.tmp j)])) (hi : ev act (.tmp i) = .v u) (hj : j < act.length) (hf : ∃ fn, P.funcs[g]? = some fn ∧ fn.body.isSome = true)
    (h : ∀ W, Calls P g #[u] W fun e W' => (∃ v, V v ∧ e = .panicked [{ v, recovered := false }]) ∧ Below W.heap.size W W') :
    Tr P ro c act H fun e a h => (∃ v, V v ∧ e = panE v) ∧ a = act.set j (.v u) ∧ h = H := by
  subst hc
  intro G W a hI hR hA
  refine wp_region_list ?_
  show wpList P _ _ [o1, o2, o3] a W
  have hr := ev_rel hA (.tmp i)
  rw [hi] at hr
  have hev : a.eval (.tmp i) = u := by
    generalize a.eval (.tmp i) = x at hr
    cases hr; rfl
  unfold wpList
  rw [if_pos (by simp [Region.wanted, g1])]
  left
  unfold Oper.wp
  rw [show (execOp a.eval o1).run P W = .ok (.value u) W by rw [execOp, p1]; simp [hev]]
  show wpList P _ _ [o2, o3] (a.put o1.dst u) W
  have A1 := put_rel hA o1.dst (show RV G W (.v u) u from .v _)
  rw [d1] at A1 ⊢
  have A2 : RVs G W (act.set j (.v u)) (a.put (some j) u).tmps.toList := A1
  have he : ev (act.set j (.v u)) (.tmp j) = .v u := by
    show (act.set j _).getD j _ = _
    rw [List.getD_eq_getElem?_getD, List.getElem?_set_self hj]; rfl
  have hc2 := hcl (act.set j (.v u))
  rw [he] at hc2
  obtain ⟨cargs, h1, h2⟩ := call_run (W := W) hN A2 hc2
  have hu : cargs = #[u] := by
    have := vals_rel h1 (us := [u]) rfl
    rw [← this]
  subst hu
  unfold wpList
  rw [if_pos (by simp [Region.wanted, g2])]
  left
  unfold Oper.wp
  rw [h2 hf]
  refine Calls.mono (h W) ?_
  rintro e W' ⟨⟨v, hv, rfl⟩, hb⟩
  obtain ⟨e1, e2⟩ := hI.below hb
  exact ⟨_, H, G, ⟨⟨v, hv, rfl⟩, rfl, rfl⟩, e1, e2, A2.ext e1, put_defers _ _⟩
noncomputable def eR : Code := sub (bodyOf 5) [1, 1, 1, 0]
def opC (c : Code) (i : Nat) : Oper := match c with
  | .region _ os _ => os[i]?.getD default
  | _ => default
def idC (c : Code) : Nat := match c with
  | .region id _ _ => id
  | _ => 0
theorem eR_eq : eR = .region (idC eR) #[opC eR 0, opC eR 1, opC eR 2] false := by kernel_rfl
theorem eR_op : (opC eR 0).op = .move (.tmp 4) := by kernel_rfl
theorem eR_d : (opC eR 0).dst = some 10 := by kernel_rfl
theorem eR_g0 : (opC eR 0).guard = none := by kernel_rfl
theorem eR_g1 : (opC eR 1).guard = none := by kernel_rfl
theorem eR_call (act : List AV) : call? act (opC eR 1) = some (12, [ev act (.tmp 10)]) := by kernel_rfl
theorem e_tail : sub (bodyOf 5) [1, 1] = .seq (sub (bodyOf 5) [1, 1, 0]) (.seq eR (sub (bodyOf 5) [1, 1, 1, 1])) := by kernel_rfl
end Go.Proofs.YtlonpmcgejdkkaaDoor.AE
namespace Go.Proofs.YtlonpmcgejdkkaaDoor.AE
set_option maxRecDepth 100000
open Go.RowKit
theorem enc_chk {S : ES} {k : Int} {q a p : Nat → Int} (h0 : 1 ≤ k ∧ k ≤ 3) (h : chkE S k q a p ≠ 0 ∨ ¬ zer k q a p) : AV.v (.tuple #[.string ⟨#[]⟩, .int .i64 1]) = .v (encV S k q a p) := by
  unfold encV encS encE
  rw [if_neg (not_not_intro h0), if_pos h, if_neg (not_not_intro h0), if_pos h]
theorem enc_ok {S : ES} {k : Int} {q a p : Nat → Int} (h0 : 1 ≤ k ∧ k ≤ 3) (h : chkE S k q a p = 0) (hz : zer k q a p) : AV.v (.tuple #[.string (S.hP k (bodE S k q a p)), .int .i64 (S.hE k (bodE S k q a p))]) = .v (encV S k q a p) := by
  have hn : ¬ (chkE S k q a p ≠ 0 ∨ ¬ zer k q a p) := fun h2 => h2.elim (fun x => x h) (fun x => x hz)
  unfold encV encS encE
  rw [if_neg (not_not_intro h0), if_neg hn, if_neg (not_not_intro h0), if_neg hn]
theorem enc_kind {S : ES} {k : Int} {q a p : Nat → Int} (h0 : ¬ (1 ≤ k ∧ k ≤ 3)) : AV.v (.tuple #[.string ⟨#[]⟩, .int .i64 5]) = .v (encV S k q a p) := by
  unfold encV encS encE
  rw [if_pos h0, if_pos h0]
set_option maxHeartbeats 2000000 in
theorem fs_enc {S : ES} (hS : Known roF (prE S)) (k : Int) (q a p : Nat → Int) : Fs Tryd.prog roF 5 [.v (frV k q a p)] (hp [] []) fun r _ => r = .v (encV S k q a p) := by
  refine Fs.of_defer (x := sub (bodyOf 5) [0]) (d := sub (bodyOf 5) [1, 0]) (y := sub (bodyOf 5) [1, 1]) (h := 10) (cap := [.tmp 2, .tmp 3]) (s := 7) Tryd.func5 (by kernel_rfl) (by kernel_rfl) (z := sub (bodyOf 10) [0]) (t := sub (bodyOf 10) [1]) Tryd.func10 (by kernel_rfl) (by kernel_rfl) (by kernel_rfl) ?_
  show Tr _ _ _ ([.v (frV k q a p)] ++ List.replicate 29 (.v undef)) _ _
  refine Tr.of_code (mu := fun _ => false) (known_none _) (e_x k q a p _) ⟨trivial, rfl, (by show 7 < 30; decide), Tr.keep [1, 2, 3, 7] ?_⟩
  show Tr _ _ _ eA (eH k q a p) (fun e2 a2 H2 => eEnd a2 e2 H2 (AV.v (encV S k q a p)))
  by_cases hk : k = 1 ∨ k = 2 ∨ k = 3
  · have h0 : 1 ≤ k ∧ k ≤ 3 := by omega
    have chk1 : k = 1 → chkE S k q a p = S.qE (Q24.six [q 0, q 1, q 2, q 3, q 4, q 5]) := fun h => by unfold chkE; rw [if_pos h]
    have chk2 : k = 2 → chkE S k q a p = S.aE (A25.six [a 0, a 1, a 2, a 3, a 4, a 5, a 6]) := fun h => by unfold chkE; rw [if_neg (by omega), if_pos h]
    have chk3 : k = 3 → chkE S k q a p = S.pE (P26.nine [p 0, p 1, p 2, p 3, p 4, p 5, p 6, p 7, p 8]) := fun h => by unfold chkE; rw [if_neg (by omega), if_neg (by omega)]
    have bod1 : k = 1 → bodE S k q a p = S.qP (Q24.six [q 0, q 1, q 2, q 3, q 4, q 5]) := fun h => by unfold bodE; rw [if_pos h]
    have bod2 : k = 2 → bodE S k q a p = S.aP (A25.six [a 0, a 1, a 2, a 3, a 4, a 5, a 6]) := fun h => by unfold bodE; rw [if_neg (by omega), if_pos h]
    have bod3 : k = 3 → bodE S k q a p = S.pP (P26.nine [p 0, p 1, p 2, p 3, p 4, p 5, p 6, p 7, p 8]) := fun h => by unfold bodE; rw [if_neg (by omega), if_neg (by omega)]
    refine Tr.of_code hS (e_y S k q a p _) ?_
    refine holds_bif (fun h1 => ?_) fun h1 => holds_bif (fun h2 => ?_) fun h2 => holds_bif (fun h3 => ?_) fun h3 => ?_
    · have h1 := eq_of_beq h1
      refine holds_bif (fun h4 => ⟨trivial, eclo0 _ _ _ _ (enc_chk h0 (.inl (by rw [chk1 h1]; simpa using h4)))⟩) fun h4 => holds_bif (fun h5 => ⟨?_, eclo0 _ _ _ _ (enc_chk h0 (.inr ?_))⟩) fun h5 => ⟨?_, ?_⟩
      · with_reducible exact ⟨trivial, rfl⟩
      · intro hz; subst h1; unfold zer at hz; simp at hz; simp [hz] at h5
      · with_reducible exact ⟨trivial, rfl⟩
      · refine eclo0 _ _ _ _ (Eq.trans ?_ (enc_ok h0 (by rw [chk1 h1]; simpa using h4) ?_))
        · rw [bod1 h1]; subst h1; rfl
        · subst h1; unfold zer; simp at h5; omega
    · have h2 := eq_of_beq h2
      refine holds_bif (fun h4 => ⟨trivial, eclo0 _ _ _ _ (enc_chk h0 (.inl (by rw [chk2 h2]; simpa using h4)))⟩) fun h4 => holds_bif (fun h5 => ⟨?_, eclo0 _ _ _ _ (enc_chk h0 (.inr ?_))⟩) fun h5 => ⟨?_, ?_⟩
      · with_reducible exact ⟨trivial, rfl⟩
      · intro hz; subst h2; unfold zer at hz; simp at hz; simp [hz] at h5
      · with_reducible exact ⟨trivial, rfl⟩
      · refine eclo0 _ _ _ _ (Eq.trans ?_ (enc_ok h0 (by rw [chk2 h2]; simpa using h4) ?_))
        · rw [bod2 h2]; subst h2; rfl
        · subst h2; unfold zer; simp at h5; omega
    · have h3 := eq_of_beq h3
      refine holds_bif (fun h4 => ⟨trivial, eclo0 _ _ _ _ (enc_chk h0 (.inl (by rw [chk3 h3]; simpa using h4)))⟩) fun h4 => holds_bif (fun h5 => ⟨?_, eclo0 _ _ _ _ (enc_chk h0 (.inr ?_))⟩) fun h5 => ⟨?_, ?_⟩
      · with_reducible exact ⟨trivial, rfl⟩
      · intro hz; subst h3; unfold zer at hz; simp at hz; simp [hz] at h5
      · with_reducible exact ⟨trivial, rfl⟩
      · refine eclo0 _ _ _ _ (Eq.trans ?_ (enc_ok h0 (by rw [chk3 h3]; simpa using h4) ?_))
        · rw [bod3 h3]; subst h3; rfl
        · subst h3; unfold zer; simp at h5; omega
    · simp at h1 h2 h3; omega
  · rw [e_tail]
    refine Tr.seq (Tr.of_code (mu := fun _ => false) (known_none _) (e_z k q a p _) ?_)
    refine holds_bif (fun h => absurd (.inl (eq_of_beq h)) hk) fun _ => holds_bif (fun h => absurd (.inr (.inl (eq_of_beq h))) hk) fun _ => holds_bif (fun h => absurd (.inr (.inr (eq_of_beq h))) hk) fun _ => ⟨trivial, ?_⟩
    refine Tr.seq (Tr.mono (Tr.panCall3 named eR_eq eR_op eR_d eR_g0 eR_g1 eR_call rfl (by show 10 < 30; decide) (has_fn (by kernel_rfl)) kind_nil) ?_)
    rintro e a2 h ⟨⟨v, hv, rfl⟩, rfl, rfl⟩
    exact eclo1 v hv _ _ _ _ (enc_kind (by omega))
end Go.Proofs.YtlonpmcgejdkkaaDoor.AE
namespace Go.Proofs.YtlonpmcgejdkkaaDoor.AE
set_option maxRecDepth 100000
open Go.RowKit
def decE (S : DS) (s : ByteArray) : Int := if S.gE s ≠ 0 then S.gE s else if (if S.gK s = 1 then S.qF (S.gB s) else if S.gK s = 2 then S.aF (S.gB s) else S.pF (S.gB s)) ≠ 0 then 2 else 0
def decL (S : DS) (s : ByteArray) : List Int := if decE S s ≠ 0 then List.replicate 23 0 else S.gK s :: ((if S.gK s = 1 then [S.qG (S.gB s) 0, S.qG (S.gB s) 1, S.qG (S.gB s) 2, S.qG (S.gB s) 3, S.qG (S.gB s) 4, S.qG (S.gB s) 5] else List.replicate 6 0) ++ ((if S.gK s = 2 then [S.aG (S.gB s) 0, S.aG (S.gB s) 1, S.aG (S.gB s) 2, S.aG (S.gB s) 3, S.aG (S.gB s) 4, S.aG (S.gB s) 5, S.aG (S.gB s) 6] else List.replicate 7 0) ++ (if S.gK s = 3 then [S.pG (S.gB s) 0, S.pG (S.gB s) 1, S.pG (S.gB s) 2, S.pG (S.gB s) 3, S.pG (S.gB s) 4, S.pG (S.gB s) 5, S.pG (S.gB s) 6, S.pG (S.gB s) 7, S.pG (S.gB s) 8] else List.replicate 9 0)))
def decV (S : DS) (s : ByteArray) : Value := .tuple #[.agg ((decL S s).map (Value.int .i64)).toArray, .int .i64 (decE S s)]
section
variable {S : DS} (hS : Known roF (prD S)) (hk : ∀ s, S.gE s = 0 → 1 ≤ S.gK s ∧ S.gK s ≤ 3)
include hS hk
theorem fs_dec (s : ByteArray) (hs : s.size ≤ 100000) (hb : (S.gB s).size ≤ 9223372036854775807) : Fs Tryd.prog roF 6 [.v (.string s)] (hp [] []) fun r _ => r = .v (decV S s) := by
  refine Fs.of_call hS (d_go S s _) ?_ flatD
  repeat' (refine holds_bif (fun h => ?_) (fun h => ?_))
  all_goals
    simp only [bne_iff_ne, ne_eq, bne_eq_false_iff_eq, beq_iff_eq, beq_eq_false_iff_ne] at *
    first
      | (exfalso; have := hk s (by assumption); omega)
      | (refine ⟨?_, ?_⟩
         · repeat' first
             | with_reducible exact trivial
             | with_reducible refine cdb_iff.2 ⟨?_, ?_⟩
             | exact decide_eq_true hs
             | exact decide_eq_true hb
         · try (have e3 : S.gK s = 3 := by have := hk s (by assumption); omega)
           simp [decV, decL, decE, *]; try rfl)
end
end Go.Proofs.YtlonpmcgejdkkaaDoor.AE
namespace Go.Proofs.YtlonpmcgejdkkaaDoor.AE
set_option maxRecDepth 100000
open Go.RowKit
def esX : ES := ⟨Q24.putR, Q24.chk24, A25.putR, A25.chk25, P26.putR, P26.chk26, H23.hpS, H23.hpE⟩
def dsX : DS := ⟨H23.hgK, H23.hgB, H23.hgE, Q24.getN, Q24.getE, A25.getN, A25.getE, P26.getN, P26.getE⟩
theorem nine_of {g : FuncId} {F : (Nat → Int) → Value} (hg : ∀ f : Nat → Int, Fs Tryd.prog P26.ro26 g [P26.push f] (hp [] []) fun r _ => r = .v (F f)) : ∀ us c, nineP F us = some (c, true) → Fs Tryd.prog P26.ro26 g (us.map .v) (hp [] []) fun r _ => r = .v c := by
  intro us c h
  unfold nineP at h
  split at h
  · split at h
    · rename_i l hl
      split at h
      · rename_i h9
        cases h
        have := P26.push_of hl (of_decide_eq_true h9)
        rw [List.map_cons, List.map_nil, this]
        exact hg (P26.nine l)
      · cases h
    · cases h
  · cases h
theorem knownE : Known roF (prE esX) := by
  intro g p h
  unfold prE at h
  split at h
  · cases h
    refine fun _ _ _ _ h => HSound1.ro leN (pure_ok (fun us c hs => ?_) (has_fn (by kernel_rfl)) _ _ _ _ h)
    unfold hpP at hs
    split at hs
    · simp only [Option.some.injEq, Prod.mk.injEq] at hs
      obtain ⟨rfl, _⟩ := hs
      exact H23.fs_hput _ _
    · cases hs
  · cases h; exact fun _ _ _ _ h => HSound1.ro leQ (pure_ok (Q24.six_of Q24.fs_put) (has_fn (by kernel_rfl)) _ _ _ _ h)
  · cases h; exact fun _ _ _ _ h => HSound1.ro leA (pure_ok (A25.six_of A25.fs_put) (has_fn (by kernel_rfl)) _ _ _ _ h)
  · cases h; exact fun _ _ _ _ h => HSound1.ro leP (pure_ok (nine_of P26.fs_put) (has_fn (by kernel_rfl)) _ _ _ _ h)
  · cases h
theorem hg_of {g : FuncId} (hf : ∃ fn, Tryd.prog.funcs[g]? = some fn ∧ fn.body.isSome = true) (hg : ∀ s : ByteArray, s.size ≤ 100000 → Fs Tryd.prog nro g [.v (.string s)] (hp [] []) fun r _ => r = .v (H23.hgV s)) : ∀ args H r H', pure? (hgP H23.hgK H23.hgB H23.hgE) args H = some (r, H') → HSound1 Tryd.prog roF g args H r H' := by
  refine fun _ _ _ _ h => HSound1.ro leN (pure_ok (fun us c hs => ?_) hf _ _ _ _ h)
  unfold hgP at hs
  split at hs
  · simp only [Option.some.injEq, Prod.mk.injEq] at hs
    obtain ⟨rfl, h1⟩ := hs
    exact hg _ (of_decide_eq_true h1)
  · cases hs
theorem g6_of {ro : Nat → Option (List Value)} (hr : ∀ G W, Ro roF G W → Ro ro G W) {g : FuncId} {G : ByteArray → Nat → Int} {F : ByteArray → Int} (hf : ∃ fn, Tryd.prog.funcs[g]? = some fn ∧ fn.body.isSome = true) (hg : ∀ s : ByteArray, s.size ≤ maxLen → Fs Tryd.prog ro g [.v (.string s)] (hp [] []) fun r _ => r = .v (.tuple #[.agg #[.int .i64 (G s 0), .int .i64 (G s 1), .int .i64 (G s 2), .int .i64 (G s 3), .int .i64 (G s 4), .int .i64 (G s 5)], .int .i64 (F s)])) : ∀ args H r H', pure? (g6P G F) args H = some (r, H') → HSound1 Tryd.prog roF g args H r H' := by
  refine fun _ _ _ _ h => HSound1.ro hr (pure_ok (fun us c hs => ?_) hf _ _ _ _ h)
  unfold g6P at hs
  split at hs
  · simp only [Option.some.injEq, Prod.mk.injEq] at hs
    obtain ⟨rfl, h1⟩ := hs
    exact hg _ (of_decide_eq_true h1)
  · cases hs
theorem g7_of {ro : Nat → Option (List Value)} (hr : ∀ G W, Ro roF G W → Ro ro G W) {g : FuncId} {G : ByteArray → Nat → Int} {F : ByteArray → Int} (hf : ∃ fn, Tryd.prog.funcs[g]? = some fn ∧ fn.body.isSome = true) (hg : ∀ s : ByteArray, s.size ≤ maxLen → Fs Tryd.prog ro g [.v (.string s)] (hp [] []) fun r _ => r = .v (.tuple #[.agg #[.int .i64 (G s 0), .int .i64 (G s 1), .int .i64 (G s 2), .int .i64 (G s 3), .int .i64 (G s 4), .int .i64 (G s 5), .int .i64 (G s 6)], .int .i64 (F s)])) : ∀ args H r H', pure? (g7P G F) args H = some (r, H') → HSound1 Tryd.prog roF g args H r H' := by
  refine fun _ _ _ _ h => HSound1.ro hr (pure_ok (fun us c hs => ?_) hf _ _ _ _ h)
  unfold g7P at hs
  split at hs
  · simp only [Option.some.injEq, Prod.mk.injEq] at hs
    obtain ⟨rfl, h1⟩ := hs
    exact hg _ (of_decide_eq_true h1)
  · cases hs
theorem g9_of {ro : Nat → Option (List Value)} (hr : ∀ G W, Ro roF G W → Ro ro G W) {g : FuncId} {G : ByteArray → Nat → Int} {F : ByteArray → Int} (hf : ∃ fn, Tryd.prog.funcs[g]? = some fn ∧ fn.body.isSome = true) (hg : ∀ s : ByteArray, s.size ≤ maxLen → Fs Tryd.prog ro g [.v (.string s)] (hp [] []) fun r _ => r = .v (.tuple #[.agg #[.int .i64 (G s 0), .int .i64 (G s 1), .int .i64 (G s 2), .int .i64 (G s 3), .int .i64 (G s 4), .int .i64 (G s 5), .int .i64 (G s 6), .int .i64 (G s 7), .int .i64 (G s 8)], .int .i64 (F s)])) : ∀ args H r H', pure? (g9P G F) args H = some (r, H') → HSound1 Tryd.prog roF g args H r H' := by
  refine fun _ _ _ _ h => HSound1.ro hr (pure_ok (fun us c hs => ?_) hf _ _ _ _ h)
  unfold g9P at hs
  split at hs
  · simp only [Option.some.injEq, Prod.mk.injEq] at hs
    obtain ⟨rfl, h1⟩ := hs
    exact hg _ (of_decide_eq_true h1)
  · cases hs
theorem knownD : Known roF (prD dsX) := by
  intro g p h
  unfold prD at h
  split at h
  · cases h; exact hg_of (has_fn (by kernel_rfl)) H23.fs_hget
  · cases h; exact g6_of leQ (has_fn (by kernel_rfl)) Q24.fs_get
  · cases h; exact g7_of leA (has_fn (by kernel_rfl)) A25.fs_get
  · cases h; exact g9_of leP (has_fn (by kernel_rfl)) P26.fs_get
  · cases h
theorem kindX : ∀ s, dsX.gE s = 0 → 1 ≤ dsX.gK s ∧ dsX.gK s ≤ 3 := fun _ h => H23.hg_kind h
/-- What frames and bytes come to, over lists of numbers. -/
structure LS where
  eS : List Int → ByteArray
  eE : List Int → Int
  dN : ByteArray → Nat → Int
  dE : ByteArray → Int
def feP (E : List Int → ByteArray) (F : List Int → Int) : List Value → Option (Value × Bool) := fun us => match us with
  | [.agg cs] => match Q24.ints? cs.toList with
    | some l => match decide (l.length = 23) with
      | true => some (.tuple #[.string (E l), .int .i64 (F l)], true)
      | false => none
    | none => none
  | _ => none
def fdP (N : ByteArray → Nat → Int) (E : ByteArray → Int) : List Value → Option (Value × Bool) := fun us => match us with
  | [.string s] => some (.tuple #[.agg #[.int .i64 (N s 0), .int .i64 (N s 1), .int .i64 (N s 2), .int .i64 (N s 3), .int .i64 (N s 4), .int .i64 (N s 5), .int .i64 (N s 6), .int .i64 (N s 7), .int .i64 (N s 8), .int .i64 (N s 9), .int .i64 (N s 10), .int .i64 (N s 11), .int .i64 (N s 12), .int .i64 (N s 13), .int .i64 (N s 14), .int .i64 (N s 15), .int .i64 (N s 16), .int .i64 (N s 17), .int .i64 (N s 18), .int .i64 (N s 19), .int .i64 (N s 20), .int .i64 (N s 21), .int .i64 (N s 22)], .int .i64 (E s)], decide (s.size ≤ 100000))
  | _ => none
noncomputable def prL (S : LS) : FuncId → Option (List AV → AH → Ans) := fun g => match g with
  | 5 => some (pure? (feP S.eS S.eE))
  | 6 => some (pure? (fdP S.dN S.dE))
  | 70 => some (tot? joinV joinOk)
  | _ => none
def fQ (l : List Int) : Nat → Int := fun n => l.getD (n + 1) 0
def fA (l : List Int) : Nat → Int := fun n => l.getD (n + 7) 0
def fP (l : List Int) : Nat → Int := fun n => l.getD (n + 14) 0
def lsX : LS := ⟨fun l => encS esX (l.getD 0 0) (fQ l) (fA l) (fP l), fun l => encE esX (l.getD 0 0) (fQ l) (fA l) (fP l), fun s n => (decL dsX s).getD n 0, decE dsX⟩
theorem decL_eq (S : DS) (s : ByteArray) : ((decL S s).map (Value.int .i64)).toArray = #[.int .i64 ((decL S s).getD 0 0), .int .i64 ((decL S s).getD 1 0), .int .i64 ((decL S s).getD 2 0), .int .i64 ((decL S s).getD 3 0), .int .i64 ((decL S s).getD 4 0), .int .i64 ((decL S s).getD 5 0), .int .i64 ((decL S s).getD 6 0), .int .i64 ((decL S s).getD 7 0), .int .i64 ((decL S s).getD 8 0), .int .i64 ((decL S s).getD 9 0), .int .i64 ((decL S s).getD 10 0), .int .i64 ((decL S s).getD 11 0), .int .i64 ((decL S s).getD 12 0), .int .i64 ((decL S s).getD 13 0), .int .i64 ((decL S s).getD 14 0), .int .i64 ((decL S s).getD 15 0), .int .i64 ((decL S s).getD 16 0), .int .i64 ((decL S s).getD 17 0), .int .i64 ((decL S s).getD 18 0), .int .i64 ((decL S s).getD 19 0), .int .i64 ((decL S s).getD 20 0), .int .i64 ((decL S s).getD 21 0), .int .i64 ((decL S s).getD 22 0)] := by
  unfold decL
  split
  · rfl
  · split <;> split <;> split <;> rfl
theorem fd_of {g : FuncId} (hf : ∃ fn, Tryd.prog.funcs[g]? = some fn ∧ fn.body.isSome = true) (hg : ∀ s : ByteArray, s.size ≤ 100000 → Fs Tryd.prog roF g [.v (.string s)] (hp [] []) fun r _ => r = .v (decV dsX s)) : ∀ args H r H', pure? (fdP lsX.dN lsX.dE) args H = some (r, H') → HSound1 Tryd.prog roF g args H r H' := by
  refine pure_ok (fun us c hs => ?_) hf
  unfold fdP at hs
  split at hs
  · simp only [Option.some.injEq, Prod.mk.injEq] at hs
    obtain ⟨rfl, h1⟩ := hs
    refine (hg _ (of_decide_eq_true h1)).mono fun r _ h => ?_
    rw [h]
    unfold decV
    rw [decL_eq]
    rfl
  · cases hs
theorem frV_of : ∀ {cs : Array Value} {l : List Int}, Q24.ints? cs.toList = some l → l.length = 23 → AV.v (.agg cs) = .v (frV (l.getD 0 0) (fQ l) (fA l) (fP l)) := by
  intro cs l h h2
  have := Q24.ints_map h
  obtain ⟨c⟩ := cs
  have : c = l.map (Value.int .i64) := this
  subst this
  match l, h2 with
  | [x0, x1, x2, x3, x4, x5, x6, x7, x8, x9, x10, x11, x12, x13, x14, x15, x16, x17, x18, x19, x20, x21, x22], _ => rfl
end Go.Proofs.YtlonpmcgejdkkaaDoor.AE
namespace Go.Proofs.YtlonpmcgejdkkaaDoor.AE
set_option maxRecDepth 100000
open Go.RowKit
theorem knownL : Known roF (prL lsX) := by
  intro g p h
  unfold prL at h
  split at h
  · cases h
    refine pure_ok (fun us c hs => ?_) (has_fn (by kernel_rfl))
    unfold feP at hs
    split at hs
    · split at hs
      · rename_i l hl
        split at hs
        · rename_i h23
          simp only [Option.some.injEq, Prod.mk.injEq] at hs
          obtain ⟨rfl, _⟩ := hs
          rw [List.map_cons, List.map_nil, frV_of hl (of_decide_eq_true h23)]
          exact fs_enc knownE _ _ _ _
        · cases hs
      · cases hs
    · cases hs
  · cases h; exact fd_of (has_fn (by kernel_rfl)) fun s hs => fs_dec knownD kindX s hs (by
      have := H23.hg_body s
      show (H23.hgB s).size ≤ _
      omega)
  · cases h; exact join_ok _
  · cases h
def aw27 (v : Option Prop) : Prop := holds v
theorem t_awake (Φ : AV → Prop) : callK roF (fun _ => false) (prL lsX) 12 4 [] (hp [] []) (fun r h => some (h.cd ∧ Φ r)) =
    (some (True ∧ (Φ (AV.v (Value.bool true))))) := by kernel_rfl
end Go.Proofs.YtlonpmcgejdkkaaDoor.AE
namespace Go.Proofs.YtlonpmcgejdkkaaDoor.AE
set_option maxRecDepth 100000
open Go.RowKit
noncomputable def prM (S : LS) : FuncId → Option (List AV → AH → Ans) := fun g => match g with
  | 4 => some (pure? awakeS)
  | g => prL S g
theorem knownM : Known roF (prM lsX) := by
  intro g p h
  unfold prM at h
  split at h
  · cases h
    refine pure_ok (fun us c hs => ?_) (has_fn (by kernel_rfl))
    unfold awakeS at hs
    split at hs
    · cases hs; exact Fs.of_call (mu := fun _ => false) knownL (t_awake _) ⟨trivial, rfl⟩
    · cases hs
  · exact knownL _ p h
def muM : FuncId → Bool := fun g => (g == 5 + 1000000) || (g == 6 + 1000000) || (g == 4 + 1000000)
theorem flatM {S : LS} : Flats muM (prM S) := by
  intro g h
  unfold muM at h
  simp only [Bool.or_eq_true] at h
  rcases h with (h | h) | h
  all_goals
    have h := Nat.add_right_cancel (eq_of_beq h)
    subst h
    exact ⟨_, rfl, pure_flat _⟩
theorem t_back (S : LS) (k : Int) (q a p : Nat → Int) (s : ByteArray) (Φ : AV → Prop) : callK roF muM (prM S) 10 3 [.v (frV k q a p), .v (.string s)] (hp [] []) (fun r h => some (h.cd ∧ Φ r)) =
    (bif (decide ((300 : Int) < ((ByteArray.size s) : Int))) then (some (True ∧ (Φ (AV.v (Value.bool true))))) else (bif (((S).2 [k, (q (0 : Nat)), (q (1 : Nat)), (q (2 : Nat)), (q (3 : Nat)), (q (4 : Nat)), (q (5 : Nat)), (a (0 : Nat)), (a (1 : Nat)), (a (2 : Nat)), (a (3 : Nat)), (a (4 : Nat)), (a (5 : Nat)), (a (6 : Nat)), (p (0 : Nat)), (p (1 : Nat)), (p (2 : Nat)), (p (3 : Nat)), (p (4 : Nat)), (p (5 : Nat)), (p (6 : Nat)), (p (7 : Nat)), (p (8 : Nat))]) == (0 : Int)) then (bif (!((((S).3 ((S).1 [k, (q (0 : Nat)), (q (1 : Nat)), (q (2 : Nat)), (q (3 : Nat)), (q (4 : Nat)), (q (5 : Nat)), (a (0 : Nat)), (a (1 : Nat)), (a (2 : Nat)), (a (3 : Nat)), (a (4 : Nat)), (a (5 : Nat)), (a (6 : Nat)), (p (0 : Nat)), (p (1 : Nat)), (p (2 : Nat)), (p (3 : Nat)), (p (4 : Nat)), (p (5 : Nat)), (p (6 : Nat)), (p (7 : Nat)), (p (8 : Nat))]) (0 : Nat)) == k) && (((((S).3 ((S).1 [k, (q (0 : Nat)), (q (1 : Nat)), (q (2 : Nat)), (q (3 : Nat)), (q (4 : Nat)), (q (5 : Nat)), (a (0 : Nat)), (a (1 : Nat)), (a (2 : Nat)), (a (3 : Nat)), (a (4 : Nat)), (a (5 : Nat)), (a (6 : Nat)), (p (0 : Nat)), (p (1 : Nat)), (p (2 : Nat)), (p (3 : Nat)), (p (4 : Nat)), (p (5 : Nat)), (p (6 : Nat)), (p (7 : Nat)), (p (8 : Nat))]) (1 : Nat)) == (q (0 : Nat))) && ((((S).3 ((S).1 [k, (q (0 : Nat)), (q (1 : Nat)), (q (2 : Nat)), (q (3 : Nat)), (q (4 : Nat)), (q (5 : Nat)), (a (0 : Nat)), (a (1 : Nat)), (a (2 : Nat)), (a (3 : Nat)), (a (4 : Nat)), (a (5 : Nat)), (a (6 : Nat)), (p (0 : Nat)), (p (1 : Nat)), (p (2 : Nat)), (p (3 : Nat)), (p (4 : Nat)), (p (5 : Nat)), (p (6 : Nat)), (p (7 : Nat)), (p (8 : Nat))]) (2 : Nat)) == (q (1 : Nat))) && ((((S).3 ((S).1 [k, (q (0 : Nat)), (q (1 : Nat)), (q (2 : Nat)), (q (3 : Nat)), (q (4 : Nat)), (q (5 : Nat)), (a (0 : Nat)), (a (1 : Nat)), (a (2 : Nat)), (a (3 : Nat)), (a (4 : Nat)), (a (5 : Nat)), (a (6 : Nat)), (p (0 : Nat)), (p (1 : Nat)), (p (2 : Nat)), (p (3 : Nat)), (p (4 : Nat)), (p (5 : Nat)), (p (6 : Nat)), (p (7 : Nat)), (p (8 : Nat))]) (3 : Nat)) == (q (2 : Nat))) && ((((S).3 ((S).1 [k, (q (0 : Nat)), (q (1 : Nat)), (q (2 : Nat)), (q (3 : Nat)), (q (4 : Nat)), (q (5 : Nat)), (a (0 : Nat)), (a (1 : Nat)), (a (2 : Nat)), (a (3 : Nat)), (a (4 : Nat)), (a (5 : Nat)), (a (6 : Nat)), (p (0 : Nat)), (p (1 : Nat)), (p (2 : Nat)), (p (3 : Nat)), (p (4 : Nat)), (p (5 : Nat)), (p (6 : Nat)), (p (7 : Nat)), (p (8 : Nat))]) (4 : Nat)) == (q (3 : Nat))) && ((((S).3 ((S).1 [k, (q (0 : Nat)), (q (1 : Nat)), (q (2 : Nat)), (q (3 : Nat)), (q (4 : Nat)), (q (5 : Nat)), (a (0 : Nat)), (a (1 : Nat)), (a (2 : Nat)), (a (3 : Nat)), (a (4 : Nat)), (a (5 : Nat)), (a (6 : Nat)), (p (0 : Nat)), (p (1 : Nat)), (p (2 : Nat)), (p (3 : Nat)), (p (4 : Nat)), (p (5 : Nat)), (p (6 : Nat)), (p (7 : Nat)), (p (8 : Nat))]) (5 : Nat)) == (q (4 : Nat))) && ((((S).3 ((S).1 [k, (q (0 : Nat)), (q (1 : Nat)), (q (2 : Nat)), (q (3 : Nat)), (q (4 : Nat)), (q (5 : Nat)), (a (0 : Nat)), (a (1 : Nat)), (a (2 : Nat)), (a (3 : Nat)), (a (4 : Nat)), (a (5 : Nat)), (a (6 : Nat)), (p (0 : Nat)), (p (1 : Nat)), (p (2 : Nat)), (p (3 : Nat)), (p (4 : Nat)), (p (5 : Nat)), (p (6 : Nat)), (p (7 : Nat)), (p (8 : Nat))]) (6 : Nat)) == (q (5 : Nat))) && true)))))) && (((((S).3 ((S).1 [k, (q (0 : Nat)), (q (1 : Nat)), (q (2 : Nat)), (q (3 : Nat)), (q (4 : Nat)), (q (5 : Nat)), (a (0 : Nat)), (a (1 : Nat)), (a (2 : Nat)), (a (3 : Nat)), (a (4 : Nat)), (a (5 : Nat)), (a (6 : Nat)), (p (0 : Nat)), (p (1 : Nat)), (p (2 : Nat)), (p (3 : Nat)), (p (4 : Nat)), (p (5 : Nat)), (p (6 : Nat)), (p (7 : Nat)), (p (8 : Nat))]) (7 : Nat)) == (a (0 : Nat))) && ((((S).3 ((S).1 [k, (q (0 : Nat)), (q (1 : Nat)), (q (2 : Nat)), (q (3 : Nat)), (q (4 : Nat)), (q (5 : Nat)), (a (0 : Nat)), (a (1 : Nat)), (a (2 : Nat)), (a (3 : Nat)), (a (4 : Nat)), (a (5 : Nat)), (a (6 : Nat)), (p (0 : Nat)), (p (1 : Nat)), (p (2 : Nat)), (p (3 : Nat)), (p (4 : Nat)), (p (5 : Nat)), (p (6 : Nat)), (p (7 : Nat)), (p (8 : Nat))]) (8 : Nat)) == (a (1 : Nat))) && ((((S).3 ((S).1 [k, (q (0 : Nat)), (q (1 : Nat)), (q (2 : Nat)), (q (3 : Nat)), (q (4 : Nat)), (q (5 : Nat)), (a (0 : Nat)), (a (1 : Nat)), (a (2 : Nat)), (a (3 : Nat)), (a (4 : Nat)), (a (5 : Nat)), (a (6 : Nat)), (p (0 : Nat)), (p (1 : Nat)), (p (2 : Nat)), (p (3 : Nat)), (p (4 : Nat)), (p (5 : Nat)), (p (6 : Nat)), (p (7 : Nat)), (p (8 : Nat))]) (9 : Nat)) == (a (2 : Nat))) && ((((S).3 ((S).1 [k, (q (0 : Nat)), (q (1 : Nat)), (q (2 : Nat)), (q (3 : Nat)), (q (4 : Nat)), (q (5 : Nat)), (a (0 : Nat)), (a (1 : Nat)), (a (2 : Nat)), (a (3 : Nat)), (a (4 : Nat)), (a (5 : Nat)), (a (6 : Nat)), (p (0 : Nat)), (p (1 : Nat)), (p (2 : Nat)), (p (3 : Nat)), (p (4 : Nat)), (p (5 : Nat)), (p (6 : Nat)), (p (7 : Nat)), (p (8 : Nat))]) (10 : Nat)) == (a (3 : Nat))) && ((((S).3 ((S).1 [k, (q (0 : Nat)), (q (1 : Nat)), (q (2 : Nat)), (q (3 : Nat)), (q (4 : Nat)), (q (5 : Nat)), (a (0 : Nat)), (a (1 : Nat)), (a (2 : Nat)), (a (3 : Nat)), (a (4 : Nat)), (a (5 : Nat)), (a (6 : Nat)), (p (0 : Nat)), (p (1 : Nat)), (p (2 : Nat)), (p (3 : Nat)), (p (4 : Nat)), (p (5 : Nat)), (p (6 : Nat)), (p (7 : Nat)), (p (8 : Nat))]) (11 : Nat)) == (a (4 : Nat))) && ((((S).3 ((S).1 [k, (q (0 : Nat)), (q (1 : Nat)), (q (2 : Nat)), (q (3 : Nat)), (q (4 : Nat)), (q (5 : Nat)), (a (0 : Nat)), (a (1 : Nat)), (a (2 : Nat)), (a (3 : Nat)), (a (4 : Nat)), (a (5 : Nat)), (a (6 : Nat)), (p (0 : Nat)), (p (1 : Nat)), (p (2 : Nat)), (p (3 : Nat)), (p (4 : Nat)), (p (5 : Nat)), (p (6 : Nat)), (p (7 : Nat)), (p (8 : Nat))]) (12 : Nat)) == (a (5 : Nat))) && ((((S).3 ((S).1 [k, (q (0 : Nat)), (q (1 : Nat)), (q (2 : Nat)), (q (3 : Nat)), (q (4 : Nat)), (q (5 : Nat)), (a (0 : Nat)), (a (1 : Nat)), (a (2 : Nat)), (a (3 : Nat)), (a (4 : Nat)), (a (5 : Nat)), (a (6 : Nat)), (p (0 : Nat)), (p (1 : Nat)), (p (2 : Nat)), (p (3 : Nat)), (p (4 : Nat)), (p (5 : Nat)), (p (6 : Nat)), (p (7 : Nat)), (p (8 : Nat))]) (13 : Nat)) == (a (6 : Nat))) && true))))))) && (((((S).3 ((S).1 [k, (q (0 : Nat)), (q (1 : Nat)), (q (2 : Nat)), (q (3 : Nat)), (q (4 : Nat)), (q (5 : Nat)), (a (0 : Nat)), (a (1 : Nat)), (a (2 : Nat)), (a (3 : Nat)), (a (4 : Nat)), (a (5 : Nat)), (a (6 : Nat)), (p (0 : Nat)), (p (1 : Nat)), (p (2 : Nat)), (p (3 : Nat)), (p (4 : Nat)), (p (5 : Nat)), (p (6 : Nat)), (p (7 : Nat)), (p (8 : Nat))]) (14 : Nat)) == (p (0 : Nat))) && ((((S).3 ((S).1 [k, (q (0 : Nat)), (q (1 : Nat)), (q (2 : Nat)), (q (3 : Nat)), (q (4 : Nat)), (q (5 : Nat)), (a (0 : Nat)), (a (1 : Nat)), (a (2 : Nat)), (a (3 : Nat)), (a (4 : Nat)), (a (5 : Nat)), (a (6 : Nat)), (p (0 : Nat)), (p (1 : Nat)), (p (2 : Nat)), (p (3 : Nat)), (p (4 : Nat)), (p (5 : Nat)), (p (6 : Nat)), (p (7 : Nat)), (p (8 : Nat))]) (15 : Nat)) == (p (1 : Nat))) && (((((S).3 ((S).1 [k, (q (0 : Nat)), (q (1 : Nat)), (q (2 : Nat)), (q (3 : Nat)), (q (4 : Nat)), (q (5 : Nat)), (a (0 : Nat)), (a (1 : Nat)), (a (2 : Nat)), (a (3 : Nat)), (a (4 : Nat)), (a (5 : Nat)), (a (6 : Nat)), (p (0 : Nat)), (p (1 : Nat)), (p (2 : Nat)), (p (3 : Nat)), (p (4 : Nat)), (p (5 : Nat)), (p (6 : Nat)), (p (7 : Nat)), (p (8 : Nat))]) (16 : Nat)) == (p (2 : Nat))) && ((((S).3 ((S).1 [k, (q (0 : Nat)), (q (1 : Nat)), (q (2 : Nat)), (q (3 : Nat)), (q (4 : Nat)), (q (5 : Nat)), (a (0 : Nat)), (a (1 : Nat)), (a (2 : Nat)), (a (3 : Nat)), (a (4 : Nat)), (a (5 : Nat)), (a (6 : Nat)), (p (0 : Nat)), (p (1 : Nat)), (p (2 : Nat)), (p (3 : Nat)), (p (4 : Nat)), (p (5 : Nat)), (p (6 : Nat)), (p (7 : Nat)), (p (8 : Nat))]) (17 : Nat)) == (p (3 : Nat))) && ((((S).3 ((S).1 [k, (q (0 : Nat)), (q (1 : Nat)), (q (2 : Nat)), (q (3 : Nat)), (q (4 : Nat)), (q (5 : Nat)), (a (0 : Nat)), (a (1 : Nat)), (a (2 : Nat)), (a (3 : Nat)), (a (4 : Nat)), (a (5 : Nat)), (a (6 : Nat)), (p (0 : Nat)), (p (1 : Nat)), (p (2 : Nat)), (p (3 : Nat)), (p (4 : Nat)), (p (5 : Nat)), (p (6 : Nat)), (p (7 : Nat)), (p (8 : Nat))]) (18 : Nat)) == (p (4 : Nat))) && ((((S).3 ((S).1 [k, (q (0 : Nat)), (q (1 : Nat)), (q (2 : Nat)), (q (3 : Nat)), (q (4 : Nat)), (q (5 : Nat)), (a (0 : Nat)), (a (1 : Nat)), (a (2 : Nat)), (a (3 : Nat)), (a (4 : Nat)), (a (5 : Nat)), (a (6 : Nat)), (p (0 : Nat)), (p (1 : Nat)), (p (2 : Nat)), (p (3 : Nat)), (p (4 : Nat)), (p (5 : Nat)), (p (6 : Nat)), (p (7 : Nat)), (p (8 : Nat))]) (19 : Nat)) == (p (5 : Nat))) && ((((S).3 ((S).1 [k, (q (0 : Nat)), (q (1 : Nat)), (q (2 : Nat)), (q (3 : Nat)), (q (4 : Nat)), (q (5 : Nat)), (a (0 : Nat)), (a (1 : Nat)), (a (2 : Nat)), (a (3 : Nat)), (a (4 : Nat)), (a (5 : Nat)), (a (6 : Nat)), (p (0 : Nat)), (p (1 : Nat)), (p (2 : Nat)), (p (3 : Nat)), (p (4 : Nat)), (p (5 : Nat)), (p (6 : Nat)), (p (7 : Nat)), (p (8 : Nat))]) (20 : Nat)) == (p (6 : Nat))) && ((((S).3 ((S).1 [k, (q (0 : Nat)), (q (1 : Nat)), (q (2 : Nat)), (q (3 : Nat)), (q (4 : Nat)), (q (5 : Nat)), (a (0 : Nat)), (a (1 : Nat)), (a (2 : Nat)), (a (3 : Nat)), (a (4 : Nat)), (a (5 : Nat)), (a (6 : Nat)), (p (0 : Nat)), (p (1 : Nat)), (p (2 : Nat)), (p (3 : Nat)), (p (4 : Nat)), (p (5 : Nat)), (p (6 : Nat)), (p (7 : Nat)), (p (8 : Nat))]) (21 : Nat)) == (p (7 : Nat))) && ((((S).3 ((S).1 [k, (q (0 : Nat)), (q (1 : Nat)), (q (2 : Nat)), (q (3 : Nat)), (q (4 : Nat)), (q (5 : Nat)), (a (0 : Nat)), (a (1 : Nat)), (a (2 : Nat)), (a (3 : Nat)), (a (4 : Nat)), (a (5 : Nat)), (a (6 : Nat)), (p (0 : Nat)), (p (1 : Nat)), (p (2 : Nat)), (p (3 : Nat)), (p (4 : Nat)), (p (5 : Nat)), (p (6 : Nat)), (p (7 : Nat)), (p (8 : Nat))]) (22 : Nat)) == (p (8 : Nat))) && true))))))) && true))) && true))))) then (some ((cdb True (decide ((ByteArray.size ((S).1 [k, (q (0 : Nat)), (q (1 : Nat)), (q (2 : Nat)), (q (3 : Nat)), (q (4 : Nat)), (q (5 : Nat)), (a (0 : Nat)), (a (1 : Nat)), (a (2 : Nat)), (a (3 : Nat)), (a (4 : Nat)), (a (5 : Nat)), (a (6 : Nat)), (p (0 : Nat)), (p (1 : Nat)), (p (2 : Nat)), (p (3 : Nat)), (p (4 : Nat)), (p (5 : Nat)), (p (6 : Nat)), (p (7 : Nat)), (p (8 : Nat))])) ≤ (100000 : Nat)))) ∧ (Φ (AV.v (Value.bool false))))) else (bif (((S).4 ((S).1 [k, (q (0 : Nat)), (q (1 : Nat)), (q (2 : Nat)), (q (3 : Nat)), (q (4 : Nat)), (q (5 : Nat)), (a (0 : Nat)), (a (1 : Nat)), (a (2 : Nat)), (a (3 : Nat)), (a (4 : Nat)), (a (5 : Nat)), (a (6 : Nat)), (p (0 : Nat)), (p (1 : Nat)), (p (2 : Nat)), (p (3 : Nat)), (p (4 : Nat)), (p (5 : Nat)), (p (6 : Nat)), (p (7 : Nat)), (p (8 : Nat))])) != (0 : Int)) then (some ((cdb True (decide ((ByteArray.size ((S).1 [k, (q (0 : Nat)), (q (1 : Nat)), (q (2 : Nat)), (q (3 : Nat)), (q (4 : Nat)), (q (5 : Nat)), (a (0 : Nat)), (a (1 : Nat)), (a (2 : Nat)), (a (3 : Nat)), (a (4 : Nat)), (a (5 : Nat)), (a (6 : Nat)), (p (0 : Nat)), (p (1 : Nat)), (p (2 : Nat)), (p (3 : Nat)), (p (4 : Nat)), (p (5 : Nat)), (p (6 : Nat)), (p (7 : Nat)), (p (8 : Nat))])) ≤ (100000 : Nat)))) ∧ (Φ (AV.v (Value.bool false))))) else (bif (((S).2 [k, (q (0 : Nat)), (q (1 : Nat)), (q (2 : Nat)), (q (3 : Nat)), (q (4 : Nat)), (q (5 : Nat)), (a (0 : Nat)), (a (1 : Nat)), (a (2 : Nat)), (a (3 : Nat)), (a (4 : Nat)), (a (5 : Nat)), (a (6 : Nat)), (p (0 : Nat)), (p (1 : Nat)), (p (2 : Nat)), (p (3 : Nat)), (p (4 : Nat)), (p (5 : Nat)), (p (6 : Nat)), (p (7 : Nat)), (p (8 : Nat))]) != (0 : Int)) then (bif (!((ByteArray.toList ((S).1 [k, (q (0 : Nat)), (q (1 : Nat)), (q (2 : Nat)), (q (3 : Nat)), (q (4 : Nat)), (q (5 : Nat)), (a (0 : Nat)), (a (1 : Nat)), (a (2 : Nat)), (a (3 : Nat)), (a (4 : Nat)), (a (5 : Nat)), (a (6 : Nat)), (p (0 : Nat)), (p (1 : Nat)), (p (2 : Nat)), (p (3 : Nat)), (p (4 : Nat)), (p (5 : Nat)), (p (6 : Nat)), (p (7 : Nat)), (p (8 : Nat))])) == (@List.nil UInt8))) then (some ((cdb True (decide ((ByteArray.size ((S).1 [k, (q (0 : Nat)), (q (1 : Nat)), (q (2 : Nat)), (q (3 : Nat)), (q (4 : Nat)), (q (5 : Nat)), (a (0 : Nat)), (a (1 : Nat)), (a (2 : Nat)), (a (3 : Nat)), (a (4 : Nat)), (a (5 : Nat)), (a (6 : Nat)), (p (0 : Nat)), (p (1 : Nat)), (p (2 : Nat)), (p (3 : Nat)), (p (4 : Nat)), (p (5 : Nat)), (p (6 : Nat)), (p (7 : Nat)), (p (8 : Nat))])) ≤ (100000 : Nat)))) ∧ (Φ (AV.v (Value.bool false))))) else (bif (((S).4 s) != (0 : Int)) then (some ((cdb (cdb True (decide ((ByteArray.size ((S).1 [k, (q (0 : Nat)), (q (1 : Nat)), (q (2 : Nat)), (q (3 : Nat)), (q (4 : Nat)), (q (5 : Nat)), (a (0 : Nat)), (a (1 : Nat)), (a (2 : Nat)), (a (3 : Nat)), (a (4 : Nat)), (a (5 : Nat)), (a (6 : Nat)), (p (0 : Nat)), (p (1 : Nat)), (p (2 : Nat)), (p (3 : Nat)), (p (4 : Nat)), (p (5 : Nat)), (p (6 : Nat)), (p (7 : Nat)), (p (8 : Nat))])) ≤ (100000 : Nat)))) (decide ((ByteArray.size s) ≤ (100000 : Nat)))) ∧ (Φ (AV.v (Value.bool true))))) else (bif (((S).2 [((S).3 s (0 : Nat)), ((S).3 s (1 : Nat)), ((S).3 s (2 : Nat)), ((S).3 s (3 : Nat)), ((S).3 s (4 : Nat)), ((S).3 s (5 : Nat)), ((S).3 s (6 : Nat)), ((S).3 s (7 : Nat)), ((S).3 s (8 : Nat)), ((S).3 s (9 : Nat)), ((S).3 s (10 : Nat)), ((S).3 s (11 : Nat)), ((S).3 s (12 : Nat)), ((S).3 s (13 : Nat)), ((S).3 s (14 : Nat)), ((S).3 s (15 : Nat)), ((S).3 s (16 : Nat)), ((S).3 s (17 : Nat)), ((S).3 s (18 : Nat)), ((S).3 s (19 : Nat)), ((S).3 s (20 : Nat)), ((S).3 s (21 : Nat)), ((S).3 s (22 : Nat))]) == (0 : Int)) then (bif ((ByteArray.toList ((S).1 [((S).3 s (0 : Nat)), ((S).3 s (1 : Nat)), ((S).3 s (2 : Nat)), ((S).3 s (3 : Nat)), ((S).3 s (4 : Nat)), ((S).3 s (5 : Nat)), ((S).3 s (6 : Nat)), ((S).3 s (7 : Nat)), ((S).3 s (8 : Nat)), ((S).3 s (9 : Nat)), ((S).3 s (10 : Nat)), ((S).3 s (11 : Nat)), ((S).3 s (12 : Nat)), ((S).3 s (13 : Nat)), ((S).3 s (14 : Nat)), ((S).3 s (15 : Nat)), ((S).3 s (16 : Nat)), ((S).3 s (17 : Nat)), ((S).3 s (18 : Nat)), ((S).3 s (19 : Nat)), ((S).3 s (20 : Nat)), ((S).3 s (21 : Nat)), ((S).3 s (22 : Nat))])) == (ByteArray.toList s)) then (some ((cdb (cdb True (decide ((ByteArray.size ((S).1 [k, (q (0 : Nat)), (q (1 : Nat)), (q (2 : Nat)), (q (3 : Nat)), (q (4 : Nat)), (q (5 : Nat)), (a (0 : Nat)), (a (1 : Nat)), (a (2 : Nat)), (a (3 : Nat)), (a (4 : Nat)), (a (5 : Nat)), (a (6 : Nat)), (p (0 : Nat)), (p (1 : Nat)), (p (2 : Nat)), (p (3 : Nat)), (p (4 : Nat)), (p (5 : Nat)), (p (6 : Nat)), (p (7 : Nat)), (p (8 : Nat))])) ≤ (100000 : Nat)))) (decide ((ByteArray.size s) ≤ (100000 : Nat)))) ∧ (Φ (AV.v (Value.bool true))))) else (some ((cdb (cdb True (decide ((ByteArray.size ((S).1 [k, (q (0 : Nat)), (q (1 : Nat)), (q (2 : Nat)), (q (3 : Nat)), (q (4 : Nat)), (q (5 : Nat)), (a (0 : Nat)), (a (1 : Nat)), (a (2 : Nat)), (a (3 : Nat)), (a (4 : Nat)), (a (5 : Nat)), (a (6 : Nat)), (p (0 : Nat)), (p (1 : Nat)), (p (2 : Nat)), (p (3 : Nat)), (p (4 : Nat)), (p (5 : Nat)), (p (6 : Nat)), (p (7 : Nat)), (p (8 : Nat))])) ≤ (100000 : Nat)))) (decide ((ByteArray.size s) ≤ (100000 : Nat)))) ∧ (Φ (AV.v (Value.bool false)))))) else (some ((cdb (cdb True (decide ((ByteArray.size ((S).1 [k, (q (0 : Nat)), (q (1 : Nat)), (q (2 : Nat)), (q (3 : Nat)), (q (4 : Nat)), (q (5 : Nat)), (a (0 : Nat)), (a (1 : Nat)), (a (2 : Nat)), (a (3 : Nat)), (a (4 : Nat)), (a (5 : Nat)), (a (6 : Nat)), (p (0 : Nat)), (p (1 : Nat)), (p (2 : Nat)), (p (3 : Nat)), (p (4 : Nat)), (p (5 : Nat)), (p (6 : Nat)), (p (7 : Nat)), (p (8 : Nat))])) ≤ (100000 : Nat)))) (decide ((ByteArray.size s) ≤ (100000 : Nat)))) ∧ (Φ (AV.v (Value.bool false)))))))) else (bif (((S).4 s) != (0 : Int)) then (some ((cdb (cdb True (decide ((ByteArray.size ((S).1 [k, (q (0 : Nat)), (q (1 : Nat)), (q (2 : Nat)), (q (3 : Nat)), (q (4 : Nat)), (q (5 : Nat)), (a (0 : Nat)), (a (1 : Nat)), (a (2 : Nat)), (a (3 : Nat)), (a (4 : Nat)), (a (5 : Nat)), (a (6 : Nat)), (p (0 : Nat)), (p (1 : Nat)), (p (2 : Nat)), (p (3 : Nat)), (p (4 : Nat)), (p (5 : Nat)), (p (6 : Nat)), (p (7 : Nat)), (p (8 : Nat))])) ≤ (100000 : Nat)))) (decide ((ByteArray.size s) ≤ (100000 : Nat)))) ∧ (Φ (AV.v (Value.bool true))))) else (bif (((S).2 [((S).3 s (0 : Nat)), ((S).3 s (1 : Nat)), ((S).3 s (2 : Nat)), ((S).3 s (3 : Nat)), ((S).3 s (4 : Nat)), ((S).3 s (5 : Nat)), ((S).3 s (6 : Nat)), ((S).3 s (7 : Nat)), ((S).3 s (8 : Nat)), ((S).3 s (9 : Nat)), ((S).3 s (10 : Nat)), ((S).3 s (11 : Nat)), ((S).3 s (12 : Nat)), ((S).3 s (13 : Nat)), ((S).3 s (14 : Nat)), ((S).3 s (15 : Nat)), ((S).3 s (16 : Nat)), ((S).3 s (17 : Nat)), ((S).3 s (18 : Nat)), ((S).3 s (19 : Nat)), ((S).3 s (20 : Nat)), ((S).3 s (21 : Nat)), ((S).3 s (22 : Nat))]) == (0 : Int)) then (bif ((ByteArray.toList ((S).1 [((S).3 s (0 : Nat)), ((S).3 s (1 : Nat)), ((S).3 s (2 : Nat)), ((S).3 s (3 : Nat)), ((S).3 s (4 : Nat)), ((S).3 s (5 : Nat)), ((S).3 s (6 : Nat)), ((S).3 s (7 : Nat)), ((S).3 s (8 : Nat)), ((S).3 s (9 : Nat)), ((S).3 s (10 : Nat)), ((S).3 s (11 : Nat)), ((S).3 s (12 : Nat)), ((S).3 s (13 : Nat)), ((S).3 s (14 : Nat)), ((S).3 s (15 : Nat)), ((S).3 s (16 : Nat)), ((S).3 s (17 : Nat)), ((S).3 s (18 : Nat)), ((S).3 s (19 : Nat)), ((S).3 s (20 : Nat)), ((S).3 s (21 : Nat)), ((S).3 s (22 : Nat))])) == (ByteArray.toList s)) then (some ((cdb (cdb True (decide ((ByteArray.size ((S).1 [k, (q (0 : Nat)), (q (1 : Nat)), (q (2 : Nat)), (q (3 : Nat)), (q (4 : Nat)), (q (5 : Nat)), (a (0 : Nat)), (a (1 : Nat)), (a (2 : Nat)), (a (3 : Nat)), (a (4 : Nat)), (a (5 : Nat)), (a (6 : Nat)), (p (0 : Nat)), (p (1 : Nat)), (p (2 : Nat)), (p (3 : Nat)), (p (4 : Nat)), (p (5 : Nat)), (p (6 : Nat)), (p (7 : Nat)), (p (8 : Nat))])) ≤ (100000 : Nat)))) (decide ((ByteArray.size s) ≤ (100000 : Nat)))) ∧ (Φ (AV.v (Value.bool true))))) else (some ((cdb (cdb True (decide ((ByteArray.size ((S).1 [k, (q (0 : Nat)), (q (1 : Nat)), (q (2 : Nat)), (q (3 : Nat)), (q (4 : Nat)), (q (5 : Nat)), (a (0 : Nat)), (a (1 : Nat)), (a (2 : Nat)), (a (3 : Nat)), (a (4 : Nat)), (a (5 : Nat)), (a (6 : Nat)), (p (0 : Nat)), (p (1 : Nat)), (p (2 : Nat)), (p (3 : Nat)), (p (4 : Nat)), (p (5 : Nat)), (p (6 : Nat)), (p (7 : Nat)), (p (8 : Nat))])) ≤ (100000 : Nat)))) (decide ((ByteArray.size s) ≤ (100000 : Nat)))) ∧ (Φ (AV.v (Value.bool false)))))) else (some ((cdb (cdb True (decide ((ByteArray.size ((S).1 [k, (q (0 : Nat)), (q (1 : Nat)), (q (2 : Nat)), (q (3 : Nat)), (q (4 : Nat)), (q (5 : Nat)), (a (0 : Nat)), (a (1 : Nat)), (a (2 : Nat)), (a (3 : Nat)), (a (4 : Nat)), (a (5 : Nat)), (a (6 : Nat)), (p (0 : Nat)), (p (1 : Nat)), (p (2 : Nat)), (p (3 : Nat)), (p (4 : Nat)), (p (5 : Nat)), (p (6 : Nat)), (p (7 : Nat)), (p (8 : Nat))])) ≤ (100000 : Nat)))) (decide ((ByteArray.size s) ≤ (100000 : Nat)))) ∧ (Φ (AV.v (Value.bool false)))))))))) else (bif (((S).2 [k, (q (0 : Nat)), (q (1 : Nat)), (q (2 : Nat)), (q (3 : Nat)), (q (4 : Nat)), (q (5 : Nat)), (a (0 : Nat)), (a (1 : Nat)), (a (2 : Nat)), (a (3 : Nat)), (a (4 : Nat)), (a (5 : Nat)), (a (6 : Nat)), (p (0 : Nat)), (p (1 : Nat)), (p (2 : Nat)), (p (3 : Nat)), (p (4 : Nat)), (p (5 : Nat)), (p (6 : Nat)), (p (7 : Nat)), (p (8 : Nat))]) != (0 : Int)) then (bif (!((ByteArray.toList ((S).1 [k, (q (0 : Nat)), (q (1 : Nat)), (q (2 : Nat)), (q (3 : Nat)), (q (4 : Nat)), (q (5 : Nat)), (a (0 : Nat)), (a (1 : Nat)), (a (2 : Nat)), (a (3 : Nat)), (a (4 : Nat)), (a (5 : Nat)), (a (6 : Nat)), (p (0 : Nat)), (p (1 : Nat)), (p (2 : Nat)), (p (3 : Nat)), (p (4 : Nat)), (p (5 : Nat)), (p (6 : Nat)), (p (7 : Nat)), (p (8 : Nat))])) == (@List.nil UInt8))) then (some ((cdb True (decide ((ByteArray.size ((S).1 [k, (q (0 : Nat)), (q (1 : Nat)), (q (2 : Nat)), (q (3 : Nat)), (q (4 : Nat)), (q (5 : Nat)), (a (0 : Nat)), (a (1 : Nat)), (a (2 : Nat)), (a (3 : Nat)), (a (4 : Nat)), (a (5 : Nat)), (a (6 : Nat)), (p (0 : Nat)), (p (1 : Nat)), (p (2 : Nat)), (p (3 : Nat)), (p (4 : Nat)), (p (5 : Nat)), (p (6 : Nat)), (p (7 : Nat)), (p (8 : Nat))])) ≤ (100000 : Nat)))) ∧ (Φ (AV.v (Value.bool false))))) else (bif (((S).4 s) != (0 : Int)) then (some ((cdb (cdb True (decide ((ByteArray.size ((S).1 [k, (q (0 : Nat)), (q (1 : Nat)), (q (2 : Nat)), (q (3 : Nat)), (q (4 : Nat)), (q (5 : Nat)), (a (0 : Nat)), (a (1 : Nat)), (a (2 : Nat)), (a (3 : Nat)), (a (4 : Nat)), (a (5 : Nat)), (a (6 : Nat)), (p (0 : Nat)), (p (1 : Nat)), (p (2 : Nat)), (p (3 : Nat)), (p (4 : Nat)), (p (5 : Nat)), (p (6 : Nat)), (p (7 : Nat)), (p (8 : Nat))])) ≤ (100000 : Nat)))) (decide ((ByteArray.size s) ≤ (100000 : Nat)))) ∧ (Φ (AV.v (Value.bool true))))) else (bif (((S).2 [((S).3 s (0 : Nat)), ((S).3 s (1 : Nat)), ((S).3 s (2 : Nat)), ((S).3 s (3 : Nat)), ((S).3 s (4 : Nat)), ((S).3 s (5 : Nat)), ((S).3 s (6 : Nat)), ((S).3 s (7 : Nat)), ((S).3 s (8 : Nat)), ((S).3 s (9 : Nat)), ((S).3 s (10 : Nat)), ((S).3 s (11 : Nat)), ((S).3 s (12 : Nat)), ((S).3 s (13 : Nat)), ((S).3 s (14 : Nat)), ((S).3 s (15 : Nat)), ((S).3 s (16 : Nat)), ((S).3 s (17 : Nat)), ((S).3 s (18 : Nat)), ((S).3 s (19 : Nat)), ((S).3 s (20 : Nat)), ((S).3 s (21 : Nat)), ((S).3 s (22 : Nat))]) == (0 : Int)) then (bif ((ByteArray.toList ((S).1 [((S).3 s (0 : Nat)), ((S).3 s (1 : Nat)), ((S).3 s (2 : Nat)), ((S).3 s (3 : Nat)), ((S).3 s (4 : Nat)), ((S).3 s (5 : Nat)), ((S).3 s (6 : Nat)), ((S).3 s (7 : Nat)), ((S).3 s (8 : Nat)), ((S).3 s (9 : Nat)), ((S).3 s (10 : Nat)), ((S).3 s (11 : Nat)), ((S).3 s (12 : Nat)), ((S).3 s (13 : Nat)), ((S).3 s (14 : Nat)), ((S).3 s (15 : Nat)), ((S).3 s (16 : Nat)), ((S).3 s (17 : Nat)), ((S).3 s (18 : Nat)), ((S).3 s (19 : Nat)), ((S).3 s (20 : Nat)), ((S).3 s (21 : Nat)), ((S).3 s (22 : Nat))])) == (ByteArray.toList s)) then (some ((cdb (cdb True (decide ((ByteArray.size ((S).1 [k, (q (0 : Nat)), (q (1 : Nat)), (q (2 : Nat)), (q (3 : Nat)), (q (4 : Nat)), (q (5 : Nat)), (a (0 : Nat)), (a (1 : Nat)), (a (2 : Nat)), (a (3 : Nat)), (a (4 : Nat)), (a (5 : Nat)), (a (6 : Nat)), (p (0 : Nat)), (p (1 : Nat)), (p (2 : Nat)), (p (3 : Nat)), (p (4 : Nat)), (p (5 : Nat)), (p (6 : Nat)), (p (7 : Nat)), (p (8 : Nat))])) ≤ (100000 : Nat)))) (decide ((ByteArray.size s) ≤ (100000 : Nat)))) ∧ (Φ (AV.v (Value.bool true))))) else (some ((cdb (cdb True (decide ((ByteArray.size ((S).1 [k, (q (0 : Nat)), (q (1 : Nat)), (q (2 : Nat)), (q (3 : Nat)), (q (4 : Nat)), (q (5 : Nat)), (a (0 : Nat)), (a (1 : Nat)), (a (2 : Nat)), (a (3 : Nat)), (a (4 : Nat)), (a (5 : Nat)), (a (6 : Nat)), (p (0 : Nat)), (p (1 : Nat)), (p (2 : Nat)), (p (3 : Nat)), (p (4 : Nat)), (p (5 : Nat)), (p (6 : Nat)), (p (7 : Nat)), (p (8 : Nat))])) ≤ (100000 : Nat)))) (decide ((ByteArray.size s) ≤ (100000 : Nat)))) ∧ (Φ (AV.v (Value.bool false)))))) else (some ((cdb (cdb True (decide ((ByteArray.size ((S).1 [k, (q (0 : Nat)), (q (1 : Nat)), (q (2 : Nat)), (q (3 : Nat)), (q (4 : Nat)), (q (5 : Nat)), (a (0 : Nat)), (a (1 : Nat)), (a (2 : Nat)), (a (3 : Nat)), (a (4 : Nat)), (a (5 : Nat)), (a (6 : Nat)), (p (0 : Nat)), (p (1 : Nat)), (p (2 : Nat)), (p (3 : Nat)), (p (4 : Nat)), (p (5 : Nat)), (p (6 : Nat)), (p (7 : Nat)), (p (8 : Nat))])) ≤ (100000 : Nat)))) (decide ((ByteArray.size s) ≤ (100000 : Nat)))) ∧ (Φ (AV.v (Value.bool false)))))))) else (bif (((S).4 s) != (0 : Int)) then (some ((cdb (cdb True (decide ((ByteArray.size ((S).1 [k, (q (0 : Nat)), (q (1 : Nat)), (q (2 : Nat)), (q (3 : Nat)), (q (4 : Nat)), (q (5 : Nat)), (a (0 : Nat)), (a (1 : Nat)), (a (2 : Nat)), (a (3 : Nat)), (a (4 : Nat)), (a (5 : Nat)), (a (6 : Nat)), (p (0 : Nat)), (p (1 : Nat)), (p (2 : Nat)), (p (3 : Nat)), (p (4 : Nat)), (p (5 : Nat)), (p (6 : Nat)), (p (7 : Nat)), (p (8 : Nat))])) ≤ (100000 : Nat)))) (decide ((ByteArray.size s) ≤ (100000 : Nat)))) ∧ (Φ (AV.v (Value.bool true))))) else (bif (((S).2 [((S).3 s (0 : Nat)), ((S).3 s (1 : Nat)), ((S).3 s (2 : Nat)), ((S).3 s (3 : Nat)), ((S).3 s (4 : Nat)), ((S).3 s (5 : Nat)), ((S).3 s (6 : Nat)), ((S).3 s (7 : Nat)), ((S).3 s (8 : Nat)), ((S).3 s (9 : Nat)), ((S).3 s (10 : Nat)), ((S).3 s (11 : Nat)), ((S).3 s (12 : Nat)), ((S).3 s (13 : Nat)), ((S).3 s (14 : Nat)), ((S).3 s (15 : Nat)), ((S).3 s (16 : Nat)), ((S).3 s (17 : Nat)), ((S).3 s (18 : Nat)), ((S).3 s (19 : Nat)), ((S).3 s (20 : Nat)), ((S).3 s (21 : Nat)), ((S).3 s (22 : Nat))]) == (0 : Int)) then (bif ((ByteArray.toList ((S).1 [((S).3 s (0 : Nat)), ((S).3 s (1 : Nat)), ((S).3 s (2 : Nat)), ((S).3 s (3 : Nat)), ((S).3 s (4 : Nat)), ((S).3 s (5 : Nat)), ((S).3 s (6 : Nat)), ((S).3 s (7 : Nat)), ((S).3 s (8 : Nat)), ((S).3 s (9 : Nat)), ((S).3 s (10 : Nat)), ((S).3 s (11 : Nat)), ((S).3 s (12 : Nat)), ((S).3 s (13 : Nat)), ((S).3 s (14 : Nat)), ((S).3 s (15 : Nat)), ((S).3 s (16 : Nat)), ((S).3 s (17 : Nat)), ((S).3 s (18 : Nat)), ((S).3 s (19 : Nat)), ((S).3 s (20 : Nat)), ((S).3 s (21 : Nat)), ((S).3 s (22 : Nat))])) == (ByteArray.toList s)) then (some ((cdb (cdb True (decide ((ByteArray.size ((S).1 [k, (q (0 : Nat)), (q (1 : Nat)), (q (2 : Nat)), (q (3 : Nat)), (q (4 : Nat)), (q (5 : Nat)), (a (0 : Nat)), (a (1 : Nat)), (a (2 : Nat)), (a (3 : Nat)), (a (4 : Nat)), (a (5 : Nat)), (a (6 : Nat)), (p (0 : Nat)), (p (1 : Nat)), (p (2 : Nat)), (p (3 : Nat)), (p (4 : Nat)), (p (5 : Nat)), (p (6 : Nat)), (p (7 : Nat)), (p (8 : Nat))])) ≤ (100000 : Nat)))) (decide ((ByteArray.size s) ≤ (100000 : Nat)))) ∧ (Φ (AV.v (Value.bool true))))) else (some ((cdb (cdb True (decide ((ByteArray.size ((S).1 [k, (q (0 : Nat)), (q (1 : Nat)), (q (2 : Nat)), (q (3 : Nat)), (q (4 : Nat)), (q (5 : Nat)), (a (0 : Nat)), (a (1 : Nat)), (a (2 : Nat)), (a (3 : Nat)), (a (4 : Nat)), (a (5 : Nat)), (a (6 : Nat)), (p (0 : Nat)), (p (1 : Nat)), (p (2 : Nat)), (p (3 : Nat)), (p (4 : Nat)), (p (5 : Nat)), (p (6 : Nat)), (p (7 : Nat)), (p (8 : Nat))])) ≤ (100000 : Nat)))) (decide ((ByteArray.size s) ≤ (100000 : Nat)))) ∧ (Φ (AV.v (Value.bool false)))))) else (some ((cdb (cdb True (decide ((ByteArray.size ((S).1 [k, (q (0 : Nat)), (q (1 : Nat)), (q (2 : Nat)), (q (3 : Nat)), (q (4 : Nat)), (q (5 : Nat)), (a (0 : Nat)), (a (1 : Nat)), (a (2 : Nat)), (a (3 : Nat)), (a (4 : Nat)), (a (5 : Nat)), (a (6 : Nat)), (p (0 : Nat)), (p (1 : Nat)), (p (2 : Nat)), (p (3 : Nat)), (p (4 : Nat)), (p (5 : Nat)), (p (6 : Nat)), (p (7 : Nat)), (p (8 : Nat))])) ≤ (100000 : Nat)))) (decide ((ByteArray.size s) ≤ (100000 : Nat)))) ∧ (Φ (AV.v (Value.bool false)))))))))) := by kernel_rfl
end Go.Proofs.YtlonpmcgejdkkaaDoor.AE
namespace Go.Proofs.YtlonpmcgejdkkaaDoor.AE.Q24
set_option maxRecDepth 100000
open Go.RowKit Oc _root_.Go.Proofs.YtlonpmcgejdkkaaDoor.AE.Nm
theorem piece_back (r : ByteArray) (m : Int) (h1 : 1 ≤ m) (h2 : m ≤ 6) (h : m ≤ r.size) : be m.toNat (takeN r m).toNat ++ (takeR r m).data.toList = r.data.toList := by
  have hin : inT r m = true := by simp only [inT, Bool.and_eq_true, decide_eq_true_eq]; omega
  have hl : r.data.toList.length = r.size := by rw [Array.length_toList]; rfl
  have e1 : (r.extract 0 m.toNat).data.toList = r.data.toList.take m.toNat := by simp
  have e2 : (r.extract m.toNat r.size).data.toList = r.data.toList.drop m.toNat := by
    simp only [ByteArray.data_extract, Array.toList_extract, List.extract]
    rw [List.take_of_length_le (by rw [List.length_drop]; omega)]
  rw [takeN, if_pos hin, takeR, if_pos hin, e1, e2, Int.toNat_natCast]
  have e3 : (r.data.toList.take m.toNat).length = m.toNat := by rw [List.length_take]; omega
  have := be_num (r.data.toList.take m.toNat)
  rw [e3] at this
  rw [this, List.take_append_drop]
theorem takeN_one {r : ByteArray} (h : (1 : Int) ≤ r.size) : 0 ≤ takeN r 1 ∧ takeN r 1 < 256 := by
  have hin : inT r 1 = true := by simp only [inT, Bool.and_eq_true, decide_eq_true_eq]; omega
  rw [takeN, if_pos hin]
  have hl : r.data.toList.length = r.size := by rw [Array.length_toList]; rfl
  have e1 : (r.extract 0 (1 : Int).toNat).data.toList = r.data.toList.take 1 := by simp
  rw [e1]
  have h2 := num_lt (r.data.toList.take 1)
  have h3 : (r.data.toList.take 1).length = 1 := by rw [List.length_take]; omega
  rw [h3] at h2
  omega
theorem ok_zero {f : Nat → Int} (h : okP f) : chk24 f = 0 := by unfold chk24; rw [decide_eq_true h]; rfl
theorem zero_ok {f : Nat → Int} (h : chk24 f = 0) : okP f := chk_ok (by rw [h]; rfl)
theorem put_back {f : Nat → Int} (h : okP f) : (putR f).size = 17 ∧ numsOf w24 (putR f) = [f 0, (f 1 + 1), f 2, f 3, f 4, f 5] := by
  obtain ⟨g0, g1, g2, g3, g4, g5⟩ := fits24 h
  have hb : putR f = ⟨(bytes24 f).toArray⟩ := by unfold putR; rw [if_pos h]
  rw [hb]
  refine ⟨by rw [mk_size]; simp [bytes24, be_length], ?_⟩
  have e : bytes24 f = be 6 (f 0).toNat ++ (be 1 (f 1 + 1).toNat ++ (be 1 (f 2).toNat ++ (be 1 (f 3).toNat ++ (be 6 (f 4).toNat ++ (be 2 (f 5).toNat ++ []))))) := by simp [bytes24, List.append_assoc]
  rw [e]
  have x0 := take_piece (f 0) 6 (be 1 (f 1 + 1).toNat ++ (be 1 (f 2).toNat ++ (be 1 (f 3).toNat ++ (be 6 (f 4).toNat ++ (be 2 (f 5).toNat ++ []))))) g0
  have x1 := take_piece (f 1 + 1) 1 (be 1 (f 2).toNat ++ (be 1 (f 3).toNat ++ (be 6 (f 4).toNat ++ (be 2 (f 5).toNat ++ [])))) g1
  have x2 := take_piece (f 2) 1 (be 1 (f 3).toNat ++ (be 6 (f 4).toNat ++ (be 2 (f 5).toNat ++ []))) g2
  have x3 := take_piece (f 3) 1 (be 6 (f 4).toNat ++ (be 2 (f 5).toNat ++ [])) g3
  have x4 := take_piece (f 4) 6 (be 2 (f 5).toNat ++ []) g4
  have x5 := take_piece (f 5) 2 ([]) g5
  simp only [w24, numsOf]
  have u0 : (1 : Int).toNat = 1 := rfl
  have u1 : (6 : Int).toNat = 6 := rfl
  have u2 : (2 : Int).toNat = 2 := rfl
  simp only [u0, u1, u2] at x0 x1 x2 x3 x4 x5
  rw [x0.1, x0.2.2]
  rw [x1.1, x1.2.2]
  rw [x2.1, x2.2.2]
  rw [x3.1, x3.2.2]
  rw [x4.1, x4.2.2]
  rw [x5.1]
theorem vals_back {f : Nat → Int} (h : okP f) : vals24 (putR f) = six [f 0, f 1, f 2, f 3, f 4, f 5] := by
  unfold vals24
  rw [(put_back h).2]
  have hw : IntKind.wrap .i64 (f 1 + 1 - 1) = f 1 := by
    obtain ⟨a0, b0, a1, b1, _⟩ := h
    rw [IntKind.wrap_i64]; omega
  show six [f 0, IntKind.wrap .i64 (f 1 + 1 - 1), f 2, f 3, f 4, f 5] = _
  rw [hw]
theorem get_back {f : Nat → Int} (h : okP f) : getE (putR f) = 0 ∧ getN (putR f) 0 = f 0 ∧ getN (putR f) 1 = f 1 ∧ getN (putR f) 2 = f 2 ∧ getN (putR f) 3 = f 3 ∧ getN (putR f) 4 = f 4 ∧ getN (putR f) 5 = f 5 := by
  have h1 := (put_back h).1
  have hv : chk24 (vals24 (putR f)) = chk24 f := by rw [vals_back h]; kernel_rfl
  have he : getE (putR f) = 0 := e0 (by omega) (by rw [hv]; exact ok_zero h)
  refine ⟨he, ?_⟩
  have hg : getN (putR f) = six [f 0, f 1, f 2, f 3, f 4, f 5] := by unfold getN; rw [if_pos he, vals_back h]
  rw [hg]
  exact ⟨rfl, rfl, rfl, rfl, rfl, rfl⟩
theorem get_then {s : ByteArray} (h : getE s = 0) : chk24 (getN s) = 0 ∧ putR (getN s) = s := by
  have hg : getN s = vals24 s := by unfold getN; rw [if_pos h]
  have h0 := h
  unfold getE at h0
  split at h0
  · cases h0
  rename_i n14
  split at h0
  · cases h0
  rename_i hor
  have hz : s.size = 17 := by omega
  have hc : chk24 (vals24 s) = 0 := Decidable.byContradiction fun hne => hor (.inr hne)
  rw [hg]
  refine ⟨hc, ?_⟩
  have hok := zero_ok hc
  unfold putR
  rw [if_pos hok]
  have hb : bytes24 (vals24 s) = s.data.toList := by
    obtain ⟨s1, q1⟩ : ∃ x, x = takeR s 6 := ⟨_, rfl⟩
    obtain ⟨s2, q2⟩ : ∃ x, x = takeR s1 1 := ⟨_, rfl⟩
    obtain ⟨s3, q3⟩ : ∃ x, x = takeR s2 1 := ⟨_, rfl⟩
    obtain ⟨s4, q4⟩ : ∃ x, x = takeR s3 1 := ⟨_, rfl⟩
    obtain ⟨s5, q5⟩ : ∃ x, x = takeR s4 6 := ⟨_, rfl⟩
    obtain ⟨s6, q6⟩ : ∃ x, x = takeR s5 2 := ⟨_, rfl⟩
    have z0 := takeR_size (r := s) (m := 6) (by decide) (by decide) (by omega)
    rw [← q1] at z0
    have p0 := piece_back s 6 (by decide) (by decide) (by omega)
    rw [← q1] at p0
    have z1 := takeR_size (r := s1) (m := 1) (by decide) (by decide) (by omega)
    rw [← q2] at z1
    have p1 := piece_back s1 1 (by decide) (by decide) (by omega)
    rw [← q2] at p1
    have z2 := takeR_size (r := s2) (m := 1) (by decide) (by decide) (by omega)
    rw [← q3] at z2
    have p2 := piece_back s2 1 (by decide) (by decide) (by omega)
    rw [← q3] at p2
    have z3 := takeR_size (r := s3) (m := 1) (by decide) (by decide) (by omega)
    rw [← q4] at z3
    have p3 := piece_back s3 1 (by decide) (by decide) (by omega)
    rw [← q4] at p3
    have z4 := takeR_size (r := s4) (m := 6) (by decide) (by decide) (by omega)
    rw [← q5] at z4
    have p4 := piece_back s4 6 (by decide) (by decide) (by omega)
    rw [← q5] at p4
    have z5 := takeR_size (r := s5) (m := 2) (by decide) (by decide) (by omega)
    rw [← q6] at z5
    have p5 := piece_back s5 2 (by decide) (by decide) (by omega)
    rw [← q6] at p5
    have last : s6.data.toList = [] := by
      have : s6.data.toList.length = s6.size := by rw [Array.length_toList]; rfl
      exact List.eq_nil_of_length_eq_zero (by omega)
    rw [last] at p5
    have e : vals24 s = six [takeN s 6, IntKind.wrap .i64 (takeN s1 1 - 1), takeN s2 1, takeN s3 1, takeN s4 6, takeN s5 2] := by
      subst q6 q5 q4 q3 q2 q1; kernel_rfl
    have b1 := takeN_one (r := s1) (by omega)
    have hw : IntKind.wrap .i64 (takeN s1 1 - 1) = takeN s1 1 - 1 := by rw [IntKind.wrap_i64]; omega
    rw [hw] at e
    rw [e, ← p0, ← p1, ← p2, ← p3, ← p4, ← p5]
    have c1 : takeN s1 1 - 1 + 1 = takeN s1 1 := by omega
    simp [bytes24, six, List.append_assoc, c1]
  rw [hb]
end Go.Proofs.YtlonpmcgejdkkaaDoor.AE.Q24
namespace Go.Proofs.YtlonpmcgejdkkaaDoor.AE.A25
set_option maxRecDepth 100000
open Go.RowKit Oc _root_.Go.Proofs.YtlonpmcgejdkkaaDoor.AE.Nm
theorem piece_back (r : ByteArray) (m : Int) (h1 : 1 ≤ m) (h2 : m ≤ 6) (h : m ≤ r.size) : be m.toNat (takeN r m).toNat ++ (takeR r m).data.toList = r.data.toList := by
  have hin : inT r m = true := by simp only [inT, Bool.and_eq_true, decide_eq_true_eq]; omega
  have hl : r.data.toList.length = r.size := by rw [Array.length_toList]; rfl
  have e1 : (r.extract 0 m.toNat).data.toList = r.data.toList.take m.toNat := by simp
  have e2 : (r.extract m.toNat r.size).data.toList = r.data.toList.drop m.toNat := by
    simp only [ByteArray.data_extract, Array.toList_extract, List.extract]
    rw [List.take_of_length_le (by rw [List.length_drop]; omega)]
  rw [takeN, if_pos hin, takeR, if_pos hin, e1, e2, Int.toNat_natCast]
  have e3 : (r.data.toList.take m.toNat).length = m.toNat := by rw [List.length_take]; omega
  have := be_num (r.data.toList.take m.toNat)
  rw [e3] at this
  rw [this, List.take_append_drop]
theorem takeN_one {r : ByteArray} (h : (1 : Int) ≤ r.size) : 0 ≤ takeN r 1 ∧ takeN r 1 < 256 := by
  have hin : inT r 1 = true := by simp only [inT, Bool.and_eq_true, decide_eq_true_eq]; omega
  rw [takeN, if_pos hin]
  have hl : r.data.toList.length = r.size := by rw [Array.length_toList]; rfl
  have e1 : (r.extract 0 (1 : Int).toNat).data.toList = r.data.toList.take 1 := by simp
  rw [e1]
  have h2 := num_lt (r.data.toList.take 1)
  have h3 : (r.data.toList.take 1).length = 1 := by rw [List.length_take]; omega
  rw [h3] at h2
  omega
theorem ok_zero {f : Nat → Int} (h : okP f) : chk25 f = 0 := by unfold chk25; rw [decide_eq_true h]; rfl
theorem zero_ok {f : Nat → Int} (h : chk25 f = 0) : okP f := chk_ok (by rw [h]; rfl)
theorem put_back {f : Nat → Int} (h : okP f) : (putR f).size = 15 ∧ numsOf w25 (putR f) = [f 0, f 1, (f 2 + 1), f 3, f 4, f 5, f 6] := by
  obtain ⟨g0, g1, g2, g3, g4, g5, g6⟩ := fits25 h
  have hb : putR f = ⟨(bytes25 f).toArray⟩ := by unfold putR; rw [if_pos h]
  rw [hb]
  refine ⟨by rw [mk_size]; simp [bytes25, be_length], ?_⟩
  have e : bytes25 f = be 6 (f 0).toNat ++ (be 1 (f 1).toNat ++ (be 1 (f 2 + 1).toNat ++ (be 1 (f 3).toNat ++ (be 1 (f 4).toNat ++ (be 4 (f 5).toNat ++ (be 1 (f 6).toNat ++ [])))))) := by simp [bytes25, List.append_assoc]
  rw [e]
  have x0 := take_piece (f 0) 6 (be 1 (f 1).toNat ++ (be 1 (f 2 + 1).toNat ++ (be 1 (f 3).toNat ++ (be 1 (f 4).toNat ++ (be 4 (f 5).toNat ++ (be 1 (f 6).toNat ++ [])))))) g0
  have x1 := take_piece (f 1) 1 (be 1 (f 2 + 1).toNat ++ (be 1 (f 3).toNat ++ (be 1 (f 4).toNat ++ (be 4 (f 5).toNat ++ (be 1 (f 6).toNat ++ []))))) g1
  have x2 := take_piece (f 2 + 1) 1 (be 1 (f 3).toNat ++ (be 1 (f 4).toNat ++ (be 4 (f 5).toNat ++ (be 1 (f 6).toNat ++ [])))) g2
  have x3 := take_piece (f 3) 1 (be 1 (f 4).toNat ++ (be 4 (f 5).toNat ++ (be 1 (f 6).toNat ++ []))) g3
  have x4 := take_piece (f 4) 1 (be 4 (f 5).toNat ++ (be 1 (f 6).toNat ++ [])) g4
  have x5 := take_piece (f 5) 4 (be 1 (f 6).toNat ++ []) g5
  have x6 := take_piece (f 6) 1 ([]) g6
  simp only [w25, numsOf]
  have u0 : (1 : Int).toNat = 1 := rfl
  have u1 : (6 : Int).toNat = 6 := rfl
  have u2 : (4 : Int).toNat = 4 := rfl
  simp only [u0, u1, u2] at x0 x1 x2 x3 x4 x5 x6
  rw [x0.1, x0.2.2]
  rw [x1.1, x1.2.2]
  rw [x2.1, x2.2.2]
  rw [x3.1, x3.2.2]
  rw [x4.1, x4.2.2]
  rw [x5.1, x5.2.2]
  rw [x6.1]
theorem vals_back {f : Nat → Int} (h : okP f) : vals25 (putR f) = six [f 0, f 1, f 2, f 3, f 4, f 5, f 6] := by
  unfold vals25
  rw [(put_back h).2]
  have hw : IntKind.wrap .i64 (f 2 + 1 - 1) = f 2 := by
    obtain ⟨a0, b0, a1, b1, a2, b2, _⟩ := h
    rw [IntKind.wrap_i64]; omega
  show six [f 0, f 1, IntKind.wrap .i64 (f 2 + 1 - 1), f 3, f 4, f 5, f 6] = _
  rw [hw]
theorem get_back {f : Nat → Int} (h : okP f) : getE (putR f) = 0 ∧ getN (putR f) 0 = f 0 ∧ getN (putR f) 1 = f 1 ∧ getN (putR f) 2 = f 2 ∧ getN (putR f) 3 = f 3 ∧ getN (putR f) 4 = f 4 ∧ getN (putR f) 5 = f 5 ∧ getN (putR f) 6 = f 6 := by
  have h1 := (put_back h).1
  have hv : chk25 (vals25 (putR f)) = chk25 f := by rw [vals_back h]; kernel_rfl
  have he : getE (putR f) = 0 := e0 (by omega) (by rw [hv]; exact ok_zero h)
  refine ⟨he, ?_⟩
  have hg : getN (putR f) = six [f 0, f 1, f 2, f 3, f 4, f 5, f 6] := by unfold getN; rw [if_pos he, vals_back h]
  rw [hg]
  exact ⟨rfl, rfl, rfl, rfl, rfl, rfl, rfl⟩
theorem get_then {s : ByteArray} (h : getE s = 0) : chk25 (getN s) = 0 ∧ putR (getN s) = s := by
  have hg : getN s = vals25 s := by unfold getN; rw [if_pos h]
  have h0 := h
  unfold getE at h0
  split at h0
  · cases h0
  rename_i n14
  split at h0
  · cases h0
  rename_i hor
  have hz : s.size = 15 := by omega
  have hc : chk25 (vals25 s) = 0 := Decidable.byContradiction fun hne => hor (.inr hne)
  rw [hg]
  refine ⟨hc, ?_⟩
  have hok := zero_ok hc
  unfold putR
  rw [if_pos hok]
  have hb : bytes25 (vals25 s) = s.data.toList := by
    obtain ⟨s1, q1⟩ : ∃ x, x = takeR s 6 := ⟨_, rfl⟩
    obtain ⟨s2, q2⟩ : ∃ x, x = takeR s1 1 := ⟨_, rfl⟩
    obtain ⟨s3, q3⟩ : ∃ x, x = takeR s2 1 := ⟨_, rfl⟩
    obtain ⟨s4, q4⟩ : ∃ x, x = takeR s3 1 := ⟨_, rfl⟩
    obtain ⟨s5, q5⟩ : ∃ x, x = takeR s4 1 := ⟨_, rfl⟩
    obtain ⟨s6, q6⟩ : ∃ x, x = takeR s5 4 := ⟨_, rfl⟩
    obtain ⟨s7, q7⟩ : ∃ x, x = takeR s6 1 := ⟨_, rfl⟩
    have z0 := takeR_size (r := s) (m := 6) (by decide) (by decide) (by omega)
    rw [← q1] at z0
    have p0 := piece_back s 6 (by decide) (by decide) (by omega)
    rw [← q1] at p0
    have z1 := takeR_size (r := s1) (m := 1) (by decide) (by decide) (by omega)
    rw [← q2] at z1
    have p1 := piece_back s1 1 (by decide) (by decide) (by omega)
    rw [← q2] at p1
    have z2 := takeR_size (r := s2) (m := 1) (by decide) (by decide) (by omega)
    rw [← q3] at z2
    have p2 := piece_back s2 1 (by decide) (by decide) (by omega)
    rw [← q3] at p2
    have z3 := takeR_size (r := s3) (m := 1) (by decide) (by decide) (by omega)
    rw [← q4] at z3
    have p3 := piece_back s3 1 (by decide) (by decide) (by omega)
    rw [← q4] at p3
    have z4 := takeR_size (r := s4) (m := 1) (by decide) (by decide) (by omega)
    rw [← q5] at z4
    have p4 := piece_back s4 1 (by decide) (by decide) (by omega)
    rw [← q5] at p4
    have z5 := takeR_size (r := s5) (m := 4) (by decide) (by decide) (by omega)
    rw [← q6] at z5
    have p5 := piece_back s5 4 (by decide) (by decide) (by omega)
    rw [← q6] at p5
    have z6 := takeR_size (r := s6) (m := 1) (by decide) (by decide) (by omega)
    rw [← q7] at z6
    have p6 := piece_back s6 1 (by decide) (by decide) (by omega)
    rw [← q7] at p6
    have last : s7.data.toList = [] := by
      have : s7.data.toList.length = s7.size := by rw [Array.length_toList]; rfl
      exact List.eq_nil_of_length_eq_zero (by omega)
    rw [last] at p6
    have e : vals25 s = six [takeN s 6, takeN s1 1, IntKind.wrap .i64 (takeN s2 1 - 1), takeN s3 1, takeN s4 1, takeN s5 4, takeN s6 1] := by
      subst q7 q6 q5 q4 q3 q2 q1; kernel_rfl
    have b1 := takeN_one (r := s2) (by omega)
    have hw : IntKind.wrap .i64 (takeN s2 1 - 1) = takeN s2 1 - 1 := by rw [IntKind.wrap_i64]; omega
    rw [hw] at e
    rw [e, ← p0, ← p1, ← p2, ← p3, ← p4, ← p5, ← p6]
    have c1 : takeN s2 1 - 1 + 1 = takeN s2 1 := by omega
    simp [bytes25, six, List.append_assoc, c1]
  rw [hb]
end Go.Proofs.YtlonpmcgejdkkaaDoor.AE.A25
namespace Go.Proofs.YtlonpmcgejdkkaaDoor.AE.P26
set_option maxRecDepth 100000
open Go.RowKit Oc _root_.Go.Proofs.YtlonpmcgejdkkaaDoor.AE.Nm
theorem piece_back (r : ByteArray) (m : Int) (h1 : 1 ≤ m) (h2 : m ≤ 6) (h : m ≤ r.size) : be m.toNat (takeN r m).toNat ++ (takeR r m).data.toList = r.data.toList := by
  have hin : inT r m = true := by simp only [inT, Bool.and_eq_true, decide_eq_true_eq]; omega
  have hl : r.data.toList.length = r.size := by rw [Array.length_toList]; rfl
  have e1 : (r.extract 0 m.toNat).data.toList = r.data.toList.take m.toNat := by simp
  have e2 : (r.extract m.toNat r.size).data.toList = r.data.toList.drop m.toNat := by
    simp only [ByteArray.data_extract, Array.toList_extract, List.extract]
    rw [List.take_of_length_le (by rw [List.length_drop]; omega)]
  rw [takeN, if_pos hin, takeR, if_pos hin, e1, e2, Int.toNat_natCast]
  have e3 : (r.data.toList.take m.toNat).length = m.toNat := by rw [List.length_take]; omega
  have := be_num (r.data.toList.take m.toNat)
  rw [e3] at this
  rw [this, List.take_append_drop]
theorem ok_zero {f : Nat → Int} (h : okP f) : chk26 f = 0 := by unfold chk26; rw [decide_eq_true h]; rfl
theorem zero_ok {f : Nat → Int} (h : chk26 f = 0) : okP f := chk_ok (by rw [h]; rfl)
theorem put_back {f : Nat → Int} (h : okP f) : (putR f).size = 14 ∧ numsOf w26 (putR f) = [f 0, f 1, f 2, f 3, f 4, f 5, f 6, f 7, f 8] := by
  obtain ⟨g0, g1, g2, g3, g4, g5, g6, g7, g8⟩ := fits26 h
  have hb : putR f = ⟨(bytes26 f).toArray⟩ := by unfold putR; rw [if_pos h]
  rw [hb]
  refine ⟨by rw [mk_size]; simp [bytes26, be_length], ?_⟩
  have e : bytes26 f = be 1 (f 0).toNat ++ (be 4 (f 1).toNat ++ (be 2 (f 2).toNat ++ (be 2 (f 3).toNat ++ (be 1 (f 4).toNat ++ (be 1 (f 5).toNat ++ (be 1 (f 6).toNat ++ (be 1 (f 7).toNat ++ (be 1 (f 8).toNat ++ [])))))))) := by simp [bytes26, List.append_assoc]
  rw [e]
  have t := fun (n m : Int) (t : List UInt8) (h : fits n m = true) => take_piece n m t h
  have t0 := fun u => t (f 0) 1 u g0
  have t1 := fun u => t (f 1) 4 u g1
  have t2 := fun u => t (f 2) 2 u g2
  have t3 := fun u => t (f 3) 2 u g3
  have t4 := fun u => t (f 4) 1 u g4
  have t5 := fun u => t (f 5) 1 u g5
  have t6 := fun u => t (f 6) 1 u g6
  have t7 := fun u => t (f 7) 1 u g7
  have t8 := fun u => t (f 8) 1 u g8
  simp only [w26, numsOf]
  have x0 := t0 (be 4 (f 1).toNat ++ (be 2 (f 2).toNat ++ (be 2 (f 3).toNat ++ (be 1 (f 4).toNat ++ (be 1 (f 5).toNat ++ (be 1 (f 6).toNat ++ (be 1 (f 7).toNat ++ (be 1 (f 8).toNat ++ []))))))))
  have x1 := t1 (be 2 (f 2).toNat ++ (be 2 (f 3).toNat ++ (be 1 (f 4).toNat ++ (be 1 (f 5).toNat ++ (be 1 (f 6).toNat ++ (be 1 (f 7).toNat ++ (be 1 (f 8).toNat ++ [])))))))
  have x2 := t2 (be 2 (f 3).toNat ++ (be 1 (f 4).toNat ++ (be 1 (f 5).toNat ++ (be 1 (f 6).toNat ++ (be 1 (f 7).toNat ++ (be 1 (f 8).toNat ++ []))))))
  have x3 := t3 (be 1 (f 4).toNat ++ (be 1 (f 5).toNat ++ (be 1 (f 6).toNat ++ (be 1 (f 7).toNat ++ (be 1 (f 8).toNat ++ [])))))
  have x4 := t4 (be 1 (f 5).toNat ++ (be 1 (f 6).toNat ++ (be 1 (f 7).toNat ++ (be 1 (f 8).toNat ++ []))))
  have x5 := t5 (be 1 (f 6).toNat ++ (be 1 (f 7).toNat ++ (be 1 (f 8).toNat ++ [])))
  have x6 := t6 (be 1 (f 7).toNat ++ (be 1 (f 8).toNat ++ []))
  have x7 := t7 (be 1 (f 8).toNat ++ [])
  have x8 := t8 ([])
  have u0 : (1 : Int).toNat = 1 := rfl
  have u1 : (4 : Int).toNat = 4 := rfl
  have u2 : (2 : Int).toNat = 2 := rfl
  simp only [u0, u1, u2] at x0 x1 x2 x3 x4 x5 x6 x7 x8
  rw [x0.1, x0.2.2]
  rw [x1.1, x1.2.2]
  rw [x2.1, x2.2.2]
  rw [x3.1, x3.2.2]
  rw [x4.1, x4.2.2]
  rw [x5.1, x5.2.2]
  rw [x6.1, x6.2.2]
  rw [x7.1, x7.2.2]
  rw [x8.1]
theorem get_back {f : Nat → Int} (h : okP f) : getE (putR f) = 0 ∧ getN (putR f) 0 = f 0 ∧ getN (putR f) 1 = f 1 ∧ getN (putR f) 2 = f 2 ∧ getN (putR f) 3 = f 3 ∧ getN (putR f) 4 = f 4 ∧ getN (putR f) 5 = f 5 ∧ getN (putR f) 6 = f 6 ∧ getN (putR f) 7 = f 7 ∧ getN (putR f) 8 = f 8 := by
  obtain ⟨h1, h2⟩ := put_back h
  have hv : chk26 (vals26 (putR f)) = chk26 f := by unfold vals26; rw [h2]; kernel_rfl
  have he : getE (putR f) = 0 := e0 (by omega) (by rw [hv]; exact ok_zero h)
  refine ⟨he, ?_⟩
  have hg : getN (putR f) = nine [f 0, f 1, f 2, f 3, f 4, f 5, f 6, f 7, f 8] := by unfold getN; rw [if_pos he]; unfold vals26; rw [h2]
  rw [hg]
  exact ⟨rfl, rfl, rfl, rfl, rfl, rfl, rfl, rfl, rfl⟩
theorem get_then {s : ByteArray} (h : getE s = 0) : chk26 (getN s) = 0 ∧ putR (getN s) = s := by
  have hg : getN s = vals26 s := by unfold getN; rw [if_pos h]
  have h0 := h
  unfold getE at h0
  split at h0
  · cases h0
  rename_i n14
  split at h0
  · cases h0
  rename_i hor
  have hz : s.size = 14 := by omega
  have hc : chk26 (vals26 s) = 0 := Decidable.byContradiction fun hne => hor (.inr hne)
  rw [hg]
  refine ⟨hc, ?_⟩
  have hok := zero_ok hc
  unfold putR
  rw [if_pos hok]
  have hb : bytes26 (vals26 s) = s.data.toList := by
    have e : vals26 s = nine (numsOf w26 s) := rfl
    rw [e]
    simp only [w26, numsOf]
    obtain ⟨s1, q1⟩ : ∃ x, x = takeR s 1 := ⟨_, rfl⟩
    obtain ⟨s2, q2⟩ : ∃ x, x = takeR s1 4 := ⟨_, rfl⟩
    obtain ⟨s3, q3⟩ : ∃ x, x = takeR s2 2 := ⟨_, rfl⟩
    obtain ⟨s4, q4⟩ : ∃ x, x = takeR s3 2 := ⟨_, rfl⟩
    obtain ⟨s5, q5⟩ : ∃ x, x = takeR s4 1 := ⟨_, rfl⟩
    obtain ⟨s6, q6⟩ : ∃ x, x = takeR s5 1 := ⟨_, rfl⟩
    obtain ⟨s7, q7⟩ : ∃ x, x = takeR s6 1 := ⟨_, rfl⟩
    obtain ⟨s8, q8⟩ : ∃ x, x = takeR s7 1 := ⟨_, rfl⟩
    obtain ⟨s9, q9⟩ : ∃ x, x = takeR s8 1 := ⟨_, rfl⟩
    rw [← q1, ← q2, ← q3, ← q4, ← q5, ← q6, ← q7, ← q8]
    have z0 := takeR_size (r := s) (m := 1) (by decide) (by decide) (by omega)
    rw [← q1] at z0
    have p0 := piece_back s 1 (by decide) (by decide) (by omega)
    rw [← q1] at p0
    have z1 := takeR_size (r := s1) (m := 4) (by decide) (by decide) (by omega)
    rw [← q2] at z1
    have p1 := piece_back s1 4 (by decide) (by decide) (by omega)
    rw [← q2] at p1
    have z2 := takeR_size (r := s2) (m := 2) (by decide) (by decide) (by omega)
    rw [← q3] at z2
    have p2 := piece_back s2 2 (by decide) (by decide) (by omega)
    rw [← q3] at p2
    have z3 := takeR_size (r := s3) (m := 2) (by decide) (by decide) (by omega)
    rw [← q4] at z3
    have p3 := piece_back s3 2 (by decide) (by decide) (by omega)
    rw [← q4] at p3
    have z4 := takeR_size (r := s4) (m := 1) (by decide) (by decide) (by omega)
    rw [← q5] at z4
    have p4 := piece_back s4 1 (by decide) (by decide) (by omega)
    rw [← q5] at p4
    have z5 := takeR_size (r := s5) (m := 1) (by decide) (by decide) (by omega)
    rw [← q6] at z5
    have p5 := piece_back s5 1 (by decide) (by decide) (by omega)
    rw [← q6] at p5
    have z6 := takeR_size (r := s6) (m := 1) (by decide) (by decide) (by omega)
    rw [← q7] at z6
    have p6 := piece_back s6 1 (by decide) (by decide) (by omega)
    rw [← q7] at p6
    have z7 := takeR_size (r := s7) (m := 1) (by decide) (by decide) (by omega)
    rw [← q8] at z7
    have p7 := piece_back s7 1 (by decide) (by decide) (by omega)
    rw [← q8] at p7
    have z8 := takeR_size (r := s8) (m := 1) (by decide) (by decide) (by omega)
    rw [← q9] at z8
    have p8 := piece_back s8 1 (by decide) (by decide) (by omega)
    rw [← q9] at p8
    have last : s9.data.toList = [] := by
      have : s9.data.toList.length = s9.size := by rw [Array.length_toList]; rfl
      exact List.eq_nil_of_length_eq_zero (by omega)
    rw [last] at p8
    rw [← p0, ← p1, ← p2, ← p3, ← p4, ← p5, ← p6, ← p7, ← p8]
    simp [bytes26, nine, List.append_assoc]
  rw [hb]
end Go.Proofs.YtlonpmcgejdkkaaDoor.AE.P26
namespace Go.Proofs.YtlonpmcgejdkkaaDoor.AE
set_option maxRecDepth 100000
open Go.RowKit
theorem dec1 {S : DS} {x b : ByteArray} (g1 : S.gE x = 0) (g2 : S.gK x = 1) (g3 : S.gB x = b) (h : S.qF b = 0) : decE S x = 0 ∧ decL S x = 1 :: ([S.qG b 0, S.qG b 1, S.qG b 2, S.qG b 3, S.qG b 4, S.qG b 5] ++ (List.replicate 7 0 ++ List.replicate 9 0)) := by
  subst g3
  simp [decE, decL, g1, g2, h]
theorem dec2 {S : DS} {x b : ByteArray} (g1 : S.gE x = 0) (g2 : S.gK x = 2) (g3 : S.gB x = b) (h : S.aF b = 0) : decE S x = 0 ∧ decL S x = 2 :: (List.replicate 6 0 ++ ([S.aG b 0, S.aG b 1, S.aG b 2, S.aG b 3, S.aG b 4, S.aG b 5, S.aG b 6] ++ List.replicate 9 0)) := by
  subst g3
  simp [decE, decL, g1, g2, h]
theorem dec3 {S : DS} {x b : ByteArray} (g1 : S.gE x = 0) (g2 : S.gK x = 3) (g3 : S.gB x = b) (h : S.pF b = 0) : decE S x = 0 ∧ decL S x = 3 :: (List.replicate 6 0 ++ (List.replicate 7 0 ++ [S.pG b 0, S.pG b 1, S.pG b 2, S.pG b 3, S.pG b 4, S.pG b 5, S.pG b 6, S.pG b 7, S.pG b 8])) := by
  subst g3
  simp [decE, decL, g1, g2, h]
theorem dec_inv {S : DS} {s : ByteArray} (h : decE S s = 0) : S.gE s = 0 ∧ (if S.gK s = 1 then S.qF (S.gB s) else if S.gK s = 2 then S.aF (S.gB s) else S.pF (S.gB s)) = 0 := by
  unfold decE at h
  by_cases h1 : S.gE s = 0
  · refine ⟨h1, Decidable.byContradiction fun h2 => ?_⟩
    rw [if_neg (by omega), if_pos h2] at h
    cases h
  · rw [if_pos h1] at h
    exact absurd h h1
theorem enc_parts {k : Int} {q a p : Nat → Int} (h : encE esX k q a p = 0) : (1 ≤ k ∧ k ≤ 3) ∧ chkE esX k q a p = 0 ∧ zer k q a p ∧ H23.hpOk k (bodE esX k q a p) ∧ encS esX k q a p = H23.hpS k (bodE esX k q a p) := by
  unfold encE at h
  split at h
  · cases h
  · rename_i h0
    have h0 : 1 ≤ k ∧ k ≤ 3 := Decidable.byContradiction h0
    split at h
    · cases h
    · rename_i hn
      have hc : chkE esX k q a p = 0 := Decidable.byContradiction fun x => hn (.inl x)
      have hz : zer k q a p := Decidable.byContradiction fun x => hn (.inr x)
      have hok : H23.hpOk k (bodE esX k q a p) := by
        have h : H23.hpE k (bodE esX k q a p) = 0 := h
        unfold H23.hpE at h
        split at h
        · assumption
        · first
            | cases h
            | (split at h <;> cases h)
      refine ⟨h0, hc, hz, hok, ?_⟩
      unfold encS
      rw [if_neg (not_not_intro h0), if_neg hn]
      rfl
theorem enc_none {k : Int} {q a p : Nat → Int} (h : encE esX k q a p ≠ 0) : encS esX k q a p = ⟨#[]⟩ := by
  unfold encE at h
  unfold encS
  split
  · rfl
  · rename_i h0
    rw [if_neg h0] at h
    split
    · rfl
    · rename_i hn
      rw [if_neg hn] at h
      show H23.hpS k (bodE esX k q a p) = _
      have h : H23.hpE k (bodE esX k q a p) ≠ 0 := h
      unfold H23.hpE at h
      unfold H23.hpS
      split
      · rename_i hok; exact absurd (if_pos hok) h
      · rfl
theorem enc_size (k : Int) (q a p : Nat → Int) : (encS esX k q a p).size ≤ 100000 := by
  by_cases h : encE esX k q a p = 0
  · rw [(enc_parts h).2.2.2.2]
    have := H23.hp_le k (bodE esX k q a p)
    omega
  · rw [enc_none h]; exact Nat.zero_le _
theorem enc_back {k : Int} {q a p : Nat → Int} (h : encE esX k q a p = 0) : decE dsX (encS esX k q a p) = 0 ∧ decL dsX (encS esX k q a p) = [k, q 0, q 1, q 2, q 3, q 4, q 5, a 0, a 1, a 2, a 3, a 4, a 5, a 6, p 0, p 1, p 2, p 3, p 4, p 5, p 6, p 7, p 8] := by
  obtain ⟨h0, hc, hz, hok, hS⟩ := enc_parts h
  rw [hS]
  clear hS h
  obtain rfl | rfl | rfl : k = 1 ∨ k = 2 ∨ k = 3 := by omega
  · have hc : Q24.chk24 (Q24.six [q 0, q 1, q 2, q 3, q 4, q 5]) = 0 := by unfold chkE at hc; rw [if_pos rfl] at hc; exact hc
    have hbd : bodE esX 1 q a p = Q24.putR (Q24.six [q 0, q 1, q 2, q 3, q 4, q 5]) := by unfold bodE; rw [if_pos rfl]; rfl
    rw [hbd] at hok ⊢
    obtain ⟨g1, g2, g3⟩ := H23.hg_put hok
    have hb := Q24.get_back (Q24.zero_ok hc)
    obtain ⟨e0, e1⟩ := dec1 (S := dsX) g1 g2 g3 hb.1
    refine ⟨e0, ?_⟩
    rw [e1]
    show (1 : Int) :: (([Q24.getN (Q24.putR (Q24.six [q 0, q 1, q 2, q 3, q 4, q 5])) 0, Q24.getN (Q24.putR (Q24.six [q 0, q 1, q 2, q 3, q 4, q 5])) 1, Q24.getN (Q24.putR (Q24.six [q 0, q 1, q 2, q 3, q 4, q 5])) 2, Q24.getN (Q24.putR (Q24.six [q 0, q 1, q 2, q 3, q 4, q 5])) 3, Q24.getN (Q24.putR (Q24.six [q 0, q 1, q 2, q 3, q 4, q 5])) 4, Q24.getN (Q24.putR (Q24.six [q 0, q 1, q 2, q 3, q 4, q 5])) 5]) ++ ((List.replicate 7 0) ++ (List.replicate 9 0))) = _
    unfold zer at hz
    simp at hz
    obtain ⟨_, b0, b1, b2, b3, b4, b5⟩ := hb
    rw [b0, b1, b2, b3, b4, b5]
    simp [hz, List.replicate]
    exact ⟨rfl, rfl, rfl, rfl, rfl, rfl⟩
  · have hc : A25.chk25 (A25.six [a 0, a 1, a 2, a 3, a 4, a 5, a 6]) = 0 := by unfold chkE at hc; rw [if_neg (by decide), if_pos rfl] at hc; exact hc
    have hbd : bodE esX 2 q a p = A25.putR (A25.six [a 0, a 1, a 2, a 3, a 4, a 5, a 6]) := by unfold bodE; rw [if_neg (by decide), if_pos rfl]; rfl
    rw [hbd] at hok ⊢
    obtain ⟨g1, g2, g3⟩ := H23.hg_put hok
    have hb := A25.get_back (A25.zero_ok hc)
    obtain ⟨e0, e1⟩ := dec2 (S := dsX) g1 g2 g3 hb.1
    refine ⟨e0, ?_⟩
    rw [e1]
    show (2 : Int) :: ((List.replicate 6 0) ++ (([A25.getN (A25.putR (A25.six [a 0, a 1, a 2, a 3, a 4, a 5, a 6])) 0, A25.getN (A25.putR (A25.six [a 0, a 1, a 2, a 3, a 4, a 5, a 6])) 1, A25.getN (A25.putR (A25.six [a 0, a 1, a 2, a 3, a 4, a 5, a 6])) 2, A25.getN (A25.putR (A25.six [a 0, a 1, a 2, a 3, a 4, a 5, a 6])) 3, A25.getN (A25.putR (A25.six [a 0, a 1, a 2, a 3, a 4, a 5, a 6])) 4, A25.getN (A25.putR (A25.six [a 0, a 1, a 2, a 3, a 4, a 5, a 6])) 5, A25.getN (A25.putR (A25.six [a 0, a 1, a 2, a 3, a 4, a 5, a 6])) 6]) ++ (List.replicate 9 0))) = _
    unfold zer at hz
    simp at hz
    obtain ⟨_, b0, b1, b2, b3, b4, b5, b6⟩ := hb
    rw [b0, b1, b2, b3, b4, b5, b6]
    simp [hz, List.replicate]
    exact ⟨rfl, rfl, rfl, rfl, rfl, rfl, rfl⟩
  · have hc : P26.chk26 (P26.nine [p 0, p 1, p 2, p 3, p 4, p 5, p 6, p 7, p 8]) = 0 := by unfold chkE at hc; rw [if_neg (by decide), if_neg (by decide)] at hc; exact hc
    have hbd : bodE esX 3 q a p = P26.putR (P26.nine [p 0, p 1, p 2, p 3, p 4, p 5, p 6, p 7, p 8]) := by unfold bodE; rw [if_neg (by decide), if_neg (by decide)]; rfl
    rw [hbd] at hok ⊢
    obtain ⟨g1, g2, g3⟩ := H23.hg_put hok
    have hb := P26.get_back (P26.zero_ok hc)
    obtain ⟨e0, e1⟩ := dec3 (S := dsX) g1 g2 g3 hb.1
    refine ⟨e0, ?_⟩
    rw [e1]
    show (3 : Int) :: ((List.replicate 6 0) ++ ((List.replicate 7 0) ++ ([P26.getN (P26.putR (P26.nine [p 0, p 1, p 2, p 3, p 4, p 5, p 6, p 7, p 8])) 0, P26.getN (P26.putR (P26.nine [p 0, p 1, p 2, p 3, p 4, p 5, p 6, p 7, p 8])) 1, P26.getN (P26.putR (P26.nine [p 0, p 1, p 2, p 3, p 4, p 5, p 6, p 7, p 8])) 2, P26.getN (P26.putR (P26.nine [p 0, p 1, p 2, p 3, p 4, p 5, p 6, p 7, p 8])) 3, P26.getN (P26.putR (P26.nine [p 0, p 1, p 2, p 3, p 4, p 5, p 6, p 7, p 8])) 4, P26.getN (P26.putR (P26.nine [p 0, p 1, p 2, p 3, p 4, p 5, p 6, p 7, p 8])) 5, P26.getN (P26.putR (P26.nine [p 0, p 1, p 2, p 3, p 4, p 5, p 6, p 7, p 8])) 6, P26.getN (P26.putR (P26.nine [p 0, p 1, p 2, p 3, p 4, p 5, p 6, p 7, p 8])) 7, P26.getN (P26.putR (P26.nine [p 0, p 1, p 2, p 3, p 4, p 5, p 6, p 7, p 8])) 8]))) = _
    unfold zer at hz
    simp at hz
    obtain ⟨_, b0, b1, b2, b3, b4, b5, b6, b7, b8⟩ := hb
    rw [b0, b1, b2, b3, b4, b5, b6, b7, b8]
    simp [hz, List.replicate]
    exact ⟨rfl, rfl, rfl, rfl, rfl, rfl, rfl, rfl, rfl⟩
theorem dec_then {s : ByteArray} (h : decE dsX s = 0) : lsX.eE (decL dsX s) = 0 ∧ lsX.eS (decL dsX s) = s := by
  obtain ⟨h1, h2⟩ := dec_inv h
  have h1 : H23.hgE s = 0 := h1
  have h2 : (if H23.hgK s = 1 then Q24.getE (H23.hgB s) else if H23.hgK s = 2 then A25.getE (H23.hgB s) else P26.getE (H23.hgB s)) = 0 := h2
  obtain ⟨hok, hp⟩ := H23.hp_back h1
  have hk := H23.hg_kind h1
  obtain hk | hk | hk : H23.hgK s = 1 ∨ H23.hgK s = 2 ∨ H23.hgK s = 3 := by omega
  · rw [hk] at h2 hp hok
    have h2 : Q24.getE (H23.hgB s) = 0 := by rw [if_pos rfl] at h2; exact h2
    have e := (dec1 (S := dsX) h1 hk rfl h2).2
    obtain ⟨r1, r2⟩ := Q24.get_then h2
    have hG : chkE esX 1 (fQ (decL dsX s)) (fA (decL dsX s)) (fP (decL dsX s)) = 0 := by
      rw [e]
      unfold chkE
      rw [if_pos rfl]
      exact Eq.trans (by kernel_rfl) r1
    have hB : bodE esX 1 (fQ (decL dsX s)) (fA (decL dsX s)) (fP (decL dsX s)) = H23.hgB s := by
      rw [e]
      unfold bodE
      rw [if_pos rfl]
      exact Eq.trans (by kernel_rfl) r2
    have hZ : zer 1 (fQ (decL dsX s)) (fA (decL dsX s)) (fP (decL dsX s)) := by
      rw [e]
      unfold zer fQ fA fP
      simp [List.replicate]
    have hD : (decL dsX s).getD 0 0 = 1 := by rw [e]; rfl
    show encE esX ((decL dsX s).getD 0 0) _ _ _ = 0 ∧ encS esX ((decL dsX s).getD 0 0) _ _ _ = s
    have hn : ¬ (chkE esX 1 (fQ (decL dsX s)) (fA (decL dsX s)) (fP (decL dsX s)) ≠ 0 ∨ ¬ zer 1 (fQ (decL dsX s)) (fA (decL dsX s)) (fP (decL dsX s))) := fun x => x.elim (fun y => y hG) (fun y => y hZ)
    rw [hD]
    unfold encE encS
    rw [if_neg (by decide), if_neg hn, if_neg (by decide), if_neg hn, hB]
    exact ⟨if_pos hok, hp⟩
  · rw [hk] at h2 hp hok
    have h2 : A25.getE (H23.hgB s) = 0 := by rw [if_neg (by decide), if_pos rfl] at h2; exact h2
    have e := (dec2 (S := dsX) h1 hk rfl h2).2
    obtain ⟨r1, r2⟩ := A25.get_then h2
    have hG : chkE esX 2 (fQ (decL dsX s)) (fA (decL dsX s)) (fP (decL dsX s)) = 0 := by
      rw [e]
      unfold chkE
      rw [if_neg (by decide), if_pos rfl]
      exact Eq.trans (by kernel_rfl) r1
    have hB : bodE esX 2 (fQ (decL dsX s)) (fA (decL dsX s)) (fP (decL dsX s)) = H23.hgB s := by
      rw [e]
      unfold bodE
      rw [if_neg (by decide), if_pos rfl]
      exact Eq.trans (by kernel_rfl) r2
    have hZ : zer 2 (fQ (decL dsX s)) (fA (decL dsX s)) (fP (decL dsX s)) := by
      rw [e]
      unfold zer fQ fA fP
      simp [List.replicate]
    have hD : (decL dsX s).getD 0 0 = 2 := by rw [e]; rfl
    show encE esX ((decL dsX s).getD 0 0) _ _ _ = 0 ∧ encS esX ((decL dsX s).getD 0 0) _ _ _ = s
    have hn : ¬ (chkE esX 2 (fQ (decL dsX s)) (fA (decL dsX s)) (fP (decL dsX s)) ≠ 0 ∨ ¬ zer 2 (fQ (decL dsX s)) (fA (decL dsX s)) (fP (decL dsX s))) := fun x => x.elim (fun y => y hG) (fun y => y hZ)
    rw [hD]
    unfold encE encS
    rw [if_neg (by decide), if_neg hn, if_neg (by decide), if_neg hn, hB]
    exact ⟨if_pos hok, hp⟩
  · rw [hk] at h2 hp hok
    have h2 : P26.getE (H23.hgB s) = 0 := by rw [if_neg (by decide), if_neg (by decide)] at h2; exact h2
    have e := (dec3 (S := dsX) h1 hk rfl h2).2
    obtain ⟨r1, r2⟩ := P26.get_then h2
    have hG : chkE esX 3 (fQ (decL dsX s)) (fA (decL dsX s)) (fP (decL dsX s)) = 0 := by
      rw [e]
      unfold chkE
      rw [if_neg (by decide), if_neg (by decide)]
      exact Eq.trans (by kernel_rfl) r1
    have hB : bodE esX 3 (fQ (decL dsX s)) (fA (decL dsX s)) (fP (decL dsX s)) = H23.hgB s := by
      rw [e]
      unfold bodE
      rw [if_neg (by decide), if_neg (by decide)]
      exact Eq.trans (by kernel_rfl) r2
    have hZ : zer 3 (fQ (decL dsX s)) (fA (decL dsX s)) (fP (decL dsX s)) := by
      rw [e]
      unfold zer fQ fA fP
      simp [List.replicate]
    have hD : (decL dsX s).getD 0 0 = 3 := by rw [e]; rfl
    show encE esX ((decL dsX s).getD 0 0) _ _ _ = 0 ∧ encS esX ((decL dsX s).getD 0 0) _ _ _ = s
    have hn : ¬ (chkE esX 3 (fQ (decL dsX s)) (fA (decL dsX s)) (fP (decL dsX s)) ≠ 0 ∨ ¬ zer 3 (fQ (decL dsX s)) (fA (decL dsX s)) (fP (decL dsX s))) := fun x => x.elim (fun y => y hG) (fun y => y hZ)
    rw [hD]
    unfold encE encS
    rw [if_neg (by decide), if_neg hn, if_neg (by decide), if_neg hn, hB]
    exact ⟨if_pos hok, hp⟩
end Go.Proofs.YtlonpmcgejdkkaaDoor.AE
namespace Go.Proofs.YtlonpmcgejdkkaaDoor.AE
set_option maxRecDepth 100000
open Go.RowKit
theorem t_back_holds (S : LS) (k : Int) (q a p : Nat → Int) (s : ByteArray) (hA : S.eE [k, q 0, q 1, q 2, q 3, q 4, q 5, a 0, a 1, a 2, a 3, a 4, a 5, a 6, p 0, p 1, p 2, p 3, p 4, p 5, p 6, p 7, p 8] = 0 → S.dE (S.eS [k, q 0, q 1, q 2, q 3, q 4, q 5, a 0, a 1, a 2, a 3, a 4, a 5, a 6, p 0, p 1, p 2, p 3, p 4, p 5, p 6, p 7, p 8]) = 0 ∧ S.dN (S.eS [k, q 0, q 1, q 2, q 3, q 4, q 5, a 0, a 1, a 2, a 3, a 4, a 5, a 6, p 0, p 1, p 2, p 3, p 4, p 5, p 6, p 7, p 8]) 0 = k ∧ S.dN (S.eS [k, q 0, q 1, q 2, q 3, q 4, q 5, a 0, a 1, a 2, a 3, a 4, a 5, a 6, p 0, p 1, p 2, p 3, p 4, p 5, p 6, p 7, p 8]) 1 = q 0 ∧ S.dN (S.eS [k, q 0, q 1, q 2, q 3, q 4, q 5, a 0, a 1, a 2, a 3, a 4, a 5, a 6, p 0, p 1, p 2, p 3, p 4, p 5, p 6, p 7, p 8]) 2 = q 1 ∧ S.dN (S.eS [k, q 0, q 1, q 2, q 3, q 4, q 5, a 0, a 1, a 2, a 3, a 4, a 5, a 6, p 0, p 1, p 2, p 3, p 4, p 5, p 6, p 7, p 8]) 3 = q 2 ∧ S.dN (S.eS [k, q 0, q 1, q 2, q 3, q 4, q 5, a 0, a 1, a 2, a 3, a 4, a 5, a 6, p 0, p 1, p 2, p 3, p 4, p 5, p 6, p 7, p 8]) 4 = q 3 ∧ S.dN (S.eS [k, q 0, q 1, q 2, q 3, q 4, q 5, a 0, a 1, a 2, a 3, a 4, a 5, a 6, p 0, p 1, p 2, p 3, p 4, p 5, p 6, p 7, p 8]) 5 = q 4 ∧ S.dN (S.eS [k, q 0, q 1, q 2, q 3, q 4, q 5, a 0, a 1, a 2, a 3, a 4, a 5, a 6, p 0, p 1, p 2, p 3, p 4, p 5, p 6, p 7, p 8]) 6 = q 5 ∧ S.dN (S.eS [k, q 0, q 1, q 2, q 3, q 4, q 5, a 0, a 1, a 2, a 3, a 4, a 5, a 6, p 0, p 1, p 2, p 3, p 4, p 5, p 6, p 7, p 8]) 7 = a 0 ∧ S.dN (S.eS [k, q 0, q 1, q 2, q 3, q 4, q 5, a 0, a 1, a 2, a 3, a 4, a 5, a 6, p 0, p 1, p 2, p 3, p 4, p 5, p 6, p 7, p 8]) 8 = a 1 ∧ S.dN (S.eS [k, q 0, q 1, q 2, q 3, q 4, q 5, a 0, a 1, a 2, a 3, a 4, a 5, a 6, p 0, p 1, p 2, p 3, p 4, p 5, p 6, p 7, p 8]) 9 = a 2 ∧ S.dN (S.eS [k, q 0, q 1, q 2, q 3, q 4, q 5, a 0, a 1, a 2, a 3, a 4, a 5, a 6, p 0, p 1, p 2, p 3, p 4, p 5, p 6, p 7, p 8]) 10 = a 3 ∧ S.dN (S.eS [k, q 0, q 1, q 2, q 3, q 4, q 5, a 0, a 1, a 2, a 3, a 4, a 5, a 6, p 0, p 1, p 2, p 3, p 4, p 5, p 6, p 7, p 8]) 11 = a 4 ∧ S.dN (S.eS [k, q 0, q 1, q 2, q 3, q 4, q 5, a 0, a 1, a 2, a 3, a 4, a 5, a 6, p 0, p 1, p 2, p 3, p 4, p 5, p 6, p 7, p 8]) 12 = a 5 ∧ S.dN (S.eS [k, q 0, q 1, q 2, q 3, q 4, q 5, a 0, a 1, a 2, a 3, a 4, a 5, a 6, p 0, p 1, p 2, p 3, p 4, p 5, p 6, p 7, p 8]) 13 = a 6 ∧ S.dN (S.eS [k, q 0, q 1, q 2, q 3, q 4, q 5, a 0, a 1, a 2, a 3, a 4, a 5, a 6, p 0, p 1, p 2, p 3, p 4, p 5, p 6, p 7, p 8]) 14 = p 0 ∧ S.dN (S.eS [k, q 0, q 1, q 2, q 3, q 4, q 5, a 0, a 1, a 2, a 3, a 4, a 5, a 6, p 0, p 1, p 2, p 3, p 4, p 5, p 6, p 7, p 8]) 15 = p 1 ∧ S.dN (S.eS [k, q 0, q 1, q 2, q 3, q 4, q 5, a 0, a 1, a 2, a 3, a 4, a 5, a 6, p 0, p 1, p 2, p 3, p 4, p 5, p 6, p 7, p 8]) 16 = p 2 ∧ S.dN (S.eS [k, q 0, q 1, q 2, q 3, q 4, q 5, a 0, a 1, a 2, a 3, a 4, a 5, a 6, p 0, p 1, p 2, p 3, p 4, p 5, p 6, p 7, p 8]) 17 = p 3 ∧ S.dN (S.eS [k, q 0, q 1, q 2, q 3, q 4, q 5, a 0, a 1, a 2, a 3, a 4, a 5, a 6, p 0, p 1, p 2, p 3, p 4, p 5, p 6, p 7, p 8]) 18 = p 4 ∧ S.dN (S.eS [k, q 0, q 1, q 2, q 3, q 4, q 5, a 0, a 1, a 2, a 3, a 4, a 5, a 6, p 0, p 1, p 2, p 3, p 4, p 5, p 6, p 7, p 8]) 19 = p 5 ∧ S.dN (S.eS [k, q 0, q 1, q 2, q 3, q 4, q 5, a 0, a 1, a 2, a 3, a 4, a 5, a 6, p 0, p 1, p 2, p 3, p 4, p 5, p 6, p 7, p 8]) 20 = p 6 ∧ S.dN (S.eS [k, q 0, q 1, q 2, q 3, q 4, q 5, a 0, a 1, a 2, a 3, a 4, a 5, a 6, p 0, p 1, p 2, p 3, p 4, p 5, p 6, p 7, p 8]) 21 = p 7 ∧ S.dN (S.eS [k, q 0, q 1, q 2, q 3, q 4, q 5, a 0, a 1, a 2, a 3, a 4, a 5, a 6, p 0, p 1, p 2, p 3, p 4, p 5, p 6, p 7, p 8]) 22 = p 8)
    (hB : S.eE [k, q 0, q 1, q 2, q 3, q 4, q 5, a 0, a 1, a 2, a 3, a 4, a 5, a 6, p 0, p 1, p 2, p 3, p 4, p 5, p 6, p 7, p 8] ≠ 0 → S.eS [k, q 0, q 1, q 2, q 3, q 4, q 5, a 0, a 1, a 2, a 3, a 4, a 5, a 6, p 0, p 1, p 2, p 3, p 4, p 5, p 6, p 7, p 8] = ⟨#[]⟩) (hz : (S.eS [k, q 0, q 1, q 2, q 3, q 4, q 5, a 0, a 1, a 2, a 3, a 4, a 5, a 6, p 0, p 1, p 2, p 3, p 4, p 5, p 6, p 7, p 8]).size ≤ 100000) (hC : S.dE s = 0 → S.eE [S.dN s 0, S.dN s 1, S.dN s 2, S.dN s 3, S.dN s 4, S.dN s 5, S.dN s 6, S.dN s 7, S.dN s 8, S.dN s 9, S.dN s 10, S.dN s 11, S.dN s 12, S.dN s 13, S.dN s 14, S.dN s 15, S.dN s 16, S.dN s 17, S.dN s 18, S.dN s 19, S.dN s 20, S.dN s 21, S.dN s 22] = 0 ∧ S.eS [S.dN s 0, S.dN s 1, S.dN s 2, S.dN s 3, S.dN s 4, S.dN s 5, S.dN s 6, S.dN s 7, S.dN s 8, S.dN s 9, S.dN s 10, S.dN s 11, S.dN s 12, S.dN s 13, S.dN s 14, S.dN s 15, S.dN s 16, S.dN s 17, S.dN s 18, S.dN s 19, S.dN s 20, S.dN s 21, S.dN s 22] = s) (hS : Known roF (prM S)) : Fs Tryd.prog roF 3 [.v (frV k q a p), .v (.string s)] (hp [] []) fun r _ => r = .v (.bool true) := by
  refine Fs.of_call hS (t_back S k q a p s fun r => r = .v (.bool true)) (holds_bif (fun _ => ⟨trivial, rfl⟩) fun h0 => ?_) flatM
  have h0 := of_decide_eq_false h0
  have hs : s.size ≤ 100000 := by omega
  have nil0 : (ByteArray.toList ⟨#[]⟩ == ([] : List UInt8)) = true := by rw [ByteArray.toList_eq]; rfl
  by_cases hE : S.eE [k, q 0, q 1, q 2, q 3, q 4, q 5, a 0, a 1, a 2, a 3, a 4, a 5, a 6, p 0, p 1, p 2, p 3, p 4, p 5, p 6, p 7, p 8] = 0
  · obtain ⟨e0, n0, n1, n2, n3, n4, n5, n6, n7, n8, n9, n10, n11, n12, n13, n14, n15, n16, n17, n18, n19, n20, n21, n22⟩ := hA hE
    simp only [hE, e0, n0, n1, n2, n3, n4, n5, n6, n7, n8, n9, n10, n11, n12, n13, n14, n15, n16, n17, n18, n19, n20, n21, n22, beq_self_eq_true, bne_self_eq_false, Bool.and_true, Bool.not_true, cond_true, cond_false]
    by_cases hD : S.dE s = 0
    · obtain ⟨c0, c1⟩ := hC hD
      simp only [hD, c0, c1, beq_self_eq_true, bne_self_eq_false, Bool.and_true, Bool.not_true, cond_true, cond_false]
      first
      | (refine ⟨?_, by first | trivial | rfl⟩
         repeat' first
           | with_reducible exact trivial
           | with_reducible refine cdb_iff.2 ⟨?_, ?_⟩
           | exact decide_eq_true hz
           | exact decide_eq_true hs)
    · have hD : (S.dE s != 0) = true := by simpa using hD
      simp only [hD, cond_true, cond_false]
      first
      | (refine ⟨?_, by first | trivial | rfl⟩
         repeat' first
           | with_reducible exact trivial
           | with_reducible refine cdb_iff.2 ⟨?_, ?_⟩
           | exact decide_eq_true hz
           | exact decide_eq_true hs)
  · have hE0 : (S.eE [k, q 0, q 1, q 2, q 3, q 4, q 5, a 0, a 1, a 2, a 3, a 4, a 5, a 6, p 0, p 1, p 2, p 3, p 4, p 5, p 6, p 7, p 8] == 0) = false := by simpa using hE
    have hE1 : (S.eE [k, q 0, q 1, q 2, q 3, q 4, q 5, a 0, a 1, a 2, a 3, a 4, a 5, a 6, p 0, p 1, p 2, p 3, p 4, p 5, p 6, p 7, p 8] != 0) = true := by simpa using hE
    have hN := hB hE
    simp only [hE0, hE1, hN, nil0, Bool.not_true, cond_true, cond_false]
    rw [hN] at hz
    by_cases hD : S.dE s = 0
    · obtain ⟨c0, c1⟩ := hC hD
      simp only [hD, c0, c1, beq_self_eq_true, bne_self_eq_false, Bool.and_true, Bool.not_true, cond_true, cond_false]
      first
      | (refine ⟨?_, by first | trivial | rfl⟩
         repeat' first
           | with_reducible exact trivial
           | with_reducible refine cdb_iff.2 ⟨?_, ?_⟩
           | exact decide_eq_true hz
           | exact decide_eq_true hs)
    · have hD : (S.dE s != 0) = true := by simpa using hD
      simp only [hD, cond_true, cond_false]
      first
      | (refine ⟨?_, by first | trivial | rfl⟩
         repeat' first
           | with_reducible exact trivial
           | with_reducible refine cdb_iff.2 ⟨?_, ?_⟩
           | exact decide_eq_true hz
           | exact decide_eq_true hs)
theorem decL_list (S : DS) (s : ByteArray) : decL S s = [(decL S s).getD 0 0, (decL S s).getD 1 0, (decL S s).getD 2 0, (decL S s).getD 3 0, (decL S s).getD 4 0, (decL S s).getD 5 0, (decL S s).getD 6 0, (decL S s).getD 7 0, (decL S s).getD 8 0, (decL S s).getD 9 0, (decL S s).getD 10 0, (decL S s).getD 11 0, (decL S s).getD 12 0, (decL S s).getD 13 0, (decL S s).getD 14 0, (decL S s).getD 15 0, (decL S s).getD 16 0, (decL S s).getD 17 0, (decL S s).getD 18 0, (decL S s).getD 19 0, (decL S s).getD 20 0, (decL S s).getD 21 0, (decL S s).getD 22 0] := by
  unfold decL
  split
  · rfl
  · split <;> split <;> split <;> rfl
theorem fs_back (k : Int) (q a p : Nat → Int) (s : ByteArray) : Fs Tryd.prog roF 3 [.v (frV k q a p), .v (.string s)] (hp [] []) fun r _ => r = .v (.bool true) := by
  refine t_back_holds lsX k q a p s (fun h => ?_) (fun h => enc_none h) (enc_size _ _ _ _) (fun h => ?_) knownM
  · obtain ⟨h1, h2⟩ := enc_back h
    refine ⟨h1, ?_⟩
    have hd : ∀ i, lsX.dN (lsX.eS [k, q 0, q 1, q 2, q 3, q 4, q 5, a 0, a 1, a 2, a 3, a 4, a 5, a 6, p 0, p 1, p 2, p 3, p 4, p 5, p 6, p 7, p 8]) i = (([k, q 0, q 1, q 2, q 3, q 4, q 5, a 0, a 1, a 2, a 3, a 4, a 5, a 6, p 0, p 1, p 2, p 3, p 4, p 5, p 6, p 7, p 8] : List Int)).getD i 0 := fun i => by
      show (decL dsX _).getD i 0 = _
      exact congrArg (fun l => List.getD l i 0) h2
    exact ⟨hd 0, hd 1, hd 2, hd 3, hd 4, hd 5, hd 6, hd 7, hd 8, hd 9, hd 10, hd 11, hd 12, hd 13, hd 14, hd 15, hd 16, hd 17, hd 18, hd 19, hd 20, hd 21, hd 22⟩
  · have h2 := dec_then h
    rw [decL_list dsX s] at h2
    exact h2
end Go.Proofs.YtlonpmcgejdkkaaDoor.AE
namespace Go.Proofs.YtlonpmcgejdkkaaDoor
open Go.RowKit AE
theorem list23 (l : List Int) (h : l.length = 23) : ∃ x0 x1 x2 x3 x4 x5 x6 x7 x8 x9 x10 x11 x12 x13 x14 x15 x16 x17 x18 x19 x20 x21 x22, l = [x0, x1, x2, x3, x4, x5, x6, x7, x8, x9, x10, x11, x12, x13, x14, x15, x16, x17, x18, x19, x20, x21, x22] := by
  match l, h with
  | [x0, x1, x2, x3, x4, x5, x6, x7, x8, x9, x10, x11, x12, x13, x14, x15, x16, x17, x18, x19, x20, x21, x22], _ => exact ⟨_, _, _, _, _, _, _, _, _, _, _, _, _, _, _, _, _, _, _, _, _, _, _, rfl⟩
theorem AE.roF_of {W : World} (h : laidMet Tryd.prog Rows.frameBackRow.laid W) : Ro roF (G0 W) W := by
  have hP := laid_table h (name := "lockkeeper/push.widths") (k := .i64) (zs := [1, 4, 2, 2, 1, 1, 1, 1, 1]) (List.mem_of_getElem? (i := 0) (by kernel_rfl)) (g := 1) (by kernel_rfl) (t := 83) (by kernel_rfl) Tryd.underlying83 Tryd.underlying3 (by kernel_rfl) (by kernel_rfl) (by decide)
  have hQ := laid_table h (name := "lockkeeper/request.widths") (k := .i64) (zs := [6, 1, 1, 1, 6, 2]) (List.mem_of_getElem? (i := 1) (by kernel_rfl)) (g := 0) (by kernel_rfl) (t := 76) (by kernel_rfl) Tryd.underlying76 Tryd.underlying3 (by kernel_rfl) (by kernel_rfl) (by decide)
  have hA := laid_table h (name := "lockkeeper/reply.widths") (k := .i64) (zs := [6, 1, 1, 1, 1, 4, 1]) (List.mem_of_getElem? (i := 2) (by kernel_rfl)) (g := 2) (by kernel_rfl) (t := 96) (by kernel_rfl) Tryd.underlying96 Tryd.underlying3 (by kernel_rfl) (by kernel_rfl) (by decide)
  intro b cs hb
  unfold roF at hb
  split at hb
  · cases hb; exact hQ
  · cases hb; exact hA
  · cases hb; exact hP
  · cases hb
theorem w_FrameBack (w : World) (hR : Ro roF (G0 w) w) (x0 x1 x2 x3 x4 x5 x6 x7 x8 x9 x10 x11 x12 x13 x14 x15 x16 x17 x18 x19 x20 x21 x22 : Int) (s : ByteArray) (_ : s.size ≤ 9223372036854775807) : Calls Tryd.prog 3 #[.agg #[.int .i64 x0, .int .i64 x1, .int .i64 x2, .int .i64 x3, .int .i64 x4, .int .i64 x5, .int .i64 x6, .int .i64 x7, .int .i64 x8, .int .i64 x9, .int .i64 x10, .int .i64 x11, .int .i64 x12, .int .i64 x13, .int .i64 x14, .int .i64 x15, .int .i64 x16, .int .i64 x17, .int .i64 x18, .int .i64 x19, .int .i64 x20, .int .i64 x21, .int .i64 x22], .string s] w fun e w' => e = .returned (.bool true) ∧ Below w.heap.size w w' :=
  law_true (fs_back x0 (fun n => [x1, x2, x3, x4, x5, x6].getD n 0) (fun n => [x7, x8, x9, x10, x11, x12, x13].getD n 0) (fun n => [x14, x15, x16, x17, x18, x19, x20, x21, x22].getD n 0) s) w _ hR (.cons (.v _) (.cons (.v _) .nil))
end Go.Proofs.YtlonpmcgejdkkaaDoor
