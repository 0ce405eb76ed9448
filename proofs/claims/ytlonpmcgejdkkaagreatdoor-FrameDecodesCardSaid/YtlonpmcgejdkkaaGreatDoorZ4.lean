
/-
  The law FrameDecodes of layer 27: the call comes to true.
-/
import Derived.Test.YtlonpmcgejdkkaaGreatDoorZ3
import Derived.Test.YtlonpmcgejdkkaaGreatDoorAEDefer
import Derived.Test.YtlonpmcgejdkkaaGreatDoorAEStrs
import Derived.Test.YtlonpmcgejdkkaaGreatDoorAEIn
import Derived.Test.YtlonpmcgejdkkaaGreatDoorLaid
namespace Go.Proofs.YtlonpmcgejdkkaaGreatDoor.AE
set_option maxRecDepth 100000
open Go.RowKit
structure ES where
  qP : (Nat → Int) → ByteArray
  qE : (Nat → Int) → Int
  aP : (Nat → Int) → ByteArray
  aE : (Nat → Int) → Int
  pP : (Nat → Int) → ByteArray
  pE : (Nat → Int) → Int
  hP : Int → ByteArray → ByteArray
  hE : Int → ByteArray → Int
def pe2 (P : (Nat → Int) → ByteArray) (E : (Nat → Int) → Int) (f : Nat → Int) : Value := .tuple #[.string (P f), .int .i64 (E f)]
def nineP (F : (Nat → Int) → Value) : List Value → Option (Value × Bool) := fun us => match us with
  | [.agg cs] => match P26.ints? cs.toList with
    | some l => match decide (l.length = 9) with
      | true => some (F (P26.nine l), true)
      | false => none
    | none => none
  | _ => none
def hpP (P : Int → ByteArray → ByteArray) (E : Int → ByteArray → Int) : List Value → Option (Value × Bool) := fun us => match us with
  | [.int .i64 k, .string s] => some (.tuple #[.string (P k s), .int .i64 (E k s)], true)
  | _ => none
noncomputable def prE (S : ES) : FuncId → Option (List AV → AH → Ans) := fun g => match g with
  | 22 => some (pure? (hpP S.hP S.hE))
  | 123 => some (pure? (Q24.sixP (pe2 S.qP S.qE)))
  | 137 => some (pure? (A25.sixP (pe2 S.aP S.aE)))
  | 143 => some (pure? (nineP (pe2 S.pP S.pE)))
  | _ => none
def gI (n : Int) : AV := .v (.int .i64 n)
def frV (k : Int) (q a p : Nat → Int) : Value := .agg #[.int .i64 k, .int .i64 (q 0), .int .i64 (q 1), .int .i64 (q 2), .int .i64 (q 3), .int .i64 (q 4), .int .i64 (q 5), .int .i64 (a 0), .int .i64 (a 1), .int .i64 (a 2), .int .i64 (a 3), .int .i64 (a 4), .int .i64 (a 5), .int .i64 (a 6), .int .i64 (p 0), .int .i64 (p 1), .int .i64 (p 2), .int .i64 (p 3), .int .i64 (p 4), .int .i64 (p 5), .int .i64 (p 6), .int .i64 (p 7), .int .i64 (p 8)]
def eH (k : Int) (q a p : Nat → Int) : AH := hp [(31, [gI k, gI (q 0), gI (q 1), gI (q 2), gI (q 3), gI (q 4), gI (q 5), gI (a 0), gI (a 1), gI (a 2), gI (a 3), gI (a 4), gI (a 5), gI (a 6), gI (p 0), gI (p 1), gI (p 2), gI (p 3), gI (p 4), gI (p 5), gI (p 6), gI (p 7), gI (p 8)]), (9, [.v (.string ⟨#[]⟩)]), (32, [.v (.int .i64 0)])] []
def eA : List AV := [.dead, .ptr 0 0, .ptr 1 0, .ptr 2 0, .dead, .dead, .dead, .fn (.func 19) [] [.ptr 1 0, .ptr 2 0]] ++ List.replicate 22 .dead
theorem e_x (k : Int) (q a p : Nat → Int) (R : Exit → List AV → AH → Prop) : code roF (fun _ => false) (fun _ => none) 8 (sub (bodyOf 5) [0]) ([.v (frV k q a p)] ++ List.replicate 29 (.v undef)) (hp [] []) (kp [1, 2, 3] R) =
    (some (True ∧ (R Exit.normal [AV.dead, (AV.ptr (0 : Nat) (0 : Nat)), (AV.ptr (List.length [((31 : Nat), [(AV.v (Value.int IntKind.i64 k)), (AV.v (Value.int IntKind.i64 (q (0 : Nat)))), (AV.v (Value.int IntKind.i64 (q (1 : Nat)))), (AV.v (Value.int IntKind.i64 (q (2 : Nat)))), (AV.v (Value.int IntKind.i64 (q (3 : Nat)))), (AV.v (Value.int IntKind.i64 (q (4 : Nat)))), (AV.v (Value.int IntKind.i64 (q (5 : Nat)))), (AV.v (Value.int IntKind.i64 (a (0 : Nat)))), (AV.v (Value.int IntKind.i64 (a (1 : Nat)))), (AV.v (Value.int IntKind.i64 (a (2 : Nat)))), (AV.v (Value.int IntKind.i64 (a (3 : Nat)))), (AV.v (Value.int IntKind.i64 (a (4 : Nat)))), (AV.v (Value.int IntKind.i64 (a (5 : Nat)))), (AV.v (Value.int IntKind.i64 (a (6 : Nat)))), (AV.v (Value.int IntKind.i64 (p (0 : Nat)))), (AV.v (Value.int IntKind.i64 (p (1 : Nat)))), (AV.v (Value.int IntKind.i64 (p (2 : Nat)))), (AV.v (Value.int IntKind.i64 (p (3 : Nat)))), (AV.v (Value.int IntKind.i64 (p (4 : Nat)))), (AV.v (Value.int IntKind.i64 (p (5 : Nat)))), (AV.v (Value.int IntKind.i64 (p (6 : Nat)))), (AV.v (Value.int IntKind.i64 (p (7 : Nat)))), (AV.v (Value.int IntKind.i64 (p (8 : Nat))))])]) (0 : Nat)), (AV.ptr (List.length [((31 : Nat), [(AV.v (Value.int IntKind.i64 k)), (AV.v (Value.int IntKind.i64 (q (0 : Nat)))), (AV.v (Value.int IntKind.i64 (q (1 : Nat)))), (AV.v (Value.int IntKind.i64 (q (2 : Nat)))), (AV.v (Value.int IntKind.i64 (q (3 : Nat)))), (AV.v (Value.int IntKind.i64 (q (4 : Nat)))), (AV.v (Value.int IntKind.i64 (q (5 : Nat)))), (AV.v (Value.int IntKind.i64 (a (0 : Nat)))), (AV.v (Value.int IntKind.i64 (a (1 : Nat)))), (AV.v (Value.int IntKind.i64 (a (2 : Nat)))), (AV.v (Value.int IntKind.i64 (a (3 : Nat)))), (AV.v (Value.int IntKind.i64 (a (4 : Nat)))), (AV.v (Value.int IntKind.i64 (a (5 : Nat)))), (AV.v (Value.int IntKind.i64 (a (6 : Nat)))), (AV.v (Value.int IntKind.i64 (p (0 : Nat)))), (AV.v (Value.int IntKind.i64 (p (1 : Nat)))), (AV.v (Value.int IntKind.i64 (p (2 : Nat)))), (AV.v (Value.int IntKind.i64 (p (3 : Nat)))), (AV.v (Value.int IntKind.i64 (p (4 : Nat)))), (AV.v (Value.int IntKind.i64 (p (5 : Nat)))), (AV.v (Value.int IntKind.i64 (p (6 : Nat)))), (AV.v (Value.int IntKind.i64 (p (7 : Nat)))), (AV.v (Value.int IntKind.i64 (p (8 : Nat))))]), ((9 : Nat), [(AV.v (Value.string (ByteArray.mk (Array.mk (@List.nil UInt8)))))])]) (0 : Nat)), AV.dead, AV.dead, AV.dead, AV.dead, AV.dead, AV.dead, AV.dead, AV.dead, AV.dead, AV.dead, AV.dead, AV.dead, AV.dead, AV.dead, AV.dead, AV.dead, AV.dead, AV.dead, AV.dead, AV.dead, AV.dead, AV.dead, AV.dead, AV.dead, AV.dead, AV.dead] (AH.mk [((31 : Nat), [(AV.v (Value.int IntKind.i64 k)), (AV.v (Value.int IntKind.i64 (q (0 : Nat)))), (AV.v (Value.int IntKind.i64 (q (1 : Nat)))), (AV.v (Value.int IntKind.i64 (q (2 : Nat)))), (AV.v (Value.int IntKind.i64 (q (3 : Nat)))), (AV.v (Value.int IntKind.i64 (q (4 : Nat)))), (AV.v (Value.int IntKind.i64 (q (5 : Nat)))), (AV.v (Value.int IntKind.i64 (a (0 : Nat)))), (AV.v (Value.int IntKind.i64 (a (1 : Nat)))), (AV.v (Value.int IntKind.i64 (a (2 : Nat)))), (AV.v (Value.int IntKind.i64 (a (3 : Nat)))), (AV.v (Value.int IntKind.i64 (a (4 : Nat)))), (AV.v (Value.int IntKind.i64 (a (5 : Nat)))), (AV.v (Value.int IntKind.i64 (a (6 : Nat)))), (AV.v (Value.int IntKind.i64 (p (0 : Nat)))), (AV.v (Value.int IntKind.i64 (p (1 : Nat)))), (AV.v (Value.int IntKind.i64 (p (2 : Nat)))), (AV.v (Value.int IntKind.i64 (p (3 : Nat)))), (AV.v (Value.int IntKind.i64 (p (4 : Nat)))), (AV.v (Value.int IntKind.i64 (p (5 : Nat)))), (AV.v (Value.int IntKind.i64 (p (6 : Nat)))), (AV.v (Value.int IntKind.i64 (p (7 : Nat)))), (AV.v (Value.int IntKind.i64 (p (8 : Nat))))]), ((9 : Nat), [(AV.v (Value.string (ByteArray.mk (Array.mk (@List.nil UInt8)))))]), ((32 : Nat), [(AV.v (Value.int IntKind.i64 (0 : Int)))])] (@List.nil Nat) (0 : Nat) (0 : Nat) true (@List.nil (Prod Nat Bool)) True)))) := by kernel_rfl
theorem e_y (S : ES) (k : Int) (q a p : Nat → Int) (R : Exit → List AV → AH → Prop) : code roF (fun _ => false) (prE S) 10 (sub (bodyOf 5) [1, 1]) eA (eH k q a p) (kp [2, 3] R) =
    (bif (k == (1 : Int)) then (bif (((S).2 (Q24.six [(q (0 : Nat)), (q (1 : Nat)), (q (2 : Nat)), (q (3 : Nat)), (q (4 : Nat)), (q (5 : Nat))])) != (0 : Int)) then (some (True ∧ (R Exit.ret [AV.dead, AV.dead, (AV.ptr (1 : Nat) (0 : Nat)), (AV.ptr (2 : Nat) (0 : Nat)), AV.dead, AV.dead, AV.dead, AV.dead, AV.dead, AV.dead, AV.dead, AV.dead, AV.dead, AV.dead, AV.dead, AV.dead, AV.dead, AV.dead, AV.dead, AV.dead, AV.dead, AV.dead, AV.dead, AV.dead, AV.dead, AV.dead, AV.dead, AV.dead, AV.dead, AV.dead] (AH.mk [((31 : Nat), [(AV.v (Value.int IntKind.i64 k)), (AV.v (Value.int IntKind.i64 (q (0 : Nat)))), (AV.v (Value.int IntKind.i64 (q (1 : Nat)))), (AV.v (Value.int IntKind.i64 (q (2 : Nat)))), (AV.v (Value.int IntKind.i64 (q (3 : Nat)))), (AV.v (Value.int IntKind.i64 (q (4 : Nat)))), (AV.v (Value.int IntKind.i64 (q (5 : Nat)))), (AV.v (Value.int IntKind.i64 (a (0 : Nat)))), (AV.v (Value.int IntKind.i64 (a (1 : Nat)))), (AV.v (Value.int IntKind.i64 (a (2 : Nat)))), (AV.v (Value.int IntKind.i64 (a (3 : Nat)))), (AV.v (Value.int IntKind.i64 (a (4 : Nat)))), (AV.v (Value.int IntKind.i64 (a (5 : Nat)))), (AV.v (Value.int IntKind.i64 (a (6 : Nat)))), (AV.v (Value.int IntKind.i64 (p (0 : Nat)))), (AV.v (Value.int IntKind.i64 (p (1 : Nat)))), (AV.v (Value.int IntKind.i64 (p (2 : Nat)))), (AV.v (Value.int IntKind.i64 (p (3 : Nat)))), (AV.v (Value.int IntKind.i64 (p (4 : Nat)))), (AV.v (Value.int IntKind.i64 (p (5 : Nat)))), (AV.v (Value.int IntKind.i64 (p (6 : Nat)))), (AV.v (Value.int IntKind.i64 (p (7 : Nat)))), (AV.v (Value.int IntKind.i64 (p (8 : Nat))))]), ((9 : Nat), [(AV.v (Value.string (ByteArray.mk (Array.mk (@List.nil UInt8)))))]), ((32 : Nat), [(AV.v (Value.int IntKind.i64 (1 : Int)))]), ((31 : Nat), [(AV.v (Value.int IntKind.i64 k)), (AV.v (Value.int IntKind.i64 (q (0 : Nat)))), (AV.v (Value.int IntKind.i64 (q (1 : Nat)))), (AV.v (Value.int IntKind.i64 (q (2 : Nat)))), (AV.v (Value.int IntKind.i64 (q (3 : Nat)))), (AV.v (Value.int IntKind.i64 (q (4 : Nat)))), (AV.v (Value.int IntKind.i64 (q (5 : Nat)))), (AV.v (Value.int IntKind.i64 (a (0 : Nat)))), (AV.v (Value.int IntKind.i64 (a (1 : Nat)))), (AV.v (Value.int IntKind.i64 (a (2 : Nat)))), (AV.v (Value.int IntKind.i64 (a (3 : Nat)))), (AV.v (Value.int IntKind.i64 (a (4 : Nat)))), (AV.v (Value.int IntKind.i64 (a (5 : Nat)))), (AV.v (Value.int IntKind.i64 (a (6 : Nat)))), (AV.v (Value.int IntKind.i64 (p (0 : Nat)))), (AV.v (Value.int IntKind.i64 (p (1 : Nat)))), (AV.v (Value.int IntKind.i64 (p (2 : Nat)))), (AV.v (Value.int IntKind.i64 (p (3 : Nat)))), (AV.v (Value.int IntKind.i64 (p (4 : Nat)))), (AV.v (Value.int IntKind.i64 (p (5 : Nat)))), (AV.v (Value.int IntKind.i64 (p (6 : Nat)))), (AV.v (Value.int IntKind.i64 (p (7 : Nat)))), (AV.v (Value.int IntKind.i64 (p (8 : Nat))))]), ((60 : Nat), [(AV.v (Value.int IntKind.i64 (q (0 : Nat)))), (AV.v (Value.int IntKind.i64 (q (1 : Nat)))), (AV.v (Value.int IntKind.i64 (q (2 : Nat)))), (AV.v (Value.int IntKind.i64 (q (3 : Nat)))), (AV.v (Value.int IntKind.i64 (q (4 : Nat)))), (AV.v (Value.int IntKind.i64 (q (5 : Nat))))]), ((60 : Nat), [(AV.v (Value.int IntKind.i64 (q (0 : Nat)))), (AV.v (Value.int IntKind.i64 (q (1 : Nat)))), (AV.v (Value.int IntKind.i64 (q (2 : Nat)))), (AV.v (Value.int IntKind.i64 (q (3 : Nat)))), (AV.v (Value.int IntKind.i64 (q (4 : Nat)))), (AV.v (Value.int IntKind.i64 (q (5 : Nat))))])] (@List.nil Nat) (0 : Nat) (0 : Nat) true (@List.nil (Prod Nat Bool)) True)))) else (bif (!(((1 : Int) == k) && ((((q (0 : Nat)) == (q (0 : Nat))) && (((q (1 : Nat)) == (q (1 : Nat))) && (((q (2 : Nat)) == (q (2 : Nat))) && (((q (3 : Nat)) == (q (3 : Nat))) && (((q (4 : Nat)) == (q (4 : Nat))) && (((q (5 : Nat)) == (q (5 : Nat))) && true)))))) && ((((0 : Int) == (a (0 : Nat))) && (((0 : Int) == (a (1 : Nat))) && (((0 : Int) == (a (2 : Nat))) && (((0 : Int) == (a (3 : Nat))) && (((0 : Int) == (a (4 : Nat))) && (((0 : Int) == (a (5 : Nat))) && (((0 : Int) == (a (6 : Nat))) && true))))))) && ((((0 : Int) == (p (0 : Nat))) && (((0 : Int) == (p (1 : Nat))) && ((((0 : Int) == (p (2 : Nat))) && (((0 : Int) == (p (3 : Nat))) && (((0 : Int) == (p (4 : Nat))) && (((0 : Int) == (p (5 : Nat))) && (((0 : Int) == (p (6 : Nat))) && (((0 : Int) == (p (7 : Nat))) && (((0 : Int) == (p (8 : Nat))) && true))))))) && true))) && true))))) then (some ((True ∧ ((some ((31 : Nat), [(AV.v (Value.int IntKind.i64 k)), (AV.v (Value.int IntKind.i64 (q (0 : Nat)))), (AV.v (Value.int IntKind.i64 (q (1 : Nat)))), (AV.v (Value.int IntKind.i64 (q (2 : Nat)))), (AV.v (Value.int IntKind.i64 (q (3 : Nat)))), (AV.v (Value.int IntKind.i64 (q (4 : Nat)))), (AV.v (Value.int IntKind.i64 (q (5 : Nat)))), (AV.v (Value.int IntKind.i64 (a (0 : Nat)))), (AV.v (Value.int IntKind.i64 (a (1 : Nat)))), (AV.v (Value.int IntKind.i64 (a (2 : Nat)))), (AV.v (Value.int IntKind.i64 (a (3 : Nat)))), (AV.v (Value.int IntKind.i64 (a (4 : Nat)))), (AV.v (Value.int IntKind.i64 (a (5 : Nat)))), (AV.v (Value.int IntKind.i64 (a (6 : Nat)))), (AV.v (Value.int IntKind.i64 (p (0 : Nat)))), (AV.v (Value.int IntKind.i64 (p (1 : Nat)))), (AV.v (Value.int IntKind.i64 (p (2 : Nat)))), (AV.v (Value.int IntKind.i64 (p (3 : Nat)))), (AV.v (Value.int IntKind.i64 (p (4 : Nat)))), (AV.v (Value.int IntKind.i64 (p (5 : Nat)))), (AV.v (Value.int IntKind.i64 (p (6 : Nat)))), (AV.v (Value.int IntKind.i64 (p (7 : Nat)))), (AV.v (Value.int IntKind.i64 (p (8 : Nat))))])) = (some ((31 : Nat), [(AV.v (Value.int IntKind.i64 k)), (AV.v (Value.int IntKind.i64 (q (0 : Nat)))), (AV.v (Value.int IntKind.i64 (q (1 : Nat)))), (AV.v (Value.int IntKind.i64 (q (2 : Nat)))), (AV.v (Value.int IntKind.i64 (q (3 : Nat)))), (AV.v (Value.int IntKind.i64 (q (4 : Nat)))), (AV.v (Value.int IntKind.i64 (q (5 : Nat)))), (AV.v (Value.int IntKind.i64 (a (0 : Nat)))), (AV.v (Value.int IntKind.i64 (a (1 : Nat)))), (AV.v (Value.int IntKind.i64 (a (2 : Nat)))), (AV.v (Value.int IntKind.i64 (a (3 : Nat)))), (AV.v (Value.int IntKind.i64 (a (4 : Nat)))), (AV.v (Value.int IntKind.i64 (a (5 : Nat)))), (AV.v (Value.int IntKind.i64 (a (6 : Nat)))), (AV.v (Value.int IntKind.i64 (p (0 : Nat)))), (AV.v (Value.int IntKind.i64 (p (1 : Nat)))), (AV.v (Value.int IntKind.i64 (p (2 : Nat)))), (AV.v (Value.int IntKind.i64 (p (3 : Nat)))), (AV.v (Value.int IntKind.i64 (p (4 : Nat)))), (AV.v (Value.int IntKind.i64 (p (5 : Nat)))), (AV.v (Value.int IntKind.i64 (p (6 : Nat)))), (AV.v (Value.int IntKind.i64 (p (7 : Nat)))), (AV.v (Value.int IntKind.i64 (p (8 : Nat))))])))) ∧ (R Exit.ret [AV.dead, AV.dead, (AV.ptr (1 : Nat) (0 : Nat)), (AV.ptr (2 : Nat) (0 : Nat)), AV.dead, AV.dead, AV.dead, AV.dead, AV.dead, AV.dead, AV.dead, AV.dead, AV.dead, AV.dead, AV.dead, AV.dead, AV.dead, AV.dead, AV.dead, AV.dead, AV.dead, AV.dead, AV.dead, AV.dead, AV.dead, AV.dead, AV.dead, AV.dead, AV.dead, AV.dead] (AH.mk [((31 : Nat), [(AV.v (Value.int IntKind.i64 k)), (AV.v (Value.int IntKind.i64 (q (0 : Nat)))), (AV.v (Value.int IntKind.i64 (q (1 : Nat)))), (AV.v (Value.int IntKind.i64 (q (2 : Nat)))), (AV.v (Value.int IntKind.i64 (q (3 : Nat)))), (AV.v (Value.int IntKind.i64 (q (4 : Nat)))), (AV.v (Value.int IntKind.i64 (q (5 : Nat)))), (AV.v (Value.int IntKind.i64 (a (0 : Nat)))), (AV.v (Value.int IntKind.i64 (a (1 : Nat)))), (AV.v (Value.int IntKind.i64 (a (2 : Nat)))), (AV.v (Value.int IntKind.i64 (a (3 : Nat)))), (AV.v (Value.int IntKind.i64 (a (4 : Nat)))), (AV.v (Value.int IntKind.i64 (a (5 : Nat)))), (AV.v (Value.int IntKind.i64 (a (6 : Nat)))), (AV.v (Value.int IntKind.i64 (p (0 : Nat)))), (AV.v (Value.int IntKind.i64 (p (1 : Nat)))), (AV.v (Value.int IntKind.i64 (p (2 : Nat)))), (AV.v (Value.int IntKind.i64 (p (3 : Nat)))), (AV.v (Value.int IntKind.i64 (p (4 : Nat)))), (AV.v (Value.int IntKind.i64 (p (5 : Nat)))), (AV.v (Value.int IntKind.i64 (p (6 : Nat)))), (AV.v (Value.int IntKind.i64 (p (7 : Nat)))), (AV.v (Value.int IntKind.i64 (p (8 : Nat))))]), ((9 : Nat), [(AV.v (Value.string (ByteArray.mk (Array.mk (@List.nil UInt8)))))]), ((32 : Nat), [(AV.v (Value.int IntKind.i64 (1 : Int)))]), ((31 : Nat), [(AV.v (Value.int IntKind.i64 k)), (AV.v (Value.int IntKind.i64 (q (0 : Nat)))), (AV.v (Value.int IntKind.i64 (q (1 : Nat)))), (AV.v (Value.int IntKind.i64 (q (2 : Nat)))), (AV.v (Value.int IntKind.i64 (q (3 : Nat)))), (AV.v (Value.int IntKind.i64 (q (4 : Nat)))), (AV.v (Value.int IntKind.i64 (q (5 : Nat)))), (AV.v (Value.int IntKind.i64 (a (0 : Nat)))), (AV.v (Value.int IntKind.i64 (a (1 : Nat)))), (AV.v (Value.int IntKind.i64 (a (2 : Nat)))), (AV.v (Value.int IntKind.i64 (a (3 : Nat)))), (AV.v (Value.int IntKind.i64 (a (4 : Nat)))), (AV.v (Value.int IntKind.i64 (a (5 : Nat)))), (AV.v (Value.int IntKind.i64 (a (6 : Nat)))), (AV.v (Value.int IntKind.i64 (p (0 : Nat)))), (AV.v (Value.int IntKind.i64 (p (1 : Nat)))), (AV.v (Value.int IntKind.i64 (p (2 : Nat)))), (AV.v (Value.int IntKind.i64 (p (3 : Nat)))), (AV.v (Value.int IntKind.i64 (p (4 : Nat)))), (AV.v (Value.int IntKind.i64 (p (5 : Nat)))), (AV.v (Value.int IntKind.i64 (p (6 : Nat)))), (AV.v (Value.int IntKind.i64 (p (7 : Nat)))), (AV.v (Value.int IntKind.i64 (p (8 : Nat))))]), ((60 : Nat), [(AV.v (Value.int IntKind.i64 (q (0 : Nat)))), (AV.v (Value.int IntKind.i64 (q (1 : Nat)))), (AV.v (Value.int IntKind.i64 (q (2 : Nat)))), (AV.v (Value.int IntKind.i64 (q (3 : Nat)))), (AV.v (Value.int IntKind.i64 (q (4 : Nat)))), (AV.v (Value.int IntKind.i64 (q (5 : Nat))))]), ((60 : Nat), [(AV.v (Value.int IntKind.i64 (q (0 : Nat)))), (AV.v (Value.int IntKind.i64 (q (1 : Nat)))), (AV.v (Value.int IntKind.i64 (q (2 : Nat)))), (AV.v (Value.int IntKind.i64 (q (3 : Nat)))), (AV.v (Value.int IntKind.i64 (q (4 : Nat)))), (AV.v (Value.int IntKind.i64 (q (5 : Nat))))]), ((60 : Nat), [(AV.v (Value.int IntKind.i64 (q (0 : Nat)))), (AV.v (Value.int IntKind.i64 (q (1 : Nat)))), (AV.v (Value.int IntKind.i64 (q (2 : Nat)))), (AV.v (Value.int IntKind.i64 (q (3 : Nat)))), (AV.v (Value.int IntKind.i64 (q (4 : Nat)))), (AV.v (Value.int IntKind.i64 (q (5 : Nat))))]), ((31 : Nat), [(AV.v (Value.int IntKind.i64 (1 : Int))), (AV.v (Value.int IntKind.i64 (q (0 : Nat)))), (AV.v (Value.int IntKind.i64 (q (1 : Nat)))), (AV.v (Value.int IntKind.i64 (q (2 : Nat)))), (AV.v (Value.int IntKind.i64 (q (3 : Nat)))), (AV.v (Value.int IntKind.i64 (q (4 : Nat)))), (AV.v (Value.int IntKind.i64 (q (5 : Nat)))), (AV.v (Value.int IntKind.i64 (0 : Int))), (AV.v (Value.int IntKind.i64 (0 : Int))), (AV.v (Value.int IntKind.i64 (0 : Int))), (AV.v (Value.int IntKind.i64 (0 : Int))), (AV.v (Value.int IntKind.i64 (0 : Int))), (AV.v (Value.int IntKind.i64 (0 : Int))), (AV.v (Value.int IntKind.i64 (0 : Int))), (AV.v (Value.int IntKind.i64 (0 : Int))), (AV.v (Value.int IntKind.i64 (0 : Int))), (AV.v (Value.int IntKind.i64 (0 : Int))), (AV.v (Value.int IntKind.i64 (0 : Int))), (AV.v (Value.int IntKind.i64 (0 : Int))), (AV.v (Value.int IntKind.i64 (0 : Int))), (AV.v (Value.int IntKind.i64 (0 : Int))), (AV.v (Value.int IntKind.i64 (0 : Int))), (AV.v (Value.int IntKind.i64 (0 : Int)))])] (@List.nil Nat) (0 : Nat) (0 : Nat) true (@List.nil (Prod Nat Bool)) True)))) else (some ((True ∧ ((some ((31 : Nat), [(AV.v (Value.int IntKind.i64 k)), (AV.v (Value.int IntKind.i64 (q (0 : Nat)))), (AV.v (Value.int IntKind.i64 (q (1 : Nat)))), (AV.v (Value.int IntKind.i64 (q (2 : Nat)))), (AV.v (Value.int IntKind.i64 (q (3 : Nat)))), (AV.v (Value.int IntKind.i64 (q (4 : Nat)))), (AV.v (Value.int IntKind.i64 (q (5 : Nat)))), (AV.v (Value.int IntKind.i64 (a (0 : Nat)))), (AV.v (Value.int IntKind.i64 (a (1 : Nat)))), (AV.v (Value.int IntKind.i64 (a (2 : Nat)))), (AV.v (Value.int IntKind.i64 (a (3 : Nat)))), (AV.v (Value.int IntKind.i64 (a (4 : Nat)))), (AV.v (Value.int IntKind.i64 (a (5 : Nat)))), (AV.v (Value.int IntKind.i64 (a (6 : Nat)))), (AV.v (Value.int IntKind.i64 (p (0 : Nat)))), (AV.v (Value.int IntKind.i64 (p (1 : Nat)))), (AV.v (Value.int IntKind.i64 (p (2 : Nat)))), (AV.v (Value.int IntKind.i64 (p (3 : Nat)))), (AV.v (Value.int IntKind.i64 (p (4 : Nat)))), (AV.v (Value.int IntKind.i64 (p (5 : Nat)))), (AV.v (Value.int IntKind.i64 (p (6 : Nat)))), (AV.v (Value.int IntKind.i64 (p (7 : Nat)))), (AV.v (Value.int IntKind.i64 (p (8 : Nat))))])) = (some ((31 : Nat), [(AV.v (Value.int IntKind.i64 k)), (AV.v (Value.int IntKind.i64 (q (0 : Nat)))), (AV.v (Value.int IntKind.i64 (q (1 : Nat)))), (AV.v (Value.int IntKind.i64 (q (2 : Nat)))), (AV.v (Value.int IntKind.i64 (q (3 : Nat)))), (AV.v (Value.int IntKind.i64 (q (4 : Nat)))), (AV.v (Value.int IntKind.i64 (q (5 : Nat)))), (AV.v (Value.int IntKind.i64 (a (0 : Nat)))), (AV.v (Value.int IntKind.i64 (a (1 : Nat)))), (AV.v (Value.int IntKind.i64 (a (2 : Nat)))), (AV.v (Value.int IntKind.i64 (a (3 : Nat)))), (AV.v (Value.int IntKind.i64 (a (4 : Nat)))), (AV.v (Value.int IntKind.i64 (a (5 : Nat)))), (AV.v (Value.int IntKind.i64 (a (6 : Nat)))), (AV.v (Value.int IntKind.i64 (p (0 : Nat)))), (AV.v (Value.int IntKind.i64 (p (1 : Nat)))), (AV.v (Value.int IntKind.i64 (p (2 : Nat)))), (AV.v (Value.int IntKind.i64 (p (3 : Nat)))), (AV.v (Value.int IntKind.i64 (p (4 : Nat)))), (AV.v (Value.int IntKind.i64 (p (5 : Nat)))), (AV.v (Value.int IntKind.i64 (p (6 : Nat)))), (AV.v (Value.int IntKind.i64 (p (7 : Nat)))), (AV.v (Value.int IntKind.i64 (p (8 : Nat))))])))) ∧ (R Exit.ret [AV.dead, AV.dead, (AV.ptr (1 : Nat) (0 : Nat)), (AV.ptr (2 : Nat) (0 : Nat)), AV.dead, AV.dead, AV.dead, AV.dead, AV.dead, AV.dead, AV.dead, AV.dead, AV.dead, AV.dead, AV.dead, AV.dead, AV.dead, AV.dead, AV.dead, AV.dead, AV.dead, AV.dead, AV.dead, AV.dead, AV.dead, AV.dead, AV.dead, AV.dead, AV.dead, AV.dead] (AH.mk [((31 : Nat), [(AV.v (Value.int IntKind.i64 k)), (AV.v (Value.int IntKind.i64 (q (0 : Nat)))), (AV.v (Value.int IntKind.i64 (q (1 : Nat)))), (AV.v (Value.int IntKind.i64 (q (2 : Nat)))), (AV.v (Value.int IntKind.i64 (q (3 : Nat)))), (AV.v (Value.int IntKind.i64 (q (4 : Nat)))), (AV.v (Value.int IntKind.i64 (q (5 : Nat)))), (AV.v (Value.int IntKind.i64 (a (0 : Nat)))), (AV.v (Value.int IntKind.i64 (a (1 : Nat)))), (AV.v (Value.int IntKind.i64 (a (2 : Nat)))), (AV.v (Value.int IntKind.i64 (a (3 : Nat)))), (AV.v (Value.int IntKind.i64 (a (4 : Nat)))), (AV.v (Value.int IntKind.i64 (a (5 : Nat)))), (AV.v (Value.int IntKind.i64 (a (6 : Nat)))), (AV.v (Value.int IntKind.i64 (p (0 : Nat)))), (AV.v (Value.int IntKind.i64 (p (1 : Nat)))), (AV.v (Value.int IntKind.i64 (p (2 : Nat)))), (AV.v (Value.int IntKind.i64 (p (3 : Nat)))), (AV.v (Value.int IntKind.i64 (p (4 : Nat)))), (AV.v (Value.int IntKind.i64 (p (5 : Nat)))), (AV.v (Value.int IntKind.i64 (p (6 : Nat)))), (AV.v (Value.int IntKind.i64 (p (7 : Nat)))), (AV.v (Value.int IntKind.i64 (p (8 : Nat))))]), ((9 : Nat), [(AV.v (Value.string ((S).7 (1 : Int) ((S).1 (Q24.six [(q (0 : Nat)), (q (1 : Nat)), (q (2 : Nat)), (q (3 : Nat)), (q (4 : Nat)), (q (5 : Nat))])))))]), ((32 : Nat), [(AV.v (Value.int IntKind.i64 ((S).8 (1 : Int) ((S).1 (Q24.six [(q (0 : Nat)), (q (1 : Nat)), (q (2 : Nat)), (q (3 : Nat)), (q (4 : Nat)), (q (5 : Nat))])))))]), ((31 : Nat), [(AV.v (Value.int IntKind.i64 k)), (AV.v (Value.int IntKind.i64 (q (0 : Nat)))), (AV.v (Value.int IntKind.i64 (q (1 : Nat)))), (AV.v (Value.int IntKind.i64 (q (2 : Nat)))), (AV.v (Value.int IntKind.i64 (q (3 : Nat)))), (AV.v (Value.int IntKind.i64 (q (4 : Nat)))), (AV.v (Value.int IntKind.i64 (q (5 : Nat)))), (AV.v (Value.int IntKind.i64 (a (0 : Nat)))), (AV.v (Value.int IntKind.i64 (a (1 : Nat)))), (AV.v (Value.int IntKind.i64 (a (2 : Nat)))), (AV.v (Value.int IntKind.i64 (a (3 : Nat)))), (AV.v (Value.int IntKind.i64 (a (4 : Nat)))), (AV.v (Value.int IntKind.i64 (a (5 : Nat)))), (AV.v (Value.int IntKind.i64 (a (6 : Nat)))), (AV.v (Value.int IntKind.i64 (p (0 : Nat)))), (AV.v (Value.int IntKind.i64 (p (1 : Nat)))), (AV.v (Value.int IntKind.i64 (p (2 : Nat)))), (AV.v (Value.int IntKind.i64 (p (3 : Nat)))), (AV.v (Value.int IntKind.i64 (p (4 : Nat)))), (AV.v (Value.int IntKind.i64 (p (5 : Nat)))), (AV.v (Value.int IntKind.i64 (p (6 : Nat)))), (AV.v (Value.int IntKind.i64 (p (7 : Nat)))), (AV.v (Value.int IntKind.i64 (p (8 : Nat))))]), ((60 : Nat), [(AV.v (Value.int IntKind.i64 (q (0 : Nat)))), (AV.v (Value.int IntKind.i64 (q (1 : Nat)))), (AV.v (Value.int IntKind.i64 (q (2 : Nat)))), (AV.v (Value.int IntKind.i64 (q (3 : Nat)))), (AV.v (Value.int IntKind.i64 (q (4 : Nat)))), (AV.v (Value.int IntKind.i64 (q (5 : Nat))))]), ((60 : Nat), [(AV.v (Value.int IntKind.i64 (q (0 : Nat)))), (AV.v (Value.int IntKind.i64 (q (1 : Nat)))), (AV.v (Value.int IntKind.i64 (q (2 : Nat)))), (AV.v (Value.int IntKind.i64 (q (3 : Nat)))), (AV.v (Value.int IntKind.i64 (q (4 : Nat)))), (AV.v (Value.int IntKind.i64 (q (5 : Nat))))]), ((60 : Nat), [(AV.v (Value.int IntKind.i64 (q (0 : Nat)))), (AV.v (Value.int IntKind.i64 (q (1 : Nat)))), (AV.v (Value.int IntKind.i64 (q (2 : Nat)))), (AV.v (Value.int IntKind.i64 (q (3 : Nat)))), (AV.v (Value.int IntKind.i64 (q (4 : Nat)))), (AV.v (Value.int IntKind.i64 (q (5 : Nat))))]), ((31 : Nat), [(AV.v (Value.int IntKind.i64 (1 : Int))), (AV.v (Value.int IntKind.i64 (q (0 : Nat)))), (AV.v (Value.int IntKind.i64 (q (1 : Nat)))), (AV.v (Value.int IntKind.i64 (q (2 : Nat)))), (AV.v (Value.int IntKind.i64 (q (3 : Nat)))), (AV.v (Value.int IntKind.i64 (q (4 : Nat)))), (AV.v (Value.int IntKind.i64 (q (5 : Nat)))), (AV.v (Value.int IntKind.i64 (0 : Int))), (AV.v (Value.int IntKind.i64 (0 : Int))), (AV.v (Value.int IntKind.i64 (0 : Int))), (AV.v (Value.int IntKind.i64 (0 : Int))), (AV.v (Value.int IntKind.i64 (0 : Int))), (AV.v (Value.int IntKind.i64 (0 : Int))), (AV.v (Value.int IntKind.i64 (0 : Int))), (AV.v (Value.int IntKind.i64 (0 : Int))), (AV.v (Value.int IntKind.i64 (0 : Int))), (AV.v (Value.int IntKind.i64 (0 : Int))), (AV.v (Value.int IntKind.i64 (0 : Int))), (AV.v (Value.int IntKind.i64 (0 : Int))), (AV.v (Value.int IntKind.i64 (0 : Int))), (AV.v (Value.int IntKind.i64 (0 : Int))), (AV.v (Value.int IntKind.i64 (0 : Int))), (AV.v (Value.int IntKind.i64 (0 : Int)))])] (@List.nil Nat) (0 : Nat) (0 : Nat) true (@List.nil (Prod Nat Bool)) True)))))) else (bif (k == (2 : Int)) then (bif (((S).4 (A25.six [(a (0 : Nat)), (a (1 : Nat)), (a (2 : Nat)), (a (3 : Nat)), (a (4 : Nat)), (a (5 : Nat)), (a (6 : Nat))])) != (0 : Int)) then (some (True ∧ (R Exit.ret [AV.dead, AV.dead, (AV.ptr (1 : Nat) (0 : Nat)), (AV.ptr (2 : Nat) (0 : Nat)), AV.dead, AV.dead, AV.dead, AV.dead, AV.dead, AV.dead, AV.dead, AV.dead, AV.dead, AV.dead, AV.dead, AV.dead, AV.dead, AV.dead, AV.dead, AV.dead, AV.dead, AV.dead, AV.dead, AV.dead, AV.dead, AV.dead, AV.dead, AV.dead, AV.dead, AV.dead] (AH.mk [((31 : Nat), [(AV.v (Value.int IntKind.i64 k)), (AV.v (Value.int IntKind.i64 (q (0 : Nat)))), (AV.v (Value.int IntKind.i64 (q (1 : Nat)))), (AV.v (Value.int IntKind.i64 (q (2 : Nat)))), (AV.v (Value.int IntKind.i64 (q (3 : Nat)))), (AV.v (Value.int IntKind.i64 (q (4 : Nat)))), (AV.v (Value.int IntKind.i64 (q (5 : Nat)))), (AV.v (Value.int IntKind.i64 (a (0 : Nat)))), (AV.v (Value.int IntKind.i64 (a (1 : Nat)))), (AV.v (Value.int IntKind.i64 (a (2 : Nat)))), (AV.v (Value.int IntKind.i64 (a (3 : Nat)))), (AV.v (Value.int IntKind.i64 (a (4 : Nat)))), (AV.v (Value.int IntKind.i64 (a (5 : Nat)))), (AV.v (Value.int IntKind.i64 (a (6 : Nat)))), (AV.v (Value.int IntKind.i64 (p (0 : Nat)))), (AV.v (Value.int IntKind.i64 (p (1 : Nat)))), (AV.v (Value.int IntKind.i64 (p (2 : Nat)))), (AV.v (Value.int IntKind.i64 (p (3 : Nat)))), (AV.v (Value.int IntKind.i64 (p (4 : Nat)))), (AV.v (Value.int IntKind.i64 (p (5 : Nat)))), (AV.v (Value.int IntKind.i64 (p (6 : Nat)))), (AV.v (Value.int IntKind.i64 (p (7 : Nat)))), (AV.v (Value.int IntKind.i64 (p (8 : Nat))))]), ((9 : Nat), [(AV.v (Value.string (ByteArray.mk (Array.mk (@List.nil UInt8)))))]), ((32 : Nat), [(AV.v (Value.int IntKind.i64 (1 : Int)))]), ((31 : Nat), [(AV.v (Value.int IntKind.i64 k)), (AV.v (Value.int IntKind.i64 (q (0 : Nat)))), (AV.v (Value.int IntKind.i64 (q (1 : Nat)))), (AV.v (Value.int IntKind.i64 (q (2 : Nat)))), (AV.v (Value.int IntKind.i64 (q (3 : Nat)))), (AV.v (Value.int IntKind.i64 (q (4 : Nat)))), (AV.v (Value.int IntKind.i64 (q (5 : Nat)))), (AV.v (Value.int IntKind.i64 (a (0 : Nat)))), (AV.v (Value.int IntKind.i64 (a (1 : Nat)))), (AV.v (Value.int IntKind.i64 (a (2 : Nat)))), (AV.v (Value.int IntKind.i64 (a (3 : Nat)))), (AV.v (Value.int IntKind.i64 (a (4 : Nat)))), (AV.v (Value.int IntKind.i64 (a (5 : Nat)))), (AV.v (Value.int IntKind.i64 (a (6 : Nat)))), (AV.v (Value.int IntKind.i64 (p (0 : Nat)))), (AV.v (Value.int IntKind.i64 (p (1 : Nat)))), (AV.v (Value.int IntKind.i64 (p (2 : Nat)))), (AV.v (Value.int IntKind.i64 (p (3 : Nat)))), (AV.v (Value.int IntKind.i64 (p (4 : Nat)))), (AV.v (Value.int IntKind.i64 (p (5 : Nat)))), (AV.v (Value.int IntKind.i64 (p (6 : Nat)))), (AV.v (Value.int IntKind.i64 (p (7 : Nat)))), (AV.v (Value.int IntKind.i64 (p (8 : Nat))))]), ((60 : Nat), [(AV.v (Value.int IntKind.i64 (0 : Int))), (AV.v (Value.int IntKind.i64 (0 : Int))), (AV.v (Value.int IntKind.i64 (0 : Int))), (AV.v (Value.int IntKind.i64 (0 : Int))), (AV.v (Value.int IntKind.i64 (0 : Int))), (AV.v (Value.int IntKind.i64 (0 : Int)))]), ((63 : Nat), [(AV.v (Value.int IntKind.i64 (a (0 : Nat)))), (AV.v (Value.int IntKind.i64 (a (1 : Nat)))), (AV.v (Value.int IntKind.i64 (a (2 : Nat)))), (AV.v (Value.int IntKind.i64 (a (3 : Nat)))), (AV.v (Value.int IntKind.i64 (a (4 : Nat)))), (AV.v (Value.int IntKind.i64 (a (5 : Nat)))), (AV.v (Value.int IntKind.i64 (a (6 : Nat))))]), ((63 : Nat), [(AV.v (Value.int IntKind.i64 (a (0 : Nat)))), (AV.v (Value.int IntKind.i64 (a (1 : Nat)))), (AV.v (Value.int IntKind.i64 (a (2 : Nat)))), (AV.v (Value.int IntKind.i64 (a (3 : Nat)))), (AV.v (Value.int IntKind.i64 (a (4 : Nat)))), (AV.v (Value.int IntKind.i64 (a (5 : Nat)))), (AV.v (Value.int IntKind.i64 (a (6 : Nat))))])] (@List.nil Nat) (0 : Nat) (0 : Nat) true (@List.nil (Prod Nat Bool)) True)))) else (bif (!(((2 : Int) == k) && ((((0 : Int) == (q (0 : Nat))) && (((0 : Int) == (q (1 : Nat))) && (((0 : Int) == (q (2 : Nat))) && (((0 : Int) == (q (3 : Nat))) && (((0 : Int) == (q (4 : Nat))) && (((0 : Int) == (q (5 : Nat))) && true)))))) && ((((a (0 : Nat)) == (a (0 : Nat))) && (((a (1 : Nat)) == (a (1 : Nat))) && (((a (2 : Nat)) == (a (2 : Nat))) && (((a (3 : Nat)) == (a (3 : Nat))) && (((a (4 : Nat)) == (a (4 : Nat))) && (((a (5 : Nat)) == (a (5 : Nat))) && (((a (6 : Nat)) == (a (6 : Nat))) && true))))))) && ((((0 : Int) == (p (0 : Nat))) && (((0 : Int) == (p (1 : Nat))) && ((((0 : Int) == (p (2 : Nat))) && (((0 : Int) == (p (3 : Nat))) && (((0 : Int) == (p (4 : Nat))) && (((0 : Int) == (p (5 : Nat))) && (((0 : Int) == (p (6 : Nat))) && (((0 : Int) == (p (7 : Nat))) && (((0 : Int) == (p (8 : Nat))) && true))))))) && true))) && true))))) then (some ((True ∧ ((some ((31 : Nat), [(AV.v (Value.int IntKind.i64 k)), (AV.v (Value.int IntKind.i64 (q (0 : Nat)))), (AV.v (Value.int IntKind.i64 (q (1 : Nat)))), (AV.v (Value.int IntKind.i64 (q (2 : Nat)))), (AV.v (Value.int IntKind.i64 (q (3 : Nat)))), (AV.v (Value.int IntKind.i64 (q (4 : Nat)))), (AV.v (Value.int IntKind.i64 (q (5 : Nat)))), (AV.v (Value.int IntKind.i64 (a (0 : Nat)))), (AV.v (Value.int IntKind.i64 (a (1 : Nat)))), (AV.v (Value.int IntKind.i64 (a (2 : Nat)))), (AV.v (Value.int IntKind.i64 (a (3 : Nat)))), (AV.v (Value.int IntKind.i64 (a (4 : Nat)))), (AV.v (Value.int IntKind.i64 (a (5 : Nat)))), (AV.v (Value.int IntKind.i64 (a (6 : Nat)))), (AV.v (Value.int IntKind.i64 (p (0 : Nat)))), (AV.v (Value.int IntKind.i64 (p (1 : Nat)))), (AV.v (Value.int IntKind.i64 (p (2 : Nat)))), (AV.v (Value.int IntKind.i64 (p (3 : Nat)))), (AV.v (Value.int IntKind.i64 (p (4 : Nat)))), (AV.v (Value.int IntKind.i64 (p (5 : Nat)))), (AV.v (Value.int IntKind.i64 (p (6 : Nat)))), (AV.v (Value.int IntKind.i64 (p (7 : Nat)))), (AV.v (Value.int IntKind.i64 (p (8 : Nat))))])) = (some ((31 : Nat), [(AV.v (Value.int IntKind.i64 k)), (AV.v (Value.int IntKind.i64 (q (0 : Nat)))), (AV.v (Value.int IntKind.i64 (q (1 : Nat)))), (AV.v (Value.int IntKind.i64 (q (2 : Nat)))), (AV.v (Value.int IntKind.i64 (q (3 : Nat)))), (AV.v (Value.int IntKind.i64 (q (4 : Nat)))), (AV.v (Value.int IntKind.i64 (q (5 : Nat)))), (AV.v (Value.int IntKind.i64 (a (0 : Nat)))), (AV.v (Value.int IntKind.i64 (a (1 : Nat)))), (AV.v (Value.int IntKind.i64 (a (2 : Nat)))), (AV.v (Value.int IntKind.i64 (a (3 : Nat)))), (AV.v (Value.int IntKind.i64 (a (4 : Nat)))), (AV.v (Value.int IntKind.i64 (a (5 : Nat)))), (AV.v (Value.int IntKind.i64 (a (6 : Nat)))), (AV.v (Value.int IntKind.i64 (p (0 : Nat)))), (AV.v (Value.int IntKind.i64 (p (1 : Nat)))), (AV.v (Value.int IntKind.i64 (p (2 : Nat)))), (AV.v (Value.int IntKind.i64 (p (3 : Nat)))), (AV.v (Value.int IntKind.i64 (p (4 : Nat)))), (AV.v (Value.int IntKind.i64 (p (5 : Nat)))), (AV.v (Value.int IntKind.i64 (p (6 : Nat)))), (AV.v (Value.int IntKind.i64 (p (7 : Nat)))), (AV.v (Value.int IntKind.i64 (p (8 : Nat))))])))) ∧ (R Exit.ret [AV.dead, AV.dead, (AV.ptr (1 : Nat) (0 : Nat)), (AV.ptr (2 : Nat) (0 : Nat)), AV.dead, AV.dead, AV.dead, AV.dead, AV.dead, AV.dead, AV.dead, AV.dead, AV.dead, AV.dead, AV.dead, AV.dead, AV.dead, AV.dead, AV.dead, AV.dead, AV.dead, AV.dead, AV.dead, AV.dead, AV.dead, AV.dead, AV.dead, AV.dead, AV.dead, AV.dead] (AH.mk [((31 : Nat), [(AV.v (Value.int IntKind.i64 k)), (AV.v (Value.int IntKind.i64 (q (0 : Nat)))), (AV.v (Value.int IntKind.i64 (q (1 : Nat)))), (AV.v (Value.int IntKind.i64 (q (2 : Nat)))), (AV.v (Value.int IntKind.i64 (q (3 : Nat)))), (AV.v (Value.int IntKind.i64 (q (4 : Nat)))), (AV.v (Value.int IntKind.i64 (q (5 : Nat)))), (AV.v (Value.int IntKind.i64 (a (0 : Nat)))), (AV.v (Value.int IntKind.i64 (a (1 : Nat)))), (AV.v (Value.int IntKind.i64 (a (2 : Nat)))), (AV.v (Value.int IntKind.i64 (a (3 : Nat)))), (AV.v (Value.int IntKind.i64 (a (4 : Nat)))), (AV.v (Value.int IntKind.i64 (a (5 : Nat)))), (AV.v (Value.int IntKind.i64 (a (6 : Nat)))), (AV.v (Value.int IntKind.i64 (p (0 : Nat)))), (AV.v (Value.int IntKind.i64 (p (1 : Nat)))), (AV.v (Value.int IntKind.i64 (p (2 : Nat)))), (AV.v (Value.int IntKind.i64 (p (3 : Nat)))), (AV.v (Value.int IntKind.i64 (p (4 : Nat)))), (AV.v (Value.int IntKind.i64 (p (5 : Nat)))), (AV.v (Value.int IntKind.i64 (p (6 : Nat)))), (AV.v (Value.int IntKind.i64 (p (7 : Nat)))), (AV.v (Value.int IntKind.i64 (p (8 : Nat))))]), ((9 : Nat), [(AV.v (Value.string (ByteArray.mk (Array.mk (@List.nil UInt8)))))]), ((32 : Nat), [(AV.v (Value.int IntKind.i64 (1 : Int)))]), ((31 : Nat), [(AV.v (Value.int IntKind.i64 k)), (AV.v (Value.int IntKind.i64 (q (0 : Nat)))), (AV.v (Value.int IntKind.i64 (q (1 : Nat)))), (AV.v (Value.int IntKind.i64 (q (2 : Nat)))), (AV.v (Value.int IntKind.i64 (q (3 : Nat)))), (AV.v (Value.int IntKind.i64 (q (4 : Nat)))), (AV.v (Value.int IntKind.i64 (q (5 : Nat)))), (AV.v (Value.int IntKind.i64 (a (0 : Nat)))), (AV.v (Value.int IntKind.i64 (a (1 : Nat)))), (AV.v (Value.int IntKind.i64 (a (2 : Nat)))), (AV.v (Value.int IntKind.i64 (a (3 : Nat)))), (AV.v (Value.int IntKind.i64 (a (4 : Nat)))), (AV.v (Value.int IntKind.i64 (a (5 : Nat)))), (AV.v (Value.int IntKind.i64 (a (6 : Nat)))), (AV.v (Value.int IntKind.i64 (p (0 : Nat)))), (AV.v (Value.int IntKind.i64 (p (1 : Nat)))), (AV.v (Value.int IntKind.i64 (p (2 : Nat)))), (AV.v (Value.int IntKind.i64 (p (3 : Nat)))), (AV.v (Value.int IntKind.i64 (p (4 : Nat)))), (AV.v (Value.int IntKind.i64 (p (5 : Nat)))), (AV.v (Value.int IntKind.i64 (p (6 : Nat)))), (AV.v (Value.int IntKind.i64 (p (7 : Nat)))), (AV.v (Value.int IntKind.i64 (p (8 : Nat))))]), ((60 : Nat), [(AV.v (Value.int IntKind.i64 (0 : Int))), (AV.v (Value.int IntKind.i64 (0 : Int))), (AV.v (Value.int IntKind.i64 (0 : Int))), (AV.v (Value.int IntKind.i64 (0 : Int))), (AV.v (Value.int IntKind.i64 (0 : Int))), (AV.v (Value.int IntKind.i64 (0 : Int)))]), ((63 : Nat), [(AV.v (Value.int IntKind.i64 (a (0 : Nat)))), (AV.v (Value.int IntKind.i64 (a (1 : Nat)))), (AV.v (Value.int IntKind.i64 (a (2 : Nat)))), (AV.v (Value.int IntKind.i64 (a (3 : Nat)))), (AV.v (Value.int IntKind.i64 (a (4 : Nat)))), (AV.v (Value.int IntKind.i64 (a (5 : Nat)))), (AV.v (Value.int IntKind.i64 (a (6 : Nat))))]), ((63 : Nat), [(AV.v (Value.int IntKind.i64 (a (0 : Nat)))), (AV.v (Value.int IntKind.i64 (a (1 : Nat)))), (AV.v (Value.int IntKind.i64 (a (2 : Nat)))), (AV.v (Value.int IntKind.i64 (a (3 : Nat)))), (AV.v (Value.int IntKind.i64 (a (4 : Nat)))), (AV.v (Value.int IntKind.i64 (a (5 : Nat)))), (AV.v (Value.int IntKind.i64 (a (6 : Nat))))]), ((63 : Nat), [(AV.v (Value.int IntKind.i64 (a (0 : Nat)))), (AV.v (Value.int IntKind.i64 (a (1 : Nat)))), (AV.v (Value.int IntKind.i64 (a (2 : Nat)))), (AV.v (Value.int IntKind.i64 (a (3 : Nat)))), (AV.v (Value.int IntKind.i64 (a (4 : Nat)))), (AV.v (Value.int IntKind.i64 (a (5 : Nat)))), (AV.v (Value.int IntKind.i64 (a (6 : Nat))))]), ((31 : Nat), [(AV.v (Value.int IntKind.i64 (2 : Int))), (AV.v (Value.int IntKind.i64 (0 : Int))), (AV.v (Value.int IntKind.i64 (0 : Int))), (AV.v (Value.int IntKind.i64 (0 : Int))), (AV.v (Value.int IntKind.i64 (0 : Int))), (AV.v (Value.int IntKind.i64 (0 : Int))), (AV.v (Value.int IntKind.i64 (0 : Int))), (AV.v (Value.int IntKind.i64 (a (0 : Nat)))), (AV.v (Value.int IntKind.i64 (a (1 : Nat)))), (AV.v (Value.int IntKind.i64 (a (2 : Nat)))), (AV.v (Value.int IntKind.i64 (a (3 : Nat)))), (AV.v (Value.int IntKind.i64 (a (4 : Nat)))), (AV.v (Value.int IntKind.i64 (a (5 : Nat)))), (AV.v (Value.int IntKind.i64 (a (6 : Nat)))), (AV.v (Value.int IntKind.i64 (0 : Int))), (AV.v (Value.int IntKind.i64 (0 : Int))), (AV.v (Value.int IntKind.i64 (0 : Int))), (AV.v (Value.int IntKind.i64 (0 : Int))), (AV.v (Value.int IntKind.i64 (0 : Int))), (AV.v (Value.int IntKind.i64 (0 : Int))), (AV.v (Value.int IntKind.i64 (0 : Int))), (AV.v (Value.int IntKind.i64 (0 : Int))), (AV.v (Value.int IntKind.i64 (0 : Int)))])] (@List.nil Nat) (0 : Nat) (0 : Nat) true (@List.nil (Prod Nat Bool)) True)))) else (some ((True ∧ ((some ((31 : Nat), [(AV.v (Value.int IntKind.i64 k)), (AV.v (Value.int IntKind.i64 (q (0 : Nat)))), (AV.v (Value.int IntKind.i64 (q (1 : Nat)))), (AV.v (Value.int IntKind.i64 (q (2 : Nat)))), (AV.v (Value.int IntKind.i64 (q (3 : Nat)))), (AV.v (Value.int IntKind.i64 (q (4 : Nat)))), (AV.v (Value.int IntKind.i64 (q (5 : Nat)))), (AV.v (Value.int IntKind.i64 (a (0 : Nat)))), (AV.v (Value.int IntKind.i64 (a (1 : Nat)))), (AV.v (Value.int IntKind.i64 (a (2 : Nat)))), (AV.v (Value.int IntKind.i64 (a (3 : Nat)))), (AV.v (Value.int IntKind.i64 (a (4 : Nat)))), (AV.v (Value.int IntKind.i64 (a (5 : Nat)))), (AV.v (Value.int IntKind.i64 (a (6 : Nat)))), (AV.v (Value.int IntKind.i64 (p (0 : Nat)))), (AV.v (Value.int IntKind.i64 (p (1 : Nat)))), (AV.v (Value.int IntKind.i64 (p (2 : Nat)))), (AV.v (Value.int IntKind.i64 (p (3 : Nat)))), (AV.v (Value.int IntKind.i64 (p (4 : Nat)))), (AV.v (Value.int IntKind.i64 (p (5 : Nat)))), (AV.v (Value.int IntKind.i64 (p (6 : Nat)))), (AV.v (Value.int IntKind.i64 (p (7 : Nat)))), (AV.v (Value.int IntKind.i64 (p (8 : Nat))))])) = (some ((31 : Nat), [(AV.v (Value.int IntKind.i64 k)), (AV.v (Value.int IntKind.i64 (q (0 : Nat)))), (AV.v (Value.int IntKind.i64 (q (1 : Nat)))), (AV.v (Value.int IntKind.i64 (q (2 : Nat)))), (AV.v (Value.int IntKind.i64 (q (3 : Nat)))), (AV.v (Value.int IntKind.i64 (q (4 : Nat)))), (AV.v (Value.int IntKind.i64 (q (5 : Nat)))), (AV.v (Value.int IntKind.i64 (a (0 : Nat)))), (AV.v (Value.int IntKind.i64 (a (1 : Nat)))), (AV.v (Value.int IntKind.i64 (a (2 : Nat)))), (AV.v (Value.int IntKind.i64 (a (3 : Nat)))), (AV.v (Value.int IntKind.i64 (a (4 : Nat)))), (AV.v (Value.int IntKind.i64 (a (5 : Nat)))), (AV.v (Value.int IntKind.i64 (a (6 : Nat)))), (AV.v (Value.int IntKind.i64 (p (0 : Nat)))), (AV.v (Value.int IntKind.i64 (p (1 : Nat)))), (AV.v (Value.int IntKind.i64 (p (2 : Nat)))), (AV.v (Value.int IntKind.i64 (p (3 : Nat)))), (AV.v (Value.int IntKind.i64 (p (4 : Nat)))), (AV.v (Value.int IntKind.i64 (p (5 : Nat)))), (AV.v (Value.int IntKind.i64 (p (6 : Nat)))), (AV.v (Value.int IntKind.i64 (p (7 : Nat)))), (AV.v (Value.int IntKind.i64 (p (8 : Nat))))])))) ∧ (R Exit.ret [AV.dead, AV.dead, (AV.ptr (1 : Nat) (0 : Nat)), (AV.ptr (2 : Nat) (0 : Nat)), AV.dead, AV.dead, AV.dead, AV.dead, AV.dead, AV.dead, AV.dead, AV.dead, AV.dead, AV.dead, AV.dead, AV.dead, AV.dead, AV.dead, AV.dead, AV.dead, AV.dead, AV.dead, AV.dead, AV.dead, AV.dead, AV.dead, AV.dead, AV.dead, AV.dead, AV.dead] (AH.mk [((31 : Nat), [(AV.v (Value.int IntKind.i64 k)), (AV.v (Value.int IntKind.i64 (q (0 : Nat)))), (AV.v (Value.int IntKind.i64 (q (1 : Nat)))), (AV.v (Value.int IntKind.i64 (q (2 : Nat)))), (AV.v (Value.int IntKind.i64 (q (3 : Nat)))), (AV.v (Value.int IntKind.i64 (q (4 : Nat)))), (AV.v (Value.int IntKind.i64 (q (5 : Nat)))), (AV.v (Value.int IntKind.i64 (a (0 : Nat)))), (AV.v (Value.int IntKind.i64 (a (1 : Nat)))), (AV.v (Value.int IntKind.i64 (a (2 : Nat)))), (AV.v (Value.int IntKind.i64 (a (3 : Nat)))), (AV.v (Value.int IntKind.i64 (a (4 : Nat)))), (AV.v (Value.int IntKind.i64 (a (5 : Nat)))), (AV.v (Value.int IntKind.i64 (a (6 : Nat)))), (AV.v (Value.int IntKind.i64 (p (0 : Nat)))), (AV.v (Value.int IntKind.i64 (p (1 : Nat)))), (AV.v (Value.int IntKind.i64 (p (2 : Nat)))), (AV.v (Value.int IntKind.i64 (p (3 : Nat)))), (AV.v (Value.int IntKind.i64 (p (4 : Nat)))), (AV.v (Value.int IntKind.i64 (p (5 : Nat)))), (AV.v (Value.int IntKind.i64 (p (6 : Nat)))), (AV.v (Value.int IntKind.i64 (p (7 : Nat)))), (AV.v (Value.int IntKind.i64 (p (8 : Nat))))]), ((9 : Nat), [(AV.v (Value.string ((S).7 (2 : Int) ((S).3 (A25.six [(a (0 : Nat)), (a (1 : Nat)), (a (2 : Nat)), (a (3 : Nat)), (a (4 : Nat)), (a (5 : Nat)), (a (6 : Nat))])))))]), ((32 : Nat), [(AV.v (Value.int IntKind.i64 ((S).8 (2 : Int) ((S).3 (A25.six [(a (0 : Nat)), (a (1 : Nat)), (a (2 : Nat)), (a (3 : Nat)), (a (4 : Nat)), (a (5 : Nat)), (a (6 : Nat))])))))]), ((31 : Nat), [(AV.v (Value.int IntKind.i64 k)), (AV.v (Value.int IntKind.i64 (q (0 : Nat)))), (AV.v (Value.int IntKind.i64 (q (1 : Nat)))), (AV.v (Value.int IntKind.i64 (q (2 : Nat)))), (AV.v (Value.int IntKind.i64 (q (3 : Nat)))), (AV.v (Value.int IntKind.i64 (q (4 : Nat)))), (AV.v (Value.int IntKind.i64 (q (5 : Nat)))), (AV.v (Value.int IntKind.i64 (a (0 : Nat)))), (AV.v (Value.int IntKind.i64 (a (1 : Nat)))), (AV.v (Value.int IntKind.i64 (a (2 : Nat)))), (AV.v (Value.int IntKind.i64 (a (3 : Nat)))), (AV.v (Value.int IntKind.i64 (a (4 : Nat)))), (AV.v (Value.int IntKind.i64 (a (5 : Nat)))), (AV.v (Value.int IntKind.i64 (a (6 : Nat)))), (AV.v (Value.int IntKind.i64 (p (0 : Nat)))), (AV.v (Value.int IntKind.i64 (p (1 : Nat)))), (AV.v (Value.int IntKind.i64 (p (2 : Nat)))), (AV.v (Value.int IntKind.i64 (p (3 : Nat)))), (AV.v (Value.int IntKind.i64 (p (4 : Nat)))), (AV.v (Value.int IntKind.i64 (p (5 : Nat)))), (AV.v (Value.int IntKind.i64 (p (6 : Nat)))), (AV.v (Value.int IntKind.i64 (p (7 : Nat)))), (AV.v (Value.int IntKind.i64 (p (8 : Nat))))]), ((60 : Nat), [(AV.v (Value.int IntKind.i64 (0 : Int))), (AV.v (Value.int IntKind.i64 (0 : Int))), (AV.v (Value.int IntKind.i64 (0 : Int))), (AV.v (Value.int IntKind.i64 (0 : Int))), (AV.v (Value.int IntKind.i64 (0 : Int))), (AV.v (Value.int IntKind.i64 (0 : Int)))]), ((63 : Nat), [(AV.v (Value.int IntKind.i64 (a (0 : Nat)))), (AV.v (Value.int IntKind.i64 (a (1 : Nat)))), (AV.v (Value.int IntKind.i64 (a (2 : Nat)))), (AV.v (Value.int IntKind.i64 (a (3 : Nat)))), (AV.v (Value.int IntKind.i64 (a (4 : Nat)))), (AV.v (Value.int IntKind.i64 (a (5 : Nat)))), (AV.v (Value.int IntKind.i64 (a (6 : Nat))))]), ((63 : Nat), [(AV.v (Value.int IntKind.i64 (a (0 : Nat)))), (AV.v (Value.int IntKind.i64 (a (1 : Nat)))), (AV.v (Value.int IntKind.i64 (a (2 : Nat)))), (AV.v (Value.int IntKind.i64 (a (3 : Nat)))), (AV.v (Value.int IntKind.i64 (a (4 : Nat)))), (AV.v (Value.int IntKind.i64 (a (5 : Nat)))), (AV.v (Value.int IntKind.i64 (a (6 : Nat))))]), ((63 : Nat), [(AV.v (Value.int IntKind.i64 (a (0 : Nat)))), (AV.v (Value.int IntKind.i64 (a (1 : Nat)))), (AV.v (Value.int IntKind.i64 (a (2 : Nat)))), (AV.v (Value.int IntKind.i64 (a (3 : Nat)))), (AV.v (Value.int IntKind.i64 (a (4 : Nat)))), (AV.v (Value.int IntKind.i64 (a (5 : Nat)))), (AV.v (Value.int IntKind.i64 (a (6 : Nat))))]), ((31 : Nat), [(AV.v (Value.int IntKind.i64 (2 : Int))), (AV.v (Value.int IntKind.i64 (0 : Int))), (AV.v (Value.int IntKind.i64 (0 : Int))), (AV.v (Value.int IntKind.i64 (0 : Int))), (AV.v (Value.int IntKind.i64 (0 : Int))), (AV.v (Value.int IntKind.i64 (0 : Int))), (AV.v (Value.int IntKind.i64 (0 : Int))), (AV.v (Value.int IntKind.i64 (a (0 : Nat)))), (AV.v (Value.int IntKind.i64 (a (1 : Nat)))), (AV.v (Value.int IntKind.i64 (a (2 : Nat)))), (AV.v (Value.int IntKind.i64 (a (3 : Nat)))), (AV.v (Value.int IntKind.i64 (a (4 : Nat)))), (AV.v (Value.int IntKind.i64 (a (5 : Nat)))), (AV.v (Value.int IntKind.i64 (a (6 : Nat)))), (AV.v (Value.int IntKind.i64 (0 : Int))), (AV.v (Value.int IntKind.i64 (0 : Int))), (AV.v (Value.int IntKind.i64 (0 : Int))), (AV.v (Value.int IntKind.i64 (0 : Int))), (AV.v (Value.int IntKind.i64 (0 : Int))), (AV.v (Value.int IntKind.i64 (0 : Int))), (AV.v (Value.int IntKind.i64 (0 : Int))), (AV.v (Value.int IntKind.i64 (0 : Int))), (AV.v (Value.int IntKind.i64 (0 : Int)))])] (@List.nil Nat) (0 : Nat) (0 : Nat) true (@List.nil (Prod Nat Bool)) True)))))) else (bif (k == (3 : Int)) then (bif (((S).6 (P26.nine [(p (0 : Nat)), (p (1 : Nat)), (p (2 : Nat)), (p (3 : Nat)), (p (4 : Nat)), (p (5 : Nat)), (p (6 : Nat)), (p (7 : Nat)), (p (8 : Nat))])) != (0 : Int)) then (some (True ∧ (R Exit.ret [AV.dead, AV.dead, (AV.ptr (1 : Nat) (0 : Nat)), (AV.ptr (2 : Nat) (0 : Nat)), AV.dead, AV.dead, AV.dead, AV.dead, AV.dead, AV.dead, AV.dead, AV.dead, AV.dead, AV.dead, AV.dead, AV.dead, AV.dead, AV.dead, AV.dead, AV.dead, AV.dead, AV.dead, AV.dead, AV.dead, AV.dead, AV.dead, AV.dead, AV.dead, AV.dead, AV.dead] (AH.mk [((31 : Nat), [(AV.v (Value.int IntKind.i64 k)), (AV.v (Value.int IntKind.i64 (q (0 : Nat)))), (AV.v (Value.int IntKind.i64 (q (1 : Nat)))), (AV.v (Value.int IntKind.i64 (q (2 : Nat)))), (AV.v (Value.int IntKind.i64 (q (3 : Nat)))), (AV.v (Value.int IntKind.i64 (q (4 : Nat)))), (AV.v (Value.int IntKind.i64 (q (5 : Nat)))), (AV.v (Value.int IntKind.i64 (a (0 : Nat)))), (AV.v (Value.int IntKind.i64 (a (1 : Nat)))), (AV.v (Value.int IntKind.i64 (a (2 : Nat)))), (AV.v (Value.int IntKind.i64 (a (3 : Nat)))), (AV.v (Value.int IntKind.i64 (a (4 : Nat)))), (AV.v (Value.int IntKind.i64 (a (5 : Nat)))), (AV.v (Value.int IntKind.i64 (a (6 : Nat)))), (AV.v (Value.int IntKind.i64 (p (0 : Nat)))), (AV.v (Value.int IntKind.i64 (p (1 : Nat)))), (AV.v (Value.int IntKind.i64 (p (2 : Nat)))), (AV.v (Value.int IntKind.i64 (p (3 : Nat)))), (AV.v (Value.int IntKind.i64 (p (4 : Nat)))), (AV.v (Value.int IntKind.i64 (p (5 : Nat)))), (AV.v (Value.int IntKind.i64 (p (6 : Nat)))), (AV.v (Value.int IntKind.i64 (p (7 : Nat)))), (AV.v (Value.int IntKind.i64 (p (8 : Nat))))]), ((9 : Nat), [(AV.v (Value.string (ByteArray.mk (Array.mk (@List.nil UInt8)))))]), ((32 : Nat), [(AV.v (Value.int IntKind.i64 (1 : Int)))]), ((31 : Nat), [(AV.v (Value.int IntKind.i64 k)), (AV.v (Value.int IntKind.i64 (q (0 : Nat)))), (AV.v (Value.int IntKind.i64 (q (1 : Nat)))), (AV.v (Value.int IntKind.i64 (q (2 : Nat)))), (AV.v (Value.int IntKind.i64 (q (3 : Nat)))), (AV.v (Value.int IntKind.i64 (q (4 : Nat)))), (AV.v (Value.int IntKind.i64 (q (5 : Nat)))), (AV.v (Value.int IntKind.i64 (a (0 : Nat)))), (AV.v (Value.int IntKind.i64 (a (1 : Nat)))), (AV.v (Value.int IntKind.i64 (a (2 : Nat)))), (AV.v (Value.int IntKind.i64 (a (3 : Nat)))), (AV.v (Value.int IntKind.i64 (a (4 : Nat)))), (AV.v (Value.int IntKind.i64 (a (5 : Nat)))), (AV.v (Value.int IntKind.i64 (a (6 : Nat)))), (AV.v (Value.int IntKind.i64 (p (0 : Nat)))), (AV.v (Value.int IntKind.i64 (p (1 : Nat)))), (AV.v (Value.int IntKind.i64 (p (2 : Nat)))), (AV.v (Value.int IntKind.i64 (p (3 : Nat)))), (AV.v (Value.int IntKind.i64 (p (4 : Nat)))), (AV.v (Value.int IntKind.i64 (p (5 : Nat)))), (AV.v (Value.int IntKind.i64 (p (6 : Nat)))), (AV.v (Value.int IntKind.i64 (p (7 : Nat)))), (AV.v (Value.int IntKind.i64 (p (8 : Nat))))]), ((60 : Nat), [(AV.v (Value.int IntKind.i64 (0 : Int))), (AV.v (Value.int IntKind.i64 (0 : Int))), (AV.v (Value.int IntKind.i64 (0 : Int))), (AV.v (Value.int IntKind.i64 (0 : Int))), (AV.v (Value.int IntKind.i64 (0 : Int))), (AV.v (Value.int IntKind.i64 (0 : Int)))]), ((63 : Nat), [(AV.v (Value.int IntKind.i64 (0 : Int))), (AV.v (Value.int IntKind.i64 (0 : Int))), (AV.v (Value.int IntKind.i64 (0 : Int))), (AV.v (Value.int IntKind.i64 (0 : Int))), (AV.v (Value.int IntKind.i64 (0 : Int))), (AV.v (Value.int IntKind.i64 (0 : Int))), (AV.v (Value.int IntKind.i64 (0 : Int)))]), ((66 : Nat), [(AV.v (Value.int IntKind.i64 (p (0 : Nat)))), (AV.v (Value.int IntKind.i64 (p (1 : Nat)))), (AV.v (Value.int IntKind.i64 (p (2 : Nat)))), (AV.v (Value.int IntKind.i64 (p (3 : Nat)))), (AV.v (Value.int IntKind.i64 (p (4 : Nat)))), (AV.v (Value.int IntKind.i64 (p (5 : Nat)))), (AV.v (Value.int IntKind.i64 (p (6 : Nat)))), (AV.v (Value.int IntKind.i64 (p (7 : Nat)))), (AV.v (Value.int IntKind.i64 (p (8 : Nat))))])] (@List.nil Nat) (0 : Nat) (0 : Nat) true (@List.nil (Prod Nat Bool)) True)))) else (bif (!(((3 : Int) == k) && ((((0 : Int) == (q (0 : Nat))) && (((0 : Int) == (q (1 : Nat))) && (((0 : Int) == (q (2 : Nat))) && (((0 : Int) == (q (3 : Nat))) && (((0 : Int) == (q (4 : Nat))) && (((0 : Int) == (q (5 : Nat))) && true)))))) && ((((0 : Int) == (a (0 : Nat))) && (((0 : Int) == (a (1 : Nat))) && (((0 : Int) == (a (2 : Nat))) && (((0 : Int) == (a (3 : Nat))) && (((0 : Int) == (a (4 : Nat))) && (((0 : Int) == (a (5 : Nat))) && (((0 : Int) == (a (6 : Nat))) && true))))))) && ((((p (0 : Nat)) == (p (0 : Nat))) && (((p (1 : Nat)) == (p (1 : Nat))) && ((((p (2 : Nat)) == (p (2 : Nat))) && (((p (3 : Nat)) == (p (3 : Nat))) && (((p (4 : Nat)) == (p (4 : Nat))) && (((p (5 : Nat)) == (p (5 : Nat))) && (((p (6 : Nat)) == (p (6 : Nat))) && (((p (7 : Nat)) == (p (7 : Nat))) && (((p (8 : Nat)) == (p (8 : Nat))) && true))))))) && true))) && true))))) then (some ((True ∧ ((some ((31 : Nat), [(AV.v (Value.int IntKind.i64 k)), (AV.v (Value.int IntKind.i64 (q (0 : Nat)))), (AV.v (Value.int IntKind.i64 (q (1 : Nat)))), (AV.v (Value.int IntKind.i64 (q (2 : Nat)))), (AV.v (Value.int IntKind.i64 (q (3 : Nat)))), (AV.v (Value.int IntKind.i64 (q (4 : Nat)))), (AV.v (Value.int IntKind.i64 (q (5 : Nat)))), (AV.v (Value.int IntKind.i64 (a (0 : Nat)))), (AV.v (Value.int IntKind.i64 (a (1 : Nat)))), (AV.v (Value.int IntKind.i64 (a (2 : Nat)))), (AV.v (Value.int IntKind.i64 (a (3 : Nat)))), (AV.v (Value.int IntKind.i64 (a (4 : Nat)))), (AV.v (Value.int IntKind.i64 (a (5 : Nat)))), (AV.v (Value.int IntKind.i64 (a (6 : Nat)))), (AV.v (Value.int IntKind.i64 (p (0 : Nat)))), (AV.v (Value.int IntKind.i64 (p (1 : Nat)))), (AV.v (Value.int IntKind.i64 (p (2 : Nat)))), (AV.v (Value.int IntKind.i64 (p (3 : Nat)))), (AV.v (Value.int IntKind.i64 (p (4 : Nat)))), (AV.v (Value.int IntKind.i64 (p (5 : Nat)))), (AV.v (Value.int IntKind.i64 (p (6 : Nat)))), (AV.v (Value.int IntKind.i64 (p (7 : Nat)))), (AV.v (Value.int IntKind.i64 (p (8 : Nat))))])) = (some ((31 : Nat), [(AV.v (Value.int IntKind.i64 k)), (AV.v (Value.int IntKind.i64 (q (0 : Nat)))), (AV.v (Value.int IntKind.i64 (q (1 : Nat)))), (AV.v (Value.int IntKind.i64 (q (2 : Nat)))), (AV.v (Value.int IntKind.i64 (q (3 : Nat)))), (AV.v (Value.int IntKind.i64 (q (4 : Nat)))), (AV.v (Value.int IntKind.i64 (q (5 : Nat)))), (AV.v (Value.int IntKind.i64 (a (0 : Nat)))), (AV.v (Value.int IntKind.i64 (a (1 : Nat)))), (AV.v (Value.int IntKind.i64 (a (2 : Nat)))), (AV.v (Value.int IntKind.i64 (a (3 : Nat)))), (AV.v (Value.int IntKind.i64 (a (4 : Nat)))), (AV.v (Value.int IntKind.i64 (a (5 : Nat)))), (AV.v (Value.int IntKind.i64 (a (6 : Nat)))), (AV.v (Value.int IntKind.i64 (p (0 : Nat)))), (AV.v (Value.int IntKind.i64 (p (1 : Nat)))), (AV.v (Value.int IntKind.i64 (p (2 : Nat)))), (AV.v (Value.int IntKind.i64 (p (3 : Nat)))), (AV.v (Value.int IntKind.i64 (p (4 : Nat)))), (AV.v (Value.int IntKind.i64 (p (5 : Nat)))), (AV.v (Value.int IntKind.i64 (p (6 : Nat)))), (AV.v (Value.int IntKind.i64 (p (7 : Nat)))), (AV.v (Value.int IntKind.i64 (p (8 : Nat))))])))) ∧ (R Exit.ret [AV.dead, AV.dead, (AV.ptr (1 : Nat) (0 : Nat)), (AV.ptr (2 : Nat) (0 : Nat)), AV.dead, AV.dead, AV.dead, AV.dead, AV.dead, AV.dead, AV.dead, AV.dead, AV.dead, AV.dead, AV.dead, AV.dead, AV.dead, AV.dead, AV.dead, AV.dead, AV.dead, AV.dead, AV.dead, AV.dead, AV.dead, AV.dead, AV.dead, AV.dead, AV.dead, AV.dead] (AH.mk [((31 : Nat), [(AV.v (Value.int IntKind.i64 k)), (AV.v (Value.int IntKind.i64 (q (0 : Nat)))), (AV.v (Value.int IntKind.i64 (q (1 : Nat)))), (AV.v (Value.int IntKind.i64 (q (2 : Nat)))), (AV.v (Value.int IntKind.i64 (q (3 : Nat)))), (AV.v (Value.int IntKind.i64 (q (4 : Nat)))), (AV.v (Value.int IntKind.i64 (q (5 : Nat)))), (AV.v (Value.int IntKind.i64 (a (0 : Nat)))), (AV.v (Value.int IntKind.i64 (a (1 : Nat)))), (AV.v (Value.int IntKind.i64 (a (2 : Nat)))), (AV.v (Value.int IntKind.i64 (a (3 : Nat)))), (AV.v (Value.int IntKind.i64 (a (4 : Nat)))), (AV.v (Value.int IntKind.i64 (a (5 : Nat)))), (AV.v (Value.int IntKind.i64 (a (6 : Nat)))), (AV.v (Value.int IntKind.i64 (p (0 : Nat)))), (AV.v (Value.int IntKind.i64 (p (1 : Nat)))), (AV.v (Value.int IntKind.i64 (p (2 : Nat)))), (AV.v (Value.int IntKind.i64 (p (3 : Nat)))), (AV.v (Value.int IntKind.i64 (p (4 : Nat)))), (AV.v (Value.int IntKind.i64 (p (5 : Nat)))), (AV.v (Value.int IntKind.i64 (p (6 : Nat)))), (AV.v (Value.int IntKind.i64 (p (7 : Nat)))), (AV.v (Value.int IntKind.i64 (p (8 : Nat))))]), ((9 : Nat), [(AV.v (Value.string (ByteArray.mk (Array.mk (@List.nil UInt8)))))]), ((32 : Nat), [(AV.v (Value.int IntKind.i64 (1 : Int)))]), ((31 : Nat), [(AV.v (Value.int IntKind.i64 k)), (AV.v (Value.int IntKind.i64 (q (0 : Nat)))), (AV.v (Value.int IntKind.i64 (q (1 : Nat)))), (AV.v (Value.int IntKind.i64 (q (2 : Nat)))), (AV.v (Value.int IntKind.i64 (q (3 : Nat)))), (AV.v (Value.int IntKind.i64 (q (4 : Nat)))), (AV.v (Value.int IntKind.i64 (q (5 : Nat)))), (AV.v (Value.int IntKind.i64 (a (0 : Nat)))), (AV.v (Value.int IntKind.i64 (a (1 : Nat)))), (AV.v (Value.int IntKind.i64 (a (2 : Nat)))), (AV.v (Value.int IntKind.i64 (a (3 : Nat)))), (AV.v (Value.int IntKind.i64 (a (4 : Nat)))), (AV.v (Value.int IntKind.i64 (a (5 : Nat)))), (AV.v (Value.int IntKind.i64 (a (6 : Nat)))), (AV.v (Value.int IntKind.i64 (p (0 : Nat)))), (AV.v (Value.int IntKind.i64 (p (1 : Nat)))), (AV.v (Value.int IntKind.i64 (p (2 : Nat)))), (AV.v (Value.int IntKind.i64 (p (3 : Nat)))), (AV.v (Value.int IntKind.i64 (p (4 : Nat)))), (AV.v (Value.int IntKind.i64 (p (5 : Nat)))), (AV.v (Value.int IntKind.i64 (p (6 : Nat)))), (AV.v (Value.int IntKind.i64 (p (7 : Nat)))), (AV.v (Value.int IntKind.i64 (p (8 : Nat))))]), ((60 : Nat), [(AV.v (Value.int IntKind.i64 (0 : Int))), (AV.v (Value.int IntKind.i64 (0 : Int))), (AV.v (Value.int IntKind.i64 (0 : Int))), (AV.v (Value.int IntKind.i64 (0 : Int))), (AV.v (Value.int IntKind.i64 (0 : Int))), (AV.v (Value.int IntKind.i64 (0 : Int)))]), ((63 : Nat), [(AV.v (Value.int IntKind.i64 (0 : Int))), (AV.v (Value.int IntKind.i64 (0 : Int))), (AV.v (Value.int IntKind.i64 (0 : Int))), (AV.v (Value.int IntKind.i64 (0 : Int))), (AV.v (Value.int IntKind.i64 (0 : Int))), (AV.v (Value.int IntKind.i64 (0 : Int))), (AV.v (Value.int IntKind.i64 (0 : Int)))]), ((66 : Nat), [(AV.v (Value.int IntKind.i64 (p (0 : Nat)))), (AV.v (Value.int IntKind.i64 (p (1 : Nat)))), (AV.v (Value.int IntKind.i64 (p (2 : Nat)))), (AV.v (Value.int IntKind.i64 (p (3 : Nat)))), (AV.v (Value.int IntKind.i64 (p (4 : Nat)))), (AV.v (Value.int IntKind.i64 (p (5 : Nat)))), (AV.v (Value.int IntKind.i64 (p (6 : Nat)))), (AV.v (Value.int IntKind.i64 (p (7 : Nat)))), (AV.v (Value.int IntKind.i64 (p (8 : Nat))))]), ((66 : Nat), [(AV.v (Value.int IntKind.i64 (p (0 : Nat)))), (AV.v (Value.int IntKind.i64 (p (1 : Nat)))), (AV.v (Value.int IntKind.i64 (p (2 : Nat)))), (AV.v (Value.int IntKind.i64 (p (3 : Nat)))), (AV.v (Value.int IntKind.i64 (p (4 : Nat)))), (AV.v (Value.int IntKind.i64 (p (5 : Nat)))), (AV.v (Value.int IntKind.i64 (p (6 : Nat)))), (AV.v (Value.int IntKind.i64 (p (7 : Nat)))), (AV.v (Value.int IntKind.i64 (p (8 : Nat))))]), ((31 : Nat), [(AV.v (Value.int IntKind.i64 (3 : Int))), (AV.v (Value.int IntKind.i64 (0 : Int))), (AV.v (Value.int IntKind.i64 (0 : Int))), (AV.v (Value.int IntKind.i64 (0 : Int))), (AV.v (Value.int IntKind.i64 (0 : Int))), (AV.v (Value.int IntKind.i64 (0 : Int))), (AV.v (Value.int IntKind.i64 (0 : Int))), (AV.v (Value.int IntKind.i64 (0 : Int))), (AV.v (Value.int IntKind.i64 (0 : Int))), (AV.v (Value.int IntKind.i64 (0 : Int))), (AV.v (Value.int IntKind.i64 (0 : Int))), (AV.v (Value.int IntKind.i64 (0 : Int))), (AV.v (Value.int IntKind.i64 (0 : Int))), (AV.v (Value.int IntKind.i64 (0 : Int))), (AV.v (Value.int IntKind.i64 (p (0 : Nat)))), (AV.v (Value.int IntKind.i64 (p (1 : Nat)))), (AV.v (Value.int IntKind.i64 (p (2 : Nat)))), (AV.v (Value.int IntKind.i64 (p (3 : Nat)))), (AV.v (Value.int IntKind.i64 (p (4 : Nat)))), (AV.v (Value.int IntKind.i64 (p (5 : Nat)))), (AV.v (Value.int IntKind.i64 (p (6 : Nat)))), (AV.v (Value.int IntKind.i64 (p (7 : Nat)))), (AV.v (Value.int IntKind.i64 (p (8 : Nat))))])] (@List.nil Nat) (0 : Nat) (0 : Nat) true (@List.nil (Prod Nat Bool)) True)))) else (some ((True ∧ ((some ((31 : Nat), [(AV.v (Value.int IntKind.i64 k)), (AV.v (Value.int IntKind.i64 (q (0 : Nat)))), (AV.v (Value.int IntKind.i64 (q (1 : Nat)))), (AV.v (Value.int IntKind.i64 (q (2 : Nat)))), (AV.v (Value.int IntKind.i64 (q (3 : Nat)))), (AV.v (Value.int IntKind.i64 (q (4 : Nat)))), (AV.v (Value.int IntKind.i64 (q (5 : Nat)))), (AV.v (Value.int IntKind.i64 (a (0 : Nat)))), (AV.v (Value.int IntKind.i64 (a (1 : Nat)))), (AV.v (Value.int IntKind.i64 (a (2 : Nat)))), (AV.v (Value.int IntKind.i64 (a (3 : Nat)))), (AV.v (Value.int IntKind.i64 (a (4 : Nat)))), (AV.v (Value.int IntKind.i64 (a (5 : Nat)))), (AV.v (Value.int IntKind.i64 (a (6 : Nat)))), (AV.v (Value.int IntKind.i64 (p (0 : Nat)))), (AV.v (Value.int IntKind.i64 (p (1 : Nat)))), (AV.v (Value.int IntKind.i64 (p (2 : Nat)))), (AV.v (Value.int IntKind.i64 (p (3 : Nat)))), (AV.v (Value.int IntKind.i64 (p (4 : Nat)))), (AV.v (Value.int IntKind.i64 (p (5 : Nat)))), (AV.v (Value.int IntKind.i64 (p (6 : Nat)))), (AV.v (Value.int IntKind.i64 (p (7 : Nat)))), (AV.v (Value.int IntKind.i64 (p (8 : Nat))))])) = (some ((31 : Nat), [(AV.v (Value.int IntKind.i64 k)), (AV.v (Value.int IntKind.i64 (q (0 : Nat)))), (AV.v (Value.int IntKind.i64 (q (1 : Nat)))), (AV.v (Value.int IntKind.i64 (q (2 : Nat)))), (AV.v (Value.int IntKind.i64 (q (3 : Nat)))), (AV.v (Value.int IntKind.i64 (q (4 : Nat)))), (AV.v (Value.int IntKind.i64 (q (5 : Nat)))), (AV.v (Value.int IntKind.i64 (a (0 : Nat)))), (AV.v (Value.int IntKind.i64 (a (1 : Nat)))), (AV.v (Value.int IntKind.i64 (a (2 : Nat)))), (AV.v (Value.int IntKind.i64 (a (3 : Nat)))), (AV.v (Value.int IntKind.i64 (a (4 : Nat)))), (AV.v (Value.int IntKind.i64 (a (5 : Nat)))), (AV.v (Value.int IntKind.i64 (a (6 : Nat)))), (AV.v (Value.int IntKind.i64 (p (0 : Nat)))), (AV.v (Value.int IntKind.i64 (p (1 : Nat)))), (AV.v (Value.int IntKind.i64 (p (2 : Nat)))), (AV.v (Value.int IntKind.i64 (p (3 : Nat)))), (AV.v (Value.int IntKind.i64 (p (4 : Nat)))), (AV.v (Value.int IntKind.i64 (p (5 : Nat)))), (AV.v (Value.int IntKind.i64 (p (6 : Nat)))), (AV.v (Value.int IntKind.i64 (p (7 : Nat)))), (AV.v (Value.int IntKind.i64 (p (8 : Nat))))])))) ∧ (R Exit.ret [AV.dead, AV.dead, (AV.ptr (1 : Nat) (0 : Nat)), (AV.ptr (2 : Nat) (0 : Nat)), AV.dead, AV.dead, AV.dead, AV.dead, AV.dead, AV.dead, AV.dead, AV.dead, AV.dead, AV.dead, AV.dead, AV.dead, AV.dead, AV.dead, AV.dead, AV.dead, AV.dead, AV.dead, AV.dead, AV.dead, AV.dead, AV.dead, AV.dead, AV.dead, AV.dead, AV.dead] (AH.mk [((31 : Nat), [(AV.v (Value.int IntKind.i64 k)), (AV.v (Value.int IntKind.i64 (q (0 : Nat)))), (AV.v (Value.int IntKind.i64 (q (1 : Nat)))), (AV.v (Value.int IntKind.i64 (q (2 : Nat)))), (AV.v (Value.int IntKind.i64 (q (3 : Nat)))), (AV.v (Value.int IntKind.i64 (q (4 : Nat)))), (AV.v (Value.int IntKind.i64 (q (5 : Nat)))), (AV.v (Value.int IntKind.i64 (a (0 : Nat)))), (AV.v (Value.int IntKind.i64 (a (1 : Nat)))), (AV.v (Value.int IntKind.i64 (a (2 : Nat)))), (AV.v (Value.int IntKind.i64 (a (3 : Nat)))), (AV.v (Value.int IntKind.i64 (a (4 : Nat)))), (AV.v (Value.int IntKind.i64 (a (5 : Nat)))), (AV.v (Value.int IntKind.i64 (a (6 : Nat)))), (AV.v (Value.int IntKind.i64 (p (0 : Nat)))), (AV.v (Value.int IntKind.i64 (p (1 : Nat)))), (AV.v (Value.int IntKind.i64 (p (2 : Nat)))), (AV.v (Value.int IntKind.i64 (p (3 : Nat)))), (AV.v (Value.int IntKind.i64 (p (4 : Nat)))), (AV.v (Value.int IntKind.i64 (p (5 : Nat)))), (AV.v (Value.int IntKind.i64 (p (6 : Nat)))), (AV.v (Value.int IntKind.i64 (p (7 : Nat)))), (AV.v (Value.int IntKind.i64 (p (8 : Nat))))]), ((9 : Nat), [(AV.v (Value.string ((S).7 (3 : Int) ((S).5 (P26.nine [(p (0 : Nat)), (p (1 : Nat)), (p (2 : Nat)), (p (3 : Nat)), (p (4 : Nat)), (p (5 : Nat)), (p (6 : Nat)), (p (7 : Nat)), (p (8 : Nat))])))))]), ((32 : Nat), [(AV.v (Value.int IntKind.i64 ((S).8 (3 : Int) ((S).5 (P26.nine [(p (0 : Nat)), (p (1 : Nat)), (p (2 : Nat)), (p (3 : Nat)), (p (4 : Nat)), (p (5 : Nat)), (p (6 : Nat)), (p (7 : Nat)), (p (8 : Nat))])))))]), ((31 : Nat), [(AV.v (Value.int IntKind.i64 k)), (AV.v (Value.int IntKind.i64 (q (0 : Nat)))), (AV.v (Value.int IntKind.i64 (q (1 : Nat)))), (AV.v (Value.int IntKind.i64 (q (2 : Nat)))), (AV.v (Value.int IntKind.i64 (q (3 : Nat)))), (AV.v (Value.int IntKind.i64 (q (4 : Nat)))), (AV.v (Value.int IntKind.i64 (q (5 : Nat)))), (AV.v (Value.int IntKind.i64 (a (0 : Nat)))), (AV.v (Value.int IntKind.i64 (a (1 : Nat)))), (AV.v (Value.int IntKind.i64 (a (2 : Nat)))), (AV.v (Value.int IntKind.i64 (a (3 : Nat)))), (AV.v (Value.int IntKind.i64 (a (4 : Nat)))), (AV.v (Value.int IntKind.i64 (a (5 : Nat)))), (AV.v (Value.int IntKind.i64 (a (6 : Nat)))), (AV.v (Value.int IntKind.i64 (p (0 : Nat)))), (AV.v (Value.int IntKind.i64 (p (1 : Nat)))), (AV.v (Value.int IntKind.i64 (p (2 : Nat)))), (AV.v (Value.int IntKind.i64 (p (3 : Nat)))), (AV.v (Value.int IntKind.i64 (p (4 : Nat)))), (AV.v (Value.int IntKind.i64 (p (5 : Nat)))), (AV.v (Value.int IntKind.i64 (p (6 : Nat)))), (AV.v (Value.int IntKind.i64 (p (7 : Nat)))), (AV.v (Value.int IntKind.i64 (p (8 : Nat))))]), ((60 : Nat), [(AV.v (Value.int IntKind.i64 (0 : Int))), (AV.v (Value.int IntKind.i64 (0 : Int))), (AV.v (Value.int IntKind.i64 (0 : Int))), (AV.v (Value.int IntKind.i64 (0 : Int))), (AV.v (Value.int IntKind.i64 (0 : Int))), (AV.v (Value.int IntKind.i64 (0 : Int)))]), ((63 : Nat), [(AV.v (Value.int IntKind.i64 (0 : Int))), (AV.v (Value.int IntKind.i64 (0 : Int))), (AV.v (Value.int IntKind.i64 (0 : Int))), (AV.v (Value.int IntKind.i64 (0 : Int))), (AV.v (Value.int IntKind.i64 (0 : Int))), (AV.v (Value.int IntKind.i64 (0 : Int))), (AV.v (Value.int IntKind.i64 (0 : Int)))]), ((66 : Nat), [(AV.v (Value.int IntKind.i64 (p (0 : Nat)))), (AV.v (Value.int IntKind.i64 (p (1 : Nat)))), (AV.v (Value.int IntKind.i64 (p (2 : Nat)))), (AV.v (Value.int IntKind.i64 (p (3 : Nat)))), (AV.v (Value.int IntKind.i64 (p (4 : Nat)))), (AV.v (Value.int IntKind.i64 (p (5 : Nat)))), (AV.v (Value.int IntKind.i64 (p (6 : Nat)))), (AV.v (Value.int IntKind.i64 (p (7 : Nat)))), (AV.v (Value.int IntKind.i64 (p (8 : Nat))))]), ((66 : Nat), [(AV.v (Value.int IntKind.i64 (p (0 : Nat)))), (AV.v (Value.int IntKind.i64 (p (1 : Nat)))), (AV.v (Value.int IntKind.i64 (p (2 : Nat)))), (AV.v (Value.int IntKind.i64 (p (3 : Nat)))), (AV.v (Value.int IntKind.i64 (p (4 : Nat)))), (AV.v (Value.int IntKind.i64 (p (5 : Nat)))), (AV.v (Value.int IntKind.i64 (p (6 : Nat)))), (AV.v (Value.int IntKind.i64 (p (7 : Nat)))), (AV.v (Value.int IntKind.i64 (p (8 : Nat))))]), ((31 : Nat), [(AV.v (Value.int IntKind.i64 (3 : Int))), (AV.v (Value.int IntKind.i64 (0 : Int))), (AV.v (Value.int IntKind.i64 (0 : Int))), (AV.v (Value.int IntKind.i64 (0 : Int))), (AV.v (Value.int IntKind.i64 (0 : Int))), (AV.v (Value.int IntKind.i64 (0 : Int))), (AV.v (Value.int IntKind.i64 (0 : Int))), (AV.v (Value.int IntKind.i64 (0 : Int))), (AV.v (Value.int IntKind.i64 (0 : Int))), (AV.v (Value.int IntKind.i64 (0 : Int))), (AV.v (Value.int IntKind.i64 (0 : Int))), (AV.v (Value.int IntKind.i64 (0 : Int))), (AV.v (Value.int IntKind.i64 (0 : Int))), (AV.v (Value.int IntKind.i64 (0 : Int))), (AV.v (Value.int IntKind.i64 (p (0 : Nat)))), (AV.v (Value.int IntKind.i64 (p (1 : Nat)))), (AV.v (Value.int IntKind.i64 (p (2 : Nat)))), (AV.v (Value.int IntKind.i64 (p (3 : Nat)))), (AV.v (Value.int IntKind.i64 (p (4 : Nat)))), (AV.v (Value.int IntKind.i64 (p (5 : Nat)))), (AV.v (Value.int IntKind.i64 (p (6 : Nat)))), (AV.v (Value.int IntKind.i64 (p (7 : Nat)))), (AV.v (Value.int IntKind.i64 (p (8 : Nat))))])] (@List.nil Nat) (0 : Nat) (0 : Nat) true (@List.nil (Prod Nat Bool)) True)))))) else none))) := by kernel_rfl
end Go.Proofs.YtlonpmcgejdkkaaGreatDoor.AE
namespace Go.Proofs.YtlonpmcgejdkkaaGreatDoor.AE
set_option maxRecDepth 100000
open Go.RowKit
theorem e_r0  : recG Tryz.prog (sub (bodyOf 19) [0]) ([.ptr 1 0, .ptr 2 0] ++ List.replicate 2 (.v undef)) .nilIface =
    (some [(AV.ptr (1 : Nat) (0 : Nat)), (AV.ptr (2 : Nat) (0 : Nat)), (AV.v Value.nilIface), (AV.v (Value.bool false))]) := by kernel_rfl
theorem e_r1 (T : TypeId) (b : Nat) : recG Tryz.prog (sub (bodyOf 19) [0]) ([.ptr 1 0, .ptr 2 0] ++ List.replicate 2 (.v undef)) (.iface T (.pointer (some ⟨b, 0, none⟩))) =
    (some [(AV.ptr (1 : Nat) (0 : Nat)), (AV.ptr (2 : Nat) (0 : Nat)), (AV.v (Value.iface T (Value.pointer (some (Go.Addr.mk b (0 : Nat) none))))), (AV.v (Value.bool true))]) := by kernel_rfl
theorem e_t0 (w : Value) (fr : List AV) (x : ByteArray) (e : Int) (more : List (TypeId × List AV)) (R : Exit → List AV → AH → Prop) : code roF (fun _ => false) (fun _ => none) 8 (sub (bodyOf 19) [1]) [.ptr 1 0, .ptr 2 0, .v w, .v (.bool false)] (hp ((31, fr) :: (9, [.v (.string x)]) :: (32, [.v (.int .i64 e)]) :: more) []) (kp [] R) =
    (some (True ∧ (R Exit.normal [AV.dead, AV.dead, AV.dead, AV.dead] (AH.mk (((31 : Nat), fr) :: ((9 : Nat), [(AV.v (Value.string x))]) :: ((32 : Nat), [(AV.v (Value.int IntKind.i64 e))]) :: more) (@List.nil Nat) (0 : Nat) (0 : Nat) true (@List.nil (Prod Nat Bool)) True)))) := by kernel_rfl
theorem e_t1 (w : Value) (fr : List AV) (x : ByteArray) (e : Int) (more : List (TypeId × List AV)) (R : Exit → List AV → AH → Prop) : code roF (fun _ => false) (fun _ => none) 8 (sub (bodyOf 19) [1]) [.ptr 1 0, .ptr 2 0, .v w, .v (.bool true)] (hp ((31, fr) :: (9, [.v (.string x)]) :: (32, [.v (.int .i64 e)]) :: more) []) (kp [] R) =
    (some (True ∧ (R Exit.normal [AV.dead, AV.dead, AV.dead, AV.dead] (AH.mk (((31 : Nat), fr) :: ((9 : Nat), [(AV.v (Value.string (ByteArray.mk (Array.mk (@List.nil UInt8)))))]) :: ((32 : Nat), [(AV.v (Value.int IntKind.i64 (5 : Int)))]) :: more) (@List.nil Nat) (0 : Nat) (0 : Nat) true (@List.nil (Prod Nat Bool)) True)))) := by kernel_rfl
theorem k_pre (R : Exit → List AV → AH → Prop) : codeL nro (fun _ => false) (fun _ => none) 8 ((flatten (bodyOf 21)).take 7) ([.v .nilIface] ++ List.replicate 20 (.v undef)) (hp [] []) (kp [0] R) =
    (some (True ∧ (R Exit.normal [(AV.v Value.nilIface), AV.dead, AV.dead, AV.dead, AV.dead, AV.dead, AV.dead, AV.dead, AV.dead, AV.dead, AV.dead, AV.dead, AV.dead, AV.dead, AV.dead, AV.dead, AV.dead, AV.dead, AV.dead, AV.dead, AV.dead] (AH.mk [((60 : Nat), [(AV.v (Value.int IntKind.i64 (0 : Int))), (AV.v (Value.int IntKind.i64 (0 : Int))), (AV.v (Value.int IntKind.i64 (0 : Int))), (AV.v (Value.int IntKind.i64 (0 : Int))), (AV.v (Value.int IntKind.i64 (0 : Int))), (AV.v (Value.int IntKind.i64 (0 : Int)))]), ((63 : Nat), [(AV.v (Value.int IntKind.i64 (0 : Int))), (AV.v (Value.int IntKind.i64 (0 : Int))), (AV.v (Value.int IntKind.i64 (0 : Int))), (AV.v (Value.int IntKind.i64 (0 : Int))), (AV.v (Value.int IntKind.i64 (0 : Int))), (AV.v (Value.int IntKind.i64 (0 : Int))), (AV.v (Value.int IntKind.i64 (0 : Int)))])] (@List.nil Nat) (0 : Nat) (0 : Nat) true (@List.nil (Prod Nat Bool)) True)))) := by kernel_rfl
theorem e_z (k : Int) (q a p : Nat → Int) (R : Exit → List AV → AH → Prop) : code roF (fun _ => false) (fun _ => none) 10 (sub (bodyOf 5) [1, 1, 0]) eA (eH k q a p) (kp [1, 2, 3, 4] R) =
    (bif (k == (1 : Int)) then (some (True ∧ (R Exit.normal [AV.dead, (AV.ptr (0 : Nat) (0 : Nat)), (AV.ptr (1 : Nat) (0 : Nat)), (AV.ptr (2 : Nat) (0 : Nat)), (AV.v (Value.iface (60 : Nat) (Value.agg #[(Value.int IntKind.i64 (q (0 : Nat))), (Value.int IntKind.i64 (q (1 : Nat))), (Value.int IntKind.i64 (q (2 : Nat))), (Value.int IntKind.i64 (q (3 : Nat))), (Value.int IntKind.i64 (q (4 : Nat))), (Value.int IntKind.i64 (q (5 : Nat)))]))), AV.dead, AV.dead, AV.dead, AV.dead, AV.dead, AV.dead, AV.dead, AV.dead, AV.dead, AV.dead, AV.dead, AV.dead, AV.dead, AV.dead, AV.dead, AV.dead, AV.dead, AV.dead, AV.dead, AV.dead, AV.dead, AV.dead, AV.dead, AV.dead, AV.dead] (AH.mk [((31 : Nat), [(AV.v (Value.int IntKind.i64 k)), (AV.v (Value.int IntKind.i64 (q (0 : Nat)))), (AV.v (Value.int IntKind.i64 (q (1 : Nat)))), (AV.v (Value.int IntKind.i64 (q (2 : Nat)))), (AV.v (Value.int IntKind.i64 (q (3 : Nat)))), (AV.v (Value.int IntKind.i64 (q (4 : Nat)))), (AV.v (Value.int IntKind.i64 (q (5 : Nat)))), (AV.v (Value.int IntKind.i64 (a (0 : Nat)))), (AV.v (Value.int IntKind.i64 (a (1 : Nat)))), (AV.v (Value.int IntKind.i64 (a (2 : Nat)))), (AV.v (Value.int IntKind.i64 (a (3 : Nat)))), (AV.v (Value.int IntKind.i64 (a (4 : Nat)))), (AV.v (Value.int IntKind.i64 (a (5 : Nat)))), (AV.v (Value.int IntKind.i64 (a (6 : Nat)))), (AV.v (Value.int IntKind.i64 (p (0 : Nat)))), (AV.v (Value.int IntKind.i64 (p (1 : Nat)))), (AV.v (Value.int IntKind.i64 (p (2 : Nat)))), (AV.v (Value.int IntKind.i64 (p (3 : Nat)))), (AV.v (Value.int IntKind.i64 (p (4 : Nat)))), (AV.v (Value.int IntKind.i64 (p (5 : Nat)))), (AV.v (Value.int IntKind.i64 (p (6 : Nat)))), (AV.v (Value.int IntKind.i64 (p (7 : Nat)))), (AV.v (Value.int IntKind.i64 (p (8 : Nat))))]), ((9 : Nat), [(AV.v (Value.string (ByteArray.mk (Array.mk (@List.nil UInt8)))))]), ((32 : Nat), [(AV.v (Value.int IntKind.i64 (0 : Int)))]), ((31 : Nat), [(AV.v (Value.int IntKind.i64 k)), (AV.v (Value.int IntKind.i64 (q (0 : Nat)))), (AV.v (Value.int IntKind.i64 (q (1 : Nat)))), (AV.v (Value.int IntKind.i64 (q (2 : Nat)))), (AV.v (Value.int IntKind.i64 (q (3 : Nat)))), (AV.v (Value.int IntKind.i64 (q (4 : Nat)))), (AV.v (Value.int IntKind.i64 (q (5 : Nat)))), (AV.v (Value.int IntKind.i64 (a (0 : Nat)))), (AV.v (Value.int IntKind.i64 (a (1 : Nat)))), (AV.v (Value.int IntKind.i64 (a (2 : Nat)))), (AV.v (Value.int IntKind.i64 (a (3 : Nat)))), (AV.v (Value.int IntKind.i64 (a (4 : Nat)))), (AV.v (Value.int IntKind.i64 (a (5 : Nat)))), (AV.v (Value.int IntKind.i64 (a (6 : Nat)))), (AV.v (Value.int IntKind.i64 (p (0 : Nat)))), (AV.v (Value.int IntKind.i64 (p (1 : Nat)))), (AV.v (Value.int IntKind.i64 (p (2 : Nat)))), (AV.v (Value.int IntKind.i64 (p (3 : Nat)))), (AV.v (Value.int IntKind.i64 (p (4 : Nat)))), (AV.v (Value.int IntKind.i64 (p (5 : Nat)))), (AV.v (Value.int IntKind.i64 (p (6 : Nat)))), (AV.v (Value.int IntKind.i64 (p (7 : Nat)))), (AV.v (Value.int IntKind.i64 (p (8 : Nat))))])] (@List.nil Nat) (0 : Nat) (0 : Nat) true (@List.nil (Prod Nat Bool)) True)))) else (bif (k == (2 : Int)) then (some (True ∧ (R Exit.normal [AV.dead, (AV.ptr (0 : Nat) (0 : Nat)), (AV.ptr (1 : Nat) (0 : Nat)), (AV.ptr (2 : Nat) (0 : Nat)), (AV.v (Value.iface (63 : Nat) (Value.agg #[(Value.int IntKind.i64 (a (0 : Nat))), (Value.int IntKind.i64 (a (1 : Nat))), (Value.int IntKind.i64 (a (2 : Nat))), (Value.int IntKind.i64 (a (3 : Nat))), (Value.int IntKind.i64 (a (4 : Nat))), (Value.int IntKind.i64 (a (5 : Nat))), (Value.int IntKind.i64 (a (6 : Nat)))]))), AV.dead, AV.dead, AV.dead, AV.dead, AV.dead, AV.dead, AV.dead, AV.dead, AV.dead, AV.dead, AV.dead, AV.dead, AV.dead, AV.dead, AV.dead, AV.dead, AV.dead, AV.dead, AV.dead, AV.dead, AV.dead, AV.dead, AV.dead, AV.dead, AV.dead] (AH.mk [((31 : Nat), [(AV.v (Value.int IntKind.i64 k)), (AV.v (Value.int IntKind.i64 (q (0 : Nat)))), (AV.v (Value.int IntKind.i64 (q (1 : Nat)))), (AV.v (Value.int IntKind.i64 (q (2 : Nat)))), (AV.v (Value.int IntKind.i64 (q (3 : Nat)))), (AV.v (Value.int IntKind.i64 (q (4 : Nat)))), (AV.v (Value.int IntKind.i64 (q (5 : Nat)))), (AV.v (Value.int IntKind.i64 (a (0 : Nat)))), (AV.v (Value.int IntKind.i64 (a (1 : Nat)))), (AV.v (Value.int IntKind.i64 (a (2 : Nat)))), (AV.v (Value.int IntKind.i64 (a (3 : Nat)))), (AV.v (Value.int IntKind.i64 (a (4 : Nat)))), (AV.v (Value.int IntKind.i64 (a (5 : Nat)))), (AV.v (Value.int IntKind.i64 (a (6 : Nat)))), (AV.v (Value.int IntKind.i64 (p (0 : Nat)))), (AV.v (Value.int IntKind.i64 (p (1 : Nat)))), (AV.v (Value.int IntKind.i64 (p (2 : Nat)))), (AV.v (Value.int IntKind.i64 (p (3 : Nat)))), (AV.v (Value.int IntKind.i64 (p (4 : Nat)))), (AV.v (Value.int IntKind.i64 (p (5 : Nat)))), (AV.v (Value.int IntKind.i64 (p (6 : Nat)))), (AV.v (Value.int IntKind.i64 (p (7 : Nat)))), (AV.v (Value.int IntKind.i64 (p (8 : Nat))))]), ((9 : Nat), [(AV.v (Value.string (ByteArray.mk (Array.mk (@List.nil UInt8)))))]), ((32 : Nat), [(AV.v (Value.int IntKind.i64 (0 : Int)))]), ((31 : Nat), [(AV.v (Value.int IntKind.i64 k)), (AV.v (Value.int IntKind.i64 (q (0 : Nat)))), (AV.v (Value.int IntKind.i64 (q (1 : Nat)))), (AV.v (Value.int IntKind.i64 (q (2 : Nat)))), (AV.v (Value.int IntKind.i64 (q (3 : Nat)))), (AV.v (Value.int IntKind.i64 (q (4 : Nat)))), (AV.v (Value.int IntKind.i64 (q (5 : Nat)))), (AV.v (Value.int IntKind.i64 (a (0 : Nat)))), (AV.v (Value.int IntKind.i64 (a (1 : Nat)))), (AV.v (Value.int IntKind.i64 (a (2 : Nat)))), (AV.v (Value.int IntKind.i64 (a (3 : Nat)))), (AV.v (Value.int IntKind.i64 (a (4 : Nat)))), (AV.v (Value.int IntKind.i64 (a (5 : Nat)))), (AV.v (Value.int IntKind.i64 (a (6 : Nat)))), (AV.v (Value.int IntKind.i64 (p (0 : Nat)))), (AV.v (Value.int IntKind.i64 (p (1 : Nat)))), (AV.v (Value.int IntKind.i64 (p (2 : Nat)))), (AV.v (Value.int IntKind.i64 (p (3 : Nat)))), (AV.v (Value.int IntKind.i64 (p (4 : Nat)))), (AV.v (Value.int IntKind.i64 (p (5 : Nat)))), (AV.v (Value.int IntKind.i64 (p (6 : Nat)))), (AV.v (Value.int IntKind.i64 (p (7 : Nat)))), (AV.v (Value.int IntKind.i64 (p (8 : Nat))))])] (@List.nil Nat) (0 : Nat) (0 : Nat) true (@List.nil (Prod Nat Bool)) True)))) else (bif (k == (3 : Int)) then (some (True ∧ (R Exit.normal [AV.dead, (AV.ptr (0 : Nat) (0 : Nat)), (AV.ptr (1 : Nat) (0 : Nat)), (AV.ptr (2 : Nat) (0 : Nat)), (AV.v (Value.iface (66 : Nat) (Value.agg #[(Value.int IntKind.i64 (p (0 : Nat))), (Value.int IntKind.i64 (p (1 : Nat))), (Value.int IntKind.i64 (p (2 : Nat))), (Value.int IntKind.i64 (p (3 : Nat))), (Value.int IntKind.i64 (p (4 : Nat))), (Value.int IntKind.i64 (p (5 : Nat))), (Value.int IntKind.i64 (p (6 : Nat))), (Value.int IntKind.i64 (p (7 : Nat))), (Value.int IntKind.i64 (p (8 : Nat)))]))), AV.dead, AV.dead, AV.dead, AV.dead, AV.dead, AV.dead, AV.dead, AV.dead, AV.dead, AV.dead, AV.dead, AV.dead, AV.dead, AV.dead, AV.dead, AV.dead, AV.dead, AV.dead, AV.dead, AV.dead, AV.dead, AV.dead, AV.dead, AV.dead, AV.dead] (AH.mk [((31 : Nat), [(AV.v (Value.int IntKind.i64 k)), (AV.v (Value.int IntKind.i64 (q (0 : Nat)))), (AV.v (Value.int IntKind.i64 (q (1 : Nat)))), (AV.v (Value.int IntKind.i64 (q (2 : Nat)))), (AV.v (Value.int IntKind.i64 (q (3 : Nat)))), (AV.v (Value.int IntKind.i64 (q (4 : Nat)))), (AV.v (Value.int IntKind.i64 (q (5 : Nat)))), (AV.v (Value.int IntKind.i64 (a (0 : Nat)))), (AV.v (Value.int IntKind.i64 (a (1 : Nat)))), (AV.v (Value.int IntKind.i64 (a (2 : Nat)))), (AV.v (Value.int IntKind.i64 (a (3 : Nat)))), (AV.v (Value.int IntKind.i64 (a (4 : Nat)))), (AV.v (Value.int IntKind.i64 (a (5 : Nat)))), (AV.v (Value.int IntKind.i64 (a (6 : Nat)))), (AV.v (Value.int IntKind.i64 (p (0 : Nat)))), (AV.v (Value.int IntKind.i64 (p (1 : Nat)))), (AV.v (Value.int IntKind.i64 (p (2 : Nat)))), (AV.v (Value.int IntKind.i64 (p (3 : Nat)))), (AV.v (Value.int IntKind.i64 (p (4 : Nat)))), (AV.v (Value.int IntKind.i64 (p (5 : Nat)))), (AV.v (Value.int IntKind.i64 (p (6 : Nat)))), (AV.v (Value.int IntKind.i64 (p (7 : Nat)))), (AV.v (Value.int IntKind.i64 (p (8 : Nat))))]), ((9 : Nat), [(AV.v (Value.string (ByteArray.mk (Array.mk (@List.nil UInt8)))))]), ((32 : Nat), [(AV.v (Value.int IntKind.i64 (0 : Int)))]), ((31 : Nat), [(AV.v (Value.int IntKind.i64 k)), (AV.v (Value.int IntKind.i64 (q (0 : Nat)))), (AV.v (Value.int IntKind.i64 (q (1 : Nat)))), (AV.v (Value.int IntKind.i64 (q (2 : Nat)))), (AV.v (Value.int IntKind.i64 (q (3 : Nat)))), (AV.v (Value.int IntKind.i64 (q (4 : Nat)))), (AV.v (Value.int IntKind.i64 (q (5 : Nat)))), (AV.v (Value.int IntKind.i64 (a (0 : Nat)))), (AV.v (Value.int IntKind.i64 (a (1 : Nat)))), (AV.v (Value.int IntKind.i64 (a (2 : Nat)))), (AV.v (Value.int IntKind.i64 (a (3 : Nat)))), (AV.v (Value.int IntKind.i64 (a (4 : Nat)))), (AV.v (Value.int IntKind.i64 (a (5 : Nat)))), (AV.v (Value.int IntKind.i64 (a (6 : Nat)))), (AV.v (Value.int IntKind.i64 (p (0 : Nat)))), (AV.v (Value.int IntKind.i64 (p (1 : Nat)))), (AV.v (Value.int IntKind.i64 (p (2 : Nat)))), (AV.v (Value.int IntKind.i64 (p (3 : Nat)))), (AV.v (Value.int IntKind.i64 (p (4 : Nat)))), (AV.v (Value.int IntKind.i64 (p (5 : Nat)))), (AV.v (Value.int IntKind.i64 (p (6 : Nat)))), (AV.v (Value.int IntKind.i64 (p (7 : Nat)))), (AV.v (Value.int IntKind.i64 (p (8 : Nat))))])] (@List.nil Nat) (0 : Nat) (0 : Nat) true (@List.nil (Prod Nat Bool)) True)))) else (some (True ∧ (R Exit.normal [AV.dead, (AV.ptr (0 : Nat) (0 : Nat)), (AV.ptr (1 : Nat) (0 : Nat)), (AV.ptr (2 : Nat) (0 : Nat)), (AV.v Value.nilIface), AV.dead, AV.dead, AV.dead, AV.dead, AV.dead, AV.dead, AV.dead, AV.dead, AV.dead, AV.dead, AV.dead, AV.dead, AV.dead, AV.dead, AV.dead, AV.dead, AV.dead, AV.dead, AV.dead, AV.dead, AV.dead, AV.dead, AV.dead, AV.dead, AV.dead] (AH.mk [((31 : Nat), [(AV.v (Value.int IntKind.i64 k)), (AV.v (Value.int IntKind.i64 (q (0 : Nat)))), (AV.v (Value.int IntKind.i64 (q (1 : Nat)))), (AV.v (Value.int IntKind.i64 (q (2 : Nat)))), (AV.v (Value.int IntKind.i64 (q (3 : Nat)))), (AV.v (Value.int IntKind.i64 (q (4 : Nat)))), (AV.v (Value.int IntKind.i64 (q (5 : Nat)))), (AV.v (Value.int IntKind.i64 (a (0 : Nat)))), (AV.v (Value.int IntKind.i64 (a (1 : Nat)))), (AV.v (Value.int IntKind.i64 (a (2 : Nat)))), (AV.v (Value.int IntKind.i64 (a (3 : Nat)))), (AV.v (Value.int IntKind.i64 (a (4 : Nat)))), (AV.v (Value.int IntKind.i64 (a (5 : Nat)))), (AV.v (Value.int IntKind.i64 (a (6 : Nat)))), (AV.v (Value.int IntKind.i64 (p (0 : Nat)))), (AV.v (Value.int IntKind.i64 (p (1 : Nat)))), (AV.v (Value.int IntKind.i64 (p (2 : Nat)))), (AV.v (Value.int IntKind.i64 (p (3 : Nat)))), (AV.v (Value.int IntKind.i64 (p (4 : Nat)))), (AV.v (Value.int IntKind.i64 (p (5 : Nat)))), (AV.v (Value.int IntKind.i64 (p (6 : Nat)))), (AV.v (Value.int IntKind.i64 (p (7 : Nat)))), (AV.v (Value.int IntKind.i64 (p (8 : Nat))))]), ((9 : Nat), [(AV.v (Value.string (ByteArray.mk (Array.mk (@List.nil UInt8)))))]), ((32 : Nat), [(AV.v (Value.int IntKind.i64 (0 : Int)))]), ((31 : Nat), [(AV.v (Value.int IntKind.i64 k)), (AV.v (Value.int IntKind.i64 (q (0 : Nat)))), (AV.v (Value.int IntKind.i64 (q (1 : Nat)))), (AV.v (Value.int IntKind.i64 (q (2 : Nat)))), (AV.v (Value.int IntKind.i64 (q (3 : Nat)))), (AV.v (Value.int IntKind.i64 (q (4 : Nat)))), (AV.v (Value.int IntKind.i64 (q (5 : Nat)))), (AV.v (Value.int IntKind.i64 (a (0 : Nat)))), (AV.v (Value.int IntKind.i64 (a (1 : Nat)))), (AV.v (Value.int IntKind.i64 (a (2 : Nat)))), (AV.v (Value.int IntKind.i64 (a (3 : Nat)))), (AV.v (Value.int IntKind.i64 (a (4 : Nat)))), (AV.v (Value.int IntKind.i64 (a (5 : Nat)))), (AV.v (Value.int IntKind.i64 (a (6 : Nat)))), (AV.v (Value.int IntKind.i64 (p (0 : Nat)))), (AV.v (Value.int IntKind.i64 (p (1 : Nat)))), (AV.v (Value.int IntKind.i64 (p (2 : Nat)))), (AV.v (Value.int IntKind.i64 (p (3 : Nat)))), (AV.v (Value.int IntKind.i64 (p (4 : Nat)))), (AV.v (Value.int IntKind.i64 (p (5 : Nat)))), (AV.v (Value.int IntKind.i64 (p (6 : Nat)))), (AV.v (Value.int IntKind.i64 (p (7 : Nat)))), (AV.v (Value.int IntKind.i64 (p (8 : Nat))))])] (@List.nil Nat) (0 : Nat) (0 : Nat) true (@List.nil (Prod Nat Bool)) True))))))) := by kernel_rfl
end Go.Proofs.YtlonpmcgejdkkaaGreatDoor.AE
namespace Go.Proofs.YtlonpmcgejdkkaaGreatDoor.AE
set_option maxRecDepth 100000
open Go.RowKit
/-- A function that panics. -/
theorem Fs.pan {P : Program} {ro : Nat → Option (List Value)} {g : FuncId} {fn : Func} {c : Code} {us : List Value} {V : Value → Prop} (hf : P.funcs[g]? = some fn) (hc : fn.body = some c)
    (h : Tr P ro c (us.map .v ++ List.replicate (fn.ntmps - us.length) (.v undef)) (hp [] []) fun e _ _ => ∃ v, V v ∧ e = panE v) (W : World) (hR : Ro ro (G0 W) W) :
    Calls P g us.toArray W fun e W' => (∃ v, V v ∧ e = .panicked [{ v, recovered := false }]) ∧ Below W.heap.size W W' := by
  refine calls_of_wp hf hc (wp_mono (h (G0 W) W { tmps := us.toArray ++ Array.replicate (fn.ntmps - us.toArray.size) undef, defers := [] } ((inv0 W).same rfl rfl) hR ?_) ?_)
  · simp only [Array.toList_append, Array.toList_replicate]
    refine (RVs.map_v us).app ?_
    rw [show us.toArray.size = us.length from rfl]
    generalize fn.ntmps - us.length = n
    induction n with
    | zero => exact .nil
    | succ n ih => exact .cons (.v _) ih
  · rintro e a W' ⟨act, H2, G', ⟨v, hv, rfl⟩, h2, h3, h4, h5⟩
    exact ⟨h5, ⟨v, hv, rfl⟩, h2.below⟩
/-- A region that begins with a call that panics. -/
theorem Tr.panCall {P : Program} {ro : Nat → Option (List Value)} (hN : Named P) {id : Nat} {o : Oper} {os : List Oper} {g : FuncId} {us : List Value} {act : List AV} {H : AH} {V : Value → Prop} (hg : o.guard = none) (hcl : call? act o = some (g, us.map .v)) (hf : ∃ fn, P.funcs[g]? = some fn ∧ fn.body.isSome = true)
    (h : ∀ W, Ro ro (G0 W) W → Calls P g us.toArray W fun e W' => (∃ v, V v ∧ e = .panicked [{ v, recovered := false }]) ∧ Below W.heap.size W W') :
    Tr P ro (.region id (o :: os).toArray false) act H fun e a h => (∃ v, V v ∧ e = panE v) ∧ a = act ∧ h = H := by
  intro G W a hI hR hA
  refine wp_region_list ?_
  show wpList P _ _ (o :: os) a W
  obtain ⟨cargs, h1, h2⟩ := call_run (W := W) hN hA hcl
  have hu : cargs = us.toArray := by
    have := vals_rel h1 (show vals? (us.map AV.v) = some us by
      clear hcl h h1
      induction us with
      | nil => rfl
      | cons u l ih => simp [vals?, AV.val?, ih])
    rw [← this]
  subst hu
  unfold wpList
  rw [if_pos (by simp [Region.wanted, hg])]
  left
  unfold Oper.wp
  rw [h2 hf]
  refine Calls.mono (h W (ro_lt hR)) ?_
  rintro e W' ⟨⟨v, hv, rfl⟩, hb⟩
  obtain ⟨e1, e2⟩ := hI.below hb
  exact ⟨act, H, G, ⟨⟨v, hv, rfl⟩, rfl, rfl⟩, e1, e2, hA.ext e1, rfl⟩
end Go.Proofs.YtlonpmcgejdkkaaGreatDoor.AE
namespace Go.Proofs.YtlonpmcgejdkkaaGreatDoor.AE
set_option maxRecDepth 100000
open Go.RowKit
def isPan (v : Value) : Prop := ∃ T b, v = .iface T (.pointer (some ⟨b, 0, none⟩))
def opAt (l : List Code) (i : Nat) : Oper := match l with
  | .region _ os _ :: _ => os[i]?.getD default
  | _ => default
def idAt (l : List Code) : Nat := match l with
  | .region id _ _ :: _ => id
  | _ => 0
noncomputable def kL : List Code := (flatten (bodyOf 21)).drop 7
theorem k_flat : kL = .region (idAt kL) #[opAt kL 0, opAt kL 1] false :: kL.drop 1 := by kernel_rfl
theorem k_op0 : (opAt kL 0).op = .move (.tmp 0) := by kernel_rfl
theorem k_d0 : (opAt kL 0).dst = some 19 := by kernel_rfl
theorem k_gd0 : (opAt kL 0).guard = none := by kernel_rfl
theorem k_op : (opAt kL 1).op = .typeAssert (.tmp 19) 51 66 false := by kernel_rfl
theorem k_gd : (opAt kL 1).guard = none := by kernel_rfl
theorem as_run (f : Operand → Value) (o : Oper) (ho : o.op = .typeAssert (.tmp 19) 51 66 false) (hf : f (.tmp 19) = .nilIface) (W : World) : ∃ T obj, (execOp f o).run Tryz.prog W = .halt (.panic (.iface T (.pointer (some ⟨W.heap.size, 0, none⟩)))) (W.alloc obj) := by
  unfold execOp
  rw [ho]
  simp only [hf]
  exact ⟨_, _, rfl⟩
theorem tr_assert {ro : Nat → Option (List Value)} {act : List AV} {H : AH} (h0 : ev act (.tmp 0) = .v .nilIface) (hl : 19 < act.length) : Tr Tryz.prog ro (.region (idAt kL) #[opAt kL 0, opAt kL 1] false) act H fun e _ _ => ∃ v, isPan v ∧ e = panE v := by
  intro G W a hI hR hA
  refine wp_region_list ?_
  show wpList _ _ _ [opAt kL 0, opAt kL 1] a W
  have hr := ev_rel hA (.tmp 0)
  rw [h0] at hr
  have hev : a.eval (.tmp 0) = .nilIface := by
    generalize a.eval (.tmp 0) = u at hr
    cases hr; rfl
  unfold wpList
  rw [if_pos (by simp [Region.wanted, k_gd0])]
  left
  unfold Oper.wp
  rw [show (execOp a.eval (opAt kL 0)).run Tryz.prog W = .ok (.value .nilIface) W by rw [execOp, k_op0]; simp [hev]]
  show wpList _ _ _ [opAt kL 1] (a.put (opAt kL 0).dst .nilIface) W
  have A1 := put_rel hA (opAt kL 0).dst (show RV G W (.v .nilIface) .nilIface from .v _)
  rw [k_d0] at A1 ⊢
  have A2 : RVs G W (act.set 19 (.v .nilIface)) (a.put (some 19) .nilIface).tmps.toList := A1
  have hr2 := ev_rel A2 (.tmp 19)
  have he2 : ev (act.set 19 (.v .nilIface)) (.tmp 19) = .v .nilIface := by
    show (act.set 19 _).getD 19 _ = _
    rw [List.getD_eq_getElem?_getD, List.getElem?_set_self hl]; rfl
  rw [he2] at hr2
  have hev2 : (a.put (some 19) .nilIface).eval (.tmp 19) = .nilIface := by
    generalize (a.put (some 19) .nilIface).eval (.tmp 19) = u at hr2
    cases hr2; rfl
  obtain ⟨T, obj, hrun⟩ := as_run (a.put (some 19) .nilIface).eval (opAt kL 1) k_op hev2 W
  unfold wpList
  rw [if_pos (by simp [Region.wanted, k_gd])]
  left
  unfold Oper.wp
  rw [hrun]
  obtain ⟨e1, e2⟩ := hI.below (Below.alloc (Below.refl W.heap.size W) (Nat.le_refl _) obj)
  exact ⟨_, H, G, ⟨_, ⟨_, _, rfl⟩, rfl⟩, e1, e2, A2.ext e1, put_defers _ _⟩
theorem kind_nil (W : World) : Calls Tryz.prog 21 #[.nilIface] W fun e W' => (∃ v, isPan v ∧ e = .panicked [{ v, recovered := false }]) ∧ Below W.heap.size W W' := by
  refine Fs.pan (us := [.nilIface]) (ro := nro) (c := bodyOf 21) Tryz.func21 (by kernel_rfl) ?_ W (ro_none _ _)
  show Tr Tryz.prog nro (bodyOf 21) ([.v .nilIface] ++ List.replicate 20 (.v undef)) (hp [] []) _
  have hne : (flatten (bodyOf 21)).take 7 ≠ [] := Nm.ne_nil (by kernel_rfl)
  refine Tr.of_flat (Trl.split 7 (Trl.of_code (mu := fun _ => false) (known_none _) hne (k_pre _) ⟨trivial, ?_⟩))
  show Trl Tryz.prog nro kL _ _ _
  rw [k_flat]
  refine Tr.mono (tr_assert rfl (by show 19 < 21; decide)) ?_
  rintro e a h ⟨v, hv, rfl⟩
  exact ⟨v, hv, rfl⟩
end Go.Proofs.YtlonpmcgejdkkaaGreatDoor.AE
namespace Go.Proofs.YtlonpmcgejdkkaaGreatDoor.AE
set_option maxRecDepth 100000
open Go.RowKit
def chkE (S : ES) (k : Int) (q a p : Nat → Int) : Int := if k = 1 then S.qE (Q24.six [q 0, q 1, q 2, q 3, q 4, q 5]) else if k = 2 then S.aE (A25.six [a 0, a 1, a 2, a 3, a 4, a 5, a 6]) else S.pE (P26.nine [p 0, p 1, p 2, p 3, p 4, p 5, p 6, p 7, p 8])
def bodE (S : ES) (k : Int) (q a p : Nat → Int) : ByteArray := if k = 1 then S.qP (Q24.six [q 0, q 1, q 2, q 3, q 4, q 5]) else if k = 2 then S.aP (A25.six [a 0, a 1, a 2, a 3, a 4, a 5, a 6]) else S.pP (P26.nine [p 0, p 1, p 2, p 3, p 4, p 5, p 6, p 7, p 8])
def zer (k : Int) (q a p : Nat → Int) : Prop := (k = 1 ∨ (q 0 = 0 ∧ q 1 = 0 ∧ q 2 = 0 ∧ q 3 = 0 ∧ q 4 = 0 ∧ q 5 = 0)) ∧ (k = 2 ∨ (a 0 = 0 ∧ a 1 = 0 ∧ a 2 = 0 ∧ a 3 = 0 ∧ a 4 = 0 ∧ a 5 = 0 ∧ a 6 = 0)) ∧ (k = 3 ∨ (p 0 = 0 ∧ p 1 = 0 ∧ p 2 = 0 ∧ p 3 = 0 ∧ p 4 = 0 ∧ p 5 = 0 ∧ p 6 = 0 ∧ p 7 = 0 ∧ p 8 = 0))
instance (k : Int) (q a p : Nat → Int) : Decidable (zer k q a p) := by unfold zer; infer_instance
def encE (S : ES) (k : Int) (q a p : Nat → Int) : Int := if ¬ (1 ≤ k ∧ k ≤ 3) then 5 else if chkE S k q a p ≠ 0 ∨ ¬ zer k q a p then 1 else S.hE k (bodE S k q a p)
def encS (S : ES) (k : Int) (q a p : Nat → Int) : ByteArray := if ¬ (1 ≤ k ∧ k ≤ 3) then ⟨#[]⟩ else if chkE S k q a p ≠ 0 ∨ ¬ zer k q a p then ⟨#[]⟩ else S.hP k (bodE S k q a p)
def encV (S : ES) (k : Int) (q a p : Nat → Int) : Value := .tuple #[.string (encS S k q a p), .int .i64 (encE S k q a p)]
def eD : List AV := [.dead, .dead, .ptr 1 0, .ptr 2 0] ++ List.replicate 26 .dead
def eHH (fr : List AV) (x : ByteArray) (e : Int) (more : List (TypeId × List AV)) : AH := hp ((31, fr) :: (9, [.v (.string x)]) :: (32, [.v (.int .i64 e)]) :: more) []
def eP : List AV := List.set (([.dead, .ptr 0 0, .ptr 1 0, .ptr 2 0, .v .nilIface] : List AV) ++ List.replicate 25 AV.dead) 10 (.v .nilIface)
def eEnd (a2 : List AV) (e : Exit) (H2 : AH) (v : AV) : Prop := ∃ rv ar, endV e = some rv ∧ recG Tryz.prog (sub (bodyOf 19) [0]) ([.ptr 1 0, .ptr 2 0] ++ List.replicate 2 (.v undef)) (rv.getD .nilIface) = some ar ∧
  Tr Tryz.prog roF (sub (bodyOf 19) [1]) ar H2 fun e3 _ H3 => (e3 = .normal ∨ e3 = .ret) ∧ ansOk (fun r _ => r = v) (resOf Tryz.prog roF [.cell 2 9, .cell 3 32] a2 H3)
theorem eclo0 (fr : List AV) (x : ByteArray) (e : Int) (more : List (TypeId × List AV)) {v : AV} (hv : AV.v (.tuple #[.string x, .int .i64 e]) = v) : eEnd eD .ret (eHH fr x e more) v := by
  subst hv
  refine ⟨none, _, rfl, e_r0, Tr.keep [0, 1, 2, 3] ?_⟩
  exact Tr.of_code (mu := fun _ => false) (known_none _) (e_t0 .nilIface fr x e more _) ⟨trivial, .inl rfl, trivial, rfl⟩
theorem eclo1 (w : Value) (hw : isPan w) (fr : List AV) (x : ByteArray) (e : Int) (more : List (TypeId × List AV)) {v : AV} (hv : AV.v (.tuple #[.string ⟨#[]⟩, .int .i64 5]) = v) : eEnd eP (panE w) (eHH fr x e more) v := by
  subst hv
  obtain ⟨T, b, rfl⟩ := hw
  refine ⟨some (.iface T (.pointer (some ⟨b, 0, none⟩))), _, rfl, e_r1 T b, Tr.keep [0, 1, 2, 3] ?_⟩
  exact Tr.of_code (mu := fun _ => false) (known_none _) (e_t1 (.iface T (.pointer (some ⟨b, 0, none⟩))) fr x e more _) ⟨trivial, .inl rfl, trivial, rfl⟩
/-- A region that names a value and calls with it a function that panics. -/
theorem Tr.panCall3 {P : Program} {ro : Nat → Option (List Value)} (hN : Named P) {c : Code} {id i j : Nat} {o1 o2 o3 : Oper} {g : FuncId} {u : Value} {act : List AV} {H : AH} {V : Value → Prop} (hc : c = .region id #[o1, o2, o3] false) (p1 : o1.op = .move (.tmp i)) (d1 : o1.dst = some j) (g1 : o1.guard = none) (g2 : o2.guard = none)
    (hcl : ∀ act, call? act o2 = some (g, [ev act (.tmp j)])) (hi : ev act (.tmp i) = .v u) (hj : j < act.length) (hf : ∃ fn, P.funcs[g]? = some fn ∧ fn.body.isSome = true)
    (h : ∀ W, Calls P g #[u] W fun e W' => (∃ v, V v ∧ e = .panicked [{ v, recovered := false }]) ∧ Below W.heap.size W W') :
    Tr P ro c act H fun e a h => (∃ v, V v ∧ e = panE v) ∧ a = act.set j (.v u) ∧ h = H := by
  subst hc
  intro G W a hI hR hA
  refine wp_region_list ?_
  show wpList P _ _ [o1, o2, o3] a W
  have hr := ev_rel hA (.tmp i)
  rw [hi] at hr
  have hev : a.eval (.tmp i) = u := by
    generalize a.eval (.tmp i) = x at hr
    cases hr; rfl
  unfold wpList
  rw [if_pos (by simp [Region.wanted, g1])]
  left
  unfold Oper.wp
  rw [show (execOp a.eval o1).run P W = .ok (.value u) W by rw [execOp, p1]; simp [hev]]
  show wpList P _ _ [o2, o3] (a.put o1.dst u) W
  have A1 := put_rel hA o1.dst (show RV G W (.v u) u from .v _)
  rw [d1] at A1 ⊢
  have A2 : RVs G W (act.set j (.v u)) (a.put (some j) u).tmps.toList := A1
  have he : ev (act.set j (.v u)) (.tmp j) = .v u := by
    show (act.set j _).getD j _ = _
    rw [List.getD_eq_getElem?_getD, List.getElem?_set_self hj]; rfl
  have hc2 := hcl (act.set j (.v u))
  rw [he] at hc2
  obtain ⟨cargs, h1, h2⟩ := call_run (W := W) hN A2 hc2
  have hu : cargs = #[u] := by
    have := vals_rel h1 (us := [u]) rfl
    rw [← this]
  subst hu
  unfold wpList
  rw [if_pos (by simp [Region.wanted, g2])]
  left
  unfold Oper.wp
  rw [h2 hf]
  refine Calls.mono (h W) ?_
  rintro e W' ⟨⟨v, hv, rfl⟩, hb⟩
  obtain ⟨e1, e2⟩ := hI.below hb
  exact ⟨_, H, G, ⟨⟨v, hv, rfl⟩, rfl, rfl⟩, e1, e2, A2.ext e1, put_defers _ _⟩
noncomputable def eR : Code := sub (bodyOf 5) [1, 1, 1, 0]
def opC (c : Code) (i : Nat) : Oper := match c with
  | .region _ os _ => os[i]?.getD default
  | _ => default
def idC (c : Code) : Nat := match c with
  | .region id _ _ => id
  | _ => 0
theorem eR_eq : eR = .region (idC eR) #[opC eR 0, opC eR 1, opC eR 2] false := by kernel_rfl
theorem eR_op : (opC eR 0).op = .move (.tmp 4) := by kernel_rfl
theorem eR_d : (opC eR 0).dst = some 10 := by kernel_rfl
theorem eR_g0 : (opC eR 0).guard = none := by kernel_rfl
theorem eR_g1 : (opC eR 1).guard = none := by kernel_rfl
theorem eR_call (act : List AV) : call? act (opC eR 1) = some (21, [ev act (.tmp 10)]) := by kernel_rfl
theorem e_tail : sub (bodyOf 5) [1, 1] = .seq (sub (bodyOf 5) [1, 1, 0]) (.seq eR (sub (bodyOf 5) [1, 1, 1, 1])) := by kernel_rfl
end Go.Proofs.YtlonpmcgejdkkaaGreatDoor.AE
namespace Go.Proofs.YtlonpmcgejdkkaaGreatDoor.AE
set_option maxRecDepth 100000
open Go.RowKit
theorem enc_chk {S : ES} {k : Int} {q a p : Nat → Int} (h0 : 1 ≤ k ∧ k ≤ 3) (h : chkE S k q a p ≠ 0 ∨ ¬ zer k q a p) : AV.v (.tuple #[.string ⟨#[]⟩, .int .i64 1]) = .v (encV S k q a p) := by
  unfold encV encS encE
  rw [if_neg (not_not_intro h0), if_pos h, if_neg (not_not_intro h0), if_pos h]
theorem enc_ok {S : ES} {k : Int} {q a p : Nat → Int} (h0 : 1 ≤ k ∧ k ≤ 3) (h : chkE S k q a p = 0) (hz : zer k q a p) : AV.v (.tuple #[.string (S.hP k (bodE S k q a p)), .int .i64 (S.hE k (bodE S k q a p))]) = .v (encV S k q a p) := by
  have hn : ¬ (chkE S k q a p ≠ 0 ∨ ¬ zer k q a p) := fun h2 => h2.elim (fun x => x h) (fun x => x hz)
  unfold encV encS encE
  rw [if_neg (not_not_intro h0), if_neg hn, if_neg (not_not_intro h0), if_neg hn]
theorem enc_kind {S : ES} {k : Int} {q a p : Nat → Int} (h0 : ¬ (1 ≤ k ∧ k ≤ 3)) : AV.v (.tuple #[.string ⟨#[]⟩, .int .i64 5]) = .v (encV S k q a p) := by
  unfold encV encS encE
  rw [if_pos h0, if_pos h0]
set_option maxHeartbeats 2000000 in
theorem fs_enc {S : ES} (hS : Known roF (prE S)) (k : Int) (q a p : Nat → Int) : Fs Tryz.prog roF 5 [.v (frV k q a p)] (hp [] []) fun r _ => r = .v (encV S k q a p) := by
  refine Fs.of_defer (x := sub (bodyOf 5) [0]) (d := sub (bodyOf 5) [1, 0]) (y := sub (bodyOf 5) [1, 1]) (h := 19) (cap := [.tmp 2, .tmp 3]) (s := 7) Tryz.func5 (by kernel_rfl) (by kernel_rfl) (z := sub (bodyOf 19) [0]) (t := sub (bodyOf 19) [1]) Tryz.func19 (by kernel_rfl) (by kernel_rfl) (by kernel_rfl) ?_
  show Tr _ _ _ ([.v (frV k q a p)] ++ List.replicate 29 (.v undef)) _ _
  refine Tr.of_code (mu := fun _ => false) (known_none _) (e_x k q a p _) ⟨trivial, rfl, (by show 7 < 30; decide), Tr.keep [1, 2, 3, 7] ?_⟩
  show Tr _ _ _ eA (eH k q a p) (fun e2 a2 H2 => eEnd a2 e2 H2 (AV.v (encV S k q a p)))
  by_cases hk : k = 1 ∨ k = 2 ∨ k = 3
  · have h0 : 1 ≤ k ∧ k ≤ 3 := by omega
    have chk1 : k = 1 → chkE S k q a p = S.qE (Q24.six [q 0, q 1, q 2, q 3, q 4, q 5]) := fun h => by unfold chkE; rw [if_pos h]
    have chk2 : k = 2 → chkE S k q a p = S.aE (A25.six [a 0, a 1, a 2, a 3, a 4, a 5, a 6]) := fun h => by unfold chkE; rw [if_neg (by omega), if_pos h]
    have chk3 : k = 3 → chkE S k q a p = S.pE (P26.nine [p 0, p 1, p 2, p 3, p 4, p 5, p 6, p 7, p 8]) := fun h => by unfold chkE; rw [if_neg (by omega), if_neg (by omega)]
    have bod1 : k = 1 → bodE S k q a p = S.qP (Q24.six [q 0, q 1, q 2, q 3, q 4, q 5]) := fun h => by unfold bodE; rw [if_pos h]
    have bod2 : k = 2 → bodE S k q a p = S.aP (A25.six [a 0, a 1, a 2, a 3, a 4, a 5, a 6]) := fun h => by unfold bodE; rw [if_neg (by omega), if_pos h]
    have bod3 : k = 3 → bodE S k q a p = S.pP (P26.nine [p 0, p 1, p 2, p 3, p 4, p 5, p 6, p 7, p 8]) := fun h => by unfold bodE; rw [if_neg (by omega), if_neg (by omega)]
    refine Tr.of_code hS (e_y S k q a p _) ?_
    refine holds_bif (fun h1 => ?_) fun h1 => holds_bif (fun h2 => ?_) fun h2 => holds_bif (fun h3 => ?_) fun h3 => ?_
    · have h1 := eq_of_beq h1
      refine holds_bif (fun h4 => ⟨trivial, eclo0 _ _ _ _ (enc_chk h0 (.inl (by rw [chk1 h1]; simpa using h4)))⟩) fun h4 => holds_bif (fun h5 => ⟨?_, eclo0 _ _ _ _ (enc_chk h0 (.inr ?_))⟩) fun h5 => ⟨?_, ?_⟩
      · with_reducible exact ⟨trivial, rfl⟩
      · intro hz; subst h1; unfold zer at hz; simp at hz; simp [hz] at h5
      · with_reducible exact ⟨trivial, rfl⟩
      · refine eclo0 _ _ _ _ (Eq.trans ?_ (enc_ok h0 (by rw [chk1 h1]; simpa using h4) ?_))
        · rw [bod1 h1]; subst h1; rfl
        · subst h1; unfold zer; simp at h5; omega
    · have h2 := eq_of_beq h2
      refine holds_bif (fun h4 => ⟨trivial, eclo0 _ _ _ _ (enc_chk h0 (.inl (by rw [chk2 h2]; simpa using h4)))⟩) fun h4 => holds_bif (fun h5 => ⟨?_, eclo0 _ _ _ _ (enc_chk h0 (.inr ?_))⟩) fun h5 => ⟨?_, ?_⟩
      · with_reducible exact ⟨trivial, rfl⟩
      · intro hz; subst h2; unfold zer at hz; simp at hz; simp [hz] at h5
      · with_reducible exact ⟨trivial, rfl⟩
      · refine eclo0 _ _ _ _ (Eq.trans ?_ (enc_ok h0 (by rw [chk2 h2]; simpa using h4) ?_))
        · rw [bod2 h2]; subst h2; rfl
        · subst h2; unfold zer; simp at h5; omega
    · have h3 := eq_of_beq h3
      refine holds_bif (fun h4 => ⟨trivial, eclo0 _ _ _ _ (enc_chk h0 (.inl (by rw [chk3 h3]; simpa using h4)))⟩) fun h4 => holds_bif (fun h5 => ⟨?_, eclo0 _ _ _ _ (enc_chk h0 (.inr ?_))⟩) fun h5 => ⟨?_, ?_⟩
      · with_reducible exact ⟨trivial, rfl⟩
      · intro hz; subst h3; unfold zer at hz; simp at hz; simp [hz] at h5
      · with_reducible exact ⟨trivial, rfl⟩
      · refine eclo0 _ _ _ _ (Eq.trans ?_ (enc_ok h0 (by rw [chk3 h3]; simpa using h4) ?_))
        · rw [bod3 h3]; subst h3; rfl
        · subst h3; unfold zer; simp at h5; omega
    · simp at h1 h2 h3; omega
  · rw [e_tail]
    refine Tr.seq (Tr.of_code (mu := fun _ => false) (known_none _) (e_z k q a p _) ?_)
    refine holds_bif (fun h => absurd (.inl (eq_of_beq h)) hk) fun _ => holds_bif (fun h => absurd (.inr (.inl (eq_of_beq h))) hk) fun _ => holds_bif (fun h => absurd (.inr (.inr (eq_of_beq h))) hk) fun _ => ⟨trivial, ?_⟩
    refine Tr.seq (Tr.mono (Tr.panCall3 named eR_eq eR_op eR_d eR_g0 eR_g1 eR_call rfl (by show 10 < 30; decide) (has_fn (by kernel_rfl)) kind_nil) ?_)
    rintro e a2 h ⟨⟨v, hv, rfl⟩, rfl, rfl⟩
    exact eclo1 v hv _ _ _ _ (enc_kind (by omega))
end Go.Proofs.YtlonpmcgejdkkaaGreatDoor.AE
namespace Go.Proofs.YtlonpmcgejdkkaaGreatDoor.AE
set_option maxRecDepth 100000
open Go.RowKit
def decE (S : DS) (s : ByteArray) : Int := if S.gE s ≠ 0 then S.gE s else if (if S.gK s = 1 then S.qF (S.gB s) else if S.gK s = 2 then S.aF (S.gB s) else S.pF (S.gB s)) ≠ 0 then 2 else 0
def decL (S : DS) (s : ByteArray) : List Int := if decE S s ≠ 0 then List.replicate 23 0 else S.gK s :: ((if S.gK s = 1 then [S.qG (S.gB s) 0, S.qG (S.gB s) 1, S.qG (S.gB s) 2, S.qG (S.gB s) 3, S.qG (S.gB s) 4, S.qG (S.gB s) 5] else List.replicate 6 0) ++ ((if S.gK s = 2 then [S.aG (S.gB s) 0, S.aG (S.gB s) 1, S.aG (S.gB s) 2, S.aG (S.gB s) 3, S.aG (S.gB s) 4, S.aG (S.gB s) 5, S.aG (S.gB s) 6] else List.replicate 7 0) ++ (if S.gK s = 3 then [S.pG (S.gB s) 0, S.pG (S.gB s) 1, S.pG (S.gB s) 2, S.pG (S.gB s) 3, S.pG (S.gB s) 4, S.pG (S.gB s) 5, S.pG (S.gB s) 6, S.pG (S.gB s) 7, S.pG (S.gB s) 8] else List.replicate 9 0)))
def decV (S : DS) (s : ByteArray) : Value := .tuple #[.agg ((decL S s).map (Value.int .i64)).toArray, .int .i64 (decE S s)]
section
variable {S : DS} (hS : Known roF (prD S)) (hk : ∀ s, S.gE s = 0 → 1 ≤ S.gK s ∧ S.gK s ≤ 3)
include hS hk
theorem fs_dec (s : ByteArray) (hs : s.size ≤ 100000) (hb : (S.gB s).size ≤ 9223372036854775807) : Fs Tryz.prog roF 17 [.v (.string s)] (hp [] []) fun r _ => r = .v (decV S s) := by
  refine Fs.of_call hS (d_go S s _) ?_ flatD
  repeat' (refine holds_bif (fun h => ?_) (fun h => ?_))
  all_goals
    simp only [bne_iff_ne, ne_eq, bne_eq_false_iff_eq, beq_iff_eq, beq_eq_false_iff_ne] at *
    first
      | (exfalso; have := hk s (by assumption); omega)
      | (refine ⟨?_, ?_⟩
         · repeat' first
             | with_reducible exact trivial
             | with_reducible refine cdb_iff.2 ⟨?_, ?_⟩
             | exact decide_eq_true hs
             | exact decide_eq_true hb
         · try (have e3 : S.gK s = 3 := by have := hk s (by assumption); omega)
           simp [decV, decL, decE, *]; try rfl)
theorem fs_rdec (s : ByteArray) (hs : s.size ≤ 100000) (hb : (S.gB s).size ≤ 9223372036854775807) : Fs Tryz.prog roF 18 [.v (.string s)] (hp [] []) fun r _ => r = .v (decV S s) := by
  refine Fs.of_call hS (d_rgo S s _) ?_ flatD
  repeat' (refine holds_bif (fun h => ?_) (fun h => ?_))
  all_goals
    simp only [bne_iff_ne, ne_eq, bne_eq_false_iff_eq, beq_iff_eq, beq_eq_false_iff_ne] at *
    first
      | (exfalso; have := hk s (by assumption); omega)
      | (refine ⟨?_, ?_⟩
         · repeat' first
             | with_reducible exact trivial
             | with_reducible refine cdb_iff.2 ⟨?_, ?_⟩
             | exact decide_eq_true hs
             | exact decide_eq_true hb
         · try (have e3 : S.gK s = 3 := by have := hk s (by assumption); omega)
           simp [decV, decL, decE, *]; try rfl)
end
end Go.Proofs.YtlonpmcgejdkkaaGreatDoor.AE
namespace Go.Proofs.YtlonpmcgejdkkaaGreatDoor.AE
set_option maxRecDepth 100000
open Go.RowKit
def esX : ES := ⟨Q24.putR, Q24.chk24, A25.putR, A25.chk25, P26.putR, P26.chk26, H23.hpS, H23.hpE⟩
def dsX : DS := ⟨H23.hgK, H23.hgB, H23.hgE, Q24.getN, Q24.getE, A25.getN, A25.getE, P26.getN, P26.getE⟩
theorem nine_of {g : FuncId} {F : (Nat → Int) → Value} (hg : ∀ f : Nat → Int, Fs Tryz.prog P26.ro26 g [P26.push f] (hp [] []) fun r _ => r = .v (F f)) : ∀ us c, nineP F us = some (c, true) → Fs Tryz.prog P26.ro26 g (us.map .v) (hp [] []) fun r _ => r = .v c := by
  intro us c h
  unfold nineP at h
  split at h
  · split at h
    · rename_i l hl
      split at h
      · rename_i h9
        cases h
        have := P26.push_of hl (of_decide_eq_true h9)
        rw [List.map_cons, List.map_nil, this]
        exact hg (P26.nine l)
      · cases h
    · cases h
  · cases h
theorem knownE : Known roF (prE esX) := by
  intro g p h
  unfold prE at h
  split at h
  · cases h
    refine fun _ _ _ _ h => HSound1.ro leN (pure_ok (fun us c hs => ?_) (has_fn (by kernel_rfl)) _ _ _ _ h)
    unfold hpP at hs
    split at hs
    · simp only [Option.some.injEq, Prod.mk.injEq] at hs
      obtain ⟨rfl, _⟩ := hs
      exact H23.fs_hput _ _
    · cases hs
  · cases h; exact fun _ _ _ _ h => HSound1.ro leQ (pure_ok (Q24.six_of Q24.fs_put) (has_fn (by kernel_rfl)) _ _ _ _ h)
  · cases h; exact fun _ _ _ _ h => HSound1.ro leA (pure_ok (A25.six_of A25.fs_put) (has_fn (by kernel_rfl)) _ _ _ _ h)
  · cases h; exact fun _ _ _ _ h => HSound1.ro leP (pure_ok (nine_of P26.fs_put) (has_fn (by kernel_rfl)) _ _ _ _ h)
  · cases h
theorem hg_of {g : FuncId} (hf : ∃ fn, Tryz.prog.funcs[g]? = some fn ∧ fn.body.isSome = true) (hg : ∀ s : ByteArray, s.size ≤ 100000 → Fs Tryz.prog nro g [.v (.string s)] (hp [] []) fun r _ => r = .v (H23.hgV s)) : ∀ args H r H', pure? (hgP H23.hgK H23.hgB H23.hgE) args H = some (r, H') → HSound1 Tryz.prog roF g args H r H' := by
  refine fun _ _ _ _ h => HSound1.ro leN (pure_ok (fun us c hs => ?_) hf _ _ _ _ h)
  unfold hgP at hs
  split at hs
  · simp only [Option.some.injEq, Prod.mk.injEq] at hs
    obtain ⟨rfl, h1⟩ := hs
    exact hg _ (of_decide_eq_true h1)
  · cases hs
theorem g6_of {ro : Nat → Option (List Value)} (hr : ∀ G W, Ro roF G W → Ro ro G W) {g : FuncId} {G : ByteArray → Nat → Int} {F : ByteArray → Int} (hf : ∃ fn, Tryz.prog.funcs[g]? = some fn ∧ fn.body.isSome = true) (hg : ∀ s : ByteArray, s.size ≤ maxLen → Fs Tryz.prog ro g [.v (.string s)] (hp [] []) fun r _ => r = .v (.tuple #[.agg #[.int .i64 (G s 0), .int .i64 (G s 1), .int .i64 (G s 2), .int .i64 (G s 3), .int .i64 (G s 4), .int .i64 (G s 5)], .int .i64 (F s)])) : ∀ args H r H', pure? (g6P G F) args H = some (r, H') → HSound1 Tryz.prog roF g args H r H' := by
  refine fun _ _ _ _ h => HSound1.ro hr (pure_ok (fun us c hs => ?_) hf _ _ _ _ h)
  unfold g6P at hs
  split at hs
  · simp only [Option.some.injEq, Prod.mk.injEq] at hs
    obtain ⟨rfl, h1⟩ := hs
    exact hg _ (of_decide_eq_true h1)
  · cases hs
theorem g7_of {ro : Nat → Option (List Value)} (hr : ∀ G W, Ro roF G W → Ro ro G W) {g : FuncId} {G : ByteArray → Nat → Int} {F : ByteArray → Int} (hf : ∃ fn, Tryz.prog.funcs[g]? = some fn ∧ fn.body.isSome = true) (hg : ∀ s : ByteArray, s.size ≤ maxLen → Fs Tryz.prog ro g [.v (.string s)] (hp [] []) fun r _ => r = .v (.tuple #[.agg #[.int .i64 (G s 0), .int .i64 (G s 1), .int .i64 (G s 2), .int .i64 (G s 3), .int .i64 (G s 4), .int .i64 (G s 5), .int .i64 (G s 6)], .int .i64 (F s)])) : ∀ args H r H', pure? (g7P G F) args H = some (r, H') → HSound1 Tryz.prog roF g args H r H' := by
  refine fun _ _ _ _ h => HSound1.ro hr (pure_ok (fun us c hs => ?_) hf _ _ _ _ h)
  unfold g7P at hs
  split at hs
  · simp only [Option.some.injEq, Prod.mk.injEq] at hs
    obtain ⟨rfl, h1⟩ := hs
    exact hg _ (of_decide_eq_true h1)
  · cases hs
theorem g9_of {ro : Nat → Option (List Value)} (hr : ∀ G W, Ro roF G W → Ro ro G W) {g : FuncId} {G : ByteArray → Nat → Int} {F : ByteArray → Int} (hf : ∃ fn, Tryz.prog.funcs[g]? = some fn ∧ fn.body.isSome = true) (hg : ∀ s : ByteArray, s.size ≤ maxLen → Fs Tryz.prog ro g [.v (.string s)] (hp [] []) fun r _ => r = .v (.tuple #[.agg #[.int .i64 (G s 0), .int .i64 (G s 1), .int .i64 (G s 2), .int .i64 (G s 3), .int .i64 (G s 4), .int .i64 (G s 5), .int .i64 (G s 6), .int .i64 (G s 7), .int .i64 (G s 8)], .int .i64 (F s)])) : ∀ args H r H', pure? (g9P G F) args H = some (r, H') → HSound1 Tryz.prog roF g args H r H' := by
  refine fun _ _ _ _ h => HSound1.ro hr (pure_ok (fun us c hs => ?_) hf _ _ _ _ h)
  unfold g9P at hs
  split at hs
  · simp only [Option.some.injEq, Prod.mk.injEq] at hs
    obtain ⟨rfl, h1⟩ := hs
    exact hg _ (of_decide_eq_true h1)
  · cases hs
theorem knownD : Known roF (prD dsX) := by
  intro g p h
  unfold prD at h
  split at h
  · cases h; exact hg_of (has_fn (by kernel_rfl)) H23.fs_hget
  · cases h; exact hg_of (has_fn (by kernel_rfl)) H23.fs_rhget
  · cases h; exact g6_of leQ (has_fn (by kernel_rfl)) Q24.fs_get
  · cases h; exact g6_of leQ (has_fn (by kernel_rfl)) Q24.fs_rget
  · cases h; exact g7_of leA (has_fn (by kernel_rfl)) A25.fs_get
  · cases h; exact g7_of leA (has_fn (by kernel_rfl)) A25.fs_rget
  · cases h; exact g9_of leP (has_fn (by kernel_rfl)) P26.fs_get
  · cases h; exact g9_of leP (has_fn (by kernel_rfl)) P26.fs_rget
  · cases h
theorem kindX : ∀ s, dsX.gE s = 0 → 1 ≤ dsX.gK s ∧ dsX.gK s ≤ 3 := fun _ h => H23.hg_kind h
/-- What frames and bytes come to, over lists of numbers. -/
structure LS where
  eS : List Int → ByteArray
  eE : List Int → Int
  dN : ByteArray → Nat → Int
  dE : ByteArray → Int
def feP (E : List Int → ByteArray) (F : List Int → Int) : List Value → Option (Value × Bool) := fun us => match us with
  | [.agg cs] => match Q24.ints? cs.toList with
    | some l => match decide (l.length = 23) with
      | true => some (.tuple #[.string (E l), .int .i64 (F l)], true)
      | false => none
    | none => none
  | _ => none
def fdP (N : ByteArray → Nat → Int) (E : ByteArray → Int) : List Value → Option (Value × Bool) := fun us => match us with
  | [.string s] => some (.tuple #[.agg #[.int .i64 (N s 0), .int .i64 (N s 1), .int .i64 (N s 2), .int .i64 (N s 3), .int .i64 (N s 4), .int .i64 (N s 5), .int .i64 (N s 6), .int .i64 (N s 7), .int .i64 (N s 8), .int .i64 (N s 9), .int .i64 (N s 10), .int .i64 (N s 11), .int .i64 (N s 12), .int .i64 (N s 13), .int .i64 (N s 14), .int .i64 (N s 15), .int .i64 (N s 16), .int .i64 (N s 17), .int .i64 (N s 18), .int .i64 (N s 19), .int .i64 (N s 20), .int .i64 (N s 21), .int .i64 (N s 22)], .int .i64 (E s)], decide (s.size ≤ 100000))
  | _ => none
noncomputable def prL (S : LS) : FuncId → Option (List AV → AH → Ans) := fun g => match g with
  | 5 => some (pure? (feP S.eS S.eE))
  | 17 => some (pure? (fdP S.dN S.dE))
  | 18 => some (pure? (fdP S.dN S.dE))
  | 125 => some (tot? joinV joinOk)
  | _ => none
def fQ (l : List Int) : Nat → Int := fun n => l.getD (n + 1) 0
def fA (l : List Int) : Nat → Int := fun n => l.getD (n + 7) 0
def fP (l : List Int) : Nat → Int := fun n => l.getD (n + 14) 0
def lsX : LS := ⟨fun l => encS esX (l.getD 0 0) (fQ l) (fA l) (fP l), fun l => encE esX (l.getD 0 0) (fQ l) (fA l) (fP l), fun s n => (decL dsX s).getD n 0, decE dsX⟩
theorem decL_eq (S : DS) (s : ByteArray) : ((decL S s).map (Value.int .i64)).toArray = #[.int .i64 ((decL S s).getD 0 0), .int .i64 ((decL S s).getD 1 0), .int .i64 ((decL S s).getD 2 0), .int .i64 ((decL S s).getD 3 0), .int .i64 ((decL S s).getD 4 0), .int .i64 ((decL S s).getD 5 0), .int .i64 ((decL S s).getD 6 0), .int .i64 ((decL S s).getD 7 0), .int .i64 ((decL S s).getD 8 0), .int .i64 ((decL S s).getD 9 0), .int .i64 ((decL S s).getD 10 0), .int .i64 ((decL S s).getD 11 0), .int .i64 ((decL S s).getD 12 0), .int .i64 ((decL S s).getD 13 0), .int .i64 ((decL S s).getD 14 0), .int .i64 ((decL S s).getD 15 0), .int .i64 ((decL S s).getD 16 0), .int .i64 ((decL S s).getD 17 0), .int .i64 ((decL S s).getD 18 0), .int .i64 ((decL S s).getD 19 0), .int .i64 ((decL S s).getD 20 0), .int .i64 ((decL S s).getD 21 0), .int .i64 ((decL S s).getD 22 0)] := by
  unfold decL
  split
  · rfl
  · split <;> split <;> split <;> rfl
theorem fd_of {g : FuncId} (hf : ∃ fn, Tryz.prog.funcs[g]? = some fn ∧ fn.body.isSome = true) (hg : ∀ s : ByteArray, s.size ≤ 100000 → Fs Tryz.prog roF g [.v (.string s)] (hp [] []) fun r _ => r = .v (decV dsX s)) : ∀ args H r H', pure? (fdP lsX.dN lsX.dE) args H = some (r, H') → HSound1 Tryz.prog roF g args H r H' := by
  refine pure_ok (fun us c hs => ?_) hf
  unfold fdP at hs
  split at hs
  · simp only [Option.some.injEq, Prod.mk.injEq] at hs
    obtain ⟨rfl, h1⟩ := hs
    refine (hg _ (of_decide_eq_true h1)).mono fun r _ h => ?_
    rw [h]
    unfold decV
    rw [decL_eq]
    rfl
  · cases hs
theorem frV_of : ∀ {cs : Array Value} {l : List Int}, Q24.ints? cs.toList = some l → l.length = 23 → AV.v (.agg cs) = .v (frV (l.getD 0 0) (fQ l) (fA l) (fP l)) := by
  intro cs l h h2
  have := Q24.ints_map h
  obtain ⟨c⟩ := cs
  have : c = l.map (Value.int .i64) := this
  subst this
  match l, h2 with
  | [x0, x1, x2, x3, x4, x5, x6, x7, x8, x9, x10, x11, x12, x13, x14, x15, x16, x17, x18, x19, x20, x21, x22], _ => rfl
end Go.Proofs.YtlonpmcgejdkkaaGreatDoor.AE
namespace Go.Proofs.YtlonpmcgejdkkaaGreatDoor.AE
set_option maxRecDepth 100000
open Go.RowKit
theorem knownL : Known roF (prL lsX) := by
  intro g p h
  unfold prL at h
  split at h
  · cases h
    refine pure_ok (fun us c hs => ?_) (has_fn (by kernel_rfl))
    unfold feP at hs
    split at hs
    · split at hs
      · rename_i l hl
        split at hs
        · rename_i h23
          simp only [Option.some.injEq, Prod.mk.injEq] at hs
          obtain ⟨rfl, _⟩ := hs
          rw [List.map_cons, List.map_nil, frV_of hl (of_decide_eq_true h23)]
          exact fs_enc knownE _ _ _ _
        · cases hs
      · cases hs
    · cases hs
  · cases h; exact fd_of (has_fn (by kernel_rfl)) fun s hs => fs_dec knownD kindX s hs (by
      have := H23.hg_body s
      show (H23.hgB s).size ≤ _
      omega)
  · cases h; exact fd_of (has_fn (by kernel_rfl)) fun s hs => fs_rdec knownD kindX s hs (by
      have := H23.hg_body s
      show (H23.hgB s).size ≤ _
      omega)
  · cases h; exact join_ok _
  · cases h
def aw27 (v : Option Prop) : Prop := holds v
theorem t_awake (Φ : AV → Prop) : callK roF (fun _ => false) (prL lsX) 12 16 [] (hp [] []) (fun r h => some (h.cd ∧ Φ r)) =
    (some (True ∧ (Φ (AV.v (Value.bool true))))) := by kernel_rfl
end Go.Proofs.YtlonpmcgejdkkaaGreatDoor.AE
namespace Go.Proofs.YtlonpmcgejdkkaaGreatDoor.AE
set_option maxRecDepth 100000
open Go.RowKit
noncomputable def prM (S : LS) : FuncId → Option (List AV → AH → Ans) := fun g => match g with
  | 16 => some (pure? awakeS)
  | g => prL S g
theorem knownM : Known roF (prM lsX) := by
  intro g p h
  unfold prM at h
  split at h
  · cases h
    refine pure_ok (fun us c hs => ?_) (has_fn (by kernel_rfl))
    unfold awakeS at hs
    split at hs
    · cases hs; exact Fs.of_call (mu := fun _ => false) knownL (t_awake _) ⟨trivial, rfl⟩
    · cases hs
  · exact knownL _ p h
def muM : FuncId → Bool := fun g => (g == 5 + 1000000) || (g == 17 + 1000000) || (g == 16 + 1000000)
theorem flatM {S : LS} : Flats muM (prM S) := by
  intro g h
  unfold muM at h
  simp only [Bool.or_eq_true] at h
  rcases h with (h | h) | h
  all_goals
    have h := Nat.add_right_cancel (eq_of_beq h)
    subst h
    exact ⟨_, rfl, pure_flat _⟩
theorem t_decodes (S : LS) (s : ByteArray) (Φ : AV → Prop) : callK roF muM (prM S) 10 4 [.v (.string s)] (hp [] []) (fun r h => some (h.cd ∧ Φ r)) =
    (bif (decide ((300 : Int) < ((ByteArray.size s) : Int))) then (some (True ∧ (Φ (AV.v (Value.bool true))))) else (bif ((((S).3 s (0 : Nat)) == ((S).3 s (0 : Nat))) && (((((S).3 s (1 : Nat)) == ((S).3 s (1 : Nat))) && ((((S).3 s (2 : Nat)) == ((S).3 s (2 : Nat))) && ((((S).3 s (3 : Nat)) == ((S).3 s (3 : Nat))) && ((((S).3 s (4 : Nat)) == ((S).3 s (4 : Nat))) && ((((S).3 s (5 : Nat)) == ((S).3 s (5 : Nat))) && ((((S).3 s (6 : Nat)) == ((S).3 s (6 : Nat))) && true)))))) && (((((S).3 s (7 : Nat)) == ((S).3 s (7 : Nat))) && ((((S).3 s (8 : Nat)) == ((S).3 s (8 : Nat))) && ((((S).3 s (9 : Nat)) == ((S).3 s (9 : Nat))) && ((((S).3 s (10 : Nat)) == ((S).3 s (10 : Nat))) && ((((S).3 s (11 : Nat)) == ((S).3 s (11 : Nat))) && ((((S).3 s (12 : Nat)) == ((S).3 s (12 : Nat))) && ((((S).3 s (13 : Nat)) == ((S).3 s (13 : Nat))) && true))))))) && (((((S).3 s (14 : Nat)) == ((S).3 s (14 : Nat))) && ((((S).3 s (15 : Nat)) == ((S).3 s (15 : Nat))) && (((((S).3 s (16 : Nat)) == ((S).3 s (16 : Nat))) && ((((S).3 s (17 : Nat)) == ((S).3 s (17 : Nat))) && ((((S).3 s (18 : Nat)) == ((S).3 s (18 : Nat))) && ((((S).3 s (19 : Nat)) == ((S).3 s (19 : Nat))) && ((((S).3 s (20 : Nat)) == ((S).3 s (20 : Nat))) && ((((S).3 s (21 : Nat)) == ((S).3 s (21 : Nat))) && ((((S).3 s (22 : Nat)) == ((S).3 s (22 : Nat))) && true))))))) && true))) && true)))) then (bif (((S).4 s) == ((S).4 s)) then (some ((cdb (cdb True (decide ((ByteArray.size s) ≤ (100000 : Nat)))) (decide ((ByteArray.size s) ≤ (100000 : Nat)))) ∧ (Φ (AV.v (Value.bool true))))) else (some ((cdb (cdb True (decide ((ByteArray.size s) ≤ (100000 : Nat)))) (decide ((ByteArray.size s) ≤ (100000 : Nat)))) ∧ (Φ (AV.v (Value.bool false)))))) else (some ((cdb (cdb True (decide ((ByteArray.size s) ≤ (100000 : Nat)))) (decide ((ByteArray.size s) ≤ (100000 : Nat)))) ∧ (Φ (AV.v (Value.bool false))))))) := by kernel_rfl
end Go.Proofs.YtlonpmcgejdkkaaGreatDoor.AE
namespace Go.Proofs.YtlonpmcgejdkkaaGreatDoor.AE
set_option maxRecDepth 100000
open Go.RowKit
theorem decodes_holds (S : LS) (s : ByteArray) (hS : Known roF (prM S)) : Fs Tryz.prog roF 4 [.v (.string s)] (hp [] []) fun r _ => r = .v (.bool true) := by
  refine Fs.of_call hS (t_decodes S s fun r => r = .v (.bool true)) (holds_bif (fun _ => ⟨trivial, rfl⟩) fun h0 => ?_) flatM
  have h0 := of_decide_eq_false h0
  have hs : s.size ≤ 100000 := by omega
  simp only [beq_self_eq_true, Bool.and_true, cond_true, cond_false]
  first
      | (refine ⟨?_, by first | trivial | rfl⟩
         repeat' first
           | with_reducible exact trivial
           | with_reducible refine cdb_iff.2 ⟨?_, ?_⟩
           | exact decide_eq_true hz
           | exact decide_eq_true hs)
end Go.Proofs.YtlonpmcgejdkkaaGreatDoor.AE
namespace Go.Proofs.YtlonpmcgejdkkaaGreatDoor
open Go.RowKit AE
theorem AE.roF_of {W : World} (h : laidMet Tryz.prog Rows.frameDecodesRow.laid W) : Ro roF (G0 W) W := by
  have hP := laid_table h (name := "lockkeeper/push.widths") (k := .i64) (zs := [1, 4, 2, 2, 1, 1, 1, 1, 1]) (List.mem_of_getElem? (i := 0) (by kernel_rfl)) (g := 1) (by kernel_rfl) (t := 101) (by kernel_rfl) Tryz.underlying101 Tryz.underlying3 (by kernel_rfl) (by kernel_rfl) (by decide)
  have hQ := laid_table h (name := "lockkeeper/request.widths") (k := .i64) (zs := [6, 1, 1, 1, 6, 2]) (List.mem_of_getElem? (i := 1) (by kernel_rfl)) (g := 0) (by kernel_rfl) (t := 94) (by kernel_rfl) Tryz.underlying94 Tryz.underlying3 (by kernel_rfl) (by kernel_rfl) (by decide)
  have hA := laid_table h (name := "lockkeeper/reply.widths") (k := .i64) (zs := [6, 1, 1, 1, 1, 4, 1]) (List.mem_of_getElem? (i := 2) (by kernel_rfl)) (g := 2) (by kernel_rfl) (t := 120) (by kernel_rfl) Tryz.underlying120 Tryz.underlying3 (by kernel_rfl) (by kernel_rfl) (by decide)
  intro b cs hb
  unfold roF at hb
  split at hb
  · cases hb; exact hQ
  · cases hb; exact hA
  · cases hb; exact hP
  · cases hb
theorem w_FrameDecodes (w : World) (hR : Ro roF (G0 w) w) (s : ByteArray) (_ : s.size ≤ 9223372036854775807) : Calls Tryz.prog 4 #[.string s] w fun e w' => e = .returned (.bool true) ∧ Below w.heap.size w w' :=
  law_true (decodes_holds lsX s knownM) w _ hR (.cons (.v _) .nil)
end Go.Proofs.YtlonpmcgejdkkaaGreatDoor
