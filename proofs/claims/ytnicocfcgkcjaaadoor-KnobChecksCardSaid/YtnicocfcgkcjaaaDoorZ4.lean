
/-
  The law KnobChecks of layer 18: the call comes to true.
-/
import Derived.Test.YtnicocfcgkcjaaaDoorZ3
import Derived.Test.YtnicocfcgkcjaaaDoorAELit
import Derived.Test.YtnicocfcgkcjaaaDoorMem
import Derived.Deep.Fields
import Derived.ChangeArms
namespace Go.Proofs.YtnicocfcgkcjaaaDoor.AE
open Go.RowKit
theorem k_check (tS tR : TypeId) (pS pR : Value) (a b c d e f g n : Int) (Φ : AV → Prop) : callK (roK tS pS tR pR) (fun _ => false) (fun _ => none) 8 7 [.v (kn a b c d e f g), .v (.int .i64 n)] (hp [] []) (fun r h => some (h.cd ∧ Φ r)) =
    (bif (decide (n < (1 : Int))) then (some (True ∧ (Φ (AV.v (Value.int IntKind.i64 (10 : Int)))))) else (bif (decide ((128 : Int) < n)) then (some (True ∧ (Φ (AV.v (Value.int IntKind.i64 (10 : Int)))))) else (bif (decide (a < (0 : Int))) then (some (True ∧ (Φ (AV.v (Value.int IntKind.i64 (10 : Int)))))) else (bif (decide (b < a)) then (some (True ∧ (Φ (AV.v (Value.int IntKind.i64 (10 : Int)))))) else (bif (decide (b < a)) then (some (True ∧ (Φ (AV.v (Value.int IntKind.i64 (10 : Int)))))) else (bif (decide ((10000 : Int) < b)) then (some (True ∧ (Φ (AV.v (Value.int IntKind.i64 (10 : Int)))))) else (bif (decide (c < (1 : Int))) then (some (True ∧ (Φ (AV.v (Value.int IntKind.i64 (10 : Int)))))) else (bif (decide ((99 : Int) < c)) then (some (True ∧ (Φ (AV.v (Value.int IntKind.i64 (10 : Int)))))) else (bif (decide (d < (1 : Int))) then (some (True ∧ (Φ (AV.v (Value.int IntKind.i64 (10 : Int)))))) else (bif (decide ((100 : Int) < d)) then (some (True ∧ (Φ (AV.v (Value.int IntKind.i64 (10 : Int)))))) else (bif (decide (e < (0 : Int))) then (some (True ∧ (Φ (AV.v (Value.int IntKind.i64 (10 : Int)))))) else (bif (decide (n < e)) then (some (True ∧ (Φ (AV.v (Value.int IntKind.i64 (10 : Int)))))) else (bif (decide (f < (1 : Int))) then (some (True ∧ (Φ (AV.v (Value.int IntKind.i64 (10 : Int)))))) else (bif (decide ((32 : Int) < f)) then (some (True ∧ (Φ (AV.v (Value.int IntKind.i64 (10 : Int)))))) else (bif (decide (g < (1 : Int))) then (some (True ∧ (Φ (AV.v (Value.int IntKind.i64 (10 : Int)))))) else (bif (decide ((32 : Int) < g)) then (some (True ∧ (Φ (AV.v (Value.int IntKind.i64 (10 : Int)))))) else (some (True ∧ (Φ (AV.v (Value.int IntKind.i64 (0 : Int)))))))))))))))))))))) := by kernel_rfl
theorem k_rcheck (tS tR : TypeId) (pS pR : Value) (a b c d e f g n : Int) (Φ : AV → Prop) : callK (roK tS pS tR pR) (fun _ => false) (fun _ => none) 8 8 [.v (kn a b c d e f g), .v (.int .i64 n)] (hp [] []) (fun r h => some (h.cd ∧ Φ r)) =
    (bif (decide (n < (1 : Int))) then (some (True ∧ (Φ (AV.v (Value.int IntKind.i64 (10 : Int)))))) else (bif (decide ((128 : Int) < n)) then (some (True ∧ (Φ (AV.v (Value.int IntKind.i64 (10 : Int)))))) else (bif (decide (a < (0 : Int))) then (some (True ∧ (Φ (AV.v (Value.int IntKind.i64 (10 : Int)))))) else (bif (decide (b < a)) then (some (True ∧ (Φ (AV.v (Value.int IntKind.i64 (10 : Int)))))) else (bif (decide ((10000 : Int) < b)) then (some (True ∧ (Φ (AV.v (Value.int IntKind.i64 (10 : Int)))))) else (bif (decide (c < (1 : Int))) then (some (True ∧ (Φ (AV.v (Value.int IntKind.i64 (10 : Int)))))) else (bif (decide ((99 : Int) < c)) then (some (True ∧ (Φ (AV.v (Value.int IntKind.i64 (10 : Int)))))) else (bif (decide (d < (1 : Int))) then (some (True ∧ (Φ (AV.v (Value.int IntKind.i64 (10 : Int)))))) else (bif (decide ((100 : Int) < d)) then (some (True ∧ (Φ (AV.v (Value.int IntKind.i64 (10 : Int)))))) else (bif (decide (e < (0 : Int))) then (some (True ∧ (Φ (AV.v (Value.int IntKind.i64 (10 : Int)))))) else (bif (decide (n < e)) then (some (True ∧ (Φ (AV.v (Value.int IntKind.i64 (10 : Int)))))) else (bif (decide (f < (1 : Int))) then (some (True ∧ (Φ (AV.v (Value.int IntKind.i64 (10 : Int)))))) else (bif (decide ((32 : Int) < f)) then (some (True ∧ (Φ (AV.v (Value.int IntKind.i64 (10 : Int)))))) else (bif (decide (g < (1 : Int))) then (some (True ∧ (Φ (AV.v (Value.int IntKind.i64 (10 : Int)))))) else (bif (decide ((32 : Int) < g)) then (some (True ∧ (Φ (AV.v (Value.int IntKind.i64 (10 : Int)))))) else (some (True ∧ (Φ (AV.v (Value.int IntKind.i64 (0 : Int))))))))))))))))))))) := by kernel_rfl
end Go.Proofs.YtnicocfcgkcjaaaDoor.AE
namespace Go.Proofs.YtnicocfcgkcjaaaDoor.AE
open Go.RowKit
theorem rv_pre (tS tR : TypeId) (pS pR : Value) (a b c d e f g : Int) (R : Exit → List AV → AH → Prop) : codeL (roK tS pS tR pR) (fun _ => false) (fun _ => none) 8 ((flatten (bodyOf 11)).take 1) ([.v (kn a b c d e f g)] ++ List.replicate 17 (.v undef)) (hp [] []) (kp [1] R) =
    (some (True ∧ (R Exit.normal [AV.dead, (AV.ptr (0 : Nat) (0 : Nat)), AV.dead, AV.dead, AV.dead, AV.dead, AV.dead, AV.dead, AV.dead, AV.dead, AV.dead, AV.dead, AV.dead, AV.dead, AV.dead, AV.dead, AV.dead, AV.dead] (AH.mk [((23 : Nat), [(AV.v (Value.int IntKind.i64 a)), (AV.v (Value.int IntKind.i64 b)), (AV.v (Value.int IntKind.i64 c)), (AV.v (Value.int IntKind.i64 d)), (AV.v (Value.int IntKind.i64 e)), (AV.v (Value.int IntKind.i64 f)), (AV.v (Value.int IntKind.i64 g))])] (@List.nil Nat) (0 : Nat) (0 : Nat) true (@List.nil (Prod Nat Bool)) True)))) := by kernel_rfl
theorem rv_lit (tS tR : TypeId) (pS pR : Value) (a b c d e f g : Int) (R : Exit → List AV → AH → Prop) : regL (roK tS pS tR pR) (fun _ => false) (fun _ => none) 8 (sub (bodyOf 11) [1, 0]) ([.dead, .ptr 0 0] ++ List.replicate 16 .dead) (hp [(23, [gi a, gi b, gi c, gi d, gi e, gi f, gi g])] []) (kp [2] R) =
    (some (True ∧ (R Exit.normal [AV.dead, AV.dead, (AV.sl (List.length [((23 : Nat), [(AV.v (Value.int IntKind.i64 a)), (AV.v (Value.int IntKind.i64 b)), (AV.v (Value.int IntKind.i64 c)), (AV.v (Value.int IntKind.i64 d)), (AV.v (Value.int IntKind.i64 e)), (AV.v (Value.int IntKind.i64 f)), (AV.v (Value.int IntKind.i64 g))])]) (0 : Nat) (7 : Nat) (7 : Nat)), AV.dead, AV.dead, AV.dead, AV.dead, AV.dead, AV.dead, AV.dead, AV.dead, AV.dead, AV.dead, AV.dead, AV.dead, AV.dead, AV.dead, AV.dead] (AH.mk [((23 : Nat), [(AV.v (Value.int IntKind.i64 a)), (AV.v (Value.int IntKind.i64 b)), (AV.v (Value.int IntKind.i64 c)), (AV.v (Value.int IntKind.i64 d)), (AV.v (Value.int IntKind.i64 e)), (AV.v (Value.int IntKind.i64 f)), (AV.v (Value.int IntKind.i64 g))]), ((3 : Nat), [(AV.v (Value.int IntKind.i64 a)), (AV.v (Value.int IntKind.i64 b)), (AV.v (Value.int IntKind.i64 c)), (AV.v (Value.int IntKind.i64 d)), (AV.v (Value.int IntKind.i64 e)), (AV.v (Value.int IntKind.i64 f)), (AV.v (Value.int IntKind.i64 g))])] (@List.nil Nat) (0 : Nat) (0 : Nat) true (@List.nil (Prod Nat Bool)) True)))) := by kernel_rfl
end Go.Proofs.YtnicocfcgkcjaaaDoor.AE
namespace Go.Proofs.YtnicocfcgkcjaaaDoor.AE
open Go.RowKit
def ckP (CK : Int → Int → Int → Int → Int → Int → Int → Int → Int) : List Value → Option (Value × Bool) := fun us => match us with
  | [.agg cs, .int .i64 n] => match vi? cs.toList with
    | some [a, b, c, d, e, f, g] => some (.int .i64 (CK a b c d e f g n), true)
    | _ => none
  | _ => none
def namesP : List AV → Option (AV × Bool) := fun us => match us with
  | [] => some (.lst 1 (namesV.map AV.v) .no, true)
  | _ => none
def valN : List AV → Option (TypeId × List Value × Bool) := fun us => match us with
  | [.v (.agg cs)] => match vi? cs.toList with
    | some [a, b, c, d, e, f, g] => some (3, [.int .i64 a, .int .i64 b, .int .i64 c, .int .i64 d, .int .i64 e, .int .i64 f, .int .i64 g], true)
    | _ => none
  | _ => none
def valD : List AV → Option (AV × Bool) := fun us => match us with
  | [.v (.agg cs)] => match vi? cs.toList with
    | some [a, b, c, d, e, f, g] => some (.lst 1 [gi a, gi b, gi c, gi d, gi e, gi f, gi g] .exact, true)
    | _ => none
  | _ => none
/-- Outside of regions that draw their order the numbers may be written on. -/
def valP (args : List AV) (H : AH) : Ans := match H.mb with
  | 0 => new? valN args H
  | _ => data? valD args H
noncomputable def prV (CK : Int → Int → Int → Int → Int → Int → Int → Int → Int) : FuncId → Option (List AV → AH → Ans) := fun g => match g with
  | 7 => some (pure? (ckP CK))
  | 8 => some (pure? (ckP CK))
  | 13 => some (data? namesP)
  | 11 => some valP
  | 6 => some (pure? awakeS)
  | _ => none
noncomputable def prF (CK : Int → Int → Int → Int → Int → Int → Int → Int → Int) (O : List AV → Bool) : FuncId → Option (List AV → AH → Ans) := fun g => match g with
  | 24 => some (tot? (fun _ => .v (.tuple #[.int .i64 0, .bool false])) O)
  | 18 => some (tot? (fun _ => .v (.tuple #[.int .i64 0, .bool false])) O)
  | g => prV CK g
end Go.Proofs.YtnicocfcgkcjaaaDoor.AE
namespace Go.Proofs.YtnicocfcgkcjaaaDoor.AE
open Go.RowKit
theorem t_set1 (CK : Int → Int → Int → Int → Int → Int → Int → Int → Int) (tS tR : TypeId) (pS pR : Value) (a b c d e f g n : Int) (v : Int) (Φ : AV → Prop) : callK (roK tS pS tR pR) (fun _ => false) (prV CK) 8 3 [.v (kn a b c d e f g), .v (.int .i64 n), .v (.agg #[.string ⟨#[108, 111, 119]⟩, .int .i64 v])] (hp [] []) (fun r h => some (h.cd ∧ Φ r)) =
    (bif ((CK a b c d e f g n) != (CK a b c d e f g n)) then (some (True ∧ (Φ (AV.v (Value.bool false))))) else (bif (a != a) then (some (True ∧ (Φ (AV.v (Value.bool false))))) else (bif (b != b) then (some (True ∧ (Φ (AV.v (Value.bool false))))) else (bif (c != c) then (some (True ∧ (Φ (AV.v (Value.bool false))))) else (bif (d != d) then (some (True ∧ (Φ (AV.v (Value.bool false))))) else (bif (e != e) then (some (True ∧ (Φ (AV.v (Value.bool false))))) else (bif (f != f) then (some (True ∧ (Φ (AV.v (Value.bool false))))) else (bif (g != g) then (some (True ∧ (Φ (AV.v (Value.bool false))))) else (bif (decide ((1 : Int) ≤ n)) then (bif (!(((CK (1 : Int) (4 : Int) (10 : Int) (5 : Int) (1 : Int) (3 : Int) (2 : Int) n) == (0 : Int)) == (decide (n ≤ (128 : Int))))) then (some (True ∧ (Φ (AV.v (Value.bool false))))) else (bif ((v == v) && ((b == b) && ((c == c) && ((d == d) && ((e == e) && ((f == f) && ((g == g) && true))))))) then (some (True ∧ (Φ (AV.v (Value.bool true))))) else (some (True ∧ (Φ (AV.v (Value.bool false))))))) else (bif (!(((CK (1 : Int) (4 : Int) (10 : Int) (5 : Int) (1 : Int) (3 : Int) (2 : Int) n) == (0 : Int)) == false)) then (some (True ∧ (Φ (AV.v (Value.bool false))))) else (bif ((v == v) && ((b == b) && ((c == c) && ((d == d) && ((e == e) && ((f == f) && ((g == g) && true))))))) then (some (True ∧ (Φ (AV.v (Value.bool true))))) else (some (True ∧ (Φ (AV.v (Value.bool false)))))))))))))))) := by kernel_rfl
end Go.Proofs.YtnicocfcgkcjaaaDoor.AE
namespace Go.Proofs.YtnicocfcgkcjaaaDoor.AE
open Go.RowKit
theorem t_set2 (CK : Int → Int → Int → Int → Int → Int → Int → Int → Int) (tS tR : TypeId) (pS pR : Value) (a b c d e f g n : Int) (v : Int) (Φ : AV → Prop) : callK (roK tS pS tR pR) (fun _ => false) (prV CK) 8 3 [.v (kn a b c d e f g), .v (.int .i64 n), .v (.agg #[.string ⟨#[104, 105, 103, 104]⟩, .int .i64 v])] (hp [] []) (fun r h => some (h.cd ∧ Φ r)) =
    (bif ((CK a b c d e f g n) != (CK a b c d e f g n)) then (some (True ∧ (Φ (AV.v (Value.bool false))))) else (bif (a != a) then (some (True ∧ (Φ (AV.v (Value.bool false))))) else (bif (b != b) then (some (True ∧ (Φ (AV.v (Value.bool false))))) else (bif (c != c) then (some (True ∧ (Φ (AV.v (Value.bool false))))) else (bif (d != d) then (some (True ∧ (Φ (AV.v (Value.bool false))))) else (bif (e != e) then (some (True ∧ (Φ (AV.v (Value.bool false))))) else (bif (f != f) then (some (True ∧ (Φ (AV.v (Value.bool false))))) else (bif (g != g) then (some (True ∧ (Φ (AV.v (Value.bool false))))) else (bif (decide ((1 : Int) ≤ n)) then (bif (!(((CK (1 : Int) (4 : Int) (10 : Int) (5 : Int) (1 : Int) (3 : Int) (2 : Int) n) == (0 : Int)) == (decide (n ≤ (128 : Int))))) then (some (True ∧ (Φ (AV.v (Value.bool false))))) else (bif ((a == a) && ((v == v) && ((c == c) && ((d == d) && ((e == e) && ((f == f) && ((g == g) && true))))))) then (some (True ∧ (Φ (AV.v (Value.bool true))))) else (some (True ∧ (Φ (AV.v (Value.bool false))))))) else (bif (!(((CK (1 : Int) (4 : Int) (10 : Int) (5 : Int) (1 : Int) (3 : Int) (2 : Int) n) == (0 : Int)) == false)) then (some (True ∧ (Φ (AV.v (Value.bool false))))) else (bif ((a == a) && ((v == v) && ((c == c) && ((d == d) && ((e == e) && ((f == f) && ((g == g) && true))))))) then (some (True ∧ (Φ (AV.v (Value.bool true))))) else (some (True ∧ (Φ (AV.v (Value.bool false)))))))))))))))) := by kernel_rfl
end Go.Proofs.YtnicocfcgkcjaaaDoor.AE
namespace Go.Proofs.YtnicocfcgkcjaaaDoor.AE
open Go.RowKit
theorem t_set3 (CK : Int → Int → Int → Int → Int → Int → Int → Int → Int) (tS tR : TypeId) (pS pR : Value) (a b c d e f g n : Int) (v : Int) (Φ : AV → Prop) : callK (roK tS pS tR pR) (fun _ => false) (prV CK) 8 3 [.v (kn a b c d e f g), .v (.int .i64 n), .v (.agg #[.string ⟨#[99, 117, 116]⟩, .int .i64 v])] (hp [] []) (fun r h => some (h.cd ∧ Φ r)) =
    (bif ((CK a b c d e f g n) != (CK a b c d e f g n)) then (some (True ∧ (Φ (AV.v (Value.bool false))))) else (bif (a != a) then (some (True ∧ (Φ (AV.v (Value.bool false))))) else (bif (b != b) then (some (True ∧ (Φ (AV.v (Value.bool false))))) else (bif (c != c) then (some (True ∧ (Φ (AV.v (Value.bool false))))) else (bif (d != d) then (some (True ∧ (Φ (AV.v (Value.bool false))))) else (bif (e != e) then (some (True ∧ (Φ (AV.v (Value.bool false))))) else (bif (f != f) then (some (True ∧ (Φ (AV.v (Value.bool false))))) else (bif (g != g) then (some (True ∧ (Φ (AV.v (Value.bool false))))) else (bif (decide ((1 : Int) ≤ n)) then (bif (!(((CK (1 : Int) (4 : Int) (10 : Int) (5 : Int) (1 : Int) (3 : Int) (2 : Int) n) == (0 : Int)) == (decide (n ≤ (128 : Int))))) then (some (True ∧ (Φ (AV.v (Value.bool false))))) else (bif ((a == a) && ((b == b) && ((v == v) && ((d == d) && ((e == e) && ((f == f) && ((g == g) && true))))))) then (some (True ∧ (Φ (AV.v (Value.bool true))))) else (some (True ∧ (Φ (AV.v (Value.bool false))))))) else (bif (!(((CK (1 : Int) (4 : Int) (10 : Int) (5 : Int) (1 : Int) (3 : Int) (2 : Int) n) == (0 : Int)) == false)) then (some (True ∧ (Φ (AV.v (Value.bool false))))) else (bif ((a == a) && ((b == b) && ((v == v) && ((d == d) && ((e == e) && ((f == f) && ((g == g) && true))))))) then (some (True ∧ (Φ (AV.v (Value.bool true))))) else (some (True ∧ (Φ (AV.v (Value.bool false)))))))))))))))) := by kernel_rfl
end Go.Proofs.YtnicocfcgkcjaaaDoor.AE
namespace Go.Proofs.YtnicocfcgkcjaaaDoor.AE
open Go.RowKit
theorem t_set4 (CK : Int → Int → Int → Int → Int → Int → Int → Int → Int) (tS tR : TypeId) (pS pR : Value) (a b c d e f g n : Int) (v : Int) (Φ : AV → Prop) : callK (roK tS pS tR pR) (fun _ => false) (prV CK) 8 3 [.v (kn a b c d e f g), .v (.int .i64 n), .v (.agg #[.string ⟨#[108, 105, 102, 116]⟩, .int .i64 v])] (hp [] []) (fun r h => some (h.cd ∧ Φ r)) =
    (bif ((CK a b c d e f g n) != (CK a b c d e f g n)) then (some (True ∧ (Φ (AV.v (Value.bool false))))) else (bif (a != a) then (some (True ∧ (Φ (AV.v (Value.bool false))))) else (bif (b != b) then (some (True ∧ (Φ (AV.v (Value.bool false))))) else (bif (c != c) then (some (True ∧ (Φ (AV.v (Value.bool false))))) else (bif (d != d) then (some (True ∧ (Φ (AV.v (Value.bool false))))) else (bif (e != e) then (some (True ∧ (Φ (AV.v (Value.bool false))))) else (bif (f != f) then (some (True ∧ (Φ (AV.v (Value.bool false))))) else (bif (g != g) then (some (True ∧ (Φ (AV.v (Value.bool false))))) else (bif (decide ((1 : Int) ≤ n)) then (bif (!(((CK (1 : Int) (4 : Int) (10 : Int) (5 : Int) (1 : Int) (3 : Int) (2 : Int) n) == (0 : Int)) == (decide (n ≤ (128 : Int))))) then (some (True ∧ (Φ (AV.v (Value.bool false))))) else (bif ((a == a) && ((b == b) && ((c == c) && ((v == v) && ((e == e) && ((f == f) && ((g == g) && true))))))) then (some (True ∧ (Φ (AV.v (Value.bool true))))) else (some (True ∧ (Φ (AV.v (Value.bool false))))))) else (bif (!(((CK (1 : Int) (4 : Int) (10 : Int) (5 : Int) (1 : Int) (3 : Int) (2 : Int) n) == (0 : Int)) == false)) then (some (True ∧ (Φ (AV.v (Value.bool false))))) else (bif ((a == a) && ((b == b) && ((c == c) && ((v == v) && ((e == e) && ((f == f) && ((g == g) && true))))))) then (some (True ∧ (Φ (AV.v (Value.bool true))))) else (some (True ∧ (Φ (AV.v (Value.bool false)))))))))))))))) := by kernel_rfl
end Go.Proofs.YtnicocfcgkcjaaaDoor.AE
namespace Go.Proofs.YtnicocfcgkcjaaaDoor.AE
open Go.RowKit
theorem t_set5 (CK : Int → Int → Int → Int → Int → Int → Int → Int → Int) (tS tR : TypeId) (pS pR : Value) (a b c d e f g n : Int) (v : Int) (Φ : AV → Prop) : callK (roK tS pS tR pR) (fun _ => false) (prV CK) 8 3 [.v (kn a b c d e f g), .v (.int .i64 n), .v (.agg #[.string ⟨#[102, 108, 111, 111, 114]⟩, .int .i64 v])] (hp [] []) (fun r h => some (h.cd ∧ Φ r)) =
    (bif ((CK a b c d e f g n) != (CK a b c d e f g n)) then (some (True ∧ (Φ (AV.v (Value.bool false))))) else (bif (a != a) then (some (True ∧ (Φ (AV.v (Value.bool false))))) else (bif (b != b) then (some (True ∧ (Φ (AV.v (Value.bool false))))) else (bif (c != c) then (some (True ∧ (Φ (AV.v (Value.bool false))))) else (bif (d != d) then (some (True ∧ (Φ (AV.v (Value.bool false))))) else (bif (e != e) then (some (True ∧ (Φ (AV.v (Value.bool false))))) else (bif (f != f) then (some (True ∧ (Φ (AV.v (Value.bool false))))) else (bif (g != g) then (some (True ∧ (Φ (AV.v (Value.bool false))))) else (bif (decide ((1 : Int) ≤ n)) then (bif (!(((CK (1 : Int) (4 : Int) (10 : Int) (5 : Int) (1 : Int) (3 : Int) (2 : Int) n) == (0 : Int)) == (decide (n ≤ (128 : Int))))) then (some (True ∧ (Φ (AV.v (Value.bool false))))) else (bif ((a == a) && ((b == b) && ((c == c) && ((d == d) && ((v == v) && ((f == f) && ((g == g) && true))))))) then (some (True ∧ (Φ (AV.v (Value.bool true))))) else (some (True ∧ (Φ (AV.v (Value.bool false))))))) else (bif (!(((CK (1 : Int) (4 : Int) (10 : Int) (5 : Int) (1 : Int) (3 : Int) (2 : Int) n) == (0 : Int)) == false)) then (some (True ∧ (Φ (AV.v (Value.bool false))))) else (bif ((a == a) && ((b == b) && ((c == c) && ((d == d) && ((v == v) && ((f == f) && ((g == g) && true))))))) then (some (True ∧ (Φ (AV.v (Value.bool true))))) else (some (True ∧ (Φ (AV.v (Value.bool false)))))))))))))))) := by kernel_rfl
end Go.Proofs.YtnicocfcgkcjaaaDoor.AE
namespace Go.Proofs.YtnicocfcgkcjaaaDoor.AE
open Go.RowKit
theorem t_set6 (CK : Int → Int → Int → Int → Int → Int → Int → Int → Int) (tS tR : TypeId) (pS pR : Value) (a b c d e f g n : Int) (v : Int) (Φ : AV → Prop) : callK (roK tS pS tR pR) (fun _ => false) (prV CK) 8 3 [.v (kn a b c d e f g), .v (.int .i64 n), .v (.agg #[.string ⟨#[116, 117, 114, 110]⟩, .int .i64 v])] (hp [] []) (fun r h => some (h.cd ∧ Φ r)) =
    (bif ((CK a b c d e f g n) != (CK a b c d e f g n)) then (some (True ∧ (Φ (AV.v (Value.bool false))))) else (bif (a != a) then (some (True ∧ (Φ (AV.v (Value.bool false))))) else (bif (b != b) then (some (True ∧ (Φ (AV.v (Value.bool false))))) else (bif (c != c) then (some (True ∧ (Φ (AV.v (Value.bool false))))) else (bif (d != d) then (some (True ∧ (Φ (AV.v (Value.bool false))))) else (bif (e != e) then (some (True ∧ (Φ (AV.v (Value.bool false))))) else (bif (f != f) then (some (True ∧ (Φ (AV.v (Value.bool false))))) else (bif (g != g) then (some (True ∧ (Φ (AV.v (Value.bool false))))) else (bif (decide ((1 : Int) ≤ n)) then (bif (!(((CK (1 : Int) (4 : Int) (10 : Int) (5 : Int) (1 : Int) (3 : Int) (2 : Int) n) == (0 : Int)) == (decide (n ≤ (128 : Int))))) then (some (True ∧ (Φ (AV.v (Value.bool false))))) else (bif ((a == a) && ((b == b) && ((c == c) && ((d == d) && ((e == e) && ((v == v) && ((g == g) && true))))))) then (some (True ∧ (Φ (AV.v (Value.bool true))))) else (some (True ∧ (Φ (AV.v (Value.bool false))))))) else (bif (!(((CK (1 : Int) (4 : Int) (10 : Int) (5 : Int) (1 : Int) (3 : Int) (2 : Int) n) == (0 : Int)) == false)) then (some (True ∧ (Φ (AV.v (Value.bool false))))) else (bif ((a == a) && ((b == b) && ((c == c) && ((d == d) && ((e == e) && ((v == v) && ((g == g) && true))))))) then (some (True ∧ (Φ (AV.v (Value.bool true))))) else (some (True ∧ (Φ (AV.v (Value.bool false)))))))))))))))) := by kernel_rfl
end Go.Proofs.YtnicocfcgkcjaaaDoor.AE
namespace Go.Proofs.YtnicocfcgkcjaaaDoor.AE
open Go.RowKit
theorem t_set7 (CK : Int → Int → Int → Int → Int → Int → Int → Int → Int) (tS tR : TypeId) (pS pR : Value) (a b c d e f g n : Int) (v : Int) (Φ : AV → Prop) : callK (roK tS pS tR pR) (fun _ => false) (prV CK) 8 3 [.v (kn a b c d e f g), .v (.int .i64 n), .v (.agg #[.string ⟨#[100, 119, 101, 108, 108]⟩, .int .i64 v])] (hp [] []) (fun r h => some (h.cd ∧ Φ r)) =
    (bif ((CK a b c d e f g n) != (CK a b c d e f g n)) then (some (True ∧ (Φ (AV.v (Value.bool false))))) else (bif (a != a) then (some (True ∧ (Φ (AV.v (Value.bool false))))) else (bif (b != b) then (some (True ∧ (Φ (AV.v (Value.bool false))))) else (bif (c != c) then (some (True ∧ (Φ (AV.v (Value.bool false))))) else (bif (d != d) then (some (True ∧ (Φ (AV.v (Value.bool false))))) else (bif (e != e) then (some (True ∧ (Φ (AV.v (Value.bool false))))) else (bif (f != f) then (some (True ∧ (Φ (AV.v (Value.bool false))))) else (bif (g != g) then (some (True ∧ (Φ (AV.v (Value.bool false))))) else (bif (decide ((1 : Int) ≤ n)) then (bif (!(((CK (1 : Int) (4 : Int) (10 : Int) (5 : Int) (1 : Int) (3 : Int) (2 : Int) n) == (0 : Int)) == (decide (n ≤ (128 : Int))))) then (some (True ∧ (Φ (AV.v (Value.bool false))))) else (bif ((a == a) && ((b == b) && ((c == c) && ((d == d) && ((e == e) && ((f == f) && ((v == v) && true))))))) then (some (True ∧ (Φ (AV.v (Value.bool true))))) else (some (True ∧ (Φ (AV.v (Value.bool false))))))) else (bif (!(((CK (1 : Int) (4 : Int) (10 : Int) (5 : Int) (1 : Int) (3 : Int) (2 : Int) n) == (0 : Int)) == false)) then (some (True ∧ (Φ (AV.v (Value.bool false))))) else (bif ((a == a) && ((b == b) && ((c == c) && ((d == d) && ((e == e) && ((f == f) && ((v == v) && true))))))) then (some (True ∧ (Φ (AV.v (Value.bool true))))) else (some (True ∧ (Φ (AV.v (Value.bool false)))))))))))))))) := by kernel_rfl
end Go.Proofs.YtnicocfcgkcjaaaDoor.AE
namespace Go.Proofs.YtnicocfcgkcjaaaDoor.AE
open Go.RowKit
theorem t_setno (CK : Int → Int → Int → Int → Int → Int → Int → Int → Int) (tS tR : TypeId) (pS pR : Value) (a b c d e f g n : Int) (O : List AV → Bool) (s : ByteArray) (v : Int) (Φ : AV → Prop) : callK (roK tS pS tR pR) (fun _ => false) (prF CK O) 8 3 [.v (kn a b c d e f g), .v (.int .i64 n), .v (.agg #[.string s, .int .i64 v])] (hp [] []) (fun r h => some (h.cd ∧ Φ r)) =
    (bif (decide ((60 : Int) < ((ByteArray.size s) : Int))) then (some (True ∧ (Φ (AV.v (Value.bool true))))) else (bif ((CK a b c d e f g n) != (CK a b c d e f g n)) then (some (True ∧ (Φ (AV.v (Value.bool false))))) else (bif (a != a) then (some (True ∧ (Φ (AV.v (Value.bool false))))) else (bif (b != b) then (some (True ∧ (Φ (AV.v (Value.bool false))))) else (bif (c != c) then (some (True ∧ (Φ (AV.v (Value.bool false))))) else (bif (d != d) then (some (True ∧ (Φ (AV.v (Value.bool false))))) else (bif (e != e) then (some (True ∧ (Φ (AV.v (Value.bool false))))) else (bif (f != f) then (some (True ∧ (Φ (AV.v (Value.bool false))))) else (bif (g != g) then (some (True ∧ (Φ (AV.v (Value.bool false))))) else (bif (decide ((1 : Int) ≤ n)) then (bif (!(((CK (1 : Int) (4 : Int) (10 : Int) (5 : Int) (1 : Int) (3 : Int) (2 : Int) n) == (0 : Int)) == (decide (n ≤ (128 : Int))))) then (some (True ∧ (Φ (AV.v (Value.bool false))))) else (some ((cdb (cdb True (O [(AV.v (Value.string s)), (AV.lst (1 : Nat) [(AV.v (Value.string (ByteArray.mk #[(@OfNat.ofNat UInt8 (108 : Nat) (@UInt8.instOfNat 108)), (@OfNat.ofNat UInt8 (111 : Nat) (@UInt8.instOfNat 111)), (@OfNat.ofNat UInt8 (119 : Nat) (@UInt8.instOfNat 119))]))), (AV.v (Value.string (ByteArray.mk #[(@OfNat.ofNat UInt8 (104 : Nat) (@UInt8.instOfNat 104)), (@OfNat.ofNat UInt8 (105 : Nat) (@UInt8.instOfNat 105)), (@OfNat.ofNat UInt8 (103 : Nat) (@UInt8.instOfNat 103)), (@OfNat.ofNat UInt8 (104 : Nat) (@UInt8.instOfNat 104))]))), (AV.v (Value.string (ByteArray.mk #[(@OfNat.ofNat UInt8 (99 : Nat) (@UInt8.instOfNat 99)), (@OfNat.ofNat UInt8 (117 : Nat) (@UInt8.instOfNat 117)), (@OfNat.ofNat UInt8 (116 : Nat) (@UInt8.instOfNat 116))]))), (AV.v (Value.string (ByteArray.mk #[(@OfNat.ofNat UInt8 (108 : Nat) (@UInt8.instOfNat 108)), (@OfNat.ofNat UInt8 (105 : Nat) (@UInt8.instOfNat 105)), (@OfNat.ofNat UInt8 (102 : Nat) (@UInt8.instOfNat 102)), (@OfNat.ofNat UInt8 (116 : Nat) (@UInt8.instOfNat 116))]))), (AV.v (Value.string (ByteArray.mk #[(@OfNat.ofNat UInt8 (102 : Nat) (@UInt8.instOfNat 102)), (@OfNat.ofNat UInt8 (108 : Nat) (@UInt8.instOfNat 108)), (@OfNat.ofNat UInt8 (111 : Nat) (@UInt8.instOfNat 111)), (@OfNat.ofNat UInt8 (111 : Nat) (@UInt8.instOfNat 111)), (@OfNat.ofNat UInt8 (114 : Nat) (@UInt8.instOfNat 114))]))), (AV.v (Value.string (ByteArray.mk #[(@OfNat.ofNat UInt8 (116 : Nat) (@UInt8.instOfNat 116)), (@OfNat.ofNat UInt8 (117 : Nat) (@UInt8.instOfNat 117)), (@OfNat.ofNat UInt8 (114 : Nat) (@UInt8.instOfNat 114)), (@OfNat.ofNat UInt8 (110 : Nat) (@UInt8.instOfNat 110))]))), (AV.v (Value.string (ByteArray.mk #[(@OfNat.ofNat UInt8 (100 : Nat) (@UInt8.instOfNat 100)), (@OfNat.ofNat UInt8 (119 : Nat) (@UInt8.instOfNat 119)), (@OfNat.ofNat UInt8 (101 : Nat) (@UInt8.instOfNat 101)), (@OfNat.ofNat UInt8 (108 : Nat) (@UInt8.instOfNat 108)), (@OfNat.ofNat UInt8 (108 : Nat) (@UInt8.instOfNat 108))])))] Tip.no)])) (O [(AV.v (Value.string s)), (AV.lst (1 : Nat) [(AV.v (Value.string (ByteArray.mk #[(@OfNat.ofNat UInt8 (108 : Nat) (@UInt8.instOfNat 108)), (@OfNat.ofNat UInt8 (111 : Nat) (@UInt8.instOfNat 111)), (@OfNat.ofNat UInt8 (119 : Nat) (@UInt8.instOfNat 119))]))), (AV.v (Value.string (ByteArray.mk #[(@OfNat.ofNat UInt8 (104 : Nat) (@UInt8.instOfNat 104)), (@OfNat.ofNat UInt8 (105 : Nat) (@UInt8.instOfNat 105)), (@OfNat.ofNat UInt8 (103 : Nat) (@UInt8.instOfNat 103)), (@OfNat.ofNat UInt8 (104 : Nat) (@UInt8.instOfNat 104))]))), (AV.v (Value.string (ByteArray.mk #[(@OfNat.ofNat UInt8 (99 : Nat) (@UInt8.instOfNat 99)), (@OfNat.ofNat UInt8 (117 : Nat) (@UInt8.instOfNat 117)), (@OfNat.ofNat UInt8 (116 : Nat) (@UInt8.instOfNat 116))]))), (AV.v (Value.string (ByteArray.mk #[(@OfNat.ofNat UInt8 (108 : Nat) (@UInt8.instOfNat 108)), (@OfNat.ofNat UInt8 (105 : Nat) (@UInt8.instOfNat 105)), (@OfNat.ofNat UInt8 (102 : Nat) (@UInt8.instOfNat 102)), (@OfNat.ofNat UInt8 (116 : Nat) (@UInt8.instOfNat 116))]))), (AV.v (Value.string (ByteArray.mk #[(@OfNat.ofNat UInt8 (102 : Nat) (@UInt8.instOfNat 102)), (@OfNat.ofNat UInt8 (108 : Nat) (@UInt8.instOfNat 108)), (@OfNat.ofNat UInt8 (111 : Nat) (@UInt8.instOfNat 111)), (@OfNat.ofNat UInt8 (111 : Nat) (@UInt8.instOfNat 111)), (@OfNat.ofNat UInt8 (114 : Nat) (@UInt8.instOfNat 114))]))), (AV.v (Value.string (ByteArray.mk #[(@OfNat.ofNat UInt8 (116 : Nat) (@UInt8.instOfNat 116)), (@OfNat.ofNat UInt8 (117 : Nat) (@UInt8.instOfNat 117)), (@OfNat.ofNat UInt8 (114 : Nat) (@UInt8.instOfNat 114)), (@OfNat.ofNat UInt8 (110 : Nat) (@UInt8.instOfNat 110))]))), (AV.v (Value.string (ByteArray.mk #[(@OfNat.ofNat UInt8 (100 : Nat) (@UInt8.instOfNat 100)), (@OfNat.ofNat UInt8 (119 : Nat) (@UInt8.instOfNat 119)), (@OfNat.ofNat UInt8 (101 : Nat) (@UInt8.instOfNat 101)), (@OfNat.ofNat UInt8 (108 : Nat) (@UInt8.instOfNat 108)), (@OfNat.ofNat UInt8 (108 : Nat) (@UInt8.instOfNat 108))])))] Tip.exact)])) ∧ (Φ (AV.v (Value.bool true)))))) else (bif (!(((CK (1 : Int) (4 : Int) (10 : Int) (5 : Int) (1 : Int) (3 : Int) (2 : Int) n) == (0 : Int)) == false)) then (some (True ∧ (Φ (AV.v (Value.bool false))))) else (some ((cdb (cdb True (O [(AV.v (Value.string s)), (AV.lst (1 : Nat) [(AV.v (Value.string (ByteArray.mk #[(@OfNat.ofNat UInt8 (108 : Nat) (@UInt8.instOfNat 108)), (@OfNat.ofNat UInt8 (111 : Nat) (@UInt8.instOfNat 111)), (@OfNat.ofNat UInt8 (119 : Nat) (@UInt8.instOfNat 119))]))), (AV.v (Value.string (ByteArray.mk #[(@OfNat.ofNat UInt8 (104 : Nat) (@UInt8.instOfNat 104)), (@OfNat.ofNat UInt8 (105 : Nat) (@UInt8.instOfNat 105)), (@OfNat.ofNat UInt8 (103 : Nat) (@UInt8.instOfNat 103)), (@OfNat.ofNat UInt8 (104 : Nat) (@UInt8.instOfNat 104))]))), (AV.v (Value.string (ByteArray.mk #[(@OfNat.ofNat UInt8 (99 : Nat) (@UInt8.instOfNat 99)), (@OfNat.ofNat UInt8 (117 : Nat) (@UInt8.instOfNat 117)), (@OfNat.ofNat UInt8 (116 : Nat) (@UInt8.instOfNat 116))]))), (AV.v (Value.string (ByteArray.mk #[(@OfNat.ofNat UInt8 (108 : Nat) (@UInt8.instOfNat 108)), (@OfNat.ofNat UInt8 (105 : Nat) (@UInt8.instOfNat 105)), (@OfNat.ofNat UInt8 (102 : Nat) (@UInt8.instOfNat 102)), (@OfNat.ofNat UInt8 (116 : Nat) (@UInt8.instOfNat 116))]))), (AV.v (Value.string (ByteArray.mk #[(@OfNat.ofNat UInt8 (102 : Nat) (@UInt8.instOfNat 102)), (@OfNat.ofNat UInt8 (108 : Nat) (@UInt8.instOfNat 108)), (@OfNat.ofNat UInt8 (111 : Nat) (@UInt8.instOfNat 111)), (@OfNat.ofNat UInt8 (111 : Nat) (@UInt8.instOfNat 111)), (@OfNat.ofNat UInt8 (114 : Nat) (@UInt8.instOfNat 114))]))), (AV.v (Value.string (ByteArray.mk #[(@OfNat.ofNat UInt8 (116 : Nat) (@UInt8.instOfNat 116)), (@OfNat.ofNat UInt8 (117 : Nat) (@UInt8.instOfNat 117)), (@OfNat.ofNat UInt8 (114 : Nat) (@UInt8.instOfNat 114)), (@OfNat.ofNat UInt8 (110 : Nat) (@UInt8.instOfNat 110))]))), (AV.v (Value.string (ByteArray.mk #[(@OfNat.ofNat UInt8 (100 : Nat) (@UInt8.instOfNat 100)), (@OfNat.ofNat UInt8 (119 : Nat) (@UInt8.instOfNat 119)), (@OfNat.ofNat UInt8 (101 : Nat) (@UInt8.instOfNat 101)), (@OfNat.ofNat UInt8 (108 : Nat) (@UInt8.instOfNat 108)), (@OfNat.ofNat UInt8 (108 : Nat) (@UInt8.instOfNat 108))])))] Tip.no)])) (O [(AV.v (Value.string s)), (AV.lst (1 : Nat) [(AV.v (Value.string (ByteArray.mk #[(@OfNat.ofNat UInt8 (108 : Nat) (@UInt8.instOfNat 108)), (@OfNat.ofNat UInt8 (111 : Nat) (@UInt8.instOfNat 111)), (@OfNat.ofNat UInt8 (119 : Nat) (@UInt8.instOfNat 119))]))), (AV.v (Value.string (ByteArray.mk #[(@OfNat.ofNat UInt8 (104 : Nat) (@UInt8.instOfNat 104)), (@OfNat.ofNat UInt8 (105 : Nat) (@UInt8.instOfNat 105)), (@OfNat.ofNat UInt8 (103 : Nat) (@UInt8.instOfNat 103)), (@OfNat.ofNat UInt8 (104 : Nat) (@UInt8.instOfNat 104))]))), (AV.v (Value.string (ByteArray.mk #[(@OfNat.ofNat UInt8 (99 : Nat) (@UInt8.instOfNat 99)), (@OfNat.ofNat UInt8 (117 : Nat) (@UInt8.instOfNat 117)), (@OfNat.ofNat UInt8 (116 : Nat) (@UInt8.instOfNat 116))]))), (AV.v (Value.string (ByteArray.mk #[(@OfNat.ofNat UInt8 (108 : Nat) (@UInt8.instOfNat 108)), (@OfNat.ofNat UInt8 (105 : Nat) (@UInt8.instOfNat 105)), (@OfNat.ofNat UInt8 (102 : Nat) (@UInt8.instOfNat 102)), (@OfNat.ofNat UInt8 (116 : Nat) (@UInt8.instOfNat 116))]))), (AV.v (Value.string (ByteArray.mk #[(@OfNat.ofNat UInt8 (102 : Nat) (@UInt8.instOfNat 102)), (@OfNat.ofNat UInt8 (108 : Nat) (@UInt8.instOfNat 108)), (@OfNat.ofNat UInt8 (111 : Nat) (@UInt8.instOfNat 111)), (@OfNat.ofNat UInt8 (111 : Nat) (@UInt8.instOfNat 111)), (@OfNat.ofNat UInt8 (114 : Nat) (@UInt8.instOfNat 114))]))), (AV.v (Value.string (ByteArray.mk #[(@OfNat.ofNat UInt8 (116 : Nat) (@UInt8.instOfNat 116)), (@OfNat.ofNat UInt8 (117 : Nat) (@UInt8.instOfNat 117)), (@OfNat.ofNat UInt8 (114 : Nat) (@UInt8.instOfNat 114)), (@OfNat.ofNat UInt8 (110 : Nat) (@UInt8.instOfNat 110))]))), (AV.v (Value.string (ByteArray.mk #[(@OfNat.ofNat UInt8 (100 : Nat) (@UInt8.instOfNat 100)), (@OfNat.ofNat UInt8 (119 : Nat) (@UInt8.instOfNat 119)), (@OfNat.ofNat UInt8 (101 : Nat) (@UInt8.instOfNat 101)), (@OfNat.ofNat UInt8 (108 : Nat) (@UInt8.instOfNat 108)), (@OfNat.ofNat UInt8 (108 : Nat) (@UInt8.instOfNat 108))])))] Tip.exact)])) ∧ (Φ (AV.v (Value.bool true)))))))))))))))) := by kernel_rfl
end Go.Proofs.YtnicocfcgkcjaaaDoor.AE
namespace Go.Proofs.YtnicocfcgkcjaaaDoor.AE
open Go.RowKit
def okC (a b c d e f g n : Int) : Prop := 1 ≤ n ∧ n ≤ 128 ∧ 0 ≤ a ∧ a ≤ b ∧ b ≤ 10000 ∧ 1 ≤ c ∧ c ≤ 99 ∧ 1 ≤ d ∧ d ≤ 100 ∧ 0 ≤ e ∧ e ≤ n ∧ 1 ≤ f ∧ f ≤ 32 ∧ 1 ≤ g ∧ g ≤ 32
instance (a b c d e f g n : Int) : Decidable (okC a b c d e f g n) := by unfold okC; infer_instance
def ckV (a b c d e f g n : Int) : Int := if okC a b c d e f g n then 0 else 10
theorem ck_no {a b c d e f g n : Int} (h : ¬ okC a b c d e f g n) : AV.v (.int .i64 10) = .v (.int .i64 (ckV a b c d e f g n)) := by unfold ckV; rw [if_neg h]
theorem ck_yes {a b c d e f g n : Int} (h : okC a b c d e f g n) : AV.v (.int .i64 0) = .v (.int .i64 (ckV a b c d e f g n)) := by unfold ckV; rw [if_pos h]
theorem k_namesH (tS tR : TypeId) (pS pR : Value) (Φ : AV → AH → Prop) : callK (roK tS pS tR pR) (fun _ => false) (fun _ => none) 8 13 [] (hp [] []) (fun r h => some (h.cd ∧ Φ r (tidy h))) =
    (some (True ∧ (Φ (AV.sl (0 : Nat) (0 : Nat) (7 : Nat) (7 : Nat)) (AH.mk [((48 : Nat), [(AV.v (Value.string (ByteArray.mk #[(@OfNat.ofNat UInt8 (108 : Nat) (@UInt8.instOfNat 108)), (@OfNat.ofNat UInt8 (111 : Nat) (@UInt8.instOfNat 111)), (@OfNat.ofNat UInt8 (119 : Nat) (@UInt8.instOfNat 119))]))), (AV.v (Value.string (ByteArray.mk #[(@OfNat.ofNat UInt8 (104 : Nat) (@UInt8.instOfNat 104)), (@OfNat.ofNat UInt8 (105 : Nat) (@UInt8.instOfNat 105)), (@OfNat.ofNat UInt8 (103 : Nat) (@UInt8.instOfNat 103)), (@OfNat.ofNat UInt8 (104 : Nat) (@UInt8.instOfNat 104))]))), (AV.v (Value.string (ByteArray.mk #[(@OfNat.ofNat UInt8 (99 : Nat) (@UInt8.instOfNat 99)), (@OfNat.ofNat UInt8 (117 : Nat) (@UInt8.instOfNat 117)), (@OfNat.ofNat UInt8 (116 : Nat) (@UInt8.instOfNat 116))]))), (AV.v (Value.string (ByteArray.mk #[(@OfNat.ofNat UInt8 (108 : Nat) (@UInt8.instOfNat 108)), (@OfNat.ofNat UInt8 (105 : Nat) (@UInt8.instOfNat 105)), (@OfNat.ofNat UInt8 (102 : Nat) (@UInt8.instOfNat 102)), (@OfNat.ofNat UInt8 (116 : Nat) (@UInt8.instOfNat 116))]))), (AV.v (Value.string (ByteArray.mk #[(@OfNat.ofNat UInt8 (102 : Nat) (@UInt8.instOfNat 102)), (@OfNat.ofNat UInt8 (108 : Nat) (@UInt8.instOfNat 108)), (@OfNat.ofNat UInt8 (111 : Nat) (@UInt8.instOfNat 111)), (@OfNat.ofNat UInt8 (111 : Nat) (@UInt8.instOfNat 111)), (@OfNat.ofNat UInt8 (114 : Nat) (@UInt8.instOfNat 114))]))), (AV.v (Value.string (ByteArray.mk #[(@OfNat.ofNat UInt8 (116 : Nat) (@UInt8.instOfNat 116)), (@OfNat.ofNat UInt8 (117 : Nat) (@UInt8.instOfNat 117)), (@OfNat.ofNat UInt8 (114 : Nat) (@UInt8.instOfNat 114)), (@OfNat.ofNat UInt8 (110 : Nat) (@UInt8.instOfNat 110))]))), (AV.v (Value.string (ByteArray.mk #[(@OfNat.ofNat UInt8 (100 : Nat) (@UInt8.instOfNat 100)), (@OfNat.ofNat UInt8 (119 : Nat) (@UInt8.instOfNat 119)), (@OfNat.ofNat UInt8 (101 : Nat) (@UInt8.instOfNat 101)), (@OfNat.ofNat UInt8 (108 : Nat) (@UInt8.instOfNat 108)), (@OfNat.ofNat UInt8 (108 : Nat) (@UInt8.instOfNat 108))])))])] (@List.nil Nat) (0 : Nat) (0 : Nat) true (@List.nil (Prod Nat Bool)) True)))) := by kernel_rfl
theorem k_rvals (tS tR : TypeId) (pS pR : Value) (a b c d e f g : Int) (Φ : AV → Prop) : callK (roK tS pS tR pR) (fun _ => false) (fun _ => none) 8 11 [.v (kn a b c d e f g)] (hp [] []) (fun r h => some (h.cd ∧ Φ r)) =
    (some (True ∧ (Φ (AV.lst (1 : Nat) [(AV.v (Value.int IntKind.i64 a)), (AV.v (Value.int IntKind.i64 b)), (AV.v (Value.int IntKind.i64 c)), (AV.v (Value.int IntKind.i64 d)), (AV.v (Value.int IntKind.i64 e)), (AV.v (Value.int IntKind.i64 f)), (AV.v (Value.int IntKind.i64 g))] Tip.exact)))) := by kernel_rfl
section
variable {tS tR : TypeId} {pS pR : Value}
theorem fs_check (a b c d e f g n : Int) : Fs Tryd.prog (roK tS pS tR pR) 7 [.v (kn a b c d e f g), .v (.int .i64 n)] (hp [] []) fun r _ => r = .v (.int .i64 (ckV a b c d e f g n)) := by
  refine Fs.of_call (known_none _) (k_check tS tR pS pR a b c d e f g n fun r => r = .v (.int .i64 (ckV a b c d e f g n))) ?_
  repeat' (with_reducible refine holds_bif ?_ ?_ <;> intro h <;> simp only [decide_eq_true_eq, decide_eq_false_iff_not] at h)
  all_goals refine ⟨trivial, ?_⟩
  all_goals first
    | exact ck_no (by unfold okC; omega)
    | exact ck_yes (by unfold okC; omega)
theorem fs_rcheck (a b c d e f g n : Int) : Fs Tryd.prog (roK tS pS tR pR) 8 [.v (kn a b c d e f g), .v (.int .i64 n)] (hp [] []) fun r _ => r = .v (.int .i64 (ckV a b c d e f g n)) := by
  refine Fs.of_call (known_none _) (k_rcheck tS tR pS pR a b c d e f g n fun r => r = .v (.int .i64 (ckV a b c d e f g n))) ?_
  repeat' (with_reducible refine holds_bif ?_ ?_ <;> intro h <;> simp only [decide_eq_true_eq, decide_eq_false_iff_not] at h)
  all_goals refine ⟨trivial, ?_⟩
  all_goals first
    | exact ck_no (by unfold okC; omega)
    | exact ck_yes (by unfold okC; omega)
theorem ck_ok {h : FuncId} (hf : ∃ fn, Tryd.prog.funcs[h]? = some fn ∧ fn.body.isSome = true) (hs : ∀ a b c d e f g n, Fs Tryd.prog (roK tS pS tR pR) h [.v (kn a b c d e f g), .v (.int .i64 n)] (hp [] []) fun r _ => r = .v (.int .i64 (ckV a b c d e f g n))) :
    ∀ args H r H', pure? (ckP ckV) args H = some (r, H') → HSound1 Tryd.prog (roK tS pS tR pR) h args H r H' := by
  refine pure_ok (fun us x hx => ?_) hf
  unfold ckP at hx
  split at hx
  · rename_i cs n
    split at hx
    · rename_i a b c d e f g hv
      simp only [Option.some.injEq, Prod.mk.injEq, and_true] at hx
      subst hx
      have e1 : cs = #[.int .i64 a, .int .i64 b, .int .i64 c, .int .i64 d, .int .i64 e, .int .i64 f, .int .i64 g] := by
        have := vi_eq hv
        exact Array.toList_inj.1 this
      subst e1
      exact hs a b c d e f g n
    · cases hx
  · cases hx
theorem Tr.ret {P : Program} {ro : Nat → Option (List Value)} {act : List AV} {H : AH} {Q : Exit → List AV → AH → Prop} (h : Q .ret act H) : Tr P ro .ret act H Q := fun G W a hI _ hA => wp_ret ⟨act, H, G, h, .refl _ _, hI, hA, rfl⟩
theorem rv_sl : slotsOf 11 = 18 := by kernel_rfl
theorem rv_re : resultsOf 11 = [.tmp 2] := by kernel_rfl
theorem rv_fl : (flatten (bodyOf 11)).drop 1 = [sub (bodyOf 11) [1, 0], .ret] := by kernel_rfl
theorem fs_rvalN (a b c d e f g : Int) : Fs Tryd.prog (roK tS pS tR pR) 11 [.v (kn a b c d e f g)] (hp [] []) fun r H => ∃ id, r = .sl id 0 7 7 ∧ H.blks[id]? = some (3, [Value.int .i64 a, .int .i64 b, .int .i64 c, .int .i64 d, .int .i64 e, .int .i64 f, .int .i64 g].map AV.v) := by
  refine Fs.of_body (has_fn (by kernel_rfl)) ?_
  rw [rv_sl, rv_re]
  refine Tr.of_flat (Trl.split 1 (Trl.of_code (known_none _) (ne_nil (by kernel_rfl)) (rv_pre tS tR pS pR a b c d e f g _) ⟨trivial, ?_⟩))
  show Trl _ _ ((flatten (bodyOf 11)).drop 1) _ _ _
  rw [rv_fl]
  exact Tr.of_lit (known_none _) (rv_lit tS tR pS pR a b c d e f g _) ⟨trivial, Tr.ret ⟨.inr rfl, trivial, 1, rfl, rfl⟩⟩
theorem fs_rvalD (a b c d e f g : Int) : Fs Tryd.prog (roK tS pS tR pR) 11 [.v (kn a b c d e f g)] (hp [] []) fun r _ => clean r = some (.lst 1 [gi a, gi b, gi c, gi d, gi e, gi f, gi g] .exact) :=
  Fs.of_call (known_none _) (k_rvals tS tR pS pR a b c d e f g fun r => clean r = some (.lst 1 [gi a, gi b, gi c, gi d, gi e, gi f, gi g] .exact)) ⟨trivial, rfl⟩
theorem val_ok : ∀ args H r H', valP args H = some (r, H') → HSound1 Tryd.prog (roK tS pS tR pR) 11 args H r H' := by
  intro args H r H' h
  unfold valP at h
  split at h
  · refine new_ok (has_fn (by kernel_rfl)) (fun args t us hx => ?_) _ _ _ _ h
    unfold valN at hx
    split at hx
    · split at hx
      · rename_i cs _ a b c d e f g hv
        simp only [Option.some.injEq, Prod.mk.injEq, and_true] at hx
        obtain ⟨rfl, rfl⟩ := hx
        have e1 : cs = #[.int .i64 a, .int .i64 b, .int .i64 c, .int .i64 d, .int .i64 e, .int .i64 f, .int .i64 g] := Array.toList_inj.1 (vi_eq hv)
        subst e1
        exact fs_rvalN a b c d e f g
      · cases hx
    · cases hx
  · refine data_ok (has_fn (by kernel_rfl)) (fun args r hx => ?_) _ _ _ _ h
    unfold valD at hx
    split at hx
    · split at hx
      · rename_i cs _ a b c d e f g hv
        simp only [Option.some.injEq, Prod.mk.injEq, and_true] at hx
        subst hx
        have e1 : cs = #[.int .i64 a, .int .i64 b, .int .i64 c, .int .i64 d, .int .i64 e, .int .i64 f, .int .i64 g] := Array.toList_inj.1 (vi_eq hv)
        subst e1
        exact fs_rvalD a b c d e f g
      · cases hx
    · cases hx
theorem names_ok : ∀ args H r H', data? namesP args H = some (r, H') → HSound1 Tryd.prog (roK tS pS tR pR) 13 args H r H' := by
  refine frz_ok (has_fn (by kernel_rfl)) fun args r hx => ?_
  unfold namesP at hx
  split at hx
  · simp only [Option.some.injEq, Prod.mk.injEq, and_true] at hx
    subst hx
    exact Fs.of_call (known_none _) (k_namesH tS tR pS pR fun r' H' => frz r' H' (.lst 1 (namesV.map AV.v) .no)) ⟨trivial, .inr ⟨0, 48, namesV, 7, 7, 1, namesV.map AV.v, rfl, rfl, rfl, rfl, by decide, Nat.le_refl _, by decide, rfl⟩⟩
  · cases hx
theorem knownV : Known (roK tS pS tR pR) (prV ckV) := by
  intro g p h
  unfold prV at h
  split at h
  · cases h; exact ck_ok (has_fn (by kernel_rfl)) fs_check
  · cases h; exact ck_ok (has_fn (by kernel_rfl)) fs_rcheck
  · cases h; exact names_ok
  · cases h; exact val_ok
  · cases h; exact awake_ok18
  · cases h
end
end Go.Proofs.YtnicocfcgkcjaaaDoor.AE
namespace Go.Proofs.YtnicocfcgkcjaaaDoor.AE
open Go.RowKit
def namesB : List ByteArray := [⟨n1.toArray⟩, ⟨n2.toArray⟩, ⟨n3.toArray⟩, ⟨n4.toArray⟩, ⟨n5.toArray⟩, ⟨n6.toArray⟩, ⟨n7.toArray⟩]
def noO (args : List AV) : Bool := findOk args && !(findB (exStr (args.headD .dead)) (args.tail.headD .dead))
theorem fnd_no {w : ByteArray} : ∀ {l : List ByteArray} {i : Nat}, w ∉ l → fnd w i l = none
  | [], _, _ => rfl
  | x :: l, i, h => by
    simp only [List.mem_cons, not_or] at h
    unfold fnd
    rw [if_neg (fun e => h.1 e.symm), fnd_no h.2]
theorem noO_of {s : ByteArray} (h : s ∉ namesB) (t : Tip) : noO [.v (.string s), .lst 1 (namesB.map sv) t] = true := by
  unfold noO
  have h1 : findOk [.v (.string s), .lst 1 (namesB.map sv) t] = true := by
    show (match strsA? (.lst 1 (namesB.map sv) t) with | some l => decide (l.length ≤ 1000000) | none => false) = true
    rw [strsA_lst]; rfl
  rw [h1]
  show (true && !(fndB s (strsX (.lst 1 (namesB.map sv) t)))) = true
  rw [strsX_lst]
  unfold fndB
  rw [fnd_no h]; rfl
theorem fndN_no {w : ByteArray} {l : List ByteArray} (h : fndB w l = false) : fndN w l = 0 := by
  unfold fndB at h
  unfold fndN
  split at h
  · cases h
  · rfl
theorem nf_ok {ro : Nat → Option (List Value)} {g : FuncId} (hk : ∀ args H r H', tot? (findV findN findB) findOk args H = some (r, H') → HSound1 Tryd.prog ro g args H r H') :
    ∀ args H r H', tot? (fun _ => .v (.tuple #[.int .i64 0, .bool false])) noO args H = some (r, H') → HSound1 Tryd.prog ro g args H r H' := by
  intro args H r H' hd
  unfold tot? at hd
  cases hd
  refine ⟨⟨fun x => (cdb_iff.1 x).1, rfl, rfl, rfl, Nat.le_refl _, Nat.le_refl _, fun _ _ _ => rfl, fun _ _ _ => rfl⟩, fun hcd G W cargs hI hR hA => ?_⟩
  have ho := (cdb_iff.1 hcd)
  have ho2 := ho.2
  unfold noO at ho2
  simp only [Bool.and_eq_true, Bool.not_eq_true'] at ho2
  obtain ⟨h1, h2⟩ := (hk args H _ _ rfl).2 (cdb_iff.2 ⟨ho.1, ho2.1⟩) G W cargs hI hR hA
  refine ⟨h1, h2.mono ?_⟩
  rintro e W' ⟨c, G', rfl, e1, e2, e3⟩
  refine ⟨c, G', rfl, e1, e2.same rfl rfl, ?_⟩
  have : findV findN findB args = .v (.tuple #[.int .i64 0, .bool false]) := by
    unfold findV
    rw [ho2.2]
    have : findN (exStr (args.headD .dead)) (args.tail.headD .dead) = 0 := fndN_no ho2.2
    rw [this]
  rw [this] at e3
  exact e3
theorem no_ne {x : Int} {P : Prop} (h : (x != x) = true) : P := by simp at h
theorem us1 {n : Int} (h : 1 ≤ n) : (ckV 1 4 10 5 1 3 2 n == 0) = decide (n ≤ 128) := by
  unfold ckV
  by_cases h2 : n ≤ 128
  · rw [if_pos (by unfold okC; omega), decide_eq_true h2]; rfl
  · rw [if_neg (by unfold okC; omega), decide_eq_false h2]; rfl
theorem us2 {n : Int} (h : ¬ 1 ≤ n) : (ckV 1 4 10 5 1 3 2 n == 0) = false := by
  unfold ckV
  rw [if_neg (by unfold okC; omega)]; rfl
theorem no_us1 {n : Int} {P : Prop} (h : decide (1 ≤ n) = true) (k : (!((ckV 1 4 10 5 1 3 2 n == 0) == decide (n ≤ 128))) = true) : P := by
  rw [us1 (of_decide_eq_true h)] at k; simp at k
theorem no_us2 {n : Int} {P : Prop} (h : decide (1 ≤ n) = false) (k : (!((ckV 1 4 10 5 1 3 2 n == 0) == false)) = true) : P := by
  rw [us2 (of_decide_eq_false h)] at k; simp at k
section
variable {tS tR : TypeId} {pS pR : Value}
theorem knownF : Known (roK tS pS tR pR) (prF ckV noO) := by
  intro g p h
  unfold prF at h
  split at h
  · cases h; exact nf_ok (wfind_ok (has_fn (by kernel_rfl)) fs_find _)
  · cases h; exact nf_ok (wfind_ok (has_fn (by kernel_rfl)) fs_rfind _)
  · exact knownV _ _ h
theorem fs_kchecks (a b c d e f g n : Int) (s : ByteArray) (v : Int) : Fs Tryd.prog (roK tS pS tR pR) 3 [.v (kn a b c d e f g), .v (.int .i64 n), .v (.agg #[.string s, .int .i64 v])] (hp [] []) fun r _ => r = .v (.bool true) := by
  by_cases hs : s ∈ namesB
  · unfold namesB at hs
    simp only [List.mem_cons, List.not_mem_nil, or_false] at hs
    rcases hs with rfl | rfl | rfl | rfl | rfl | rfl | rfl
    · refine Fs.of_call knownV (t_set1 ckV tS tR pS pR a b c d e f g n v fun r => r = .v (.bool true)) ?_
      repeat' (with_reducible refine holds_bif ?_ ?_ <;> intro h)
      all_goals first
        | exact no_ne h
        | exact no_all h
        | exact no_us1 (by assumption) h
        | exact no_us2 (by assumption) h
        | exact ⟨trivial, rfl⟩
    · refine Fs.of_call knownV (t_set2 ckV tS tR pS pR a b c d e f g n v fun r => r = .v (.bool true)) ?_
      repeat' (with_reducible refine holds_bif ?_ ?_ <;> intro h)
      all_goals first
        | exact no_ne h
        | exact no_all h
        | exact no_us1 (by assumption) h
        | exact no_us2 (by assumption) h
        | exact ⟨trivial, rfl⟩
    · refine Fs.of_call knownV (t_set3 ckV tS tR pS pR a b c d e f g n v fun r => r = .v (.bool true)) ?_
      repeat' (with_reducible refine holds_bif ?_ ?_ <;> intro h)
      all_goals first
        | exact no_ne h
        | exact no_all h
        | exact no_us1 (by assumption) h
        | exact no_us2 (by assumption) h
        | exact ⟨trivial, rfl⟩
    · refine Fs.of_call knownV (t_set4 ckV tS tR pS pR a b c d e f g n v fun r => r = .v (.bool true)) ?_
      repeat' (with_reducible refine holds_bif ?_ ?_ <;> intro h)
      all_goals first
        | exact no_ne h
        | exact no_all h
        | exact no_us1 (by assumption) h
        | exact no_us2 (by assumption) h
        | exact ⟨trivial, rfl⟩
    · refine Fs.of_call knownV (t_set5 ckV tS tR pS pR a b c d e f g n v fun r => r = .v (.bool true)) ?_
      repeat' (with_reducible refine holds_bif ?_ ?_ <;> intro h)
      all_goals first
        | exact no_ne h
        | exact no_all h
        | exact no_us1 (by assumption) h
        | exact no_us2 (by assumption) h
        | exact ⟨trivial, rfl⟩
    · refine Fs.of_call knownV (t_set6 ckV tS tR pS pR a b c d e f g n v fun r => r = .v (.bool true)) ?_
      repeat' (with_reducible refine holds_bif ?_ ?_ <;> intro h)
      all_goals first
        | exact no_ne h
        | exact no_all h
        | exact no_us1 (by assumption) h
        | exact no_us2 (by assumption) h
        | exact ⟨trivial, rfl⟩
    · refine Fs.of_call knownV (t_set7 ckV tS tR pS pR a b c d e f g n v fun r => r = .v (.bool true)) ?_
      repeat' (with_reducible refine holds_bif ?_ ?_ <;> intro h)
      all_goals first
        | exact no_ne h
        | exact no_all h
        | exact no_us1 (by assumption) h
        | exact no_us2 (by assumption) h
        | exact ⟨trivial, rfl⟩
  · have hO := noO_of hs
    refine Fs.of_call knownF (t_setno ckV tS tR pS pR a b c d e f g n noO s v fun r => r = .v (.bool true)) ?_
    repeat' (with_reducible refine holds_bif ?_ ?_ <;> intro h)
    all_goals first
      | exact no_ne h
      | exact no_us1 (by assumption) h
      | exact no_us2 (by assumption) h
      | exact ⟨trivial, rfl⟩
      | exact ⟨cdb_iff.2 ⟨cdb_iff.2 ⟨trivial, hO _⟩, hO _⟩, rfl⟩
end
end Go.Proofs.YtnicocfcgkcjaaaDoor.AE
namespace Go.Proofs.YtnicocfcgkcjaaaDoor
open Go.RowKit
section
variable {H : Type} {enc : TypeId × Value → H} {w : World} {base : Nat} {fs : Array Field} {t : TypeId} {v : Value} {d : DataW H} {p : List MemPlace}
set_option maxRecDepth 10000 in
theorem fields_in (ht : Tryd.prog.underlying t = some (.struct fs)) (hone : Deep.oneCellFields Tryd.prog fs = true) (hT : Tryd.prog.cellsOf t = fs.size)
    (hv : Value.okWide Tryd.prog w .any base t v) (h : DataW.Trod enc Tryd.prog w 0 (fun _ => true) true t v d p) :
    ∃ cs : Array Value, v = .agg cs ∧ cs.size = fs.size ∧ ∀ (i : Nat) (T : TypeId), (fs.toList.map (·.type))[i]? = some T → ∃ c y q fuel, cs[i]? = some c ∧ DataW.trod enc Tryd.prog w 0 (fun _ => true) true fuel T [c] = some (y, q) := by
  obtain ⟨cs, rfl, hsz⟩ := WideShapes.okWide_struct ht hv
  rw [hT] at hsz
  obtain ⟨fuel, hf⟩ := h
  obtain ⟨xs, m, _, _, _, hxl, hx⟩ := DataW.trod_struct ht hf
  refine ⟨cs, rfl, hsz, fun i T hi => ?_⟩
  rw [List.getElem?_map, Option.map_eq_some_iff] at hi
  obtain ⟨f, hfi, hfT⟩ := hi
  have hil : i < fs.size := by have := (List.getElem?_eq_some_iff.1 hfi).1; simpa using this
  have hfi' : fs[i]? = some f := by simpa using hfi
  obtain ⟨ho, hk⟩ := Deep.hone_of hone i _ hfi'
  have h1 := hx i _ hfi'
  have hil2 : i < cs.toList.length := by simpa [hsz] using hil
  have hdrop : ((Value.agg cs).cells.toList.drop i).take 1 = [cs.toList[i]] := by
    show (cs.toList.drop i).take 1 = _
    rw [List.drop_eq_getElem_cons hil2]
    rfl
  rw [ho, hk, hdrop, hfT, List.getElem?_eq_getElem (by omega)] at h1
  exact ⟨cs.toList[i], _, _, m, by rw [Array.getElem?_eq_getElem (by omega)]; simp, h1⟩
theorem agg2 {cs : Array Value} {a b : Value} (h : cs.size = 2) (h0 : cs[0]? = some a) (h1 : cs[1]? = some b) : cs = #[a, b] := by
  obtain ⟨l⟩ := cs
  match l, h with
  | [x, y], _ => simp at h0 h1; rw [h0, h1]
theorem agg3 {cs : Array Value} {a b c : Value} (h : cs.size = 3) (h0 : cs[0]? = some a) (h1 : cs[1]? = some b) (h2 : cs[2]? = some c) : cs = #[a, b, c] := by
  obtain ⟨l⟩ := cs
  match l, h with
  | [x, y, z], _ => simp at h0 h1 h2; rw [h0, h1, h2]
theorem cell_int {k : IntKind} {T : TypeId} {c : Value} {x : DataW H × List MemPlace} {fuel : Nat} (hK : Tryd.prog.underlying T = some (.int k)) (h : DataW.trod enc Tryd.prog w 0 (fun _ => true) true fuel T [c] = some x) : ∃ z : Int, c = .int k z ∧ (Lit.int k z).wf = true := by
  obtain ⟨z, hz, _, hwf⟩ := DataW.trod_int hK h
  exact ⟨z, by simpa using hz, hwf⟩
theorem cell_str {T : TypeId} {c : Value} {x : DataW H × List MemPlace} {fuel : Nat} (hK : Tryd.prog.underlying T = some .string) (h : DataW.trod enc Tryd.prog w 0 (fun _ => true) true fuel T [c] = some x) : ∃ s : ByteArray, c = .string s ∧ s.size ≤ maxLen := by
  obtain ⟨s, hs, _, hz⟩ := DataW.trod_string hK h
  exact ⟨s, by simpa using hs, hz⟩
end
end Go.Proofs.YtnicocfcgkcjaaaDoor
namespace Go.Proofs.YtnicocfcgkcjaaaDoor
open Go.RowKit AE
set_option maxRecDepth 100000 in
theorem named_in {H : Type} {enc : TypeId × Value → H} {w : World} {base : Nat} {v : Value} {d : DataW H} {p : List MemPlace}
    (hv : Value.okWide Tryd.prog w .any base 25 v) (h : DataW.Trod enc Tryd.prog w 0 (fun _ => true) true 25 v d p) :
    ∃ (s : ByteArray) (z : Int), v = .agg #[.string s, .int .i64 z] ∧ s.size ≤ maxLen ∧ (Lit.int .i64 z).wf = true := by
  obtain ⟨cs, rfl, hsz, hc⟩ := fields_in Tryd.underlying25 (by kernel_rfl) (by kernel_rfl) hv h
  obtain ⟨c0, x0, q0, f0, e0, k0⟩ := hc 0 _ rfl
  obtain ⟨c1, x1, q1, f1, e1, k1⟩ := hc 1 _ rfl
  obtain ⟨s, rfl, hs⟩ := cell_str Tryd.underlying9 k0
  obtain ⟨z, rfl, hz⟩ := cell_int Tryd.underlying3 k1
  exact ⟨s, z, by rw [agg2 hsz e0 e1], hs, hz⟩
theorem w_KnobChecks (w : World) (hR : ∃ tS pS tR pR, Ro (roK tS pS tR pR) (G0 w) w) (a b c d e f g n : Int) (_ : (Lit.int .i64 n).wf = true) (s : ByteArray) (v : Int) (_ : s.size ≤ maxLen) (_ : (Lit.int .i64 v).wf = true) :
    Calls Tryd.prog 3 #[.agg #[.int .i64 a, .int .i64 b, .int .i64 c, .int .i64 d, .int .i64 e, .int .i64 f, .int .i64 g], .int .i64 n, .agg #[.string s, .int .i64 v]] w fun e w' => e = .returned (.bool true) ∧ Below w.heap.size w w' := by
  obtain ⟨tS, pS, tR, pR, hR⟩ := hR
  exact law_true (fs_kchecks a b c d e f g n s v) w _ hR (.cons (.v _) (.cons (.v _) (.cons (.v _) .nil)))
end Go.Proofs.YtnicocfcgkcjaaaDoor
