/-
  Layer 39: what is known; the lines of events, as trees.
-/
import Derived.Test.YtodjeammjdgkoaaDoorAEIter
import Derived.Test.YtodjeammjdgkoaaDoorAETr
import Derived.Test.YtodjeammjdgkoaaDoorAEData
import Derived.Lib.Bytealg
import Derived.Laws.Externs
import Derived.Test.YtodjeammjdgkoaaDoorAEList
import Derived.Test.YtodjeammjdgkoaaDoorShelf
import Derived.Lib.SplitLaws
import Derived.Lib.AppendIntMem
import Derived.Lib.AtoiAllCases
namespace Go.Proofs.YtodjeammjdgkoaaDoor.AE
open Go.RowKit
def itP (k : Nat) : AV := .v (.pointer (some ⟨k, 0, none⟩))
def tupT (p r : Int) : AV := .v (.tuple #[.bool true, .int .i64 p, .int .i32 r])
def tupF : AV := .v (.tuple #[.bool false])
def lnA (s : ByteArray) (x : AV) (st : Int) (k : Nat) (t b : AV) : List AV := [.v (.string s), .dead, .dead, x, .v (.int .i64 st), .dead, .dead, .dead, itP k, t, b] ++ List.replicate 24 .dead
def wdA (s : ByteArray) (x : AV) (st en : Int) (k : Nat) (t b : AV) : List AV := [.v (.string s), .dead, .dead, x, .v (.int .i64 st), .v (.int .i64 en), .dead, .dead, .dead, .dead, .dead, itP k, t, b] ++ List.replicate 31 .dead
theorem ln_pre (s : ByteArray) (R : Exit → List AV → AH → Prop) : codeL nro (fun _ => false) (fun _ => none) 5 ((flatten (bodyOf 38)).take 3) ([.v (.string s)] ++ List.replicate 34 (.v undef)) (hp [] []) (kp [0, 3, 4] R) =
    (some (True ∧ (R Exit.normal [(AV.v (Value.string s)), AV.dead, AV.dead, (AV.v (Value.slice none (0 : Nat) (0 : Nat))), (AV.v (Value.int IntKind.i64 (0 : Int))), AV.dead, AV.dead, AV.dead, AV.dead, AV.dead, AV.dead, AV.dead, AV.dead, AV.dead, AV.dead, AV.dead, AV.dead, AV.dead, AV.dead, AV.dead, AV.dead, AV.dead, AV.dead, AV.dead, AV.dead, AV.dead, AV.dead, AV.dead, AV.dead, AV.dead, AV.dead, AV.dead, AV.dead, AV.dead, AV.dead] (AH.mk (@List.nil (Prod Go.TypeId (List AV))) (@List.nil Nat) (0 : Nat) (0 : Nat) true (@List.nil (Prod Nat Bool)) True)))) := by kernel_rfl
theorem ln_rd (s : ByteArray) (os : List ByteArray) (ver : Nat) (st : Int) (k : Nat) (p r : Int) (R : Exit → List AV → AH → Prop) : codeL nro (fun _ => false) (fun _ => none) 5 ((flatten (sub (bodyOf 38) [1, 1, 1, 0, 1, 0, 0])).drop 1) (lnA s (.lst 1 (os.map sv) (.tp 0 ver)) st k (tupT p r) (.v (.bool true))) (hp [] [ver]) (kp [0, 3, 4, 8] R) =
    (bif (r == (10 : Int)) then (some ((cdb (cdb True (decide (((0 : Int) ≤ st) ∧ ((st ≤ p) ∧ (p ≤ ((ByteArray.size s) : Int)))))) (decide ((((((List.length (List.map sv os)) + (List.length [(AV.v (Value.string (ByteArray.extract s (Int.toNat st) (Int.toNat p))))])) * (16 : Nat)) ≤ (140737488355328 : Nat)) ∧ (((List.length (List.map sv os)) + (List.length [(AV.v (Value.string (ByteArray.extract s (Int.toNat st) (Int.toNat p))))])) ≤ (9223372036854775807 : Nat))) ∧ (ver = ver)))) ∧ (R Exit.normal [(AV.v (Value.string s)), AV.dead, AV.dead, (AV.lst (1 : Nat) ((List.map sv os) ++ [(AV.v (Value.string (ByteArray.extract s (Int.toNat st) (Int.toNat p))))]) (Tip.tp (0 : Nat) (ver + (1 : Nat)))), (AV.v (Value.int IntKind.i64 (IntKind.wrap IntKind.i64 (p + (1 : Int))))), AV.dead, AV.dead, AV.dead, (AV.v (Value.pointer (some (Go.Addr.mk k (0 : Nat) none)))), AV.dead, AV.dead, AV.dead, AV.dead, AV.dead, AV.dead, AV.dead, AV.dead, AV.dead, AV.dead, AV.dead, AV.dead, AV.dead, AV.dead, AV.dead, AV.dead, AV.dead, AV.dead, AV.dead, AV.dead, AV.dead, AV.dead, AV.dead, AV.dead, AV.dead, AV.dead] (AH.mk (@List.nil (Prod Go.TypeId (List AV))) [(ver + (1 : Nat))] (0 : Nat) (0 : Nat) true (@List.nil (Prod Nat Bool)) True)))) else (some (True ∧ (R Exit.normal [(AV.v (Value.string s)), AV.dead, AV.dead, (AV.lst (1 : Nat) (List.map sv os) (Tip.tp (0 : Nat) ver)), (AV.v (Value.int IntKind.i64 st)), AV.dead, AV.dead, AV.dead, (AV.v (Value.pointer (some (Go.Addr.mk k (0 : Nat) none)))), AV.dead, AV.dead, AV.dead, AV.dead, AV.dead, AV.dead, AV.dead, AV.dead, AV.dead, AV.dead, AV.dead, AV.dead, AV.dead, AV.dead, AV.dead, AV.dead, AV.dead, AV.dead, AV.dead, AV.dead, AV.dead, AV.dead, AV.dead, AV.dead, AV.dead, AV.dead] (AH.mk (@List.nil (Prod Go.TypeId (List AV))) [ver] (0 : Nat) (0 : Nat) true (@List.nil (Prod Nat Bool)) True))))) := by kernel_rfl
theorem ln_ov (s : ByteArray) (os : List ByteArray) (ver : Nat) (st : Int) (k : Nat) (R : Exit → List AV → AH → Prop) : codeL nro (fun _ => false) (fun _ => none) 5 ((flatten (sub (bodyOf 38) [1, 1, 1, 0, 1, 0, 0])).drop 1) (lnA s (.lst 1 (os.map sv) (.tp 0 ver)) st k tupF (.v (.bool false))) (hp [] [ver]) (kp [0, 3, 4] R) =
    (some (True ∧ (R (Exit.exit (0 : Nat)) [(AV.v (Value.string s)), AV.dead, AV.dead, (AV.lst (1 : Nat) (List.map sv os) (Tip.tp (0 : Nat) ver)), (AV.v (Value.int IntKind.i64 st)), AV.dead, AV.dead, AV.dead, AV.dead, AV.dead, AV.dead, AV.dead, AV.dead, AV.dead, AV.dead, AV.dead, AV.dead, AV.dead, AV.dead, AV.dead, AV.dead, AV.dead, AV.dead, AV.dead, AV.dead, AV.dead, AV.dead, AV.dead, AV.dead, AV.dead, AV.dead, AV.dead, AV.dead, AV.dead, AV.dead] (AH.mk (@List.nil (Prod Go.TypeId (List AV))) [ver] (0 : Nat) (0 : Nat) true (@List.nil (Prod Nat Bool)) True)))) := by kernel_rfl
theorem ln_post (s : ByteArray) (os : List ByteArray) (ver : Nat) (st : Int) (R : Exit → List AV → AH → Prop) : codeL nro (fun _ => false) (fun _ => none) 5 (flatten (sub (bodyOf 38) [1, 1, 1, 1])) ([.v (.string s), .dead, .dead, .lst 1 (os.map sv) (.tp 0 ver), .v (.int .i64 st)] ++ List.replicate 30 .dead) (hp [] [ver]) (kp [2] R) =
    (bif (decide (st < ((ByteArray.size s) : Int))) then (some ((cdb (cdb True (decide (((0 : Int) ≤ st) ∧ ((st ≤ ((ByteArray.size s) : Int)) ∧ (((ByteArray.size s) : Int) ≤ ((ByteArray.size s) : Int)))))) (decide ((((((List.length (List.map sv os)) + (List.length [(AV.v (Value.string (ByteArray.extract s (Int.toNat st) (Int.toNat ((ByteArray.size s) : Int)))))])) * (16 : Nat)) ≤ (140737488355328 : Nat)) ∧ (((List.length (List.map sv os)) + (List.length [(AV.v (Value.string (ByteArray.extract s (Int.toNat st) (Int.toNat ((ByteArray.size s) : Int)))))])) ≤ (9223372036854775807 : Nat))) ∧ (ver = ver)))) ∧ (R Exit.ret [AV.dead, AV.dead, (AV.lst (1 : Nat) ((List.map sv os) ++ [(AV.v (Value.string (ByteArray.extract s (Int.toNat st) (Int.toNat ((ByteArray.size s) : Int)))))]) (Tip.tp (0 : Nat) (ver + (1 : Nat)))), AV.dead, AV.dead, AV.dead, AV.dead, AV.dead, AV.dead, AV.dead, AV.dead, AV.dead, AV.dead, AV.dead, AV.dead, AV.dead, AV.dead, AV.dead, AV.dead, AV.dead, AV.dead, AV.dead, AV.dead, AV.dead, AV.dead, AV.dead, AV.dead, AV.dead, AV.dead, AV.dead, AV.dead, AV.dead, AV.dead, AV.dead, AV.dead] (AH.mk (@List.nil (Prod Go.TypeId (List AV))) [(ver + (1 : Nat))] (0 : Nat) (0 : Nat) true (@List.nil (Prod Nat Bool)) True)))) else (some (True ∧ (R Exit.ret [AV.dead, AV.dead, (AV.lst (1 : Nat) (List.map sv os) (Tip.tp (0 : Nat) ver)), AV.dead, AV.dead, AV.dead, AV.dead, AV.dead, AV.dead, AV.dead, AV.dead, AV.dead, AV.dead, AV.dead, AV.dead, AV.dead, AV.dead, AV.dead, AV.dead, AV.dead, AV.dead, AV.dead, AV.dead, AV.dead, AV.dead, AV.dead, AV.dead, AV.dead, AV.dead, AV.dead, AV.dead, AV.dead, AV.dead, AV.dead, AV.dead] (AH.mk (@List.nil (Prod Go.TypeId (List AV))) [ver] (0 : Nat) (0 : Nat) true (@List.nil (Prod Nat Bool)) True))))) := by kernel_rfl
theorem wd_pre0 (s : ByteArray) (R : Exit → List AV → AH → Prop) : codeL nro (fun _ => false) (fun _ => none) 5 ((flatten (bodyOf 31)).take 1) ([.v (.string s)] ++ List.replicate 44 (.v undef)) (hp [] []) (kp [0] R) =
    (some (True ∧ (R Exit.normal [(AV.v (Value.string s)), AV.dead, AV.dead, AV.dead, AV.dead, AV.dead, AV.dead, AV.dead, AV.dead, AV.dead, AV.dead, AV.dead, AV.dead, AV.dead, AV.dead, AV.dead, AV.dead, AV.dead, AV.dead, AV.dead, AV.dead, AV.dead, AV.dead, AV.dead, AV.dead, AV.dead, AV.dead, AV.dead, AV.dead, AV.dead, AV.dead, AV.dead, AV.dead, AV.dead, AV.dead, AV.dead, AV.dead, AV.dead, AV.dead, AV.dead, AV.dead, AV.dead, AV.dead, AV.dead, AV.dead] (AH.mk (@List.nil (Prod Go.TypeId (List AV))) (@List.nil Nat) (0 : Nat) (0 : Nat) true (@List.nil (Prod Nat Bool)) True)))) := by kernel_rfl
theorem wd_pre (s : ByteArray) (R : Exit → List AV → AH → Prop) : codeL nro (fun _ => false) (fun _ => none) 5 ((flatten (sub (bodyOf 31) [1, 0])).take 3) ([.v (.string s)] ++ List.replicate 44 .dead) (hp [] []) (kp [0, 3, 4, 5] R) =
    (some (True ∧ (R Exit.normal [(AV.v (Value.string s)), AV.dead, AV.dead, (AV.v (Value.slice none (0 : Nat) (0 : Nat))), (AV.v (Value.int IntKind.i64 (-(1 : Int)))), (AV.v (Value.int IntKind.i64 ((ByteArray.size s) : Int))), AV.dead, AV.dead, AV.dead, AV.dead, AV.dead, AV.dead, AV.dead, AV.dead, AV.dead, AV.dead, AV.dead, AV.dead, AV.dead, AV.dead, AV.dead, AV.dead, AV.dead, AV.dead, AV.dead, AV.dead, AV.dead, AV.dead, AV.dead, AV.dead, AV.dead, AV.dead, AV.dead, AV.dead, AV.dead, AV.dead, AV.dead, AV.dead, AV.dead, AV.dead, AV.dead, AV.dead, AV.dead, AV.dead, AV.dead] (AH.mk (@List.nil (Prod Go.TypeId (List AV))) (@List.nil Nat) (0 : Nat) (0 : Nat) true (@List.nil (Prod Nat Bool)) True)))) := by kernel_rfl
theorem wd_rd (s : ByteArray) (os : List ByteArray) (ver : Nat) (st en : Int) (k : Nat) (p r : Int) (R : Exit → List AV → AH → Prop) : codeL nro (fun _ => false) (fun _ => none) 5 ((flatten (sub (bodyOf 31) [1, 0, 1, 1, 1, 0, 1, 0, 0])).drop 1) (wdA s (.lst 1 (os.map sv) (.tp 0 ver)) st en k (tupT p r) (.v (.bool true))) (hp [] [ver]) (kp [0, 3, 4, 5, 11] R) =
    (bif (r == (35 : Int)) then (some (True ∧ (R (Exit.exit (0 : Nat)) [(AV.v (Value.string s)), AV.dead, AV.dead, (AV.lst (1 : Nat) (List.map sv os) (Tip.tp (0 : Nat) ver)), (AV.v (Value.int IntKind.i64 st)), (AV.v (Value.int IntKind.i64 p)), AV.dead, AV.dead, AV.dead, AV.dead, AV.dead, (AV.v (Value.pointer (some (Go.Addr.mk k (0 : Nat) none)))), AV.dead, AV.dead, AV.dead, AV.dead, AV.dead, AV.dead, AV.dead, AV.dead, AV.dead, AV.dead, AV.dead, AV.dead, AV.dead, AV.dead, AV.dead, AV.dead, AV.dead, AV.dead, AV.dead, AV.dead, AV.dead, AV.dead, AV.dead, AV.dead, AV.dead, AV.dead, AV.dead, AV.dead, AV.dead, AV.dead, AV.dead, AV.dead, AV.dead] (AH.mk (@List.nil (Prod Go.TypeId (List AV))) [ver] (0 : Nat) (0 : Nat) true (@List.nil (Prod Nat Bool)) True)))) else (bif (r == (32 : Int)) then (bif (r == (32 : Int)) then (bif (st != (-(1 : Int))) then (some ((cdb (cdb True (decide (((0 : Int) ≤ st) ∧ ((st ≤ p) ∧ (p ≤ ((ByteArray.size s) : Int)))))) (decide ((((((List.length (List.map sv os)) + (List.length [(AV.v (Value.string (ByteArray.extract s (Int.toNat st) (Int.toNat p))))])) * (16 : Nat)) ≤ (140737488355328 : Nat)) ∧ (((List.length (List.map sv os)) + (List.length [(AV.v (Value.string (ByteArray.extract s (Int.toNat st) (Int.toNat p))))])) ≤ (9223372036854775807 : Nat))) ∧ (ver = ver)))) ∧ (R Exit.normal [(AV.v (Value.string s)), AV.dead, AV.dead, (AV.lst (1 : Nat) ((List.map sv os) ++ [(AV.v (Value.string (ByteArray.extract s (Int.toNat st) (Int.toNat p))))]) (Tip.tp (0 : Nat) (ver + (1 : Nat)))), (AV.v (Value.int IntKind.i64 (-(1 : Int)))), (AV.v (Value.int IntKind.i64 en)), AV.dead, AV.dead, AV.dead, AV.dead, AV.dead, (AV.v (Value.pointer (some (Go.Addr.mk k (0 : Nat) none)))), AV.dead, AV.dead, AV.dead, AV.dead, AV.dead, AV.dead, AV.dead, AV.dead, AV.dead, AV.dead, AV.dead, AV.dead, AV.dead, AV.dead, AV.dead, AV.dead, AV.dead, AV.dead, AV.dead, AV.dead, AV.dead, AV.dead, AV.dead, AV.dead, AV.dead, AV.dead, AV.dead, AV.dead, AV.dead, AV.dead, AV.dead, AV.dead, AV.dead] (AH.mk (@List.nil (Prod Go.TypeId (List AV))) [(ver + (1 : Nat))] (0 : Nat) (0 : Nat) true (@List.nil (Prod Nat Bool)) True)))) else (some (True ∧ (R Exit.normal [(AV.v (Value.string s)), AV.dead, AV.dead, (AV.lst (1 : Nat) (List.map sv os) (Tip.tp (0 : Nat) ver)), (AV.v (Value.int IntKind.i64 (-(1 : Int)))), (AV.v (Value.int IntKind.i64 en)), AV.dead, AV.dead, AV.dead, AV.dead, AV.dead, (AV.v (Value.pointer (some (Go.Addr.mk k (0 : Nat) none)))), AV.dead, AV.dead, AV.dead, AV.dead, AV.dead, AV.dead, AV.dead, AV.dead, AV.dead, AV.dead, AV.dead, AV.dead, AV.dead, AV.dead, AV.dead, AV.dead, AV.dead, AV.dead, AV.dead, AV.dead, AV.dead, AV.dead, AV.dead, AV.dead, AV.dead, AV.dead, AV.dead, AV.dead, AV.dead, AV.dead, AV.dead, AV.dead, AV.dead] (AH.mk (@List.nil (Prod Go.TypeId (List AV))) [ver] (0 : Nat) (0 : Nat) true (@List.nil (Prod Nat Bool)) True))))) else (bif (st == (-(1 : Int))) then (some (True ∧ (R Exit.normal [(AV.v (Value.string s)), AV.dead, AV.dead, (AV.lst (1 : Nat) (List.map sv os) (Tip.tp (0 : Nat) ver)), (AV.v (Value.int IntKind.i64 p)), (AV.v (Value.int IntKind.i64 en)), AV.dead, AV.dead, AV.dead, AV.dead, AV.dead, (AV.v (Value.pointer (some (Go.Addr.mk k (0 : Nat) none)))), AV.dead, AV.dead, AV.dead, AV.dead, AV.dead, AV.dead, AV.dead, AV.dead, AV.dead, AV.dead, AV.dead, AV.dead, AV.dead, AV.dead, AV.dead, AV.dead, AV.dead, AV.dead, AV.dead, AV.dead, AV.dead, AV.dead, AV.dead, AV.dead, AV.dead, AV.dead, AV.dead, AV.dead, AV.dead, AV.dead, AV.dead, AV.dead, AV.dead] (AH.mk (@List.nil (Prod Go.TypeId (List AV))) [ver] (0 : Nat) (0 : Nat) true (@List.nil (Prod Nat Bool)) True)))) else (some (True ∧ (R Exit.normal [(AV.v (Value.string s)), AV.dead, AV.dead, (AV.lst (1 : Nat) (List.map sv os) (Tip.tp (0 : Nat) ver)), (AV.v (Value.int IntKind.i64 st)), (AV.v (Value.int IntKind.i64 en)), AV.dead, AV.dead, AV.dead, AV.dead, AV.dead, (AV.v (Value.pointer (some (Go.Addr.mk k (0 : Nat) none)))), AV.dead, AV.dead, AV.dead, AV.dead, AV.dead, AV.dead, AV.dead, AV.dead, AV.dead, AV.dead, AV.dead, AV.dead, AV.dead, AV.dead, AV.dead, AV.dead, AV.dead, AV.dead, AV.dead, AV.dead, AV.dead, AV.dead, AV.dead, AV.dead, AV.dead, AV.dead, AV.dead, AV.dead, AV.dead, AV.dead, AV.dead, AV.dead, AV.dead] (AH.mk (@List.nil (Prod Go.TypeId (List AV))) [ver] (0 : Nat) (0 : Nat) true (@List.nil (Prod Nat Bool)) True)))))) else (bif (r == (9 : Int)) then (bif (st != (-(1 : Int))) then (some ((cdb (cdb True (decide (((0 : Int) ≤ st) ∧ ((st ≤ p) ∧ (p ≤ ((ByteArray.size s) : Int)))))) (decide ((((((List.length (List.map sv os)) + (List.length [(AV.v (Value.string (ByteArray.extract s (Int.toNat st) (Int.toNat p))))])) * (16 : Nat)) ≤ (140737488355328 : Nat)) ∧ (((List.length (List.map sv os)) + (List.length [(AV.v (Value.string (ByteArray.extract s (Int.toNat st) (Int.toNat p))))])) ≤ (9223372036854775807 : Nat))) ∧ (ver = ver)))) ∧ (R Exit.normal [(AV.v (Value.string s)), AV.dead, AV.dead, (AV.lst (1 : Nat) ((List.map sv os) ++ [(AV.v (Value.string (ByteArray.extract s (Int.toNat st) (Int.toNat p))))]) (Tip.tp (0 : Nat) (ver + (1 : Nat)))), (AV.v (Value.int IntKind.i64 (-(1 : Int)))), (AV.v (Value.int IntKind.i64 en)), AV.dead, AV.dead, AV.dead, AV.dead, AV.dead, (AV.v (Value.pointer (some (Go.Addr.mk k (0 : Nat) none)))), AV.dead, AV.dead, AV.dead, AV.dead, AV.dead, AV.dead, AV.dead, AV.dead, AV.dead, AV.dead, AV.dead, AV.dead, AV.dead, AV.dead, AV.dead, AV.dead, AV.dead, AV.dead, AV.dead, AV.dead, AV.dead, AV.dead, AV.dead, AV.dead, AV.dead, AV.dead, AV.dead, AV.dead, AV.dead, AV.dead, AV.dead, AV.dead, AV.dead] (AH.mk (@List.nil (Prod Go.TypeId (List AV))) [(ver + (1 : Nat))] (0 : Nat) (0 : Nat) true (@List.nil (Prod Nat Bool)) True)))) else (some (True ∧ (R Exit.normal [(AV.v (Value.string s)), AV.dead, AV.dead, (AV.lst (1 : Nat) (List.map sv os) (Tip.tp (0 : Nat) ver)), (AV.v (Value.int IntKind.i64 (-(1 : Int)))), (AV.v (Value.int IntKind.i64 en)), AV.dead, AV.dead, AV.dead, AV.dead, AV.dead, (AV.v (Value.pointer (some (Go.Addr.mk k (0 : Nat) none)))), AV.dead, AV.dead, AV.dead, AV.dead, AV.dead, AV.dead, AV.dead, AV.dead, AV.dead, AV.dead, AV.dead, AV.dead, AV.dead, AV.dead, AV.dead, AV.dead, AV.dead, AV.dead, AV.dead, AV.dead, AV.dead, AV.dead, AV.dead, AV.dead, AV.dead, AV.dead, AV.dead, AV.dead, AV.dead, AV.dead, AV.dead, AV.dead, AV.dead] (AH.mk (@List.nil (Prod Go.TypeId (List AV))) [ver] (0 : Nat) (0 : Nat) true (@List.nil (Prod Nat Bool)) True))))) else (bif (st == (-(1 : Int))) then (some (True ∧ (R Exit.normal [(AV.v (Value.string s)), AV.dead, AV.dead, (AV.lst (1 : Nat) (List.map sv os) (Tip.tp (0 : Nat) ver)), (AV.v (Value.int IntKind.i64 p)), (AV.v (Value.int IntKind.i64 en)), AV.dead, AV.dead, AV.dead, AV.dead, AV.dead, (AV.v (Value.pointer (some (Go.Addr.mk k (0 : Nat) none)))), AV.dead, AV.dead, AV.dead, AV.dead, AV.dead, AV.dead, AV.dead, AV.dead, AV.dead, AV.dead, AV.dead, AV.dead, AV.dead, AV.dead, AV.dead, AV.dead, AV.dead, AV.dead, AV.dead, AV.dead, AV.dead, AV.dead, AV.dead, AV.dead, AV.dead, AV.dead, AV.dead, AV.dead, AV.dead, AV.dead, AV.dead, AV.dead, AV.dead] (AH.mk (@List.nil (Prod Go.TypeId (List AV))) [ver] (0 : Nat) (0 : Nat) true (@List.nil (Prod Nat Bool)) True)))) else (some (True ∧ (R Exit.normal [(AV.v (Value.string s)), AV.dead, AV.dead, (AV.lst (1 : Nat) (List.map sv os) (Tip.tp (0 : Nat) ver)), (AV.v (Value.int IntKind.i64 st)), (AV.v (Value.int IntKind.i64 en)), AV.dead, AV.dead, AV.dead, AV.dead, AV.dead, (AV.v (Value.pointer (some (Go.Addr.mk k (0 : Nat) none)))), AV.dead, AV.dead, AV.dead, AV.dead, AV.dead, AV.dead, AV.dead, AV.dead, AV.dead, AV.dead, AV.dead, AV.dead, AV.dead, AV.dead, AV.dead, AV.dead, AV.dead, AV.dead, AV.dead, AV.dead, AV.dead, AV.dead, AV.dead, AV.dead, AV.dead, AV.dead, AV.dead, AV.dead, AV.dead, AV.dead, AV.dead, AV.dead, AV.dead] (AH.mk (@List.nil (Prod Go.TypeId (List AV))) [ver] (0 : Nat) (0 : Nat) true (@List.nil (Prod Nat Bool)) True)))))))) := by kernel_rfl
theorem wd_ov (s : ByteArray) (os : List ByteArray) (ver : Nat) (st en : Int) (k : Nat) (R : Exit → List AV → AH → Prop) : codeL nro (fun _ => false) (fun _ => none) 5 ((flatten (sub (bodyOf 31) [1, 0, 1, 1, 1, 0, 1, 0, 0])).drop 1) (wdA s (.lst 1 (os.map sv) (.tp 0 ver)) st en k tupF (.v (.bool false))) (hp [] [ver]) (kp [0, 3, 4, 5] R) =
    (some (True ∧ (R (Exit.exit (0 : Nat)) [(AV.v (Value.string s)), AV.dead, AV.dead, (AV.lst (1 : Nat) (List.map sv os) (Tip.tp (0 : Nat) ver)), (AV.v (Value.int IntKind.i64 st)), (AV.v (Value.int IntKind.i64 en)), AV.dead, AV.dead, AV.dead, AV.dead, AV.dead, AV.dead, AV.dead, AV.dead, AV.dead, AV.dead, AV.dead, AV.dead, AV.dead, AV.dead, AV.dead, AV.dead, AV.dead, AV.dead, AV.dead, AV.dead, AV.dead, AV.dead, AV.dead, AV.dead, AV.dead, AV.dead, AV.dead, AV.dead, AV.dead, AV.dead, AV.dead, AV.dead, AV.dead, AV.dead, AV.dead, AV.dead, AV.dead, AV.dead, AV.dead] (AH.mk (@List.nil (Prod Go.TypeId (List AV))) [ver] (0 : Nat) (0 : Nat) true (@List.nil (Prod Nat Bool)) True)))) := by kernel_rfl
theorem wd_post (s : ByteArray) (os : List ByteArray) (ver : Nat) (st en : Int) (R : Exit → List AV → AH → Prop) : codeL nro (fun _ => false) (fun _ => none) 5 (flatten (sub (bodyOf 31) [1, 0, 1, 1, 1, 1])) ([.v (.string s), .dead, .dead, .lst 1 (os.map sv) (.tp 0 ver), .v (.int .i64 st), .v (.int .i64 en)] ++ List.replicate 39 .dead) (hp [] [ver]) (kp [2] R) =
    (bif (st != (-(1 : Int))) then (some ((cdb (cdb True (decide (((0 : Int) ≤ st) ∧ ((st ≤ en) ∧ (en ≤ ((ByteArray.size s) : Int)))))) (decide ((((((List.length (List.map sv os)) + (List.length [(AV.v (Value.string (ByteArray.extract s (Int.toNat st) (Int.toNat en))))])) * (16 : Nat)) ≤ (140737488355328 : Nat)) ∧ (((List.length (List.map sv os)) + (List.length [(AV.v (Value.string (ByteArray.extract s (Int.toNat st) (Int.toNat en))))])) ≤ (9223372036854775807 : Nat))) ∧ (ver = ver)))) ∧ (R Exit.ret [AV.dead, AV.dead, (AV.lst (1 : Nat) ((List.map sv os) ++ [(AV.v (Value.string (ByteArray.extract s (Int.toNat st) (Int.toNat en))))]) (Tip.tp (0 : Nat) (ver + (1 : Nat)))), AV.dead, AV.dead, AV.dead, AV.dead, AV.dead, AV.dead, AV.dead, AV.dead, AV.dead, AV.dead, AV.dead, AV.dead, AV.dead, AV.dead, AV.dead, AV.dead, AV.dead, AV.dead, AV.dead, AV.dead, AV.dead, AV.dead, AV.dead, AV.dead, AV.dead, AV.dead, AV.dead, AV.dead, AV.dead, AV.dead, AV.dead, AV.dead, AV.dead, AV.dead, AV.dead, AV.dead, AV.dead, AV.dead, AV.dead, AV.dead, AV.dead, AV.dead] (AH.mk (@List.nil (Prod Go.TypeId (List AV))) [(ver + (1 : Nat))] (0 : Nat) (0 : Nat) true (@List.nil (Prod Nat Bool)) True)))) else (some (True ∧ (R Exit.ret [AV.dead, AV.dead, (AV.lst (1 : Nat) (List.map sv os) (Tip.tp (0 : Nat) ver)), AV.dead, AV.dead, AV.dead, AV.dead, AV.dead, AV.dead, AV.dead, AV.dead, AV.dead, AV.dead, AV.dead, AV.dead, AV.dead, AV.dead, AV.dead, AV.dead, AV.dead, AV.dead, AV.dead, AV.dead, AV.dead, AV.dead, AV.dead, AV.dead, AV.dead, AV.dead, AV.dead, AV.dead, AV.dead, AV.dead, AV.dead, AV.dead, AV.dead, AV.dead, AV.dead, AV.dead, AV.dead, AV.dead, AV.dead, AV.dead, AV.dead, AV.dead] (AH.mk (@List.nil (Prod Go.TypeId (List AV))) [ver] (0 : Nat) (0 : Nat) true (@List.nil (Prod Nat Bool)) True))))) := by kernel_rfl
end Go.Proofs.YtodjeammjdgkoaaDoor.AE
namespace Go.Proofs.YtodjeammjdgkoaaDoor.AE
open Go.RowKit
theorem ne_nil {α : Type} {l : List α} (h : l.isEmpty = false) : l ≠ [] := by cases l <;> simp_all
theorem Fs.ro {g : FuncId} {args : List AV} {H : AH} {Φ : AV → AH → Prop} (h : Fs Tryd.prog nro g args H Φ) (ro : Nat → Option (List Value)) : Fs Tryd.prog ro g args H Φ :=
  fun G W cargs hI _ hA => h G W cargs hI (ro_none _ _) hA
theorem ba_ext {a b : ByteArray} (h : a.data.toList = b.data.toList) : a = b := ByteArray.ext (Array.toList_inj.1 h)
def ba (l : List UInt8) : ByteArray := ⟨l.toArray⟩
theorem ba_data (l : List UInt8) : (ba l).data.toList = l := by show (List.toArray l).toList = l; simp
theorem ext_ba (s : ByteArray) (f i : Nat) : s.extract f i = ba ((s.data.toList.take i).drop f) := by
  apply ba_ext
  rw [ByteArray.data_extract, ba_data]
  simp [List.drop_take]
theorem len_data (s : ByteArray) : s.data.toList.length = s.size := by rw [Array.length_toList]; rfl
/-- A rune, and the bytes that it is read from. -/
theorem rune_step (s : ByteArray) (p : Nat) (hp : p < s.size) : ∃ seg, s.data.toList.drop p = seg ++ s.data.toList.drop (p + (Utf8.decode s p).2) ∧ seg.length = (Utf8.decode s p).2 ∧ 1 ≤ (Utf8.decode s p).2 ∧ p + (Utf8.decode s p).2 ≤ s.size ∧
    ((∃ b : UInt8, seg = [b] ∧ (Utf8.decode s p).1 = b.toNat ∧ b.toNat < 128) ∨ (128 ≤ (Utf8.decode s p).1 ∧ ∀ c ∈ seg, 128 ≤ c.toNat)) := by
  have hl := len_data s
  have cut : ∀ w, p + w ≤ s.size → s.data.toList.drop p = (s.data.toList.drop p).take w ++ s.data.toList.drop (p + w) := fun w hw => by
    rw [← List.drop_drop, List.take_append_drop]
  have at0 : s.data.toList[p]? = some (s.data.getD p 0) := by
    have h2 : p < s.data.size := hp
    rw [Array.getElem?_toList, Array.getElem?_eq_getElem h2]
    simp [Array.getD, h2]
    intro h3; omega
  by_cases h : (s.data.getD p 0).toNat < 128
  · rw [dec_low s p h]
    refine ⟨_, cut 1 (by omega), ?_, Nat.le_refl _, by omega, .inl ⟨s.data.getD p 0, ?_, rfl, h⟩⟩
    · rw [List.length_take, List.length_drop]; show min 1 _ = 1; omega
    · have hlt : p < s.data.toList.length := by omega
      rw [List.drop_eq_getElem_cons hlt]
      rw [List.getElem?_eq_getElem hlt] at at0
      simp only [Option.some.injEq] at at0
      rw [at0]; rfl
  · obtain ⟨h1, h2, h3, h4⟩ := dec_high s p hp h
    generalize Utf8.decode s p = d at *
    refine ⟨_, cut d.2 h3, ?_, h2, h3, .inr ⟨h1, fun c hc => ?_⟩⟩
    · rw [List.length_take, List.length_drop]; omega
    · obtain ⟨j, hj, rfl⟩ := List.getElem_of_mem hc
      rw [List.length_take, List.length_drop] at hj
      have h5 := h4 j (by omega)
      rw [List.getElem_take, List.getElem_drop]
      have hlt : p + j < s.data.size := by show p + j < s.size; omega
      have : s.data.toList[p + j]'(by rw [Array.length_toList]; exact hlt) = s.data.getD (p + j) 0 := by
        rw [Array.getElem_toList]
        simp [Array.getD, hlt]
        intro h6; have : s.data.size = s.size := rfl; omega
      rw [this]; exact h5
/-! What is plain. -/
def plainL (l : List UInt8) : Bool := l.all fun c => decide (32 ≤ c.toNat) && decide (c.toNat ≤ 126)
end Go.Proofs.YtodjeammjdgkoaaDoor.AE
namespace Go.Proofs.YtodjeammjdgkoaaDoor.AE
open Go.RowKit
def flush (w : List UInt8) : List (List UInt8) := if w = [] then [] else [w]
def lns : List UInt8 → List UInt8 → List (List UInt8)
  | w, [] => flush w
  | w, c :: l => if c = 10 then w :: lns [] l else lns (w ++ [c]) l
def wds : List UInt8 → List UInt8 → List (List UInt8)
  | w, [] => flush w
  | w, c :: l => if c = 35 then flush w else if c = 32 ∨ c = 9 then flush w ++ wds [] l else wds (w ++ [c]) l
def linesS (s : ByteArray) : List ByteArray := (lns [] s.data.toList).map ba
def wordsS (s : ByteArray) : List ByteArray := (wds [] s.data.toList).map ba
theorem lns_run : ∀ (seg w l : List UInt8), (10 : UInt8) ∉ seg → lns w (seg ++ l) = lns (w ++ seg) l
  | [], w, l, _ => by simp
  | c :: seg, w, l, h => by
    simp only [List.mem_cons, not_or] at h
    show lns w (c :: (seg ++ l)) = _
    rw [lns, if_neg (fun e => h.1 e.symm), lns_run seg _ l h.2, List.append_assoc]; rfl
def plainW (c : UInt8) : Prop := ¬ c = 35 ∧ ¬ c = 32 ∧ ¬ c = 9
theorem wds_run : ∀ (seg w l : List UInt8), (∀ c ∈ seg, plainW c) → wds w (seg ++ l) = wds (w ++ seg) l
  | [], w, l, _ => by simp
  | c :: seg, w, l, h => by
    have hc := h c (List.mem_cons_self ..)
    show wds w (c :: (seg ++ l)) = _
    rw [wds, if_neg hc.1, if_neg (by rintro (e | e); exact hc.2.1 e; exact hc.2.2 e), wds_run seg _ l (fun x hx => h x (List.mem_cons_of_mem _ hx)), List.append_assoc]; rfl
theorem seg_cut {L seg : List UInt8} {st p w : Nat} (h : L.drop p = seg ++ L.drop (p + w)) (hw : seg.length = w) (hst : st ≤ p) (hp : p ≤ L.length) : (L.take (p + w)).drop st = (L.take p).drop st ++ seg := by
  have e : L.take (p + w) = L.take p ++ seg := by
    rw [List.take_add, h, List.take_left' hw]
  rw [e, List.drop_append_of_le_length (by rw [List.length_take]; omega)]
theorem room {os : List ByteArray} {x : AV} {ver : Nat} (h : os.length ≤ 1000000) : (((os.map sv).length + [x].length) * 16 ≤ 140737488355328 ∧ (os.map sv).length + [x].length ≤ 9223372036854775807) ∧ ver = ver := by
  simp only [List.length_map, List.length_cons, List.length_nil, and_true]; omega
theorem snoc_sv (os : List (List UInt8)) (x : List UInt8) : (os.map ba).map sv ++ [AV.v (.string (ba x))] = ((os ++ [x]).map ba).map sv := by rw [List.map_append, List.map_append]; rfl
/-! Lines. -/
theorem ln_sl : slotsOf 38 = 35 := by kernel_rfl
theorem ln_re : resultsOf 38 = [.tmp 2] := by kernel_rfl
noncomputable abbrev lnB : Code := sub (bodyOf 38) [1, 1, 1, 0, 1, 0, 0]
theorem ln_b : bodyOf 38 = ((flatten (bodyOf 38)).take 3).foldr .seq (.seq (.seq (sub (bodyOf 38) [1, 1, 1, 0, 0]) (.block 0 (.loop lnB))) (sub (bodyOf 38) [1, 1, 1, 1])) := by kernel_rfl
theorem ln_r1 : RangeAt (sub (bodyOf 38) [1, 1, 1, 0, 0]) 0 7 8 9 := ⟨by kernel_rfl, by kernel_rfl, by kernel_rfl, by kernel_rfl, by kernel_rfl, by kernel_rfl, by kernel_rfl⟩
theorem ln_r2 : NextAt (sub lnB [0]) 8 9 10 := ⟨by kernel_rfl, by kernel_rfl, by kernel_rfl, by kernel_rfl, by kernel_rfl, by kernel_rfl, by kernel_rfl⟩
theorem ln_f : flatten lnB = sub lnB [0] :: (flatten lnB).drop 1 := by kernel_rfl
set_option maxRecDepth 100000 in
theorem fs_lines (s : ByteArray) (hs : s.size ≤ 100000) : Fs Tryd.prog nro 38 [.v (.string s)] (hp [] []) fun r _ => clean r = some (.lst 1 ((linesS s).map sv) .no) := by
  refine Fs.of_body (has_fn (by kernel_rfl)) ?_
  rw [ln_sl, ln_re, ln_b]
  refine Tr.pre (c := _) (act := []) (H := hp [] []) (Trl.of_code (known_none _) (ne_nil (by kernel_rfl)) (ln_pre s _) ⟨trivial, ?_⟩)
  refine Tr.nilTip 3 1 rfl ?_
  refine Tr.seq (Tr.rangeAt (s := s) ln_r1 Tryd.underlying9 rfl (Nat.lt_of_lt_of_eq (by decide : 7 < 35) rfl) fun B k hB => ?_)
  refine TrI.keep [0, 3, 4, 8] ?_
  have hl := len_data s
  let L := s.data.toList
  have hL : L.length = s.size := hl
  let I : Nat → List AV → AH → Nat → Prop := fun m act H p => p ≤ s.size ∧ m = s.size - p ∧ ∃ (st : Nat) (os : List (List UInt8)) (ver : Nat), st ≤ p ∧ os.length ≤ p ∧ act = lnA s (.lst 1 ((os.map ba).map sv) (.tp 0 ver)) st k .dead .dead ∧ H = hp [] [ver] ∧ lns [] L = os ++ lns ((L.take p).drop st) (L.drop p)
  refine TrI.block (TrI.loop hB I ?_ (m := s.size) ⟨Nat.zero_le _, rfl, 0, [], 0, Nat.le_refl _, Nat.le_refl _, rfl, rfl, by simp⟩)
  rintro m act H p ⟨hp, rfl, st, os, ver, hst, hos, rfl, rfl, hI⟩
  refine TrI.round hB ln_f ln_r2 rfl (Nat.lt_of_lt_of_eq (by decide : 9 < 35) rfl) (fun hlt => ?_) (fun hge => ?_)
  · obtain ⟨seg, h1, h2, h3, h4, h5⟩ := rune_step s p hlt
    have hcut := seg_cut h1 h2 hst (by omega)
    have h1' : L.drop p = seg ++ L.drop (p + (Utf8.decode s p).2) := h1
    have body := fun R => ln_rd s (os.map ba) ver st k p ((Utf8.decode s p).1 : Nat) R
    rw [inc64 p (by omega), show s.extract (Int.toNat (st : Int)) (Int.toNat (p : Int)) = ba ((L.take p).drop st) from ext_ba s st p] at body
    refine Trl.of_code (known_none _) (ne_nil (by kernel_rfl)) (body _) (holds_bif (fun h => ⟨?_, ?_⟩) fun h => ⟨trivial, ?_⟩)
    · with_reducible exact cdb_iff.2 ⟨cdb_iff.2 ⟨trivial, decide_eq_true (by omega)⟩, decide_eq_true (room (by rw [List.length_map]; omega))⟩
    · have h := eq_of_beq h
      rcases h5 with ⟨b, e1, e2, e3⟩ | ⟨e1, e2⟩
      · have hb : b = 10 := UInt8.toNat_inj.1 (by show b.toNat = 10; omega)
        subst hb
        have hw : (Utf8.decode s p).2 = 1 := by rw [← h2, e1]; rfl
        rw [hw] at h4 h1' ⊢
        rw [h1', e1] at hI
        refine ⟨s.size - (p + 1), by omega, h4, rfl, p + 1, os ++ [(L.take p).drop st], ver + 1, Nat.le_refl _, by simp; omega, by rw [snoc_sv]; rfl, rfl, ?_⟩
        have hz : (L.take (p + 1)).drop (p + 1) = [] := List.drop_eq_nil_of_le (by rw [List.length_take]; omega)
        rw [hI, hz]
        show os ++ lns _ (10 :: _) = _
        rw [lns, if_pos rfl, List.append_assoc]; rfl
      · omega
    · have h : ¬ ((Utf8.decode s p).1 : Int) = 10 := ne_of_beq_false h
      have hn : (10 : UInt8) ∉ seg := fun hm => by
        rcases h5 with ⟨b, e1, e2, e3⟩ | ⟨e1, e2⟩
        · rw [e1] at hm
          have := List.mem_singleton.1 hm
          rw [← this] at e2
          exact h (by rw [e2]; rfl)
        · have := e2 _ hm
          exact absurd this (by decide)
      rw [h1', lns_run _ _ _ hn] at hI
      exact ⟨s.size - (p + (Utf8.decode s p).2), by omega, h4, rfl, st, os, ver, by omega, by omega, rfl, rfl, by rw [hcut]; exact hI⟩
  · have hps : p = s.size := by omega
    subst hps
    refine Trl.of_code (known_none _) (ne_nil (by kernel_rfl)) (ln_ov s (os.map ba) ver st k _) ⟨trivial, ?_⟩
    show Tr Tryd.prog nro (sub (bodyOf 38) [1, 1, 1, 1]) _ _ _
    rw [List.drop_of_length_le (show L.length ≤ s.size by omega), List.take_of_length_le (show L.length ≤ s.size by omega)] at hI
    have post := fun R => ln_post s (os.map ba) ver st R
    have hx : s.extract (Int.toNat (st : Int)) (Int.toNat ((s.size : Nat) : Int)) = ba (L.drop st) := by
      have := ext_ba s st s.size
      rw [List.take_of_length_le (by omega)] at this
      exact this
    rw [hx] at post
    refine Tr.of_flat (Trl.of_code (known_none _) (ne_nil (by kernel_rfl)) (post _) (holds_bif (fun h => ⟨?_, .inr rfl, trivial, ?_⟩) fun h => ⟨trivial, .inr rfl, trivial, ?_⟩))
    · with_reducible exact cdb_iff.2 ⟨cdb_iff.2 ⟨trivial, decide_eq_true (by have := of_decide_eq_true h; omega)⟩, decide_eq_true (room (by rw [List.length_map]; omega))⟩
    · have h := of_decide_eq_true h
      have hne : ¬ L.drop st = [] := fun e => by
        have := congrArg List.length e
        rw [List.length_drop] at this
        simp at this; omega
      unfold linesS
      rw [show lns [] s.data.toList = _ from hI, lns, flush, if_neg hne, ← snoc_sv]; rfl
    · have h := of_decide_eq_false h
      have he : L.drop st = [] := List.drop_of_length_le (by omega)
      unfold linesS
      rw [show lns [] s.data.toList = _ from hI, lns, flush, if_pos he, List.append_nil]; rfl
/-! Words. -/
theorem wd_sl : slotsOf 31 = 45 := by kernel_rfl
theorem wd_re : resultsOf 31 = [.tmp 2] := by kernel_rfl
noncomputable abbrev wdS : Code := sub (bodyOf 31) [1, 0]
noncomputable abbrev wdB : Code := sub (bodyOf 31) [1, 0, 1, 1, 1, 0, 1, 0, 0]
theorem wd_b0 : bodyOf 31 = ((flatten (bodyOf 31)).take 1).foldr .seq (.scope wdS) := by kernel_rfl
theorem wd_b : wdS = ((flatten wdS).take 3).foldr .seq (.seq (.seq (sub (bodyOf 31) [1, 0, 1, 1, 1, 0, 0]) (.block 0 (.loop wdB))) (sub (bodyOf 31) [1, 0, 1, 1, 1, 1])) := by kernel_rfl
theorem wd_r1 : RangeAt (sub (bodyOf 31) [1, 0, 1, 1, 1, 0, 0]) 0 10 11 9 := ⟨by kernel_rfl, by kernel_rfl, by kernel_rfl, by kernel_rfl, by kernel_rfl, by kernel_rfl, by kernel_rfl⟩
theorem wd_r2 : NextAt (sub wdB [0]) 11 12 13 := ⟨by kernel_rfl, by kernel_rfl, by kernel_rfl, by kernel_rfl, by kernel_rfl, by kernel_rfl, by kernel_rfl⟩
theorem wd_f : flatten wdB = sub wdB [0] :: (flatten wdB).drop 1 := by kernel_rfl
/-- Where a word stands that has begun. -/
def Wd (L : List UInt8) (st : Int) (p : Nat) (w : List UInt8) : Prop := (st = -1 ∧ w = []) ∨ ∃ n : Nat, st = n ∧ n < p ∧ w = (L.take p).drop n
theorem Wd.ne {L : List UInt8} {st : Int} {p : Nat} {w : List UInt8} (h : Wd L st p w) (hp : p ≤ L.length) : (st = -1 ↔ w = []) := by
  rcases h with ⟨h1, h2⟩ | ⟨n, h1, h2, h3⟩
  · simp [h1, h2]
  · constructor
    · intro e; omega
    · intro e
      rw [h3] at e
      have := congrArg List.length e
      rw [List.length_drop, List.length_take] at this
      simp at this; omega
set_option maxRecDepth 100000 in
theorem fs_words (s : ByteArray) (hs : s.size ≤ 100000) : Fs Tryd.prog nro 31 [.v (.string s)] (hp [] []) fun r _ => clean r = some (.lst 1 ((wordsS s).map sv) .no) := by
  refine Fs.of_body (has_fn (by kernel_rfl)) ?_
  rw [wd_sl, wd_re, wd_b0]
  refine Tr.pre (c := _) (act := []) (H := hp [] []) (Trl.of_code (known_none _) (ne_nil (by kernel_rfl)) (wd_pre0 s _) ⟨trivial, ?_⟩)
  refine Tr.scope ?_
  rw [wd_b]
  refine Tr.pre (c := _) (act := []) (H := hp [] []) (Tr.keepL [0] (by kernel_rfl) (Trl.of_code (known_none _) (ne_nil (by kernel_rfl)) (wd_pre s _) ⟨trivial, ?_⟩))
  refine Tr.nilTip 3 1 rfl ?_
  refine Tr.seq (Tr.rangeAt (s := s) wd_r1 Tryd.underlying9 rfl (Nat.lt_of_lt_of_eq (by decide : 10 < 45) rfl) fun B k hB => ?_)
  refine TrI.keep [0, 3, 4, 5, 11] ?_
  have hl := len_data s
  let L := s.data.toList
  have hL : L.length = s.size := hl
  -- what is left to do behind the loop
  have fin : ∀ (st : Int) (en : Nat) (os : List (List UInt8)) (ver : Nat) (w : List UInt8), en ≤ s.size → os.length ≤ en → Wd L st en w → wds [] L = os ++ flush w →
      Tr Tryd.prog nro (sub (bodyOf 31) [1, 0, 1, 1, 1, 1]) ([.v (.string s), .dead, .dead, .lst 1 ((os.map ba).map sv) (.tp 0 ver), .v (.int .i64 st), .v (.int .i64 (en : Nat))] ++ List.replicate 39 .dead) (hp [] [ver]) (notGo fun e a h => (e = .normal ∨ e = .ret) ∧ ansOk (fun r _ => clean r = some (.lst 1 ((wordsS s).map sv) .no)) (resOf Tryd.prog nro [.tmp 2] a h)) := by
    intro st en os ver w he hos hw hI
    have post := fun R => wd_post s (os.map ba) ver st (en : Nat) R
    refine Tr.of_flat (Trl.of_code (known_none _) (ne_nil (by kernel_rfl)) (post _) (holds_bif (fun h => ⟨?_, .inr rfl, trivial, ?_⟩) fun h => ⟨trivial, .inr rfl, trivial, ?_⟩))
    · have h : ¬ st = -1 := by simpa using h
      rcases hw with ⟨hw, _⟩ | ⟨n, rfl, h2, h3⟩
      · exact absurd hw h
      · with_reducible exact cdb_iff.2 ⟨cdb_iff.2 ⟨trivial, decide_eq_true (by omega)⟩, decide_eq_true (room (by rw [List.length_map]; omega))⟩
    · have h : ¬ st = -1 := by simpa using h
      have hwne : ¬ w = [] := fun e => h ((Wd.ne hw (by omega)).2 e)
      rcases hw with ⟨hw, _⟩ | ⟨n, rfl, h2, h3⟩
      · exact absurd hw h
      · unfold wordsS
        have hx : s.extract (Int.toNat (n : Int)) (Int.toNat ((en : Nat) : Int)) = ba w := by rw [h3]; exact ext_ba s n en
        rw [hx, show wds [] s.data.toList = _ from hI, flush, if_neg hwne, ← snoc_sv]; rfl
    · have h : st = -1 := by simpa using h
      have he : w = [] := (Wd.ne hw (by omega)).1 h
      unfold wordsS
      rw [show wds [] s.data.toList = _ from hI, he, flush, if_pos rfl, List.append_nil]; rfl
  let I : Nat → List AV → AH → Nat → Prop := fun m act H p => p ≤ s.size ∧ m = s.size - p ∧ ∃ (st : Int) (os : List (List UInt8)) (ver : Nat) (w : List UInt8), os.length ≤ p ∧ act = wdA s (.lst 1 ((os.map ba).map sv) (.tp 0 ver)) st (s.size : Nat) k .dead .dead ∧ H = hp [] [ver] ∧ Wd L st p w ∧ wds [] L = os ++ wds w (L.drop p)
  refine TrI.block (TrI.loop hB I ?_ (m := s.size) ⟨Nat.zero_le _, rfl, -1, [], 0, [], Nat.le_refl _, rfl, rfl, .inl ⟨rfl, rfl⟩, by simp⟩)
  rintro m act H p ⟨hp, rfl, st, os, ver, w, hos, rfl, rfl, hw, hI⟩
  refine TrI.round hB wd_f wd_r2 rfl (Nat.lt_of_lt_of_eq (by decide : 12 < 45) rfl) (fun hlt => ?_) (fun hge => ?_)
  · obtain ⟨seg, h1, h2, h3, h4, h5⟩ := rune_step s p hlt
    have h1' : L.drop p = seg ++ L.drop (p + (Utf8.decode s p).2) := h1
    have body := fun R => wd_rd s (os.map ba) ver st (s.size : Nat) k p ((Utf8.decode s p).1 : Nat) R
    -- a byte of its own
    have low : ∀ n : Nat, n < 128 → ((Utf8.decode s p).1 : Int) = n → seg = [UInt8.ofNat n] ∧ (Utf8.decode s p).2 = 1 := fun n hn e => by
      rcases h5 with ⟨b, e1, e2, e3⟩ | ⟨e1, e2⟩
      · have hb : b = UInt8.ofNat n := UInt8.toNat_inj.1 (by rw [UInt8.toNat_ofNat_of_lt' (by show n < 256; omega)]; omega)
        subst hb
        exact ⟨e1, by rw [← h2, e1]; rfl⟩
      · omega
    have other : ¬ ((Utf8.decode s p).1 : Int) = 35 → ¬ ((Utf8.decode s p).1 : Int) = 32 → ¬ ((Utf8.decode s p).1 : Int) = 9 → ∀ c ∈ seg, plainW c := fun a1 a2 a3 c hc => by
      rcases h5 with ⟨b, e1, e2, e3⟩ | ⟨e1, e2⟩
      · rw [e1] at hc
        have := List.mem_singleton.1 hc
        subst this
        refine ⟨fun e => a1 ?_, fun e => a2 ?_, fun e => a3 ?_⟩ <;> (rw [e2, e]; rfl)
      · have := e2 c hc
        refine ⟨fun e => ?_, fun e => ?_, fun e => ?_⟩ <;> (subst e; exact absurd this (by decide))
    -- a blank: the word is told, if there is one
    have blank : ((Utf8.decode s p).1 : Int) = 32 ∨ ((Utf8.decode s p).1 : Int) = 9 → (Utf8.decode s p).2 = 1 ∧ wds [] L = (os ++ flush w) ++ wds [] (L.drop (p + 1)) := fun e => by
      have hx : ∃ c : UInt8, (c = 32 ∨ c = 9) ∧ seg = [c] ∧ (Utf8.decode s p).2 = 1 := by
        rcases e with e | e
        · obtain ⟨x1, x2⟩ := low 32 (by decide) e; exact ⟨32, .inl rfl, x1, x2⟩
        · obtain ⟨x1, x2⟩ := low 9 (by decide) e; exact ⟨9, .inr rfl, x1, x2⟩
      obtain ⟨c, hc, x1, x2⟩ := hx
      refine ⟨x2, ?_⟩
      rw [h1', x1, x2] at hI
      rw [hI]
      show os ++ wds w (c :: _) = _
      rw [wds, if_neg (by rcases hc with rfl | rfl <;> decide), if_pos hc, List.append_assoc]
      rfl
    have told : ∀ (st' : Int), ((Utf8.decode s p).1 : Int) = 32 ∨ ((Utf8.decode s p).1 : Int) = 9 → ¬ st = -1 → ∃ m', m' < s.size - p ∧ I m' (wdA s (.lst 1 ((os.map ba).map sv ++ [.v (.string (s.extract (Int.toNat st) (Int.toNat (p : Int))))]) (.tp 0 (ver + 1))) (-1) (s.size : Nat) k .dead .dead) (AE.hp [] [ver + 1]) (p + (Utf8.decode s p).2) := fun _ e hst => by
      obtain ⟨x2, hI2⟩ := blank e
      have hwne : ¬ w = [] := fun e => hst ((Wd.ne hw (by omega)).2 e)
      rcases hw with ⟨hw, _⟩ | ⟨n, rfl, h2, h3⟩
      · exact absurd hw hst
      · have hx : s.extract (Int.toNat (n : Int)) (Int.toNat (p : Int)) = ba w := by rw [h3]; exact ext_ba s n p
        rw [hx, snoc_sv, x2]
        rw [flush, if_neg hwne] at hI2
        exact ⟨s.size - (p + 1), by omega, by omega, rfl, -1, os ++ [w], ver + 1, [], by simp; omega, rfl, rfl, .inl ⟨rfl, rfl⟩, hI2⟩
    have quiet : ((Utf8.decode s p).1 : Int) = 32 ∨ ((Utf8.decode s p).1 : Int) = 9 → st = -1 → ∃ m', m' < s.size - p ∧ I m' (wdA s (.lst 1 ((os.map ba).map sv) (.tp 0 ver)) (-1) (s.size : Nat) k .dead .dead) (AE.hp [] [ver]) (p + (Utf8.decode s p).2) := fun e hst => by
      obtain ⟨x2, hI2⟩ := blank e
      have hwe : w = [] := (Wd.ne hw (by omega)).1 hst
      rw [hwe, flush, if_pos rfl, List.append_nil] at hI2
      rw [x2]
      exact ⟨s.size - (p + 1), by omega, by omega, rfl, -1, os, ver, [], by omega, rfl, rfl, .inl ⟨rfl, rfl⟩, hI2⟩
    have cdT : ¬ st = -1 → (decide ((0 : Int) ≤ st ∧ st ≤ (p : Int) ∧ (p : Int) ≤ ((s.size : Nat) : Int))) = true := fun hst => by
      rcases hw with ⟨hw, _⟩ | ⟨n, rfl, h2, h3⟩
      · exact absurd hw hst
      · exact decide_eq_true (by omega)
    have grow : (∀ c ∈ seg, plainW c) → ∀ st' : Int, (st = -1 → st' = p) → (¬ st = -1 → st' = st) → ∃ m', m' < s.size - p ∧ I m' (wdA s (.lst 1 ((os.map ba).map sv) (.tp 0 ver)) st' (s.size : Nat) k .dead .dead) (AE.hp [] [ver]) (p + (Utf8.decode s p).2) := fun hc st' q1 q2 => by
      rw [h1', wds_run _ _ _ hc] at hI
      refine ⟨s.size - (p + (Utf8.decode s p).2), by omega, h4, rfl, st', os, ver, w ++ seg, by omega, rfl, rfl, .inr ?_, hI⟩
      rcases hw with ⟨hw, hwe⟩ | ⟨n, e, hn, h3⟩
      · refine ⟨p, q1 hw, by omega, ?_⟩
        rw [seg_cut h1' h2 (Nat.le_refl p) (by omega), hwe, List.drop_eq_nil_of_le (by rw [List.length_take]; omega)]
      · refine ⟨n, by rw [q2 (by omega)]; exact e, by omega, ?_⟩
        rw [seg_cut h1' h2 (by omega) (by omega), h3]
    refine Trl.of_code (known_none _) (ne_nil (by kernel_rfl)) (body _) (holds_bif (fun h => ⟨trivial, ?_⟩) fun h => holds_bif (fun h' => holds_bif (fun _ => holds_bif (fun h3 => ⟨?_, ?_⟩) fun h3 => ⟨trivial, ?_⟩) fun h3 => ?_) fun h' => holds_bif (fun h3 => holds_bif (fun h3' => ⟨?_, ?_⟩) fun h3' => ⟨trivial, ?_⟩) fun h3 => holds_bif (fun h3' => ⟨trivial, ?_⟩) fun h3' => ⟨trivial, ?_⟩)
    · have h : ((Utf8.decode s p).1 : Int) = 35 := eq_of_beq h
      obtain ⟨x1, x2⟩ := low 35 (by decide) h
      rw [h1', x1] at hI
      show Tr Tryd.prog nro (sub (bodyOf 31) [1, 0, 1, 1, 1, 1]) _ _ _
      refine Tr.keep [0, 3, 4, 5] (fin st p os ver w hp hos hw ?_)
      rw [hI]
      show os ++ wds w (35 :: _) = _
      rw [wds, if_pos rfl]
    · have h3 : ¬ st = -1 := by simpa using h3
      with_reducible exact cdb_iff.2 ⟨cdb_iff.2 ⟨trivial, cdT h3⟩, decide_eq_true (room (by rw [List.length_map]; omega))⟩
    · exact told 0 (.inl (eq_of_beq h')) (by simpa using h3)
    · exact quiet (.inl (eq_of_beq h')) (by simpa using h3)
    · rw [h'] at h3; cases h3
    · have h3' : ¬ st = -1 := by simpa using h3'
      with_reducible exact cdb_iff.2 ⟨cdb_iff.2 ⟨trivial, cdT h3'⟩, decide_eq_true (room (by rw [List.length_map]; omega))⟩
    · exact told 0 (.inr (eq_of_beq h3)) (by simpa using h3')
    · exact quiet (.inr (eq_of_beq h3)) (by simpa using h3')
    · have h3' : st = -1 := by simpa using h3'
      exact grow (other (ne_of_beq_false h) (ne_of_beq_false h') (ne_of_beq_false h3)) p (fun _ => rfl) (fun e => absurd h3' e)
    · have h3' : ¬ st = -1 := by simpa using h3'
      exact grow (other (ne_of_beq_false h) (ne_of_beq_false h') (ne_of_beq_false h3)) st (fun e => absurd e h3') (fun _ => rfl)
  · have hps : p = s.size := by omega
    subst hps
    refine Trl.of_code (known_none _) (ne_nil (by kernel_rfl)) (wd_ov s (os.map ba) ver st (s.size : Nat) k _) ⟨trivial, ?_⟩
    show Tr Tryd.prog nro (sub (bodyOf 31) [1, 0, 1, 1, 1, 1]) _ _ _
    rw [List.drop_of_length_le (show L.length ≤ s.size by omega)] at hI
    exact fin st s.size os ver w (Nat.le_refl _) hos hw hI
end Go.Proofs.YtodjeammjdgkoaaDoor.AE
namespace Go.Proofs.YtodjeammjdgkoaaDoor.AE
open Go.RowKit
end Go.Proofs.YtodjeammjdgkoaaDoor.AE
namespace Go.Proofs.YtodjeammjdgkoaaDoor.AE
open Go.RowKit
def strs? : List AV → Option (List ByteArray)
  | [] => some []
  | .v (.string s) :: l => match strs? l with
    | some r => some (s :: r)
    | none => none
  | _ => none
theorem strs_map : ∀ l : List ByteArray, strs? (l.map sv) = some l
  | [] => rfl
  | s :: l => by show (match strs? (l.map sv) with | some r => some (s :: r) | none => none) = _; rw [strs_map l]
theorem strs_eq : ∀ {xs : List AV} {l : List ByteArray}, strs? xs = some l → xs = l.map sv
  | [], l, h => by cases h; rfl
  | .v (.string s) :: xs, l, h => by
    have h : (match strs? xs with | some r => some (s :: r) | none => none) = some l := h
    split at h
    · rename_i r hr
      cases h
      rw [strs_eq hr]; rfl
    · cases h
def joinB (l : List ByteArray) (sep : ByteArray) : ByteArray := ⟨(Lib.join (l.map (·.data.toList)) sep.data.toList).toArray⟩
def joinP (args : List AV) : Option (ByteArray × Bool) := match args with
  | [.lst 1 xs _, .v (.string sep)] => match strs? xs with
    | some l => some (joinB l sep, decide (l.length ≤ 140737488355328 ∧ (joinB l sep).size ≤ 140737488355328))
    | none => none
  | _ => none
def joinV (args : List AV) : AV := .v (.string (match joinP args with
  | some r => r.1
  | none => ByteArray.empty))
def joinOk (args : List AV) : Bool := match joinP args with
  | some r => r.2
  | none => false
theorem below_fs {ro : Nat → Option (List Value)} {g : FuncId} {args : List AV} {u : Value} (hf : ∃ fn, Tryd.prog.funcs[g]? = some fn ∧ fn.body.isSome = true)
    (h : ∀ G W (cargs : Array Value), Inv G (hp [] []) W → Ro ro G W → RVs G W args cargs.toList → Calls Tryd.prog g cargs W fun e W' => e = .returned u ∧ Below W.heap.size W W') : Fs Tryd.prog ro g args (hp [] []) fun r _ => r = .v u :=
  fun G W cargs hI hR hA => ⟨hf, (h G W cargs hI hR hA).mono fun e W' ⟨he, hb⟩ => ⟨u, G, _, _, he, rfl, (hI.below hb).1, (hI.below hb).2, .v _⟩⟩
theorem join_ok (ro : Nat → Option (List Value)) : ∀ args H r H', tot? joinV joinOk args H = some (r, H') → HSound1 Tryd.prog ro 44 args H r H' := by
  refine tot_ok (has_fn (by kernel_rfl)) fun args hok => ?_
  unfold joinOk at hok
  unfold joinV
  split at hok
  · rename_i rb hj
    unfold joinP at hj
    split at hj
    · rename_i xs tip sep
      split at hj
      · rename_i l hl
        cases hj
        have hx := strs_eq hl
        subst hx
        obtain ⟨hn, hz⟩ := of_decide_eq_true hok
        have hcl : ∃ tip', cleans [AV.lst 1 (l.map sv) tip, .v (.string sep)] = some [.lst 1 (l.map sv) tip', .v (.string sep)] := by
          cases tip <;> exact ⟨_, rfl⟩
        obtain ⟨tip', hcl⟩ := hcl
        refine ⟨_, hcl, Fs.mono (below_fs (u := .string (joinB l sep)) (has_fn (by kernel_rfl)) fun G W cargs hI hR hA => ?_) fun r _ h => by subst h; exact ⟨_, rfl, Le.refl _⟩⟩
        obtain ⟨cl⟩ := cargs
        cases hA with
        | cons h1 h2 =>
          cases h2 with
          | cons h2 h3 =>
            cases h3
            cases h2
            cases h1 with
            | @lst _ _ _ a n cap cs hl1 hp hs hm hc hx ht =>
              rw [List.length_map] at hl1
              subst hl1
              have hcs : cs = l.map Value.string := by
                have : (l.map sv).flatMap AV.cells = (l.map Value.string).map AV.v := by
                  rw [show l.map sv = (l.map Value.string).map AV.v by rw [List.map_map]; rfl, flat_v _ (fun u hu => by obtain ⟨z, _, rfl⟩ := List.mem_map.1 hu; rfl)]
                rw [this] at hp
                exact vals_rel hp.rvs (by
                  generalize l.map Value.string = us
                  induction us with
                  | nil => rfl
                  | cons u l ih => simp [vals?, AV.val?, ih])
              subst hcs
              cases l with
              | nil =>
                refine (Tryd.strings_Join_none a cap sep W).mono ?_
                rintro e w' ⟨rfl, rfl⟩
                exact ⟨rfl, Below.refl _ _⟩
              | cons x l =>
                obtain ⟨b, off, rfl, hcell⟩ := hm.2 (by simp)
                have hz' : (Lib.join ((x :: l).map (·.data.toList)) sep.data.toList).length ≤ 140737488355328 := by
                  have : (joinB (x :: l) sep).size = (Lib.join ((x :: l).map (·.data.toList)) sep.data.toList).length := by show (List.toArray _).size = _; simp
                  rw [this] at hz; exact hz
                refine Tryd.strings_Join b off cap (x :: l) sep W (fun j y hj => (hcell j _ (by rw [List.getElem?_map, hj]; rfl)).2) ?_ hn hc hz'
                have := (hcell 0 (.string x) rfl).2
                exact cell_lt this
      · cases hj
    · cases hj
  · cases hok
end Go.Proofs.YtodjeammjdgkoaaDoor.AE
namespace Go.Proofs.YtodjeammjdgkoaaDoor.AE
open Go.RowKit
noncomputable def prJ : FuncId → Option (List AV → AH → Ans) := fun g => match g with
  | 44 => some (tot? joinV joinOk)
  | _ => none
theorem knownJ (ro : Nat → Option (List Value)) : Known ro prJ := by
  intro g p h
  unfold prJ at h
  split at h
  · cases h; exact join_ok _
  · cases h
def rlA (s : ByteArray) (x : AV) (f i : Int) : List AV := [.v (.string s), .dead, .dead, x, .v (.int .i64 f), .v (.int .i64 i)] ++ List.replicate 30 .dead
def rwA (s : ByteArray) (x : AV) (w : ByteArray) (i : Int) : List AV := [.v (.string s), .dead, .dead, x, .v (.string w), .v (.int .i64 i)] ++ List.replicate 42 .dead
def rjA (l : List ByteArray) (s : ByteArray) (i : Int) : List AV := [.lst 1 (l.map sv) .no, .dead, .dead, .v (.string s), .v (.int .i64 i)] ++ List.replicate 17 .dead
def rfA (w : ByteArray) (l : List ByteArray) (i : Int) : List AV := [.v (.string w), .lst 1 (l.map sv) .no, .dead, .dead, .dead, .dead, .v (.int .i64 i)] ++ List.replicate 13 .dead
def fdA (w : ByteArray) (l : List ByteArray) (n i : Int) : List AV := [.v (.string w)] ++ List.replicate 7 .dead ++ [.lst 1 (l.map sv) .no, .v (.int .i64 n), .v (.int .i64 i)] ++ List.replicate 9 .dead
theorem rl_pre (s : ByteArray) (R : Exit → List AV → AH → Prop) : codeL nro (fun _ => false) prJ 5 ((flatten (bodyOf 39)).take 4) ([.v (.string s)] ++ List.replicate 35 (.v undef)) (hp [] []) (kp [0, 3, 4, 5] R) =
    (some (True ∧ (R Exit.normal [(AV.v (Value.string s)), AV.dead, AV.dead, (AV.v (Value.slice none (0 : Nat) (0 : Nat))), (AV.v (Value.int IntKind.i64 (0 : Int))), (AV.v (Value.int IntKind.i64 (0 : Int))), AV.dead, AV.dead, AV.dead, AV.dead, AV.dead, AV.dead, AV.dead, AV.dead, AV.dead, AV.dead, AV.dead, AV.dead, AV.dead, AV.dead, AV.dead, AV.dead, AV.dead, AV.dead, AV.dead, AV.dead, AV.dead, AV.dead, AV.dead, AV.dead, AV.dead, AV.dead, AV.dead, AV.dead, AV.dead, AV.dead] (AH.mk (@List.nil (Prod Go.TypeId (List AV))) (@List.nil Nat) (0 : Nat) (0 : Nat) true (@List.nil (Prod Nat Bool)) True)))) := by kernel_rfl
theorem rl_in (s : ByteArray) (os : List ByteArray) (ver : Nat) (f i : Int) (R : Exit → List AV → AH → Prop) : code nro (fun _ => false) prJ 5 (sub (bodyOf 39) [1, 1, 1, 0, 1, 0, 0]) (rlA s (.lst 1 (os.map sv) (.tp 0 ver)) f i) (hp [] [ver]) (kp [0, 3, 4, 5] R) =
    (bif (decide (i < ((ByteArray.size s) : Int))) then (bif (((UInt8.toNat (Array.getD (ByteArray.data s) (Int.toNat i) (@OfNat.ofNat UInt8 (0 : Nat) (@UInt8.instOfNat 0)))) : Int) == (10 : Int)) then (some ((cdb (cdb (cdb True (decide (((0 : Int) ≤ i) ∧ ((Int.toNat i) < (ByteArray.size s))))) (decide (((0 : Int) ≤ f) ∧ ((f ≤ i) ∧ (i ≤ ((ByteArray.size s) : Int)))))) (decide ((((((List.length (List.map sv os)) + (List.length [(AV.v (Value.string (ByteArray.extract s (Int.toNat f) (Int.toNat i))))])) * (16 : Nat)) ≤ (140737488355328 : Nat)) ∧ (((List.length (List.map sv os)) + (List.length [(AV.v (Value.string (ByteArray.extract s (Int.toNat f) (Int.toNat i))))])) ≤ (9223372036854775807 : Nat))) ∧ (ver = ver)))) ∧ (R Exit.normal [(AV.v (Value.string s)), AV.dead, AV.dead, (AV.lst (1 : Nat) ((List.map sv os) ++ [(AV.v (Value.string (ByteArray.extract s (Int.toNat f) (Int.toNat i))))]) (Tip.tp (0 : Nat) (ver + (1 : Nat)))), (AV.v (Value.int IntKind.i64 (IntKind.wrap IntKind.i64 (i + (1 : Int))))), (AV.v (Value.int IntKind.i64 (IntKind.wrap IntKind.i64 (i + (1 : Int))))), AV.dead, AV.dead, AV.dead, AV.dead, AV.dead, AV.dead, AV.dead, AV.dead, AV.dead, AV.dead, AV.dead, AV.dead, AV.dead, AV.dead, AV.dead, AV.dead, AV.dead, AV.dead, AV.dead, AV.dead, AV.dead, AV.dead, AV.dead, AV.dead, AV.dead, AV.dead, AV.dead, AV.dead, AV.dead, AV.dead] (AH.mk (@List.nil (Prod Go.TypeId (List AV))) [(ver + (1 : Nat))] (0 : Nat) (0 : Nat) true (@List.nil (Prod Nat Bool)) True)))) else (some ((cdb True (decide (((0 : Int) ≤ i) ∧ ((Int.toNat i) < (ByteArray.size s))))) ∧ (R Exit.normal [(AV.v (Value.string s)), AV.dead, AV.dead, (AV.lst (1 : Nat) (List.map sv os) (Tip.tp (0 : Nat) ver)), (AV.v (Value.int IntKind.i64 f)), (AV.v (Value.int IntKind.i64 (IntKind.wrap IntKind.i64 (i + (1 : Int))))), AV.dead, AV.dead, AV.dead, AV.dead, AV.dead, AV.dead, AV.dead, AV.dead, AV.dead, AV.dead, AV.dead, AV.dead, AV.dead, AV.dead, AV.dead, AV.dead, AV.dead, AV.dead, AV.dead, AV.dead, AV.dead, AV.dead, AV.dead, AV.dead, AV.dead, AV.dead, AV.dead, AV.dead, AV.dead, AV.dead] (AH.mk (@List.nil (Prod Go.TypeId (List AV))) [ver] (0 : Nat) (0 : Nat) true (@List.nil (Prod Nat Bool)) True))))) else (some (True ∧ (R (Exit.exit (0 : Nat)) [(AV.v (Value.string s)), AV.dead, AV.dead, (AV.lst (1 : Nat) (List.map sv os) (Tip.tp (0 : Nat) ver)), (AV.v (Value.int IntKind.i64 f)), (AV.v (Value.int IntKind.i64 i)), AV.dead, AV.dead, AV.dead, AV.dead, AV.dead, AV.dead, AV.dead, AV.dead, AV.dead, AV.dead, AV.dead, AV.dead, AV.dead, AV.dead, AV.dead, AV.dead, AV.dead, AV.dead, AV.dead, AV.dead, AV.dead, AV.dead, AV.dead, AV.dead, AV.dead, AV.dead, AV.dead, AV.dead, AV.dead, AV.dead] (AH.mk (@List.nil (Prod Go.TypeId (List AV))) [ver] (0 : Nat) (0 : Nat) true (@List.nil (Prod Nat Bool)) True))))) := by kernel_rfl
theorem rl_post (s : ByteArray) (os : List ByteArray) (ver : Nat) (f i : Int) (R : Exit → List AV → AH → Prop) : codeL nro (fun _ => false) prJ 5 ((flatten (bodyOf 39)).drop 5) (rlA s (.lst 1 (os.map sv) (.tp 0 ver)) f i) (hp [] [ver]) (kp [2] R) =
    (bif (decide (f < ((ByteArray.size s) : Int))) then (some ((cdb (cdb True (decide (((0 : Int) ≤ f) ∧ ((f ≤ ((ByteArray.size s) : Int)) ∧ (((ByteArray.size s) : Int) ≤ ((ByteArray.size s) : Int)))))) (decide ((((((List.length (List.map sv os)) + (List.length [(AV.v (Value.string (ByteArray.extract s (Int.toNat f) (Int.toNat ((ByteArray.size s) : Int)))))])) * (16 : Nat)) ≤ (140737488355328 : Nat)) ∧ (((List.length (List.map sv os)) + (List.length [(AV.v (Value.string (ByteArray.extract s (Int.toNat f) (Int.toNat ((ByteArray.size s) : Int)))))])) ≤ (9223372036854775807 : Nat))) ∧ (ver = ver)))) ∧ (R Exit.ret [AV.dead, AV.dead, (AV.lst (1 : Nat) ((List.map sv os) ++ [(AV.v (Value.string (ByteArray.extract s (Int.toNat f) (Int.toNat ((ByteArray.size s) : Int)))))]) (Tip.tp (0 : Nat) (ver + (1 : Nat)))), AV.dead, AV.dead, AV.dead, AV.dead, AV.dead, AV.dead, AV.dead, AV.dead, AV.dead, AV.dead, AV.dead, AV.dead, AV.dead, AV.dead, AV.dead, AV.dead, AV.dead, AV.dead, AV.dead, AV.dead, AV.dead, AV.dead, AV.dead, AV.dead, AV.dead, AV.dead, AV.dead, AV.dead, AV.dead, AV.dead, AV.dead, AV.dead, AV.dead] (AH.mk (@List.nil (Prod Go.TypeId (List AV))) [(ver + (1 : Nat))] (0 : Nat) (0 : Nat) true (@List.nil (Prod Nat Bool)) True)))) else (some (True ∧ (R Exit.ret [AV.dead, AV.dead, (AV.lst (1 : Nat) (List.map sv os) (Tip.tp (0 : Nat) ver)), AV.dead, AV.dead, AV.dead, AV.dead, AV.dead, AV.dead, AV.dead, AV.dead, AV.dead, AV.dead, AV.dead, AV.dead, AV.dead, AV.dead, AV.dead, AV.dead, AV.dead, AV.dead, AV.dead, AV.dead, AV.dead, AV.dead, AV.dead, AV.dead, AV.dead, AV.dead, AV.dead, AV.dead, AV.dead, AV.dead, AV.dead, AV.dead, AV.dead] (AH.mk (@List.nil (Prod Go.TypeId (List AV))) [ver] (0 : Nat) (0 : Nat) true (@List.nil (Prod Nat Bool)) True))))) := by kernel_rfl
theorem rw_pre (s : ByteArray) (R : Exit → List AV → AH → Prop) : codeL nro (fun _ => false) prJ 5 ((flatten (bodyOf 33)).take 4) ([.v (.string s)] ++ List.replicate 47 (.v undef)) (hp [] []) (kp [0, 3, 4, 5] R) =
    (some (True ∧ (R Exit.normal [(AV.v (Value.string s)), AV.dead, AV.dead, (AV.v (Value.slice none (0 : Nat) (0 : Nat))), (AV.v (Value.string (ByteArray.mk (Array.mk (@List.nil UInt8))))), (AV.v (Value.int IntKind.i64 (0 : Int))), AV.dead, AV.dead, AV.dead, AV.dead, AV.dead, AV.dead, AV.dead, AV.dead, AV.dead, AV.dead, AV.dead, AV.dead, AV.dead, AV.dead, AV.dead, AV.dead, AV.dead, AV.dead, AV.dead, AV.dead, AV.dead, AV.dead, AV.dead, AV.dead, AV.dead, AV.dead, AV.dead, AV.dead, AV.dead, AV.dead, AV.dead, AV.dead, AV.dead, AV.dead, AV.dead, AV.dead, AV.dead, AV.dead, AV.dead, AV.dead, AV.dead, AV.dead] (AH.mk (@List.nil (Prod Go.TypeId (List AV))) (@List.nil Nat) (0 : Nat) (0 : Nat) true (@List.nil (Prod Nat Bool)) True)))) := by kernel_rfl
theorem rw_in (s w : ByteArray) (os : List ByteArray) (ver : Nat) (i : Int) (R : Exit → List AV → AH → Prop) : code nro (fun _ => false) prJ 5 (sub (bodyOf 33) [1, 1, 1, 0, 1, 0, 0]) (rwA s (.lst 1 (os.map sv) (.tp 0 ver)) w i) (hp [] [ver]) (kp [0, 3, 4, 5] R) =
    (bif (decide (i < ((ByteArray.size s) : Int))) then (bif (((UInt8.toNat (Array.getD (ByteArray.data s) (Int.toNat i) (@OfNat.ofNat UInt8 (0 : Nat) (@UInt8.instOfNat 0)))) : Int) != (35 : Int)) then (bif (((UInt8.toNat (Array.getD (ByteArray.data s) (Int.toNat i) (@OfNat.ofNat UInt8 (0 : Nat) (@UInt8.instOfNat 0)))) : Int) != (32 : Int)) then (bif (((UInt8.toNat (Array.getD (ByteArray.data s) (Int.toNat i) (@OfNat.ofNat UInt8 (0 : Nat) (@UInt8.instOfNat 0)))) : Int) != (9 : Int)) then (some ((cdb (cdb (cdb (cdb (cdb True (decide (((0 : Int) ≤ i) ∧ ((Int.toNat i) < (ByteArray.size s))))) (decide (((0 : Int) ≤ i) ∧ ((Int.toNat i) < (ByteArray.size s))))) (decide (((0 : Int) ≤ i) ∧ ((Int.toNat i) < (ByteArray.size s))))) (decide (((0 : Int) ≤ i) ∧ ((i ≤ (IntKind.wrap IntKind.i64 (i + (1 : Int)))) ∧ ((IntKind.wrap IntKind.i64 (i + (1 : Int))) ≤ ((ByteArray.size s) : Int)))))) (decide (((ByteArray.size w) + (ByteArray.size (ByteArray.extract s (Int.toNat i) (Int.toNat (IntKind.wrap IntKind.i64 (i + (1 : Int))))))) ≤ (9223372036854775807 : Nat)))) ∧ (R Exit.normal [(AV.v (Value.string s)), AV.dead, AV.dead, (AV.lst (1 : Nat) (List.map sv os) (Tip.tp (0 : Nat) ver)), (AV.v (Value.string (w ++ (ByteArray.extract s (Int.toNat i) (Int.toNat (IntKind.wrap IntKind.i64 (i + (1 : Int)))))))), (AV.v (Value.int IntKind.i64 (IntKind.wrap IntKind.i64 (i + (1 : Int))))), AV.dead, AV.dead, AV.dead, AV.dead, AV.dead, AV.dead, AV.dead, AV.dead, AV.dead, AV.dead, AV.dead, AV.dead, AV.dead, AV.dead, AV.dead, AV.dead, AV.dead, AV.dead, AV.dead, AV.dead, AV.dead, AV.dead, AV.dead, AV.dead, AV.dead, AV.dead, AV.dead, AV.dead, AV.dead, AV.dead, AV.dead, AV.dead, AV.dead, AV.dead, AV.dead, AV.dead, AV.dead, AV.dead, AV.dead, AV.dead, AV.dead, AV.dead] (AH.mk (@List.nil (Prod Go.TypeId (List AV))) [ver] (0 : Nat) (0 : Nat) true (@List.nil (Prod Nat Bool)) True)))) else (bif (!((ByteArray.toList w) == (@List.nil UInt8))) then (some ((cdb (cdb (cdb (cdb True (decide (((0 : Int) ≤ i) ∧ ((Int.toNat i) < (ByteArray.size s))))) (decide (((0 : Int) ≤ i) ∧ ((Int.toNat i) < (ByteArray.size s))))) (decide (((0 : Int) ≤ i) ∧ ((Int.toNat i) < (ByteArray.size s))))) (decide ((((((List.length (List.map sv os)) + (List.length [(AV.v (Value.string w))])) * (16 : Nat)) ≤ (140737488355328 : Nat)) ∧ (((List.length (List.map sv os)) + (List.length [(AV.v (Value.string w))])) ≤ (9223372036854775807 : Nat))) ∧ (ver = ver)))) ∧ (R Exit.normal [(AV.v (Value.string s)), AV.dead, AV.dead, (AV.lst (1 : Nat) ((List.map sv os) ++ [(AV.v (Value.string w))]) (Tip.tp (0 : Nat) (ver + (1 : Nat)))), (AV.v (Value.string (ByteArray.mk (Array.mk (@List.nil UInt8))))), (AV.v (Value.int IntKind.i64 (IntKind.wrap IntKind.i64 (i + (1 : Int))))), AV.dead, AV.dead, AV.dead, AV.dead, AV.dead, AV.dead, AV.dead, AV.dead, AV.dead, AV.dead, AV.dead, AV.dead, AV.dead, AV.dead, AV.dead, AV.dead, AV.dead, AV.dead, AV.dead, AV.dead, AV.dead, AV.dead, AV.dead, AV.dead, AV.dead, AV.dead, AV.dead, AV.dead, AV.dead, AV.dead, AV.dead, AV.dead, AV.dead, AV.dead, AV.dead, AV.dead, AV.dead, AV.dead, AV.dead, AV.dead, AV.dead, AV.dead] (AH.mk (@List.nil (Prod Go.TypeId (List AV))) [(ver + (1 : Nat))] (0 : Nat) (0 : Nat) true (@List.nil (Prod Nat Bool)) True)))) else (some ((cdb (cdb (cdb True (decide (((0 : Int) ≤ i) ∧ ((Int.toNat i) < (ByteArray.size s))))) (decide (((0 : Int) ≤ i) ∧ ((Int.toNat i) < (ByteArray.size s))))) (decide (((0 : Int) ≤ i) ∧ ((Int.toNat i) < (ByteArray.size s))))) ∧ (R Exit.normal [(AV.v (Value.string s)), AV.dead, AV.dead, (AV.lst (1 : Nat) (List.map sv os) (Tip.tp (0 : Nat) ver)), (AV.v (Value.string (ByteArray.mk (Array.mk (@List.nil UInt8))))), (AV.v (Value.int IntKind.i64 (IntKind.wrap IntKind.i64 (i + (1 : Int))))), AV.dead, AV.dead, AV.dead, AV.dead, AV.dead, AV.dead, AV.dead, AV.dead, AV.dead, AV.dead, AV.dead, AV.dead, AV.dead, AV.dead, AV.dead, AV.dead, AV.dead, AV.dead, AV.dead, AV.dead, AV.dead, AV.dead, AV.dead, AV.dead, AV.dead, AV.dead, AV.dead, AV.dead, AV.dead, AV.dead, AV.dead, AV.dead, AV.dead, AV.dead, AV.dead, AV.dead, AV.dead, AV.dead, AV.dead, AV.dead, AV.dead, AV.dead] (AH.mk (@List.nil (Prod Go.TypeId (List AV))) [ver] (0 : Nat) (0 : Nat) true (@List.nil (Prod Nat Bool)) True)))))) else (bif (!((ByteArray.toList w) == (@List.nil UInt8))) then (some ((cdb (cdb (cdb True (decide (((0 : Int) ≤ i) ∧ ((Int.toNat i) < (ByteArray.size s))))) (decide (((0 : Int) ≤ i) ∧ ((Int.toNat i) < (ByteArray.size s))))) (decide ((((((List.length (List.map sv os)) + (List.length [(AV.v (Value.string w))])) * (16 : Nat)) ≤ (140737488355328 : Nat)) ∧ (((List.length (List.map sv os)) + (List.length [(AV.v (Value.string w))])) ≤ (9223372036854775807 : Nat))) ∧ (ver = ver)))) ∧ (R Exit.normal [(AV.v (Value.string s)), AV.dead, AV.dead, (AV.lst (1 : Nat) ((List.map sv os) ++ [(AV.v (Value.string w))]) (Tip.tp (0 : Nat) (ver + (1 : Nat)))), (AV.v (Value.string (ByteArray.mk (Array.mk (@List.nil UInt8))))), (AV.v (Value.int IntKind.i64 (IntKind.wrap IntKind.i64 (i + (1 : Int))))), AV.dead, AV.dead, AV.dead, AV.dead, AV.dead, AV.dead, AV.dead, AV.dead, AV.dead, AV.dead, AV.dead, AV.dead, AV.dead, AV.dead, AV.dead, AV.dead, AV.dead, AV.dead, AV.dead, AV.dead, AV.dead, AV.dead, AV.dead, AV.dead, AV.dead, AV.dead, AV.dead, AV.dead, AV.dead, AV.dead, AV.dead, AV.dead, AV.dead, AV.dead, AV.dead, AV.dead, AV.dead, AV.dead, AV.dead, AV.dead, AV.dead, AV.dead] (AH.mk (@List.nil (Prod Go.TypeId (List AV))) [(ver + (1 : Nat))] (0 : Nat) (0 : Nat) true (@List.nil (Prod Nat Bool)) True)))) else (some ((cdb (cdb True (decide (((0 : Int) ≤ i) ∧ ((Int.toNat i) < (ByteArray.size s))))) (decide (((0 : Int) ≤ i) ∧ ((Int.toNat i) < (ByteArray.size s))))) ∧ (R Exit.normal [(AV.v (Value.string s)), AV.dead, AV.dead, (AV.lst (1 : Nat) (List.map sv os) (Tip.tp (0 : Nat) ver)), (AV.v (Value.string (ByteArray.mk (Array.mk (@List.nil UInt8))))), (AV.v (Value.int IntKind.i64 (IntKind.wrap IntKind.i64 (i + (1 : Int))))), AV.dead, AV.dead, AV.dead, AV.dead, AV.dead, AV.dead, AV.dead, AV.dead, AV.dead, AV.dead, AV.dead, AV.dead, AV.dead, AV.dead, AV.dead, AV.dead, AV.dead, AV.dead, AV.dead, AV.dead, AV.dead, AV.dead, AV.dead, AV.dead, AV.dead, AV.dead, AV.dead, AV.dead, AV.dead, AV.dead, AV.dead, AV.dead, AV.dead, AV.dead, AV.dead, AV.dead, AV.dead, AV.dead, AV.dead, AV.dead, AV.dead, AV.dead] (AH.mk (@List.nil (Prod Go.TypeId (List AV))) [ver] (0 : Nat) (0 : Nat) true (@List.nil (Prod Nat Bool)) True)))))) else (some ((cdb True (decide (((0 : Int) ≤ i) ∧ ((Int.toNat i) < (ByteArray.size s))))) ∧ (R (Exit.exit (0 : Nat)) [(AV.v (Value.string s)), AV.dead, AV.dead, (AV.lst (1 : Nat) (List.map sv os) (Tip.tp (0 : Nat) ver)), (AV.v (Value.string w)), (AV.v (Value.int IntKind.i64 i)), AV.dead, AV.dead, AV.dead, AV.dead, AV.dead, AV.dead, AV.dead, AV.dead, AV.dead, AV.dead, AV.dead, AV.dead, AV.dead, AV.dead, AV.dead, AV.dead, AV.dead, AV.dead, AV.dead, AV.dead, AV.dead, AV.dead, AV.dead, AV.dead, AV.dead, AV.dead, AV.dead, AV.dead, AV.dead, AV.dead, AV.dead, AV.dead, AV.dead, AV.dead, AV.dead, AV.dead, AV.dead, AV.dead, AV.dead, AV.dead, AV.dead, AV.dead] (AH.mk (@List.nil (Prod Go.TypeId (List AV))) [ver] (0 : Nat) (0 : Nat) true (@List.nil (Prod Nat Bool)) True))))) else (some (True ∧ (R (Exit.exit (0 : Nat)) [(AV.v (Value.string s)), AV.dead, AV.dead, (AV.lst (1 : Nat) (List.map sv os) (Tip.tp (0 : Nat) ver)), (AV.v (Value.string w)), (AV.v (Value.int IntKind.i64 i)), AV.dead, AV.dead, AV.dead, AV.dead, AV.dead, AV.dead, AV.dead, AV.dead, AV.dead, AV.dead, AV.dead, AV.dead, AV.dead, AV.dead, AV.dead, AV.dead, AV.dead, AV.dead, AV.dead, AV.dead, AV.dead, AV.dead, AV.dead, AV.dead, AV.dead, AV.dead, AV.dead, AV.dead, AV.dead, AV.dead, AV.dead, AV.dead, AV.dead, AV.dead, AV.dead, AV.dead, AV.dead, AV.dead, AV.dead, AV.dead, AV.dead, AV.dead] (AH.mk (@List.nil (Prod Go.TypeId (List AV))) [ver] (0 : Nat) (0 : Nat) true (@List.nil (Prod Nat Bool)) True))))) := by kernel_rfl
theorem rw_post (s w : ByteArray) (os : List ByteArray) (ver : Nat) (i : Int) (R : Exit → List AV → AH → Prop) : codeL nro (fun _ => false) prJ 5 ((flatten (bodyOf 33)).drop 5) (rwA s (.lst 1 (os.map sv) (.tp 0 ver)) w i) (hp [] [ver]) (kp [2] R) =
    (bif (!((ByteArray.toList w) == (@List.nil UInt8))) then (some ((cdb True (decide ((((((List.length (List.map sv os)) + (List.length [(AV.v (Value.string w))])) * (16 : Nat)) ≤ (140737488355328 : Nat)) ∧ (((List.length (List.map sv os)) + (List.length [(AV.v (Value.string w))])) ≤ (9223372036854775807 : Nat))) ∧ (ver = ver)))) ∧ (R Exit.ret [AV.dead, AV.dead, (AV.lst (1 : Nat) ((List.map sv os) ++ [(AV.v (Value.string w))]) (Tip.tp (0 : Nat) (ver + (1 : Nat)))), AV.dead, AV.dead, AV.dead, AV.dead, AV.dead, AV.dead, AV.dead, AV.dead, AV.dead, AV.dead, AV.dead, AV.dead, AV.dead, AV.dead, AV.dead, AV.dead, AV.dead, AV.dead, AV.dead, AV.dead, AV.dead, AV.dead, AV.dead, AV.dead, AV.dead, AV.dead, AV.dead, AV.dead, AV.dead, AV.dead, AV.dead, AV.dead, AV.dead, AV.dead, AV.dead, AV.dead, AV.dead, AV.dead, AV.dead, AV.dead, AV.dead, AV.dead, AV.dead, AV.dead, AV.dead] (AH.mk (@List.nil (Prod Go.TypeId (List AV))) [(ver + (1 : Nat))] (0 : Nat) (0 : Nat) true (@List.nil (Prod Nat Bool)) True)))) else (some (True ∧ (R Exit.ret [AV.dead, AV.dead, (AV.lst (1 : Nat) (List.map sv os) (Tip.tp (0 : Nat) ver)), AV.dead, AV.dead, AV.dead, AV.dead, AV.dead, AV.dead, AV.dead, AV.dead, AV.dead, AV.dead, AV.dead, AV.dead, AV.dead, AV.dead, AV.dead, AV.dead, AV.dead, AV.dead, AV.dead, AV.dead, AV.dead, AV.dead, AV.dead, AV.dead, AV.dead, AV.dead, AV.dead, AV.dead, AV.dead, AV.dead, AV.dead, AV.dead, AV.dead, AV.dead, AV.dead, AV.dead, AV.dead, AV.dead, AV.dead, AV.dead, AV.dead, AV.dead, AV.dead, AV.dead, AV.dead] (AH.mk (@List.nil (Prod Go.TypeId (List AV))) [ver] (0 : Nat) (0 : Nat) true (@List.nil (Prod Nat Bool)) True))))) := by kernel_rfl
theorem c_join (l : List ByteArray) (Φ : AV → Prop) : callK nro (fun _ => false) prJ 8 25 [.lst 1 (l.map sv) .no] (hp [] []) (fun r h => some (h.cd ∧ Φ r)) =
    (some ((cdb True (joinOk [(AV.lst (1 : Nat) (List.map sv l) Tip.no), (AV.v (Value.string (ByteArray.mk #[(@OfNat.ofNat UInt8 (32 : Nat) (@UInt8.instOfNat 32))])))])) ∧ (Φ (AV.v (Value.string (joinV.match_1 (fun (x : (Option (Prod ByteArray Bool))) => ByteArray) (joinP.match_1 (fun (x : (List AV)) => (Option (Prod ByteArray Bool))) [(AV.lst (1 : Nat) (List.map sv l) Tip.no), (AV.v (Value.string (ByteArray.mk #[(@OfNat.ofNat UInt8 (32 : Nat) (@UInt8.instOfNat 32))])))] (fun (xs : (List AV)) => (fun (x : Tip) => (fun (sep : ByteArray) => (strs?.match_1 (fun (x : (Option (List ByteArray))) => (Option (Prod ByteArray Bool))) (strs? xs) (fun (l : (List ByteArray)) => (some ((ByteArray.mk (Array.mk (List.flatten (List.intersperse (Array.toList (ByteArray.data sep)) (List.map (fun (x : ByteArray) => (Array.toList (ByteArray.data x))) l))))), (decide (((List.length l) ≤ (140737488355328 : Nat)) ∧ ((ByteArray.size (ByteArray.mk (Array.mk (List.flatten (List.intersperse (Array.toList (ByteArray.data sep)) (List.map (fun (x : ByteArray) => (Array.toList (ByteArray.data x))) l)))))) ≤ (140737488355328 : Nat))))))) (fun (_ : Unit) => none))))) (fun (x : (List AV)) => none)) (fun (r : (Prod ByteArray Bool)) => (r).1) (fun (_ : Unit) => (ByteArray.mk (Array.mk (@List.nil UInt8)))))))))) := by kernel_rfl
theorem rj_pre (l : List ByteArray) (R : Exit → List AV → AH → Prop) : codeL nro (fun _ => false) prJ 5 ((flatten (bodyOf 28)).take 3) ([.lst 1 (l.map sv) .no] ++ List.replicate 21 (.v undef)) (hp [] []) (kp [0, 3, 4] R) =
    (some (True ∧ (R Exit.normal [(AV.lst (1 : Nat) (List.map sv l) Tip.no), AV.dead, AV.dead, (AV.v (Value.string (ByteArray.mk (Array.mk (@List.nil UInt8))))), (AV.v (Value.int IntKind.i64 (0 : Int))), AV.dead, AV.dead, AV.dead, AV.dead, AV.dead, AV.dead, AV.dead, AV.dead, AV.dead, AV.dead, AV.dead, AV.dead, AV.dead, AV.dead, AV.dead, AV.dead, AV.dead] (AH.mk (@List.nil (Prod Go.TypeId (List AV))) (@List.nil Nat) (0 : Nat) (0 : Nat) true (@List.nil (Prod Nat Bool)) True)))) := by kernel_rfl
theorem rj_in (l : List ByteArray) (s : ByteArray) (i : Int) (R : Exit → List AV → AH → Prop) : code nro (fun _ => false) prJ 5 (sub (bodyOf 28) [1, 1, 0, 1, 0, 0]) (rjA l s i) (hp [] []) (kp [0, 3, 4] R) =
    (bif (decide (i < ((List.length (List.map sv l)) : Int))) then (bif (decide ((0 : Int) < i)) then (some ((cdb (cds (cdb True (decide (((ByteArray.size s) + (1 : Nat)) ≤ (9223372036854775807 : Nat)))) (elemB Tryd.prog (9 : Nat) (List.map sv l) i) (((0 : Int) ≤ i) ∧ (((List.map sv l)[(Int.toNat i)]?) = (some (AV.v (Value.string (exStr (List.getD (List.map sv l) (Int.toNat i) AV.dead)))))))) (decide (((ByteArray.size (s ++ (ByteArray.mk #[(@OfNat.ofNat UInt8 (32 : Nat) (@UInt8.instOfNat 32))]))) + (ByteArray.size (exStr (List.getD (List.map sv l) (Int.toNat i) AV.dead)))) ≤ (9223372036854775807 : Nat)))) ∧ (R Exit.normal [(AV.lst (1 : Nat) (List.map sv l) Tip.no), AV.dead, AV.dead, (AV.v (Value.string ((s ++ (ByteArray.mk #[(@OfNat.ofNat UInt8 (32 : Nat) (@UInt8.instOfNat 32))])) ++ (exStr (List.getD (List.map sv l) (Int.toNat i) AV.dead))))), (AV.v (Value.int IntKind.i64 (IntKind.wrap IntKind.i64 (i + (1 : Int))))), AV.dead, AV.dead, AV.dead, AV.dead, AV.dead, AV.dead, AV.dead, AV.dead, AV.dead, AV.dead, AV.dead, AV.dead, AV.dead, AV.dead, AV.dead, AV.dead, AV.dead] (AH.mk (@List.nil (Prod Go.TypeId (List AV))) (@List.nil Nat) (0 : Nat) (0 : Nat) true (@List.nil (Prod Nat Bool)) True)))) else (some ((cdb (cds True (elemB Tryd.prog (9 : Nat) (List.map sv l) i) (((0 : Int) ≤ i) ∧ (((List.map sv l)[(Int.toNat i)]?) = (some (AV.v (Value.string (exStr (List.getD (List.map sv l) (Int.toNat i) AV.dead)))))))) (decide (((ByteArray.size s) + (ByteArray.size (exStr (List.getD (List.map sv l) (Int.toNat i) AV.dead)))) ≤ (9223372036854775807 : Nat)))) ∧ (R Exit.normal [(AV.lst (1 : Nat) (List.map sv l) Tip.no), AV.dead, AV.dead, (AV.v (Value.string (s ++ (exStr (List.getD (List.map sv l) (Int.toNat i) AV.dead))))), (AV.v (Value.int IntKind.i64 (IntKind.wrap IntKind.i64 (i + (1 : Int))))), AV.dead, AV.dead, AV.dead, AV.dead, AV.dead, AV.dead, AV.dead, AV.dead, AV.dead, AV.dead, AV.dead, AV.dead, AV.dead, AV.dead, AV.dead, AV.dead, AV.dead] (AH.mk (@List.nil (Prod Go.TypeId (List AV))) (@List.nil Nat) (0 : Nat) (0 : Nat) true (@List.nil (Prod Nat Bool)) True))))) else (some (True ∧ (R (Exit.exit (0 : Nat)) [(AV.lst (1 : Nat) (List.map sv l) Tip.no), AV.dead, AV.dead, (AV.v (Value.string s)), (AV.v (Value.int IntKind.i64 i)), AV.dead, AV.dead, AV.dead, AV.dead, AV.dead, AV.dead, AV.dead, AV.dead, AV.dead, AV.dead, AV.dead, AV.dead, AV.dead, AV.dead, AV.dead, AV.dead, AV.dead] (AH.mk (@List.nil (Prod Go.TypeId (List AV))) (@List.nil Nat) (0 : Nat) (0 : Nat) true (@List.nil (Prod Nat Bool)) True))))) := by kernel_rfl
theorem rj_post (l : List ByteArray) (s : ByteArray) (i : Int) (R : Exit → List AV → AH → Prop) : codeL nro (fun _ => false) prJ 5 ((flatten (bodyOf 28)).drop 4) (rjA l s i) (hp [] []) (kp [2] R) =
    (some (True ∧ (R Exit.ret [AV.dead, AV.dead, (AV.v (Value.string s)), AV.dead, AV.dead, AV.dead, AV.dead, AV.dead, AV.dead, AV.dead, AV.dead, AV.dead, AV.dead, AV.dead, AV.dead, AV.dead, AV.dead, AV.dead, AV.dead, AV.dead, AV.dead, AV.dead] (AH.mk (@List.nil (Prod Go.TypeId (List AV))) (@List.nil Nat) (0 : Nat) (0 : Nat) true (@List.nil (Prod Nat Bool)) True)))) := by kernel_rfl
theorem rf_pre (w : ByteArray) (l : List ByteArray) (R : Exit → List AV → AH → Prop) : codeL nro (fun _ => false) prJ 5 ((flatten (bodyOf 34)).take 2) ([.v (.string w), .lst 1 (l.map sv) .no] ++ List.replicate 18 (.v undef)) (hp [] []) (kp [0, 1, 6] R) =
    (some (True ∧ (R Exit.normal [(AV.v (Value.string w)), (AV.lst (1 : Nat) (List.map sv l) Tip.no), AV.dead, AV.dead, AV.dead, AV.dead, (AV.v (Value.int IntKind.i64 (0 : Int))), AV.dead, AV.dead, AV.dead, AV.dead, AV.dead, AV.dead, AV.dead, AV.dead, AV.dead, AV.dead, AV.dead, AV.dead, AV.dead] (AH.mk (@List.nil (Prod Go.TypeId (List AV))) (@List.nil Nat) (0 : Nat) (0 : Nat) true (@List.nil (Prod Nat Bool)) True)))) := by kernel_rfl
theorem rf_in (w : ByteArray) (l : List ByteArray) (i : Int) (R : Exit → List AV → AH → Prop) : code nro (fun _ => false) prJ 5 (sub (bodyOf 34) [1, 0, 1, 0, 0]) (rfA w l i) (hp [] []) (kp [0, 1, 4, 5, 6] R) =
    (bif (decide (i < ((List.length (List.map sv l)) : Int))) then (bif ((ByteArray.toList (exStr (List.getD (List.map sv l) (Int.toNat i) AV.dead))) == (ByteArray.toList w)) then (some ((cds True (elemB Tryd.prog (9 : Nat) (List.map sv l) i) (((0 : Int) ≤ i) ∧ (((List.map sv l)[(Int.toNat i)]?) = (some (AV.v (Value.string (exStr (List.getD (List.map sv l) (Int.toNat i) AV.dead)))))))) ∧ (R Exit.ret [(AV.v (Value.string w)), (AV.lst (1 : Nat) (List.map sv l) Tip.no), AV.dead, AV.dead, (AV.v (Value.int IntKind.i64 i)), (AV.v (Value.bool true)), (AV.v (Value.int IntKind.i64 i)), AV.dead, AV.dead, AV.dead, AV.dead, AV.dead, AV.dead, AV.dead, AV.dead, AV.dead, AV.dead, AV.dead, AV.dead, AV.dead] (AH.mk (@List.nil (Prod Go.TypeId (List AV))) (@List.nil Nat) (0 : Nat) (0 : Nat) true (@List.nil (Prod Nat Bool)) True)))) else (some ((cds True (elemB Tryd.prog (9 : Nat) (List.map sv l) i) (((0 : Int) ≤ i) ∧ (((List.map sv l)[(Int.toNat i)]?) = (some (AV.v (Value.string (exStr (List.getD (List.map sv l) (Int.toNat i) AV.dead)))))))) ∧ (R Exit.normal [(AV.v (Value.string w)), (AV.lst (1 : Nat) (List.map sv l) Tip.no), AV.dead, AV.dead, AV.dead, AV.dead, (AV.v (Value.int IntKind.i64 (IntKind.wrap IntKind.i64 (i + (1 : Int))))), AV.dead, AV.dead, AV.dead, AV.dead, AV.dead, AV.dead, AV.dead, AV.dead, AV.dead, AV.dead, AV.dead, AV.dead, AV.dead] (AH.mk (@List.nil (Prod Go.TypeId (List AV))) (@List.nil Nat) (0 : Nat) (0 : Nat) true (@List.nil (Prod Nat Bool)) True))))) else (some (True ∧ (R (Exit.exit (0 : Nat)) [(AV.v (Value.string w)), (AV.lst (1 : Nat) (List.map sv l) Tip.no), AV.dead, AV.dead, AV.dead, AV.dead, (AV.v (Value.int IntKind.i64 i)), AV.dead, AV.dead, AV.dead, AV.dead, AV.dead, AV.dead, AV.dead, AV.dead, AV.dead, AV.dead, AV.dead, AV.dead, AV.dead] (AH.mk (@List.nil (Prod Go.TypeId (List AV))) (@List.nil Nat) (0 : Nat) (0 : Nat) true (@List.nil (Prod Nat Bool)) True))))) := by kernel_rfl
theorem rf_post (w : ByteArray) (l : List ByteArray) (i : Int) (R : Exit → List AV → AH → Prop) : codeL nro (fun _ => false) prJ 5 ((flatten (bodyOf 34)).drop 3) (rfA w l i) (hp [] []) (kp [4, 5] R) =
    (some (True ∧ (R Exit.ret [AV.dead, AV.dead, AV.dead, AV.dead, (AV.v (Value.int IntKind.i64 (0 : Int))), (AV.v (Value.bool false)), AV.dead, AV.dead, AV.dead, AV.dead, AV.dead, AV.dead, AV.dead, AV.dead, AV.dead, AV.dead, AV.dead, AV.dead, AV.dead, AV.dead] (AH.mk (@List.nil (Prod Go.TypeId (List AV))) (@List.nil Nat) (0 : Nat) (0 : Nat) true (@List.nil (Prod Nat Bool)) True)))) := by kernel_rfl
theorem fd_pre (w : ByteArray) (l : List ByteArray) (R : Exit → List AV → AH → Prop) : codeL nro (fun _ => false) prJ 5 ((flatten (bodyOf 55)).take 2) ([.v (.string w), .lst 1 (l.map sv) .no] ++ List.replicate 18 (.v undef)) (hp [] []) (kp [0, 8, 9, 10] R) =
    (some (True ∧ (R Exit.normal [(AV.v (Value.string w)), AV.dead, AV.dead, AV.dead, AV.dead, AV.dead, AV.dead, AV.dead, (AV.lst (1 : Nat) (List.map sv l) Tip.no), (AV.v (Value.int IntKind.i64 ((List.length (List.map sv l)) : Int))), (AV.v (Value.int IntKind.i64 (0 : Int))), AV.dead, AV.dead, AV.dead, AV.dead, AV.dead, AV.dead, AV.dead, AV.dead, AV.dead] (AH.mk (@List.nil (Prod Go.TypeId (List AV))) (@List.nil Nat) (0 : Nat) (0 : Nat) true (@List.nil (Prod Nat Bool)) True)))) := by kernel_rfl
theorem fd_in (w : ByteArray) (l : List ByteArray) (n i : Int) (R : Exit → List AV → AH → Prop) : code nro (fun _ => false) prJ 5 (sub (bodyOf 55) [1, 0, 1, 0, 0]) (fdA w l n i) (hp [] []) (kp [0, 4, 5, 8, 9, 10] R) =
    (bif (decide (i < n)) then (bif ((ByteArray.toList (exStr (List.getD (List.map sv l) (Int.toNat i) AV.dead))) == (ByteArray.toList w)) then (some ((cds True (elemB Tryd.prog (9 : Nat) (List.map sv l) i) (((0 : Int) ≤ i) ∧ (((List.map sv l)[(Int.toNat i)]?) = (some (AV.v (Value.string (exStr (List.getD (List.map sv l) (Int.toNat i) AV.dead)))))))) ∧ (R Exit.ret [(AV.v (Value.string w)), AV.dead, AV.dead, AV.dead, (AV.v (Value.int IntKind.i64 i)), (AV.v (Value.bool true)), AV.dead, AV.dead, (AV.lst (1 : Nat) (List.map sv l) Tip.no), (AV.v (Value.int IntKind.i64 n)), (AV.v (Value.int IntKind.i64 i)), AV.dead, AV.dead, AV.dead, AV.dead, AV.dead, AV.dead, AV.dead, AV.dead, AV.dead] (AH.mk (@List.nil (Prod Go.TypeId (List AV))) (@List.nil Nat) (0 : Nat) (0 : Nat) true (@List.nil (Prod Nat Bool)) True)))) else (some ((cds True (elemB Tryd.prog (9 : Nat) (List.map sv l) i) (((0 : Int) ≤ i) ∧ (((List.map sv l)[(Int.toNat i)]?) = (some (AV.v (Value.string (exStr (List.getD (List.map sv l) (Int.toNat i) AV.dead)))))))) ∧ (R Exit.normal [(AV.v (Value.string w)), AV.dead, AV.dead, AV.dead, AV.dead, AV.dead, AV.dead, AV.dead, (AV.lst (1 : Nat) (List.map sv l) Tip.no), (AV.v (Value.int IntKind.i64 n)), (AV.v (Value.int IntKind.i64 (IntKind.wrap IntKind.i64 (i + (1 : Int))))), AV.dead, AV.dead, AV.dead, AV.dead, AV.dead, AV.dead, AV.dead, AV.dead, AV.dead] (AH.mk (@List.nil (Prod Go.TypeId (List AV))) (@List.nil Nat) (0 : Nat) (0 : Nat) true (@List.nil (Prod Nat Bool)) True))))) else (some (True ∧ (R (Exit.exit (0 : Nat)) [(AV.v (Value.string w)), AV.dead, AV.dead, AV.dead, AV.dead, AV.dead, AV.dead, AV.dead, (AV.lst (1 : Nat) (List.map sv l) Tip.no), (AV.v (Value.int IntKind.i64 n)), (AV.v (Value.int IntKind.i64 i)), AV.dead, AV.dead, AV.dead, AV.dead, AV.dead, AV.dead, AV.dead, AV.dead, AV.dead] (AH.mk (@List.nil (Prod Go.TypeId (List AV))) (@List.nil Nat) (0 : Nat) (0 : Nat) true (@List.nil (Prod Nat Bool)) True))))) := by kernel_rfl
theorem fd_post (w : ByteArray) (l : List ByteArray) (n i : Int) (R : Exit → List AV → AH → Prop) : codeL nro (fun _ => false) prJ 5 ((flatten (bodyOf 55)).drop 3) (fdA w l n i) (hp [] []) (kp [4, 5] R) =
    (some (True ∧ (R Exit.ret [AV.dead, AV.dead, AV.dead, AV.dead, (AV.v (Value.int IntKind.i64 (0 : Int))), (AV.v (Value.bool false)), AV.dead, AV.dead, AV.dead, AV.dead, AV.dead, AV.dead, AV.dead, AV.dead, AV.dead, AV.dead, AV.dead, AV.dead, AV.dead, AV.dead] (AH.mk (@List.nil (Prod Go.TypeId (List AV))) (@List.nil Nat) (0 : Nat) (0 : Nat) true (@List.nil (Prod Nat Bool)) True)))) := by kernel_rfl
end Go.Proofs.YtodjeammjdgkoaaDoor.AE
namespace Go.Proofs.YtodjeammjdgkoaaDoor.AE
open Go.RowKit
theorem drop_byte (s : ByteArray) (i : Nat) (h : i < s.size) : s.data.toList.drop i = s.data.getD i 0 :: s.data.toList.drop (i + 1) := by
  have h' : i < s.data.toList.length := by rw [len_data]; exact h
  rw [List.drop_eq_getElem_cons h']
  congr 1
  have h2 : i < s.data.size := h
  simp [Array.getD, h2]
  intro h3; omega
theorem take_byte (s : ByteArray) (i : Nat) (h : i < s.size) : s.data.toList.take (i + 1) = s.data.toList.take i ++ [s.data.getD i 0] := by
  have h' : i < s.data.toList.length := by rw [len_data]; exact h
  have hd := drop_byte s i h
  rw [List.drop_eq_getElem_cons h'] at hd
  rw [take_snoc h', (List.cons.inj hd).1]
theorem nat_eq {c : UInt8} {n : Nat} (hn : n < 256) : ((c.toNat : Int) = n) ↔ c = UInt8.ofNat n := by
  constructor
  · intro h
    exact UInt8.toNat_inj.1 (by rw [UInt8.toNat_ofNat_of_lt' hn]; omega)
  · rintro rfl
    rw [UInt8.toNat_ofNat_of_lt' hn]
theorem ix_ok {s : ByteArray} {i : Nat} (h : i < s.size) : decide ((0 : Int) ≤ (i : Int) ∧ Int.toNat (i : Int) < s.size) = true := decide_eq_true ⟨by omega, by show i < s.size; omega⟩
theorem rl_sl : slotsOf 39 = 36 := by kernel_rfl
theorem rl_re : resultsOf 39 = [.tmp 2] := by kernel_rfl
theorem rl_fl : (flatten (bodyOf 39)).drop 4 = .block 0 (.loop (sub (bodyOf 39) [1, 1, 1, 0, 1, 0, 0])) :: (flatten (bodyOf 39)).drop 5 := by kernel_rfl
set_option maxRecDepth 100000 in
theorem fs_rlines (s : ByteArray) (hs : s.size ≤ 100000) : Fs Tryd.prog nro 39 [.v (.string s)] (hp [] []) fun r _ => clean r = some (.lst 1 ((linesS s).map sv) .no) := by
  refine Fs.of_body (has_fn (by kernel_rfl)) ?_
  rw [rl_sl, rl_re]
  refine Tr.of_flat (Trl.split 4 (Trl.of_code (knownJ _) (ne_nil (by kernel_rfl)) (rl_pre s _) ⟨trivial, ?_⟩))
  show Trl _ _ ((flatten (bodyOf 39)).drop 4) _ _ _
  rw [rl_fl]
  refine Trl.nilTip 3 1 rfl rfl ?_
  let L := s.data.toList
  have hL : L.length = s.size := len_data s
  let I : Nat → List AV → AH → Prop := fun m act H => ∃ (p st : Nat) (os : List (List UInt8)) (ver : Nat), p ≤ s.size ∧ m = s.size - p ∧ st ≤ p ∧ os.length ≤ p ∧ act = rlA s (.lst 1 ((os.map ba).map sv) (.tp 0 ver)) st p ∧ H = hp [] [ver] ∧ lns [] L = os ++ lns ((L.take p).drop st) (L.drop p)
  refine Tr.block (Tr.loop I ?_ (m := s.size) ⟨0, 0, [], 0, Nat.zero_le _, rfl, Nat.le_refl _, Nat.le_refl _, rfl, rfl, by simp⟩)
  rintro m act H ⟨p, st, os, ver, hp, rfl, hst, hos, rfl, rfl, hI⟩
  have body := fun R => rl_in s (os.map ba) ver st p R
  rw [inc64 p (by omega), show s.extract (Int.toNat (st : Int)) (Int.toNat (p : Int)) = ba ((L.take p).drop st) from ext_ba s st p] at body
  refine Tr.of_code (knownJ _) (body _) (holds_bif (fun h1 => ?_) fun h1 => ⟨trivial, ?_⟩)
  · have h1 : p < s.size := by have := of_decide_eq_true h1; omega
    have hd : L.drop p = s.data.getD p 0 :: L.drop (p + 1) := drop_byte s p h1
    rw [hd, lns] at hI
    refine holds_bif (fun h => ⟨?_, ?_⟩) fun h => ⟨by with_reducible exact cdb_iff.2 ⟨trivial, ix_ok h1⟩, ?_⟩
    · with_reducible exact cdb_iff.2 ⟨cdb_iff.2 ⟨cdb_iff.2 ⟨trivial, ix_ok h1⟩, decide_eq_true (by omega)⟩, decide_eq_true (room (by rw [List.length_map]; omega))⟩
    · have h : s.data.getD p 0 = 10 := (nat_eq (n := 10) (by decide)).1 (eq_of_beq h)
      rw [if_pos h] at hI
      have hz : (L.take (p + 1)).drop (p + 1) = [] := List.drop_eq_nil_of_le (by rw [List.length_take]; omega)
      exact ⟨s.size - (p + 1), by omega, p + 1, p + 1, os ++ [(L.take p).drop st], ver + 1, h1, rfl, Nat.le_refl _, by simp; omega, by rw [snoc_sv]; rfl, rfl, by rw [hI, hz, List.append_assoc]; rfl⟩
    · have h : ¬ s.data.getD p 0 = 10 := fun e => by
        have h : ¬ ((s.data.getD p 0).toNat : Int) = 10 := ne_of_beq_false h
        rw [e] at h; exact h rfl
      rw [if_neg h] at hI
      refine ⟨s.size - (p + 1), by omega, p + 1, st, os, ver, h1, rfl, by omega, by omega, rfl, rfl, ?_⟩
      have ht : L.take (p + 1) = L.take p ++ [s.data.getD p 0] := take_byte s p h1
      rw [ht, List.drop_append_of_le_length (by rw [List.length_take]; omega)]
      exact hI
  · have hps : p = s.size := by have := of_decide_eq_false h1; omega
    subst hps
    show Trl _ _ ((flatten (bodyOf 39)).drop 5) _ _ _
    rw [List.drop_of_length_le (show L.length ≤ s.size by omega), List.take_of_length_le (show L.length ≤ s.size by omega)] at hI
    have post := fun R => rl_post s (os.map ba) ver st (s.size : Nat) R
    have hx : s.extract (Int.toNat (st : Int)) (Int.toNat ((s.size : Nat) : Int)) = ba (L.drop st) := by
      have := ext_ba s st s.size
      rw [List.take_of_length_le (by rw [len_data]; exact Nat.le_refl _)] at this
      exact this
    rw [hx] at post
    refine Trl.of_code (knownJ _) (ne_nil (by kernel_rfl)) (post _) (holds_bif (fun h => ⟨?_, .inr rfl, trivial, ?_⟩) fun h => ⟨trivial, .inr rfl, trivial, ?_⟩)
    · with_reducible exact cdb_iff.2 ⟨cdb_iff.2 ⟨trivial, decide_eq_true (by have := of_decide_eq_true h; omega)⟩, decide_eq_true (room (by rw [List.length_map]; omega))⟩
    · have h := of_decide_eq_true h
      have hne : ¬ L.drop st = [] := fun e => by
        have := congrArg List.length e
        rw [List.length_drop] at this
        simp at this; omega
      unfold linesS
      rw [show lns [] s.data.toList = _ from hI, lns, flush, if_neg hne, ← snoc_sv]; rfl
    · have h := of_decide_eq_false h
      have he : L.drop st = [] := List.drop_of_length_le (by omega)
      unfold linesS
      rw [show lns [] s.data.toList = _ from hI, lns, flush, if_pos he, List.append_nil]; rfl
theorem rw_sl : slotsOf 33 = 48 := by kernel_rfl
theorem rw_re : resultsOf 33 = [.tmp 2] := by kernel_rfl
theorem rw_fl : (flatten (bodyOf 33)).drop 4 = .block 0 (.loop (sub (bodyOf 33) [1, 1, 1, 0, 1, 0, 0])) :: (flatten (bodyOf 33)).drop 5 := by kernel_rfl
theorem ba_nil (w : List UInt8) : ((ba w).toList == ([] : List UInt8)) = decide (w = []) := by
  rw [Bool.eq_iff_iff, beq_iff_eq, decide_eq_true_eq, ByteArray.toList_eq, ba_data]
theorem ba_snoc (w : List UInt8) (c : UInt8) : ba w ++ ba [c] = ba (w ++ [c]) := by
  apply ba_ext
  rw [ByteArray.data_append, Array.toList_append, ba_data, ba_data, ba_data]
theorem ba_size (l : List UInt8) : (ba l).size = l.length := by show (List.toArray l).size = _; simp
set_option maxRecDepth 100000 in
theorem fs_rwords (s : ByteArray) (hs : s.size ≤ 100000) : Fs Tryd.prog nro 33 [.v (.string s)] (hp [] []) fun r _ => clean r = some (.lst 1 ((wordsS s).map sv) .no) := by
  refine Fs.of_body (has_fn (by kernel_rfl)) ?_
  rw [rw_sl, rw_re]
  refine Tr.of_flat (Trl.split 4 (Trl.of_code (knownJ _) (ne_nil (by kernel_rfl)) (rw_pre s _) ⟨trivial, ?_⟩))
  show Trl _ _ ((flatten (bodyOf 33)).drop 4) _ _ _
  rw [rw_fl]
  refine Trl.nilTip 3 1 rfl rfl ?_
  let L := s.data.toList
  have hL : L.length = s.size := len_data s
  have fin : ∀ (p : Nat) (os : List (List UInt8)) (ver : Nat) (w : List UInt8), os.length ≤ s.size → wds [] L = os ++ flush w →
      Trl Tryd.prog nro ((flatten (bodyOf 33)).drop 5) (rwA s (.lst 1 ((os.map ba).map sv) (.tp 0 ver)) (ba w) p) (hp [] [ver]) fun e a h => (e = .normal ∨ e = .ret) ∧ ansOk (fun r _ => clean r = some (.lst 1 ((wordsS s).map sv) .no)) (resOf Tryd.prog nro [.tmp 2] a h) := by
    intro p os ver w hos hI
    have post := fun R => rw_post s (ba w) (os.map ba) ver p R
    rw [ba_nil] at post
    refine Trl.of_code (knownJ _) (ne_nil (by kernel_rfl)) (post _) (holds_bif (fun h => ⟨?_, .inr rfl, trivial, ?_⟩) fun h => ⟨trivial, .inr rfl, trivial, ?_⟩)
    · with_reducible exact cdb_iff.2 ⟨trivial, decide_eq_true (room (by rw [List.length_map]; omega))⟩
    · have h : ¬ w = [] := by simpa using h
      unfold wordsS
      rw [show wds [] s.data.toList = _ from hI, flush, if_neg h, ← snoc_sv]; rfl
    · have h : w = [] := by simpa using h
      unfold wordsS
      rw [show wds [] s.data.toList = _ from hI, flush, if_pos h, List.append_nil]; rfl
  let I : Nat → List AV → AH → Prop := fun m act H => ∃ (p : Nat) (os : List (List UInt8)) (ver : Nat) (w : List UInt8), p ≤ s.size ∧ m = s.size - p ∧ os.length ≤ p ∧ w.length ≤ p ∧ act = rwA s (.lst 1 ((os.map ba).map sv) (.tp 0 ver)) (ba w) p ∧ H = hp [] [ver] ∧ wds [] L = os ++ wds w (L.drop p)
  refine Tr.block (Tr.loop I ?_ (m := s.size) ⟨0, [], 0, [], Nat.zero_le _, rfl, Nat.le_refl _, Nat.le_refl _, rfl, rfl, by simp⟩)
  rintro m act H ⟨p, os, ver, w, hp, rfl, hos, hwl, rfl, rfl, hI⟩
  have body := fun R => rw_in s (ba w) (os.map ba) ver p R
  rw [inc64 p (by omega), ba_nil] at body
  refine Tr.of_code (knownJ _) (body _) (holds_bif (fun h1 => ?_) fun h1 => ⟨trivial, ?_⟩)
  · have h1 : p < s.size := by have := of_decide_eq_true h1; omega
    have hd : L.drop p = s.data.getD p 0 :: L.drop (p + 1) := drop_byte s p h1
    have hI0 := hI
    rw [hd, wds] at hI
    have c0 := ix_ok h1
    have ne : ∀ n : Nat, n < 256 → (((s.data.getD p 0).toNat : Int) != (n : Int)) = true → ¬ s.data.getD p 0 = UInt8.ofNat n := fun n hn h e => by
      rw [(nat_eq hn).2 e] at h; simp at h
    have eq : ∀ n : Nat, n < 256 → (((s.data.getD p 0).toNat : Int) != (n : Int)) = false → s.data.getD p 0 = UInt8.ofNat n := fun n hn h => (nat_eq hn).1 (by simpa using h)
    have blank : (s.data.getD p 0 = 32 ∨ s.data.getD p 0 = 9) → wds [] L = (os ++ flush w) ++ wds [] (L.drop (p + 1)) := fun e => by
      rw [if_neg (by rcases e with e | e <;> rw [e] <;> decide), if_pos e] at hI
      rw [hI, List.append_assoc]
    have told : (s.data.getD p 0 = 32 ∨ s.data.getD p 0 = 9) → ¬ w = [] → ∃ m', m' < s.size - p ∧ I m' (rwA s (.lst 1 ((os.map ba).map sv ++ [.v (.string (ba w))]) (.tp 0 (ver + 1))) (ba []) ((p + 1 : Nat) : Int)) (AE.hp [] [ver + 1]) := fun e hw => by
      have hI2 := blank e
      rw [flush, if_neg hw] at hI2
      exact ⟨s.size - (p + 1), by omega, p + 1, os ++ [w], ver + 1, [], h1, rfl, by simp; omega, Nat.zero_le _, by rw [snoc_sv], rfl, hI2⟩
    have quiet : (s.data.getD p 0 = 32 ∨ s.data.getD p 0 = 9) → w = [] → ∃ m', m' < s.size - p ∧ I m' (rwA s (.lst 1 ((os.map ba).map sv) (.tp 0 ver)) (ba []) ((p + 1 : Nat) : Int)) (AE.hp [] [ver]) := fun e hw => by
      have hI2 := blank e
      rw [hw, flush, if_pos rfl, List.append_nil] at hI2
      exact ⟨s.size - (p + 1), by omega, p + 1, os, ver, [], h1, rfl, by omega, Nat.zero_le _, rfl, rfl, hI2⟩
    refine holds_bif (fun h35 => holds_bif (fun h32 => holds_bif (fun h9 => ⟨?_, ?_⟩) fun h9 => holds_bif (fun hw => ⟨?_, ?_⟩) fun hw => ⟨?_, ?_⟩) fun h32 => holds_bif (fun hw => ⟨?_, ?_⟩) fun hw => ⟨?_, ?_⟩) fun h35 => ⟨?_, ?_⟩
    · have hz : (s.extract (Int.toNat (p : Int)) (Int.toNat ((p + 1 : Nat) : Int))).size ≤ 1 := by
        rw [ByteArray.size_extract]; show min (p + 1) s.size - p ≤ 1; omega
      have hw := ba_size w
      with_reducible exact cdb_iff.2 ⟨cdb_iff.2 ⟨cdb_iff.2 ⟨cdb_iff.2 ⟨cdb_iff.2 ⟨trivial, c0⟩, c0⟩, c0⟩, decide_eq_true (by omega)⟩, decide_eq_true (by omega)⟩
    · have n35 : ¬ s.data.getD p 0 = 35 := ne 35 (by decide) h35
      have n32 : ¬ s.data.getD p 0 = 32 := ne 32 (by decide) h32
      have n9 : ¬ s.data.getD p 0 = 9 := ne 9 (by decide) h9
      rw [if_neg n35, if_neg (by rintro (e | e); exact n32 e; exact n9 e)] at hI
      have hx : s.extract (Int.toNat (p : Int)) (Int.toNat ((p + 1 : Nat) : Int)) = ba [s.data.getD p 0] := by
        refine (ext_ba s p (p + 1)).trans (congrArg ba ?_)
        rw [take_byte s p h1, List.drop_append_of_le_length (by rw [List.length_take, len_data]; omega), List.drop_eq_nil_of_le (by rw [List.length_take]; omega)]; rfl
      rw [hx, ba_snoc]
      exact ⟨s.size - (p + 1), by omega, p + 1, os, ver, w ++ [s.data.getD p 0], h1, rfl, by omega, by simp; omega, rfl, rfl, hI⟩
    · with_reducible exact cdb_iff.2 ⟨cdb_iff.2 ⟨cdb_iff.2 ⟨cdb_iff.2 ⟨trivial, c0⟩, c0⟩, c0⟩, decide_eq_true (room (by rw [List.length_map]; omega))⟩
    · exact told (.inr (eq 9 (by decide) h9)) (by simpa using hw)
    · with_reducible exact cdb_iff.2 ⟨cdb_iff.2 ⟨cdb_iff.2 ⟨trivial, c0⟩, c0⟩, c0⟩
    · exact quiet (.inr (eq 9 (by decide) h9)) (by simpa using hw)
    · with_reducible exact cdb_iff.2 ⟨cdb_iff.2 ⟨cdb_iff.2 ⟨trivial, c0⟩, c0⟩, decide_eq_true (room (by rw [List.length_map]; omega))⟩
    · exact told (.inl (eq 32 (by decide) h32)) (by simpa using hw)
    · with_reducible exact cdb_iff.2 ⟨cdb_iff.2 ⟨trivial, c0⟩, c0⟩
    · exact quiet (.inl (eq 32 (by decide) h32)) (by simpa using hw)
    · with_reducible exact cdb_iff.2 ⟨trivial, c0⟩
    · have e35 : s.data.getD p 0 = 35 := eq 35 (by decide) h35
      rw [if_pos e35] at hI
      exact fin p os ver w (by omega) hI
  · have hps : p = s.size := by have := of_decide_eq_false h1; omega
    subst hps
    rw [List.drop_of_length_le (show L.length ≤ s.size by omega), wds] at hI
    exact fin _ os ver w hos hI
end Go.Proofs.YtodjeammjdgkoaaDoor.AE
namespace Go.Proofs.YtodjeammjdgkoaaDoor.AE
open Go.RowKit
def cutI (s : ByteArray) : Int := Lib.indexByte s.data.toList 61
def cutA (s : ByteArray) : ByteArray := if 0 ≤ cutI s then s.extract 0 (cutI s).toNat else ByteArray.empty
def cutB (s : ByteArray) : ByteArray := if 0 ≤ cutI s then s.extract ((cutI s).toNat + 1) s.size else ByteArray.empty
def cutK (s : ByteArray) : Bool := decide (0 ≤ cutI s)
/-! Putting together. -/
def blank : ByteArray := ⟨#[32]⟩
theorem inter_snoc (sep x : List UInt8) : ∀ (l : List (List UInt8)), l ≠ [] → ((l ++ [x]).intersperse sep).flatten = (l.intersperse sep).flatten ++ sep ++ x
  | [], h => absurd rfl h
  | [y], _ => by simp
  | y :: z :: l, _ => by
    have ih := inter_snoc sep x (z :: l) (by simp)
    have e : ((y :: z :: l) ++ [x]).intersperse sep = y :: sep :: ((z :: l) ++ [x]).intersperse sep := by cases l <;> rfl
    rw [e, show (y :: z :: l).intersperse sep = y :: sep :: (z :: l).intersperse sep from rfl]
    simp only [List.flatten_cons, ih, List.append_assoc]
theorem joinB_one (x sep : ByteArray) : joinB [x] sep = x := by
  apply ba_ext
  show (List.toArray _).toList = _
  simp [Lib.join]
theorem joinB_snoc (l : List ByteArray) (x sep : ByteArray) (h : l ≠ []) : joinB (l ++ [x]) sep = joinB l sep ++ sep ++ x := by
  apply ba_ext
  rw [ByteArray.data_append, ByteArray.data_append, Array.toList_append, Array.toList_append]
  have := inter_snoc sep.data.toList x.data.toList (l.map (·.data.toList)) (by simp [h])
  show (List.toArray _).toList = (List.toArray _).toList ++ _ ++ _
  rw [List.map_append]
  exact this
theorem joinB_size {N : Nat} (l : List ByteArray) (h : ∀ x ∈ l, x.size ≤ N) : (joinB l blank).size ≤ (N + 1) * l.length := by
  have key : ∀ k, k ≤ l.length → (joinB (l.take k) blank).size ≤ (N + 1) * k := by
    intro k
    induction k with
    | zero => intro _; exact Nat.le_refl _
    | succ k ih =>
      intro hk
      have hk' : k < l.length := hk
      rw [take_snoc hk']
      have hz := h _ (List.getElem_mem hk')
      by_cases h0 : k = 0
      · subst h0
        rw [List.take_zero, List.nil_append, joinB_one]; omega
      · rw [joinB_snoc _ _ _ (by
          intro e
          have := congrArg List.length e
          simp only [List.length_take, List.length_nil] at this
          omega), ByteArray.size_append, ByteArray.size_append]
        have := ih (by omega)
        have e1 : (N + 1) * (k + 1) = (N + 1) * k + (N + 1) := Nat.mul_succ _ _
        show _ + 1 + _ ≤ _
        omega
  have := key l.length (Nat.le_refl _)
  rwa [List.take_length] at this
set_option maxRecDepth 100000 in
theorem fs_join (l : List ByteArray) (hl : l.length ≤ 1000) (h : ∀ x ∈ l, x.size ≤ 100000) : Fs Tryd.prog nro 25 [.lst 1 (l.map sv) .no] (hp [] []) fun r _ => r = .v (.string (joinB l blank)) := by
  have hz := joinB_size l h
  have hm : (100000 + 1) * l.length ≤ 100001 * 1000 := Nat.mul_le_mul_left _ hl
  have hj : joinP [.lst 1 (l.map sv) .no, .v (.string blank)] = some (joinB l blank, true) := by
    unfold joinP
    simp only [strs_map]
    rw [decide_eq_true]
    omega
  refine Fs.of_call (knownJ _) (c_join l fun r => r = .v (.string (joinB l blank))) ⟨?_, ?_⟩
  · refine cdb_iff.2 ⟨trivial, ?_⟩
    show joinOk [.lst 1 (l.map sv) .no, .v (.string blank)] = true
    unfold joinOk
    rw [hj]
  · show joinV [.lst 1 (l.map sv) .no, .v (.string blank)] = _
    unfold joinV
    rw [hj]
theorem rj_sl : slotsOf 28 = 22 := by kernel_rfl
theorem rj_re : resultsOf 28 = [.tmp 2] := by kernel_rfl
theorem rj_fl : (flatten (bodyOf 28)).drop 3 = .block 0 (.loop (sub (bodyOf 28) [1, 1, 0, 1, 0, 0])) :: (flatten (bodyOf 28)).drop 4 := by kernel_rfl
theorem sv_len (l : List ByteArray) : (((l.map sv).length : Nat) : Int) = (l.length : Nat) := by rw [List.length_map]
set_option maxRecDepth 100000 in
theorem fs_rjoin (l : List ByteArray) (hl : l.length ≤ 1000) (h : ∀ x ∈ l, x.size ≤ 100000) : Fs Tryd.prog nro 28 [.lst 1 (l.map sv) .no] (hp [] []) fun r _ => r = .v (.string (joinB l blank)) := by
  refine Fs.of_body (has_fn (by kernel_rfl)) ?_
  rw [rj_sl, rj_re]
  refine Tr.of_flat (Trl.split 3 (Trl.of_code (knownJ _) (ne_nil (by kernel_rfl)) (rj_pre l _) ⟨trivial, ?_⟩))
  show Trl _ _ ((flatten (bodyOf 28)).drop 3) _ _ _
  rw [rj_fl]
  let I : Nat → List AV → AH → Prop := fun m act H => ∃ i : Nat, i ≤ l.length ∧ m = l.length - i ∧ act = rjA l (joinB (l.take i) blank) i ∧ H = hp [] []
  refine Tr.block (Tr.loop I ?_ (m := l.length) ⟨0, Nat.zero_le _, rfl, rfl, rfl⟩)
  rintro m' act H ⟨i, hi, rfl, rfl, rfl⟩
  have body := fun R => rj_in l (joinB (l.take i) blank) i R
  rw [sv_len, inc64 i (by omega)] at body
  have hsz : (joinB (l.take i) blank).size ≤ 100001 * 1000 := by
    have h1 := joinB_size (l.take i) (fun x hx => h x (List.mem_of_mem_take hx))
    have h2 : (100000 + 1) * (l.take i).length ≤ 100001 * 1000 := Nat.mul_le_mul_left _ (by rw [List.length_take]; omega)
    omega
  refine Tr.of_code (knownJ _) (body _) (holds_bif (fun h1 => ?_) fun h1 => ⟨trivial, ?_⟩)
  · have h1 : i < l.length := by have := of_decide_eq_true h1; omega
    have hx := h _ (List.getElem_mem h1)
    have hg : (l.map sv)[Int.toNat (i : Int)]? = some (.v (.string l[i])) := sv_get h1
    rw [sv_ex h1]
    refine holds_bif (fun h2 => ⟨?_, l.length - (i + 1), by omega, i + 1, h1, rfl, ?_, rfl⟩) (fun h2 => ⟨?_, l.length - (i + 1), by omega, i + 1, h1, rfl, ?_, rfl⟩)
    · with_reducible refine cdb_iff.2 ⟨cds_of (cdb_iff.2 ⟨trivial, decide_eq_true (by omega)⟩) ⟨Int.natCast_nonneg i, hg⟩, decide_eq_true ?_⟩
      rw [ByteArray.size_append]
      show (joinB _ _).size + 1 + l[i].size ≤ _
      omega
    · have h2 : 0 < i := by have := of_decide_eq_true h2; omega
      rw [take_snoc h1, joinB_snoc _ _ _ (by
        intro e
        have := congrArg List.length e
        simp only [List.length_take, List.length_nil] at this
        omega)]
      rfl
    · with_reducible refine cdb_iff.2 ⟨cds_of trivial ⟨Int.natCast_nonneg i, hg⟩, decide_eq_true ?_⟩
      omega
    · have h2 : i = 0 := by have := of_decide_eq_false h2; omega
      subst h2
      rw [take_snoc h1, List.take_zero, List.nil_append, joinB_one]
      refine congrArg (fun z => rjA l z ((0 + 1 : Nat) : Int)) ?_
      apply ba_ext
      rw [ByteArray.data_append, Array.toList_append]
      rfl
  · have h1 : i = l.length := by have := of_decide_eq_false h1; omega
    subst h1
    rw [List.take_length]
    show Trl _ _ ((flatten (bodyOf 28)).drop 4) _ _ _
    exact Trl.of_code (knownJ _) (ne_nil (by kernel_rfl)) (rj_post l _ _ _) ⟨trivial, .inr rfl, trivial, rfl⟩
end Go.Proofs.YtodjeammjdgkoaaDoor.AE
namespace Go.Proofs.YtodjeammjdgkoaaDoor.AE
open Go.RowKit
theorem ba_inj {a b : ByteArray} : (a.toList == b.toList) = decide (a = b) := by
  rw [Bool.eq_iff_iff, beq_iff_eq, decide_eq_true_eq, ByteArray.toList_eq, ByteArray.toList_eq]
  exact ⟨fun h => ba_ext h, fun h => by rw [h]⟩
def fnd (w : ByteArray) : Nat → List ByteArray → Option Nat
  | _, [] => none
  | i, x :: l => if x = w then some i else fnd w (i + 1) l
def fndV (w : ByteArray) (l : List ByteArray) : Value := match fnd w 0 l with
  | some i => .tuple #[.int .i64 (i : Nat), .bool true]
  | none => .tuple #[.int .i64 0, .bool false]
def fndN (w : ByteArray) (l : List ByteArray) : Int := match fnd w 0 l with
  | some i => (i : Nat)
  | none => 0
def fndB (w : ByteArray) (l : List ByteArray) : Bool := match fnd w 0 l with
  | some _ => true
  | none => false
theorem fndV_eq (w : ByteArray) (l : List ByteArray) : fndV w l = .tuple #[.int .i64 (fndN w l), .bool (fndB w l)] := by
  unfold fndV fndN fndB
  cases fnd w 0 l <;> rfl
theorem rf_sl : slotsOf 34 = 20 := by kernel_rfl
theorem rf_re : resultsOf 34 = [.tmp 4, .tmp 5] := by kernel_rfl
theorem rf_fl : (flatten (bodyOf 34)).drop 2 = .block 0 (.loop (sub (bodyOf 34) [1, 0, 1, 0, 0])) :: (flatten (bodyOf 34)).drop 3 := by kernel_rfl
set_option maxRecDepth 100000 in
theorem fs_rfind (w : ByteArray) (l : List ByteArray) (hl : l.length ≤ 1000000) : Fs Tryd.prog nro 34 [.v (.string w), .lst 1 (l.map sv) .no] (hp [] []) fun r _ => r = .v (fndV w l) := by
  refine Fs.of_body (has_fn (by kernel_rfl)) ?_
  rw [rf_sl, rf_re]
  refine Tr.of_flat (Trl.split 2 (Trl.of_code (knownJ _) (ne_nil (by kernel_rfl)) (rf_pre w l _) ⟨trivial, ?_⟩))
  show Trl _ _ ((flatten (bodyOf 34)).drop 2) _ _ _
  rw [rf_fl]
  let I : Nat → List AV → AH → Prop := fun m act H => ∃ i : Nat, i ≤ l.length ∧ m = l.length - i ∧ act = rfA w l i ∧ H = hp [] [] ∧ fnd w 0 l = fnd w i (l.drop i)
  refine Tr.block (Tr.loop I ?_ (m := l.length) ⟨0, Nat.zero_le _, rfl, rfl, rfl, rfl⟩)
  rintro m' act H ⟨i, hi, rfl, rfl, rfl, hI⟩
  have body := fun R => rf_in w l i R
  rw [sv_len, inc64 i (by omega)] at body
  refine Tr.of_code (knownJ _) (body _) (holds_bif (fun h1 => ?_) fun h1 => ⟨trivial, ?_⟩)
  · have h1 : i < l.length := by have := of_decide_eq_true h1; omega
    have hg : (l.map sv)[Int.toNat (i : Int)]? = some (.v (.string l[i])) := sv_get h1
    rw [sv_ex h1, ba_inj]
    rw [List.drop_eq_getElem_cons h1, fnd] at hI
    have c0 := cds_of (b := elemB Tryd.prog 9 (l.map sv) i) (c := True) trivial (⟨Int.natCast_nonneg i, hg⟩ : 0 ≤ (i : Int) ∧ (l.map sv)[Int.toNat (i : Int)]? = some (.v (.string l[i])))
    refine holds_bif (fun h2 => ⟨c0, .inr rfl, trivial, ?_⟩) fun h2 => ⟨c0, l.length - (i + 1), by omega, i + 1, h1, rfl, rfl, rfl, ?_⟩
    · rw [if_pos (of_decide_eq_true h2)] at hI
      unfold fndV; rw [hI]; rfl
    · rw [if_neg (of_decide_eq_false h2)] at hI
      exact hI
  · have h1 : i = l.length := by have := of_decide_eq_false h1; omega
    subst h1
    rw [List.drop_length] at hI
    show Trl _ _ ((flatten (bodyOf 34)).drop 3) _ _ _
    refine Trl.of_code (knownJ _) (ne_nil (by kernel_rfl)) (rf_post w l _ _) ⟨trivial, .inr rfl, trivial, ?_⟩
    unfold fndV; rw [hI]; rfl
theorem fd_sl : slotsOf 55 = 20 := by kernel_rfl
theorem fd_re : resultsOf 55 = [.tmp 4, .tmp 5] := by kernel_rfl
theorem fd_fl : (flatten (bodyOf 55)).drop 2 = .block 0 (.loop (sub (bodyOf 55) [1, 0, 1, 0, 0])) :: (flatten (bodyOf 55)).drop 3 := by kernel_rfl
set_option maxRecDepth 100000 in
theorem fs_find (w : ByteArray) (l : List ByteArray) (hl : l.length ≤ 1000000) : Fs Tryd.prog nro 55 [.v (.string w), .lst 1 (l.map sv) .no] (hp [] []) fun r _ => r = .v (fndV w l) := by
  refine Fs.of_body (has_fn (by kernel_rfl)) ?_
  rw [fd_sl, fd_re]
  have pre := fun R => fd_pre w l R
  rw [sv_len] at pre
  refine Tr.of_flat (Trl.split 2 (Trl.of_code (knownJ _) (ne_nil (by kernel_rfl)) (pre _) ⟨trivial, ?_⟩))
  show Trl _ _ ((flatten (bodyOf 55)).drop 2) _ _ _
  rw [fd_fl]
  let I : Nat → List AV → AH → Prop := fun m act H => ∃ i : Nat, i ≤ l.length ∧ m = l.length - i ∧ act = fdA w l (l.length : Nat) i ∧ H = hp [] [] ∧ fnd w 0 l = fnd w i (l.drop i)
  refine Tr.block (Tr.loop I ?_ (m := l.length) ⟨0, Nat.zero_le _, rfl, rfl, rfl, rfl⟩)
  rintro m' act H ⟨i, hi, rfl, rfl, rfl, hI⟩
  have body := fun R => fd_in w l (l.length : Nat) i R
  rw [inc64 i (by omega)] at body
  refine Tr.of_code (knownJ _) (body _) (holds_bif (fun h1 => ?_) fun h1 => ⟨trivial, ?_⟩)
  · have h1 : i < l.length := by have := of_decide_eq_true h1; omega
    have hg : (l.map sv)[Int.toNat (i : Int)]? = some (.v (.string l[i])) := sv_get h1
    rw [sv_ex h1, ba_inj]
    rw [List.drop_eq_getElem_cons h1, fnd] at hI
    have c0 := cds_of (b := elemB Tryd.prog 9 (l.map sv) i) (c := True) trivial (⟨Int.natCast_nonneg i, hg⟩ : 0 ≤ (i : Int) ∧ (l.map sv)[Int.toNat (i : Int)]? = some (.v (.string l[i])))
    refine holds_bif (fun h2 => ⟨c0, .inr rfl, trivial, ?_⟩) fun h2 => ⟨c0, l.length - (i + 1), by omega, i + 1, h1, rfl, rfl, rfl, ?_⟩
    · rw [if_pos (of_decide_eq_true h2)] at hI
      unfold fndV; rw [hI]; rfl
    · rw [if_neg (of_decide_eq_false h2)] at hI
      exact hI
  · have h1 : i = l.length := by have := of_decide_eq_false h1; omega
    subst h1
    rw [List.drop_length] at hI
    show Trl _ _ ((flatten (bodyOf 55)).drop 3) _ _ _
    refine Trl.of_code (knownJ _) (ne_nil (by kernel_rfl)) (fd_post w l _ _ _) ⟨trivial, .inr rfl, trivial, ?_⟩
    unfold fndV; rw [hI]; rfl
end Go.Proofs.YtodjeammjdgkoaaDoor.AE
namespace Go.Proofs.YtodjeammjdgkoaaDoor.AE
open Go.RowKit
def strsA? (x : AV) : Option (List ByteArray) := match x with
  | .lst 1 xs _ => strs? xs
  | .v (.slice none 0 0) => some []
  | _ => none
theorem strsA_nrm {x : AV} {l : List ByteArray} (h : strsA? x = some l) : isLV x = true ∧ nrm x = .lst 1 (l.map sv) .no := by
  unfold strsA? at h
  split at h
  · rw [strs_eq h]; exact ⟨rfl, rfl⟩
  · cases h; exact ⟨rfl, rfl⟩
  · cases h
theorem strsA_lst (l : List ByteArray) (tip : Tip) : strsA? (.lst 1 (l.map sv) tip) = some l := strs_map l
def strsX (x : AV) : List ByteArray := match strsA? x with
  | some l => l
  | none => []
theorem strsX_some {x : AV} {l : List ByteArray} (h : strsA? x = some l) : strsX x = l := by unfold strsX; rw [h]
theorem strsX_lst (l : List ByteArray) (tip : Tip) : strsX (.lst 1 (l.map sv) tip) = l := strsX_some (strsA_lst l tip)
def listV (F : ByteArray → List ByteArray) (args : List AV) : AV := .lst 1 ((F (exStr (args.headD .dead))).map sv) .no
def textOk (args : List AV) : Bool := match args with
  | [.v (.string s)] => decide (s.size ≤ 100000)
  | _ => false
theorem list_ok {g : FuncId} {F : ByteArray → List ByteArray} (hf : ∃ fn, Tryd.prog.funcs[g]? = some fn ∧ fn.body.isSome = true) (h : ∀ s : ByteArray, s.size ≤ 100000 → Fs Tryd.prog nro g [.v (.string s)] (hp [] []) fun r _ => clean r = some (.lst 1 ((F s).map sv) .no)) (ro : Nat → Option (List Value)) :
    ∀ args H r H', tot? (listV F) textOk args H = some (r, H') → HSound1 Tryd.prog ro g args H r H' := by
  refine tot_ok hf fun args hok => ?_
  unfold textOk at hok
  split at hok
  · exact ⟨_, rfl, (Fs.ro (h _ (of_decide_eq_true hok)) ro).mono fun r _ h => ⟨_, h, Le.refl _⟩⟩
  · cases hok
def joinV' (J : AV → ByteArray) (args : List AV) : AV := .v (.string (J (args.headD .dead)))
def joinOk' (args : List AV) : Bool := match args with
  | [x] => (match strsA? x with
    | some l => decide (l.length ≤ 1000) && l.all (fun s => decide (s.size ≤ 100000))
    | none => false)
  | _ => false
def joinX (x : AV) : ByteArray := joinB (strsX x) blank
theorem joinOk_of {l : List ByteArray} {tip : Tip} (h1 : l.length ≤ 1000) (h2 : ∀ x ∈ l, x.size ≤ 100000) : joinOk' [.lst 1 (l.map sv) tip] = true := by
  show (match strsA? (.lst 1 (l.map sv) tip) with | some l => decide (l.length ≤ 1000) && l.all (fun s => decide (s.size ≤ 100000)) | none => false) = true
  rw [strsA_lst]
  simp only [Bool.and_eq_true, decide_eq_true_eq, List.all_eq_true]
  exact ⟨h1, h2⟩
theorem wjoin_ok {g : FuncId} (hf : ∃ fn, Tryd.prog.funcs[g]? = some fn ∧ fn.body.isSome = true) (h : ∀ l : List ByteArray, l.length ≤ 1000 → (∀ x ∈ l, x.size ≤ 100000) → Fs Tryd.prog nro g [.lst 1 (l.map sv) .no] (hp [] []) fun r _ => r = .v (.string (joinB l blank))) (ro : Nat → Option (List Value)) :
    ∀ args H r H', tot? (joinV' joinX) joinOk' args H = some (r, H') → HSound1 Tryd.prog ro g args H r H' := by
  refine tot_nrm hf fun args hok => ?_
  unfold joinOk' at hok
  split at hok
  · rename_i x
    split at hok
    · rename_i l hl
      simp only [Bool.and_eq_true, decide_eq_true_eq, List.all_eq_true] at hok
      obtain ⟨h4, h5⟩ := strsA_nrm hl
      refine ⟨by simp [h4], ?_⟩
      rw [List.map_cons, List.map_nil, h5]
      refine (Fs.ro (h l hok.1 hok.2) ro).mono fun r _ h => ?_
      subst h
      refine ⟨_, rfl, ?_⟩
      show Le _ (.v (.string (joinB (strsX x) blank)))
      rw [strsX_some hl]
      exact Le.refl _
    · cases hok
  · cases hok
def findV (N : ByteArray → AV → Int) (B : ByteArray → AV → Bool) (args : List AV) : AV := .v (.tuple #[.int .i64 (N (exStr (args.headD .dead)) (args.tail.headD .dead)), .bool (B (exStr (args.headD .dead)) (args.tail.headD .dead))])
def findOk (args : List AV) : Bool := match args with
  | [.v (.string _), x] => (match strsA? x with
    | some l => decide (l.length ≤ 1000000)
    | none => false)
  | _ => false
def findN (w : ByteArray) (x : AV) : Int := fndN w (strsX x)
def findB (w : ByteArray) (x : AV) : Bool := fndB w (strsX x)
theorem wfind_ok {g : FuncId} (hf : ∃ fn, Tryd.prog.funcs[g]? = some fn ∧ fn.body.isSome = true) (h : ∀ (w : ByteArray) (l : List ByteArray), l.length ≤ 1000000 → Fs Tryd.prog nro g [.v (.string w), .lst 1 (l.map sv) .no] (hp [] []) fun r _ => r = .v (fndV w l)) (ro : Nat → Option (List Value)) :
    ∀ args H r H', tot? (findV findN findB) findOk args H = some (r, H') → HSound1 Tryd.prog ro g args H r H' := by
  refine tot_nrm hf fun args hok => ?_
  unfold findOk at hok
  split at hok
  · rename_i w x
    split at hok
    · rename_i l hl
      obtain ⟨h4, h5⟩ := strsA_nrm hl
      refine ⟨by simp [h4]; rfl, ?_⟩
      rw [List.map_cons, List.map_cons, List.map_nil, h5]
      refine (Fs.ro (h w l (of_decide_eq_true hok)) ro).mono fun r _ h => ?_
      subst h
      refine ⟨_, rfl, ?_⟩
      show Le _ (.v (.tuple #[.int .i64 (fndN w (strsX x)), .bool (fndB w (strsX x))]))
      rw [strsX_some hl, fndV_eq]
      exact Le.refl _
    · cases hok
  · cases hok
def sameX (x y : AV) : Bool := decide (strsX x = strsX y)
/-- What is known: lines, words, plain, cut, joined, found, the same. -/
noncomputable def prW (FL FW : ByteArray → List ByteArray) (P : ByteArray → Bool) (A B : ByteArray → ByteArray) (K : ByteArray → Bool) (J : AV → ByteArray) (N : ByteArray → AV → Int) (D : ByteArray → AV → Bool) (S : AV → AV → Bool) : FuncId → Option (List AV → AH → Ans) := fun g => match g with
  | 38 => some (tot? (listV FL) textOk)
  | 39 => some (tot? (listV FL) textOk)
  | 31 => some (tot? (listV FW) textOk)
  | 33 => some (tot? (listV FW) textOk)
  | 25 => some (tot? (joinV' J) joinOk')
  | 28 => some (tot? (joinV' J) joinOk')
  | 55 => some (tot? (findV N D) findOk)
  | 34 => some (tot? (findV N D) findOk)
  | _ => none
theorem knownW (ro : Nat → Option (List Value)) : Known ro (prW linesS wordsS (fun s => plainL s.data.toList) cutA cutB cutK joinX findN findB sameX) := by
  intro g p h
  unfold prW at h
  split at h
  · cases h; exact list_ok (has_fn (by kernel_rfl)) fs_lines _
  · cases h; exact list_ok (has_fn (by kernel_rfl)) fs_rlines _
  · cases h; exact list_ok (has_fn (by kernel_rfl)) fs_words _
  · cases h; exact list_ok (has_fn (by kernel_rfl)) fs_rwords _
  · cases h; exact wjoin_ok (has_fn (by kernel_rfl)) fs_join _
  · cases h; exact wjoin_ok (has_fn (by kernel_rfl)) fs_rjoin _
  · cases h; exact wfind_ok (has_fn (by kernel_rfl)) fs_find _
  · cases h; exact wfind_ok (has_fn (by kernel_rfl)) fs_rfind _
  · cases h
end Go.Proofs.YtodjeammjdgkoaaDoor.AE
namespace Go.Proofs.YtodjeammjdgkoaaDoor.AE
open Go.RowKit
def countP : List Value → Option (Value × Bool) := fun us => match us with
  | [.string s, .string c] => match c.data.toList with
    | [b] => some (.int .i64 (Lib.countByte s.data.toList b), true)
    | _ => none
  | _ => none
end Go.Proofs.YtodjeammjdgkoaaDoor.AE
namespace Go.Proofs.YtodjeammjdgkoaaDoor
open Go.RowKit
theorem tab_below {W W' : World} {B : Nat} {name : String} {k : IntKind} {zs : List Int} {g : Nat} (hg : Tryd.prog.globalNamed name = some g) (h : Lib.TabIs Tryd.prog W name k zs) (hb : Below B W W') (hB : g < B) : Lib.TabIs Tryd.prog W' name k zs := by
  unfold Lib.TabIs World.var? at *
  rw [hg] at *
  simp only [Option.bind_some] at *
  rw [hb.block g hB]
  exact h
theorem dtext (n : Int) (h0 : -9223372036854775808 ≤ n) (h1 : n ≤ 9223372036854775807) (w : World) (hT : Lib.TabIs Tryd.prog w "internal/strconv.uint64pow10" .u64 Lib.pow10Tab) :
    Calls Tryd.prog 26 #[.int .i64 n] w fun e w' => e = .returned (.string ⟨(Lib.itoa n).toArray⟩) ∧ Below w.heap.size w w' := by
  go_enter Tryd.func26, Tryd.ntmps26
  go_wp2_with (go_at_call 45; refine (Tryd.strconv_Itoa _ h0 h1 _ hT).mono ?_; rintro e w' ⟨rfl, k, os, rfl⟩)
  go_ret
  exact ⟨rfl, Lib.below_grow _ _ (Nat.le_refl _) _ _⟩
end Go.Proofs.YtodjeammjdgkoaaDoor
namespace Go.Proofs.YtodjeammjdgkoaaDoor
open Go.RowKit
theorem bytes_below (w : World) (e : TypeId) (t : ByteArray) : Below w.heap.size w (Lib.bytesWorld w e t) :=
  ⟨rfl, rfl, rfl, by rw [Lib.bytesWorld_size]; omega, fun j hj => Lib.bytesWorld_at_old w e t j hj⟩
theorem lst_beq (l : List UInt8) (s : ByteArray) : (l == s.toList) = decide (l = s.data.toList) := by
  rw [Bool.eq_iff_iff, beq_iff_eq, decide_eq_true_eq, ByteArray.toList_eq]
theorem dparse_ok (s : ByteArray) (hmax : s.size ≤ 281474976710656) (v : Int) (h : Lib.atoiAll s.data.toList = .ok v) (w : World) (hT : Lib.TabIs Tryd.prog w "internal/strconv.uint64pow10" .u64 Lib.pow10Tab) (hB : 2 < w.heap.size)
    (x y : Int) (hx : Lib.itoa v = s.data.toList → x = v ∧ y = 0) (hy : ¬ Lib.itoa v = s.data.toList → x = 0 ∧ y = 2) :
    Calls Tryd.prog 48 #[.string s] w fun e w' => e = .returned (.tuple #[.int .i64 x, .int .i64 y]) ∧ Below w.heap.size w w' := by
  obtain ⟨b0, b1⟩ := Lib.atoiAll_bounds h
  have hA : ∀ w1 : World, (w1 = w ∨ ∃ t, w1 = Lib.bytesWorld w 5 t) → Below w.heap.size w w1 := fun w1 hw => by
    rcases hw with rfl | ⟨t, rfl⟩
    · exact Below.refl _ _
    · exact bytes_below w _ t
  have hC : ∀ w1 : World, Below w.heap.size w w1 → Calls Tryd.prog 26 #[.int .i64 v] w1 fun e w' => e = .returned (.string ⟨(Lib.itoa v).toArray⟩) ∧ Below w.heap.size w w' := fun w1 hb =>
    (dtext v b0 b1 w1 (tab_below (by kernel_rfl) hT hb hB)).mono fun e w' ⟨he, hb'⟩ => ⟨he, hb.trans (hb'.mono hb.size)⟩
  have hX := Lib.hid hx
  have hY := Lib.hid hy
  clear hx hy
  go_enter Tryd.func48, Tryd.ntmps48
  go_wp2_with (first
    | (go_at_call 54; refine (Tryd.strconv_Atoi_ok s (by omega) v h _).mono ?_; rintro e w1 ⟨rfl, hw⟩; have hw1 := hA _ hw; clear hw)
    | (go_at_call 26; refine (hC _ hw1).mono ?_; rintro e w2 ⟨rfl, hw2⟩))
  · rename_i hne
    rw [lst_beq] at hne
    have hn : ¬ Lib.itoa v = s.data.toList := by simpa using hne
    obtain ⟨rfl, rfl⟩ := hY.out hn
    go_ret2
    exact ⟨rfl, hw2⟩
  · rename_i hne
    rw [lst_beq] at hne
    have hn : Lib.itoa v = s.data.toList := by simpa using hne
    obtain ⟨rfl, rfl⟩ := hX.out hn
    go_ret2
    exact ⟨rfl, hw2⟩
/-- A text that is no number's. -/
theorem dparse_no (s : ByteArray) (w : World) (n : Int)
    (hA : Calls Tryd.prog 54 #[.string s] w fun e w' => ∃ N t, e = .returned (.tuple #[.int .i64 n, .iface t (.pointer (some ⟨N, 0, none⟩))]) ∧ Below w.heap.size w w') :
    Calls Tryd.prog 48 #[.string s] w fun e w' => e = .returned (.tuple #[.int .i64 0, .int .i64 2]) ∧ Below w.heap.size w w' := by
  go_enter Tryd.func48, Tryd.ntmps48
  go_wp2_with (first
    | (go_at_call 54; refine hA.mono ?_; rintro e w1 ⟨N, t, rfl, hw1⟩)
    | fail)
  go_ret2
  exact ⟨rfl, hw1⟩
end Go.Proofs.YtodjeammjdgkoaaDoor
namespace Go.Proofs.YtodjeammjdgkoaaDoor.AE
open Go.RowKit
def ro05 (tS : TypeId) (pS : Value) (tR : TypeId) (pR : Value) : Nat → Option (List Value) := fun b => match b with
  | 2 => some (Lib.pow10Tab.map fun z => Value.int .u64 z)
  | 3 => some [.iface tS pS]
  | 4 => some [.iface tR pR]
  | _ => none
section
variable {tS : TypeId} {pS : Value} {tR : TypeId} {pR : Value} {W : World}
theorem ro_tab (h : Ro (ro05 tS pS tR pR) (G0 W) W) : Lib.TabIs Tryd.prog W "internal/strconv.uint64pow10" .u64 Lib.pow10Tab ∧ 2 < W.heap.size := by
  obtain ⟨h1, _, t, h3⟩ := h 2 _ rfl
  refine ⟨?_, ?_⟩
  · unfold Lib.TabIs World.var?
    rw [show Tryd.prog.globalNamed "internal/strconv.uint64pow10" = some 2 by kernel_rfl]
    simp [h3]
  · by_cases hlt : 2 < W.heap.size
    · exact hlt
    · rw [Array.getElem?_eq_none (by omega)] at h3; cases h3
def textP : List Value → Option (Value × Bool) := fun us => match us with
  | [.int .i64 n] => some (.string ⟨(Lib.itoa n).toArray⟩, decide (-9223372036854775808 ≤ n ∧ n ≤ 9223372036854775807))
  | _ => none
set_option maxRecDepth 100000 in
theorem text_ok : ∀ args H r H', pure? textP args H = some (r, H') → HSound1 Tryd.prog (ro05 tS pS tR pR) 26 args H r H' := by
  refine pure_of_calls (has_fn (by kernel_rfl)) fun us c h W hR => ?_
  unfold textP at h
  split at h
  · simp only [Option.some.injEq, Prod.mk.injEq, decide_eq_true_eq] at h
    obtain ⟨rfl, h0, h1⟩ := h
    exact dtext _ h0 h1 W (ro_tab hR).1
  · cases h
def dpX (s : ByteArray) : Int := match Lib.atoiAll s.data.toList with
  | .ok v => if Lib.itoa v = s.data.toList then v else 0
  | _ => 0
def dpY (s : ByteArray) : Int := match Lib.atoiAll s.data.toList with
  | .ok v => if Lib.itoa v = s.data.toList then 0 else 2
  | _ => 2
def parseP : List Value → Option (Value × Bool) := fun us => match us with
  | [.string s] => some (.tuple #[.int .i64 (dpX s), .int .i64 (dpY s)], decide (s.size ≤ 100000))
  | _ => none
set_option maxRecDepth 100000 in
theorem parse_ok : ∀ args H r H', pure? parseP args H = some (r, H') → HSound1 Tryd.prog (ro05 tS pS tR pR) 48 args H r H' := by
  refine pure_of_calls (has_fn (by kernel_rfl)) fun us c h W hR => ?_
  unfold parseP at h
  split at h
  · rename_i s
    simp only [Option.some.injEq, Prod.mk.injEq, decide_eq_true_eq] at h
    obtain ⟨rfl, hs⟩ := h
    obtain ⟨hT, hB⟩ := ro_tab hR
    have hS := ((hR 3 _ rfl).1 0 _ rfl).2
    have hE := ((hR 4 _ rfl).1 0 _ rfl).2
    unfold dpX dpY
    rcases ha : Lib.atoiAll s.data.toList with v | _ | _
    · exact dparse_ok s (by omega) v ha W hT hB _ _ (fun h => by simp [h]) (fun h => by simp [h])
    · refine dparse_no s W 0 ((Tryd.strconv_Atoi_syntax s (by omega) ha _ W hS (.inr ⟨_, _, rfl⟩)).mono ?_)
      rintro e w' ⟨N, he, _, _, hb⟩
      exact ⟨N, _, he, hb⟩
    · refine dparse_no s W (Lib.atoiSat s.data.toList) ((Tryd.strconv_Atoi_range s (by omega) ha _ W hE (.inr ⟨_, _, rfl⟩)).mono ?_)
      rintro e w' ⟨N, he, _, _, hb⟩
      exact ⟨N, _, he, hb⟩
  · cases h
end
end Go.Proofs.YtodjeammjdgkoaaDoor.AE
namespace Go.Proofs.YtodjeammjdgkoaaDoor.AE
open Go.RowKit
def xA (n : Int) (s : ByteArray) (k : Int) : List AV := [.v (.int .i64 n), .dead, .dead, .v (.string s), .v (.int .i64 k)] ++ List.replicate 28 .dead
theorem x_pre (n : Int) (R : Exit → List AV → AH → Prop) : codeL nro (fun _ => false) (fun _ => none) 5 ((flatten (bodyOf 29)).take 4) ([.v (.int .i64 n)] ++ List.replicate 32 (.v undef)) (hp [] []) (kp [0, 2, 3, 4] R) =
    (bif (n == (0 : Int)) then (some (True ∧ (R Exit.ret [(AV.v (Value.int IntKind.i64 n)), AV.dead, (AV.v (Value.string (ByteArray.mk #[(@OfNat.ofNat UInt8 (48 : Nat) (@UInt8.instOfNat 48))]))), (AV.v (Value.tuple (Array.mk (@List.nil Go.Value)))), (AV.v (Value.tuple (Array.mk (@List.nil Go.Value)))), AV.dead, AV.dead, AV.dead, AV.dead, AV.dead, AV.dead, AV.dead, AV.dead, AV.dead, AV.dead, AV.dead, AV.dead, AV.dead, AV.dead, AV.dead, AV.dead, AV.dead, AV.dead, AV.dead, AV.dead, AV.dead, AV.dead, AV.dead, AV.dead, AV.dead, AV.dead, AV.dead, AV.dead] (AH.mk (@List.nil (Prod Go.TypeId (List AV))) (@List.nil Nat) (0 : Nat) (0 : Nat) true (@List.nil (Prod Nat Bool)) True)))) else (some (True ∧ (R Exit.normal [(AV.v (Value.int IntKind.i64 n)), AV.dead, (AV.v (Value.string (ByteArray.mk (Array.mk (@List.nil UInt8))))), (AV.v (Value.string (ByteArray.mk (Array.mk (@List.nil UInt8))))), (AV.v (Value.int IntKind.i64 n)), AV.dead, AV.dead, AV.dead, AV.dead, AV.dead, AV.dead, AV.dead, AV.dead, AV.dead, AV.dead, AV.dead, AV.dead, AV.dead, AV.dead, AV.dead, AV.dead, AV.dead, AV.dead, AV.dead, AV.dead, AV.dead, AV.dead, AV.dead, AV.dead, AV.dead, AV.dead, AV.dead, AV.dead] (AH.mk (@List.nil (Prod Go.TypeId (List AV))) (@List.nil Nat) (0 : Nat) (0 : Nat) true (@List.nil (Prod Nat Bool)) True))))) := by kernel_rfl
theorem x_in (n k : Int) (s : ByteArray) (R : Exit → List AV → AH → Prop) : code nro (fun _ => false) (fun _ => none) 5 (sub (bodyOf 29) [1, 1, 1, 0, 0, 0]) (xA n s k) (hp [] []) (kp [0, 3, 4] R) =
    (bif (k != (0 : Int)) then (bif (decide ((IntKind.wrap IntKind.i64 (k - (IntKind.wrap IntKind.i64 ((IntKind.wrap IntKind.i64 (Int.tdiv k (10 : Int))) * (10 : Int))))) < (0 : Int))) then (some ((cdb (cdb True (decide (((0 : Int) ≤ (IntKind.wrap IntKind.i64 ((0 : Int) - (IntKind.wrap IntKind.i64 (k - (IntKind.wrap IntKind.i64 ((IntKind.wrap IntKind.i64 (Int.tdiv k (10 : Int))) * (10 : Int)))))))) ∧ (((IntKind.wrap IntKind.i64 ((0 : Int) - (IntKind.wrap IntKind.i64 (k - (IntKind.wrap IntKind.i64 ((IntKind.wrap IntKind.i64 (Int.tdiv k (10 : Int))) * (10 : Int))))))) ≤ (IntKind.wrap IntKind.i64 ((IntKind.wrap IntKind.i64 ((0 : Int) - (IntKind.wrap IntKind.i64 (k - (IntKind.wrap IntKind.i64 ((IntKind.wrap IntKind.i64 (Int.tdiv k (10 : Int))) * (10 : Int))))))) + (1 : Int)))) ∧ ((IntKind.wrap IntKind.i64 ((IntKind.wrap IntKind.i64 ((0 : Int) - (IntKind.wrap IntKind.i64 (k - (IntKind.wrap IntKind.i64 ((IntKind.wrap IntKind.i64 (Int.tdiv k (10 : Int))) * (10 : Int))))))) + (1 : Int))) ≤ (10 : Int)))))) (decide (((ByteArray.size (ByteArray.extract (ByteArray.mk #[(@OfNat.ofNat UInt8 (48 : Nat) (@UInt8.instOfNat 48)), (@OfNat.ofNat UInt8 (49 : Nat) (@UInt8.instOfNat 49)), (@OfNat.ofNat UInt8 (50 : Nat) (@UInt8.instOfNat 50)), (@OfNat.ofNat UInt8 (51 : Nat) (@UInt8.instOfNat 51)), (@OfNat.ofNat UInt8 (52 : Nat) (@UInt8.instOfNat 52)), (@OfNat.ofNat UInt8 (53 : Nat) (@UInt8.instOfNat 53)), (@OfNat.ofNat UInt8 (54 : Nat) (@UInt8.instOfNat 54)), (@OfNat.ofNat UInt8 (55 : Nat) (@UInt8.instOfNat 55)), (@OfNat.ofNat UInt8 (56 : Nat) (@UInt8.instOfNat 56)), (@OfNat.ofNat UInt8 (57 : Nat) (@UInt8.instOfNat 57))]) (Int.toNat (IntKind.wrap IntKind.i64 ((0 : Int) - (IntKind.wrap IntKind.i64 (k - (IntKind.wrap IntKind.i64 ((IntKind.wrap IntKind.i64 (Int.tdiv k (10 : Int))) * (10 : Int)))))))) (Int.toNat (IntKind.wrap IntKind.i64 ((IntKind.wrap IntKind.i64 ((0 : Int) - (IntKind.wrap IntKind.i64 (k - (IntKind.wrap IntKind.i64 ((IntKind.wrap IntKind.i64 (Int.tdiv k (10 : Int))) * (10 : Int))))))) + (1 : Int)))))) + (ByteArray.size s)) ≤ (9223372036854775807 : Nat)))) ∧ (R Exit.normal [(AV.v (Value.int IntKind.i64 n)), AV.dead, AV.dead, (AV.v (Value.string ((ByteArray.extract (ByteArray.mk #[(@OfNat.ofNat UInt8 (48 : Nat) (@UInt8.instOfNat 48)), (@OfNat.ofNat UInt8 (49 : Nat) (@UInt8.instOfNat 49)), (@OfNat.ofNat UInt8 (50 : Nat) (@UInt8.instOfNat 50)), (@OfNat.ofNat UInt8 (51 : Nat) (@UInt8.instOfNat 51)), (@OfNat.ofNat UInt8 (52 : Nat) (@UInt8.instOfNat 52)), (@OfNat.ofNat UInt8 (53 : Nat) (@UInt8.instOfNat 53)), (@OfNat.ofNat UInt8 (54 : Nat) (@UInt8.instOfNat 54)), (@OfNat.ofNat UInt8 (55 : Nat) (@UInt8.instOfNat 55)), (@OfNat.ofNat UInt8 (56 : Nat) (@UInt8.instOfNat 56)), (@OfNat.ofNat UInt8 (57 : Nat) (@UInt8.instOfNat 57))]) (Int.toNat (IntKind.wrap IntKind.i64 ((0 : Int) - (IntKind.wrap IntKind.i64 (k - (IntKind.wrap IntKind.i64 ((IntKind.wrap IntKind.i64 (Int.tdiv k (10 : Int))) * (10 : Int)))))))) (Int.toNat (IntKind.wrap IntKind.i64 ((IntKind.wrap IntKind.i64 ((0 : Int) - (IntKind.wrap IntKind.i64 (k - (IntKind.wrap IntKind.i64 ((IntKind.wrap IntKind.i64 (Int.tdiv k (10 : Int))) * (10 : Int))))))) + (1 : Int))))) ++ s))), (AV.v (Value.int IntKind.i64 (IntKind.wrap IntKind.i64 (Int.tdiv k (10 : Int))))), AV.dead, AV.dead, AV.dead, AV.dead, AV.dead, AV.dead, AV.dead, AV.dead, AV.dead, AV.dead, AV.dead, AV.dead, AV.dead, AV.dead, AV.dead, AV.dead, AV.dead, AV.dead, AV.dead, AV.dead, AV.dead, AV.dead, AV.dead, AV.dead, AV.dead, AV.dead, AV.dead, AV.dead] (AH.mk (@List.nil (Prod Go.TypeId (List AV))) (@List.nil Nat) (0 : Nat) (0 : Nat) true (@List.nil (Prod Nat Bool)) True)))) else (some ((cdb (cdb True (decide (((0 : Int) ≤ (IntKind.wrap IntKind.i64 (k - (IntKind.wrap IntKind.i64 ((IntKind.wrap IntKind.i64 (Int.tdiv k (10 : Int))) * (10 : Int)))))) ∧ (((IntKind.wrap IntKind.i64 (k - (IntKind.wrap IntKind.i64 ((IntKind.wrap IntKind.i64 (Int.tdiv k (10 : Int))) * (10 : Int))))) ≤ (IntKind.wrap IntKind.i64 ((IntKind.wrap IntKind.i64 (k - (IntKind.wrap IntKind.i64 ((IntKind.wrap IntKind.i64 (Int.tdiv k (10 : Int))) * (10 : Int))))) + (1 : Int)))) ∧ ((IntKind.wrap IntKind.i64 ((IntKind.wrap IntKind.i64 (k - (IntKind.wrap IntKind.i64 ((IntKind.wrap IntKind.i64 (Int.tdiv k (10 : Int))) * (10 : Int))))) + (1 : Int))) ≤ (10 : Int)))))) (decide (((ByteArray.size (ByteArray.extract (ByteArray.mk #[(@OfNat.ofNat UInt8 (48 : Nat) (@UInt8.instOfNat 48)), (@OfNat.ofNat UInt8 (49 : Nat) (@UInt8.instOfNat 49)), (@OfNat.ofNat UInt8 (50 : Nat) (@UInt8.instOfNat 50)), (@OfNat.ofNat UInt8 (51 : Nat) (@UInt8.instOfNat 51)), (@OfNat.ofNat UInt8 (52 : Nat) (@UInt8.instOfNat 52)), (@OfNat.ofNat UInt8 (53 : Nat) (@UInt8.instOfNat 53)), (@OfNat.ofNat UInt8 (54 : Nat) (@UInt8.instOfNat 54)), (@OfNat.ofNat UInt8 (55 : Nat) (@UInt8.instOfNat 55)), (@OfNat.ofNat UInt8 (56 : Nat) (@UInt8.instOfNat 56)), (@OfNat.ofNat UInt8 (57 : Nat) (@UInt8.instOfNat 57))]) (Int.toNat (IntKind.wrap IntKind.i64 (k - (IntKind.wrap IntKind.i64 ((IntKind.wrap IntKind.i64 (Int.tdiv k (10 : Int))) * (10 : Int)))))) (Int.toNat (IntKind.wrap IntKind.i64 ((IntKind.wrap IntKind.i64 (k - (IntKind.wrap IntKind.i64 ((IntKind.wrap IntKind.i64 (Int.tdiv k (10 : Int))) * (10 : Int))))) + (1 : Int)))))) + (ByteArray.size s)) ≤ (9223372036854775807 : Nat)))) ∧ (R Exit.normal [(AV.v (Value.int IntKind.i64 n)), AV.dead, AV.dead, (AV.v (Value.string ((ByteArray.extract (ByteArray.mk #[(@OfNat.ofNat UInt8 (48 : Nat) (@UInt8.instOfNat 48)), (@OfNat.ofNat UInt8 (49 : Nat) (@UInt8.instOfNat 49)), (@OfNat.ofNat UInt8 (50 : Nat) (@UInt8.instOfNat 50)), (@OfNat.ofNat UInt8 (51 : Nat) (@UInt8.instOfNat 51)), (@OfNat.ofNat UInt8 (52 : Nat) (@UInt8.instOfNat 52)), (@OfNat.ofNat UInt8 (53 : Nat) (@UInt8.instOfNat 53)), (@OfNat.ofNat UInt8 (54 : Nat) (@UInt8.instOfNat 54)), (@OfNat.ofNat UInt8 (55 : Nat) (@UInt8.instOfNat 55)), (@OfNat.ofNat UInt8 (56 : Nat) (@UInt8.instOfNat 56)), (@OfNat.ofNat UInt8 (57 : Nat) (@UInt8.instOfNat 57))]) (Int.toNat (IntKind.wrap IntKind.i64 (k - (IntKind.wrap IntKind.i64 ((IntKind.wrap IntKind.i64 (Int.tdiv k (10 : Int))) * (10 : Int)))))) (Int.toNat (IntKind.wrap IntKind.i64 ((IntKind.wrap IntKind.i64 (k - (IntKind.wrap IntKind.i64 ((IntKind.wrap IntKind.i64 (Int.tdiv k (10 : Int))) * (10 : Int))))) + (1 : Int))))) ++ s))), (AV.v (Value.int IntKind.i64 (IntKind.wrap IntKind.i64 (Int.tdiv k (10 : Int))))), AV.dead, AV.dead, AV.dead, AV.dead, AV.dead, AV.dead, AV.dead, AV.dead, AV.dead, AV.dead, AV.dead, AV.dead, AV.dead, AV.dead, AV.dead, AV.dead, AV.dead, AV.dead, AV.dead, AV.dead, AV.dead, AV.dead, AV.dead, AV.dead, AV.dead, AV.dead, AV.dead, AV.dead] (AH.mk (@List.nil (Prod Go.TypeId (List AV))) (@List.nil Nat) (0 : Nat) (0 : Nat) true (@List.nil (Prod Nat Bool)) True))))) else (some (True ∧ (R (Exit.exit (0 : Nat)) [(AV.v (Value.int IntKind.i64 n)), AV.dead, AV.dead, (AV.v (Value.string s)), (AV.v (Value.int IntKind.i64 k)), AV.dead, AV.dead, AV.dead, AV.dead, AV.dead, AV.dead, AV.dead, AV.dead, AV.dead, AV.dead, AV.dead, AV.dead, AV.dead, AV.dead, AV.dead, AV.dead, AV.dead, AV.dead, AV.dead, AV.dead, AV.dead, AV.dead, AV.dead, AV.dead, AV.dead, AV.dead, AV.dead, AV.dead] (AH.mk (@List.nil (Prod Go.TypeId (List AV))) (@List.nil Nat) (0 : Nat) (0 : Nat) true (@List.nil (Prod Nat Bool)) True))))) := by kernel_rfl
theorem x_post (n k : Int) (s : ByteArray) (R : Exit → List AV → AH → Prop) : codeL nro (fun _ => false) (fun _ => none) 5 ((flatten (bodyOf 29)).drop 5) (xA n s k) (hp [] []) (kp [2] R) =
    (bif (decide (n < (0 : Int))) then (some ((cdb True (decide (((1 : Nat) + (ByteArray.size s)) ≤ (9223372036854775807 : Nat)))) ∧ (R Exit.ret [AV.dead, AV.dead, (AV.v (Value.string ((ByteArray.mk #[(@OfNat.ofNat UInt8 (45 : Nat) (@UInt8.instOfNat 45))]) ++ s))), AV.dead, AV.dead, AV.dead, AV.dead, AV.dead, AV.dead, AV.dead, AV.dead, AV.dead, AV.dead, AV.dead, AV.dead, AV.dead, AV.dead, AV.dead, AV.dead, AV.dead, AV.dead, AV.dead, AV.dead, AV.dead, AV.dead, AV.dead, AV.dead, AV.dead, AV.dead, AV.dead, AV.dead, AV.dead, AV.dead] (AH.mk (@List.nil (Prod Go.TypeId (List AV))) (@List.nil Nat) (0 : Nat) (0 : Nat) true (@List.nil (Prod Nat Bool)) True)))) else (some (True ∧ (R Exit.ret [AV.dead, AV.dead, (AV.v (Value.string s)), AV.dead, AV.dead, AV.dead, AV.dead, AV.dead, AV.dead, AV.dead, AV.dead, AV.dead, AV.dead, AV.dead, AV.dead, AV.dead, AV.dead, AV.dead, AV.dead, AV.dead, AV.dead, AV.dead, AV.dead, AV.dead, AV.dead, AV.dead, AV.dead, AV.dead, AV.dead, AV.dead, AV.dead, AV.dead, AV.dead] (AH.mk (@List.nil (Prod Go.TypeId (List AV))) (@List.nil Nat) (0 : Nat) (0 : Nat) true (@List.nil (Prod Nat Bool)) True))))) := by kernel_rfl
end Go.Proofs.YtodjeammjdgkoaaDoor.AE
namespace Go.Proofs.YtodjeammjdgkoaaDoor.AE
open Go.RowKit
theorem tdiv10 (k : Int) : Int.tdiv k 10 = if k < 0 then -((-k) / 10) else k / 10 := by
  split
  · have h : Int.tdiv k 10 = -(Int.tdiv (-k) 10) := by rw [Int.neg_tdiv, Int.neg_neg]
    rw [h, Int.tdiv_eq_ediv_of_nonneg (by omega)]
  · exact Int.tdiv_eq_ediv_of_nonneg (by omega)
def D10 (u : Nat) : List UInt8 := if u = 0 then [] else Lib.decDigits u
theorem D10_step (u : Nat) (h : u ≠ 0) : D10 u = D10 (u / 10) ++ [UInt8.ofNat (48 + u % 10)] := by
  unfold D10
  rw [if_neg h]
  by_cases h10 : u < 10
  · rw [Lib.decDigits, dif_pos h10, if_pos (by omega), Nat.mod_eq_of_lt h10]; rfl
  · rw [Lib.decDigits, dif_neg h10, if_neg (by omega)]
theorem dig : ∀ i, i < 10 → (ByteArray.mk #[48, 49, 50, 51, 52, 53, 54, 55, 56, 57]).extract i (i + 1) = ⟨#[UInt8.ofNat (48 + i)]⟩ := by decide +kernel
theorem sl_rt : slotsOf 29 = 33 := by kernel_rfl
theorem re_rt : resultsOf 29 = [.tmp 2] := by kernel_rfl
theorem fl_rt : (flatten (bodyOf 29)).drop 4 = .block 0 (.loop (sub (bodyOf 29) [1, 1, 1, 0, 0, 0])) :: (flatten (bodyOf 29)).drop 5 := by kernel_rfl
theorem D10_len (u : Nat) : ∀ m, u < 10 ^ m → (D10 u).length ≤ m := by
  induction u using Nat.strongRecOn with
  | _ u ih =>
    intro m hm
    by_cases h : u = 0
    · subst h; exact Nat.zero_le _
    · cases m with
      | zero => exact absurd hm (by simp; omega)
      | succ m =>
        rw [D10_step u h, List.length_append]
        have := ih (u / 10) (by omega) m (by rw [Nat.pow_succ] at hm; omega)
        show (D10 (u / 10)).length + 1 ≤ m + 1
        omega
set_option maxRecDepth 100000 in
theorem fs_rtext (n : Int) (h0 : -9223372036854775808 ≤ n) (h1 : n ≤ 9223372036854775807) : Fs Tryd.prog nro 29 [.v (.int .i64 n)] (hp [] []) fun r _ => r = .v (.string ⟨(Lib.itoa n).toArray⟩) := by
  refine Fs.of_body (has_fn (by kernel_rfl)) ?_
  rw [sl_rt, re_rt]
  refine Tr.of_flat (Trl.split 4 (Trl.of_code (known_none nro) (ne_nil (by kernel_rfl)) (x_pre n _) (holds_bif (fun h => ⟨trivial, .inr rfl, trivial, ?_⟩) fun h => ⟨trivial, ?_⟩)))
  · have hn : n = 0 := eq_of_beq h
    subst hn
    exact congrArg (fun x => AV.v (.string x)) (by decide +kernel)
  have hn0 : n ≠ 0 := ne_of_beq_false h
  show Trl _ _ ((flatten (bodyOf 29)).drop 4) _ _ _
  rw [fl_rt]
  refine Tr.keepL [0, 3, 4] rfl ?_
  let I : Nat → List AV → AH → Prop := fun m act H => ∃ k s, m = k.natAbs ∧ act = xA n s k ∧ k.natAbs ≤ n.natAbs ∧ D10 n.natAbs = D10 k.natAbs ++ s.data.toList ∧ H = hp [] []
  refine Tr.block (Tr.loop I ?_ (m := n.natAbs) ⟨n, _, rfl, rfl, Nat.le_refl _, by simp, rfl⟩)
  rintro m act H ⟨k, s, rfl, rfl, hkn, hD, rfl⟩
  have hlen : s.size ≤ 20 := by
    have h2 := D10_len n.natAbs 20 (by have : (10 : Nat) ^ 20 = 100000000000000000000 := by decide
                                       omega)
    rw [hD, List.length_append] at h2
    have h3 : s.data.toList.length = s.size := by rw [Array.length_toList]; rfl
    omega
  have hk0 : -9223372036854775808 ≤ k := by omega
  have hk1 : k ≤ 9223372036854775808 := by omega
  have ht := tdiv10 k
  obtain ⟨q, hq⟩ : ∃ q, q = Int.tdiv k 10 := ⟨_, rfl⟩
  obtain ⟨d, hd⟩ : ∃ d, d = k - q * 10 := ⟨_, rfl⟩
  have f1 : q.natAbs = k.natAbs / 10 ∧ d.natAbs = k.natAbs % 10 ∧ -9 ≤ d ∧ d ≤ 9 := by
    rw [← hq] at ht
    split at ht <;> omega
  have body := fun R => x_in n k s R
  have eA : IntKind.wrap .i64 (Int.tdiv k 10) = q := by rw [← hq, IntKind.wrap_i64]; omega
  have eB : IntKind.wrap .i64 (q * 10) = q * 10 := by rw [IntKind.wrap_i64]; omega
  have eC : IntKind.wrap .i64 (k - q * 10) = d := by rw [← hd, IntKind.wrap_i64]; omega
  have eD : IntKind.wrap .i64 (0 - d) = -d := by rw [IntKind.wrap_i64]; omega
  have eE : IntKind.wrap .i64 (d + 1) = d + 1 := by rw [IntKind.wrap_i64]; omega
  have eF : IntKind.wrap .i64 (-d + 1) = -d + 1 := by rw [IntKind.wrap_i64]; omega
  rw [eA, eB, eC, eD, eE, eF] at body
  clear eA eB eC eD eE eF ht
  have step : ∀ i : Nat, i = d.natAbs → k ≠ 0 → D10 n.natAbs = D10 q.natAbs ++ ((ByteArray.mk #[48, 49, 50, 51, 52, 53, 54, 55, 56, 57]).extract i (i + 1) ++ s).data.toList := by
    rintro i hi hk
    rw [dig i (by omega), hD, D10_step k.natAbs (by omega), ← f1.1, ByteArray.data_append, Array.toList_append, List.append_assoc]
    rw [hi, f1.2.1]
  have sz : ∀ i : Nat, i < 10 → ((ByteArray.mk #[48, 49, 50, 51, 52, 53, 54, 55, 56, 57]).extract i (i + 1)).size = 1 := fun i hi => by rw [dig i hi]; rfl
  refine Tr.of_code (known_none nro) (body _) (holds_bif (fun h9 => holds_bif (fun hd9 => ?_) (fun hd9 => ?_)) (fun h9 => ⟨trivial, ?_⟩))
  · have h9 : k ≠ 0 := by simpa using h9
    have hd9 := of_decide_eq_true hd9
    have e1 : Int.toNat (-d) = d.natAbs := by omega
    have e2 : Int.toNat (-d + 1) = d.natAbs + 1 := by omega
    rw [e1, e2]
    refine ⟨?_, q.natAbs, by omega, q, _, rfl, rfl, by omega, step _ rfl h9, rfl⟩
    have hz := sz d.natAbs (by omega)
    with_reducible refine cdb_iff.2 ⟨cdb_iff.2 ⟨trivial, decide_eq_true ?_⟩, decide_eq_true ?_⟩
    · omega
    · exact Nat.le_trans (Nat.add_le_add_right (Nat.le_of_eq hz) s.size) (by omega)
  · have h9 : k ≠ 0 := by simpa using h9
    have hd9 := of_decide_eq_false hd9
    have e1 : Int.toNat d = d.natAbs := by omega
    have e2 : Int.toNat (d + 1) = d.natAbs + 1 := by omega
    rw [e1, e2]
    refine ⟨?_, q.natAbs, by omega, q, _, rfl, rfl, by omega, step _ rfl h9, rfl⟩
    have hz := sz d.natAbs (by omega)
    with_reducible refine cdb_iff.2 ⟨cdb_iff.2 ⟨trivial, decide_eq_true ?_⟩, decide_eq_true ?_⟩
    · omega
    · exact Nat.le_trans (Nat.add_le_add_right (Nat.le_of_eq hz) s.size) (by omega)
  · have h9 : k = 0 := by simpa using h9
    subst h9
    show Trl _ _ ((flatten (bodyOf 29)).drop 5) _ _ _
    have hs : s.data.toList = Lib.decDigits n.natAbs := by
      have : D10 n.natAbs = Lib.decDigits n.natAbs := if_neg (by omega)
      rw [← this, hD]; rfl
    refine Trl.of_code (known_none nro) (ne_nil (by kernel_rfl)) (x_post n 0 s _) (holds_bif (fun hn => ⟨?_, .inr rfl, trivial, ?_⟩) (fun hn => ⟨trivial, .inr rfl, trivial, ?_⟩))
    · with_reducible exact cdb_iff.2 ⟨trivial, decide_eq_true (by omega)⟩
    · have hn := of_decide_eq_true hn
      refine congrArg (fun x => AV.v (.string x)) ?_
      unfold Lib.itoa
      rw [if_pos hn, ← hs]
      apply ByteArray.ext
      apply Array.toList_inj.1
      rw [ByteArray.data_append, Array.toList_append]
      rfl
    · have hn := of_decide_eq_false hn
      refine congrArg (fun x => AV.v (.string x)) ?_
      unfold Lib.itoa
      rw [if_neg hn, show n.toNat = n.natAbs by omega, ← hs]
def rtextP : List Value → Option (Value × Bool) := fun us => match us with
  | [.int .i64 n] => some (.string ⟨(Lib.itoa n).toArray⟩, decide (-9223372036854775808 ≤ n ∧ n ≤ 9223372036854775807))
  | _ => none
set_option maxRecDepth 100000 in
theorem rtext_ok (ro : Nat → Option (List Value)) : ∀ args H r H', pure? rtextP args H = some (r, H') → HSound1 Tryd.prog ro 29 args H r H' := by
  refine pure_ok (fun us c hs => Fs.ro ?_ ro) (has_fn (by kernel_rfl))
  unfold rtextP at hs
  split at hs
  · simp only [Option.some.injEq, Prod.mk.injEq, decide_eq_true_eq] at hs
    obtain ⟨rfl, h0, h1⟩ := hs
    exact fs_rtext _ h0 h1
  · cases hs
end Go.Proofs.YtodjeammjdgkoaaDoor.AE
namespace Go.Proofs.YtodjeammjdgkoaaDoor.AE
open Go.RowKit
noncomputable def prN : FuncId → Option (List AV → AH → Ans) := fun g => match g with
  | 29 => some (pure? rtextP)
  | _ => none
theorem knownN (ro : Nat → Option (List Value)) : Known ro prN := by
  intro g p h
  unfold prN at h
  split at h
  · cases h; exact rtext_ok _
  · cases h
def pA (s : ByteArray) (f n i : Int) : List AV := [.v (.string s), .dead, .dead, .dead, .v (.int .i64 f), .v (.int .i64 n), .v (.int .i64 i)] ++ List.replicate 53 .dead
theorem p_pre (s : ByteArray) (R : Exit → List AV → AH → Prop) : codeL nro (fun _ => false) prN 5 ((flatten (bodyOf 35)).take 8) ([.v (.string s)] ++ List.replicate 59 (.v undef)) (hp [] []) (kp [0, 2, 3, 4, 5, 6] R) =
    (bif (decide ((0 : Int) < ((ByteArray.size s) : Int))) then (bif (((UInt8.toNat (Array.getD (ByteArray.data s) (0 : Nat) (@OfNat.ofNat UInt8 (0 : Nat) (@UInt8.instOfNat 0)))) : Int) == (45 : Int)) then (bif (((ByteArray.size s) : Int) == (1 : Int)) then (some ((cdb True (decide (((0 : Int) ≤ (0 : Int)) ∧ ((0 : Nat) < (ByteArray.size s))))) ∧ (R Exit.ret [(AV.v (Value.string s)), AV.dead, (AV.v (Value.int IntKind.i64 (0 : Int))), (AV.v (Value.int IntKind.i64 (2 : Int))), (AV.v (Value.int IntKind.i64 (1 : Int))), (AV.v (Value.tuple (Array.mk (@List.nil Go.Value)))), (AV.v (Value.tuple (Array.mk (@List.nil Go.Value)))), AV.dead, AV.dead, AV.dead, AV.dead, AV.dead, AV.dead, AV.dead, AV.dead, AV.dead, AV.dead, AV.dead, AV.dead, AV.dead, AV.dead, AV.dead, AV.dead, AV.dead, AV.dead, AV.dead, AV.dead, AV.dead, AV.dead, AV.dead, AV.dead, AV.dead, AV.dead, AV.dead, AV.dead, AV.dead, AV.dead, AV.dead, AV.dead, AV.dead, AV.dead, AV.dead, AV.dead, AV.dead, AV.dead, AV.dead, AV.dead, AV.dead, AV.dead, AV.dead, AV.dead, AV.dead, AV.dead, AV.dead, AV.dead, AV.dead, AV.dead, AV.dead, AV.dead, AV.dead] (AH.mk (@List.nil (Prod Go.TypeId (List AV))) (@List.nil Nat) (0 : Nat) (0 : Nat) true (@List.nil (Prod Nat Bool)) True)))) else (bif (decide ((20 : Int) < ((ByteArray.size s) : Int))) then (some ((cdb True (decide (((0 : Int) ≤ (0 : Int)) ∧ ((0 : Nat) < (ByteArray.size s))))) ∧ (R Exit.ret [(AV.v (Value.string s)), AV.dead, (AV.v (Value.int IntKind.i64 (0 : Int))), (AV.v (Value.int IntKind.i64 (2 : Int))), (AV.v (Value.int IntKind.i64 (1 : Int))), (AV.v (Value.tuple (Array.mk (@List.nil Go.Value)))), (AV.v (Value.tuple (Array.mk (@List.nil Go.Value)))), AV.dead, AV.dead, AV.dead, AV.dead, AV.dead, AV.dead, AV.dead, AV.dead, AV.dead, AV.dead, AV.dead, AV.dead, AV.dead, AV.dead, AV.dead, AV.dead, AV.dead, AV.dead, AV.dead, AV.dead, AV.dead, AV.dead, AV.dead, AV.dead, AV.dead, AV.dead, AV.dead, AV.dead, AV.dead, AV.dead, AV.dead, AV.dead, AV.dead, AV.dead, AV.dead, AV.dead, AV.dead, AV.dead, AV.dead, AV.dead, AV.dead, AV.dead, AV.dead, AV.dead, AV.dead, AV.dead, AV.dead, AV.dead, AV.dead, AV.dead, AV.dead, AV.dead, AV.dead] (AH.mk (@List.nil (Prod Go.TypeId (List AV))) (@List.nil Nat) (0 : Nat) (0 : Nat) true (@List.nil (Prod Nat Bool)) True)))) else (some ((cdb True (decide (((0 : Int) ≤ (0 : Int)) ∧ ((0 : Nat) < (ByteArray.size s))))) ∧ (R Exit.normal [(AV.v (Value.string s)), AV.dead, (AV.v (Value.int IntKind.i64 (0 : Int))), (AV.v (Value.int IntKind.i64 (0 : Int))), (AV.v (Value.int IntKind.i64 (1 : Int))), (AV.v (Value.int IntKind.i64 (0 : Int))), (AV.v (Value.int IntKind.i64 (1 : Int))), AV.dead, AV.dead, AV.dead, AV.dead, AV.dead, AV.dead, AV.dead, AV.dead, AV.dead, AV.dead, AV.dead, AV.dead, AV.dead, AV.dead, AV.dead, AV.dead, AV.dead, AV.dead, AV.dead, AV.dead, AV.dead, AV.dead, AV.dead, AV.dead, AV.dead, AV.dead, AV.dead, AV.dead, AV.dead, AV.dead, AV.dead, AV.dead, AV.dead, AV.dead, AV.dead, AV.dead, AV.dead, AV.dead, AV.dead, AV.dead, AV.dead, AV.dead, AV.dead, AV.dead, AV.dead, AV.dead, AV.dead, AV.dead, AV.dead, AV.dead, AV.dead, AV.dead, AV.dead] (AH.mk (@List.nil (Prod Go.TypeId (List AV))) (@List.nil Nat) (0 : Nat) (0 : Nat) true (@List.nil (Prod Nat Bool)) True)))))) else (bif (((ByteArray.size s) : Int) == (0 : Int)) then (some ((cdb True (decide (((0 : Int) ≤ (0 : Int)) ∧ ((0 : Nat) < (ByteArray.size s))))) ∧ (R Exit.ret [(AV.v (Value.string s)), AV.dead, (AV.v (Value.int IntKind.i64 (0 : Int))), (AV.v (Value.int IntKind.i64 (2 : Int))), (AV.v (Value.int IntKind.i64 (0 : Int))), (AV.v (Value.tuple (Array.mk (@List.nil Go.Value)))), (AV.v (Value.tuple (Array.mk (@List.nil Go.Value)))), AV.dead, AV.dead, AV.dead, AV.dead, AV.dead, AV.dead, AV.dead, AV.dead, AV.dead, AV.dead, AV.dead, AV.dead, AV.dead, AV.dead, AV.dead, AV.dead, AV.dead, AV.dead, AV.dead, AV.dead, AV.dead, AV.dead, AV.dead, AV.dead, AV.dead, AV.dead, AV.dead, AV.dead, AV.dead, AV.dead, AV.dead, AV.dead, AV.dead, AV.dead, AV.dead, AV.dead, AV.dead, AV.dead, AV.dead, AV.dead, AV.dead, AV.dead, AV.dead, AV.dead, AV.dead, AV.dead, AV.dead, AV.dead, AV.dead, AV.dead, AV.dead, AV.dead, AV.dead] (AH.mk (@List.nil (Prod Go.TypeId (List AV))) (@List.nil Nat) (0 : Nat) (0 : Nat) true (@List.nil (Prod Nat Bool)) True)))) else (bif (decide ((19 : Int) < ((ByteArray.size s) : Int))) then (some ((cdb True (decide (((0 : Int) ≤ (0 : Int)) ∧ ((0 : Nat) < (ByteArray.size s))))) ∧ (R Exit.ret [(AV.v (Value.string s)), AV.dead, (AV.v (Value.int IntKind.i64 (0 : Int))), (AV.v (Value.int IntKind.i64 (2 : Int))), (AV.v (Value.int IntKind.i64 (0 : Int))), (AV.v (Value.tuple (Array.mk (@List.nil Go.Value)))), (AV.v (Value.tuple (Array.mk (@List.nil Go.Value)))), AV.dead, AV.dead, AV.dead, AV.dead, AV.dead, AV.dead, AV.dead, AV.dead, AV.dead, AV.dead, AV.dead, AV.dead, AV.dead, AV.dead, AV.dead, AV.dead, AV.dead, AV.dead, AV.dead, AV.dead, AV.dead, AV.dead, AV.dead, AV.dead, AV.dead, AV.dead, AV.dead, AV.dead, AV.dead, AV.dead, AV.dead, AV.dead, AV.dead, AV.dead, AV.dead, AV.dead, AV.dead, AV.dead, AV.dead, AV.dead, AV.dead, AV.dead, AV.dead, AV.dead, AV.dead, AV.dead, AV.dead, AV.dead, AV.dead, AV.dead, AV.dead, AV.dead, AV.dead] (AH.mk (@List.nil (Prod Go.TypeId (List AV))) (@List.nil Nat) (0 : Nat) (0 : Nat) true (@List.nil (Prod Nat Bool)) True)))) else (some ((cdb True (decide (((0 : Int) ≤ (0 : Int)) ∧ ((0 : Nat) < (ByteArray.size s))))) ∧ (R Exit.normal [(AV.v (Value.string s)), AV.dead, (AV.v (Value.int IntKind.i64 (0 : Int))), (AV.v (Value.int IntKind.i64 (0 : Int))), (AV.v (Value.int IntKind.i64 (0 : Int))), (AV.v (Value.int IntKind.i64 (0 : Int))), (AV.v (Value.int IntKind.i64 (0 : Int))), AV.dead, AV.dead, AV.dead, AV.dead, AV.dead, AV.dead, AV.dead, AV.dead, AV.dead, AV.dead, AV.dead, AV.dead, AV.dead, AV.dead, AV.dead, AV.dead, AV.dead, AV.dead, AV.dead, AV.dead, AV.dead, AV.dead, AV.dead, AV.dead, AV.dead, AV.dead, AV.dead, AV.dead, AV.dead, AV.dead, AV.dead, AV.dead, AV.dead, AV.dead, AV.dead, AV.dead, AV.dead, AV.dead, AV.dead, AV.dead, AV.dead, AV.dead, AV.dead, AV.dead, AV.dead, AV.dead, AV.dead, AV.dead, AV.dead, AV.dead, AV.dead, AV.dead, AV.dead] (AH.mk (@List.nil (Prod Go.TypeId (List AV))) (@List.nil Nat) (0 : Nat) (0 : Nat) true (@List.nil (Prod Nat Bool)) True))))))) else (bif (((ByteArray.size s) : Int) == (0 : Int)) then (some (True ∧ (R Exit.ret [(AV.v (Value.string s)), AV.dead, (AV.v (Value.int IntKind.i64 (0 : Int))), (AV.v (Value.int IntKind.i64 (2 : Int))), (AV.v (Value.int IntKind.i64 (0 : Int))), (AV.v (Value.tuple (Array.mk (@List.nil Go.Value)))), (AV.v (Value.tuple (Array.mk (@List.nil Go.Value)))), AV.dead, AV.dead, AV.dead, AV.dead, AV.dead, AV.dead, AV.dead, AV.dead, AV.dead, AV.dead, AV.dead, AV.dead, AV.dead, AV.dead, AV.dead, AV.dead, AV.dead, AV.dead, AV.dead, AV.dead, AV.dead, AV.dead, AV.dead, AV.dead, AV.dead, AV.dead, AV.dead, AV.dead, AV.dead, AV.dead, AV.dead, AV.dead, AV.dead, AV.dead, AV.dead, AV.dead, AV.dead, AV.dead, AV.dead, AV.dead, AV.dead, AV.dead, AV.dead, AV.dead, AV.dead, AV.dead, AV.dead, AV.dead, AV.dead, AV.dead, AV.dead, AV.dead, AV.dead] (AH.mk (@List.nil (Prod Go.TypeId (List AV))) (@List.nil Nat) (0 : Nat) (0 : Nat) true (@List.nil (Prod Nat Bool)) True)))) else (bif (decide ((19 : Int) < ((ByteArray.size s) : Int))) then (some (True ∧ (R Exit.ret [(AV.v (Value.string s)), AV.dead, (AV.v (Value.int IntKind.i64 (0 : Int))), (AV.v (Value.int IntKind.i64 (2 : Int))), (AV.v (Value.int IntKind.i64 (0 : Int))), (AV.v (Value.tuple (Array.mk (@List.nil Go.Value)))), (AV.v (Value.tuple (Array.mk (@List.nil Go.Value)))), AV.dead, AV.dead, AV.dead, AV.dead, AV.dead, AV.dead, AV.dead, AV.dead, AV.dead, AV.dead, AV.dead, AV.dead, AV.dead, AV.dead, AV.dead, AV.dead, AV.dead, AV.dead, AV.dead, AV.dead, AV.dead, AV.dead, AV.dead, AV.dead, AV.dead, AV.dead, AV.dead, AV.dead, AV.dead, AV.dead, AV.dead, AV.dead, AV.dead, AV.dead, AV.dead, AV.dead, AV.dead, AV.dead, AV.dead, AV.dead, AV.dead, AV.dead, AV.dead, AV.dead, AV.dead, AV.dead, AV.dead, AV.dead, AV.dead, AV.dead, AV.dead, AV.dead, AV.dead] (AH.mk (@List.nil (Prod Go.TypeId (List AV))) (@List.nil Nat) (0 : Nat) (0 : Nat) true (@List.nil (Prod Nat Bool)) True)))) else (some (True ∧ (R Exit.normal [(AV.v (Value.string s)), AV.dead, (AV.v (Value.int IntKind.i64 (0 : Int))), (AV.v (Value.int IntKind.i64 (0 : Int))), (AV.v (Value.int IntKind.i64 (0 : Int))), (AV.v (Value.int IntKind.i64 (0 : Int))), (AV.v (Value.int IntKind.i64 (0 : Int))), AV.dead, AV.dead, AV.dead, AV.dead, AV.dead, AV.dead, AV.dead, AV.dead, AV.dead, AV.dead, AV.dead, AV.dead, AV.dead, AV.dead, AV.dead, AV.dead, AV.dead, AV.dead, AV.dead, AV.dead, AV.dead, AV.dead, AV.dead, AV.dead, AV.dead, AV.dead, AV.dead, AV.dead, AV.dead, AV.dead, AV.dead, AV.dead, AV.dead, AV.dead, AV.dead, AV.dead, AV.dead, AV.dead, AV.dead, AV.dead, AV.dead, AV.dead, AV.dead, AV.dead, AV.dead, AV.dead, AV.dead, AV.dead, AV.dead, AV.dead, AV.dead, AV.dead, AV.dead] (AH.mk (@List.nil (Prod Go.TypeId (List AV))) (@List.nil Nat) (0 : Nat) (0 : Nat) true (@List.nil (Prod Nat Bool)) True))))))) := by kernel_rfl
theorem p_in (s : ByteArray) (f n i : Int) (R : Exit → List AV → AH → Prop) : code nro (fun _ => false) prN 5 (sub (bodyOf 35) [1, 1, 1, 1, 1, 0, 1, 0, 0]) (pA s f n i) (hp [] []) (kp [0, 2, 3, 4, 5, 6] R) =
    (bif (decide (i < ((ByteArray.size s) : Int))) then (bif (decide (((UInt8.toNat (Array.getD (ByteArray.data s) (Int.toNat i) (@OfNat.ofNat UInt8 (0 : Nat) (@UInt8.instOfNat 0)))) : Int) < (48 : Int))) then (some ((cdb True (decide (((0 : Int) ≤ i) ∧ ((Int.toNat i) < (ByteArray.size s))))) ∧ (R Exit.ret [(AV.v (Value.string s)), AV.dead, (AV.v (Value.int IntKind.i64 (0 : Int))), (AV.v (Value.int IntKind.i64 (2 : Int))), (AV.v (Value.int IntKind.i64 f)), (AV.v (Value.int IntKind.i64 n)), (AV.v (Value.int IntKind.i64 i)), AV.dead, AV.dead, AV.dead, AV.dead, AV.dead, AV.dead, AV.dead, AV.dead, AV.dead, AV.dead, AV.dead, AV.dead, AV.dead, AV.dead, AV.dead, AV.dead, AV.dead, AV.dead, AV.dead, AV.dead, AV.dead, AV.dead, AV.dead, AV.dead, AV.dead, AV.dead, AV.dead, AV.dead, AV.dead, AV.dead, AV.dead, AV.dead, AV.dead, AV.dead, AV.dead, AV.dead, AV.dead, AV.dead, AV.dead, AV.dead, AV.dead, AV.dead, AV.dead, AV.dead, AV.dead, AV.dead, AV.dead, AV.dead, AV.dead, AV.dead, AV.dead, AV.dead, AV.dead] (AH.mk (@List.nil (Prod Go.TypeId (List AV))) (@List.nil Nat) (0 : Nat) (0 : Nat) true (@List.nil (Prod Nat Bool)) True)))) else (bif (decide ((57 : Int) < ((UInt8.toNat (Array.getD (ByteArray.data s) (Int.toNat i) (@OfNat.ofNat UInt8 (0 : Nat) (@UInt8.instOfNat 0)))) : Int))) then (some ((cdb (cdb True (decide (((0 : Int) ≤ i) ∧ ((Int.toNat i) < (ByteArray.size s))))) (decide (((0 : Int) ≤ i) ∧ ((Int.toNat i) < (ByteArray.size s))))) ∧ (R Exit.ret [(AV.v (Value.string s)), AV.dead, (AV.v (Value.int IntKind.i64 (0 : Int))), (AV.v (Value.int IntKind.i64 (2 : Int))), (AV.v (Value.int IntKind.i64 f)), (AV.v (Value.int IntKind.i64 n)), (AV.v (Value.int IntKind.i64 i)), AV.dead, AV.dead, AV.dead, AV.dead, AV.dead, AV.dead, AV.dead, AV.dead, AV.dead, AV.dead, AV.dead, AV.dead, AV.dead, AV.dead, AV.dead, AV.dead, AV.dead, AV.dead, AV.dead, AV.dead, AV.dead, AV.dead, AV.dead, AV.dead, AV.dead, AV.dead, AV.dead, AV.dead, AV.dead, AV.dead, AV.dead, AV.dead, AV.dead, AV.dead, AV.dead, AV.dead, AV.dead, AV.dead, AV.dead, AV.dead, AV.dead, AV.dead, AV.dead, AV.dead, AV.dead, AV.dead, AV.dead, AV.dead, AV.dead, AV.dead, AV.dead, AV.dead, AV.dead] (AH.mk (@List.nil (Prod Go.TypeId (List AV))) (@List.nil Nat) (0 : Nat) (0 : Nat) true (@List.nil (Prod Nat Bool)) True)))) else (some ((cdb (cdb (cdb True (decide (((0 : Int) ≤ i) ∧ ((Int.toNat i) < (ByteArray.size s))))) (decide (((0 : Int) ≤ i) ∧ ((Int.toNat i) < (ByteArray.size s))))) (decide (((0 : Int) ≤ i) ∧ ((Int.toNat i) < (ByteArray.size s))))) ∧ (R Exit.normal [(AV.v (Value.string s)), AV.dead, AV.dead, AV.dead, (AV.v (Value.int IntKind.i64 f)), (AV.v (Value.int IntKind.i64 (IntKind.wrap IntKind.i64 ((IntKind.wrap IntKind.i64 ((10 : Int) * n)) - (IntKind.wrap IntKind.i64 (IntKind.wrap IntKind.u8 (((UInt8.toNat (Array.getD (ByteArray.data s) (Int.toNat i) (@OfNat.ofNat UInt8 (0 : Nat) (@UInt8.instOfNat 0)))) : Int) - (48 : Int)))))))), (AV.v (Value.int IntKind.i64 (IntKind.wrap IntKind.i64 (i + (1 : Int))))), AV.dead, AV.dead, AV.dead, AV.dead, AV.dead, AV.dead, AV.dead, AV.dead, AV.dead, AV.dead, AV.dead, AV.dead, AV.dead, AV.dead, AV.dead, AV.dead, AV.dead, AV.dead, AV.dead, AV.dead, AV.dead, AV.dead, AV.dead, AV.dead, AV.dead, AV.dead, AV.dead, AV.dead, AV.dead, AV.dead, AV.dead, AV.dead, AV.dead, AV.dead, AV.dead, AV.dead, AV.dead, AV.dead, AV.dead, AV.dead, AV.dead, AV.dead, AV.dead, AV.dead, AV.dead, AV.dead, AV.dead, AV.dead, AV.dead, AV.dead, AV.dead, AV.dead, AV.dead] (AH.mk (@List.nil (Prod Go.TypeId (List AV))) (@List.nil Nat) (0 : Nat) (0 : Nat) true (@List.nil (Prod Nat Bool)) True)))))) else (some (True ∧ (R (Exit.exit (0 : Nat)) [(AV.v (Value.string s)), AV.dead, AV.dead, AV.dead, (AV.v (Value.int IntKind.i64 f)), (AV.v (Value.int IntKind.i64 n)), (AV.v (Value.int IntKind.i64 i)), AV.dead, AV.dead, AV.dead, AV.dead, AV.dead, AV.dead, AV.dead, AV.dead, AV.dead, AV.dead, AV.dead, AV.dead, AV.dead, AV.dead, AV.dead, AV.dead, AV.dead, AV.dead, AV.dead, AV.dead, AV.dead, AV.dead, AV.dead, AV.dead, AV.dead, AV.dead, AV.dead, AV.dead, AV.dead, AV.dead, AV.dead, AV.dead, AV.dead, AV.dead, AV.dead, AV.dead, AV.dead, AV.dead, AV.dead, AV.dead, AV.dead, AV.dead, AV.dead, AV.dead, AV.dead, AV.dead, AV.dead, AV.dead, AV.dead, AV.dead, AV.dead, AV.dead, AV.dead] (AH.mk (@List.nil (Prod Go.TypeId (List AV))) (@List.nil Nat) (0 : Nat) (0 : Nat) true (@List.nil (Prod Nat Bool)) True))))) := by kernel_rfl
theorem p_post (s : ByteArray) (f n i : Int) (R : Exit → List AV → AH → Prop) : codeL nro (fun _ => false) prN 5 ((flatten (bodyOf 35)).drop 9) (pA s f n i) (hp [] []) (kp [2, 3] R) =
    (bif (f == (0 : Int)) then (bif (!((ByteArray.toList (ByteArray.mk (Array.mk (Go.Lib.itoa (IntKind.wrap IntKind.i64 ((0 : Int) - n)))))) == (ByteArray.toList s))) then (some ((cdb True (decide (((-(9223372036854775808 : Int)) ≤ (IntKind.wrap IntKind.i64 ((0 : Int) - n))) ∧ ((IntKind.wrap IntKind.i64 ((0 : Int) - n)) ≤ (9223372036854775807 : Int))))) ∧ (R Exit.ret [AV.dead, AV.dead, (AV.v (Value.int IntKind.i64 (0 : Int))), (AV.v (Value.int IntKind.i64 (2 : Int))), AV.dead, AV.dead, AV.dead, AV.dead, AV.dead, AV.dead, AV.dead, AV.dead, AV.dead, AV.dead, AV.dead, AV.dead, AV.dead, AV.dead, AV.dead, AV.dead, AV.dead, AV.dead, AV.dead, AV.dead, AV.dead, AV.dead, AV.dead, AV.dead, AV.dead, AV.dead, AV.dead, AV.dead, AV.dead, AV.dead, AV.dead, AV.dead, AV.dead, AV.dead, AV.dead, AV.dead, AV.dead, AV.dead, AV.dead, AV.dead, AV.dead, AV.dead, AV.dead, AV.dead, AV.dead, AV.dead, AV.dead, AV.dead, AV.dead, AV.dead, AV.dead, AV.dead, AV.dead, AV.dead, AV.dead, AV.dead] (AH.mk (@List.nil (Prod Go.TypeId (List AV))) (@List.nil Nat) (0 : Nat) (0 : Nat) true (@List.nil (Prod Nat Bool)) True)))) else (some ((cdb True (decide (((-(9223372036854775808 : Int)) ≤ (IntKind.wrap IntKind.i64 ((0 : Int) - n))) ∧ ((IntKind.wrap IntKind.i64 ((0 : Int) - n)) ≤ (9223372036854775807 : Int))))) ∧ (R Exit.ret [AV.dead, AV.dead, (AV.v (Value.int IntKind.i64 (IntKind.wrap IntKind.i64 ((0 : Int) - n)))), (AV.v (Value.int IntKind.i64 (0 : Int))), AV.dead, AV.dead, AV.dead, AV.dead, AV.dead, AV.dead, AV.dead, AV.dead, AV.dead, AV.dead, AV.dead, AV.dead, AV.dead, AV.dead, AV.dead, AV.dead, AV.dead, AV.dead, AV.dead, AV.dead, AV.dead, AV.dead, AV.dead, AV.dead, AV.dead, AV.dead, AV.dead, AV.dead, AV.dead, AV.dead, AV.dead, AV.dead, AV.dead, AV.dead, AV.dead, AV.dead, AV.dead, AV.dead, AV.dead, AV.dead, AV.dead, AV.dead, AV.dead, AV.dead, AV.dead, AV.dead, AV.dead, AV.dead, AV.dead, AV.dead, AV.dead, AV.dead, AV.dead, AV.dead, AV.dead, AV.dead] (AH.mk (@List.nil (Prod Go.TypeId (List AV))) (@List.nil Nat) (0 : Nat) (0 : Nat) true (@List.nil (Prod Nat Bool)) True))))) else (bif (!((ByteArray.toList (ByteArray.mk (Array.mk (Go.Lib.itoa n)))) == (ByteArray.toList s))) then (some ((cdb True (decide (((-(9223372036854775808 : Int)) ≤ n) ∧ (n ≤ (9223372036854775807 : Int))))) ∧ (R Exit.ret [AV.dead, AV.dead, (AV.v (Value.int IntKind.i64 (0 : Int))), (AV.v (Value.int IntKind.i64 (2 : Int))), AV.dead, AV.dead, AV.dead, AV.dead, AV.dead, AV.dead, AV.dead, AV.dead, AV.dead, AV.dead, AV.dead, AV.dead, AV.dead, AV.dead, AV.dead, AV.dead, AV.dead, AV.dead, AV.dead, AV.dead, AV.dead, AV.dead, AV.dead, AV.dead, AV.dead, AV.dead, AV.dead, AV.dead, AV.dead, AV.dead, AV.dead, AV.dead, AV.dead, AV.dead, AV.dead, AV.dead, AV.dead, AV.dead, AV.dead, AV.dead, AV.dead, AV.dead, AV.dead, AV.dead, AV.dead, AV.dead, AV.dead, AV.dead, AV.dead, AV.dead, AV.dead, AV.dead, AV.dead, AV.dead, AV.dead, AV.dead] (AH.mk (@List.nil (Prod Go.TypeId (List AV))) (@List.nil Nat) (0 : Nat) (0 : Nat) true (@List.nil (Prod Nat Bool)) True)))) else (some ((cdb True (decide (((-(9223372036854775808 : Int)) ≤ n) ∧ (n ≤ (9223372036854775807 : Int))))) ∧ (R Exit.ret [AV.dead, AV.dead, (AV.v (Value.int IntKind.i64 n)), (AV.v (Value.int IntKind.i64 (0 : Int))), AV.dead, AV.dead, AV.dead, AV.dead, AV.dead, AV.dead, AV.dead, AV.dead, AV.dead, AV.dead, AV.dead, AV.dead, AV.dead, AV.dead, AV.dead, AV.dead, AV.dead, AV.dead, AV.dead, AV.dead, AV.dead, AV.dead, AV.dead, AV.dead, AV.dead, AV.dead, AV.dead, AV.dead, AV.dead, AV.dead, AV.dead, AV.dead, AV.dead, AV.dead, AV.dead, AV.dead, AV.dead, AV.dead, AV.dead, AV.dead, AV.dead, AV.dead, AV.dead, AV.dead, AV.dead, AV.dead, AV.dead, AV.dead, AV.dead, AV.dead, AV.dead, AV.dead, AV.dead, AV.dead, AV.dead, AV.dead] (AH.mk (@List.nil (Prod Go.TypeId (List AV))) (@List.nil Nat) (0 : Nat) (0 : Nat) true (@List.nil (Prod Nat Bool)) True)))))) := by kernel_rfl
end Go.Proofs.YtodjeammjdgkoaaDoor.AE
namespace Go.Proofs.YtodjeammjdgkoaaDoor
namespace De
open Go.Lib
theorem digits_rng (u : Nat) : ∀ c ∈ decDigits u, 48 ≤ c.toNat ∧ c.toNat ≤ 57 := by
  induction u using Nat.strongRecOn with
  | _ u ih =>
    intro c hc
    rw [decDigits] at hc
    have one : ∀ i, i < 10 → 48 ≤ (UInt8.ofNat (48 + i)).toNat ∧ (UInt8.ofNat (48 + i)).toNat ≤ 57 := by decide +kernel
    split at hc
    · rename_i h
      simp only [List.mem_singleton] at hc
      rw [hc]; exact one u h
    · rename_i h
      rw [List.mem_append] at hc
      rcases hc with hc | hc
      · exact ih (u / 10) (by omega) c hc
      · simp only [List.mem_singleton] at hc
        rw [hc]; exact one (u % 10) (by omega)
theorem digits_ne (u : Nat) : decDigits u ≠ [] := by
  rw [decDigits]
  split <;> simp
theorem parse_snoc (c : UInt8) : ∀ (l : List UInt8) (acc a : Nat), parseUint10 acc l = .ok a → parseUint10 acc (l ++ [c]) = parseUint10 a [c]
  | [], acc, a, h => by
    simp only [parseUint10] at h
    injection h with h
    subst h; rfl
  | d :: l, acc, a, h => by
    show parseUint10 acc (d :: (l ++ [c])) = _
    rw [parseUint10] at h ⊢
    split at h
    · rename_i h1
      rw [if_pos h1]
      split at h
      · cases h
      · rename_i h2
        rw [if_neg h2]
        split at h
        · cases h
        · rename_i h3
          rw [if_neg h3]
          exact parse_snoc c l _ a h
    · cases h
theorem one_digit (a i : Nat) (hi : i < 10) (h : a * 10 + i < 18446744073709551616) : parseUint10 a [UInt8.ofNat (48 + i)] = .ok (a * 10 + i) := by
  have e : (UInt8.ofNat (48 + i)).toNat = 48 + i := UInt8.toNat_ofNat_of_lt' (by show 48 + i < 256; omega)
  rw [parseUint10, e, if_pos ⟨by omega, by omega⟩, if_neg (by omega), if_neg (by omega), parseUint10]
  congr 1
  omega
theorem parse_digits (u : Nat) (h : u < 18446744073709551616) : parseUint10 0 (decDigits u) = .ok u := by
  induction u using Nat.strongRecOn with
  | _ u ih =>
    rw [decDigits]
    split
    · rename_i h10
      have := one_digit 0 u h10 (by omega)
      rwa [Nat.zero_mul, Nat.zero_add] at this
    · rename_i h10
      rw [parse_snoc _ _ _ _ (ih (u / 10) (by omega) (by omega)), one_digit _ _ (by omega) (by omega)]
      congr 1
      omega
theorem mag_digits (u : Nat) (h : u < 18446744073709551616) : parseMag (decDigits u) = .ok u := by
  unfold parseMag
  rw [if_neg (digits_ne u)]
  exact parse_digits u h
/-- A number's text has this number. -/
theorem atoi_itoa (n : Int) (h0 : -9223372036854775808 ≤ n) (h1 : n ≤ 9223372036854775807) : atoiAll (itoa n) = .ok n := by
  unfold itoa
  split
  · rename_i hn
    have hm := mag_digits n.natAbs (by omega)
    have e45 : (45 : UInt8).toNat = 45 := rfl
    simp only [atoiAll, e45, or_true, if_true, hm, not_true_eq_false, false_and, if_false, true_and]
    rw [if_neg (by omega)]
    congr 1
    omega
  · rename_i hn
    have hm := mag_digits n.toNat (by omega)
    obtain ⟨c, r, hc⟩ := List.exists_cons_of_ne_nil (digits_ne n.toNat)
    have hr := digits_rng n.toNat c (by rw [hc]; exact List.mem_cons_self)
    rw [hc] at hm ⊢
    have h43 : ¬ c.toNat = 43 := by omega
    have h45 : ¬ c.toNat = 45 := by omega
    simp only [atoiAll, h43, h45, or_self, if_false, hm, not_false_eq_true, true_and, false_and]
    rw [if_neg (by omega)]
    congr 1
    omega
end De
end Go.Proofs.YtodjeammjdgkoaaDoor
namespace Go.Proofs.YtodjeammjdgkoaaDoor.AE
open Go.RowKit De
abbrev inR (v : Int) : Prop := -9223372036854775808 ≤ v ∧ v ≤ 9223372036854775807
theorem dp_good {s : ByteArray} {v : Int} (hv : inR v) (h : s.data.toList = Lib.itoa v) : dpX s = v ∧ dpY s = 0 := by
  unfold dpX dpY
  rw [h, atoi_itoa v hv.1 hv.2]
  simp
theorem dp_bad {s : ByteArray} (h : ∀ v, inR v → ¬ s.data.toList = Lib.itoa v) : dpX s = 0 ∧ dpY s = 2 := by
  unfold dpX dpY
  rcases ha : Lib.atoiAll s.data.toList with v | _ | _
  · have hb := Lib.atoiAll_bounds ha
    have hn : ¬ Lib.itoa v = s.data.toList := fun e => h v hb e.symm
    simp [hn]
  · exact ⟨rfl, rfl⟩
  · exact ⟨rfl, rfl⟩
def nfS (n : Int) (c : UInt8) : Int := IntKind.wrap .i64 (IntKind.wrap .i64 (10 * n) - IntKind.wrap .i64 (IntKind.wrap .u8 ((c.toNat : Int) - 48)))
def nf (l : List UInt8) : Int := l.foldl nfS 0
theorem nf_digits (u : Nat) (h : u ≤ 9223372036854775808) : nf (Lib.decDigits u) = -(u : Int) := by
  induction u using Nat.strongRecOn with
  | _ u ih =>
    have one : ∀ (a i : Nat), i < 10 → a * 10 + i ≤ 9223372036854775808 → nfS (-(a : Int)) (UInt8.ofNat (48 + i)) = -((a * 10 + i : Nat) : Int) := by
      intro a i hi ha
      have e : (UInt8.ofNat (48 + i)).toNat = 48 + i := UInt8.toNat_ofNat_of_lt' (by show 48 + i < 256; omega)
      unfold nfS
      rw [e, IntKind.wrap_u8, IntKind.wrap_i64, IntKind.wrap_i64, IntKind.wrap_i64]
      omega
    rw [Lib.decDigits]
    split
    · rename_i h10
      have := one 0 u h10 (by omega)
      rw [Nat.zero_mul, Nat.zero_add] at this
      exact this
    · rename_i h10
      have := ih (u / 10) (by omega) (by omega)
      unfold nf at this ⊢
      rw [List.foldl_append, this]
      show nfS _ _ = _
      rw [one _ _ (by omega) (by omega)]
      congr 2
      omega
/-- The texts of numbers, by their first byte. -/
theorem good_by {s : ByteArray} {v : Int} (hv : inR v) (h : s.data.toList = Lib.itoa v) :
    (s.data.toList.head? = some 45 → ∃ u, u ≤ 9223372036854775808 ∧ s.data.toList = 45 :: Lib.decDigits u ∧ v = -(u : Int)) ∧ (¬ s.data.toList.head? = some 45 → ∃ u, u ≤ 9223372036854775807 ∧ s.data.toList = Lib.decDigits u ∧ v = (u : Int)) := by
  obtain ⟨h0, h1⟩ := hv
  unfold Lib.itoa at h
  split at h
  · rename_i hn
    refine ⟨fun _ => ⟨v.natAbs, by omega, h, by omega⟩, fun hh => absurd (by rw [h]; rfl) hh⟩
  · rename_i hn
    refine ⟨fun hh => ?_, fun _ => ⟨v.toNat, by omega, h, by omega⟩⟩
    exfalso
    rw [h] at hh
    have := digits_rng v.toNat 45 (List.mem_of_mem_head? hh)
    revert this
    decide
theorem digits_len (u : Nat) (h : u ≤ 9223372036854775808) : 1 ≤ (Lib.decDigits u).length ∧ (Lib.decDigits u).length ≤ 19 := by
  refine ⟨List.length_pos_iff.2 (digits_ne u), ?_⟩
  by_cases h0 : u = 0
  · subst h0; decide +kernel
  · have e : D10 u = Lib.decDigits u := if_neg h0
    rw [← e]
    refine D10_len u 19 ?_
    have : (10 : Nat) ^ 19 = 10000000000000000000 := by decide
    omega
end Go.Proofs.YtodjeammjdgkoaaDoor.AE
namespace Go.Proofs.YtodjeammjdgkoaaDoor.AE
open Go.RowKit De
theorem arr_getD (s : ByteArray) (i : Nat) : s.data.getD i 0 = s.data.toList.getD i 0 := by
  rw [Array.getD_eq_getD_getElem?, List.getD_eq_getElem?_getD, Array.getElem?_toList]
theorem size_list (s : ByteArray) : s.data.toList.length = s.size := by rw [Array.length_toList]; rfl
theorem good_drop {s : ByteArray} {f : Nat} (hf : (f = 1 ∧ s.data.toList.head? = some 45) ∨ (f = 0 ∧ ¬ s.data.toList.head? = some 45)) {v : Int} (hv : inR v) (h : s.data.toList = Lib.itoa v) :
    ∃ u, u ≤ 9223372036854775808 ∧ s.data.toList.drop f = Lib.decDigits u ∧ v = (if f = 0 then (u : Int) else -(u : Int)) ∧ (f = 0 → u ≤ 9223372036854775807) := by
  obtain ⟨g1, g2⟩ := good_by hv h
  rcases hf with ⟨rfl, hh⟩ | ⟨rfl, hh⟩
  · obtain ⟨u, u1, u2, u3⟩ := g1 hh
    exact ⟨u, u1, by rw [u2]; rfl, u3, fun h => by omega⟩
  · obtain ⟨u, u1, u2, u3⟩ := g2 hh
    exact ⟨u, by omega, u2, u3, fun _ => u1⟩
theorem add_one (k : Nat) (h : k ≤ 1000000) : IntKind.wrap .i64 ((k : Int) + 1) = ((k + 1 : Nat) : Int) := by
  rw [IntKind.wrap_i64]; omega
theorem sl_rp : slotsOf 35 = 60 := by kernel_rfl
theorem re_rp : resultsOf 35 = [.tmp 2, .tmp 3] := by kernel_rfl
theorem fl_rp : (flatten (bodyOf 35)).drop 8 = .block 0 (.loop (sub (bodyOf 35) [1, 1, 1, 1, 1, 0, 1, 0, 0])) :: (flatten (bodyOf 35)).drop 9 := by kernel_rfl
abbrev parQ (s : ByteArray) : Exit → List AV → AH → Prop := fun e a h => (e = .normal ∨ e = .ret) ∧ ansOk (fun r _ => r = .v (.tuple #[.int .i64 (dpX s), .int .i64 (dpY s)])) (resOf Tryd.prog nro [.tmp 2, .tmp 3] a h)
theorem beq_lists (l : List UInt8) (s : ByteArray) : ((⟨l.toArray⟩ : ByteArray).toList == s.toList) = decide (s.data.toList = l) := by
  rw [Bool.eq_iff_iff, beq_iff_eq, decide_eq_true_eq, ByteArray.toList_eq, ByteArray.toList_eq]
  exact ⟨fun h => h.symm, fun h => h.symm⟩
theorem wrap_rng (n : Int) : inR (IntKind.wrap .i64 n) := by
  unfold inR
  rw [IntKind.wrap_i64]
  omega
set_option maxRecDepth 100000 in
theorem tr_ploop (s : ByteArray) (hs : s.size ≤ 100000) (f : Nat) (hf : (f = 1 ∧ s.data.toList.head? = some 45) ∨ (f = 0 ∧ ¬ s.data.toList.head? = some 45)) (hfs : f ≤ s.size) :
    Trl Tryd.prog nro ((flatten (bodyOf 35)).drop 8) (pA s f 0 f) (hp [] []) (parQ s) := by
  rw [fl_rp]
  have hlen := size_list s
  have bad : ∀ i, f ≤ i → i < s.size → ¬ (48 ≤ (s.data.toList.getD i 0).toNat ∧ (s.data.toList.getD i 0).toNat ≤ 57) → dpX s = 0 ∧ dpY s = 2 := fun i h1 h2 h3 => dp_bad fun v hv hg => by
    obtain ⟨u, _, u2, _, _⟩ := good_drop hf hv hg
    refine h3 (digits_rng u _ ?_)
    rw [← u2]
    have : s.data.toList.getD i 0 = (s.data.toList.drop f)[i - f]'(by rw [List.length_drop]; omega) := by
      rw [List.getElem_drop, List.getD_eq_getElem?_getD, List.getElem?_eq_getElem (by omega), Option.getD_some]
      congr 1
      omega
    rw [this]
    exact List.getElem_mem _
  let I : Nat → List AV → AH → Prop := fun m act H => ∃ (i : Nat) (n : Int), f ≤ i ∧ i ≤ s.size ∧ m = s.size - i ∧ n = nf ((s.data.toList.drop f).take (i - f)) ∧ act = pA s f n i ∧ H = hp [] []
  refine Tr.block (Tr.loop I ?_ (m := s.size - f) ⟨f, 0, Nat.le_refl _, hfs, rfl, by rw [Nat.sub_self]; rfl, rfl, rfl⟩)
  rintro m act H ⟨i, n, h1, h2, rfl, hn, rfl, rfl⟩
  have body := fun R => p_in s f n i R
  rw [add_one i (by omega), Int.toNat_natCast, arr_getD] at body
  obtain ⟨c, hc⟩ : ∃ c, c = s.data.toList.getD i 0 := ⟨_, rfl⟩
  have cd : i < s.size → decide ((0 : Int) ≤ (i : Int) ∧ i < s.size) = true := fun h => decide_eq_true ⟨Int.natCast_nonneg i, h⟩
  rw [← hc] at body
  have badi := bad i h1
  rw [← hc] at badi
  refine Tr.of_code (knownN nro) (body _) (holds_bif (fun h8 => ?_) (fun h8 => ⟨trivial, ?_⟩))
  · have h8 := of_decide_eq_true h8
    have hlt : i < s.size := by omega
    refine holds_bif (fun ha => ⟨?_, ?_⟩) (fun ha => holds_bif (fun hb => ⟨?_, ?_⟩) (fun hb => ⟨?_, ?_⟩))
    · with_reducible exact cdb_iff.2 ⟨trivial, cd hlt⟩
    · have ha := of_decide_eq_true ha
      obtain ⟨x1, x2⟩ := badi hlt (by omega)
      refine ⟨.inr rfl, trivial, ?_⟩
      show AV.v (.tuple #[.int .i64 0, .int .i64 2]) = _
      rw [x1, x2]
    · with_reducible exact cdb_iff.2 ⟨cdb_iff.2 ⟨trivial, cd hlt⟩, cd hlt⟩
    · have hb := of_decide_eq_true hb
      obtain ⟨x1, x2⟩ := badi hlt (by omega)
      refine ⟨.inr rfl, trivial, ?_⟩
      show AV.v (.tuple #[.int .i64 0, .int .i64 2]) = _
      rw [x1, x2]
    · with_reducible exact cdb_iff.2 ⟨cdb_iff.2 ⟨cdb_iff.2 ⟨trivial, cd hlt⟩, cd hlt⟩, cd hlt⟩
    · refine ⟨s.size - (i + 1), by omega, i + 1, _, by omega, by omega, rfl, ?_, rfl, rfl⟩
      have ht : (s.data.toList.drop f).take (i + 1 - f) = (s.data.toList.drop f).take (i - f) ++ [c] := by
        rw [show i + 1 - f = (i - f) + 1 by omega, List.take_add_one, List.getElem?_drop, show f + (i - f) = i by omega, List.getElem?_eq_getElem (by omega), hc, List.getD_eq_getElem?_getD, List.getElem?_eq_getElem (by omega)]
        rfl
      rw [ht]
      show _ = List.foldl nfS 0 _
      rw [List.foldl_append]
      show _ = nfS (nf _) c
      rw [← hn]
      rfl
  · have h8 := of_decide_eq_false h8
    obtain rfl : i = s.size := by omega
    have hall : (s.data.toList.drop f).take (s.size - f) = s.data.toList.drop f := List.take_of_length_le (by rw [List.length_drop]; omega)
    rw [hall] at hn
    show Trl _ _ ((flatten (bodyOf 35)).drop 9) _ _ _
    have post := fun R => p_post s f n s.size R
    rw [beq_lists, beq_lists] at post
    /- what is at last compared -/
    have fin : ∀ N : Int, inR N → (∀ u : Nat, s.data.toList.drop f = Lib.decDigits u → u ≤ 9223372036854775808 → (f = 0 → u ≤ 9223372036854775807) → N = (if f = 0 then (u : Int) else -(u : Int))) → (¬ s.data.toList = Lib.itoa N → dpX s = 0 ∧ dpY s = 2) ∧ (s.data.toList = Lib.itoa N → dpX s = N ∧ dpY s = 0) := fun N hN hu =>
      ⟨fun hne => dp_bad fun v hv hg => by
        obtain ⟨u, u1, u2, u3, u4⟩ := good_drop hf hv hg
        rw [u3, ← hu u u2 u1 u4] at hg
        exact hne hg, fun he => dp_good hN he⟩
    have hnr : inR n := by
      rw [hn]
      have : ∀ (l : List UInt8) (a : Int), inR a → inR (l.foldl nfS a) := by
        intro l
        induction l with
        | nil => intro a h; exact h
        | cons c l ih => intro a _; exact ih _ (wrap_rng _)
      exact this _ 0 (by unfold inR; omega)
    refine Trl.of_code (knownN nro) (ne_nil (by kernel_rfl)) (post _) (holds_bif (fun h0 => ?_) (fun h0 => ?_))
    · have h0 : (f : Int) = 0 := eq_of_beq h0
      have hf0 : f = 0 := by omega
      have hr := wrap_rng (0 - n)
      obtain ⟨x1, x2⟩ := fin (IntKind.wrap .i64 (0 - n)) hr (fun u hu hu1 hu2 => by
        rw [if_pos hf0, hn, hu, nf_digits u hu1, IntKind.wrap_i64]
        have := hu2 hf0
        omega)
      refine holds_bif (fun he => ⟨?_, .inr rfl, trivial, ?_⟩) (fun he => ⟨?_, .inr rfl, trivial, ?_⟩)
      · with_reducible exact cdb_iff.2 ⟨trivial, decide_eq_true hr⟩
      · obtain ⟨y1, y2⟩ := x1 (by simpa using he)
        show AV.v (.tuple #[.int .i64 0, .int .i64 2]) = _
        rw [y1, y2]
      · with_reducible exact cdb_iff.2 ⟨trivial, decide_eq_true hr⟩
      · obtain ⟨y1, y2⟩ := x2 (by simpa using he)
        show AV.v (.tuple #[.int .i64 (IntKind.wrap .i64 (0 - n)), .int .i64 0]) = _
        rw [y1, y2]
    · have h0 : ¬ (f : Int) = 0 := ne_of_beq_false h0
      have hf0 : ¬ f = 0 := by omega
      obtain ⟨x1, x2⟩ := fin n hnr (fun u hu hu1 hu2 => by
        rw [if_neg hf0, hn, hu, nf_digits u hu1])
      refine holds_bif (fun he => ⟨?_, .inr rfl, trivial, ?_⟩) (fun he => ⟨?_, .inr rfl, trivial, ?_⟩)
      · with_reducible exact cdb_iff.2 ⟨trivial, decide_eq_true hnr⟩
      · obtain ⟨y1, y2⟩ := x1 (by simpa using he)
        show AV.v (.tuple #[.int .i64 0, .int .i64 2]) = _
        rw [y1, y2]
      · with_reducible exact cdb_iff.2 ⟨trivial, decide_eq_true hnr⟩
      · obtain ⟨y1, y2⟩ := x2 (by simpa using he)
        show AV.v (.tuple #[.int .i64 n, .int .i64 0]) = _
        rw [y1, y2]
set_option maxRecDepth 100000 in
theorem fs_rparse (s : ByteArray) (hs : s.size ≤ 100000) : Fs Tryd.prog nro 35 [.v (.string s)] (hp [] []) fun r _ => r = .v (.tuple #[.int .i64 (dpX s), .int .i64 (dpY s)]) := by
  refine Fs.of_body (has_fn (by kernel_rfl)) ?_
  rw [sl_rp, re_rp]
  have hlen := size_list s
  have hhead : 0 < s.size → (s.data.toList.head? = some 45 ↔ ((s.data.getD 0 0).toNat : Int) = 45) := fun h => by
    rw [arr_getD]
    cases e : s.data.toList with
    | nil => rw [e] at hlen; simp at hlen; omega
    | cons c r =>
      show some c = some 45 ↔ ((c.toNat : Nat) : Int) = 45
      constructor
      · intro h; cases h; rfl
      · intro h; rw [show c = 45 from UInt8.toNat_inj.1 (by show c.toNat = 45; omega)]
  have short : ∀ f, ((f = 1 ∧ s.data.toList.head? = some 45) ∨ (f = 0 ∧ ¬ s.data.toList.head? = some 45)) → (s.size = f ∨ f + 19 < s.size) → dpX s = 0 ∧ dpY s = 2 := fun f hf hh => dp_bad fun v hv hg => by
    obtain ⟨u, u1, u2, _, _⟩ := good_drop hf hv hg
    have l1 := digits_len u u1
    rw [← u2, List.length_drop, hlen] at l1
    omega
  have ret2 : ∀ f, ((f = 1 ∧ s.data.toList.head? = some 45) ∨ (f = 0 ∧ ¬ s.data.toList.head? = some 45)) → (s.size = f ∨ f + 19 < s.size) → AV.v (.tuple #[.int .i64 0, .int .i64 2]) = AV.v (.tuple #[.int .i64 (dpX s), .int .i64 (dpY s)]) := fun f hf hh => by
    obtain ⟨y1, y2⟩ := short f hf hh
    rw [y1, y2]
  have cd : 0 < s.size → decide ((0 : Int) ≤ 0 ∧ 0 < s.size) = true := fun h => decide_eq_true ⟨by decide, h⟩
  refine Tr.of_flat (Trl.split 8 (Trl.of_code (knownN nro) (ne_nil (by kernel_rfl)) (p_pre s _) (holds_bif (fun h1 => holds_bif (fun h2 => ?_) (fun h2 => ?_)) (fun h1 => ?_))))
  · have h1 := of_decide_eq_true h1
    have hp0 : 0 < s.size := by omega
    have hf : (1 = 1 ∧ s.data.toList.head? = some 45) ∨ (1 = 0 ∧ ¬ s.data.toList.head? = some 45) := .inl ⟨rfl, (hhead hp0).2 (eq_of_beq h2)⟩
    refine holds_bif (fun h3 => ⟨by with_reducible exact cdb_iff.2 ⟨trivial, cd hp0⟩, .inr rfl, trivial, ret2 1 hf (.inl (by have := eq_of_beq h3; omega))⟩) (fun h3 => holds_bif (fun h4 => ⟨by with_reducible exact cdb_iff.2 ⟨trivial, cd hp0⟩, .inr rfl, trivial, ret2 1 hf (.inr (by have := of_decide_eq_true h4; omega))⟩) (fun h4 => ⟨by with_reducible exact cdb_iff.2 ⟨trivial, cd hp0⟩, ?_⟩))
    show Trl _ _ ((flatten (bodyOf 35)).drop 8) _ _ _
    exact Tr.keepL [0, 4, 5, 6] rfl (tr_ploop s hs 1 hf hp0)
  · have h1 := of_decide_eq_true h1
    have hp0 : 0 < s.size := by omega
    have hf : (0 = 1 ∧ s.data.toList.head? = some 45) ∨ (0 = 0 ∧ ¬ s.data.toList.head? = some 45) := .inr ⟨rfl, fun h => ne_of_beq_false h2 ((hhead hp0).1 h)⟩
    refine holds_bif (fun h3 => ⟨by with_reducible exact cdb_iff.2 ⟨trivial, cd hp0⟩, .inr rfl, trivial, ret2 0 hf (.inl (by have := eq_of_beq h3; omega))⟩) (fun h3 => holds_bif (fun h4 => ⟨by with_reducible exact cdb_iff.2 ⟨trivial, cd hp0⟩, .inr rfl, trivial, ret2 0 hf (.inr (by have := of_decide_eq_true h4; omega))⟩) (fun h4 => ⟨by with_reducible exact cdb_iff.2 ⟨trivial, cd hp0⟩, ?_⟩))
    show Trl _ _ ((flatten (bodyOf 35)).drop 8) _ _ _
    exact Tr.keepL [0, 4, 5, 6] rfl (tr_ploop s hs 0 hf (Nat.zero_le _))
  · have h1 := of_decide_eq_false h1
    have hz : s.size = 0 := by omega
    have hnil : s.data.toList = [] := List.eq_nil_of_length_eq_zero (by rw [hlen, hz])
    have hf : (0 = 1 ∧ s.data.toList.head? = some 45) ∨ (0 = 0 ∧ ¬ s.data.toList.head? = some 45) := .inr ⟨rfl, by rw [hnil]; simp⟩
    refine holds_bif (fun h3 => ⟨trivial, .inr rfl, trivial, ret2 0 hf (.inl hz)⟩) (fun h3 => ?_)
    exact absurd (ne_of_beq_false h3) (by rw [hz]; simp)
def rparseP : List Value → Option (Value × Bool) := fun us => match us with
  | [.string s] => some (.tuple #[.int .i64 (dpX s), .int .i64 (dpY s)], decide (s.size ≤ 100000))
  | _ => none
set_option maxRecDepth 100000 in
theorem rparse_ok (ro : Nat → Option (List Value)) : ∀ args H r H', pure? rparseP args H = some (r, H') → HSound1 Tryd.prog ro 35 args H r H' := by
  refine pure_ok (fun us c hs => Fs.ro ?_ ro) (has_fn (by kernel_rfl))
  unfold rparseP at hs
  split at hs
  · simp only [Option.some.injEq, Prod.mk.injEq, decide_eq_true_eq] at hs
    obtain ⟨rfl, h⟩ := hs
    exact fs_rparse _ h
  · cases hs
end Go.Proofs.YtodjeammjdgkoaaDoor.AE
namespace Go.Proofs.YtodjeammjdgkoaaDoor.AE
open Go.RowKit
theorem ba_bk (x : ByteArray) : ba x.data.toList = x := ba_ext rfl
theorem map_bk (l : List ByteArray) : (l.map (·.data.toList)).map ba = l := by
  induction l with
  | nil => rfl
  | cons x l ih =>
    rw [List.map_cons, List.map_cons, ih]
    show ba x.data.toList :: l = _
    rw [ba_bk]
def wordC (c : UInt8) : Bool := !(c == 32) && !(c == 9) && !(c == 35)
def isWord (x : ByteArray) : Bool := decide (0 < x.size) && x.data.toList.all wordC
theorem wordC_plain {c : UInt8} (h : wordC c = true) : plainW c := by
  unfold wordC at h
  simp only [Bool.and_eq_true, Bool.not_eq_true', beq_eq_false_iff_ne, ne_eq] at h
  exact ⟨h.2, h.1.1, h.1.2⟩
theorem wds_word {x : List UInt8} (t : List UInt8) (h0 : x ≠ []) (h : ∀ c ∈ x, plainW c) : wds [] (x ++ 32 :: t) = x :: wds [] t := by
  rw [wds_run x [] _ h, List.nil_append, wds, if_neg (by decide), if_pos (by decide), flush, if_neg h0]; rfl
theorem wds_last {x : List UInt8} (h0 : x ≠ []) (h : ∀ c ∈ x, plainW c) : wds [] x = [x] := by
  have := wds_run x [] [] h
  rw [List.append_nil, List.nil_append] at this
  rw [this]
  show flush x = _
  rw [flush, if_neg h0]
theorem wds_join : ∀ l : List (List UInt8), (∀ x ∈ l, x ≠ [] ∧ ∀ c ∈ x, plainW c) → wds [] (Lib.join l [32]) = l
  | [], _ => rfl
  | [x], h => by
    have hx := h x (List.mem_cons_self ..)
    have e : Lib.join [x] [32] = x := by simp [Lib.join]
    rw [e, wds_last hx.1 hx.2]
  | x :: y :: l, h => by
    have hx := h x (List.mem_cons_self ..)
    have e : Lib.join (x :: y :: l) [32] = x ++ 32 :: Lib.join (y :: l) [32] := by simp [Lib.join]
    rw [e, wds_word _ hx.1 hx.2, wds_join (y :: l) fun z hz => h z (List.mem_cons_of_mem _ hz)]
theorem isWord_of {x : ByteArray} (h : isWord x = true) : x.data.toList ≠ [] ∧ ∀ c ∈ x.data.toList, plainW c := by
  unfold isWord at h
  simp only [Bool.and_eq_true, decide_eq_true_eq, List.all_eq_true] at h
  refine ⟨fun e => ?_, fun c hc => wordC_plain (h.2 c hc)⟩
  have hd : x.data.toList.length = x.size := len_data x
  rw [e] at hd; simp at hd; omega
theorem isWord_to {x : ByteArray} (h0 : 0 < x.size) (h : ∀ c ∈ x.data.toList, wordC c = true) : isWord x = true := by
  unfold isWord
  rw [decide_eq_true h0, Bool.true_and, List.all_eq_true]
  exact h
theorem join_data (l : List ByteArray) : (joinB l blank).data.toList = Lib.join (l.map (·.data.toList)) [32] := by show (List.toArray _).toList = _; rfl
theorem map_words {l : List ByteArray} (h : ∀ x ∈ l, isWord x = true) : ∀ x ∈ l.map (·.data.toList), x ≠ [] ∧ ∀ c ∈ x, plainW c := by
  intro x hx
  obtain ⟨y, hy, rfl⟩ := List.mem_map.1 hx
  exact isWord_of (h y hy)
theorem words_back {l : List ByteArray} (h : ∀ x ∈ l, isWord x = true) : wordsS (joinB l blank) = l := by
  unfold wordsS
  rw [join_data, wds_join _ (map_words h), map_bk]
/-- No word is longer than its line. -/
theorem wds_le : ∀ (l w : List UInt8), ∀ y ∈ wds w l, y.length ≤ w.length + l.length
  | [], w, y, h => by
    simp only [wds, flush] at h
    split at h
    · cases h
    · simp at h; subst h; simp
  | c :: l, w, y, h => by
    have hf : ∀ y ∈ flush w, y.length ≤ w.length + (c :: l).length := fun y hy => by
      unfold flush at hy
      split at hy
      · cases hy
      · simp at hy; subst hy; omega
    rw [wds] at h
    split at h
    · exact hf y h
    · split at h
      · rcases List.mem_append.1 h with h | h
        · exact hf y h
        · have := wds_le l [] y h
          simp only [List.length_nil, List.length_cons] at this ⊢; omega
      · have := wds_le l (w ++ [c]) y h
        simp only [List.length_append, List.length_cons, List.length_nil] at this ⊢; omega
theorem words_le (s : ByteArray) : ∀ y ∈ wordsS s, y.size ≤ s.size := by
  intro y hy
  unfold wordsS at hy
  obtain ⟨x, hx, rfl⟩ := List.mem_map.1 hy
  have := wds_le _ _ x hx
  rw [ba_size]
  have hd := len_data s
  simp only [List.length_nil] at this
  omega
theorem itoa_bytes (n : Int) : ∀ c ∈ Lib.itoa n, c = 45 ∨ (48 ≤ c.toNat ∧ c.toNat ≤ 57) := by
  unfold Lib.itoa
  split
  · intro c hc
    rcases List.mem_cons.1 hc with hc | hc
    · exact .inl hc
    · exact .inr (De.digits_rng _ c hc)
  · intro c hc
    exact .inr (De.digits_rng _ c hc)
theorem wordC_of {c : UInt8} (h : 36 ≤ c.toNat) : wordC c = true := by
  unfold wordC
  simp only [Bool.and_eq_true, Bool.not_eq_true', beq_eq_false_iff_ne, ne_eq]
  refine ⟨⟨?_, ?_⟩, ?_⟩ <;> rintro rfl <;> exact absurd h (by decide)
theorem itoa_word (n : Int) : ∀ c ∈ Lib.itoa n, wordC c = true := fun c hc => wordC_of (by
  rcases itoa_bytes n c hc with rfl | h
  · decide
  · omega)
end Go.Proofs.YtodjeammjdgkoaaDoor.AE
namespace Go.Proofs.YtodjeammjdgkoaaDoor.AE
open Go.RowKit
def txP (T : Int → ByteArray) : List Value → Option (Value × Bool) := fun us => match us with
  | [.int .i64 n] => some (.string (T n), decide (-9223372036854775808 ≤ n ∧ n ≤ 9223372036854775807))
  | _ => none
def paP (P Q : ByteArray → Int) : List Value → Option (Value × Bool) := fun us => match us with
  | [.string s] => some (.tuple #[.int .i64 (P s), .int .i64 (Q s)], decide (s.size ≤ 100000))
  | _ => none
def tx (n : Int) : ByteArray := ⟨(Lib.itoa n).toArray⟩
noncomputable def prDW (FL FW : ByteArray → List ByteArray) (Pl : ByteArray → Bool) (A B : ByteArray → ByteArray) (K : ByteArray → Bool) (J : AV → ByteArray) (N : ByteArray → AV → Int) (D : ByteArray → AV → Bool) (S : AV → AV → Bool) (T : Int → ByteArray) (P Q : ByteArray → Int) : FuncId → Option (List AV → AH → Ans) := fun g => match g with
  | 26 => some (pure? (txP T))
  | 29 => some (pure? (txP T))
  | 48 => some (pure? (paP P Q))
  | 35 => some (pure? (paP P Q))
  | g => prW FL FW Pl A B K J N D S g
def plainX (s : ByteArray) : Bool := plainL s.data.toList
theorem knownDW {ro : Nat → Option (List Value)} {tS tR : TypeId} {pS pR : Value} (hro : ∀ G W, Ro ro G W → Ro (ro05 tS pS tR pR) G W) : Known ro (prDW linesS wordsS plainX cutA cutB cutK joinX findN findB sameX tx dpX dpY) := by
  intro g p h
  unfold prDW at h
  split at h
  · cases h; exact fun _ _ _ _ h => (text_ok _ _ _ _ h).ro hro
  · cases h; exact rtext_ok _
  · cases h; exact fun _ _ _ _ h => (parse_ok _ _ _ _ h).ro hro
  · cases h; exact rparse_ok _
  · exact knownW _ g p h
abbrev w64 (n : Int) : Prop := -9223372036854775808 ≤ n ∧ n ≤ 9223372036854775807
theorem itoa_len (n : Int) (h0 : -9223372036854775808 ≤ n) (h1 : n ≤ 9223372036854775807) : (tx n).size ≤ 21 := by
  have hd : ∀ u, u ≤ 9223372036854775808 → (Lib.decDigits u).length ≤ 20 := by
    intro u hu
    by_cases h : u = 0
    · subst h; rw [Lib.decDigits, dif_pos (by omega)]; exact Nat.le_of_ble_eq_true rfl
    · have := D10_len u 20 (by have : (10 : Nat) ^ 20 = 100000000000000000000 := by decide
                               omega)
      unfold D10 at this
      rwa [if_neg h] at this
  show (List.toArray _).size ≤ 21
  rw [List.size_toArray]
  unfold Lib.itoa
  split
  · rw [List.length_cons]; have := hd n.natAbs (by omega); omega
  · have := hd n.toNat (by omega); omega
theorem tx_data (n : Int) : (tx n).data.toList = Lib.itoa n := by show (List.toArray _).toList = _; simp
theorem tx_word (n : Int) : ∀ c ∈ (tx n).data.toList, wordC c = true := by rw [tx_data]; exact itoa_word n
theorem tx_ne (n : Int) : 0 < (tx n).size := by
  have h : (tx n).data.toList.length = (tx n).size := len_data _
  rw [← h, tx_data]
  unfold Lib.itoa
  split
  · simp
  · exact List.length_pos_iff.2 (De.digits_ne _)
theorem tx_isWord (n : Int) : isWord (tx n) = true := isWord_to (tx_ne n) (tx_word n)
theorem dp_tx {v : Int} (hv : w64 v) : dpX (tx v) = v ∧ dpY (tx v) = 0 := dp_good hv (tx_data v)
theorem dpX_in (p : ByteArray) : w64 (dpX p) := by
  unfold dpX
  split
  · rename_i v hv
    split
    · exact Lib.atoiAll_bounds hv
    · exact ⟨by decide, by decide⟩
  · exact ⟨by decide, by decide⟩
def in64 (n : Int) : Bool := decide (-9223372036854775808 ≤ n) && decide (n ≤ 9223372036854775807)
theorem in64_of {n : Int} (h : in64 n = true) : w64 n := by
  unfold in64 at h; simp only [Bool.and_eq_true, decide_eq_true_eq] at h; exact h
theorem in64_to {n : Int} (h : w64 n) : in64 n = true := by
  unfold in64; rw [decide_eq_true h.1, decide_eq_true h.2]; rfl
theorem wf64 {n : Int} (h : (Lit.int .i64 n).wf = true) : w64 n := by
  unfold w64; simp [Lit.wf, IntKind.min, IntKind.max, IntKind.signed, IntKind.bits] at h; omega
def vi? : List Value → Option (List Int)
  | [] => some []
  | .int .i64 n :: l => match vi? l with
    | some r => some (n :: r)
    | none => none
  | _ => none
theorem vi_eq : ∀ {us : List Value} {l : List Int}, vi? us = some l → us = l.map (Value.int .i64)
  | [], l, h => by cases h; rfl
  | .int .i64 n :: us, l, h => by
    have h : (match vi? us with | some r => some (n :: r) | none => none) = some l := h
    split at h
    · rename_i r hr
      cases h
      rw [vi_eq hr]; rfl
    · cases h
def okT (s : ByteArray) : Bool := decide (s.size ≤ 100000)
theorem Tr.ret {P : Program} {ro : Nat → Option (List Value)} {act : List AV} {H : AH} {Q : Exit → List AV → AH → Prop} (h : Q .ret act H) : Tr P ro .ret act H Q := fun G W a hI _ hA => wp_ret ⟨act, H, G, h, .refl _ _, hI, hA, rfl⟩
end Go.Proofs.YtodjeammjdgkoaaDoor.AE
namespace Go.Proofs.YtodjeammjdgkoaaDoor.AE
open Go.RowKit
def kwL : List (List UInt8) := [[99, 97, 109, 101], [116, 119, 105, 99, 101], [115, 116, 97, 114, 116], [101, 110, 100], [99, 97, 108, 108], [115, 107, 105, 112], [104, 101, 97, 114, 100], [108, 101, 97, 114, 110], [99, 108, 111, 115, 101], [112, 117, 115, 104], [114, 101, 115, 116, 97, 114, 116], [101, 114, 97, 115, 101], [97, 115, 107], [97, 110, 115, 119, 101, 114], [108, 111, 115, 116]]
def kwV : List Value := [.string ⟨#[99, 97, 109, 101]⟩, .string ⟨#[116, 119, 105, 99, 101]⟩, .string ⟨#[115, 116, 97, 114, 116]⟩, .string ⟨#[101, 110, 100]⟩, .string ⟨#[99, 97, 108, 108]⟩, .string ⟨#[115, 107, 105, 112]⟩, .string ⟨#[104, 101, 97, 114, 100]⟩, .string ⟨#[108, 101, 97, 114, 110]⟩, .string ⟨#[99, 108, 111, 115, 101]⟩, .string ⟨#[112, 117, 115, 104]⟩, .string ⟨#[114, 101, 115, 116, 97, 114, 116]⟩, .string ⟨#[101, 114, 97, 115, 101]⟩, .string ⟨#[97, 115, 107]⟩, .string ⟨#[97, 110, 115, 119, 101, 114]⟩, .string ⟨#[108, 111, 115, 116]⟩]
abbrev roT (tS : TypeId) (pS : Value) (tR : TypeId) (pR : Value) : Nat → Option (List Value) := roM 0 kwV (ro05 tS pS tR pR)
theorem roT_le (tS : TypeId) (pS : Value) (tR : TypeId) (pR : Value) : ∀ G W, Ro (roT tS pS tR pR) G W → Ro (ro05 tS pS tR pR) G W := fun _ _ => roM_le rfl
def clientB : ByteArray := ⟨#[99, 108, 105, 101, 110, 116]⟩
def whS (n : Int) : ByteArray := if n = -1 then clientB else tx n
def whP (W : Int → ByteArray) : List Value → Option (Value × Bool) := fun us => match us with
  | [.int .i64 n] => some (.string (W n), in64 n)
  | _ => none
theorem k_who (FL FW : ByteArray → List ByteArray) (Pl : ByteArray → Bool) (A B : ByteArray → ByteArray) (K : ByteArray → Bool) (J : AV → ByteArray) (N : ByteArray → AV → Int) (D : ByteArray → AV → Bool) (S : AV → AV → Bool) (T : Int → ByteArray) (P Q : ByteArray → Int) (ro : Nat → Option (List Value)) (n : Int) (Φ : AV → Prop) : callK ro (fun _ => false) (prDW FL FW Pl A B K J N D S T P Q) 8 27 [.v (.int .i64 n)] (hp [] []) (fun r h => some (h.cd ∧ Φ r)) =
    (bif (n == (-(1 : Int))) then (some (True ∧ (Φ (AV.v (Value.string (ByteArray.mk #[(@OfNat.ofNat UInt8 (99 : Nat) (@UInt8.instOfNat 99)), (@OfNat.ofNat UInt8 (108 : Nat) (@UInt8.instOfNat 108)), (@OfNat.ofNat UInt8 (105 : Nat) (@UInt8.instOfNat 105)), (@OfNat.ofNat UInt8 (101 : Nat) (@UInt8.instOfNat 101)), (@OfNat.ofNat UInt8 (110 : Nat) (@UInt8.instOfNat 110)), (@OfNat.ofNat UInt8 (116 : Nat) (@UInt8.instOfNat 116))])))))) else (some ((cdb True (decide (((-(9223372036854775808 : Int)) ≤ n) ∧ (n ≤ (9223372036854775807 : Int))))) ∧ (Φ (AV.v (Value.string (T n))))))) := by kernel_rfl
theorem k_rwho (FL FW : ByteArray → List ByteArray) (Pl : ByteArray → Bool) (A B : ByteArray → ByteArray) (K : ByteArray → Bool) (J : AV → ByteArray) (N : ByteArray → AV → Int) (D : ByteArray → AV → Bool) (S : AV → AV → Bool) (T : Int → ByteArray) (P Q : ByteArray → Int) (ro : Nat → Option (List Value)) (n : Int) (Φ : AV → Prop) : callK ro (fun _ => false) (prDW FL FW Pl A B K J N D S T P Q) 8 30 [.v (.int .i64 n)] (hp [] []) (fun r h => some (h.cd ∧ Φ r)) =
    (bif (n == (-(1 : Int))) then (some (True ∧ (Φ (AV.v (Value.string (ByteArray.mk #[(@OfNat.ofNat UInt8 (99 : Nat) (@UInt8.instOfNat 99)), (@OfNat.ofNat UInt8 (108 : Nat) (@UInt8.instOfNat 108)), (@OfNat.ofNat UInt8 (105 : Nat) (@UInt8.instOfNat 105)), (@OfNat.ofNat UInt8 (101 : Nat) (@UInt8.instOfNat 101)), (@OfNat.ofNat UInt8 (110 : Nat) (@UInt8.instOfNat 110)), (@OfNat.ofNat UInt8 (116 : Nat) (@UInt8.instOfNat 116))])))))) else (some ((cdb True (decide (((-(9223372036854775808 : Int)) ≤ n) ∧ (n ≤ (9223372036854775807 : Int))))) ∧ (Φ (AV.v (Value.string (T n))))))) := by kernel_rfl
end Go.Proofs.YtodjeammjdgkoaaDoor.AE
