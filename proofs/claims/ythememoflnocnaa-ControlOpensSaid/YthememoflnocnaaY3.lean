/-
  Layer 20: awake comes to true.
-/
import Derived.Test.YthememoflnocnaaY2
import Derived.Test.YthememoflnocnaaAEStill
namespace Go.Proofs.Ythememoflnocnaa.AE
set_option maxRecDepth 100000
open Go.RowKit
/-- What the law's calls answer: a new controller, an act (over the act's value). -/
structure KS where
  nC : Int → List AV
  nok : Int → Int → Int → Int → Int → Int → Int → Int → Int → Bool
  ner : Int → Int → Int → Int → Int → Int → Int → Int → Int → Int
  act : St → AV → St
  may : AV → Bool
  isA : AV → Bool
def newK (K : KS) (n m a b c d e f g : Int) : St := ⟨a, b, c, d, e, f, g, n, m, n, 1, [gi 0, gi 0], [gi m, gi m, gi 32, .v (.bool true)], K.nC n, [gi 0, gi 0, gi 0]⟩
def oNewC (K : KS) (y : Bool) : ObjS where
  pick := fun _ _ => some []
  mask := []
  maskB := match y with
    | true => [true, true, true, true, true, false]
    | false => []
  spec := fun args bs => match bs with
    | [] => match args with
      | [.v (.int .i64 n), .v (.int .i64 m), x] => match kn? x with
        | some (a, b, c, d, e, f, g) => match y with
          | true => some (.tuple [.ptr 5 0, gi 0], newB (newK K n m a b c d e f g) a b c d e f g, K.nok n m a b c d e f g)
          | false => some (.v (.tuple #[.pointer none, .int .i64 (K.ner n m a b c d e f g)]), [], !(K.nok n m a b c d e f g))
        | none => none
      | _ => none
    | _ => none
def actF (M : MS) (K : KS) : St → List AV → Option (AV × St × Bool) := fun s args => match args with
  | [x] => some (.v (.bool (K.may x)), K.act s x, K.isA x && M.ok s)
  | _ => none
def acV (a : Nat → Int) : AV := .v (.agg #[.int .i64 (a 0), .int .i64 (a 1), .int .i64 (a 2), .int .i64 (a 3), .int .i64 (a 4), .int .i64 (a 5), .int .i64 (a 6), .int .i64 (a 7), .int .i64 (a 8)])
def acs (l : List (Nat → Int)) : AV := .lst 9 (l.map acV) .no
def ofC (n m a b c d e f g : Int) : List AV := [gi n, gi m, gi a, gi b, gi c, gi d, gi e, gi f, gi g]
end Go.Proofs.Ythememoflnocnaa.AE
namespace Go.Proofs.Ythememoflnocnaa.AE
set_option maxRecDepth 100000
open Go.RowKit
noncomputable def prAw (M : MS) (K : KS) : FuncId → Option (List AV → AH → Ans) := fun g => match g with
  | 6 => some (obj? (oNewC K true))
  | 15 => some (obj? (stO (m1F M (fun s n => .v (.bool (M.sB s n))) M.saw)))
  | 16 => some (obj? (stO (m1F M (fun _ _ => .v (.tuple #[])) M.wtd)))
  | 12 => some (obj? (stO (m0F M (cloV M) M.clo)))
  | 11 => some (peek? (stP (m1P M fun s n => .v (.bool (M.pas s n)))))
  | 18 => some (peek? (stP (m1P M fun s n => .v (.bool (M.prm s n)))))
  | _ => none
def coB1 (s : St) : List AV := [.ptr 4 0, .ptr 3 0, gi s.a, gi s.b, gi s.c, gi s.d, gi s.e, gi s.f, gi s.g, gi s.l, gi s.m, gi s.t, gi s.p, .ptr 2 0, .ptr 5 0]
def awB (s : St) (a b c d e f g : Int) : List (TypeId × List AV) := [(23, [gi a, gi b, gi c, gi d, gi e, gi f, gi g]), (23, [gi a, gi b, gi c, gi d, gi e, gi f, gi g]), (68, s.C), (70, s.D), (75, s.T), (78, s.L), (60, coB1 s)]
def aA (i : AV) : List AV := [.dead, .ptr 6 0, gi 0, i] ++ ded 43
theorem a_pre (M : MS) (K : KS) (R : Exit → List AV → AH → Prop) : codeL nro mu0 (prAw M K) 12 ((flatten (bodyOf 5)).take 3) (und 47) (hp [] []) (kp [1, 2, 3] R) =
    (some ((cdb True (((K).2 (4 : Int) (2 : Int) (1 : Int) (4 : Int) (10 : Int) (5 : Int) (1 : Int) (3 : Int) (2 : Int)) && (true && (true && ((plainC ((K).1 (4 : Int))) && ((plainC [(AV.v (Value.int IntKind.i64 (2 : Int))), (AV.v (Value.int IntKind.i64 (2 : Int))), (AV.v (Value.int IntKind.i64 (32 : Int))), (AV.v (Value.bool true))]) && ((plainC [(AV.v (Value.int IntKind.i64 (0 : Int))), (AV.v (Value.int IntKind.i64 (0 : Int)))]) && ((plainC [(AV.v (Value.int IntKind.i64 (0 : Int))), (AV.v (Value.int IntKind.i64 (0 : Int))), (AV.v (Value.int IntKind.i64 (0 : Int)))]) && true)))))))) ∧ (R Exit.normal [AV.dead, (AV.ptr ((List.length [((23 : Nat), [(AV.v (Value.int IntKind.i64 (1 : Int))), (AV.v (Value.int IntKind.i64 (4 : Int))), (AV.v (Value.int IntKind.i64 (10 : Int))), (AV.v (Value.int IntKind.i64 (5 : Int))), (AV.v (Value.int IntKind.i64 (1 : Int))), (AV.v (Value.int IntKind.i64 (3 : Int))), (AV.v (Value.int IntKind.i64 (2 : Int)))])]) + (5 : Nat)) (0 : Nat)), (AV.v (Value.int IntKind.i64 (0 : Int))), (AV.v (Value.int IntKind.i64 (0 : Int))), AV.dead, AV.dead, AV.dead, AV.dead, AV.dead, AV.dead, AV.dead, AV.dead, AV.dead, AV.dead, AV.dead, AV.dead, AV.dead, AV.dead, AV.dead, AV.dead, AV.dead, AV.dead, AV.dead, AV.dead, AV.dead, AV.dead, AV.dead, AV.dead, AV.dead, AV.dead, AV.dead, AV.dead, AV.dead, AV.dead, AV.dead, AV.dead, AV.dead, AV.dead, AV.dead, AV.dead, AV.dead, AV.dead, AV.dead, AV.dead, AV.dead, AV.dead, AV.dead] (AH.mk [((23 : Nat), [(AV.v (Value.int IntKind.i64 (1 : Int))), (AV.v (Value.int IntKind.i64 (4 : Int))), (AV.v (Value.int IntKind.i64 (10 : Int))), (AV.v (Value.int IntKind.i64 (5 : Int))), (AV.v (Value.int IntKind.i64 (1 : Int))), (AV.v (Value.int IntKind.i64 (3 : Int))), (AV.v (Value.int IntKind.i64 (2 : Int)))]), ((23 : Nat), [(AV.v (Value.int IntKind.i64 (1 : Int))), (AV.v (Value.int IntKind.i64 (4 : Int))), (AV.v (Value.int IntKind.i64 (10 : Int))), (AV.v (Value.int IntKind.i64 (5 : Int))), (AV.v (Value.int IntKind.i64 (1 : Int))), (AV.v (Value.int IntKind.i64 (3 : Int))), (AV.v (Value.int IntKind.i64 (2 : Int)))]), ((68 : Nat), ((K).1 (4 : Int))), ((70 : Nat), [(AV.v (Value.int IntKind.i64 (2 : Int))), (AV.v (Value.int IntKind.i64 (2 : Int))), (AV.v (Value.int IntKind.i64 (32 : Int))), (AV.v (Value.bool true))]), ((75 : Nat), [(AV.v (Value.int IntKind.i64 (0 : Int))), (AV.v (Value.int IntKind.i64 (0 : Int)))]), ((78 : Nat), [(AV.v (Value.int IntKind.i64 (0 : Int))), (AV.v (Value.int IntKind.i64 (0 : Int))), (AV.v (Value.int IntKind.i64 (0 : Int)))]), ((60 : Nat), [(AV.ptr ((List.length [((23 : Nat), [(AV.v (Value.int IntKind.i64 (1 : Int))), (AV.v (Value.int IntKind.i64 (4 : Int))), (AV.v (Value.int IntKind.i64 (10 : Int))), (AV.v (Value.int IntKind.i64 (5 : Int))), (AV.v (Value.int IntKind.i64 (1 : Int))), (AV.v (Value.int IntKind.i64 (3 : Int))), (AV.v (Value.int IntKind.i64 (2 : Int)))])]) + (3 : Nat)) (0 : Nat)), (AV.ptr ((List.length [((23 : Nat), [(AV.v (Value.int IntKind.i64 (1 : Int))), (AV.v (Value.int IntKind.i64 (4 : Int))), (AV.v (Value.int IntKind.i64 (10 : Int))), (AV.v (Value.int IntKind.i64 (5 : Int))), (AV.v (Value.int IntKind.i64 (1 : Int))), (AV.v (Value.int IntKind.i64 (3 : Int))), (AV.v (Value.int IntKind.i64 (2 : Int)))])]) + (2 : Nat)) (0 : Nat)), (AV.v (Value.int IntKind.i64 (1 : Int))), (AV.v (Value.int IntKind.i64 (4 : Int))), (AV.v (Value.int IntKind.i64 (10 : Int))), (AV.v (Value.int IntKind.i64 (5 : Int))), (AV.v (Value.int IntKind.i64 (1 : Int))), (AV.v (Value.int IntKind.i64 (3 : Int))), (AV.v (Value.int IntKind.i64 (2 : Int))), (AV.v (Value.int IntKind.i64 (4 : Int))), (AV.v (Value.int IntKind.i64 (2 : Int))), (AV.v (Value.int IntKind.i64 (4 : Int))), (AV.v (Value.int IntKind.i64 (1 : Int))), (AV.ptr ((List.length [((23 : Nat), [(AV.v (Value.int IntKind.i64 (1 : Int))), (AV.v (Value.int IntKind.i64 (4 : Int))), (AV.v (Value.int IntKind.i64 (10 : Int))), (AV.v (Value.int IntKind.i64 (5 : Int))), (AV.v (Value.int IntKind.i64 (1 : Int))), (AV.v (Value.int IntKind.i64 (3 : Int))), (AV.v (Value.int IntKind.i64 (2 : Int)))])]) + (1 : Nat)) (0 : Nat)), (AV.ptr ((List.length [((23 : Nat), [(AV.v (Value.int IntKind.i64 (1 : Int))), (AV.v (Value.int IntKind.i64 (4 : Int))), (AV.v (Value.int IntKind.i64 (10 : Int))), (AV.v (Value.int IntKind.i64 (5 : Int))), (AV.v (Value.int IntKind.i64 (1 : Int))), (AV.v (Value.int IntKind.i64 (3 : Int))), (AV.v (Value.int IntKind.i64 (2 : Int)))])]) + (4 : Nat)) (0 : Nat))])] (@List.nil Nat) (0 : Nat) (0 : Nat) true (@List.nil (Prod Nat Bool)) True)))) := by kernel_rfl
theorem a_in (M : MS) (K : KS) (i : Int) (ka kb kc kd ke kf kg : Int) (sa sb sc sd se sf sg sl sm st sp : Int) (T D C L : List AV) (R : Exit → List AV → AH → Prop) : code nro mu0 (prAw M K) 12 (sub (bodyOf 5) [1, 1, 0, 1, 0, 0]) (aA (gi i)) (hp (awB ⟨sa, sb, sc, sd, se, sf, sg, sl, sm, st, sp, T, D, C, L⟩ ka kb kc kd ke kf kg) []) (kp [1, 2, 3] R) =
    (bif (decide (i < (4 : Int))) then (some ((cdb True ((((Nat.beq (60 : Nat) (60 : Nat)) && (true && (true && (true && (true && (true && (true && (true && (true && (true && (true && (true && (true && (true && (true && (true && (true && (true && true)))))))))))))))))) && ((M).1 (St.mk sa sb sc sd se sf sg sl sm st sp T D C L))) && (((plainC T) && ((plainC D) && ((plainC C) && ((plainC L) && true)))) && ((plainC (((M).3 (St.mk sa sb sc sd se sf sg sl sm st sp T D C L) i)).12) && ((plainC (((M).3 (St.mk sa sb sc sd se sf sg sl sm st sp T D C L) i)).13) && ((plainC (((M).3 (St.mk sa sb sc sd se sf sg sl sm st sp T D C L) i)).14) && ((plainC (((M).3 (St.mk sa sb sc sd se sf sg sl sm st sp T D C L) i)).15) && true))))))) ∧ (R Exit.normal [AV.dead, (AV.ptr (6 : Nat) (0 : Nat)), (AV.v (Value.int IntKind.i64 (0 : Int))), (AV.v (Value.int IntKind.i64 (IntKind.wrap IntKind.i64 (i + (1 : Int))))), AV.dead, AV.dead, AV.dead, AV.dead, AV.dead, AV.dead, AV.dead, AV.dead, AV.dead, AV.dead, AV.dead, AV.dead, AV.dead, AV.dead, AV.dead, AV.dead, AV.dead, AV.dead, AV.dead, AV.dead, AV.dead, AV.dead, AV.dead, AV.dead, AV.dead, AV.dead, AV.dead, AV.dead, AV.dead, AV.dead, AV.dead, AV.dead, AV.dead, AV.dead, AV.dead, AV.dead, AV.dead, AV.dead, AV.dead, AV.dead, AV.dead, AV.dead, AV.dead] (AH.mk [((23 : Nat), [(AV.v (Value.int IntKind.i64 ka)), (AV.v (Value.int IntKind.i64 kb)), (AV.v (Value.int IntKind.i64 kc)), (AV.v (Value.int IntKind.i64 kd)), (AV.v (Value.int IntKind.i64 ke)), (AV.v (Value.int IntKind.i64 kf)), (AV.v (Value.int IntKind.i64 kg))]), ((23 : Nat), [(AV.v (Value.int IntKind.i64 ka)), (AV.v (Value.int IntKind.i64 kb)), (AV.v (Value.int IntKind.i64 kc)), (AV.v (Value.int IntKind.i64 kd)), (AV.v (Value.int IntKind.i64 ke)), (AV.v (Value.int IntKind.i64 kf)), (AV.v (Value.int IntKind.i64 kg))]), ((68 : Nat), (((M).3 (St.mk sa sb sc sd se sf sg sl sm st sp T D C L) i)).14), ((70 : Nat), (((M).3 (St.mk sa sb sc sd se sf sg sl sm st sp T D C L) i)).13), ((75 : Nat), (((M).3 (St.mk sa sb sc sd se sf sg sl sm st sp T D C L) i)).12), ((78 : Nat), (((M).3 (St.mk sa sb sc sd se sf sg sl sm st sp T D C L) i)).15), ((60 : Nat), [(AV.ptr (4 : Nat) (0 : Nat)), (AV.ptr (3 : Nat) (0 : Nat)), (AV.v (Value.int IntKind.i64 (((M).3 (St.mk sa sb sc sd se sf sg sl sm st sp T D C L) i)).1)), (AV.v (Value.int IntKind.i64 (((M).3 (St.mk sa sb sc sd se sf sg sl sm st sp T D C L) i)).2)), (AV.v (Value.int IntKind.i64 (((M).3 (St.mk sa sb sc sd se sf sg sl sm st sp T D C L) i)).3)), (AV.v (Value.int IntKind.i64 (((M).3 (St.mk sa sb sc sd se sf sg sl sm st sp T D C L) i)).4)), (AV.v (Value.int IntKind.i64 (((M).3 (St.mk sa sb sc sd se sf sg sl sm st sp T D C L) i)).5)), (AV.v (Value.int IntKind.i64 (((M).3 (St.mk sa sb sc sd se sf sg sl sm st sp T D C L) i)).6)), (AV.v (Value.int IntKind.i64 (((M).3 (St.mk sa sb sc sd se sf sg sl sm st sp T D C L) i)).7)), (AV.v (Value.int IntKind.i64 (((M).3 (St.mk sa sb sc sd se sf sg sl sm st sp T D C L) i)).8)), (AV.v (Value.int IntKind.i64 (((M).3 (St.mk sa sb sc sd se sf sg sl sm st sp T D C L) i)).9)), (AV.v (Value.int IntKind.i64 (((M).3 (St.mk sa sb sc sd se sf sg sl sm st sp T D C L) i)).10)), (AV.v (Value.int IntKind.i64 (((M).3 (St.mk sa sb sc sd se sf sg sl sm st sp T D C L) i)).11)), (AV.ptr (2 : Nat) (0 : Nat)), (AV.ptr (5 : Nat) (0 : Nat))])] (@List.nil Nat) (0 : Nat) (0 : Nat) true (@List.nil (Prod Nat Bool)) True)))) else (some (True ∧ (R (Exit.exit (0 : Nat)) [AV.dead, (AV.ptr (6 : Nat) (0 : Nat)), (AV.v (Value.int IntKind.i64 (0 : Int))), (AV.v (Value.int IntKind.i64 i)), AV.dead, AV.dead, AV.dead, AV.dead, AV.dead, AV.dead, AV.dead, AV.dead, AV.dead, AV.dead, AV.dead, AV.dead, AV.dead, AV.dead, AV.dead, AV.dead, AV.dead, AV.dead, AV.dead, AV.dead, AV.dead, AV.dead, AV.dead, AV.dead, AV.dead, AV.dead, AV.dead, AV.dead, AV.dead, AV.dead, AV.dead, AV.dead, AV.dead, AV.dead, AV.dead, AV.dead, AV.dead, AV.dead, AV.dead, AV.dead, AV.dead, AV.dead, AV.dead] (AH.mk [((23 : Nat), [(AV.v (Value.int IntKind.i64 ka)), (AV.v (Value.int IntKind.i64 kb)), (AV.v (Value.int IntKind.i64 kc)), (AV.v (Value.int IntKind.i64 kd)), (AV.v (Value.int IntKind.i64 ke)), (AV.v (Value.int IntKind.i64 kf)), (AV.v (Value.int IntKind.i64 kg))]), ((23 : Nat), [(AV.v (Value.int IntKind.i64 ka)), (AV.v (Value.int IntKind.i64 kb)), (AV.v (Value.int IntKind.i64 kc)), (AV.v (Value.int IntKind.i64 kd)), (AV.v (Value.int IntKind.i64 ke)), (AV.v (Value.int IntKind.i64 kf)), (AV.v (Value.int IntKind.i64 kg))]), ((68 : Nat), C), ((70 : Nat), D), ((75 : Nat), T), ((78 : Nat), L), ((60 : Nat), [(AV.ptr (4 : Nat) (0 : Nat)), (AV.ptr (3 : Nat) (0 : Nat)), (AV.v (Value.int IntKind.i64 sa)), (AV.v (Value.int IntKind.i64 sb)), (AV.v (Value.int IntKind.i64 sc)), (AV.v (Value.int IntKind.i64 sd)), (AV.v (Value.int IntKind.i64 se)), (AV.v (Value.int IntKind.i64 sf)), (AV.v (Value.int IntKind.i64 sg)), (AV.v (Value.int IntKind.i64 sl)), (AV.v (Value.int IntKind.i64 sm)), (AV.v (Value.int IntKind.i64 st)), (AV.v (Value.int IntKind.i64 sp)), (AV.ptr (2 : Nat) (0 : Nat)), (AV.ptr (5 : Nat) (0 : Nat))])] (@List.nil Nat) (0 : Nat) (0 : Nat) true (@List.nil (Prod Nat Bool)) True))))) := by kernel_rfl
theorem a_wt (M : MS) (K : KS) (i : Int) (ka kb kc kd ke kf kg : Int) (sa sb sc sd se sf sg sl sm st sp : Int) (T D C L : List AV) (R : Exit → List AV → AH → Prop) : codeL nro mu0 (prAw M K) 12 (((flatten (bodyOf 5)).drop 4).take 1) (aA (gi i)) (hp (awB ⟨sa, sb, sc, sd, se, sf, sg, sl, sm, st, sp, T, D, C, L⟩ ka kb kc kd ke kf kg) []) (kp [1, 2] R) =
    (some ((cdb True ((((Nat.beq (60 : Nat) (60 : Nat)) && (true && (true && (true && (true && (true && (true && (true && (true && (true && (true && (true && (true && (true && (true && (true && (true && (true && true)))))))))))))))))) && ((M).1 (St.mk sa sb sc sd se sf sg sl sm st sp T D C L))) && (((plainC T) && ((plainC D) && ((plainC C) && ((plainC L) && true)))) && ((plainC (((M).4 (St.mk sa sb sc sd se sf sg sl sm st sp T D C L) (9 : Int))).12) && ((plainC (((M).4 (St.mk sa sb sc sd se sf sg sl sm st sp T D C L) (9 : Int))).13) && ((plainC (((M).4 (St.mk sa sb sc sd se sf sg sl sm st sp T D C L) (9 : Int))).14) && ((plainC (((M).4 (St.mk sa sb sc sd se sf sg sl sm st sp T D C L) (9 : Int))).15) && true))))))) ∧ (R Exit.normal [AV.dead, (AV.ptr (6 : Nat) (0 : Nat)), (AV.v (Value.int IntKind.i64 (0 : Int))), AV.dead, AV.dead, AV.dead, AV.dead, AV.dead, AV.dead, AV.dead, AV.dead, AV.dead, AV.dead, AV.dead, AV.dead, AV.dead, AV.dead, AV.dead, AV.dead, AV.dead, AV.dead, AV.dead, AV.dead, AV.dead, AV.dead, AV.dead, AV.dead, AV.dead, AV.dead, AV.dead, AV.dead, AV.dead, AV.dead, AV.dead, AV.dead, AV.dead, AV.dead, AV.dead, AV.dead, AV.dead, AV.dead, AV.dead, AV.dead, AV.dead, AV.dead, AV.dead, AV.dead] (AH.mk [((23 : Nat), [(AV.v (Value.int IntKind.i64 ka)), (AV.v (Value.int IntKind.i64 kb)), (AV.v (Value.int IntKind.i64 kc)), (AV.v (Value.int IntKind.i64 kd)), (AV.v (Value.int IntKind.i64 ke)), (AV.v (Value.int IntKind.i64 kf)), (AV.v (Value.int IntKind.i64 kg))]), ((23 : Nat), [(AV.v (Value.int IntKind.i64 ka)), (AV.v (Value.int IntKind.i64 kb)), (AV.v (Value.int IntKind.i64 kc)), (AV.v (Value.int IntKind.i64 kd)), (AV.v (Value.int IntKind.i64 ke)), (AV.v (Value.int IntKind.i64 kf)), (AV.v (Value.int IntKind.i64 kg))]), ((68 : Nat), (((M).4 (St.mk sa sb sc sd se sf sg sl sm st sp T D C L) (9 : Int))).14), ((70 : Nat), (((M).4 (St.mk sa sb sc sd se sf sg sl sm st sp T D C L) (9 : Int))).13), ((75 : Nat), (((M).4 (St.mk sa sb sc sd se sf sg sl sm st sp T D C L) (9 : Int))).12), ((78 : Nat), (((M).4 (St.mk sa sb sc sd se sf sg sl sm st sp T D C L) (9 : Int))).15), ((60 : Nat), [(AV.ptr (4 : Nat) (0 : Nat)), (AV.ptr (3 : Nat) (0 : Nat)), (AV.v (Value.int IntKind.i64 (((M).4 (St.mk sa sb sc sd se sf sg sl sm st sp T D C L) (9 : Int))).1)), (AV.v (Value.int IntKind.i64 (((M).4 (St.mk sa sb sc sd se sf sg sl sm st sp T D C L) (9 : Int))).2)), (AV.v (Value.int IntKind.i64 (((M).4 (St.mk sa sb sc sd se sf sg sl sm st sp T D C L) (9 : Int))).3)), (AV.v (Value.int IntKind.i64 (((M).4 (St.mk sa sb sc sd se sf sg sl sm st sp T D C L) (9 : Int))).4)), (AV.v (Value.int IntKind.i64 (((M).4 (St.mk sa sb sc sd se sf sg sl sm st sp T D C L) (9 : Int))).5)), (AV.v (Value.int IntKind.i64 (((M).4 (St.mk sa sb sc sd se sf sg sl sm st sp T D C L) (9 : Int))).6)), (AV.v (Value.int IntKind.i64 (((M).4 (St.mk sa sb sc sd se sf sg sl sm st sp T D C L) (9 : Int))).7)), (AV.v (Value.int IntKind.i64 (((M).4 (St.mk sa sb sc sd se sf sg sl sm st sp T D C L) (9 : Int))).8)), (AV.v (Value.int IntKind.i64 (((M).4 (St.mk sa sb sc sd se sf sg sl sm st sp T D C L) (9 : Int))).9)), (AV.v (Value.int IntKind.i64 (((M).4 (St.mk sa sb sc sd se sf sg sl sm st sp T D C L) (9 : Int))).10)), (AV.v (Value.int IntKind.i64 (((M).4 (St.mk sa sb sc sd se sf sg sl sm st sp T D C L) (9 : Int))).11)), (AV.ptr (2 : Nat) (0 : Nat)), (AV.ptr (5 : Nat) (0 : Nat))])] (@List.nil Nat) (0 : Nat) (0 : Nat) true (@List.nil (Prod Nat Bool)) True)))) := by kernel_rfl
theorem a_cl (M : MS) (K : KS) (ka kb kc kd ke kf kg : Int) (sa sb sc sd se sf sg sl sm st sp : Int) (T D C L : List AV) (R : Exit → List AV → AH → Prop) : codeL nro mu0 (prAw M K) 12 (((flatten (bodyOf 5)).drop 5).take 1) (aA .dead) (hp (awB ⟨sa, sb, sc, sd, se, sf, sg, sl, sm, st, sp, T, D, C, L⟩ ka kb kc kd ke kf kg) []) (kp [1, 2, 4] R) =
    (some ((cdb True ((((Nat.beq (60 : Nat) (60 : Nat)) && (true && (true && (true && (true && (true && (true && (true && (true && (true && (true && (true && (true && (true && (true && (true && (true && (true && true)))))))))))))))))) && ((M).1 (St.mk sa sb sc sd se sf sg sl sm st sp T D C L))) && (((plainC T) && ((plainC D) && ((plainC C) && ((plainC L) && true)))) && ((plainC (((M).5 (St.mk sa sb sc sd se sf sg sl sm st sp T D C L))).12) && ((plainC (((M).5 (St.mk sa sb sc sd se sf sg sl sm st sp T D C L))).13) && ((plainC (((M).5 (St.mk sa sb sc sd se sf sg sl sm st sp T D C L))).14) && ((plainC (((M).5 (St.mk sa sb sc sd se sf sg sl sm st sp T D C L))).15) && true))))))) ∧ (R Exit.normal [AV.dead, (AV.ptr (6 : Nat) (0 : Nat)), (AV.v (Value.int IntKind.i64 (0 : Int))), AV.dead, (AV.ptr (List.length [((23 : Nat), [(AV.v (Value.int IntKind.i64 ka)), (AV.v (Value.int IntKind.i64 kb)), (AV.v (Value.int IntKind.i64 kc)), (AV.v (Value.int IntKind.i64 kd)), (AV.v (Value.int IntKind.i64 ke)), (AV.v (Value.int IntKind.i64 kf)), (AV.v (Value.int IntKind.i64 kg))]), ((23 : Nat), [(AV.v (Value.int IntKind.i64 ka)), (AV.v (Value.int IntKind.i64 kb)), (AV.v (Value.int IntKind.i64 kc)), (AV.v (Value.int IntKind.i64 kd)), (AV.v (Value.int IntKind.i64 ke)), (AV.v (Value.int IntKind.i64 kf)), (AV.v (Value.int IntKind.i64 kg))]), ((68 : Nat), (((M).5 (St.mk sa sb sc sd se sf sg sl sm st sp T D C L))).14), ((70 : Nat), (((M).5 (St.mk sa sb sc sd se sf sg sl sm st sp T D C L))).13), ((75 : Nat), (((M).5 (St.mk sa sb sc sd se sf sg sl sm st sp T D C L))).12), ((78 : Nat), (((M).5 (St.mk sa sb sc sd se sf sg sl sm st sp T D C L))).15), ((60 : Nat), [(AV.ptr (4 : Nat) (0 : Nat)), (AV.ptr (3 : Nat) (0 : Nat)), (AV.v (Value.int IntKind.i64 (((M).5 (St.mk sa sb sc sd se sf sg sl sm st sp T D C L))).1)), (AV.v (Value.int IntKind.i64 (((M).5 (St.mk sa sb sc sd se sf sg sl sm st sp T D C L))).2)), (AV.v (Value.int IntKind.i64 (((M).5 (St.mk sa sb sc sd se sf sg sl sm st sp T D C L))).3)), (AV.v (Value.int IntKind.i64 (((M).5 (St.mk sa sb sc sd se sf sg sl sm st sp T D C L))).4)), (AV.v (Value.int IntKind.i64 (((M).5 (St.mk sa sb sc sd se sf sg sl sm st sp T D C L))).5)), (AV.v (Value.int IntKind.i64 (((M).5 (St.mk sa sb sc sd se sf sg sl sm st sp T D C L))).6)), (AV.v (Value.int IntKind.i64 (((M).5 (St.mk sa sb sc sd se sf sg sl sm st sp T D C L))).7)), (AV.v (Value.int IntKind.i64 (((M).5 (St.mk sa sb sc sd se sf sg sl sm st sp T D C L))).8)), (AV.v (Value.int IntKind.i64 (((M).5 (St.mk sa sb sc sd se sf sg sl sm st sp T D C L))).9)), (AV.v (Value.int IntKind.i64 (((M).5 (St.mk sa sb sc sd se sf sg sl sm st sp T D C L))).10)), (AV.v (Value.int IntKind.i64 (((M).5 (St.mk sa sb sc sd se sf sg sl sm st sp T D C L))).11)), (AV.ptr (2 : Nat) (0 : Nat)), (AV.ptr (5 : Nat) (0 : Nat))])]) (0 : Nat)), AV.dead, AV.dead, AV.dead, AV.dead, AV.dead, AV.dead, AV.dead, AV.dead, AV.dead, AV.dead, AV.dead, AV.dead, AV.dead, AV.dead, AV.dead, AV.dead, AV.dead, AV.dead, AV.dead, AV.dead, AV.dead, AV.dead, AV.dead, AV.dead, AV.dead, AV.dead, AV.dead, AV.dead, AV.dead, AV.dead, AV.dead, AV.dead, AV.dead, AV.dead, AV.dead, AV.dead, AV.dead, AV.dead, AV.dead, AV.dead, AV.dead, AV.dead] (AH.mk [((23 : Nat), [(AV.v (Value.int IntKind.i64 ka)), (AV.v (Value.int IntKind.i64 kb)), (AV.v (Value.int IntKind.i64 kc)), (AV.v (Value.int IntKind.i64 kd)), (AV.v (Value.int IntKind.i64 ke)), (AV.v (Value.int IntKind.i64 kf)), (AV.v (Value.int IntKind.i64 kg))]), ((23 : Nat), [(AV.v (Value.int IntKind.i64 ka)), (AV.v (Value.int IntKind.i64 kb)), (AV.v (Value.int IntKind.i64 kc)), (AV.v (Value.int IntKind.i64 kd)), (AV.v (Value.int IntKind.i64 ke)), (AV.v (Value.int IntKind.i64 kf)), (AV.v (Value.int IntKind.i64 kg))]), ((68 : Nat), (((M).5 (St.mk sa sb sc sd se sf sg sl sm st sp T D C L))).14), ((70 : Nat), (((M).5 (St.mk sa sb sc sd se sf sg sl sm st sp T D C L))).13), ((75 : Nat), (((M).5 (St.mk sa sb sc sd se sf sg sl sm st sp T D C L))).12), ((78 : Nat), (((M).5 (St.mk sa sb sc sd se sf sg sl sm st sp T D C L))).15), ((60 : Nat), [(AV.ptr (4 : Nat) (0 : Nat)), (AV.ptr (3 : Nat) (0 : Nat)), (AV.v (Value.int IntKind.i64 (((M).5 (St.mk sa sb sc sd se sf sg sl sm st sp T D C L))).1)), (AV.v (Value.int IntKind.i64 (((M).5 (St.mk sa sb sc sd se sf sg sl sm st sp T D C L))).2)), (AV.v (Value.int IntKind.i64 (((M).5 (St.mk sa sb sc sd se sf sg sl sm st sp T D C L))).3)), (AV.v (Value.int IntKind.i64 (((M).5 (St.mk sa sb sc sd se sf sg sl sm st sp T D C L))).4)), (AV.v (Value.int IntKind.i64 (((M).5 (St.mk sa sb sc sd se sf sg sl sm st sp T D C L))).5)), (AV.v (Value.int IntKind.i64 (((M).5 (St.mk sa sb sc sd se sf sg sl sm st sp T D C L))).6)), (AV.v (Value.int IntKind.i64 (((M).5 (St.mk sa sb sc sd se sf sg sl sm st sp T D C L))).7)), (AV.v (Value.int IntKind.i64 (((M).5 (St.mk sa sb sc sd se sf sg sl sm st sp T D C L))).8)), (AV.v (Value.int IntKind.i64 (((M).5 (St.mk sa sb sc sd se sf sg sl sm st sp T D C L))).9)), (AV.v (Value.int IntKind.i64 (((M).5 (St.mk sa sb sc sd se sf sg sl sm st sp T D C L))).10)), (AV.v (Value.int IntKind.i64 (((M).5 (St.mk sa sb sc sd se sf sg sl sm st sp T D C L))).11)), (AV.ptr (2 : Nat) (0 : Nat)), (AV.ptr (5 : Nat) (0 : Nat))]), ((41 : Nat), [(AV.v (Value.int IntKind.i64 ((M).6 (St.mk sa sb sc sd se sf sg sl sm st sp T D C L)))), (AV.v (Value.int IntKind.i64 ((M).7 (St.mk sa sb sc sd se sf sg sl sm st sp T D C L)))), (AV.v (Value.int IntKind.i64 ((M).8 (St.mk sa sb sc sd se sf sg sl sm st sp T D C L)))), (AV.v (Value.int IntKind.i64 ((M).9 (St.mk sa sb sc sd se sf sg sl sm st sp T D C L)))), (AV.v (Value.bool ((M).10 (St.mk sa sb sc sd se sf sg sl sm st sp T D C L)))), (AV.v (Value.bool ((M).11 (St.mk sa sb sc sd se sf sg sl sm st sp T D C L))))])] (@List.nil Nat) (0 : Nat) (0 : Nat) true (@List.nil (Prod Nat Bool)) True)))) := by kernel_rfl
def aC (cv ct ck cp : Int) (cm cd : Bool) : List AV := [gi cv, gi ct, gi ck, gi cp, .v (.bool cm), .v (.bool cd)]
theorem a_fin (M : MS) (K : KS) (ka kb kc kd ke kf kg : Int) (sa sb sc sd se sf sg sl sm st sp : Int) (T D C L : List AV) (R : Exit → List AV → AH → Prop) : codeL nro mu0 (prAw M K) 12 ((flatten (bodyOf 5)).drop 6) ([.dead, .ptr 6 0, gi 0, .dead, .ptr 7 0] ++ ded 42) (hp (awB ⟨sa, sb, sc, sd, se, sf, sg, sl, sm, st, sp, T, D, C, L⟩ ka kb kc kd ke kf kg ++ [(41, aC 1 3 1 2 true true)]) []) (kp [0] R) =
    (bif ((M).16 (St.mk sa sb sc sd se sf sg sl sm st sp T D C L) (2 : Int)) then (bif (!((M).16 (St.mk sa sb sc sd se sf sg sl sm st sp T D C L) (3 : Int))) then (bif ((M).17 (St.mk sa sb sc sd se sf sg sl sm st sp T D C L) (1 : Int)) then (some ((cdb (cdb (cdb (cdb True ((((Nat.beq (60 : Nat) (60 : Nat)) && (true && (true && (true && (true && (true && (true && (true && (true && (true && (true && (true && (true && (true && (true && (true && (true && (true && true)))))))))))))))))) && ((M).1 (St.mk sa sb sc sd se sf sg sl sm st sp T D C L))) && ((plainC T) && ((plainC D) && ((plainC C) && ((plainC L) && true)))))) ((((Nat.beq (60 : Nat) (60 : Nat)) && (true && (true && (true && (true && (true && (true && (true && (true && (true && (true && (true && (true && (true && (true && (true && (true && (true && true)))))))))))))))))) && ((M).1 (St.mk sa sb sc sd se sf sg sl sm st sp T D C L))) && ((plainC T) && ((plainC D) && ((plainC C) && ((plainC L) && true)))))) ((((Nat.beq (60 : Nat) (60 : Nat)) && (true && (true && (true && (true && (true && (true && (true && (true && (true && (true && (true && (true && (true && (true && (true && (true && (true && true)))))))))))))))))) && ((M).1 (St.mk sa sb sc sd se sf sg sl sm st sp T D C L))) && ((plainC T) && ((plainC D) && ((plainC C) && ((plainC L) && true)))))) ((((Nat.beq (60 : Nat) (60 : Nat)) && (true && (true && (true && (true && (true && (true && (true && (true && (true && (true && (true && (true && (true && (true && (true && (true && (true && true)))))))))))))))))) && ((M).1 (St.mk sa sb sc sd se sf sg sl sm st sp T D C L))) && ((plainC T) && ((plainC D) && ((plainC C) && ((plainC L) && true)))))) ∧ (R Exit.ret [(AV.v (Value.bool (!((M).17 (St.mk sa sb sc sd se sf sg sl sm st sp T D C L) (2 : Int))))), AV.dead, AV.dead, AV.dead, AV.dead, AV.dead, AV.dead, AV.dead, AV.dead, AV.dead, AV.dead, AV.dead, AV.dead, AV.dead, AV.dead, AV.dead, AV.dead, AV.dead, AV.dead, AV.dead, AV.dead, AV.dead, AV.dead, AV.dead, AV.dead, AV.dead, AV.dead, AV.dead, AV.dead, AV.dead, AV.dead, AV.dead, AV.dead, AV.dead, AV.dead, AV.dead, AV.dead, AV.dead, AV.dead, AV.dead, AV.dead, AV.dead, AV.dead, AV.dead, AV.dead, AV.dead, AV.dead] (AH.mk [((23 : Nat), [(AV.v (Value.int IntKind.i64 ka)), (AV.v (Value.int IntKind.i64 kb)), (AV.v (Value.int IntKind.i64 kc)), (AV.v (Value.int IntKind.i64 kd)), (AV.v (Value.int IntKind.i64 ke)), (AV.v (Value.int IntKind.i64 kf)), (AV.v (Value.int IntKind.i64 kg))]), ((23 : Nat), [(AV.v (Value.int IntKind.i64 ka)), (AV.v (Value.int IntKind.i64 kb)), (AV.v (Value.int IntKind.i64 kc)), (AV.v (Value.int IntKind.i64 kd)), (AV.v (Value.int IntKind.i64 ke)), (AV.v (Value.int IntKind.i64 kf)), (AV.v (Value.int IntKind.i64 kg))]), ((68 : Nat), C), ((70 : Nat), D), ((75 : Nat), T), ((78 : Nat), L), ((60 : Nat), [(AV.ptr (4 : Nat) (0 : Nat)), (AV.ptr (3 : Nat) (0 : Nat)), (AV.v (Value.int IntKind.i64 sa)), (AV.v (Value.int IntKind.i64 sb)), (AV.v (Value.int IntKind.i64 sc)), (AV.v (Value.int IntKind.i64 sd)), (AV.v (Value.int IntKind.i64 se)), (AV.v (Value.int IntKind.i64 sf)), (AV.v (Value.int IntKind.i64 sg)), (AV.v (Value.int IntKind.i64 sl)), (AV.v (Value.int IntKind.i64 sm)), (AV.v (Value.int IntKind.i64 st)), (AV.v (Value.int IntKind.i64 sp)), (AV.ptr (2 : Nat) (0 : Nat)), (AV.ptr (5 : Nat) (0 : Nat))]), ((41 : Nat), [(AV.v (Value.int IntKind.i64 (1 : Int))), (AV.v (Value.int IntKind.i64 (3 : Int))), (AV.v (Value.int IntKind.i64 (1 : Int))), (AV.v (Value.int IntKind.i64 (2 : Int))), (AV.v (Value.bool true)), (AV.v (Value.bool true))])] (@List.nil Nat) (0 : Nat) (0 : Nat) true (@List.nil (Prod Nat Bool)) True)))) else (some ((cdb (cdb (cdb True ((((Nat.beq (60 : Nat) (60 : Nat)) && (true && (true && (true && (true && (true && (true && (true && (true && (true && (true && (true && (true && (true && (true && (true && (true && (true && true)))))))))))))))))) && ((M).1 (St.mk sa sb sc sd se sf sg sl sm st sp T D C L))) && ((plainC T) && ((plainC D) && ((plainC C) && ((plainC L) && true)))))) ((((Nat.beq (60 : Nat) (60 : Nat)) && (true && (true && (true && (true && (true && (true && (true && (true && (true && (true && (true && (true && (true && (true && (true && (true && (true && true)))))))))))))))))) && ((M).1 (St.mk sa sb sc sd se sf sg sl sm st sp T D C L))) && ((plainC T) && ((plainC D) && ((plainC C) && ((plainC L) && true)))))) ((((Nat.beq (60 : Nat) (60 : Nat)) && (true && (true && (true && (true && (true && (true && (true && (true && (true && (true && (true && (true && (true && (true && (true && (true && (true && true)))))))))))))))))) && ((M).1 (St.mk sa sb sc sd se sf sg sl sm st sp T D C L))) && ((plainC T) && ((plainC D) && ((plainC C) && ((plainC L) && true)))))) ∧ (R Exit.ret [(AV.v (Value.bool false)), AV.dead, AV.dead, AV.dead, AV.dead, AV.dead, AV.dead, AV.dead, AV.dead, AV.dead, AV.dead, AV.dead, AV.dead, AV.dead, AV.dead, AV.dead, AV.dead, AV.dead, AV.dead, AV.dead, AV.dead, AV.dead, AV.dead, AV.dead, AV.dead, AV.dead, AV.dead, AV.dead, AV.dead, AV.dead, AV.dead, AV.dead, AV.dead, AV.dead, AV.dead, AV.dead, AV.dead, AV.dead, AV.dead, AV.dead, AV.dead, AV.dead, AV.dead, AV.dead, AV.dead, AV.dead, AV.dead] (AH.mk [((23 : Nat), [(AV.v (Value.int IntKind.i64 ka)), (AV.v (Value.int IntKind.i64 kb)), (AV.v (Value.int IntKind.i64 kc)), (AV.v (Value.int IntKind.i64 kd)), (AV.v (Value.int IntKind.i64 ke)), (AV.v (Value.int IntKind.i64 kf)), (AV.v (Value.int IntKind.i64 kg))]), ((23 : Nat), [(AV.v (Value.int IntKind.i64 ka)), (AV.v (Value.int IntKind.i64 kb)), (AV.v (Value.int IntKind.i64 kc)), (AV.v (Value.int IntKind.i64 kd)), (AV.v (Value.int IntKind.i64 ke)), (AV.v (Value.int IntKind.i64 kf)), (AV.v (Value.int IntKind.i64 kg))]), ((68 : Nat), C), ((70 : Nat), D), ((75 : Nat), T), ((78 : Nat), L), ((60 : Nat), [(AV.ptr (4 : Nat) (0 : Nat)), (AV.ptr (3 : Nat) (0 : Nat)), (AV.v (Value.int IntKind.i64 sa)), (AV.v (Value.int IntKind.i64 sb)), (AV.v (Value.int IntKind.i64 sc)), (AV.v (Value.int IntKind.i64 sd)), (AV.v (Value.int IntKind.i64 se)), (AV.v (Value.int IntKind.i64 sf)), (AV.v (Value.int IntKind.i64 sg)), (AV.v (Value.int IntKind.i64 sl)), (AV.v (Value.int IntKind.i64 sm)), (AV.v (Value.int IntKind.i64 st)), (AV.v (Value.int IntKind.i64 sp)), (AV.ptr (2 : Nat) (0 : Nat)), (AV.ptr (5 : Nat) (0 : Nat))]), ((41 : Nat), [(AV.v (Value.int IntKind.i64 (1 : Int))), (AV.v (Value.int IntKind.i64 (3 : Int))), (AV.v (Value.int IntKind.i64 (1 : Int))), (AV.v (Value.int IntKind.i64 (2 : Int))), (AV.v (Value.bool true)), (AV.v (Value.bool true))])] (@List.nil Nat) (0 : Nat) (0 : Nat) true (@List.nil (Prod Nat Bool)) True))))) else (some ((cdb (cdb True ((((Nat.beq (60 : Nat) (60 : Nat)) && (true && (true && (true && (true && (true && (true && (true && (true && (true && (true && (true && (true && (true && (true && (true && (true && (true && true)))))))))))))))))) && ((M).1 (St.mk sa sb sc sd se sf sg sl sm st sp T D C L))) && ((plainC T) && ((plainC D) && ((plainC C) && ((plainC L) && true)))))) ((((Nat.beq (60 : Nat) (60 : Nat)) && (true && (true && (true && (true && (true && (true && (true && (true && (true && (true && (true && (true && (true && (true && (true && (true && (true && true)))))))))))))))))) && ((M).1 (St.mk sa sb sc sd se sf sg sl sm st sp T D C L))) && ((plainC T) && ((plainC D) && ((plainC C) && ((plainC L) && true)))))) ∧ (R Exit.ret [(AV.v (Value.bool false)), AV.dead, AV.dead, AV.dead, AV.dead, AV.dead, AV.dead, AV.dead, AV.dead, AV.dead, AV.dead, AV.dead, AV.dead, AV.dead, AV.dead, AV.dead, AV.dead, AV.dead, AV.dead, AV.dead, AV.dead, AV.dead, AV.dead, AV.dead, AV.dead, AV.dead, AV.dead, AV.dead, AV.dead, AV.dead, AV.dead, AV.dead, AV.dead, AV.dead, AV.dead, AV.dead, AV.dead, AV.dead, AV.dead, AV.dead, AV.dead, AV.dead, AV.dead, AV.dead, AV.dead, AV.dead, AV.dead] (AH.mk [((23 : Nat), [(AV.v (Value.int IntKind.i64 ka)), (AV.v (Value.int IntKind.i64 kb)), (AV.v (Value.int IntKind.i64 kc)), (AV.v (Value.int IntKind.i64 kd)), (AV.v (Value.int IntKind.i64 ke)), (AV.v (Value.int IntKind.i64 kf)), (AV.v (Value.int IntKind.i64 kg))]), ((23 : Nat), [(AV.v (Value.int IntKind.i64 ka)), (AV.v (Value.int IntKind.i64 kb)), (AV.v (Value.int IntKind.i64 kc)), (AV.v (Value.int IntKind.i64 kd)), (AV.v (Value.int IntKind.i64 ke)), (AV.v (Value.int IntKind.i64 kf)), (AV.v (Value.int IntKind.i64 kg))]), ((68 : Nat), C), ((70 : Nat), D), ((75 : Nat), T), ((78 : Nat), L), ((60 : Nat), [(AV.ptr (4 : Nat) (0 : Nat)), (AV.ptr (3 : Nat) (0 : Nat)), (AV.v (Value.int IntKind.i64 sa)), (AV.v (Value.int IntKind.i64 sb)), (AV.v (Value.int IntKind.i64 sc)), (AV.v (Value.int IntKind.i64 sd)), (AV.v (Value.int IntKind.i64 se)), (AV.v (Value.int IntKind.i64 sf)), (AV.v (Value.int IntKind.i64 sg)), (AV.v (Value.int IntKind.i64 sl)), (AV.v (Value.int IntKind.i64 sm)), (AV.v (Value.int IntKind.i64 st)), (AV.v (Value.int IntKind.i64 sp)), (AV.ptr (2 : Nat) (0 : Nat)), (AV.ptr (5 : Nat) (0 : Nat))]), ((41 : Nat), [(AV.v (Value.int IntKind.i64 (1 : Int))), (AV.v (Value.int IntKind.i64 (3 : Int))), (AV.v (Value.int IntKind.i64 (1 : Int))), (AV.v (Value.int IntKind.i64 (2 : Int))), (AV.v (Value.bool true)), (AV.v (Value.bool true))])] (@List.nil Nat) (0 : Nat) (0 : Nat) true (@List.nil (Prod Nat Bool)) True))))) else (some ((cdb True ((((Nat.beq (60 : Nat) (60 : Nat)) && (true && (true && (true && (true && (true && (true && (true && (true && (true && (true && (true && (true && (true && (true && (true && (true && (true && true)))))))))))))))))) && ((M).1 (St.mk sa sb sc sd se sf sg sl sm st sp T D C L))) && ((plainC T) && ((plainC D) && ((plainC C) && ((plainC L) && true)))))) ∧ (R Exit.ret [(AV.v (Value.bool false)), AV.dead, AV.dead, AV.dead, AV.dead, AV.dead, AV.dead, AV.dead, AV.dead, AV.dead, AV.dead, AV.dead, AV.dead, AV.dead, AV.dead, AV.dead, AV.dead, AV.dead, AV.dead, AV.dead, AV.dead, AV.dead, AV.dead, AV.dead, AV.dead, AV.dead, AV.dead, AV.dead, AV.dead, AV.dead, AV.dead, AV.dead, AV.dead, AV.dead, AV.dead, AV.dead, AV.dead, AV.dead, AV.dead, AV.dead, AV.dead, AV.dead, AV.dead, AV.dead, AV.dead, AV.dead, AV.dead] (AH.mk [((23 : Nat), [(AV.v (Value.int IntKind.i64 ka)), (AV.v (Value.int IntKind.i64 kb)), (AV.v (Value.int IntKind.i64 kc)), (AV.v (Value.int IntKind.i64 kd)), (AV.v (Value.int IntKind.i64 ke)), (AV.v (Value.int IntKind.i64 kf)), (AV.v (Value.int IntKind.i64 kg))]), ((23 : Nat), [(AV.v (Value.int IntKind.i64 ka)), (AV.v (Value.int IntKind.i64 kb)), (AV.v (Value.int IntKind.i64 kc)), (AV.v (Value.int IntKind.i64 kd)), (AV.v (Value.int IntKind.i64 ke)), (AV.v (Value.int IntKind.i64 kf)), (AV.v (Value.int IntKind.i64 kg))]), ((68 : Nat), C), ((70 : Nat), D), ((75 : Nat), T), ((78 : Nat), L), ((60 : Nat), [(AV.ptr (4 : Nat) (0 : Nat)), (AV.ptr (3 : Nat) (0 : Nat)), (AV.v (Value.int IntKind.i64 sa)), (AV.v (Value.int IntKind.i64 sb)), (AV.v (Value.int IntKind.i64 sc)), (AV.v (Value.int IntKind.i64 sd)), (AV.v (Value.int IntKind.i64 se)), (AV.v (Value.int IntKind.i64 sf)), (AV.v (Value.int IntKind.i64 sg)), (AV.v (Value.int IntKind.i64 sl)), (AV.v (Value.int IntKind.i64 sm)), (AV.v (Value.int IntKind.i64 st)), (AV.v (Value.int IntKind.i64 sp)), (AV.ptr (2 : Nat) (0 : Nat)), (AV.ptr (5 : Nat) (0 : Nat))]), ((41 : Nat), [(AV.v (Value.int IntKind.i64 (1 : Int))), (AV.v (Value.int IntKind.i64 (3 : Int))), (AV.v (Value.int IntKind.i64 (1 : Int))), (AV.v (Value.int IntKind.i64 (2 : Int))), (AV.v (Value.bool true)), (AV.v (Value.bool true))])] (@List.nil Nat) (0 : Nat) (0 : Nat) true (@List.nil (Prod Nat Bool)) True))))) := by kernel_rfl
end Go.Proofs.Ythememoflnocnaa.AE
namespace Go.Proofs.Ythememoflnocnaa.AE
set_option maxRecDepth 100000
open Go.RowKit
def ag9? (x : AV) : Option (Int × Int × Int × Int × Int × Int × Int × Int × Int) := match x with
  | .v (.agg l) => match l.toList with
    | [.int .i64 q, .int .i64 r, .int .i64 a, .int .i64 b, .int .i64 c, .int .i64 d, .int .i64 e, .int .i64 f, .int .i64 g] => some (q, r, a, b, c, d, e, f, g)
    | _ => none
  | _ => none
theorem ag9_out {x : AV} {q r a b c d e f g : Int} (h : ag9? x = some (q, r, a, b, c, d, e, f, g)) : x = agN q r a b c d e f g := by
  unfold ag9? at h
  split at h
  · rename_i l
    split at h
    · rename_i hl
      simp only [Option.some.injEq, Prod.mk.injEq] at h
      obtain ⟨rfl, rfl, rfl, rfl, rfl, rfl, rfl, rfl, rfl⟩ := h
      cases l with
      | mk l => simp only at hl; rw [hl]; rfl
    · cases h
  · cases h
def ksX : KS where
  nC := fun n => hC (nwW n)
  nok := okN
  ner := errN
  act := fun s x => match ag9? x with
    | some (q, r, a, b, c, d, e, f, g) => actS s q r a b c d e f g
    | none => s
  may := fun x => match ag9? x with
    | some (q, _) => mayB q
    | none => false
  isA := fun x => (ag9? x).isSome
theorem new_ok20 (y : Bool) : ∀ args H r H', obj? (oNewC ksX y) args H = some (r, H') → HSound1 Try.prog nro 6 args H r H' := by
  refine obj_ok (has_fn (by kernel_rfl)) fun args bs r bs2 hs => ?_
  unfold oNewC at hs
  simp only at hs
  split at hs
  · split at hs
    · rename_i n m x
      split at hs
      · rename_i a b c d e f g hk
        have hx := kn_out hk
        subst hx
        cases y with
        | true =>
          simp only [Option.some.injEq, Prod.mk.injEq] at hs
          obtain ⟨rfl, rfl, h⟩ := hs
          refine (fs_new n m a b c d e f g).mono fun r' H' hn => ?_
          rcases hn with ⟨_, rfl, hm⟩ | ⟨h2, _⟩
          · exact ⟨.inl rfl, hm⟩
          · have h : okN n m a b c d e f g = true := h
            rw [h] at h2; cases h2
        | false =>
          simp only [Option.some.injEq, Prod.mk.injEq] at hs
          obtain ⟨rfl, rfl, h⟩ := hs
          have h : (!okN n m a b c d e f g) = true := h
          refine (fs_new n m a b c d e f g).mono fun r' H' hn => ?_
          rcases hn with ⟨h2, _⟩ | ⟨_, rfl, hm⟩
          · rw [h2] at h; cases h
          · exact ⟨.inl rfl, hm⟩
      · cases hs
    · cases hs
  · cases hs
theorem act_ok20 : ∀ args H r H', obj? (stO (actF msX ksX)) args H = some (r, H') → HSound1 Try.prog nro 10 args H r H' := by
  refine stO_ok (has_fn (by kernel_rfl)) fun s rest r s' hs => ?_
  unfold actF at hs
  split at hs
  · rename_i x
    simp only [Option.some.injEq, Prod.mk.injEq, Bool.and_eq_true] at hs
    obtain ⟨rfl, rfl, h1, h2⟩ := hs
    have h1 : (ag9? x).isSome = true := h1
    obtain ⟨⟨q, r, a, b, c, d, e, f, g⟩, hk⟩ := Option.isSome_iff_exists.1 h1
    have hx := ag9_out hk
    have e1 : ksX.may x = mayB q := by show (match ag9? x with | some (q, _) => mayB q | none => false) = _; rw [hk]
    have e2 : ksX.act s x = actS s q r a b c d e f g := by show (match ag9? x with | some (q, r, a, b, c, d, e, f, g) => actS s q r a b c d e f g | none => s) = _; rw [hk]
    rw [e1, e2, hx]
    exact fs_act s h2 q r a b c d e f g
  · cases hs
theorem knownAw : Known nro (prAw msX ksX) := by
  intro g p h
  unfold prAw at h
  split at h <;> cases h
  · exact new_ok20 true
  · exact m1_ok (has_fn (by kernel_rfl)) fun s n hs => fs_saw s hs n
  · exact m1_ok (has_fn (by kernel_rfl)) fun s n hs => fs_wtd s hs n
  · exact m0_ok (has_fn (by kernel_rfl)) fun s hs => fs_clo s hs
  · exact m1p_ok (has_fn (by kernel_rfl)) fun s n hs => fs_pas s hs n
  · exact m1p_ok (has_fn (by kernel_rfl)) fun s n hs => fs_prm s hs n
theorem aw_sl : slotsOf 5 = 47 := by kernel_rfl
theorem aw_re : resultsOf 5 = [.tmp 0] := by kernel_rfl
theorem aw_3 : (flatten (bodyOf 5)).drop 3 = .block 0 (.loop (sub (bodyOf 5) [1, 1, 0, 1, 0, 0])) :: (flatten (bodyOf 5)).drop 4 := by kernel_rfl
def awS : Nat → St
  | 0 => newS 4 2 1 4 10 5 1 3 2
  | i + 1 => sawS (awS i) (i : Int)
theorem awS_ok : ∀ i, okS (awS i) = true
  | 0 => ok_new (by decide) (by decide) 2 1 4 10 5 1 3 2
  | i + 1 => ok_saw (awS_ok i) _
theorem fs_aw20 : Fs Try.prog nro 5 [] (hp [] []) fun r _ => r = .v (.bool true) := by
  refine Fs.of_body (has_fn (by kernel_rfl)) ?_
  rw [aw_sl, aw_re]
  have n1 : ksX.nok 4 2 1 4 10 5 1 3 2 = true := by kernel_rfl
  have n2 : plainC (ksX.nC 4) = true := plH (okS_out (awS_ok 0)).2.1
  refine Tr.of_flat (Trl.split 3 (Trl.of_code knownAw (neN (by kernel_rfl)) (a_pre msX ksX _) (holds_some ⟨?_, ?_⟩)))
  · simp only [n1, n2]; simp [cdb_iff, plainC, isP]
  show Trl Try.prog nro ((flatten (bodyOf 5)).drop 3) (aA (gi 0)) (hp (awB (awS 0) 1 4 10 5 1 3 2) []) _
  rw [aw_3]
  let I : Nat → List AV → AH → Prop := fun m act H => ∃ i : Nat, i ≤ 4 ∧ m = 4 - i ∧ act = aA (gi (i : Int)) ∧ H = hp (awB (awS i) 1 4 10 5 1 3 2) []
  refine Tr.block (Tr.loop I ?_ (m := 4) ⟨0, by omega, rfl, rfl, rfl⟩)
  rintro m act H ⟨i, hi, rfl, rfl, rfl⟩
  have ho := awS_ok i
  obtain ⟨p1, p2, p3, p4⟩ := plainS ho
  obtain ⟨q1, q2, q3, q4⟩ := plainS (ok_saw ho (i : Int))
  have k : msX.ok (awS i) = true := ho
  refine Tr.of_code knownAw (a_in msX ksX (i : Int) 1 4 10 5 1 3 2 (awS i).a (awS i).b (awS i).c (awS i).d (awS i).e (awS i).f (awS i).g (awS i).l (awS i).m (awS i).t (awS i).p (awS i).T (awS i).D (awS i).C (awS i).L _) (holds_bif (fun h => ?_) fun h => ?_)
  · have h : (i : Int) < 4 := of_decide_eq_true h
    refine holds_some ⟨?_, 4 - (i + 1), by omega, i + 1, by omega, rfl, ?_, rfl⟩
    · simp only [k, p1, p2, p3, p4]; simp [cdb_iff]; exact ⟨q1, q2, q3, q4⟩
    · rw [inc64 i (by omega)]; rfl
  · have h : ¬ (i : Int) < 4 := of_decide_eq_false h
    have hi : i = 4 := by omega
    subst hi
    refine holds_some ⟨trivial, ?_⟩
    obtain ⟨u, hu⟩ : ∃ u, u = awS 4 := ⟨_, rfl⟩
    rw [← hu] at ho k p1 p2 p3 p4
    show Trl Try.prog nro ((flatten (bodyOf 5)).drop 4) (aA (gi 4)) (hp (awB (awS 4) 1 4 10 5 1 3 2) []) _
    rw [← hu]
    obtain ⟨q1, q2, q3, q4⟩ := plainS (ok_wtd ho 9)
    refine Trl.split 1 (Trl.of_code knownAw (neN (by kernel_rfl)) (a_wt msX ksX 4 1 4 10 5 1 3 2 u.a u.b u.c u.d u.e u.f u.g u.l u.m u.t u.p u.T u.D u.C u.L _) (holds_some ⟨?_, ?_⟩))
    · simp only [k, p1, p2, p3, p4]; simp [cdb_iff]; exact ⟨q1, q2, q3, q4⟩
    have ho : okS (wtdS u 9) = true := ok_wtd ho 9
    show Trl Try.prog nro ((flatten (bodyOf 5)).drop 5) (aA .dead) (hp (awB (wtdS u 9) 1 4 10 5 1 3 2) []) _
    obtain ⟨v, hv⟩ : ∃ v, v = wtdS u 9 := ⟨_, rfl⟩
    rw [← hv] at ho ⊢
    obtain ⟨p1, p2, p3, p4⟩ := plainS ho
    obtain ⟨q1, q2, q3, q4⟩ := plainS (ok_clo ho)
    have k : msX.ok v = true := ho
    refine Trl.split 1 (Trl.of_code knownAw (neN (by kernel_rfl)) (a_cl msX ksX 1 4 10 5 1 3 2 v.a v.b v.c v.d v.e v.f v.g v.l v.m v.t v.p v.T v.D v.C v.L _) (holds_some ⟨?_, ?_⟩))
    · simp only [k, p1, p2, p3, p4]; simp [cdb_iff]; exact ⟨q1, q2, q3, q4⟩
    have e1 : aC (msX.cv v) (msX.ct v) (msX.ck v) (msX.cp v) (msX.cm v) (msX.cd v) = aC 1 3 1 2 true true := by rw [hv, hu]; kernel_rfl
    show Trl Try.prog nro ((flatten (bodyOf 5)).drop 6) ([.dead, .ptr 6 0, gi 0, .dead, .ptr 7 0] ++ ded 42) (hp (awB (cloS v) 1 4 10 5 1 3 2 ++ [(41, aC (msX.cv v) (msX.ct v) (msX.ck v) (msX.cp v) (msX.cm v) (msX.cd v))]) []) _
    rw [e1]
    obtain ⟨s, hs⟩ : ∃ s, s = cloS v := ⟨_, rfl⟩
    have ho : okS s = true := by rw [hs]; exact ok_clo ho
    have k : msX.ok s = true := ho
    have t1 : msX.pas s 2 = true := by rw [hs, hv, hu]; kernel_rfl
    have t2 : msX.pas s 3 = false := by rw [hs, hv, hu]; kernel_rfl
    have t3 : msX.prm s 1 = true := by rw [hs, hv, hu]; kernel_rfl
    have t4 : msX.prm s 2 = false := by rw [hs, hv, hu]; kernel_rfl
    obtain ⟨p1, p2, p3, p4⟩ := plainS ho
    rw [← hs]
    have tf := fun R => a_fin msX ksX 1 4 10 5 1 3 2 s.a s.b s.c s.d s.e s.f s.g s.l s.m s.t s.p s.T s.D s.C s.L R
    have es : (⟨s.a, s.b, s.c, s.d, s.e, s.f, s.g, s.l, s.m, s.t, s.p, s.T, s.D, s.C, s.L⟩ : St) = s := rfl
    simp only [es, t1, t2, t3, t4] at tf
    refine Trl.of_code knownAw (neN (by kernel_rfl)) (tf _) (holds_some ⟨?_, ?_⟩)
    · simp only [k, p1, p2, p3, p4]; simp [cdb_iff]
    · exact ⟨.inr rfl, trivial, rfl⟩
end Go.Proofs.Ythememoflnocnaa.AE
