
/-
  Layer 32: job.Heard; what is known for the laws.
-/
import Derived.Test.YtcajdmplggpfdaaZ1
namespace Go.Proofs.Ytcajdmplggpfdaa.AE
open Go.RowKit
structure JS where
  HX : AV → AV → Bool
  SO : List AV → List Int
  SK : Nat → List AV → Bool
  CO : List AV → List Int
  RL : AV → List Int
  EQ : AV → AV → Bool
  CL : AV → List Int
def eqVS (E : AV → AV → Bool) (args : List AV) : AV := .v (.bool (E (args.headD .dead) (args.tail.headD .dead)))
def lstV (F : AV → List Int) (args : List AV) : AV := .lst 1 ((F (args.headD .dead)).map gi) .no
def oneS (args : List AV) : Bool := match args with
  | [x] => (match intsA? x with | some l => decide (l.length ≤ 1000) | none => false)
  | _ => false
noncomputable def prJ (S : JS) : FuncId → Option (List AV → AH → Ans) := fun g => match g with
  | 18 => some (tot? (lstV S.CL) oneI)
  | 22 => some (tot? (rhV S.HX) rhOk)
  | 17 => some (tot? (rhV S.HX) rhOk)
  | 24 => some (tot? (eqVS S.EQ) eqI)
  | 19 => some (obj? (srtS S.SO S.SK))
  | 20 => some (obj? (cmpS S.CO S.SK))
  | 6 => some (tot? (lstV S.RL) oneS)
  | _ => none
def muJ : FuncId → Bool := fun g => (g == 19) || (g == 20)
theorem flatJ {pr : FuncId → Option (List AV → AH → Ans)} : Flats muJ pr := by
  intro g h
  unfold muJ at h
  simp only [Bool.or_eq_true] at h
  rcases h with h | h
  · have : (1000000 : Nat) ≤ 19 := by rw [← eq_of_beq h]; exact Nat.le_add_left _ _
    exact absurd this (by decide)
  · have : (1000000 : Nat) ≤ 20 := by rw [← eq_of_beq h]; exact Nat.le_add_left _ _
    exact absurd this (by decide)
def jobC (a b c d e f g ph : Int) (N : AV) : List AV := [gi a, gi b, gi c, gi d, gi e, gi f, gi g, gi ph, N]
def lsA (L : List Int) : AV := .lst 1 (L.map gi) .no
def jbA (a b c d e f g ph : Int) (L : List Int) : AV := .agg (jobC a b c d e f g ph (lsA L))
def ded (n : Nat) : List AV := List.replicate n .dead
def dnH (a b c d e f g ph : Int) (M : List Int) (C : List AV) : AH := hp [(26, jobC a b c d e f g ph (lsA M)), (26, jobC 0 0 0 0 0 0 0 0 nilS), (999997, C)] []
theorem dn_a (S : JS) (a b c d e f g ph : Int) (M L : List Int) (R : Exit → List AV → AH → Prop) : codeL nro muJ (prJ S) 8 ((flatten (bodyOf 7)).take 5) ([jbA a b c d e f g ph M, .lst 1 (L.map gi) .no] ++ List.replicate 23 (.v undef)) (hp [] []) (kp [1, 2, 4, 5, 6] R) =
    (bif (ph != (1 : Int)) then (some (True ∧ (R Exit.ret [AV.dead, (AV.lst (1 : Nat) (List.map gi L) Tip.no), (AV.ptr (0 : Nat) (0 : Nat)), AV.dead, (AV.ptr (List.length [((26 : Nat), [(AV.v (Value.int IntKind.i64 a)), (AV.v (Value.int IntKind.i64 b)), (AV.v (Value.int IntKind.i64 c)), (AV.v (Value.int IntKind.i64 d)), (AV.v (Value.int IntKind.i64 e)), (AV.v (Value.int IntKind.i64 f)), (AV.v (Value.int IntKind.i64 g)), (AV.v (Value.int IntKind.i64 ph)), (AV.lst (1 : Nat) (List.map gi M) Tip.no)])]) (0 : Nat)), (AV.v (Value.int IntKind.i64 (0 : Int))), (AV.v (Value.int IntKind.i64 (12 : Int))), AV.dead, AV.dead, AV.dead, AV.dead, AV.dead, AV.dead, AV.dead, AV.dead, AV.dead, AV.dead, AV.dead, AV.dead, AV.dead, AV.dead, AV.dead, AV.dead, AV.dead, AV.dead] (AH.mk [((26 : Nat), [(AV.v (Value.int IntKind.i64 a)), (AV.v (Value.int IntKind.i64 b)), (AV.v (Value.int IntKind.i64 c)), (AV.v (Value.int IntKind.i64 d)), (AV.v (Value.int IntKind.i64 e)), (AV.v (Value.int IntKind.i64 f)), (AV.v (Value.int IntKind.i64 g)), (AV.v (Value.int IntKind.i64 ph)), (AV.lst (1 : Nat) (List.map gi M) Tip.no)]), ((26 : Nat), [(AV.v (Value.int IntKind.i64 (0 : Int))), (AV.v (Value.int IntKind.i64 (0 : Int))), (AV.v (Value.int IntKind.i64 (0 : Int))), (AV.v (Value.int IntKind.i64 (0 : Int))), (AV.v (Value.int IntKind.i64 (0 : Int))), (AV.v (Value.int IntKind.i64 (0 : Int))), (AV.v (Value.int IntKind.i64 (0 : Int))), (AV.v (Value.int IntKind.i64 (0 : Int))), (AV.v (Value.slice none (0 : Nat) (0 : Nat)))])] (@List.nil Nat) (0 : Nat) (0 : Nat) true (@List.nil (Prod Nat Bool)) True)))) else (bif (((List.length (List.map gi L)) : Int) == (0 : Int)) then (some (True ∧ (R Exit.ret [AV.dead, (AV.lst (1 : Nat) (List.map gi L) Tip.no), (AV.ptr (0 : Nat) (0 : Nat)), AV.dead, (AV.ptr (List.length [((26 : Nat), [(AV.v (Value.int IntKind.i64 a)), (AV.v (Value.int IntKind.i64 b)), (AV.v (Value.int IntKind.i64 c)), (AV.v (Value.int IntKind.i64 d)), (AV.v (Value.int IntKind.i64 e)), (AV.v (Value.int IntKind.i64 f)), (AV.v (Value.int IntKind.i64 g)), (AV.v (Value.int IntKind.i64 ph)), (AV.lst (1 : Nat) (List.map gi M) Tip.no)])]) (0 : Nat)), (AV.v (Value.int IntKind.i64 (1 : Int))), (AV.v (Value.int IntKind.i64 (0 : Int))), AV.dead, AV.dead, AV.dead, AV.dead, AV.dead, AV.dead, AV.dead, AV.dead, AV.dead, AV.dead, AV.dead, AV.dead, AV.dead, AV.dead, AV.dead, AV.dead, AV.dead, AV.dead] (AH.mk [((26 : Nat), [(AV.v (Value.int IntKind.i64 a)), (AV.v (Value.int IntKind.i64 b)), (AV.v (Value.int IntKind.i64 c)), (AV.v (Value.int IntKind.i64 d)), (AV.v (Value.int IntKind.i64 e)), (AV.v (Value.int IntKind.i64 f)), (AV.v (Value.int IntKind.i64 g)), (AV.v (Value.int IntKind.i64 ph)), (AV.lst (1 : Nat) (List.map gi M) Tip.no)]), ((26 : Nat), [(AV.v (Value.int IntKind.i64 (0 : Int))), (AV.v (Value.int IntKind.i64 (0 : Int))), (AV.v (Value.int IntKind.i64 (0 : Int))), (AV.v (Value.int IntKind.i64 (0 : Int))), (AV.v (Value.int IntKind.i64 (0 : Int))), (AV.v (Value.int IntKind.i64 (0 : Int))), (AV.v (Value.int IntKind.i64 (0 : Int))), (AV.v (Value.int IntKind.i64 (0 : Int))), (AV.v (Value.slice none (0 : Nat) (0 : Nat)))])] (@List.nil Nat) (0 : Nat) (0 : Nat) true (@List.nil (Prod Nat Bool)) True)))) else (some (True ∧ (R Exit.normal [AV.dead, (AV.lst (1 : Nat) (List.map gi L) Tip.no), (AV.ptr (0 : Nat) (0 : Nat)), AV.dead, (AV.ptr (List.length [((26 : Nat), [(AV.v (Value.int IntKind.i64 a)), (AV.v (Value.int IntKind.i64 b)), (AV.v (Value.int IntKind.i64 c)), (AV.v (Value.int IntKind.i64 d)), (AV.v (Value.int IntKind.i64 e)), (AV.v (Value.int IntKind.i64 f)), (AV.v (Value.int IntKind.i64 g)), (AV.v (Value.int IntKind.i64 ph)), (AV.lst (1 : Nat) (List.map gi M) Tip.no)])]) (0 : Nat)), (AV.v (Value.int IntKind.i64 (0 : Int))), (AV.v (Value.int IntKind.i64 (0 : Int))), AV.dead, AV.dead, AV.dead, AV.dead, AV.dead, AV.dead, AV.dead, AV.dead, AV.dead, AV.dead, AV.dead, AV.dead, AV.dead, AV.dead, AV.dead, AV.dead, AV.dead, AV.dead] (AH.mk [((26 : Nat), [(AV.v (Value.int IntKind.i64 a)), (AV.v (Value.int IntKind.i64 b)), (AV.v (Value.int IntKind.i64 c)), (AV.v (Value.int IntKind.i64 d)), (AV.v (Value.int IntKind.i64 e)), (AV.v (Value.int IntKind.i64 f)), (AV.v (Value.int IntKind.i64 g)), (AV.v (Value.int IntKind.i64 ph)), (AV.lst (1 : Nat) (List.map gi M) Tip.no)]), ((26 : Nat), [(AV.v (Value.int IntKind.i64 (0 : Int))), (AV.v (Value.int IntKind.i64 (0 : Int))), (AV.v (Value.int IntKind.i64 (0 : Int))), (AV.v (Value.int IntKind.i64 (0 : Int))), (AV.v (Value.int IntKind.i64 (0 : Int))), (AV.v (Value.int IntKind.i64 (0 : Int))), (AV.v (Value.int IntKind.i64 (0 : Int))), (AV.v (Value.int IntKind.i64 (0 : Int))), (AV.v (Value.slice none (0 : Nat) (0 : Nat)))])] (@List.nil Nat) (0 : Nat) (0 : Nat) true (@List.nil (Prod Nat Bool)) True)))))) := by kernel_rfl
theorem dn_s (S : JS) (a b c d e f g ph : Int) (M : List Int) (C : List AV) (n cap : Nat) (R : Exit → List AV → AH → Prop) : codeL nro muJ (prJ S) 8 (((flatten (bodyOf 7)).drop 6).take 1) ([.dead, .dead, .ptr 0 0, .dead, .ptr 1 0, .dead, .dead, .sl 2 0 n cap] ++ ded 17) (dnH a b c d e f g ph M C) (kp [2, 4, 7] R) =
    (some ((cdb True (((S).3 n C) && (((plainC C) && true) && ((plainC (List.map gi ((S).2 C))) && true)))) ∧ (R Exit.normal [AV.dead, AV.dead, (AV.ptr (0 : Nat) (0 : Nat)), AV.dead, (AV.ptr (1 : Nat) (0 : Nat)), AV.dead, AV.dead, (AV.sl (2 : Nat) (0 : Nat) n cap), AV.dead, AV.dead, AV.dead, AV.dead, AV.dead, AV.dead, AV.dead, AV.dead, AV.dead, AV.dead, AV.dead, AV.dead, AV.dead, AV.dead, AV.dead, AV.dead, AV.dead] (AH.mk [((26 : Nat), [(AV.v (Value.int IntKind.i64 a)), (AV.v (Value.int IntKind.i64 b)), (AV.v (Value.int IntKind.i64 c)), (AV.v (Value.int IntKind.i64 d)), (AV.v (Value.int IntKind.i64 e)), (AV.v (Value.int IntKind.i64 f)), (AV.v (Value.int IntKind.i64 g)), (AV.v (Value.int IntKind.i64 ph)), (AV.lst (1 : Nat) (List.map gi M) Tip.no)]), ((26 : Nat), [(AV.v (Value.int IntKind.i64 (0 : Int))), (AV.v (Value.int IntKind.i64 (0 : Int))), (AV.v (Value.int IntKind.i64 (0 : Int))), (AV.v (Value.int IntKind.i64 (0 : Int))), (AV.v (Value.int IntKind.i64 (0 : Int))), (AV.v (Value.int IntKind.i64 (0 : Int))), (AV.v (Value.int IntKind.i64 (0 : Int))), (AV.v (Value.int IntKind.i64 (0 : Int))), (AV.v (Value.slice none (0 : Nat) (0 : Nat)))]), ((999997 : Nat), (List.map gi ((S).2 C)))] (@List.nil Nat) (0 : Nat) (0 : Nat) true (@List.nil (Prod Nat Bool)) True)))) := by kernel_rfl
theorem dn_c (S : JS) (a b c d e f g ph : Int) (M : List Int) (C : List AV) (n cap : Nat) (R : Exit → List AV → AH → Prop) : allR nro muJ (prJ S) 8 (sub (bodyOf 7) [1, 1, 1, 1, 1, 0]) ([.dead, .dead, .ptr 0 0, .dead, .ptr 1 0, .dead, .dead, .sl 2 0 n cap] ++ ded 17) (dnH a b c d e f g ph M C) (kp [4, 5, 6] R) =
    (some ((((cdb True ((((S).3 n C) && (decide (n ≤ cap))) && (((plainC C) && true) && ((plainC (List.map gi ((S).4 C))) && true)))) ∧ (R Exit.normal [AV.dead, AV.dead, AV.dead, AV.dead, (AV.ptr (1 : Nat) (0 : Nat)), (AV.v (Value.int IntKind.i64 (0 : Int))), (AV.v (Value.int IntKind.i64 (0 : Int))), AV.dead, AV.dead, AV.dead, AV.dead, AV.dead, AV.dead, AV.dead, AV.dead, AV.dead, AV.dead, AV.dead, AV.dead, AV.dead, AV.dead, AV.dead, AV.dead, AV.dead, AV.dead] (AH.mk [((26 : Nat), [(AV.v (Value.int IntKind.i64 a)), (AV.v (Value.int IntKind.i64 b)), (AV.v (Value.int IntKind.i64 c)), (AV.v (Value.int IntKind.i64 d)), (AV.v (Value.int IntKind.i64 e)), (AV.v (Value.int IntKind.i64 f)), (AV.v (Value.int IntKind.i64 g)), (AV.v (Value.int IntKind.i64 ph)), (AV.lst (1 : Nat) (List.map gi M) Tip.no)]), ((26 : Nat), [(AV.v (Value.int IntKind.i64 a)), (AV.v (Value.int IntKind.i64 b)), (AV.v (Value.int IntKind.i64 c)), (AV.v (Value.int IntKind.i64 d)), (AV.v (Value.int IntKind.i64 e)), (AV.v (Value.int IntKind.i64 f)), (AV.v (Value.int IntKind.i64 g)), (AV.v (Value.int IntKind.i64 (2 : Int))), (AV.sl (2 : Nat) (0 : Nat) (List.length ((S).4 C)) cap)]), ((999997 : Nat), (List.map gi ((S).4 C)))] (@List.nil Nat) (0 : Nat) (0 : Nat) true (@List.nil (Prod Nat Bool)) True))) ∧ (((cdb True ((((S).3 n C) && (decide (n ≤ cap))) && (((plainC C) && true) && ((plainC (List.map gi ((S).4 C))) && true)))) ∧ (R Exit.normal [AV.dead, AV.dead, AV.dead, AV.dead, (AV.ptr (1 : Nat) (0 : Nat)), (AV.v (Value.int IntKind.i64 (0 : Int))), (AV.v (Value.int IntKind.i64 (0 : Int))), AV.dead, AV.dead, AV.dead, AV.dead, AV.dead, AV.dead, AV.dead, AV.dead, AV.dead, AV.dead, AV.dead, AV.dead, AV.dead, AV.dead, AV.dead, AV.dead, AV.dead, AV.dead] (AH.mk [((26 : Nat), [(AV.v (Value.int IntKind.i64 a)), (AV.v (Value.int IntKind.i64 b)), (AV.v (Value.int IntKind.i64 c)), (AV.v (Value.int IntKind.i64 d)), (AV.v (Value.int IntKind.i64 e)), (AV.v (Value.int IntKind.i64 f)), (AV.v (Value.int IntKind.i64 g)), (AV.v (Value.int IntKind.i64 ph)), (AV.lst (1 : Nat) (List.map gi M) Tip.no)]), ((26 : Nat), [(AV.v (Value.int IntKind.i64 a)), (AV.v (Value.int IntKind.i64 b)), (AV.v (Value.int IntKind.i64 c)), (AV.v (Value.int IntKind.i64 d)), (AV.v (Value.int IntKind.i64 e)), (AV.v (Value.int IntKind.i64 f)), (AV.v (Value.int IntKind.i64 g)), (AV.v (Value.int IntKind.i64 (2 : Int))), (AV.sl (2 : Nat) (0 : Nat) (List.length ((S).4 C)) cap)]), ((999997 : Nat), (List.map gi ((S).4 C)))] (@List.nil Nat) (0 : Nat) (0 : Nat) true (@List.nil (Prod Nat Bool)) True))) ∧ ((cdb True ((((S).3 n C) && (decide (n ≤ cap))) && (((plainC C) && true) && ((plainC (List.map gi ((S).4 C))) && true)))) ∧ (R Exit.normal [AV.dead, AV.dead, AV.dead, AV.dead, (AV.ptr (1 : Nat) (0 : Nat)), (AV.v (Value.int IntKind.i64 (0 : Int))), (AV.v (Value.int IntKind.i64 (0 : Int))), AV.dead, AV.dead, AV.dead, AV.dead, AV.dead, AV.dead, AV.dead, AV.dead, AV.dead, AV.dead, AV.dead, AV.dead, AV.dead, AV.dead, AV.dead, AV.dead, AV.dead, AV.dead] (AH.mk [((26 : Nat), [(AV.v (Value.int IntKind.i64 a)), (AV.v (Value.int IntKind.i64 b)), (AV.v (Value.int IntKind.i64 c)), (AV.v (Value.int IntKind.i64 d)), (AV.v (Value.int IntKind.i64 e)), (AV.v (Value.int IntKind.i64 f)), (AV.v (Value.int IntKind.i64 g)), (AV.v (Value.int IntKind.i64 ph)), (AV.lst (1 : Nat) (List.map gi M) Tip.no)]), ((26 : Nat), [(AV.v (Value.int IntKind.i64 a)), (AV.v (Value.int IntKind.i64 b)), (AV.v (Value.int IntKind.i64 c)), (AV.v (Value.int IntKind.i64 d)), (AV.v (Value.int IntKind.i64 e)), (AV.v (Value.int IntKind.i64 f)), (AV.v (Value.int IntKind.i64 g)), (AV.v (Value.int IntKind.i64 (2 : Int))), (AV.sl (2 : Nat) (0 : Nat) (List.length ((S).4 C)) cap)]), ((999997 : Nat), (List.map gi ((S).4 C)))] (@List.nil Nat) (0 : Nat) (0 : Nat) true (@List.nil (Prod Nat Bool)) True))))) ∧ ((((cdb True ((((S).3 n C) && (decide (n ≤ cap))) && (((plainC C) && true) && ((plainC (List.map gi ((S).4 C))) && true)))) ∧ (R Exit.normal [AV.dead, AV.dead, AV.dead, AV.dead, (AV.ptr (1 : Nat) (0 : Nat)), (AV.v (Value.int IntKind.i64 (0 : Int))), (AV.v (Value.int IntKind.i64 (0 : Int))), AV.dead, AV.dead, AV.dead, AV.dead, AV.dead, AV.dead, AV.dead, AV.dead, AV.dead, AV.dead, AV.dead, AV.dead, AV.dead, AV.dead, AV.dead, AV.dead, AV.dead, AV.dead] (AH.mk [((26 : Nat), [(AV.v (Value.int IntKind.i64 a)), (AV.v (Value.int IntKind.i64 b)), (AV.v (Value.int IntKind.i64 c)), (AV.v (Value.int IntKind.i64 d)), (AV.v (Value.int IntKind.i64 e)), (AV.v (Value.int IntKind.i64 f)), (AV.v (Value.int IntKind.i64 g)), (AV.v (Value.int IntKind.i64 ph)), (AV.lst (1 : Nat) (List.map gi M) Tip.no)]), ((26 : Nat), [(AV.v (Value.int IntKind.i64 a)), (AV.v (Value.int IntKind.i64 b)), (AV.v (Value.int IntKind.i64 c)), (AV.v (Value.int IntKind.i64 d)), (AV.v (Value.int IntKind.i64 e)), (AV.v (Value.int IntKind.i64 f)), (AV.v (Value.int IntKind.i64 g)), (AV.v (Value.int IntKind.i64 (2 : Int))), (AV.sl (2 : Nat) (0 : Nat) (List.length ((S).4 C)) cap)]), ((999997 : Nat), (List.map gi ((S).4 C)))] (@List.nil Nat) (0 : Nat) (0 : Nat) true (@List.nil (Prod Nat Bool)) True))) ∧ ((cdb True ((((S).3 n C) && (decide (n ≤ cap))) && (((plainC C) && true) && ((plainC (List.map gi ((S).4 C))) && true)))) ∧ (R Exit.normal [AV.dead, AV.dead, AV.dead, AV.dead, (AV.ptr (1 : Nat) (0 : Nat)), (AV.v (Value.int IntKind.i64 (0 : Int))), (AV.v (Value.int IntKind.i64 (0 : Int))), AV.dead, AV.dead, AV.dead, AV.dead, AV.dead, AV.dead, AV.dead, AV.dead, AV.dead, AV.dead, AV.dead, AV.dead, AV.dead, AV.dead, AV.dead, AV.dead, AV.dead, AV.dead] (AH.mk [((26 : Nat), [(AV.v (Value.int IntKind.i64 a)), (AV.v (Value.int IntKind.i64 b)), (AV.v (Value.int IntKind.i64 c)), (AV.v (Value.int IntKind.i64 d)), (AV.v (Value.int IntKind.i64 e)), (AV.v (Value.int IntKind.i64 f)), (AV.v (Value.int IntKind.i64 g)), (AV.v (Value.int IntKind.i64 ph)), (AV.lst (1 : Nat) (List.map gi M) Tip.no)]), ((26 : Nat), [(AV.v (Value.int IntKind.i64 a)), (AV.v (Value.int IntKind.i64 b)), (AV.v (Value.int IntKind.i64 c)), (AV.v (Value.int IntKind.i64 d)), (AV.v (Value.int IntKind.i64 e)), (AV.v (Value.int IntKind.i64 f)), (AV.v (Value.int IntKind.i64 g)), (AV.v (Value.int IntKind.i64 (2 : Int))), (AV.sl (2 : Nat) (0 : Nat) (List.length ((S).4 C)) cap)]), ((999997 : Nat), (List.map gi ((S).4 C)))] (@List.nil Nat) (0 : Nat) (0 : Nat) true (@List.nil (Prod Nat Bool)) True)))) ∧ ((cdb True ((((S).3 n C) && (decide (n ≤ cap))) && (((plainC C) && true) && ((plainC (List.map gi ((S).4 C))) && true)))) ∧ (R Exit.normal [AV.dead, AV.dead, AV.dead, AV.dead, (AV.ptr (1 : Nat) (0 : Nat)), (AV.v (Value.int IntKind.i64 (0 : Int))), (AV.v (Value.int IntKind.i64 (0 : Int))), AV.dead, AV.dead, AV.dead, AV.dead, AV.dead, AV.dead, AV.dead, AV.dead, AV.dead, AV.dead, AV.dead, AV.dead, AV.dead, AV.dead, AV.dead, AV.dead, AV.dead, AV.dead] (AH.mk [((26 : Nat), [(AV.v (Value.int IntKind.i64 a)), (AV.v (Value.int IntKind.i64 b)), (AV.v (Value.int IntKind.i64 c)), (AV.v (Value.int IntKind.i64 d)), (AV.v (Value.int IntKind.i64 e)), (AV.v (Value.int IntKind.i64 f)), (AV.v (Value.int IntKind.i64 g)), (AV.v (Value.int IntKind.i64 ph)), (AV.lst (1 : Nat) (List.map gi M) Tip.no)]), ((26 : Nat), [(AV.v (Value.int IntKind.i64 a)), (AV.v (Value.int IntKind.i64 b)), (AV.v (Value.int IntKind.i64 c)), (AV.v (Value.int IntKind.i64 d)), (AV.v (Value.int IntKind.i64 e)), (AV.v (Value.int IntKind.i64 f)), (AV.v (Value.int IntKind.i64 g)), (AV.v (Value.int IntKind.i64 (2 : Int))), (AV.sl (2 : Nat) (0 : Nat) (List.length ((S).4 C)) cap)]), ((999997 : Nat), (List.map gi ((S).4 C)))] (@List.nil Nat) (0 : Nat) (0 : Nat) true (@List.nil (Prod Nat Bool)) True)))))) := by kernel_rfl
theorem dr_a (S : JS) (a b c d e f g ph : Int) (M L : List Int) (Φ : AV → Prop) : callK nro muJ (prJ S) 8 8 [jbA a b c d e f g ph M, .lst 1 (L.map gi) .no] (hp [] []) (fun r h => some (h.cd ∧ Φ r)) =
    (bif (ph != (1 : Int)) then (some (True ∧ (Φ (AV.v (Value.tuple #[(Value.agg #[(Value.int IntKind.i64 (0 : Int)), (Value.int IntKind.i64 (0 : Int)), (Value.int IntKind.i64 (0 : Int)), (Value.int IntKind.i64 (0 : Int)), (Value.int IntKind.i64 (0 : Int)), (Value.int IntKind.i64 (0 : Int)), (Value.int IntKind.i64 (0 : Int)), (Value.int IntKind.i64 (0 : Int)), (Value.slice none (0 : Nat) (0 : Nat))]), (Value.int IntKind.i64 (0 : Int)), (Value.int IntKind.i64 (12 : Int))]))))) else (bif (((List.length (List.map gi L)) : Int) == (0 : Int)) then (some (True ∧ (Φ (AV.v (Value.tuple #[(Value.agg #[(Value.int IntKind.i64 (0 : Int)), (Value.int IntKind.i64 (0 : Int)), (Value.int IntKind.i64 (0 : Int)), (Value.int IntKind.i64 (0 : Int)), (Value.int IntKind.i64 (0 : Int)), (Value.int IntKind.i64 (0 : Int)), (Value.int IntKind.i64 (0 : Int)), (Value.int IntKind.i64 (0 : Int)), (Value.slice none (0 : Nat) (0 : Nat))]), (Value.int IntKind.i64 (1 : Int)), (Value.int IntKind.i64 (0 : Int))]))))) else (some ((cdb True (oneS [(AV.lst (1 : Nat) (List.map gi L) Tip.no)])) ∧ (Φ (AV.tuple [(AV.agg [(AV.v (Value.int IntKind.i64 a)), (AV.v (Value.int IntKind.i64 b)), (AV.v (Value.int IntKind.i64 c)), (AV.v (Value.int IntKind.i64 d)), (AV.v (Value.int IntKind.i64 e)), (AV.v (Value.int IntKind.i64 f)), (AV.v (Value.int IntKind.i64 g)), (AV.v (Value.int IntKind.i64 (2 : Int))), (AV.lst (1 : Nat) (List.map gi ((S).5 (AV.lst (1 : Nat) (List.map gi L) Tip.no))) Tip.no)]), (AV.v (Value.int IntKind.i64 (0 : Int))), (AV.v (Value.int IntKind.i64 (0 : Int)))])))))) := by kernel_rfl
theorem hd_a (S : JS) (a b c d e f g ph : Int) (M : List Int) (x y : Int) (R : Exit → List AV → AH → Prop) : codeL nro muJ (prJ S) 8 ((flatten (bodyOf 9)).take 4) ([jbA a b c d e f g ph M, gi x, gi y] ++ List.replicate 28 (.v undef)) (hp [] []) (kp [1, 2, 3, 6, 7, 8, 9] R) =
    (bif (ph == (2 : Int)) then (some ((cdb True (rhOk [(AV.lst (1 : Nat) (List.map gi M) Tip.no), (AV.v (Value.int IntKind.i64 x))])) ∧ (R Exit.normal [AV.dead, (AV.v (Value.int IntKind.i64 x)), (AV.v (Value.int IntKind.i64 y)), (AV.ptr (0 : Nat) (0 : Nat)), AV.dead, AV.dead, (AV.ptr (List.length [((26 : Nat), [(AV.v (Value.int IntKind.i64 a)), (AV.v (Value.int IntKind.i64 b)), (AV.v (Value.int IntKind.i64 c)), (AV.v (Value.int IntKind.i64 d)), (AV.v (Value.int IntKind.i64 e)), (AV.v (Value.int IntKind.i64 f)), (AV.v (Value.int IntKind.i64 g)), (AV.v (Value.int IntKind.i64 ph)), (AV.lst (1 : Nat) (List.map gi M) Tip.no)])]) (0 : Nat)), (AV.v (Value.int IntKind.i64 (0 : Int))), (AV.ptr (List.length [((26 : Nat), [(AV.v (Value.int IntKind.i64 a)), (AV.v (Value.int IntKind.i64 b)), (AV.v (Value.int IntKind.i64 c)), (AV.v (Value.int IntKind.i64 d)), (AV.v (Value.int IntKind.i64 e)), (AV.v (Value.int IntKind.i64 f)), (AV.v (Value.int IntKind.i64 g)), (AV.v (Value.int IntKind.i64 ph)), (AV.lst (1 : Nat) (List.map gi M) Tip.no)]), ((26 : Nat), [(AV.v (Value.int IntKind.i64 (0 : Int))), (AV.v (Value.int IntKind.i64 (0 : Int))), (AV.v (Value.int IntKind.i64 (0 : Int))), (AV.v (Value.int IntKind.i64 (0 : Int))), (AV.v (Value.int IntKind.i64 (0 : Int))), (AV.v (Value.int IntKind.i64 (0 : Int))), (AV.v (Value.int IntKind.i64 (0 : Int))), (AV.v (Value.int IntKind.i64 (0 : Int))), (AV.v (Value.slice none (0 : Nat) (0 : Nat)))])]) (0 : Nat)), (AV.fn (Go.Fn.func (21 : Nat)) [(AV.agg [(AV.v (Value.int IntKind.i64 a)), (AV.v (Value.int IntKind.i64 b)), (AV.v (Value.int IntKind.i64 c)), (AV.v (Value.int IntKind.i64 d)), (AV.v (Value.int IntKind.i64 e)), (AV.v (Value.int IntKind.i64 f)), (AV.v (Value.int IntKind.i64 g)), (AV.v (Value.int IntKind.i64 ph)), (AV.lst (1 : Nat) (List.map gi M) Tip.no)])] (@List.nil AV)), AV.dead, AV.dead, AV.dead, AV.dead, AV.dead, AV.dead, AV.dead, AV.dead, AV.dead, AV.dead, AV.dead, AV.dead, AV.dead, AV.dead, AV.dead, AV.dead, AV.dead, AV.dead, AV.dead, AV.dead, AV.dead] (AH.mk [((26 : Nat), [(AV.v (Value.int IntKind.i64 a)), (AV.v (Value.int IntKind.i64 b)), (AV.v (Value.int IntKind.i64 c)), (AV.v (Value.int IntKind.i64 d)), (AV.v (Value.int IntKind.i64 e)), (AV.v (Value.int IntKind.i64 f)), (AV.v (Value.int IntKind.i64 g)), (AV.v (Value.int IntKind.i64 ph)), (AV.lst (1 : Nat) (List.map gi M) Tip.no)]), ((26 : Nat), [(AV.v (Value.int IntKind.i64 (0 : Int))), (AV.v (Value.int IntKind.i64 (0 : Int))), (AV.v (Value.int IntKind.i64 (0 : Int))), (AV.v (Value.int IntKind.i64 (0 : Int))), (AV.v (Value.int IntKind.i64 (0 : Int))), (AV.v (Value.int IntKind.i64 (0 : Int))), (AV.v (Value.int IntKind.i64 (0 : Int))), (AV.v (Value.int IntKind.i64 (0 : Int))), (AV.v (Value.slice none (0 : Nat) (0 : Nat)))]), ((49 : Nat), [(AV.v (Value.int IntKind.i64 a)), (AV.v (Value.int IntKind.i64 b)), (AV.v (Value.int IntKind.i64 c)), (AV.v (Value.int IntKind.i64 d)), (AV.v (Value.int IntKind.i64 e)), (AV.v (Value.int IntKind.i64 f)), (AV.v (Value.int IntKind.i64 g)), (AV.v (Value.int IntKind.i64 ph)), (AV.lst (1 : Nat) (List.map gi M) Tip.no)])] (@List.nil Nat) (0 : Nat) (0 : Nat) true (@List.nil (Prod Nat Bool)) True)))) else (some (True ∧ (R Exit.normal [AV.dead, (AV.v (Value.int IntKind.i64 x)), (AV.v (Value.int IntKind.i64 y)), (AV.ptr (0 : Nat) (0 : Nat)), AV.dead, AV.dead, (AV.ptr (List.length [((26 : Nat), [(AV.v (Value.int IntKind.i64 a)), (AV.v (Value.int IntKind.i64 b)), (AV.v (Value.int IntKind.i64 c)), (AV.v (Value.int IntKind.i64 d)), (AV.v (Value.int IntKind.i64 e)), (AV.v (Value.int IntKind.i64 f)), (AV.v (Value.int IntKind.i64 g)), (AV.v (Value.int IntKind.i64 ph)), (AV.lst (1 : Nat) (List.map gi M) Tip.no)])]) (0 : Nat)), (AV.v (Value.int IntKind.i64 (0 : Int))), (AV.ptr (List.length [((26 : Nat), [(AV.v (Value.int IntKind.i64 a)), (AV.v (Value.int IntKind.i64 b)), (AV.v (Value.int IntKind.i64 c)), (AV.v (Value.int IntKind.i64 d)), (AV.v (Value.int IntKind.i64 e)), (AV.v (Value.int IntKind.i64 f)), (AV.v (Value.int IntKind.i64 g)), (AV.v (Value.int IntKind.i64 ph)), (AV.lst (1 : Nat) (List.map gi M) Tip.no)]), ((26 : Nat), [(AV.v (Value.int IntKind.i64 (0 : Int))), (AV.v (Value.int IntKind.i64 (0 : Int))), (AV.v (Value.int IntKind.i64 (0 : Int))), (AV.v (Value.int IntKind.i64 (0 : Int))), (AV.v (Value.int IntKind.i64 (0 : Int))), (AV.v (Value.int IntKind.i64 (0 : Int))), (AV.v (Value.int IntKind.i64 (0 : Int))), (AV.v (Value.int IntKind.i64 (0 : Int))), (AV.v (Value.slice none (0 : Nat) (0 : Nat)))])]) (0 : Nat)), (AV.fn (Go.Fn.func (21 : Nat)) [(AV.agg [(AV.v (Value.int IntKind.i64 a)), (AV.v (Value.int IntKind.i64 b)), (AV.v (Value.int IntKind.i64 c)), (AV.v (Value.int IntKind.i64 d)), (AV.v (Value.int IntKind.i64 e)), (AV.v (Value.int IntKind.i64 f)), (AV.v (Value.int IntKind.i64 g)), (AV.v (Value.int IntKind.i64 ph)), (AV.lst (1 : Nat) (List.map gi M) Tip.no)])] (@List.nil AV)), AV.dead, AV.dead, AV.dead, AV.dead, AV.dead, AV.dead, AV.dead, AV.dead, AV.dead, AV.dead, AV.dead, AV.dead, AV.dead, AV.dead, AV.dead, AV.dead, AV.dead, AV.dead, AV.dead, AV.dead, AV.dead] (AH.mk [((26 : Nat), [(AV.v (Value.int IntKind.i64 a)), (AV.v (Value.int IntKind.i64 b)), (AV.v (Value.int IntKind.i64 c)), (AV.v (Value.int IntKind.i64 d)), (AV.v (Value.int IntKind.i64 e)), (AV.v (Value.int IntKind.i64 f)), (AV.v (Value.int IntKind.i64 g)), (AV.v (Value.int IntKind.i64 ph)), (AV.lst (1 : Nat) (List.map gi M) Tip.no)]), ((26 : Nat), [(AV.v (Value.int IntKind.i64 (0 : Int))), (AV.v (Value.int IntKind.i64 (0 : Int))), (AV.v (Value.int IntKind.i64 (0 : Int))), (AV.v (Value.int IntKind.i64 (0 : Int))), (AV.v (Value.int IntKind.i64 (0 : Int))), (AV.v (Value.int IntKind.i64 (0 : Int))), (AV.v (Value.int IntKind.i64 (0 : Int))), (AV.v (Value.int IntKind.i64 (0 : Int))), (AV.v (Value.slice none (0 : Nat) (0 : Nat)))]), ((49 : Nat), [(AV.v (Value.int IntKind.i64 a)), (AV.v (Value.int IntKind.i64 b)), (AV.v (Value.int IntKind.i64 c)), (AV.v (Value.int IntKind.i64 d)), (AV.v (Value.int IntKind.i64 e)), (AV.v (Value.int IntKind.i64 f)), (AV.v (Value.int IntKind.i64 g)), (AV.v (Value.int IntKind.i64 ph)), (AV.lst (1 : Nat) (List.map gi M) Tip.no)])] (@List.nil Nat) (0 : Nat) (0 : Nat) true (@List.nil (Prod Nat Bool)) True))))) := by kernel_rfl
end Go.Proofs.Ytcajdmplggpfdaa.AE
namespace Go.Proofs.Ytcajdmplggpfdaa.AE
open Go.RowKit
theorem Le.trans {x y z : AV} (h : Le x y) (k : Le y z) : Le x z := fun _ _ _ r => k _ _ _ (h _ _ _ r)
theorem Le.ag {xs ys : List AV} (h : Les xs ys) : Le (.agg xs) (.agg ys) := fun _ _ _ r => by
  cases r with
  | agg r => exact .agg (h _ _ _ r)
theorem Le.tup {xs ys : List AV} (h : Les xs ys) : Le (.tuple xs) (.tuple ys) := fun _ _ _ r => by
  cases r with
  | tuple r => exact .tuple (h _ _ _ r)
theorem Le.vag {vs : Array Value} {ys : List AV} (h : Les (vs.toList.map AV.v) ys) : Le (.v (.agg vs)) (.agg ys) := fun _ _ _ r => by
  cases r
  exact .agg (h _ _ _ (RVs.map_v _))
theorem Le.vtup {vs : Array Value} {ys : List AV} (h : Les (vs.toList.map AV.v) ys) : Le (.v (.tuple vs)) (.tuple ys) := fun _ _ _ r => by
  cases r
  exact .tuple (h _ _ _ (RVs.map_v _))
theorem Les.nil : Les [] [] := Les.refl _
theorem Les.cons {x y : AV} {a b : List AV} (h : Le x y) (k : Les a b) : Les (x :: a) (y :: b) := fun _ _ _ r => by
  cases r with
  | cons r t => exact .cons (h _ _ _ r) (k _ _ _ t)
theorem Les.app : ∀ (p : List AV) {a b : List AV}, Les a b → Les (p ++ a) (p ++ b)
  | [], _, _, h => h
  | _ :: p, _, _, h => Les.cons (Le.refl _) (Les.app p h)
/-! Jobs as data. -/
def jbL (is M : List Int) : AV := .agg (is.map gi ++ [lsA M])
def cellsJ (x : AV) : List AV := match x with
  | .agg cs => cs
  | .v (.agg vs) => vs.toList.map AV.v
  | _ => []
def jobA? (x : AV) : Option (List Int × List Int) := match ints? ((cellsJ x).take 8) with
  | some is => match (cellsJ x).drop 8 with
    | [y] => match intsA? y with
      | some l => match decide (is.length = 8 ∧ l.length ≤ 1000) with
        | true => some (is, l)
        | false => none
      | none => none
    | _ => none
  | none => none
theorem cleans_gi (is : List Int) {y y' : AV} (h : clean y = some y') : cleans (is.map gi ++ [y]) = some (is.map gi ++ [y']) := by
  induction is with
  | nil => simp only [List.map_nil, List.nil_append, cleans, h]
  | cons z is ih => simp only [List.map_cons, List.cons_append, cleans, ih]; rfl
theorem intsA_clean {x : AV} {l : List Int} (h : intsA? x = some l) : ∃ y, clean x = some y ∧ Le y (lsA l) := by
  unfold intsA? at h
  split at h
  · refine ⟨_, rfl, ?_⟩
    rw [ints_eq h]
    exact Le.no
  · cases h; exact ⟨_, rfl, Le.nil⟩
  · cases h
theorem jobA_clean {x : AV} {is l : List Int} (h : jobA? x = some (is, l)) : (∃ y, clean x = some y ∧ Le y (jbL is l)) ∧ is.length = 8 ∧ l.length ≤ 1000 := by
  unfold jobA? at h
  split at h
  · rename_i is' h1
    split at h
    · rename_i y h2
      split at h
      · rename_i l' h3
        split at h
        · rename_i h4
          cases h
          refine ⟨?_, of_decide_eq_true h4⟩
          obtain ⟨y', hy, hle⟩ := intsA_clean h3
          have hc : cellsJ x = is.map gi ++ [y] := by rw [← List.take_append_drop 8 (cellsJ x), ints_eq h1, h2]
          unfold cellsJ at hc
          split at hc
          · refine ⟨_, by rw [hc, clean, cleans_gi is hy], ?_⟩
            exact Le.ag (Les.app _ (Les.cons hle Les.nil))
          · refine ⟨_, rfl, Le.vag ?_⟩
            rw [hc]
            refine Les.app _ (Les.cons (fun G W c r => ?_) Les.nil)
            exact hle _ _ _ (clean_to (fun _ _ p => p) r _ hy)
          · have := congrArg List.length hc
            simp at this
        · cases h
      · cases h
    · cases h
  · cases h
theorem jobA_agg (a b c d e f g ph : Int) (y : AV) (l : List Int) (h : intsA? y = some l) (hl : l.length ≤ 1000) : jobA? (.agg [gi a, gi b, gi c, gi d, gi e, gi f, gi g, gi ph, y]) = some ([a, b, c, d, e, f, g, ph], l) := by
  show (match intsA? y with
      | some l => match decide (8 = 8 ∧ l.length ≤ 1000) with
        | true => some ([a, b, c, d, e, f, g, ph], l)
        | false => none
      | none => none) = _
  rw [h]
  dsimp only
  rw [decide_eq_true ⟨rfl, hl⟩]
def isY (x : AV) : List Int := match jobA? x with
  | some p => p.1
  | none => []
def neY (x : AV) : List Int := match jobA? x with
  | some p => p.2
  | none => []
theorem isY_of {x : AV} {p : List Int × List Int} (h : jobA? x = some p) : isY x = p.1 := by unfold isY; rw [h]
theorem neY_of {x : AV} {p : List Int × List Int} (h : jobA? x = some p) : neY x = p.2 := by unfold neY; rw [h]
theorem eight {is : List Int} (h : is.length = 8) : ∃ a b c d e f g ph, is = [a, b, c, d, e, f, g, ph] := by
  match is, h with
  | [a, b, c, d, e, f, g, ph], _ => exact ⟨a, b, c, d, e, f, g, ph, rfl⟩
/-- An answer: a job's numbers, its needs, and more numbers. -/
def ansJ (i : Nat → Int) (M : List Int) (more : List Int) : AV := .tuple (.agg [gi (i 0), gi (i 1), gi (i 2), gi (i 3), gi (i 4), gi (i 5), gi (i 6), gi (i 7), lsA M] :: more.map gi)
def z8 : List Int := [0, 0, 0, 0, 0, 0, 0, 0]
def dnI (is L : List Int) : List Int := if is.getD 7 0 ≠ 1 then z8 else if L = [] then z8 else is.take 7 ++ [2]
def dnM (is L : List Int) : List Int := if is.getD 7 0 ≠ 1 then [] else if L = [] then [] else riseL L
def dnC (is L : List Int) : Int := if is.getD 7 0 ≠ 1 then 0 else if L = [] then 1 else 0
def dnE (is _L : List Int) : Int := if is.getD 7 0 ≠ 1 then 12 else 0
def dnV (is L : List Int) : AV := ansJ (fun k => (dnI is L).getD k 0) (dnM is L) [dnC is L, dnE is L]
def jsX : JS := ⟨rhX, srtX, rowOk, cmpX, fun x => riseL (intsY x), fun x y => decide (intsY x = intsY y), intsY⟩
theorem rising_ok (ro : Nat → Option (List Value)) (hr : ∀ G W, Ro ro G W → Ro nro G W) : ∀ args H r H', tot? (lstV fun x => riseL (intsY x)) oneS args H = some (r, H') → HSound1 Try.prog ro 6 args H r H' := by
  refine tot_nrm (has_fn (by kernel_rfl)) fun args hok => ?_
  unfold oneS at hok
  split at hok
  · rename_i x
    split at hok
    · rename_i l hl
      obtain ⟨a1, a2⟩ := intsA_nrm hl
      refine ⟨by rw [List.all_cons, a1]; rfl, ?_⟩
      rw [List.map_cons, List.map_nil, a2]
      refine Fs.roLe hr ((fs_rising l (of_decide_eq_true hok)).mono fun r _ h => ?_)
      subst h
      refine ⟨_, rfl, ?_⟩
      show Le _ (.lst 1 ((riseL (intsY x)).map gi) .no)
      rw [intsY_some hl]; exact Le.refl _
    · cases hok
  · cases hok
theorem knownJ : Known nro (prJ jsX) := by
  intro g p h
  unfold prJ at h
  split at h
  · cases h; exact clone_ok nro
  · cases h; exact ctn_ok nro
  · cases h; exact rhas_ok
  · cases h; exact eq_ok nro
  · cases h; exact srt_ok nro
  · cases h; exact cmp_ok nro
  · cases h; exact rising_ok nro fun _ _ h => h
  · cases h
theorem dn_sl : slotsOf 7 = 25 := by kernel_rfl
theorem dn_re : resultsOf 7 = [.cell 4 26, .tmp 5, .tmp 6] := by kernel_rfl
theorem dn_f : (flatten (bodyOf 7)).drop 5 = [sub (bodyOf 7) [1, 1, 1, 0], sub (bodyOf 7) [1, 1, 1, 1, 0], sub (bodyOf 7) [1, 1, 1, 1, 1, 0], .ret] := by kernel_rfl
def idC (c : Code) : Nat := match c with
  | .region id _ _ => id
  | _ => 0
theorem dn_c3 : call3 (sub (bodyOf 7) [1, 1, 1, 0]) 18 1 16 17 7 := ⟨idC (sub (bodyOf 7) [1, 1, 1, 0]), nthOpC (sub (bodyOf 7) [1, 1, 1, 0]) 0, nthOpC (sub (bodyOf 7) [1, 1, 1, 0]) 1, nthOpC (sub (bodyOf 7) [1, 1, 1, 0]) 2, by kernel_rfl, ⟨by kernel_rfl, by kernel_rfl, by kernel_rfl⟩, ⟨fun _ => by kernel_rfl, by kernel_rfl, by kernel_rfl⟩, by kernel_rfl, by kernel_rfl, by kernel_rfl⟩
theorem Tr.retI {P : Program} {ro : Nat → Option (List Value)} {act : List AV} {H : AH} {Q : Exit → List AV → AH → Prop} (h : Q .ret act H) : Tr P ro .ret act H Q := fun G W a hI _ hA => wp_ret ⟨act, H, G, h, .refl _ _, hI, hA, rfl⟩
theorem frz_sl {h : AH} {id n cap : Nat} {b : TypeId × List AV} (hb : h.blks[id]? = some b) (hk : Nat.beq b.1 999998 = false) (h1 : n ≤ b.2.length) (h2 : n ≤ cap) (h3 : cap ≤ maxLen) (h4 : b.2.all oneV = true) : frzV h (.sl id 0 n cap) = some (.lst 1 (b.2.take n) .no) := by
  rw [frzV, hb]
  dsimp only
  rw [decide_eq_true ⟨hk, rfl, h1, h2, h3, h4⟩]
theorem frz_ans {hh : AH} {x y : AV} (q : frzV hh x = some y) (a b c d e f g ph u v : Int) : frzV hh (.tuple [.agg [gi a, gi b, gi c, gi d, gi e, gi f, gi g, gi ph, x], gi u, gi v]) = some (.tuple [.agg [gi a, gi b, gi c, gi d, gi e, gi f, gi g, gi ph, y], gi u, gi v]) := by
  have g1 : ∀ z, frzV hh (gi z) = some (gi z) := fun z => by unfold gi; rw [frzV]
  have c1 : ∀ {x y l r}, frzV hh x = some y → frzVs hh l = some r → frzVs hh (x :: l) = some (y :: r) := fun {x y l r} h1 h2 => by rw [frzVs, h1]; dsimp only; rw [h2]
  have n1 : frzVs hh [] = some [] := by rw [frzVs]
  have a1 : frzVs hh [gi a, gi b, gi c, gi d, gi e, gi f, gi g, gi ph, x] = some [gi a, gi b, gi c, gi d, gi e, gi f, gi g, gi ph, y] := c1 (g1 _) (c1 (g1 _) (c1 (g1 _) (c1 (g1 _) (c1 (g1 _) (c1 (g1 _) (c1 (g1 _) (c1 (g1 _) (c1 q n1))))))))
  have a2 : frzV hh (.agg [gi a, gi b, gi c, gi d, gi e, gi f, gi g, gi ph, x]) = some (.agg [gi a, gi b, gi c, gi d, gi e, gi f, gi g, gi ph, y]) := by rw [frzV, a1]
  rw [frzV, c1 a2 (c1 (g1 u) (c1 (g1 v) n1))]
def zeroJ (code err : Int) : AV := .v (.tuple #[.agg #[.int .i64 0, .int .i64 0, .int .i64 0, .int .i64 0, .int .i64 0, .int .i64 0, .int .i64 0, .int .i64 0, .slice none 0 0], .int .i64 code, .int .i64 err])
theorem zeroJ_le (c e : Int) : Le (zeroJ c e) (ansJ (fun k => z8.getD k 0) [] [c, e]) :=
  Le.vtup (Les.cons (Le.vag (Les.app [gi 0, gi 0, gi 0, gi 0, gi 0, gi 0, gi 0, gi 0] (a := [nilS]) (Les.cons Le.nil Les.nil))) (Les.refl _))
set_option maxHeartbeats 4000000 in
set_option maxRecDepth 100000 in
theorem fs_done (a b c d e f g ph : Int) (M L : List Int) (hL : L.length ≤ 1000) : Fs Try.prog nro 7 [jbA a b c d e f g ph M, lsA L] (hp [] []) fun r h => ∃ y, frzV h r = some y ∧ Le y (dnV [a, b, c, d, e, f, g, ph] L) := by
  refine Fs.of_body (has_fn (by kernel_rfl)) ?_
  rw [dn_sl, dn_re]
  have ta := fun R => dn_a jsX a b c d e f g ph M L R
  rw [gil] at ta
  refine Tr.of_flat (Trl.split 5 (Trl.of_code knownJ (ne_nil (by kernel_rfl)) (ta _) (holds_bif (fun h1 => ⟨trivial, ?_⟩) fun h1 => holds_bif (fun h2 => ⟨trivial, ?_⟩) fun h2 => ⟨trivial, ?_⟩) flatJ))
  · have h1 : ph ≠ 1 := by simpa using h1
    refine ⟨.inr rfl, trivial, zeroJ 0 12, rfl, ?_⟩
    have e : dnV [a, b, c, d, e, f, g, ph] L = ansJ (fun k => z8.getD k 0) [] [0, 12] := by
      unfold dnV dnI dnM dnC dnE
      rw [show ([a, b, c, d, e, f, g, ph] : List Int).getD 7 0 = ph from rfl, if_pos h1, if_pos h1, if_pos h1, if_pos h1]
    rw [e]; exact zeroJ_le 0 12
  · have h1 : ¬ ph ≠ 1 := by simpa using h1
    have h2 : L = [] := by
      have : L.length = 0 := by simpa using h2
      exact List.eq_nil_of_length_eq_zero this
    refine ⟨.inr rfl, trivial, zeroJ 1 0, rfl, ?_⟩
    have e : dnV [a, b, c, d, e, f, g, ph] L = ansJ (fun k => z8.getD k 0) [] [1, 0] := by
      unfold dnV dnI dnM dnC dnE
      rw [show ([a, b, c, d, e, f, g, ph] : List Int).getD 7 0 = ph from rfl, if_neg h1, if_neg h1, if_neg h1, if_neg h1, if_pos h2, if_pos h2, if_pos h2]
    rw [e]; exact zeroJ_le 1 0
  · have h1 : ¬ ph ≠ 1 := by simpa using h1
    have h2 : L ≠ [] := by
      rintro rfl
      simp at h2
    show Trl _ _ ((flatten (bodyOf 7)).drop 5) _ _ _
    rw [dn_f]
    refine Tr.mono (tr_call3 named dn_c3 rfl (Nat.lt_of_lt_of_le (show 16 < 25 by decide) (Nat.le_of_eq (by kernel_rfl))) (Nat.lt_of_lt_of_le (show 17 < 25 by decide) (Nat.le_of_eq (by kernel_rfl))) (fs_cloneR L h2 (by omega) nro)) ?_
    rintro ee aa hh ⟨rfl, r, ⟨cap, k1, k2, rfl, rfl⟩, rfl⟩
    refine Tr.keepL [2, 4, 7] rfl ?_
    have ts := fun R => dn_s jsX a b c d e f g ph M (L.map gi) L.length cap R
    have hok : rowOk L.length (L.map gi) = true := rowOk_of L h2 (by omega)
    refine Trl.split 1 (Trl.of_code knownJ (ne_nil (by kernel_rfl)) (ts _) ⟨?_, ?_⟩ flatJ)
    · refine cdb_iff.2 ⟨trivial, ?_⟩
      show (rowOk L.length (L.map gi) && ((plainC (L.map gi) && true) && ((plainC ((srtX (L.map gi)).map gi)) && true))) = true
      rw [hok, plainC_gi, plainC_gi]; rfl
    · show Tr _ _ (sub (bodyOf 7) [1, 1, 1, 1, 1, 0]) _ _ _
      have hsl : (srtX (L.map gi)).length = L.length := by unfold srtX; rw [rowI_gi]; exact List.length_mergeSort _
      have tc := fun R => dn_c jsX a b c d e f g ph M ((srtX (L.map gi)).map gi) L.length cap R
      have hok2 : rowOk L.length ((srtX (L.map gi)).map gi) = true := by
        have := rowOk_of (srtX (L.map gi)) (by intro e; rw [e] at hsl; exact h2 (List.eq_nil_of_length_eq_zero hsl.symm)) (by omega)
        rwa [hsl] at this
      have hcx : cmpX ((srtX (L.map gi)).map gi) = riseL L := by
        unfold cmpX srtX
        rw [rowI_gi, rowI_gi]
        exact sort_rise L
      have hrl := rise_len L
      have cond : cdb True ((jsX.SK L.length ((srtX (L.map gi)).map gi) && decide (L.length ≤ cap)) && (((plainC ((srtX (L.map gi)).map gi)) && true) && ((plainC ((jsX.CO ((srtX (L.map gi)).map gi)).map gi)) && true))) := by
        refine cdb_iff.2 ⟨trivial, ?_⟩
        show ((rowOk L.length ((srtX (L.map gi)).map gi) && decide (L.length ≤ cap)) && (((plainC ((srtX (L.map gi)).map gi)) && true) && ((plainC ((cmpX ((srtX (L.map gi)).map gi)).map gi)) && true))) = true
        rw [hok2, plainC_gi, plainC_gi, decide_eq_true k1]; rfl
      have rest : Trl Try.prog nro [.ret] ([.dead, .dead, .dead, .dead, .ptr 1 0, gi 0, gi 0] ++ ded 18) (hp [(26, jobC a b c d e f g ph (lsA M)), (26, [gi a, gi b, gi c, gi d, gi e, gi f, gi g, gi 2, .sl 2 0 (cmpX ((srtX (L.map gi)).map gi)).length cap]), (999997, (cmpX ((srtX (L.map gi)).map gi)).map gi)] [])
          fun e' a' h => (e' = .normal ∨ e' = .ret) ∧ ansOk (fun r h => ∃ y, frzV h r = some y ∧ Le y (dnV [a, b, c, d, e, f, g, ph] L)) (resOf Try.prog nro [.cell 4 26, .tmp 5, .tmp 6] a' h) := by
        rw [hcx]
        refine Tr.retI (show (Exit.ret = .normal ∨ Exit.ret = .ret) ∧ ansOk (fun r h => ∃ y, frzV h r = some y ∧ Le y (dnV [a, b, c, d, e, f, g, ph] L)) _ from ⟨.inr rfl, trivial, ?_⟩)
        refine ⟨.tuple [.agg [gi a, gi b, gi c, gi d, gi e, gi f, gi g, gi 2, .lst 1 (((riseL L).map gi).take (riseL L).length) .no], gi 0, gi 0], ?_, ?_⟩
        · have q := frz_sl (h := tidy (hp [(26, jobC a b c d e f g ph (lsA M)), (26, [gi a, gi b, gi c, gi d, gi e, gi f, gi g, gi 2, .sl 2 0 (riseL L).length cap]), (999997, (riseL L).map gi)] [])) (id := 2) (n := (riseL L).length) (cap := cap) (b := (999997, (riseL L).map gi)) rfl rfl (by rw [List.length_map]; exact Nat.le_refl _) (by omega) k2 (oneV_gi _)
          show frzV (tidy (hp [(26, jobC a b c d e f g ph (lsA M)), (26, [gi a, gi b, gi c, gi d, gi e, gi f, gi g, gi 2, .sl 2 0 (riseL L).length cap]), (999997, (riseL L).map gi)] [])) (.tuple [.agg [gi a, gi b, gi c, gi d, gi e, gi f, gi g, gi 2, .sl 2 0 (riseL L).length cap], gi 0, gi 0]) = _
          exact frz_ans q a b c d e f g 2 0 0
        · have tk : ((riseL L).map gi).take (riseL L).length = (riseL L).map gi := List.take_of_length_le (by rw [List.length_map]; exact Nat.le_refl _)
          rw [tk]
          have ed : dnV [a, b, c, d, e, f, g, ph] L = ansJ (fun k => ([a, b, c, d, e, f, g, 2] : List Int).getD k 0) (riseL L) [0, 0] := by
            unfold dnV dnI dnM dnC dnE
            rw [show ([a, b, c, d, e, f, g, ph] : List Int).getD 7 0 = ph from rfl, if_neg h1, if_neg h1, if_neg h1, if_neg h1, if_neg h2, if_neg h2, if_neg h2]; rfl
          rw [ed]
          exact Le.refl _
      refine Tr.of_all knownJ (tc _) (holds_some ?_) flatJ
      repeat' with_reducible refine And.intro ?_ ?_
      all_goals first | with_reducible exact cond | exact rest
end Go.Proofs.Ytcajdmplggpfdaa.AE
namespace Go.Proofs.Ytcajdmplggpfdaa.AE
open Go.RowKit
def waA (x : Int) (M : List Int) (out : AV) (n i : Int) : List AV := [.dead, gi x, .dead, .ptr 0 0, .dead, .dead, .ptr 1 0, gi 0, out, .dead, .dead, .dead, .dead, .dead, .dead, .dead, lsA M, gi n, gi i] ++ ded 19
def waH (t : TypeId) (a b c d e f g ph : Int) (M : List Int) (v : List Nat) : AH := hp [(t, jobC a b c d e f g ph (lsA M)), (26, jobC 0 0 0 0 0 0 0 0 nilS)] v
def rwA (x : Int) (out : AV) (i : Int) : List AV := [.dead, gi x, .dead, .ptr 0 0, .dead, .dead, .ptr 1 0, gi 0, out, gi i] ++ ded 44
def saA (i : Int) : List AV := [.dead, .dead, .ptr 0 0, .ptr 1 0, .v (.bool false), gi i] ++ ded 46
def saH (a b c d e f g ph : Int) (M : List Int) (a' b' c' d' e' f' g' ph' : Int) (M' : List Int) : AH := hp [(26, jobC a b c d e f g ph (lsA M)), (26, jobC a' b' c' d' e' f' g' ph' (lsA M'))] []
theorem wa_pre (S : JS) (a b c d e f g ph : Int) (M : List Int) (x y : Int) (R : Exit → List AV → AH → Prop) : codeL nro muJ (prJ S) 8 ((flatten (bodyOf 23)).take 5) ([jbA a b c d e f g ph M, gi x, gi y] ++ List.replicate 35 (.v undef)) (hp [] []) (kp [1, 3, 6, 7, 8, 16, 17, 18] R) =
    (bif (y != (1 : Int)) then (some (True ∧ (R Exit.ret [AV.dead, (AV.v (Value.int IntKind.i64 x)), AV.dead, (AV.ptr (0 : Nat) (0 : Nat)), AV.dead, AV.dead, (AV.ptr (List.length [((49 : Nat), [(AV.v (Value.int IntKind.i64 a)), (AV.v (Value.int IntKind.i64 b)), (AV.v (Value.int IntKind.i64 c)), (AV.v (Value.int IntKind.i64 d)), (AV.v (Value.int IntKind.i64 e)), (AV.v (Value.int IntKind.i64 f)), (AV.v (Value.int IntKind.i64 g)), (AV.v (Value.int IntKind.i64 ph)), (AV.lst (1 : Nat) (List.map gi M) Tip.no)])]) (0 : Nat)), (AV.v (Value.int IntKind.i64 (7 : Int))), (AV.v (Value.tuple (Array.mk (@List.nil Go.Value)))), AV.dead, AV.dead, AV.dead, AV.dead, AV.dead, AV.dead, AV.dead, (AV.v (Value.tuple (Array.mk (@List.nil Go.Value)))), (AV.v (Value.tuple (Array.mk (@List.nil Go.Value)))), (AV.v (Value.tuple (Array.mk (@List.nil Go.Value)))), AV.dead, AV.dead, AV.dead, AV.dead, AV.dead, AV.dead, AV.dead, AV.dead, AV.dead, AV.dead, AV.dead, AV.dead, AV.dead, AV.dead, AV.dead, AV.dead, AV.dead, AV.dead, AV.dead] (AH.mk [((49 : Nat), [(AV.v (Value.int IntKind.i64 a)), (AV.v (Value.int IntKind.i64 b)), (AV.v (Value.int IntKind.i64 c)), (AV.v (Value.int IntKind.i64 d)), (AV.v (Value.int IntKind.i64 e)), (AV.v (Value.int IntKind.i64 f)), (AV.v (Value.int IntKind.i64 g)), (AV.v (Value.int IntKind.i64 ph)), (AV.lst (1 : Nat) (List.map gi M) Tip.no)]), ((26 : Nat), [(AV.v (Value.int IntKind.i64 (0 : Int))), (AV.v (Value.int IntKind.i64 (0 : Int))), (AV.v (Value.int IntKind.i64 (0 : Int))), (AV.v (Value.int IntKind.i64 (0 : Int))), (AV.v (Value.int IntKind.i64 (0 : Int))), (AV.v (Value.int IntKind.i64 (0 : Int))), (AV.v (Value.int IntKind.i64 (0 : Int))), (AV.v (Value.int IntKind.i64 (0 : Int))), (AV.v (Value.slice none (0 : Nat) (0 : Nat)))])] (@List.nil Nat) (0 : Nat) (0 : Nat) true (@List.nil (Prod Nat Bool)) True)))) else (some (True ∧ (R Exit.normal [AV.dead, (AV.v (Value.int IntKind.i64 x)), AV.dead, (AV.ptr (0 : Nat) (0 : Nat)), AV.dead, AV.dead, (AV.ptr (List.length [((49 : Nat), [(AV.v (Value.int IntKind.i64 a)), (AV.v (Value.int IntKind.i64 b)), (AV.v (Value.int IntKind.i64 c)), (AV.v (Value.int IntKind.i64 d)), (AV.v (Value.int IntKind.i64 e)), (AV.v (Value.int IntKind.i64 f)), (AV.v (Value.int IntKind.i64 g)), (AV.v (Value.int IntKind.i64 ph)), (AV.lst (1 : Nat) (List.map gi M) Tip.no)])]) (0 : Nat)), (AV.v (Value.int IntKind.i64 (0 : Int))), (AV.v (Value.slice none (0 : Nat) (0 : Nat))), AV.dead, AV.dead, AV.dead, AV.dead, AV.dead, AV.dead, AV.dead, (AV.lst (1 : Nat) (List.map gi M) Tip.no), (AV.v (Value.int IntKind.i64 ((List.length (List.map gi M)) : Int))), (AV.v (Value.int IntKind.i64 (0 : Int))), AV.dead, AV.dead, AV.dead, AV.dead, AV.dead, AV.dead, AV.dead, AV.dead, AV.dead, AV.dead, AV.dead, AV.dead, AV.dead, AV.dead, AV.dead, AV.dead, AV.dead, AV.dead, AV.dead] (AH.mk [((49 : Nat), [(AV.v (Value.int IntKind.i64 a)), (AV.v (Value.int IntKind.i64 b)), (AV.v (Value.int IntKind.i64 c)), (AV.v (Value.int IntKind.i64 d)), (AV.v (Value.int IntKind.i64 e)), (AV.v (Value.int IntKind.i64 f)), (AV.v (Value.int IntKind.i64 g)), (AV.v (Value.int IntKind.i64 ph)), (AV.lst (1 : Nat) (List.map gi M) Tip.no)]), ((26 : Nat), [(AV.v (Value.int IntKind.i64 (0 : Int))), (AV.v (Value.int IntKind.i64 (0 : Int))), (AV.v (Value.int IntKind.i64 (0 : Int))), (AV.v (Value.int IntKind.i64 (0 : Int))), (AV.v (Value.int IntKind.i64 (0 : Int))), (AV.v (Value.int IntKind.i64 (0 : Int))), (AV.v (Value.int IntKind.i64 (0 : Int))), (AV.v (Value.int IntKind.i64 (0 : Int))), (AV.v (Value.slice none (0 : Nat) (0 : Nat)))])] (@List.nil Nat) (0 : Nat) (0 : Nat) true (@List.nil (Prod Nat Bool)) True))))) := by kernel_rfl
theorem wa_in (S : JS) (a b c d e f g ph : Int) (M out : List Int) (v : Nat) (x n i : Int) (R : Exit → List AV → AH → Prop) : code nro muJ (prJ S) 8 (sub (bodyOf 23) [1, 1, 1, 0, 1, 0, 0]) (waA x M (.lst 1 (out.map gi) (.tp 0 v)) n i) (waH 49 a b c d e f g ph M [v]) (kp [1, 3, 6, 7, 8, 16, 17, 18] R) =
    (bif (decide (i < n)) then (bif ((exInt (List.getD (List.map gi M) (Int.toNat i) AV.dead)) != x) then (some ((cdb (cds True (elemB Try.prog (3 : Nat) (List.map gi M) i) (((0 : Int) ≤ i) ∧ (((List.map gi M)[(Int.toNat i)]?) = (some (AV.v (Value.int IntKind.i64 (exInt (List.getD (List.map gi M) (Int.toNat i) AV.dead)))))))) (decide ((((((List.length (List.map gi out)) + (List.length [(AV.v (Value.int IntKind.i64 (exInt (List.getD (List.map gi M) (Int.toNat i) AV.dead))))])) * (8 : Nat)) ≤ (140737488355328 : Nat)) ∧ (((List.length (List.map gi out)) + (List.length [(AV.v (Value.int IntKind.i64 (exInt (List.getD (List.map gi M) (Int.toNat i) AV.dead))))])) ≤ (9223372036854775807 : Nat))) ∧ (v = v)))) ∧ (R Exit.normal [AV.dead, (AV.v (Value.int IntKind.i64 x)), AV.dead, (AV.ptr (0 : Nat) (0 : Nat)), AV.dead, AV.dead, (AV.ptr (1 : Nat) (0 : Nat)), (AV.v (Value.int IntKind.i64 (0 : Int))), (AV.lst (1 : Nat) ((List.map gi out) ++ [(AV.v (Value.int IntKind.i64 (exInt (List.getD (List.map gi M) (Int.toNat i) AV.dead))))]) (Tip.tp (0 : Nat) (v + (1 : Nat)))), AV.dead, AV.dead, AV.dead, AV.dead, AV.dead, AV.dead, AV.dead, (AV.lst (1 : Nat) (List.map gi M) Tip.no), (AV.v (Value.int IntKind.i64 n)), (AV.v (Value.int IntKind.i64 (IntKind.wrap IntKind.i64 (i + (1 : Int))))), AV.dead, AV.dead, AV.dead, AV.dead, AV.dead, AV.dead, AV.dead, AV.dead, AV.dead, AV.dead, AV.dead, AV.dead, AV.dead, AV.dead, AV.dead, AV.dead, AV.dead, AV.dead, AV.dead] (AH.mk [((49 : Nat), [(AV.v (Value.int IntKind.i64 a)), (AV.v (Value.int IntKind.i64 b)), (AV.v (Value.int IntKind.i64 c)), (AV.v (Value.int IntKind.i64 d)), (AV.v (Value.int IntKind.i64 e)), (AV.v (Value.int IntKind.i64 f)), (AV.v (Value.int IntKind.i64 g)), (AV.v (Value.int IntKind.i64 ph)), (AV.lst (1 : Nat) (List.map gi M) Tip.no)]), ((26 : Nat), [(AV.v (Value.int IntKind.i64 (0 : Int))), (AV.v (Value.int IntKind.i64 (0 : Int))), (AV.v (Value.int IntKind.i64 (0 : Int))), (AV.v (Value.int IntKind.i64 (0 : Int))), (AV.v (Value.int IntKind.i64 (0 : Int))), (AV.v (Value.int IntKind.i64 (0 : Int))), (AV.v (Value.int IntKind.i64 (0 : Int))), (AV.v (Value.int IntKind.i64 (0 : Int))), (AV.v (Value.slice none (0 : Nat) (0 : Nat)))])] [(v + (1 : Nat))] (0 : Nat) (0 : Nat) true (@List.nil (Prod Nat Bool)) True)))) else (some ((cds True (elemB Try.prog (3 : Nat) (List.map gi M) i) (((0 : Int) ≤ i) ∧ (((List.map gi M)[(Int.toNat i)]?) = (some (AV.v (Value.int IntKind.i64 (exInt (List.getD (List.map gi M) (Int.toNat i) AV.dead)))))))) ∧ (R Exit.normal [AV.dead, (AV.v (Value.int IntKind.i64 x)), AV.dead, (AV.ptr (0 : Nat) (0 : Nat)), AV.dead, AV.dead, (AV.ptr (1 : Nat) (0 : Nat)), (AV.v (Value.int IntKind.i64 (0 : Int))), (AV.lst (1 : Nat) (List.map gi out) (Tip.tp (0 : Nat) v)), AV.dead, AV.dead, AV.dead, AV.dead, AV.dead, AV.dead, AV.dead, (AV.lst (1 : Nat) (List.map gi M) Tip.no), (AV.v (Value.int IntKind.i64 n)), (AV.v (Value.int IntKind.i64 (IntKind.wrap IntKind.i64 (i + (1 : Int))))), AV.dead, AV.dead, AV.dead, AV.dead, AV.dead, AV.dead, AV.dead, AV.dead, AV.dead, AV.dead, AV.dead, AV.dead, AV.dead, AV.dead, AV.dead, AV.dead, AV.dead, AV.dead, AV.dead] (AH.mk [((49 : Nat), [(AV.v (Value.int IntKind.i64 a)), (AV.v (Value.int IntKind.i64 b)), (AV.v (Value.int IntKind.i64 c)), (AV.v (Value.int IntKind.i64 d)), (AV.v (Value.int IntKind.i64 e)), (AV.v (Value.int IntKind.i64 f)), (AV.v (Value.int IntKind.i64 g)), (AV.v (Value.int IntKind.i64 ph)), (AV.lst (1 : Nat) (List.map gi M) Tip.no)]), ((26 : Nat), [(AV.v (Value.int IntKind.i64 (0 : Int))), (AV.v (Value.int IntKind.i64 (0 : Int))), (AV.v (Value.int IntKind.i64 (0 : Int))), (AV.v (Value.int IntKind.i64 (0 : Int))), (AV.v (Value.int IntKind.i64 (0 : Int))), (AV.v (Value.int IntKind.i64 (0 : Int))), (AV.v (Value.int IntKind.i64 (0 : Int))), (AV.v (Value.int IntKind.i64 (0 : Int))), (AV.v (Value.slice none (0 : Nat) (0 : Nat)))])] [v] (0 : Nat) (0 : Nat) true (@List.nil (Prod Nat Bool)) True))))) else (some (True ∧ (R (Exit.exit (0 : Nat)) [AV.dead, (AV.v (Value.int IntKind.i64 x)), AV.dead, (AV.ptr (0 : Nat) (0 : Nat)), AV.dead, AV.dead, (AV.ptr (1 : Nat) (0 : Nat)), (AV.v (Value.int IntKind.i64 (0 : Int))), (AV.lst (1 : Nat) (List.map gi out) (Tip.tp (0 : Nat) v)), AV.dead, AV.dead, AV.dead, AV.dead, AV.dead, AV.dead, AV.dead, (AV.lst (1 : Nat) (List.map gi M) Tip.no), (AV.v (Value.int IntKind.i64 n)), (AV.v (Value.int IntKind.i64 i)), AV.dead, AV.dead, AV.dead, AV.dead, AV.dead, AV.dead, AV.dead, AV.dead, AV.dead, AV.dead, AV.dead, AV.dead, AV.dead, AV.dead, AV.dead, AV.dead, AV.dead, AV.dead, AV.dead] (AH.mk [((49 : Nat), [(AV.v (Value.int IntKind.i64 a)), (AV.v (Value.int IntKind.i64 b)), (AV.v (Value.int IntKind.i64 c)), (AV.v (Value.int IntKind.i64 d)), (AV.v (Value.int IntKind.i64 e)), (AV.v (Value.int IntKind.i64 f)), (AV.v (Value.int IntKind.i64 g)), (AV.v (Value.int IntKind.i64 ph)), (AV.lst (1 : Nat) (List.map gi M) Tip.no)]), ((26 : Nat), [(AV.v (Value.int IntKind.i64 (0 : Int))), (AV.v (Value.int IntKind.i64 (0 : Int))), (AV.v (Value.int IntKind.i64 (0 : Int))), (AV.v (Value.int IntKind.i64 (0 : Int))), (AV.v (Value.int IntKind.i64 (0 : Int))), (AV.v (Value.int IntKind.i64 (0 : Int))), (AV.v (Value.int IntKind.i64 (0 : Int))), (AV.v (Value.int IntKind.i64 (0 : Int))), (AV.v (Value.slice none (0 : Nat) (0 : Nat)))])] [v] (0 : Nat) (0 : Nat) true (@List.nil (Prod Nat Bool)) True))))) := by kernel_rfl
theorem wa_post (S : JS) (a b c d e f g ph : Int) (M out : List Int) (v : Nat) (x n i : Int) (R : Exit → List AV → AH → Prop) : codeL nro muJ (prJ S) 8 ((flatten (bodyOf 23)).drop 6) (waA x M (.lst 1 (out.map gi) (.tp 0 v)) n i) (waH 49 a b c d e f g ph M [v]) (kp [6, 7] R) =
    (bif (((List.length (List.map gi out)) : Int) == (0 : Int)) then (some (True ∧ (R Exit.ret [AV.dead, AV.dead, AV.dead, AV.dead, AV.dead, AV.dead, (AV.ptr (1 : Nat) (0 : Nat)), (AV.v (Value.int IntKind.i64 (1 : Int))), AV.dead, AV.dead, AV.dead, AV.dead, AV.dead, AV.dead, AV.dead, AV.dead, AV.dead, AV.dead, AV.dead, AV.dead, AV.dead, AV.dead, AV.dead, AV.dead, AV.dead, AV.dead, AV.dead, AV.dead, AV.dead, AV.dead, AV.dead, AV.dead, AV.dead, AV.dead, AV.dead, AV.dead, AV.dead, AV.dead] (AH.mk [((49 : Nat), [(AV.v (Value.int IntKind.i64 a)), (AV.v (Value.int IntKind.i64 b)), (AV.v (Value.int IntKind.i64 c)), (AV.v (Value.int IntKind.i64 d)), (AV.v (Value.int IntKind.i64 e)), (AV.v (Value.int IntKind.i64 f)), (AV.v (Value.int IntKind.i64 g)), (AV.v (Value.int IntKind.i64 ph)), (AV.lst (1 : Nat) (List.map gi M) Tip.no)]), ((26 : Nat), [(AV.v (Value.int IntKind.i64 (0 : Int))), (AV.v (Value.int IntKind.i64 (0 : Int))), (AV.v (Value.int IntKind.i64 (0 : Int))), (AV.v (Value.int IntKind.i64 (0 : Int))), (AV.v (Value.int IntKind.i64 (0 : Int))), (AV.v (Value.int IntKind.i64 (0 : Int))), (AV.v (Value.int IntKind.i64 (0 : Int))), (AV.v (Value.int IntKind.i64 (0 : Int))), (AV.v (Value.slice none (0 : Nat) (0 : Nat)))])] [v] (0 : Nat) (0 : Nat) true (@List.nil (Prod Nat Bool)) True)))) else (some ((cdb True (oneI [(AV.lst (1 : Nat) (List.map gi out) (Tip.tp (0 : Nat) v))])) ∧ (R Exit.ret [AV.dead, AV.dead, AV.dead, AV.dead, AV.dead, AV.dead, (AV.ptr (1 : Nat) (0 : Nat)), (AV.v (Value.int IntKind.i64 (0 : Int))), AV.dead, AV.dead, AV.dead, AV.dead, AV.dead, AV.dead, AV.dead, AV.dead, AV.dead, AV.dead, AV.dead, AV.dead, AV.dead, AV.dead, AV.dead, AV.dead, AV.dead, AV.dead, AV.dead, AV.dead, AV.dead, AV.dead, AV.dead, AV.dead, AV.dead, AV.dead, AV.dead, AV.dead, AV.dead, AV.dead] (AH.mk [((49 : Nat), [(AV.v (Value.int IntKind.i64 a)), (AV.v (Value.int IntKind.i64 b)), (AV.v (Value.int IntKind.i64 c)), (AV.v (Value.int IntKind.i64 d)), (AV.v (Value.int IntKind.i64 e)), (AV.v (Value.int IntKind.i64 f)), (AV.v (Value.int IntKind.i64 g)), (AV.v (Value.int IntKind.i64 ph)), (AV.lst (1 : Nat) (List.map gi M) Tip.no)]), ((26 : Nat), [(AV.v (Value.int IntKind.i64 a)), (AV.v (Value.int IntKind.i64 b)), (AV.v (Value.int IntKind.i64 c)), (AV.v (Value.int IntKind.i64 d)), (AV.v (Value.int IntKind.i64 e)), (AV.v (Value.int IntKind.i64 f)), (AV.v (Value.int IntKind.i64 g)), (AV.v (Value.int IntKind.i64 ph)), (AV.lst (1 : Nat) (List.map gi ((S).7 (AV.lst (1 : Nat) (List.map gi out) (Tip.tp (0 : Nat) v)))) Tip.no)]), ((26 : Nat), [(AV.v (Value.int IntKind.i64 a)), (AV.v (Value.int IntKind.i64 b)), (AV.v (Value.int IntKind.i64 c)), (AV.v (Value.int IntKind.i64 d)), (AV.v (Value.int IntKind.i64 e)), (AV.v (Value.int IntKind.i64 f)), (AV.v (Value.int IntKind.i64 g)), (AV.v (Value.int IntKind.i64 ph)), (AV.lst (1 : Nat) (List.map gi ((S).7 (AV.lst (1 : Nat) (List.map gi out) (Tip.tp (0 : Nat) v)))) Tip.no)]), ((26 : Nat), [(AV.v (Value.int IntKind.i64 a)), (AV.v (Value.int IntKind.i64 b)), (AV.v (Value.int IntKind.i64 c)), (AV.v (Value.int IntKind.i64 d)), (AV.v (Value.int IntKind.i64 e)), (AV.v (Value.int IntKind.i64 f)), (AV.v (Value.int IntKind.i64 g)), (AV.v (Value.int IntKind.i64 ph)), (AV.lst (1 : Nat) (List.map gi ((S).7 (AV.lst (1 : Nat) (List.map gi out) (Tip.tp (0 : Nat) v)))) Tip.no)])] [v] (0 : Nat) (0 : Nat) true (@List.nil (Prod Nat Bool)) True))))) := by kernel_rfl
theorem rw_pre (S : JS) (a b c d e f g ph : Int) (M : List Int) (x y : Int) (R : Exit → List AV → AH → Prop) : codeL nro muJ (prJ S) 8 ((flatten (bodyOf 10)).take 7) ([jbA a b c d e f g ph M, gi x, gi y] ++ List.replicate 51 (.v undef)) (hp [] []) (kp [1, 3, 6, 7, 8, 9] R) =
    (bif (ph != (2 : Int)) then (some (True ∧ (R Exit.ret [AV.dead, (AV.v (Value.int IntKind.i64 x)), AV.dead, (AV.ptr (0 : Nat) (0 : Nat)), AV.dead, AV.dead, (AV.ptr (List.length [((26 : Nat), [(AV.v (Value.int IntKind.i64 a)), (AV.v (Value.int IntKind.i64 b)), (AV.v (Value.int IntKind.i64 c)), (AV.v (Value.int IntKind.i64 d)), (AV.v (Value.int IntKind.i64 e)), (AV.v (Value.int IntKind.i64 f)), (AV.v (Value.int IntKind.i64 g)), (AV.v (Value.int IntKind.i64 ph)), (AV.lst (1 : Nat) (List.map gi M) Tip.no)])]) (0 : Nat)), (AV.v (Value.int IntKind.i64 (0 : Int))), (AV.v (Value.tuple (Array.mk (@List.nil Go.Value)))), (AV.v (Value.tuple (Array.mk (@List.nil Go.Value)))), AV.dead, AV.dead, AV.dead, AV.dead, AV.dead, AV.dead, AV.dead, AV.dead, AV.dead, AV.dead, AV.dead, AV.dead, AV.dead, AV.dead, AV.dead, AV.dead, AV.dead, AV.dead, AV.dead, AV.dead, AV.dead, AV.dead, AV.dead, AV.dead, AV.dead, AV.dead, AV.dead, AV.dead, AV.dead, AV.dead, AV.dead, AV.dead, AV.dead, AV.dead, AV.dead, AV.dead, AV.dead, AV.dead, AV.dead, AV.dead, AV.dead, AV.dead, AV.dead, AV.dead] (AH.mk [((26 : Nat), [(AV.v (Value.int IntKind.i64 a)), (AV.v (Value.int IntKind.i64 b)), (AV.v (Value.int IntKind.i64 c)), (AV.v (Value.int IntKind.i64 d)), (AV.v (Value.int IntKind.i64 e)), (AV.v (Value.int IntKind.i64 f)), (AV.v (Value.int IntKind.i64 g)), (AV.v (Value.int IntKind.i64 ph)), (AV.lst (1 : Nat) (List.map gi M) Tip.no)]), ((26 : Nat), [(AV.v (Value.int IntKind.i64 a)), (AV.v (Value.int IntKind.i64 b)), (AV.v (Value.int IntKind.i64 c)), (AV.v (Value.int IntKind.i64 d)), (AV.v (Value.int IntKind.i64 e)), (AV.v (Value.int IntKind.i64 f)), (AV.v (Value.int IntKind.i64 g)), (AV.v (Value.int IntKind.i64 ph)), (AV.lst (1 : Nat) (List.map gi M) Tip.no)])] (@List.nil Nat) (0 : Nat) (0 : Nat) true (@List.nil (Prod Nat Bool)) True)))) else (bif (!((S).1 (AV.lst (1 : Nat) (List.map gi M) Tip.no) (AV.v (Value.int IntKind.i64 x)))) then (some ((cdb True (rhOk [(AV.lst (1 : Nat) (List.map gi M) Tip.no), (AV.v (Value.int IntKind.i64 x))])) ∧ (R Exit.ret [AV.dead, (AV.v (Value.int IntKind.i64 x)), AV.dead, (AV.ptr (0 : Nat) (0 : Nat)), AV.dead, AV.dead, (AV.ptr (List.length [((26 : Nat), [(AV.v (Value.int IntKind.i64 a)), (AV.v (Value.int IntKind.i64 b)), (AV.v (Value.int IntKind.i64 c)), (AV.v (Value.int IntKind.i64 d)), (AV.v (Value.int IntKind.i64 e)), (AV.v (Value.int IntKind.i64 f)), (AV.v (Value.int IntKind.i64 g)), (AV.v (Value.int IntKind.i64 ph)), (AV.lst (1 : Nat) (List.map gi M) Tip.no)])]) (0 : Nat)), (AV.v (Value.int IntKind.i64 (0 : Int))), (AV.v (Value.tuple (Array.mk (@List.nil Go.Value)))), (AV.v (Value.tuple (Array.mk (@List.nil Go.Value)))), AV.dead, AV.dead, AV.dead, AV.dead, AV.dead, AV.dead, AV.dead, AV.dead, AV.dead, AV.dead, AV.dead, AV.dead, AV.dead, AV.dead, AV.dead, AV.dead, AV.dead, AV.dead, AV.dead, AV.dead, AV.dead, AV.dead, AV.dead, AV.dead, AV.dead, AV.dead, AV.dead, AV.dead, AV.dead, AV.dead, AV.dead, AV.dead, AV.dead, AV.dead, AV.dead, AV.dead, AV.dead, AV.dead, AV.dead, AV.dead, AV.dead, AV.dead, AV.dead, AV.dead] (AH.mk [((26 : Nat), [(AV.v (Value.int IntKind.i64 a)), (AV.v (Value.int IntKind.i64 b)), (AV.v (Value.int IntKind.i64 c)), (AV.v (Value.int IntKind.i64 d)), (AV.v (Value.int IntKind.i64 e)), (AV.v (Value.int IntKind.i64 f)), (AV.v (Value.int IntKind.i64 g)), (AV.v (Value.int IntKind.i64 ph)), (AV.lst (1 : Nat) (List.map gi M) Tip.no)]), ((26 : Nat), [(AV.v (Value.int IntKind.i64 a)), (AV.v (Value.int IntKind.i64 b)), (AV.v (Value.int IntKind.i64 c)), (AV.v (Value.int IntKind.i64 d)), (AV.v (Value.int IntKind.i64 e)), (AV.v (Value.int IntKind.i64 f)), (AV.v (Value.int IntKind.i64 g)), (AV.v (Value.int IntKind.i64 ph)), (AV.lst (1 : Nat) (List.map gi M) Tip.no)])] (@List.nil Nat) (0 : Nat) (0 : Nat) true (@List.nil (Prod Nat Bool)) True)))) else (bif (y != (1 : Int)) then (some ((cdb True (rhOk [(AV.lst (1 : Nat) (List.map gi M) Tip.no), (AV.v (Value.int IntKind.i64 x))])) ∧ (R Exit.ret [AV.dead, (AV.v (Value.int IntKind.i64 x)), AV.dead, (AV.ptr (0 : Nat) (0 : Nat)), AV.dead, AV.dead, (AV.ptr (List.length [((26 : Nat), [(AV.v (Value.int IntKind.i64 a)), (AV.v (Value.int IntKind.i64 b)), (AV.v (Value.int IntKind.i64 c)), (AV.v (Value.int IntKind.i64 d)), (AV.v (Value.int IntKind.i64 e)), (AV.v (Value.int IntKind.i64 f)), (AV.v (Value.int IntKind.i64 g)), (AV.v (Value.int IntKind.i64 ph)), (AV.lst (1 : Nat) (List.map gi M) Tip.no)])]) (0 : Nat)), (AV.v (Value.int IntKind.i64 (7 : Int))), (AV.v (Value.tuple (Array.mk (@List.nil Go.Value)))), (AV.v (Value.tuple (Array.mk (@List.nil Go.Value)))), AV.dead, AV.dead, AV.dead, AV.dead, AV.dead, AV.dead, AV.dead, AV.dead, AV.dead, AV.dead, AV.dead, AV.dead, AV.dead, AV.dead, AV.dead, AV.dead, AV.dead, AV.dead, AV.dead, AV.dead, AV.dead, AV.dead, AV.dead, AV.dead, AV.dead, AV.dead, AV.dead, AV.dead, AV.dead, AV.dead, AV.dead, AV.dead, AV.dead, AV.dead, AV.dead, AV.dead, AV.dead, AV.dead, AV.dead, AV.dead, AV.dead, AV.dead, AV.dead, AV.dead] (AH.mk [((26 : Nat), [(AV.v (Value.int IntKind.i64 a)), (AV.v (Value.int IntKind.i64 b)), (AV.v (Value.int IntKind.i64 c)), (AV.v (Value.int IntKind.i64 d)), (AV.v (Value.int IntKind.i64 e)), (AV.v (Value.int IntKind.i64 f)), (AV.v (Value.int IntKind.i64 g)), (AV.v (Value.int IntKind.i64 ph)), (AV.lst (1 : Nat) (List.map gi M) Tip.no)]), ((26 : Nat), [(AV.v (Value.int IntKind.i64 (0 : Int))), (AV.v (Value.int IntKind.i64 (0 : Int))), (AV.v (Value.int IntKind.i64 (0 : Int))), (AV.v (Value.int IntKind.i64 (0 : Int))), (AV.v (Value.int IntKind.i64 (0 : Int))), (AV.v (Value.int IntKind.i64 (0 : Int))), (AV.v (Value.int IntKind.i64 (0 : Int))), (AV.v (Value.int IntKind.i64 (0 : Int))), (AV.v (Value.slice none (0 : Nat) (0 : Nat)))])] (@List.nil Nat) (0 : Nat) (0 : Nat) true (@List.nil (Prod Nat Bool)) True)))) else (some ((cdb True (rhOk [(AV.lst (1 : Nat) (List.map gi M) Tip.no), (AV.v (Value.int IntKind.i64 x))])) ∧ (R Exit.normal [AV.dead, (AV.v (Value.int IntKind.i64 x)), AV.dead, (AV.ptr (0 : Nat) (0 : Nat)), AV.dead, AV.dead, (AV.ptr (List.length [((26 : Nat), [(AV.v (Value.int IntKind.i64 a)), (AV.v (Value.int IntKind.i64 b)), (AV.v (Value.int IntKind.i64 c)), (AV.v (Value.int IntKind.i64 d)), (AV.v (Value.int IntKind.i64 e)), (AV.v (Value.int IntKind.i64 f)), (AV.v (Value.int IntKind.i64 g)), (AV.v (Value.int IntKind.i64 ph)), (AV.lst (1 : Nat) (List.map gi M) Tip.no)])]) (0 : Nat)), (AV.v (Value.int IntKind.i64 (0 : Int))), (AV.v (Value.slice none (0 : Nat) (0 : Nat))), (AV.v (Value.int IntKind.i64 (0 : Int))), AV.dead, AV.dead, AV.dead, AV.dead, AV.dead, AV.dead, AV.dead, AV.dead, AV.dead, AV.dead, AV.dead, AV.dead, AV.dead, AV.dead, AV.dead, AV.dead, AV.dead, AV.dead, AV.dead, AV.dead, AV.dead, AV.dead, AV.dead, AV.dead, AV.dead, AV.dead, AV.dead, AV.dead, AV.dead, AV.dead, AV.dead, AV.dead, AV.dead, AV.dead, AV.dead, AV.dead, AV.dead, AV.dead, AV.dead, AV.dead, AV.dead, AV.dead, AV.dead, AV.dead] (AH.mk [((26 : Nat), [(AV.v (Value.int IntKind.i64 a)), (AV.v (Value.int IntKind.i64 b)), (AV.v (Value.int IntKind.i64 c)), (AV.v (Value.int IntKind.i64 d)), (AV.v (Value.int IntKind.i64 e)), (AV.v (Value.int IntKind.i64 f)), (AV.v (Value.int IntKind.i64 g)), (AV.v (Value.int IntKind.i64 ph)), (AV.lst (1 : Nat) (List.map gi M) Tip.no)]), ((26 : Nat), [(AV.v (Value.int IntKind.i64 (0 : Int))), (AV.v (Value.int IntKind.i64 (0 : Int))), (AV.v (Value.int IntKind.i64 (0 : Int))), (AV.v (Value.int IntKind.i64 (0 : Int))), (AV.v (Value.int IntKind.i64 (0 : Int))), (AV.v (Value.int IntKind.i64 (0 : Int))), (AV.v (Value.int IntKind.i64 (0 : Int))), (AV.v (Value.int IntKind.i64 (0 : Int))), (AV.v (Value.slice none (0 : Nat) (0 : Nat)))])] (@List.nil Nat) (0 : Nat) (0 : Nat) true (@List.nil (Prod Nat Bool)) True))))))) := by kernel_rfl
theorem rw_in (S : JS) (a b c d e f g ph : Int) (M out : List Int) (v : Nat) (x i : Int) (R : Exit → List AV → AH → Prop) : code nro muJ (prJ S) 8 (sub (bodyOf 10) [1, 1, 1, 1, 0, 1, 0, 0]) (rwA x (.lst 1 (out.map gi) (.tp 0 v)) i) (waH 26 a b c d e f g ph M [v]) (kp [1, 3, 6, 7, 8, 9] R) =
    (bif (decide (i < ((List.length (List.map gi M)) : Int))) then (bif ((exInt (List.getD (List.map gi M) (Int.toNat i) AV.dead)) != x) then (some ((cdb (cds (cds True (elemB Try.prog (3 : Nat) (List.map gi M) i) (((0 : Int) ≤ i) ∧ (((List.map gi M)[(Int.toNat i)]?) = (some (AV.v (Value.int IntKind.i64 (exInt (List.getD (List.map gi M) (Int.toNat i) AV.dead)))))))) (elemB Try.prog (3 : Nat) (List.map gi M) i) (((0 : Int) ≤ i) ∧ (((List.map gi M)[(Int.toNat i)]?) = (some (AV.v (Value.int IntKind.i64 (exInt (List.getD (List.map gi M) (Int.toNat i) AV.dead)))))))) (decide ((((((List.length (List.map gi out)) + (List.length [(AV.v (Value.int IntKind.i64 (exInt (List.getD (List.map gi M) (Int.toNat i) AV.dead))))])) * (8 : Nat)) ≤ (140737488355328 : Nat)) ∧ (((List.length (List.map gi out)) + (List.length [(AV.v (Value.int IntKind.i64 (exInt (List.getD (List.map gi M) (Int.toNat i) AV.dead))))])) ≤ (9223372036854775807 : Nat))) ∧ (v = v)))) ∧ (R Exit.normal [AV.dead, (AV.v (Value.int IntKind.i64 x)), AV.dead, (AV.ptr (0 : Nat) (0 : Nat)), AV.dead, AV.dead, (AV.ptr (1 : Nat) (0 : Nat)), (AV.v (Value.int IntKind.i64 (0 : Int))), (AV.lst (1 : Nat) ((List.map gi out) ++ [(AV.v (Value.int IntKind.i64 (exInt (List.getD (List.map gi M) (Int.toNat i) AV.dead))))]) (Tip.tp (0 : Nat) (v + (1 : Nat)))), (AV.v (Value.int IntKind.i64 (IntKind.wrap IntKind.i64 (i + (1 : Int))))), AV.dead, AV.dead, AV.dead, AV.dead, AV.dead, AV.dead, AV.dead, AV.dead, AV.dead, AV.dead, AV.dead, AV.dead, AV.dead, AV.dead, AV.dead, AV.dead, AV.dead, AV.dead, AV.dead, AV.dead, AV.dead, AV.dead, AV.dead, AV.dead, AV.dead, AV.dead, AV.dead, AV.dead, AV.dead, AV.dead, AV.dead, AV.dead, AV.dead, AV.dead, AV.dead, AV.dead, AV.dead, AV.dead, AV.dead, AV.dead, AV.dead, AV.dead, AV.dead, AV.dead] (AH.mk [((26 : Nat), [(AV.v (Value.int IntKind.i64 a)), (AV.v (Value.int IntKind.i64 b)), (AV.v (Value.int IntKind.i64 c)), (AV.v (Value.int IntKind.i64 d)), (AV.v (Value.int IntKind.i64 e)), (AV.v (Value.int IntKind.i64 f)), (AV.v (Value.int IntKind.i64 g)), (AV.v (Value.int IntKind.i64 ph)), (AV.lst (1 : Nat) (List.map gi M) Tip.no)]), ((26 : Nat), [(AV.v (Value.int IntKind.i64 (0 : Int))), (AV.v (Value.int IntKind.i64 (0 : Int))), (AV.v (Value.int IntKind.i64 (0 : Int))), (AV.v (Value.int IntKind.i64 (0 : Int))), (AV.v (Value.int IntKind.i64 (0 : Int))), (AV.v (Value.int IntKind.i64 (0 : Int))), (AV.v (Value.int IntKind.i64 (0 : Int))), (AV.v (Value.int IntKind.i64 (0 : Int))), (AV.v (Value.slice none (0 : Nat) (0 : Nat)))])] [(v + (1 : Nat))] (0 : Nat) (0 : Nat) true (@List.nil (Prod Nat Bool)) True)))) else (some ((cds True (elemB Try.prog (3 : Nat) (List.map gi M) i) (((0 : Int) ≤ i) ∧ (((List.map gi M)[(Int.toNat i)]?) = (some (AV.v (Value.int IntKind.i64 (exInt (List.getD (List.map gi M) (Int.toNat i) AV.dead)))))))) ∧ (R Exit.normal [AV.dead, (AV.v (Value.int IntKind.i64 x)), AV.dead, (AV.ptr (0 : Nat) (0 : Nat)), AV.dead, AV.dead, (AV.ptr (1 : Nat) (0 : Nat)), (AV.v (Value.int IntKind.i64 (0 : Int))), (AV.lst (1 : Nat) (List.map gi out) (Tip.tp (0 : Nat) v)), (AV.v (Value.int IntKind.i64 (IntKind.wrap IntKind.i64 (i + (1 : Int))))), AV.dead, AV.dead, AV.dead, AV.dead, AV.dead, AV.dead, AV.dead, AV.dead, AV.dead, AV.dead, AV.dead, AV.dead, AV.dead, AV.dead, AV.dead, AV.dead, AV.dead, AV.dead, AV.dead, AV.dead, AV.dead, AV.dead, AV.dead, AV.dead, AV.dead, AV.dead, AV.dead, AV.dead, AV.dead, AV.dead, AV.dead, AV.dead, AV.dead, AV.dead, AV.dead, AV.dead, AV.dead, AV.dead, AV.dead, AV.dead, AV.dead, AV.dead, AV.dead, AV.dead] (AH.mk [((26 : Nat), [(AV.v (Value.int IntKind.i64 a)), (AV.v (Value.int IntKind.i64 b)), (AV.v (Value.int IntKind.i64 c)), (AV.v (Value.int IntKind.i64 d)), (AV.v (Value.int IntKind.i64 e)), (AV.v (Value.int IntKind.i64 f)), (AV.v (Value.int IntKind.i64 g)), (AV.v (Value.int IntKind.i64 ph)), (AV.lst (1 : Nat) (List.map gi M) Tip.no)]), ((26 : Nat), [(AV.v (Value.int IntKind.i64 (0 : Int))), (AV.v (Value.int IntKind.i64 (0 : Int))), (AV.v (Value.int IntKind.i64 (0 : Int))), (AV.v (Value.int IntKind.i64 (0 : Int))), (AV.v (Value.int IntKind.i64 (0 : Int))), (AV.v (Value.int IntKind.i64 (0 : Int))), (AV.v (Value.int IntKind.i64 (0 : Int))), (AV.v (Value.int IntKind.i64 (0 : Int))), (AV.v (Value.slice none (0 : Nat) (0 : Nat)))])] [v] (0 : Nat) (0 : Nat) true (@List.nil (Prod Nat Bool)) True))))) else (some (True ∧ (R (Exit.exit (0 : Nat)) [AV.dead, (AV.v (Value.int IntKind.i64 x)), AV.dead, (AV.ptr (0 : Nat) (0 : Nat)), AV.dead, AV.dead, (AV.ptr (1 : Nat) (0 : Nat)), (AV.v (Value.int IntKind.i64 (0 : Int))), (AV.lst (1 : Nat) (List.map gi out) (Tip.tp (0 : Nat) v)), (AV.v (Value.int IntKind.i64 i)), AV.dead, AV.dead, AV.dead, AV.dead, AV.dead, AV.dead, AV.dead, AV.dead, AV.dead, AV.dead, AV.dead, AV.dead, AV.dead, AV.dead, AV.dead, AV.dead, AV.dead, AV.dead, AV.dead, AV.dead, AV.dead, AV.dead, AV.dead, AV.dead, AV.dead, AV.dead, AV.dead, AV.dead, AV.dead, AV.dead, AV.dead, AV.dead, AV.dead, AV.dead, AV.dead, AV.dead, AV.dead, AV.dead, AV.dead, AV.dead, AV.dead, AV.dead, AV.dead, AV.dead] (AH.mk [((26 : Nat), [(AV.v (Value.int IntKind.i64 a)), (AV.v (Value.int IntKind.i64 b)), (AV.v (Value.int IntKind.i64 c)), (AV.v (Value.int IntKind.i64 d)), (AV.v (Value.int IntKind.i64 e)), (AV.v (Value.int IntKind.i64 f)), (AV.v (Value.int IntKind.i64 g)), (AV.v (Value.int IntKind.i64 ph)), (AV.lst (1 : Nat) (List.map gi M) Tip.no)]), ((26 : Nat), [(AV.v (Value.int IntKind.i64 (0 : Int))), (AV.v (Value.int IntKind.i64 (0 : Int))), (AV.v (Value.int IntKind.i64 (0 : Int))), (AV.v (Value.int IntKind.i64 (0 : Int))), (AV.v (Value.int IntKind.i64 (0 : Int))), (AV.v (Value.int IntKind.i64 (0 : Int))), (AV.v (Value.int IntKind.i64 (0 : Int))), (AV.v (Value.int IntKind.i64 (0 : Int))), (AV.v (Value.slice none (0 : Nat) (0 : Nat)))])] [v] (0 : Nat) (0 : Nat) true (@List.nil (Prod Nat Bool)) True))))) := by kernel_rfl
theorem rw_post (S : JS) (a b c d e f g ph : Int) (M out : List Int) (v : Nat) (x i : Int) (R : Exit → List AV → AH → Prop) : codeL nro muJ (prJ S) 8 ((flatten (bodyOf 10)).drop 8) (rwA x (.lst 1 (out.map gi) (.tp 0 v)) i) (waH 26 a b c d e f g ph M [v]) (kp [6, 7] R) =
    (bif (((List.length (List.map gi out)) : Int) == (0 : Int)) then (some (True ∧ (R Exit.ret [AV.dead, AV.dead, AV.dead, AV.dead, AV.dead, AV.dead, (AV.ptr (1 : Nat) (0 : Nat)), (AV.v (Value.int IntKind.i64 (1 : Int))), AV.dead, AV.dead, AV.dead, AV.dead, AV.dead, AV.dead, AV.dead, AV.dead, AV.dead, AV.dead, AV.dead, AV.dead, AV.dead, AV.dead, AV.dead, AV.dead, AV.dead, AV.dead, AV.dead, AV.dead, AV.dead, AV.dead, AV.dead, AV.dead, AV.dead, AV.dead, AV.dead, AV.dead, AV.dead, AV.dead, AV.dead, AV.dead, AV.dead, AV.dead, AV.dead, AV.dead, AV.dead, AV.dead, AV.dead, AV.dead, AV.dead, AV.dead, AV.dead, AV.dead, AV.dead, AV.dead] (AH.mk [((26 : Nat), [(AV.v (Value.int IntKind.i64 a)), (AV.v (Value.int IntKind.i64 b)), (AV.v (Value.int IntKind.i64 c)), (AV.v (Value.int IntKind.i64 d)), (AV.v (Value.int IntKind.i64 e)), (AV.v (Value.int IntKind.i64 f)), (AV.v (Value.int IntKind.i64 g)), (AV.v (Value.int IntKind.i64 ph)), (AV.lst (1 : Nat) (List.map gi M) Tip.no)]), ((26 : Nat), [(AV.v (Value.int IntKind.i64 (0 : Int))), (AV.v (Value.int IntKind.i64 (0 : Int))), (AV.v (Value.int IntKind.i64 (0 : Int))), (AV.v (Value.int IntKind.i64 (0 : Int))), (AV.v (Value.int IntKind.i64 (0 : Int))), (AV.v (Value.int IntKind.i64 (0 : Int))), (AV.v (Value.int IntKind.i64 (0 : Int))), (AV.v (Value.int IntKind.i64 (0 : Int))), (AV.v (Value.slice none (0 : Nat) (0 : Nat)))])] [v] (0 : Nat) (0 : Nat) true (@List.nil (Prod Nat Bool)) True)))) else (some (True ∧ (R Exit.ret [AV.dead, AV.dead, AV.dead, AV.dead, AV.dead, AV.dead, (AV.ptr (1 : Nat) (0 : Nat)), (AV.v (Value.int IntKind.i64 (0 : Int))), AV.dead, AV.dead, AV.dead, AV.dead, AV.dead, AV.dead, AV.dead, AV.dead, AV.dead, AV.dead, AV.dead, AV.dead, AV.dead, AV.dead, AV.dead, AV.dead, AV.dead, AV.dead, AV.dead, AV.dead, AV.dead, AV.dead, AV.dead, AV.dead, AV.dead, AV.dead, AV.dead, AV.dead, AV.dead, AV.dead, AV.dead, AV.dead, AV.dead, AV.dead, AV.dead, AV.dead, AV.dead, AV.dead, AV.dead, AV.dead, AV.dead, AV.dead, AV.dead, AV.dead, AV.dead, AV.dead] (AH.mk [((26 : Nat), [(AV.v (Value.int IntKind.i64 a)), (AV.v (Value.int IntKind.i64 b)), (AV.v (Value.int IntKind.i64 c)), (AV.v (Value.int IntKind.i64 d)), (AV.v (Value.int IntKind.i64 e)), (AV.v (Value.int IntKind.i64 f)), (AV.v (Value.int IntKind.i64 g)), (AV.v (Value.int IntKind.i64 ph)), (AV.lst (1 : Nat) (List.map gi M) Tip.no)]), ((26 : Nat), [(AV.v (Value.int IntKind.i64 a)), (AV.v (Value.int IntKind.i64 b)), (AV.v (Value.int IntKind.i64 c)), (AV.v (Value.int IntKind.i64 d)), (AV.v (Value.int IntKind.i64 e)), (AV.v (Value.int IntKind.i64 f)), (AV.v (Value.int IntKind.i64 g)), (AV.v (Value.int IntKind.i64 (2 : Int))), (AV.lst (1 : Nat) (List.map gi out) (Tip.tp (0 : Nat) v))])] [v] (0 : Nat) (0 : Nat) true (@List.nil (Prod Nat Bool)) True))))) := by kernel_rfl
theorem sa_pre (S : JS) (a b c d e f g ph : Int) (M : List Int) (a' b' c' d' e' f' g' ph' : Int) (M' : List Int) (R : Exit → List AV → AH → Prop) : codeL nro muJ (prJ S) 8 ((flatten (bodyOf 12)).take 4) ([jbA a b c d e f g ph M, jbA a' b' c' d' e' f' g' ph' M'] ++ List.replicate 50 (.v undef)) (hp [] []) (kp [2, 3, 4, 5] R) =
    (bif (!((a == a') && ((b == b') && ((c == c') && ((d == d') && ((e == e') && ((f == f') && ((g == g') && true)))))))) then (some (True ∧ (R Exit.ret [AV.dead, AV.dead, (AV.ptr (0 : Nat) (0 : Nat)), (AV.ptr (List.length [((26 : Nat), [(AV.v (Value.int IntKind.i64 a)), (AV.v (Value.int IntKind.i64 b)), (AV.v (Value.int IntKind.i64 c)), (AV.v (Value.int IntKind.i64 d)), (AV.v (Value.int IntKind.i64 e)), (AV.v (Value.int IntKind.i64 f)), (AV.v (Value.int IntKind.i64 g)), (AV.v (Value.int IntKind.i64 ph)), (AV.lst (1 : Nat) (List.map gi M) Tip.no)])]) (0 : Nat)), (AV.v (Value.bool false)), (AV.v (Value.tuple (Array.mk (@List.nil Go.Value)))), AV.dead, AV.dead, AV.dead, AV.dead, AV.dead, AV.dead, AV.dead, AV.dead, AV.dead, AV.dead, AV.dead, AV.dead, AV.dead, AV.dead, AV.dead, AV.dead, AV.dead, AV.dead, AV.dead, AV.dead, AV.dead, AV.dead, AV.dead, AV.dead, AV.dead, AV.dead, AV.dead, AV.dead, AV.dead, AV.dead, AV.dead, AV.dead, AV.dead, AV.dead, AV.dead, AV.dead, AV.dead, AV.dead, AV.dead, AV.dead, AV.dead, AV.dead, AV.dead, AV.dead, AV.dead, AV.dead] (AH.mk [((26 : Nat), [(AV.v (Value.int IntKind.i64 a)), (AV.v (Value.int IntKind.i64 b)), (AV.v (Value.int IntKind.i64 c)), (AV.v (Value.int IntKind.i64 d)), (AV.v (Value.int IntKind.i64 e)), (AV.v (Value.int IntKind.i64 f)), (AV.v (Value.int IntKind.i64 g)), (AV.v (Value.int IntKind.i64 ph)), (AV.lst (1 : Nat) (List.map gi M) Tip.no)]), ((26 : Nat), [(AV.v (Value.int IntKind.i64 a')), (AV.v (Value.int IntKind.i64 b')), (AV.v (Value.int IntKind.i64 c')), (AV.v (Value.int IntKind.i64 d')), (AV.v (Value.int IntKind.i64 e')), (AV.v (Value.int IntKind.i64 f')), (AV.v (Value.int IntKind.i64 g')), (AV.v (Value.int IntKind.i64 ph')), (AV.lst (1 : Nat) (List.map gi M') Tip.no)])] (@List.nil Nat) (0 : Nat) (0 : Nat) true (@List.nil (Prod Nat Bool)) True)))) else (bif (ph != ph') then (some (True ∧ (R Exit.ret [AV.dead, AV.dead, (AV.ptr (0 : Nat) (0 : Nat)), (AV.ptr (List.length [((26 : Nat), [(AV.v (Value.int IntKind.i64 a)), (AV.v (Value.int IntKind.i64 b)), (AV.v (Value.int IntKind.i64 c)), (AV.v (Value.int IntKind.i64 d)), (AV.v (Value.int IntKind.i64 e)), (AV.v (Value.int IntKind.i64 f)), (AV.v (Value.int IntKind.i64 g)), (AV.v (Value.int IntKind.i64 ph)), (AV.lst (1 : Nat) (List.map gi M) Tip.no)])]) (0 : Nat)), (AV.v (Value.bool false)), (AV.v (Value.tuple (Array.mk (@List.nil Go.Value)))), AV.dead, AV.dead, AV.dead, AV.dead, AV.dead, AV.dead, AV.dead, AV.dead, AV.dead, AV.dead, AV.dead, AV.dead, AV.dead, AV.dead, AV.dead, AV.dead, AV.dead, AV.dead, AV.dead, AV.dead, AV.dead, AV.dead, AV.dead, AV.dead, AV.dead, AV.dead, AV.dead, AV.dead, AV.dead, AV.dead, AV.dead, AV.dead, AV.dead, AV.dead, AV.dead, AV.dead, AV.dead, AV.dead, AV.dead, AV.dead, AV.dead, AV.dead, AV.dead, AV.dead, AV.dead, AV.dead] (AH.mk [((26 : Nat), [(AV.v (Value.int IntKind.i64 a)), (AV.v (Value.int IntKind.i64 b)), (AV.v (Value.int IntKind.i64 c)), (AV.v (Value.int IntKind.i64 d)), (AV.v (Value.int IntKind.i64 e)), (AV.v (Value.int IntKind.i64 f)), (AV.v (Value.int IntKind.i64 g)), (AV.v (Value.int IntKind.i64 ph)), (AV.lst (1 : Nat) (List.map gi M) Tip.no)]), ((26 : Nat), [(AV.v (Value.int IntKind.i64 a')), (AV.v (Value.int IntKind.i64 b')), (AV.v (Value.int IntKind.i64 c')), (AV.v (Value.int IntKind.i64 d')), (AV.v (Value.int IntKind.i64 e')), (AV.v (Value.int IntKind.i64 f')), (AV.v (Value.int IntKind.i64 g')), (AV.v (Value.int IntKind.i64 ph')), (AV.lst (1 : Nat) (List.map gi M') Tip.no)])] (@List.nil Nat) (0 : Nat) (0 : Nat) true (@List.nil (Prod Nat Bool)) True)))) else (bif (((List.length (List.map gi M)) : Int) != ((List.length (List.map gi M')) : Int)) then (some (True ∧ (R Exit.ret [AV.dead, AV.dead, (AV.ptr (0 : Nat) (0 : Nat)), (AV.ptr (List.length [((26 : Nat), [(AV.v (Value.int IntKind.i64 a)), (AV.v (Value.int IntKind.i64 b)), (AV.v (Value.int IntKind.i64 c)), (AV.v (Value.int IntKind.i64 d)), (AV.v (Value.int IntKind.i64 e)), (AV.v (Value.int IntKind.i64 f)), (AV.v (Value.int IntKind.i64 g)), (AV.v (Value.int IntKind.i64 ph)), (AV.lst (1 : Nat) (List.map gi M) Tip.no)])]) (0 : Nat)), (AV.v (Value.bool false)), (AV.v (Value.tuple (Array.mk (@List.nil Go.Value)))), AV.dead, AV.dead, AV.dead, AV.dead, AV.dead, AV.dead, AV.dead, AV.dead, AV.dead, AV.dead, AV.dead, AV.dead, AV.dead, AV.dead, AV.dead, AV.dead, AV.dead, AV.dead, AV.dead, AV.dead, AV.dead, AV.dead, AV.dead, AV.dead, AV.dead, AV.dead, AV.dead, AV.dead, AV.dead, AV.dead, AV.dead, AV.dead, AV.dead, AV.dead, AV.dead, AV.dead, AV.dead, AV.dead, AV.dead, AV.dead, AV.dead, AV.dead, AV.dead, AV.dead, AV.dead, AV.dead] (AH.mk [((26 : Nat), [(AV.v (Value.int IntKind.i64 a)), (AV.v (Value.int IntKind.i64 b)), (AV.v (Value.int IntKind.i64 c)), (AV.v (Value.int IntKind.i64 d)), (AV.v (Value.int IntKind.i64 e)), (AV.v (Value.int IntKind.i64 f)), (AV.v (Value.int IntKind.i64 g)), (AV.v (Value.int IntKind.i64 ph)), (AV.lst (1 : Nat) (List.map gi M) Tip.no)]), ((26 : Nat), [(AV.v (Value.int IntKind.i64 a')), (AV.v (Value.int IntKind.i64 b')), (AV.v (Value.int IntKind.i64 c')), (AV.v (Value.int IntKind.i64 d')), (AV.v (Value.int IntKind.i64 e')), (AV.v (Value.int IntKind.i64 f')), (AV.v (Value.int IntKind.i64 g')), (AV.v (Value.int IntKind.i64 ph')), (AV.lst (1 : Nat) (List.map gi M') Tip.no)])] (@List.nil Nat) (0 : Nat) (0 : Nat) true (@List.nil (Prod Nat Bool)) True)))) else (some (True ∧ (R Exit.normal [AV.dead, AV.dead, (AV.ptr (0 : Nat) (0 : Nat)), (AV.ptr (List.length [((26 : Nat), [(AV.v (Value.int IntKind.i64 a)), (AV.v (Value.int IntKind.i64 b)), (AV.v (Value.int IntKind.i64 c)), (AV.v (Value.int IntKind.i64 d)), (AV.v (Value.int IntKind.i64 e)), (AV.v (Value.int IntKind.i64 f)), (AV.v (Value.int IntKind.i64 g)), (AV.v (Value.int IntKind.i64 ph)), (AV.lst (1 : Nat) (List.map gi M) Tip.no)])]) (0 : Nat)), (AV.v (Value.bool false)), (AV.v (Value.int IntKind.i64 (0 : Int))), AV.dead, AV.dead, AV.dead, AV.dead, AV.dead, AV.dead, AV.dead, AV.dead, AV.dead, AV.dead, AV.dead, AV.dead, AV.dead, AV.dead, AV.dead, AV.dead, AV.dead, AV.dead, AV.dead, AV.dead, AV.dead, AV.dead, AV.dead, AV.dead, AV.dead, AV.dead, AV.dead, AV.dead, AV.dead, AV.dead, AV.dead, AV.dead, AV.dead, AV.dead, AV.dead, AV.dead, AV.dead, AV.dead, AV.dead, AV.dead, AV.dead, AV.dead, AV.dead, AV.dead, AV.dead, AV.dead] (AH.mk [((26 : Nat), [(AV.v (Value.int IntKind.i64 a)), (AV.v (Value.int IntKind.i64 b)), (AV.v (Value.int IntKind.i64 c)), (AV.v (Value.int IntKind.i64 d)), (AV.v (Value.int IntKind.i64 e)), (AV.v (Value.int IntKind.i64 f)), (AV.v (Value.int IntKind.i64 g)), (AV.v (Value.int IntKind.i64 ph)), (AV.lst (1 : Nat) (List.map gi M) Tip.no)]), ((26 : Nat), [(AV.v (Value.int IntKind.i64 a')), (AV.v (Value.int IntKind.i64 b')), (AV.v (Value.int IntKind.i64 c')), (AV.v (Value.int IntKind.i64 d')), (AV.v (Value.int IntKind.i64 e')), (AV.v (Value.int IntKind.i64 f')), (AV.v (Value.int IntKind.i64 g')), (AV.v (Value.int IntKind.i64 ph')), (AV.lst (1 : Nat) (List.map gi M') Tip.no)])] (@List.nil Nat) (0 : Nat) (0 : Nat) true (@List.nil (Prod Nat Bool)) True))))))) := by kernel_rfl
theorem sa_in (S : JS) (a b c d e f g ph : Int) (M : List Int) (a' b' c' d' e' f' g' ph' : Int) (M' : List Int) (i : Int) (R : Exit → List AV → AH → Prop) : code nro muJ (prJ S) 8 (sub (bodyOf 12) [1, 1, 0, 1, 0, 0]) (saA i) (saH a b c d e f g ph M a' b' c' d' e' f' g' ph' M') (kp [2, 3, 4, 5] R) =
    (bif (decide (i < ((List.length (List.map gi M)) : Int))) then (bif (decide (i < ((List.length (List.map gi M')) : Int))) then (bif ((exInt (List.getD (List.map gi M) (Int.toNat i) AV.dead)) != (exInt (List.getD (List.map gi M') (Int.toNat i) AV.dead))) then (some ((cds (cds True (elemB Try.prog (3 : Nat) (List.map gi M) i) (((0 : Int) ≤ i) ∧ (((List.map gi M)[(Int.toNat i)]?) = (some (AV.v (Value.int IntKind.i64 (exInt (List.getD (List.map gi M) (Int.toNat i) AV.dead)))))))) (elemB Try.prog (3 : Nat) (List.map gi M') i) (((0 : Int) ≤ i) ∧ (((List.map gi M')[(Int.toNat i)]?) = (some (AV.v (Value.int IntKind.i64 (exInt (List.getD (List.map gi M') (Int.toNat i) AV.dead)))))))) ∧ (R Exit.ret [AV.dead, AV.dead, (AV.ptr (0 : Nat) (0 : Nat)), (AV.ptr (1 : Nat) (0 : Nat)), (AV.v (Value.bool false)), (AV.v (Value.int IntKind.i64 i)), AV.dead, AV.dead, AV.dead, AV.dead, AV.dead, AV.dead, AV.dead, AV.dead, AV.dead, AV.dead, AV.dead, AV.dead, AV.dead, AV.dead, AV.dead, AV.dead, AV.dead, AV.dead, AV.dead, AV.dead, AV.dead, AV.dead, AV.dead, AV.dead, AV.dead, AV.dead, AV.dead, AV.dead, AV.dead, AV.dead, AV.dead, AV.dead, AV.dead, AV.dead, AV.dead, AV.dead, AV.dead, AV.dead, AV.dead, AV.dead, AV.dead, AV.dead, AV.dead, AV.dead, AV.dead, AV.dead] (AH.mk [((26 : Nat), [(AV.v (Value.int IntKind.i64 a)), (AV.v (Value.int IntKind.i64 b)), (AV.v (Value.int IntKind.i64 c)), (AV.v (Value.int IntKind.i64 d)), (AV.v (Value.int IntKind.i64 e)), (AV.v (Value.int IntKind.i64 f)), (AV.v (Value.int IntKind.i64 g)), (AV.v (Value.int IntKind.i64 ph)), (AV.lst (1 : Nat) (List.map gi M) Tip.no)]), ((26 : Nat), [(AV.v (Value.int IntKind.i64 a')), (AV.v (Value.int IntKind.i64 b')), (AV.v (Value.int IntKind.i64 c')), (AV.v (Value.int IntKind.i64 d')), (AV.v (Value.int IntKind.i64 e')), (AV.v (Value.int IntKind.i64 f')), (AV.v (Value.int IntKind.i64 g')), (AV.v (Value.int IntKind.i64 ph')), (AV.lst (1 : Nat) (List.map gi M') Tip.no)])] (@List.nil Nat) (0 : Nat) (0 : Nat) true (@List.nil (Prod Nat Bool)) True)))) else (some ((cds (cds True (elemB Try.prog (3 : Nat) (List.map gi M) i) (((0 : Int) ≤ i) ∧ (((List.map gi M)[(Int.toNat i)]?) = (some (AV.v (Value.int IntKind.i64 (exInt (List.getD (List.map gi M) (Int.toNat i) AV.dead)))))))) (elemB Try.prog (3 : Nat) (List.map gi M') i) (((0 : Int) ≤ i) ∧ (((List.map gi M')[(Int.toNat i)]?) = (some (AV.v (Value.int IntKind.i64 (exInt (List.getD (List.map gi M') (Int.toNat i) AV.dead)))))))) ∧ (R Exit.normal [AV.dead, AV.dead, (AV.ptr (0 : Nat) (0 : Nat)), (AV.ptr (1 : Nat) (0 : Nat)), (AV.v (Value.bool false)), (AV.v (Value.int IntKind.i64 (IntKind.wrap IntKind.i64 (i + (1 : Int))))), AV.dead, AV.dead, AV.dead, AV.dead, AV.dead, AV.dead, AV.dead, AV.dead, AV.dead, AV.dead, AV.dead, AV.dead, AV.dead, AV.dead, AV.dead, AV.dead, AV.dead, AV.dead, AV.dead, AV.dead, AV.dead, AV.dead, AV.dead, AV.dead, AV.dead, AV.dead, AV.dead, AV.dead, AV.dead, AV.dead, AV.dead, AV.dead, AV.dead, AV.dead, AV.dead, AV.dead, AV.dead, AV.dead, AV.dead, AV.dead, AV.dead, AV.dead, AV.dead, AV.dead, AV.dead, AV.dead] (AH.mk [((26 : Nat), [(AV.v (Value.int IntKind.i64 a)), (AV.v (Value.int IntKind.i64 b)), (AV.v (Value.int IntKind.i64 c)), (AV.v (Value.int IntKind.i64 d)), (AV.v (Value.int IntKind.i64 e)), (AV.v (Value.int IntKind.i64 f)), (AV.v (Value.int IntKind.i64 g)), (AV.v (Value.int IntKind.i64 ph)), (AV.lst (1 : Nat) (List.map gi M) Tip.no)]), ((26 : Nat), [(AV.v (Value.int IntKind.i64 a')), (AV.v (Value.int IntKind.i64 b')), (AV.v (Value.int IntKind.i64 c')), (AV.v (Value.int IntKind.i64 d')), (AV.v (Value.int IntKind.i64 e')), (AV.v (Value.int IntKind.i64 f')), (AV.v (Value.int IntKind.i64 g')), (AV.v (Value.int IntKind.i64 ph')), (AV.lst (1 : Nat) (List.map gi M') Tip.no)])] (@List.nil Nat) (0 : Nat) (0 : Nat) true (@List.nil (Prod Nat Bool)) True))))) else (some (True ∧ (R (Exit.exit (0 : Nat)) [AV.dead, AV.dead, (AV.ptr (0 : Nat) (0 : Nat)), (AV.ptr (1 : Nat) (0 : Nat)), (AV.v (Value.bool false)), (AV.v (Value.int IntKind.i64 i)), AV.dead, AV.dead, AV.dead, AV.dead, AV.dead, AV.dead, AV.dead, AV.dead, AV.dead, AV.dead, AV.dead, AV.dead, AV.dead, AV.dead, AV.dead, AV.dead, AV.dead, AV.dead, AV.dead, AV.dead, AV.dead, AV.dead, AV.dead, AV.dead, AV.dead, AV.dead, AV.dead, AV.dead, AV.dead, AV.dead, AV.dead, AV.dead, AV.dead, AV.dead, AV.dead, AV.dead, AV.dead, AV.dead, AV.dead, AV.dead, AV.dead, AV.dead, AV.dead, AV.dead, AV.dead, AV.dead] (AH.mk [((26 : Nat), [(AV.v (Value.int IntKind.i64 a)), (AV.v (Value.int IntKind.i64 b)), (AV.v (Value.int IntKind.i64 c)), (AV.v (Value.int IntKind.i64 d)), (AV.v (Value.int IntKind.i64 e)), (AV.v (Value.int IntKind.i64 f)), (AV.v (Value.int IntKind.i64 g)), (AV.v (Value.int IntKind.i64 ph)), (AV.lst (1 : Nat) (List.map gi M) Tip.no)]), ((26 : Nat), [(AV.v (Value.int IntKind.i64 a')), (AV.v (Value.int IntKind.i64 b')), (AV.v (Value.int IntKind.i64 c')), (AV.v (Value.int IntKind.i64 d')), (AV.v (Value.int IntKind.i64 e')), (AV.v (Value.int IntKind.i64 f')), (AV.v (Value.int IntKind.i64 g')), (AV.v (Value.int IntKind.i64 ph')), (AV.lst (1 : Nat) (List.map gi M') Tip.no)])] (@List.nil Nat) (0 : Nat) (0 : Nat) true (@List.nil (Prod Nat Bool)) True))))) else (some (True ∧ (R (Exit.exit (0 : Nat)) [AV.dead, AV.dead, (AV.ptr (0 : Nat) (0 : Nat)), (AV.ptr (1 : Nat) (0 : Nat)), (AV.v (Value.bool false)), (AV.v (Value.int IntKind.i64 i)), AV.dead, AV.dead, AV.dead, AV.dead, AV.dead, AV.dead, AV.dead, AV.dead, AV.dead, AV.dead, AV.dead, AV.dead, AV.dead, AV.dead, AV.dead, AV.dead, AV.dead, AV.dead, AV.dead, AV.dead, AV.dead, AV.dead, AV.dead, AV.dead, AV.dead, AV.dead, AV.dead, AV.dead, AV.dead, AV.dead, AV.dead, AV.dead, AV.dead, AV.dead, AV.dead, AV.dead, AV.dead, AV.dead, AV.dead, AV.dead, AV.dead, AV.dead, AV.dead, AV.dead, AV.dead, AV.dead] (AH.mk [((26 : Nat), [(AV.v (Value.int IntKind.i64 a)), (AV.v (Value.int IntKind.i64 b)), (AV.v (Value.int IntKind.i64 c)), (AV.v (Value.int IntKind.i64 d)), (AV.v (Value.int IntKind.i64 e)), (AV.v (Value.int IntKind.i64 f)), (AV.v (Value.int IntKind.i64 g)), (AV.v (Value.int IntKind.i64 ph)), (AV.lst (1 : Nat) (List.map gi M) Tip.no)]), ((26 : Nat), [(AV.v (Value.int IntKind.i64 a')), (AV.v (Value.int IntKind.i64 b')), (AV.v (Value.int IntKind.i64 c')), (AV.v (Value.int IntKind.i64 d')), (AV.v (Value.int IntKind.i64 e')), (AV.v (Value.int IntKind.i64 f')), (AV.v (Value.int IntKind.i64 g')), (AV.v (Value.int IntKind.i64 ph')), (AV.lst (1 : Nat) (List.map gi M') Tip.no)])] (@List.nil Nat) (0 : Nat) (0 : Nat) true (@List.nil (Prod Nat Bool)) True))))) := by kernel_rfl
theorem sa_post (S : JS) (a b c d e f g ph : Int) (M : List Int) (a' b' c' d' e' f' g' ph' : Int) (M' : List Int) (i : Int) (R : Exit → List AV → AH → Prop) : codeL nro muJ (prJ S) 8 ((flatten (bodyOf 12)).drop 5) (saA i) (saH a b c d e f g ph M a' b' c' d' e' f' g' ph' M') (kp [4] R) =
    (some (True ∧ (R Exit.ret [AV.dead, AV.dead, AV.dead, AV.dead, (AV.v (Value.bool true)), AV.dead, AV.dead, AV.dead, AV.dead, AV.dead, AV.dead, AV.dead, AV.dead, AV.dead, AV.dead, AV.dead, AV.dead, AV.dead, AV.dead, AV.dead, AV.dead, AV.dead, AV.dead, AV.dead, AV.dead, AV.dead, AV.dead, AV.dead, AV.dead, AV.dead, AV.dead, AV.dead, AV.dead, AV.dead, AV.dead, AV.dead, AV.dead, AV.dead, AV.dead, AV.dead, AV.dead, AV.dead, AV.dead, AV.dead, AV.dead, AV.dead, AV.dead, AV.dead, AV.dead, AV.dead, AV.dead, AV.dead] (AH.mk [((26 : Nat), [(AV.v (Value.int IntKind.i64 a)), (AV.v (Value.int IntKind.i64 b)), (AV.v (Value.int IntKind.i64 c)), (AV.v (Value.int IntKind.i64 d)), (AV.v (Value.int IntKind.i64 e)), (AV.v (Value.int IntKind.i64 f)), (AV.v (Value.int IntKind.i64 g)), (AV.v (Value.int IntKind.i64 ph)), (AV.lst (1 : Nat) (List.map gi M) Tip.no)]), ((26 : Nat), [(AV.v (Value.int IntKind.i64 a')), (AV.v (Value.int IntKind.i64 b')), (AV.v (Value.int IntKind.i64 c')), (AV.v (Value.int IntKind.i64 d')), (AV.v (Value.int IntKind.i64 e')), (AV.v (Value.int IntKind.i64 f')), (AV.v (Value.int IntKind.i64 g')), (AV.v (Value.int IntKind.i64 ph')), (AV.lst (1 : Nat) (List.map gi M') Tip.no)])] (@List.nil Nat) (0 : Nat) (0 : Nat) true (@List.nil (Prod Nat Bool)) True)))) := by kernel_rfl
theorem jsame (S : JS) (a b c d e f g ph : Int) (M : List Int) (a' b' c' d' e' f' g' ph' : Int) (M' : List Int) (Φ : AV → Prop) : callK nro muJ (prJ S) 8 15 [jbA a b c d e f g ph M, jbA a' b' c' d' e' f' g' ph' M'] (hp [] []) (fun r h => some (h.cd ∧ Φ r)) =
    (bif ((a == a') && ((b == b') && ((c == c') && ((d == d') && ((e == e') && ((f == f') && ((g == g') && true))))))) then (bif (ph == ph') then (some ((cdb True (eqI [(AV.lst (1 : Nat) (List.map gi M) Tip.no), (AV.lst (1 : Nat) (List.map gi M') Tip.no)])) ∧ (Φ (AV.v (Value.bool ((S).6 (AV.lst (1 : Nat) (List.map gi M) Tip.no) (AV.lst (1 : Nat) (List.map gi M') Tip.no))))))) else (some (True ∧ (Φ (AV.v (Value.bool false)))))) else (some (True ∧ (Φ (AV.v (Value.bool false)))))) := by kernel_rfl
end Go.Proofs.Ytcajdmplggpfdaa.AE
namespace Go.Proofs.Ytcajdmplggpfdaa.AE
open Go.RowKit
def keepN (M : List Int) (x : Int) : List Int := M.filter fun z => decide (z ≠ x)
theorem keepN_snoc (M : List Int) (x : Int) {i : Nat} (h : i < M.length) : keepN (M.take (i + 1)) x = keepN (M.take i) x ++ (if M[i] ≠ x then [M[i]] else []) := by
  unfold keepN
  rw [take_snoc h, List.filter_append]
  congr 1
  by_cases hx : M[i] = x <;> simp [hx]
theorem wa_fl : (flatten (bodyOf 23)).drop 5 = .block 0 (.loop (sub (bodyOf 23) [1, 1, 1, 0, 1, 0, 0])) :: (flatten (bodyOf 23)).drop 6 := by kernel_rfl
set_option maxHeartbeats 4000000 in
set_option maxRecDepth 100000 in
theorem wa_loop (a b c d e f g ph : Int) (M : List Int) (hM : M.length ≤ 1000) (x : Int) {Q : Exit → List AV → AH → Prop}
    (hQ : ∀ v, Trl Try.prog nro ((flatten (bodyOf 23)).drop 6) (waA x M (.lst 1 ((keepN M x).map gi) (.tp 0 v)) (M.length : Int) ((M.length : Nat) : Int)) (waH 49 a b c d e f g ph M [v]) Q) :
    Trl Try.prog nro ((flatten (bodyOf 23)).drop 5) (waA x M (.lst 1 [] (.tp 0 0)) (M.length : Int) ((0 : Nat) : Int)) (waH 49 a b c d e f g ph M [0]) Q := by
  rw [wa_fl]
  let I : Nat → List AV → AH → Prop := fun t act H => ∃ i v : Nat, i ≤ M.length ∧ t = M.length - i ∧ act = waA x M (.lst 1 ((keepN (M.take i) x).map gi) (.tp 0 v)) (M.length : Int) ((i : Nat) : Int) ∧ H = waH 49 a b c d e f g ph M [v]
  refine Tr.block (Tr.loop I ?_ (m := M.length) ⟨0, 0, Nat.zero_le _, rfl, rfl, rfl⟩)
  rintro t act H ⟨i, v, hi, rfl, rfl, rfl⟩
  have body := fun R => wa_in jsX a b c d e f g ph M (keepN (M.take i) x) v x (M.length : Int) (i : Int) R
  have hlen : (keepN (M.take i) x).length ≤ i := by
    have := List.length_filter_le (fun z => decide (z ≠ x)) (M.take i)
    rw [List.length_take] at this
    unfold keepN; omega
  rw [gil] at body
  have done : ¬ i < M.length → Trl Try.prog nro ((flatten (bodyOf 23)).drop 6) (waA x M (.lst 1 ((keepN (M.take i) x).map gi) (.tp 0 v)) (M.length : Int) ((i : Nat) : Int)) (waH 49 a b c d e f g ph M [v]) Q := fun h => by
    have : i = M.length := by omega
    subst this
    rw [List.take_length]
    exact hQ v
  by_cases hlt : i < M.length
  · rw [gi_ex hlt, inc64 i (by omega)] at body
    have hk := keepN_snoc M x hlt
    refine Tr.of_code knownJ (body _) (holds_bif (fun h1 => holds_bif (fun h2 => ⟨?_, ?_⟩) fun h2 => ⟨cds_of trivial (gi_el hlt), ?_⟩) fun h1 => ⟨trivial, done fun _ => by have := of_decide_eq_false h1; omega⟩) flatJ
    · refine cdb_iff.2 ⟨by first | exact cds_of (cds_of trivial (gi_el hlt)) (gi_el hlt) | exact cds_of trivial (gi_el hlt), decide_eq_true ?_⟩
      simp only [List.length_cons, List.length_nil, List.length_map]
      refine ⟨⟨?_, ?_⟩, trivial⟩ <;> omega
    · have h2 : M[i] ≠ x := by simpa using h2
      rw [if_pos h2] at hk
      refine ⟨M.length - (i + 1), by omega, i + 1, v + 1, hlt, rfl, ?_, rfl⟩
      rw [hk, List.map_append]; rfl
    · have h2 : ¬ M[i] ≠ x := by simpa using h2
      rw [if_neg h2, List.append_nil] at hk
      refine ⟨M.length - (i + 1), by omega, i + 1, v, hlt, rfl, ?_, rfl⟩
      rw [hk]; rfl
  · refine Tr.of_code knownJ (body _) ?_ flatJ
    rw [decide_eq_false (fun h => hlt (Int.ofNat_lt.1 h))]
    exact ⟨trivial, done hlt⟩
theorem rw_fl : (flatten (bodyOf 10)).drop 7 = .block 0 (.loop (sub (bodyOf 10) [1, 1, 1, 1, 0, 1, 0, 0])) :: (flatten (bodyOf 10)).drop 8 := by kernel_rfl
set_option maxHeartbeats 4000000 in
set_option maxRecDepth 100000 in
theorem rw_loop (a b c d e f g ph : Int) (M : List Int) (hM : M.length ≤ 1000) (x : Int) {Q : Exit → List AV → AH → Prop}
    (hQ : ∀ v, Trl Try.prog nro ((flatten (bodyOf 10)).drop 8) (rwA x (.lst 1 ((keepN M x).map gi) (.tp 0 v)) ((M.length : Nat) : Int)) (waH 26 a b c d e f g ph M [v]) Q) :
    Trl Try.prog nro ((flatten (bodyOf 10)).drop 7) (rwA x (.lst 1 [] (.tp 0 0)) ((0 : Nat) : Int)) (waH 26 a b c d e f g ph M [0]) Q := by
  rw [rw_fl]
  let I : Nat → List AV → AH → Prop := fun t act H => ∃ i v : Nat, i ≤ M.length ∧ t = M.length - i ∧ act = rwA x (.lst 1 ((keepN (M.take i) x).map gi) (.tp 0 v)) ((i : Nat) : Int) ∧ H = waH 26 a b c d e f g ph M [v]
  refine Tr.block (Tr.loop I ?_ (m := M.length) ⟨0, 0, Nat.zero_le _, rfl, rfl, rfl⟩)
  rintro t act H ⟨i, v, hi, rfl, rfl, rfl⟩
  have body := fun R => rw_in jsX a b c d e f g ph M (keepN (M.take i) x) v x  (i : Int) R
  have hlen : (keepN (M.take i) x).length ≤ i := by
    have := List.length_filter_le (fun z => decide (z ≠ x)) (M.take i)
    rw [List.length_take] at this
    unfold keepN; omega
  rw [gil] at body
  have done : ¬ i < M.length → Trl Try.prog nro ((flatten (bodyOf 10)).drop 8) (rwA x (.lst 1 ((keepN (M.take i) x).map gi) (.tp 0 v)) ((i : Nat) : Int)) (waH 26 a b c d e f g ph M [v]) Q := fun h => by
    have : i = M.length := by omega
    subst this
    rw [List.take_length]
    exact hQ v
  by_cases hlt : i < M.length
  · rw [gi_ex hlt, inc64 i (by omega)] at body
    have hk := keepN_snoc M x hlt
    refine Tr.of_code knownJ (body _) (holds_bif (fun h1 => holds_bif (fun h2 => ⟨?_, ?_⟩) fun h2 => ⟨cds_of trivial (gi_el hlt), ?_⟩) fun h1 => ⟨trivial, done fun _ => by have := of_decide_eq_false h1; omega⟩) flatJ
    · refine cdb_iff.2 ⟨by first | exact cds_of (cds_of trivial (gi_el hlt)) (gi_el hlt) | exact cds_of trivial (gi_el hlt), decide_eq_true ?_⟩
      simp only [List.length_cons, List.length_nil, List.length_map]
      refine ⟨⟨?_, ?_⟩, trivial⟩ <;> omega
    · have h2 : M[i] ≠ x := by simpa using h2
      rw [if_pos h2] at hk
      refine ⟨M.length - (i + 1), by omega, i + 1, v + 1, hlt, rfl, ?_, rfl⟩
      rw [hk, List.map_append]; rfl
    · have h2 : ¬ M[i] ≠ x := by simpa using h2
      rw [if_neg h2, List.append_nil] at hk
      refine ⟨M.length - (i + 1), by omega, i + 1, v, hlt, rfl, ?_, rfl⟩
      rw [hk]; rfl
  · refine Tr.of_code knownJ (body _) ?_ flatJ
    rw [decide_eq_false (fun h => hlt (Int.ofNat_lt.1 h))]
    exact ⟨trivial, done hlt⟩
end Go.Proofs.Ytcajdmplggpfdaa.AE
namespace Go.Proofs.Ytcajdmplggpfdaa.AE
open Go.RowKit
def zero2 (code : Int) : AV := .v (.tuple #[.agg #[.int .i64 0, .int .i64 0, .int .i64 0, .int .i64 0, .int .i64 0, .int .i64 0, .int .i64 0, .int .i64 0, .slice none 0 0], .int .i64 code])
theorem zero2_le (c : Int) : Le (zero2 c) (ansJ (fun k => z8.getD k 0) [] [c]) :=
  Le.vtup (Les.cons (Le.vag (Les.app [gi 0, gi 0, gi 0, gi 0, gi 0, gi 0, gi 0, gi 0] (a := [nilS]) (Les.cons Le.nil Les.nil))) (Les.refl _))
def waI (is M : List Int) (x y : Int) : List Int := if y ≠ 1 then z8 else if keepN M x = [] then z8 else is
def waM (M : List Int) (x y : Int) : List Int := if y ≠ 1 then [] else keepN M x
def waC (M : List Int) (x y : Int) : Int := if y ≠ 1 then 7 else if keepN M x = [] then 1 else 0
def waV (is M : List Int) (x y : Int) : AV := ansJ (fun k => (waI is M x y).getD k 0) (waM M x y) [waC M x y]
def hrP (is M : List Int) (x : Int) : Prop := is.getD 7 0 = 2 ∧ x ∈ M
instance (is M : List Int) (x : Int) : Decidable (hrP is M x) := instDecidableAnd
def hrI (is M : List Int) (x y : Int) : List Int := if hrP is M x then waI is M x y else is
def hrM (is M : List Int) (x y : Int) : List Int := if hrP is M x then waM M x y else M
def hrC (is M : List Int) (x y : Int) : Int := if hrP is M x then waC M x y else 0
def hrV (is M : List Int) (x y : Int) : AV := ansJ (fun k => (hrI is M x y).getD k 0) (hrM is M x y) [hrC is M x y]
theorem wa_sl : slotsOf 23 = 38 := by kernel_rfl
theorem wa_re : resultsOf 23 = [.cell 6 26, .tmp 7] := by kernel_rfl
theorem rw_sl : slotsOf 10 = 54 := by kernel_rfl
theorem rw_re : resultsOf 10 = [.cell 6 26, .tmp 7] := by kernel_rfl
theorem keepN_len (M : List Int) (x : Int) : (keepN M x).length ≤ M.length := List.length_filter_le ..
set_option maxHeartbeats 4000000 in
set_option maxRecDepth 100000 in
theorem fs_was (a b c d e f g ph : Int) (M : List Int) (hM : M.length ≤ 1000) (x y : Int) : Fs Try.prog nro 23 [jbA a b c d e f g ph M, gi x, gi y] (hp [] []) fun r _ => ∃ z, clean r = some z ∧ Le z (waV [a, b, c, d, e, f, g, ph] M x y) := by
  refine Fs.of_body (has_fn (by kernel_rfl)) ?_
  rw [wa_sl, wa_re]
  have pre := fun R => wa_pre jsX a b c d e f g ph M x y R
  rw [gil] at pre
  refine Tr.of_flat (Trl.split 5 (Trl.of_code knownJ (ne_nil (by kernel_rfl)) (pre _) (holds_bif (fun h1 => ⟨trivial, ?_⟩) fun h1 => ⟨trivial, ?_⟩) flatJ))
  · have h1 : y ≠ 1 := by simpa using h1
    refine ⟨.inr rfl, trivial, zero2 7, rfl, ?_⟩
    have e : waV [a, b, c, d, e, f, g, ph] M x y = ansJ (fun k => z8.getD k 0) [] [7] := by
      unfold waV waI waM waC
      rw [if_pos h1, if_pos h1, if_pos h1]
    rw [e]; exact zero2_le 7
  · have h1 : ¬ y ≠ 1 := by simpa using h1
    refine Trl.nilTip 8 1 (by kernel_rfl) rfl ?_
    refine wa_loop a b c d e f g ph M hM x fun v => ?_
    have post := fun R => wa_post jsX a b c d e f g ph M (keepN M x) v x (M.length : Int) (M.length : Int) R
    rw [gil] at post
    refine Trl.of_code knownJ (ne_nil (by kernel_rfl)) (post _) (holds_bif (fun h2 => ⟨trivial, ?_⟩) fun h2 => ⟨?_, ?_⟩) flatJ
    · have h2 : keepN M x = [] := List.eq_nil_of_length_eq_zero (by simpa using h2)
      refine ⟨.inr rfl, trivial, zero2 1, rfl, ?_⟩
      have e : waV [a, b, c, d, e, f, g, ph] M x y = ansJ (fun k => z8.getD k 0) [] [1] := by
        unfold waV waI waM waC
        rw [if_neg h1, if_neg h1, if_neg h1, if_pos h2, if_pos h2, h2]
      rw [e]; exact zero2_le 1
    · exact cdb_iff.2 ⟨trivial, oneI_of _ _ (by have := keepN_len M x; omega)⟩
    · have h2 : ¬ keepN M x = [] := by rintro e; rw [e] at h2; simp at h2
      refine ⟨.inr rfl, trivial, .tuple [.agg [gi a, gi b, gi c, gi d, gi e, gi f, gi g, gi ph, .lst 1 ((intsY (.lst 1 ((keepN M x).map gi) (.tp 0 v))).map gi) .no], gi 0], rfl, ?_⟩
      rw [intsY_lst]
      have e : waV [a, b, c, d, e, f, g, ph] M x y = ansJ (fun k => ([a, b, c, d, e, f, g, ph] : List Int).getD k 0) (keepN M x) [0] := by
        unfold waV waI waM waC
        rw [if_neg h1, if_neg h1, if_neg h1, if_neg h2, if_neg h2]
      rw [e]; exact Le.refl _
theorem rhX_mem (M : List Int) (t : Tip) (x : Int) : rhX (.lst 1 (M.map gi) t) (gi x) = decide (x ∈ M) := by
  unfold rhX
  rw [intsY_lst]; rfl
set_option maxHeartbeats 4000000 in
set_option maxRecDepth 100000 in
theorem fs_rheard (a b c d e f g ph : Int) (M : List Int) (hM : M.length ≤ 1000) (x y : Int) : Fs Try.prog nro 10 [jbA a b c d e f g ph M, gi x, gi y] (hp [] []) fun r _ => ∃ z, clean r = some z ∧ Le z (hrV [a, b, c, d, e, f, g, ph] M x y) := by
  refine Fs.of_body (has_fn (by kernel_rfl)) ?_
  rw [rw_sl, rw_re]
  have pre := fun R => rw_pre jsX a b c d e f g ph M x y R
  have hX : jsX.HX (.lst 1 (M.map gi) .no) (.v (.int .i64 x)) = decide (x ∈ M) := rhX_mem M .no x
  rw [hX] at pre
  have hok : rhOk [.lst 1 (M.map gi) .no, .v (.int .i64 x)] = true := rhOk_of M .no x (by omega)
  have hno : ¬ hrP [a, b, c, d, e, f, g, ph] M x → ∃ z, clean (.tuple [.agg (jobC a b c d e f g ph (lsA M)), gi 0]) = some z ∧ Le z (hrV [a, b, c, d, e, f, g, ph] M x y) := fun h => by
    refine ⟨_, rfl, ?_⟩
    have e : hrV [a, b, c, d, e, f, g, ph] M x y = ansJ (fun k => ([a, b, c, d, e, f, g, ph] : List Int).getD k 0) M [0] := by
      unfold hrV hrI hrM hrC
      rw [if_neg h, if_neg h, if_neg h]
    rw [e]; exact Le.refl _
  have hyes : hrP [a, b, c, d, e, f, g, ph] M x → hrV [a, b, c, d, e, f, g, ph] M x y = waV [a, b, c, d, e, f, g, ph] M x y := fun h => by
    unfold hrV hrI hrM hrC waV
    rw [if_pos h, if_pos h, if_pos h]
  refine Tr.of_flat (Trl.split 7 (Trl.of_code knownJ (ne_nil (by kernel_rfl)) (pre _) (holds_bif (fun h1 => ⟨trivial, ?_⟩) fun h1 => holds_bif (fun h2 => ⟨cdb_iff.2 ⟨trivial, hok⟩, ?_⟩) fun h2 => holds_bif (fun h3 => ⟨cdb_iff.2 ⟨trivial, hok⟩, ?_⟩) fun h3 => ⟨cdb_iff.2 ⟨trivial, hok⟩, ?_⟩) flatJ))
  · have h1 : ph ≠ 2 := by simpa using h1
    exact ⟨.inr rfl, trivial, hno fun h => h1 h.1⟩
  · have h2 : x ∉ M := by simpa using h2
    exact ⟨.inr rfl, trivial, hno fun h => h2 h.2⟩
  · have hP : hrP [a, b, c, d, e, f, g, ph] M x := ⟨by simpa using h1, by simpa using h2⟩
    have h1 : y ≠ 1 := by simpa using h3
    refine ⟨.inr rfl, trivial, zero2 7, rfl, ?_⟩
    have e : waV [a, b, c, d, e, f, g, ph] M x y = ansJ (fun k => z8.getD k 0) [] [7] := by
      unfold waV waI waM waC
      rw [if_pos h1, if_pos h1, if_pos h1]
    rw [hyes hP, e]; exact zero2_le 7
  · have hP : hrP [a, b, c, d, e, f, g, ph] M x := ⟨by simpa using h1, by simpa using h2⟩
    have hp2 : ph = 2 := hP.1
    have h1 : ¬ y ≠ 1 := by simpa using h3
    rw [hyes hP]
    refine Trl.nilTip 8 1 (by kernel_rfl) rfl ?_
    refine rw_loop a b c d e f g ph M hM x fun v => ?_
    have post := fun R => rw_post jsX a b c d e f g ph M (keepN M x) v x (M.length : Int) R
    rw [gil] at post
    refine Trl.of_code knownJ (ne_nil (by kernel_rfl)) (post _) (holds_bif (fun h2 => ⟨trivial, ?_⟩) fun h2 => ⟨trivial, ?_⟩) flatJ
    · have h2 : keepN M x = [] := List.eq_nil_of_length_eq_zero (by simpa using h2)
      refine ⟨.inr rfl, trivial, zero2 1, rfl, ?_⟩
      have e : waV [a, b, c, d, e, f, g, ph] M x y = ansJ (fun k => z8.getD k 0) [] [1] := by
        unfold waV waI waM waC
        rw [if_neg h1, if_neg h1, if_neg h1, if_pos h2, if_pos h2, h2]
      rw [e]; exact zero2_le 1
    · have h2 : ¬ keepN M x = [] := by rintro e; rw [e] at h2; simp at h2
      refine ⟨.inr rfl, trivial, .tuple [.agg [gi a, gi b, gi c, gi d, gi e, gi f, gi g, gi 2, .lst 1 ((keepN M x).map gi) .no], gi 0], rfl, ?_⟩
      have e : waV [a, b, c, d, e, f, g, ph] M x y = ansJ (fun k => ([a, b, c, d, e, f, g, ph] : List Int).getD k 0) (keepN M x) [0] := by
        unfold waV waI waM waC
        rw [if_neg h1, if_neg h1, if_neg h1, if_neg h2, if_neg h2]
      rw [e, hp2]; exact Le.refl _
end Go.Proofs.Ytcajdmplggpfdaa.AE
namespace Go.Proofs.Ytcajdmplggpfdaa.AE
open Go.RowKit
theorem sa_sl : slotsOf 12 = 52 := by kernel_rfl
theorem sa_re : resultsOf 12 = [.tmp 4] := by kernel_rfl
theorem sa_fl : (flatten (bodyOf 12)).drop 4 = .block 0 (.loop (sub (bodyOf 12) [1, 1, 0, 1, 0, 0])) :: (flatten (bodyOf 12)).drop 5 := by kernel_rfl
def smV (is M is' M' : List Int) : AV := .v (.bool (decide (is = is' ∧ M = M')))
theorem smV_no {is M is' M' : List Int} (h : ¬ (is = is' ∧ M = M')) : smV is M is' M' = .v (.bool false) := by unfold smV; rw [decide_eq_false h]
theorem smV_yes {is M is' M' : List Int} (h : is = is' ∧ M = M') : smV is M is' M' = .v (.bool true) := by unfold smV; rw [decide_eq_true h]
set_option maxHeartbeats 4000000 in
set_option maxRecDepth 100000 in
theorem fs_rsame (a b c d e f g ph : Int) (M : List Int) (a' b' c' d' e' f' g' ph' : Int) (M' : List Int) (hM : M.length ≤ 1000) : Fs Try.prog nro 12 [jbA a b c d e f g ph M, jbA a' b' c' d' e' f' g' ph' M'] (hp [] []) fun r _ => r = smV [a, b, c, d, e, f, g, ph] M [a', b', c', d', e', f', g', ph'] M' := by
  refine Fs.of_body (has_fn (by kernel_rfl)) ?_
  rw [sa_sl, sa_re]
  have pre := fun R => sa_pre jsX a b c d e f g ph M a' b' c' d' e' f' g' ph' M' R
  rw [gil, gil] at pre
  refine Tr.of_flat (Trl.split 4 (Trl.of_code knownJ (ne_nil (by kernel_rfl)) (pre _) (holds_bif (fun h1 => ⟨trivial, ?_⟩) fun h1 => holds_bif (fun h2 => ⟨trivial, ?_⟩) fun h2 => holds_bif (fun h3 => ⟨trivial, ?_⟩) fun h3 => ⟨trivial, ?_⟩) flatJ))
  · refine ⟨.inr rfl, trivial, (smV_no fun h => ?_).symm⟩
    simp only [List.cons.injEq] at h
    obtain ⟨⟨rfl, rfl, rfl, rfl, rfl, rfl, rfl, rfl, _⟩, _⟩ := h
    simp at h1
  · refine ⟨.inr rfl, trivial, (smV_no fun h => ?_).symm⟩
    simp only [List.cons.injEq] at h
    obtain ⟨⟨rfl, rfl, rfl, rfl, rfl, rfl, rfl, rfl, _⟩, _⟩ := h
    simp at h2
  · refine ⟨.inr rfl, trivial, (smV_no fun h => ?_).symm⟩
    rw [h.2] at h3
    simp at h3
  · have hl : M.length = M'.length := by
      have h3 : (M.length : Int) = M'.length := by simpa using h3
      omega
    have hi8 : ([a, b, c, d, e, f, g, ph] : List Int) = [a', b', c', d', e', f', g', ph'] := by
      simp only [Bool.not_eq_false', Bool.and_eq_true, beq_iff_eq, and_true, bne_eq_false_iff_eq] at h1 h2
      obtain ⟨rfl, rfl, rfl, rfl, rfl, rfl, rfl⟩ := h1
      rw [h2]
    show Trl _ _ ((flatten (bodyOf 12)).drop 4) _ _ _
    rw [sa_fl]
    let I : Nat → List AV → AH → Prop := fun t act H => ∃ i : Nat, i ≤ M.length ∧ t = M.length - i ∧ act = saA (i : Int) ∧ H = saH a b c d e f g ph M a' b' c' d' e' f' g' ph' M' ∧ ∀ j (h : j < M.length) (h' : j < M'.length), j < i → M[j] = M'[j]
    refine Tr.block (Tr.loop I ?_ (m := M.length) ⟨0, Nat.zero_le _, rfl, rfl, rfl, fun j _ _ h => by omega⟩)
    rintro t act H ⟨i, hi, rfl, rfl, rfl, hlow⟩
    have post := fun R => sa_post jsX a b c d e f g ph M a' b' c' d' e' f' g' ph' M' (i : Int) R
    have done : ¬ i < M.length → Trl Try.prog nro ((flatten (bodyOf 12)).drop 5) (saA (i : Int)) (saH a b c d e f g ph M a' b' c' d' e' f' g' ph' M') fun e_1 a_1 h => (e_1 = .normal ∨ e_1 = .ret) ∧ ansOk (fun r _ => r = smV [a, b, c, d, e, f, g, ph] M [a', b', c', d', e', f', g', ph'] M') (resOf Try.prog nro [.tmp 4] a_1 h) := fun h => by
      refine Trl.of_code knownJ (ne_nil (by kernel_rfl)) (post _) ⟨trivial, ?_⟩ flatJ
      refine ⟨.inr rfl, trivial, (smV_yes ⟨hi8, List.ext_getElem hl fun j k k' => hlow j k k' (by omega)⟩).symm⟩
    have body := fun R => sa_in jsX a b c d e f g ph M a' b' c' d' e' f' g' ph' M' (i : Int) R
    simp only [List.length_map] at body
    by_cases hlt : i < M.length
    · rw [gi_ex hlt, gi_ex (hl ▸ hlt), inc64 i (by omega)] at body
      refine Tr.of_code knownJ (body _) (holds_bif (fun h1 => holds_bif (fun h2 => holds_bif (fun h4 => ⟨cds_of (cds_of trivial (gi_el hlt)) (gi_el (hl ▸ hlt)), ?_⟩) fun h4 => ⟨cds_of (cds_of trivial (gi_el hlt)) (gi_el (hl ▸ hlt)), ?_⟩) fun h2 => ⟨trivial, done fun _ => by have := of_decide_eq_false h2; omega⟩) fun h1 => ⟨trivial, done fun _ => by have := of_decide_eq_false h1; omega⟩) flatJ
      · refine ⟨.inr rfl, trivial, (smV_no fun h => ?_).symm⟩
        obtain ⟨_, rfl⟩ := h
        simp at h4
      · refine ⟨M.length - (i + 1), by omega, i + 1, hlt, rfl, rfl, rfl, fun j k k' hj => ?_⟩
        by_cases hji : j = i
        · subst hji
          simpa using h4
        · exact hlow j k k' (by omega)
    · refine Tr.of_code knownJ (body _) ?_ flatJ
      rw [decide_eq_false (fun h => hlt (Int.ofNat_lt.1 h))]
      exact ⟨trivial, done hlt⟩
theorem eqI_of {M M' : List Int} (hM : M.length ≤ 1000) (hM' : M'.length ≤ 1000) (t t' : Tip) : eqI [.lst 1 (M.map gi) t, .lst 1 (M'.map gi) t'] = true := by
  show ((match intsA? (.lst 1 (M.map gi) t) with | some l => decide (l.length ≤ 1000000) | none => false) && (match intsA? (.lst 1 (M'.map gi) t') with | some l => decide (l.length ≤ 1000000) | none => false)) = true
  rw [intsA_lst, intsA_lst]
  simp only [Bool.and_eq_true, decide_eq_true_eq]
  omega
set_option maxHeartbeats 4000000 in
theorem fs_jsame (a b c d e f g ph : Int) (M : List Int) (a' b' c' d' e' f' g' ph' : Int) (M' : List Int) (hM : M.length ≤ 1000) (hM' : M'.length ≤ 1000) : Fs Try.prog nro 15 [jbA a b c d e f g ph M, jbA a' b' c' d' e' f' g' ph' M'] (hp [] []) fun r _ => r = smV [a, b, c, d, e, f, g, ph] M [a', b', c', d', e', f', g', ph'] M' := by
  have t := fun Φ => jsame jsX a b c d e f g ph M a' b' c' d' e' f' g' ph' M' Φ
  have hq : jsX.EQ (.lst 1 (M.map gi) .no) (.lst 1 (M'.map gi) .no) = decide (M = M') := by
    show decide (intsY _ = intsY _) = _
    rw [intsY_lst, intsY_lst]
  rw [hq] at t
  refine Fs.of_call knownJ (t fun r => r = smV [a, b, c, d, e, f, g, ph] M [a', b', c', d', e', f', g', ph'] M') (holds_bif (fun h1 => holds_bif (fun h2 => ⟨cdb_iff.2 ⟨trivial, eqI_of hM hM' _ _⟩, ?_⟩) fun h2 => ⟨trivial, ?_⟩) fun h1 => ⟨trivial, ?_⟩) flatJ
  · simp only [Bool.and_eq_true, beq_iff_eq, and_true] at h1 h2
    obtain ⟨rfl, rfl, rfl, rfl, rfl, rfl, rfl⟩ := h1
    subst h2
    unfold smV
    simp
  · refine (smV_no fun h => ?_).symm
    simp only [List.cons.injEq] at h
    obtain ⟨⟨rfl, rfl, rfl, rfl, rfl, rfl, rfl, rfl, _⟩, _⟩ := h
    simp at h2
  · refine (smV_no fun h => ?_).symm
    simp only [List.cons.injEq] at h
    obtain ⟨⟨rfl, rfl, rfl, rfl, rfl, rfl, rfl, rfl, _⟩, _⟩ := h
    simp at h1
set_option maxHeartbeats 4000000 in
theorem fs_rdone (a b c d e f g ph : Int) (M L : List Int) (hL : L.length ≤ 1000) : Fs Try.prog nro 8 [jbA a b c d e f g ph M, lsA L] (hp [] []) fun r _ => ∃ y, clean r = some y ∧ Le y (dnV [a, b, c, d, e, f, g, ph] L) := by
  have t := fun Φ => dr_a jsX a b c d e f g ph M L Φ
  rw [gil] at t
  refine Fs.of_call knownJ (t fun r => ∃ y, clean r = some y ∧ Le y (dnV [a, b, c, d, e, f, g, ph] L)) (holds_bif (fun h1 => ⟨trivial, ?_⟩) fun h1 => holds_bif (fun h2 => ⟨trivial, ?_⟩) fun h2 => ⟨cdb_iff.2 ⟨trivial, ?_⟩, ?_⟩) flatJ
  · have h1 : ph ≠ 1 := by simpa using h1
    refine ⟨zeroJ 0 12, rfl, ?_⟩
    have e : dnV [a, b, c, d, e, f, g, ph] L = ansJ (fun k => z8.getD k 0) [] [0, 12] := by
      unfold dnV dnI dnM dnC dnE
      rw [show ([a, b, c, d, e, f, g, ph] : List Int).getD 7 0 = ph from rfl, if_pos h1, if_pos h1, if_pos h1, if_pos h1]
    rw [e]; exact zeroJ_le 0 12
  · have h1 : ¬ ph ≠ 1 := by simpa using h1
    have h2 : L = [] := List.eq_nil_of_length_eq_zero (by simpa using h2)
    refine ⟨zeroJ 1 0, rfl, ?_⟩
    have e : dnV [a, b, c, d, e, f, g, ph] L = ansJ (fun k => z8.getD k 0) [] [1, 0] := by
      unfold dnV dnI dnM dnC dnE
      rw [show ([a, b, c, d, e, f, g, ph] : List Int).getD 7 0 = ph from rfl, if_neg h1, if_neg h1, if_neg h1, if_neg h1, if_pos h2, if_pos h2, if_pos h2]
    rw [e]; exact zeroJ_le 1 0
  · show (match intsA? (.lst 1 (L.map gi) .no) with | some l => decide (l.length ≤ 1000) | none => false) = true
    rw [intsA_lst]; exact decide_eq_true hL
  · have h1 : ¬ ph ≠ 1 := by simpa using h1
    have h2 : L ≠ [] := by rintro rfl; simp at h2
    refine ⟨.tuple [.agg [gi a, gi b, gi c, gi d, gi e, gi f, gi g, gi 2, .lst 1 ((riseL (intsY (.lst 1 (L.map gi) .no))).map gi) .no], gi 0, gi 0], rfl, ?_⟩
    rw [intsY_lst]
    have ed : dnV [a, b, c, d, e, f, g, ph] L = ansJ (fun k => ([a, b, c, d, e, f, g, 2] : List Int).getD k 0) (riseL L) [0, 0] := by
      unfold dnV dnI dnM dnC dnE
      rw [show ([a, b, c, d, e, f, g, ph] : List Int).getD 7 0 = ph from rfl, if_neg h1, if_neg h1, if_neg h1, if_neg h1, if_neg h2, if_neg h2, if_neg h2]; rfl
    rw [ed]; exact Le.refl _
/-! The calls on jobs, of data alone. -/
structure KS where
  SM : AV → AV → Bool
  DI : List AV → Nat → Int
  DM : List AV → List Int
  DC : List AV → Int
  DE : List AV → Int
  WI : List AV → Nat → Int
  WM : List AV → List Int
  WC : List AV → Int
  GI : List AV → Nat → Int
  GM : List AV → List Int
  GC : List AV → Int
def tabJ (i : Nat → Int) : List AV := [gi (i 0), gi (i 1), gi (i 2), gi (i 3), gi (i 4), gi (i 5), gi (i 6), gi (i 7)]
def smS (S : KS) (args : List AV) : AV := .v (.bool (S.SM (args.headD .dead) (args.tail.headD .dead)))
def dnS (S : KS) (args : List AV) : AV := ansJ (S.DI args) (S.DM args) [S.DC args, S.DE args]
def waS (S : KS) (args : List AV) : AV := ansJ (S.WI args) (S.WM args) [S.WC args]
def hrS (S : KS) (args : List AV) : AV := ansJ (S.GI args) (S.GM args) [S.GC args]
def jb1 (x : AV) : Bool := match jobA? x with
  | some _ => true
  | none => false
def smOk (args : List AV) : Bool := match args with
  | [x, y] => jb1 x && jb1 y
  | _ => false
def dnOk (args : List AV) : Bool := match args with
  | [x, y] => jb1 x && (match intsA? y with | some l => decide (l.length ≤ 1000) | none => false)
  | _ => false
def hrOk (args : List AV) : Bool := match args with
  | [x, .v (.int .i64 _), .v (.int .i64 _)] => jb1 x
  | _ => false
def numY (x : AV) : Int := match x with
  | .v (.int .i64 n) => n
  | _ => 0
def ksX : KS where
  SM := fun x y => decide (isY x = isY y ∧ neY x = neY y)
  DI := fun args k => (dnI (isY (args.headD .dead)) (intsY (args.tail.headD .dead))).getD k 0
  DM := fun args => dnM (isY (args.headD .dead)) (intsY (args.tail.headD .dead))
  DC := fun args => dnC (isY (args.headD .dead)) (intsY (args.tail.headD .dead))
  DE := fun args => dnE (isY (args.headD .dead)) (intsY (args.tail.headD .dead))
  WI := fun args k => (waI (isY (args.headD .dead)) (neY (args.headD .dead)) (numY (args.tail.headD .dead)) (numY (args.tail.tail.headD .dead))).getD k 0
  WM := fun args => waM (neY (args.headD .dead)) (numY (args.tail.headD .dead)) (numY (args.tail.tail.headD .dead))
  WC := fun args => waC (neY (args.headD .dead)) (numY (args.tail.headD .dead)) (numY (args.tail.tail.headD .dead))
  GI := fun args k => (hrI (isY (args.headD .dead)) (neY (args.headD .dead)) (numY (args.tail.headD .dead)) (numY (args.tail.tail.headD .dead))).getD k 0
  GM := fun args => hrM (isY (args.headD .dead)) (neY (args.headD .dead)) (numY (args.tail.headD .dead)) (numY (args.tail.tail.headD .dead))
  GC := fun args => hrC (isY (args.headD .dead)) (neY (args.headD .dead)) (numY (args.tail.headD .dead)) (numY (args.tail.tail.headD .dead))
theorem jb1_some {x : AV} (h : jb1 x = true) : ∃ is l, jobA? x = some (is, l) := by
  unfold jb1 at h
  split at h
  · rename_i p hp; exact ⟨p.1, p.2, hp⟩
  · cases h
theorem Fs.weak {P : Program} {ro : Nat → Option (List Value)} {g : FuncId} {args args' : List AV} {H : AH} {Φ : AV → AH → Prop} (h : Fs P ro g args' H Φ) (hw : Les args args') : Fs P ro g args H Φ := fun G W cargs hI hR hA => h G W cargs hI hR (hw _ _ _ hA)
theorem hr_args {F : FuncId} {V : List Int → List Int → Int → Int → AV} {U : List AV → AV} (hf : ∃ fn, Try.prog.funcs[F]? = some fn ∧ fn.body.isSome = true)
    (hu : ∀ z is l x y, jobA? z = some (is, l) → U [z, gi x, gi y] = V is l x y)
    (h : ∀ (a b c d e f g ph : Int) (M : List Int), M.length ≤ 1000 → ∀ x y, Fs Try.prog nro F [jbA a b c d e f g ph M, gi x, gi y] (hp [] []) fun r _ => ∃ z, clean r = some z ∧ Le z (V [a, b, c, d, e, f, g, ph] M x y)) : ∀ args H r H', tot? U hrOk args H = some (r, H') → HSound1 Try.prog nro F args H r H' := by
  refine tot_ok hf fun args hok => ?_
  unfold hrOk at hok
  split at hok
  · rename_i z x y
    obtain ⟨is, l, hz⟩ := jb1_some hok
    obtain ⟨⟨z', h1, h2⟩, h3, h4⟩ := jobA_clean hz
    have hu := hu z is l x y hz
    obtain ⟨a, b, c, d, e, f, g, ph, rfl⟩ := eight h3
    refine ⟨[z', gi x, gi y], ?_, ?_⟩
    · simp only [cleans, clean, h1]; rfl
    · rw [show U [z, .v (.int .i64 x), .v (.int .i64 y)] = _ from hu]
      exact Fs.weak (h a b c d e f g ph l h4 x y) (Les.cons h2 (Les.refl _))
  · cases hok
theorem was_ok : ∀ args H r H', tot? (waS ksX) hrOk args H = some (r, H') → HSound1 Try.prog nro 23 args H r H' :=
  hr_args (V := waV) (has_fn (by kernel_rfl)) (fun z is l x y hz => by
    show ansJ (fun k => (waI (isY z) (neY z) x y).getD k 0) (waM (neY z) x y) [waC (neY z) x y] = _
    rw [isY_of hz, neY_of hz]; rfl) fun a b c d e f g ph M hM x y => fs_was a b c d e f g ph M hM x y
theorem rheard_ok : ∀ args H r H', tot? (hrS ksX) hrOk args H = some (r, H') → HSound1 Try.prog nro 10 args H r H' :=
  hr_args (V := hrV) (has_fn (by kernel_rfl)) (fun z is l x y hz => by
    show ansJ (fun k => (hrI (isY z) (neY z) x y).getD k 0) (hrM (isY z) (neY z) x y) [hrC (isY z) (neY z) x y] = _
    rw [isY_of hz, neY_of hz]; rfl) fun a b c d e f g ph M hM x y => fs_rheard a b c d e f g ph M hM x y
end Go.Proofs.Ytcajdmplggpfdaa.AE
namespace Go.Proofs.Ytcajdmplggpfdaa.AE
open Go.RowKit
theorem sm_args {F : FuncId} (hf : ∃ fn, Try.prog.funcs[F]? = some fn ∧ fn.body.isSome = true)
    (h : ∀ (a b c d e f g ph : Int) (M : List Int) (a' b' c' d' e' f' g' ph' : Int) (M' : List Int), M.length ≤ 1000 → M'.length ≤ 1000 → Fs Try.prog nro F [jbA a b c d e f g ph M, jbA a' b' c' d' e' f' g' ph' M'] (hp [] []) fun r _ => r = smV [a, b, c, d, e, f, g, ph] M [a', b', c', d', e', f', g', ph'] M') : ∀ args H r H', tot? (smS ksX) smOk args H = some (r, H') → HSound1 Try.prog nro F args H r H' := by
  refine tot_ok hf fun args hok => ?_
  unfold smOk at hok
  split at hok
  · rename_i x y
    rw [Bool.and_eq_true] at hok
    obtain ⟨is, l, hx⟩ := jb1_some hok.1
    obtain ⟨is', l', hy⟩ := jb1_some hok.2
    obtain ⟨⟨x', h1, h2⟩, h3, h4⟩ := jobA_clean hx
    obtain ⟨⟨y', k1, k2⟩, k3, k4⟩ := jobA_clean hy
    have ee : smS ksX [x, y] = smV is l is' l' := by
      show AV.v (.bool (decide (isY x = isY y ∧ neY x = neY y))) = _
      rw [isY_of hx, neY_of hx, isY_of hy, neY_of hy]; rfl
    rw [ee]
    obtain ⟨a, b, c, d, e, f, g, ph, rfl⟩ := eight h3
    obtain ⟨a', b', c', d', e', f', g', ph', rfl⟩ := eight k3
    refine ⟨[x', y'], by simp only [cleans, h1, k1], ?_⟩
    refine Fs.weak ((h a b c d e f g ph l a' b' c' d' e' f' g' ph' l' h4 k4).mono fun r _ h => ?_) (Les.cons h2 (Les.cons k2 Les.nil))
    subst h
    exact ⟨_, rfl, Le.refl _⟩
  · cases hok
theorem dn_args {args : List AV} (hok : dnOk args = true) : ∃ ar a b c d e f g ph M L, cleans args = some ar ∧ Les ar [jbA a b c d e f g ph M, lsA L] ∧ L.length ≤ 1000 ∧ dnS ksX args = dnV [a, b, c, d, e, f, g, ph] L := by
  unfold dnOk at hok
  split at hok
  · rename_i x y
    rw [Bool.and_eq_true] at hok
    obtain ⟨is, l, hx⟩ := jb1_some hok.1
    obtain ⟨⟨x', h1, h2⟩, h3, h4⟩ := jobA_clean hx
    have hy := hok.2
    split at hy
    · rename_i L hL
      obtain ⟨y', k1, k2⟩ := intsA_clean hL
      have ee : dnS ksX [x, y] = dnV is L := by
        show ansJ (fun k => (dnI (isY x) (intsY y)).getD k 0) (dnM (isY x) (intsY y)) [dnC (isY x) (intsY y), dnE (isY x) (intsY y)] = _
        rw [isY_of hx, intsY_some hL]; rfl
      obtain ⟨a, b, c, d, e, f, g, ph, rfl⟩ := eight h3
      exact ⟨[x', y'], a, b, c, d, e, f, g, ph, l, L, by simp only [cleans, h1, k1], Les.cons h2 (Les.cons k2 Les.nil), of_decide_eq_true hy, ee⟩
    · cases hy
  · cases hok
theorem done_ok : ∀ args H r H', tot? (dnS ksX) dnOk args H = some (r, H') → HSound1 Try.prog nro 7 args H r H' := by
  refine frzV_ok (has_fn (by kernel_rfl)) fun args hok => ?_
  obtain ⟨ar, a, b, c, d, e, f, g, ph, M, L, h1, h2, h3, h4⟩ := dn_args hok
  refine ⟨ar, h1, ?_⟩
  rw [h4]
  exact Fs.weak (fs_done a b c d e f g ph M L h3) h2
theorem rdone_ok : ∀ args H r H', tot? (dnS ksX) dnOk args H = some (r, H') → HSound1 Try.prog nro 8 args H r H' := by
  refine tot_ok (has_fn (by kernel_rfl)) fun args hok => ?_
  obtain ⟨ar, a, b, c, d, e, f, g, ph, M, L, h1, h2, h3, h4⟩ := dn_args hok
  refine ⟨ar, h1, ?_⟩
  rw [h4]
  exact Fs.weak (fs_rdone a b c d e f g ph M L h3) h2
noncomputable def prK (S : JS) (K : KS) : FuncId → Option (List AV → AH → Ans) := fun g => match g with
  | 23 => some (tot? (waS K) hrOk)
  | 18 => some (tot? (lstV S.CL) oneI)
  | 22 => some (tot? (rhV S.HX) rhOk)
  | _ => none
theorem knownK : Known nro (prK jsX ksX) := by
  intro g p h
  unfold prK at h
  split at h
  · cases h; exact was_ok
  · cases h; exact clone_ok nro
  · cases h; exact ctn_ok nro
  · cases h
theorem hd_t (S : JS) (K : KS) (a b c d e f g ph : Int) (M : List Int) (x y : Int) (Φ : AV → Prop) : callK nro (fun _ => false) (prK S K) 8 9 [jbA a b c d e f g ph M, gi x, gi y] (hp [] []) (fun r h => some (h.cd ∧ Φ r)) =
    (bif (ph == (2 : Int)) then (bif ((S).1 (AV.lst (1 : Nat) (List.map gi M) Tip.no) (AV.v (Value.int IntKind.i64 x))) then (some ((cdb (cdb True (rhOk [(AV.lst (1 : Nat) (List.map gi M) Tip.no), (AV.v (Value.int IntKind.i64 x))])) (hrOk [(AV.agg [(AV.v (Value.int IntKind.i64 a)), (AV.v (Value.int IntKind.i64 b)), (AV.v (Value.int IntKind.i64 c)), (AV.v (Value.int IntKind.i64 d)), (AV.v (Value.int IntKind.i64 e)), (AV.v (Value.int IntKind.i64 f)), (AV.v (Value.int IntKind.i64 g)), (AV.v (Value.int IntKind.i64 ph)), (AV.lst (1 : Nat) (List.map gi M) Tip.no)]), (AV.v (Value.int IntKind.i64 x)), (AV.v (Value.int IntKind.i64 y))])) ∧ (Φ (AV.tuple [(AV.agg [(AV.v (Value.int IntKind.i64 ((K).6 [(AV.agg [(AV.v (Value.int IntKind.i64 a)), (AV.v (Value.int IntKind.i64 b)), (AV.v (Value.int IntKind.i64 c)), (AV.v (Value.int IntKind.i64 d)), (AV.v (Value.int IntKind.i64 e)), (AV.v (Value.int IntKind.i64 f)), (AV.v (Value.int IntKind.i64 g)), (AV.v (Value.int IntKind.i64 ph)), (AV.lst (1 : Nat) (List.map gi M) Tip.no)]), (AV.v (Value.int IntKind.i64 x)), (AV.v (Value.int IntKind.i64 y))] (0 : Nat)))), (AV.v (Value.int IntKind.i64 ((K).6 [(AV.agg [(AV.v (Value.int IntKind.i64 a)), (AV.v (Value.int IntKind.i64 b)), (AV.v (Value.int IntKind.i64 c)), (AV.v (Value.int IntKind.i64 d)), (AV.v (Value.int IntKind.i64 e)), (AV.v (Value.int IntKind.i64 f)), (AV.v (Value.int IntKind.i64 g)), (AV.v (Value.int IntKind.i64 ph)), (AV.lst (1 : Nat) (List.map gi M) Tip.no)]), (AV.v (Value.int IntKind.i64 x)), (AV.v (Value.int IntKind.i64 y))] (1 : Nat)))), (AV.v (Value.int IntKind.i64 ((K).6 [(AV.agg [(AV.v (Value.int IntKind.i64 a)), (AV.v (Value.int IntKind.i64 b)), (AV.v (Value.int IntKind.i64 c)), (AV.v (Value.int IntKind.i64 d)), (AV.v (Value.int IntKind.i64 e)), (AV.v (Value.int IntKind.i64 f)), (AV.v (Value.int IntKind.i64 g)), (AV.v (Value.int IntKind.i64 ph)), (AV.lst (1 : Nat) (List.map gi M) Tip.no)]), (AV.v (Value.int IntKind.i64 x)), (AV.v (Value.int IntKind.i64 y))] (2 : Nat)))), (AV.v (Value.int IntKind.i64 ((K).6 [(AV.agg [(AV.v (Value.int IntKind.i64 a)), (AV.v (Value.int IntKind.i64 b)), (AV.v (Value.int IntKind.i64 c)), (AV.v (Value.int IntKind.i64 d)), (AV.v (Value.int IntKind.i64 e)), (AV.v (Value.int IntKind.i64 f)), (AV.v (Value.int IntKind.i64 g)), (AV.v (Value.int IntKind.i64 ph)), (AV.lst (1 : Nat) (List.map gi M) Tip.no)]), (AV.v (Value.int IntKind.i64 x)), (AV.v (Value.int IntKind.i64 y))] (3 : Nat)))), (AV.v (Value.int IntKind.i64 ((K).6 [(AV.agg [(AV.v (Value.int IntKind.i64 a)), (AV.v (Value.int IntKind.i64 b)), (AV.v (Value.int IntKind.i64 c)), (AV.v (Value.int IntKind.i64 d)), (AV.v (Value.int IntKind.i64 e)), (AV.v (Value.int IntKind.i64 f)), (AV.v (Value.int IntKind.i64 g)), (AV.v (Value.int IntKind.i64 ph)), (AV.lst (1 : Nat) (List.map gi M) Tip.no)]), (AV.v (Value.int IntKind.i64 x)), (AV.v (Value.int IntKind.i64 y))] (4 : Nat)))), (AV.v (Value.int IntKind.i64 ((K).6 [(AV.agg [(AV.v (Value.int IntKind.i64 a)), (AV.v (Value.int IntKind.i64 b)), (AV.v (Value.int IntKind.i64 c)), (AV.v (Value.int IntKind.i64 d)), (AV.v (Value.int IntKind.i64 e)), (AV.v (Value.int IntKind.i64 f)), (AV.v (Value.int IntKind.i64 g)), (AV.v (Value.int IntKind.i64 ph)), (AV.lst (1 : Nat) (List.map gi M) Tip.no)]), (AV.v (Value.int IntKind.i64 x)), (AV.v (Value.int IntKind.i64 y))] (5 : Nat)))), (AV.v (Value.int IntKind.i64 ((K).6 [(AV.agg [(AV.v (Value.int IntKind.i64 a)), (AV.v (Value.int IntKind.i64 b)), (AV.v (Value.int IntKind.i64 c)), (AV.v (Value.int IntKind.i64 d)), (AV.v (Value.int IntKind.i64 e)), (AV.v (Value.int IntKind.i64 f)), (AV.v (Value.int IntKind.i64 g)), (AV.v (Value.int IntKind.i64 ph)), (AV.lst (1 : Nat) (List.map gi M) Tip.no)]), (AV.v (Value.int IntKind.i64 x)), (AV.v (Value.int IntKind.i64 y))] (6 : Nat)))), (AV.v (Value.int IntKind.i64 ((K).6 [(AV.agg [(AV.v (Value.int IntKind.i64 a)), (AV.v (Value.int IntKind.i64 b)), (AV.v (Value.int IntKind.i64 c)), (AV.v (Value.int IntKind.i64 d)), (AV.v (Value.int IntKind.i64 e)), (AV.v (Value.int IntKind.i64 f)), (AV.v (Value.int IntKind.i64 g)), (AV.v (Value.int IntKind.i64 ph)), (AV.lst (1 : Nat) (List.map gi M) Tip.no)]), (AV.v (Value.int IntKind.i64 x)), (AV.v (Value.int IntKind.i64 y))] (7 : Nat)))), (AV.lst (1 : Nat) (List.map gi ((K).7 [(AV.agg [(AV.v (Value.int IntKind.i64 a)), (AV.v (Value.int IntKind.i64 b)), (AV.v (Value.int IntKind.i64 c)), (AV.v (Value.int IntKind.i64 d)), (AV.v (Value.int IntKind.i64 e)), (AV.v (Value.int IntKind.i64 f)), (AV.v (Value.int IntKind.i64 g)), (AV.v (Value.int IntKind.i64 ph)), (AV.lst (1 : Nat) (List.map gi M) Tip.no)]), (AV.v (Value.int IntKind.i64 x)), (AV.v (Value.int IntKind.i64 y))])) Tip.no)]), (AV.v (Value.int IntKind.i64 ((K).8 [(AV.agg [(AV.v (Value.int IntKind.i64 a)), (AV.v (Value.int IntKind.i64 b)), (AV.v (Value.int IntKind.i64 c)), (AV.v (Value.int IntKind.i64 d)), (AV.v (Value.int IntKind.i64 e)), (AV.v (Value.int IntKind.i64 f)), (AV.v (Value.int IntKind.i64 g)), (AV.v (Value.int IntKind.i64 ph)), (AV.lst (1 : Nat) (List.map gi M) Tip.no)]), (AV.v (Value.int IntKind.i64 x)), (AV.v (Value.int IntKind.i64 y))])))])))) else (some ((cdb (cdb True (rhOk [(AV.lst (1 : Nat) (List.map gi M) Tip.no), (AV.v (Value.int IntKind.i64 x))])) (oneI [(AV.lst (1 : Nat) (List.map gi M) Tip.no)])) ∧ (Φ (AV.tuple [(AV.agg [(AV.v (Value.int IntKind.i64 a)), (AV.v (Value.int IntKind.i64 b)), (AV.v (Value.int IntKind.i64 c)), (AV.v (Value.int IntKind.i64 d)), (AV.v (Value.int IntKind.i64 e)), (AV.v (Value.int IntKind.i64 f)), (AV.v (Value.int IntKind.i64 g)), (AV.v (Value.int IntKind.i64 ph)), (AV.lst (1 : Nat) (List.map gi ((S).7 (AV.lst (1 : Nat) (List.map gi M) Tip.no))) Tip.no)]), (AV.v (Value.int IntKind.i64 (0 : Int)))]))))) else (some ((cdb True (oneI [(AV.lst (1 : Nat) (List.map gi M) Tip.no)])) ∧ (Φ (AV.tuple [(AV.agg [(AV.v (Value.int IntKind.i64 a)), (AV.v (Value.int IntKind.i64 b)), (AV.v (Value.int IntKind.i64 c)), (AV.v (Value.int IntKind.i64 d)), (AV.v (Value.int IntKind.i64 e)), (AV.v (Value.int IntKind.i64 f)), (AV.v (Value.int IntKind.i64 g)), (AV.v (Value.int IntKind.i64 ph)), (AV.lst (1 : Nat) (List.map gi ((S).7 (AV.lst (1 : Nat) (List.map gi M) Tip.no))) Tip.no)]), (AV.v (Value.int IntKind.i64 (0 : Int)))]))))) := by kernel_rfl
theorem ends_t (a b c d e f g ph : Int) (M : List Int) (x : Int) (Φ : AV → Prop) : callK nro (fun _ => false) (fun _ => none) 8 13 [jbA a b c d e f g ph M, gi x] (hp [] []) (fun r h => some (h.cd ∧ Φ r)) =
    (bif (decide (d ≤ x)) then (some (True ∧ (Φ (AV.v (Value.int IntKind.i64 (6 : Int)))))) else (some (True ∧ (Φ (AV.v (Value.int IntKind.i64 (0 : Int))))))) := by kernel_rfl
theorem rends_t (a b c d e f g ph : Int) (M : List Int) (x : Int) (Φ : AV → Prop) : callK nro (fun _ => false) (fun _ => none) 8 14 [jbA a b c d e f g ph M, gi x] (hp [] []) (fun r h => some (h.cd ∧ Φ r)) =
    (bif (decide (d ≤ x)) then (some (True ∧ (Φ (AV.v (Value.int IntKind.i64 (6 : Int)))))) else (some (True ∧ (Φ (AV.v (Value.int IntKind.i64 (0 : Int))))))) := by kernel_rfl
theorem new_t (a b c d e f g : Int) (Φ : AV → Prop) : callK nro (fun _ => false) (fun _ => none) 8 16 [.agg [gi a, gi b, gi c, gi d, gi e, gi f, gi g]] (hp [] []) (fun r h => some (h.cd ∧ Φ r)) =
    (some (True ∧ (Φ (AV.v (Value.agg #[(Value.int IntKind.i64 a), (Value.int IntKind.i64 b), (Value.int IntKind.i64 c), (Value.int IntKind.i64 d), (Value.int IntKind.i64 e), (Value.int IntKind.i64 f), (Value.int IntKind.i64 g), (Value.int IntKind.i64 (1 : Int)), (Value.slice none (0 : Nat) (0 : Nat))]))))) := by kernel_rfl
theorem brk_t (a b c d e f g ph : Int) (M : List Int) (Φ : AV → Prop) : callK nro (fun _ => false) (fun _ => none) 8 11 [jbA a b c d e f g ph M] (hp [] []) (fun r h => some (h.cd ∧ Φ r)) =
    (bif (ph != (1 : Int)) then (some (True ∧ (Φ (AV.v (Value.tuple #[(Value.int IntKind.i64 (0 : Int)), (Value.int IntKind.i64 (12 : Int))]))))) else (some (True ∧ (Φ (AV.v (Value.tuple #[(Value.int IntKind.i64 (10 : Int)), (Value.int IntKind.i64 (0 : Int))])))))) := by kernel_rfl
end Go.Proofs.Ytcajdmplggpfdaa.AE
namespace Go.Proofs.Ytcajdmplggpfdaa.AE
open Go.RowKit
theorem jobA_jb (a b c d e f g ph : Int) (M : List Int) (hM : M.length ≤ 1000) : jobA? (jbA a b c d e f g ph M) = some ([a, b, c, d, e, f, g, ph], M) := jobA_agg a b c d e f g ph _ M (intsA_lst M .no) hM
set_option maxHeartbeats 4000000 in
theorem fs_heard (a b c d e f g ph : Int) (M : List Int) (hM : M.length ≤ 1000) (x y : Int) : Fs Try.prog nro 9 [jbA a b c d e f g ph M, gi x, gi y] (hp [] []) fun r _ => ∃ z, clean r = some z ∧ Le z (hrV [a, b, c, d, e, f, g, ph] M x y) := by
  have t := fun Φ => hd_t jsX ksX a b c d e f g ph M x y Φ
  have hX : jsX.HX (.lst 1 (M.map gi) .no) (.v (.int .i64 x)) = decide (x ∈ M) := rhX_mem M .no x
  have hC : jsX.CL (.lst 1 (M.map gi) .no) = M := intsY_lst M .no
  rw [hX, hC] at t
  have hok : rhOk [.lst 1 (M.map gi) .no, .v (.int .i64 x)] = true := rhOk_of M .no x (by omega)
  have hone : oneI [.lst 1 (M.map gi) .no] = true := oneI_of M .no (by omega)
  have hj := jobA_jb a b c d e f g ph M hM
  have hok2 : hrOk [jbA a b c d e f g ph M, gi x, gi y] = true := by
    show jb1 (jbA a b c d e f g ph M) = true
    unfold jb1; rw [hj]
  have hno : ¬ hrP [a, b, c, d, e, f, g, ph] M x → ∃ z, clean (.tuple [.agg (jobC a b c d e f g ph (lsA M)), gi 0]) = some z ∧ Le z (hrV [a, b, c, d, e, f, g, ph] M x y) := fun h => by
    refine ⟨_, rfl, ?_⟩
    have e : hrV [a, b, c, d, e, f, g, ph] M x y = ansJ (fun k => ([a, b, c, d, e, f, g, ph] : List Int).getD k 0) M [0] := by
      unfold hrV hrI hrM hrC
      rw [if_neg h, if_neg h, if_neg h]
    rw [e]; exact Le.refl _
  refine Fs.of_call knownK (t fun r => ∃ z, clean r = some z ∧ Le z (hrV [a, b, c, d, e, f, g, ph] M x y)) (holds_bif (fun h1 => holds_bif (fun h2 => ⟨cdb_iff.2 ⟨cdb_iff.2 ⟨trivial, hok⟩, hok2⟩, ?_⟩) fun h2 => ⟨cdb_iff.2 ⟨cdb_iff.2 ⟨trivial, hok⟩, hone⟩, hno fun h => ?_⟩) fun h1 => ⟨cdb_iff.2 ⟨trivial, hone⟩, hno fun h => ?_⟩)
  · have hP : hrP [a, b, c, d, e, f, g, ph] M x := ⟨by simpa using h1, of_decide_eq_true h2⟩
    have hyes : hrV [a, b, c, d, e, f, g, ph] M x y = waV [a, b, c, d, e, f, g, ph] M x y := by
      unfold hrV hrI hrM hrC waV
      rw [if_pos hP, if_pos hP, if_pos hP]
    rw [hyes]
    refine ⟨waS ksX [jbA a b c d e f g ph M, gi x, gi y], rfl, ?_⟩
    have e : waS ksX [jbA a b c d e f g ph M, gi x, gi y] = waV [a, b, c, d, e, f, g, ph] M x y := by
      show ansJ (fun k => (waI (isY (jbA a b c d e f g ph M)) (neY (jbA a b c d e f g ph M)) x y).getD k 0) (waM (neY (jbA a b c d e f g ph M)) x y) [waC (neY (jbA a b c d e f g ph M)) x y] = _
      rw [isY_of hj, neY_of hj]; rfl
    rw [e]; exact Le.refl _
  · exact of_decide_eq_false h2 h.2
  · have : ph = 2 := h.1
    rw [this] at h1
    cases h1
theorem heard_ok : ∀ args H r H', tot? (hrS ksX) hrOk args H = some (r, H') → HSound1 Try.prog nro 9 args H r H' :=
  hr_args (V := hrV) (has_fn (by kernel_rfl)) (fun z is l x y hz => by
    show ansJ (fun k => (hrI (isY z) (neY z) x y).getD k 0) (hrM (isY z) (neY z) x y) [hrC (isY z) (neY z) x y] = _
    rw [isY_of hz, neY_of hz]; rfl) fun a b c d e f g ph M hM x y => fs_heard a b c d e f g ph M hM x y
/-! Ends, New. -/
def enOk (args : List AV) : Bool := match args with
  | [x, .v (.int .i64 _)] => jb1 x
  | _ => false
def enS (E : List AV → Int) (args : List AV) : AV := gi (E args)
def enX (args : List AV) : Int := if (isY (args.headD .dead)).getD 3 0 ≤ numY (args.tail.headD .dead) then 6 else 0
def nwS (args : List AV) : AV := .agg (cellsJ (args.headD .dead) ++ [gi 1, .lst 1 [] .no])
def nwOk (args : List AV) : Bool := match args with
  | [x] => (match ints? (cellsJ x) with
    | some l => decide (l.length = 7)
    | none => false)
  | _ => false
theorem sevenJ {is : List Int} (h : is.length = 7) : ∃ a b c d e f g, is = [a, b, c, d, e, f, g] := by
  match is, h with
  | [a, b, c, d, e, f, g], _ => exact ⟨a, b, c, d, e, f, g, rfl⟩
theorem en_args {F : FuncId} (hf : ∃ fn, Try.prog.funcs[F]? = some fn ∧ fn.body.isSome = true)
    (h : ∀ (a b c d e f g ph : Int) (M : List Int) x, Fs Try.prog nro F [jbA a b c d e f g ph M, gi x] (hp [] []) fun r _ => r = gi (if d ≤ x then 6 else 0)) : ∀ args H r H', tot? (enS enX) enOk args H = some (r, H') → HSound1 Try.prog nro F args H r H' := by
  refine tot_ok hf fun args hok => ?_
  unfold enOk at hok
  split at hok
  · rename_i z x
    obtain ⟨is, l, hz⟩ := jb1_some hok
    obtain ⟨⟨z', h1, h2⟩, h3, h4⟩ := jobA_clean hz
    obtain ⟨a, b, c, d, e, f, g, ph, rfl⟩ := eight h3
    refine ⟨[z', gi x], ?_, ?_⟩
    · simp only [cleans, clean, h1]; rfl
    · have ee : enS enX [z, .v (.int .i64 x)] = gi (if d ≤ x then 6 else 0) := by
        show gi (if (isY z).getD 3 0 ≤ x then 6 else 0) = _
        rw [isY_of hz]; rfl
      rw [ee]
      refine Fs.weak ((h a b c d e f g ph l x).mono fun r _ k => ?_) (Les.cons h2 (Les.refl _))
      subst k
      exact ⟨_, rfl, Le.refl _⟩
  · cases hok
theorem ends_ok : ∀ args H r H', tot? (enS enX) enOk args H = some (r, H') → HSound1 Try.prog nro 13 args H r H' :=
  en_args (has_fn (by kernel_rfl)) fun a b c d e f g ph M x => Fs.of_call (known_none nro) (ends_t a b c d e f g ph M x fun r => r = gi (if d ≤ x then 6 else 0)) (holds_bif (fun h => ⟨trivial, by rw [if_pos (of_decide_eq_true h)]; rfl⟩) fun h => ⟨trivial, by rw [if_neg (of_decide_eq_false h)]; rfl⟩)
theorem rends_ok : ∀ args H r H', tot? (enS enX) enOk args H = some (r, H') → HSound1 Try.prog nro 14 args H r H' :=
  en_args (has_fn (by kernel_rfl)) fun a b c d e f g ph M x => Fs.of_call (known_none nro) (rends_t a b c d e f g ph M x fun r => r = gi (if d ≤ x then 6 else 0)) (holds_bif (fun h => ⟨trivial, by rw [if_pos (of_decide_eq_true h)]; rfl⟩) fun h => ⟨trivial, by rw [if_neg (of_decide_eq_false h)]; rfl⟩)
def newA (a b c d e f g : Int) : AV := .v (.agg #[.int .i64 a, .int .i64 b, .int .i64 c, .int .i64 d, .int .i64 e, .int .i64 f, .int .i64 g, .int .i64 1, .slice none 0 0])
theorem newA_le (a b c d e f g : Int) : Le (newA a b c d e f g) (.agg ([gi a, gi b, gi c, gi d, gi e, gi f, gi g] ++ [gi 1, .lst 1 [] .no])) :=
  Le.vag (Les.app [gi a, gi b, gi c, gi d, gi e, gi f, gi g, gi 1] (a := [nilS]) (b := [.lst 1 (([] : List Int).map gi) .no]) (Les.cons Le.nil Les.nil))
theorem fs_new (a b c d e f g : Int) : Fs Try.prog nro 16 [.agg [gi a, gi b, gi c, gi d, gi e, gi f, gi g]] (hp [] []) fun r _ => r = newA a b c d e f g :=
  Fs.of_call (known_none nro) (new_t a b c d e f g fun r => r = newA a b c d e f g) ⟨trivial, rfl⟩
theorem newJ_ok : ∀ args H r H', tot? nwS nwOk args H = some (r, H') → HSound1 Try.prog nro 16 args H r H' := by
  refine tot_ok (has_fn (by kernel_rfl)) fun args hok => ?_
  unfold nwOk at hok
  split at hok
  · rename_i x
    split at hok
    · rename_i l hl
      obtain ⟨a, b, c, d, e, f, g, rfl⟩ := sevenJ (of_decide_eq_true hok)
      have hc : cellsJ x = [gi a, gi b, gi c, gi d, gi e, gi f, gi g] := ints_eq hl
      have hcl : ∃ y, clean x = some y ∧ Le y (.agg [gi a, gi b, gi c, gi d, gi e, gi f, gi g]) := by
        unfold cellsJ at hc
        split at hc
        · exact ⟨_, by rw [hc]; rfl, Le.refl _⟩
        · refine ⟨_, rfl, Le.vag ?_⟩
          rw [hc]; exact Les.refl _
        · cases hc
      obtain ⟨y, k1, k2⟩ := hcl
      refine ⟨[y], by simp only [cleans, k1], ?_⟩
      refine Fs.weak ((fs_new a b c d e f g).mono fun r _ h => ?_) (Les.cons k2 Les.nil)
      rw [h]
      refine ⟨_, rfl, ?_⟩
      have e2 : nwS [x] = .agg ([gi a, gi b, gi c, gi d, gi e, gi f, gi g] ++ [gi 1, .lst 1 [] .no]) := by
        show AV.agg (cellsJ x ++ _) = _
        rw [hc]
      rw [e2]
      exact newA_le a b c d e f g
    · cases hok
  · cases hok
noncomputable def prL (K : KS) (E : List AV → Int) (RL : AV → List Int) : FuncId → Option (List AV → AH → Ans) := fun g => match g with
  | 7 => some (tot? (dnS K) dnOk)
  | 8 => some (tot? (dnS K) dnOk)
  | 9 => some (tot? (hrS K) hrOk)
  | 10 => some (tot? (hrS K) hrOk)
  | 15 => some (tot? (smS K) smOk)
  | 12 => some (tot? (smS K) smOk)
  | 6 => some (tot? (lstV RL) oneS)
  | 13 => some (tot? (enS E) enOk)
  | 14 => some (tot? (enS E) enOk)
  | 16 => some (tot? nwS nwOk)
  | _ => none
def rlX (x : AV) : List Int := riseL (intsY x)
theorem knownL : Known nro (prL ksX enX rlX) := by
  intro g p h
  unfold prL at h
  split at h
  · cases h; exact done_ok
  · cases h; exact rdone_ok
  · cases h; exact heard_ok
  · cases h; exact rheard_ok
  · cases h; exact sm_args (has_fn (by kernel_rfl)) fun a b c d e f g ph M a' b' c' d' e' f' g' ph' M' h1 h2 => fs_jsame a b c d e f g ph M a' b' c' d' e' f' g' ph' M' h1 h2
  · cases h; exact sm_args (has_fn (by kernel_rfl)) fun a b c d e f g ph M a' b' c' d' e' f' g' ph' M' h1 _ => fs_rsame a b c d e f g ph M a' b' c' d' e' f' g' ph' M' h1
  · cases h; exact rising_ok nro fun _ _ h => h
  · cases h; exact ends_ok
  · cases h; exact rends_ok
  · cases h; exact newJ_ok
  · cases h
theorem aw_t (Φ : AV → Prop) : callK nro (fun _ => false) (prL ksX enX rlX) 8 5 [] (hp [] []) (fun r h => some (h.cd ∧ Φ r)) =
    (some (True ∧ (Φ (AV.v (Value.bool true))))) := by kernel_rfl
end Go.Proofs.Ytcajdmplggpfdaa.AE
