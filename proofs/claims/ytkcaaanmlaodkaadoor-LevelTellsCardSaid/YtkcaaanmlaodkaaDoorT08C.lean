/-
  Layer 8: the document's level of a business and a class, in parts.
-/
import Derived.Test.YtkcaaanmlaodkaaDoorT08B
namespace Go.Proofs.YtkcaaanmlaodkaaDoor.AE
open Go.RowKit
def sB (B C l : Int) : Int := if 0 ≤ l ∧ l < B * C then ((l.toNat / C.toNat : Nat) : Int) else 0
def sC (B C l : Int) : Int := if 0 ≤ l ∧ l < B * C then ((l.toNat % C.toNat : Nat) : Int) else 0
def sE (B C l : Int) : Int := if 0 ≤ l ∧ l < B * C then 0 else 1
theorem spV_eq (B C : Nat) (l : Int) : spV B C l = .tuple #[.int .i64 (sB B C l), .int .i64 (sC B C l), .int .i64 (sE B C l)] := by
  unfold spV sB sC sE
  have e : ((B : Int) * (C : Int)) = ((B * C : Nat) : Int) := (Int.natCast_mul B C).symm
  rw [e]
  by_cases h : 0 ≤ l ∧ l < ((B * C : Nat) : Int)
  · rw [if_pos h, if_pos h, if_pos h, if_pos h]; rfl
  · rw [if_neg h, if_neg h, if_neg h, if_neg h]
def spP : List Value → Option (Value × Bool) := fun us => match us with
  | [.int .i64 B, .int .i64 C, .int .i64 l] => some (.tuple #[.int .i64 (sB B C l), .int .i64 (sC B C l), .int .i64 (sE B C l)], decide (0 ≤ B ∧ B ≤ 8 ∧ 0 ≤ C ∧ C ≤ 16))
  | _ => none
theorem sp_ok (ro : Nat → Option (List Value)) : ∀ args H r H', pure? spP args H = some (r, H') → HSound1 Tryd.prog ro 13 args H r H' := by
  refine pure_ok (fun us c hs => Fs.ro ?_ ro) (has_fn (by kernel_rfl))
  unfold spP at hs
  split at hs
  · rename_i B C l
    simp only [Option.some.injEq, Prod.mk.injEq, decide_eq_true_eq] at hs
    obtain ⟨rfl, h1, h2, h3, h4⟩ := hs
    obtain ⟨B, rfl⟩ := Int.eq_ofNat_of_zero_le h1
    obtain ⟨C, rfl⟩ := Int.eq_ofNat_of_zero_le h3
    rw [← spV_eq]
    exact fs_split B C l (by omega) (by omega)
  · cases hs
noncomputable def prO : FuncId → Option (List AV → AH → Ans) := fun g => match g with
  | 13 => some (pure? spP)
  | _ => none
theorem knownO (ro : Nat → Option (List Value)) : Known ro prO := by
  intro g p h
  unfold prO at h
  split at h
  · cases h; exact sp_ok _
  · cases h
def oA (B C x y k : Int) : List AV := [.v (.int .i64 B), .v (.int .i64 C), .v (.int .i64 x), .v (.int .i64 y)] ++ List.replicate 6 .dead ++ [.v (.int .i64 k)] ++ List.replicate 27 .dead
theorem o_pre (B C x y : Int) (R : Exit → List AV → AH → Prop) : codeL nro (fun _ => false) prO 5 ((flatten (bodyOf 12)).take 2) ([.v (.int .i64 B), .v (.int .i64 C), .v (.int .i64 x), .v (.int .i64 y)] ++ List.replicate 34 (.v undef)) (hp [] []) (kp [0, 1, 2, 3, 10] R) =
    (some (True ∧ (R Exit.normal [(AV.v (Value.int IntKind.i64 B)), (AV.v (Value.int IntKind.i64 C)), (AV.v (Value.int IntKind.i64 x)), (AV.v (Value.int IntKind.i64 y)), AV.dead, AV.dead, AV.dead, AV.dead, AV.dead, AV.dead, (AV.v (Value.int IntKind.i64 (0 : Int))), AV.dead, AV.dead, AV.dead, AV.dead, AV.dead, AV.dead, AV.dead, AV.dead, AV.dead, AV.dead, AV.dead, AV.dead, AV.dead, AV.dead, AV.dead, AV.dead, AV.dead, AV.dead, AV.dead, AV.dead, AV.dead, AV.dead, AV.dead, AV.dead, AV.dead, AV.dead, AV.dead] (AH.mk (@List.nil (Prod Go.TypeId (List AV))) (@List.nil Nat) (0 : Nat) (0 : Nat) true (@List.nil (Prod Nat Bool)) True)))) := by kernel_rfl
theorem o_in (B C x y k : Int) (R : Exit → List AV → AH → Prop) : code nro (fun _ => false) prO 5 (sub (bodyOf 12) [1, 0, 1, 0, 0]) (oA B C x y k) (hp [] []) (kp [0, 1, 2, 3, 8, 9, 10] R) =
    (bif (decide (k < (IntKind.wrap IntKind.i64 (B * C)))) then (bif ((sB B C k) == x) then (bif ((sC B C k) == y) then (some ((cdb True (decide (((0 : Int) ≤ B) ∧ ((B ≤ (8 : Int)) ∧ (((0 : Int) ≤ C) ∧ (C ≤ (16 : Int))))))) ∧ (R Exit.ret [(AV.v (Value.int IntKind.i64 B)), (AV.v (Value.int IntKind.i64 C)), (AV.v (Value.int IntKind.i64 x)), (AV.v (Value.int IntKind.i64 y)), AV.dead, AV.dead, AV.dead, AV.dead, (AV.v (Value.int IntKind.i64 k)), (AV.v (Value.int IntKind.i64 (0 : Int))), (AV.v (Value.int IntKind.i64 k)), AV.dead, AV.dead, AV.dead, AV.dead, AV.dead, AV.dead, AV.dead, AV.dead, AV.dead, AV.dead, AV.dead, AV.dead, AV.dead, AV.dead, AV.dead, AV.dead, AV.dead, AV.dead, AV.dead, AV.dead, AV.dead, AV.dead, AV.dead, AV.dead, AV.dead, AV.dead, AV.dead] (AH.mk (@List.nil (Prod Go.TypeId (List AV))) (@List.nil Nat) (0 : Nat) (0 : Nat) true (@List.nil (Prod Nat Bool)) True)))) else (some ((cdb True (decide (((0 : Int) ≤ B) ∧ ((B ≤ (8 : Int)) ∧ (((0 : Int) ≤ C) ∧ (C ≤ (16 : Int))))))) ∧ (R Exit.normal [(AV.v (Value.int IntKind.i64 B)), (AV.v (Value.int IntKind.i64 C)), (AV.v (Value.int IntKind.i64 x)), (AV.v (Value.int IntKind.i64 y)), AV.dead, AV.dead, AV.dead, AV.dead, AV.dead, AV.dead, (AV.v (Value.int IntKind.i64 (IntKind.wrap IntKind.i64 (k + (1 : Int))))), AV.dead, AV.dead, AV.dead, AV.dead, AV.dead, AV.dead, AV.dead, AV.dead, AV.dead, AV.dead, AV.dead, AV.dead, AV.dead, AV.dead, AV.dead, AV.dead, AV.dead, AV.dead, AV.dead, AV.dead, AV.dead, AV.dead, AV.dead, AV.dead, AV.dead, AV.dead, AV.dead] (AH.mk (@List.nil (Prod Go.TypeId (List AV))) (@List.nil Nat) (0 : Nat) (0 : Nat) true (@List.nil (Prod Nat Bool)) True))))) else (some ((cdb True (decide (((0 : Int) ≤ B) ∧ ((B ≤ (8 : Int)) ∧ (((0 : Int) ≤ C) ∧ (C ≤ (16 : Int))))))) ∧ (R Exit.normal [(AV.v (Value.int IntKind.i64 B)), (AV.v (Value.int IntKind.i64 C)), (AV.v (Value.int IntKind.i64 x)), (AV.v (Value.int IntKind.i64 y)), AV.dead, AV.dead, AV.dead, AV.dead, AV.dead, AV.dead, (AV.v (Value.int IntKind.i64 (IntKind.wrap IntKind.i64 (k + (1 : Int))))), AV.dead, AV.dead, AV.dead, AV.dead, AV.dead, AV.dead, AV.dead, AV.dead, AV.dead, AV.dead, AV.dead, AV.dead, AV.dead, AV.dead, AV.dead, AV.dead, AV.dead, AV.dead, AV.dead, AV.dead, AV.dead, AV.dead, AV.dead, AV.dead, AV.dead, AV.dead, AV.dead] (AH.mk (@List.nil (Prod Go.TypeId (List AV))) (@List.nil Nat) (0 : Nat) (0 : Nat) true (@List.nil (Prod Nat Bool)) True))))) else (some (True ∧ (R (Exit.exit (0 : Nat)) [(AV.v (Value.int IntKind.i64 B)), (AV.v (Value.int IntKind.i64 C)), (AV.v (Value.int IntKind.i64 x)), (AV.v (Value.int IntKind.i64 y)), AV.dead, AV.dead, AV.dead, AV.dead, AV.dead, AV.dead, (AV.v (Value.int IntKind.i64 k)), AV.dead, AV.dead, AV.dead, AV.dead, AV.dead, AV.dead, AV.dead, AV.dead, AV.dead, AV.dead, AV.dead, AV.dead, AV.dead, AV.dead, AV.dead, AV.dead, AV.dead, AV.dead, AV.dead, AV.dead, AV.dead, AV.dead, AV.dead, AV.dead, AV.dead, AV.dead, AV.dead] (AH.mk (@List.nil (Prod Go.TypeId (List AV))) (@List.nil Nat) (0 : Nat) (0 : Nat) true (@List.nil (Prod Nat Bool)) True))))) := by kernel_rfl
theorem o_post (B C x y k : Int) (R : Exit → List AV → AH → Prop) : codeL nro (fun _ => false) prO 5 ((flatten (bodyOf 12)).drop 3) (oA B C x y k) (hp [] []) (kp [8, 9] R) =
    (some (True ∧ (R Exit.ret [AV.dead, AV.dead, AV.dead, AV.dead, AV.dead, AV.dead, AV.dead, AV.dead, (AV.v (Value.int IntKind.i64 (0 : Int))), (AV.v (Value.int IntKind.i64 (1 : Int))), AV.dead, AV.dead, AV.dead, AV.dead, AV.dead, AV.dead, AV.dead, AV.dead, AV.dead, AV.dead, AV.dead, AV.dead, AV.dead, AV.dead, AV.dead, AV.dead, AV.dead, AV.dead, AV.dead, AV.dead, AV.dead, AV.dead, AV.dead, AV.dead, AV.dead, AV.dead, AV.dead, AV.dead] (AH.mk (@List.nil (Prod Go.TypeId (List AV))) (@List.nil Nat) (0 : Nat) (0 : Nat) true (@List.nil (Prod Nat Bool)) True)))) := by kernel_rfl
end Go.Proofs.YtkcaaanmlaodkaaDoor.AE
